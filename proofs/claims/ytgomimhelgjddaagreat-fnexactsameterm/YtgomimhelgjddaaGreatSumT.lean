/- What the program's sums answers at a tree within a case. -/
import Derived.Test.YtgomimhelgjddaaGreatParS
namespace Go.Proofs.YtgomimhelgjddaaGreat
open Go.ChangeShapes Go.WideShapes Go.ChangeAt Go.RowKit

/-- What is said of a call of sums at a tree. -/
def SumsAt (vn : Value) (names : List ByteArray) (val : Nat → Int) (x : It) : Prop :=
  ∀ w, StrsAt w vn names → Calls Tryz.prog 113 #[caseV vn val, x.val] w fun e w' => e = .returned (x.sums names val).val ∧ Below w.heap.size w w'
/-- Seven cells. -/
def C7 (w : World) (B : Nat) (u0 u1 u2 u3 u4 u5 u6 : Value) : Prop :=
  w.cell? ⟨B, 0, none⟩ = some u0 ∧ w.cell? ⟨B, 1, none⟩ = some u1 ∧ w.cell? ⟨B, 2, none⟩ = some u2 ∧ w.cell? ⟨B, 3, none⟩ = some u3 ∧ w.cell? ⟨B, 4, none⟩ = some u4 ∧ w.cell? ⟨B, 5, none⟩ = some u5 ∧ w.cell? ⟨B, 6, none⟩ = some u6
theorem C7.keep {w w' : World} (hb : Below w.heap.size w w') {B : Nat} {u0 u1 u2 u3 u4 u5 u6 : Value} (h : C7 w B u0 u1 u2 u3 u4 u5 u6) : C7 w' B u0 u1 u2 u3 u4 u5 u6 :=
  ⟨keep_cell hb h.1, keep_cell hb h.2.1, keep_cell hb h.2.2.1, keep_cell hb h.2.2.2.1, keep_cell hb h.2.2.2.2.1, keep_cell hb h.2.2.2.2.2.1, keep_cell hb h.2.2.2.2.2.2⟩
theorem case_c7 (w : World) (vn : Value) (val : Nat → Int) : C7 (w.alloc (caseO vn val)) w.heap.size vn (.int .i64 (val 0)) (.int .i64 (val 1)) (.int .i64 (val 2)) (.int .i64 (val 3)) (.int .i64 (val 4)) (.int .i64 (val 5)) :=
  have h := case_cells w vn val
  ⟨h.1, h.2 0 (by omega), h.2 1 (by omega), h.2 2 (by omega), h.2 3 (by omega), h.2 4 (by omega), h.2 5 (by omega)⟩
theorem row7_c7 {w : World} {B : Nat} {c : Nat → Int} (h : Row7 w B c) : C7 w B (.int .i64 (c 0)) (.int .i64 (c 1)) (.int .i64 (c 2)) (.int .i64 (c 3)) (.int .i64 (c 4)) (.int .i64 (c 5)) (.int .i64 (c 6)) := list7 _ h.cell
theorem row7_zero (w : World) : Row7 (w.alloc (.cells #[.int .i64 0, .int .i64 0, .int .i64 0, .int .i64 0, .int .i64 0, .int .i64 0, .int .i64 0] 146)) w.heap.size (fun _ => 0) :=
  (row7_new w ⟨0, fun _ => 0⟩ 146).congr (fun j _ => by unfold Sums.at; split <;> rfl)
theorem val_at (S : Sums) (c : Nat → Int) : Ending.returned (.agg #[.int .i64 (upd (upd (upd (upd (upd (upd (upd c 0 S.least) 1 (S.tops 0)) 2 (S.tops 1)) 3 (S.tops 2)) 4 (S.tops 3)) 5 (S.tops 4)) 6 (S.tops 5) 0), .int .i64 (upd (upd (upd (upd (upd (upd (upd c 0 S.least) 1 (S.tops 0)) 2 (S.tops 1)) 3 (S.tops 2)) 4 (S.tops 3)) 5 (S.tops 4)) 6 (S.tops 5) 1), .int .i64 (upd (upd (upd (upd (upd (upd (upd c 0 S.least) 1 (S.tops 0)) 2 (S.tops 1)) 3 (S.tops 2)) 4 (S.tops 3)) 5 (S.tops 4)) 6 (S.tops 5) 2), .int .i64 (upd (upd (upd (upd (upd (upd (upd c 0 S.least) 1 (S.tops 0)) 2 (S.tops 1)) 3 (S.tops 2)) 4 (S.tops 3)) 5 (S.tops 4)) 6 (S.tops 5) 3), .int .i64 (upd (upd (upd (upd (upd (upd (upd c 0 S.least) 1 (S.tops 0)) 2 (S.tops 1)) 3 (S.tops 2)) 4 (S.tops 3)) 5 (S.tops 4)) 6 (S.tops 5) 4), .int .i64 (upd (upd (upd (upd (upd (upd (upd c 0 S.least) 1 (S.tops 0)) 2 (S.tops 1)) 3 (S.tops 2)) 4 (S.tops 3)) 5 (S.tops 4)) 6 (S.tops 5) 5), .int .i64 (upd (upd (upd (upd (upd (upd (upd c 0 S.least) 1 (S.tops 0)) 2 (S.tops 1)) 3 (S.tops 2)) 4 (S.tops 3)) 5 (S.tops 4)) 6 (S.tops 5) 6)]) = .returned S.val := by
  simp [upd, Sums.val]

set_option maxRecDepth 10000 in
set_option maxHeartbeats 2000000 in
theorem sums_zero (vn : Value) (names : List ByteArray) (val : Nat → Int) : SumsAt vn names val .zero := by
  intro w hn
  obtain ⟨an, cn, rfl, _, _, _⟩ := hn
  have a1 := Tryz.as152_144
  have a2 := Tryz.as152_146
  have a3 := Tryz.as152_147
  have a4 := Tryz.as152_149
  have HR : Hid (Row7 ((w.alloc (caseO (.slice an names.length cn) val)).alloc (.cells #[.int .i64 0, .int .i64 0, .int .i64 0, .int .i64 0, .int .i64 0, .int .i64 0, .int .i64 0] 146)) (w.heap.size + 1) (fun _ => 0)) := by
    have := row7_zero (w.alloc (caseO (.slice an names.length cn) val))
    rw [World.size_alloc] at this
    exact this
  simp only [It.val, It.sums]
  unfold caseV
  have HNS := hide noSums_any
  generalize noS = S at *
  go_enter Tryz.func113, Tryz.ntmps113
  go_wp2_with fail
  refine (HNS.out _).mono ?_
  rintro e w1 ⟨rfl, hb1⟩
  have hbel1 := bel_trans (bel_alloc (bel_alloc (Below.refl w.heap.size w) _) _) hb1
  have HR1 := hide (HR.out.keep hb1)
  obtain ⟨r0, r1, r2, r3, r4, r5, r6⟩ := row7_c7 HR1.out
  have z := HR1.out.free
  clear hb1 HR
  rw [show S.val = .agg #[.int .i64 S.least, .int .i64 (S.tops 0), .int .i64 (S.tops 1), .int .i64 (S.tops 2), .int .i64 (S.tops 3), .int .i64 (S.tops 4), .int .i64 (S.tops 5)] from rfl]
  go_wp2_with fail
  refine bodyPost_ret (res_of Tryz.results113 _ _ _ _ rfl (row7_put HR1.out _ _ _ _ _ _ _)) rfl ⟨val_at S _, bel_put hbel1 (w.heap.size + 1) (by omega) _ _ _ _ _ _ _⟩

set_option maxRecDepth 10000 in
set_option maxHeartbeats 2000000 in
theorem sums_param (vn : Value) (names : List ByteArray) (val : Nat → Int) (h6 : names.length ≤ 6) (s : ByteArray) : SumsAt vn names val (.param s) := by
  intro w hn
  have HN := hide hn
  obtain ⟨an, cn, rfl, _, _, _⟩ := hn
  have a1 := Tryz.as149_144
  have a2 := Tryz.as149_146
  have a3 := Tryz.as149_147
  have a4 := Tryz.as149_149
  have HR : Hid (∀ o, Row7 (((w.alloc (caseO (.slice an names.length cn) val)).alloc (.cells #[.int .i64 0, .int .i64 0, .int .i64 0, .int .i64 0, .int .i64 0, .int .i64 0, .int .i64 0] 146)).alloc o) (w.heap.size + 1) (fun _ => 0)) := by
    intro o
    have := row7_zero (w.alloc (caseO (.slice an names.length cn) val))
    rw [World.size_alloc] at this
    exact this.alloc o
  have HPS : Hid (∀ w', StrsAt w' (.slice an names.length cn) names → Calls Tryz.prog 142 #[.agg #[.slice an names.length cn, .int .i64 (val 0), .int .i64 (val 1), .int .i64 (val 2), .int .i64 (val 3), .int .i64 (val 4), .int .i64 (val 5)], .string s] w' fun e w2 => e = .returned (parS names val s).val ∧ Below w'.heap.size w' w2) := fun w' h => paramSums_any _ names val s w' h h6
  simp only [It.val, It.sums]
  unfold caseV
  generalize parS names val s = S at *
  go_enter Tryz.func113, Tryz.ntmps113
  go_wp2_with fail
  refine (HPS.out _ (HN.out.keep (bel_alloc (bel_alloc (bel_alloc (Below.refl _ _) _) _) _))).mono ?_
  rintro e w1 ⟨rfl, hb1⟩
  have hbel1 := bel_trans (bel_alloc (bel_alloc (bel_alloc (Below.refl w.heap.size w) _) _) _) hb1
  have HR1 := hide ((HR.out _).keep hb1)
  obtain ⟨r0, r1, r2, r3, r4, r5, r6⟩ := row7_c7 HR1.out
  have z := HR1.out.free
  clear hb1 HR
  rw [show S.val = .agg #[.int .i64 S.least, .int .i64 (S.tops 0), .int .i64 (S.tops 1), .int .i64 (S.tops 2), .int .i64 (S.tops 3), .int .i64 (S.tops 4), .int .i64 (S.tops 5)] from rfl]
  go_wp2_with fail
  refine bodyPost_ret (res_of Tryz.results113 _ _ _ _ rfl (row7_put HR1.out _ _ _ _ _ _ _)) rfl ⟨val_at S _, bel_put hbel1 (w.heap.size + 1) (by omega) _ _ _ _ _ _ _⟩

set_option maxRecDepth 10000 in
set_option maxHeartbeats 4000000 in
theorem sums_succ (vn : Value) (names : List ByteArray) (val : Nat → Int) (n : Nat) (x : It) (hc : (It.succ n x).cnt ≤ 1000) (ih : SumsAt vn names val x) : SumsAt vn names val (.succ n x) := by
  intro w hn
  have HN := hide hn
  obtain ⟨an, cn, rfl, _, _, _⟩ := hn
  have a1 := Tryz.as144_144
  have hbd := sums_bd names val x
  simp only [It.cnt] at hc
  have HR : Hid (∀ o, Row7 (((w.alloc (caseO (.slice an names.length cn) val)).alloc (.cells #[.int .i64 0, .int .i64 0, .int .i64 0, .int .i64 0, .int .i64 0, .int .i64 0, .int .i64 0] 146)).alloc o) (w.heap.size + 1) (fun _ => 0)) := by
    intro o
    have := row7_zero (w.alloc (caseO (.slice an names.length cn) val))
    rw [World.size_alloc] at this
    exact this.alloc o
  obtain ⟨T, v, hv⟩ := x.val_iface
  unfold SumsAt caseV at ih
  rw [hv] at ih
  have IH := hide ih
  have HPL : Hid (∀ w', Calls Tryz.prog 139 #[(x.sums names val).val, .int .i64 n] w' fun e w2 => e = .returned ((x.sums names val).plus n).val ∧ Below w'.heap.size w' w2) := fun w' => plus_any _ n w' (by omega) hbd.1 (by have := hbd.2.1; omega) (fun i => by have := hbd.2.2 i; omega)
  simp only [It.val, It.sums]
  rw [hv]
  unfold caseV
  obtain ⟨P, hP⟩ : ∃ P, (x.sums names val).plus n = P := ⟨_, rfl⟩
  rw [hP] at HPL ⊢
  generalize x.sums names val = S at *
  clear hP hv ih hbd
  rw [show S.val = .agg #[.int .i64 S.least, .int .i64 (S.tops 0), .int .i64 (S.tops 1), .int .i64 (S.tops 2), .int .i64 (S.tops 3), .int .i64 (S.tops 4), .int .i64 (S.tops 5)] from rfl] at IH HPL
  have hPV : P.val = .agg #[.int .i64 P.least, .int .i64 (P.tops 0), .int .i64 (P.tops 1), .int .i64 (P.tops 2), .int .i64 (P.tops 3), .int .i64 (P.tops 4), .int .i64 (P.tops 5)] := rfl
  have HPV := hide hPV
  rw [hPV] at HPL
  clear hPV
  obtain ⟨W0, hW0⟩ : ∃ W0, W0 = ((w.alloc (.cells #[.slice an names.length cn, .int .i64 (val 0), .int .i64 (val 1), .int .i64 (val 2), .int .i64 (val 3), .int .i64 (val 4), .int .i64 (val 5)] 143)).alloc (.cells #[.int .i64 0, .int .i64 0, .int .i64 0, .int .i64 0, .int .i64 0, .int .i64 0, .int .i64 0] 146)).alloc (.cells #[.int .i64 n, .iface T v] 176) := ⟨_, rfl⟩
  have HROW : Hid (Row7 W0 (w.heap.size + 1) (fun _ => 0)) := by rw [hW0]; exact HR.out _
  have HBW : Hid (Below w.heap.size w W0) := by rw [hW0]; exact bel_alloc (bel_alloc (bel_alloc (Below.refl _ _) _) _) _
  have HCC : Hid (C7 W0 w.heap.size (.slice an names.length cn) (.int .i64 (val 0)) (.int .i64 (val 1)) (.int .i64 (val 2)) (.int .i64 (val 3)) (.int .i64 (val 4)) (.int .i64 (val 5))) := by rw [hW0]; exact (case_c7 w _ val).keep (bel_alloc (bel_alloc (Below.refl _ _) _) _)
  have t0 : W0.cell? ⟨w.heap.size + 1 + 1, 0, none⟩ = some (.int .i64 n) := by rw [hW0]; simp [go_sem]
  have t1 : W0.cell? ⟨w.heap.size + 1 + 1, 1, none⟩ = some (.iface T v) := by rw [hW0]; simp [go_sem]
  obtain ⟨k0, k1, k2, k3, k4, k5, k6⟩ := HCC.out
  obtain ⟨r0, r1, r2, r3, r4, r5, r6⟩ := row7_c7 HROW.out
  have z := HROW.out.free
  have hsz : w.heap.size + 1 + 1 < W0.heap.size := lt_cell t0
  have HW0 := hide hW0
  clear hW0 HR HCC
  go_enter Tryz.func113, Tryz.ntmps113
  go_wp2_with fail
  rw [← HW0.out]
  clear HW0
  have HALL : Hid (∀ w', Below W0.heap.size W0 w' → w'.cell? ⟨w.heap.size, 0, none⟩ = some (.slice an names.length cn) ∧ w'.cell? ⟨w.heap.size, 1, none⟩ = some (.int .i64 (val 0)) ∧ w'.cell? ⟨w.heap.size, 2, none⟩ = some (.int .i64 (val 1)) ∧ w'.cell? ⟨w.heap.size, 3, none⟩ = some (.int .i64 (val 2)) ∧ w'.cell? ⟨w.heap.size, 4, none⟩ = some (.int .i64 (val 3)) ∧ w'.cell? ⟨w.heap.size, 5, none⟩ = some (.int .i64 (val 4)) ∧ w'.cell? ⟨w.heap.size, 6, none⟩ = some (.int .i64 (val 5)) ∧ w'.cell? ⟨w.heap.size + 1, 0, none⟩ = some (.int .i64 0) ∧ w'.cell? ⟨w.heap.size + 1, 1, none⟩ = some (.int .i64 0) ∧ w'.cell? ⟨w.heap.size + 1, 2, none⟩ = some (.int .i64 0) ∧ w'.cell? ⟨w.heap.size + 1, 3, none⟩ = some (.int .i64 0) ∧ w'.cell? ⟨w.heap.size + 1, 4, none⟩ = some (.int .i64 0) ∧ w'.cell? ⟨w.heap.size + 1, 5, none⟩ = some (.int .i64 0) ∧ w'.cell? ⟨w.heap.size + 1, 6, none⟩ = some (.int .i64 0) ∧ w'.cell? ⟨w.heap.size + 1 + 1, 0, none⟩ = some (.int .i64 n) ∧ w'.cell? ⟨w.heap.size + 1 + 1, 1, none⟩ = some (.iface T v) ∧ ∀ j, w'.frozen? ⟨w.heap.size + 1, j, none⟩ = false) := fun w' hb => ⟨keep_cell hb k0, keep_cell hb k1, keep_cell hb k2, keep_cell hb k3, keep_cell hb k4, keep_cell hb k5, keep_cell hb k6, keep_cell hb r0, keep_cell hb r1, keep_cell hb r2, keep_cell hb r3, keep_cell hb r4, keep_cell hb r5, keep_cell hb r6, keep_cell hb t0, keep_cell hb t1, (HROW.out.keep hb).free⟩
  go_region_with (first
      | (go_at_call 113; refine (IH.out _ (by exact HN.out.keep HBW.out.drew)).mono ?_; rintro e w1 ⟨rfl, hb1⟩; obtain ⟨ak0, ak1, ak2, ak3, ak4, ak5, ak6, ar0, ar1, ar2, ar3, ar4, ar5, ar6, at0, at1, az⟩ := HALL.out _ ((Below.refl W0.heap.size W0).drew.trans hb1))
      | (go_at_call 139; refine (HPL.out _).mono ?_; rintro e w2 ⟨rfl, hb2⟩; obtain ⟨bk0, bk1, bk2, bk3, bk4, bk5, bk6, br0, br1, br2, br3, br4, br5, br6, bt0, bt1, bz⟩ := HALL.out _ ((Below.refl W0.heap.size W0).drew.trans (hb1.trans (hb2.mono hb1.size))))
      | fail)
  all_goals
    go_wp2_with fail
    refine bodyPost_ret (res_of Tryz.results113 _ _ _ _ rfl (row7_put (HROW.out.keep ((Below.refl W0.heap.size W0).drew.trans (hb1.trans (hb2.mono hb1.size)))) _ _ _ _ _ _ _)) rfl ⟨val_at P _, bel_put (bel_trans HBW.out ((Below.refl W0.heap.size W0).drew.trans (hb1.trans (hb2.mono hb1.size)))) (w.heap.size + 1) (by omega) _ _ _ _ _ _ _⟩
end Go.Proofs.YtgomimhelgjddaaGreat
