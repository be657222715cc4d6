/- What the program's sums answers at a greatest of two. -/
import Derived.Test.YtgomimhelgjddaaGreatSumT
namespace Go.Proofs.YtgomimhelgjddaaGreat
open Go.ChangeShapes Go.WideShapes Go.ChangeAt Go.RowKit

set_option maxRecDepth 10000 in
set_option maxHeartbeats 8000000 in
theorem sums_max (vn : Value) (names : List ByteArray) (val : Nat → Int) (a b : It) (iha : SumsAt vn names val a) (ihb : SumsAt vn names val b) : SumsAt vn names val (.max a b) := by
  intro w hn
  have HN := hide hn
  obtain ⟨an, cn, rfl, _, _, _⟩ := hn
  have q127 := Tryz.as146_144
  have q129 := Tryz.as146_146
  have HR : Hid (∀ o, Row7 (((w.alloc (caseO (.slice an names.length cn) val)).alloc (.cells #[.int .i64 0, .int .i64 0, .int .i64 0, .int .i64 0, .int .i64 0, .int .i64 0, .int .i64 0] 146)).alloc o) (w.heap.size + 1) (fun _ => 0)) := by
    intro o
    have := row7_zero (w.alloc (caseO (.slice an names.length cn) val))
    rw [World.size_alloc] at this
    exact this.alloc o
  obtain ⟨Ta, va, hva⟩ := a.val_iface
  obtain ⟨Tb, vb, hvb⟩ := b.val_iface
  unfold SumsAt caseV at iha ihb
  rw [hva] at iha
  rw [hvb] at ihb
  have IHA := hide iha
  have IHB := hide ihb
  have HJ : Hid (∀ w', Calls Tryz.prog 140 #[(a.sums names val).val, (b.sums names val).val] w' fun e w2 => e = .returned ((a.sums names val).join (b.sums names val)).val ∧ Below w'.heap.size w' w2) := fun w' => join_any _ _ w'
  simp only [It.val, It.sums]
  rw [hva, hvb]
  unfold caseV
  obtain ⟨P, hP⟩ : ∃ P, (a.sums names val).join (b.sums names val) = P := ⟨_, rfl⟩
  rw [hP] at HJ ⊢
  generalize a.sums names val = S at *
  generalize b.sums names val = R at *
  clear hP hva hvb iha ihb
  rw [show S.val = .agg #[.int .i64 S.least, .int .i64 (S.tops 0), .int .i64 (S.tops 1), .int .i64 (S.tops 2), .int .i64 (S.tops 3), .int .i64 (S.tops 4), .int .i64 (S.tops 5)] from rfl] at IHA HJ
  rw [show R.val = .agg #[.int .i64 R.least, .int .i64 (R.tops 0), .int .i64 (R.tops 1), .int .i64 (R.tops 2), .int .i64 (R.tops 3), .int .i64 (R.tops 4), .int .i64 (R.tops 5)] from rfl] at IHB HJ
  rw [show P.val = .agg #[.int .i64 P.least, .int .i64 (P.tops 0), .int .i64 (P.tops 1), .int .i64 (P.tops 2), .int .i64 (P.tops 3), .int .i64 (P.tops 4), .int .i64 (P.tops 5)] from rfl] at HJ
  obtain ⟨W0, hW0⟩ : ∃ W0, W0 = ((w.alloc (.cells #[.slice an names.length cn, .int .i64 (val 0), .int .i64 (val 1), .int .i64 (val 2), .int .i64 (val 3), .int .i64 (val 4), .int .i64 (val 5)] 143)).alloc (.cells #[.int .i64 0, .int .i64 0, .int .i64 0, .int .i64 0, .int .i64 0, .int .i64 0, .int .i64 0] 146)).alloc (.cells #[.iface Ta va, .iface Tb vb] 171) := ⟨_, rfl⟩
  have HROW : Hid (Row7 W0 (w.heap.size + 1) (fun _ => 0)) := by rw [hW0]; exact HR.out _
  have HBW : Hid (Below w.heap.size w W0) := by rw [hW0]; exact bel_alloc (bel_alloc (bel_alloc (Below.refl _ _) _) _) _
  have HCC : Hid (C7 W0 w.heap.size (.slice an names.length cn) (.int .i64 (val 0)) (.int .i64 (val 1)) (.int .i64 (val 2)) (.int .i64 (val 3)) (.int .i64 (val 4)) (.int .i64 (val 5))) := by rw [hW0]; exact (case_c7 w _ val).keep (bel_alloc (bel_alloc (Below.refl _ _) _) _)
  have t0 : W0.cell? ⟨w.heap.size + 1 + 1, 0, none⟩ = some (.iface Ta va) := by rw [hW0]; simp [go_sem]
  have t1 : W0.cell? ⟨w.heap.size + 1 + 1, 1, none⟩ = some (.iface Tb vb) := by rw [hW0]; simp [go_sem]
  obtain ⟨k0, k1, k2, k3, k4, k5, k6⟩ := HCC.out
  obtain ⟨r0, r1, r2, r3, r4, r5, r6⟩ := row7_c7 HROW.out
  have z := HROW.out.free
  have hsz : w.heap.size + 1 + 1 < W0.heap.size := lt_cell t0
  have HW0 := hide hW0
  clear hW0 HR HCC
  go_enter Tryz.func113, Tryz.ntmps113
  go_wp2_with fail
  rw [← HW0.out]
  clear HW0
  have HALL : Hid (∀ w', Below W0.heap.size W0 w' → w'.cell? ⟨w.heap.size, 0, none⟩ = some (.slice an names.length cn) ∧ w'.cell? ⟨w.heap.size, 1, none⟩ = some (.int .i64 (val 0)) ∧ w'.cell? ⟨w.heap.size, 2, none⟩ = some (.int .i64 (val 1)) ∧ w'.cell? ⟨w.heap.size, 3, none⟩ = some (.int .i64 (val 2)) ∧ w'.cell? ⟨w.heap.size, 4, none⟩ = some (.int .i64 (val 3)) ∧ w'.cell? ⟨w.heap.size, 5, none⟩ = some (.int .i64 (val 4)) ∧ w'.cell? ⟨w.heap.size, 6, none⟩ = some (.int .i64 (val 5)) ∧ w'.cell? ⟨w.heap.size + 1, 0, none⟩ = some (.int .i64 0) ∧ w'.cell? ⟨w.heap.size + 1, 1, none⟩ = some (.int .i64 0) ∧ w'.cell? ⟨w.heap.size + 1, 2, none⟩ = some (.int .i64 0) ∧ w'.cell? ⟨w.heap.size + 1, 3, none⟩ = some (.int .i64 0) ∧ w'.cell? ⟨w.heap.size + 1, 4, none⟩ = some (.int .i64 0) ∧ w'.cell? ⟨w.heap.size + 1, 5, none⟩ = some (.int .i64 0) ∧ w'.cell? ⟨w.heap.size + 1, 6, none⟩ = some (.int .i64 0) ∧ w'.cell? ⟨w.heap.size + 1 + 1, 0, none⟩ = some (.iface Ta va) ∧ w'.cell? ⟨w.heap.size + 1 + 1, 1, none⟩ = some (.iface Tb vb) ∧ ∀ j, w'.frozen? ⟨w.heap.size + 1, j, none⟩ = false) := fun w' hb => ⟨keep_cell hb k0, keep_cell hb k1, keep_cell hb k2, keep_cell hb k3, keep_cell hb k4, keep_cell hb k5, keep_cell hb k6, keep_cell hb r0, keep_cell hb r1, keep_cell hb r2, keep_cell hb r3, keep_cell hb r4, keep_cell hb r5, keep_cell hb r6, keep_cell hb t0, keep_cell hb t1, (HROW.out.keep hb).free⟩
  go_region_held3 (fun w' => w'.cell? ⟨w.heap.size, 0, none⟩ = some (.slice an names.length cn) ∧ w'.cell? ⟨w.heap.size, 1, none⟩ = some (.int .i64 (val 0)) ∧ w'.cell? ⟨w.heap.size, 2, none⟩ = some (.int .i64 (val 1)) ∧ w'.cell? ⟨w.heap.size, 3, none⟩ = some (.int .i64 (val 2)) ∧ w'.cell? ⟨w.heap.size, 4, none⟩ = some (.int .i64 (val 3)) ∧ w'.cell? ⟨w.heap.size, 5, none⟩ = some (.int .i64 (val 4)) ∧ w'.cell? ⟨w.heap.size, 6, none⟩ = some (.int .i64 (val 5)) ∧ w'.cell? ⟨w.heap.size + 1 + 1, 0, none⟩ = some (.iface Ta va) ∧ w'.cell? ⟨w.heap.size + 1 + 1, 1, none⟩ = some (.iface Tb vb))
    (first
      | go_keep
      | exact ⟨keep_cell (bel_trans ((Below.refl W0.heap.size W0).drew.trans (hb1.trans (hb2.mono hb1.size))) hb3) k0, keep_cell (bel_trans ((Below.refl W0.heap.size W0).drew.trans (hb1.trans (hb2.mono hb1.size))) hb3) k1, keep_cell (bel_trans ((Below.refl W0.heap.size W0).drew.trans (hb1.trans (hb2.mono hb1.size))) hb3) k2, keep_cell (bel_trans ((Below.refl W0.heap.size W0).drew.trans (hb1.trans (hb2.mono hb1.size))) hb3) k3, keep_cell (bel_trans ((Below.refl W0.heap.size W0).drew.trans (hb1.trans (hb2.mono hb1.size))) hb3) k4, keep_cell (bel_trans ((Below.refl W0.heap.size W0).drew.trans (hb1.trans (hb2.mono hb1.size))) hb3) k5, keep_cell (bel_trans ((Below.refl W0.heap.size W0).drew.trans (hb1.trans (hb2.mono hb1.size))) hb3) k6, keep_cell (bel_trans ((Below.refl W0.heap.size W0).drew.trans (hb1.trans (hb2.mono hb1.size))) hb3) t0, keep_cell (bel_trans ((Below.refl W0.heap.size W0).drew.trans (hb1.trans (hb2.mono hb1.size))) hb3) t1⟩
      | exact ⟨keep_cell ((Below.refl W0.heap.size W0).drew.trans (hb1.trans (hb2.mono hb1.size))) k0, keep_cell ((Below.refl W0.heap.size W0).drew.trans (hb1.trans (hb2.mono hb1.size))) k1, keep_cell ((Below.refl W0.heap.size W0).drew.trans (hb1.trans (hb2.mono hb1.size))) k2, keep_cell ((Below.refl W0.heap.size W0).drew.trans (hb1.trans (hb2.mono hb1.size))) k3, keep_cell ((Below.refl W0.heap.size W0).drew.trans (hb1.trans (hb2.mono hb1.size))) k4, keep_cell ((Below.refl W0.heap.size W0).drew.trans (hb1.trans (hb2.mono hb1.size))) k5, keep_cell ((Below.refl W0.heap.size W0).drew.trans (hb1.trans (hb2.mono hb1.size))) k6, keep_cell ((Below.refl W0.heap.size W0).drew.trans (hb1.trans (hb2.mono hb1.size))) t0, keep_cell ((Below.refl W0.heap.size W0).drew.trans (hb1.trans (hb2.mono hb1.size))) t1⟩
      | exact ⟨keep_cell ((Below.refl W0.heap.size W0).drew.trans hb1) k0, keep_cell ((Below.refl W0.heap.size W0).drew.trans hb1) k1, keep_cell ((Below.refl W0.heap.size W0).drew.trans hb1) k2, keep_cell ((Below.refl W0.heap.size W0).drew.trans hb1) k3, keep_cell ((Below.refl W0.heap.size W0).drew.trans hb1) k4, keep_cell ((Below.refl W0.heap.size W0).drew.trans hb1) k5, keep_cell ((Below.refl W0.heap.size W0).drew.trans hb1) k6, keep_cell ((Below.refl W0.heap.size W0).drew.trans hb1) t0, keep_cell ((Below.refl W0.heap.size W0).drew.trans hb1) t1⟩
      | fail)
    (first
      | (go_at_call_of 113 (Value.iface Ta va); refine (IHA.out _ (by exact HN.out.keep HBW.out.drew)).mono ?_; rintro e w1 ⟨rfl, hb1⟩)
      | (go_at_call_of 113 (Value.iface Tb vb); refine (IHB.out _ (by exact HN.out.keep (bel_trans HBW.out ((Below.refl W0.heap.size W0).drew.trans hb1)))).mono ?_; rintro e w2 ⟨rfl, hb2⟩)
      | (go_at_call 140; refine (HJ.out _).mono ?_; rintro e w3 ⟨rfl, hb3⟩; obtain ⟨ck0, ck1, ck2, ck3, ck4, ck5, ck6, cr0, cr1, cr2, cr3, cr4, cr5, cr6, ct0, ct1, cz⟩ := HALL.out _ (bel_trans ((Below.refl W0.heap.size W0).drew.trans (hb1.trans (hb2.mono hb1.size))) hb3))
      | fail)
  all_goals
    go_wp2_with fail
    refine bodyPost_ret (res_of Tryz.results113 _ _ _ _ rfl (row7_put (HROW.out.keep (bel_trans ((Below.refl W0.heap.size W0).drew.trans (hb1.trans (hb2.mono hb1.size))) hb3)) _ _ _ _ _ _ _)) rfl ⟨val_at P _, bel_put (bel_trans HBW.out (bel_trans ((Below.refl W0.heap.size W0).drew.trans (hb1.trans (hb2.mono hb1.size))) hb3)) (w.heap.size + 1) (by omega) _ _ _ _ _ _ _⟩
end Go.Proofs.YtgomimhelgjddaaGreat

/- What the program's sums answers at an imax. -/
namespace Go.Proofs.YtgomimhelgjddaaGreat
open Go.ChangeShapes Go.WideShapes Go.ChangeAt Go.RowKit

set_option maxRecDepth 10000 in
set_option maxHeartbeats 8000000 in
theorem sums_imax (vn : Value) (names : List ByteArray) (val : Nat → Int) (a b : It) (iha : SumsAt vn names val a) (ihb : SumsAt vn names val b) : SumsAt vn names val (.imax a b) := by
  intro w hn
  have HN := hide hn
  obtain ⟨an, cn, rfl, _, _, _⟩ := hn
  have q127 := Tryz.as147_144
  have q129 := Tryz.as147_146
  have q130 := Tryz.as147_147
  have HR : Hid (∀ o, Row7 (((w.alloc (caseO (.slice an names.length cn) val)).alloc (.cells #[.int .i64 0, .int .i64 0, .int .i64 0, .int .i64 0, .int .i64 0, .int .i64 0, .int .i64 0] 146)).alloc o) (w.heap.size + 1) (fun _ => 0)) := by
    intro o
    have := row7_zero (w.alloc (caseO (.slice an names.length cn) val))
    rw [World.size_alloc] at this
    exact this.alloc o
  obtain ⟨Ta, va, hva⟩ := a.val_iface
  obtain ⟨Tb, vb, hvb⟩ := b.val_iface
  unfold SumsAt caseV at iha ihb
  rw [hva] at iha
  rw [hvb] at ihb
  have IHA := hide iha
  have IHB := hide ihb
  have HJ : Hid (∀ w', Calls Tryz.prog 140 #[(a.sums names val).val, (b.sums names val).val] w' fun e w2 => e = .returned ((a.sums names val).join (b.sums names val)).val ∧ Below w'.heap.size w' w2) := fun w' => join_any _ _ w'
  have HNS := hide noSums_any
  simp only [It.val, It.sums]
  rw [hva, hvb]
  unfold caseV
  obtain ⟨P, hP⟩ : ∃ P, (a.sums names val).join (b.sums names val) = P := ⟨_, rfl⟩
  rw [hP] at HJ ⊢
  generalize a.sums names val = S at *
  generalize b.sums names val = R at *
  clear hP hva hvb iha ihb
  rw [show S.val = .agg #[.int .i64 S.least, .int .i64 (S.tops 0), .int .i64 (S.tops 1), .int .i64 (S.tops 2), .int .i64 (S.tops 3), .int .i64 (S.tops 4), .int .i64 (S.tops 5)] from rfl] at IHA HJ
  rw [show R.val = .agg #[.int .i64 R.least, .int .i64 (R.tops 0), .int .i64 (R.tops 1), .int .i64 (R.tops 2), .int .i64 (R.tops 3), .int .i64 (R.tops 4), .int .i64 (R.tops 5)] from rfl] at IHB HJ
  rw [show P.val = .agg #[.int .i64 P.least, .int .i64 (P.tops 0), .int .i64 (P.tops 1), .int .i64 (P.tops 2), .int .i64 (P.tops 3), .int .i64 (P.tops 4), .int .i64 (P.tops 5)] from rfl] at HJ
  obtain ⟨W0, hW0⟩ : ∃ W0, W0 = ((w.alloc (.cells #[.slice an names.length cn, .int .i64 (val 0), .int .i64 (val 1), .int .i64 (val 2), .int .i64 (val 3), .int .i64 (val 4), .int .i64 (val 5)] 143)).alloc (.cells #[.int .i64 0, .int .i64 0, .int .i64 0, .int .i64 0, .int .i64 0, .int .i64 0, .int .i64 0] 146)).alloc (.cells #[.iface Ta va, .iface Tb vb] 172) := ⟨_, rfl⟩
  have HROW : Hid (Row7 W0 (w.heap.size + 1) (fun _ => 0)) := by rw [hW0]; exact HR.out _
  have HBW : Hid (Below w.heap.size w W0) := by rw [hW0]; exact bel_alloc (bel_alloc (bel_alloc (Below.refl _ _) _) _) _
  have HCC : Hid (C7 W0 w.heap.size (.slice an names.length cn) (.int .i64 (val 0)) (.int .i64 (val 1)) (.int .i64 (val 2)) (.int .i64 (val 3)) (.int .i64 (val 4)) (.int .i64 (val 5))) := by rw [hW0]; exact (case_c7 w _ val).keep (bel_alloc (bel_alloc (Below.refl _ _) _) _)
  have t0 : W0.cell? ⟨w.heap.size + 1 + 1, 0, none⟩ = some (.iface Ta va) := by rw [hW0]; simp [go_sem]
  have t1 : W0.cell? ⟨w.heap.size + 1 + 1, 1, none⟩ = some (.iface Tb vb) := by rw [hW0]; simp [go_sem]
  obtain ⟨k0, k1, k2, k3, k4, k5, k6⟩ := HCC.out
  obtain ⟨r0, r1, r2, r3, r4, r5, r6⟩ := row7_c7 HROW.out
  have z := HROW.out.free
  have HW0 := hide hW0
  have HALL : Hid (∀ w', Below W0.heap.size W0 w' → w'.cell? ⟨w.heap.size, 0, none⟩ = some (.slice an names.length cn) ∧ w'.cell? ⟨w.heap.size, 1, none⟩ = some (.int .i64 (val 0)) ∧ w'.cell? ⟨w.heap.size, 2, none⟩ = some (.int .i64 (val 1)) ∧ w'.cell? ⟨w.heap.size, 3, none⟩ = some (.int .i64 (val 2)) ∧ w'.cell? ⟨w.heap.size, 4, none⟩ = some (.int .i64 (val 3)) ∧ w'.cell? ⟨w.heap.size, 5, none⟩ = some (.int .i64 (val 4)) ∧ w'.cell? ⟨w.heap.size, 6, none⟩ = some (.int .i64 (val 5)) ∧ w'.cell? ⟨w.heap.size + 1, 0, none⟩ = some (.int .i64 0) ∧ w'.cell? ⟨w.heap.size + 1, 1, none⟩ = some (.int .i64 0) ∧ w'.cell? ⟨w.heap.size + 1, 2, none⟩ = some (.int .i64 0) ∧ w'.cell? ⟨w.heap.size + 1, 3, none⟩ = some (.int .i64 0) ∧ w'.cell? ⟨w.heap.size + 1, 4, none⟩ = some (.int .i64 0) ∧ w'.cell? ⟨w.heap.size + 1, 5, none⟩ = some (.int .i64 0) ∧ w'.cell? ⟨w.heap.size + 1, 6, none⟩ = some (.int .i64 0) ∧ w'.cell? ⟨w.heap.size + 1 + 1, 0, none⟩ = some (.iface Ta va) ∧ w'.cell? ⟨w.heap.size + 1 + 1, 1, none⟩ = some (.iface Tb vb) ∧ ∀ j, w'.frozen? ⟨w.heap.size + 1, j, none⟩ = false) := fun w' hb => ⟨keep_cell hb k0, keep_cell hb k1, keep_cell hb k2, keep_cell hb k3, keep_cell hb k4, keep_cell hb k5, keep_cell hb k6, keep_cell hb r0, keep_cell hb r1, keep_cell hb r2, keep_cell hb r3, keep_cell hb r4, keep_cell hb r5, keep_cell hb r6, keep_cell hb t0, keep_cell hb t1, (HROW.out.keep hb).free⟩
  clear hW0 HR HCC k0 k1 k2 k3 k4 k5 k6 r0 r1 r2 r3 r4 r5 r6 t0 t1 z
  obtain ⟨NS, hNS⟩ : ∃ NS, noS = NS := ⟨_, rfl⟩
  rw [hNS] at HNS ⊢
  clear hNS
  rw [show NS.val = .agg #[.int .i64 NS.least, .int .i64 (NS.tops 0), .int .i64 (NS.tops 1), .int .i64 (NS.tops 2), .int .i64 (NS.tops 3), .int .i64 (NS.tops 4), .int .i64 (NS.tops 5)] from rfl] at HNS
  by_cases hz0 : R.least = 0
  · rw [if_pos hz0]
    have qz : (R.least == 0) = true := beq_iff_eq.2 hz0
    clear hz0
    go_enter Tryz.func113, Tryz.ntmps113
    go_wp2_with fail
    rw [← HW0.out]
    clear HW0
    refine (IHB.out _ (HN.out.keep HBW.out)).mono ?_
    rintro e w1 ⟨rfl, hb1⟩
    obtain ⟨ak0, ak1, ak2, ak3, ak4, ak5, ak6, ar0, ar1, ar2, ar3, ar4, ar5, ar6, at0, at1, az⟩ := HALL.out _ hb1
    go_wp2_with fail
    refine (HNS.out _).mono ?_
    rintro e w2 ⟨rfl, hb2⟩
    have hb12 : Below W0.heap.size W0 w2 := bel_trans hb1 (bel_trans (bel_alloc (Below.refl _ _) _) hb2)
    obtain ⟨bk0, bk1, bk2, bk3, bk4, bk5, bk6, br0, br1, br2, br3, br4, br5, br6, bt0, bt1, bz⟩ := HALL.out _ hb12
    go_wp2_with fail
    refine bodyPost_ret (res_of Tryz.results113 _ _ _ _ rfl (row7_put (HROW.out.keep hb12) _ _ _ _ _ _ _)) rfl ⟨val_at NS _, bel_put (bel_trans HBW.out hb12) (w.heap.size + 1) (by omega) _ _ _ _ _ _ _⟩
  · rw [if_neg hz0]
    have qz : (R.least == 0) = false := beq_eq_false_iff_ne.2 hz0
    clear hz0
    go_enter Tryz.func113, Tryz.ntmps113
    go_wp2_with fail
    rw [← HW0.out]
    clear HW0
    refine (IHB.out _ (HN.out.keep HBW.out)).mono ?_
    rintro e w1 ⟨rfl, hb1⟩
    obtain ⟨ak0, ak1, ak2, ak3, ak4, ak5, ak6, ar0, ar1, ar2, ar3, ar4, ar5, ar6, at0, at1, az⟩ := HALL.out _ hb1
    obtain ⟨W1, hW1⟩ : ∃ W1, W1 = w1.alloc (.cells #[.int .i64 R.least, .int .i64 (R.tops 0), .int .i64 (R.tops 1), .int .i64 (R.tops 2), .int .i64 (R.tops 3), .int .i64 (R.tops 4), .int .i64 (R.tops 5)] 146) := ⟨_, rfl⟩
    have HBW1 : Hid (Below w1.heap.size w1 W1) := by rw [hW1]; exact bel_alloc (Below.refl _ _) _
    have HD : Hid (C7 W1 w1.heap.size (.int .i64 R.least) (.int .i64 (R.tops 0)) (.int .i64 (R.tops 1)) (.int .i64 (R.tops 2)) (.int .i64 (R.tops 3)) (.int .i64 (R.tops 4)) (.int .i64 (R.tops 5))) := by
      rw [hW1]
      exact row7_c7 (row7_new w1 R 146)
    have HW1 := hide hW1
    clear hW1
    have HB01 : Hid (Below W0.heap.size W0 W1) := bel_trans hb1 HBW1.out
    go_wp2_with fail
    rw [← HW1.out]
    clear HW1
    obtain ⟨bk0, bk1, bk2, bk3, bk4, bk5, bk6, br0, br1, br2, br3, br4, br5, br6, bt0, bt1, bz⟩ := HALL.out _ HB01.out
    obtain ⟨e0, e1, e2, e3, e4, e5, e6⟩ := HD.out
    go_region_with (first
      | (go_at_call 113; refine (IHA.out _ (by exact HN.out.keep (bel_trans HBW.out HB01.out).drew)).mono ?_; rintro e w2 ⟨rfl, hb2⟩; obtain ⟨ck0, ck1, ck2, ck3, ck4, ck5, ck6, cr0, cr1, cr2, cr3, cr4, cr5, cr6, ct0, ct1, cz⟩ := HALL.out _ (bel_trans HB01.out ((Below.refl W1.heap.size W1).drew.trans hb2)); obtain ⟨f0, f1, f2, f3, f4, f5, f6⟩ := HD.out.keep ((Below.refl W1.heap.size W1).drew.trans hb2))
      | (go_at_call 140; refine (HJ.out _).mono ?_; rintro e w3 ⟨rfl, hb3⟩; obtain ⟨dk0, dk1, dk2, dk3, dk4, dk5, dk6, dr0, dr1, dr2, dr3, dr4, dr5, dr6, dt0, dt1, dz⟩ := HALL.out _ (bel_trans HB01.out (bel_trans ((Below.refl W1.heap.size W1).drew.trans hb2) hb3)))
      | fail)
    all_goals
      go_wp2_with fail
      refine bodyPost_ret (res_of Tryz.results113 _ _ _ _ rfl (row7_put (HROW.out.keep (bel_trans HB01.out (bel_trans ((Below.refl W1.heap.size W1).drew.trans hb2) hb3))) _ _ _ _ _ _ _)) rfl ⟨val_at P _, bel_put (bel_trans HBW.out (bel_trans HB01.out (bel_trans ((Below.refl W1.heap.size W1).drew.trans hb2) hb3))) (w.heap.size + 1) (by omega) _ _ _ _ _ _ _⟩
end Go.Proofs.YtgomimhelgjddaaGreat
