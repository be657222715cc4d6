/- What the program's sums answers at a greatest of two. -/
import Derived.Test.YtnhkpmgfgiolbaaSumT
namespace Go.Proofs.Ytnhkpmgfgiolbaa
open Go.ChangeShapes Go.WideShapes Go.ChangeAt Go.RowKit

set_option maxRecDepth 10000 in
set_option maxHeartbeats 8000000 in
theorem sums_max (vn : Value) (names : List ByteArray) (val : Nat → Int) (a b : It) (iha : SumsAt vn names val a) (ihb : SumsAt vn names val b) : SumsAt vn names val (.max a b) := by
  intro w hn
  have HN := hide hn
  obtain ⟨an, cn, rfl, _, _, _⟩ := hn
  have q127 := Try.as146_144
  have q129 := Try.as146_146
  have HR : Hid (∀ o, Row7 (((w.alloc (caseO (.slice an names.length cn) val)).alloc (.cells #[.int .i64 0, .int .i64 0, .int .i64 0, .int .i64 0, .int .i64 0, .int .i64 0, .int .i64 0] 162)).alloc o) (w.heap.size + 1) (fun _ => 0)) := by
    intro o
    have := row7_zero (w.alloc (caseO (.slice an names.length cn) val))
    rw [World.size_alloc] at this
    exact this.alloc o
  obtain ⟨Ta, va, hva⟩ := a.val_iface
  obtain ⟨Tb, vb, hvb⟩ := b.val_iface
  unfold SumsAt caseV at iha ihb
  rw [hva] at iha
  rw [hvb] at ihb
  have IHA := hide iha
  have IHB := hide ihb
  have HJ : Hid (∀ w', Calls Try.prog 165 #[(a.sums names val).val, (b.sums names val).val] w' fun e w2 => e = .returned ((a.sums names val).join (b.sums names val)).val ∧ Below w'.heap.size w' w2) := fun w' => join_any _ _ w'
  simp only [It.val, It.sums]
  rw [hva, hvb]
  unfold caseV
  obtain ⟨P, hP⟩ : ∃ P, (a.sums names val).join (b.sums names val) = P := ⟨_, rfl⟩
  rw [hP] at HJ ⊢
  generalize a.sums names val = S at *
  generalize b.sums names val = R at *
  clear hP hva hvb iha ihb
  rw [show S.val = .agg #[.int .i64 S.least, .int .i64 (S.tops 0), .int .i64 (S.tops 1), .int .i64 (S.tops 2), .int .i64 (S.tops 3), .int .i64 (S.tops 4), .int .i64 (S.tops 5)] from rfl] at IHA HJ
  rw [show R.val = .agg #[.int .i64 R.least, .int .i64 (R.tops 0), .int .i64 (R.tops 1), .int .i64 (R.tops 2), .int .i64 (R.tops 3), .int .i64 (R.tops 4), .int .i64 (R.tops 5)] from rfl] at IHB HJ
  rw [show P.val = .agg #[.int .i64 P.least, .int .i64 (P.tops 0), .int .i64 (P.tops 1), .int .i64 (P.tops 2), .int .i64 (P.tops 3), .int .i64 (P.tops 4), .int .i64 (P.tops 5)] from rfl] at HJ
  obtain ⟨W0, hW0⟩ : ∃ W0, W0 = ((w.alloc (.cells #[.slice an names.length cn, .int .i64 (val 0), .int .i64 (val 1), .int .i64 (val 2), .int .i64 (val 3), .int .i64 (val 4), .int .i64 (val 5)] 159)).alloc (.cells #[.int .i64 0, .int .i64 0, .int .i64 0, .int .i64 0, .int .i64 0, .int .i64 0, .int .i64 0] 162)).alloc (.cells #[.iface Ta va, .iface Tb vb] 146) := ⟨_, rfl⟩
  have HROW : Hid (Row7 W0 (w.heap.size + 1) (fun _ => 0)) := by rw [hW0]; exact HR.out _
  have HBW : Hid (Below w.heap.size w W0) := by rw [hW0]; exact bel_alloc (bel_alloc (bel_alloc (Below.refl _ _) _) _) _
  have HCC : Hid (C7 W0 w.heap.size (.slice an names.length cn) (.int .i64 (val 0)) (.int .i64 (val 1)) (.int .i64 (val 2)) (.int .i64 (val 3)) (.int .i64 (val 4)) (.int .i64 (val 5))) := by rw [hW0]; exact (case_c7 w _ val).keep (bel_alloc (bel_alloc (Below.refl _ _) _) _)
  have t0 : W0.cell? ⟨w.heap.size + 1 + 1, 0, none⟩ = some (.iface Ta va) := by rw [hW0]; simp [go_sem]
  have t1 : W0.cell? ⟨w.heap.size + 1 + 1, 1, none⟩ = some (.iface Tb vb) := by rw [hW0]; simp [go_sem]
  obtain ⟨k0, k1, k2, k3, k4, k5, k6⟩ := HCC.out
  obtain ⟨r0, r1, r2, r3, r4, r5, r6⟩ := row7_c7 HROW.out
  have z := HROW.out.free
  have hsz : w.heap.size + 1 + 1 < W0.heap.size := lt_cell t0
  have HW0 := hide hW0
  clear hW0 HR HCC
  go_enter Try.func127, Try.ntmps127
  go_wp2_with fail
  rw [← HW0.out]
  clear HW0
  have HALL : Hid (∀ w', Below W0.heap.size W0 w' → w'.cell? ⟨w.heap.size, 0, none⟩ = some (.slice an names.length cn) ∧ w'.cell? ⟨w.heap.size, 1, none⟩ = some (.int .i64 (val 0)) ∧ w'.cell? ⟨w.heap.size, 2, none⟩ = some (.int .i64 (val 1)) ∧ w'.cell? ⟨w.heap.size, 3, none⟩ = some (.int .i64 (val 2)) ∧ w'.cell? ⟨w.heap.size, 4, none⟩ = some (.int .i64 (val 3)) ∧ w'.cell? ⟨w.heap.size, 5, none⟩ = some (.int .i64 (val 4)) ∧ w'.cell? ⟨w.heap.size, 6, none⟩ = some (.int .i64 (val 5)) ∧ w'.cell? ⟨w.heap.size + 1, 0, none⟩ = some (.int .i64 0) ∧ w'.cell? ⟨w.heap.size + 1, 1, none⟩ = some (.int .i64 0) ∧ w'.cell? ⟨w.heap.size + 1, 2, none⟩ = some (.int .i64 0) ∧ w'.cell? ⟨w.heap.size + 1, 3, none⟩ = some (.int .i64 0) ∧ w'.cell? ⟨w.heap.size + 1, 4, none⟩ = some (.int .i64 0) ∧ w'.cell? ⟨w.heap.size + 1, 5, none⟩ = some (.int .i64 0) ∧ w'.cell? ⟨w.heap.size + 1, 6, none⟩ = some (.int .i64 0) ∧ w'.cell? ⟨w.heap.size + 1 + 1, 0, none⟩ = some (.iface Ta va) ∧ w'.cell? ⟨w.heap.size + 1 + 1, 1, none⟩ = some (.iface Tb vb) ∧ ∀ j, w'.frozen? ⟨w.heap.size + 1, j, none⟩ = false) := fun w' hb => ⟨keep_cell hb k0, keep_cell hb k1, keep_cell hb k2, keep_cell hb k3, keep_cell hb k4, keep_cell hb k5, keep_cell hb k6, keep_cell hb r0, keep_cell hb r1, keep_cell hb r2, keep_cell hb r3, keep_cell hb r4, keep_cell hb r5, keep_cell hb r6, keep_cell hb t0, keep_cell hb t1, (HROW.out.keep hb).free⟩
  go_region_held3 (fun w' => w'.cell? ⟨w.heap.size, 0, none⟩ = some (.slice an names.length cn) ∧ w'.cell? ⟨w.heap.size, 1, none⟩ = some (.int .i64 (val 0)) ∧ w'.cell? ⟨w.heap.size, 2, none⟩ = some (.int .i64 (val 1)) ∧ w'.cell? ⟨w.heap.size, 3, none⟩ = some (.int .i64 (val 2)) ∧ w'.cell? ⟨w.heap.size, 4, none⟩ = some (.int .i64 (val 3)) ∧ w'.cell? ⟨w.heap.size, 5, none⟩ = some (.int .i64 (val 4)) ∧ w'.cell? ⟨w.heap.size, 6, none⟩ = some (.int .i64 (val 5)) ∧ w'.cell? ⟨w.heap.size + 1 + 1, 0, none⟩ = some (.iface Ta va) ∧ w'.cell? ⟨w.heap.size + 1 + 1, 1, none⟩ = some (.iface Tb vb))
    (first
      | go_keep
      | exact ⟨keep_cell (bel_trans ((Below.refl W0.heap.size W0).drew.trans (hb1.trans (hb2.mono hb1.size))) hb3) k0, keep_cell (bel_trans ((Below.refl W0.heap.size W0).drew.trans (hb1.trans (hb2.mono hb1.size))) hb3) k1, keep_cell (bel_trans ((Below.refl W0.heap.size W0).drew.trans (hb1.trans (hb2.mono hb1.size))) hb3) k2, keep_cell (bel_trans ((Below.refl W0.heap.size W0).drew.trans (hb1.trans (hb2.mono hb1.size))) hb3) k3, keep_cell (bel_trans ((Below.refl W0.heap.size W0).drew.trans (hb1.trans (hb2.mono hb1.size))) hb3) k4, keep_cell (bel_trans ((Below.refl W0.heap.size W0).drew.trans (hb1.trans (hb2.mono hb1.size))) hb3) k5, keep_cell (bel_trans ((Below.refl W0.heap.size W0).drew.trans (hb1.trans (hb2.mono hb1.size))) hb3) k6, keep_cell (bel_trans ((Below.refl W0.heap.size W0).drew.trans (hb1.trans (hb2.mono hb1.size))) hb3) t0, keep_cell (bel_trans ((Below.refl W0.heap.size W0).drew.trans (hb1.trans (hb2.mono hb1.size))) hb3) t1⟩
      | exact ⟨keep_cell ((Below.refl W0.heap.size W0).drew.trans (hb1.trans (hb2.mono hb1.size))) k0, keep_cell ((Below.refl W0.heap.size W0).drew.trans (hb1.trans (hb2.mono hb1.size))) k1, keep_cell ((Below.refl W0.heap.size W0).drew.trans (hb1.trans (hb2.mono hb1.size))) k2, keep_cell ((Below.refl W0.heap.size W0).drew.trans (hb1.trans (hb2.mono hb1.size))) k3, keep_cell ((Below.refl W0.heap.size W0).drew.trans (hb1.trans (hb2.mono hb1.size))) k4, keep_cell ((Below.refl W0.heap.size W0).drew.trans (hb1.trans (hb2.mono hb1.size))) k5, keep_cell ((Below.refl W0.heap.size W0).drew.trans (hb1.trans (hb2.mono hb1.size))) k6, keep_cell ((Below.refl W0.heap.size W0).drew.trans (hb1.trans (hb2.mono hb1.size))) t0, keep_cell ((Below.refl W0.heap.size W0).drew.trans (hb1.trans (hb2.mono hb1.size))) t1⟩
      | exact ⟨keep_cell ((Below.refl W0.heap.size W0).drew.trans hb1) k0, keep_cell ((Below.refl W0.heap.size W0).drew.trans hb1) k1, keep_cell ((Below.refl W0.heap.size W0).drew.trans hb1) k2, keep_cell ((Below.refl W0.heap.size W0).drew.trans hb1) k3, keep_cell ((Below.refl W0.heap.size W0).drew.trans hb1) k4, keep_cell ((Below.refl W0.heap.size W0).drew.trans hb1) k5, keep_cell ((Below.refl W0.heap.size W0).drew.trans hb1) k6, keep_cell ((Below.refl W0.heap.size W0).drew.trans hb1) t0, keep_cell ((Below.refl W0.heap.size W0).drew.trans hb1) t1⟩
      | fail)
    (first
      | (go_at_call_of 127 (Value.iface Ta va); refine (IHA.out _ (by exact HN.out.keep HBW.out.drew)).mono ?_; rintro e w1 ⟨rfl, hb1⟩)
      | (go_at_call_of 127 (Value.iface Tb vb); refine (IHB.out _ (by exact HN.out.keep (bel_trans HBW.out ((Below.refl W0.heap.size W0).drew.trans hb1)))).mono ?_; rintro e w2 ⟨rfl, hb2⟩)
      | (go_at_call 165; refine (HJ.out _).mono ?_; rintro e w3 ⟨rfl, hb3⟩; obtain ⟨ck0, ck1, ck2, ck3, ck4, ck5, ck6, cr0, cr1, cr2, cr3, cr4, cr5, cr6, ct0, ct1, cz⟩ := HALL.out _ (bel_trans ((Below.refl W0.heap.size W0).drew.trans (hb1.trans (hb2.mono hb1.size))) hb3))
      | fail)
  all_goals
    go_wp2_with fail
    refine bodyPost_ret (res_of Try.results127 _ _ _ _ rfl (row7_put (HROW.out.keep (bel_trans ((Below.refl W0.heap.size W0).drew.trans (hb1.trans (hb2.mono hb1.size))) hb3)) _ _ _ _ _ _ _)) rfl ⟨val_at P _, bel_put (bel_trans HBW.out (bel_trans ((Below.refl W0.heap.size W0).drew.trans (hb1.trans (hb2.mono hb1.size))) hb3)) (w.heap.size + 1) (by omega) _ _ _ _ _ _ _⟩
end Go.Proofs.Ytnhkpmgfgiolbaa
