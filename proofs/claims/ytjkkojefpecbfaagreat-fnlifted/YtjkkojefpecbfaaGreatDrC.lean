/- What the specification's l3Draw answers: the tree that is drawn. -/
import Derived.Test.YtjkkojefpecbfaaGreatDrB
namespace Go.Proofs.YtjkkojefpecbfaaGreat
open Go.ChangeShapes Go.WideShapes Go.ChangeAt Go.RowKit

/-- What is asked of l3Draw so many steps above the deepest. -/
def D3IH (d : Nat) : Prop := ∀ (ρ : Pl) (deep free R base : Nat) (w : World), 8 ≤ deep + d → deep ≤ 1000 → free + d ≤ 1000 → RdAt ρ base w R →
  Calls Tryz.prog 81 #[.pointer (some ⟨R, 0, none⟩), .int .i64 (deep : Int), .int .i64 (free : Int)] w fun e w' => ∃ p, e = .returned (ptrV p) ∧ SpG (fun b => b ≠ R) w' (d3 d deep free ρ).1 p ∧ RdAt (d3 d deep free ρ).2 base w' R ∧ w.grownBy w' (some R)
theorem wrap_nat (n : Nat) (h : n ≤ 1000000) : IntKind.i64.wrap (n : Int) = (n : Int) := by rw [IntKind.wrap_i64]; omega
theorem tdiv_is {n m : Nat} : (n : Int).tdiv (m : Int) = ((n / m : Nat) : Int) := by rw [← Int.ofNat_tdiv]
theorem dr_num {d deep free : Nat} {ρ : Pl} (h : free + d ≤ 1000) : (d3 d deep free ρ).1.all numP := all_mono (fun _ _ hp => hp.1) (d3_ok d deep free ρ h).1
theorem gb {w w' : World} {R : Nat} (h : Below w.heap.size w w') : w.grownBy w' (some R) := (grown_of h).but (some R)
set_option maxRecDepth 20000 in
set_option maxHeartbeats 4000000 in
theorem d3_zero : D3IH 0 := by
  intro ρ deep free R base w hd hdm hfd h
  have hl := h.lt
  have HR0 := hide h
  clear h
  go_enter Tryz.func81, Tryz.ntmps81
  go_wp2_with fail
  refine (next_any R base _ HR0.out).mono ?_
  rintro e w1 ⟨v, rfl, hv0, hv1, hr1, hg1, hve⟩
  have hsz1 := hg1.size
  have hRl := hr1.lt
  have HR1 := hide hr1
  have HG1 := hide hg1
  have HVE := hide hve
  have hwv : IntKind.i64.wrap v = v := by rw [IntKind.wrap_i64]; omega
  obtain ⟨q, hq, hq2, HQE⟩ : ∃ q : Nat, v.tdiv 12 = (q : Int) ∧ q < 22 ∧ Hid (q = ρ.v / 12) := ⟨ρ.v / 12, by rw [HVE.out]; exact tdiv_is (m := 12), by have := ρ.v_lt; omega, rfl⟩
  have hwq := wrap_nat q (by omega)
  clear hr1 hg1 hve
  have d7 : decide (7 < (deep : Int)) = true := by simp; omega
  have HE : Hid (d3 0 deep free ρ = (varD free ρ.v, ρ.n)) := rfl
  by_cases hf0 : 0 < free
  · have f0 : decide (0 < (free : Int)) = true := by simp; omega
    have fz : ((free : Int) == 0) = false := by rw [beq_eq_false_iff_ne]; omega
    have fz' : ¬ (free : Int) = 0 := by omega
    by_cases h240 : v < 240
    · have d240 : decide (v < 240) = true := by simp [h240]
      obtain ⟨x, hx, hx2, HXE⟩ : ∃ x : Nat, (q : Int).tmod (free : Int) = (x : Int) ∧ x < free ∧ Hid (x = q % free) := ⟨q % free, tmod_is, Nat.mod_lt _ hf0, rfl⟩
      have hwx := wrap_nat x (by omega)
      have HVD : Hid (varD free ρ.v = varT (x : Int)) := by
        show _ = _
        unfold varD
        rw [if_pos ⟨hf0, by have := HVE.out; omega⟩, HXE.out, HQE.out]
      have HV := hide (l3Var_any (fun b => b ≠ R) (x : Int) w1 (by omega))
      go_wp2_with (first
        | (go_at_call 84; refine HV.out.mono ?_; rintro e w2 ⟨p2, rfl, hs2, hb2⟩; unfold ptrV)
        | fail)
      go_ret
      exact ⟨p2, rfl, by rw [HE.out, HVD.out]; exact hs2, by rw [HE.out]; exact HR1.out.keep hb2, HG1.out.trans (gb hb2)⟩
    · have d240 : decide (v < 240) = false := by simp; omega
      obtain ⟨x, hx, hx2, HXE⟩ : ∃ x : Nat, (q : Int).tmod 5 = (x : Int) ∧ x < 5 ∧ Hid (x = q % 5) := ⟨q % 5, tmod_is (m := 5), Nat.mod_lt _ (by omega), rfl⟩
      have hwx := wrap_nat x (by omega)
      have HVD : Hid (varD free ρ.v = varT (x : Int)) := by
        show _ = _
        unfold varD
        rw [if_neg (fun e => by have := HVE.out; omega), HXE.out, HQE.out]
      have HV := hide (l3Var_any (fun b => b ≠ R) (x : Int) w1 (by omega))
      go_wp2_with (first
        | (go_at_call 84; refine HV.out.mono ?_; rintro e w2 ⟨p2, rfl, hs2, hb2⟩; unfold ptrV)
        | fail)
      go_ret
      exact ⟨p2, rfl, by rw [HE.out, HVD.out]; exact hs2, by rw [HE.out]; exact HR1.out.keep hb2, HG1.out.trans (gb hb2)⟩
  · have f0 : decide (0 < (free : Int)) = false := by simp; omega
    obtain ⟨x, hx, hx2, HXE⟩ : ∃ x : Nat, (q : Int).tmod 5 = (x : Int) ∧ x < 5 ∧ Hid (x = q % 5) := ⟨q % 5, tmod_is (m := 5), Nat.mod_lt _ (by omega), rfl⟩
    have hwx := wrap_nat x (by omega)
    have HVD : Hid (varD free ρ.v = varT (x : Int)) := by
      show _ = _
      unfold varD
      rw [if_neg (fun e => hf0 e.1), HXE.out, HQE.out]
    have HV := hide (l3Var_any (fun b => b ≠ R) (x : Int) w1 (by omega))
    go_wp2_with (first
      | (go_at_call 84; refine HV.out.mono ?_; rintro e w2 ⟨p2, rfl, hs2, hb2⟩; unfold ptrV)
      | fail)
    go_ret
    exact ⟨p2, rfl, by rw [HE.out, HVD.out]; exact hs2, by rw [HE.out]; exact HR1.out.keep hb2, HG1.out.trans (gb hb2)⟩
set_option maxRecDepth 20000 in
set_option maxHeartbeats 8000000 in
theorem d3_succ (d : Nat) (IH : Hid (D3IH d)) : D3IH (d + 1) := by
  intro ρ deep free R base w hd hdm hfd h
  have hl := h.lt
  have HR0 := hide h
  clear h
  go_enter Tryz.func81, Tryz.ntmps81
  go_wp2_with fail
  refine (next_any R base _ HR0.out).mono ?_
  rintro e w1 ⟨v, rfl, hv0, hv1, hr1, hg1, hve⟩
  have hsz1 := hg1.size
  have hRl := hr1.lt
  have HR1 := hide hr1
  have HG1 := hide hg1
  have HVE := hide hve
  have hwv : IntKind.i64.wrap v = v := by rw [IntKind.wrap_i64]; omega
  obtain ⟨q, hq, hq2, HQE⟩ : ∃ q : Nat, v.tdiv 12 = (q : Int) ∧ q < 22 ∧ Hid (q = ρ.v / 12) := ⟨ρ.v / 12, by rw [HVE.out]; exact tdiv_is (m := 12), by have := ρ.v_lt; omega, rfl⟩
  have hwq := wrap_nat q (by omega)
  clear hr1 hg1 hve
  obtain ⟨r, hr, hrl, HRE⟩ : ∃ r : Nat, v.tmod 12 = (r : Int) ∧ r < 12 ∧ Hid (r = ρ.v % 12) := ⟨ρ.v % 12, by rw [HVE.out]; exact tmod_is (m := 12), Nat.mod_lt _ (by omega), rfl⟩
  have hwr := wrap_nat r (by omega)
  by_cases hdeep : 7 < deep
  · have d7 : decide (7 < (deep : Int)) = true := by simp; omega
    have HE : Hid (d3 (d + 1) deep free ρ = (varD free ρ.v, ρ.n)) := by show _ = _; rw [d3, if_pos (.inl hdeep)]
    by_cases hf0 : 0 < free
    · have f0 : decide (0 < (free : Int)) = true := by simp; omega
      have fz : ((free : Int) == 0) = false := by rw [beq_eq_false_iff_ne]; omega
      have fz' : ¬ (free : Int) = 0 := by omega
      by_cases h240 : v < 240
      · have d240 : decide (v < 240) = true := by simp [h240]
        obtain ⟨x, hx, hx2, HXE⟩ : ∃ x : Nat, (q : Int).tmod (free : Int) = (x : Int) ∧ x < free ∧ Hid (x = q % free) := ⟨q % free, tmod_is, Nat.mod_lt _ hf0, rfl⟩
        have hwx := wrap_nat x (by omega)
        have HVD : Hid (varD free ρ.v = varT (x : Int)) := by
          show _ = _
          unfold varD
          rw [if_pos ⟨hf0, by have := HVE.out; omega⟩, HXE.out, HQE.out]
        have HV := hide (l3Var_any (fun b => b ≠ R) (x : Int) w1 (by omega))
        go_wp2_with (first
          | (go_at_call 84; refine HV.out.mono ?_; rintro e w2 ⟨p2, rfl, hs2, hb2⟩; unfold ptrV)
          | fail)
        go_ret
        exact ⟨p2, rfl, by rw [HE.out, HVD.out]; exact hs2, by rw [HE.out]; exact HR1.out.keep hb2, HG1.out.trans (gb hb2)⟩
      · have d240 : decide (v < 240) = false := by simp; omega
        obtain ⟨x, hx, hx2, HXE⟩ : ∃ x : Nat, (q : Int).tmod 5 = (x : Int) ∧ x < 5 ∧ Hid (x = q % 5) := ⟨q % 5, tmod_is (m := 5), Nat.mod_lt _ (by omega), rfl⟩
        have hwx := wrap_nat x (by omega)
        have HVD : Hid (varD free ρ.v = varT (x : Int)) := by
          show _ = _
          unfold varD
          rw [if_neg (fun e => by have := HVE.out; omega), HXE.out, HQE.out]
        have HV := hide (l3Var_any (fun b => b ≠ R) (x : Int) w1 (by omega))
        go_wp2_with (first
          | (go_at_call 84; refine HV.out.mono ?_; rintro e w2 ⟨p2, rfl, hs2, hb2⟩; unfold ptrV)
          | fail)
        go_ret
        exact ⟨p2, rfl, by rw [HE.out, HVD.out]; exact hs2, by rw [HE.out]; exact HR1.out.keep hb2, HG1.out.trans (gb hb2)⟩
    · have f0 : decide (0 < (free : Int)) = false := by simp; omega
      obtain ⟨x, hx, hx2, HXE⟩ : ∃ x : Nat, (q : Int).tmod 5 = (x : Int) ∧ x < 5 ∧ Hid (x = q % 5) := ⟨q % 5, tmod_is (m := 5), Nat.mod_lt _ (by omega), rfl⟩
      have hwx := wrap_nat x (by omega)
      have HVD : Hid (varD free ρ.v = varT (x : Int)) := by
        show _ = _
        unfold varD
        rw [if_neg (fun e => hf0 e.1), HXE.out, HQE.out]
      have HV := hide (l3Var_any (fun b => b ≠ R) (x : Int) w1 (by omega))
      go_wp2_with (first
        | (go_at_call 84; refine HV.out.mono ?_; rintro e w2 ⟨p2, rfl, hs2, hb2⟩; unfold ptrV)
        | fail)
      go_ret
      exact ⟨p2, rfl, by rw [HE.out, HVD.out]; exact hs2, by rw [HE.out]; exact HR1.out.keep hb2, HG1.out.trans (gb hb2)⟩
  have d7 : decide (7 < (deep : Int)) = false := by simp; omega
  by_cases h3 : r < 3
  · have d3' : decide ((r : Int) < 3) = true := by simp; omega
    have HE : Hid (d3 (d + 1) deep free ρ = (varD free ρ.v, ρ.n)) := by show _ = _; rw [d3, if_pos (.inr (by rw [← HRE.out]; exact h3))]
    by_cases hf0 : 0 < free
    · have f0 : decide (0 < (free : Int)) = true := by simp; omega
      have fz : ((free : Int) == 0) = false := by rw [beq_eq_false_iff_ne]; omega
      have fz' : ¬ (free : Int) = 0 := by omega
      by_cases h240 : v < 240
      · have d240 : decide (v < 240) = true := by simp [h240]
        obtain ⟨x, hx, hx2, HXE⟩ : ∃ x : Nat, (q : Int).tmod (free : Int) = (x : Int) ∧ x < free ∧ Hid (x = q % free) := ⟨q % free, tmod_is, Nat.mod_lt _ hf0, rfl⟩
        have hwx := wrap_nat x (by omega)
        have HVD : Hid (varD free ρ.v = varT (x : Int)) := by
          show _ = _
          unfold varD
          rw [if_pos ⟨hf0, by have := HVE.out; omega⟩, HXE.out, HQE.out]
        have HV := hide (l3Var_any (fun b => b ≠ R) (x : Int) w1 (by omega))
        go_wp2_with (first
          | (go_at_call 84; refine HV.out.mono ?_; rintro e w2 ⟨p2, rfl, hs2, hb2⟩; unfold ptrV)
          | fail)
        go_ret
        exact ⟨p2, rfl, by rw [HE.out, HVD.out]; exact hs2, by rw [HE.out]; exact HR1.out.keep hb2, HG1.out.trans (gb hb2)⟩
      · have d240 : decide (v < 240) = false := by simp; omega
        obtain ⟨x, hx, hx2, HXE⟩ : ∃ x : Nat, (q : Int).tmod 5 = (x : Int) ∧ x < 5 ∧ Hid (x = q % 5) := ⟨q % 5, tmod_is (m := 5), Nat.mod_lt _ (by omega), rfl⟩
        have hwx := wrap_nat x (by omega)
        have HVD : Hid (varD free ρ.v = varT (x : Int)) := by
          show _ = _
          unfold varD
          rw [if_neg (fun e => by have := HVE.out; omega), HXE.out, HQE.out]
        have HV := hide (l3Var_any (fun b => b ≠ R) (x : Int) w1 (by omega))
        go_wp2_with (first
          | (go_at_call 84; refine HV.out.mono ?_; rintro e w2 ⟨p2, rfl, hs2, hb2⟩; unfold ptrV)
          | fail)
        go_ret
        exact ⟨p2, rfl, by rw [HE.out, HVD.out]; exact hs2, by rw [HE.out]; exact HR1.out.keep hb2, HG1.out.trans (gb hb2)⟩
    · have f0 : decide (0 < (free : Int)) = false := by simp; omega
      obtain ⟨x, hx, hx2, HXE⟩ : ∃ x : Nat, (q : Int).tmod 5 = (x : Int) ∧ x < 5 ∧ Hid (x = q % 5) := ⟨q % 5, tmod_is (m := 5), Nat.mod_lt _ (by omega), rfl⟩
      have hwx := wrap_nat x (by omega)
      have HVD : Hid (varD free ρ.v = varT (x : Int)) := by
        show _ = _
        unfold varD
        rw [if_neg (fun e => hf0 e.1), HXE.out, HQE.out]
      have HV := hide (l3Var_any (fun b => b ≠ R) (x : Int) w1 (by omega))
      go_wp2_with (first
        | (go_at_call 84; refine HV.out.mono ?_; rintro e w2 ⟨p2, rfl, hs2, hb2⟩; unfold ptrV)
        | fail)
      go_ret
      exact ⟨p2, rfl, by rw [HE.out, HVD.out]; exact hs2, by rw [HE.out]; exact HR1.out.keep hb2, HG1.out.trans (gb hb2)⟩
  have d3' : decide ((r : Int) < 3) = false := by simp; omega
  have hn1 : ¬ (7 < deep ∨ ρ.v % 12 < 3) := by rw [← HRE.out]; omega
  have HN1 := hide hn1
  have hwd : IntKind.i64.wrap ((deep : Int) + 1) = ((deep + 1 : Nat) : Int) := by rw [IntKind.wrap_i64]; omega
  have hwf : IntKind.i64.wrap ((free : Int) + 1) = ((free + 1 : Nat) : Int) := by rw [IntKind.wrap_i64]; omega
  clear hn1
  by_cases e3 : r = 3
  · have q3 : ((r : Int) == 3) = true := beq_iff_eq.2 (by omega)
    have HE : Hid (d3 (d + 1) deep free ρ = (.t0 (sortH ((drw 3 2 ρ.n).1.flat 0)), (drw 3 2 ρ.n).2)) := by show _ = _; rw [d3, if_neg HN1.out, if_pos (by rw [← HRE.out]; exact e3)]
    clear e3
    go_wp2_with fail
    refine (l1Draw_any 3 ρ.n 2 R base _ (by omega) (by omega) HR1.out).mono ?_
    rintro e w2 ⟨g2, t2, rfl, ht2, hok2, _, hrr2, hg2, hte2⟩
    subst hte2
    have HR2 := hide hrr2
    have HG2 := hide (HG1.out.trans hg2)
    have hR2 := hrr2.lt
    have HSO := hide (l3SortQ_any (Q := fun b => b ≠ R) _ g2 w2 (by show _ ≠ R; omega) ht2 hok2 (drw_lvl ρ.n).2)
    clear ht2 hok2 hrr2 hg2
    go_wp2_with fail
    refine HSO.out.mono ?_
    rintro e w3 ⟨p3, rfl, hs3, hb3⟩
    unfold ptrV
    have HS3 := hide hs3
    have HB3 := hide hb3
    clear hs3 hb3
    go_wp2_with fail
    go_ret
    exact ⟨p3, rfl, by rw [HE.out]; exact HS3.out, by rw [HE.out]; exact HR2.out.keep HB3.out, HG2.out.trans (gb HB3.out)⟩
  have q3 : ((r : Int) == 3) = false := beq_eq_false_iff_ne.2 (by omega)
  have HN3 : Hid (¬ ρ.v % 12 = 3) := by show ¬ _; rw [← HRE.out]; exact e3
  clear e3
  by_cases e4 : r = 4
  · have q4 : ((r : Int) == 4) = true := beq_iff_eq.2 (by omega)
    obtain ⟨x, hx, hx2, HXE⟩ : ∃ x : Nat, (q : Int).tmod 3 = (x : Int) ∧ x < 3 ∧ Hid (x = q % 3) := ⟨q % 3, tmod_is (m := 3), Nat.mod_lt _ (by omega), rfl⟩
    have hwx := wrap_nat x (by omega)
    have HE : Hid (d3 (d + 1) deep free ρ = (.t0 (constH (names9.getD ((lvD x ρ.n).2.v % 9) ⟨#[]⟩) (lvD x ρ.n).1), (lvD x ρ.n).2.n)) := by show _ = _; rw [d3, if_neg HN1.out, if_neg HN3.out, if_pos (by rw [← HRE.out]; exact e4), HXE.out, HQE.out]
    clear e4
    obtain ⟨i82, hi82, hz82, hs82, hb82⟩ := info_parts Tryz.info164
    obtain ⟨W2, hW2⟩ : ∃ W2, W2 = w1.alloc (.cells #[] 164) := ⟨_, rfl⟩
    have hb2 : Below w1.heap.size w1 W2 := by rw [hW2]; exact bel_alloc (Below.refl _ _) _
    have HO2 : Hid (W2.ownsRow w1.heap.size 164 1 (.slice (some ⟨w1.heap.size, 0, none⟩) 0 0) 0 (([] : List Nat).map ptrV)) := by
      show World.ownsRow _ _ _ _ _ _ _
      rw [hW2]
      exact ⟨rfl, .inr ⟨w1.heap.size, 0, #[], rfl, Nat.le_refl _, heap_alloc_new w1 _, Nat.le_refl _, by unfold maxLen; omega, rfl, rfl⟩⟩
    have HR2 := hide (HR1.out.keep hb2)
    have HG2 : Hid (w1.grownBy W2 (some R)) := gb hb2
    clear hb2
    go_upto_region 11 with fail
    first | rw [← hW2] | skip
    go_wp2_with fail
    first | rw [← hW2] | skip
    clear hW2
    go_loopw [8, 9] (fun o i wr => ∃ (j g cp : Nat) (ps : List Nat), j ≤ x ∧ i = .int .i64 j ∧ o = .slice (some ⟨g, 0, none⟩) j cp ∧ Hid (ps.length = j) ∧ Hid (wr.ownsRow w1.heap.size 164 1 (.slice (some ⟨g, 0, none⟩) j cp) j (ps.map ptrV)) ∧ Hid (∃ us, LevTrees wr ps us ∧ LvRel (lvD j ρ.n).1 us j) ∧ Hid (RdAt (lvD j ρ.n).2 base wr R) ∧ Hid (w1.grownBy wr (some R))) (fun _ i _ => x - (intOf i).toNat)
    case atStart => exact ⟨0, w1.heap.size, 0, [], by omega, rfl, rfl, rfl, HO2, ⟨[], ⟨⟨rfl, fun j h => by simp at h⟩, by simp⟩, rfl, fun q h => by simp [lvD] at h⟩, HR2, HG2⟩
    case round =>
      clear HO2 HR2 HG2
      obtain ⟨j, g, cp, ps, hj, rfl, rfl, HPL, HO, HT, HRJ, HGJ⟩ := hrel
      have hgs := HGJ.out.size
      have hRj := HRJ.out.lt
      have hgo := HO.out.lt g rfl
      by_cases hlt : j < x
      · have hlt' : (j : Int) < (x : Int) := by omega
        have HQ1 := hide (show j + 1 ≤ x from hlt)
        go_wp2_with fail
        refine (l1Draw_any 3 (lvD j ρ.n).2 2 R base _ (by omega) (by omega) HRJ.out).mono ?_
        rintro e w3 ⟨g3, t3, rfl, ht3, hok3, _, hrr3, hg3, hte3⟩
        subst hte3
        have hs3 := hg3.size
        have HR3 := hide hrr3
        have HO3 : Hid (w3.ownsRow w1.heap.size 164 1 (.slice (some ⟨g, 0, none⟩) j cp) j (ps.map ptrV)) := World.ownsRow.kept HO.out hg3 (.inr (by simp [Value.ownBlock]; omega))
        obtain ⟨us, hlt3, hrel3⟩ := HT.out
        have hlt3' : LevTrees w3 ps us := ⟨⟨hlt3.1.1, fun i a1 a2 => tree_rd HRJ.out hg3 (hlt3.1.2 i a1 a2)⟩, hlt3.2⟩
        have HLT3 := hide hlt3'
        have HREL := hide hrel3
        have HT3 := hide ht3
        have HOK3 := hide hok3
        have HG3 := hide (HGJ.out.trans hg3)
        clear ht3 hok3 hrr3 hg3 hlt3 hrel3 hlt3'
        go_wp2_with (first
          | (at_builtin; refine wpList_append_lies _ rfl _ _ 105 rfl w1.heap.size 164 i82 (.pointer none) 1 8 Tryz.underlying105 hi82 hz82 hs82 hb82 rfl (by omega) (.slice (some ⟨g, 0, none⟩) j cp) j (ps.map ptrV) rfl (HO3.out.alloc _) ⟨w3.heap.size, 0, none⟩ 1 1 [.pointer (some ⟨g3, 0, none⟩)] rfl rfl ?c1 ?c2 (by omega) ?c3 ?c4 ?c5 (w3.heap.size + 1) (by simp) ?_)
          | fail)
        case c1 => exact cell_one_new _ _ _
        case c2 => first | rfl | (intro u hu; simp at hu; subst hu; rfl)
        case c3 => unfold maxLen; omega
        case c4 => omega
        case c5 => simp; omega
        intro g4 cap4 w4 hown4 hgrow4 hat4 hlt4
        have htag := row_tag (HO3.out.alloc (.cells #[.pointer (some ⟨g3, 0, none⟩)] 164))
        have hsz4 := hgrow4.size
        have KT : ∀ (p : Nat) (t' : Tr), TreeAt w3.heap.size w3 p t' → TreeAt w4.heap.size w4 p t' := fun p t' ht' =>
          (((ht'.keep ((Below.refl w3.heap.size w3).alloc (Nat.le_refl _) _)).grown hgrow4 (fun k hk => by simp [Value.ownBlock] at hk; subst hk; obtain ⟨cs, hcs⟩ := htag; exact ⟨cs, 164, by decide, hcs⟩)).mono (by simp at hsz4; omega))
        have HTN : Hid (∃ us, LevTrees w4 (ps ++ [g3]) us ∧ LvRel (lvD (j + 1) ρ.n).1 us (j + 1)) := by
          refine ⟨us ++ [(drw 3 2 (lvD j ρ.n).2).1], ⟨HLT3.out.1.snoc (fun q h1 h2 => KT _ _ (HLT3.out.1.2 q h1 h2)) (KT _ _ HT3.out), fun u hu => ?_⟩, ?_⟩
          · rcases List.mem_append.1 hu with h | h
            · exact HLT3.out.2 u h
            · simp at h; rw [h]; exact (drw_lvl _).2
          · obtain ⟨r1, r2⟩ := HREL.out
            refine ⟨by simp [r1], fun q h1 h2 => ?_⟩
            have hll := lvD_len j ρ.n
            by_cases e : q < j
            · have e1 : (lvD (j + 1) ρ.n).1[q] = (lvD j ρ.n).1[q]'(by omega) := by simp only [lvD]; exact List.getElem_append_left (by omega)
              have e2 : (us ++ [(drw 3 2 (lvD j ρ.n).2).1])[q] = us[q]'(by omega) := List.getElem_append_left (by omega)
              rw [e1, e2]
              exact r2 q (by omega) (by omega)
            · have eq : q = j := by simp [lvD, hll] at h1; omega
              subst eq
              have e1 : (lvD (q + 1) ρ.n).1[q] = (drw 3 2 (lvD q ρ.n).2).1.flat 0 := by simp [lvD, hll]
              have e2 : (us ++ [(drw 3 2 (lvD q ρ.n).2).1])[q] = (drw 3 2 (lvD q ρ.n).2).1 := by simp [r1]
              rw [e1, e2]
              exact ⟨rfl, HOK3.out, Tr.names_flat _ 0 [] HOK3.out, (Tr.flat_len _ 0).symm⟩
        have HON := hide (show w4.ownsRow w1.heap.size 164 1 (.slice (some ⟨g4, 0, none⟩) (j + 1) cap4) (j + 1) ((ps ++ [g3]).map ptrV) by rw [List.map_append]; exact hown4)
        have HPN2 : Hid ((ps ++ [g3]).length = j + 1) := by show _ = _; rw [List.length_append, HPL.out]; rfl
        have hga : w3.grownBy (w3.alloc (.cells #[.pointer (some ⟨g3, 0, none⟩)] 164)) (some g) := gb (bel_alloc (Below.refl _ _) _)
        have HRN : Hid (RdAt (lvD (j + 1) ρ.n).2 base w4 R) := RdAt.grown (g := g) (HR3.out.keep (bel_alloc (Below.refl _ _) _)) hgrow4 (by omega) (by omega)
        have HGN : Hid (w1.grownBy w4 (some R)) := by
          have hall := HG3.out
          refine ⟨hgrow4.os.trans hall.os, hgrow4.tape.trans hall.tape, hgrow4.output.trans hall.output, by simp at hsz4; omega, fun k hk hr => ?_⟩
          rw [hgrow4.block k (by simp; omega) (by simp [Value.ownBlock]; omega)]
          show (w3.alloc _).heap[k]? = _
          rw [(bel_alloc (Below.refl w3.heap.size w3) (.cells #[.pointer (some ⟨g3, 0, none⟩)] 164)).block k (by omega)]
          exact hall.block k hk hr
        clear hown4 hgrow4 hat4 hlt4 htag KT hga
        go_wp2_with fail
        go_roundw
        case rel => exact ⟨j + 1, g4, cap4, ps ++ [g3], HQ1.out, by go_num, rfl, HPN2, HON, HTN, HRN, HGN⟩
        case measure => have := HQ1.out; simp [intOf]; omega
      · have hlt' : ¬ (j : Int) < (x : Int) := by omega
        have e : j = x := by omega
        subst e
        go_wp2_with fail
        refine (l3Name_any R base _ HRJ.out).mono ?_
        rintro e w3 ⟨rfl, hrr3, hg3⟩
        have HR3 := hide hrr3
        have HO3 : Hid (w3.ownsRow w1.heap.size 164 1 (.slice (some ⟨g, 0, none⟩) j cp) j (ps.map ptrV)) := World.ownsRow.kept HO.out hg3 (.inr (by simp [Value.ownBlock]; omega))
        obtain ⟨us, hlt3, hrel3⟩ := HT.out
        have hlt3' : LevTrees w3 ps us := ⟨⟨hlt3.1.1, fun i a1 a2 => tree_rd HRJ.out hg3 (hlt3.1.2 i a1 a2)⟩, hlt3.2⟩
        have hrow : LevRowF (fun b => b ≠ R) w3 (.slice (some ⟨g, 0, none⟩) j cp) (lvD j ρ.n).1 := ⟨ps, us, by rw [HPL.out, lvD_len], (PtrRowQ.own HO3.out HPL.out.symm).to (fun b hb _ => ⟨by show b ≠ R; omega, fun _ _ h => h⟩), hlt3', by rw [lvD_len]; exact hrel3⟩
        have HCO := hide (l3ConstQ_any (fun b => b ≠ R) (names9.getD ((lvD j ρ.n).2.v % 9) ⟨#[]⟩) _ _ w3 hrow)
        have HG3 := hide ((HG1.out.trans HGJ.out).trans hg3)
        generalize names9.getD ((lvD j ρ.n).2.v % 9) ⟨#[]⟩ = nm at *
        clear hrr3 hg3 hlt3 hrel3 hlt3' hrow
        go_wp2_with fail
        refine HCO.out.mono ?_
        rintro e w4 ⟨p4, rfl, hs4, hb4⟩
        unfold ptrV
        have HS4 := hide hs4
        have HB4 := hide hb4
        clear hs4 hb4
        go_wp2_with fail
        go_ret
        exact ⟨p4, rfl, by rw [HE.out]; exact HS4.out, by rw [HE.out]; exact HR3.out.keep HB4.out, HG3.out.trans (gb HB4.out)⟩
  have q4 : ((r : Int) == 4) = false := beq_eq_false_iff_ne.2 (by omega)
  have HN4 : Hid (¬ ρ.v % 12 = 4) := by show ¬ _; rw [← HRE.out]; exact e4
  clear e4
  by_cases e8 : r < 8
  · have d8 : decide ((r : Int) < 8) = true := by simp; omega
    have HE : Hid (d3 (d + 1) deep free ρ = (.t2 appH (d3 d (deep + 1) free ρ.n).1 (d3 d (deep + 1) free (d3 d (deep + 1) free ρ.n).2).1, (d3 d (deep + 1) free (d3 d (deep + 1) free ρ.n).2).2)) := by show _ = _; rw [d3, if_neg HN1.out, if_neg HN3.out, if_neg HN4.out, if_pos (by rw [← HRE.out]; exact e8)]
    clear e8
    go_wp2_with fail
    refine (IH.out ρ.n (deep + 1) free R base _ (by omega) (by omega) (by omega) HR1.out).mono ?_
    rintro e w2 ⟨pa, rfl, hsa, hra, hga⟩
    have HSa := hide hsa
    have HRa := hide hra
    have HGa := hide (HG1.out.trans hga)
    clear hsa hra hga
    go_wp2_with fail
    refine (IH.out (d3 d (deep + 1) free ρ.n).2 (deep + 1) free R base _ (by omega) (by omega) (by omega) HRa.out).mono ?_
    rintro e w3 ⟨pb, rfl, hsb, hrb, hgb⟩
    have HSb := hide hsb
    have HRb := hide hrb
    have HGb := hide (HGa.out.trans hgb)
    have HSa := hide (HSa.out.to (Carry.rd HRa.out hgb))
    have hRb := hrb.lt
    have HAP := hide (l3AppQ_any (Q := fun b => b ≠ R) _ _ pa pb w3 (by show _ ≠ R; omega) HSa.out HSb.out (dr_num (by omega)) (dr_num (by omega)))
    clear hsb hrb hgb
    unfold ptrV
    go_wp2_with fail
    refine HAP.out.mono ?_
    rintro e w4 ⟨p4, rfl, hs4, hb4⟩
    unfold ptrV
    have HS4 := hide hs4
    have HB4 := hide hb4
    clear hs4 hb4
    go_wp2_with fail
    go_ret
    exact ⟨p4, rfl, by rw [HE.out]; exact HS4.out, by rw [HE.out]; exact HRb.out.keep HB4.out, HGb.out.trans (gb HB4.out)⟩
  have d8 : decide ((r : Int) < 8) = false := by simp; omega
  have HN8 : Hid (¬ ρ.v % 12 < 8) := by show ¬ _; rw [← HRE.out]; exact e8
  clear e8
  obtain ⟨x, hx, hx2, HXE⟩ : ∃ x : Nat, (q : Int).tmod 3 = (x : Int) ∧ x < 3 ∧ Hid (x = q % 3) := ⟨q % 3, tmod_is (m := 3), Nat.mod_lt _ (by omega), rfl⟩
  have hwx := wrap_nat x (by omega)
  have HXV : Hid (ρ.v / 12 % 3 = x) := by show _ = _; rw [HXE.out, HQE.out]
  by_cases e10 : r = 10
  · have q10 : ((r : Int) == 10) = true := beq_iff_eq.2 (by omega)
    by_cases ex : x = 0
    · have qx : ((x : Int) == 0) = true := beq_iff_eq.2 (by omega)
      have HE : Hid (d3 (d + 1) deep free ρ = (.t3 (letH (short6.getD (ρ.n.v % 6) ⟨#[]⟩)) (d3 d (deep + 1) free ρ.n.n).1 (d3 d (deep + 1) free (d3 d (deep + 1) free ρ.n.n).2).1 (d3 d (deep + 1) (free + 1) (d3 d (deep + 1) free (d3 d (deep + 1) free ρ.n.n).2).2).1, (d3 d (deep + 1) (free + 1) (d3 d (deep + 1) free (d3 d (deep + 1) free ρ.n.n).2).2).2)) := by show _ = _; rw [d3, if_neg HN1.out, if_neg HN3.out, if_neg HN4.out, if_neg HN8.out, if_pos ⟨by rw [← HRE.out]; exact e10, by rw [HXV.out]; exact ex⟩]
      clear e10 ex
      go_wp2_with fail
      refine (l3Short_any R base _ HR1.out).mono ?_
      rintro e w2 ⟨rfl, hr2, hg2⟩
      have HR2 := hide hr2
      have HG2 := hide (HG1.out.trans hg2)
      clear hr2 hg2
      generalize short6.getD (ρ.n.v % 6) ⟨#[]⟩ = nm at *
      go_wp2_with fail
      refine (IH.out ρ.n.n (deep + 1) free R base _ (by omega) (by omega) (by omega) HR2.out).mono ?_
      rintro e w3 ⟨pa, rfl, hsa, hra, hga⟩
      have HSa := hide hsa
      have HRa := hide hra
      have HGa := hide (HG2.out.trans hga)
      clear hsa hra hga
      go_wp2_with fail
      refine (IH.out (d3 d (deep + 1) free ρ.n.n).2 (deep + 1) free R base _ (by omega) (by omega) (by omega) HRa.out).mono ?_
      rintro e w4 ⟨pb, rfl, hsb, hrb, hgb⟩
      have HSb := hide hsb
      have HRb := hide hrb
      have HGb := hide (HGa.out.trans hgb)
      have HSa := hide (HSa.out.to (Carry.rd HRa.out hgb))
      clear hsb hrb hgb
      go_wp2_with fail
      refine (IH.out (d3 d (deep + 1) free (d3 d (deep + 1) free ρ.n.n).2).2 (deep + 1) (free + 1) R base _ (by omega) (by omega) (by omega) HRb.out).mono ?_
      rintro e w5 ⟨pc, rfl, hsc, hrc, hgc⟩
      have HSc := hide hsc
      have HRc := hide hrc
      have HGc := hide (HGb.out.trans hgc)
      have HSa := hide (HSa.out.to (Carry.rd HRb.out hgc))
      have HSb := hide (HSb.out.to (Carry.rd HRb.out hgc))
      have hRc := hrc.lt
      obtain ⟨W6, hW6⟩ : ∃ W6, W6 = w5.alloc (.cells #[.pointer (some ⟨pa, 0, none⟩), .pointer (some ⟨pb, 0, none⟩), .pointer (some ⟨pc, 0, none⟩)] 72) := ⟨_, rfl⟩
      have hb6 : Below w5.heap.size w5 W6 := by rw [hW6]; exact bel_alloc (Below.refl _ _) _
      have HM := hide (mk_rowQ (Q := fun b => b ≠ R) (letH nm) [_, _, _] [pa, pb, pc] w5 W6 hW6 (by show _ ≠ R; omega) rfl (by simp) rfl (by show (7 : Int) ≠ 1; decide) (fun j h1 h2 => by
        rcases (show j = 0 ∨ j = 1 ∨ j = 2 by simp at h1; omega) with rfl | rfl | rfl
        · exact HSa.out
        · exact HSb.out
        · exact HSc.out) (fun t ht => by
        simp only [List.mem_cons, List.not_mem_nil, or_false] at ht
        rcases ht with rfl | rfl | rfl
        · exact dr_num (by omega)
        · exact dr_num (by omega)
        · exact dr_num (by omega)))
      have HM : Hid (Calls Tryz.prog 92 #[.int .i64 7, .int .i64 0, .int .i64 0, .string nm, .slice none 0 0, .slice (some ⟨w5.heap.size, 0, none⟩) 3 3] W6 fun e w' => e = .returned (ptrV W6.heap.size) ∧ SpG (fun b => b ≠ R) w' (.t3 (letH nm) (d3 d (deep + 1) free ρ.n.n).1 (d3 d (deep + 1) free (d3 d (deep + 1) free ρ.n.n).2).1 (d3 d (deep + 1) (free + 1) (d3 d (deep + 1) free (d3 d (deep + 1) free ρ.n.n).2).2).1) W6.heap.size ∧ Below W6.heap.size W6 w') := HM.out
      have HB6 := hide hb6
      clear hsc hrc hgc hb6
      unfold ptrV
      go_wp2_with fail
      first | rw [← hW6] | skip
      clear hW6
      refine HM.out.mono ?_
      rintro e w7 ⟨rfl, hs7, hb7⟩
      unfold ptrV
      have HS7 := hide hs7
      have HB7 := hide (bel_trans HB6.out hb7)
      generalize hsz : W6.heap.size = sz at *
      clear hs7 hb7 hsz
      go_wp2_with fail
      go_ret
      exact ⟨_, rfl, by rw [HE.out]; exact HS7.out, by rw [HE.out]; exact HRc.out.keep HB7.out, HGc.out.trans (gb HB7.out)⟩
    · have qx : ((x : Int) == 0) = false := beq_eq_false_iff_ne.2 (by omega)
      have HE : Hid (d3 (d + 1) deep free ρ = (.t1 (projH (names9.getD (ρ.n.v % 9) ⟨#[]⟩) (x : Int)) (d3 d (deep + 1) free ρ.n.n).1, (d3 d (deep + 1) free ρ.n.n).2)) := by show _ = _; rw [d3, if_neg HN1.out, if_neg HN3.out, if_neg HN4.out, if_neg HN8.out, if_neg (by rw [HXV.out]; exact fun e => ex e.2), if_pos (by rw [← HRE.out]; exact e10), HXV.out]
      clear e10 ex
      go_wp2_with fail
      refine (l3Name_any R base _ HR1.out).mono ?_
      rintro e w2 ⟨rfl, hr2, hg2⟩
      have HR2 := hide hr2
      have HG2 := hide (HG1.out.trans hg2)
      clear hr2 hg2
      generalize names9.getD (ρ.n.v % 9) ⟨#[]⟩ = nm at *
      go_wp2_with fail
      refine (IH.out ρ.n.n (deep + 1) free R base _ (by omega) (by omega) (by omega) HR2.out).mono ?_
      rintro e w3 ⟨pa, rfl, hsa, hra, hga⟩
      have HSa := hide hsa
      have HRa := hide hra
      have HGa := hide (HG2.out.trans hga)
      have hRa := hra.lt
      have HAP := hide (l3ProjQ_any (Q := fun b => b ≠ R) nm (x : Int) _ pa w3 (by show _ ≠ R; omega) HSa.out (dr_num (by omega)))
      clear hsa hra hga
      unfold ptrV
      go_wp2_with fail
      refine HAP.out.mono ?_
      rintro e w4 ⟨p4, rfl, hs4, hb4⟩
      unfold ptrV
      have HS4 := hide hs4
      have HB4 := hide hb4
      clear hs4 hb4
      go_wp2_with fail
      go_ret
      exact ⟨p4, rfl, by rw [HE.out]; exact HS4.out, by rw [HE.out]; exact HRa.out.keep HB4.out, HGa.out.trans (gb HB4.out)⟩
  have q10 : ((r : Int) == 10) = false := beq_eq_false_iff_ne.2 (by omega)
  have HN10 : Hid (¬ ρ.v % 12 = 10) := by show ¬ _; rw [← HRE.out]; exact e10
  clear e10
  obtain ⟨y, hy, hy2, HYE⟩ : ∃ y : Nat, (q : Int).tmod 2 = (y : Int) ∧ y < 2 ∧ Hid (y = q % 2) := ⟨q % 2, tmod_is (m := 2), Nat.mod_lt _ (by omega), rfl⟩
  have hwy := wrap_nat y (by omega)
  have HYV : Hid (ρ.v / 12 % 2 = y) := by show _ = _; rw [HYE.out, HQE.out]
  obtain ⟨z, hz, hz2, HZE⟩ : ∃ z : Nat, v.tmod 2 = (z : Int) ∧ z < 2 ∧ Hid (ρ.v % 2 = z) := ⟨ρ.v % 2, by rw [HVE.out]; exact tmod_is (m := 2), Nat.mod_lt _ (by omega), rfl⟩
  have hwz := wrap_nat z (by omega)
  have hwk : IntKind.i64.wrap (5 + (z : Int)) = 5 + (z : Int) := by rw [IntKind.wrap_i64]; omega
  by_cases e11 : r = 11 ∧ y = 0
  · have q11 : ((r : Int) == 11) = true := beq_iff_eq.2 (by omega)
    have qy : ((y : Int) == 0) = true := beq_iff_eq.2 (by omega)
    obtain ⟨u, hu, hu2, HUE⟩ : ∃ u : Nat, (q : Int).tmod 4 = (u : Int) ∧ u < 4 ∧ Hid (u = q % 4) := ⟨q % 4, tmod_is (m := 4), Nat.mod_lt _ (by omega), rfl⟩
    have hwu := wrap_nat u (by omega)
    have HE : Hid (d3 (d + 1) deep free ρ = (.t0 (holeH (u : Int)), ρ.n)) := by show _ = _; rw [d3, if_neg HN1.out, if_neg HN3.out, if_neg HN4.out, if_neg HN8.out, if_neg (fun e => HN10.out e.1), if_neg HN10.out, if_pos ⟨by rw [← HRE.out]; exact e11.1, by rw [HYV.out]; exact e11.2⟩, HUE.out, HQE.out]
    have HH := hide (l3HoleQ_any (fun b => b ≠ R) (u : Int) w1)
    clear e11
    go_wp2_with fail
    refine HH.out.mono ?_
    rintro e w2 ⟨p2, rfl, hs2, hb2⟩
    unfold ptrV
    have HS2 := hide hs2
    have HB2 := hide hb2
    clear hs2 hb2
    go_wp2_with fail
    go_ret
    exact ⟨p2, rfl, by rw [HE.out]; exact HS2.out, by rw [HE.out]; exact HR1.out.keep HB2.out, HG1.out.trans (gb HB2.out)⟩
  have HE : Hid (d3 (d + 1) deep free ρ = (.t2 (bindH (5 + (z : Int)) (x : Int) (short6.getD (ρ.n.v % 6) ⟨#[]⟩)) (d3 d (deep + 1) free ρ.n.n).1 (d3 d (deep + 1) (free + 1) (d3 d (deep + 1) free ρ.n.n).2).1, (d3 d (deep + 1) (free + 1) (d3 d (deep + 1) free ρ.n.n).2).2)) := by show _ = _; rw [d3, if_neg HN1.out, if_neg HN3.out, if_neg HN4.out, if_neg HN8.out, if_neg (fun e => HN10.out e.1), if_neg HN10.out, if_neg (fun e => e11 ⟨by rw [HRE.out]; exact e.1, by rw [← HYV.out]; exact e.2⟩), HZE.out, HXV.out]
  have hcond : (((r : Int) == 11) = false) ∨ (((r : Int) == 11) = true ∧ ((y : Int) == 0) = false) := by
    by_cases h11 : r = 11
    · exact .inr ⟨beq_iff_eq.2 (by omega), beq_eq_false_iff_ne.2 (fun e => e11 ⟨h11, by omega⟩)⟩
    · exact .inl (beq_eq_false_iff_ne.2 (by omega))
  have HBD := hide (fun (F A : Tt) (pf pa : Nat) (W : World) (nm : ByteArray) (h1 : W.heap.size ≠ R) (h2 : SpG (fun b => b ≠ R) W F pf) (h3 : SpG (fun b => b ≠ R) W A pa) (h4 : F.all numP) (h5 : A.all numP) => l3BindQ_any (Q := fun b => b ≠ R) (5 + (z : Int)) (x : Int) nm (by omega) F A pf pa W h1 h2 h3 h4 h5)
  clear e11
  rcases hcond with q11 | ⟨q11, qy⟩
  · go_wp2_with fail
    refine (l3Short_any R base _ HR1.out).mono ?_
    rintro e w2 ⟨rfl, hr2, hg2⟩
    have HR2 := hide hr2
    have HG2 := hide (HG1.out.trans hg2)
    clear hr2 hg2
    generalize short6.getD (ρ.n.v % 6) ⟨#[]⟩ = nm at *
    go_wp2_with fail
    refine (IH.out ρ.n.n (deep + 1) free R base _ (by omega) (by omega) (by omega) HR2.out).mono ?_
    rintro e w3 ⟨pa, rfl, hsa, hra, hga⟩
    have HSa := hide hsa
    have HRa := hide hra
    have HGa := hide (HG2.out.trans hga)
    clear hsa hra hga
    go_wp2_with fail
    refine (IH.out (d3 d (deep + 1) free ρ.n.n).2 (deep + 1) (free + 1) R base _ (by omega) (by omega) (by omega) HRa.out).mono ?_
    rintro e w4 ⟨pb, rfl, hsb, hrb, hgb⟩
    have HSb := hide hsb
    have HRb := hide hrb
    have HGb := hide (HGa.out.trans hgb)
    have HSa := hide (HSa.out.to (Carry.rd HRa.out hgb))
    have hRb := hrb.lt
    have HAP := hide (HBD.out _ _ pa pb w4 nm (by omega) HSa.out HSb.out (dr_num (by omega)) (dr_num (by omega)))
    clear hsb hrb hgb
    unfold ptrV
    go_wp2_with fail
    refine HAP.out.mono ?_
    rintro e w5 ⟨p5, rfl, hs5, hb5⟩
    unfold ptrV
    have HS5 := hide hs5
    have HB5 := hide hb5
    clear hs5 hb5
    go_wp2_with fail
    go_ret
    exact ⟨p5, rfl, by rw [HE.out]; exact HS5.out, by rw [HE.out]; exact HRb.out.keep HB5.out, HGb.out.trans (gb HB5.out)⟩
  · go_wp2_with fail
    refine (l3Short_any R base _ HR1.out).mono ?_
    rintro e w2 ⟨rfl, hr2, hg2⟩
    have HR2 := hide hr2
    have HG2 := hide (HG1.out.trans hg2)
    clear hr2 hg2
    generalize short6.getD (ρ.n.v % 6) ⟨#[]⟩ = nm at *
    go_wp2_with fail
    refine (IH.out ρ.n.n (deep + 1) free R base _ (by omega) (by omega) (by omega) HR2.out).mono ?_
    rintro e w3 ⟨pa, rfl, hsa, hra, hga⟩
    have HSa := hide hsa
    have HRa := hide hra
    have HGa := hide (HG2.out.trans hga)
    clear hsa hra hga
    go_wp2_with fail
    refine (IH.out (d3 d (deep + 1) free ρ.n.n).2 (deep + 1) (free + 1) R base _ (by omega) (by omega) (by omega) HRa.out).mono ?_
    rintro e w4 ⟨pb, rfl, hsb, hrb, hgb⟩
    have HSb := hide hsb
    have HRb := hide hrb
    have HGb := hide (HGa.out.trans hgb)
    have HSa := hide (HSa.out.to (Carry.rd HRa.out hgb))
    have hRb := hrb.lt
    have HAP := hide (HBD.out _ _ pa pb w4 nm (by omega) HSa.out HSb.out (dr_num (by omega)) (dr_num (by omega)))
    clear hsb hrb hgb
    unfold ptrV
    go_wp2_with fail
    refine HAP.out.mono ?_
    rintro e w5 ⟨p5, rfl, hs5, hb5⟩
    unfold ptrV
    have HS5 := hide hs5
    have HB5 := hide hb5
    clear hs5 hb5
    go_wp2_with fail
    go_ret
    exact ⟨p5, rfl, by rw [HE.out]; exact HS5.out, by rw [HE.out]; exact HRb.out.keep HB5.out, HGb.out.trans (gb HB5.out)⟩
theorem l3Draw_all : ∀ d, D3IH d
  | 0 => d3_zero
  | d + 1 => d3_succ d (hide (l3Draw_all d))
end Go.Proofs.YtjkkojefpecbfaaGreat
