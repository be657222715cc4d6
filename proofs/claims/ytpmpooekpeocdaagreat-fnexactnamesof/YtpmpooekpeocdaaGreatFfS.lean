/- What the specification's l5Read answers. -/
import Derived.Test.YtpmpooekpeocdaaGreatFfR
import Derived.Test.YtpmpooekpeocdaaGreatDcG
import Derived.Test.YtpmpooekpeocdaaGreatLwH
namespace Go.Proofs.YtpmpooekpeocdaaGreat
open Go.ChangeShapes Go.WideShapes Go.ChangeAt Go.RowKit

set_option maxRecDepth 20000 in
set_option maxHeartbeats 8000000 in
theorem l5ReadF_any (d : Dc) (pv tv vv cv : Value) (w : World) (hz : DcLens d) (hm : DcV d) (hd : DeclAt w pv tv vv cv d) :
    Calls Tryz.prog 37 #[declV d pv tv vv cv] w fun e w' => RdF w.heap.size (declB d) d pv e w' ∧ Below w.heap.size w w' := by
  obtain ⟨i9, hi9, hz9, hs9, hb9⟩ := info_parts Tryz.info9
  obtain ⟨im, him, hzm, hsm, hbm⟩ := info_parts Tryz.info136
  obtain ⟨pa, pc, hpv⟩ : ∃ a c, pv = .slice a d.ps.length c := by obtain ⟨a, c, h, _⟩ := hd.ps; exact ⟨a, c, h⟩
  obtain ⟨ta, tc, htv⟩ := hd.t.form
  obtain ⟨va, vc, hvv⟩ := hd.v.form
  obtain ⟨ca, cc, hcv⟩ := hd.cs.form
  subst hpv htv hvv hcv
  have HD := hide hd
  have HZ := hide hz
  have HM := hide hm
  rw [← read_decl]
  obtain ⟨A, hA⟩ : ∃ A, A = readB d := ⟨_, rfl⟩
  rw [← hA]
  have HA := hide hA
  obtain ⟨W, hW⟩ : ∃ W, W = w.alloc (.cells #[.int .i64 d.k, .string d.s, .slice pa d.ps.length pc, .slice ta d.t.length tc, .slice va d.v.length vc, .int .i64 d.f, .slice ca d.cs.length cc] 36) := ⟨_, rfl⟩
  have HBW := hide (show Below w.heap.size w W by rw [hW]; exact bel_alloc (Below.refl _ _) _)
  have HW0 : Hid (W.heap[w.heap.size]? = some (.cells #[.int .i64 d.k, .string d.s, .slice pa d.ps.length pc, .slice ta d.t.length tc, .slice va d.v.length vc, .int .i64 d.f, .slice ca d.cs.length cc] 36 (0, 0))) := by show _ = _; rw [hW]; exact heap_alloc_new w _
  have c0 : W.cell? ⟨w.heap.size, 0, none⟩ = some (.int .i64 d.k) := by rw [Lib.cell_of_heap HW0.out]; rfl
  have c1 : W.cell? ⟨w.heap.size, 1, none⟩ = some (.string d.s) := by rw [Lib.cell_of_heap HW0.out]; rfl
  have c2 : W.cell? ⟨w.heap.size, 2, none⟩ = some (.slice pa d.ps.length pc) := by rw [Lib.cell_of_heap HW0.out]; rfl
  have c3 : W.cell? ⟨w.heap.size, 3, none⟩ = some (.slice ta d.t.length tc) := by rw [Lib.cell_of_heap HW0.out]; rfl
  have c4 : W.cell? ⟨w.heap.size, 4, none⟩ = some (.slice va d.v.length vc) := by rw [Lib.cell_of_heap HW0.out]; rfl
  have c5 : W.cell? ⟨w.heap.size, 5, none⟩ = some (.int .i64 d.f) := by rw [Lib.cell_of_heap HW0.out]; rfl
  have c6 : W.cell? ⟨w.heap.size, 6, none⟩ = some (.slice ca d.cs.length cc) := by rw [Lib.cell_of_heap HW0.out]; rfl
  have l0 := lt_cell c0
  clear hd hz hm hA
  unfold declV
  go_enter Tryz.func37, Tryz.ntmps37
  go_upto_region 1 with fail
  rw [← hW]
  clear hW
  by_cases hk1 : d.k < 1
  · have d1 : decide (d.k < 1) = true := decide_eq_true hk1
    have hA : A = false := by rw [HA.out]; unfold readB firstB; rw [show decide (1 ≤ d.k) = false by simp; omega]; rfl
    subst hA
    go_wp2_with fail
    go_ret
    exact ⟨.inl ⟨rfl, rfl⟩, HBW.out⟩
  have d1 : decide (d.k < 1) = false := decide_eq_false hk1
  by_cases hk5 : 5 < d.k
  · have d5 : decide (5 < d.k) = true := decide_eq_true hk5
    have hA : A = false := by rw [HA.out]; unfold readB firstB; rw [show decide (d.k ≤ 5) = false by simp; omega]; simp
    subst hA
    go_wp2_with fail
    go_ret
    exact ⟨.inl ⟨rfl, rfl⟩, HBW.out⟩
  have d5 : decide (5 < d.k) = false := decide_eq_false hk5
  have HC1 := hide (specName_any d.s W HZ.out.s)
  cases hn : nameB d.s with
  | false =>
    rw [hn] at HC1
    have hA : A = false := by rw [HA.out]; unfold readB firstB; rw [hn]; simp
    subst hA
    go_wp2_with fail
    refine HC1.out.mono ?_
    rintro e w1 ⟨rfl, hb1⟩
    have HB1 := hide (bel_trans HBW.out hb1)
    clear hb1
    go_wp2_with fail
    go_ret
    exact ⟨.inl ⟨rfl, rfl⟩, HB1.out⟩
  | true =>
    rw [hn] at HC1
    go_wp2_with fail
    refine HC1.out.mono ?_
    rintro e w1 ⟨rfl, hb1⟩
    have HB1 := hide (bel_trans HBW.out hb1)
    have HW1 : Hid (w1.heap[w.heap.size]? = some (.cells #[.int .i64 d.k, .string d.s, .slice pa d.ps.length pc, .slice ta d.t.length tc, .slice va d.v.length vc, .int .i64 d.f, .slice ca d.cs.length cc] 36 (0, 0))) := (hb1.block _ l0).trans HW0.out
    clear hb1 HC1 HBW HW0 c0 c1 c2 c3 c4 c5 c6 l0
    have c0 : w1.cell? ⟨w.heap.size, 0, none⟩ = some (.int .i64 d.k) := by rw [Lib.cell_of_heap HW1.out]; rfl
    have c1 : w1.cell? ⟨w.heap.size, 1, none⟩ = some (.string d.s) := by rw [Lib.cell_of_heap HW1.out]; rfl
    have c2 : w1.cell? ⟨w.heap.size, 2, none⟩ = some (.slice pa d.ps.length pc) := by rw [Lib.cell_of_heap HW1.out]; rfl
    have c3 : w1.cell? ⟨w.heap.size, 3, none⟩ = some (.slice ta d.t.length tc) := by rw [Lib.cell_of_heap HW1.out]; rfl
    have c4 : w1.cell? ⟨w.heap.size, 4, none⟩ = some (.slice va d.v.length vc) := by rw [Lib.cell_of_heap HW1.out]; rfl
    have c5 : w1.cell? ⟨w.heap.size, 5, none⟩ = some (.int .i64 d.f) := by rw [Lib.cell_of_heap HW1.out]; rfl
    have c6 : w1.cell? ⟨w.heap.size, 6, none⟩ = some (.slice ca d.cs.length cc) := by rw [Lib.cell_of_heap HW1.out]; rfl
    have l0 := lt_cell c0
    by_cases h36 : 36 < d.s.size
    · have d36 : decide ((36 : Int) < (d.s.size : Int)) = true := by simp; omega
      have hA : A = false := by rw [HA.out]; unfold readB firstB; rw [show decide (d.s.size ≤ 36) = false by simp; omega]; simp
      subst hA
      go_wp2_with fail
      go_ret
      exact ⟨.inl ⟨rfl, rfl⟩, HB1.out⟩
    have d36 : decide ((36 : Int) < (d.s.size : Int)) = false := by simp; omega
    have HC2 := hide (l5ParamsOk_any _ d.ps w1 (HD.out.ps.keep HB1.out) HZ.out.ps)
    cases hp : paramsB d.ps with
    | false =>
      rw [hp] at HC2
      have hA : A = false := by rw [HA.out]; unfold readB firstB; rw [hp]; simp
      subst hA
      go_wp2_with fail
      refine HC2.out.mono ?_
      rintro e w2 ⟨rfl, hb2⟩
      have HB2 := hide (bel_trans HB1.out hb2)
      clear hb2
      go_wp2_with fail
      go_ret
      exact ⟨.inl ⟨rfl, rfl⟩, HB2.out⟩
    | true =>
      rw [hp] at HC2
      have HA : Hid (A = (noneB d && restB d)) := by
        show _ = _
        rw [HA.out]; unfold readB
        rw [show firstB d = true by unfold firstB; rw [hn, hp, show decide (1 ≤ d.k) = true by simp; omega, show decide (d.k ≤ 5) = true by simp; omega, show decide (d.s.size ≤ 36) = true by simp; omega]; rfl]
        rfl
      go_wp2_with fail
      refine HC2.out.mono ?_
      rintro e w2 ⟨rfl, hb2⟩
      have HB2 := hide (bel_trans HB1.out hb2)
      have HW2 : Hid (w2.heap[w.heap.size]? = some (.cells #[.int .i64 d.k, .string d.s, .slice pa d.ps.length pc, .slice ta d.t.length tc, .slice va d.v.length vc, .int .i64 d.f, .slice ca d.cs.length cc] 36 (0, 0))) := (hb2.block _ l0).trans HW1.out
      clear hb2 HC2 HB1 HW1 c0 c1 c2 c3 c4 c5 c6 l0 d36 d1 d5
      have c0 : w2.cell? ⟨w.heap.size, 0, none⟩ = some (.int .i64 d.k) := by rw [Lib.cell_of_heap HW2.out]; rfl
      have c1 : w2.cell? ⟨w.heap.size, 1, none⟩ = some (.string d.s) := by rw [Lib.cell_of_heap HW2.out]; rfl
      have c2 : w2.cell? ⟨w.heap.size, 2, none⟩ = some (.slice pa d.ps.length pc) := by rw [Lib.cell_of_heap HW2.out]; rfl
      have c3 : w2.cell? ⟨w.heap.size, 3, none⟩ = some (.slice ta d.t.length tc) := by rw [Lib.cell_of_heap HW2.out]; rfl
      have c4 : w2.cell? ⟨w.heap.size, 4, none⟩ = some (.slice va d.v.length vc) := by rw [Lib.cell_of_heap HW2.out]; rfl
      have c5 : w2.cell? ⟨w.heap.size, 5, none⟩ = some (.int .i64 d.f) := by rw [Lib.cell_of_heap HW2.out]; rfl
      have c6 : w2.cell? ⟨w.heap.size, 6, none⟩ = some (.slice ca d.cs.length cc) := by rw [Lib.cell_of_heap HW2.out]; rfl
      have l0 := lt_cell c0
      obtain ⟨B, hB⟩ : ∃ B, B = w2.heap.size := ⟨_, rfl⟩
      obtain ⟨W3, hW3⟩ : ∃ W3, W3 = w2.alloc (.cells #[.int .i64 d.k, .string d.s, .slice pa d.ps.length pc, .pointer none, .pointer none, .int .i64 d.f, .slice none 0 0] 97) := ⟨_, rfl⟩
      have HS3 : Hid (LSt w #[.int .i64 d.k, .string d.s, .slice pa d.ps.length pc, .slice ta d.t.length tc, .slice va d.v.length vc, .int .i64 d.f, .slice ca d.cs.length cc] B [.int .i64 d.k, .string d.s, .slice pa d.ps.length pc, .pointer none, .pointer none, .int .i64 d.f, .slice none 0 0] W3) := by
        show LSt _ _ _ _ _
        have hb3 : Below w2.heap.size w2 W3 := by rw [hW3]; exact bel_alloc (Below.refl _ _) _
        refine ⟨bel_trans HB2.out hb3, (hb3.block _ l0).trans HW2.out, ?_, by rw [hB]; exact l0⟩
        rw [hW3, hB]
        exact ⟨rfl, .inr ⟨w2.heap.size, 1, #[.int .i64 d.k, .string d.s, .slice pa d.ps.length pc, .pointer none, .pointer none, .int .i64 d.f, .slice none 0 0], rfl, Nat.zero_le _, heap_alloc_new w2 _, Nat.le_refl _, by decide, rfl, rfl⟩⟩
      go_upto_region 4 with fail
      rw [← hW3, ← hB]
      clear hW3 hB HB2 HW2 c0 c1 c2 c3 c4 c5 c6 l0
      have c0 : W3.cell? ⟨w.heap.size, 0, none⟩ = some (.int .i64 d.k) := by rw [Lib.cell_of_heap HS3.out.n0]; rfl
      have c1 : W3.cell? ⟨w.heap.size, 1, none⟩ = some (.string d.s) := by rw [Lib.cell_of_heap HS3.out.n0]; rfl
      have c2 : W3.cell? ⟨w.heap.size, 2, none⟩ = some (.slice pa d.ps.length pc) := by rw [Lib.cell_of_heap HS3.out.n0]; rfl
      have c3 : W3.cell? ⟨w.heap.size, 3, none⟩ = some (.slice ta d.t.length tc) := by rw [Lib.cell_of_heap HS3.out.n0]; rfl
      have c4 : W3.cell? ⟨w.heap.size, 4, none⟩ = some (.slice va d.v.length vc) := by rw [Lib.cell_of_heap HS3.out.n0]; rfl
      have c5 : W3.cell? ⟨w.heap.size, 5, none⟩ = some (.int .i64 d.f) := by rw [Lib.cell_of_heap HS3.out.n0]; rfl
      have c6 : W3.cell? ⟨w.heap.size, 6, none⟩ = some (.slice ca d.cs.length cc) := by rw [Lib.cell_of_heap HS3.out.n0]; rfl
      have l0 := lt_cell c0
      by_cases hne : d.k ≠ 4 ∧ (d.f ≠ 0 ∨ 0 < d.cs.length)
      · obtain ⟨h4, hfc⟩ := hne
        have q4 : (d.k != 4) = true := bne_iff_ne.2 h4
        have hA : A = false := by
          rw [HA.out]; unfold noneB
          rw [show decide (d.k = 4) = false by simp [h4]]
          rcases hfc with h | h
          · rw [show decide (d.f = 0) = false by simp [h]]; rfl
          · rw [show decide (d.cs.length = 0) = false by simp; intro e; rw [e] at h; simp at h]; simp
        subst hA
        by_cases hf : d.f = 0
        · have qf : (d.f != 0) = false := by simp [hf]
          have dc : decide ((0 : Int) < (d.cs.length : Int)) = true := by
            rcases hfc with h | h
            · exact absurd hf h
            · simp; omega
          go_wp2_with fail
          go_ret
          exact ⟨.inl ⟨rfl, rfl⟩, HS3.out.bel⟩
        · have qf : (d.f != 0) = true := bne_iff_ne.2 hf
          go_wp2_with fail
          go_ret
          exact ⟨.inl ⟨rfl, rfl⟩, HS3.out.bel⟩
      have HA : Hid (A = restB d) := by
        show _ = _
        rw [HA.out]
        rw [show noneB d = true by
          unfold noneB
          by_cases h4 : d.k = 4
          · simp [h4]
          · have h1 : d.f = 0 := Classical.byContradiction (fun h => hne ⟨h4, .inl h⟩)
            have h2 : d.cs.length = 0 := by have : ¬ 0 < d.cs.length := fun h => hne ⟨h4, .inr h⟩; omega
            simp [h1, List.eq_nil_of_length_eq_zero h2]]
        rfl
      by_cases h5 : d.k = 5
      · have b5 : (d.k == 5) = true := beq_iff_eq.2 h5
        have HA : Hid (A = quotB d) := by show _ = _; rw [HA.out]; unfold restB; rw [if_pos h5]
        have q4 : (d.k != 4) = true := by rw [h5]; rfl
        have hf0 : d.f = 0 := Classical.byContradiction (fun h => hne ⟨by omega, .inl h⟩)
        have hc0 : d.cs.length = 0 := by have : ¬ 0 < d.cs.length := fun h => hne ⟨by omega, .inr h⟩; omega
        have qf : (d.f != 0) = false := by simp [hf0]
        have dc : ¬ 0 < d.cs.length := by omega
        have HC0 := hide hc0
        clear hne hf0 hc0
        go_upto_region 7 with fail
        clear q4 qf dc b5
        have HQI := hide (quot_iff d.s)
        by_cases hq : d.s = quotS
        · have n1 : (d.s.toList == [81, 117, 111, 116]) = true := by rw [HQI.out]; simp [hq]
          have n2 : (d.s.toList != [81, 117, 111, 116]) = false := by unfold bne; rw [n1]; rfl
          have HA : Hid (A = (decide (d.t.length = 0) && (decide (d.v.length = 0) && decide (d.ps.length = 0)))) := by show _ = _; rw [HA.out]; unfold quotB; rw [show decide (d.s = quotS) = true by simp [hq]]; rfl
          have HC := hide (l5Empty_any _ d.t W3 (HD.out.t.keep HS3.out.bel))
          clear hq
          by_cases ht : d.t.length = 0
          · have e0 : decide (d.t.length = 0) = true := decide_eq_true ht
            rw [e0] at HC HA
            clear e0 ht
            go_wp2_with fail
            refine HC.out.mono ?_
            rintro e w4 ⟨rfl, hb4⟩
            have HS4 := hide (HS3.out.keep hb4)
            clear hb4 HC HS3 c0 c1 c2 c3 c4 c5 c6 l0
            have c0 : w4.cell? ⟨w.heap.size, 0, none⟩ = some (.int .i64 d.k) := by rw [Lib.cell_of_heap HS4.out.n0]; rfl
            have c1 : w4.cell? ⟨w.heap.size, 1, none⟩ = some (.string d.s) := by rw [Lib.cell_of_heap HS4.out.n0]; rfl
            have c2 : w4.cell? ⟨w.heap.size, 2, none⟩ = some (.slice pa d.ps.length pc) := by rw [Lib.cell_of_heap HS4.out.n0]; rfl
            have c3 : w4.cell? ⟨w.heap.size, 3, none⟩ = some (.slice ta d.t.length tc) := by rw [Lib.cell_of_heap HS4.out.n0]; rfl
            have c4 : w4.cell? ⟨w.heap.size, 4, none⟩ = some (.slice va d.v.length vc) := by rw [Lib.cell_of_heap HS4.out.n0]; rfl
            have c5 : w4.cell? ⟨w.heap.size, 5, none⟩ = some (.int .i64 d.f) := by rw [Lib.cell_of_heap HS4.out.n0]; rfl
            have c6 : w4.cell? ⟨w.heap.size, 6, none⟩ = some (.slice ca d.cs.length cc) := by rw [Lib.cell_of_heap HS4.out.n0]; rfl
            have l0 := lt_cell c0
            have HC := hide (l5Empty_any _ d.v w4 (HD.out.v.keep HS4.out.bel))
            by_cases hvl : d.v.length = 0
            · have e1 : decide (d.v.length = 0) = true := decide_eq_true hvl
              rw [e1] at HC HA
              clear e1 hvl
              go_wp2_with fail
              refine HC.out.mono ?_
              rintro e w5 ⟨rfl, hb5⟩
              have HS5 := hide (HS4.out.keep hb5)
              clear hb5 HC HS4 c0 c1 c2 c3 c4 c5 c6 l0
              have c0 : w5.cell? ⟨w.heap.size, 0, none⟩ = some (.int .i64 d.k) := by rw [Lib.cell_of_heap HS5.out.n0]; rfl
              have c1 : w5.cell? ⟨w.heap.size, 1, none⟩ = some (.string d.s) := by rw [Lib.cell_of_heap HS5.out.n0]; rfl
              have c2 : w5.cell? ⟨w.heap.size, 2, none⟩ = some (.slice pa d.ps.length pc) := by rw [Lib.cell_of_heap HS5.out.n0]; rfl
              have c3 : w5.cell? ⟨w.heap.size, 3, none⟩ = some (.slice ta d.t.length tc) := by rw [Lib.cell_of_heap HS5.out.n0]; rfl
              have c4 : w5.cell? ⟨w.heap.size, 4, none⟩ = some (.slice va d.v.length vc) := by rw [Lib.cell_of_heap HS5.out.n0]; rfl
              have c5 : w5.cell? ⟨w.heap.size, 5, none⟩ = some (.int .i64 d.f) := by rw [Lib.cell_of_heap HS5.out.n0]; rfl
              have c6 : w5.cell? ⟨w.heap.size, 6, none⟩ = some (.slice ca d.cs.length cc) := by rw [Lib.cell_of_heap HS5.out.n0]; rfl
              have l0 := lt_cell c0
              by_cases hpl : d.ps.length = 0
              · have dp : ¬ 0 < d.ps.length := by omega
                have hA : A = true := by rw [HA.out, decide_eq_true hpl]; rfl
                subst hA
                clear hpl
                have HFIN : Hid (RdF w.heap.size true d (.slice pa d.ps.length pc) (.returned (.pointer (some ⟨B, 0, none⟩))) w5) := by
                  have hlo := HS5.out.lo
                  have hs := HS5.out.n1
                  have hc := List.eq_nil_of_length_eq_zero HC0.out
                  exact .inr ⟨rfl, B, _, _, _, [], (fun _ => True), rfl, by omega, hs, fun h => absurd h5 h, by rw [hc]; rfl, by rw [hc]; exact ⟨rfl, .inl ⟨rfl, rfl⟩⟩, fun i h => absurd h (by simp)⟩
                go_wp2_with fail
                go_ret
                exact ⟨HFIN.out, HS5.out.bel⟩
              · have dp : 0 < d.ps.length := by omega
                have hA : A = false := by rw [HA.out, decide_eq_false hpl]; rfl
                subst hA
                go_wp2_with fail
                go_ret
                exact ⟨.inl ⟨rfl, rfl⟩, HS5.out.bel⟩
            · have e1 : decide (d.v.length = 0) = false := decide_eq_false hvl
              rw [e1] at HC HA
              have hA : A = false := by rw [HA.out]; rfl
              subst hA
              go_wp2_with fail
              refine HC.out.mono ?_
              rintro e w5 ⟨rfl, hb5⟩
              have HS5 := hide (HS4.out.keep hb5)
              clear hb5
              go_wp2_with fail
              go_ret
              exact ⟨.inl ⟨rfl, rfl⟩, HS5.out.bel⟩
          · have e0 : decide (d.t.length = 0) = false := decide_eq_false ht
            rw [e0] at HC HA
            have hA : A = false := by rw [HA.out]; rfl
            subst hA
            go_wp2_with fail
            refine HC.out.mono ?_
            rintro e w4 ⟨rfl, hb4⟩
            have HS4 := hide (HS3.out.keep hb4)
            clear hb4
            go_wp2_with fail
            go_ret
            exact ⟨.inl ⟨rfl, rfl⟩, HS4.out.bel⟩
        · have n1 : (d.s.toList == [81, 117, 111, 116]) = false := by rw [HQI.out]; simp [hq]
          have n2 : (d.s.toList != [81, 117, 111, 116]) = true := by unfold bne; rw [n1]; rfl
          have hA : A = false := by rw [HA.out]; unfold quotB; rw [show decide (d.s = quotS) = false by simp [hq]]; rfl
          subst hA
          go_wp2_with fail
          go_ret
          exact ⟨.inl ⟨rfl, rfl⟩, HS3.out.bel⟩
      have b5 : (d.k == 5) = false := beq_eq_false_iff_ne.2 h5
      have HA : Hid (A = (plainB d.t d.ps && (valueB d && ctorsB d))) := by show _ = _; rw [HA.out]; unfold restB; rw [if_neg h5]
      have HPL : Hid (∀ (u : Value) (ts : List Td), (∀ td ∈ ts, TLens td) → (∀ td ∈ ts, td.lv.length ≤ 1048576) → ∀ X : World, TNodesAt X u ts → StrsAt X (.slice pa d.ps.length pc) d.ps → Calls Tryz.prog 74 #[.agg #[u], .slice pa d.ps.length pc] X fun e w' => PlOut X.heap.size ts d.ps e w' ∧ Below X.heap.size X w') := fun u ts h1 h2 X h3 h4 => l5Plain_any u _ ts d.ps X h3 h1 h2 h4
      rcases (show d.k = 1 ∨ d.k = 2 ∨ d.k = 3 ∨ d.k = 4 by omega) with hk | hk | hk | hk
      · have q4 : (d.k != 4) = true := by rw [hk]; rfl
        have hf0 : d.f = 0 := Classical.byContradiction (fun h => hne ⟨by omega, .inl h⟩)
        have hc0 : ¬ 0 < d.cs.length := fun h => hne ⟨by omega, .inr h⟩
        have qf : (d.f != 0) = false := by simp [hf0]
        clear hf0
        clear hne
        go_upto_region 10 with fail
        clear b5 q4 qf hc0
        have HC := hide (HPL.out _ d.t HZ.out.t HM.out.t W3 (HD.out.t.keep HS3.out.bel) (HD.out.ps.keep HS3.out.bel))
        go_wp2_with fail
        refine HC.out.mono ?_
        rintro e w4 ⟨hpo, hb4⟩
        have w4S := hide (HS3.out.keep hb4)
        have u3 : w4.cell? ⟨B, 3, none⟩ = some (.pointer none) := by rw [w4S.out.n1.cell 3 (by omega)]; rfl
        have uf : w4.frozen? ⟨B, 3, none⟩ = false := w4S.out.n1.frozen 3
        have lu := lt_cell u3
        clear hb4 HC
        rcases hpo with ⟨hp, rfl⟩ | ⟨hp, hkin, pt, Q, rfl, hF, hQ⟩
        · have HS5 := hide (w4S.out.set 3 (.pointer none))
          have HN := hide (tnone_none (w4.setCell ⟨B, 3, none⟩ (.pointer none)))
          have hA : A = false := by rw [HA.out]; rw [hp]; rfl
          subst hA
          go_wp2_with (first | (go_at_call 75; refine HN.out.mono ?_; rintro e w9 ⟨rfl, hw9⟩; have hw9 := hw9.symm; subst hw9) | fail)
          go_ret
          exact ⟨.inl ⟨rfl, rfl⟩, HS5.out.bel⟩
        obtain ⟨qa, hqn⟩ : ∃ qa, qa = pt (d.t.length - 1) := ⟨_, rfl⟩
        have HT4 : Hid (SpR (offB B (.slice none 0 0) (.slice none 0 0)) w4 d.t qa) := fun T hT => by rw [hqn]; exact (forest_root hkin hF hT).to (carry_new hQ HS3.out.sz (fun g hg => by simp [Value.ownBlock] at hg) (fun g hg => by simp [Value.ownBlock] at hg))
        rw [← hqn]
        clear hqn hkin hF hQ
        obtain ⟨W5, hW5⟩ : ∃ W5, W5 = w4.setCell ⟨B, 3, none⟩ (.pointer (some ⟨qa, 0, none⟩)) := ⟨_, rfl⟩
        have HS5 : Hid (LSt w #[.int .i64 d.k, .string d.s, .slice pa d.ps.length pc, .slice ta d.t.length tc, .slice va d.v.length vc, .int .i64 d.f, .slice ca d.cs.length cc] B [.int .i64 d.k, .string d.s, .slice pa d.ps.length pc, .pointer (some ⟨qa, 0, none⟩), .pointer none, .int .i64 d.f, .slice none 0 0] W5) := by show LSt _ _ _ _ _; rw [hW5]; exact w4S.out.set 3 _
        have HT5 : Hid (SpR (offB B (.slice none 0 0) (.slice none 0 0)) W5 d.t qa) := by show SpR _ _ _ _; rw [hW5]; exact HT4.out.to (carry_set w4S.out.n1 _ _)
        clear HT4
        go_upto_region 11 with fail
        rw [← hW5]
        clear hW5 u3 uf lu w4S c0 c1 c2 c3 c4 c5 c6 l0
        have c0 : W5.cell? ⟨w.heap.size, 0, none⟩ = some (.int .i64 d.k) := by rw [Lib.cell_of_heap HS5.out.n0]; rfl
        have c1 : W5.cell? ⟨w.heap.size, 1, none⟩ = some (.string d.s) := by rw [Lib.cell_of_heap HS5.out.n0]; rfl
        have c2 : W5.cell? ⟨w.heap.size, 2, none⟩ = some (.slice pa d.ps.length pc) := by rw [Lib.cell_of_heap HS5.out.n0]; rfl
        have c3 : W5.cell? ⟨w.heap.size, 3, none⟩ = some (.slice ta d.t.length tc) := by rw [Lib.cell_of_heap HS5.out.n0]; rfl
        have c4 : W5.cell? ⟨w.heap.size, 4, none⟩ = some (.slice va d.v.length vc) := by rw [Lib.cell_of_heap HS5.out.n0]; rfl
        have c5 : W5.cell? ⟨w.heap.size, 5, none⟩ = some (.int .i64 d.f) := by rw [Lib.cell_of_heap HS5.out.n0]; rfl
        have c6 : W5.cell? ⟨w.heap.size, 6, none⟩ = some (.slice ca d.cs.length cc) := by rw [Lib.cell_of_heap HS5.out.n0]; rfl
        have l0 := lt_cell c0
        have u3 : W5.cell? ⟨B, 3, none⟩ = some (.pointer (some ⟨qa, 0, none⟩)) := by rw [HS5.out.n1.cell 3 (by omega)]; rfl
        have lu := lt_cell u3
        have HN := hide (tnone_some ⟨qa, 0, none⟩ W5)
        have HA : Hid (A = (valueB d && ctorsB d)) := by show _ = _; rw [HA.out, hp]; rfl
        clear hp
        go_upto_region 13 with (first | (go_at_call 75; refine HN.out.mono ?_; rintro e w9 ⟨rfl, hw9⟩; have hw9 := hw9.symm; subst hw9) | fail)
        clear u3 lu HN
        have b2 : (d.k == 2) = false := by rw [hk]; rfl
        have b3 : (d.k == 3) = false := by rw [hk]; rfl
        have hv : hasVal d.k = false := by rw [hk]; rfl
        have HA : Hid (A = (decide (d.v.length = 0) && ctorsB d)) := by show _ = _; rw [HA.out]; unfold valueB; rw [if_neg (by rw [hv]; simp)]
        clear hv hk
        go_upto_region 17 with fail
        clear b2 b3
        have HC := hide (l5Empty_any _ d.v W5 (HD.out.v.keep HS5.out.bel))
        by_cases hvl : d.v.length = 0
        rotate_left
        · rw [decide_eq_false hvl] at HC HA
          have hA : A = false := by rw [HA.out]; rfl
          subst hA
          go_wp2_with fail
          refine HC.out.mono ?_
          rintro e w6 ⟨rfl, hb6⟩
          have HS6 := hide (HS5.out.keep hb6)
          clear hb6
          go_wp2_with fail
          go_ret
          exact ⟨.inl ⟨rfl, rfl⟩, HS6.out.bel⟩
        rw [decide_eq_true hvl] at HC HA
        clear hvl
        have HA : Hid (A = ctorsB d) := by show _ = _; rw [HA.out]; rfl
        go_upto_region 19 with (go_at_call 73; refine HC.out.mono ?_; rintro e W7 ⟨rfl, hb7⟩)
        have HS7 := hide (HS5.out.keep hb7)
        have HT7 := hide (HT5.out.keep hb7)
        clear HT5
        have HT5 := HT7
        clear HT7
        clear hb7 HC HS5 c0 c1 c2 c3 c4 c5 c6 l0
        have c0 : W7.cell? ⟨w.heap.size, 0, none⟩ = some (.int .i64 d.k) := by rw [Lib.cell_of_heap HS7.out.n0]; rfl
        have c1 : W7.cell? ⟨w.heap.size, 1, none⟩ = some (.string d.s) := by rw [Lib.cell_of_heap HS7.out.n0]; rfl
        have c2 : W7.cell? ⟨w.heap.size, 2, none⟩ = some (.slice pa d.ps.length pc) := by rw [Lib.cell_of_heap HS7.out.n0]; rfl
        have c3 : W7.cell? ⟨w.heap.size, 3, none⟩ = some (.slice ta d.t.length tc) := by rw [Lib.cell_of_heap HS7.out.n0]; rfl
        have c4 : W7.cell? ⟨w.heap.size, 4, none⟩ = some (.slice va d.v.length vc) := by rw [Lib.cell_of_heap HS7.out.n0]; rfl
        have c5 : W7.cell? ⟨w.heap.size, 5, none⟩ = some (.int .i64 d.f) := by rw [Lib.cell_of_heap HS7.out.n0]; rfl
        have c6 : W7.cell? ⟨w.heap.size, 6, none⟩ = some (.slice ca d.cs.length cc) := by rw [Lib.cell_of_heap HS7.out.n0]; rfl
        have l0 := lt_cell c0
        by_cases hf0 : d.f < 0
        · have df : decide (d.f < 0) = true := decide_eq_true hf0
          have hA : A = false := by rw [HA.out]; unfold ctorsB; rw [show decide (0 ≤ d.f) = false by simp; omega]; rfl
          subst hA
          go_wp2_with fail
          go_ret
          exact ⟨.inl ⟨rfl, rfl⟩, HS7.out.bel⟩
        have df : decide (d.f < 0) = false := decide_eq_false hf0
        by_cases hf5 : 50 < d.f
        · have df5 : decide (50 < d.f) = true := decide_eq_true hf5
          have hA : A = false := by rw [HA.out]; unfold ctorsB; rw [show decide (d.f ≤ 50) = false by simp; omega]; simp
          subst hA
          go_wp2_with fail
          go_ret
          exact ⟨.inl ⟨rfl, rfl⟩, HS7.out.bel⟩
        have df5 : decide (50 < d.f) = false := decide_eq_false hf5
        by_cases hc20 : 20 < d.cs.length
        · have d20 : decide ((20 : Int) < (d.cs.length : Int)) = true := by simp; omega
          have hA : A = false := by rw [HA.out]; unfold ctorsB; rw [show decide (d.cs.length ≤ 20) = false by simp; omega]; simp
          subst hA
          go_wp2_with fail
          go_ret
          exact ⟨.inl ⟨rfl, rfl⟩, HS7.out.bel⟩
        have d20 : decide ((20 : Int) < (d.cs.length : Int)) = false := by simp; omega
        have HA : Hid (A = ctsB d.ps (takenN d.s d.cs 0) (d.cs.drop 0)) := by
          show _ = _
          rw [HA.out]; unfold ctorsB
          rw [show decide (0 ≤ d.f) = true by simp; omega, show decide (d.f ≤ 50) = true by simp; omega, show decide (d.cs.length ≤ 20) = true by simp; omega]
          rfl
        have hs36 : d.s.size ≤ 36 := by omega
        have h4s : (⟨#[46, 114, 101, 99]⟩ : ByteArray).size = 4 := by decide
        have hadd : ∀ w : World, (Op.stringOp .add d.s ⟨#[46, 114, 101, 99]⟩).run Tryz.prog w = .ok (.string (recName d.s)) w := fun w => run_string_add_sum w _ _ (by omega)
        clear h4s
        obtain ⟨rn, hrn⟩ : ∃ rn, rn = recName d.s := ⟨_, rfl⟩
        rw [← hrn] at hadd
        have HRN := hide hrn
        clear hrn
        obtain ⟨W8, hW8⟩ : ∃ W8, W8 = W7.alloc (.cells #[.string d.s, .string rn] 9) := ⟨_, rfl⟩
        have hb8 : Below W7.heap.size W7 W8 := by rw [hW8]; exact bel_alloc (Below.refl _ _) _
        have HO8 : Hid (W8.ownsRow (B + 1) 9 1 (.slice (some ⟨W7.heap.size, 0, none⟩) (2 + 0) 2) (2 + 0) ((takenN d.s d.cs 0).map Value.string)) := by
          show World.ownsRow _ _ _ _ _ _ _
          rw [hW8]
          refine ⟨rfl, .inr ⟨W7.heap.size, 2, #[.string d.s, .string rn], rfl, HS7.out.sz, heap_alloc_new W7 _, Nat.le_refl _, by unfold maxLen; omega, rfl, ?_⟩⟩
          rw [HRN.out]
          rfl
        have HS8 : Hid (LSt w #[.int .i64 d.k, .string d.s, .slice pa d.ps.length pc, .slice ta d.t.length tc, .slice va d.v.length vc, .int .i64 d.f, .slice ca d.cs.length cc] B [.int .i64 d.k, .string d.s, .slice pa d.ps.length pc, .pointer (some ⟨qa, 0, none⟩), .pointer none, .int .i64 d.f, .slice none 0 0] W8) := HS7.out.keep hb8
        have HP8 : Hid (W8.ownsRow (B + 1) 136 2 (.slice none 0 0) 0 (ctCells (d.cs.take 0) [])) := ⟨rfl, .inl ⟨rfl, rfl⟩⟩
        have HT8 : Hid (SpR (offB B (.slice (some ⟨W7.heap.size, 0, none⟩) (2 + 0) 2) (.slice none 0 0)) W8 d.t qa) := HT5.out.to (carry_bel hb8 (fun b hb => hb) (fun g hg => by simp [Value.ownBlock] at hg; omega))
        have HU8 : Hid (∀ i (h : i < ([] : List Nat).length) (h2 : i < d.cs.length), SpR (offB B (.slice (some ⟨W7.heap.size, 0, none⟩) (2 + 0) 2) (.slice none 0 0)) W8 d.cs[i].t ([] : List Nat)[i]) := fun i h => absurd h (by simp)
        clear df df5 d20
        go_upto_region 22 with fail
        first | rw [← hW8] | skip
        clear hW8 hb8 hadd HS7 HT5
        go_wp2_with fail
        go_loopw [4, 5] (fun t i wr => ∃ (j g cap : Nat) (ad : Option Addr) (cp : Nat) (qs : List Nat), j ≤ d.cs.length ∧ i = .int .i64 j ∧ t = .slice (some ⟨g, 0, none⟩) (2 + j) cap ∧ Hid (wr.ownsRow (B + 1) 9 1 (.slice (some ⟨g, 0, none⟩) (2 + j) cap) (2 + j) ((takenN d.s d.cs j).map Value.string)) ∧ Hid (A = ctsB d.ps (takenN d.s d.cs j) (d.cs.drop j)) ∧ Hid (LSt w #[.int .i64 d.k, .string d.s, .slice pa d.ps.length pc, .slice ta d.t.length tc, .slice va d.v.length vc, .int .i64 d.f, .slice ca d.cs.length cc] B [.int .i64 d.k, .string d.s, .slice pa d.ps.length pc, .pointer (some ⟨qa, 0, none⟩), .pointer none, .int .i64 d.f, .slice ad j cp] wr) ∧ Hid (wr.ownsRow (B + 1) 136 2 (.slice ad j cp) j (ctCells (d.cs.take j) qs)) ∧ Hid (qs.length = j) ∧ Hid (SpR (offB B (.slice (some ⟨g, 0, none⟩) (2 + j) cap) (.slice ad j cp)) wr d.t qa) ∧ Hid (∀ i (h : i < qs.length) (h2 : i < d.cs.length), SpR (offB B (.slice (some ⟨g, 0, none⟩) (2 + j) cap) (.slice ad j cp)) wr d.cs[i].t qs[i])) (fun _ i _ => d.cs.length - (intOf i).toNat)
        case atStart => exact ⟨0, _, _, none, 0, [], by omega, rfl, rfl, HO8, HA, HS8, HP8, rfl, HT8, HU8⟩
        case round =>
          clear HO8 HS8 HP8 HT8 HU8 c0 c1 c2 c3 c4 c5 c6 l0
          obtain ⟨j, g, cap, ad, cp, qs, hj, rfl, rfl, HO, HAJ, HSJ, HPJ, HQL, HTJ, HUJ⟩ := hrel
          have c0 : wr.cell? ⟨w.heap.size, 0, none⟩ = some (.int .i64 d.k) := by rw [Lib.cell_of_heap HSJ.out.n0]; rfl
          have c1 : wr.cell? ⟨w.heap.size, 1, none⟩ = some (.string d.s) := by rw [Lib.cell_of_heap HSJ.out.n0]; rfl
          have c2 : wr.cell? ⟨w.heap.size, 2, none⟩ = some (.slice pa d.ps.length pc) := by rw [Lib.cell_of_heap HSJ.out.n0]; rfl
          have c3 : wr.cell? ⟨w.heap.size, 3, none⟩ = some (.slice ta d.t.length tc) := by rw [Lib.cell_of_heap HSJ.out.n0]; rfl
          have c4 : wr.cell? ⟨w.heap.size, 4, none⟩ = some (.slice va d.v.length vc) := by rw [Lib.cell_of_heap HSJ.out.n0]; rfl
          have c5 : wr.cell? ⟨w.heap.size, 5, none⟩ = some (.int .i64 d.f) := by rw [Lib.cell_of_heap HSJ.out.n0]; rfl
          have c6 : wr.cell? ⟨w.heap.size, 6, none⟩ = some (.slice ca d.cs.length cc) := by rw [Lib.cell_of_heap HSJ.out.n0]; rfl
          have l0 := lt_cell c0
          have HGW : Hid (g < wr.heap.size) := (World.ownsRow.lt HO.out g rfl).2
          have HGP : Hid (∀ q, (Value.slice ad j cp).ownBlock = some q → q < wr.heap.size) := fun q hq => (World.ownsRow.lt HPJ.out q hq).2
          by_cases hlt : j < d.cs.length
          · have hlt' : (j : Int) < d.cs.length := by omega
            obtain ⟨a', cap', e', _, _, hc0⟩ := HD.out.cs
            obtain ⟨b, off, ha, hc⟩ := hc0 (by omega)
            have ea : ca = some ⟨b, off, none⟩ := by rw [← ha]; injection e'
            subst ea
            obtain ⟨x1, u, x2, hu⟩ := hc j hlt
            have x1 := keep_cell HSJ.out.bel x1
            have x2 := keep_cell HSJ.out.bel x2
            obtain ⟨ua, uc, rfl⟩ := hu.form
            have HU := hide (hu.keep HSJ.out.bel)
            have HCZ := hide (HZ.out.cs d.cs[j] (List.getElem_mem hlt))
            have HCM := hide (HM.out.cs d.cs[j] (List.getElem_mem hlt))
            have HN2 := hide (cts_at d.ps d.s d.cs j hlt)
            have HTS := hide (takenN_succ d.s d.cs j hlt)
            have HTL := hide (takenN_len d.s d.cs j hj)
            clear hc hc0 e' ha hu
            have HCT : Hid (∀ q, ctCells (d.cs.take (j + 1)) (qs ++ [q]) = ctCells (d.cs.take j) qs ++ [.string d.cs[j].s, .pointer (some ⟨q, 0, none⟩)]) := fun q => by rw [List.take_succ_eq_append_getElem hlt, ctCells_snoc _ _ _ _ (by rw [List.length_take, HQL.out]; omega)]
            have HUS : Hid (∀ (Q : Nat → Prop) (X : World) (q : Nat), (∀ i (h : i < qs.length) (h2 : i < d.cs.length), SpR Q X d.cs[i].t qs[i]) → SpR Q X d.cs[j].t q → ∀ i (h : i < (qs ++ [q]).length) (h2 : i < d.cs.length), SpR Q X d.cs[i].t (qs ++ [q])[i]) := fun Q X q h0 hq i h h2 => by
              have hl := HQL.out
              by_cases e : i < j
              · have e2 : (qs ++ [q])[i] = qs[i]'(by omega) := List.getElem_append_left (by omega)
                rw [e2]
                exact h0 i (by omega) h2
              · have ei : i = j := by simp at h; omega
                subst ei
                have e2 : (qs ++ [q])[i] = q := by simp [hl]
                rw [e2]
                exact hq
            generalize d.cs[j] = c at *
            obtain ⟨W9, hW9⟩ : ∃ W9, W9 = wr.alloc (.cells #[.string c.s, .slice ua c.t.length uc] 73) := ⟨_, rfl⟩
            have hb9 : Below wr.heap.size wr W9 := by rw [hW9]; exact bel_alloc (Below.refl _ _) _
            have y0 : W9.cell? ⟨wr.heap.size, 0, none⟩ = some (.string c.s) := by rw [hW9]; simp [go_sem]
            have y1 : W9.cell? ⟨wr.heap.size, 1, none⟩ = some (.slice ua c.t.length uc) := by rw [hW9]; simp [go_sem]
            have ly := lt_cell y1
            have lx := lt_cell x1
            have HS9 := hide (HSJ.out.keep hb9)
            have HO9 := hide (row_keep hb9 HO.out)
            have HP9 := hide (row_keep hb9 HPJ.out)
            have HU9 := hide (HU.out.keep hb9)
            have HT9 := hide (HTJ.out.keep hb9)
            have HV9 : Hid (∀ i (h : i < qs.length) (h2 : i < d.cs.length), SpR (offB B (.slice (some ⟨g, 0, none⟩) (2 + j) cap) (.slice ad j cp)) W9 d.cs[i].t qs[i]) := fun i h h2 => (HUJ.out i h h2).keep hb9
            go_upto_region 26 with fail
            rw [← hW9]
            clear hW9 hb9 x1 x2 lx c0 c1 c2 c3 c4 c5 c6 l0 HU
            have c2 : W9.cell? ⟨w.heap.size, 2, none⟩ = some (.slice pa d.ps.length pc) := by rw [Lib.cell_of_heap HS9.out.n0]; rfl
            have l2 := lt_cell c2
            have HC := hide (HPL.out _ c.t HCZ.out.2 HCM.out W9 HU9.out (HD.out.ps.keep HS9.out.bel))
            go_wp2_with fail
            refine HC.out.mono ?_
            rintro e w10 ⟨hpo, hb10⟩
            have HS10 := hide (HS9.out.keep hb10)
            have HO10 := hide (row_keep hb10 HO9.out)
            have HP10 := hide (row_keep hb10 HP9.out)
            have HT10 := hide (HT9.out.keep hb10)
            have HV10 : Hid (∀ i (h : i < qs.length) (h2 : i < d.cs.length), SpR (offB B (.slice (some ⟨g, 0, none⟩) (2 + j) cap) (.slice ad j cp)) w10 d.cs[i].t qs[i]) := fun i h h2 => (HV9.out i h h2).keep hb10
            have HL10 : Hid (B < W9.heap.size ∧ g < W9.heap.size ∧ ∀ q, (Value.slice ad j cp).ownBlock = some q → q < W9.heap.size) := ⟨HS9.out.sz, (World.ownsRow.lt HO9.out g rfl).2, fun q hq => (World.ownsRow.lt HP9.out q hq).2⟩
            have y0 := keep_cell hb10 y0
            have ly := lt_cell y0
            clear hb10 HC HS9 HO9 HP9 HU9 HT9 HV9 HTJ HUJ y1 c2 l2
            rcases hpo with ⟨hp, rfl⟩ | ⟨hp, hkin, pt, Q, rfl, hF, hQ⟩
            · have hA : A = false := by rw [HAJ.out, HN2.out, hp]; rfl
              subst hA
              have HN := hide (tnone_none w10)
              go_wp2_with (first | (go_at_call 75; refine HN.out.mono ?_; rintro e w9 ⟨rfl, hw9⟩; have hw9 := hw9.symm; subst hw9) | fail)
              go_ret
              exact ⟨.inl ⟨rfl, rfl⟩, HS10.out.bel⟩
            obtain ⟨qc, hqc⟩ : ∃ qc, qc = pt (c.t.length - 1) := ⟨_, rfl⟩
            have HW10 : Hid (SpR (offB B (.slice (some ⟨g, 0, none⟩) (2 + j) cap) (.slice ad j cp)) w10 c.t qc) := fun T hT => by rw [hqc]; exact (forest_root hkin hF hT).to (carry_new hQ HL10.out.1 (fun q hq => by simp [Value.ownBlock] at hq; have := HL10.out.2.1; omega) HL10.out.2.2)
            rw [← hqc]
            clear hqc hkin hF hQ HL10
            have HX10 : Hid (∀ i (h : i < (qs ++ [qc]).length) (h2 : i < d.cs.length), SpR (offB B (.slice (some ⟨g, 0, none⟩) (2 + j) cap) (.slice ad j cp)) w10 d.cs[i].t (qs ++ [qc])[i]) := HUS.out _ _ _ HV10.out HW10.out
            clear HV10 HW10 HUS
            have HN := hide (tnone_some ⟨qc, 0, none⟩ w10)
            have HC1 := hide (specName_any c.s w10 HCZ.out.1)
            cases hn : nameB c.s with
            | false =>
              rw [hn] at HC1
              have hA : A = false := by rw [HAJ.out, HN2.out, hn]; simp
              subst hA
              go_wp2_with (first | (go_at_call 75; refine HN.out.mono ?_; rintro e w9 ⟨rfl, hw9⟩; have hw9 := hw9.symm; subst hw9) | (go_at_call 71; refine HC1.out.mono ?_; rintro e w11 ⟨rfl, hb11⟩) | fail)
              go_ret
              exact ⟨.inl ⟨rfl, rfl⟩, (HS10.out.keep hb11).bel⟩
            | true =>
              rw [hn] at HC1
              go_wp2_with (first | (go_at_call 75; refine HN.out.mono ?_; rintro e w9 ⟨rfl, hw9⟩; have hw9 := hw9.symm; subst hw9) | fail)
              refine HC1.out.mono ?_
              rintro e w11 ⟨rfl, hb11⟩
              have HS11 := hide (HS10.out.keep hb11)
              have HO11 := hide (row_keep hb11 HO10.out)
              have HP11 := hide (row_keep hb11 HP10.out)
              have HT11 := hide (HT10.out.keep hb11)
              have HX11 : Hid (∀ i (h : i < (qs ++ [qc]).length) (h2 : i < d.cs.length), SpR (offB B (.slice (some ⟨g, 0, none⟩) (2 + j) cap) (.slice ad j cp)) w11 d.cs[i].t (qs ++ [qc])[i]) := fun i h h2 => (HX10.out i h h2).keep hb11
              have y0 := keep_cell hb11 y0
              have ly := lt_cell y0
              have HSS : Hid (StrsAt w11 (.slice (some ⟨g, 0, none⟩) (2 + j) cap) (takenN d.s d.cs j)) := by
                show StrsAt _ _ _
                exact row_strs (e := 9) (base := B + 1) (by rw [HTL.out]; exact HO11.out)
              have HC2 := hide (l1In_any _ _ c.s w11 HSS.out)
              clear hb11 HC1 HS10 HO10 HP10 HT10 HX10 HN
              cases hq : hasB (takenN d.s d.cs j) c.s with
              | true =>
                rw [hq] at HC2
                have hA : A = false := by rw [HAJ.out, HN2.out, hq]; simp
                subst hA
                go_wp2_with fail
                refine HC2.out.mono ?_
                rintro e w12 ⟨rfl, rfl⟩
                go_wp2_with fail
                go_ret
                exact ⟨.inl ⟨rfl, rfl⟩, HS11.out.bel⟩
              | false =>
                rw [hq] at HC2
                have HA5 : Hid (A = ctsB d.ps (takenN d.s d.cs (j + 1)) (d.cs.drop (j + 1))) := by show _ = _; rw [HAJ.out, HN2.out, hp, hn, hq]; rfl
                go_wp2_with fail
                refine HC2.out.mono ?_
                rintro e w12 ⟨rfl, rfl⟩
                clear HC2 HN2 HAJ HSS
                obtain ⟨W12, hW12⟩ : ∃ W12, W12 = w12.alloc (.cells #[.string c.s] 9) := ⟨_, rfl⟩
                have hb12 : Below w12.heap.size w12 W12 := by rw [hW12]; exact bel_alloc (Below.refl _ _) _
                have hh12 : W12.heap[w12.heap.size]? = some (.cells #[.string c.s] 9 (0, 0)) := by rw [hW12]; exact heap_alloc_new w12 _
                have HS12 := hide (HS11.out.keep hb12)
                have HO12 := hide (row_keep hb12 HO11.out)
                have HP12 := hide (row_keep hb12 HP11.out)
                have HY12 := hide (keep_cell hb12 y0)
                have HT12 := hide (HT11.out.keep hb12)
                have HX12 : Hid (∀ i (h : i < (qs ++ [qc]).length) (h2 : i < d.cs.length), SpR (offB B (.slice (some ⟨g, 0, none⟩) (2 + j) cap) (.slice ad j cp)) W12 d.cs[i].t (qs ++ [qc])[i]) := fun i h h2 => (HX11.out i h h2).keep hb12
                have hs12 := HS12.out.sz
                have hs12b : w12.heap.size < W12.heap.size := by rw [hW12]; simp
                clear hb12 HS11 HO11 HP11 HT11 HX11
                go_wp2_with (first
                  | (at_builtin
                     rw [← hW12]
                     refine wpList_append_lies _ rfl _ _ 22 rfl (B + 1) 9 i9 (.string ⟨#[]⟩) 1 16 Tryz.underlying22 hi9 hz9 hs9 hb9 rfl (by omega) (.slice (some ⟨g, 0, none⟩) (2 + j) cap) (2 + j) ((takenN d.s d.cs j).map Value.string) rfl HO12.out ⟨w12.heap.size, 0, none⟩ 1 1 [.string c.s] rfl rfl (World.news_of_block (cs := #[.string c.s]) (t := 9) (fr := (0, 0)) hh12) (by intro u hu; simp at hu; rcases hu with rfl; rfl) (by omega) (by unfold maxLen; omega) (by omega) (by omega) W12.heap.size rfl ?_)
                  | fail)
                intro g13 cap13 w13 hown13 hgrow13 hat13 hlt13
                rw [← hW12] at hgrow13
                have HK13 : Hid (Carry (offB B (.slice (some ⟨g, 0, none⟩) (2 + j) cap) (.slice ad j cp)) (offB B (.slice (some ⟨g13, 0, none⟩) (2 + (j + 1)) cap13) (.slice ad j cp)) W12 w13) := carry_v1 HO12.out (by decide) (by decide) hgrow13 (hat13.imp id (fun e => by rw [e, hW12]; simp))
                have HT13 := hide (HT12.out.to HK13.out)
                have HX13 : Hid (∀ i (h : i < (qs ++ [qc]).length) (h2 : i < d.cs.length), SpR (offB B (.slice (some ⟨g13, 0, none⟩) (2 + (j + 1)) cap13) (.slice ad j cp)) w13 d.cs[i].t (qs ++ [qc])[i]) := fun i h h2 => (HX12.out i h h2).to HK13.out
                have HS13 := hide (HS12.out.row HO12.out hgrow13)
                have HO13 : Hid (w13.ownsRow (B + 1) 9 1 (.slice (some ⟨g13, 0, none⟩) (2 + (j + 1)) cap13) (2 + (j + 1)) ((takenN d.s d.cs (j + 1)).map Value.string)) := by show World.ownsRow _ _ _ _ _ _ _; rw [HTS.out, List.map_append]; exact hown13
                have HP13 : Hid (w13.ownsRow (B + 1) 136 2 (.slice ad j cp) j (ctCells (d.cs.take j) qs)) := row_same HP12.out (fun q hq => hgrow13.block q (World.ownsRow.lt HP12.out q hq).2 (fun e => rows_apart HP12.out HO12.out (by decide) q hq e.symm))
                have y0 : w13.cell? ⟨wr.heap.size, 0, none⟩ = some (.string c.s) := heap_cell (hgrow13.block _ (lt_cell HY12.out) (fun e => by have h1 : wr.heap.size = g := Option.some.inj e; have := HGW.out; omega)) HY12.out
                have ly := lt_cell y0
                have n6 : w13.cell? ⟨B, 6, none⟩ = some (.slice ad j cp) := by rw [HS13.out.n1.cell 6 (by omega)]; rfl
                have l6 := lt_cell n6
                clear hown13 hgrow13 hat13 hlt13 hW12 hh12 HS12 HO12 HP12 HY12 hs12 hs12b HT12 HX12 HK13
                go_wp2_with fail
                have hS0 : (fun w' : World => w'.heap[B]? = w13.heap[B]? ∧ w'.heap[wr.heap.size]? = w13.heap[wr.heap.size]?) w13.drew := ⟨rfl, rfl⟩
                refine anyE_region (L := 13) (S := (fun w' : World => w'.heap[B]? = w13.heap[B]? ∧ w'.heap[wr.heap.size]? = w13.heap[wr.heap.size]?)) (by kernel_rfl) ?_
                refine anyE_take 0 (v := ?v1) rfl (by kernel_rfl) (by kernel_rfl) (by kernel_rfl) (by kernel_rfl) (fun _ _ _ h => h) (by rfl) ?hy1 hS0 ?rest1
                case hy1 =>
                  intro wx hx
                  go_simp
                  try rfl
                case rest1 =>
                intro K hK
                go_simp
                refine hK.out _ ?_
                clear hK K
                refine anyE_take 1 (v := ?v2) rfl (by kernel_rfl) (by kernel_rfl) (by kernel_rfl) (by kernel_rfl) (fun _ _ _ h => h) (by rfl) ?hy2 hS0 ?rest2
                case hy2 =>
                  intro wx hx
                  go_simp
                  try rfl
                case rest2 =>
                intro K hK
                go_simp
                refine hK.out _ ?_
                clear hK K
                refine anyE_take 2 (v := ?v3) rfl (by kernel_rfl) (by kernel_rfl) (by kernel_rfl) (by kernel_rfl) (fun _ _ _ h => h) (by rfl) ?hy3 hS0 ?rest3
                case hy3 =>
                  intro wx hx
                  go_simp
                  try rfl
                case rest3 =>
                intro K hK
                go_simp
                refine hK.out _ ?_
                clear hK K
                refine anyE_take 3 (v := ?v4) rfl (by kernel_rfl) (by kernel_rfl) (by kernel_rfl) (by kernel_rfl) (fun _ _ _ h => h) (by rfl) ?hy4 hS0 ?rest4
                case hy4 =>
                  intro wx hx
                  go_simp
                  try rfl
                case rest4 =>
                intro K hK
                go_simp
                refine hK.out _ ?_
                clear hK K
                refine anyE_take 4 (v := ?v5) rfl (by kernel_rfl) (by kernel_rfl) (by kernel_rfl) (by kernel_rfl) (fun _ _ _ h => h) (by rfl) ?hy5 hS0 ?rest5
                case hy5 =>
                  intro wx hx
                  have m6 : wx.cell? ⟨B, 6, none⟩ = some (.slice ad j cp) := heap_cell hx.1 n6
                  have lm := lt_cell m6
                  go_simp
                  try rfl
                case rest5 =>
                intro K hK
                go_simp
                refine hK.out _ ?_
                clear hK K
                refine anyE_take 5 (v := ?v6) rfl (by kernel_rfl) (by kernel_rfl) (by kernel_rfl) (by kernel_rfl) (fun _ _ _ h => h) (by rfl) ?hy6 hS0 ?rest6
                case hy6 =>
                  intro wx hx
                  go_simp
                  try rfl
                case rest6 =>
                intro K hK
                go_simp
                refine hK.out _ ?_
                clear hK K
                refine anyE_take 6 (v := ?v7) rfl (by kernel_rfl) (by kernel_rfl) (by kernel_rfl) (by kernel_rfl) (fun _ _ _ h => h) (by rfl) ?hy7 hS0 ?rest7
                case hy7 =>
                  intro wx hx
                  have m6 : wx.cell? ⟨wr.heap.size, 0, none⟩ = some (.string c.s) := heap_cell hx.2 y0
                  have lm := lt_cell m6
                  go_simp
                  try rfl
                case rest7 =>
                intro K hK
                go_simp
                refine hK.out _ ?_
                clear hK K
                refine anyE_take 7 (v := ?v8) rfl (by kernel_rfl) (by kernel_rfl) (by kernel_rfl) (by kernel_rfl) (fun _ _ _ h => h) (by rfl) ?hy8 hS0 ?rest8
                case hy8 =>
                  intro wx hx
                  go_simp
                  try rfl
                case rest8 =>
                intro K hK
                go_simp
                refine hK.out _ ?_
                clear hK K
                refine anyE_take 8 (v := ?v9) rfl (by kernel_rfl) (by kernel_rfl) (by kernel_rfl) (by kernel_rfl) (fun _ _ _ h => h) (by rfl) ?hy9 hS0 ?rest9
                case hy9 =>
                  intro wx hx
                  go_simp
                  try rfl
                case rest9 =>
                intro K hK
                go_simp
                refine hK.out _ ?_
                clear hK K
                refine anyE_one 9 (by kernel_rfl) rfl (fun K hK => ?_)
                go_simp
                obtain ⟨W14, hW14⟩ : ∃ W14, W14 = (w13.alloc (.cells #[.string c.s, .pointer (some ⟨qc, 0, none⟩)] 136)).drew := ⟨_, rfl⟩
                rw [← hW14]
                have hb14 : Below w13.heap.size w13 W14 := by rw [hW14]; exact (bel_alloc (Below.refl _ _) _).drew
                have hh14 : W14.heap[w13.heap.size]? = some (.cells #[.string c.s, .pointer (some ⟨qc, 0, none⟩)] 136 (0, 0)) := by rw [hW14]; exact heap_alloc_new w13 _
                have hS1 : (fun w' : World => w'.heap[B]? = w13.heap[B]? ∧ w'.heap[wr.heap.size]? = w13.heap[wr.heap.size]?) W14 := ⟨hb14.block _ l6, hb14.block _ ly⟩
                refine hK.out _ _ (fun _ => hS1) ?_
                clear hK K
                have HS14 := hide (HS13.out.keep hb14)
                have HO14 := hide (row_keep hb14 HO13.out)
                have HP14 := hide (row_keep hb14 HP13.out)
                have HT14 := hide (HT13.out.keep hb14)
                have HX14 : Hid (∀ i (h : i < (qs ++ [qc]).length) (h2 : i < d.cs.length), SpR (offB B (.slice (some ⟨g13, 0, none⟩) (2 + (j + 1)) cap13) (.slice ad j cp)) W14 d.cs[i].t (qs ++ [qc])[i]) := fun i h h2 => (HX13.out i h h2).keep hb14
                have hs14 := HS14.out.sz
                have hs14b : w13.heap.size < W14.heap.size := by rw [hW14]; simp
                have hly14 : wr.heap.size < W14.heap.size := by omega
                clear hb14 hW14 HS13 HO13 HP13 HT13 HX13
                refine anyE_one 10 (by kernel_rfl) rfl (fun K hK => ?_)
                refine step_append_lies _ rfl _ _ 95 rfl (B + 1) 136 im (.agg #[.string ⟨#[]⟩, .pointer none]) 2 24 Tryz.underlying95 him hzm hsm hbm rfl (by omega) (.slice ad j cp) j (ctCells (d.cs.take j) qs) rfl HP14.out ⟨w13.heap.size, 0, none⟩ 1 1 [.string c.s, .pointer (some ⟨qc, 0, none⟩)] rfl rfl (World.news_of_block (cs := #[.string c.s, .pointer (some ⟨qc, 0, none⟩)]) (t := 136) (fr := (0, 0)) hh14) (by intro u hu; simp at hu; rcases hu with rfl | rfl <;> rfl) (by omega) (by unfold maxLen; omega) (by omega) (by omega) W14.heap.size rfl ?_
                intro g15 cap15 w15 hown15 hgrow15 hat15 hlt15
                have HS15 := hide (HS14.out.row HP14.out hgrow15)
                have HK15 : Hid (Carry (offB B (.slice (some ⟨g13, 0, none⟩) (2 + (j + 1)) cap13) (.slice ad j cp)) (offB B (.slice (some ⟨g13, 0, none⟩) (2 + (j + 1)) cap13) (.slice (some ⟨g15, 0, none⟩) (j + 1) cap15)) W14 w15) := carry_v2 HP14.out (by decide) (by decide) hgrow15 hat15
                have HT15 := hide (HT14.out.to HK15.out)
                have HX15 : Hid (∀ i (h : i < (qs ++ [qc]).length) (h2 : i < d.cs.length), SpR (offB B (.slice (some ⟨g13, 0, none⟩) (2 + (j + 1)) cap13) (.slice (some ⟨g15, 0, none⟩) (j + 1) cap15)) w15 d.cs[i].t (qs ++ [qc])[i]) := fun i h h2 => (HX14.out i h h2).to HK15.out
                have HO15 : Hid (w15.ownsRow (B + 1) 9 1 (.slice (some ⟨g13, 0, none⟩) (2 + (j + 1)) cap13) (2 + (j + 1)) ((takenN d.s d.cs (j + 1)).map Value.string)) := row_same HO14.out (fun q hq => hgrow15.block q (World.ownsRow.lt HO14.out q hq).2 (fun e => rows_apart HO14.out HP14.out (by decide) q hq e.symm))
                have hS2 : (fun w' : World => w'.heap[B]? = w13.heap[B]? ∧ w'.heap[wr.heap.size]? = w13.heap[wr.heap.size]?) w15 := ⟨(hgrow15.block B (by omega) (fun e => by have := (World.ownsRow.lt HP14.out B e.symm).1; omega)).trans hS1.1, (hgrow15.block wr.heap.size hly14 (fun e => by have := HGP.out _ e.symm; omega)).trans hS1.2⟩
                refine hK.out _ _ (fun _ => hS2) ?_
                clear hK K
                have HOW : Hid (w15.ownsRow (B + 1) 136 2 (.slice (some ⟨g15, 0, none⟩) (j + 1) cap15) (j + 1) (ctCells (d.cs.take (j + 1)) (qs ++ [qc]))) := by show World.ownsRow _ _ _ _ _ _ _; rw [HCT.out]; exact hown15
                have n6 : w15.cell? ⟨B, 6, none⟩ = some (.slice ad j cp) := by rw [HS15.out.n1.cell 6 (by omega)]; rfl
                have f6 : w15.frozen? ⟨B, 6, none⟩ = false := HS15.out.n1.frozen 6
                have l6 := lt_cell n6
                clear hown15 hgrow15 hat15 hlt15 HS14 HO14 HP14 HT14 HX14 HK15 hh14 hS0 hS1 hs14 hs14b hly14 y0 ly
                refine anyE_one 11 (by kernel_rfl) rfl (fun K hK => ?_)
                go_simp
                refine hK.out _ _ (fun _ => hS2) ?_
                clear hK K
                refine anyE_one 12 (by kernel_rfl) rfl (fun K hK => ?_)
                go_simp
                refine hK.out _ _ (fun _ => hS2) ?_
                clear hK K
                refine anyE_one 13 (by kernel_rfl) rfl (fun K hK => ?_)
                go_simp
                refine hK.out _ _ (fun h => absurd rfl h) ?_
                clear hK K
                refine anyE_done (by kernel_rfl) ?_ _
                have HS16 := hide (HS15.out.set 6 (.slice (some ⟨g15, 0, none⟩) (j + 1) cap15))
                have HO16 := hide (row_same HO15.out (w' := w15.setCell ⟨B, 6, none⟩ (.slice (some ⟨g15, 0, none⟩) (j + 1) cap15)) (fun q hq => (grown_set w15 ⟨B, 6, none⟩ _).block q (World.ownsRow.lt HO15.out q hq).2 (fun e => by have h1 : q = B := Option.some.inj e; have := (World.ownsRow.lt HO15.out q hq).1; omega)))
                have HP16 := hide (row_same HOW.out (w' := w15.setCell ⟨B, 6, none⟩ (.slice (some ⟨g15, 0, none⟩) (j + 1) cap15)) (fun q hq => (grown_set w15 ⟨B, 6, none⟩ _).block q (World.ownsRow.lt HOW.out q hq).2 (fun e => by have h1 : q = B := Option.some.inj e; have := (World.ownsRow.lt HOW.out q hq).1; omega)))
                have HT16 := hide (HT15.out.to (carry_set HS15.out.n1 6 (.slice (some ⟨g15, 0, none⟩) (j + 1) cap15)))
                have HX16 : Hid (∀ i (h : i < (qs ++ [qc]).length) (h2 : i < d.cs.length), SpR (offB B (.slice (some ⟨g13, 0, none⟩) (2 + (j + 1)) cap13) (.slice (some ⟨g15, 0, none⟩) (j + 1) cap15)) (w15.setCell ⟨B, 6, none⟩ (.slice (some ⟨g15, 0, none⟩) (j + 1) cap15)) d.cs[i].t (qs ++ [qc])[i]) := fun i h h2 => (HX15.out i h h2).to (carry_set HS15.out.n1 6 _)
                have HQ16 : Hid ((qs ++ [qc]).length = j + 1) := by show _ = _; rw [List.length_append, HQL.out]; rfl
                clear HS15 HO15 HOW HT15 HX15 HQL HCT n6 f6 l6 hS2
                go_wp2_with fail
                go_roundw
                case rel => exact ⟨j + 1, g13, cap13, some ⟨g15, 0, none⟩, cap15, qs ++ [qc], hlt, by go_num, by first | rfl | (congr 1; omega), HO16, HA5, HS16, HP16, HQ16, HT16, HX16⟩
                case measure => simp [intOf]; omega
          · have hA : A = true := by
              rw [HAJ.out, List.drop_eq_nil_of_le (by omega)]
              rfl
            subst hA
            have hlt' : ¬ (j : Int) < d.cs.length := by omega
            have ej : j = d.cs.length := by omega
            have HFIN : Hid (RdF w.heap.size true d (.slice pa d.ps.length pc) (.returned (.pointer (some ⟨B, 0, none⟩))) wr) := by
              have hlo := HSJ.out.lo
              have hp := HPJ.out
              rw [List.take_of_length_le (by omega)] at hp
              have hql := HQL.out
              have hs := HSJ.out.n1
              subst ej
              exact .inr ⟨rfl, B, _, _, _, qs, _, rfl, by omega, hs, fun _ => ⟨qa, rfl, HTJ.out⟩, hql, hp, HUJ.out⟩
            clear ej HPJ HQL HTJ HUJ HO HAJ
            go_wp2_with fail
            go_ret
            exact ⟨HFIN.out, HSJ.out.bel⟩
      · have q4 : (d.k != 4) = true := by rw [hk]; rfl
        have hf0 : d.f = 0 := Classical.byContradiction (fun h => hne ⟨by omega, .inl h⟩)
        have hc0 : ¬ 0 < d.cs.length := fun h => hne ⟨by omega, .inr h⟩
        have qf : (d.f != 0) = false := by simp [hf0]
        clear hf0
        clear hne
        go_upto_region 10 with fail
        clear b5 q4 qf hc0
        have HC := hide (HPL.out _ d.t HZ.out.t HM.out.t W3 (HD.out.t.keep HS3.out.bel) (HD.out.ps.keep HS3.out.bel))
        go_wp2_with fail
        refine HC.out.mono ?_
        rintro e w4 ⟨hpo, hb4⟩
        have w4S := hide (HS3.out.keep hb4)
        have u3 : w4.cell? ⟨B, 3, none⟩ = some (.pointer none) := by rw [w4S.out.n1.cell 3 (by omega)]; rfl
        have uf : w4.frozen? ⟨B, 3, none⟩ = false := w4S.out.n1.frozen 3
        have lu := lt_cell u3
        clear hb4 HC
        rcases hpo with ⟨hp, rfl⟩ | ⟨hp, hkin, pt, Q, rfl, hF, hQ⟩
        · have HS5 := hide (w4S.out.set 3 (.pointer none))
          have HN := hide (tnone_none (w4.setCell ⟨B, 3, none⟩ (.pointer none)))
          have hA : A = false := by rw [HA.out]; rw [hp]; rfl
          subst hA
          go_wp2_with (first | (go_at_call 75; refine HN.out.mono ?_; rintro e w9 ⟨rfl, hw9⟩; have hw9 := hw9.symm; subst hw9) | fail)
          go_ret
          exact ⟨.inl ⟨rfl, rfl⟩, HS5.out.bel⟩
        obtain ⟨qa, hqn⟩ : ∃ qa, qa = pt (d.t.length - 1) := ⟨_, rfl⟩
        have HT4 : Hid (SpR (offB B (.slice none 0 0) (.slice none 0 0)) w4 d.t qa) := fun T hT => by rw [hqn]; exact (forest_root hkin hF hT).to (carry_new hQ HS3.out.sz (fun g hg => by simp [Value.ownBlock] at hg) (fun g hg => by simp [Value.ownBlock] at hg))
        rw [← hqn]
        clear hqn hkin hF hQ
        obtain ⟨W5, hW5⟩ : ∃ W5, W5 = w4.setCell ⟨B, 3, none⟩ (.pointer (some ⟨qa, 0, none⟩)) := ⟨_, rfl⟩
        have HS5 : Hid (LSt w #[.int .i64 d.k, .string d.s, .slice pa d.ps.length pc, .slice ta d.t.length tc, .slice va d.v.length vc, .int .i64 d.f, .slice ca d.cs.length cc] B [.int .i64 d.k, .string d.s, .slice pa d.ps.length pc, .pointer (some ⟨qa, 0, none⟩), .pointer none, .int .i64 d.f, .slice none 0 0] W5) := by show LSt _ _ _ _ _; rw [hW5]; exact w4S.out.set 3 _
        have HT5 : Hid (SpR (offB B (.slice none 0 0) (.slice none 0 0)) W5 d.t qa) := by show SpR _ _ _ _; rw [hW5]; exact HT4.out.to (carry_set w4S.out.n1 _ _)
        clear HT4
        go_upto_region 11 with fail
        rw [← hW5]
        clear hW5 u3 uf lu w4S c0 c1 c2 c3 c4 c5 c6 l0
        have c0 : W5.cell? ⟨w.heap.size, 0, none⟩ = some (.int .i64 d.k) := by rw [Lib.cell_of_heap HS5.out.n0]; rfl
        have c1 : W5.cell? ⟨w.heap.size, 1, none⟩ = some (.string d.s) := by rw [Lib.cell_of_heap HS5.out.n0]; rfl
        have c2 : W5.cell? ⟨w.heap.size, 2, none⟩ = some (.slice pa d.ps.length pc) := by rw [Lib.cell_of_heap HS5.out.n0]; rfl
        have c3 : W5.cell? ⟨w.heap.size, 3, none⟩ = some (.slice ta d.t.length tc) := by rw [Lib.cell_of_heap HS5.out.n0]; rfl
        have c4 : W5.cell? ⟨w.heap.size, 4, none⟩ = some (.slice va d.v.length vc) := by rw [Lib.cell_of_heap HS5.out.n0]; rfl
        have c5 : W5.cell? ⟨w.heap.size, 5, none⟩ = some (.int .i64 d.f) := by rw [Lib.cell_of_heap HS5.out.n0]; rfl
        have c6 : W5.cell? ⟨w.heap.size, 6, none⟩ = some (.slice ca d.cs.length cc) := by rw [Lib.cell_of_heap HS5.out.n0]; rfl
        have l0 := lt_cell c0
        have u3 : W5.cell? ⟨B, 3, none⟩ = some (.pointer (some ⟨qa, 0, none⟩)) := by rw [HS5.out.n1.cell 3 (by omega)]; rfl
        have lu := lt_cell u3
        have HN := hide (tnone_some ⟨qa, 0, none⟩ W5)
        have HA : Hid (A = (valueB d && ctorsB d)) := by show _ = _; rw [HA.out, hp]; rfl
        clear hp
        go_upto_region 13 with (first | (go_at_call 75; refine HN.out.mono ?_; rintro e w9 ⟨rfl, hw9⟩; have hw9 := hw9.symm; subst hw9) | fail)
        clear u3 lu HN
        have b2 : (d.k == 2) = true := by rw [hk]; rfl
        have b3 : (d.k == 3) = false := by rw [hk]; rfl
        have hv : hasVal d.k = true := by rw [hk]; rfl
        have HA : Hid (A = (plainB d.v d.ps && ctorsB d)) := by show _ = _; rw [HA.out]; unfold valueB; rw [if_pos hv]
        clear hv hk
        go_upto_region 14 with fail
        clear b2 b3
        have HC := hide (HPL.out _ d.v HZ.out.v HM.out.v W5 (HD.out.v.keep HS5.out.bel) (HD.out.ps.keep HS5.out.bel))
        go_wp2_with fail
        refine HC.out.mono ?_
        rintro e w6 ⟨hpo, hb4⟩
        have HT4 := hide (HT5.out.keep hb4)
        clear HT5
        have w6S := hide (HS5.out.keep hb4)
        have u3 : w6.cell? ⟨B, 4, none⟩ = some (.pointer none) := by rw [w6S.out.n1.cell 4 (by omega)]; rfl
        have uf : w6.frozen? ⟨B, 4, none⟩ = false := w6S.out.n1.frozen 4
        have lu := lt_cell u3
        clear hb4 HC
        rcases hpo with ⟨hp, rfl⟩ | ⟨hp, hkin, pt, Q, rfl, hF, hQ⟩
        · have HS5 := hide (w6S.out.set 4 (.pointer none))
          have HN := hide (tnone_none (w6.setCell ⟨B, 4, none⟩ (.pointer none)))
          have hA : A = false := by rw [HA.out]; rw [hp]; rfl
          subst hA
          go_wp2_with (first | (go_at_call 75; refine HN.out.mono ?_; rintro e w9 ⟨rfl, hw9⟩; have hw9 := hw9.symm; subst hw9) | fail)
          go_ret
          exact ⟨.inl ⟨rfl, rfl⟩, HS5.out.bel⟩
        obtain ⟨qb, hqn⟩ : ∃ qb, qb = pt (d.v.length - 1) := ⟨_, rfl⟩
        rw [← hqn]
        clear hqn hkin hF hQ
        obtain ⟨W7, hW7⟩ : ∃ W7, W7 = w6.setCell ⟨B, 4, none⟩ (.pointer (some ⟨qb, 0, none⟩)) := ⟨_, rfl⟩
        have HS7 : Hid (LSt w #[.int .i64 d.k, .string d.s, .slice pa d.ps.length pc, .slice ta d.t.length tc, .slice va d.v.length vc, .int .i64 d.f, .slice ca d.cs.length cc] B [.int .i64 d.k, .string d.s, .slice pa d.ps.length pc, .pointer (some ⟨qa, 0, none⟩), .pointer (some ⟨qb, 0, none⟩), .int .i64 d.f, .slice none 0 0] W7) := by show LSt _ _ _ _ _; rw [hW7]; exact w6S.out.set 4 _
        have HT5 : Hid (SpR (offB B (.slice none 0 0) (.slice none 0 0)) W7 d.t qa) := by show SpR _ _ _ _; rw [hW7]; exact HT4.out.to (carry_set w6S.out.n1 _ _)
        clear HT4
        go_upto_region 15 with fail
        rw [← hW7]
        clear hW7 u3 uf lu w6S c0 c1 c2 c3 c4 c5 c6 l0
        have c0 : W7.cell? ⟨w.heap.size, 0, none⟩ = some (.int .i64 d.k) := by rw [Lib.cell_of_heap HS7.out.n0]; rfl
        have c1 : W7.cell? ⟨w.heap.size, 1, none⟩ = some (.string d.s) := by rw [Lib.cell_of_heap HS7.out.n0]; rfl
        have c2 : W7.cell? ⟨w.heap.size, 2, none⟩ = some (.slice pa d.ps.length pc) := by rw [Lib.cell_of_heap HS7.out.n0]; rfl
        have c3 : W7.cell? ⟨w.heap.size, 3, none⟩ = some (.slice ta d.t.length tc) := by rw [Lib.cell_of_heap HS7.out.n0]; rfl
        have c4 : W7.cell? ⟨w.heap.size, 4, none⟩ = some (.slice va d.v.length vc) := by rw [Lib.cell_of_heap HS7.out.n0]; rfl
        have c5 : W7.cell? ⟨w.heap.size, 5, none⟩ = some (.int .i64 d.f) := by rw [Lib.cell_of_heap HS7.out.n0]; rfl
        have c6 : W7.cell? ⟨w.heap.size, 6, none⟩ = some (.slice ca d.cs.length cc) := by rw [Lib.cell_of_heap HS7.out.n0]; rfl
        have l0 := lt_cell c0
        have u3 : W7.cell? ⟨B, 4, none⟩ = some (.pointer (some ⟨qb, 0, none⟩)) := by rw [HS7.out.n1.cell 4 (by omega)]; rfl
        have lu := lt_cell u3
        have HN := hide (tnone_some ⟨qb, 0, none⟩ W7)
        have HA : Hid (A = ctorsB d) := by show _ = _; rw [HA.out, hp]; rfl
        clear hp
        go_upto_region 19 with (first | (go_at_call 75; refine HN.out.mono ?_; rintro e w9 ⟨rfl, hw9⟩; have hw9 := hw9.symm; subst hw9) | fail)
        clear u3 lu HN
        by_cases hf0 : d.f < 0
        · have df : decide (d.f < 0) = true := decide_eq_true hf0
          have hA : A = false := by rw [HA.out]; unfold ctorsB; rw [show decide (0 ≤ d.f) = false by simp; omega]; rfl
          subst hA
          go_wp2_with fail
          go_ret
          exact ⟨.inl ⟨rfl, rfl⟩, HS7.out.bel⟩
        have df : decide (d.f < 0) = false := decide_eq_false hf0
        by_cases hf5 : 50 < d.f
        · have df5 : decide (50 < d.f) = true := decide_eq_true hf5
          have hA : A = false := by rw [HA.out]; unfold ctorsB; rw [show decide (d.f ≤ 50) = false by simp; omega]; simp
          subst hA
          go_wp2_with fail
          go_ret
          exact ⟨.inl ⟨rfl, rfl⟩, HS7.out.bel⟩
        have df5 : decide (50 < d.f) = false := decide_eq_false hf5
        by_cases hc20 : 20 < d.cs.length
        · have d20 : decide ((20 : Int) < (d.cs.length : Int)) = true := by simp; omega
          have hA : A = false := by rw [HA.out]; unfold ctorsB; rw [show decide (d.cs.length ≤ 20) = false by simp; omega]; simp
          subst hA
          go_wp2_with fail
          go_ret
          exact ⟨.inl ⟨rfl, rfl⟩, HS7.out.bel⟩
        have d20 : decide ((20 : Int) < (d.cs.length : Int)) = false := by simp; omega
        have HA : Hid (A = ctsB d.ps (takenN d.s d.cs 0) (d.cs.drop 0)) := by
          show _ = _
          rw [HA.out]; unfold ctorsB
          rw [show decide (0 ≤ d.f) = true by simp; omega, show decide (d.f ≤ 50) = true by simp; omega, show decide (d.cs.length ≤ 20) = true by simp; omega]
          rfl
        have hs36 : d.s.size ≤ 36 := by omega
        have h4s : (⟨#[46, 114, 101, 99]⟩ : ByteArray).size = 4 := by decide
        have hadd : ∀ w : World, (Op.stringOp .add d.s ⟨#[46, 114, 101, 99]⟩).run Tryz.prog w = .ok (.string (recName d.s)) w := fun w => run_string_add_sum w _ _ (by omega)
        clear h4s
        obtain ⟨rn, hrn⟩ : ∃ rn, rn = recName d.s := ⟨_, rfl⟩
        rw [← hrn] at hadd
        have HRN := hide hrn
        clear hrn
        obtain ⟨W8, hW8⟩ : ∃ W8, W8 = W7.alloc (.cells #[.string d.s, .string rn] 9) := ⟨_, rfl⟩
        have hb8 : Below W7.heap.size W7 W8 := by rw [hW8]; exact bel_alloc (Below.refl _ _) _
        have HO8 : Hid (W8.ownsRow (B + 1) 9 1 (.slice (some ⟨W7.heap.size, 0, none⟩) (2 + 0) 2) (2 + 0) ((takenN d.s d.cs 0).map Value.string)) := by
          show World.ownsRow _ _ _ _ _ _ _
          rw [hW8]
          refine ⟨rfl, .inr ⟨W7.heap.size, 2, #[.string d.s, .string rn], rfl, HS7.out.sz, heap_alloc_new W7 _, Nat.le_refl _, by unfold maxLen; omega, rfl, ?_⟩⟩
          rw [HRN.out]
          rfl
        have HS8 : Hid (LSt w #[.int .i64 d.k, .string d.s, .slice pa d.ps.length pc, .slice ta d.t.length tc, .slice va d.v.length vc, .int .i64 d.f, .slice ca d.cs.length cc] B [.int .i64 d.k, .string d.s, .slice pa d.ps.length pc, .pointer (some ⟨qa, 0, none⟩), .pointer (some ⟨qb, 0, none⟩), .int .i64 d.f, .slice none 0 0] W8) := HS7.out.keep hb8
        have HP8 : Hid (W8.ownsRow (B + 1) 136 2 (.slice none 0 0) 0 (ctCells (d.cs.take 0) [])) := ⟨rfl, .inl ⟨rfl, rfl⟩⟩
        have HT8 : Hid (SpR (offB B (.slice (some ⟨W7.heap.size, 0, none⟩) (2 + 0) 2) (.slice none 0 0)) W8 d.t qa) := HT5.out.to (carry_bel hb8 (fun b hb => hb) (fun g hg => by simp [Value.ownBlock] at hg; omega))
        have HU8 : Hid (∀ i (h : i < ([] : List Nat).length) (h2 : i < d.cs.length), SpR (offB B (.slice (some ⟨W7.heap.size, 0, none⟩) (2 + 0) 2) (.slice none 0 0)) W8 d.cs[i].t ([] : List Nat)[i]) := fun i h => absurd h (by simp)
        clear df df5 d20
        go_upto_region 22 with fail
        first | rw [← hW8] | skip
        clear hW8 hb8 hadd HS7 HT5
        go_wp2_with fail
        go_loopw [4, 5] (fun t i wr => ∃ (j g cap : Nat) (ad : Option Addr) (cp : Nat) (qs : List Nat), j ≤ d.cs.length ∧ i = .int .i64 j ∧ t = .slice (some ⟨g, 0, none⟩) (2 + j) cap ∧ Hid (wr.ownsRow (B + 1) 9 1 (.slice (some ⟨g, 0, none⟩) (2 + j) cap) (2 + j) ((takenN d.s d.cs j).map Value.string)) ∧ Hid (A = ctsB d.ps (takenN d.s d.cs j) (d.cs.drop j)) ∧ Hid (LSt w #[.int .i64 d.k, .string d.s, .slice pa d.ps.length pc, .slice ta d.t.length tc, .slice va d.v.length vc, .int .i64 d.f, .slice ca d.cs.length cc] B [.int .i64 d.k, .string d.s, .slice pa d.ps.length pc, .pointer (some ⟨qa, 0, none⟩), .pointer (some ⟨qb, 0, none⟩), .int .i64 d.f, .slice ad j cp] wr) ∧ Hid (wr.ownsRow (B + 1) 136 2 (.slice ad j cp) j (ctCells (d.cs.take j) qs)) ∧ Hid (qs.length = j) ∧ Hid (SpR (offB B (.slice (some ⟨g, 0, none⟩) (2 + j) cap) (.slice ad j cp)) wr d.t qa) ∧ Hid (∀ i (h : i < qs.length) (h2 : i < d.cs.length), SpR (offB B (.slice (some ⟨g, 0, none⟩) (2 + j) cap) (.slice ad j cp)) wr d.cs[i].t qs[i])) (fun _ i _ => d.cs.length - (intOf i).toNat)
        case atStart => exact ⟨0, _, _, none, 0, [], by omega, rfl, rfl, HO8, HA, HS8, HP8, rfl, HT8, HU8⟩
        case round =>
          clear HO8 HS8 HP8 HT8 HU8 c0 c1 c2 c3 c4 c5 c6 l0
          obtain ⟨j, g, cap, ad, cp, qs, hj, rfl, rfl, HO, HAJ, HSJ, HPJ, HQL, HTJ, HUJ⟩ := hrel
          have c0 : wr.cell? ⟨w.heap.size, 0, none⟩ = some (.int .i64 d.k) := by rw [Lib.cell_of_heap HSJ.out.n0]; rfl
          have c1 : wr.cell? ⟨w.heap.size, 1, none⟩ = some (.string d.s) := by rw [Lib.cell_of_heap HSJ.out.n0]; rfl
          have c2 : wr.cell? ⟨w.heap.size, 2, none⟩ = some (.slice pa d.ps.length pc) := by rw [Lib.cell_of_heap HSJ.out.n0]; rfl
          have c3 : wr.cell? ⟨w.heap.size, 3, none⟩ = some (.slice ta d.t.length tc) := by rw [Lib.cell_of_heap HSJ.out.n0]; rfl
          have c4 : wr.cell? ⟨w.heap.size, 4, none⟩ = some (.slice va d.v.length vc) := by rw [Lib.cell_of_heap HSJ.out.n0]; rfl
          have c5 : wr.cell? ⟨w.heap.size, 5, none⟩ = some (.int .i64 d.f) := by rw [Lib.cell_of_heap HSJ.out.n0]; rfl
          have c6 : wr.cell? ⟨w.heap.size, 6, none⟩ = some (.slice ca d.cs.length cc) := by rw [Lib.cell_of_heap HSJ.out.n0]; rfl
          have l0 := lt_cell c0
          have HGW : Hid (g < wr.heap.size) := (World.ownsRow.lt HO.out g rfl).2
          have HGP : Hid (∀ q, (Value.slice ad j cp).ownBlock = some q → q < wr.heap.size) := fun q hq => (World.ownsRow.lt HPJ.out q hq).2
          by_cases hlt : j < d.cs.length
          · have hlt' : (j : Int) < d.cs.length := by omega
            obtain ⟨a', cap', e', _, _, hc0⟩ := HD.out.cs
            obtain ⟨b, off, ha, hc⟩ := hc0 (by omega)
            have ea : ca = some ⟨b, off, none⟩ := by rw [← ha]; injection e'
            subst ea
            obtain ⟨x1, u, x2, hu⟩ := hc j hlt
            have x1 := keep_cell HSJ.out.bel x1
            have x2 := keep_cell HSJ.out.bel x2
            obtain ⟨ua, uc, rfl⟩ := hu.form
            have HU := hide (hu.keep HSJ.out.bel)
            have HCZ := hide (HZ.out.cs d.cs[j] (List.getElem_mem hlt))
            have HCM := hide (HM.out.cs d.cs[j] (List.getElem_mem hlt))
            have HN2 := hide (cts_at d.ps d.s d.cs j hlt)
            have HTS := hide (takenN_succ d.s d.cs j hlt)
            have HTL := hide (takenN_len d.s d.cs j hj)
            clear hc hc0 e' ha hu
            have HCT : Hid (∀ q, ctCells (d.cs.take (j + 1)) (qs ++ [q]) = ctCells (d.cs.take j) qs ++ [.string d.cs[j].s, .pointer (some ⟨q, 0, none⟩)]) := fun q => by rw [List.take_succ_eq_append_getElem hlt, ctCells_snoc _ _ _ _ (by rw [List.length_take, HQL.out]; omega)]
            have HUS : Hid (∀ (Q : Nat → Prop) (X : World) (q : Nat), (∀ i (h : i < qs.length) (h2 : i < d.cs.length), SpR Q X d.cs[i].t qs[i]) → SpR Q X d.cs[j].t q → ∀ i (h : i < (qs ++ [q]).length) (h2 : i < d.cs.length), SpR Q X d.cs[i].t (qs ++ [q])[i]) := fun Q X q h0 hq i h h2 => by
              have hl := HQL.out
              by_cases e : i < j
              · have e2 : (qs ++ [q])[i] = qs[i]'(by omega) := List.getElem_append_left (by omega)
                rw [e2]
                exact h0 i (by omega) h2
              · have ei : i = j := by simp at h; omega
                subst ei
                have e2 : (qs ++ [q])[i] = q := by simp [hl]
                rw [e2]
                exact hq
            generalize d.cs[j] = c at *
            obtain ⟨W9, hW9⟩ : ∃ W9, W9 = wr.alloc (.cells #[.string c.s, .slice ua c.t.length uc] 73) := ⟨_, rfl⟩
            have hb9 : Below wr.heap.size wr W9 := by rw [hW9]; exact bel_alloc (Below.refl _ _) _
            have y0 : W9.cell? ⟨wr.heap.size, 0, none⟩ = some (.string c.s) := by rw [hW9]; simp [go_sem]
            have y1 : W9.cell? ⟨wr.heap.size, 1, none⟩ = some (.slice ua c.t.length uc) := by rw [hW9]; simp [go_sem]
            have ly := lt_cell y1
            have lx := lt_cell x1
            have HS9 := hide (HSJ.out.keep hb9)
            have HO9 := hide (row_keep hb9 HO.out)
            have HP9 := hide (row_keep hb9 HPJ.out)
            have HU9 := hide (HU.out.keep hb9)
            have HT9 := hide (HTJ.out.keep hb9)
            have HV9 : Hid (∀ i (h : i < qs.length) (h2 : i < d.cs.length), SpR (offB B (.slice (some ⟨g, 0, none⟩) (2 + j) cap) (.slice ad j cp)) W9 d.cs[i].t qs[i]) := fun i h h2 => (HUJ.out i h h2).keep hb9
            go_upto_region 26 with fail
            rw [← hW9]
            clear hW9 hb9 x1 x2 lx c0 c1 c2 c3 c4 c5 c6 l0 HU
            have c2 : W9.cell? ⟨w.heap.size, 2, none⟩ = some (.slice pa d.ps.length pc) := by rw [Lib.cell_of_heap HS9.out.n0]; rfl
            have l2 := lt_cell c2
            have HC := hide (HPL.out _ c.t HCZ.out.2 HCM.out W9 HU9.out (HD.out.ps.keep HS9.out.bel))
            go_wp2_with fail
            refine HC.out.mono ?_
            rintro e w10 ⟨hpo, hb10⟩
            have HS10 := hide (HS9.out.keep hb10)
            have HO10 := hide (row_keep hb10 HO9.out)
            have HP10 := hide (row_keep hb10 HP9.out)
            have HT10 := hide (HT9.out.keep hb10)
            have HV10 : Hid (∀ i (h : i < qs.length) (h2 : i < d.cs.length), SpR (offB B (.slice (some ⟨g, 0, none⟩) (2 + j) cap) (.slice ad j cp)) w10 d.cs[i].t qs[i]) := fun i h h2 => (HV9.out i h h2).keep hb10
            have HL10 : Hid (B < W9.heap.size ∧ g < W9.heap.size ∧ ∀ q, (Value.slice ad j cp).ownBlock = some q → q < W9.heap.size) := ⟨HS9.out.sz, (World.ownsRow.lt HO9.out g rfl).2, fun q hq => (World.ownsRow.lt HP9.out q hq).2⟩
            have y0 := keep_cell hb10 y0
            have ly := lt_cell y0
            clear hb10 HC HS9 HO9 HP9 HU9 HT9 HV9 HTJ HUJ y1 c2 l2
            rcases hpo with ⟨hp, rfl⟩ | ⟨hp, hkin, pt, Q, rfl, hF, hQ⟩
            · have hA : A = false := by rw [HAJ.out, HN2.out, hp]; rfl
              subst hA
              have HN := hide (tnone_none w10)
              go_wp2_with (first | (go_at_call 75; refine HN.out.mono ?_; rintro e w9 ⟨rfl, hw9⟩; have hw9 := hw9.symm; subst hw9) | fail)
              go_ret
              exact ⟨.inl ⟨rfl, rfl⟩, HS10.out.bel⟩
            obtain ⟨qc, hqc⟩ : ∃ qc, qc = pt (c.t.length - 1) := ⟨_, rfl⟩
            have HW10 : Hid (SpR (offB B (.slice (some ⟨g, 0, none⟩) (2 + j) cap) (.slice ad j cp)) w10 c.t qc) := fun T hT => by rw [hqc]; exact (forest_root hkin hF hT).to (carry_new hQ HL10.out.1 (fun q hq => by simp [Value.ownBlock] at hq; have := HL10.out.2.1; omega) HL10.out.2.2)
            rw [← hqc]
            clear hqc hkin hF hQ HL10
            have HX10 : Hid (∀ i (h : i < (qs ++ [qc]).length) (h2 : i < d.cs.length), SpR (offB B (.slice (some ⟨g, 0, none⟩) (2 + j) cap) (.slice ad j cp)) w10 d.cs[i].t (qs ++ [qc])[i]) := HUS.out _ _ _ HV10.out HW10.out
            clear HV10 HW10 HUS
            have HN := hide (tnone_some ⟨qc, 0, none⟩ w10)
            have HC1 := hide (specName_any c.s w10 HCZ.out.1)
            cases hn : nameB c.s with
            | false =>
              rw [hn] at HC1
              have hA : A = false := by rw [HAJ.out, HN2.out, hn]; simp
              subst hA
              go_wp2_with (first | (go_at_call 75; refine HN.out.mono ?_; rintro e w9 ⟨rfl, hw9⟩; have hw9 := hw9.symm; subst hw9) | (go_at_call 71; refine HC1.out.mono ?_; rintro e w11 ⟨rfl, hb11⟩) | fail)
              go_ret
              exact ⟨.inl ⟨rfl, rfl⟩, (HS10.out.keep hb11).bel⟩
            | true =>
              rw [hn] at HC1
              go_wp2_with (first | (go_at_call 75; refine HN.out.mono ?_; rintro e w9 ⟨rfl, hw9⟩; have hw9 := hw9.symm; subst hw9) | fail)
              refine HC1.out.mono ?_
              rintro e w11 ⟨rfl, hb11⟩
              have HS11 := hide (HS10.out.keep hb11)
              have HO11 := hide (row_keep hb11 HO10.out)
              have HP11 := hide (row_keep hb11 HP10.out)
              have HT11 := hide (HT10.out.keep hb11)
              have HX11 : Hid (∀ i (h : i < (qs ++ [qc]).length) (h2 : i < d.cs.length), SpR (offB B (.slice (some ⟨g, 0, none⟩) (2 + j) cap) (.slice ad j cp)) w11 d.cs[i].t (qs ++ [qc])[i]) := fun i h h2 => (HX10.out i h h2).keep hb11
              have y0 := keep_cell hb11 y0
              have ly := lt_cell y0
              have HSS : Hid (StrsAt w11 (.slice (some ⟨g, 0, none⟩) (2 + j) cap) (takenN d.s d.cs j)) := by
                show StrsAt _ _ _
                exact row_strs (e := 9) (base := B + 1) (by rw [HTL.out]; exact HO11.out)
              have HC2 := hide (l1In_any _ _ c.s w11 HSS.out)
              clear hb11 HC1 HS10 HO10 HP10 HT10 HX10 HN
              cases hq : hasB (takenN d.s d.cs j) c.s with
              | true =>
                rw [hq] at HC2
                have hA : A = false := by rw [HAJ.out, HN2.out, hq]; simp
                subst hA
                go_wp2_with fail
                refine HC2.out.mono ?_
                rintro e w12 ⟨rfl, rfl⟩
                go_wp2_with fail
                go_ret
                exact ⟨.inl ⟨rfl, rfl⟩, HS11.out.bel⟩
              | false =>
                rw [hq] at HC2
                have HA5 : Hid (A = ctsB d.ps (takenN d.s d.cs (j + 1)) (d.cs.drop (j + 1))) := by show _ = _; rw [HAJ.out, HN2.out, hp, hn, hq]; rfl
                go_wp2_with fail
                refine HC2.out.mono ?_
                rintro e w12 ⟨rfl, rfl⟩
                clear HC2 HN2 HAJ HSS
                obtain ⟨W12, hW12⟩ : ∃ W12, W12 = w12.alloc (.cells #[.string c.s] 9) := ⟨_, rfl⟩
                have hb12 : Below w12.heap.size w12 W12 := by rw [hW12]; exact bel_alloc (Below.refl _ _) _
                have hh12 : W12.heap[w12.heap.size]? = some (.cells #[.string c.s] 9 (0, 0)) := by rw [hW12]; exact heap_alloc_new w12 _
                have HS12 := hide (HS11.out.keep hb12)
                have HO12 := hide (row_keep hb12 HO11.out)
                have HP12 := hide (row_keep hb12 HP11.out)
                have HY12 := hide (keep_cell hb12 y0)
                have HT12 := hide (HT11.out.keep hb12)
                have HX12 : Hid (∀ i (h : i < (qs ++ [qc]).length) (h2 : i < d.cs.length), SpR (offB B (.slice (some ⟨g, 0, none⟩) (2 + j) cap) (.slice ad j cp)) W12 d.cs[i].t (qs ++ [qc])[i]) := fun i h h2 => (HX11.out i h h2).keep hb12
                have hs12 := HS12.out.sz
                have hs12b : w12.heap.size < W12.heap.size := by rw [hW12]; simp
                clear hb12 HS11 HO11 HP11 HT11 HX11
                go_wp2_with (first
                  | (at_builtin
                     rw [← hW12]
                     refine wpList_append_lies _ rfl _ _ 22 rfl (B + 1) 9 i9 (.string ⟨#[]⟩) 1 16 Tryz.underlying22 hi9 hz9 hs9 hb9 rfl (by omega) (.slice (some ⟨g, 0, none⟩) (2 + j) cap) (2 + j) ((takenN d.s d.cs j).map Value.string) rfl HO12.out ⟨w12.heap.size, 0, none⟩ 1 1 [.string c.s] rfl rfl (World.news_of_block (cs := #[.string c.s]) (t := 9) (fr := (0, 0)) hh12) (by intro u hu; simp at hu; rcases hu with rfl; rfl) (by omega) (by unfold maxLen; omega) (by omega) (by omega) W12.heap.size rfl ?_)
                  | fail)
                intro g13 cap13 w13 hown13 hgrow13 hat13 hlt13
                rw [← hW12] at hgrow13
                have HK13 : Hid (Carry (offB B (.slice (some ⟨g, 0, none⟩) (2 + j) cap) (.slice ad j cp)) (offB B (.slice (some ⟨g13, 0, none⟩) (2 + (j + 1)) cap13) (.slice ad j cp)) W12 w13) := carry_v1 HO12.out (by decide) (by decide) hgrow13 (hat13.imp id (fun e => by rw [e, hW12]; simp))
                have HT13 := hide (HT12.out.to HK13.out)
                have HX13 : Hid (∀ i (h : i < (qs ++ [qc]).length) (h2 : i < d.cs.length), SpR (offB B (.slice (some ⟨g13, 0, none⟩) (2 + (j + 1)) cap13) (.slice ad j cp)) w13 d.cs[i].t (qs ++ [qc])[i]) := fun i h h2 => (HX12.out i h h2).to HK13.out
                have HS13 := hide (HS12.out.row HO12.out hgrow13)
                have HO13 : Hid (w13.ownsRow (B + 1) 9 1 (.slice (some ⟨g13, 0, none⟩) (2 + (j + 1)) cap13) (2 + (j + 1)) ((takenN d.s d.cs (j + 1)).map Value.string)) := by show World.ownsRow _ _ _ _ _ _ _; rw [HTS.out, List.map_append]; exact hown13
                have HP13 : Hid (w13.ownsRow (B + 1) 136 2 (.slice ad j cp) j (ctCells (d.cs.take j) qs)) := row_same HP12.out (fun q hq => hgrow13.block q (World.ownsRow.lt HP12.out q hq).2 (fun e => rows_apart HP12.out HO12.out (by decide) q hq e.symm))
                have y0 : w13.cell? ⟨wr.heap.size, 0, none⟩ = some (.string c.s) := heap_cell (hgrow13.block _ (lt_cell HY12.out) (fun e => by have h1 : wr.heap.size = g := Option.some.inj e; have := HGW.out; omega)) HY12.out
                have ly := lt_cell y0
                have n6 : w13.cell? ⟨B, 6, none⟩ = some (.slice ad j cp) := by rw [HS13.out.n1.cell 6 (by omega)]; rfl
                have l6 := lt_cell n6
                clear hown13 hgrow13 hat13 hlt13 hW12 hh12 HS12 HO12 HP12 HY12 hs12 hs12b HT12 HX12 HK13
                go_wp2_with fail
                have hS0 : (fun w' : World => w'.heap[B]? = w13.heap[B]? ∧ w'.heap[wr.heap.size]? = w13.heap[wr.heap.size]?) w13.drew := ⟨rfl, rfl⟩
                refine anyE_region (L := 13) (S := (fun w' : World => w'.heap[B]? = w13.heap[B]? ∧ w'.heap[wr.heap.size]? = w13.heap[wr.heap.size]?)) (by kernel_rfl) ?_
                refine anyE_take 0 (v := ?v10) rfl (by kernel_rfl) (by kernel_rfl) (by kernel_rfl) (by kernel_rfl) (fun _ _ _ h => h) (by rfl) ?hy10 hS0 ?rest10
                case hy10 =>
                  intro wx hx
                  go_simp
                  try rfl
                case rest10 =>
                intro K hK
                go_simp
                refine hK.out _ ?_
                clear hK K
                refine anyE_take 1 (v := ?v11) rfl (by kernel_rfl) (by kernel_rfl) (by kernel_rfl) (by kernel_rfl) (fun _ _ _ h => h) (by rfl) ?hy11 hS0 ?rest11
                case hy11 =>
                  intro wx hx
                  go_simp
                  try rfl
                case rest11 =>
                intro K hK
                go_simp
                refine hK.out _ ?_
                clear hK K
                refine anyE_take 2 (v := ?v12) rfl (by kernel_rfl) (by kernel_rfl) (by kernel_rfl) (by kernel_rfl) (fun _ _ _ h => h) (by rfl) ?hy12 hS0 ?rest12
                case hy12 =>
                  intro wx hx
                  go_simp
                  try rfl
                case rest12 =>
                intro K hK
                go_simp
                refine hK.out _ ?_
                clear hK K
                refine anyE_take 3 (v := ?v13) rfl (by kernel_rfl) (by kernel_rfl) (by kernel_rfl) (by kernel_rfl) (fun _ _ _ h => h) (by rfl) ?hy13 hS0 ?rest13
                case hy13 =>
                  intro wx hx
                  go_simp
                  try rfl
                case rest13 =>
                intro K hK
                go_simp
                refine hK.out _ ?_
                clear hK K
                refine anyE_take 4 (v := ?v14) rfl (by kernel_rfl) (by kernel_rfl) (by kernel_rfl) (by kernel_rfl) (fun _ _ _ h => h) (by rfl) ?hy14 hS0 ?rest14
                case hy14 =>
                  intro wx hx
                  have m6 : wx.cell? ⟨B, 6, none⟩ = some (.slice ad j cp) := heap_cell hx.1 n6
                  have lm := lt_cell m6
                  go_simp
                  try rfl
                case rest14 =>
                intro K hK
                go_simp
                refine hK.out _ ?_
                clear hK K
                refine anyE_take 5 (v := ?v15) rfl (by kernel_rfl) (by kernel_rfl) (by kernel_rfl) (by kernel_rfl) (fun _ _ _ h => h) (by rfl) ?hy15 hS0 ?rest15
                case hy15 =>
                  intro wx hx
                  go_simp
                  try rfl
                case rest15 =>
                intro K hK
                go_simp
                refine hK.out _ ?_
                clear hK K
                refine anyE_take 6 (v := ?v16) rfl (by kernel_rfl) (by kernel_rfl) (by kernel_rfl) (by kernel_rfl) (fun _ _ _ h => h) (by rfl) ?hy16 hS0 ?rest16
                case hy16 =>
                  intro wx hx
                  have m6 : wx.cell? ⟨wr.heap.size, 0, none⟩ = some (.string c.s) := heap_cell hx.2 y0
                  have lm := lt_cell m6
                  go_simp
                  try rfl
                case rest16 =>
                intro K hK
                go_simp
                refine hK.out _ ?_
                clear hK K
                refine anyE_take 7 (v := ?v17) rfl (by kernel_rfl) (by kernel_rfl) (by kernel_rfl) (by kernel_rfl) (fun _ _ _ h => h) (by rfl) ?hy17 hS0 ?rest17
                case hy17 =>
                  intro wx hx
                  go_simp
                  try rfl
                case rest17 =>
                intro K hK
                go_simp
                refine hK.out _ ?_
                clear hK K
                refine anyE_take 8 (v := ?v18) rfl (by kernel_rfl) (by kernel_rfl) (by kernel_rfl) (by kernel_rfl) (fun _ _ _ h => h) (by rfl) ?hy18 hS0 ?rest18
                case hy18 =>
                  intro wx hx
                  go_simp
                  try rfl
                case rest18 =>
                intro K hK
                go_simp
                refine hK.out _ ?_
                clear hK K
                refine anyE_one 9 (by kernel_rfl) rfl (fun K hK => ?_)
                go_simp
                obtain ⟨W14, hW14⟩ : ∃ W14, W14 = (w13.alloc (.cells #[.string c.s, .pointer (some ⟨qc, 0, none⟩)] 136)).drew := ⟨_, rfl⟩
                rw [← hW14]
                have hb14 : Below w13.heap.size w13 W14 := by rw [hW14]; exact (bel_alloc (Below.refl _ _) _).drew
                have hh14 : W14.heap[w13.heap.size]? = some (.cells #[.string c.s, .pointer (some ⟨qc, 0, none⟩)] 136 (0, 0)) := by rw [hW14]; exact heap_alloc_new w13 _
                have hS1 : (fun w' : World => w'.heap[B]? = w13.heap[B]? ∧ w'.heap[wr.heap.size]? = w13.heap[wr.heap.size]?) W14 := ⟨hb14.block _ l6, hb14.block _ ly⟩
                refine hK.out _ _ (fun _ => hS1) ?_
                clear hK K
                have HS14 := hide (HS13.out.keep hb14)
                have HO14 := hide (row_keep hb14 HO13.out)
                have HP14 := hide (row_keep hb14 HP13.out)
                have HT14 := hide (HT13.out.keep hb14)
                have HX14 : Hid (∀ i (h : i < (qs ++ [qc]).length) (h2 : i < d.cs.length), SpR (offB B (.slice (some ⟨g13, 0, none⟩) (2 + (j + 1)) cap13) (.slice ad j cp)) W14 d.cs[i].t (qs ++ [qc])[i]) := fun i h h2 => (HX13.out i h h2).keep hb14
                have hs14 := HS14.out.sz
                have hs14b : w13.heap.size < W14.heap.size := by rw [hW14]; simp
                have hly14 : wr.heap.size < W14.heap.size := by omega
                clear hb14 hW14 HS13 HO13 HP13 HT13 HX13
                refine anyE_one 10 (by kernel_rfl) rfl (fun K hK => ?_)
                refine step_append_lies _ rfl _ _ 95 rfl (B + 1) 136 im (.agg #[.string ⟨#[]⟩, .pointer none]) 2 24 Tryz.underlying95 him hzm hsm hbm rfl (by omega) (.slice ad j cp) j (ctCells (d.cs.take j) qs) rfl HP14.out ⟨w13.heap.size, 0, none⟩ 1 1 [.string c.s, .pointer (some ⟨qc, 0, none⟩)] rfl rfl (World.news_of_block (cs := #[.string c.s, .pointer (some ⟨qc, 0, none⟩)]) (t := 136) (fr := (0, 0)) hh14) (by intro u hu; simp at hu; rcases hu with rfl | rfl <;> rfl) (by omega) (by unfold maxLen; omega) (by omega) (by omega) W14.heap.size rfl ?_
                intro g15 cap15 w15 hown15 hgrow15 hat15 hlt15
                have HS15 := hide (HS14.out.row HP14.out hgrow15)
                have HK15 : Hid (Carry (offB B (.slice (some ⟨g13, 0, none⟩) (2 + (j + 1)) cap13) (.slice ad j cp)) (offB B (.slice (some ⟨g13, 0, none⟩) (2 + (j + 1)) cap13) (.slice (some ⟨g15, 0, none⟩) (j + 1) cap15)) W14 w15) := carry_v2 HP14.out (by decide) (by decide) hgrow15 hat15
                have HT15 := hide (HT14.out.to HK15.out)
                have HX15 : Hid (∀ i (h : i < (qs ++ [qc]).length) (h2 : i < d.cs.length), SpR (offB B (.slice (some ⟨g13, 0, none⟩) (2 + (j + 1)) cap13) (.slice (some ⟨g15, 0, none⟩) (j + 1) cap15)) w15 d.cs[i].t (qs ++ [qc])[i]) := fun i h h2 => (HX14.out i h h2).to HK15.out
                have HO15 : Hid (w15.ownsRow (B + 1) 9 1 (.slice (some ⟨g13, 0, none⟩) (2 + (j + 1)) cap13) (2 + (j + 1)) ((takenN d.s d.cs (j + 1)).map Value.string)) := row_same HO14.out (fun q hq => hgrow15.block q (World.ownsRow.lt HO14.out q hq).2 (fun e => rows_apart HO14.out HP14.out (by decide) q hq e.symm))
                have hS2 : (fun w' : World => w'.heap[B]? = w13.heap[B]? ∧ w'.heap[wr.heap.size]? = w13.heap[wr.heap.size]?) w15 := ⟨(hgrow15.block B (by omega) (fun e => by have := (World.ownsRow.lt HP14.out B e.symm).1; omega)).trans hS1.1, (hgrow15.block wr.heap.size hly14 (fun e => by have := HGP.out _ e.symm; omega)).trans hS1.2⟩
                refine hK.out _ _ (fun _ => hS2) ?_
                clear hK K
                have HOW : Hid (w15.ownsRow (B + 1) 136 2 (.slice (some ⟨g15, 0, none⟩) (j + 1) cap15) (j + 1) (ctCells (d.cs.take (j + 1)) (qs ++ [qc]))) := by show World.ownsRow _ _ _ _ _ _ _; rw [HCT.out]; exact hown15
                have n6 : w15.cell? ⟨B, 6, none⟩ = some (.slice ad j cp) := by rw [HS15.out.n1.cell 6 (by omega)]; rfl
                have f6 : w15.frozen? ⟨B, 6, none⟩ = false := HS15.out.n1.frozen 6
                have l6 := lt_cell n6
                clear hown15 hgrow15 hat15 hlt15 HS14 HO14 HP14 HT14 HX14 HK15 hh14 hS0 hS1 hs14 hs14b hly14 y0 ly
                refine anyE_one 11 (by kernel_rfl) rfl (fun K hK => ?_)
                go_simp
                refine hK.out _ _ (fun _ => hS2) ?_
                clear hK K
                refine anyE_one 12 (by kernel_rfl) rfl (fun K hK => ?_)
                go_simp
                refine hK.out _ _ (fun _ => hS2) ?_
                clear hK K
                refine anyE_one 13 (by kernel_rfl) rfl (fun K hK => ?_)
                go_simp
                refine hK.out _ _ (fun h => absurd rfl h) ?_
                clear hK K
                refine anyE_done (by kernel_rfl) ?_ _
                have HS16 := hide (HS15.out.set 6 (.slice (some ⟨g15, 0, none⟩) (j + 1) cap15))
                have HO16 := hide (row_same HO15.out (w' := w15.setCell ⟨B, 6, none⟩ (.slice (some ⟨g15, 0, none⟩) (j + 1) cap15)) (fun q hq => (grown_set w15 ⟨B, 6, none⟩ _).block q (World.ownsRow.lt HO15.out q hq).2 (fun e => by have h1 : q = B := Option.some.inj e; have := (World.ownsRow.lt HO15.out q hq).1; omega)))
                have HP16 := hide (row_same HOW.out (w' := w15.setCell ⟨B, 6, none⟩ (.slice (some ⟨g15, 0, none⟩) (j + 1) cap15)) (fun q hq => (grown_set w15 ⟨B, 6, none⟩ _).block q (World.ownsRow.lt HOW.out q hq).2 (fun e => by have h1 : q = B := Option.some.inj e; have := (World.ownsRow.lt HOW.out q hq).1; omega)))
                have HT16 := hide (HT15.out.to (carry_set HS15.out.n1 6 (.slice (some ⟨g15, 0, none⟩) (j + 1) cap15)))
                have HX16 : Hid (∀ i (h : i < (qs ++ [qc]).length) (h2 : i < d.cs.length), SpR (offB B (.slice (some ⟨g13, 0, none⟩) (2 + (j + 1)) cap13) (.slice (some ⟨g15, 0, none⟩) (j + 1) cap15)) (w15.setCell ⟨B, 6, none⟩ (.slice (some ⟨g15, 0, none⟩) (j + 1) cap15)) d.cs[i].t (qs ++ [qc])[i]) := fun i h h2 => (HX15.out i h h2).to (carry_set HS15.out.n1 6 _)
                have HQ16 : Hid ((qs ++ [qc]).length = j + 1) := by show _ = _; rw [List.length_append, HQL.out]; rfl
                clear HS15 HO15 HOW HT15 HX15 HQL HCT n6 f6 l6 hS2
                go_wp2_with fail
                go_roundw
                case rel => exact ⟨j + 1, g13, cap13, some ⟨g15, 0, none⟩, cap15, qs ++ [qc], hlt, by go_num, by first | rfl | (congr 1; omega), HO16, HA5, HS16, HP16, HQ16, HT16, HX16⟩
                case measure => simp [intOf]; omega
          · have hA : A = true := by
              rw [HAJ.out, List.drop_eq_nil_of_le (by omega)]
              rfl
            subst hA
            have hlt' : ¬ (j : Int) < d.cs.length := by omega
            have ej : j = d.cs.length := by omega
            have HFIN : Hid (RdF w.heap.size true d (.slice pa d.ps.length pc) (.returned (.pointer (some ⟨B, 0, none⟩))) wr) := by
              have hlo := HSJ.out.lo
              have hp := HPJ.out
              rw [List.take_of_length_le (by omega)] at hp
              have hql := HQL.out
              have hs := HSJ.out.n1
              subst ej
              exact .inr ⟨rfl, B, _, _, _, qs, _, rfl, by omega, hs, fun _ => ⟨qa, rfl, HTJ.out⟩, hql, hp, HUJ.out⟩
            clear ej HPJ HQL HTJ HUJ HO HAJ
            go_wp2_with fail
            go_ret
            exact ⟨HFIN.out, HSJ.out.bel⟩
      · have q4 : (d.k != 4) = true := by rw [hk]; rfl
        have hf0 : d.f = 0 := Classical.byContradiction (fun h => hne ⟨by omega, .inl h⟩)
        have hc0 : ¬ 0 < d.cs.length := fun h => hne ⟨by omega, .inr h⟩
        have qf : (d.f != 0) = false := by simp [hf0]
        clear hf0
        clear hne
        go_upto_region 10 with fail
        clear b5 q4 qf hc0
        have HC := hide (HPL.out _ d.t HZ.out.t HM.out.t W3 (HD.out.t.keep HS3.out.bel) (HD.out.ps.keep HS3.out.bel))
        go_wp2_with fail
        refine HC.out.mono ?_
        rintro e w4 ⟨hpo, hb4⟩
        have w4S := hide (HS3.out.keep hb4)
        have u3 : w4.cell? ⟨B, 3, none⟩ = some (.pointer none) := by rw [w4S.out.n1.cell 3 (by omega)]; rfl
        have uf : w4.frozen? ⟨B, 3, none⟩ = false := w4S.out.n1.frozen 3
        have lu := lt_cell u3
        clear hb4 HC
        rcases hpo with ⟨hp, rfl⟩ | ⟨hp, hkin, pt, Q, rfl, hF, hQ⟩
        · have HS5 := hide (w4S.out.set 3 (.pointer none))
          have HN := hide (tnone_none (w4.setCell ⟨B, 3, none⟩ (.pointer none)))
          have hA : A = false := by rw [HA.out]; rw [hp]; rfl
          subst hA
          go_wp2_with (first | (go_at_call 75; refine HN.out.mono ?_; rintro e w9 ⟨rfl, hw9⟩; have hw9 := hw9.symm; subst hw9) | fail)
          go_ret
          exact ⟨.inl ⟨rfl, rfl⟩, HS5.out.bel⟩
        obtain ⟨qa, hqn⟩ : ∃ qa, qa = pt (d.t.length - 1) := ⟨_, rfl⟩
        have HT4 : Hid (SpR (offB B (.slice none 0 0) (.slice none 0 0)) w4 d.t qa) := fun T hT => by rw [hqn]; exact (forest_root hkin hF hT).to (carry_new hQ HS3.out.sz (fun g hg => by simp [Value.ownBlock] at hg) (fun g hg => by simp [Value.ownBlock] at hg))
        rw [← hqn]
        clear hqn hkin hF hQ
        obtain ⟨W5, hW5⟩ : ∃ W5, W5 = w4.setCell ⟨B, 3, none⟩ (.pointer (some ⟨qa, 0, none⟩)) := ⟨_, rfl⟩
        have HS5 : Hid (LSt w #[.int .i64 d.k, .string d.s, .slice pa d.ps.length pc, .slice ta d.t.length tc, .slice va d.v.length vc, .int .i64 d.f, .slice ca d.cs.length cc] B [.int .i64 d.k, .string d.s, .slice pa d.ps.length pc, .pointer (some ⟨qa, 0, none⟩), .pointer none, .int .i64 d.f, .slice none 0 0] W5) := by show LSt _ _ _ _ _; rw [hW5]; exact w4S.out.set 3 _
        have HT5 : Hid (SpR (offB B (.slice none 0 0) (.slice none 0 0)) W5 d.t qa) := by show SpR _ _ _ _; rw [hW5]; exact HT4.out.to (carry_set w4S.out.n1 _ _)
        clear HT4
        go_upto_region 11 with fail
        rw [← hW5]
        clear hW5 u3 uf lu w4S c0 c1 c2 c3 c4 c5 c6 l0
        have c0 : W5.cell? ⟨w.heap.size, 0, none⟩ = some (.int .i64 d.k) := by rw [Lib.cell_of_heap HS5.out.n0]; rfl
        have c1 : W5.cell? ⟨w.heap.size, 1, none⟩ = some (.string d.s) := by rw [Lib.cell_of_heap HS5.out.n0]; rfl
        have c2 : W5.cell? ⟨w.heap.size, 2, none⟩ = some (.slice pa d.ps.length pc) := by rw [Lib.cell_of_heap HS5.out.n0]; rfl
        have c3 : W5.cell? ⟨w.heap.size, 3, none⟩ = some (.slice ta d.t.length tc) := by rw [Lib.cell_of_heap HS5.out.n0]; rfl
        have c4 : W5.cell? ⟨w.heap.size, 4, none⟩ = some (.slice va d.v.length vc) := by rw [Lib.cell_of_heap HS5.out.n0]; rfl
        have c5 : W5.cell? ⟨w.heap.size, 5, none⟩ = some (.int .i64 d.f) := by rw [Lib.cell_of_heap HS5.out.n0]; rfl
        have c6 : W5.cell? ⟨w.heap.size, 6, none⟩ = some (.slice ca d.cs.length cc) := by rw [Lib.cell_of_heap HS5.out.n0]; rfl
        have l0 := lt_cell c0
        have u3 : W5.cell? ⟨B, 3, none⟩ = some (.pointer (some ⟨qa, 0, none⟩)) := by rw [HS5.out.n1.cell 3 (by omega)]; rfl
        have lu := lt_cell u3
        have HN := hide (tnone_some ⟨qa, 0, none⟩ W5)
        have HA : Hid (A = (valueB d && ctorsB d)) := by show _ = _; rw [HA.out, hp]; rfl
        clear hp
        go_upto_region 13 with (first | (go_at_call 75; refine HN.out.mono ?_; rintro e w9 ⟨rfl, hw9⟩; have hw9 := hw9.symm; subst hw9) | fail)
        clear u3 lu HN
        have b2 : (d.k == 2) = false := by rw [hk]; rfl
        have b3 : (d.k == 3) = true := by rw [hk]; rfl
        have hv : hasVal d.k = true := by rw [hk]; rfl
        have HA : Hid (A = (plainB d.v d.ps && ctorsB d)) := by show _ = _; rw [HA.out]; unfold valueB; rw [if_pos hv]
        clear hv hk
        go_upto_region 14 with fail
        clear b2 b3
        have HC := hide (HPL.out _ d.v HZ.out.v HM.out.v W5 (HD.out.v.keep HS5.out.bel) (HD.out.ps.keep HS5.out.bel))
        go_wp2_with fail
        refine HC.out.mono ?_
        rintro e w6 ⟨hpo, hb4⟩
        have HT4 := hide (HT5.out.keep hb4)
        clear HT5
        have w6S := hide (HS5.out.keep hb4)
        have u3 : w6.cell? ⟨B, 4, none⟩ = some (.pointer none) := by rw [w6S.out.n1.cell 4 (by omega)]; rfl
        have uf : w6.frozen? ⟨B, 4, none⟩ = false := w6S.out.n1.frozen 4
        have lu := lt_cell u3
        clear hb4 HC
        rcases hpo with ⟨hp, rfl⟩ | ⟨hp, hkin, pt, Q, rfl, hF, hQ⟩
        · have HS5 := hide (w6S.out.set 4 (.pointer none))
          have HN := hide (tnone_none (w6.setCell ⟨B, 4, none⟩ (.pointer none)))
          have hA : A = false := by rw [HA.out]; rw [hp]; rfl
          subst hA
          go_wp2_with (first | (go_at_call 75; refine HN.out.mono ?_; rintro e w9 ⟨rfl, hw9⟩; have hw9 := hw9.symm; subst hw9) | fail)
          go_ret
          exact ⟨.inl ⟨rfl, rfl⟩, HS5.out.bel⟩
        obtain ⟨qb, hqn⟩ : ∃ qb, qb = pt (d.v.length - 1) := ⟨_, rfl⟩
        rw [← hqn]
        clear hqn hkin hF hQ
        obtain ⟨W7, hW7⟩ : ∃ W7, W7 = w6.setCell ⟨B, 4, none⟩ (.pointer (some ⟨qb, 0, none⟩)) := ⟨_, rfl⟩
        have HS7 : Hid (LSt w #[.int .i64 d.k, .string d.s, .slice pa d.ps.length pc, .slice ta d.t.length tc, .slice va d.v.length vc, .int .i64 d.f, .slice ca d.cs.length cc] B [.int .i64 d.k, .string d.s, .slice pa d.ps.length pc, .pointer (some ⟨qa, 0, none⟩), .pointer (some ⟨qb, 0, none⟩), .int .i64 d.f, .slice none 0 0] W7) := by show LSt _ _ _ _ _; rw [hW7]; exact w6S.out.set 4 _
        have HT5 : Hid (SpR (offB B (.slice none 0 0) (.slice none 0 0)) W7 d.t qa) := by show SpR _ _ _ _; rw [hW7]; exact HT4.out.to (carry_set w6S.out.n1 _ _)
        clear HT4
        go_upto_region 15 with fail
        rw [← hW7]
        clear hW7 u3 uf lu w6S c0 c1 c2 c3 c4 c5 c6 l0
        have c0 : W7.cell? ⟨w.heap.size, 0, none⟩ = some (.int .i64 d.k) := by rw [Lib.cell_of_heap HS7.out.n0]; rfl
        have c1 : W7.cell? ⟨w.heap.size, 1, none⟩ = some (.string d.s) := by rw [Lib.cell_of_heap HS7.out.n0]; rfl
        have c2 : W7.cell? ⟨w.heap.size, 2, none⟩ = some (.slice pa d.ps.length pc) := by rw [Lib.cell_of_heap HS7.out.n0]; rfl
        have c3 : W7.cell? ⟨w.heap.size, 3, none⟩ = some (.slice ta d.t.length tc) := by rw [Lib.cell_of_heap HS7.out.n0]; rfl
        have c4 : W7.cell? ⟨w.heap.size, 4, none⟩ = some (.slice va d.v.length vc) := by rw [Lib.cell_of_heap HS7.out.n0]; rfl
        have c5 : W7.cell? ⟨w.heap.size, 5, none⟩ = some (.int .i64 d.f) := by rw [Lib.cell_of_heap HS7.out.n0]; rfl
        have c6 : W7.cell? ⟨w.heap.size, 6, none⟩ = some (.slice ca d.cs.length cc) := by rw [Lib.cell_of_heap HS7.out.n0]; rfl
        have l0 := lt_cell c0
        have u3 : W7.cell? ⟨B, 4, none⟩ = some (.pointer (some ⟨qb, 0, none⟩)) := by rw [HS7.out.n1.cell 4 (by omega)]; rfl
        have lu := lt_cell u3
        have HN := hide (tnone_some ⟨qb, 0, none⟩ W7)
        have HA : Hid (A = ctorsB d) := by show _ = _; rw [HA.out, hp]; rfl
        clear hp
        go_upto_region 19 with (first | (go_at_call 75; refine HN.out.mono ?_; rintro e w9 ⟨rfl, hw9⟩; have hw9 := hw9.symm; subst hw9) | fail)
        clear u3 lu HN
        by_cases hf0 : d.f < 0
        · have df : decide (d.f < 0) = true := decide_eq_true hf0
          have hA : A = false := by rw [HA.out]; unfold ctorsB; rw [show decide (0 ≤ d.f) = false by simp; omega]; rfl
          subst hA
          go_wp2_with fail
          go_ret
          exact ⟨.inl ⟨rfl, rfl⟩, HS7.out.bel⟩
        have df : decide (d.f < 0) = false := decide_eq_false hf0
        by_cases hf5 : 50 < d.f
        · have df5 : decide (50 < d.f) = true := decide_eq_true hf5
          have hA : A = false := by rw [HA.out]; unfold ctorsB; rw [show decide (d.f ≤ 50) = false by simp; omega]; simp
          subst hA
          go_wp2_with fail
          go_ret
          exact ⟨.inl ⟨rfl, rfl⟩, HS7.out.bel⟩
        have df5 : decide (50 < d.f) = false := decide_eq_false hf5
        by_cases hc20 : 20 < d.cs.length
        · have d20 : decide ((20 : Int) < (d.cs.length : Int)) = true := by simp; omega
          have hA : A = false := by rw [HA.out]; unfold ctorsB; rw [show decide (d.cs.length ≤ 20) = false by simp; omega]; simp
          subst hA
          go_wp2_with fail
          go_ret
          exact ⟨.inl ⟨rfl, rfl⟩, HS7.out.bel⟩
        have d20 : decide ((20 : Int) < (d.cs.length : Int)) = false := by simp; omega
        have HA : Hid (A = ctsB d.ps (takenN d.s d.cs 0) (d.cs.drop 0)) := by
          show _ = _
          rw [HA.out]; unfold ctorsB
          rw [show decide (0 ≤ d.f) = true by simp; omega, show decide (d.f ≤ 50) = true by simp; omega, show decide (d.cs.length ≤ 20) = true by simp; omega]
          rfl
        have hs36 : d.s.size ≤ 36 := by omega
        have h4s : (⟨#[46, 114, 101, 99]⟩ : ByteArray).size = 4 := by decide
        have hadd : ∀ w : World, (Op.stringOp .add d.s ⟨#[46, 114, 101, 99]⟩).run Tryz.prog w = .ok (.string (recName d.s)) w := fun w => run_string_add_sum w _ _ (by omega)
        clear h4s
        obtain ⟨rn, hrn⟩ : ∃ rn, rn = recName d.s := ⟨_, rfl⟩
        rw [← hrn] at hadd
        have HRN := hide hrn
        clear hrn
        obtain ⟨W8, hW8⟩ : ∃ W8, W8 = W7.alloc (.cells #[.string d.s, .string rn] 9) := ⟨_, rfl⟩
        have hb8 : Below W7.heap.size W7 W8 := by rw [hW8]; exact bel_alloc (Below.refl _ _) _
        have HO8 : Hid (W8.ownsRow (B + 1) 9 1 (.slice (some ⟨W7.heap.size, 0, none⟩) (2 + 0) 2) (2 + 0) ((takenN d.s d.cs 0).map Value.string)) := by
          show World.ownsRow _ _ _ _ _ _ _
          rw [hW8]
          refine ⟨rfl, .inr ⟨W7.heap.size, 2, #[.string d.s, .string rn], rfl, HS7.out.sz, heap_alloc_new W7 _, Nat.le_refl _, by unfold maxLen; omega, rfl, ?_⟩⟩
          rw [HRN.out]
          rfl
        have HS8 : Hid (LSt w #[.int .i64 d.k, .string d.s, .slice pa d.ps.length pc, .slice ta d.t.length tc, .slice va d.v.length vc, .int .i64 d.f, .slice ca d.cs.length cc] B [.int .i64 d.k, .string d.s, .slice pa d.ps.length pc, .pointer (some ⟨qa, 0, none⟩), .pointer (some ⟨qb, 0, none⟩), .int .i64 d.f, .slice none 0 0] W8) := HS7.out.keep hb8
        have HP8 : Hid (W8.ownsRow (B + 1) 136 2 (.slice none 0 0) 0 (ctCells (d.cs.take 0) [])) := ⟨rfl, .inl ⟨rfl, rfl⟩⟩
        have HT8 : Hid (SpR (offB B (.slice (some ⟨W7.heap.size, 0, none⟩) (2 + 0) 2) (.slice none 0 0)) W8 d.t qa) := HT5.out.to (carry_bel hb8 (fun b hb => hb) (fun g hg => by simp [Value.ownBlock] at hg; omega))
        have HU8 : Hid (∀ i (h : i < ([] : List Nat).length) (h2 : i < d.cs.length), SpR (offB B (.slice (some ⟨W7.heap.size, 0, none⟩) (2 + 0) 2) (.slice none 0 0)) W8 d.cs[i].t ([] : List Nat)[i]) := fun i h => absurd h (by simp)
        clear df df5 d20
        go_upto_region 22 with fail
        first | rw [← hW8] | skip
        clear hW8 hb8 hadd HS7 HT5
        go_wp2_with fail
        go_loopw [4, 5] (fun t i wr => ∃ (j g cap : Nat) (ad : Option Addr) (cp : Nat) (qs : List Nat), j ≤ d.cs.length ∧ i = .int .i64 j ∧ t = .slice (some ⟨g, 0, none⟩) (2 + j) cap ∧ Hid (wr.ownsRow (B + 1) 9 1 (.slice (some ⟨g, 0, none⟩) (2 + j) cap) (2 + j) ((takenN d.s d.cs j).map Value.string)) ∧ Hid (A = ctsB d.ps (takenN d.s d.cs j) (d.cs.drop j)) ∧ Hid (LSt w #[.int .i64 d.k, .string d.s, .slice pa d.ps.length pc, .slice ta d.t.length tc, .slice va d.v.length vc, .int .i64 d.f, .slice ca d.cs.length cc] B [.int .i64 d.k, .string d.s, .slice pa d.ps.length pc, .pointer (some ⟨qa, 0, none⟩), .pointer (some ⟨qb, 0, none⟩), .int .i64 d.f, .slice ad j cp] wr) ∧ Hid (wr.ownsRow (B + 1) 136 2 (.slice ad j cp) j (ctCells (d.cs.take j) qs)) ∧ Hid (qs.length = j) ∧ Hid (SpR (offB B (.slice (some ⟨g, 0, none⟩) (2 + j) cap) (.slice ad j cp)) wr d.t qa) ∧ Hid (∀ i (h : i < qs.length) (h2 : i < d.cs.length), SpR (offB B (.slice (some ⟨g, 0, none⟩) (2 + j) cap) (.slice ad j cp)) wr d.cs[i].t qs[i])) (fun _ i _ => d.cs.length - (intOf i).toNat)
        case atStart => exact ⟨0, _, _, none, 0, [], by omega, rfl, rfl, HO8, HA, HS8, HP8, rfl, HT8, HU8⟩
        case round =>
          clear HO8 HS8 HP8 HT8 HU8 c0 c1 c2 c3 c4 c5 c6 l0
          obtain ⟨j, g, cap, ad, cp, qs, hj, rfl, rfl, HO, HAJ, HSJ, HPJ, HQL, HTJ, HUJ⟩ := hrel
          have c0 : wr.cell? ⟨w.heap.size, 0, none⟩ = some (.int .i64 d.k) := by rw [Lib.cell_of_heap HSJ.out.n0]; rfl
          have c1 : wr.cell? ⟨w.heap.size, 1, none⟩ = some (.string d.s) := by rw [Lib.cell_of_heap HSJ.out.n0]; rfl
          have c2 : wr.cell? ⟨w.heap.size, 2, none⟩ = some (.slice pa d.ps.length pc) := by rw [Lib.cell_of_heap HSJ.out.n0]; rfl
          have c3 : wr.cell? ⟨w.heap.size, 3, none⟩ = some (.slice ta d.t.length tc) := by rw [Lib.cell_of_heap HSJ.out.n0]; rfl
          have c4 : wr.cell? ⟨w.heap.size, 4, none⟩ = some (.slice va d.v.length vc) := by rw [Lib.cell_of_heap HSJ.out.n0]; rfl
          have c5 : wr.cell? ⟨w.heap.size, 5, none⟩ = some (.int .i64 d.f) := by rw [Lib.cell_of_heap HSJ.out.n0]; rfl
          have c6 : wr.cell? ⟨w.heap.size, 6, none⟩ = some (.slice ca d.cs.length cc) := by rw [Lib.cell_of_heap HSJ.out.n0]; rfl
          have l0 := lt_cell c0
          have HGW : Hid (g < wr.heap.size) := (World.ownsRow.lt HO.out g rfl).2
          have HGP : Hid (∀ q, (Value.slice ad j cp).ownBlock = some q → q < wr.heap.size) := fun q hq => (World.ownsRow.lt HPJ.out q hq).2
          by_cases hlt : j < d.cs.length
          · have hlt' : (j : Int) < d.cs.length := by omega
            obtain ⟨a', cap', e', _, _, hc0⟩ := HD.out.cs
            obtain ⟨b, off, ha, hc⟩ := hc0 (by omega)
            have ea : ca = some ⟨b, off, none⟩ := by rw [← ha]; injection e'
            subst ea
            obtain ⟨x1, u, x2, hu⟩ := hc j hlt
            have x1 := keep_cell HSJ.out.bel x1
            have x2 := keep_cell HSJ.out.bel x2
            obtain ⟨ua, uc, rfl⟩ := hu.form
            have HU := hide (hu.keep HSJ.out.bel)
            have HCZ := hide (HZ.out.cs d.cs[j] (List.getElem_mem hlt))
            have HCM := hide (HM.out.cs d.cs[j] (List.getElem_mem hlt))
            have HN2 := hide (cts_at d.ps d.s d.cs j hlt)
            have HTS := hide (takenN_succ d.s d.cs j hlt)
            have HTL := hide (takenN_len d.s d.cs j hj)
            clear hc hc0 e' ha hu
            have HCT : Hid (∀ q, ctCells (d.cs.take (j + 1)) (qs ++ [q]) = ctCells (d.cs.take j) qs ++ [.string d.cs[j].s, .pointer (some ⟨q, 0, none⟩)]) := fun q => by rw [List.take_succ_eq_append_getElem hlt, ctCells_snoc _ _ _ _ (by rw [List.length_take, HQL.out]; omega)]
            have HUS : Hid (∀ (Q : Nat → Prop) (X : World) (q : Nat), (∀ i (h : i < qs.length) (h2 : i < d.cs.length), SpR Q X d.cs[i].t qs[i]) → SpR Q X d.cs[j].t q → ∀ i (h : i < (qs ++ [q]).length) (h2 : i < d.cs.length), SpR Q X d.cs[i].t (qs ++ [q])[i]) := fun Q X q h0 hq i h h2 => by
              have hl := HQL.out
              by_cases e : i < j
              · have e2 : (qs ++ [q])[i] = qs[i]'(by omega) := List.getElem_append_left (by omega)
                rw [e2]
                exact h0 i (by omega) h2
              · have ei : i = j := by simp at h; omega
                subst ei
                have e2 : (qs ++ [q])[i] = q := by simp [hl]
                rw [e2]
                exact hq
            generalize d.cs[j] = c at *
            obtain ⟨W9, hW9⟩ : ∃ W9, W9 = wr.alloc (.cells #[.string c.s, .slice ua c.t.length uc] 73) := ⟨_, rfl⟩
            have hb9 : Below wr.heap.size wr W9 := by rw [hW9]; exact bel_alloc (Below.refl _ _) _
            have y0 : W9.cell? ⟨wr.heap.size, 0, none⟩ = some (.string c.s) := by rw [hW9]; simp [go_sem]
            have y1 : W9.cell? ⟨wr.heap.size, 1, none⟩ = some (.slice ua c.t.length uc) := by rw [hW9]; simp [go_sem]
            have ly := lt_cell y1
            have lx := lt_cell x1
            have HS9 := hide (HSJ.out.keep hb9)
            have HO9 := hide (row_keep hb9 HO.out)
            have HP9 := hide (row_keep hb9 HPJ.out)
            have HU9 := hide (HU.out.keep hb9)
            have HT9 := hide (HTJ.out.keep hb9)
            have HV9 : Hid (∀ i (h : i < qs.length) (h2 : i < d.cs.length), SpR (offB B (.slice (some ⟨g, 0, none⟩) (2 + j) cap) (.slice ad j cp)) W9 d.cs[i].t qs[i]) := fun i h h2 => (HUJ.out i h h2).keep hb9
            go_upto_region 26 with fail
            rw [← hW9]
            clear hW9 hb9 x1 x2 lx c0 c1 c2 c3 c4 c5 c6 l0 HU
            have c2 : W9.cell? ⟨w.heap.size, 2, none⟩ = some (.slice pa d.ps.length pc) := by rw [Lib.cell_of_heap HS9.out.n0]; rfl
            have l2 := lt_cell c2
            have HC := hide (HPL.out _ c.t HCZ.out.2 HCM.out W9 HU9.out (HD.out.ps.keep HS9.out.bel))
            go_wp2_with fail
            refine HC.out.mono ?_
            rintro e w10 ⟨hpo, hb10⟩
            have HS10 := hide (HS9.out.keep hb10)
            have HO10 := hide (row_keep hb10 HO9.out)
            have HP10 := hide (row_keep hb10 HP9.out)
            have HT10 := hide (HT9.out.keep hb10)
            have HV10 : Hid (∀ i (h : i < qs.length) (h2 : i < d.cs.length), SpR (offB B (.slice (some ⟨g, 0, none⟩) (2 + j) cap) (.slice ad j cp)) w10 d.cs[i].t qs[i]) := fun i h h2 => (HV9.out i h h2).keep hb10
            have HL10 : Hid (B < W9.heap.size ∧ g < W9.heap.size ∧ ∀ q, (Value.slice ad j cp).ownBlock = some q → q < W9.heap.size) := ⟨HS9.out.sz, (World.ownsRow.lt HO9.out g rfl).2, fun q hq => (World.ownsRow.lt HP9.out q hq).2⟩
            have y0 := keep_cell hb10 y0
            have ly := lt_cell y0
            clear hb10 HC HS9 HO9 HP9 HU9 HT9 HV9 HTJ HUJ y1 c2 l2
            rcases hpo with ⟨hp, rfl⟩ | ⟨hp, hkin, pt, Q, rfl, hF, hQ⟩
            · have hA : A = false := by rw [HAJ.out, HN2.out, hp]; rfl
              subst hA
              have HN := hide (tnone_none w10)
              go_wp2_with (first | (go_at_call 75; refine HN.out.mono ?_; rintro e w9 ⟨rfl, hw9⟩; have hw9 := hw9.symm; subst hw9) | fail)
              go_ret
              exact ⟨.inl ⟨rfl, rfl⟩, HS10.out.bel⟩
            obtain ⟨qc, hqc⟩ : ∃ qc, qc = pt (c.t.length - 1) := ⟨_, rfl⟩
            have HW10 : Hid (SpR (offB B (.slice (some ⟨g, 0, none⟩) (2 + j) cap) (.slice ad j cp)) w10 c.t qc) := fun T hT => by rw [hqc]; exact (forest_root hkin hF hT).to (carry_new hQ HL10.out.1 (fun q hq => by simp [Value.ownBlock] at hq; have := HL10.out.2.1; omega) HL10.out.2.2)
            rw [← hqc]
            clear hqc hkin hF hQ HL10
            have HX10 : Hid (∀ i (h : i < (qs ++ [qc]).length) (h2 : i < d.cs.length), SpR (offB B (.slice (some ⟨g, 0, none⟩) (2 + j) cap) (.slice ad j cp)) w10 d.cs[i].t (qs ++ [qc])[i]) := HUS.out _ _ _ HV10.out HW10.out
            clear HV10 HW10 HUS
            have HN := hide (tnone_some ⟨qc, 0, none⟩ w10)
            have HC1 := hide (specName_any c.s w10 HCZ.out.1)
            cases hn : nameB c.s with
            | false =>
              rw [hn] at HC1
              have hA : A = false := by rw [HAJ.out, HN2.out, hn]; simp
              subst hA
              go_wp2_with (first | (go_at_call 75; refine HN.out.mono ?_; rintro e w9 ⟨rfl, hw9⟩; have hw9 := hw9.symm; subst hw9) | (go_at_call 71; refine HC1.out.mono ?_; rintro e w11 ⟨rfl, hb11⟩) | fail)
              go_ret
              exact ⟨.inl ⟨rfl, rfl⟩, (HS10.out.keep hb11).bel⟩
            | true =>
              rw [hn] at HC1
              go_wp2_with (first | (go_at_call 75; refine HN.out.mono ?_; rintro e w9 ⟨rfl, hw9⟩; have hw9 := hw9.symm; subst hw9) | fail)
              refine HC1.out.mono ?_
              rintro e w11 ⟨rfl, hb11⟩
              have HS11 := hide (HS10.out.keep hb11)
              have HO11 := hide (row_keep hb11 HO10.out)
              have HP11 := hide (row_keep hb11 HP10.out)
              have HT11 := hide (HT10.out.keep hb11)
              have HX11 : Hid (∀ i (h : i < (qs ++ [qc]).length) (h2 : i < d.cs.length), SpR (offB B (.slice (some ⟨g, 0, none⟩) (2 + j) cap) (.slice ad j cp)) w11 d.cs[i].t (qs ++ [qc])[i]) := fun i h h2 => (HX10.out i h h2).keep hb11
              have y0 := keep_cell hb11 y0
              have ly := lt_cell y0
              have HSS : Hid (StrsAt w11 (.slice (some ⟨g, 0, none⟩) (2 + j) cap) (takenN d.s d.cs j)) := by
                show StrsAt _ _ _
                exact row_strs (e := 9) (base := B + 1) (by rw [HTL.out]; exact HO11.out)
              have HC2 := hide (l1In_any _ _ c.s w11 HSS.out)
              clear hb11 HC1 HS10 HO10 HP10 HT10 HX10 HN
              cases hq : hasB (takenN d.s d.cs j) c.s with
              | true =>
                rw [hq] at HC2
                have hA : A = false := by rw [HAJ.out, HN2.out, hq]; simp
                subst hA
                go_wp2_with fail
                refine HC2.out.mono ?_
                rintro e w12 ⟨rfl, rfl⟩
                go_wp2_with fail
                go_ret
                exact ⟨.inl ⟨rfl, rfl⟩, HS11.out.bel⟩
              | false =>
                rw [hq] at HC2
                have HA5 : Hid (A = ctsB d.ps (takenN d.s d.cs (j + 1)) (d.cs.drop (j + 1))) := by show _ = _; rw [HAJ.out, HN2.out, hp, hn, hq]; rfl
                go_wp2_with fail
                refine HC2.out.mono ?_
                rintro e w12 ⟨rfl, rfl⟩
                clear HC2 HN2 HAJ HSS
                obtain ⟨W12, hW12⟩ : ∃ W12, W12 = w12.alloc (.cells #[.string c.s] 9) := ⟨_, rfl⟩
                have hb12 : Below w12.heap.size w12 W12 := by rw [hW12]; exact bel_alloc (Below.refl _ _) _
                have hh12 : W12.heap[w12.heap.size]? = some (.cells #[.string c.s] 9 (0, 0)) := by rw [hW12]; exact heap_alloc_new w12 _
                have HS12 := hide (HS11.out.keep hb12)
                have HO12 := hide (row_keep hb12 HO11.out)
                have HP12 := hide (row_keep hb12 HP11.out)
                have HY12 := hide (keep_cell hb12 y0)
                have HT12 := hide (HT11.out.keep hb12)
                have HX12 : Hid (∀ i (h : i < (qs ++ [qc]).length) (h2 : i < d.cs.length), SpR (offB B (.slice (some ⟨g, 0, none⟩) (2 + j) cap) (.slice ad j cp)) W12 d.cs[i].t (qs ++ [qc])[i]) := fun i h h2 => (HX11.out i h h2).keep hb12
                have hs12 := HS12.out.sz
                have hs12b : w12.heap.size < W12.heap.size := by rw [hW12]; simp
                clear hb12 HS11 HO11 HP11 HT11 HX11
                go_wp2_with (first
                  | (at_builtin
                     rw [← hW12]
                     refine wpList_append_lies _ rfl _ _ 22 rfl (B + 1) 9 i9 (.string ⟨#[]⟩) 1 16 Tryz.underlying22 hi9 hz9 hs9 hb9 rfl (by omega) (.slice (some ⟨g, 0, none⟩) (2 + j) cap) (2 + j) ((takenN d.s d.cs j).map Value.string) rfl HO12.out ⟨w12.heap.size, 0, none⟩ 1 1 [.string c.s] rfl rfl (World.news_of_block (cs := #[.string c.s]) (t := 9) (fr := (0, 0)) hh12) (by intro u hu; simp at hu; rcases hu with rfl; rfl) (by omega) (by unfold maxLen; omega) (by omega) (by omega) W12.heap.size rfl ?_)
                  | fail)
                intro g13 cap13 w13 hown13 hgrow13 hat13 hlt13
                rw [← hW12] at hgrow13
                have HK13 : Hid (Carry (offB B (.slice (some ⟨g, 0, none⟩) (2 + j) cap) (.slice ad j cp)) (offB B (.slice (some ⟨g13, 0, none⟩) (2 + (j + 1)) cap13) (.slice ad j cp)) W12 w13) := carry_v1 HO12.out (by decide) (by decide) hgrow13 (hat13.imp id (fun e => by rw [e, hW12]; simp))
                have HT13 := hide (HT12.out.to HK13.out)
                have HX13 : Hid (∀ i (h : i < (qs ++ [qc]).length) (h2 : i < d.cs.length), SpR (offB B (.slice (some ⟨g13, 0, none⟩) (2 + (j + 1)) cap13) (.slice ad j cp)) w13 d.cs[i].t (qs ++ [qc])[i]) := fun i h h2 => (HX12.out i h h2).to HK13.out
                have HS13 := hide (HS12.out.row HO12.out hgrow13)
                have HO13 : Hid (w13.ownsRow (B + 1) 9 1 (.slice (some ⟨g13, 0, none⟩) (2 + (j + 1)) cap13) (2 + (j + 1)) ((takenN d.s d.cs (j + 1)).map Value.string)) := by show World.ownsRow _ _ _ _ _ _ _; rw [HTS.out, List.map_append]; exact hown13
                have HP13 : Hid (w13.ownsRow (B + 1) 136 2 (.slice ad j cp) j (ctCells (d.cs.take j) qs)) := row_same HP12.out (fun q hq => hgrow13.block q (World.ownsRow.lt HP12.out q hq).2 (fun e => rows_apart HP12.out HO12.out (by decide) q hq e.symm))
                have y0 : w13.cell? ⟨wr.heap.size, 0, none⟩ = some (.string c.s) := heap_cell (hgrow13.block _ (lt_cell HY12.out) (fun e => by have h1 : wr.heap.size = g := Option.some.inj e; have := HGW.out; omega)) HY12.out
                have ly := lt_cell y0
                have n6 : w13.cell? ⟨B, 6, none⟩ = some (.slice ad j cp) := by rw [HS13.out.n1.cell 6 (by omega)]; rfl
                have l6 := lt_cell n6
                clear hown13 hgrow13 hat13 hlt13 hW12 hh12 HS12 HO12 HP12 HY12 hs12 hs12b HT12 HX12 HK13
                go_wp2_with fail
                have hS0 : (fun w' : World => w'.heap[B]? = w13.heap[B]? ∧ w'.heap[wr.heap.size]? = w13.heap[wr.heap.size]?) w13.drew := ⟨rfl, rfl⟩
                refine anyE_region (L := 13) (S := (fun w' : World => w'.heap[B]? = w13.heap[B]? ∧ w'.heap[wr.heap.size]? = w13.heap[wr.heap.size]?)) (by kernel_rfl) ?_
                refine anyE_take 0 (v := ?v19) rfl (by kernel_rfl) (by kernel_rfl) (by kernel_rfl) (by kernel_rfl) (fun _ _ _ h => h) (by rfl) ?hy19 hS0 ?rest19
                case hy19 =>
                  intro wx hx
                  go_simp
                  try rfl
                case rest19 =>
                intro K hK
                go_simp
                refine hK.out _ ?_
                clear hK K
                refine anyE_take 1 (v := ?v20) rfl (by kernel_rfl) (by kernel_rfl) (by kernel_rfl) (by kernel_rfl) (fun _ _ _ h => h) (by rfl) ?hy20 hS0 ?rest20
                case hy20 =>
                  intro wx hx
                  go_simp
                  try rfl
                case rest20 =>
                intro K hK
                go_simp
                refine hK.out _ ?_
                clear hK K
                refine anyE_take 2 (v := ?v21) rfl (by kernel_rfl) (by kernel_rfl) (by kernel_rfl) (by kernel_rfl) (fun _ _ _ h => h) (by rfl) ?hy21 hS0 ?rest21
                case hy21 =>
                  intro wx hx
                  go_simp
                  try rfl
                case rest21 =>
                intro K hK
                go_simp
                refine hK.out _ ?_
                clear hK K
                refine anyE_take 3 (v := ?v22) rfl (by kernel_rfl) (by kernel_rfl) (by kernel_rfl) (by kernel_rfl) (fun _ _ _ h => h) (by rfl) ?hy22 hS0 ?rest22
                case hy22 =>
                  intro wx hx
                  go_simp
                  try rfl
                case rest22 =>
                intro K hK
                go_simp
                refine hK.out _ ?_
                clear hK K
                refine anyE_take 4 (v := ?v23) rfl (by kernel_rfl) (by kernel_rfl) (by kernel_rfl) (by kernel_rfl) (fun _ _ _ h => h) (by rfl) ?hy23 hS0 ?rest23
                case hy23 =>
                  intro wx hx
                  have m6 : wx.cell? ⟨B, 6, none⟩ = some (.slice ad j cp) := heap_cell hx.1 n6
                  have lm := lt_cell m6
                  go_simp
                  try rfl
                case rest23 =>
                intro K hK
                go_simp
                refine hK.out _ ?_
                clear hK K
                refine anyE_take 5 (v := ?v24) rfl (by kernel_rfl) (by kernel_rfl) (by kernel_rfl) (by kernel_rfl) (fun _ _ _ h => h) (by rfl) ?hy24 hS0 ?rest24
                case hy24 =>
                  intro wx hx
                  go_simp
                  try rfl
                case rest24 =>
                intro K hK
                go_simp
                refine hK.out _ ?_
                clear hK K
                refine anyE_take 6 (v := ?v25) rfl (by kernel_rfl) (by kernel_rfl) (by kernel_rfl) (by kernel_rfl) (fun _ _ _ h => h) (by rfl) ?hy25 hS0 ?rest25
                case hy25 =>
                  intro wx hx
                  have m6 : wx.cell? ⟨wr.heap.size, 0, none⟩ = some (.string c.s) := heap_cell hx.2 y0
                  have lm := lt_cell m6
                  go_simp
                  try rfl
                case rest25 =>
                intro K hK
                go_simp
                refine hK.out _ ?_
                clear hK K
                refine anyE_take 7 (v := ?v26) rfl (by kernel_rfl) (by kernel_rfl) (by kernel_rfl) (by kernel_rfl) (fun _ _ _ h => h) (by rfl) ?hy26 hS0 ?rest26
                case hy26 =>
                  intro wx hx
                  go_simp
                  try rfl
                case rest26 =>
                intro K hK
                go_simp
                refine hK.out _ ?_
                clear hK K
                refine anyE_take 8 (v := ?v27) rfl (by kernel_rfl) (by kernel_rfl) (by kernel_rfl) (by kernel_rfl) (fun _ _ _ h => h) (by rfl) ?hy27 hS0 ?rest27
                case hy27 =>
                  intro wx hx
                  go_simp
                  try rfl
                case rest27 =>
                intro K hK
                go_simp
                refine hK.out _ ?_
                clear hK K
                refine anyE_one 9 (by kernel_rfl) rfl (fun K hK => ?_)
                go_simp
                obtain ⟨W14, hW14⟩ : ∃ W14, W14 = (w13.alloc (.cells #[.string c.s, .pointer (some ⟨qc, 0, none⟩)] 136)).drew := ⟨_, rfl⟩
                rw [← hW14]
                have hb14 : Below w13.heap.size w13 W14 := by rw [hW14]; exact (bel_alloc (Below.refl _ _) _).drew
                have hh14 : W14.heap[w13.heap.size]? = some (.cells #[.string c.s, .pointer (some ⟨qc, 0, none⟩)] 136 (0, 0)) := by rw [hW14]; exact heap_alloc_new w13 _
                have hS1 : (fun w' : World => w'.heap[B]? = w13.heap[B]? ∧ w'.heap[wr.heap.size]? = w13.heap[wr.heap.size]?) W14 := ⟨hb14.block _ l6, hb14.block _ ly⟩
                refine hK.out _ _ (fun _ => hS1) ?_
                clear hK K
                have HS14 := hide (HS13.out.keep hb14)
                have HO14 := hide (row_keep hb14 HO13.out)
                have HP14 := hide (row_keep hb14 HP13.out)
                have HT14 := hide (HT13.out.keep hb14)
                have HX14 : Hid (∀ i (h : i < (qs ++ [qc]).length) (h2 : i < d.cs.length), SpR (offB B (.slice (some ⟨g13, 0, none⟩) (2 + (j + 1)) cap13) (.slice ad j cp)) W14 d.cs[i].t (qs ++ [qc])[i]) := fun i h h2 => (HX13.out i h h2).keep hb14
                have hs14 := HS14.out.sz
                have hs14b : w13.heap.size < W14.heap.size := by rw [hW14]; simp
                have hly14 : wr.heap.size < W14.heap.size := by omega
                clear hb14 hW14 HS13 HO13 HP13 HT13 HX13
                refine anyE_one 10 (by kernel_rfl) rfl (fun K hK => ?_)
                refine step_append_lies _ rfl _ _ 95 rfl (B + 1) 136 im (.agg #[.string ⟨#[]⟩, .pointer none]) 2 24 Tryz.underlying95 him hzm hsm hbm rfl (by omega) (.slice ad j cp) j (ctCells (d.cs.take j) qs) rfl HP14.out ⟨w13.heap.size, 0, none⟩ 1 1 [.string c.s, .pointer (some ⟨qc, 0, none⟩)] rfl rfl (World.news_of_block (cs := #[.string c.s, .pointer (some ⟨qc, 0, none⟩)]) (t := 136) (fr := (0, 0)) hh14) (by intro u hu; simp at hu; rcases hu with rfl | rfl <;> rfl) (by omega) (by unfold maxLen; omega) (by omega) (by omega) W14.heap.size rfl ?_
                intro g15 cap15 w15 hown15 hgrow15 hat15 hlt15
                have HS15 := hide (HS14.out.row HP14.out hgrow15)
                have HK15 : Hid (Carry (offB B (.slice (some ⟨g13, 0, none⟩) (2 + (j + 1)) cap13) (.slice ad j cp)) (offB B (.slice (some ⟨g13, 0, none⟩) (2 + (j + 1)) cap13) (.slice (some ⟨g15, 0, none⟩) (j + 1) cap15)) W14 w15) := carry_v2 HP14.out (by decide) (by decide) hgrow15 hat15
                have HT15 := hide (HT14.out.to HK15.out)
                have HX15 : Hid (∀ i (h : i < (qs ++ [qc]).length) (h2 : i < d.cs.length), SpR (offB B (.slice (some ⟨g13, 0, none⟩) (2 + (j + 1)) cap13) (.slice (some ⟨g15, 0, none⟩) (j + 1) cap15)) w15 d.cs[i].t (qs ++ [qc])[i]) := fun i h h2 => (HX14.out i h h2).to HK15.out
                have HO15 : Hid (w15.ownsRow (B + 1) 9 1 (.slice (some ⟨g13, 0, none⟩) (2 + (j + 1)) cap13) (2 + (j + 1)) ((takenN d.s d.cs (j + 1)).map Value.string)) := row_same HO14.out (fun q hq => hgrow15.block q (World.ownsRow.lt HO14.out q hq).2 (fun e => rows_apart HO14.out HP14.out (by decide) q hq e.symm))
                have hS2 : (fun w' : World => w'.heap[B]? = w13.heap[B]? ∧ w'.heap[wr.heap.size]? = w13.heap[wr.heap.size]?) w15 := ⟨(hgrow15.block B (by omega) (fun e => by have := (World.ownsRow.lt HP14.out B e.symm).1; omega)).trans hS1.1, (hgrow15.block wr.heap.size hly14 (fun e => by have := HGP.out _ e.symm; omega)).trans hS1.2⟩
                refine hK.out _ _ (fun _ => hS2) ?_
                clear hK K
                have HOW : Hid (w15.ownsRow (B + 1) 136 2 (.slice (some ⟨g15, 0, none⟩) (j + 1) cap15) (j + 1) (ctCells (d.cs.take (j + 1)) (qs ++ [qc]))) := by show World.ownsRow _ _ _ _ _ _ _; rw [HCT.out]; exact hown15
                have n6 : w15.cell? ⟨B, 6, none⟩ = some (.slice ad j cp) := by rw [HS15.out.n1.cell 6 (by omega)]; rfl
                have f6 : w15.frozen? ⟨B, 6, none⟩ = false := HS15.out.n1.frozen 6
                have l6 := lt_cell n6
                clear hown15 hgrow15 hat15 hlt15 HS14 HO14 HP14 HT14 HX14 HK15 hh14 hS0 hS1 hs14 hs14b hly14 y0 ly
                refine anyE_one 11 (by kernel_rfl) rfl (fun K hK => ?_)
                go_simp
                refine hK.out _ _ (fun _ => hS2) ?_
                clear hK K
                refine anyE_one 12 (by kernel_rfl) rfl (fun K hK => ?_)
                go_simp
                refine hK.out _ _ (fun _ => hS2) ?_
                clear hK K
                refine anyE_one 13 (by kernel_rfl) rfl (fun K hK => ?_)
                go_simp
                refine hK.out _ _ (fun h => absurd rfl h) ?_
                clear hK K
                refine anyE_done (by kernel_rfl) ?_ _
                have HS16 := hide (HS15.out.set 6 (.slice (some ⟨g15, 0, none⟩) (j + 1) cap15))
                have HO16 := hide (row_same HO15.out (w' := w15.setCell ⟨B, 6, none⟩ (.slice (some ⟨g15, 0, none⟩) (j + 1) cap15)) (fun q hq => (grown_set w15 ⟨B, 6, none⟩ _).block q (World.ownsRow.lt HO15.out q hq).2 (fun e => by have h1 : q = B := Option.some.inj e; have := (World.ownsRow.lt HO15.out q hq).1; omega)))
                have HP16 := hide (row_same HOW.out (w' := w15.setCell ⟨B, 6, none⟩ (.slice (some ⟨g15, 0, none⟩) (j + 1) cap15)) (fun q hq => (grown_set w15 ⟨B, 6, none⟩ _).block q (World.ownsRow.lt HOW.out q hq).2 (fun e => by have h1 : q = B := Option.some.inj e; have := (World.ownsRow.lt HOW.out q hq).1; omega)))
                have HT16 := hide (HT15.out.to (carry_set HS15.out.n1 6 (.slice (some ⟨g15, 0, none⟩) (j + 1) cap15)))
                have HX16 : Hid (∀ i (h : i < (qs ++ [qc]).length) (h2 : i < d.cs.length), SpR (offB B (.slice (some ⟨g13, 0, none⟩) (2 + (j + 1)) cap13) (.slice (some ⟨g15, 0, none⟩) (j + 1) cap15)) (w15.setCell ⟨B, 6, none⟩ (.slice (some ⟨g15, 0, none⟩) (j + 1) cap15)) d.cs[i].t (qs ++ [qc])[i]) := fun i h h2 => (HX15.out i h h2).to (carry_set HS15.out.n1 6 _)
                have HQ16 : Hid ((qs ++ [qc]).length = j + 1) := by show _ = _; rw [List.length_append, HQL.out]; rfl
                clear HS15 HO15 HOW HT15 HX15 HQL HCT n6 f6 l6 hS2
                go_wp2_with fail
                go_roundw
                case rel => exact ⟨j + 1, g13, cap13, some ⟨g15, 0, none⟩, cap15, qs ++ [qc], hlt, by go_num, by first | rfl | (congr 1; omega), HO16, HA5, HS16, HP16, HQ16, HT16, HX16⟩
                case measure => simp [intOf]; omega
          · have hA : A = true := by
              rw [HAJ.out, List.drop_eq_nil_of_le (by omega)]
              rfl
            subst hA
            have hlt' : ¬ (j : Int) < d.cs.length := by omega
            have ej : j = d.cs.length := by omega
            have HFIN : Hid (RdF w.heap.size true d (.slice pa d.ps.length pc) (.returned (.pointer (some ⟨B, 0, none⟩))) wr) := by
              have hlo := HSJ.out.lo
              have hp := HPJ.out
              rw [List.take_of_length_le (by omega)] at hp
              have hql := HQL.out
              have hs := HSJ.out.n1
              subst ej
              exact .inr ⟨rfl, B, _, _, _, qs, _, rfl, by omega, hs, fun _ => ⟨qa, rfl, HTJ.out⟩, hql, hp, HUJ.out⟩
            clear ej HPJ HQL HTJ HUJ HO HAJ
            go_wp2_with fail
            go_ret
            exact ⟨HFIN.out, HSJ.out.bel⟩
      · have q4 : (d.k != 4) = false := by rw [hk]; rfl
        clear hne
        go_upto_region 10 with fail
        clear b5 q4
        have HC := hide (HPL.out _ d.t HZ.out.t HM.out.t W3 (HD.out.t.keep HS3.out.bel) (HD.out.ps.keep HS3.out.bel))
        go_wp2_with fail
        refine HC.out.mono ?_
        rintro e w4 ⟨hpo, hb4⟩
        have w4S := hide (HS3.out.keep hb4)
        have u3 : w4.cell? ⟨B, 3, none⟩ = some (.pointer none) := by rw [w4S.out.n1.cell 3 (by omega)]; rfl
        have uf : w4.frozen? ⟨B, 3, none⟩ = false := w4S.out.n1.frozen 3
        have lu := lt_cell u3
        clear hb4 HC
        rcases hpo with ⟨hp, rfl⟩ | ⟨hp, hkin, pt, Q, rfl, hF, hQ⟩
        · have HS5 := hide (w4S.out.set 3 (.pointer none))
          have HN := hide (tnone_none (w4.setCell ⟨B, 3, none⟩ (.pointer none)))
          have hA : A = false := by rw [HA.out]; rw [hp]; rfl
          subst hA
          go_wp2_with (first | (go_at_call 75; refine HN.out.mono ?_; rintro e w9 ⟨rfl, hw9⟩; have hw9 := hw9.symm; subst hw9) | fail)
          go_ret
          exact ⟨.inl ⟨rfl, rfl⟩, HS5.out.bel⟩
        obtain ⟨qa, hqn⟩ : ∃ qa, qa = pt (d.t.length - 1) := ⟨_, rfl⟩
        have HT4 : Hid (SpR (offB B (.slice none 0 0) (.slice none 0 0)) w4 d.t qa) := fun T hT => by rw [hqn]; exact (forest_root hkin hF hT).to (carry_new hQ HS3.out.sz (fun g hg => by simp [Value.ownBlock] at hg) (fun g hg => by simp [Value.ownBlock] at hg))
        rw [← hqn]
        clear hqn hkin hF hQ
        obtain ⟨W5, hW5⟩ : ∃ W5, W5 = w4.setCell ⟨B, 3, none⟩ (.pointer (some ⟨qa, 0, none⟩)) := ⟨_, rfl⟩
        have HS5 : Hid (LSt w #[.int .i64 d.k, .string d.s, .slice pa d.ps.length pc, .slice ta d.t.length tc, .slice va d.v.length vc, .int .i64 d.f, .slice ca d.cs.length cc] B [.int .i64 d.k, .string d.s, .slice pa d.ps.length pc, .pointer (some ⟨qa, 0, none⟩), .pointer none, .int .i64 d.f, .slice none 0 0] W5) := by show LSt _ _ _ _ _; rw [hW5]; exact w4S.out.set 3 _
        have HT5 : Hid (SpR (offB B (.slice none 0 0) (.slice none 0 0)) W5 d.t qa) := by show SpR _ _ _ _; rw [hW5]; exact HT4.out.to (carry_set w4S.out.n1 _ _)
        clear HT4
        go_upto_region 11 with fail
        rw [← hW5]
        clear hW5 u3 uf lu w4S c0 c1 c2 c3 c4 c5 c6 l0
        have c0 : W5.cell? ⟨w.heap.size, 0, none⟩ = some (.int .i64 d.k) := by rw [Lib.cell_of_heap HS5.out.n0]; rfl
        have c1 : W5.cell? ⟨w.heap.size, 1, none⟩ = some (.string d.s) := by rw [Lib.cell_of_heap HS5.out.n0]; rfl
        have c2 : W5.cell? ⟨w.heap.size, 2, none⟩ = some (.slice pa d.ps.length pc) := by rw [Lib.cell_of_heap HS5.out.n0]; rfl
        have c3 : W5.cell? ⟨w.heap.size, 3, none⟩ = some (.slice ta d.t.length tc) := by rw [Lib.cell_of_heap HS5.out.n0]; rfl
        have c4 : W5.cell? ⟨w.heap.size, 4, none⟩ = some (.slice va d.v.length vc) := by rw [Lib.cell_of_heap HS5.out.n0]; rfl
        have c5 : W5.cell? ⟨w.heap.size, 5, none⟩ = some (.int .i64 d.f) := by rw [Lib.cell_of_heap HS5.out.n0]; rfl
        have c6 : W5.cell? ⟨w.heap.size, 6, none⟩ = some (.slice ca d.cs.length cc) := by rw [Lib.cell_of_heap HS5.out.n0]; rfl
        have l0 := lt_cell c0
        have u3 : W5.cell? ⟨B, 3, none⟩ = some (.pointer (some ⟨qa, 0, none⟩)) := by rw [HS5.out.n1.cell 3 (by omega)]; rfl
        have lu := lt_cell u3
        have HN := hide (tnone_some ⟨qa, 0, none⟩ W5)
        have HA : Hid (A = (valueB d && ctorsB d)) := by show _ = _; rw [HA.out, hp]; rfl
        clear hp
        go_upto_region 13 with (first | (go_at_call 75; refine HN.out.mono ?_; rintro e w9 ⟨rfl, hw9⟩; have hw9 := hw9.symm; subst hw9) | fail)
        clear u3 lu HN
        have b2 : (d.k == 2) = false := by rw [hk]; rfl
        have b3 : (d.k == 3) = false := by rw [hk]; rfl
        have hv : hasVal d.k = false := by rw [hk]; rfl
        have HA : Hid (A = (decide (d.v.length = 0) && ctorsB d)) := by show _ = _; rw [HA.out]; unfold valueB; rw [if_neg (by rw [hv]; simp)]
        clear hv hk
        go_upto_region 17 with fail
        clear b2 b3
        have HC := hide (l5Empty_any _ d.v W5 (HD.out.v.keep HS5.out.bel))
        by_cases hvl : d.v.length = 0
        rotate_left
        · rw [decide_eq_false hvl] at HC HA
          have hA : A = false := by rw [HA.out]; rfl
          subst hA
          go_wp2_with fail
          refine HC.out.mono ?_
          rintro e w6 ⟨rfl, hb6⟩
          have HS6 := hide (HS5.out.keep hb6)
          clear hb6
          go_wp2_with fail
          go_ret
          exact ⟨.inl ⟨rfl, rfl⟩, HS6.out.bel⟩
        rw [decide_eq_true hvl] at HC HA
        clear hvl
        have HA : Hid (A = ctorsB d) := by show _ = _; rw [HA.out]; rfl
        go_upto_region 19 with (go_at_call 73; refine HC.out.mono ?_; rintro e W7 ⟨rfl, hb7⟩)
        have HS7 := hide (HS5.out.keep hb7)
        have HT7 := hide (HT5.out.keep hb7)
        clear HT5
        have HT5 := HT7
        clear HT7
        clear hb7 HC HS5 c0 c1 c2 c3 c4 c5 c6 l0
        have c0 : W7.cell? ⟨w.heap.size, 0, none⟩ = some (.int .i64 d.k) := by rw [Lib.cell_of_heap HS7.out.n0]; rfl
        have c1 : W7.cell? ⟨w.heap.size, 1, none⟩ = some (.string d.s) := by rw [Lib.cell_of_heap HS7.out.n0]; rfl
        have c2 : W7.cell? ⟨w.heap.size, 2, none⟩ = some (.slice pa d.ps.length pc) := by rw [Lib.cell_of_heap HS7.out.n0]; rfl
        have c3 : W7.cell? ⟨w.heap.size, 3, none⟩ = some (.slice ta d.t.length tc) := by rw [Lib.cell_of_heap HS7.out.n0]; rfl
        have c4 : W7.cell? ⟨w.heap.size, 4, none⟩ = some (.slice va d.v.length vc) := by rw [Lib.cell_of_heap HS7.out.n0]; rfl
        have c5 : W7.cell? ⟨w.heap.size, 5, none⟩ = some (.int .i64 d.f) := by rw [Lib.cell_of_heap HS7.out.n0]; rfl
        have c6 : W7.cell? ⟨w.heap.size, 6, none⟩ = some (.slice ca d.cs.length cc) := by rw [Lib.cell_of_heap HS7.out.n0]; rfl
        have l0 := lt_cell c0
        by_cases hf0 : d.f < 0
        · have df : decide (d.f < 0) = true := decide_eq_true hf0
          have hA : A = false := by rw [HA.out]; unfold ctorsB; rw [show decide (0 ≤ d.f) = false by simp; omega]; rfl
          subst hA
          go_wp2_with fail
          go_ret
          exact ⟨.inl ⟨rfl, rfl⟩, HS7.out.bel⟩
        have df : decide (d.f < 0) = false := decide_eq_false hf0
        by_cases hf5 : 50 < d.f
        · have df5 : decide (50 < d.f) = true := decide_eq_true hf5
          have hA : A = false := by rw [HA.out]; unfold ctorsB; rw [show decide (d.f ≤ 50) = false by simp; omega]; simp
          subst hA
          go_wp2_with fail
          go_ret
          exact ⟨.inl ⟨rfl, rfl⟩, HS7.out.bel⟩
        have df5 : decide (50 < d.f) = false := decide_eq_false hf5
        by_cases hc20 : 20 < d.cs.length
        · have d20 : decide ((20 : Int) < (d.cs.length : Int)) = true := by simp; omega
          have hA : A = false := by rw [HA.out]; unfold ctorsB; rw [show decide (d.cs.length ≤ 20) = false by simp; omega]; simp
          subst hA
          go_wp2_with fail
          go_ret
          exact ⟨.inl ⟨rfl, rfl⟩, HS7.out.bel⟩
        have d20 : decide ((20 : Int) < (d.cs.length : Int)) = false := by simp; omega
        have HA : Hid (A = ctsB d.ps (takenN d.s d.cs 0) (d.cs.drop 0)) := by
          show _ = _
          rw [HA.out]; unfold ctorsB
          rw [show decide (0 ≤ d.f) = true by simp; omega, show decide (d.f ≤ 50) = true by simp; omega, show decide (d.cs.length ≤ 20) = true by simp; omega]
          rfl
        have hs36 : d.s.size ≤ 36 := by omega
        have h4s : (⟨#[46, 114, 101, 99]⟩ : ByteArray).size = 4 := by decide
        have hadd : ∀ w : World, (Op.stringOp .add d.s ⟨#[46, 114, 101, 99]⟩).run Tryz.prog w = .ok (.string (recName d.s)) w := fun w => run_string_add_sum w _ _ (by omega)
        clear h4s
        obtain ⟨rn, hrn⟩ : ∃ rn, rn = recName d.s := ⟨_, rfl⟩
        rw [← hrn] at hadd
        have HRN := hide hrn
        clear hrn
        obtain ⟨W8, hW8⟩ : ∃ W8, W8 = W7.alloc (.cells #[.string d.s, .string rn] 9) := ⟨_, rfl⟩
        have hb8 : Below W7.heap.size W7 W8 := by rw [hW8]; exact bel_alloc (Below.refl _ _) _
        have HO8 : Hid (W8.ownsRow (B + 1) 9 1 (.slice (some ⟨W7.heap.size, 0, none⟩) (2 + 0) 2) (2 + 0) ((takenN d.s d.cs 0).map Value.string)) := by
          show World.ownsRow _ _ _ _ _ _ _
          rw [hW8]
          refine ⟨rfl, .inr ⟨W7.heap.size, 2, #[.string d.s, .string rn], rfl, HS7.out.sz, heap_alloc_new W7 _, Nat.le_refl _, by unfold maxLen; omega, rfl, ?_⟩⟩
          rw [HRN.out]
          rfl
        have HS8 : Hid (LSt w #[.int .i64 d.k, .string d.s, .slice pa d.ps.length pc, .slice ta d.t.length tc, .slice va d.v.length vc, .int .i64 d.f, .slice ca d.cs.length cc] B [.int .i64 d.k, .string d.s, .slice pa d.ps.length pc, .pointer (some ⟨qa, 0, none⟩), .pointer none, .int .i64 d.f, .slice none 0 0] W8) := HS7.out.keep hb8
        have HP8 : Hid (W8.ownsRow (B + 1) 136 2 (.slice none 0 0) 0 (ctCells (d.cs.take 0) [])) := ⟨rfl, .inl ⟨rfl, rfl⟩⟩
        have HT8 : Hid (SpR (offB B (.slice (some ⟨W7.heap.size, 0, none⟩) (2 + 0) 2) (.slice none 0 0)) W8 d.t qa) := HT5.out.to (carry_bel hb8 (fun b hb => hb) (fun g hg => by simp [Value.ownBlock] at hg; omega))
        have HU8 : Hid (∀ i (h : i < ([] : List Nat).length) (h2 : i < d.cs.length), SpR (offB B (.slice (some ⟨W7.heap.size, 0, none⟩) (2 + 0) 2) (.slice none 0 0)) W8 d.cs[i].t ([] : List Nat)[i]) := fun i h => absurd h (by simp)
        clear df df5 d20
        go_upto_region 22 with fail
        first | rw [← hW8] | skip
        clear hW8 hb8 hadd HS7 HT5
        go_wp2_with fail
        go_loopw [4, 5] (fun t i wr => ∃ (j g cap : Nat) (ad : Option Addr) (cp : Nat) (qs : List Nat), j ≤ d.cs.length ∧ i = .int .i64 j ∧ t = .slice (some ⟨g, 0, none⟩) (2 + j) cap ∧ Hid (wr.ownsRow (B + 1) 9 1 (.slice (some ⟨g, 0, none⟩) (2 + j) cap) (2 + j) ((takenN d.s d.cs j).map Value.string)) ∧ Hid (A = ctsB d.ps (takenN d.s d.cs j) (d.cs.drop j)) ∧ Hid (LSt w #[.int .i64 d.k, .string d.s, .slice pa d.ps.length pc, .slice ta d.t.length tc, .slice va d.v.length vc, .int .i64 d.f, .slice ca d.cs.length cc] B [.int .i64 d.k, .string d.s, .slice pa d.ps.length pc, .pointer (some ⟨qa, 0, none⟩), .pointer none, .int .i64 d.f, .slice ad j cp] wr) ∧ Hid (wr.ownsRow (B + 1) 136 2 (.slice ad j cp) j (ctCells (d.cs.take j) qs)) ∧ Hid (qs.length = j) ∧ Hid (SpR (offB B (.slice (some ⟨g, 0, none⟩) (2 + j) cap) (.slice ad j cp)) wr d.t qa) ∧ Hid (∀ i (h : i < qs.length) (h2 : i < d.cs.length), SpR (offB B (.slice (some ⟨g, 0, none⟩) (2 + j) cap) (.slice ad j cp)) wr d.cs[i].t qs[i])) (fun _ i _ => d.cs.length - (intOf i).toNat)
        case atStart => exact ⟨0, _, _, none, 0, [], by omega, rfl, rfl, HO8, HA, HS8, HP8, rfl, HT8, HU8⟩
        case round =>
          clear HO8 HS8 HP8 HT8 HU8 c0 c1 c2 c3 c4 c5 c6 l0
          obtain ⟨j, g, cap, ad, cp, qs, hj, rfl, rfl, HO, HAJ, HSJ, HPJ, HQL, HTJ, HUJ⟩ := hrel
          have c0 : wr.cell? ⟨w.heap.size, 0, none⟩ = some (.int .i64 d.k) := by rw [Lib.cell_of_heap HSJ.out.n0]; rfl
          have c1 : wr.cell? ⟨w.heap.size, 1, none⟩ = some (.string d.s) := by rw [Lib.cell_of_heap HSJ.out.n0]; rfl
          have c2 : wr.cell? ⟨w.heap.size, 2, none⟩ = some (.slice pa d.ps.length pc) := by rw [Lib.cell_of_heap HSJ.out.n0]; rfl
          have c3 : wr.cell? ⟨w.heap.size, 3, none⟩ = some (.slice ta d.t.length tc) := by rw [Lib.cell_of_heap HSJ.out.n0]; rfl
          have c4 : wr.cell? ⟨w.heap.size, 4, none⟩ = some (.slice va d.v.length vc) := by rw [Lib.cell_of_heap HSJ.out.n0]; rfl
          have c5 : wr.cell? ⟨w.heap.size, 5, none⟩ = some (.int .i64 d.f) := by rw [Lib.cell_of_heap HSJ.out.n0]; rfl
          have c6 : wr.cell? ⟨w.heap.size, 6, none⟩ = some (.slice ca d.cs.length cc) := by rw [Lib.cell_of_heap HSJ.out.n0]; rfl
          have l0 := lt_cell c0
          have HGW : Hid (g < wr.heap.size) := (World.ownsRow.lt HO.out g rfl).2
          have HGP : Hid (∀ q, (Value.slice ad j cp).ownBlock = some q → q < wr.heap.size) := fun q hq => (World.ownsRow.lt HPJ.out q hq).2
          by_cases hlt : j < d.cs.length
          · have hlt' : (j : Int) < d.cs.length := by omega
            obtain ⟨a', cap', e', _, _, hc0⟩ := HD.out.cs
            obtain ⟨b, off, ha, hc⟩ := hc0 (by omega)
            have ea : ca = some ⟨b, off, none⟩ := by rw [← ha]; injection e'
            subst ea
            obtain ⟨x1, u, x2, hu⟩ := hc j hlt
            have x1 := keep_cell HSJ.out.bel x1
            have x2 := keep_cell HSJ.out.bel x2
            obtain ⟨ua, uc, rfl⟩ := hu.form
            have HU := hide (hu.keep HSJ.out.bel)
            have HCZ := hide (HZ.out.cs d.cs[j] (List.getElem_mem hlt))
            have HCM := hide (HM.out.cs d.cs[j] (List.getElem_mem hlt))
            have HN2 := hide (cts_at d.ps d.s d.cs j hlt)
            have HTS := hide (takenN_succ d.s d.cs j hlt)
            have HTL := hide (takenN_len d.s d.cs j hj)
            clear hc hc0 e' ha hu
            have HCT : Hid (∀ q, ctCells (d.cs.take (j + 1)) (qs ++ [q]) = ctCells (d.cs.take j) qs ++ [.string d.cs[j].s, .pointer (some ⟨q, 0, none⟩)]) := fun q => by rw [List.take_succ_eq_append_getElem hlt, ctCells_snoc _ _ _ _ (by rw [List.length_take, HQL.out]; omega)]
            have HUS : Hid (∀ (Q : Nat → Prop) (X : World) (q : Nat), (∀ i (h : i < qs.length) (h2 : i < d.cs.length), SpR Q X d.cs[i].t qs[i]) → SpR Q X d.cs[j].t q → ∀ i (h : i < (qs ++ [q]).length) (h2 : i < d.cs.length), SpR Q X d.cs[i].t (qs ++ [q])[i]) := fun Q X q h0 hq i h h2 => by
              have hl := HQL.out
              by_cases e : i < j
              · have e2 : (qs ++ [q])[i] = qs[i]'(by omega) := List.getElem_append_left (by omega)
                rw [e2]
                exact h0 i (by omega) h2
              · have ei : i = j := by simp at h; omega
                subst ei
                have e2 : (qs ++ [q])[i] = q := by simp [hl]
                rw [e2]
                exact hq
            generalize d.cs[j] = c at *
            obtain ⟨W9, hW9⟩ : ∃ W9, W9 = wr.alloc (.cells #[.string c.s, .slice ua c.t.length uc] 73) := ⟨_, rfl⟩
            have hb9 : Below wr.heap.size wr W9 := by rw [hW9]; exact bel_alloc (Below.refl _ _) _
            have y0 : W9.cell? ⟨wr.heap.size, 0, none⟩ = some (.string c.s) := by rw [hW9]; simp [go_sem]
            have y1 : W9.cell? ⟨wr.heap.size, 1, none⟩ = some (.slice ua c.t.length uc) := by rw [hW9]; simp [go_sem]
            have ly := lt_cell y1
            have lx := lt_cell x1
            have HS9 := hide (HSJ.out.keep hb9)
            have HO9 := hide (row_keep hb9 HO.out)
            have HP9 := hide (row_keep hb9 HPJ.out)
            have HU9 := hide (HU.out.keep hb9)
            have HT9 := hide (HTJ.out.keep hb9)
            have HV9 : Hid (∀ i (h : i < qs.length) (h2 : i < d.cs.length), SpR (offB B (.slice (some ⟨g, 0, none⟩) (2 + j) cap) (.slice ad j cp)) W9 d.cs[i].t qs[i]) := fun i h h2 => (HUJ.out i h h2).keep hb9
            go_upto_region 26 with fail
            rw [← hW9]
            clear hW9 hb9 x1 x2 lx c0 c1 c2 c3 c4 c5 c6 l0 HU
            have c2 : W9.cell? ⟨w.heap.size, 2, none⟩ = some (.slice pa d.ps.length pc) := by rw [Lib.cell_of_heap HS9.out.n0]; rfl
            have l2 := lt_cell c2
            have HC := hide (HPL.out _ c.t HCZ.out.2 HCM.out W9 HU9.out (HD.out.ps.keep HS9.out.bel))
            go_wp2_with fail
            refine HC.out.mono ?_
            rintro e w10 ⟨hpo, hb10⟩
            have HS10 := hide (HS9.out.keep hb10)
            have HO10 := hide (row_keep hb10 HO9.out)
            have HP10 := hide (row_keep hb10 HP9.out)
            have HT10 := hide (HT9.out.keep hb10)
            have HV10 : Hid (∀ i (h : i < qs.length) (h2 : i < d.cs.length), SpR (offB B (.slice (some ⟨g, 0, none⟩) (2 + j) cap) (.slice ad j cp)) w10 d.cs[i].t qs[i]) := fun i h h2 => (HV9.out i h h2).keep hb10
            have HL10 : Hid (B < W9.heap.size ∧ g < W9.heap.size ∧ ∀ q, (Value.slice ad j cp).ownBlock = some q → q < W9.heap.size) := ⟨HS9.out.sz, (World.ownsRow.lt HO9.out g rfl).2, fun q hq => (World.ownsRow.lt HP9.out q hq).2⟩
            have y0 := keep_cell hb10 y0
            have ly := lt_cell y0
            clear hb10 HC HS9 HO9 HP9 HU9 HT9 HV9 HTJ HUJ y1 c2 l2
            rcases hpo with ⟨hp, rfl⟩ | ⟨hp, hkin, pt, Q, rfl, hF, hQ⟩
            · have hA : A = false := by rw [HAJ.out, HN2.out, hp]; rfl
              subst hA
              have HN := hide (tnone_none w10)
              go_wp2_with (first | (go_at_call 75; refine HN.out.mono ?_; rintro e w9 ⟨rfl, hw9⟩; have hw9 := hw9.symm; subst hw9) | fail)
              go_ret
              exact ⟨.inl ⟨rfl, rfl⟩, HS10.out.bel⟩
            obtain ⟨qc, hqc⟩ : ∃ qc, qc = pt (c.t.length - 1) := ⟨_, rfl⟩
            have HW10 : Hid (SpR (offB B (.slice (some ⟨g, 0, none⟩) (2 + j) cap) (.slice ad j cp)) w10 c.t qc) := fun T hT => by rw [hqc]; exact (forest_root hkin hF hT).to (carry_new hQ HL10.out.1 (fun q hq => by simp [Value.ownBlock] at hq; have := HL10.out.2.1; omega) HL10.out.2.2)
            rw [← hqc]
            clear hqc hkin hF hQ HL10
            have HX10 : Hid (∀ i (h : i < (qs ++ [qc]).length) (h2 : i < d.cs.length), SpR (offB B (.slice (some ⟨g, 0, none⟩) (2 + j) cap) (.slice ad j cp)) w10 d.cs[i].t (qs ++ [qc])[i]) := HUS.out _ _ _ HV10.out HW10.out
            clear HV10 HW10 HUS
            have HN := hide (tnone_some ⟨qc, 0, none⟩ w10)
            have HC1 := hide (specName_any c.s w10 HCZ.out.1)
            cases hn : nameB c.s with
            | false =>
              rw [hn] at HC1
              have hA : A = false := by rw [HAJ.out, HN2.out, hn]; simp
              subst hA
              go_wp2_with (first | (go_at_call 75; refine HN.out.mono ?_; rintro e w9 ⟨rfl, hw9⟩; have hw9 := hw9.symm; subst hw9) | (go_at_call 71; refine HC1.out.mono ?_; rintro e w11 ⟨rfl, hb11⟩) | fail)
              go_ret
              exact ⟨.inl ⟨rfl, rfl⟩, (HS10.out.keep hb11).bel⟩
            | true =>
              rw [hn] at HC1
              go_wp2_with (first | (go_at_call 75; refine HN.out.mono ?_; rintro e w9 ⟨rfl, hw9⟩; have hw9 := hw9.symm; subst hw9) | fail)
              refine HC1.out.mono ?_
              rintro e w11 ⟨rfl, hb11⟩
              have HS11 := hide (HS10.out.keep hb11)
              have HO11 := hide (row_keep hb11 HO10.out)
              have HP11 := hide (row_keep hb11 HP10.out)
              have HT11 := hide (HT10.out.keep hb11)
              have HX11 : Hid (∀ i (h : i < (qs ++ [qc]).length) (h2 : i < d.cs.length), SpR (offB B (.slice (some ⟨g, 0, none⟩) (2 + j) cap) (.slice ad j cp)) w11 d.cs[i].t (qs ++ [qc])[i]) := fun i h h2 => (HX10.out i h h2).keep hb11
              have y0 := keep_cell hb11 y0
              have ly := lt_cell y0
              have HSS : Hid (StrsAt w11 (.slice (some ⟨g, 0, none⟩) (2 + j) cap) (takenN d.s d.cs j)) := by
                show StrsAt _ _ _
                exact row_strs (e := 9) (base := B + 1) (by rw [HTL.out]; exact HO11.out)
              have HC2 := hide (l1In_any _ _ c.s w11 HSS.out)
              clear hb11 HC1 HS10 HO10 HP10 HT10 HX10 HN
              cases hq : hasB (takenN d.s d.cs j) c.s with
              | true =>
                rw [hq] at HC2
                have hA : A = false := by rw [HAJ.out, HN2.out, hq]; simp
                subst hA
                go_wp2_with fail
                refine HC2.out.mono ?_
                rintro e w12 ⟨rfl, rfl⟩
                go_wp2_with fail
                go_ret
                exact ⟨.inl ⟨rfl, rfl⟩, HS11.out.bel⟩
              | false =>
                rw [hq] at HC2
                have HA5 : Hid (A = ctsB d.ps (takenN d.s d.cs (j + 1)) (d.cs.drop (j + 1))) := by show _ = _; rw [HAJ.out, HN2.out, hp, hn, hq]; rfl
                go_wp2_with fail
                refine HC2.out.mono ?_
                rintro e w12 ⟨rfl, rfl⟩
                clear HC2 HN2 HAJ HSS
                obtain ⟨W12, hW12⟩ : ∃ W12, W12 = w12.alloc (.cells #[.string c.s] 9) := ⟨_, rfl⟩
                have hb12 : Below w12.heap.size w12 W12 := by rw [hW12]; exact bel_alloc (Below.refl _ _) _
                have hh12 : W12.heap[w12.heap.size]? = some (.cells #[.string c.s] 9 (0, 0)) := by rw [hW12]; exact heap_alloc_new w12 _
                have HS12 := hide (HS11.out.keep hb12)
                have HO12 := hide (row_keep hb12 HO11.out)
                have HP12 := hide (row_keep hb12 HP11.out)
                have HY12 := hide (keep_cell hb12 y0)
                have HT12 := hide (HT11.out.keep hb12)
                have HX12 : Hid (∀ i (h : i < (qs ++ [qc]).length) (h2 : i < d.cs.length), SpR (offB B (.slice (some ⟨g, 0, none⟩) (2 + j) cap) (.slice ad j cp)) W12 d.cs[i].t (qs ++ [qc])[i]) := fun i h h2 => (HX11.out i h h2).keep hb12
                have hs12 := HS12.out.sz
                have hs12b : w12.heap.size < W12.heap.size := by rw [hW12]; simp
                clear hb12 HS11 HO11 HP11 HT11 HX11
                go_wp2_with (first
                  | (at_builtin
                     rw [← hW12]
                     refine wpList_append_lies _ rfl _ _ 22 rfl (B + 1) 9 i9 (.string ⟨#[]⟩) 1 16 Tryz.underlying22 hi9 hz9 hs9 hb9 rfl (by omega) (.slice (some ⟨g, 0, none⟩) (2 + j) cap) (2 + j) ((takenN d.s d.cs j).map Value.string) rfl HO12.out ⟨w12.heap.size, 0, none⟩ 1 1 [.string c.s] rfl rfl (World.news_of_block (cs := #[.string c.s]) (t := 9) (fr := (0, 0)) hh12) (by intro u hu; simp at hu; rcases hu with rfl; rfl) (by omega) (by unfold maxLen; omega) (by omega) (by omega) W12.heap.size rfl ?_)
                  | fail)
                intro g13 cap13 w13 hown13 hgrow13 hat13 hlt13
                rw [← hW12] at hgrow13
                have HK13 : Hid (Carry (offB B (.slice (some ⟨g, 0, none⟩) (2 + j) cap) (.slice ad j cp)) (offB B (.slice (some ⟨g13, 0, none⟩) (2 + (j + 1)) cap13) (.slice ad j cp)) W12 w13) := carry_v1 HO12.out (by decide) (by decide) hgrow13 (hat13.imp id (fun e => by rw [e, hW12]; simp))
                have HT13 := hide (HT12.out.to HK13.out)
                have HX13 : Hid (∀ i (h : i < (qs ++ [qc]).length) (h2 : i < d.cs.length), SpR (offB B (.slice (some ⟨g13, 0, none⟩) (2 + (j + 1)) cap13) (.slice ad j cp)) w13 d.cs[i].t (qs ++ [qc])[i]) := fun i h h2 => (HX12.out i h h2).to HK13.out
                have HS13 := hide (HS12.out.row HO12.out hgrow13)
                have HO13 : Hid (w13.ownsRow (B + 1) 9 1 (.slice (some ⟨g13, 0, none⟩) (2 + (j + 1)) cap13) (2 + (j + 1)) ((takenN d.s d.cs (j + 1)).map Value.string)) := by show World.ownsRow _ _ _ _ _ _ _; rw [HTS.out, List.map_append]; exact hown13
                have HP13 : Hid (w13.ownsRow (B + 1) 136 2 (.slice ad j cp) j (ctCells (d.cs.take j) qs)) := row_same HP12.out (fun q hq => hgrow13.block q (World.ownsRow.lt HP12.out q hq).2 (fun e => rows_apart HP12.out HO12.out (by decide) q hq e.symm))
                have y0 : w13.cell? ⟨wr.heap.size, 0, none⟩ = some (.string c.s) := heap_cell (hgrow13.block _ (lt_cell HY12.out) (fun e => by have h1 : wr.heap.size = g := Option.some.inj e; have := HGW.out; omega)) HY12.out
                have ly := lt_cell y0
                have n6 : w13.cell? ⟨B, 6, none⟩ = some (.slice ad j cp) := by rw [HS13.out.n1.cell 6 (by omega)]; rfl
                have l6 := lt_cell n6
                clear hown13 hgrow13 hat13 hlt13 hW12 hh12 HS12 HO12 HP12 HY12 hs12 hs12b HT12 HX12 HK13
                go_wp2_with fail
                have hS0 : (fun w' : World => w'.heap[B]? = w13.heap[B]? ∧ w'.heap[wr.heap.size]? = w13.heap[wr.heap.size]?) w13.drew := ⟨rfl, rfl⟩
                refine anyE_region (L := 13) (S := (fun w' : World => w'.heap[B]? = w13.heap[B]? ∧ w'.heap[wr.heap.size]? = w13.heap[wr.heap.size]?)) (by kernel_rfl) ?_
                refine anyE_take 0 (v := ?v28) rfl (by kernel_rfl) (by kernel_rfl) (by kernel_rfl) (by kernel_rfl) (fun _ _ _ h => h) (by rfl) ?hy28 hS0 ?rest28
                case hy28 =>
                  intro wx hx
                  go_simp
                  try rfl
                case rest28 =>
                intro K hK
                go_simp
                refine hK.out _ ?_
                clear hK K
                refine anyE_take 1 (v := ?v29) rfl (by kernel_rfl) (by kernel_rfl) (by kernel_rfl) (by kernel_rfl) (fun _ _ _ h => h) (by rfl) ?hy29 hS0 ?rest29
                case hy29 =>
                  intro wx hx
                  go_simp
                  try rfl
                case rest29 =>
                intro K hK
                go_simp
                refine hK.out _ ?_
                clear hK K
                refine anyE_take 2 (v := ?v30) rfl (by kernel_rfl) (by kernel_rfl) (by kernel_rfl) (by kernel_rfl) (fun _ _ _ h => h) (by rfl) ?hy30 hS0 ?rest30
                case hy30 =>
                  intro wx hx
                  go_simp
                  try rfl
                case rest30 =>
                intro K hK
                go_simp
                refine hK.out _ ?_
                clear hK K
                refine anyE_take 3 (v := ?v31) rfl (by kernel_rfl) (by kernel_rfl) (by kernel_rfl) (by kernel_rfl) (fun _ _ _ h => h) (by rfl) ?hy31 hS0 ?rest31
                case hy31 =>
                  intro wx hx
                  go_simp
                  try rfl
                case rest31 =>
                intro K hK
                go_simp
                refine hK.out _ ?_
                clear hK K
                refine anyE_take 4 (v := ?v32) rfl (by kernel_rfl) (by kernel_rfl) (by kernel_rfl) (by kernel_rfl) (fun _ _ _ h => h) (by rfl) ?hy32 hS0 ?rest32
                case hy32 =>
                  intro wx hx
                  have m6 : wx.cell? ⟨B, 6, none⟩ = some (.slice ad j cp) := heap_cell hx.1 n6
                  have lm := lt_cell m6
                  go_simp
                  try rfl
                case rest32 =>
                intro K hK
                go_simp
                refine hK.out _ ?_
                clear hK K
                refine anyE_take 5 (v := ?v33) rfl (by kernel_rfl) (by kernel_rfl) (by kernel_rfl) (by kernel_rfl) (fun _ _ _ h => h) (by rfl) ?hy33 hS0 ?rest33
                case hy33 =>
                  intro wx hx
                  go_simp
                  try rfl
                case rest33 =>
                intro K hK
                go_simp
                refine hK.out _ ?_
                clear hK K
                refine anyE_take 6 (v := ?v34) rfl (by kernel_rfl) (by kernel_rfl) (by kernel_rfl) (by kernel_rfl) (fun _ _ _ h => h) (by rfl) ?hy34 hS0 ?rest34
                case hy34 =>
                  intro wx hx
                  have m6 : wx.cell? ⟨wr.heap.size, 0, none⟩ = some (.string c.s) := heap_cell hx.2 y0
                  have lm := lt_cell m6
                  go_simp
                  try rfl
                case rest34 =>
                intro K hK
                go_simp
                refine hK.out _ ?_
                clear hK K
                refine anyE_take 7 (v := ?v35) rfl (by kernel_rfl) (by kernel_rfl) (by kernel_rfl) (by kernel_rfl) (fun _ _ _ h => h) (by rfl) ?hy35 hS0 ?rest35
                case hy35 =>
                  intro wx hx
                  go_simp
                  try rfl
                case rest35 =>
                intro K hK
                go_simp
                refine hK.out _ ?_
                clear hK K
                refine anyE_take 8 (v := ?v36) rfl (by kernel_rfl) (by kernel_rfl) (by kernel_rfl) (by kernel_rfl) (fun _ _ _ h => h) (by rfl) ?hy36 hS0 ?rest36
                case hy36 =>
                  intro wx hx
                  go_simp
                  try rfl
                case rest36 =>
                intro K hK
                go_simp
                refine hK.out _ ?_
                clear hK K
                refine anyE_one 9 (by kernel_rfl) rfl (fun K hK => ?_)
                go_simp
                obtain ⟨W14, hW14⟩ : ∃ W14, W14 = (w13.alloc (.cells #[.string c.s, .pointer (some ⟨qc, 0, none⟩)] 136)).drew := ⟨_, rfl⟩
                rw [← hW14]
                have hb14 : Below w13.heap.size w13 W14 := by rw [hW14]; exact (bel_alloc (Below.refl _ _) _).drew
                have hh14 : W14.heap[w13.heap.size]? = some (.cells #[.string c.s, .pointer (some ⟨qc, 0, none⟩)] 136 (0, 0)) := by rw [hW14]; exact heap_alloc_new w13 _
                have hS1 : (fun w' : World => w'.heap[B]? = w13.heap[B]? ∧ w'.heap[wr.heap.size]? = w13.heap[wr.heap.size]?) W14 := ⟨hb14.block _ l6, hb14.block _ ly⟩
                refine hK.out _ _ (fun _ => hS1) ?_
                clear hK K
                have HS14 := hide (HS13.out.keep hb14)
                have HO14 := hide (row_keep hb14 HO13.out)
                have HP14 := hide (row_keep hb14 HP13.out)
                have HT14 := hide (HT13.out.keep hb14)
                have HX14 : Hid (∀ i (h : i < (qs ++ [qc]).length) (h2 : i < d.cs.length), SpR (offB B (.slice (some ⟨g13, 0, none⟩) (2 + (j + 1)) cap13) (.slice ad j cp)) W14 d.cs[i].t (qs ++ [qc])[i]) := fun i h h2 => (HX13.out i h h2).keep hb14
                have hs14 := HS14.out.sz
                have hs14b : w13.heap.size < W14.heap.size := by rw [hW14]; simp
                have hly14 : wr.heap.size < W14.heap.size := by omega
                clear hb14 hW14 HS13 HO13 HP13 HT13 HX13
                refine anyE_one 10 (by kernel_rfl) rfl (fun K hK => ?_)
                refine step_append_lies _ rfl _ _ 95 rfl (B + 1) 136 im (.agg #[.string ⟨#[]⟩, .pointer none]) 2 24 Tryz.underlying95 him hzm hsm hbm rfl (by omega) (.slice ad j cp) j (ctCells (d.cs.take j) qs) rfl HP14.out ⟨w13.heap.size, 0, none⟩ 1 1 [.string c.s, .pointer (some ⟨qc, 0, none⟩)] rfl rfl (World.news_of_block (cs := #[.string c.s, .pointer (some ⟨qc, 0, none⟩)]) (t := 136) (fr := (0, 0)) hh14) (by intro u hu; simp at hu; rcases hu with rfl | rfl <;> rfl) (by omega) (by unfold maxLen; omega) (by omega) (by omega) W14.heap.size rfl ?_
                intro g15 cap15 w15 hown15 hgrow15 hat15 hlt15
                have HS15 := hide (HS14.out.row HP14.out hgrow15)
                have HK15 : Hid (Carry (offB B (.slice (some ⟨g13, 0, none⟩) (2 + (j + 1)) cap13) (.slice ad j cp)) (offB B (.slice (some ⟨g13, 0, none⟩) (2 + (j + 1)) cap13) (.slice (some ⟨g15, 0, none⟩) (j + 1) cap15)) W14 w15) := carry_v2 HP14.out (by decide) (by decide) hgrow15 hat15
                have HT15 := hide (HT14.out.to HK15.out)
                have HX15 : Hid (∀ i (h : i < (qs ++ [qc]).length) (h2 : i < d.cs.length), SpR (offB B (.slice (some ⟨g13, 0, none⟩) (2 + (j + 1)) cap13) (.slice (some ⟨g15, 0, none⟩) (j + 1) cap15)) w15 d.cs[i].t (qs ++ [qc])[i]) := fun i h h2 => (HX14.out i h h2).to HK15.out
                have HO15 : Hid (w15.ownsRow (B + 1) 9 1 (.slice (some ⟨g13, 0, none⟩) (2 + (j + 1)) cap13) (2 + (j + 1)) ((takenN d.s d.cs (j + 1)).map Value.string)) := row_same HO14.out (fun q hq => hgrow15.block q (World.ownsRow.lt HO14.out q hq).2 (fun e => rows_apart HO14.out HP14.out (by decide) q hq e.symm))
                have hS2 : (fun w' : World => w'.heap[B]? = w13.heap[B]? ∧ w'.heap[wr.heap.size]? = w13.heap[wr.heap.size]?) w15 := ⟨(hgrow15.block B (by omega) (fun e => by have := (World.ownsRow.lt HP14.out B e.symm).1; omega)).trans hS1.1, (hgrow15.block wr.heap.size hly14 (fun e => by have := HGP.out _ e.symm; omega)).trans hS1.2⟩
                refine hK.out _ _ (fun _ => hS2) ?_
                clear hK K
                have HOW : Hid (w15.ownsRow (B + 1) 136 2 (.slice (some ⟨g15, 0, none⟩) (j + 1) cap15) (j + 1) (ctCells (d.cs.take (j + 1)) (qs ++ [qc]))) := by show World.ownsRow _ _ _ _ _ _ _; rw [HCT.out]; exact hown15
                have n6 : w15.cell? ⟨B, 6, none⟩ = some (.slice ad j cp) := by rw [HS15.out.n1.cell 6 (by omega)]; rfl
                have f6 : w15.frozen? ⟨B, 6, none⟩ = false := HS15.out.n1.frozen 6
                have l6 := lt_cell n6
                clear hown15 hgrow15 hat15 hlt15 HS14 HO14 HP14 HT14 HX14 HK15 hh14 hS0 hS1 hs14 hs14b hly14 y0 ly
                refine anyE_one 11 (by kernel_rfl) rfl (fun K hK => ?_)
                go_simp
                refine hK.out _ _ (fun _ => hS2) ?_
                clear hK K
                refine anyE_one 12 (by kernel_rfl) rfl (fun K hK => ?_)
                go_simp
                refine hK.out _ _ (fun _ => hS2) ?_
                clear hK K
                refine anyE_one 13 (by kernel_rfl) rfl (fun K hK => ?_)
                go_simp
                refine hK.out _ _ (fun h => absurd rfl h) ?_
                clear hK K
                refine anyE_done (by kernel_rfl) ?_ _
                have HS16 := hide (HS15.out.set 6 (.slice (some ⟨g15, 0, none⟩) (j + 1) cap15))
                have HO16 := hide (row_same HO15.out (w' := w15.setCell ⟨B, 6, none⟩ (.slice (some ⟨g15, 0, none⟩) (j + 1) cap15)) (fun q hq => (grown_set w15 ⟨B, 6, none⟩ _).block q (World.ownsRow.lt HO15.out q hq).2 (fun e => by have h1 : q = B := Option.some.inj e; have := (World.ownsRow.lt HO15.out q hq).1; omega)))
                have HP16 := hide (row_same HOW.out (w' := w15.setCell ⟨B, 6, none⟩ (.slice (some ⟨g15, 0, none⟩) (j + 1) cap15)) (fun q hq => (grown_set w15 ⟨B, 6, none⟩ _).block q (World.ownsRow.lt HOW.out q hq).2 (fun e => by have h1 : q = B := Option.some.inj e; have := (World.ownsRow.lt HOW.out q hq).1; omega)))
                have HT16 := hide (HT15.out.to (carry_set HS15.out.n1 6 (.slice (some ⟨g15, 0, none⟩) (j + 1) cap15)))
                have HX16 : Hid (∀ i (h : i < (qs ++ [qc]).length) (h2 : i < d.cs.length), SpR (offB B (.slice (some ⟨g13, 0, none⟩) (2 + (j + 1)) cap13) (.slice (some ⟨g15, 0, none⟩) (j + 1) cap15)) (w15.setCell ⟨B, 6, none⟩ (.slice (some ⟨g15, 0, none⟩) (j + 1) cap15)) d.cs[i].t (qs ++ [qc])[i]) := fun i h h2 => (HX15.out i h h2).to (carry_set HS15.out.n1 6 _)
                have HQ16 : Hid ((qs ++ [qc]).length = j + 1) := by show _ = _; rw [List.length_append, HQL.out]; rfl
                clear HS15 HO15 HOW HT15 HX15 HQL HCT n6 f6 l6 hS2
                go_wp2_with fail
                go_roundw
                case rel => exact ⟨j + 1, g13, cap13, some ⟨g15, 0, none⟩, cap15, qs ++ [qc], hlt, by go_num, by first | rfl | (congr 1; omega), HO16, HA5, HS16, HP16, HQ16, HT16, HX16⟩
                case measure => simp [intOf]; omega
          · have hA : A = true := by
              rw [HAJ.out, List.drop_eq_nil_of_le (by omega)]
              rfl
            subst hA
            have hlt' : ¬ (j : Int) < d.cs.length := by omega
            have ej : j = d.cs.length := by omega
            have HFIN : Hid (RdF w.heap.size true d (.slice pa d.ps.length pc) (.returned (.pointer (some ⟨B, 0, none⟩))) wr) := by
              have hlo := HSJ.out.lo
              have hp := HPJ.out
              rw [List.take_of_length_le (by omega)] at hp
              have hql := HQL.out
              have hs := HSJ.out.n1
              subst ej
              exact .inr ⟨rfl, B, _, _, _, qs, _, rfl, by omega, hs, fun _ => ⟨qa, rfl, HTJ.out⟩, hql, hp, HUJ.out⟩
            clear ej HPJ HQL HTJ HUJ HO HAJ
            go_wp2_with fail
            go_ret
            exact ⟨HFIN.out, HSJ.out.bel⟩
end Go.Proofs.YtpmpooekpeocdaaGreat
