/- What the program's declFieldsOk answers. -/
import Derived.Test.YtpmpooekpeocdaaGreatDcF
namespace Go.Proofs.YtpmpooekpeocdaaGreat
open Go.ChangeShapes Go.WideShapes Go.ChangeAt Go.RowKit

theorem quot_iff (s : ByteArray) : (s.toList == [81, 117, 111, 116]) = decide (s = quotS) := by
  rw [Bool.eq_iff_iff, ByteArray.toList_eq]
  simp only [beq_iff_eq, decide_eq_true_eq]
  constructor
  · intro h
    obtain ⟨⟨l⟩⟩ := s
    have h : l = [81, 117, 111, 116] := h
    subst h
    rfl
  · intro h
    rw [h]
    rfl
theorem name_size {s : ByteArray} (h : nameB s = true) : s.size ≤ 40 := by unfold nameB at h; simp only [Bool.and_eq_true, decide_eq_true_eq] at h; exact h.1
set_option maxRecDepth 20000 in
set_option maxHeartbeats 4000000 in
theorem declFieldsOk_any (d : Dc) (pv tv vv cv : Value) (w : World) (hz : DcLens d) (hd : DeclAt w pv tv vv cv d) :
    Calls Tryz.prog 79 #[declV d pv tv vv cv] w fun e w' => e = .returned (.bool (fieldsD d)) ∧ Below w.heap.size w w' := by
  have HZ := hide hz
  have HD := hide hd
  have hs1 := hz.s
  unfold maxLen at hs1
  obtain ⟨pa, pc, hpv⟩ : ∃ a c, pv = .slice a d.ps.length c := by obtain ⟨a, c, h, _⟩ := hd.ps; exact ⟨a, c, h⟩
  obtain ⟨ta, tc, htv⟩ := hd.t.form
  obtain ⟨va, vc, hvv⟩ := hd.v.form
  obtain ⟨ca, cc, hcv⟩ := hd.cs.form
  subst hpv htv hvv hcv
  obtain ⟨A, hA⟩ : ∃ A, A = fieldsD d := ⟨_, rfl⟩
  rw [← hA]
  have HA := hide hA
  clear hA hz hd
  obtain ⟨W, hW⟩ : ∃ W, W = w.alloc (.cells #[.int .i64 d.k, .string d.s, .slice pa d.ps.length pc, .slice ta d.t.length tc, .slice va d.v.length vc, .int .i64 d.f, .slice ca d.cs.length cc] 36) := ⟨_, rfl⟩
  have hbW : Below w.heap.size w W := by rw [hW]; exact bel_alloc (Below.refl _ _) _
  have h0 : W.heap[w.heap.size]? = some (.cells #[.int .i64 d.k, .string d.s, .slice pa d.ps.length pc, .slice ta d.t.length tc, .slice va d.v.length vc, .int .i64 d.f, .slice ca d.cs.length cc] 36 (0, 0)) := by rw [hW]; exact heap_alloc_new w _
  have c1 : W.cell? ⟨w.heap.size, 1, none⟩ = some (.string d.s) := by rw [Lib.cell_of_heap h0]; rfl
  have l1 := lt_cell c1
  have HBW := hide hbW
  have HC1 := hide (implName_any d.s W HZ.out.s)
  unfold declV
  go_enter Tryz.func79, Tryz.ntmps79
  go_upto_region 1 with fail
  rw [← hW]
  clear hW hbW
  have HH0 := hide h0
  clear h0
  cases hn : nameB d.s with
  | false =>
    rw [hn] at HC1
    have hA : A = false := by rw [HA.out]; unfold fieldsD; rw [hn]; rfl
    subst hA
    go_wp2_with fail
    refine HC1.out.mono ?_
    rintro e w1 ⟨rfl, hb1⟩
    have HB1 : Hid (Below w.heap.size w w1) := HBW.out.trans (hb1.mono HBW.out.size)
    clear hb1
    go_wp2_with fail
    go_ret
    exact ⟨rfl, HB1.out⟩
  | true =>
    rw [hn] at HC1
    go_wp2_with fail
    refine HC1.out.mono ?_
    rintro e w1 ⟨rfl, hb1⟩
    have HB1 : Hid (Below w.heap.size w w1) := HBW.out.trans (hb1.mono HBW.out.size)
    have h1 : w1.heap[w.heap.size]? = some (.cells #[.int .i64 d.k, .string d.s, .slice pa d.ps.length pc, .slice ta d.t.length tc, .slice va d.v.length vc, .int .i64 d.f, .slice ca d.cs.length cc] 36 (0, 0)) := (hb1.block _ l1).trans HH0.out
    have c0 : w1.cell? ⟨w.heap.size, 0, none⟩ = some (.int .i64 d.k) := by rw [Lib.cell_of_heap h1]; rfl
    have c1 : w1.cell? ⟨w.heap.size, 1, none⟩ = some (.string d.s) := by rw [Lib.cell_of_heap h1]; rfl
    have c2 : w1.cell? ⟨w.heap.size, 2, none⟩ = some (.slice pa d.ps.length pc) := by rw [Lib.cell_of_heap h1]; rfl
    have c3 : w1.cell? ⟨w.heap.size, 3, none⟩ = some (.slice ta d.t.length tc) := by rw [Lib.cell_of_heap h1]; rfl
    have c4 : w1.cell? ⟨w.heap.size, 4, none⟩ = some (.slice va d.v.length vc) := by rw [Lib.cell_of_heap h1]; rfl
    have c5 : w1.cell? ⟨w.heap.size, 5, none⟩ = some (.int .i64 d.f) := by rw [Lib.cell_of_heap h1]; rfl
    have c6 : w1.cell? ⟨w.heap.size, 6, none⟩ = some (.slice ca d.cs.length cc) := by rw [Lib.cell_of_heap h1]; rfl
    have l1 := lt_cell c0
    have HC2 := hide (declParamsOk_any _ d.ps w1 (HD.out.ps.keep HB1.out) HZ.out.ps)
    have HC3 := hide (hasValue_any d.k w1)
    clear hb1 HC1 HBW HH0 h1
    have hs40 : d.s.size ≤ 40 := name_size hn
    have hw4 : IntKind.i64.wrap ((d.s.size : Int) + 4) = (d.s.size : Int) + 4 := by rw [IntKind.wrap_i64]; omega
    by_cases h36 : 36 < d.s.size
    · have d36 : decide ((40 : Int) < (d.s.size : Int) + 4) = true := by simp; omega
      have hA : A = false := by rw [HA.out]; unfold fieldsD; rw [hn, show decide (d.s.size ≤ 36) = false by simp; omega]; rfl
      subst hA
      go_wp2_with fail
      go_ret
      exact ⟨rfl, HB1.out⟩
    have d36 : decide ((40 : Int) < (d.s.size : Int) + 4) = false := by simp; omega
    have e36 : decide (d.s.size ≤ 36) = true := by simp; omega
    have HC4 := hide (ctorNamesOk_any d _ _ _ _ w1 HZ.out (HD.out.keep HB1.out) (by omega))
    unfold declV at HC4
    cases hp : paramsB d.ps with
    | false =>
      rw [hp] at HC2
      have hA : A = false := by rw [HA.out]; unfold fieldsD; rw [hn, e36, hp]; rfl
      subst hA
      go_wp2_with fail
      refine HC2.out.mono ?_
      rintro e w2 ⟨rfl, rfl⟩
      go_wp2_with fail
      go_ret
      exact ⟨rfl, HB1.out⟩
    | true =>
      rw [hp] at HC2
      go_wp2_with fail
      refine HC2.out.mono ?_
      rintro e w2 ⟨rfl, rfl⟩
      clear HC2
      have HA2 : Hid (A = ((hasVal d.k || decide (d.v.length = 0)) && (if d.k = 4 then decide (0 ≤ d.f) && decide (d.f ≤ 50) && decide (d.cs.length ≤ 20) && ctnB [d.s, recName d.s] d.cs else if d.k = 1 ∨ d.k = 2 ∨ d.k = 3 then decide (d.f = 0) && decide (d.cs.length = 0) else if d.k = 5 then decide (d.f = 0) && decide (d.cs.length = 0) && decide (d.s = quotS) && decide (d.ps.length = 0) && decide (d.t.length = 0) else false))) := by show _ = _; rw [HA.out]; unfold fieldsD; rw [hn, e36, hp]; rfl
      clear HA
      by_cases hbad : hasVal d.k = false ∧ 0 < d.v.length
      · obtain ⟨hv, hvl⟩ := hbad
        rw [hv] at HC3
        have dv : decide ((0 : Int) < (d.v.length : Int)) = true := by simp; omega
        have hA : A = false := by rw [HA2.out, hv, show decide (d.v.length = 0) = false by simp; intro e; rw [e] at hvl; simp at hvl]; rfl
        subst hA
        go_wp2_with fail
        refine HC3.out.mono ?_
        rintro e w3 ⟨rfl, rfl⟩
        go_wp2_with fail
        go_ret
        exact ⟨rfl, HB1.out⟩
      have HA3 : Hid (A = (if d.k = 4 then decide (0 ≤ d.f) && decide (d.f ≤ 50) && decide (d.cs.length ≤ 20) && ctnB [d.s, recName d.s] d.cs else if d.k = 1 ∨ d.k = 2 ∨ d.k = 3 then decide (d.f = 0) && decide (d.cs.length = 0) else if d.k = 5 then decide (d.f = 0) && decide (d.cs.length = 0) && decide (d.s = quotS) && decide (d.ps.length = 0) && decide (d.t.length = 0) else false)) := by
        show _ = _
        rw [HA2.out]
        cases hv : hasVal d.k with
        | true => rfl
        | false => rw [show decide (d.v.length = 0) = true by simp; exact List.eq_nil_of_length_eq_zero (by have : ¬ 0 < d.v.length := fun q => hbad ⟨hv, q⟩; omega)]; rfl
      have dv : hasVal d.k = false → ¬ 0 < d.v.length := fun hv q => hbad ⟨hv, q⟩
      clear HA2 hbad
      have HC3' : Hid (Calls Tryz.prog 81 #[.int .i64 d.k] w2 fun e w' => e = .returned (.bool (hasVal d.k)) ∧ w' = w2) := HC3
      clear HC3
      go_upto_region 3 with fail
      cases hv : hasVal d.k
      all_goals rw [hv] at HC3'
      all_goals (try have dv2 := dv hv)
      all_goals clear dv hv
      all_goals go_wp2_with fail
      all_goals refine HC3'.out.mono ?_
      all_goals rintro e w3 ⟨rfl, rfl⟩
      all_goals clear HC3'
      all_goals go_upto_region 5 with fail
      all_goals (
        by_cases h4 : d.k = 4
        · have b4 : (d.k == 4) = true := beq_iff_eq.2 h4
          have HA4 : Hid (A = (decide (0 ≤ d.f) && decide (d.f ≤ 50) && (decide (d.cs.length ≤ 20) && ctnB [d.s, recName d.s] d.cs))) := by show _ = _; rw [HA3.out, if_pos h4]; simp only [Bool.and_assoc]
          clear HA3 h4
          by_cases h0 : 0 ≤ d.f
          · by_cases h50 : d.f ≤ 50
            · have e0 : decide (0 ≤ d.f) = true := by simp [h0]
              have e50 : decide (d.f ≤ 50) = true := by simp [h50]
              have hA : A = (decide (d.cs.length ≤ 20) && ctnB [d.s, recName d.s] d.cs) := by rw [HA4.out, e0, e50]; rfl
              rw [← hA] at HC4
              clear hA HA4
              go_wp2_with fail
              refine HC4.out.mono ?_
              rintro e w4 ⟨rfl, hb4⟩
              have HB4 : Hid (Below w.heap.size w w4) := HB1.out.trans (hb4.mono HB1.out.size)
              clear hb4 HC4
              go_wp2_with fail
              go_ret
              exact ⟨rfl, HB4.out⟩
            · have e0 : decide (0 ≤ d.f) = true := by simp [h0]
              have e50 : decide (d.f ≤ 50) = false := by simp [h50]
              have hA : A = false := by rw [HA4.out, e0, e50]; rfl
              subst hA
              go_wp2_with fail
              go_ret
              exact ⟨rfl, HB1.out⟩
          · have e0 : decide (0 ≤ d.f) = false := by simp [h0]
            have hA : A = false := by rw [HA4.out, e0]; rfl
            subst hA
            go_wp2_with fail
            go_ret
            exact ⟨rfl, HB1.out⟩
        have b4 : (d.k == 4) = false := beq_eq_false_iff_ne.2 h4
        by_cases h123 : d.k = 1 ∨ d.k = 2 ∨ d.k = 3
        · have HA4 : Hid (A = (decide (d.f = 0) && decide (d.cs.length = 0))) := by show _ = _; rw [HA3.out, if_neg h4, if_pos h123]
          clear HA3 h4 HC4
          by_cases hf : d.f = 0
          · have ef : (d.f == 0) = true := beq_iff_eq.2 hf
            by_cases hc : d.cs.length = 0
            · have ec : ((d.cs.length : Int) == 0) = true := beq_iff_eq.2 (by omega)
              have hA : A = true := by rw [HA4.out, show decide (d.f = 0) = true by simp [hf], show decide (d.cs.length = 0) = true by simpa using hc]; rfl
              subst hA
              clear hf hc
              by_cases h1 : d.k = 1
              · have b1 : (d.k == 1) = true := beq_iff_eq.2 h1
                clear h1 h123
                go_wp2_with fail
                go_ret
                exact ⟨rfl, HB1.out⟩
              have b1 : (d.k == 1) = false := beq_eq_false_iff_ne.2 h1
              by_cases h2 : d.k = 2
              · have b2 : (d.k == 2) = true := beq_iff_eq.2 h2
                clear h1 h2 h123
                go_wp2_with fail
                go_ret
                exact ⟨rfl, HB1.out⟩
              have b2 : (d.k == 2) = false := beq_eq_false_iff_ne.2 h2
              have b3 : (d.k == 3) = true := beq_iff_eq.2 (by omega)
              clear h1 h2 h123
              go_wp2_with fail
              go_ret
              exact ⟨rfl, HB1.out⟩
            · have ec : ((d.cs.length : Int) == 0) = false := beq_eq_false_iff_ne.2 (by omega)
              have hA : A = false := by rw [HA4.out, show decide (d.cs.length = 0) = false by simpa using hc, Bool.and_false]
              subst hA
              clear hf hc
              by_cases h1 : d.k = 1
              · have b1 : (d.k == 1) = true := beq_iff_eq.2 h1
                clear h1 h123
                go_wp2_with fail
                go_ret
                exact ⟨rfl, HB1.out⟩
              have b1 : (d.k == 1) = false := beq_eq_false_iff_ne.2 h1
              by_cases h2 : d.k = 2
              · have b2 : (d.k == 2) = true := beq_iff_eq.2 h2
                clear h1 h2 h123
                go_wp2_with fail
                go_ret
                exact ⟨rfl, HB1.out⟩
              have b2 : (d.k == 2) = false := beq_eq_false_iff_ne.2 h2
              have b3 : (d.k == 3) = true := beq_iff_eq.2 (by omega)
              clear h1 h2 h123
              go_wp2_with fail
              go_ret
              exact ⟨rfl, HB1.out⟩
          · have ef : (d.f == 0) = false := beq_eq_false_iff_ne.2 hf
            have hA : A = false := by rw [HA4.out, show decide (d.f = 0) = false by simp [hf]]; rfl
            subst hA
            clear hf
            by_cases h1 : d.k = 1
            · have b1 : (d.k == 1) = true := beq_iff_eq.2 h1
              clear h1 h123
              go_wp2_with fail
              go_ret
              exact ⟨rfl, HB1.out⟩
            have b1 : (d.k == 1) = false := beq_eq_false_iff_ne.2 h1
            by_cases h2 : d.k = 2
            · have b2 : (d.k == 2) = true := beq_iff_eq.2 h2
              clear h1 h2 h123
              go_wp2_with fail
              go_ret
              exact ⟨rfl, HB1.out⟩
            have b2 : (d.k == 2) = false := beq_eq_false_iff_ne.2 h2
            have b3 : (d.k == 3) = true := beq_iff_eq.2 (by omega)
            clear h1 h2 h123
            go_wp2_with fail
            go_ret
            exact ⟨rfl, HB1.out⟩
        have b1 : (d.k == 1) = false := beq_eq_false_iff_ne.2 (fun e => h123 (.inl e))
        have b2 : (d.k == 2) = false := beq_eq_false_iff_ne.2 (fun e => h123 (.inr (.inl e)))
        have b3 : (d.k == 3) = false := beq_eq_false_iff_ne.2 (fun e => h123 (.inr (.inr e)))
        by_cases h5 : d.k = 5
        · have b5 : (d.k == 5) = true := beq_iff_eq.2 h5
          have HA4 : Hid (A = (decide (d.f = 0) && decide (d.cs.length = 0) && decide (d.s = quotS) && decide (d.ps.length = 0) && decide (d.t.length = 0))) := by show _ = _; rw [HA3.out, if_neg h4, if_neg h123, if_pos h5]
          clear HA3 h4 HC4 h123 h5
          by_cases hf : d.f = 0
          · have ef : (d.f == 0) = true := beq_iff_eq.2 hf
            by_cases hc : d.cs.length = 0
            · have ec : ((d.cs.length : Int) == 0) = true := beq_iff_eq.2 (by omega)
              by_cases hq : d.s = quotS
              · have eq1 : (d.s.toList == [81, 117, 111, 116]) = true := by rw [quot_iff]; simp [hq]
                by_cases hpl : d.ps.length = 0
                · have ep : ((d.ps.length : Int) == 0) = true := beq_iff_eq.2 (by omega)
                  by_cases ht : d.t.length = 0
                  · have et : ((d.t.length : Int) == 0) = true := beq_iff_eq.2 (by omega)
                    have hA : A = true := by rw [HA4.out, show decide (d.f = 0) = true by simp [hf], show decide (d.cs.length = 0) = true by simpa using hc, show decide (d.s = quotS) = true by simp [hq], show decide (d.ps.length = 0) = true by simpa using hpl, show decide (d.t.length = 0) = true by simpa using ht]; rfl
                    subst hA
                    clear hf hc hq hpl ht
                    go_wp2_with fail
                    go_ret
                    exact ⟨rfl, HB1.out⟩
                  · have et : ((d.t.length : Int) == 0) = false := beq_eq_false_iff_ne.2 (by omega)
                    have hA : A = false := by rw [HA4.out, show decide (d.t.length = 0) = false by simpa using ht, Bool.and_false]
                    subst hA
                    clear hf hc hq hpl ht
                    go_wp2_with fail
                    go_ret
                    exact ⟨rfl, HB1.out⟩
                · have ep : ((d.ps.length : Int) == 0) = false := beq_eq_false_iff_ne.2 (by omega)
                  have hA : A = false := by rw [HA4.out, show decide (d.ps.length = 0) = false by simpa using hpl, Bool.and_false, Bool.false_and]
                  subst hA
                  clear hf hc hq hpl
                  go_wp2_with fail
                  go_ret
                  exact ⟨rfl, HB1.out⟩
              · have eq1 : (d.s.toList == [81, 117, 111, 116]) = false := by rw [quot_iff]; simp [hq]
                have hA : A = false := by rw [HA4.out, show decide (d.s = quotS) = false by simp [hq], Bool.and_false, Bool.false_and, Bool.false_and]
                subst hA
                clear hf hc hq
                go_wp2_with fail
                go_ret
                exact ⟨rfl, HB1.out⟩
            · have ec : ((d.cs.length : Int) == 0) = false := beq_eq_false_iff_ne.2 (by omega)
              have hA : A = false := by rw [HA4.out, show decide (d.cs.length = 0) = false by simpa using hc, Bool.and_false, Bool.false_and, Bool.false_and, Bool.false_and]
              subst hA
              clear hf hc
              go_wp2_with fail
              go_ret
              exact ⟨rfl, HB1.out⟩
          · have ef : (d.f == 0) = false := beq_eq_false_iff_ne.2 hf
            have hA : A = false := by rw [HA4.out, show decide (d.f = 0) = false by simp [hf]]; rfl
            subst hA
            clear hf
            go_wp2_with fail
            go_ret
            exact ⟨rfl, HB1.out⟩
        · have b5 : (d.k == 5) = false := beq_eq_false_iff_ne.2 h5
          have hA : A = false := by rw [HA3.out, if_neg h4, if_neg h123, if_neg h5]
          subst hA
          clear HA3 h4 HC4 h123 h5
          go_wp2_with fail
          go_ret
          exact ⟨rfl, HB1.out⟩)
end Go.Proofs.YtpmpooekpeocdaaGreat
