/- What NamesOf answers, on both sides. -/
import Derived.Test.YtpmpooekpeocdaaGreatFfS
import Derived.Test.YtpmpooekpeocdaaGreatDcL
namespace Go.Proofs.YtpmpooekpeocdaaGreat
open Go.ChangeShapes Go.WideShapes Go.ChangeAt Go.RowKit

/-- The constants of the quotients. -/
def quotNs : List ByteArray := [⟨#[81, 117, 111, 116]⟩, ⟨#[81, 117, 111, 116, 46, 109, 107]⟩, ⟨#[81, 117, 111, 116, 46, 108, 105, 102, 116]⟩, ⟨#[81, 117, 111, 116, 46, 105, 110, 100]⟩, ⟨#[81, 117, 111, 116, 46, 115, 111, 117, 110, 100]⟩]
/-- The constants that a declaration names. -/
def namesD (d : Dc) : List ByteArray := if d.k = 5 then quotNs else if d.k = 4 then d.s :: d.cs.map Ct.s ++ [recName d.s] else [d.s]
def namesA (d : Dc) : List ByteArray := if declB d then namesD d else []
theorem namesD_five {d : Dc} (h : d.k = 5) : namesD d = quotNs := by unfold namesD; rw [if_pos h]
theorem namesD_four {d : Dc} (h : d.k = 4) : namesD d = d.s :: d.cs.map Ct.s ++ [recName d.s] := by unfold namesD; rw [if_neg (by omega), if_pos h]
theorem namesD_one {d : Dc} (h4 : d.k ≠ 4) (h5 : d.k ≠ 5) : namesD d = [d.s] := by unfold namesD; rw [if_neg h5, if_neg h4]
theorem dnames_snoc (s : ByteArray) (cs : List Ct) (j : Nat) (h : j < cs.length) : s :: (cs.take (j + 1)).map Ct.s = (s :: (cs.take j).map Ct.s) ++ [cs[j].s] := by
  rw [List.take_succ_eq_append_getElem h, List.map_append]; rfl
theorem decl_small {d : Dc} (h : declB d = true) : d.s.size ≤ 36 ∧ d.cs.length ≤ 20 := by
  have hf : fieldsD d = true := by
    cases hf : fieldsD d with
    | true => rfl
    | false => rw [decl_fields hf] at h; cases h
  refine ⟨?_, fields_cs hf⟩
  unfold fieldsD at hf
  simp only [Bool.and_eq_true, decide_eq_true_eq] at hf
  omega
set_option maxRecDepth 20000 in
set_option maxHeartbeats 1000000 in
theorem l6QuotNames_any (w : World) : Calls Tryz.prog 84 #[] w fun e w' => (∃ v, e = .returned v ∧ OwnS w.heap.size w' v quotNs) ∧ Below w.heap.size w w' := by
  have HB := hide (bel_alloc (Below.refl w.heap.size w) (.cells #[.string ⟨#[81, 117, 111, 116]⟩, .string ⟨#[81, 117, 111, 116, 46, 109, 107]⟩, .string ⟨#[81, 117, 111, 116, 46, 108, 105, 102, 116]⟩, .string ⟨#[81, 117, 111, 116, 46, 105, 110, 100]⟩, .string ⟨#[81, 117, 111, 116, 46, 115, 111, 117, 110, 100]⟩] 9))
  have HO : Hid (OwnS w.heap.size (w.alloc (.cells #[.string ⟨#[81, 117, 111, 116]⟩, .string ⟨#[81, 117, 111, 116, 46, 109, 107]⟩, .string ⟨#[81, 117, 111, 116, 46, 108, 105, 102, 116]⟩, .string ⟨#[81, 117, 111, 116, 46, 105, 110, 100]⟩, .string ⟨#[81, 117, 111, 116, 46, 115, 111, 117, 110, 100]⟩] 9)) (.slice (some ⟨w.heap.size, 0, none⟩) 5 5) quotNs) := ⟨rfl, .inr ⟨w.heap.size, 5, #[.string ⟨#[81, 117, 111, 116]⟩, .string ⟨#[81, 117, 111, 116, 46, 109, 107]⟩, .string ⟨#[81, 117, 111, 116, 46, 108, 105, 102, 116]⟩, .string ⟨#[81, 117, 111, 116, 46, 105, 110, 100]⟩, .string ⟨#[81, 117, 111, 116, 46, 115, 111, 117, 110, 100]⟩], rfl, Nat.le_refl _, heap_alloc_new w _, by decide, by unfold maxLen; omega, rfl, rfl⟩⟩
  go_enter Tryz.func84, Tryz.ntmps84
  go_wp2_with fail
  go_ret
  exact ⟨⟨_, rfl, HO.out⟩, HB.out⟩
set_option maxRecDepth 20000 in
set_option maxHeartbeats 4000000 in
theorem l6Names_any (d : Dc) (B : Nat) (pv tp vp cv : Value) (qs : List Nat) (w : World) (h7 : T7 w B [.int .i64 d.k, .string d.s, pv, tp, vp, .int .i64 d.f, cv]) (hq : qs.length = d.cs.length) (hcv : w.ownsRow (B + 1) 136 2 cv d.cs.length (ctCells d.cs qs)) (hs : d.s.size ≤ 36) (hc : d.cs.length ≤ 20) :
    Calls Tryz.prog 46 #[.pointer (some ⟨B, 0, none⟩)] w fun e w' => (∃ v, e = .returned v ∧ OwnS w.heap.size w' v (namesD d)) ∧ Below w.heap.size w w' := by
  obtain ⟨i9, hi9, hz9, hs9, hb9⟩ := info_parts Tryz.info9
  have c0 : w.cell? ⟨B, 0, none⟩ = some (.int .i64 d.k) := by rw [h7.cell 0 (by omega)]; rfl
  have c1 : w.cell? ⟨B, 1, none⟩ = some (.string d.s) := by rw [h7.cell 1 (by omega)]; rfl
  have c6 : w.cell? ⟨B, 6, none⟩ = some cv := by rw [h7.cell 6 (by omega)]; rfl
  have l0 := lt_cell c0
  have HC1 := hide c1
  have HC6 := hide c6
  have HCV := hide hcv
  obtain ⟨ca, cc, hcv'⟩ := row_form hcv
  subst hcv'
  clear h7 hcv
  by_cases h5 : d.k = 5
  · have b5 : (d.k == 5) = true := beq_iff_eq.2 h5
    rw [namesD_five h5]
    have HQ := hide (l6QuotNames_any w)
    go_enter Tryz.func46, Tryz.ntmps46
    go_wp2_with fail
    refine HQ.out.mono ?_
    rintro e w1 ⟨⟨v, rfl, ho⟩, hb1⟩
    obtain ⟨a, c, rfl⟩ := row_form ho
    have HO := hide ho
    have HB := hide hb1
    clear ho hb1
    go_wp2_with fail
    go_ret
    exact ⟨⟨_, rfl, HO.out⟩, HB.out⟩
  have b5 : (d.k == 5) = false := beq_eq_false_iff_ne.2 h5
  obtain ⟨W1, hW1⟩ : ∃ W1, W1 = w.alloc (.cells #[.string d.s] 9) := ⟨_, rfl⟩
  have hb1 : Below w.heap.size w W1 := by rw [hW1]; exact bel_alloc (Below.refl _ _) _
  have HO1 : Hid (W1.ownsRow w.heap.size 9 1 (.slice (some ⟨w.heap.size, 0, none⟩) (1 + 0) 1) (1 + 0) ((d.s :: (d.cs.take 0).map Ct.s).map Value.string)) := by
    show World.ownsRow _ _ _ _ _ _ _
    rw [hW1]
    exact ⟨rfl, .inr ⟨w.heap.size, 1, #[.string d.s], rfl, Nat.le_refl _, heap_alloc_new w _, Nat.le_refl _, by unfold maxLen; omega, rfl, rfl⟩⟩
  have HB1 := hide hb1
  have h4s : (⟨#[46, 114, 101, 99]⟩ : ByteArray).size = 4 := by decide
  have hadd : ∀ w : World, (Op.stringOp .add d.s ⟨#[46, 114, 101, 99]⟩).run Tryz.prog w = .ok (.string (recName d.s)) w := fun w => run_string_add_sum w _ _ (by omega)
  obtain ⟨rn, hrn⟩ : ∃ rn, rn = recName d.s := ⟨_, rfl⟩
  rw [← hrn] at hadd
  have HRN := hide hrn
  clear hrn h4s
  have k0 := keep_cell hb1 c0
  have k1 := lt_cell k0
  clear hb1
  go_enter Tryz.func46, Tryz.ntmps46
  by_cases h4 : d.k = 4
  · have b4 : (d.k == 4) = true := beq_iff_eq.2 h4
    have HND := hide (namesD_four h4)
    rw [HND.out]
    clear h4 HND
    go_upto_region 5 with fail
    rw [← hW1]
    clear hW1 b4 b5
    go_wp2_with fail
    go_loopw [3, 4] (fun t i wr => ∃ (j g cap : Nat), j ≤ d.cs.length ∧ i = .int .i64 j ∧ t = .slice (some ⟨g, 0, none⟩) (1 + j) cap ∧ Hid (wr.ownsRow w.heap.size 9 1 (.slice (some ⟨g, 0, none⟩) (1 + j) cap) (1 + j) ((d.s :: (d.cs.take j).map Ct.s).map Value.string)) ∧ Hid (Below w.heap.size w wr)) (fun _ i _ => d.cs.length - (intOf i).toNat)
    case atStart => exact ⟨0, _, _, by omega, rfl, rfl, HO1, HB1⟩
    case round =>
      clear HO1 HB1
      obtain ⟨j, g, cap, hj, rfl, rfl, HO, HB⟩ := hrel
      have c1 := keep_cell HB.out HC1.out
      have c6 := keep_cell HB.out HC6.out
      have l1 := lt_cell c1
      have hbs := HB.out.size
      by_cases hlt : j < d.cs.length
      · have hlt' : (j : Int) < d.cs.length := by omega
        have HSN := hide (dnames_snoc d.s d.cs j hlt)
        rcases HCV.out.2 with ⟨hn, h0⟩ | ⟨gc, cap', cur, hv, hlo, hhp, hr⟩
        · omega
        obtain ⟨rfl, rfl⟩ : ca = some ⟨gc, 0, none⟩ ∧ cc = cap' := by simpa using hv
        have x1 := keep_cell HB.out (show w.cell? ⟨gc, j * 2, none⟩ = some (.string d.cs[j].s) by rw [World.ownsRow.cellAt HCV.out (j * 2) (by omega), show j * 2 = 2 * j by omega]; exact (ctCells_at d.cs qs j hlt (by omega)).1)
        have lx := lt_cell x1
        clear hv hlo hhp hr
        generalize d.cs[j] = c at *
        obtain ⟨W8, hW8⟩ : ∃ W8, W8 = wr.alloc (.cells #[.string c.s] 9) := ⟨_, rfl⟩
        have hb8 : Below wr.heap.size wr W8 := by rw [hW8]; exact bel_alloc (Below.refl _ _) _
        have hh8 : W8.heap[wr.heap.size]? = some (.cells #[.string c.s] 9 (0, 0)) := by rw [hW8]; exact heap_alloc_new wr _
        have HO8 := hide (row_keep hb8 HO.out)
        have HB8 := hide (HB.out.trans (hb8.mono hbs))
        have hs8b : wr.heap.size < W8.heap.size := by rw [hW8]; simp
        clear hb8 HO HB
        go_wp2_with (first
          | (at_builtin
             rw [← hW8]
             refine wpList_append_lies _ rfl _ _ 22 rfl w.heap.size 9 i9 (.string ⟨#[]⟩) 1 16 Tryz.underlying22 hi9 hz9 hs9 hb9 rfl (by omega) (.slice (some ⟨g, 0, none⟩) (1 + j) cap) (1 + j) ((d.s :: (d.cs.take j).map Ct.s).map Value.string) rfl HO8.out ⟨wr.heap.size, 0, none⟩ 1 1 [.string c.s] rfl rfl (World.news_of_block (cs := #[.string c.s]) (t := 9) (fr := (0, 0)) hh8) (by intro u hu; simp at hu; rcases hu with rfl; rfl) (by omega) (by unfold maxLen; omega) (by omega) (by omega) W8.heap.size rfl ?_)
          | fail)
        intro g9 cap9 w9 hown9 hgrow9 hat9 hlt9
        rw [← hW8] at hgrow9
        have HO9 : Hid (w9.ownsRow w.heap.size 9 1 (.slice (some ⟨g9, 0, none⟩) (1 + (j + 1)) cap9) (1 + (j + 1)) ((d.s :: (d.cs.take (j + 1)).map Ct.s).map Value.string)) := by show World.ownsRow _ _ _ _ _ _ _; rw [show 1 + (j + 1) = 1 + j + 1 by omega, HSN.out, List.map_append]; first | exact hown9 | simpa using hown9
        have HB9 : Hid (Below w.heap.size w w9) := HB8.out.grown hgrow9 HB8.out.size (fun k hk => (World.ownsRow.lt HO8.out k hk).1)
        clear hown9 hgrow9 hat9 hlt9 hW8 hh8 HO8 HB8 hs8b
        go_wp2_with fail
        go_roundw
        case rel => exact ⟨j + 1, g9, cap9, hlt, by go_num, by first | rfl | (congr 1; omega), HO9, HB9⟩
        case measure => simp [intOf]; omega
      · have ej : j = d.cs.length := by omega
        have hlt' : ¬ (j : Int) < d.cs.length := by omega
        have HOJ : Hid (wr.ownsRow w.heap.size 9 1 (.slice (some ⟨g, 0, none⟩) (1 + j) cap) (1 + j) ((d.s :: d.cs.map Ct.s).map Value.string)) := by
          have h := HO.out
          rw [List.take_of_length_le (by omega)] at h
          exact h
        clear HO
        obtain ⟨W8, hW8⟩ : ∃ W8, W8 = wr.alloc (.cells #[.string rn] 9) := ⟨_, rfl⟩
        have hb8 : Below wr.heap.size wr W8 := by rw [hW8]; exact bel_alloc (Below.refl _ _) _
        have hh8 : W8.heap[wr.heap.size]? = some (.cells #[.string rn] 9 (0, 0)) := by rw [hW8]; exact heap_alloc_new wr _
        have HO8 := hide (row_keep hb8 HOJ.out)
        have HB8 := hide (HB.out.trans (hb8.mono hbs))
        have hs8b : wr.heap.size < W8.heap.size := by rw [hW8]; simp
        have HEJ := hide ej
        clear hb8 HOJ HB ej
        go_wp2_with (first
          | (at_builtin
             rw [← hW8]
             refine wpList_append_lies _ rfl _ _ 22 rfl w.heap.size 9 i9 (.string ⟨#[]⟩) 1 16 Tryz.underlying22 hi9 hz9 hs9 hb9 rfl (by omega) (.slice (some ⟨g, 0, none⟩) (1 + j) cap) (1 + j) ((d.s :: d.cs.map Ct.s).map Value.string) rfl HO8.out ⟨wr.heap.size, 0, none⟩ 1 1 [.string rn] rfl rfl (World.news_of_block (cs := #[.string rn]) (t := 9) (fr := (0, 0)) hh8) (by intro u hu; simp at hu; rcases hu with rfl; rfl) (by omega) (by unfold maxLen; omega) (by omega) (by omega) W8.heap.size rfl ?_)
          | fail)
        intro g9 cap9 w9 hown9 hgrow9 hat9 hlt9
        rw [← hW8] at hgrow9
        have HO9 : Hid (OwnS w.heap.size w9 (.slice (some ⟨g9, 0, none⟩) (1 + j + 1) cap9) (d.s :: d.cs.map Ct.s ++ [recName d.s])) := by
          refine own_s ?_ (by simp [HEJ.out]; omega)
          rw [List.map_append, ← HRN.out]
          first | exact hown9 | simpa using hown9
        have HB9 : Hid (Below w.heap.size w w9) := HB8.out.grown hgrow9 HB8.out.size (fun k hk => (World.ownsRow.lt HO8.out k hk).1)
        clear hown9 hgrow9 hat9 hlt9 hW8 hh8 HO8 HB8 hs8b
        go_wp2_with fail
        go_ret
        exact ⟨⟨_, rfl, HO9.out⟩, HB9.out⟩
  · have b4 : (d.k == 4) = false := beq_eq_false_iff_ne.2 h4
    rw [namesD_one h4 h5]
    go_upto_region 4 with fail
    rw [← hW1]
    clear hW1
    go_wp2_with fail
    go_ret
    exact ⟨⟨_, rfl, HO1.out⟩, HB1.out⟩
set_option maxHeartbeats 2000000 in
theorem specNames_any (d : Dc) (pv tv vv cv : Value) (w : World) (hz : DcLens d) (hm : DcV d) (hd : DeclAt w pv tv vv cv d) :
    Calls Tryz.prog 15 #[declV d pv tv vv cv] w fun e w' => (∃ v, e = .returned v ∧ OwnS w.heap.size w' v (namesA d)) ∧ Below w.heap.size w w' := by
  obtain ⟨pa, pc, hpv⟩ : ∃ a c, pv = .slice a d.ps.length c := by obtain ⟨a, c, h, _⟩ := hd.ps; exact ⟨a, c, h⟩
  obtain ⟨ta, tc, htv⟩ := hd.t.form
  obtain ⟨va, vc, hvv⟩ := hd.v.form
  obtain ⟨ca, cc, hcv⟩ := hd.cs.form
  subst hpv htv hvv hcv
  obtain ⟨W, hW⟩ : ∃ W, W = w.alloc (.cells #[.int .i64 d.k, .string d.s, .slice pa d.ps.length pc, .slice ta d.t.length tc, .slice va d.v.length vc, .int .i64 d.f, .slice ca d.cs.length cc] 36) := ⟨_, rfl⟩
  have HBW := hide (show Below w.heap.size w W by rw [hW]; exact bel_alloc (Below.refl _ _) _)
  have h0 : W.heap[w.heap.size]? = some (.cells #[.int .i64 d.k, .string d.s, .slice pa d.ps.length pc, .slice ta d.t.length tc, .slice va d.v.length vc, .int .i64 d.f, .slice ca d.cs.length cc] 36 (0, 0)) := by rw [hW]; exact heap_alloc_new w _
  have c0 : W.cell? ⟨w.heap.size, 0, none⟩ = some (.int .i64 d.k) := by rw [Lib.cell_of_heap h0]; rfl
  have c1 : W.cell? ⟨w.heap.size, 1, none⟩ = some (.string d.s) := by rw [Lib.cell_of_heap h0]; rfl
  have c2 : W.cell? ⟨w.heap.size, 2, none⟩ = some (.slice pa d.ps.length pc) := by rw [Lib.cell_of_heap h0]; rfl
  have c3 : W.cell? ⟨w.heap.size, 3, none⟩ = some (.slice ta d.t.length tc) := by rw [Lib.cell_of_heap h0]; rfl
  have c4 : W.cell? ⟨w.heap.size, 4, none⟩ = some (.slice va d.v.length vc) := by rw [Lib.cell_of_heap h0]; rfl
  have c5 : W.cell? ⟨w.heap.size, 5, none⟩ = some (.int .i64 d.f) := by rw [Lib.cell_of_heap h0]; rfl
  have c6 : W.cell? ⟨w.heap.size, 6, none⟩ = some (.slice ca d.cs.length cc) := by rw [Lib.cell_of_heap h0]; rfl
  have l0 := lt_cell c0
  have HC := hide (l5ReadF_any d _ _ _ _ W hz hm (hd.keep HBW.out))
  clear hd hz hm h0
  unfold declV at HC ⊢
  go_enter Tryz.func15, Tryz.ntmps15
  go_upto_region 1 with fail
  rw [← hW]
  clear hW
  go_wp2_with fail
  refine HC.out.mono ?_
  rintro e w1 ⟨hq, hb1⟩
  have HB1 := hide (bel_trans HBW.out hb1)
  clear hb1 c0 c1 c2 c3 c4 c5 c6 l0 HC
  rcases hq with ⟨ha, rfl⟩ | ⟨ha, B, tp, vp, cv, qs, Q, rfl, hlo, h7, hk5, hql, hcv, hsp⟩
  · have HN := hide (dnone_none w1)
    have HE : Hid (namesA d = []) := by show _ = _; unfold namesA; rw [ha]; rfl
    have HO : Hid (OwnS w.heap.size (w1.alloc (.cells #[] 9)) (.slice (some ⟨w1.heap.size, 0, none⟩) 0 0) []) := World.ownsRow_lit (base := w.heap.size) (e := 9) (size := 1) w1 #[] 0 HB1.out.size (by unfold maxLen; omega) rfl
    have HB2 := hide (bel_trans HB1.out (bel_alloc (Below.refl w1.heap.size w1) (.cells #[] 9)))
    go_wp2_with (go_at_call 38; refine HN.out.mono ?_; rintro e w9 ⟨rfl, hw9⟩; have hw9 := hw9.symm; subst hw9)
    go_ret
    exact ⟨⟨_, rfl, by rw [HE.out]; exact HO.out⟩, HB2.out⟩
  · have HN := hide (dnone_some ⟨B, 0, none⟩ w1)
    have HE : Hid (namesA d = namesD d) := by show _ = _; unfold namesA; rw [if_pos ha]
    obtain ⟨s1, s2⟩ := decl_small ha
    have HL := hide (l6Names_any d B _ _ _ _ qs w1 h7 hql hcv s1 s2)
    clear ha hlo h7 hk5 hql hcv hsp s1 s2
    go_wp2_with (first | (go_at_call 38; refine HN.out.mono ?_; rintro e w9 ⟨rfl, hw9⟩; have hw9 := hw9.symm; subst hw9) | fail)
    refine HL.out.mono ?_
    rintro e w2 ⟨⟨v, rfl, ho⟩, hb2⟩
    obtain ⟨a, c, rfl⟩ := row_form ho
    have HO := hide (OwnS.base ho HB1.out.size)
    have HB2 := hide (bel_trans HB1.out hb2)
    clear ho hb2 HL
    go_wp2_with fail
    go_ret
    exact ⟨⟨_, rfl, by rw [HE.out]; exact HO.out⟩, HB2.out⟩
end Go.Proofs.YtpmpooekpeocdaaGreat
