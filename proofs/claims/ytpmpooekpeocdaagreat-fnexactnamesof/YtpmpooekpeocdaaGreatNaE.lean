/- What the program's NamesOf answers. -/
import Derived.Test.YtpmpooekpeocdaaGreatNaD
namespace Go.Proofs.YtpmpooekpeocdaaGreat
open Go.ChangeShapes Go.WideShapes Go.ChangeAt Go.RowKit

/-- What stands in the row of the quotients' constants. -/
def QOk (cs : Array Value) : Prop := ∀ i (h : i < quotNs.length), ∃ k a n t, cs[i * 4]? = some (.string quotNs[i]) ∧ cs[i * 4 + 1]? = some (.int .i64 k) ∧ cs[i * 4 + 2]? = some (.slice a n n) ∧ cs[i * 4 + 3]? = some (.string t)
set_option maxRecDepth 40000 in
set_option maxHeartbeats 4000000 in
theorem quotConsts_any (w : World) : Calls Tryz.prog 47 #[] w fun e w' => (∃ (g : Nat) (cs : Array Value), e = .returned (.slice (some ⟨g, 0, none⟩) 5 5) ∧ w'.heap[g]? = some (.cells cs 77 (0, 0)) ∧ QOk cs) ∧ Below w.heap.size w w' := by
  go_enter Tryz.func47, Tryz.ntmps47
  go_wp2_with fail
  go_ret
  refine ⟨⟨_, _, rfl, heap_alloc_at _ _ (by simp), fun i h => ?_⟩, bel_alloc (bel_alloc (bel_alloc (bel_alloc (bel_alloc (bel_alloc (Below.refl _ _) _) _) _) _) _) _⟩
  have h : i < 5 := h
  rcases (show i = 0 ∨ i = 1 ∨ i = 2 ∨ i = 3 ∨ i = 4 by omega) with rfl | rfl | rfl | rfl | rfl <;> exact ⟨_, _, _, _, rfl, rfl, rfl, rfl⟩
set_option maxRecDepth 20000 in
set_option maxHeartbeats 8000000 in
theorem implNames_any (S : SortS) (d : Dc) (pv tv vv cv : Value) (w : World) (hz : DcLens d) (hm : DcS d) (hd : DeclAt w pv tv vv cv d) :
    Calls Tryz.prog 16 #[declV d pv tv vv cv] w fun e w' => (∃ v, e = .returned v ∧ OwnS w.heap.size w' v (namesA d)) ∧ Below w.heap.size w w' := by
  obtain ⟨i9, hi9, hz9, hs9, hb9⟩ := info_parts Tryz.info9
  obtain ⟨pa, pc, hpv⟩ : ∃ a c, pv = .slice a d.ps.length c := by obtain ⟨a, c, h, _⟩ := hd.ps; exact ⟨a, c, h⟩
  obtain ⟨ta, tc, htv⟩ := hd.t.form
  obtain ⟨va, vc, hvv⟩ := hd.v.form
  obtain ⟨ca, cc, hcv⟩ := hd.cs.form
  subst hpv htv hvv hcv
  have HD := hide hd
  obtain ⟨W, hW⟩ : ∃ W, W = w.alloc (.cells #[.int .i64 d.k, .string d.s, .slice pa d.ps.length pc, .slice ta d.t.length tc, .slice va d.v.length vc, .int .i64 d.f, .slice ca d.cs.length cc] 36) := ⟨_, rfl⟩
  have HBW := hide (show Below w.heap.size w W by rw [hW]; exact bel_alloc (Below.refl _ _) _)
  have HW0 : Hid (W.heap[w.heap.size]? = some (.cells #[.int .i64 d.k, .string d.s, .slice pa d.ps.length pc, .slice ta d.t.length tc, .slice va d.v.length vc, .int .i64 d.f, .slice ca d.cs.length cc] 36 (0, 0))) := by show _ = _; rw [hW]; exact heap_alloc_new w _
  have c0 : W.cell? ⟨w.heap.size, 0, none⟩ = some (.int .i64 d.k) := by rw [Lib.cell_of_heap HW0.out]; rfl
  have c1 : W.cell? ⟨w.heap.size, 1, none⟩ = some (.string d.s) := by rw [Lib.cell_of_heap HW0.out]; rfl
  have c2 : W.cell? ⟨w.heap.size, 2, none⟩ = some (.slice pa d.ps.length pc) := by rw [Lib.cell_of_heap HW0.out]; rfl
  have c3 : W.cell? ⟨w.heap.size, 3, none⟩ = some (.slice ta d.t.length tc) := by rw [Lib.cell_of_heap HW0.out]; rfl
  have c4 : W.cell? ⟨w.heap.size, 4, none⟩ = some (.slice va d.v.length vc) := by rw [Lib.cell_of_heap HW0.out]; rfl
  have c5 : W.cell? ⟨w.heap.size, 5, none⟩ = some (.int .i64 d.f) := by rw [Lib.cell_of_heap HW0.out]; rfl
  have c6 : W.cell? ⟨w.heap.size, 6, none⟩ = some (.slice ca d.cs.length cc) := by rw [Lib.cell_of_heap HW0.out]; rfl
  have l0 := lt_cell c0
  have HC := hide (implDeclOk_any S d _ _ _ _ W hz hm (hd.keep HBW.out))
  clear hd hz hm
  unfold declV at HC ⊢
  go_enter Tryz.func16, Tryz.ntmps16
  go_upto_region 1 with fail
  rw [← hW]
  clear hW
  go_wp2_with fail
  refine HC.out.mono ?_
  rintro e w1 ⟨rfl, hb1⟩
  have HB1 := hide (bel_trans HBW.out hb1)
  have HW1 : Hid (w1.heap[w.heap.size]? = some (.cells #[.int .i64 d.k, .string d.s, .slice pa d.ps.length pc, .slice ta d.t.length tc, .slice va d.v.length vc, .int .i64 d.f, .slice ca d.cs.length cc] 36 (0, 0))) := (hb1.block _ l0).trans HW0.out
  clear hb1 HC HBW HW0 c0 c1 c2 c3 c4 c5 c6 l0
  cases ha : declB d with
  | false =>
    have HE : Hid (namesA d = []) := by show _ = _; unfold namesA; rw [ha]; rfl
    go_wp2_with fail
    go_ret
    exact ⟨⟨_, rfl, by rw [HE.out]; exact ⟨rfl, .inl ⟨rfl, rfl⟩⟩⟩, HB1.out⟩
  | true =>
    have HE : Hid (namesA d = namesD d) := by show _ = _; unfold namesA; rw [if_pos ha]
    obtain ⟨hs, hc20⟩ := decl_small ha
    clear ha
    have c0 : w1.cell? ⟨w.heap.size, 0, none⟩ = some (.int .i64 d.k) := by rw [Lib.cell_of_heap HW1.out]; rfl
    have c1 : w1.cell? ⟨w.heap.size, 1, none⟩ = some (.string d.s) := by rw [Lib.cell_of_heap HW1.out]; rfl
    have c2 : w1.cell? ⟨w.heap.size, 2, none⟩ = some (.slice pa d.ps.length pc) := by rw [Lib.cell_of_heap HW1.out]; rfl
    have c3 : w1.cell? ⟨w.heap.size, 3, none⟩ = some (.slice ta d.t.length tc) := by rw [Lib.cell_of_heap HW1.out]; rfl
    have c4 : w1.cell? ⟨w.heap.size, 4, none⟩ = some (.slice va d.v.length vc) := by rw [Lib.cell_of_heap HW1.out]; rfl
    have c5 : w1.cell? ⟨w.heap.size, 5, none⟩ = some (.int .i64 d.f) := by rw [Lib.cell_of_heap HW1.out]; rfl
    have c6 : w1.cell? ⟨w.heap.size, 6, none⟩ = some (.slice ca d.cs.length cc) := by rw [Lib.cell_of_heap HW1.out]; rfl
    have l0 := lt_cell c0
    obtain ⟨W1, hW1⟩ : ∃ W1, W1 = w1.alloc (.cells #[.string d.s] 9) := ⟨_, rfl⟩
    have hb2 : Below w1.heap.size w1 W1 := by rw [hW1]; exact bel_alloc (Below.refl _ _) _
    have HO1 : Hid (W1.ownsRow w.heap.size 9 1 (.slice (some ⟨w1.heap.size, 0, none⟩) (1 + 0) 1) (1 + 0) ((d.s :: (d.cs.take 0).map Ct.s).map Value.string)) := by
      show World.ownsRow _ _ _ _ _ _ _
      rw [hW1]
      exact ⟨rfl, .inr ⟨w1.heap.size, 1, #[.string d.s], rfl, HB1.out.size, heap_alloc_new w1 _, Nat.le_refl _, by unfold maxLen; omega, rfl, rfl⟩⟩
    have HWL : w.heap.size < w1.heap.size := l0
    have HB2 := hide (bel_trans HB1.out hb2)
    have HW2 : Hid (W1.heap[w.heap.size]? = some (.cells #[.int .i64 d.k, .string d.s, .slice pa d.ps.length pc, .slice ta d.t.length tc, .slice va d.v.length vc, .int .i64 d.f, .slice ca d.cs.length cc] 36 (0, 0))) := (hb2.block _ l0).trans HW1.out
    have h4s : (⟨#[46, 114, 101, 99]⟩ : ByteArray).size = 4 := by decide
    have hadd : ∀ w : World, (Op.stringOp .add d.s ⟨#[46, 114, 101, 99]⟩).run Tryz.prog w = .ok (.string (recName d.s)) w := fun w => run_string_add_sum w _ _ (by omega)
    obtain ⟨rn, hrn⟩ : ∃ rn, rn = recName d.s := ⟨_, rfl⟩
    rw [← hrn] at hadd
    have HRN := hide hrn
    clear hrn h4s hb2
    go_upto_region 4 with fail
    rw [← hW1]
    clear hW1 c0 c1 c2 c3 c4 c5 c6 l0 HB1 HW1
    have c0 : W1.cell? ⟨w.heap.size, 0, none⟩ = some (.int .i64 d.k) := by rw [Lib.cell_of_heap HW2.out]; rfl
    have c1 : W1.cell? ⟨w.heap.size, 1, none⟩ = some (.string d.s) := by rw [Lib.cell_of_heap HW2.out]; rfl
    have c2 : W1.cell? ⟨w.heap.size, 2, none⟩ = some (.slice pa d.ps.length pc) := by rw [Lib.cell_of_heap HW2.out]; rfl
    have c3 : W1.cell? ⟨w.heap.size, 3, none⟩ = some (.slice ta d.t.length tc) := by rw [Lib.cell_of_heap HW2.out]; rfl
    have c4 : W1.cell? ⟨w.heap.size, 4, none⟩ = some (.slice va d.v.length vc) := by rw [Lib.cell_of_heap HW2.out]; rfl
    have c5 : W1.cell? ⟨w.heap.size, 5, none⟩ = some (.int .i64 d.f) := by rw [Lib.cell_of_heap HW2.out]; rfl
    have c6 : W1.cell? ⟨w.heap.size, 6, none⟩ = some (.slice ca d.cs.length cc) := by rw [Lib.cell_of_heap HW2.out]; rfl
    have l0 := lt_cell c0
    by_cases h4 : d.k = 4
    · have b4 : (d.k == 4) = true := beq_iff_eq.2 h4
      have HND := hide (namesD_four h4)
      clear h4
      go_upto_region 6 with fail
      clear b4
      go_wp2_with fail
      go_loopw [3, 21] (fun t i wr => ∃ (j g cap : Nat), j ≤ d.cs.length ∧ i = .int .i64 j ∧ t = .slice (some ⟨g, 0, none⟩) (1 + j) cap ∧ Hid (wr.ownsRow w.heap.size 9 1 (.slice (some ⟨g, 0, none⟩) (1 + j) cap) (1 + j) ((d.s :: (d.cs.take j).map Ct.s).map Value.string)) ∧ Hid (Below w.heap.size w wr) ∧ Hid (wr.heap[w.heap.size]? = some (.cells #[.int .i64 d.k, .string d.s, .slice pa d.ps.length pc, .slice ta d.t.length tc, .slice va d.v.length vc, .int .i64 d.f, .slice ca d.cs.length cc] 36 (0, 0))) ∧ Hid (w.heap.size < g)) (fun _ i _ => d.cs.length - (intOf i).toNat)
      case atStart => exact ⟨0, _, _, by omega, rfl, rfl, HO1, HB2, HW2, hide HWL⟩
      case round =>
        clear HO1 HB2 HW2 c0 c1 c2 c3 c4 c5 c6 l0
        obtain ⟨j, g, cap, hj, rfl, rfl, HO, HB, HW, HG⟩ := hrel
        have c1 : wr.cell? ⟨w.heap.size, 1, none⟩ = some (.string d.s) := by rw [Lib.cell_of_heap HW.out]; rfl
        have l1 := lt_cell c1
        have hbs := HB.out.size
        by_cases hlt : j < d.cs.length
        · have hlt' : (j : Int) < d.cs.length := by omega
          have HSN := hide (dnames_snoc d.s d.cs j hlt)
          obtain ⟨a', cap', e', _, _, hc0⟩ := HD.out.cs
          obtain ⟨b, off, hae, hc⟩ := hc0 (by omega)
          have ea : ca = some ⟨b, off, none⟩ := by rw [← hae]; injection e'
          subst ea
          obtain ⟨x1, u, x2, hu⟩ := hc j hlt
          have x1 := keep_cell HB.out x1
          have x2 := keep_cell HB.out x2
          obtain ⟨ua, uc, rfl⟩ := hu.form
          clear hc hc0 e' hae hu
          generalize d.cs[j] = c at *
          obtain ⟨W6, hW6⟩ : ∃ W6, W6 = wr.alloc (.cells #[.string c.s, .slice ua c.t.length uc] 73) := ⟨_, rfl⟩
          have hb6 : Below wr.heap.size wr W6 := by rw [hW6]; exact bel_alloc (Below.refl _ _) _
          have y0 : W6.cell? ⟨wr.heap.size, 0, none⟩ = some (.string c.s) := by rw [hW6]; simp [go_sem]
          have ly := lt_cell y0
          have lx := lt_cell x1
          go_upto_region 9 with fail
          rw [← hW6]
          clear hW6 x1 x2 lx
          obtain ⟨W8, hW8⟩ : ∃ W8, W8 = W6.alloc (.cells #[.string c.s] 9) := ⟨_, rfl⟩
          have hb8 : Below W6.heap.size W6 W8 := by rw [hW8]; exact bel_alloc (Below.refl _ _) _
          have hh8 : W8.heap[W6.heap.size]? = some (.cells #[.string c.s] 9 (0, 0)) := by rw [hW8]; exact heap_alloc_new W6 _
          have hb68 : Below wr.heap.size wr W8 := bel_trans hb6 hb8
          have HO8 := hide (row_keep hb68 HO.out)
          have HB8 := hide (HB.out.trans (hb68.mono hbs))
          have HW8 : Hid (W8.heap[w.heap.size]? = some (.cells #[.int .i64 d.k, .string d.s, .slice pa d.ps.length pc, .slice ta d.t.length tc, .slice va d.v.length vc, .int .i64 d.f, .slice (some ⟨b, off, none⟩) d.cs.length cc] 36 (0, 0))) := (hb68.block _ l1).trans HW.out
          have hs8b : W6.heap.size < W8.heap.size := by rw [hW8]; simp
          have hs8 : w.heap.size < W8.heap.size := by have := hb68.size; omega
          clear hb8 hb6 hb68 HO HB HW
          go_wp2_with (first
            | (at_builtin
               rw [← hW8]
               refine wpList_append_lies _ rfl _ _ 22 rfl w.heap.size 9 i9 (.string ⟨#[]⟩) 1 16 Tryz.underlying22 hi9 hz9 hs9 hb9 rfl (by omega) (.slice (some ⟨g, 0, none⟩) (1 + j) cap) (1 + j) ((d.s :: (d.cs.take j).map Ct.s).map Value.string) rfl HO8.out ⟨W6.heap.size, 0, none⟩ 1 1 [.string c.s] rfl rfl (World.news_of_block (cs := #[.string c.s]) (t := 9) (fr := (0, 0)) hh8) (by intro u hu; simp at hu; rcases hu with rfl; rfl) (by omega) (by unfold maxLen; omega) (by omega) (by omega) W8.heap.size rfl ?_)
            | fail)
          intro g9 cap9 w9 hown9 hgrow9 hat9 hlt9
          rw [← hW8] at hgrow9
          have HO9 : Hid (w9.ownsRow w.heap.size 9 1 (.slice (some ⟨g9, 0, none⟩) (1 + (j + 1)) cap9) (1 + (j + 1)) ((d.s :: (d.cs.take (j + 1)).map Ct.s).map Value.string)) := by show World.ownsRow _ _ _ _ _ _ _; rw [show 1 + (j + 1) = 1 + j + 1 by omega, HSN.out, List.map_append]; first | exact hown9 | simpa using hown9
          have HB9 : Hid (Below w.heap.size w w9) := HB8.out.grown hgrow9 HB8.out.size (fun k hk => (World.ownsRow.lt HO8.out k hk).1)
          have HW9 : Hid (w9.heap[w.heap.size]? = some (.cells #[.int .i64 d.k, .string d.s, .slice pa d.ps.length pc, .slice ta d.t.length tc, .slice va d.v.length vc, .int .i64 d.f, .slice (some ⟨b, off, none⟩) d.cs.length cc] 36 (0, 0))) := (hgrow9.block _ hs8 (fun e => by simp [Value.ownBlock] at e; have := HG.out; omega)).trans HW8.out
          have HG9 : Hid (w.heap.size < g9) := by
            show _ < _
            have hG := HG.out
            rcases hat9 with h | h
            · simp [Value.ownBlock] at h; omega
            · omega
          clear hown9 hgrow9 hat9 hlt9 hW8 hh8 HO8 HB8 HW8 hs8b hs8 y0 ly
          go_wp2_with fail
          go_roundw
          case rel => exact ⟨j + 1, g9, cap9, hlt, by go_num, by first | rfl | (congr 1; omega), HO9, HB9, HW9, HG9⟩
          case measure => simp [intOf]; omega
        · have ej : j = d.cs.length := by omega
          have hlt' : ¬ (j : Int) < d.cs.length := by omega
          have HOJ : Hid (wr.ownsRow w.heap.size 9 1 (.slice (some ⟨g, 0, none⟩) (1 + j) cap) (1 + j) ((d.s :: d.cs.map Ct.s).map Value.string)) := by
            have h := HO.out
            rw [List.take_of_length_le (by omega)] at h
            exact h
          clear HO
          obtain ⟨W8, hW8⟩ : ∃ W8, W8 = wr.alloc (.cells #[.string rn] 9) := ⟨_, rfl⟩
          have hb8 : Below wr.heap.size wr W8 := by rw [hW8]; exact bel_alloc (Below.refl _ _) _
          have hh8 : W8.heap[wr.heap.size]? = some (.cells #[.string rn] 9 (0, 0)) := by rw [hW8]; exact heap_alloc_new wr _
          have HO8 := hide (row_keep hb8 HOJ.out)
          have HB8 := hide (HB.out.trans (hb8.mono hbs))
          have hs8b : wr.heap.size < W8.heap.size := by rw [hW8]; simp
          have HEJ := hide ej
          clear hb8 HOJ HB ej
          go_wp2_with (first
            | (at_builtin
               rw [← hW8]
               refine wpList_append_lies _ rfl _ _ 22 rfl w.heap.size 9 i9 (.string ⟨#[]⟩) 1 16 Tryz.underlying22 hi9 hz9 hs9 hb9 rfl (by omega) (.slice (some ⟨g, 0, none⟩) (1 + j) cap) (1 + j) ((d.s :: d.cs.map Ct.s).map Value.string) rfl HO8.out ⟨wr.heap.size, 0, none⟩ 1 1 [.string rn] rfl rfl (World.news_of_block (cs := #[.string rn]) (t := 9) (fr := (0, 0)) hh8) (by intro u hu; simp at hu; rcases hu with rfl; rfl) (by omega) (by unfold maxLen; omega) (by omega) (by omega) W8.heap.size rfl ?_)
            | fail)
          intro g9 cap9 w9 hown9 hgrow9 hat9 hlt9
          rw [← hW8] at hgrow9
          have HO9 : Hid (OwnS w.heap.size w9 (.slice (some ⟨g9, 0, none⟩) (1 + j + 1) cap9) (d.s :: d.cs.map Ct.s ++ [recName d.s])) := by
            refine own_s ?_ (by simp [HEJ.out]; omega)
            rw [List.map_append, ← HRN.out]
            first | exact hown9 | simpa using hown9
          have HB9 : Hid (Below w.heap.size w w9) := HB8.out.grown hgrow9 HB8.out.size (fun k hk => (World.ownsRow.lt HO8.out k hk).1)
          clear hown9 hgrow9 hat9 hlt9 hW8 hh8 HO8 HB8 hs8b
          go_wp2_with fail
          go_ret
          exact ⟨⟨_, rfl, by rw [HE.out, HND.out]; exact HO9.out⟩, HB9.out⟩
    have b4 : (d.k == 4) = false := beq_eq_false_iff_ne.2 h4
    by_cases h5 : d.k = 5
    · have b5 : (d.k == 5) = true := beq_iff_eq.2 h5
      have HND := hide (namesD_five h5)
      have HQC := hide (quotConsts_any W1)
      clear h4 h5
      go_upto_region 14 with fail
      clear b4 b5
      go_wp2_with fail
      refine HQC.out.mono ?_
      rintro e w3 ⟨⟨gq, qc, rfl, hqh, hqo⟩, hb3⟩
      have HB3 := hide (bel_trans HB2.out hb3)
      have HQH := hide hqh
      have HQO := hide hqo
      have hgq : gq < w3.heap.size := (Array.getElem?_eq_some_iff.1 hqh).1
      have HO3 : Hid (w3.ownsRow w3.heap.size 9 1 (.slice none 0 0) 0 ((quotNs.take 0).map Value.string)) := ⟨rfl, .inl ⟨rfl, rfl⟩⟩
      clear hqh hqo hb3 HQC HO1 HB2 HW2 c0 c1 c2 c3 c4 c5 c6 l0
      go_wp2_with fail
      go_loopw [3, 41] (fun t i wr => ∃ (j cap : Nat) (ad : Option Addr), j ≤ 5 ∧ i = .int .i64 j ∧ t = .slice ad j cap ∧ Hid (wr.ownsRow w3.heap.size 9 1 (.slice ad j cap) j ((quotNs.take j).map Value.string)) ∧ Hid (Below w3.heap.size w3 wr)) (fun _ i _ => 5 - (intOf i).toNat)
      case atStart => exact ⟨0, 0, none, by omega, rfl, rfl, HO3, Below.refl _ _⟩
      case round =>
        clear HO3
        obtain ⟨j, cap, ad, hj, rfl, rfl, HO, HB⟩ := hrel
        have hbs := HB.out.size
        by_cases hlt : j < 5
        · have hlt' : (j : Int) < 5 := by omega
          obtain ⟨k, a, n, t, q0, q1, q2, q3⟩ := HQO.out j hlt
          have hqb : wr.heap[gq]? = some (.cells qc 77 (0, 0)) := (HB.out.block gq hgq).trans HQH.out
          have x0 : wr.cell? ⟨gq, j * 4, none⟩ = some (.string quotNs[j]) := by rw [Lib.cell_of_heap hqb]; exact q0
          have x1 : wr.cell? ⟨gq, j * 4 + 1, none⟩ = some (.int .i64 k) := by rw [Lib.cell_of_heap hqb]; exact q1
          have x2 : wr.cell? ⟨gq, j * 4 + 2, none⟩ = some (.slice a n n) := by rw [Lib.cell_of_heap hqb]; exact q2
          have x3 : wr.cell? ⟨gq, j * 4 + 3, none⟩ = some (.string t) := by rw [Lib.cell_of_heap hqb]; exact q3
          have lx := lt_cell x0
          have HSN : Hid (quotNs.take (j + 1) = quotNs.take j ++ [quotNs[j]]) := List.take_succ_eq_append_getElem hlt
          clear hqb q0 q1 q2 q3
          generalize quotNs[j] = s at *
          obtain ⟨W6, hW6⟩ : ∃ W6, W6 = wr.alloc (.cells #[.string s, .int .i64 k, .slice a n n, .string t] 77) := ⟨_, rfl⟩
          have hb6 : Below wr.heap.size wr W6 := by rw [hW6]; exact bel_alloc (Below.refl _ _) _
          have y0 : W6.cell? ⟨wr.heap.size, 0, none⟩ = some (.string s) := by rw [hW6]; simp [go_sem]
          have ly := lt_cell y0
          go_upto_region 17 with fail
          rw [← hW6]
          clear hW6 x0 x1 x2 x3 lx
          obtain ⟨W8, hW8⟩ : ∃ W8, W8 = W6.alloc (.cells #[.string s] 9) := ⟨_, rfl⟩
          have hb8 : Below W6.heap.size W6 W8 := by rw [hW8]; exact bel_alloc (Below.refl _ _) _
          have hh8 : W8.heap[W6.heap.size]? = some (.cells #[.string s] 9 (0, 0)) := by rw [hW8]; exact heap_alloc_new W6 _
          have hb68 : Below wr.heap.size wr W8 := bel_trans hb6 hb8
          have HO8 := hide (row_keep hb68 HO.out)
          have HB8 := hide (HB.out.trans (hb68.mono hbs))
          have hs8b : W6.heap.size < W8.heap.size := by rw [hW8]; simp
          have hs8 : w3.heap.size ≤ W8.heap.size := by have := hb68.size; omega
          clear hb8 hb6 hb68 HO HB
          go_wp2_with (first
            | (at_builtin
               rw [← hW8]
               refine wpList_append_lies _ rfl _ _ 22 rfl w3.heap.size 9 i9 (.string ⟨#[]⟩) 1 16 Tryz.underlying22 hi9 hz9 hs9 hb9 rfl (by omega) (.slice ad j cap) j ((quotNs.take j).map Value.string) rfl HO8.out ⟨W6.heap.size, 0, none⟩ 1 1 [.string s] rfl rfl (World.news_of_block (cs := #[.string s]) (t := 9) (fr := (0, 0)) hh8) (by intro u hu; simp at hu; rcases hu with rfl; rfl) (by omega) (by unfold maxLen; omega) (by omega) (by omega) W8.heap.size rfl ?_)
            | fail)
          intro g9 cap9 w9 hown9 hgrow9 hat9 hlt9
          rw [← hW8] at hgrow9
          have HO9 : Hid (w9.ownsRow w3.heap.size 9 1 (.slice (some ⟨g9, 0, none⟩) (j + 1) cap9) (j + 1) ((quotNs.take (j + 1)).map Value.string)) := by show World.ownsRow _ _ _ _ _ _ _; rw [HSN.out, List.map_append]; first | exact hown9 | simpa using hown9
          have HB9 : Hid (Below w3.heap.size w3 w9) := HB8.out.grown hgrow9 HB8.out.size (fun k hk => (World.ownsRow.lt HO8.out k hk).1)
          clear hown9 hgrow9 hat9 hlt9 hW8 hh8 HO8 HB8 hs8b hs8 y0 ly
          go_wp2_with fail
          go_roundw
          case rel => exact ⟨j + 1, cap9, some ⟨g9, 0, none⟩, hlt, by go_num, rfl, HO9, HB9⟩
          case measure => simp [intOf]; omega
        · have ej : j = 5 := by omega
          subst ej
          have HO9 : Hid (OwnS w.heap.size wr (.slice ad 5 cap) quotNs) := OwnS.base (base := w3.heap.size) HO.out HB3.out.size
          have HB9 := hide (bel_trans HB3.out HB.out)
          clear HO HB
          go_wp2_with fail
          go_ret
          exact ⟨⟨_, rfl, by rw [HE.out, HND.out]; exact HO9.out⟩, HB9.out⟩
    have b5 : (d.k == 5) = false := beq_eq_false_iff_ne.2 h5
    have HND := hide (namesD_one h4 h5)
    clear h4 h5
    go_wp2_with fail
    go_ret
    exact ⟨⟨_, rfl, by rw [HE.out, HND.out]; exact HO1.out⟩, HB2.out⟩
end Go.Proofs.YtpmpooekpeocdaaGreat
