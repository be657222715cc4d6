/- What the specification's LevelPut answers: the level with levels put for parameters, in new memory, and a code. -/
import Derived.Test.YtnifepmaijfllaaPutJ
import Derived.Test.YtnifepmaijfllaaTFB
import Derived.Test.YtnifepmaijfllaaLev
namespace Go.Proofs.Ytnifepmaijfllaa
open Go.ChangeShapes Go.WideShapes Go.ChangeAt Go.RowKit

theorem NdRowA.ndW {base : Nat} {Q : Nat → Prop} {w : World} {g cap : Nat} {ns : List Nd} (h : NdRowA base Q w g cap ns) : NdW base w (.slice (some ⟨g, 0, none⟩) ns.length cap) ns := by
  obtain ⟨xs, h1, h2, h3⟩ := h
  refine ⟨xs, h1, fun i hi => ?_, h3⟩
  obtain ⟨a, b, kv, c, d, _⟩ := h2 i hi
  exact ⟨a, b, kv, c, d⟩
theorem lvtrees_of {ls : List (List Nd)} {us : List Tr} (h : LvRel ls us ls.length) (ha : ls.all lvlB = true) : LvTrees ls us := by
  refine ⟨h.1.symm, fun i h1 h2 => ?_⟩
  obtain ⟨q1, q2, q3, q4⟩ := h.2 i h1 h2
  have hb := lvl_bounds (List.all_eq_true.1 ha _ (List.getElem_mem h1))
  exact ⟨q1, q2, q3, q4, hb.1, hb.2⟩
/-- What LevelPut answers. -/
def PutOut (B : Nat) (w' : World) (e : Ending) (ns : List Nd) (names : List ByteArray) (ls : List (List Nd)) : Prop :=
  ((lvlB ns && namedB names ls) = false ∧ LvOut B w' e none 1) ∨ ((lvlB ns && namedB names ls) = true ∧ ∃ t ts, OkTree ns t ∧ LvTrees ls ts ∧ LvOut B w' e (sizedR (t.put names ts)) 3)

set_option maxRecDepth 20000 in
set_option maxHeartbeats 4000000 in
theorem specPut_any (v vn vl : Value) (ns : List Nd) (names : List ByteArray) (ls : List (List Nd)) (w : World) (hns : NodesAt w v ns) (hsz : LvLens ns) (hn : StrsAt w vn names) (hv : LevsAt w vl ls) (hz : ∀ l ∈ ls, LvLens l) (hlen : ls.length ≤ 1048576) :
    Calls Try.prog 41 #[.agg #[v], vn, vl] w fun e w' => PutOut w.heap.size w' e ns names ls ∧ Below w.heap.size w w' := by
  obtain ⟨W, hW⟩ : ∃ W, W = (w.alloc (.cells #[v] 30)).alloc (.cells #[.slice none 0 0] 30) := ⟨_, rfl⟩
  have HB := hide (show Below w.heap.size w W by rw [hW]; exact bel_alloc (bel_alloc (Below.refl _ _) _) _)
  have hsW : W.heap.size = w.heap.size + 1 + 1 := by rw [hW]; simp
  have x0 : W.cell? ⟨w.heap.size, 0, none⟩ = some v := by rw [hW]; simp [go_sem]
  have x1 : W.cell? ⟨w.heap.size + 1, 0, none⟩ = some (.slice none 0 0) := by rw [hW]; simp [go_sem]
  have xf : W.frozen? ⟨w.heap.size + 1, 0, none⟩ = false := by rw [hW]; simp [go_sem]
  have HXB := hide (show W.heap[w.heap.size + 1]? = some (.cells #[.slice none 0 0] 30 (0, 0)) by
    rw [hW]
    have := heap_alloc_new (w.alloc (.cells #[v] 30)) (.cells #[.slice none 0 0] 30)
    simp only [World.size_alloc] at this
    exact this)
  have HTR := hide (l1Tree_any v ns W (hns.keep HB.out) hsz)
  have HTS := hide (show ∀ W2, Below w.heap.size w W2 → _ from fun W2 hb => l1TreesF_any vl ls W2 (hv.keep hb) hz hlen)
  have HSN := hide hn
  obtain ⟨va, vc, rfl, _, _, _⟩ := hns
  obtain ⟨na, nc, rfl, hn1, hn2, _⟩ := hn
  obtain ⟨la, lc, rfl, hl1, hl2, _⟩ := hv
  unfold maxLen at hn2 hl2
  clear hsz hz
  go_enter Try.func41, Try.ntmps41
  go_wp2_with fail
  rw [← hW]
  clear hW
  refine HTR.out.mono ?_
  rintro e w2 ⟨(⟨hl, rfl⟩ | ⟨hl, g, t, rfl, htr, hf, hok, hnm, hct⟩), hb2⟩
  · have hs2 := hb2.size
    have HB2 := hide (HB.out.trans (hb2.mono (by omega)))
    have x1 := keep_cell hb2 x1
    have xf : w2.frozen? ⟨w.heap.size + 1, 0, none⟩ = false := (hb2.frozen (p := ⟨w.heap.size + 1, 0, none⟩) (by show w.heap.size + 1 < _; omega)).trans xf
    have HL : Hid ((lvlB ns && namedB names ls) = false) := by show _ = _; rw [hl]; rfl
    clear hb2 hl
    go_wp2_with (first | (go_at_call 65; refine (none_none _).mono ?_; rintro e w' ⟨rfl, hw⟩; have hw := hw.symm; subst hw) | fail)
    refine bodyPost_ret (v := .tuple #[.agg #[.slice none 0 0], .int .i64 1]) (by simp [results, go_sem, x1]) rfl ⟨.inl ⟨HL.out, rfl⟩, HB2.out.setCell (p := ⟨_, _, _⟩) (by show w.heap.size ≤ w.heap.size + 1; omega) _⟩
  · have hs2 := hb2.size
    have HB2 := hide (HB.out.trans (hb2.mono (by omega)))
    have x1 := keep_cell hb2 x1
    have xf : w2.frozen? ⟨w.heap.size + 1, 0, none⟩ = false := (hb2.frozen (p := ⟨w.heap.size + 1, 0, none⟩) (by show w.heap.size + 1 < _; omega)).trans xf
    have HXB2 := hide ((hb2.block (w.heap.size + 1) (by omega)).trans HXB.out)
    obtain ⟨hbd1, hbd2⟩ := lvl_bounds hl
    have HT : Hid (OkTree ns t) := ⟨hf, hok, hnm, hct, hbd1, hbd2⟩
    have HTA := hide htr
    have HOK := hide hok
    by_cases hln : names.length = ls.length
    · have q0 : ((names.length : Int) != (ls.length : Int)) = false := by simp [hln]
      have HLN := hide hln
      have HL := hide hl
      clear hb2 hf hok hnm hct htr hl hln hbd1 hbd2
      go_wp2_with (first | (go_at_call 65; refine (none_some _ _).mono ?_; rintro e w' ⟨rfl, hw⟩; have hw := hw.symm; subst hw) | fail)
      refine (HTS.out w2 HB2.out).mono ?_
      rintro e w3 ⟨⟨a3, n3, c3, rfl, hall⟩, hb3⟩
      have hs3 := hb3.size
      have HB3 := hide (HB2.out.trans (hb3.mono (by omega)))
      have x1 := keep_cell hb3 x1
      have xf : w3.frozen? ⟨w.heap.size + 1, 0, none⟩ = false := (hb3.frozen (p := ⟨w.heap.size + 1, 0, none⟩) (by show w.heap.size + 1 < _; omega)).trans xf
      have HXB3 := hide ((hb3.block (w.heap.size + 1) (by omega)).trans HXB2.out)
      have HTA3 := hide ((HTA.out.keep hb3).mono hb3.size)
      clear hb3 HTS
      cases hal : ls.all lvlB
      · have HNB : Hid ((lvlB ns && namedB names ls) = false) := by show _ = _; unfold namedB; rw [hal]; simp
        clear hall
        go_wp2_with fail
        refine bodyPost_ret (v := .tuple #[.agg #[.slice none 0 0], .int .i64 1]) (by simp [results, go_sem, x1]) rfl ⟨.inl ⟨HNB.out, rfl⟩, HB3.out.setCell (p := ⟨_, _, _⟩) (by show w.heap.size ≤ w.heap.size + 1; omega) _⟩
      · have HNB : Hid ((lvlB ns && namedB names ls) = true) := by show _ = _; unfold namedB; rw [hal, HL.out]; simp [HLN.out]
        obtain ⟨rfl, ps, us, hp1, hp2, hp3, hp4⟩ := hall hal
        have HLT := hide (lvtrees_of hp4 hal)
        have HPV : Hid (PutV w3 (.slice na names.length nc) (.slice a3 ls.length c3) names ps us) := by
          refine ⟨HSN.out.keep HB3.out, hp2.row, by have := HLN.out; omega, hp3.1.1, fun j h1 h2 => ?_⟩
          exact hp3.1.2 j h1 h2
        have HP := hide (l1Put_any t g w3 _ _ names ps us HTA3.out HOK.out HPV.out)
        clear hp1 hp2 hp3 hp4 hall hal
        go_wp2_with fail
        refine HP.out.mono ?_
        rintro e w4 ⟨g4, rfl, ht4, hb4⟩
        have hs4 := hb4.size
        have HB4 := hide (HB3.out.trans (hb4.mono (by omega)))
        have x1 := keep_cell hb4 x1
        have xf : w4.frozen? ⟨w.heap.size + 1, 0, none⟩ = false := (hb4.frozen (p := ⟨w.heap.size + 1, 0, none⟩) (by show w.heap.size + 1 < _; omega)).trans xf
        have HXB4 := hide ((hb4.block (w.heap.size + 1) (by omega)).trans HXB3.out)
        have HT4 := hide ht4
        clear hb4 ht4 HP
        obtain ⟨pt, hpt⟩ : ∃ pt, pt = t.put names us := ⟨_, rfl⟩
        rw [← hpt] at HT4
        have HPT := hide hpt
        clear hpt
        go_wp2_with fail
        refine (l1Fits_any pt g4 w4 HT4.out).mono ?_
        rintro e w5 ⟨rfl, hb5⟩
        have hs5 := hb5.size
        have HB5 := hide (HB4.out.trans (hb5.mono (by omega)))
        have x1 := keep_cell hb5 x1
        have xf : w5.frozen? ⟨w.heap.size + 1, 0, none⟩ = false := (hb5.frozen (p := ⟨w.heap.size + 1, 0, none⟩) (by show w.heap.size + 1 < _; omega)).trans xf
        have HXB5 := hide ((hb5.block (w.heap.size + 1) (by omega)).trans HXB4.out)
        have HT5 := hide ((HT4.out.keep hb5).mono hb5.size)
        clear hb5
        cases hfit : fitsB pt
        · have HR : Hid (sizedR (t.put names us) = none) := by show _ = _; rw [← HPT.out]; unfold sizedR; rw [hfit]; rfl
          clear hfit
          go_wp2_with fail
          refine bodyPost_ret (v := .tuple #[.agg #[.slice none 0 0], .int .i64 3]) (by simp [results, go_sem, x1]) rfl ⟨.inr ⟨HNB.out, t, us, HT.out, HLT.out, by rw [HR.out]; exact rfl⟩, HB5.out.setCell (p := ⟨_, _, _⟩) (by show w.heap.size ≤ w.heap.size + 1; omega) _⟩
        · have HR : Hid (sizedR (t.put names us) = some pt) := by show _ = _; rw [← HPT.out]; unfold sizedR; rw [hfit]; rfl
          have hcn : pt.cnt ≤ 1000 := by unfold fitsB at hfit; simp at hfit; omega
          have HLV := hide (l1LevelA_any pt g4 w5 HT5.out hcn)
          rw [Tr.flat_len] at HLV
          clear hfit hcn
          go_wp2_with fail
          refine HLV.out.mono ?_
          rintro e w6 ⟨g6, cap6, rfl, hn6, hb6⟩
          have HB6 := hide (HB5.out.trans (hb6.mono (by omega)))
          have x1 := keep_cell hb6 x1
          have xf : w6.frozen? ⟨w.heap.size + 1, 0, none⟩ = false := (hb6.frozen (p := ⟨w.heap.size + 1, 0, none⟩) (by show w.heap.size + 1 < _; omega)).trans xf
          have HXB6 := hide ((hb6.block (w.heap.size + 1) (by omega)).trans HXB5.out)
          have hn6' := hn6.ndW
          rw [Tr.flat_len] at hn6'
          have HND := hide ((hn6'.mono (show w.heap.size ≤ w5.heap.size by omega)).set (l := w.heap.size + 1) (o := 0) (by decide) (by decide) HXB6.out (.slice (some ⟨g6, 0, none⟩) pt.cnt cap6))
          clear hn6 hn6' hb6 HLV
          go_wp2_with fail
          refine bodyPost_ret (v := .tuple #[.agg #[.slice (some ⟨g6, 0, none⟩) pt.cnt cap6], .int .i64 0]) (by simp [results, go_sem, x1]) rfl ⟨.inr ⟨HNB.out, t, us, HT.out, HLT.out, by rw [HR.out]; exact ⟨g6, cap6, rfl, HND.out⟩⟩, HB6.out.setCell (p := ⟨_, _, _⟩) (by show w.heap.size ≤ w.heap.size + 1; omega) _⟩
    · have q0 : ((names.length : Int) != (ls.length : Int)) = true := by simp; omega
      have HNB : Hid ((lvlB ns && namedB names ls) = false) := by show _ = _; unfold namedB; simp [hln]
      clear hb2 hf hok hnm hct htr hl hln hbd1 hbd2
      go_wp2_with (first | (go_at_call 65; refine (none_some _ _).mono ?_; rintro e w' ⟨rfl, hw⟩; have hw := hw.symm; subst hw) | fail)
      refine bodyPost_ret (v := .tuple #[.agg #[.slice none 0 0], .int .i64 1]) (by simp [results, go_sem, x1]) rfl ⟨.inl ⟨HNB.out, rfl⟩, HB2.out.setCell (p := ⟨_, _, _⟩) (by show w.heap.size ≤ w.heap.size + 1; omega) _⟩
end Go.Proofs.Ytnifepmaijfllaa
