/- What the program's ParseLevel answers: what the specification's reader asks. -/
import Derived.Test.YtlmhpdmgjfankaaDoorPaK
import Derived.Test.YtlmhpdmgjfankaaDoorPaZ
import Derived.Test.YtlmhpdmgjfankaaDoorPaP
namespace Go.Proofs.YtlmhpdmgjfankaaDoor
open Go.ChangeShapes Go.WideShapes Go.ChangeAt Go.RowKit

theorem both_some {s : Bs} {x : It} (h : pRF s = some (x, [])) : ∃ e, G s e ∧ x = e.it ∧ spF s = some e.tr := by
  obtain ⟨e, p, h1, h2, h3⟩ := pR_sound _ _ _ _ h
  rw [List.append_nil] at h1
  subst h1
  exact ⟨e, h2, h3, sp_complete h2 _ (by omega)⟩
theorem both_none {s : Bs} (h : ∀ x, pRF s ≠ some (x, [])) : spF s = none := by
  cases hs : spF s with
  | none => rfl
  | some t =>
    obtain ⟨e, h1, _⟩ := sp_sound _ _ _ hs
    have := pR_complete h1 (s.length + 1) [] (by omega) trivial
    rw [List.append_nil] at this
    exact absurd this (h e.it)
theorem drop_end {s : ByteArray} {q : Nat} (hq : q ≤ s.size) : s.data.toList.drop q = [] ↔ q = s.size := by
  have e3 : s.data.toList.length = s.size := by simp
  rw [List.drop_eq_nil_iff]
  omega

attribute [local go_sem] run_store_fn
set_option maxRecDepth 20000 in
set_option maxHeartbeats 8000000 in
theorem implParse_any (s : ByteArray) (w : World) (hs : s.size ≤ maxLen) :
    Calls Tryd.prog 12 #[.string s] w fun e w' => ParseOut w.heap.size w' e s ∧ Below w.heap.size w w' := by
  unfold maxLen at hs
  obtain ⟨W, hW⟩ : ∃ W, W = w.alloc (.cells #[.slice none 0 0] 29) := ⟨_, rfl⟩
  have HB := hide (show Below w.heap.size w W by rw [hW]; exact bel_alloc (Below.refl _ _) _)
  have hsW : W.heap.size = w.heap.size + 1 := by rw [hW]; simp
  have x0 : W.cell? ⟨w.heap.size, 0, none⟩ = some (.slice none 0 0) := by rw [hW]; simp [go_sem]
  have xf : W.frozen? ⟨w.heap.size, 0, none⟩ = false := by rw [hW]; simp [go_sem]
  have HXB := hide (show W.heap[w.heap.size]? = some (.cells #[.slice none 0 0] 29 (0, 0)) by rw [hW]; exact heap_alloc_new w _)
  by_cases hbig : 3000 < s.size
  · have hgt : (3000 : Int) < s.size := by omega
    go_enter Tryd.func12, Tryd.ntmps12
    go_wp2_with fail
    refine bodyPost_ret (v := .tuple #[.agg #[.slice none 0 0], .int .i64 4]) (by simp [results, go_sem]) rfl ⟨.inl ⟨.inl hbig, rfl⟩, ?_⟩
    first
      | exact bel_alloc (Below.refl _ _) _
      | exact (bel_alloc (Below.refl _ _) _).setCell (p := ⟨_, _, _⟩) (Nat.le_refl _) _
  have hle : (s.size : Int) ≤ 3000 := by omega
  have hsz : s.size ≤ 3000 := by omega
  have HRO := hide (readerOf_any s W)
  go_enter Tryd.func12, Tryd.ntmps12
  go_wp2_with fail
  rw [← hW]
  clear hW
  refine HRO.out.mono ?_
  rintro e w2 ⟨bt, ba, bf, rfl, h2, hb2, hba⟩
  have x0 := keep_cell hb2 x0
  have xf : w2.frozen? ⟨w.heap.size, 0, none⟩ = false := (hb2.frozen (p := ⟨w.heap.size, 0, none⟩) (by show w.heap.size < _; omega)).trans xf
  have HXB2 := hide ((hb2.block w.heap.size (by omega)).trans HXB.out)
  have HB2 := hide (HB.out.trans (hb2.mono (by omega)))
  have hs2 := hb2.size
  clear hb2 HRO HB HXB
  obtain ⟨w3, hw3⟩ : ∃ w3, w3 = w2.alloc (.cells #[rF1 ba bt, rF2 bt ba bf, rF3 bt ba bf] 56) := ⟨_, rfl⟩
  have hb3 : Below w2.heap.size w2 w3 := by rw [hw3]; exact bel_alloc (Below.refl _ _) _
  have x0 := keep_cell hb3 x0
  have xf : w3.frozen? ⟨w.heap.size, 0, none⟩ = false := (hb3.frozen (p := ⟨w.heap.size, 0, none⟩) (by show w.heap.size < _; omega)).trans xf
  have HXB3 := hide ((hb3.block w.heap.size (by omega)).trans HXB2.out)
  have HB3 := hide (HB2.out.trans (hb3.mono (by omega)))
  have hs3 := hb3.size
  have HR3 := hide (h2.keep hb3)
  have HX3 := hide (show BoxI bt ba bf w2.heap.size w3 by rw [hw3]; exact BoxI.new h2.lt)
  obtain ⟨b0, hb0⟩ : ∃ b0, b0 = w2.heap.size := ⟨_, rfl⟩
  rw [← hb0] at HX3
  have HLV := hide (lev_any bt ba bf s hsz ((s.data.toList.drop 0).length + 1) w3 0 (by omega) HR3.out)
  unfold rV rF1 rF2 rF3 at HLV
  clear hb3 HB2 HXB2 h2
  unfold rV
  unfold rF1 rF2 rF3 at *
  go_upto_region 4 with fail
  rw [← hw3]
  rw [← hb0]
  clear hw3 hb0
  obtain ⟨y0, y1, y2, hne⟩ := HX3.out
  unfold rF1 at y0
  unfold rF2 at y1
  unfold rF3 at y2
  go_wp2_with fail
  refine HLV.out.mono ?_
  rintro e w4 ⟨hout, hg4⟩
  have hs4 := hg4.size
  have x0 : w4.cell? ⟨w.heap.size, 0, none⟩ = some (.slice none 0 0) := (hg4.cell_far ⟨w.heap.size, 0, none⟩ (by show w.heap.size < _; omega) (by simp; omega)).trans x0
  have xf : w4.frozen? ⟨w.heap.size, 0, none⟩ = false := (hg4.frozen_far ⟨w.heap.size, 0, none⟩ (by show w.heap.size < _; omega) (by simp; omega)).trans xf
  have HXB4 := hide ((hg4.block w.heap.size (by omega) (by simp; omega)).trans HXB3.out)
  have HB4 := hide (HB3.out.trans ((Below.refl w.heap.size w3).grown hg4 (by omega) (fun q hq => by simp at hq; omega)))
  have HX4 := hide (HX3.out.go hg4)
  clear hg4 HXB3 HB3 HX3 HR3 HLV y0 y1 y2
  rw [List.drop_zero] at hout
  cases hp : pRF s.data.toList with
  | none =>
    rw [hp] at hout
    obtain ⟨v, q, hv, rfl, h4⟩ := hout
    have HN := hide (both_none (s := s.data.toList) (fun x => by rw [hp]; simp))
    clear hp hv h4
    go_wp2_with fail
    refine bodyPost_ret (v := .tuple #[.agg #[.slice none 0 0], .int .i64 4]) (by simp [results, go_sem, x0]) rfl ⟨.inl ⟨.inr HN.out, rfl⟩, HB4.out.setCell (p := ⟨_, _, _⟩) (Nat.le_refl _) _⟩
  | some z =>
    obtain ⟨x, r⟩ := z
    rw [hp] at hout
    obtain ⟨q, rfl, h4, hq⟩ := hout
    have HE := hide (atEnd_any bt ba bf s q w4 h4)
    have hde := drop_end h4.le
    rw [hq] at hde
    obtain ⟨y0, y1, y2, hne⟩ := HX4.out
    unfold rF1 at y0
    unfold rF2 at y1
    unfold rF3 at y2
    clear h4 hq
    by_cases hend : q = s.size
    · have hr : r = [] := hde.2 hend
      subst hr
      rw [show decide (q = s.size) = true by simp [hend]] at HE
      obtain ⟨e, hG, hx, hsp⟩ := both_some hp
      have HSP := hide hsp
      have hlen : s.data.toList.length = s.size := by simp
      have hcn := (full_cnt hG).1
      have HSZ := hide (sizedLevel9_any e.full w4 (full_ok hG).1 (by omega))
      rw [← It.val_pay, full_it, ← hx, full_sized] at HSZ
      obtain ⟨Tx, vx, hvx⟩ := x.val_iface
      rw [hvx] at HSZ
      rw [hvx]
      have HFIN : Hid (∀ (e' : Ending) (w' : World), LvOut w.heap.size w' e' (sizedR e.tr) 3 → ParseOut w.heap.size w' e' s) := fun e' w' h => .inr ⟨hsz, e.tr, HSP.out, h⟩
      generalize sizedR e.tr = rr at *
      clear hp hde hend hvx hsp hG hcn hlen hx HSP
      go_wp2_with fail
      refine HE.out.mono ?_
      rintro e w5 ⟨rfl, hw⟩
      have hw := hw.symm
      subst hw
      go_wp2_with fail
      refine HSZ.out.mono ?_
      rintro e w6 ⟨hout, hb6⟩
      have x0 := keep_cell hb6 x0
      have xf : w6.frozen? ⟨w.heap.size, 0, none⟩ = false := (hb6.frozen (p := ⟨w.heap.size, 0, none⟩) (by show w.heap.size < _; omega)).trans xf
      have HXB6 := hide ((hb6.block w.heap.size (by omega)).trans HXB4.out)
      have HB6 := hide (HB4.out.trans (hb6.mono (by omega)))
      clear hb6 y0 y1 y2 HSZ HE
      cases rr with
      | none =>
        have hout : e = .returned (.tuple #[.agg #[.slice none 0 0], .int .i64 3]) := hout
        subst hout
        go_wp2_with fail
        refine bodyPost_ret (v := .tuple #[.agg #[.slice none 0 0], .int .i64 3]) (by simp [results, go_sem, x0]) rfl ⟨HFIN.out _ _ rfl, HB6.out.setCell (p := ⟨_, _, _⟩) (Nat.le_refl _) _⟩
      | some tt =>
        obtain ⟨g, cap, rfl, hnd⟩ := hout
        have HND := hide ((hnd.mono (show w.heap.size ≤ _ by omega)).set (l := w.heap.size) (o := 0) (by decide) (by decide) HXB6.out (.slice (some ⟨g, 0, none⟩) tt.cnt cap))
        clear hnd
        go_wp2_with fail
        refine bodyPost_ret (v := .tuple #[.agg #[.slice (some ⟨g, 0, none⟩) tt.cnt cap], .int .i64 0]) (by simp [results, go_sem, x0]) rfl ⟨HFIN.out _ _ ⟨g, cap, rfl, HND.out⟩, HB6.out.setCell (p := ⟨_, _, _⟩) (Nat.le_refl _) _⟩
    · have hr : r ≠ [] := fun h => hend (hde.1 h)
      rw [show decide (q = s.size) = false by simp [hend]] at HE
      have HN := hide (both_none (s := s.data.toList) (fun x => by rw [hp]; intro h; simp only [Option.some.injEq, Prod.mk.injEq] at h; exact hr h.2))
      obtain ⟨Tx, vx, hvx⟩ := x.val_iface
      rw [hvx]
      clear hp hde hend hr hvx
      go_wp2_with fail
      refine HE.out.mono ?_
      rintro e w5 ⟨rfl, hw⟩
      have hw := hw.symm
      subst hw
      go_wp2_with fail
      refine bodyPost_ret (v := .tuple #[.agg #[.slice none 0 0], .int .i64 4]) (by simp [results, go_sem, x0]) rfl ⟨.inl ⟨.inr HN.out, rfl⟩, HB4.out.setCell (p := ⟨_, _, _⟩) (Nat.le_refl _) _⟩
end Go.Proofs.YtlmhpdmgjfankaaDoor
