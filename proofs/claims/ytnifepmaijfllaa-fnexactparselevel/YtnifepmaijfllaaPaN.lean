/- sizedLevel for trees of up to a thousand million nodes (a text of 3000 bytes may ask for so many). -/
import Derived.Test.YtnifepmaijfllaaSzL
import Derived.Test.YtnifepmaijfllaaPaK
import Derived.Test.YtnifepmaijfllaaPaP
import Derived.Test.YtnifepmaijfllaaExB
namespace Go.Proofs.Ytnifepmaijfllaa
open Go.ChangeShapes Go.WideShapes Go.ChangeAt Go.RowKit

set_option maxHeartbeats 1000000 in
theorem size9_succ (n : Nat) (x : It) (hc : (It.succ n x).cnt ≤ 1000000000) (ih : SizeAt x) : SizeAt (.succ n x) := by
  intro w
  have hm := It.size_m x
  have he := It.size_e x
  simp only [It.cnt] at hc
  have IH := hide ih
  unfold SizeAt at IH
  simp only [It.szf, It.pay, It.cnt]
  rw [It.val_pay x]
  generalize x.szf = f at *
  generalize x.tid = T at *
  generalize x.pay = v at *
  generalize x.cnt = y at *
  have hwr : IntKind.i64.wrap ((n : Int) + y) = (n : Int) + y := by rw [IntKind.wrap_i64]; omega
  have HE : Hid (Ending.returned (.int .i64 ((n : Int) + y)) = .returned (.int .i64 ((n + y : Nat) : Int))) := by show _ = _; simp
  clear ih
  go_enter Try.func192, Try.ntmps192
  go_wp2_with fail
  go_region_held3 (fun w' => w'.cell? ⟨w.heap.size, 0, none⟩ = some (.int .i64 n) ∧ w'.cell? ⟨w.heap.size, 1, none⟩ = some (.iface T v))
    (first
      | go_keep
      | (go_split_ands; exact ⟨keep_cell hb1 (by assumption), keep_cell hb1 (by assumption)⟩)
      | fail)
    (first
      | (refine (IH.out _).mono ?_; rintro e w1 ⟨rfl, hb1⟩)
      | fail)
  all_goals
    go_wp2_with fail
    go_ret
    exact ⟨HE.out, (bel_alloc (Below.refl _ _) _).drew.trans (hb1.mono (by simp))⟩
set_option maxHeartbeats 2000000 in
theorem size9_max (a b : It) (hc : (It.max a b).cnt ≤ 1000000000) (iha : SizeAt a) (ihb : SizeAt b) : SizeAt (.max a b) := by
  intro w
  have hma := It.size_m a
  have hea := It.size_e a
  have hmb := It.size_m b
  have heb := It.size_e b
  simp only [It.cnt] at hc
  have IHA := hide iha
  have IHB := hide ihb
  unfold SizeAt at IHA IHB
  simp only [It.szf, It.pay, It.cnt]
  rw [It.val_pay a, It.val_pay b]
  generalize a.szf = fa at *
  generalize a.tid = Ta at *
  generalize a.pay = va at *
  generalize a.cnt = x at *
  generalize b.szf = fb at *
  generalize b.tid = Tb at *
  generalize b.pay = vb at *
  generalize b.cnt = y at *
  have hwr : IntKind.i64.wrap ((x : Int) + y) = (x : Int) + y := by rw [IntKind.wrap_i64]; omega
  have hwr2 : IntKind.i64.wrap ((x : Int) + y + 1) = (x : Int) + y + 1 := by rw [IntKind.wrap_i64]; omega
  have HE : Hid (Ending.returned (.int .i64 ((x : Int) + y + 1)) = .returned (.int .i64 ((x + y + 1 : Nat) : Int))) := by show _ = _; simp
  clear iha ihb
  go_enter Try.func194, Try.ntmps194
  go_wp2_with fail
  go_region_held3 (fun w' => w'.cell? ⟨w.heap.size, 0, none⟩ = some (.iface Ta va) ∧ w'.cell? ⟨w.heap.size, 1, none⟩ = some (.iface Tb vb))
    (first
      | go_keep
      | (go_split_ands; exact ⟨keep_cell hb2 (by assumption), keep_cell hb2 (by assumption)⟩)
      | (go_split_ands; exact ⟨keep_cell hb1 (by assumption), keep_cell hb1 (by assumption)⟩)
      | fail)
    (first
      | (refine (IHA.out _).mono ?_; rintro e w1 ⟨rfl, hb1⟩)
      | (refine (IHB.out _).mono ?_; rintro e w2 ⟨rfl, hb2⟩)
      | fail)
  all_goals
    go_wp2_with fail
    go_ret
    exact ⟨HE.out, bel_trans ((bel_alloc (Below.refl _ _) _).drew.trans (hb1.mono (by simp))) hb2⟩
set_option maxHeartbeats 2000000 in
theorem size9_imax (a b : It) (hc : (It.imax a b).cnt ≤ 1000000000) (iha : SizeAt a) (ihb : SizeAt b) : SizeAt (.imax a b) := by
  intro w
  have hma := It.size_m a
  have hea := It.size_e a
  have hmb := It.size_m b
  have heb := It.size_e b
  simp only [It.cnt] at hc
  have IHA := hide iha
  have IHB := hide ihb
  unfold SizeAt at IHA IHB
  simp only [It.szf, It.pay, It.cnt]
  rw [It.val_pay a, It.val_pay b]
  generalize a.szf = fa at *
  generalize a.tid = Ta at *
  generalize a.pay = va at *
  generalize a.cnt = x at *
  generalize b.szf = fb at *
  generalize b.tid = Tb at *
  generalize b.pay = vb at *
  generalize b.cnt = y at *
  have hwr : IntKind.i64.wrap ((x : Int) + y) = (x : Int) + y := by rw [IntKind.wrap_i64]; omega
  have hwr2 : IntKind.i64.wrap ((x : Int) + y + 1) = (x : Int) + y + 1 := by rw [IntKind.wrap_i64]; omega
  have HE : Hid (Ending.returned (.int .i64 ((x : Int) + y + 1)) = .returned (.int .i64 ((x + y + 1 : Nat) : Int))) := by show _ = _; simp
  clear iha ihb
  go_enter Try.func197, Try.ntmps197
  go_wp2_with fail
  go_region_held3 (fun w' => w'.cell? ⟨w.heap.size, 0, none⟩ = some (.iface Ta va) ∧ w'.cell? ⟨w.heap.size, 1, none⟩ = some (.iface Tb vb))
    (first
      | go_keep
      | (go_split_ands; exact ⟨keep_cell hb2 (by assumption), keep_cell hb2 (by assumption)⟩)
      | (go_split_ands; exact ⟨keep_cell hb1 (by assumption), keep_cell hb1 (by assumption)⟩)
      | fail)
    (first
      | (refine (IHA.out _).mono ?_; rintro e w1 ⟨rfl, hb1⟩)
      | (refine (IHB.out _).mono ?_; rintro e w2 ⟨rfl, hb2⟩)
      | fail)
  all_goals
    go_wp2_with fail
    go_ret
    exact ⟨HE.out, bel_trans ((bel_alloc (Below.refl _ _) _).drew.trans (hb1.mono (by simp))) hb2⟩
theorem size9_all : ∀ x : It, x.cnt ≤ 1000000000 → SizeAt x
  | .zero, _ => size_zero
  | .succ n x, h => size9_succ n x h (size9_all x (by simp only [It.cnt] at h; omega))
  | .max a b, h => size9_max a b h (size9_all a (by simp only [It.cnt] at h; omega)) (size9_all b (by simp only [It.cnt] at h; omega))
  | .imax a b, h => size9_imax a b h (size9_all a (by simp only [It.cnt] at h; omega)) (size9_all b (by simp only [It.cnt] at h; omega))
  | .param s, _ => size_param s
set_option maxRecDepth 20000 in
set_option maxHeartbeats 2000000 in
theorem sizedLevel9_any (t : Tr) (w : World) (hok : t.ok) (hc : t.cnt ≤ 1000000000) :
    Calls Try.prog 100 #[.iface t.it.tid t.it.pay] w fun e w' => LvOut w.heap.size w' e (sizedR t) 3 ∧ Below w.heap.size w w' := by
  have hm := It.size_m t.it
  have he := It.size_e t.it
  have hcnt := it_cnt t hok
  have HSZ := hide (size9_all t.it (by omega))
  have HLT := hide (levelOfTree_any t.it)
  have HFL := hide (it_flat t 0 hok)
  have HLV := hide (lvl_flat t hok)
  have HSM := hide (flat_le t 0 hok)
  have HTL := hide (Tr.flat_len t 0)
  unfold SizeAt at HSZ
  rw [hcnt] at HSZ HLT
  rw [HFL.out] at HLT
  generalize t.it.szf = f at *
  generalize t.it.tid = T at *
  generalize t.it.pay = v at *
  clear hcnt
  obtain ⟨W, hW⟩ : ∃ W, W = w.alloc (.cells #[.slice none 0 0] 30) := ⟨_, rfl⟩
  have HB := hide (show Below w.heap.size w W by rw [hW]; exact bel_alloc (Below.refl _ _) _)
  have hsW : W.heap.size = w.heap.size + 1 := by rw [hW]; simp
  have x0 : W.cell? ⟨w.heap.size, 0, none⟩ = some (.slice none 0 0) := by rw [hW]; simp [go_sem]
  have xf : W.frozen? ⟨w.heap.size, 0, none⟩ = false := by rw [hW]; simp [go_sem]
  have HXB := hide (show W.heap[w.heap.size]? = some (.cells #[.slice none 0 0] 30 (0, 0)) by rw [hW]; exact heap_alloc_new w _)
  go_enter Try.func100, Try.ntmps100
  go_wp2_with fail
  rw [← hW]
  clear hW
  refine (HSZ.out W).mono ?_
  rintro e w2 ⟨rfl, hb2⟩
  have x0 := keep_cell hb2 x0
  have xf : w2.frozen? ⟨w.heap.size, 0, none⟩ = false := (hb2.frozen (p := ⟨w.heap.size, 0, none⟩) (by show w.heap.size < _; omega)).trans xf
  have HXB2 := hide ((hb2.block w.heap.size (by omega)).trans HXB.out)
  have HB2 := hide (HB.out.trans (hb2.mono (by omega)))
  have hs2 := hb2.size
  clear hb2 HSZ
  by_cases hbig : t.cnt ≤ 64
  · have hle : (t.cnt : Int) ≤ 64 := by omega
    go_wp2_with fail
    refine (HLT.out w2 (by omega)).mono ?_
    rintro e w3 ⟨g3, cap3, rfl, hn3, hb3⟩
    have x0 := keep_cell hb3 x0
    have xf : w3.frozen? ⟨w.heap.size, 0, none⟩ = false := (hb3.frozen (p := ⟨w.heap.size, 0, none⟩) (by show w.heap.size < _; omega)).trans xf
    have HXB3 := hide ((hb3.block w.heap.size (by omega)).trans HXB2.out)
    have HB3 := hide (HB2.out.trans (hb3.mono (by omega)))
    have hs3 := hb3.size
    have HN3 := hide hn3
    have HND := hide (hn3.nodes HTL.out)
    obtain ⟨W4, hW4⟩ : ∃ W4, W4 = w3.alloc (.cells #[.slice (some ⟨g3, 0, none⟩) t.cnt cap3] 30) := ⟨_, rfl⟩
    have HB4 := hide (show Below w3.heap.size w3 W4 by rw [hW4]; exact bel_alloc (Below.refl _ _) _)
    have y0 : W4.cell? ⟨w3.heap.size, 0, none⟩ = some (.slice (some ⟨g3, 0, none⟩) t.cnt cap3) := by rw [hW4]; simp [go_sem]
    have hs4 : w3.heap.size < W4.heap.size := by rw [hW4]; simp
    have hgl : g3 ≠ w.heap.size := by have := (hn3.row_lt g3 rfl).1; omega
    clear hb3 hn3 HLT
    go_wp2_with fail
    rw [← hW4]
    clear hW4
    have x0 := keep_cell HB4.out x0
    have xf : W4.frozen? ⟨w.heap.size, 0, none⟩ = false := (HB4.out.frozen (p := ⟨w.heap.size, 0, none⟩) (by show w.heap.size < _; omega)).trans xf
    have HXB4 := hide ((HB4.out.block w.heap.size (by omega)).trans HXB3.out)
    refine (implLevelOk_any _ (t.flat 0) W4 (HND.out.keep HB4.out) HSM.out).mono ?_
    rintro e w5 ⟨rfl, hb5⟩
    rw [HLV.out]
    have x0 := keep_cell hb5 x0
    have xf : w5.frozen? ⟨w.heap.size, 0, none⟩ = false := (hb5.frozen (p := ⟨w.heap.size, 0, none⟩) (by show w.heap.size < _; omega)).trans xf
    have HXB5 := hide ((hb5.block w.heap.size (by omega)).trans HXB4.out)
    have y0 := keep_cell hb5 y0
    have HB5 := hide ((HB3.out.trans (HB4.out.mono (by omega))).trans (hb5.mono (by omega)))
    have HN5 := hide ((HN3.out.keep HB4.out).keep hb5)
    have hne : ¬ w3.heap.size = w.heap.size := by omega
    clear hb5
    cases hfit : fitsB t
    · have HF : Hid (sizedR t = none) := by show _ = _; unfold sizedR; rw [hfit]; rfl
      go_wp2_with fail
      refine bodyPost_ret (v := .tuple #[.agg #[.slice none 0 0], .int .i64 3]) (by simp [results, go_sem, x0]) rfl ⟨by rw [HF.out]; exact rfl, HB5.out.setCell (p := ⟨_, _, _⟩) (Nat.le_refl _) _⟩
    · have HF : Hid (sizedR t = some t) := by show _ = _; unfold sizedR; rw [hfit]; rfl
      have HN6 := hide (HN5.out.set (l := w.heap.size) (o := 0) (by decide) (by decide) HXB5.out (.slice (some ⟨g3, 0, none⟩) t.cnt cap3))
      have hbase : w.heap.size ≤ w2.heap.size := by omega
      go_wp2_with fail
      refine bodyPost_ret (v := .tuple #[.agg #[.slice (some ⟨g3, 0, none⟩) t.cnt cap3], .int .i64 0]) (by simp [results, go_sem, x0]) rfl ⟨?_, HB5.out.setCell (p := ⟨_, _, _⟩) (Nat.le_refl _) _⟩
      rw [HF.out]
      exact ⟨g3, cap3, rfl, HN6.out.mono hbase⟩
  · have hle : ¬ (t.cnt : Int) ≤ 64 := by omega
    have HF : Hid (sizedR t = none) := by
      show _ = _
      unfold sizedR fitsB
      rw [if_neg]
      simp; omega
    go_wp2_with fail
    refine bodyPost_ret (v := .tuple #[.agg #[.slice none 0 0], .int .i64 3]) (by simp [results, go_sem, x0]) rfl ⟨by rw [HF.out]; exact rfl, HB2.out.setCell (p := ⟨_, _, _⟩) (Nat.le_refl _) _⟩
end Go.Proofs.Ytnifepmaijfllaa

/- What the program's ParseLevel answers: what the specification's reader asks. -/
namespace Go.Proofs.Ytnifepmaijfllaa
open Go.ChangeShapes Go.WideShapes Go.ChangeAt Go.RowKit

theorem both_some {s : Bs} {x : It} (h : pRF s = some (x, [])) : ∃ e, G s e ∧ x = e.it ∧ spF s = some e.tr := by
  obtain ⟨e, p, h1, h2, h3⟩ := pR_sound _ _ _ _ h
  rw [List.append_nil] at h1
  subst h1
  exact ⟨e, h2, h3, sp_complete h2 _ (by omega)⟩
theorem both_none {s : Bs} (h : ∀ x, pRF s ≠ some (x, [])) : spF s = none := by
  cases hs : spF s with
  | none => rfl
  | some t =>
    obtain ⟨e, h1, _⟩ := sp_sound _ _ _ hs
    have := pR_complete h1 (s.length + 1) [] (by omega) trivial
    rw [List.append_nil] at this
    exact absurd this (h e.it)
theorem drop_end {s : ByteArray} {q : Nat} (hq : q ≤ s.size) : s.data.toList.drop q = [] ↔ q = s.size := by
  have e3 : s.data.toList.length = s.size := by simp
  rw [List.drop_eq_nil_iff]
  omega

attribute [local go_sem] run_store_fn
set_option maxRecDepth 20000 in
set_option maxHeartbeats 8000000 in
theorem implParse_any (s : ByteArray) (w : World) (hs : s.size ≤ maxLen) :
    Calls Try.prog 44 #[.string s] w fun e w' => ParseOut w.heap.size w' e s ∧ Below w.heap.size w w' := by
  unfold maxLen at hs
  obtain ⟨W, hW⟩ : ∃ W, W = w.alloc (.cells #[.slice none 0 0] 30) := ⟨_, rfl⟩
  have HB := hide (show Below w.heap.size w W by rw [hW]; exact bel_alloc (Below.refl _ _) _)
  have hsW : W.heap.size = w.heap.size + 1 := by rw [hW]; simp
  have x0 : W.cell? ⟨w.heap.size, 0, none⟩ = some (.slice none 0 0) := by rw [hW]; simp [go_sem]
  have xf : W.frozen? ⟨w.heap.size, 0, none⟩ = false := by rw [hW]; simp [go_sem]
  have HXB := hide (show W.heap[w.heap.size]? = some (.cells #[.slice none 0 0] 30 (0, 0)) by rw [hW]; exact heap_alloc_new w _)
  by_cases hbig : 3000 < s.size
  · have hgt : (3000 : Int) < s.size := by omega
    go_enter Try.func44, Try.ntmps44
    go_wp2_with fail
    refine bodyPost_ret (v := .tuple #[.agg #[.slice none 0 0], .int .i64 4]) (by simp [results, go_sem]) rfl ⟨.inl ⟨.inl hbig, rfl⟩, ?_⟩
    first
      | exact bel_alloc (Below.refl _ _) _
      | exact (bel_alloc (Below.refl _ _) _).setCell (p := ⟨_, _, _⟩) (Nat.le_refl _) _
  have hle : (s.size : Int) ≤ 3000 := by omega
  have hsz : s.size ≤ 3000 := by omega
  have HRO := hide (readerOf_any s W)
  go_enter Try.func44, Try.ntmps44
  go_wp2_with fail
  rw [← hW]
  clear hW
  refine HRO.out.mono ?_
  rintro e w2 ⟨bt, ba, bf, rfl, h2, hb2, hba⟩
  have x0 := keep_cell hb2 x0
  have xf : w2.frozen? ⟨w.heap.size, 0, none⟩ = false := (hb2.frozen (p := ⟨w.heap.size, 0, none⟩) (by show w.heap.size < _; omega)).trans xf
  have HXB2 := hide ((hb2.block w.heap.size (by omega)).trans HXB.out)
  have HB2 := hide (HB.out.trans (hb2.mono (by omega)))
  have hs2 := hb2.size
  clear hb2 HRO HB HXB
  obtain ⟨w3, hw3⟩ : ∃ w3, w3 = w2.alloc (.cells #[rF1 ba bt, rF2 bt ba bf, rF3 bt ba bf] 120) := ⟨_, rfl⟩
  have hb3 : Below w2.heap.size w2 w3 := by rw [hw3]; exact bel_alloc (Below.refl _ _) _
  have x0 := keep_cell hb3 x0
  have xf : w3.frozen? ⟨w.heap.size, 0, none⟩ = false := (hb3.frozen (p := ⟨w.heap.size, 0, none⟩) (by show w.heap.size < _; omega)).trans xf
  have HXB3 := hide ((hb3.block w.heap.size (by omega)).trans HXB2.out)
  have HB3 := hide (HB2.out.trans (hb3.mono (by omega)))
  have hs3 := hb3.size
  have HR3 := hide (h2.keep hb3)
  have HX3 := hide (show BoxI bt ba bf w2.heap.size w3 by rw [hw3]; exact BoxI.new h2.lt)
  obtain ⟨b0, hb0⟩ : ∃ b0, b0 = w2.heap.size := ⟨_, rfl⟩
  rw [← hb0] at HX3
  have HLV := hide (lev_any bt ba bf s hsz ((s.data.toList.drop 0).length + 1) w3 0 (by omega) HR3.out)
  unfold rV rF1 rF2 rF3 at HLV
  clear hb3 HB2 HXB2 h2
  unfold rV
  unfold rF1 rF2 rF3 at *
  go_upto_region 4 with fail
  rw [← hw3]
  rw [← hb0]
  clear hw3 hb0
  obtain ⟨y0, y1, y2, hne⟩ := HX3.out
  unfold rF1 at y0
  unfold rF2 at y1
  unfold rF3 at y2
  go_wp2_with fail
  refine HLV.out.mono ?_
  rintro e w4 ⟨hout, hg4⟩
  have hs4 := hg4.size
  have x0 : w4.cell? ⟨w.heap.size, 0, none⟩ = some (.slice none 0 0) := (hg4.cell_far ⟨w.heap.size, 0, none⟩ (by show w.heap.size < _; omega) (by simp; omega)).trans x0
  have xf : w4.frozen? ⟨w.heap.size, 0, none⟩ = false := (hg4.frozen_far ⟨w.heap.size, 0, none⟩ (by show w.heap.size < _; omega) (by simp; omega)).trans xf
  have HXB4 := hide ((hg4.block w.heap.size (by omega) (by simp; omega)).trans HXB3.out)
  have HB4 := hide (HB3.out.trans ((Below.refl w.heap.size w3).grown hg4 (by omega) (fun q hq => by simp at hq; omega)))
  have HX4 := hide (HX3.out.go hg4)
  clear hg4 HXB3 HB3 HX3 HR3 HLV y0 y1 y2
  rw [List.drop_zero] at hout
  cases hp : pRF s.data.toList with
  | none =>
    rw [hp] at hout
    obtain ⟨v, q, hv, rfl, h4⟩ := hout
    have HN := hide (both_none (s := s.data.toList) (fun x => by rw [hp]; simp))
    clear hp hv h4
    go_wp2_with fail
    refine bodyPost_ret (v := .tuple #[.agg #[.slice none 0 0], .int .i64 4]) (by simp [results, go_sem, x0]) rfl ⟨.inl ⟨.inr HN.out, rfl⟩, HB4.out.setCell (p := ⟨_, _, _⟩) (Nat.le_refl _) _⟩
  | some z =>
    obtain ⟨x, r⟩ := z
    rw [hp] at hout
    obtain ⟨q, rfl, h4, hq⟩ := hout
    have HE := hide (atEnd_any bt ba bf s q w4 h4)
    have hde := drop_end h4.le
    rw [hq] at hde
    obtain ⟨y0, y1, y2, hne⟩ := HX4.out
    unfold rF1 at y0
    unfold rF2 at y1
    unfold rF3 at y2
    clear h4 hq
    by_cases hend : q = s.size
    · have hr : r = [] := hde.2 hend
      subst hr
      rw [show decide (q = s.size) = true by simp [hend]] at HE
      obtain ⟨e, hG, hx, hsp⟩ := both_some hp
      have HSP := hide hsp
      have hlen : s.data.toList.length = s.size := by simp
      have hcn := (full_cnt hG).1
      have HSZ := hide (sizedLevel9_any e.full w4 (full_ok hG).1 (by omega))
      rw [← It.val_pay, full_it, ← hx, full_sized] at HSZ
      obtain ⟨Tx, vx, hvx⟩ := x.val_iface
      rw [hvx] at HSZ
      rw [hvx]
      have HFIN : Hid (∀ (e' : Ending) (w' : World), LvOut w.heap.size w' e' (sizedR e.tr) 3 → ParseOut w.heap.size w' e' s) := fun e' w' h => .inr ⟨hsz, e.tr, HSP.out, h⟩
      generalize sizedR e.tr = rr at *
      clear hp hde hend hvx hsp hG hcn hlen hx HSP
      go_wp2_with fail
      refine HE.out.mono ?_
      rintro e w5 ⟨rfl, hw⟩
      have hw := hw.symm
      subst hw
      go_wp2_with fail
      refine HSZ.out.mono ?_
      rintro e w6 ⟨hout, hb6⟩
      have x0 := keep_cell hb6 x0
      have xf : w6.frozen? ⟨w.heap.size, 0, none⟩ = false := (hb6.frozen (p := ⟨w.heap.size, 0, none⟩) (by show w.heap.size < _; omega)).trans xf
      have HXB6 := hide ((hb6.block w.heap.size (by omega)).trans HXB4.out)
      have HB6 := hide (HB4.out.trans (hb6.mono (by omega)))
      clear hb6 y0 y1 y2 HSZ HE
      cases rr with
      | none =>
        have hout : e = .returned (.tuple #[.agg #[.slice none 0 0], .int .i64 3]) := hout
        subst hout
        go_wp2_with fail
        refine bodyPost_ret (v := .tuple #[.agg #[.slice none 0 0], .int .i64 3]) (by simp [results, go_sem, x0]) rfl ⟨HFIN.out _ _ rfl, HB6.out.setCell (p := ⟨_, _, _⟩) (Nat.le_refl _) _⟩
      | some tt =>
        obtain ⟨g, cap, rfl, hnd⟩ := hout
        have HND := hide ((hnd.mono (show w.heap.size ≤ _ by omega)).set (l := w.heap.size) (o := 0) (by decide) (by decide) HXB6.out (.slice (some ⟨g, 0, none⟩) tt.cnt cap))
        clear hnd
        go_wp2_with fail
        refine bodyPost_ret (v := .tuple #[.agg #[.slice (some ⟨g, 0, none⟩) tt.cnt cap], .int .i64 0]) (by simp [results, go_sem, x0]) rfl ⟨HFIN.out _ _ ⟨g, cap, rfl, HND.out⟩, HB6.out.setCell (p := ⟨_, _, _⟩) (Nat.le_refl _) _⟩
    · have hr : r ≠ [] := fun h => hend (hde.1 h)
      rw [show decide (q = s.size) = false by simp [hend]] at HE
      have HN := hide (both_none (s := s.data.toList) (fun x => by rw [hp]; intro h; simp only [Option.some.injEq, Prod.mk.injEq] at h; exact hr h.2))
      obtain ⟨Tx, vx, hvx⟩ := x.val_iface
      rw [hvx]
      clear hp hde hend hr hvx
      go_wp2_with fail
      refine HE.out.mono ?_
      rintro e w5 ⟨rfl, hw⟩
      have hw := hw.symm
      subst hw
      go_wp2_with fail
      refine bodyPost_ret (v := .tuple #[.agg #[.slice none 0 0], .int .i64 4]) (by simp [results, go_sem, x0]) rfl ⟨.inl ⟨.inr HN.out, rfl⟩, HB4.out.setCell (p := ⟨_, _, _⟩) (Nat.le_refl _) _⟩
end Go.Proofs.Ytnifepmaijfllaa

/- FnExactParseLevel walked: it answers true. -/
namespace Go.Proofs.Ytnifepmaijfllaa
open Go.ChangeShapes Go.WideShapes Go.ChangeAt Go.RowKit

def prs (s : ByteArray) : List Nd := if 3000 < s.size then [] else match spF s.data.toList with | none => [] | some t => rsOf (sizedR t)
def prc (s : ByteArray) : Int := if 3000 < s.size then 4 else match spF s.data.toList with | none => 4 | some t => cOf 3 (sizedR t)
theorem ParseOut.gen {B : Nat} {w' : World} {e : Ending} {s : ByteArray} (h : ParseOut B w' e s) : ∃ vs, e = .returned (.tuple #[.agg #[vs], .int .i64 (prc s)]) ∧ NdW B w' vs (prs s) := by
  unfold prs prc
  rcases h with ⟨h1, h2⟩ | ⟨h1, t, h2, h3⟩
  · have := h2.gen
    rcases h1 with h1 | h1
    · rw [if_pos h1, if_pos h1]; exact this
    · by_cases hb : 3000 < s.size
      · rw [if_pos hb, if_pos hb]; exact this
      · rw [if_neg hb, if_neg hb, h1]; exact this
  · have := h3.gen
    rw [if_neg (by omega), if_neg (by omega), h2]; exact this
theorem prs_small (s : ByteArray) : SmallR (prs s) := by
  unfold prs
  split
  · exact none_small
  · split
    · exact none_small
    · exact sized_small _

/-- What stays known to the end: the specification's answer, the program's, and where they are kept. -/
structure PxS (w cur : World) (L0 b3 s4 s5 : Nat) (v3 v5 : Value) (rs gs : List Nd) : Prop where
  bel : Below w.heap.size w cur
  big : s5 < cur.heap.size
  r3 : NdR L0 b3 cur v3 rs
  g0 : NdR s4 s5 cur v5 gs
  c3 : cur.cell? ⟨b3, 0, none⟩ = some v3
  c5 : cur.cell? ⟨s5, 0, none⟩ = some v5
theorem PxS.keep {w cur cur' : World} {L0 b3 s4 s5 : Nat} {v3 v5 : Value} {rs gs : List Nd} (h : PxS w cur L0 b3 s4 s5 v3 v5 rs gs) (ho : b3 ≤ s5) (hb : Below cur.heap.size cur cur') : PxS w cur' L0 b3 s4 s5 v3 v5 rs gs :=
  ⟨bel_trans h.bel hb, by have := hb.size; have := h.big; omega, h.r3.keep hb (by have := h.big; omega), h.g0.keep hb (by have := h.big; omega), keep_cell hb h.c3, keep_cell hb h.c5⟩
theorem PxS.mark {w cur cur' : World} {L0 b3 s4 s5 : Nat} {v3 v5 : Value} {rs gs gs' : List Nd} (h : PxS w cur L0 b3 s4 s5 v3 v5 rs gs) (hw : w.heap.size ≤ s4) (h1 : b3 < s4) (hg : NdR s4 s5 cur' v5 gs') (hc : Chg s4 s5 cur cur') : PxS w cur' L0 b3 s4 s5 v3 v5 rs gs' :=
  have hs := h.big
  ⟨h.bel.trans (hc.1.mono (by omega)), by have := hc.1.size; omega, h.r3.out hc (.inl (by omega)) (by have := lt_cell h.c3; omega), hg, hc.cell (.inl (by omega)) h.c3, hc.cell (.inr (Nat.le_refl _)) h.c5⟩

set_option maxRecDepth 100000 in
set_option maxHeartbeats 8000000 in
theorem px_walk (s : ByteArray) (w : World) (hs : s.size ≤ maxLen) :
    Calls Try.prog 12 #[.string s] w fun e w' => e = .returned (.bool true) ∧ Below w.heap.size w w' := by
  have HS := hide hs
  have hs2 := hs
  unfold maxLen at hs2
  by_cases hbig : (1048576 : Int) < s.size
  · clear hs
    go_enter Try.func12, Try.ntmps12
    go_wp2_with fail
    go_ret
    exact ⟨rfl, Below.refl _ _⟩
  have HSP := hide ((specParse_any s w hs).mono (R' := fun e w' => (∃ vs, e = .returned (.tuple #[.agg #[vs], .int .i64 (prc s)]) ∧ NdW w.heap.size w' vs (prs s)) ∧ Below w.heap.size w w') fun e w' ⟨h1, h2⟩ => ⟨h1.gen, h2⟩)
  have HI : Hid (∀ w2 : World, Calls Try.prog 44 #[.string s] w2 fun e w' => (∃ vs, e = .returned (.tuple #[.agg #[vs], .int .i64 (prc s)]) ∧ NdW w2.heap.size w' vs (prs s)) ∧ Below w2.heap.size w2 w') := fun w2 => (implParse_any s w2 HS.out).mono fun e w' ⟨h1, h2⟩ => ⟨h1.gen, h2⟩
  have HSM := hide (prs_small s)
  generalize prs s = rs at *
  generalize prc s = c at *
  have hlt : (s.size : Int) ≤ 1048576 := by omega
  clear hs hbig
  go_enter Try.func12, Try.ntmps12
  go_wp2_with fail
  refine HSP.out.mono ?_
  rintro e w3 ⟨⟨v3, rfl, hnd3⟩, hb3⟩
  obtain ⟨va3, vc3, hvs⟩ := row_form (NdW.toR hnd3).choose_spec.1
  subst hvs
  have hR3 := hnd3.toR
  obtain ⟨L0, hL0⟩ : ∃ L0, L0 = w.heap.size := ⟨_, rfl⟩
  obtain ⟨b3, hb3e⟩ : ∃ b3, b3 = w3.heap.size := ⟨_, rfl⟩
  rw [← hL0, ← hb3e] at hR3
  have hz3 := hb3.size
  obtain ⟨W4, hW4⟩ : ∃ W4, W4 = w3.alloc (.cells #[.slice va3 rs.length vc3] 30) := ⟨_, rfl⟩
  have hb4 : Below w3.heap.size w3 W4 := by rw [hW4]; exact bel_alloc (Below.refl _ _) _
  obtain ⟨s4, hs4⟩ : ∃ s4, s4 = W4.heap.size := ⟨_, rfl⟩
  have hs4' : W4.heap.size = w3.heap.size + 1 := by rw [hW4]; simp
  have HR4 := hide (hR3.keep hb4 (by omega))
  have y3 : W4.cell? ⟨b3, 0, none⟩ = some (.slice va3 rs.length vc3) := by rw [hW4, hb3e]; simp [go_sem]
  have HB4 := hide (bel_trans hb3 hb4)
  have o1 : w.heap.size ≤ b3 := by omega
  have o2 : b3 < s4 := by omega
  clear hnd3 hR3 hb4 hb3 HSP
  go_upto_region 4 with fail
  rw [← hW4]
  rw [← hb3e]
  clear hW4 hz3 hb3e
  go_wp2_with fail
  refine (HI.out W4).mono ?_
  rintro e w5 ⟨⟨v5, rfl, hnd5⟩, hb5⟩
  obtain ⟨va5, vc5, hvs⟩ := row_form (NdW.toR hnd5).choose_spec.1
  subst hvs
  obtain ⟨s5, hs5⟩ : ∃ s5, s5 = w5.heap.size := ⟨_, rfl⟩
  have hz5 := hb5.size
  have hR5 := hnd5.toR
  rw [← hs4, ← hs5] at hR5
  obtain ⟨W6, hW6⟩ : ∃ W6, W6 = w5.alloc (.cells #[.slice va5 rs.length vc5] 30) := ⟨_, rfl⟩
  have hb6 : Below w5.heap.size w5 W6 := by rw [hW6]; exact bel_alloc (Below.refl _ _) _
  have hz6 : W6.heap.size = w5.heap.size + 1 := by rw [hW6]; simp
  have hbb := bel_trans hb5 hb6
  have o3 : s4 ≤ s5 := by omega
  have HE : Hid (PxS w W6 L0 b3 s4 s5 (.slice va3 rs.length vc3) (.slice va5 rs.length vc5) rs rs) := ⟨bel_trans HB4.out hbb, by omega, HR4.out.keep hbb (by omega), hR5.keep hb6 (by omega), keep_cell hbb y3, by rw [hW6, hs5]; simp [go_sem]⟩
  clear hb5 hb6 hbb hR5 hnd5 y3 HR4 HB4 hz5
  go_upto_region 5 with fail
  rw [← hW6]
  rw [← hs5]
  clear hW6 hs5 hs4 hz6 hs4' hL0
  have c3 := HE.out.c3
  have c5 := HE.out.c5
  have big := HE.out.big
  have hcc : (c != c) = false := by simp
  go_wp2_with fail
  refine (eqLevel_any _ _ rs W6 HE.out.g0.nodes HE.out.r3.nodes).mono ?_
  rintro e w7 ⟨rfl, hb7⟩
  have HE := hide (HE.out.keep (by omega) hb7)
  clear c3 c5 big
  have c3 := HE.out.c3
  have c5 := HE.out.c5
  have big := HE.out.big
  clear hb7
  have HM := hide (markLevel_any s4 s5 _ rs 1 w7 HE.out.g0 (by omega) (by omega) HSM.out.2.2 (by omega) (by have := HSM.out.1; omega) (by have := HSM.out.2.1; omega))
  rw [show ((1 : Nat) : Int) = 1 from rfl] at HM
  obtain ⟨K4, hK4⟩ : ∃ K4, K4 = 1 + costN rs := ⟨_, rfl⟩
  have HK4 := hide hK4
  rw [← hK4] at HM
  clear hK4
  go_wp2_with fail
  refine HM.out.mono ?_
  rintro e w8 ⟨rfl, hn8, hc8⟩
  have hz8 := hc8.1.size
  have HE := hide (HE.out.mark (by omega) (by omega) hn8 hc8)
  clear hn8 hc8 HM
  clear c3 c5 big
  have c3 := HE.out.c3
  have c5 := HE.out.c5
  have big := HE.out.big
  have HH := hide (show ∀ W, NodesAt W (.slice va5 rs.length vc5) (markN 1 rs) → Calls Try.prog 46 #[.agg #[.slice va5 rs.length vc5], .int .i64 1] W fun e w' => e = .returned (.int .i64 (K4 : Int)) ∧ Below W.heap.size W w' from fun W hW => by
    have := heldLevel_any _ rs 1 W hW HSM.out.2.2 (by omega) (by have := HSM.out.1; omega)
    rw [← HK4.out] at this
    exact this)
  have hKK : ((K4 : Int) != (K4 : Int)) = false := by simp
  go_wp2_with fail
  refine (HH.out _ HE.out.g0.nodes).mono ?_
  rintro e w9 ⟨rfl, hb9⟩
  have HE := hide (HE.out.keep (by omega) hb9)
  clear c3 c5 big
  have c3 := HE.out.c3
  have c5 := HE.out.c5
  have big := HE.out.big
  clear hb9
  go_wp2_with fail
  refine (HI.out w9).mono ?_
  rintro e w10 ⟨⟨v10, rfl, hnd10⟩, hb10⟩
  obtain ⟨va10, vc10, hvs⟩ := row_form (NdW.toR hnd10).choose_spec.1
  subst hvs
  have h10 := (NdW.toR hnd10).nodes
  clear hnd10
  have HE := hide (HE.out.keep (by omega) hb10)
  clear c3 c5 big
  have c3 := HE.out.c3
  have c5 := HE.out.c5
  have big := HE.out.big
  clear hb10
  obtain ⟨W11, hW11⟩ : ∃ W11, W11 = w10.alloc (.cells #[.slice va10 rs.length vc10] 30) := ⟨_, rfl⟩
  have hb11 : Below w10.heap.size w10 W11 := by rw [hW11]; exact bel_alloc (Below.refl _ _) _
  have c18 : W11.cell? ⟨w10.heap.size, 0, none⟩ = some (.slice va10 rs.length vc10) := by rw [hW11]; simp [go_sem]
  have h11 := h10.keep hb11
  clear h10
  have HE := hide (HE.out.keep (by omega) hb11)
  clear c3 c5 big
  have c3 := HE.out.c3
  have c5 := HE.out.c5
  have big := HE.out.big
  clear hb11
  go_upto_region 16 with fail
  rw [← hW11]
  clear hW11
  go_wp2_with fail
  refine (eqLevel_any _ _ rs _ h11 HE.out.r3.nodes).mono ?_
  rintro e w12 ⟨rfl, hb12⟩
  clear h11 c18
  have HE := hide (HE.out.keep (by omega) hb12)
  clear c3 c5 big
  have c3 := HE.out.c3
  have c5 := HE.out.c5
  have big := HE.out.big
  clear hb12
  go_wp2_with fail
  refine (HH.out _ HE.out.g0.nodes).mono ?_
  rintro e w13 ⟨rfl, hb13⟩
  have HE := hide (HE.out.keep (by omega) hb13)
  clear c3 c5 big
  have c3 := HE.out.c3
  have c5 := HE.out.c5
  have big := HE.out.big
  clear hb13
  go_wp2_with fail
  go_ret
  exact ⟨rfl, HE.out.bel⟩
end Go.Proofs.Ytnifepmaijfllaa
