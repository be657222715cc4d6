/- What the specification's l1Put answers: the tree with trees put for parameters, in new memory where it differs. For FnExactLevelPut. -/
import Derived.Test.YtnifepmaijfllaaDraw
import Derived.Test.YtnifepmaijfllaaSpecL
import Derived.Test.YtnifepmaijfllaaWeigh
namespace Go.Proofs.Ytnifepmaijfllaa
open Go.ChangeShapes Go.WideShapes Go.ChangeAt Go.RowKit

/-- A row of pointers to trees. -/
def PtrsAt (w : World) (v : Value) (ps : List Nat) : Prop :=
  ∃ a cap, v = .slice a ps.length cap ∧ ps.length ≤ cap ∧ cap ≤ maxLen ∧ (0 < ps.length → ∃ b off, a = some ⟨b, off, none⟩ ∧ ∀ j (h : j < ps.length), w.cell? ⟨b, off + j, none⟩ = some (ptrV ps[j]))
theorem PtrsAt.keep {w w' : World} {v : Value} {ps : List Nat} (h : PtrsAt w v ps) (hb : Below w.heap.size w w') : PtrsAt w' v ps := by
  obtain ⟨a, cap, hv, h1, h2, h3⟩ := h
  refine ⟨a, cap, hv, h1, h2, fun h0 => ?_⟩
  obtain ⟨b, off, ha, hc⟩ := h3 h0
  exact ⟨b, off, ha, fun j h => keep_cell hb (hc j h)⟩
/-- Names and the trees that are put for them. -/
structure PutV (w : World) (vn vl : Value) (names : List ByteArray) (ps : List Nat) (ts : List Tr) : Prop where
  n : StrsAt w vn names
  l : PtrsAt w vl ps
  len : names.length = ps.length
  cnt : ps.length = ts.length
  tr : ∀ j (h : j < ps.length) (h2 : j < ts.length), TreeAt w.heap.size w ps[j] ts[j]
theorem PutV.keep {w w' : World} {vn vl : Value} {names : List ByteArray} {ps : List Nat} {ts : List Tr} (h : PutV w vn vl names ps ts) (hb : Below w.heap.size w w') : PutV w' vn vl names ps ts :=
  ⟨h.n.keep hb, h.l.keep hb, h.len, h.cnt, fun j h1 h2 => ((h.tr j h1 h2).keep hb).mono hb.size⟩
def Tr.put (names : List ByteArray) (ts : List Tr) : Tr → Tr
  | .leaf k s => if k = 5 ∧ 0 ≤ atS names s then ts.getD (atS names s).toNat (.leaf k s) else .leaf k s
  | .one k _ a => .one k ⟨#[]⟩ (a.put names ts)
  | .two k _ a b => .two k ⟨#[]⟩ (a.put names ts) (b.put names ts)
def PutIH (t : Tr) : Prop := ∀ (g : Nat) (w : World) (vn vl : Value) (names : List ByteArray) (ps : List Nat) (ts : List Tr), TreeAt w.heap.size w g t → t.ok → PutV w vn vl names ps ts →
  Calls Try.prog 92 #[.pointer (some ⟨g, 0, none⟩), vn, vl] w fun e w' => ∃ g', e = .returned (.pointer (some ⟨g', 0, none⟩)) ∧ TreeAt w'.heap.size w' g' (t.put names ts) ∧ Below w.heap.size w w'

set_option maxHeartbeats 1000000 in
theorem put_leaf (k : Int) (s : ByteArray) : PutIH (.leaf k s) := by
  intro g w vn vl names ps ts ht hok hV
  have HT := hide ht
  obtain ⟨hg, hh⟩ := ht
  obtain ⟨c0, c1, c2, c3⟩ := node_cells hh
  have HN := hide hV.n
  have HV := hide hV
  obtain ⟨an, cn, rfl, _, _, _⟩ := hV.n
  obtain ⟨al, cl, rfl, hl1, hl2, hlc⟩ := hV.l
  have hlen := hV.len
  have hcnt := hV.cnt
  rcases hok.1 with rfl | rfl
  · have HP : Hid ((Tr.leaf 1 s).put names ts = .leaf 1 s) := by show _ = _; simp [Tr.put]
    clear hh hlc hV hlen hcnt
    go_enter Try.func92, Try.ntmps92
    go_wp2_with (go_at_call 65; refine (none_none _).mono ?_; rintro e w' ⟨rfl, rfl⟩)
    go_ret
    exact ⟨g, rfl, by rw [HP.out]; exact HT.out, Below.refl _ _⟩
  · by_cases h0 : atS names s < 0
    · have HP : Hid ((Tr.leaf 5 s).put names ts = .leaf 5 s) := by show _ = _; simp only [Tr.put]; rw [if_neg (by omega)]
      have d0 : decide (atS names s < 0) = true := by simp [h0]
      clear hh hlc hV hlen hcnt
      go_enter Try.func92, Try.ntmps92
      go_wp2_with (go_at_call 122; refine (l1At_any _ names s _ HN.out).mono ?_; rintro e w' ⟨rfl, rfl⟩)
      go_ret
      exact ⟨g, rfl, by rw [HP.out]; exact HT.out, Below.refl _ _⟩
    · obtain ⟨i, hi⟩ : ∃ i : Nat, atS names s = i := ⟨(atS names s).toNat, by omega⟩
      have hm := atS_mem names s
      rw [decide_eq_true (show 0 ≤ atS names s by omega)] at hm
      have hil := (atS_lt names s hm.symm).2
      have hip : i < ps.length := by omega
      have hit : i < ts.length := by omega
      obtain ⟨b, off, rfl, hcell⟩ := hlc (by omega)
      have hc := hcell i hip
      have HI := hide hi
      have HP : Hid ((Tr.leaf 5 s).put names ts = ts[i]) := by show _ = _; simp only [Tr.put]; rw [if_pos ⟨trivial, by omega⟩, hi]; simp [hit]
      have HTR := hide (HV.out.tr i hip hit)
      have hlt : (i : Int) < (ps.length : Int) := by omega
      have d0 : decide ((i : Int) < 0) = false := by simp
      unfold maxLen at hl2
      generalize ps[i] = pi at *
      unfold ptrV at hc
      clear hh hcell hV hlen hcnt hi h0 hm hil hlc
      go_enter Try.func92, Try.ntmps92
      go_wp2_with (go_at_call 122; refine (l1At_any _ names s _ HN.out).mono ?_; rintro e w' ⟨rfl, rfl⟩; rw [HI.out])
      go_ret
      exact ⟨pi, rfl, by rw [HP.out]; exact HTR.out, Below.refl _ _⟩

set_option maxHeartbeats 1000000 in
theorem put_one (k : Int) (s : ByteArray) (a : Tr) (iha : Hid (PutIH a)) : PutIH (.one k s a) := by
  intro g w vn vl names ps ts ht hok hV
  obtain ⟨hg, pa, hh, hta⟩ := ht
  obtain ⟨c0, c1, c2, c3⟩ := node_cells hh
  obtain ⟨rfl, _, hoa⟩ := hok
  have HCA := hide (iha.out pa w vn vl names ps ts hta hoa hV)
  obtain ⟨an, cn, rfl, _, _, _⟩ := hV.n
  obtain ⟨al, cl, rfl, _, _, _⟩ := hV.l
  clear hh hta hV iha hoa
  go_enter Try.func92, Try.ntmps92
  go_wp2_with (first | (go_at_call 65; refine (none_some _ _).mono ?_; rintro e w' ⟨rfl, hw⟩; have hw := hw.symm; subst hw) | fail)
  refine HCA.out.mono ?_
  rintro e w1 ⟨g1, rfl, ht1, hb1⟩
  have c0 := keep_cell hb1 c0
  have c3 := keep_cell hb1 c3
  have h4 := ht1.cell4
  have hsz := (a.put names ts).sz_le
  have HT1 := hide ht1
  have HB1 := hide hb1
  clear ht1 hb1
  go_wp2_with (first | (go_at_call 65; refine (none_none _).mono ?_; rintro e w' ⟨rfl, hw⟩; have hw := hw.symm; subst hw) | (go_at_call 117; refine (make_one 2 ⟨#[]⟩ g1 (a.put names ts).sz _ h4 hsz).mono ?_; rintro e w2 ⟨rfl, n, rfl⟩) | fail)
  go_ret
  exact ⟨_, rfl, tree_one HT1.out 2 ⟨#[]⟩ n, HB1.out.trans ((bel_new w1 _ n).mono HB1.out.size)⟩

set_option maxHeartbeats 1000000 in
theorem put_two (k : Int) (s : ByteArray) (a b : Tr) (iha : Hid (PutIH a)) (ihb : Hid (PutIH b)) : PutIH (.two k s a b) := by
  intro g w vn vl names ps ts ht hok hV
  obtain ⟨hg, pa, pb, hh, hta, htb⟩ := ht
  obtain ⟨c0, c1, c2, c3⟩ := node_cells hh
  obtain ⟨hk, _, hoa, hob⟩ := hok
  have HCA := hide (iha.out pa w vn vl names ps ts hta hoa hV)
  have HCB := hide (show ∀ w1, Below w.heap.size w w1 → _ from fun w1 hb => ihb.out pb w1 vn vl names ps ts ((htb.keep hb).mono hb.size) hob (hV.keep hb))
  obtain ⟨an, cn, rfl, _, _, _⟩ := hV.n
  obtain ⟨al, cl, rfl, _, _, _⟩ := hV.l
  have e5 : (k == 5) = false := by rw [beq_eq_false_iff_ne]; omega
  have e5' : ¬ k = 5 := by omega
  clear hh hta htb hV iha ihb hoa hob hk
  go_enter Try.func92, Try.ntmps92
  go_wp2_with (first | (go_at_call 65; refine (none_some _ _).mono ?_; rintro e w' ⟨rfl, hw⟩; have hw := hw.symm; subst hw) | fail)
  refine HCA.out.mono ?_
  rintro e w1 ⟨g1, rfl, ht1, hb1⟩
  have c0 := keep_cell hb1 c0
  have c3 := keep_cell hb1 c3
  have HT1 := hide ht1
  have HB1 := hide hb1
  clear ht1 hb1
  go_wp2_with (first | (go_at_call 65; refine (none_some _ _).mono ?_; rintro e w' ⟨rfl, hw⟩; have hw := hw.symm; subst hw) | fail)
  refine (HCB.out w1 HB1.out).mono ?_
  rintro e w2 ⟨g2, rfl, ht2, hb2⟩
  have c0 := keep_cell hb2 c0
  have HT1 := hide ((HT1.out.keep hb2).mono hb2.size)
  have HT2 := hide ht2
  have HB2 := hide (HB1.out.trans (hb2.mono HB1.out.size))
  have h4 := HT1.out.cell4
  have h4b := ht2.cell4
  have hsz := (a.put names ts).sz_le
  have hszb := (b.put names ts).sz_le
  clear ht2 hb2
  go_wp2_with (first | (go_at_call 117; refine (make_two k ⟨#[]⟩ g1 (a.put names ts).sz g2 (b.put names ts).sz _ h4 hsz h4b hszb).mono ?_; rintro e w3 ⟨rfl, n, rfl⟩) | fail)
  go_ret
  exact ⟨_, rfl, tree_two HT1.out HT2.out k ⟨#[]⟩ n, HB2.out.trans ((bel_new w2 _ n).mono HB2.out.size)⟩
theorem l1Put_any : ∀ t : Tr, PutIH t
  | .leaf k s => put_leaf k s
  | .one k s a => put_one k s a (l1Put_any a)
  | .two k s a b => put_two k s a b (l1Put_any a) (l1Put_any b)
end Go.Proofs.Ytnifepmaijfllaa
