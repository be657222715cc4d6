/- Plain facts: the program's trees of levels as plain data, and trees of the specification's in new memory. -/
import Derived.Test.YtbgibiongnhjoaaGreatSpec
import Derived.Test.YtbgibiongnhjoaaGreatSpecL
import Derived.Test.YtbgibiongnhjoaaGreatTree
import Derived.Test.YtbgibiongnhjoaaGreatFlat
import Derived.Deep.QuietTactic
import Derived.BigQuiet
namespace Go.Proofs.YtbgibiongnhjoaaGreat
open Go.ChangeShapes Go.WideShapes Go.ChangeAt Go.RowKit


theorem atS_lt (l : List ByteArray) (s : ByteArray) (h : hasB l s = true) : 0 ≤ atS l s ∧ atS l s < l.length := by
  have h1 := atS_mem l s
  rw [h] at h1
  have h0 : 0 ≤ atS l s := by simpa using h1
  refine ⟨h0, ?_⟩
  unfold atS at h0 ⊢
  split
  · rename_i i hi
    rw [List.findIdx?_eq_some_iff_getElem] at hi
    obtain ⟨hl, _⟩ := hi
    omega
  · rename_i hi; rw [hi] at h0; simp at h0

/-- What a valid level gives: its tree. -/
def OkTree (ns : List Nd) (t : Tr) : Prop := ns = t.flat 0 ∧ t.ok ∧ t.names [] = namesOf ns ∧ t.cnt = ns.length ∧ ns.length ≤ 64 ∧ (namesOf ns).length ≤ 6
inductive It where
  | zero
  | succ (n : Nat) (x : It)
  | max (a b : It)
  | imax (a b : It)
  | param (s : ByteArray)

/-- One more around. -/
def sAround : It → It
  | .succ n x => .succ (n + 1) x
  | x => .succ 1 x
def Tr.it : Tr → It
  | .leaf k s => if k = 1 then .zero else .param s
  | .one _ _ a => sAround a.it
  | .two k _ a b => if k = 3 then .max a.it b.it else .imax a.it b.it
/-- How many nodes it stands for. -/
def It.cnt : It → Nat
  | .zero => 1
  | .succ n x => n + x.cnt
  | .max a b => a.cnt + b.cnt + 1
  | .imax a b => a.cnt + b.cnt + 1
  | .param _ => 1
theorem cnt_around (x : It) : (sAround x).cnt = x.cnt + 1 := by
  cases x <;> simp [sAround, It.cnt] <;> omega
theorem it_cnt : ∀ t : Tr, t.ok → t.it.cnt = t.cnt
  | .leaf k s, _ => by by_cases h : k = 1 <;> simp [Tr.it, Tr.cnt, It.cnt, h]
  | .one k s a, h => by simp [Tr.it, Tr.cnt, cnt_around, it_cnt a h.2.2]; omega
  | .two k s a b, h => by
    have ha := it_cnt a h.2.2.1
    have hb := it_cnt b h.2.2.2
    rcases h.1 with rfl | rfl
    · simp [Tr.it, Tr.cnt, It.cnt, ha, hb]; omega
    · simp [Tr.it, Tr.cnt, It.cnt, ha, hb]; omega
/-- The trees of all nodes, in the order of the nodes. -/
def Tr.its : Tr → List It
  | .leaf k s => [(Tr.leaf k s).it]
  | .one k s a => a.its ++ [(Tr.one k s a).it]
  | .two k s a b => a.its ++ b.its ++ [(Tr.two k s a b).it]
theorem its_len : ∀ t : Tr, t.its.length = t.cnt
  | .leaf _ _ => rfl
  | .one _ _ a => by simp [Tr.its, Tr.cnt, its_len a]; omega
  | .two _ _ a b => by simp [Tr.its, Tr.cnt, its_len a, its_len b]; omega
theorem its_last : ∀ t : Tr, t.its[t.cnt - 1]? = some t.it
  | .leaf _ _ => rfl
  | .one k s a => by
    have := its_len a
    simp only [Tr.its, Tr.cnt]
    rw [List.getElem?_append_right (by omega)]
    rw [show 1 + a.cnt - 1 - a.its.length = 0 from by omega]; rfl
  | .two k s a b => by
    have := its_len a
    have := its_len b
    simp only [Tr.its, Tr.cnt]
    rw [List.getElem?_append_right (by simp; omega)]
    rw [show 1 + a.cnt + b.cnt - 1 - (a.its ++ b.its).length = 0 from by simp; omega]; rfl

/-- What a node says of its tree, the trees of its kids at their places (the first node standing at place o). -/
def NodeIt (o : Nat) (nd : Nd) (i : Nat) (xs : List It) (x : It) : Prop :=
  (nd.k = 1 ∧ x = .zero) ∨ (nd.k = 5 ∧ x = .param nd.s) ∨
  (nd.k = 2 ∧ ∃ q a, nd.kids = [((o + q : Nat) : Int)] ∧ q < i ∧ xs[q]? = some a ∧ x = sAround a) ∨
  (nd.k = 3 ∧ ∃ q r a b, nd.kids = [((o + q : Nat) : Int), ((o + r : Nat) : Int)] ∧ q < i ∧ r < i ∧ xs[q]? = some a ∧ xs[r]? = some b ∧ x = .max a b) ∨
  (nd.k = 4 ∧ ∃ q r a b, nd.kids = [((o + q : Nat) : Int), ((o + r : Nat) : Int)] ∧ q < i ∧ r < i ∧ xs[q]? = some a ∧ xs[r]? = some b ∧ x = .imax a b)
theorem get_left {α : Type} {xs : List α} {q : Nat} {a : α} (ys : List α) (h : xs[q]? = some a) : (xs ++ ys)[q]? = some a := by
  rw [List.getElem?_append_left (List.getElem?_eq_some_iff.1 h).1]; exact h
theorem get_right {α : Type} {xs : List α} {q : Nat} {a : α} (ys : List α) (h : xs[q]? = some a) : (ys ++ xs)[ys.length + q]? = some a := by
  rw [List.getElem?_append_right (by omega), show ys.length + q - ys.length = q from by omega]; exact h
theorem NodeIt.left {o i : Nat} {nd : Nd} {xs : List It} {x : It} (h : NodeIt o nd i xs x) (ys : List It) : NodeIt o nd i (xs ++ ys) x := by
  rcases h with h | h | ⟨h, q, a, h1, h2, h3, h4⟩ | ⟨h, q, r, a, b, h1, h2, h3, h4, h5, h6⟩ | ⟨h, q, r, a, b, h1, h2, h3, h4, h5, h6⟩
  · exact .inl h
  · exact .inr (.inl h)
  · exact .inr (.inr (.inl ⟨h, q, a, h1, h2, get_left _ h3, h4⟩))
  · exact .inr (.inr (.inr (.inl ⟨h, q, r, a, b, h1, h2, h3, get_left _ h4, get_left _ h5, h6⟩)))
  · exact .inr (.inr (.inr (.inr ⟨h, q, r, a, b, h1, h2, h3, get_left _ h4, get_left _ h5, h6⟩)))
theorem NodeIt.right {o i : Nat} {nd : Nd} {xs : List It} {x : It} (ys : List It) (h : NodeIt (o + ys.length) nd i xs x) : NodeIt o nd (ys.length + i) (ys ++ xs) x := by
  rcases h with h | h | ⟨h, q, a, h1, h2, h3, h4⟩ | ⟨h, q, r, a, b, h1, h2, h3, h4, h5, h6⟩ | ⟨h, q, r, a, b, h1, h2, h3, h4, h5, h6⟩
  · exact .inl h
  · exact .inr (.inl h)
  · exact .inr (.inr (.inl ⟨h, ys.length + q, a, by rw [h1, Nat.add_assoc], by omega, get_right _ h3, h4⟩))
  · exact .inr (.inr (.inr (.inl ⟨h, ys.length + q, ys.length + r, a, b, by rw [h1, Nat.add_assoc, Nat.add_assoc], by omega, by omega, get_right _ h4, get_right _ h5, h6⟩)))
  · exact .inr (.inr (.inr (.inr ⟨h, ys.length + q, ys.length + r, a, b, by rw [h1, Nat.add_assoc, Nat.add_assoc], by omega, by omega, get_right _ h4, get_right _ h5, h6⟩)))
theorem snoc_cases {α : Type} {xs : List α} {z a : α} {i : Nat} (h : (xs ++ [z])[i]? = some a) : (xs[i]? = some a ∧ i < xs.length) ∨ (i = xs.length ∧ a = z) := by
  by_cases hl : i < xs.length
  · rw [List.getElem?_append_left hl] at h; exact .inl ⟨h, hl⟩
  · rw [List.getElem?_append_right (by omega)] at h
    by_cases e : i - xs.length = 0
    · rw [e] at h; simp at h; exact .inr ⟨by omega, h.symm⟩
    · rw [List.getElem?_eq_none (by simp; omega)] at h; cases h
theorem its_node : ∀ (t : Tr) (o : Nat), t.ok → ∀ i nd x, (t.flat o)[i]? = some nd → t.its[i]? = some x → NodeIt o nd i t.its x
  | .leaf k s, o, hok, i, nd, x, h1, h2 => by
    simp only [Tr.flat, Tr.its] at h1 h2 ⊢
    have hi : i = 0 := by
      by_cases e : i = 0
      · exact e
      · rw [List.getElem?_eq_none (by simp; omega)] at h1; cases h1
    subst hi
    simp at h1 h2
    subst h1 h2
    rcases hok.1 with rfl | rfl
    · exact .inl ⟨rfl, by simp [Tr.it]⟩
    · exact .inr (.inl ⟨rfl, by simp [Tr.it]⟩)
  | .one k s a, o, hok, i, nd, x, h1, h2 => by
    obtain ⟨rfl, _, ha⟩ := hok
    have l1 := Tr.flat_len a o
    have l2 := its_len a
    have lp := Tr.cnt_pos a
    simp only [Tr.flat, Tr.its] at h1 h2 ⊢
    rcases snoc_cases h1 with ⟨h1, hi⟩ | ⟨hi, rfl⟩
    · rw [List.getElem?_append_left (by omega)] at h2
      exact (its_node a o ha i nd x h1 h2).left _
    · rcases snoc_cases h2 with ⟨_, hj⟩ | ⟨_, rfl⟩
      · omega
      · exact .inr (.inr (.inl ⟨rfl, a.cnt - 1, a.it, by simp; omega, by omega, get_left _ (its_last a), rfl⟩))
  | .two k s a b, o, hok, i, nd, x, h1, h2 => by
    obtain ⟨hk, _, ha, hb⟩ := hok
    have l1 := Tr.flat_len a o
    have l2 := its_len a
    have l3 := Tr.flat_len b (o + a.cnt)
    have l4 := its_len b
    have lp := Tr.cnt_pos a
    have lq := Tr.cnt_pos b
    simp only [Tr.flat, Tr.its] at h1 h2 ⊢
    rcases snoc_cases h1 with ⟨h1, hi⟩ | ⟨hi, rfl⟩
    · rw [List.getElem?_append_left (by simp at hi ⊢; omega)] at h2
      by_cases hl : i < a.cnt
      · rw [List.getElem?_append_left (by omega)] at h1 h2
        exact ((its_node a o ha i nd x h1 h2).left _).left _
      · rw [List.getElem?_append_right (by omega)] at h1 h2
        rw [l1] at h1
        rw [l2] at h2
        have h := its_node b (o + a.cnt) hb (i - a.cnt) nd x h1 h2
        rw [← l2] at h
        have h' := h.right a.its
        rw [show a.its.length + (i - a.its.length) = i from by omega] at h'
        exact h'.left _
    · rcases snoc_cases h2 with ⟨_, hj⟩ | ⟨_, rfl⟩
      · simp at hi hj; omega
      · have g1 := get_left ([(Tr.two k s a b).it]) (get_left b.its (its_last a))
        have g2 := get_left ([(Tr.two k s a b).it]) (get_right a.its (its_last b))
        simp at hi
        rcases hk with rfl | rfl
        · exact .inr (.inr (.inr (.inl ⟨rfl, a.cnt - 1, a.its.length + (b.cnt - 1), a.it, b.it, by simp; omega, by omega, by omega, g1, g2, by simp [Tr.it]⟩)))
        · exact .inr (.inr (.inr (.inr ⟨rfl, a.cnt - 1, a.its.length + (b.cnt - 1), a.it, b.it, by simp; omega, by omega, by omega, g1, g2, by simp [Tr.it]⟩)))

theorem bel_new (w : World) (o : Obj) (n : Nat) : Below w.heap.size w ((w.alloc o).drewN n) := below_drewN (bel_alloc (Below.refl _ _) _) n
theorem tree_one {w : World} {pa : Nat} {a : Tr} (ha : TreeAt w.heap.size w pa a) (k : Int) (s : ByteArray) (n : Nat) : TreeAt ((w.alloc (nodeV k s (.pointer (some ⟨pa, 0, none⟩)) (.pointer none) (min 1000 (1 + a.sz)))).drewN n).heap.size ((w.alloc (nodeV k s (.pointer (some ⟨pa, 0, none⟩)) (.pointer none) (min 1000 (1 + a.sz)))).drewN n) w.heap.size (.one k s a) :=
  ⟨by show _ < (w.alloc _).heap.size; simp, pa, by show (w.alloc _).heap[w.heap.size]? = _; exact heap_alloc_new w _, (ha.keep (bel_new w _ n)).mono (bel_new w _ n).size⟩
theorem tree_two {w : World} {pa pb : Nat} {a b : Tr} (ha : TreeAt w.heap.size w pa a) (hb : TreeAt w.heap.size w pb b) (k : Int) (s : ByteArray) (n : Nat) : TreeAt ((w.alloc (nodeV k s (.pointer (some ⟨pa, 0, none⟩)) (.pointer (some ⟨pb, 0, none⟩)) (min 1000 (1 + a.sz + b.sz)))).drewN n).heap.size ((w.alloc (nodeV k s (.pointer (some ⟨pa, 0, none⟩)) (.pointer (some ⟨pb, 0, none⟩)) (min 1000 (1 + a.sz + b.sz)))).drewN n) w.heap.size (.two k s a b) :=
  ⟨by show _ < (w.alloc _).heap.size; simp, pa, pb, by show (w.alloc _).heap[w.heap.size]? = _; exact heap_alloc_new w _, (ha.keep (bel_new w _ n)).mono (bel_new w _ n).size, (hb.keep (bel_new w _ n)).mono (bel_new w _ n).size⟩
end Go.Proofs.YtbgibiongnhjoaaGreat

/- What the specification's l1Put answers: the tree with trees put for parameters, in new memory where it differs. -/
namespace Go.Proofs.YtbgibiongnhjoaaGreat
open Go.ChangeShapes Go.WideShapes Go.ChangeAt Go.RowKit


/-- A row of pointers to trees. -/
def PtrsAt (w : World) (v : Value) (ps : List Nat) : Prop :=
  ∃ a cap, v = .slice a ps.length cap ∧ ps.length ≤ cap ∧ cap ≤ maxLen ∧ (0 < ps.length → ∃ b off, a = some ⟨b, off, none⟩ ∧ ∀ j (h : j < ps.length), w.cell? ⟨b, off + j, none⟩ = some (ptrV ps[j]))
theorem PtrsAt.keep {w w' : World} {v : Value} {ps : List Nat} (h : PtrsAt w v ps) (hb : Below w.heap.size w w') : PtrsAt w' v ps := by
  obtain ⟨a, cap, hv, h1, h2, h3⟩ := h
  refine ⟨a, cap, hv, h1, h2, fun h0 => ?_⟩
  obtain ⟨b, off, ha, hc⟩ := h3 h0
  exact ⟨b, off, ha, fun j h => keep_cell hb (hc j h)⟩
/-- Names and the trees that are put for them. -/
structure PutV (w : World) (vn vl : Value) (names : List ByteArray) (ps : List Nat) (ts : List Tr) : Prop where
  n : StrsAt w vn names
  l : PtrsAt w vl ps
  len : names.length = ps.length
  cnt : ps.length = ts.length
  tr : ∀ j (h : j < ps.length) (h2 : j < ts.length), TreeAt w.heap.size w ps[j] ts[j]
theorem PutV.keep {w w' : World} {vn vl : Value} {names : List ByteArray} {ps : List Nat} {ts : List Tr} (h : PutV w vn vl names ps ts) (hb : Below w.heap.size w w') : PutV w' vn vl names ps ts :=
  ⟨h.n.keep hb, h.l.keep hb, h.len, h.cnt, fun j h1 h2 => ((h.tr j h1 h2).keep hb).mono hb.size⟩
def Tr.put (names : List ByteArray) (ts : List Tr) : Tr → Tr
  | .leaf k s => if k = 5 ∧ 0 ≤ atS names s then ts.getD (atS names s).toNat (.leaf k s) else .leaf k s
  | .one k _ a => .one k ⟨#[]⟩ (a.put names ts)
  | .two k _ a b => .two k ⟨#[]⟩ (a.put names ts) (b.put names ts)
def PutIH (t : Tr) : Prop := ∀ (g : Nat) (w : World) (vn vl : Value) (names : List ByteArray) (ps : List Nat) (ts : List Tr), TreeAt w.heap.size w g t → t.ok → PutV w vn vl names ps ts →
  Calls Tryz.prog 119 #[.pointer (some ⟨g, 0, none⟩), vn, vl] w fun e w' => ∃ g', e = .returned (.pointer (some ⟨g', 0, none⟩)) ∧ TreeAt w'.heap.size w' g' (t.put names ts) ∧ Below w.heap.size w w'

set_option maxHeartbeats 1000000 in
theorem put_leaf (k : Int) (s : ByteArray) : PutIH (.leaf k s) := by
  intro g w vn vl names ps ts ht hok hV
  have HT := hide ht
  obtain ⟨hg, hh⟩ := ht
  obtain ⟨c0, c1, c2, c3⟩ := node_cells hh
  have HN := hide hV.n
  have HV := hide hV
  obtain ⟨an, cn, rfl, _, _, _⟩ := hV.n
  obtain ⟨al, cl, rfl, hl1, hl2, hlc⟩ := hV.l
  have hlen := hV.len
  have hcnt := hV.cnt
  rcases hok.1 with rfl | rfl
  · have HP : Hid ((Tr.leaf 1 s).put names ts = .leaf 1 s) := by show _ = _; simp [Tr.put]
    clear hh hlc hV hlen hcnt
    go_enter Tryz.func119, Tryz.ntmps119
    go_wp2_with (go_at_call 118; refine (none_none _).mono ?_; rintro e w' ⟨rfl, rfl⟩)
    go_ret
    exact ⟨g, rfl, by rw [HP.out]; exact HT.out, Below.refl _ _⟩
  · by_cases h0 : atS names s < 0
    · have HP : Hid ((Tr.leaf 5 s).put names ts = .leaf 5 s) := by show _ = _; simp only [Tr.put]; rw [if_neg (by omega)]
      have d0 : decide (atS names s < 0) = true := by simp [h0]
      clear hh hlc hV hlen hcnt
      go_enter Tryz.func119, Tryz.ntmps119
      go_wp2_with (go_at_call 162; refine (l1At_any _ names s _ HN.out).mono ?_; rintro e w' ⟨rfl, rfl⟩)
      go_ret
      exact ⟨g, rfl, by rw [HP.out]; exact HT.out, Below.refl _ _⟩
    · obtain ⟨i, hi⟩ : ∃ i : Nat, atS names s = i := ⟨(atS names s).toNat, by omega⟩
      have hm := atS_mem names s
      rw [decide_eq_true (show 0 ≤ atS names s by omega)] at hm
      have hil := (atS_lt names s hm.symm).2
      have hip : i < ps.length := by omega
      have hit : i < ts.length := by omega
      obtain ⟨b, off, rfl, hcell⟩ := hlc (by omega)
      have hc := hcell i hip
      have HI := hide hi
      have HP : Hid ((Tr.leaf 5 s).put names ts = ts[i]) := by show _ = _; simp only [Tr.put]; rw [if_pos ⟨trivial, by omega⟩, hi]; simp [hit]
      have HTR := hide (HV.out.tr i hip hit)
      have hlt : (i : Int) < (ps.length : Int) := by omega
      have d0 : decide ((i : Int) < 0) = false := by simp
      unfold maxLen at hl2
      generalize ps[i] = pi at *
      unfold ptrV at hc
      clear hh hcell hV hlen hcnt hi h0 hm hil hlc
      go_enter Tryz.func119, Tryz.ntmps119
      go_wp2_with (go_at_call 162; refine (l1At_any _ names s _ HN.out).mono ?_; rintro e w' ⟨rfl, rfl⟩; rw [HI.out])
      go_ret
      exact ⟨pi, rfl, by rw [HP.out]; exact HTR.out, Below.refl _ _⟩

set_option maxHeartbeats 1000000 in
theorem put_one (k : Int) (s : ByteArray) (a : Tr) (iha : Hid (PutIH a)) : PutIH (.one k s a) := by
  intro g w vn vl names ps ts ht hok hV
  obtain ⟨hg, pa, hh, hta⟩ := ht
  obtain ⟨c0, c1, c2, c3⟩ := node_cells hh
  obtain ⟨rfl, _, hoa⟩ := hok
  have HCA := hide (iha.out pa w vn vl names ps ts hta hoa hV)
  obtain ⟨an, cn, rfl, _, _, _⟩ := hV.n
  obtain ⟨al, cl, rfl, _, _, _⟩ := hV.l
  clear hh hta hV iha hoa
  go_enter Tryz.func119, Tryz.ntmps119
  go_wp2_with (first | (go_at_call 118; refine (none_some _ _).mono ?_; rintro e w' ⟨rfl, hw⟩; have hw := hw.symm; subst hw) | fail)
  refine HCA.out.mono ?_
  rintro e w1 ⟨g1, rfl, ht1, hb1⟩
  have c0 := keep_cell hb1 c0
  have c3 := keep_cell hb1 c3
  have h4 := ht1.cell4
  have hsz := (a.put names ts).sz_le
  have HT1 := hide ht1
  have HB1 := hide hb1
  clear ht1 hb1
  go_wp2_with (first | (go_at_call 118; refine (none_none _).mono ?_; rintro e w' ⟨rfl, hw⟩; have hw := hw.symm; subst hw) | (go_at_call 160; refine (make_one 2 ⟨#[]⟩ g1 (a.put names ts).sz _ h4 hsz).mono ?_; rintro e w2 ⟨rfl, n, rfl⟩) | fail)
  go_ret
  exact ⟨_, rfl, tree_one HT1.out 2 ⟨#[]⟩ n, HB1.out.trans ((bel_new w1 _ n).mono HB1.out.size)⟩

set_option maxHeartbeats 1000000 in
theorem put_two (k : Int) (s : ByteArray) (a b : Tr) (iha : Hid (PutIH a)) (ihb : Hid (PutIH b)) : PutIH (.two k s a b) := by
  intro g w vn vl names ps ts ht hok hV
  obtain ⟨hg, pa, pb, hh, hta, htb⟩ := ht
  obtain ⟨c0, c1, c2, c3⟩ := node_cells hh
  obtain ⟨hk, _, hoa, hob⟩ := hok
  have HCA := hide (iha.out pa w vn vl names ps ts hta hoa hV)
  have HCB := hide (show ∀ w1, Below w.heap.size w w1 → _ from fun w1 hb => ihb.out pb w1 vn vl names ps ts ((htb.keep hb).mono hb.size) hob (hV.keep hb))
  obtain ⟨an, cn, rfl, _, _, _⟩ := hV.n
  obtain ⟨al, cl, rfl, _, _, _⟩ := hV.l
  have e5 : (k == 5) = false := by rw [beq_eq_false_iff_ne]; omega
  have e5' : ¬ k = 5 := by omega
  clear hh hta htb hV iha ihb hoa hob hk
  go_enter Tryz.func119, Tryz.ntmps119
  go_wp2_with (first | (go_at_call 118; refine (none_some _ _).mono ?_; rintro e w' ⟨rfl, hw⟩; have hw := hw.symm; subst hw) | fail)
  refine HCA.out.mono ?_
  rintro e w1 ⟨g1, rfl, ht1, hb1⟩
  have c0 := keep_cell hb1 c0
  have c3 := keep_cell hb1 c3
  have HT1 := hide ht1
  have HB1 := hide hb1
  clear ht1 hb1
  go_wp2_with (first | (go_at_call 118; refine (none_some _ _).mono ?_; rintro e w' ⟨rfl, hw⟩; have hw := hw.symm; subst hw) | fail)
  refine (HCB.out w1 HB1.out).mono ?_
  rintro e w2 ⟨g2, rfl, ht2, hb2⟩
  have c0 := keep_cell hb2 c0
  have HT1 := hide ((HT1.out.keep hb2).mono hb2.size)
  have HT2 := hide ht2
  have HB2 := hide (HB1.out.trans (hb2.mono HB1.out.size))
  have h4 := HT1.out.cell4
  have h4b := ht2.cell4
  have hsz := (a.put names ts).sz_le
  have hszb := (b.put names ts).sz_le
  clear ht2 hb2
  go_wp2_with (first | (go_at_call 160; refine (make_two k ⟨#[]⟩ g1 (a.put names ts).sz g2 (b.put names ts).sz _ h4 hsz h4b hszb).mono ?_; rintro e w3 ⟨rfl, n, rfl⟩) | fail)
  go_ret
  exact ⟨_, rfl, tree_two HT1.out HT2.out k ⟨#[]⟩ n, HB2.out.trans ((bel_new w2 _ n).mono HB2.out.size)⟩
theorem l1Put_any : ∀ t : Tr, PutIH t
  | .leaf k s => put_leaf k s
  | .one k s a => put_one k s a (l1Put_any a)
  | .two k s a b => put_two k s a b (l1Put_any a) (l1Put_any b)
end Go.Proofs.YtbgibiongnhjoaaGreat

/- What the specification's l1Fits answers at a tree: at most 64 nodes, at most 6 parameters. For FnExactLevelPut. -/
namespace Go.Proofs.YtbgibiongnhjoaaGreat
open Go.ChangeShapes Go.WideShapes Go.ChangeAt Go.RowKit

theorem Tr.sz_cnt : ∀ t : Tr, t.sz = min 1000 t.cnt
  | .leaf _ _ => by simp [Tr.sz, Tr.cnt]
  | .one _ _ a => by simp only [Tr.sz, Tr.cnt, Tr.sz_cnt a]; omega
  | .two _ _ a b => by simp only [Tr.sz, Tr.cnt, Tr.sz_cnt a, Tr.sz_cnt b]; omega
theorem TreeAt.size {B : Nat} {w : World} {g : Nat} : ∀ {t : Tr}, TreeAt B w g t → w.cell? ⟨g, 4, none⟩ = some (.int .i64 t.sz)
  | .leaf k s, h => by rw [cell_of_row w g 4 _ _ _ h.2]; rfl
  | .one k s a, h => by obtain ⟨_, pa, h2, _⟩ := h; rw [cell_of_row w g 4 _ _ _ h2]; rfl
  | .two k s a b, h => by obtain ⟨_, pa, pb, h2, _⟩ := h; rw [cell_of_row w g 4 _ _ _ h2]; rfl
def fitsB (t : Tr) : Bool := decide (t.cnt ≤ 64 ∧ (t.names []).length ≤ 6)

set_option maxRecDepth 10000 in
set_option maxHeartbeats 2000000 in
theorem l1Fits_any (t : Tr) (g : Nat) (w : World) (h : TreeAt w.heap.size w g t) :
    Calls Tryz.prog 141 #[.pointer (some ⟨g, 0, none⟩)] w fun e w' => e = .returned (.bool (fitsB t)) ∧ Below w.heap.size w w' := by
  have HT := hide h
  have c4 := h.size
  have hsz := Tr.sz_cnt t
  have hst := World.ownsRow_lit (base := w.heap.size) (e := 9) (size := 1) w #[] 0 (Nat.le_refl _) (by unfold maxLen; omega) rfl
  have HST := hide hst
  clear hst h
  by_cases hc : t.cnt ≤ 64
  · have hle : (t.sz : Int) ≤ 64 := by omega
    have HF : Hid (decide (((t.names []).length : Int) ≤ 6) = fitsB t) := by
      show _ = _
      unfold fitsB
      rw [decide_eq_decide]
      constructor
      · intro q; exact ⟨hc, by omega⟩
      · intro q; omega
    have HC := hide hc
    clear hc hsz
    go_enter Tryz.func141, Tryz.ntmps141
    go_wp2_with fail
    refine (l1Names_any t g _ _ [] w.heap.size (HT.out.keep (bel_alloc (Below.refl _ _) _)) HST.out (by simp) (by have := HC.out; simp; omega)).mono ?_
    rintro e w1 ⟨vn1, rfl, hown1, hb1⟩
    have hbel1 : Hid (Below w.heap.size w w1) := (bel_alloc (Below.refl w.heap.size w) _).trans hb1
    obtain ⟨na1, nc1, rfl⟩ := row_form hown1
    clear hown1 hb1 HST c4 hle
    go_wp2_with fail
    go_ret
    exact ⟨ret_bool HF.out, hbel1.out⟩
  · have hle : ¬ (t.sz : Int) ≤ 64 := by omega
    have HF : Hid (false = fitsB t) := by
      show _ = _
      unfold fitsB
      rw [eq_comm, decide_eq_false_iff_not]
      exact fun q => hc q.1
    clear hc hsz
    go_enter Tryz.func141, Tryz.ntmps141
    go_wp2_with fail
    go_ret
    exact ⟨ret_bool HF.out, Below.refl _ _⟩
end Go.Proofs.YtbgibiongnhjoaaGreat

/- Plain facts about putting levels: the program's tree and the specification's, and the row of nodes of a tree. -/
namespace Go.Proofs.YtbgibiongnhjoaaGreat
open Go.ChangeShapes Go.WideShapes Go.ChangeAt Go.RowKit

/-- So many more around. -/
def sAroundN (n : Nat) : It → It
  | .succ m x => .succ (m + n) x
  | x => .succ n x
def It.put (f : ByteArray → It) : It → It
  | .zero => .zero
  | .succ n x => sAroundN n (x.put f)
  | .max a b => .max (a.put f) (b.put f)
  | .imax a b => .imax (a.put f) (b.put f)
  | .param s => f s
theorem cnt_aroundN (n : Nat) (x : It) : (sAroundN n x).cnt = x.cnt + n := by
  cases x <;> simp [sAroundN, It.cnt] <;> omega
theorem around_aroundN (n : Nat) (x : It) : sAround (sAroundN n x) = sAroundN (n + 1) x := by
  cases x <;> simp [sAroundN, sAround] <;> omega
theorem put_around (f : ByteArray → It) (x : It) : (sAround x).put f = sAround (x.put f) := by
  cases x with
  | succ n y => show sAroundN (n + 1) (y.put f) = sAround (sAroundN n (y.put f)); rw [around_aroundN]
  | zero => rfl
  | max a b => rfl
  | imax a b => rfl
  | param s => simp only [sAround, It.put]; cases f s <;> simp [sAroundN]
def putF (names : List ByteArray) (ts : List Tr) (s : ByteArray) : It :=
  if 0 ≤ atS names s then (ts.getD (atS names s).toNat (.leaf 5 s)).it else .param s
theorem it_put (names : List ByteArray) (ts : List Tr) : ∀ t : Tr, t.ok → (t.put names ts).it = t.it.put (putF names ts)
  | .leaf k s, h => by
    rcases h.1 with rfl | rfl
    · simp [Tr.put, Tr.it, It.put]
    · simp only [Tr.put, Tr.it]
      by_cases h0 : 0 ≤ atS names s
      · rw [if_pos ⟨trivial, h0⟩]; simp [It.put, putF, h0]
      · rw [if_neg (by omega)]; simp [It.put, putF, h0, Tr.it]
  | .one k s a, h => by simp only [Tr.put, Tr.it]; rw [put_around, it_put names ts a h.2.2]
  | .two k s a b, h => by
    have ha := it_put names ts a h.2.2.1
    have hb := it_put names ts b h.2.2.2
    rcases h.1 with rfl | rfl
    · simp [Tr.put, Tr.it, It.put, ha, hb]
    · simp [Tr.put, Tr.it, It.put, ha, hb]
theorem fields_empty {k : Int} (h : k ≠ 5) : fieldsB ⟨k, ⟨#[]⟩, []⟩ = true := by
  simp only [fieldsB, if_neg h]
  rw [ByteArray.toList_eq]; rfl
theorem putT_ok (names : List ByteArray) (ts : List Tr) (hts : ∀ t ∈ ts, t.ok) : ∀ t : Tr, t.ok → (t.put names ts).ok
  | .leaf k s, h => by
    simp only [Tr.put]
    split
    · rename_i hk
      by_cases hl : (atS names s).toNat < ts.length
      · rw [show ts.getD (atS names s).toNat (.leaf k s) = ts[(atS names s).toNat] by simp [hl]]; exact hts _ (List.getElem_mem hl)
      · rw [show ts.getD (atS names s).toNat (.leaf k s) = .leaf k s by rw [List.getD_eq_getElem?_getD, List.getElem?_eq_none (by omega)]; rfl]; exact h
    · exact h
  | .one k s a, h => ⟨h.1, fields_empty (by have := h.1; omega), putT_ok names ts hts a h.2.2⟩
  | .two k s a b, h => ⟨h.1, fields_empty (by have := h.1; omega), putT_ok names ts hts a h.2.2.1, putT_ok names ts hts b h.2.2.2⟩
theorem empty_of {s : ByteArray} (h : s.toList.isEmpty = true) : s = ⟨#[]⟩ := by
  rw [ByteArray.toList_eq] at h
  have h := List.isEmpty_iff.1 h
  cases s with
  | mk d => cases d with
    | mk l => simp only at h; rw [h]
/-- The nodes of so many more around, the first at place p. -/
def sNodes : Nat → Nat → List Nd
  | 0, _ => []
  | n + 1, p => sNodes n p ++ [⟨2, ⟨#[]⟩, [((p + n - 1 : Nat) : Int)]⟩]
theorem sNodes_len (n p : Nat) : (sNodes n p).length = n := by
  induction n with
  | zero => rfl
  | succ n ih => simp [sNodes, ih]
/-- The nodes that a tree is written as, the first at place o. -/
def It.flat : Nat → It → List Nd
  | _, .zero => [⟨1, ⟨#[]⟩, []⟩]
  | o, .succ n x => x.flat o ++ sNodes n (o + x.cnt)
  | o, .max a b => a.flat o ++ b.flat (o + a.cnt) ++ [⟨3, ⟨#[]⟩, [((o + a.cnt - 1 : Nat) : Int), ((o + a.cnt + b.cnt - 1 : Nat) : Int)]⟩]
  | o, .imax a b => a.flat o ++ b.flat (o + a.cnt) ++ [⟨4, ⟨#[]⟩, [((o + a.cnt - 1 : Nat) : Int), ((o + a.cnt + b.cnt - 1 : Nat) : Int)]⟩]
  | _, .param s => [⟨5, s, []⟩]
theorem It.flat_len : ∀ (x : It) (o : Nat), (x.flat o).length = x.cnt
  | .zero, _ => rfl
  | .succ n x, o => by simp [It.flat, It.cnt, It.flat_len x, sNodes_len]; omega
  | .max a b, o => by simp [It.flat, It.cnt, It.flat_len a, It.flat_len b]; omega
  | .imax a b, o => by simp [It.flat, It.cnt, It.flat_len a, It.flat_len b]; omega
  | .param _, _ => rfl
theorem It.cnt_pos : ∀ (x : It), 1 ≤ x.cnt
  | .zero => Nat.le_refl _
  | .succ n x => by have := It.cnt_pos x; simp only [It.cnt]; omega
  | .max a b => by simp only [It.cnt]; omega
  | .imax a b => by simp only [It.cnt]; omega
  | .param _ => Nat.le_refl _
theorem flat_around (x : It) (o : Nat) : (sAround x).flat o = x.flat o ++ [⟨2, ⟨#[]⟩, [((o + x.cnt - 1 : Nat) : Int)]⟩] := by
  cases x with
  | succ n y =>
    simp only [sAround, It.flat, sNodes, It.cnt, List.append_assoc]
    rw [show o + y.cnt + n - 1 = o + (n + y.cnt) - 1 from by omega]
  | zero => simp [sAround, It.flat, sNodes, It.cnt]
  | max a b => simp [sAround, It.flat, sNodes, It.cnt]
  | imax a b => simp [sAround, It.flat, sNodes, It.cnt]
  | param s => simp [sAround, It.flat, sNodes, It.cnt]
theorem it_flat : ∀ (t : Tr) (o : Nat), t.ok → t.it.flat o = t.flat o
  | .leaf k s, o, h => by
    rcases h.1 with rfl | rfl
    · have := empty_of (s := s) (by have := h.2; simpa [fieldsB] using this)
      subst this; simp [Tr.it, It.flat, Tr.flat]
    · simp [Tr.it, It.flat, Tr.flat]
  | .one k s a, o, h => by
    obtain ⟨rfl, hs, ha⟩ := h
    have := empty_of (s := s) (by simpa [fieldsB] using hs)
    subst this
    simp only [Tr.it, Tr.flat]
    rw [flat_around, it_flat a o ha, it_cnt a ha]
  | .two k s a b, o, h => by
    obtain ⟨hk, hs, ha, hb⟩ := h
    have e1 := it_flat a o ha
    have e2 := it_flat b (o + a.cnt) hb
    rcases hk with rfl | rfl
    · have := empty_of (s := s) (by simpa [fieldsB] using hs)
      subst this
      simp [Tr.it, Tr.flat, It.flat, it_cnt a ha, it_cnt b hb, e1, e2]
    · have := empty_of (s := s) (by simpa [fieldsB] using hs)
      subst this
      simp [Tr.it, Tr.flat, It.flat, it_cnt a ha, it_cnt b hb, e1, e2]

/-- A tree's nodes are gone through to its root. -/
theorem run_flat : ∀ (t : Tr) (o : Nat), t.ok → ∀ (ns : List Nd) (st : List Int), (∀ i nd, (t.flat o)[i]? = some nd → ns[o + i]? = some nd) → runTo ns o = some st → runTo ns (o + t.cnt) = some (st ++ [((o + t.cnt - 1 : Nat) : Int)])
  | .leaf k s, o, h, ns, st, hn, hr => by
    have h0 := hn 0 ⟨k, s, []⟩ rfl
    have hk : kidsN k = 0 := by rcases h.1 with rfl | rfl <;> rfl
    have hf : fieldsB ⟨k, s, []⟩ = true := h.2
    simp only [Tr.cnt, runTo, hr, Nat.add_zero] at h0 ⊢
    rw [h0]
    simp [stepN, hk, hf]
  | .one k s a, o, h, ns, st, hn, hr => by
    obtain ⟨rfl, hs, ha⟩ := h
    have l1 := Tr.flat_len a o
    have lp := Tr.cnt_pos a
    have ih := run_flat a o ha ns st (fun i nd hi => hn i nd (by simp only [Tr.flat]; exact get_left _ hi)) hr
    have h0 := hn a.cnt ⟨2, s, [((o + a.cnt - 1 : Nat) : Int)]⟩ (by simp only [Tr.flat]; rw [List.getElem?_append_right (by omega), l1]; simp)
    have hf : fieldsB ⟨2, s, [((o + a.cnt - 1 : Nat) : Int)]⟩ = true := hs
    simp only [Tr.cnt]
    rw [show o + (1 + a.cnt) = (o + a.cnt) + 1 from by omega]
    simp only [runTo, ih]
    rw [h0]
    have hk : kidsN 2 = 1 := rfl
    simp [stepN, hk, hf]
    omega
  | .two k s a b, o, h, ns, st, hn, hr => by
    obtain ⟨hk, hs, ha, hb⟩ := h
    have l1 := Tr.flat_len a o
    have l2 := Tr.flat_len b (o + a.cnt)
    have lp := Tr.cnt_pos a
    have lq := Tr.cnt_pos b
    have ih := run_flat a o ha ns st (fun i nd hi => hn i nd (by simp only [Tr.flat]; exact get_left _ (get_left _ hi))) hr
    have ih2 := run_flat b (o + a.cnt) hb ns _ (fun i nd hi => by
      have := hn (a.cnt + i) nd (by simp only [Tr.flat]; have := get_left [(⟨k, s, [((o + a.cnt - 1 : Nat) : Int), ((o + a.cnt + b.cnt - 1 : Nat) : Int)]⟩ : Nd)] (get_right (a.flat o) hi); rwa [l1] at this)
      rwa [← Nat.add_assoc] at this) ih
    have h0 := hn (a.cnt + b.cnt) ⟨k, s, [((o + a.cnt - 1 : Nat) : Int), ((o + a.cnt + b.cnt - 1 : Nat) : Int)]⟩ (by simp only [Tr.flat]; rw [List.getElem?_append_right (by simp; omega)]; simp [l1, l2])
    have hf : fieldsB ⟨k, s, [((o + a.cnt - 1 : Nat) : Int), ((o + a.cnt + b.cnt - 1 : Nat) : Int)]⟩ = true := hs
    simp only [Tr.cnt]
    rw [show o + (1 + a.cnt + b.cnt) = (o + a.cnt + b.cnt) + 1 from by omega]
    simp only [runTo, ih2]
    rw [← Nat.add_assoc] at h0
    rw [h0]
    have hk : kidsN k = 2 := by rcases hk with rfl | rfl <;> rfl
    simp [stepN, hk, hf]
    omega
theorem lvl_flat (t : Tr) (h : t.ok) : lvlB (t.flat 0) = fitsB t := by
  have hr := run_flat t 0 h (t.flat 0) [] (fun i nd hi => by rw [Nat.zero_add]; exact hi) rfl
  have hl := Tr.flat_len t 0
  have hp := Tr.cnt_pos t
  have hn : namesOf (t.flat 0) = t.names [] := (Tr.names_flat t 0 [] h).symm
  unfold lvlB fitsB
  rw [Nat.zero_add] at hr
  rw [hl, hr, hn]
  simp [hp]
end Go.Proofs.YtbgibiongnhjoaaGreat

/- A region that draws its order, whose own operations only read and whose callees write nothing below a block number, walked once in the order of the text. -/
namespace Go.Proofs.YtbgibiongnhjoaaGreat
open Go.ChangeShapes Go.WideShapes Go.ChangeAt Go.RowKit

/-- A world that is as w below block number B. -/
structure Bel (B : Nat) (w : World) where
  w' : World
  h : Below B w w'
theorem bel_ne (B : Nat) (w : World) : Nonempty (Bel B w) := ⟨⟨w, Below.refl B w⟩⟩
theorem wp_region_bel {P : Program} {id : Nat} {Q : Exit → Act → World → Prop} {a : Act} {w : World} {l : List Oper} (B : Nat) (hm : P.follows .mixedOrders = true) (hB : Region.lexB .any l.toArray = true)
    (h : wpQuiet P l.toArray (fun w' => ∃ p : Bel B w, w' = p.w') (fun a' => ∀ w', (∃ p : Bel B w, w' = p.w') → Q .normal a' w') l a) : (Code.region id l.toArray true).wp P Q a w :=
  wp_region_quiet (C := fun w' => ∃ p : Bel B w, w' = p.w') hm hB ⟨⟨w.drew, (Below.refl B w).drew⟩, rfl⟩ (by simpa using h)
theorem calls_bel {P : Program} {f : FuncId} {args : Array Value} {B : Nat} {w : World} {p : Bel B w} {v : Value} (hB : B ≤ w.heap.size)
    (h : Calls P f args p.w' fun e w' => e = .returned v ∧ Below p.w'.heap.size p.w' w') : Calls P f args p.w' fun e w'' => e = .returned v ∧ ∃ q : Bel B w, w'' = q.w' :=
  h.mono fun _ w'' ⟨he, hb⟩ => ⟨he, ⟨w'', p.h.trans (hb.mono (Nat.le_trans hB p.h.size))⟩, rfl⟩
theorem calls_bel_same {P : Program} {f : FuncId} {args : Array Value} {B : Nat} {w : World} {p : Bel B w} {v : Value}
    (h : Calls P f args p.w' fun e w' => e = .returned v ∧ w' = p.w') : Calls P f args p.w' fun e w'' => e = .returned v ∧ ∃ q : Bel B w, w'' = q.w' :=
  h.mono fun _ _ ⟨he, hb⟩ => ⟨he, p, hb⟩
theorem Bel.cell {B : Nat} {w : World} (p : Bel B w) {b o : Nat} {v : Value} (hb : b < B) (h : w.cell? ⟨b, o, none⟩ = some v) : p.w'.cell? ⟨b, o, none⟩ = some v := by
  rw [p.h.cell (p := ⟨b, o, none⟩) hb]; exact h
end Go.Proofs.YtbgibiongnhjoaaGreat
