/- Plain facts: the program's trees of levels (its interface values, as plain data), the tree of each node of a level, and its number. No program is named here. -/
import Derived.Test.YtgomimhelgjddaaGreatWeigh
import Derived.BigRegion
import Derived.Deep.RegionWith
import Derived.Deep.RegionHeld3
namespace Go.Proofs.YtgomimhelgjddaaGreat

inductive It where
  | zero
  | succ (n : Nat) (x : It)
  | max (a b : It)
  | imax (a b : It)
  | param (s : ByteArray)

/-- One more around. -/
def sAround : It → It
  | .succ n x => .succ (n + 1) x
  | x => .succ 1 x
def Tr.it : Tr → It
  | .leaf k s => if k = 1 then .zero else .param s
  | .one _ _ a => sAround a.it
  | .two k _ a b => if k = 3 then .max a.it b.it else .imax a.it b.it
def It.num (f : ByteArray → Int) : It → Int
  | .zero => 0
  | .succ n x => n + x.num f
  | .max a b => if b.num f < a.num f then a.num f else b.num f
  | .imax a b => if b.num f = 0 then 0 else if b.num f < a.num f then a.num f else b.num f
  | .param s => f s
/-- How many nodes it stands for. -/
def It.cnt : It → Nat
  | .zero => 1
  | .succ n x => n + x.cnt
  | .max a b => a.cnt + b.cnt + 1
  | .imax a b => a.cnt + b.cnt + 1
  | .param _ => 1
def It.params : It → List ByteArray
  | .zero => []
  | .succ _ x => x.params
  | .max a b => a.params ++ b.params
  | .imax a b => a.params ++ b.params
  | .param s => [s]
theorem num_around (f : ByteArray → Int) (x : It) : (sAround x).num f = x.num f + 1 := by
  cases x <;> simp [sAround, It.num] <;> omega
theorem cnt_around (x : It) : (sAround x).cnt = x.cnt + 1 := by
  cases x <;> simp [sAround, It.cnt] <;> omega
theorem params_around (x : It) : (sAround x).params = x.params := by
  cases x <;> simp [sAround, It.params]
theorem it_num (f : ByteArray → Int) : ∀ t : Tr, t.ok → t.it.num f = t.weigh f
  | .leaf k s, _ => by by_cases h : k = 1 <;> simp [Tr.it, Tr.weigh, It.num, h]
  | .one k s a, h => by simp [Tr.it, Tr.weigh, num_around, it_num f a h.2.2]
  | .two k s a b, h => by
    have ha := it_num f a h.2.2.1
    have hb := it_num f b h.2.2.2
    rcases h.1 with rfl | rfl
    · simp [Tr.it, Tr.weigh, It.num, joinN, ha, hb]
    · simp [Tr.it, Tr.weigh, It.num, joinN, ha, hb]
theorem it_cnt : ∀ t : Tr, t.ok → t.it.cnt = t.cnt
  | .leaf k s, _ => by by_cases h : k = 1 <;> simp [Tr.it, Tr.cnt, It.cnt, h]
  | .one k s a, h => by simp [Tr.it, Tr.cnt, cnt_around, it_cnt a h.2.2]; omega
  | .two k s a b, h => by
    have ha := it_cnt a h.2.2.1
    have hb := it_cnt b h.2.2.2
    rcases h.1 with rfl | rfl
    · simp [Tr.it, Tr.cnt, It.cnt, ha, hb]; omega
    · simp [Tr.it, Tr.cnt, It.cnt, ha, hb]; omega
theorem it_params : ∀ t : Tr, t.ok → t.it.params = t.params
  | .leaf k s, h => by
    rcases h.1 with rfl | rfl <;> simp [Tr.it, Tr.params, It.params]
  | .one k s a, h => by simp [Tr.it, Tr.params, params_around, it_params a h.2.2]
  | .two k s a b, h => by
    have ha := it_params a h.2.2.1
    have hb := it_params b h.2.2.2
    rcases h.1 with rfl | rfl
    · simp [Tr.it, Tr.params, It.params, ha, hb]
    · simp [Tr.it, Tr.params, It.params, ha, hb]

/-- The trees of all nodes, in the order of the nodes. -/
def Tr.its : Tr → List It
  | .leaf k s => [(Tr.leaf k s).it]
  | .one k s a => a.its ++ [(Tr.one k s a).it]
  | .two k s a b => a.its ++ b.its ++ [(Tr.two k s a b).it]
theorem its_len : ∀ t : Tr, t.its.length = t.cnt
  | .leaf _ _ => rfl
  | .one _ _ a => by simp [Tr.its, Tr.cnt, its_len a]; omega
  | .two _ _ a b => by simp [Tr.its, Tr.cnt, its_len a, its_len b]; omega
theorem its_last : ∀ t : Tr, t.its[t.cnt - 1]? = some t.it
  | .leaf _ _ => rfl
  | .one k s a => by
    have := its_len a
    simp only [Tr.its, Tr.cnt]
    rw [List.getElem?_append_right (by omega)]
    rw [show 1 + a.cnt - 1 - a.its.length = 0 from by omega]; rfl
  | .two k s a b => by
    have := its_len a
    have := its_len b
    simp only [Tr.its, Tr.cnt]
    rw [List.getElem?_append_right (by simp; omega)]
    rw [show 1 + a.cnt + b.cnt - 1 - (a.its ++ b.its).length = 0 from by simp; omega]; rfl

/-- What a node says of its tree, the trees of its kids at their places (the first node standing at place o). -/
def NodeIt (o : Nat) (nd : Nd) (i : Nat) (xs : List It) (x : It) : Prop :=
  (nd.k = 1 ∧ x = .zero) ∨ (nd.k = 5 ∧ x = .param nd.s) ∨
  (nd.k = 2 ∧ ∃ q a, nd.kids = [((o + q : Nat) : Int)] ∧ q < i ∧ xs[q]? = some a ∧ x = sAround a) ∨
  (nd.k = 3 ∧ ∃ q r a b, nd.kids = [((o + q : Nat) : Int), ((o + r : Nat) : Int)] ∧ q < i ∧ r < i ∧ xs[q]? = some a ∧ xs[r]? = some b ∧ x = .max a b) ∨
  (nd.k = 4 ∧ ∃ q r a b, nd.kids = [((o + q : Nat) : Int), ((o + r : Nat) : Int)] ∧ q < i ∧ r < i ∧ xs[q]? = some a ∧ xs[r]? = some b ∧ x = .imax a b)
theorem get_left {α : Type} {xs : List α} {q : Nat} {a : α} (ys : List α) (h : xs[q]? = some a) : (xs ++ ys)[q]? = some a := by
  rw [List.getElem?_append_left (List.getElem?_eq_some_iff.1 h).1]; exact h
theorem get_right {α : Type} {xs : List α} {q : Nat} {a : α} (ys : List α) (h : xs[q]? = some a) : (ys ++ xs)[ys.length + q]? = some a := by
  rw [List.getElem?_append_right (by omega), show ys.length + q - ys.length = q from by omega]; exact h
theorem NodeIt.left {o i : Nat} {nd : Nd} {xs : List It} {x : It} (h : NodeIt o nd i xs x) (ys : List It) : NodeIt o nd i (xs ++ ys) x := by
  rcases h with h | h | ⟨h, q, a, h1, h2, h3, h4⟩ | ⟨h, q, r, a, b, h1, h2, h3, h4, h5, h6⟩ | ⟨h, q, r, a, b, h1, h2, h3, h4, h5, h6⟩
  · exact .inl h
  · exact .inr (.inl h)
  · exact .inr (.inr (.inl ⟨h, q, a, h1, h2, get_left _ h3, h4⟩))
  · exact .inr (.inr (.inr (.inl ⟨h, q, r, a, b, h1, h2, h3, get_left _ h4, get_left _ h5, h6⟩)))
  · exact .inr (.inr (.inr (.inr ⟨h, q, r, a, b, h1, h2, h3, get_left _ h4, get_left _ h5, h6⟩)))
theorem NodeIt.right {o i : Nat} {nd : Nd} {xs : List It} {x : It} (ys : List It) (h : NodeIt (o + ys.length) nd i xs x) : NodeIt o nd (ys.length + i) (ys ++ xs) x := by
  rcases h with h | h | ⟨h, q, a, h1, h2, h3, h4⟩ | ⟨h, q, r, a, b, h1, h2, h3, h4, h5, h6⟩ | ⟨h, q, r, a, b, h1, h2, h3, h4, h5, h6⟩
  · exact .inl h
  · exact .inr (.inl h)
  · exact .inr (.inr (.inl ⟨h, ys.length + q, a, by rw [h1, Nat.add_assoc], by omega, get_right _ h3, h4⟩))
  · exact .inr (.inr (.inr (.inl ⟨h, ys.length + q, ys.length + r, a, b, by rw [h1, Nat.add_assoc, Nat.add_assoc], by omega, by omega, get_right _ h4, get_right _ h5, h6⟩)))
  · exact .inr (.inr (.inr (.inr ⟨h, ys.length + q, ys.length + r, a, b, by rw [h1, Nat.add_assoc, Nat.add_assoc], by omega, by omega, get_right _ h4, get_right _ h5, h6⟩)))
theorem snoc_cases {α : Type} {xs : List α} {z a : α} {i : Nat} (h : (xs ++ [z])[i]? = some a) : (xs[i]? = some a ∧ i < xs.length) ∨ (i = xs.length ∧ a = z) := by
  by_cases hl : i < xs.length
  · rw [List.getElem?_append_left hl] at h; exact .inl ⟨h, hl⟩
  · rw [List.getElem?_append_right (by omega)] at h
    by_cases e : i - xs.length = 0
    · rw [e] at h; simp at h; exact .inr ⟨by omega, h.symm⟩
    · rw [List.getElem?_eq_none (by simp; omega)] at h; cases h
theorem its_node : ∀ (t : Tr) (o : Nat), t.ok → ∀ i nd x, (t.flat o)[i]? = some nd → t.its[i]? = some x → NodeIt o nd i t.its x
  | .leaf k s, o, hok, i, nd, x, h1, h2 => by
    simp only [Tr.flat, Tr.its] at h1 h2 ⊢
    have hi : i = 0 := by
      by_cases e : i = 0
      · exact e
      · rw [List.getElem?_eq_none (by simp; omega)] at h1; cases h1
    subst hi
    simp at h1 h2
    subst h1 h2
    rcases hok.1 with rfl | rfl
    · exact .inl ⟨rfl, by simp [Tr.it]⟩
    · exact .inr (.inl ⟨rfl, by simp [Tr.it]⟩)
  | .one k s a, o, hok, i, nd, x, h1, h2 => by
    obtain ⟨rfl, _, ha⟩ := hok
    have l1 := Tr.flat_len a o
    have l2 := its_len a
    have lp := Tr.cnt_pos a
    simp only [Tr.flat, Tr.its] at h1 h2 ⊢
    rcases snoc_cases h1 with ⟨h1, hi⟩ | ⟨hi, rfl⟩
    · rw [List.getElem?_append_left (by omega)] at h2
      exact (its_node a o ha i nd x h1 h2).left _
    · rcases snoc_cases h2 with ⟨_, hj⟩ | ⟨_, rfl⟩
      · omega
      · exact .inr (.inr (.inl ⟨rfl, a.cnt - 1, a.it, by simp; omega, by omega, get_left _ (its_last a), rfl⟩))
  | .two k s a b, o, hok, i, nd, x, h1, h2 => by
    obtain ⟨hk, _, ha, hb⟩ := hok
    have l1 := Tr.flat_len a o
    have l2 := its_len a
    have l3 := Tr.flat_len b (o + a.cnt)
    have l4 := its_len b
    have lp := Tr.cnt_pos a
    have lq := Tr.cnt_pos b
    simp only [Tr.flat, Tr.its] at h1 h2 ⊢
    rcases snoc_cases h1 with ⟨h1, hi⟩ | ⟨hi, rfl⟩
    · rw [List.getElem?_append_left (by simp at hi ⊢; omega)] at h2
      by_cases hl : i < a.cnt
      · rw [List.getElem?_append_left (by omega)] at h1 h2
        exact ((its_node a o ha i nd x h1 h2).left _).left _
      · rw [List.getElem?_append_right (by omega)] at h1 h2
        rw [l1] at h1
        rw [l2] at h2
        have h := its_node b (o + a.cnt) hb (i - a.cnt) nd x h1 h2
        rw [← l2] at h
        have h' := h.right a.its
        rw [show a.its.length + (i - a.its.length) = i from by omega] at h'
        exact h'.left _
    · rcases snoc_cases h2 with ⟨_, hj⟩ | ⟨_, rfl⟩
      · simp at hi hj; omega
      · have g1 := get_left ([(Tr.two k s a b).it]) (get_left b.its (its_last a))
        have g2 := get_left ([(Tr.two k s a b).it]) (get_right a.its (its_last b))
        simp at hi
        rcases hk with rfl | rfl
        · exact .inr (.inr (.inr (.inl ⟨rfl, a.cnt - 1, a.its.length + (b.cnt - 1), a.it, b.it, by simp; omega, by omega, by omega, g1, g2, by simp [Tr.it]⟩)))
        · exact .inr (.inr (.inr (.inr ⟨rfl, a.cnt - 1, a.its.length + (b.cnt - 1), a.it, b.it, by simp; omega, by omega, by omega, g1, g2, by simp [Tr.it]⟩)))
end Go.Proofs.YtgomimhelgjddaaGreat

/- The program's trees of levels as values, and what the making of them answers: succAround, levelTreeOf. -/
namespace Go.Proofs.YtgomimhelgjddaaGreat
open Go.ChangeShapes Go.WideShapes Go.ChangeAt Go.RowKit

theorem bel_trans {w w1 w2 : World} (h : Below w.heap.size w w1) (h2 : Below w1.heap.size w1 w2) : Below w.heap.size w w2 := h.trans (h2.mono h.size)

def It.val : It → Value
  | .zero => .iface 168 (.agg #[])
  | .succ n x => .iface 176 (.agg #[.int .i64 n, x.val])
  | .max a b => .iface 171 (.agg #[a.val, b.val])
  | .imax a b => .iface 172 (.agg #[a.val, b.val])
  | .param s => .iface 174 (.agg #[.string s])
theorem It.val_iface : ∀ x : It, ∃ T v, x.val = .iface T v
  | .zero => ⟨_, _, rfl⟩
  | .succ _ _ => ⟨_, _, rfl⟩
  | .max _ _ => ⟨_, _, rfl⟩
  | .imax _ _ => ⟨_, _, rfl⟩
  | .param _ => ⟨_, _, rfl⟩

theorem Tryz.as152_144 (v : Value) (w : World) : (Instr.typeAssert (.iface 168 v) 138 176 true).run Tryz.prog w = .ok (.tuple #[.agg #[.int .i64 0, .nilIface], .bool false]) w := by kernel_rfl
theorem Tryz.as146_144 (v : Value) (w : World) : (Instr.typeAssert (.iface 171 v) 138 176 true).run Tryz.prog w = .ok (.tuple #[.agg #[.int .i64 0, .nilIface], .bool false]) w := by kernel_rfl
theorem Tryz.as147_144 (v : Value) (w : World) : (Instr.typeAssert (.iface 172 v) 138 176 true).run Tryz.prog w = .ok (.tuple #[.agg #[.int .i64 0, .nilIface], .bool false]) w := by kernel_rfl
theorem Tryz.as149_144 (v : Value) (w : World) : (Instr.typeAssert (.iface 174 v) 138 176 true).run Tryz.prog w = .ok (.tuple #[.agg #[.int .i64 0, .nilIface], .bool false]) w := by kernel_rfl
theorem Tryz.as144_144 (v : Value) (w : World) : (Instr.typeAssert (.iface 176 v) 138 176 true).run Tryz.prog w = .ok (.tuple #[v, .bool true]) w := by kernel_rfl

set_option maxHeartbeats 1000000 in
theorem succAround_any (x : It) (w : World) (hc : x.cnt ≤ 1000) : Calls Tryz.prog 137 #[x.val, .int .i64 1] w fun e w' => e = .returned (sAround x).val ∧ Below w.heap.size w w' := by
  cases x with
  | zero =>
    have a1 := Tryz.as152_144
    simp only [It.val, sAround]
    go_enter Tryz.func137, Tryz.ntmps137
    go_wp2_with fail
    go_ret
    exact ⟨rfl, bel_alloc (Below.refl _ _) _⟩
  | succ n y =>
    have a1 := Tryz.as144_144
    obtain ⟨T, v, hv⟩ := y.val_iface
    simp only [It.val, sAround, hv]
    simp only [It.cnt] at hc
    have hn : n ≤ 1000 := by omega
    have HE : Hid (Ending.returned (.iface 176 (.agg #[.int .i64 ((n : Int) + 1), .iface T v])) = .returned (.iface 176 (.agg #[.int .i64 ((n + 1 : Nat) : Int), .iface T v]))) := by show _ = _; simp
    clear hc hv
    go_enter Tryz.func137, Tryz.ntmps137
    go_wp2_with fail
    go_ret
    exact ⟨HE.out, bel_alloc (Below.refl _ _) _⟩
  | max a b =>
    have a1 := Tryz.as146_144
    obtain ⟨Ta, va, ha⟩ := a.val_iface
    obtain ⟨Tb, vb, hb⟩ := b.val_iface
    simp only [It.val, sAround, ha, hb]
    clear ha hb hc
    go_enter Tryz.func137, Tryz.ntmps137
    go_wp2_with fail
    go_ret
    exact ⟨rfl, bel_alloc (Below.refl _ _) _⟩
  | imax a b =>
    have a1 := Tryz.as147_144
    obtain ⟨Ta, va, ha⟩ := a.val_iface
    obtain ⟨Tb, vb, hb⟩ := b.val_iface
    simp only [It.val, sAround, ha, hb]
    clear ha hb hc
    go_enter Tryz.func137, Tryz.ntmps137
    go_wp2_with fail
    go_ret
    exact ⟨rfl, bel_alloc (Below.refl _ _) _⟩
  | param s =>
    have a1 := Tryz.as149_144
    simp only [It.val, sAround]
    go_enter Tryz.func137, Tryz.ntmps137
    go_wp2_with fail
    go_ret
    exact ⟨rfl, bel_alloc (Below.refl _ _) _⟩

theorem Tryz.info138 : (Tryz.prog.info? 138).map (fun i => (i.zero, i.size, i.bytes)) = some (some .nilIface, 1, 16) := by kernel_rfl

theorem flat_cnt {ns : List Nd} {t : Tr} (h : ns = t.flat 0) : ns.length = t.cnt := by rw [h, Tr.flat_len]
theorem ys_put {ys : List Value} {its : List It} {k : Nat} (x : It) (hx : its[k]? = some x) (hl : k < ys.length) (h : ∀ j a, j < k → its[j]? = some a → ys[j]? = some a.val) : ∀ j a, j < k + 1 → its[j]? = some a → (ys.set k x.val)[j]? = some a.val := by
  intro j a hj ha
  by_cases e : j = k
  · subst e
    rw [hx] at ha
    cases ha
    rw [List.getElem?_set_self hl]
  · rw [List.getElem?_set_ne (by omega)]; exact h j a (by omega) ha
theorem its_cnt : ∀ (t : Tr), t.ok → ∀ x ∈ t.its, x.cnt ≤ t.cnt
  | .leaf k s, hok, x, hx => by
    simp only [Tr.its, List.mem_singleton] at hx
    rw [hx, it_cnt _ hok]; exact Nat.le_refl _
  | .one k s a, hok, x, hx => by
    have hok' := hok
    simp only [Tr.its, List.mem_append, List.mem_singleton] at hx
    rcases hx with hx | hx
    · have := its_cnt a hok.2.2 x hx
      simp only [Tr.cnt]; omega
    · rw [hx, it_cnt _ hok']; exact Nat.le_refl _
  | .two k s a b, hok, x, hx => by
    have hok' := hok
    simp only [Tr.its, List.mem_append, List.mem_singleton] at hx
    rcases hx with (hx | hx) | hx
    · have := its_cnt a hok.2.2.1 x hx
      simp only [Tr.cnt]; omega
    · have := its_cnt b hok.2.2.2 x hx
      simp only [Tr.cnt]; omega
    · rw [hx, it_cnt _ hok']; exact Nat.le_refl _

set_option maxRecDepth 10000 in
set_option maxHeartbeats 4000000 in
theorem levelTreeOf_any (v : Value) (ns : List Nd) (t : Tr) (w : World) (hns : NodesAt w v ns) (hflat : ns = t.flat 0) (hok : t.ok) (hl : ns.length ≤ 64) :
    Calls Tryz.prog 110 #[.agg #[v]] w fun e w' => e = .returned t.it.val ∧ Below w.heap.size w w' := by
  obtain ⟨i0, hi, hz0, hz1, hz2⟩ := info_parts Tryz.info138
  have hpos : 0 < ns.length := by have := Tr.cnt_pos t; rw [flat_cnt hflat]; omega
  have HLAST : Hid (t.its[ns.length - 1]? = some t.it) := by show _ = _; rw [flat_cnt hflat]; exact its_last t
  have HITS : Hid (t.its.length = ns.length) := by show _ = _; rw [flat_cnt hflat]; exact its_len t
  have HND : Hid (∀ i nd x, ns[i]? = some nd → t.its[i]? = some x → NodeIt 0 nd i t.its x) := by
    intro i nd x h1 h2
    rw [hflat] at h1
    exact its_node t 0 hok i nd x h1 h2
  have HCN : Hid (∀ x ∈ t.its, x.cnt ≤ 1000) := fun x hx => by
    have := its_cnt t hok x hx
    have := flat_cnt hflat
    omega
  obtain ⟨a, cap, rfl, hlc, hcm, hc⟩ := hns
  obtain ⟨b, off, rfl, hcc⟩ := hc hpos
  have HC := hide hcc
  unfold maxLen at hcm
  clear hc hcc hflat hok
  have hpos' : (0 : Int) < ns.length := by omega
  have HB0 : Hid ((w.alloc (.cells #[.slice (some ⟨b, off, none⟩) ns.length cap] 59)).cell? ⟨w.heap.size, 0, none⟩ = some (.slice (some ⟨b, off, none⟩) ns.length cap)) := by show _ = _; simp [go_sem]
  go_enter Tryz.func110, Tryz.ntmps110
  go_wp2_with (at_make; refine wpList_make_full _ rfl _ _ 166 rfl w.heap.size 138 i0 .nilIface 1 Tryz.underlying166 hi hz0 hz1 .i64 .i64 _ _ ns.length rfl rfl rfl rfl (by rw [hz2]; omega) (by unfold maxLen; omega) (by simp) ?_; intro w1 hown hgrow; have hbox := hgrow.cell HB0.out (by simp))
  have hbel1 : Below w.heap.size w w1 := (bel_alloc (Below.refl _ _) _).grown hgrow (by simp) (fun k hk => by cases hk)
  have hsz1 : w.heap.size + 1 < w1.heap.size := by have := (hown.lt _ rfl).2; simpa using this
  rw [World.size_alloc] at hown
  clear hgrow
  go_loopw [13] (fun i wr => ∃ (k : Nat) (ys : List Value), k ≤ ns.length ∧ i = .int .i64 k ∧ wr.ownsRow w.heap.size 138 1 (.slice (some ⟨w.heap.size + 1, 0, none⟩) ns.length ns.length) ns.length ys ∧ Hid (∀ j a, j < k → t.its[j]? = some a → ys[j]? = some a.val) ∧ w.heap.size + 1 < wr.heap.size ∧ Below w.heap.size w wr) (fun i _ => ns.length - (intOf i).toNat)
  case atStart => exact ⟨0, _, by omega, rfl, hown, fun j _ h => by omega, hsz1, hbel1⟩
  case round =>
    obtain ⟨k, ys, hk, rfl, hownr, HX, hsz, hbel⟩ := hrel
    clear hown hbel1 hsz1 hbox HB0
    by_cases hlt : k < ns.length
    · have hlt' : (k : Int) < ns.length := by omega
      obtain ⟨x, hx⟩ : ∃ x, t.its[k]? = some x := ⟨t.its[k]'(by rw [HITS.out]; omega), by rw [List.getElem?_eq_getElem]⟩
      have hni := HND.out k ns[k] x (by rw [List.getElem?_eq_getElem hlt]) hx
      obtain ⟨c1, c2, kv, c3, hkv⟩ := (HC.out k hlt).keep hbel
      have hyl := hownr.1
      have HP := hide (ys_put x hx (by omega) HX.out)
      have hst := (hownr.stored k x.val).1
      have HST := hide (hst)
      have hfz := hownr.frozenAt k
      have hce := hownr.cellAt k (by omega)
      rw [List.getElem?_eq_getElem (by omega)] at hce
      have HROW := hide hownr
      have HGET : Hid (∀ (q : Nat) (a : It), q < k → t.its[q]? = some a → wr.cell? ⟨w.heap.size + 1, q, none⟩ = some a.val) := fun q a hq ha => by
        rw [HROW.out.cellAt q (by omega)]; exact HX.out q a hq ha
      have HCX : Hid (∀ (q : Nat) (a : It), t.its[q]? = some a → a.cnt ≤ 1000) := fun q a ha => HCN.out a (List.mem_of_getElem? ha)
      have hlb := lt_cell c1
      clear hownr hst
      generalize ns[k] = nd at *
      obtain ⟨nk, nss, nkids⟩ := nd
      rcases hni with ⟨h1, h2⟩ | ⟨h1, h2⟩ | ⟨h1, q, a, h3, h4, h5, h6⟩ | ⟨h1, q, r, a, b', h3, h4, h5, h6, h7, h8⟩ | ⟨h1, q, r, a, b', h3, h4, h5, h6, h7, h8⟩
      · simp only at h1 c1 c2
        subst h1 h2
        obtain ⟨ka, kc, rfl, _, _, _⟩ := hkv
        go_wp2_with fail
        go_roundw
        case rel => exact ⟨k + 1, _, by omega, by go_num, HST.out.alloc _, HP, by show _ < (World.alloc _ _).heap.size; rw [World.size_alloc, size_set]; omega, bel_alloc (hbel.setCell (p := ⟨_, _, _⟩) (by show w.heap.size ≤ w.heap.size + 1; omega) _) _⟩
        case measure => simp [intOf]; omega
      · simp only at h1 c1 c2
        subst h1 h2
        obtain ⟨ka, kc, rfl, _, _, _⟩ := hkv
        go_wp2_with fail
        go_roundw
        case rel => exact ⟨k + 1, _, by omega, by go_num, HST.out.alloc _, HP, by show _ < (World.alloc _ _).heap.size; rw [World.size_alloc, size_set]; omega, bel_alloc (hbel.setCell (p := ⟨_, _, _⟩) (by show w.heap.size ≤ w.heap.size + 1; omega) _) _⟩
        case measure => simp [intOf]; omega
      · simp only at h1 h3 c1 c2 hkv
        subst h1 h3 h6
        obtain ⟨ka, kc, rfl, hk1, hk2, hkc⟩ := hkv
        obtain ⟨kb, ko, rfl, hkcc⟩ := hkc (by simp)
        have e0 := hkcc 0 (by simp)
        simp only [List.getElem_cons_zero, Nat.zero_add, Nat.add_zero] at e0
        have g0 := HGET.out q a h4 h5
        obtain ⟨Ta, va, hva⟩ := a.val_iface
        have HSA := hide (succAround_any a)
        have HCA := hide (HCX.out q a h5)
        obtain ⟨Ts, vs, hvs⟩ := (sAround a).val_iface
        rw [hvs] at HP HST HSA
        rw [hva] at g0 HSA
        have hq' : (q : Int) < ns.length := by omega
        have hlk := lt_cell e0
        simp only [List.length_singleton] at hk1
        clear hkcc hkc HGET HX hx h5 hva hvs
        go_wp2_with fail
        refine (HSA.out _ HCA.out).mono ?_
        rintro e w2 ⟨rfl, hb2⟩
        have hbw2 : Below wr.heap.size wr w2 := bel_trans (bel_alloc (Below.refl _ _) _) hb2
        have hbel2 := bel_trans hbel hbw2
        have hrow2 := row_keep hbw2 HROW.out
        have hst2 := (hrow2.stored k (.iface Ts vs)).1
        have hfz2 := hrow2.frozenAt k
        have hce2 := hrow2.cellAt k (by omega)
        rw [List.getElem?_eq_getElem (by omega)] at hce2
        have hsz2 : w.heap.size + 1 < w2.heap.size := by have := hbw2.size; omega
        clear hb2 hrow2 HST hbw2
        go_wp2_with fail
        go_roundw
        case rel => exact ⟨k + 1, _, by omega, by go_num, hst2, HP, by rw [size_set]; omega, hbel2.setCell (p := ⟨_, _, _⟩) (by show w.heap.size ≤ w.heap.size + 1; omega) _⟩
        case measure => simp [intOf]; omega
      · simp only at h1 h3 c1 c2 hkv
        subst h1 h3 h8
        obtain ⟨ka, kc, rfl, hk1, hk2, hkc⟩ := hkv
        obtain ⟨kb, ko, rfl, hkcc⟩ := hkc (by simp)
        have e0 := hkcc 0 (by simp)
        have e1 := hkcc 1 (by simp)
        simp only [List.getElem_cons_zero, List.getElem_cons_succ, Nat.zero_add, Nat.add_zero] at e0 e1
        have g0 := HGET.out q a h4 h6
        have g1 := HGET.out r b' h5 h7
        obtain ⟨Ta, va, hva⟩ := a.val_iface
        obtain ⟨Tb, vb, hvb⟩ := b'.val_iface
        rw [hva] at g0
        rw [hvb] at g1
        simp only [It.val, hva, hvb] at HP HST
        have hq' : (q : Int) < ns.length := by omega
        have hr' : (r : Int) < ns.length := by omega
        have hlk := lt_cell e0
        simp only [List.length_cons, List.length_nil] at hk1
        clear hkcc hkc HGET HX hx h6 h7 hva hvb
        go_wp2_with fail
        go_region
        go_wp2_with fail
        go_roundw
        case rel => exact ⟨k + 1, _, by omega, by go_num, (HST.out.alloc _).drew, HP, by show _ < (World.alloc _ _).heap.size; rw [World.size_alloc, size_set]; omega, (bel_alloc (hbel.setCell (p := ⟨_, _, _⟩) (by show w.heap.size ≤ w.heap.size + 1; omega) _) _).drew⟩
        case measure => simp [intOf]; omega
      · simp only at h1 h3 c1 c2 hkv
        subst h1 h3 h8
        obtain ⟨ka, kc, rfl, hk1, hk2, hkc⟩ := hkv
        obtain ⟨kb, ko, rfl, hkcc⟩ := hkc (by simp)
        have e0 := hkcc 0 (by simp)
        have e1 := hkcc 1 (by simp)
        simp only [List.getElem_cons_zero, List.getElem_cons_succ, Nat.zero_add, Nat.add_zero] at e0 e1
        have g0 := HGET.out q a h4 h6
        have g1 := HGET.out r b' h5 h7
        obtain ⟨Ta, va, hva⟩ := a.val_iface
        obtain ⟨Tb, vb, hvb⟩ := b'.val_iface
        rw [hva] at g0
        rw [hvb] at g1
        simp only [It.val, hva, hvb] at HP HST
        have hq' : (q : Int) < ns.length := by omega
        have hr' : (r : Int) < ns.length := by omega
        have hlk := lt_cell e0
        simp only [List.length_cons, List.length_nil] at hk1
        clear hkcc hkc HGET HX hx h6 h7 hva hvb
        go_wp2_with fail
        go_region
        go_wp2_with fail
        go_roundw
        case rel => exact ⟨k + 1, _, by omega, by go_num, (HST.out.alloc _).drew, HP, by show _ < (World.alloc _ _).heap.size; rw [World.size_alloc, size_set]; omega, (bel_alloc (hbel.setCell (p := ⟨_, _, _⟩) (by show w.heap.size ≤ w.heap.size + 1; omega) _) _).drew⟩
        case measure => simp [intOf]; omega
    · obtain ⟨Tz, vz, hvz⟩ := t.it.val_iface
      have hlast := HLAST.out
      have hcell := hownr.cellAt (ns.length - 1) (by have := hownr.1; omega)
      rw [HX.out (ns.length - 1) t.it (by omega) hlast, hvz] at hcell
      have HV := hide hvz
      obtain ⟨m, hm⟩ : ∃ m : Nat, ns.length - 1 = m := ⟨_, rfl⟩
      rw [hm] at hcell
      have hsub : (ns.length : Int) - 1 = (m : Int) := by omega
      have hml : (m : Int) < ns.length := by omega
      have hwm : IntKind.i64.wrap (m : Int) = (m : Int) := by rw [IntKind.wrap_i64]; omega
      clear hm hlast HX hvz HLAST hownr
      go_wp2_with fail
      go_ret
      exact ⟨congrArg Ending.returned HV.out.symm, hbel⟩
end Go.Proofs.YtgomimhelgjddaaGreat

/- What the program's levelNumberAt answers at a tree: its number, for a function that gives the parameters' values. -/
namespace Go.Proofs.YtgomimhelgjddaaGreat
open Go.ChangeShapes Go.WideShapes Go.ChangeAt Go.RowKit

theorem Tryz.as152_146 (v : Value) (w : World) : (Instr.typeAssert (.iface 168 v) 138 171 true).run Tryz.prog w = .ok (.tuple #[.agg #[.nilIface, .nilIface], .bool false]) w := by kernel_rfl
theorem Tryz.as146_146 (v : Value) (w : World) : (Instr.typeAssert (.iface 171 v) 138 171 true).run Tryz.prog w = .ok (.tuple #[v, .bool true]) w := by kernel_rfl
theorem Tryz.as147_146 (v : Value) (w : World) : (Instr.typeAssert (.iface 172 v) 138 171 true).run Tryz.prog w = .ok (.tuple #[.agg #[.nilIface, .nilIface], .bool false]) w := by kernel_rfl
theorem Tryz.as149_146 (v : Value) (w : World) : (Instr.typeAssert (.iface 174 v) 138 171 true).run Tryz.prog w = .ok (.tuple #[.agg #[.nilIface, .nilIface], .bool false]) w := by kernel_rfl
theorem Tryz.as152_147 (v : Value) (w : World) : (Instr.typeAssert (.iface 168 v) 138 172 true).run Tryz.prog w = .ok (.tuple #[.agg #[.nilIface, .nilIface], .bool false]) w := by kernel_rfl
theorem Tryz.as147_147 (v : Value) (w : World) : (Instr.typeAssert (.iface 172 v) 138 172 true).run Tryz.prog w = .ok (.tuple #[v, .bool true]) w := by kernel_rfl
theorem Tryz.as149_147 (v : Value) (w : World) : (Instr.typeAssert (.iface 174 v) 138 172 true).run Tryz.prog w = .ok (.tuple #[.agg #[.nilIface, .nilIface], .bool false]) w := by kernel_rfl
theorem Tryz.as152_149 (v : Value) (w : World) : (Instr.typeAssert (.iface 168 v) 138 174 true).run Tryz.prog w = .ok (.tuple #[.agg #[.string ⟨#[]⟩], .bool false]) w := by kernel_rfl
theorem Tryz.as149_149 (v : Value) (w : World) : (Instr.typeAssert (.iface 174 v) 138 174 true).run Tryz.prog w = .ok (.tuple #[v, .bool true]) w := by kernel_rfl

theorem num_bd (f : ByteArray → Int) (hf : ∀ s, 0 ≤ f s ∧ f s ≤ 1000000) : ∀ x : It, 0 ≤ x.num f ∧ x.num f ≤ 1000000 + x.cnt
  | .zero => by simp [It.num, It.cnt]
  | .succ n x => by have := num_bd f hf x; simp only [It.num, It.cnt]; omega
  | .max a b => by have := num_bd f hf a; have := num_bd f hf b; simp only [It.num, It.cnt]; split <;> omega
  | .imax a b => by
    have := num_bd f hf a
    have := num_bd f hf b
    simp only [It.num, It.cnt]; split
    · omega
    · split <;> omega
  | .param s => by have := hf s; simp only [It.num, It.cnt]; omega

end Go.Proofs.YtgomimhelgjddaaGreat

/- Plain facts: when a level's number is 0, and the rows of values that the specification tries. No program is named here. -/
namespace Go.Proofs.YtgomimhelgjddaaGreat

theorem weigh_nn (f : ByteArray → Int) (hf : ∀ s, 0 ≤ f s) : ∀ t : Tr, 0 ≤ t.weigh f
  | .leaf k s => by have := hf s; simp only [Tr.weigh]; split <;> omega
  | .one k s a => by have := weigh_nn f hf a; simp only [Tr.weigh]; omega
  | .two k s a b => by
    have := weigh_nn f hf a
    have := weigh_nn f hf b
    simp only [Tr.weigh, joinN]; split
    · omega
    · split <;> omega
/-- Whether a level's number is 0 hangs only on which values are 0, and the more are the rather. -/
theorem weigh_zero {f g : ByteArray → Int} (hf : ∀ s, 0 ≤ f s) (hg : ∀ s, 0 ≤ g s) : ∀ t : Tr, t.ok → (∀ s ∈ t.params, g s = 0 → f s = 0) → t.weigh g = 0 → t.weigh f = 0
  | .leaf k s, hok, h, h0 => by
    simp only [Tr.weigh] at h0 ⊢
    rcases hok.1 with rfl | rfl
    · simp
    · simp at h0 ⊢; exact h s (by simp [Tr.params]) h0
  | .one k s a, _, _, h0 => by
    have := weigh_nn g hg a
    simp only [Tr.weigh] at h0; omega
  | .two k s a b, hok, h, h0 => by
    have ha := weigh_zero hf hg a hok.2.2.1 (fun s hs => h s (by simp [Tr.params, hs]))
    have hb := weigh_zero hf hg b hok.2.2.2 (fun s hs => h s (by simp [Tr.params, hs]))
    have n1 := weigh_nn g hg a
    have n2 := weigh_nn g hg b
    simp only [Tr.weigh, joinN] at h0 ⊢
    rcases hok.1 with rfl | rfl
    · rw [if_neg (by omega)] at h0 ⊢
      have q1 : a.weigh g = 0 := by split at h0 <;> omega
      have q2 : b.weigh g = 0 := by split at h0 <;> omega
      rw [ha q1, hb q2]; simp
    · by_cases q : b.weigh g = 0
      · rw [if_pos ⟨rfl, hb q⟩]
      · rw [if_neg (by omega)] at h0
        exfalso; split at h0 <;> omega

theorem weigh_congr {f g : ByteArray → Int} : ∀ t : Tr, t.ok → (∀ s ∈ t.params, f s = g s) → t.weigh f = t.weigh g
  | .leaf k s, hok, h => by
    simp only [Tr.weigh]
    rcases hok.1 with rfl | rfl
    · simp
    · simp; exact h s (by simp [Tr.params])
  | .one k s a, hok, h => by simp only [Tr.weigh]; rw [weigh_congr a hok.2.2 h]
  | .two k s a b, hok, h => by
    simp only [Tr.weigh]
    rw [weigh_congr a hok.2.2.1 (fun s hs => h s (by simp [Tr.params, hs])), weigh_congr b hok.2.2.2 (fun s hs => h s (by simp [Tr.params, hs]))]

/-- When a level is 0: 0 never, 1 always, 2 sometimes. -/
def signN (t : Tr) : Int := if 0 < t.weigh (fun _ => 0) then 0 else if t.weigh (fun _ => 1) = 0 then 1 else 2
def zeroAt (t : Tr) (names : List ByteArray) (vs : List Int) : Bool := decide (t.weigh (valAt names vs) = 0)
theorem valAt_in {names : List ByteArray} {vs : List Int} {s : ByteArray} (h : hasB names s = true) (hl : vs.length = names.length) : valAt names vs s ∈ vs := by
  obtain ⟨h0, h1⟩ := atS_lt names s h
  unfold valAt
  have hi : (atS names s).toNat < vs.length := by omega
  rw [List.getD_eq_getElem?_getD, List.getElem?_eq_getElem hi, Option.getD_some]
  exact List.getElem_mem hi
theorem sign_zeros (t : Tr) (hok : t.ok) (names : List ByteArray) (hp : ∀ s ∈ t.params, hasB names s = true) (vss : List (List Int)) (h1 : ∀ vs ∈ vss, vs.length = names.length ∧ ∀ x ∈ vs, 0 ≤ x) (h2 : List.replicate names.length 0 ∈ vss) (h3 : List.replicate names.length 1 ∈ vss) :
    (if vss.countP (zeroAt t names) = 0 then (0 : Int) else if vss.countP (zeroAt t names) = vss.length then 1 else 2) = signN t := by
  have e0 : t.weigh (valAt names (List.replicate names.length 0)) = t.weigh (fun _ => 0) := weigh_congr t hok (fun s hs => by
    have := valAt_in (vs := List.replicate names.length 0) (hp s hs) (by simp)
    simp at this; exact this.2)
  have e1 : t.weigh (valAt names (List.replicate names.length 1)) = t.weigh (fun _ => 1) := weigh_congr t hok (fun s hs => by
    have := valAt_in (vs := List.replicate names.length 1) (hp s hs) (by simp)
    simp at this; exact this.2)
  have hpos : ∀ vs ∈ vss, ∀ s, hasB names s = true → 0 ≤ valAt names vs s := fun vs hvs s hs => (h1 vs hvs).2 _ (valAt_in hs (h1 vs hvs).1)
  have low : ∀ vs ∈ vss, zeroAt t names vs = true → t.weigh (fun _ => 0) = 0 := by
    intro vs hvs hz
    simp only [zeroAt, decide_eq_true_eq] at hz
    let g : ByteArray → Int := fun s => if hasB names s = true then valAt names vs s else 0
    have hg : ∀ s, 0 ≤ g s := fun s => by
      by_cases e : hasB names s = true
      · simp only [g, if_pos e]; exact hpos vs hvs s e
      · simp only [g, if_neg e]; omega
    have e : t.weigh g = t.weigh (valAt names vs) := weigh_congr t hok (fun s hs => by simp only [g, if_pos (hp s hs)])
    exact weigh_zero (f := fun _ => 0) (g := g) (fun _ => by omega) hg t hok (fun _ _ _ => rfl) (by rw [e, hz])
  have high : t.weigh (fun _ => 1) = 0 → ∀ vs ∈ vss, zeroAt t names vs = true := by
    intro hz vs hvs
    simp only [zeroAt, decide_eq_true_eq]
    let g : ByteArray → Int := fun s => if hasB names s = true then valAt names vs s else 0
    have hg : ∀ s, 0 ≤ g s := fun s => by
      by_cases e : hasB names s = true
      · simp only [g, if_pos e]; exact hpos vs hvs s e
      · simp only [g, if_neg e]; omega
    have e : t.weigh g = t.weigh (valAt names vs) := weigh_congr t hok (fun s hs => by simp only [g, if_pos (hp s hs)])
    rw [← e]
    exact weigh_zero (f := g) (g := fun _ => 1) hg (fun _ => by omega) t hok (fun _ _ h => by omega) hz
  have nn := weigh_nn (fun _ => 0) (fun _ => by omega) t
  unfold signN
  by_cases q0 : 0 < t.weigh (fun _ => 0)
  · rw [if_pos q0, if_pos]
    rw [List.countP_eq_zero]
    intro vs hvs hz
    have := low vs hvs hz
    omega
  · have z0 : t.weigh (fun _ => 0) = 0 := by omega
    rw [if_neg q0, if_neg]
    · by_cases q1 : t.weigh (fun _ => 1) = 0
      · rw [if_pos q1, if_pos]
        rw [List.countP_eq_length]
        exact high q1
      · rw [if_neg q1, if_neg]
        rw [List.countP_eq_length]
        intro h
        have := h _ h3
        simp only [zeroAt, decide_eq_true_eq] at this
        exact q1 (by rw [← e1, this])
    · rw [List.countP_eq_zero]
      intro h
      have := h _ h2
      apply this
      simp only [zeroAt, decide_eq_true_eq]
      rw [e0, z0]

/-- Whether place i is in the set. -/
def inSet (set i : Nat) : Bool := decide (set / 2 ^ i % 2 = 1)
def tryAt (set big i : Nat) : Int := if inSet set i then 0 else if i = big then 1000 else 1
/-- One row of values. -/
def tryRow (n set big : Nat) : List Int := (List.range n).map (tryAt set big)
def tryOk (n set big : Nat) : Bool := decide (big = n) || !inSet set big
/-- The rows of one set, up to a place. -/
def triesTo (n set : Nat) : Nat → List (List Int)
  | 0 => []
  | b + 1 => triesTo n set b ++ (if tryOk n set b then [tryRow n set b] else [])
/-- The rows of the first sets. -/
def triesOf (n : Nat) : Nat → List (List Int)
  | 0 => []
  | s + 1 => triesOf n s ++ triesTo n s (n + 1)
def tries (n : Nat) : List (List Int) := triesOf n (2 ^ n)
theorem tryRow_len (n set big : Nat) : (tryRow n set big).length = n := by simp [tryRow]
theorem tryRow_pos (n set big : Nat) : ∀ x ∈ tryRow n set big, 0 ≤ x ∧ x ≤ 1000 := by
  intro x hx
  simp only [tryRow, List.mem_map] at hx
  obtain ⟨i, _, rfl⟩ := hx
  unfold tryAt; split
  · omega
  · split <;> omega
theorem triesTo_mem {n set b : Nat} {vs : List Int} (h : vs ∈ triesTo n set b) : ∃ big, big < b ∧ tryOk n set big = true ∧ vs = tryRow n set big := by
  induction b with
  | zero => simp [triesTo] at h
  | succ b ih =>
    simp only [triesTo, List.mem_append] at h
    rcases h with h | h
    · obtain ⟨big, h1, h2⟩ := ih h
      exact ⟨big, by omega, h2⟩
    · by_cases e : tryOk n set b = true
      · rw [if_pos e] at h; simp at h; exact ⟨b, by omega, e, h⟩
      · rw [if_neg e] at h; simp at h
theorem triesTo_in {n set b big : Nat} (hb : big < b) (h : tryOk n set big = true) : tryRow n set big ∈ triesTo n set b := by
  induction b with
  | zero => omega
  | succ b ih =>
    simp only [triesTo, List.mem_append]
    by_cases e : big = b
    · subst e; right; rw [if_pos h]; simp
    · left; exact ih (by omega)
theorem triesOf_mem {n s : Nat} {vs : List Int} (h : vs ∈ triesOf n s) : ∃ set big, set < s ∧ big < n + 1 ∧ tryOk n set big = true ∧ vs = tryRow n set big := by
  induction s with
  | zero => simp [triesOf] at h
  | succ s ih =>
    simp only [triesOf, List.mem_append] at h
    rcases h with h | h
    · obtain ⟨set, big, h1, h2⟩ := ih h
      exact ⟨set, big, by omega, h2⟩
    · obtain ⟨big, h1, h2, h3⟩ := triesTo_mem h
      exact ⟨s, big, by omega, h1, h2, h3⟩
theorem triesOf_in {n s set big : Nat} (hs : set < s) (hb : big < n + 1) (h : tryOk n set big = true) : tryRow n set big ∈ triesOf n s := by
  induction s with
  | zero => omega
  | succ s ih =>
    simp only [triesOf, List.mem_append]
    by_cases e : set = s
    · subst e; right; exact triesTo_in hb h
    · left; exact ih (by omega)
theorem tries_zeros {n : Nat} (hn : n ≤ 6) : List.replicate n 0 ∈ tries n := by
  have e : List.replicate n 0 = tryRow n (2 ^ n - 1) n := by
    have : n = 0 ∨ n = 1 ∨ n = 2 ∨ n = 3 ∨ n = 4 ∨ n = 5 ∨ n = 6 := by omega
    rcases this with rfl | rfl | rfl | rfl | rfl | rfl | rfl <;> decide
  rw [e]
  have : 0 < 2 ^ n := Nat.two_pow_pos n
  exact triesOf_in (by omega) (by omega) (by simp [tryOk])
theorem tries_ones {n : Nat} (hn : n ≤ 6) : List.replicate n 1 ∈ tries n := by
  have e : List.replicate n 1 = tryRow n 0 n := by
    have : n = 0 ∨ n = 1 ∨ n = 2 ∨ n = 3 ∨ n = 4 ∨ n = 5 ∨ n = 6 := by omega
    rcases this with rfl | rfl | rfl | rfl | rfl | rfl | rfl <;> decide
  rw [e]
  have : 0 < 2 ^ n := Nat.two_pow_pos n
  exact triesOf_in (by omega) (by omega) (by simp [tryOk])
theorem tries_rows {n : Nat} : ∀ vs ∈ tries n, vs.length = n ∧ ∀ x ∈ vs, 0 ≤ x ∧ x ≤ 1000 := by
  intro vs h
  obtain ⟨set, big, _, _, _, rfl⟩ := triesOf_mem h
  exact ⟨tryRow_len _ _ _, tryRow_pos _ _ _⟩
end Go.Proofs.YtgomimhelgjddaaGreat
