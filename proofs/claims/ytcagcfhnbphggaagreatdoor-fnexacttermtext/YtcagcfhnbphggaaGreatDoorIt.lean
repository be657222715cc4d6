/- Plain facts: the program's trees of levels (its interface values, as plain data), the tree of each node of a level, and its number. No program is named here. -/
import Derived.Test.YtcagcfhnbphggaaGreatDoorJoin
namespace Go.Proofs.YtcagcfhnbphggaaGreatDoor

inductive It where
  | zero
  | succ (n : Nat) (x : It)
  | max (a b : It)
  | imax (a b : It)
  | param (s : ByteArray)

/-- One more around. -/
def sAround : It → It
  | .succ n x => .succ (n + 1) x
  | x => .succ 1 x
def Tr.it : Tr → It
  | .leaf k s => if k = 1 then .zero else .param s
  | .one _ _ a => sAround a.it
  | .two k _ a b => if k = 3 then .max a.it b.it else .imax a.it b.it
/-- How many nodes it stands for. -/
def It.cnt : It → Nat
  | .zero => 1
  | .succ n x => n + x.cnt
  | .max a b => a.cnt + b.cnt + 1
  | .imax a b => a.cnt + b.cnt + 1
  | .param _ => 1
def It.params : It → List ByteArray
  | .zero => []
  | .succ _ x => x.params
  | .max a b => a.params ++ b.params
  | .imax a b => a.params ++ b.params
  | .param s => [s]
theorem cnt_around (x : It) : (sAround x).cnt = x.cnt + 1 := by
  cases x <;> simp [sAround, It.cnt] <;> omega
theorem params_around (x : It) : (sAround x).params = x.params := by
  cases x <;> simp [sAround, It.params]
theorem it_cnt : ∀ t : Tr, t.ok → t.it.cnt = t.cnt
  | .leaf k s, _ => by by_cases h : k = 1 <;> simp [Tr.it, Tr.cnt, It.cnt, h]
  | .one k s a, h => by simp [Tr.it, Tr.cnt, cnt_around, it_cnt a h.2.2]; omega
  | .two k s a b, h => by
    have ha := it_cnt a h.2.2.1
    have hb := it_cnt b h.2.2.2
    rcases h.1 with rfl | rfl
    · simp [Tr.it, Tr.cnt, It.cnt, ha, hb]; omega
    · simp [Tr.it, Tr.cnt, It.cnt, ha, hb]; omega
/-- The trees of all nodes, in the order of the nodes. -/
def Tr.its : Tr → List It
  | .leaf k s => [(Tr.leaf k s).it]
  | .one k s a => a.its ++ [(Tr.one k s a).it]
  | .two k s a b => a.its ++ b.its ++ [(Tr.two k s a b).it]
theorem its_len : ∀ t : Tr, t.its.length = t.cnt
  | .leaf _ _ => rfl
  | .one _ _ a => by simp [Tr.its, Tr.cnt, its_len a]; omega
  | .two _ _ a b => by simp [Tr.its, Tr.cnt, its_len a, its_len b]; omega
theorem its_last : ∀ t : Tr, t.its[t.cnt - 1]? = some t.it
  | .leaf _ _ => rfl
  | .one k s a => by
    have := its_len a
    simp only [Tr.its, Tr.cnt]
    rw [List.getElem?_append_right (by omega)]
    rw [show 1 + a.cnt - 1 - a.its.length = 0 from by omega]; rfl
  | .two k s a b => by
    have := its_len a
    have := its_len b
    simp only [Tr.its, Tr.cnt]
    rw [List.getElem?_append_right (by simp; omega)]
    rw [show 1 + a.cnt + b.cnt - 1 - (a.its ++ b.its).length = 0 from by simp; omega]; rfl

/-- What a node says of its tree, the trees of its kids at their places (the first node standing at place o). -/
def NodeIt (o : Nat) (nd : Nd) (i : Nat) (xs : List It) (x : It) : Prop :=
  (nd.k = 1 ∧ x = .zero) ∨ (nd.k = 5 ∧ x = .param nd.s) ∨
  (nd.k = 2 ∧ ∃ q a, nd.kids = [((o + q : Nat) : Int)] ∧ q < i ∧ xs[q]? = some a ∧ x = sAround a) ∨
  (nd.k = 3 ∧ ∃ q r a b, nd.kids = [((o + q : Nat) : Int), ((o + r : Nat) : Int)] ∧ q < i ∧ r < i ∧ xs[q]? = some a ∧ xs[r]? = some b ∧ x = .max a b) ∨
  (nd.k = 4 ∧ ∃ q r a b, nd.kids = [((o + q : Nat) : Int), ((o + r : Nat) : Int)] ∧ q < i ∧ r < i ∧ xs[q]? = some a ∧ xs[r]? = some b ∧ x = .imax a b)
theorem get_left {α : Type} {xs : List α} {q : Nat} {a : α} (ys : List α) (h : xs[q]? = some a) : (xs ++ ys)[q]? = some a := by
  rw [List.getElem?_append_left (List.getElem?_eq_some_iff.1 h).1]; exact h
theorem get_right {α : Type} {xs : List α} {q : Nat} {a : α} (ys : List α) (h : xs[q]? = some a) : (ys ++ xs)[ys.length + q]? = some a := by
  rw [List.getElem?_append_right (by omega), show ys.length + q - ys.length = q from by omega]; exact h
theorem NodeIt.left {o i : Nat} {nd : Nd} {xs : List It} {x : It} (h : NodeIt o nd i xs x) (ys : List It) : NodeIt o nd i (xs ++ ys) x := by
  rcases h with h | h | ⟨h, q, a, h1, h2, h3, h4⟩ | ⟨h, q, r, a, b, h1, h2, h3, h4, h5, h6⟩ | ⟨h, q, r, a, b, h1, h2, h3, h4, h5, h6⟩
  · exact .inl h
  · exact .inr (.inl h)
  · exact .inr (.inr (.inl ⟨h, q, a, h1, h2, get_left _ h3, h4⟩))
  · exact .inr (.inr (.inr (.inl ⟨h, q, r, a, b, h1, h2, h3, get_left _ h4, get_left _ h5, h6⟩)))
  · exact .inr (.inr (.inr (.inr ⟨h, q, r, a, b, h1, h2, h3, get_left _ h4, get_left _ h5, h6⟩)))
theorem NodeIt.right {o i : Nat} {nd : Nd} {xs : List It} {x : It} (ys : List It) (h : NodeIt (o + ys.length) nd i xs x) : NodeIt o nd (ys.length + i) (ys ++ xs) x := by
  rcases h with h | h | ⟨h, q, a, h1, h2, h3, h4⟩ | ⟨h, q, r, a, b, h1, h2, h3, h4, h5, h6⟩ | ⟨h, q, r, a, b, h1, h2, h3, h4, h5, h6⟩
  · exact .inl h
  · exact .inr (.inl h)
  · exact .inr (.inr (.inl ⟨h, ys.length + q, a, by rw [h1, Nat.add_assoc], by omega, get_right _ h3, h4⟩))
  · exact .inr (.inr (.inr (.inl ⟨h, ys.length + q, ys.length + r, a, b, by rw [h1, Nat.add_assoc, Nat.add_assoc], by omega, by omega, get_right _ h4, get_right _ h5, h6⟩)))
  · exact .inr (.inr (.inr (.inr ⟨h, ys.length + q, ys.length + r, a, b, by rw [h1, Nat.add_assoc, Nat.add_assoc], by omega, by omega, get_right _ h4, get_right _ h5, h6⟩)))
theorem snoc_cases {α : Type} {xs : List α} {z a : α} {i : Nat} (h : (xs ++ [z])[i]? = some a) : (xs[i]? = some a ∧ i < xs.length) ∨ (i = xs.length ∧ a = z) := by
  by_cases hl : i < xs.length
  · rw [List.getElem?_append_left hl] at h; exact .inl ⟨h, hl⟩
  · rw [List.getElem?_append_right (by omega)] at h
    by_cases e : i - xs.length = 0
    · rw [e] at h; simp at h; exact .inr ⟨by omega, h.symm⟩
    · rw [List.getElem?_eq_none (by simp; omega)] at h; cases h
theorem its_node : ∀ (t : Tr) (o : Nat), t.ok → ∀ i nd x, (t.flat o)[i]? = some nd → t.its[i]? = some x → NodeIt o nd i t.its x
  | .leaf k s, o, hok, i, nd, x, h1, h2 => by
    simp only [Tr.flat, Tr.its] at h1 h2 ⊢
    have hi : i = 0 := by
      by_cases e : i = 0
      · exact e
      · rw [List.getElem?_eq_none (by simp; omega)] at h1; cases h1
    subst hi
    simp at h1 h2
    subst h1 h2
    rcases hok.1 with rfl | rfl
    · exact .inl ⟨rfl, by simp [Tr.it]⟩
    · exact .inr (.inl ⟨rfl, by simp [Tr.it]⟩)
  | .one k s a, o, hok, i, nd, x, h1, h2 => by
    obtain ⟨rfl, _, ha⟩ := hok
    have l1 := Tr.flat_len a o
    have l2 := its_len a
    have lp := Tr.cnt_pos a
    simp only [Tr.flat, Tr.its] at h1 h2 ⊢
    rcases snoc_cases h1 with ⟨h1, hi⟩ | ⟨hi, rfl⟩
    · rw [List.getElem?_append_left (by omega)] at h2
      exact (its_node a o ha i nd x h1 h2).left _
    · rcases snoc_cases h2 with ⟨_, hj⟩ | ⟨_, rfl⟩
      · omega
      · exact .inr (.inr (.inl ⟨rfl, a.cnt - 1, a.it, by simp; omega, by omega, get_left _ (its_last a), rfl⟩))
  | .two k s a b, o, hok, i, nd, x, h1, h2 => by
    obtain ⟨hk, _, ha, hb⟩ := hok
    have l1 := Tr.flat_len a o
    have l2 := its_len a
    have l3 := Tr.flat_len b (o + a.cnt)
    have l4 := its_len b
    have lp := Tr.cnt_pos a
    have lq := Tr.cnt_pos b
    simp only [Tr.flat, Tr.its] at h1 h2 ⊢
    rcases snoc_cases h1 with ⟨h1, hi⟩ | ⟨hi, rfl⟩
    · rw [List.getElem?_append_left (by simp at hi ⊢; omega)] at h2
      by_cases hl : i < a.cnt
      · rw [List.getElem?_append_left (by omega)] at h1 h2
        exact ((its_node a o ha i nd x h1 h2).left _).left _
      · rw [List.getElem?_append_right (by omega)] at h1 h2
        rw [l1] at h1
        rw [l2] at h2
        have h := its_node b (o + a.cnt) hb (i - a.cnt) nd x h1 h2
        rw [← l2] at h
        have h' := h.right a.its
        rw [show a.its.length + (i - a.its.length) = i from by omega] at h'
        exact h'.left _
    · rcases snoc_cases h2 with ⟨_, hj⟩ | ⟨_, rfl⟩
      · simp at hi hj; omega
      · have g1 := get_left ([(Tr.two k s a b).it]) (get_left b.its (its_last a))
        have g2 := get_left ([(Tr.two k s a b).it]) (get_right a.its (its_last b))
        simp at hi
        rcases hk with rfl | rfl
        · exact .inr (.inr (.inr (.inl ⟨rfl, a.cnt - 1, a.its.length + (b.cnt - 1), a.it, b.it, by simp; omega, by omega, by omega, g1, g2, by simp [Tr.it]⟩)))
        · exact .inr (.inr (.inr (.inr ⟨rfl, a.cnt - 1, a.its.length + (b.cnt - 1), a.it, b.it, by simp; omega, by omega, by omega, g1, g2, by simp [Tr.it]⟩)))
end Go.Proofs.YtcagcfhnbphggaaGreatDoor
