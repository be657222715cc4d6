/- Plain facts: a tree of a level, its nodes in the order kids first, and what one step over the nodes does to a stack of trees. -/
import Derived.Test.YtlhhdhmhncjilaaGreatNames
namespace Go.Proofs.YtlhhdhmhncjilaaGreat

/-- The nodes of a tree, kids first, the first one standing at place o. -/
def Tr.flat : Nat → Tr → List Nd
  | _, .leaf k s => [⟨k, s, []⟩]
  | o, .one k s a => a.flat o ++ [⟨k, s, [((o + a.cnt - 1 : Nat) : Int)]⟩]
  | o, .two k s a b => a.flat o ++ b.flat (o + a.cnt) ++ [⟨k, s, [((o + a.cnt - 1 : Nat) : Int), ((o + a.cnt + b.cnt - 1 : Nat) : Int)]⟩]
/-- The kinds of the nodes fit the numbers of their kids, and their texts fit the kinds. -/
def Tr.ok : Tr → Prop
  | .leaf k s => (k = 1 ∨ k = 5) ∧ fieldsB ⟨k, s, []⟩ = true
  | .one k s a => k = 2 ∧ fieldsB ⟨k, s, []⟩ = true ∧ a.ok
  | .two k s a b => (k = 3 ∨ k = 4) ∧ fieldsB ⟨k, s, []⟩ = true ∧ a.ok ∧ b.ok
theorem Tr.flat_len : ∀ (t : Tr) (o : Nat), (t.flat o).length = t.cnt
  | .leaf _ _, _ => rfl
  | .one _ _ a, o => by simp [Tr.flat, Tr.cnt, Tr.flat_len a]; omega
  | .two _ _ a b, o => by simp [Tr.flat, Tr.cnt, Tr.flat_len a, Tr.flat_len b]; omega
theorem Tr.cnt_pos : ∀ t : Tr, 1 ≤ t.cnt
  | .leaf _ _ => Nat.le_refl _
  | .one _ _ a => by simp [Tr.cnt]
  | .two _ _ a b => by simp [Tr.cnt]; omega
theorem addName_ne (acc : List ByteArray) (nd : Nd) (h : nd.k ≠ 5) : addName acc nd = acc := by simp [addName, h]
theorem Tr.names_flat : ∀ (t : Tr) (o : Nat) (acc : List ByteArray), t.ok → t.names acc = (t.flat o).foldl addName acc
  | .leaf k s, o, acc, _ => by simp [Tr.names, Tr.flat, addName, addS]
  | .one k s a, o, acc, h => by
    obtain ⟨rfl, _, ha⟩ := h
    simp only [Tr.names, Tr.flat, List.foldl_append, List.foldl_cons, List.foldl_nil]
    rw [addName_ne _ _ (by simp), ← Tr.names_flat a o acc ha]; simp [addS]
  | .two k s a b, o, acc, h => by
    obtain ⟨hk, _, ha, hb⟩ := h
    simp only [Tr.names, Tr.flat, List.foldl_append, List.foldl_cons, List.foldl_nil]
    have h5 : k ≠ 5 := by omega
    rw [addName_ne _ _ h5, ← Tr.names_flat a o acc ha, ← Tr.names_flat b (o + a.cnt) _ hb]; simp [addS, h5]

def cnts : List Tr → Nat
  | [] => 0
  | t :: ts => t.cnt + cnts ts
def flats : Nat → List Tr → List Nd
  | _, [] => []
  | o, t :: ts => t.flat o ++ flats (o + t.cnt) ts
def rootsOf : Nat → List Tr → List Int
  | _, [] => []
  | o, t :: ts => ((o + t.cnt - 1 : Nat) : Int) :: rootsOf (o + t.cnt) ts
theorem cnts_append (xs ys : List Tr) : cnts (xs ++ ys) = cnts xs + cnts ys := by
  induction xs with
  | nil => simp [cnts]
  | cons x xs ih => simp [cnts, ih]; omega
theorem flats_append (xs ys : List Tr) : ∀ o, flats o (xs ++ ys) = flats o xs ++ flats (o + cnts xs) ys := by
  induction xs with
  | nil => intro o; simp [flats, cnts]
  | cons x xs ih => intro o; simp [flats, cnts, ih, Nat.add_assoc]
theorem roots_append (xs ys : List Tr) : ∀ o, rootsOf o (xs ++ ys) = rootsOf o xs ++ rootsOf (o + cnts xs) ys := by
  induction xs with
  | nil => intro o; simp [rootsOf, cnts]
  | cons x xs ih => intro o; simp [rootsOf, cnts, ih, Nat.add_assoc]
theorem flats_len (ts : List Tr) : ∀ o, (flats o ts).length = cnts ts := by
  induction ts with
  | nil => intro o; rfl
  | cons t ts ih => intro o; simp [flats, cnts, ih, Tr.flat_len]
theorem roots_len (ts : List Tr) : ∀ o, (rootsOf o ts).length = ts.length := by
  induction ts with
  | nil => intro o; rfl
  | cons t ts ih => intro o; simp [rootsOf, ih]

/-- Where a walk over the nodes stands: k nodes are read, the trees ts stand on the stack. -/
structure Stands (ns : List Nd) (k : Nat) (st : List Int) (ts : List Tr) : Prop where
  flat : ns.take k = flats 0 ts
  roots : st = rootsOf 0 ts
  ok : ∀ t ∈ ts, t.ok
theorem Stands.start (ns : List Nd) : Stands ns 0 [] [] := ⟨by simp [flats], rfl, by simp⟩
theorem Stands.len {ns : List Nd} {k : Nat} {st : List Int} {ts : List Tr} (h : Stands ns k st ts) : st.length = ts.length := by rw [h.roots, roots_len]
theorem Stands.cnt {ns : List Nd} {k : Nat} {st : List Int} {ts : List Tr} (h : Stands ns k st ts) (hk : k ≤ ns.length) : cnts ts = k := by
  rw [← flats_len ts 0, ← h.flat]; simp; omega

theorem fieldsB_kids (nd : Nd) (l : List Int) : fieldsB ⟨nd.k, nd.s, l⟩ = fieldsB nd := rfl
theorem Stands.step {ns : List Nd} {k : Nat} {st : List Int} {xs ys : List Tr} {t : Tr} (h : Stands ns k st (xs ++ ys)) (hk : k < ns.length) (hok : t.ok) (hflat : t.flat (cnts xs) = flats (cnts xs) ys ++ [ns[k]]) :
    Stands ns (k + 1) (st.take xs.length ++ [(k : Int)]) (xs ++ [t]) := by
  have hc := h.cnt (Nat.le_of_lt hk)
  have hf := h.flat
  have hr := h.roots
  have hlen : t.cnt = cnts ys + 1 := by rw [← Tr.flat_len t (cnts xs), hflat]; simp [flats_len]
  rw [cnts_append] at hc
  rw [flats_append, Nat.zero_add] at hf
  rw [roots_append, Nat.zero_add] at hr
  refine ⟨?_, ?_, ?_⟩
  · rw [List.take_succ_eq_append_getElem hk, hf, flats_append, Nat.zero_add]
    simp [flats, hflat]
  · rw [roots_append, Nat.zero_add, hr, List.take_left' (by rw [roots_len])]
    simp only [rootsOf, List.append_cancel_left_eq, List.cons.injEq, and_true]
    omega
  · intro u hu
    rcases List.mem_append.1 hu with h1 | h1
    · exact h.ok u (by simp [h1])
    · simp at h1; subst h1; exact hok
theorem Stands.drop {ns : List Nd} {k : Nat} {st : List Int} {xs ys : List Tr} (h : Stands ns k st (xs ++ ys)) : st.drop xs.length = rootsOf (cnts xs) ys := by
  rw [h.roots, roots_append, Nat.zero_add, List.drop_left' (by rw [roots_len])]

/-- One node more, by the number of its kids. -/
theorem Stands.zero {ns : List Nd} {k : Nat} {st : List Int} {xs : List Tr} (h : Stands ns k st xs) (hk : k < ns.length) (hn : kidsN ns[k].k = 0) (hf : fieldsB ns[k] = true) (hkids : ns[k].kids = []) :
    Stands ns (k + 1) (st.take xs.length ++ [(k : Int)]) (xs ++ [.leaf ns[k].k ns[k].s]) := by
  have h' : Stands ns k st (xs ++ []) := by simpa using h
  refine h'.step hk ⟨?_, hf⟩ ?_
  · unfold kidsN at hn; split at hn
    · assumption
    · split at hn
      · cases hn
      · split at hn <;> cases hn
  · simp [Tr.flat, flats, ← hkids]
theorem Stands.one {ns : List Nd} {k : Nat} {st : List Int} {xs : List Tr} {a : Tr} (h : Stands ns k st (xs ++ [a])) (hk : k < ns.length) (hn : kidsN ns[k].k = 1) (hf : fieldsB ns[k] = true) (hkids : ns[k].kids = st.drop xs.length) :
    Stands ns (k + 1) (st.take xs.length ++ [(k : Int)]) (xs ++ [.one ns[k].k ns[k].s a]) := by
  refine h.step hk ⟨?_, hf, h.ok a (by simp)⟩ ?_
  · unfold kidsN at hn; split at hn
    · cases hn
    · split at hn
      · assumption
      · split at hn <;> cases hn
  · rw [h.drop] at hkids
    simp only [Tr.flat, flats, List.append_nil, List.append_cancel_left_eq, List.cons.injEq, and_true]
    simp only [rootsOf] at hkids
    rw [← hkids]
theorem Stands.two {ns : List Nd} {k : Nat} {st : List Int} {xs : List Tr} {a b : Tr} (h : Stands ns k st (xs ++ [a, b])) (hk : k < ns.length) (hn : kidsN ns[k].k = 2) (hf : fieldsB ns[k] = true) (hkids : ns[k].kids = st.drop xs.length) :
    Stands ns (k + 1) (st.take xs.length ++ [(k : Int)]) (xs ++ [.two ns[k].k ns[k].s a b]) := by
  refine h.step hk ⟨?_, hf, h.ok a (by simp), h.ok b (by simp)⟩ ?_
  · unfold kidsN at hn; split at hn
    · cases hn
    · split at hn
      · cases hn
      · split at hn
        · assumption
        · cases hn
  · rw [h.drop] at hkids
    simp only [Tr.flat, flats, List.append_nil, List.append_assoc, List.append_cancel_left_eq, List.cons.injEq, and_true]
    simp only [rootsOf] at hkids
    rw [← hkids]
theorem Stands.all {ns : List Nd} {st : List Int} {t : Tr} (h : Stands ns ns.length st [t]) : ns = t.flat 0 ∧ t.ok ∧ t.names [] = namesOf ns ∧ t.cnt = ns.length := by
  have hf := h.flat
  simp [flats] at hf
  have hok := h.ok t (by simp)
  exact ⟨hf, hok, by rw [Tr.names_flat t 0 [] hok, ← hf]; rfl, by rw [← Tr.flat_len t 0, ← hf]⟩
end Go.Proofs.YtlhhdhmhncjilaaGreat
