/- Plain facts on lists of bytes: what a text's parts between dots are, and that cutting at the first dot, or going on byte by byte, gives them. No program is named here. -/
import Derived.Lib.Strings
import Derived.Lib.Bytealg
namespace Go.Proofs.YtmdcdapjjodpiaaDoor

def parts : List UInt8 → List (List UInt8)
  | [] => [[]]
  | c :: l => if c = 46 then [] :: parts l else match parts l with | [] => [[c]] | p :: ps => (c :: p) :: ps

theorem parts_none : ∀ (l : List UInt8), 46 ∉ l → parts l = [l]
  | [], _ => rfl
  | c :: l, h => by
    have hc : ¬ c = 46 := fun e => h (by simp [e])
    have hl : 46 ∉ l := fun e => h (by simp [e])
    simp [parts, hc, parts_none l hl]
theorem parts_at : ∀ (a b : List UInt8), 46 ∉ a → parts (a ++ 46 :: b) = a :: parts b
  | [], b, _ => by simp [parts]
  | c :: a, b, h => by
    have hc : ¬ c = 46 := fun e => h (by simp [e])
    have hl : 46 ∉ a := fun e => h (by simp [e])
    simp [parts, hc, parts_at a b hl]
theorem parts_len : ∀ (l : List UInt8), (parts l).length ≤ l.length + 1
  | [] => by simp [parts]
  | c :: l => by
    have ih := parts_len l
    unfold parts
    split
    · simp; omega
    · split
      · simp
      · rename_i h; rw [h] at ih; simp at ih ⊢; omega

/-- Where a loop over the bytes stands: at byte k, the part at hand began at f, the parts ahead of it are ps. -/
def CutAt (L : List UInt8) (k f : Nat) (ps : List (List UInt8)) : Prop :=
  (k ≤ L.length ∧ f ≤ k ∧ 46 ∉ (L.drop f).take (k - f) ∧ parts L = ps ++ parts (L.drop f)) ∨ (k = L.length + 1 ∧ parts L = ps)
theorem cut_start (L : List UInt8) : CutAt L 0 0 [] := .inl ⟨Nat.zero_le _, Nat.le_refl _, by simp, by simp⟩
theorem cut_last {L : List UInt8} {f : Nat} {ps : List (List UInt8)} (h : CutAt L L.length f ps) : f ≤ L.length ∧ CutAt L (L.length + 1) (L.length + 1) (ps ++ [(L.drop f).take (L.length - f)]) := by
  rcases h with ⟨_, hf, hn, hp⟩ | ⟨h, _⟩
  · have e : (L.drop f).take (L.length - f) = L.drop f := List.take_of_length_le (by simp)
    refine ⟨hf, .inr ⟨rfl, ?_⟩⟩
    rw [e] at hn ⊢
    rw [hp, parts_none _ hn]
  · omega
theorem drop_split (L : List UInt8) (k f : Nat) (hk : k < L.length) (hf : f ≤ k) : L.drop f = (L.drop f).take (k - f) ++ L[k] :: L.drop (k + 1) := by
  have h1 : (L.drop f).drop (k - f) = L[k] :: L.drop (k + 1) := by
    rw [List.drop_drop, show f + (k - f) = k from by omega, List.drop_eq_getElem_cons hk]
  have h2 := List.take_append_drop (k - f) (L.drop f)
  rw [h1] at h2
  exact h2.symm
theorem cut_dot {L : List UInt8} {k f : Nat} {ps : List (List UInt8)} (hk : k < L.length) (h : CutAt L k f ps) (hc : L[k] = 46) : f ≤ k ∧ CutAt L (k + 1) (k + 1) (ps ++ [(L.drop f).take (k - f)]) := by
  rcases h with ⟨_, hf, hn, hp⟩ | ⟨h, _⟩
  · have e := drop_split L k f hk hf
    refine ⟨hf, .inl ⟨by omega, Nat.le_refl _, by simp, ?_⟩⟩
    rw [hc] at e
    have e2 : parts (L.drop f) = (L.drop f).take (k - f) :: parts (L.drop (k + 1)) := by
      conv => lhs; rw [e]
      exact parts_at _ _ hn
    rw [hp, e2]; simp
  · omega
theorem cut_byte {L : List UInt8} {k f : Nat} {ps : List (List UInt8)} (hk : k < L.length) (h : CutAt L k f ps) (hc : L[k] ≠ 46) : CutAt L (k + 1) f ps := by
  rcases h with ⟨_, hf, hn, hp⟩ | ⟨h, _⟩
  · refine .inl ⟨by omega, by omega, ?_, hp⟩
    have hl : k - f < (L.drop f).length := by simp; omega
    rw [show k + 1 - f = (k - f) + 1 from by omega, List.take_succ_eq_append_getElem hl]
    have : (L.drop f)[k - f] = L[k] := by simp [show f + (k - f) = k from by omega]
    rw [this]
    simp only [List.mem_append, List.mem_singleton, not_or]
    exact ⟨hn, fun e => hc e.symm⟩
  · omega
theorem cut_end {L : List UInt8} {f : Nat} {ps : List (List UInt8)} (h : CutAt L (L.length + 1) f ps) : parts L = ps := by
  rcases h with ⟨h, _⟩ | ⟨_, h⟩
  · omega
  · exact h

/-- The first dot, as the library's search tells it. -/
theorem index_miss : ∀ (l : List UInt8), Lib.indexByte l 46 < 0 → 46 ∉ l
  | [], _ => by simp
  | c :: l, h => by
    have hg := Lib.indexByte_ge l 46
    unfold Lib.indexByte at h
    split at h
    · omega
    · rename_i hc
      split at h
      · rename_i h1
        have := index_miss l (by have := beq_iff_eq.1 h1; omega)
        simp only [List.mem_cons, not_or]
        exact ⟨fun e => hc (by simp [e]), this⟩
      · rename_i h1
        have : Lib.indexByte l 46 ≠ -1 := fun e => h1 (by simp [e])
        omega
theorem index_hit : ∀ (l : List UInt8) (i : Nat), Lib.indexByte l 46 = i → i < l.length ∧ 46 ∉ l.take i ∧ l = l.take i ++ 46 :: l.drop (i + 1)
  | [], i, h => by simp [Lib.indexByte] at h
  | c :: l, i, h => by
    unfold Lib.indexByte at h
    split at h
    · rename_i hc
      have : c = 46 := by simpa using hc
      have : i = 0 := by omega
      subst this; subst c; simp
    · rename_i hc
      split at h
      · omega
      · rename_i h1
        obtain ⟨j, hj⟩ : ∃ j : Nat, Lib.indexByte l 46 = j := by
          have hg := Lib.indexByte_ge l 46
          have : Lib.indexByte l 46 ≠ -1 := fun e => h1 (by simp [e])
          exact ⟨(Lib.indexByte l 46).toNat, by omega⟩
        have : i = j + 1 := by omega
        subst this
        obtain ⟨a, b, c'⟩ := index_hit l j hj
        refine ⟨by simp; omega, ?_, ?_⟩
        · simp only [List.take_succ_cons, List.mem_cons, not_or]
          exact ⟨fun e => hc (by simp [e]), b⟩
        · simp only [List.take_succ_cons, List.drop_succ_cons, List.cons_append]
          rw [← c']
end Go.Proofs.YtmdcdapjjodpiaaDoor
