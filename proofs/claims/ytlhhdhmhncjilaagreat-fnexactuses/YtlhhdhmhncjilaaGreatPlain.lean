/- What a valid level is, as a plain function of its nodes, and the facts on it that the walks want. No program is named here. -/
import Derived.Test.YtlhhdhmhncjilaaGreatSz
namespace Go.Proofs.YtlhhdhmhncjilaaGreat

def kidsN (k : Int) : Int := if k = 1 ∨ k = 5 then 0 else if k = 2 then 1 else if k = 3 ∨ k = 4 then 2 else -1
theorem kidsN_cases (k : Int) : kidsN k = -1 ∨ kidsN k = 0 ∨ kidsN k = 1 ∨ kidsN k = 2 := by
  unfold kidsN; split
  · simp
  · split
    · simp
    · split <;> simp
theorem kidsN_neg (k : Int) : kidsN k = -1 ↔ (k < 1 ∨ 5 < k) := by
  unfold kidsN; split
  · simp; omega
  · split
    · simp; omega
    · split
      · simp; omega
      · simp; omega

def paramB (s : ByteArray) : Bool := shortB s && !(s.toList == [109, 97, 120]) && !(s.toList == [105, 109, 97, 120])
def fieldsB (nd : Nd) : Bool := if nd.k = 5 then paramB nd.s else nd.s.toList.isEmpty

/-- One node more: the roots of the stretches that have no parent yet. -/
def stepN (st : List Int) (i : Nat) (nd : Nd) : Option (List Int) :=
  if kidsN nd.k < 0 ∨ (st.length : Int) < kidsN nd.k ∨ fieldsB nd = false ∨ nd.kids ≠ st.drop (st.length - (kidsN nd.k).toNat) then none
  else some (st.take (st.length - (kidsN nd.k).toNat) ++ [(i : Int)])
def runTo (ns : List Nd) : Nat → Option (List Int)
  | 0 => some []
  | i + 1 => match runTo ns i, ns[i]? with
    | some st, some nd => stepN st i nd
    | _, _ => none
theorem runTo_succ (ns : List Nd) (i : Nat) (h : i < ns.length) (st : List Int) (hr : runTo ns i = some st) : runTo ns (i + 1) = stepN st i ns[i] := by
  simp [runTo, hr, h]
theorem runTo_none (ns : List Nd) (i j : Nat) (hij : i ≤ j) (h : runTo ns i = none) : runTo ns j = none := by
  induction j with
  | zero => have : i = 0 := by omega
            subst this; simp [runTo] at h
  | succ j ih =>
    by_cases e : i = j + 1
    · subst e; exact h
    · simp [runTo, ih (by omega)]
theorem runTo_len (ns : List Nd) (i : Nat) (st : List Int) (h : runTo ns i = some st) : st.length ≤ i := by
  induction i generalizing st with
  | zero => simp [runTo] at h; subst h; simp
  | succ i ih =>
    unfold runTo at h
    split at h
    · rename_i st' nd h1 h2
      have := ih st' h1
      unfold stepN at h
      split at h
      · cases h
      · cases h; simp; omega
    · cases h

/-- The parameters, each once. -/
def hasB (l : List ByteArray) (s : ByteArray) : Bool := l.any (fun x => decide (x = s))
def addName (l : List ByteArray) (nd : Nd) : List ByteArray := if nd.k = 5 ∧ hasB l nd.s = false then l ++ [nd.s] else l
def namesOf (ns : List Nd) : List ByteArray := ns.foldl addName []
def lvlB (ns : List Nd) : Bool := decide (1 ≤ ns.length) && decide (ns.length ≤ 64) && (match runTo ns ns.length with | some st => decide (st.length = 1) && decide ((namesOf ns).length ≤ 6) | none => false)

theorem names_snoc (ns : List Nd) (i : Nat) (h : i < ns.length) : namesOf (ns.take (i + 1)) = addName (namesOf (ns.take i)) ns[i] := by
  unfold namesOf
  rw [List.take_succ_eq_append_getElem h, List.foldl_append]; rfl
theorem addName_len (l : List ByteArray) (nd : Nd) : l.length ≤ (addName l nd).length := by
  unfold addName; split <;> simp
theorem foldl_len (ns : List Nd) (l : List ByteArray) : l.length ≤ (ns.foldl addName l).length := by
  induction ns generalizing l with
  | nil => simp
  | cons x ns ih => exact Nat.le_trans (addName_len l x) (ih _)
theorem names_le (ns : List Nd) (i : Nat) : (namesOf (ns.take i)).length ≤ (namesOf ns).length := by
  unfold namesOf
  conv => rhs; rw [← List.take_append_drop i ns, List.foldl_append]
  exact foldl_len _ _

theorem beq_bytes (a b : ByteArray) : (a.toList == b.toList) = decide (a = b) := by
  rw [Bool.eq_iff_iff]
  simp only [beq_iff_eq, decide_eq_true_eq, ByteArray.toList_eq]
  constructor
  · intro h; cases a; cases b; simp at h; simp [h]
  · intro h; rw [h]

/-- The first place of a text in a list, -1 for none. -/
def atS (l : List ByteArray) (s : ByteArray) : Int := match l.findIdx? (fun x => decide (x = s)) with | some i => i | none => -1
theorem atS_found (l : List ByteArray) (s : ByteArray) (k : Nat) (h : k < l.length) (he : l[k] = s) (hn : ∀ j (_ : j < k), l[j] ≠ s) : atS l s = k := by
  unfold atS
  have : l.findIdx? (fun x => decide (x = s)) = some k := by
    rw [List.findIdx?_eq_some_iff_getElem]
    exact ⟨h, by simp [he], fun j hj => by simp [hn j hj]⟩
  rw [this]
theorem atS_none (l : List ByteArray) (s : ByteArray) (hn : ∀ j (h : j < l.length), l[j] ≠ s) : atS l s = -1 := by
  unfold atS
  have : l.findIdx? (fun x => decide (x = s)) = none := by
    rw [List.findIdx?_eq_none_iff]
    intro x hx
    obtain ⟨j, hj, rfl⟩ := List.getElem_of_mem hx
    simp [hn j hj]
  rw [this]
theorem atS_mem (l : List ByteArray) (s : ByteArray) : decide (0 ≤ atS l s) = hasB l s := by
  rw [Bool.eq_iff_iff]; simp only [decide_eq_true_eq, hasB, List.any_eq_true]
  unfold atS
  split
  · rename_i i h
    rw [List.findIdx?_eq_some_iff_getElem] at h
    obtain ⟨h1, h2, _⟩ := h
    simp at h2
    exact ⟨fun _ => ⟨l[i], List.getElem_mem h1, h2⟩, fun _ => by omega⟩
  · rename_i h
    rw [List.findIdx?_eq_none_iff] at h
    constructor
    · intro h; omega
    · rintro ⟨x, hx, he⟩; have := h x hx; simp [he] at this
end Go.Proofs.YtlhhdhmhncjilaaGreat
