/- What the specification's l1Weigh answers at a tree: the number of the level for the values beside the names. -/
import Derived.Test.YtlmhpdmgjfankaaDoorFlat
namespace Go.Proofs.YtlmhpdmgjfankaaDoor
open Go.ChangeShapes Go.WideShapes Go.ChangeAt Go.RowKit

/-- The greater of two numbers, 0 for the kind 4 where the second is 0. -/
def joinN (k x y : Int) : Int := if k = 4 ∧ y = 0 then 0 else if y < x then x else y
def Tr.weigh (f : ByteArray → Int) : Tr → Int
  | .leaf k s => if k = 1 then 0 else f s
  | .one _ _ a => a.weigh f + 1
  | .two k _ a b => joinN k (a.weigh f) (b.weigh f)
def Tr.params : Tr → List ByteArray
  | .leaf k s => if k = 5 then [s] else []
  | .one _ _ a => a.params
  | .two _ _ a b => a.params ++ b.params
/-- The value beside the first place of a name. -/
def valAt (names : List ByteArray) (vals : List Int) (s : ByteArray) : Int := vals.getD (atS names s).toNat 0
theorem Tr.weigh_bd (f : ByteArray → Int) (M : Int) (hM : 0 ≤ M) (hf : ∀ s, 0 ≤ f s ∧ f s ≤ M) : ∀ t : Tr, 0 ≤ t.weigh f ∧ t.weigh f ≤ M + t.cnt
  | .leaf k s => by
    have := hf s
    simp only [Tr.weigh, Tr.cnt]; split <;> omega
  | .one k s a => by
    have := Tr.weigh_bd f M hM hf a
    simp only [Tr.weigh, Tr.cnt]; omega
  | .two k s a b => by
    have := Tr.weigh_bd f M hM hf a
    have := Tr.weigh_bd f M hM hf b
    simp only [Tr.weigh, Tr.cnt, joinN]; split
    · omega
    · split <;> omega
theorem valAt_bd (names : List ByteArray) (vals : List Int) (h : ∀ v ∈ vals, 0 ≤ v ∧ v ≤ 1000000) (s : ByteArray) : 0 ≤ valAt names vals s ∧ valAt names vals s ≤ 1000000 := by
  unfold valAt
  rw [List.getD_eq_getElem?_getD]
  cases e : vals[(atS names s).toNat]? with
  | none => simp
  | some v => simpa using h v (List.mem_of_getElem? e)

/-- What every walk below is told of the two rows. -/
structure Vals (w : World) (vn vv : Value) (names : List ByteArray) (vals : List Int) : Prop where
  n : StrsAt w vn names
  v : IntsAt w vv vals
  len : names.length = vals.length
  bd : ∀ x ∈ vals, 0 ≤ x ∧ x ≤ 1000000

theorem atS_lt (l : List ByteArray) (s : ByteArray) (h : hasB l s = true) : 0 ≤ atS l s ∧ atS l s < l.length := by
  have h1 := atS_mem l s
  rw [h] at h1
  have h0 : 0 ≤ atS l s := by simpa using h1
  refine ⟨h0, ?_⟩
  unfold atS at h0 ⊢
  split
  · rename_i i hi
    rw [List.findIdx?_eq_some_iff_getElem] at hi
    obtain ⟨hl, _⟩ := hi
    omega
  · rename_i hi; rw [hi] at h0; simp at h0

end Go.Proofs.YtlmhpdmgjfankaaDoor
