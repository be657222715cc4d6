/- What the specification's LevelSign answers: -1 where the level is not valid, else when its number is 0. -/
import Derived.Test.YtdbepifdmcjjpaaGreatTriesW
import Derived.Test.YtdbepifdmcjjpaaGreatSpec
import Derived.Test.YtdbepifdmcjjpaaGreatSign
namespace Go.Proofs.YtdbepifdmcjjpaaGreat
open Go.ChangeShapes Go.WideShapes Go.ChangeAt Go.RowKit

theorem hasB_app {a b : List ByteArray} {x : ByteArray} (h : hasB a x = true) : hasB (a ++ b) x = true := by
  unfold hasB at h ⊢
  rw [List.any_append, h]; rfl
theorem addS_has {ss : List ByteArray} {k : Int} {s x : ByteArray} (h : hasB ss x = true) : hasB (addS ss k s) x = true := by
  unfold addS; split
  · exact hasB_app h
  · exact h
theorem addS_own (ss : List ByteArray) (s : ByteArray) : hasB (addS ss 5 s) s = true := by
  unfold addS
  by_cases h : hasB ss s = false
  · rw [if_pos ⟨rfl, h⟩]; unfold hasB; simp
  · rw [if_neg (by simp [h])]; simpa using h
theorem names_has : ∀ (t : Tr) (ss : List ByteArray) (x : ByteArray), hasB ss x = true → hasB (t.names ss) x = true
  | .leaf _ _, _, _, h => addS_has h
  | .one _ _ a, _, x, h => names_has a _ x (addS_has h)
  | .two _ _ a b, _, x, h => names_has b _ x (names_has a _ x (addS_has h))
theorem names_params : ∀ (t : Tr) (ss : List ByteArray), ∀ x ∈ t.params, hasB (t.names ss) x = true
  | .leaf k s, ss, x, hx => by
    simp only [Tr.params] at hx
    split at hx
    · rename_i h5
      simp at hx
      subst hx h5
      exact addS_own ss x
    · simp at hx
  | .one k s a, ss, x, hx => names_params a _ x hx
  | .two k s a b, ss, x, hx => by
    simp only [Tr.params, List.mem_append] at hx
    rcases hx with hx | hx
    · exact names_has b _ x (names_params a _ x hx)
    · exact names_params b _ x hx

theorem countP_snoc {α : Type} (p : α → Bool) (l : List α) (k : Nat) (h : k < l.length) : (l.take (k + 1)).countP p = (l.take k).countP p + (if p l[k] then 1 else 0) := by
  rw [List.take_succ_eq_append_getElem h, List.countP_append]
  simp [List.countP_cons]

/-- What a valid level gives: its tree. -/
def OkTree (ns : List Nd) (t : Tr) : Prop := ns = t.flat 0 ∧ t.ok ∧ t.names [] = namesOf ns ∧ t.cnt = ns.length ∧ ns.length ≤ 64 ∧ (namesOf ns).length ≤ 6
theorem lvl_bounds {ns : List Nd} (h : lvlB ns = true) : ns.length ≤ 64 ∧ (namesOf ns).length ≤ 6 := by
  unfold lvlB at h
  rw [Bool.and_eq_true, Bool.and_eq_true, decide_eq_true_eq, decide_eq_true_eq] at h
  refine ⟨h.1.2, ?_⟩
  have h2 := h.2
  split at h2
  · rw [Bool.and_eq_true, decide_eq_true_eq, decide_eq_true_eq] at h2; exact h2.2
  · cases h2
end Go.Proofs.YtdbepifdmcjjpaaGreat
