/- What withKids answers: the node with other kids, or the one that is too great. -/
import Derived.Test.YtbgibiongnhjoaaGreatFoA
import Derived.Test.YtbgibiongnhjoaaGreatStH
namespace Go.Proofs.YtbgibiongnhjoaaGreat
open Go.ChangeShapes Go.WideShapes Go.ChangeAt Go.RowKit

theorem lv_small {h : Hd} {c : Nat} (hp : nodeP h c) : h.lv.length ≤ 6 ∧ ∀ l ∈ h.lv, l.length ≤ 64 := by
  obtain ⟨_, h2⟩ := hp
  refine ⟨?_, fun l hl => ?_⟩
  · simp only [tfieldsB, tlevB, Bool.and_eq_true, decide_eq_true_eq] at h2
    have h3 : ((h.td []).lv.length : Int) ≤ mostL (h.td []).k := h2.2.1.2
    have h4 : mostL (h.td []).k ≤ 6 := by unfold mostL; repeat (first | omega | split)
    have h5 : (h.td []).lv.length = h.lv.length := rfl
    omega
  · have h3 := lev_of h2 l hl
    simp only [lvlB, Bool.and_eq_true, decide_eq_true_eq] at h3
    exact h3.1.2
/-- What the levels of a node of the store are. -/
theorem ent_levs {base : Nat} {w : World} {L : List (Nk × Nat × Nat)} {Z : Nat → Zs} {H : Nat → Bool} {h : Hd} {ps : List Nat} {b : Nat} (he : EntOk base w L Z H (keyP h ps) b) (hv : ∀ l ∈ h.lv, lvlB l = true) : ∃ lv, NbAt w b (tmL (keyP h ps) lv (Z b) (H b)) ∧ (∀ w', Below base w w' → LevsAt w' lv h.lv) ∧ H b = hpP (parL h.lv) (fun j => H (((keyP h ps).kid j).getD 0)) (tkidsN h.k).toNat := by
  obtain ⟨lv, ls, h1, h2, ⟨h3, h4⟩, h5⟩ := he.node
  have e : ls = h.lv := by
    refine spell_inj h4 hv ?_
    have h6 : (keyP h ps).sp = ⟨(spell h.lv).toArray⟩ := rfl
    rw [h3] at h6
    have h7 := congrArg ByteArray.data h6
    simpa using h7
  subst e
  exact ⟨lv, h1, h2, h5⟩
theorem heap_cell {w w' : World} {b o : Nat} {v : Value} (h : w'.heap[b]? = w.heap[b]?) (hc : w.cell? ⟨b, o, none⟩ = some v) : w'.cell? ⟨b, o, none⟩ = some v := by
  rw [World.cell?_of_block (w := w) (a := ⟨b, o, none⟩) h]; exact hc
end Go.Proofs.YtbgibiongnhjoaaGreat
