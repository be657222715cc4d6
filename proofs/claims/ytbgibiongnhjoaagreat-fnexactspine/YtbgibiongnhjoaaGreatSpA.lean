/- The specification's trees, maybe too great: nodes that stand for trees; l3Under, l3With, l3Var. -/
import Derived.Test.YtbgibiongnhjoaaGreatFoA
namespace Go.Proofs.YtbgibiongnhjoaaGreat
open Go.ChangeShapes Go.WideShapes Go.ChangeAt Go.RowKit

/-- A node of the specification's stands for a tree, which may be too great; its rows lie in blocks that Q lets by. -/
def SpG (Q : Nat → Prop) (w : World) : Tt → Nat → Prop
  | .t0 h, p => FnAt Q w p (h.td []) [] (Tt.t0 h).zG
  | .t1 h a, p => ∃ pa, SpG Q w a pa ∧ FnAt Q w p (h.td []) [pa] (Tt.t1 h a).zG
  | .t2 h a b, p => ∃ pa pb, SpG Q w a pa ∧ SpG Q w b pb ∧ FnAt Q w p (h.td []) [pa, pb] (Tt.t2 h a b).zG
  | .t3 h a b c, p => ∃ pa pb pc, SpG Q w a pa ∧ SpG Q w b pb ∧ SpG Q w c pc ∧ FnAt Q w p (h.td []) [pa, pb, pc] (Tt.t3 h a b c).zG
theorem SpG.to {Q R : Nat → Prop} {w w' : World} (hc : Carry Q R w w') : ∀ {T : Tt} {p : Nat}, SpG Q w T p → SpG R w' T p
  | .t0 _, _, h => FnAt.to h hc
  | .t1 _ _, _, ⟨pa, h1, h⟩ => ⟨pa, h1.to hc, FnAt.to h hc⟩
  | .t2 _ _ _, _, ⟨pa, pb, h1, h2, h⟩ => ⟨pa, pb, h1.to hc, h2.to hc, FnAt.to h hc⟩
  | .t3 _ _ _ _, _, ⟨pa, pb, pc, h1, h2, h3, h⟩ => ⟨pa, pb, pc, h1.to hc, h2.to hc, h3.to hc, FnAt.to h hc⟩
theorem SpG.keep {Q : Nat → Prop} {w w' : World} {T : Tt} {p : Nat} (h : SpG Q w T p) (hb : Below w.heap.size w w') : SpG Q w' T p := h.to (Carry.below hb)
theorem SpG.weak {Q R : Nat → Prop} {w : World} {T : Tt} {p : Nat} (h : SpG Q w T p) (hq : ∀ b, b < w.heap.size → Q b → R b) : SpG R w T p :=
  h.to ⟨fun _ _ h => h, fun b hb hl => ⟨hq b hl hb, fun _ _ h => h⟩, fun _ _ h => h⟩
/-- A tree that is not too great. -/
theorem SpT.toG {Q : Nat → Prop} {w : World} : ∀ {T : Tt} {p : Nat}, T.all varP → T.cnt ≤ 20000 → SpT Q w T p → SpG Q w T p
  | .t0 h, p, hp, hc, hs => by
    have e := zG_eq (.t0 h) hp hc
    show FnAt Q w p (h.td []) [] (Tt.t0 h).zG
    rw [e]; exact hs
  | .t1 h a, p, hp, hc, ⟨pa, h1, hs⟩ => by
    have e := zG_eq (.t1 h a) hp hc
    simp only [Tt.cnt] at hc
    refine ⟨pa, h1.toG hp.2 (by omega), ?_⟩
    rw [e]; exact hs
  | .t2 h a b, p, hp, hc, ⟨pa, pb, h1, h2, hs⟩ => by
    have e := zG_eq (.t2 h a b) hp hc
    simp only [Tt.cnt] at hc
    refine ⟨pa, pb, h1.toG hp.2.1 (by omega), h2.toG hp.2.2 (by omega), ?_⟩
    rw [e]; exact hs
  | .t3 h a b c, p, hp, hc, ⟨pa, pb, pc, h1, h2, h3, hs⟩ => by
    have e := zG_eq (.t3 h a b c) hp hc
    simp only [Tt.cnt] at hc
    refine ⟨pa, pb, pc, h1.toG hp.2.1 (by omega), h2.toG hp.2.2.1 (by omega), h3.toG hp.2.2.2 (by omega), ?_⟩
    rw [e]; exact hs
theorem spg_open {Q : Nat → Prop} {w : World} {T : Tt} {p : Nat} (h : SpG Q w T p) : ∃ ps : List Nat, ps.length = T.kids.length ∧ FnAt Q w p (T.hd.td []) ps T.zG ∧ ∀ j (h1 : j < ps.length) (h2 : j < T.kids.length), SpG Q w T.kids[j] ps[j] := by
  cases T with
  | t0 hd => exact ⟨[], rfl, h, fun j h1 => by simp at h1⟩
  | t1 hd x =>
    obtain ⟨p, h1, h⟩ := h
    refine ⟨[p], rfl, h, fun j h2 h3 => ?_⟩
    have e : j = 0 := by simp at h2; omega
    subst e; exact h1
  | t2 hd x y =>
    obtain ⟨p, q, h1, h2, h⟩ := h
    refine ⟨[p, q], rfl, h, fun j h3 h4 => ?_⟩
    rcases (show j = 0 ∨ j = 1 by simp at h3; omega) with rfl | rfl
    · exact h1
    · exact h2
  | t3 hd x y z =>
    obtain ⟨p, q, r, h1, h2, h3, h⟩ := h
    refine ⟨[p, q, r], rfl, h, fun j h4 h5 => ?_⟩
    rcases (show j = 0 ∨ j = 1 ∨ j = 2 by simp at h4; omega) with rfl | rfl | rfl
    · exact h1
    · exact h2
    · exact h3
end Go.Proofs.YtbgibiongnhjoaaGreat
