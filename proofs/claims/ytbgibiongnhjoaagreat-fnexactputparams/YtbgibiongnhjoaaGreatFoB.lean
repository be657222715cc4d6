/- What withKids answers: the node with other kids, or the one that is too great. -/
import Derived.Test.YtbgibiongnhjoaaGreatFoA
import Derived.Test.YtbgibiongnhjoaaGreatStH
namespace Go.Proofs.YtbgibiongnhjoaaGreat
open Go.ChangeShapes Go.WideShapes Go.ChangeAt Go.RowKit

/-- The kids that are there, as cells. -/
def kp3 (ps : List Nat) : List Value := [pv ps[0]?, pv ps[1]?, pv ps[2]?]
theorem kp3_set (ps : List Nat) (p : Nat) (h : ps.length < 3) : (kp3 ps).set ps.length (.pointer (some ⟨p, 0, none⟩)) = kp3 (ps ++ [p]) := by
  match ps, h with
  | [], _ => rfl
  | [a], _ => rfl
  | [a, b], _ => rfl
/-- The block of the kids. -/
def K3P (w : World) (b : Nat) (xs : List Value) : Prop := w.ownsRow 0 127 3 (.slice (some ⟨b, 0, none⟩) 1 1) 1 xs
theorem K3P.cell {w : World} {b : Nat} {xs : List Value} (h : K3P w b xs) (o : Nat) (ho : o < 3) : w.cell? ⟨b, o, none⟩ = xs[o]? := World.ownsRow.cellAt h o (by omega)
theorem K3P.set {w : World} {b : Nat} {xs : List Value} (h : K3P w b xs) (o : Nat) (u : Value) : K3P (w.setCell ⟨b, o, none⟩ u) b (xs.set o u) := (World.ownsRow.stored h o u).1
theorem K3P.frozen {w : World} {b : Nat} {xs : List Value} (h : K3P w b xs) (o : Nat) : w.frozen? ⟨b, o, none⟩ = false := World.ownsRow.frozenAt h o
theorem K3P.lt {w : World} {b : Nat} {xs : List Value} (h : K3P w b xs) : b < w.heap.size := (World.ownsRow.lt h b rfl).2
theorem k3_heap {w : World} {b : Nat} {xs : List Value} (h : K3P w b xs) : ∃ cs, w.heap[b]? = some (.cells cs 127 (0, 0)) := by
  rcases h.2 with ⟨h', _⟩ | ⟨g, cap, cur, h', _, h4, _⟩
  · simp at h'
  · simp only [Value.slice.injEq, Option.some.injEq, Addr.mk.injEq, and_true, true_and] at h'
    obtain ⟨rfl, rfl⟩ := h'
    exact ⟨cur, h4⟩
theorem k3_same {w w' : World} {b : Nat} {xs : List Value} (h : K3P w b xs) (hh : w'.heap[b]? = w.heap[b]?) : K3P w' b xs := by
  refine ⟨h.1, ?_⟩
  rcases h.2 with h1 | ⟨g, cap, cur, h1, h2, h3, h4⟩
  · exact .inl h1
  · have e : g = b := by simp at h1; omega
    subst e
    exact .inr ⟨g, cap, cur, h1, h2, by rw [hh]; exact h3, h4⟩
theorem lv_small {h : Hd} {c : Nat} (hp : nodeP h c) : h.lv.length ≤ 6 ∧ ∀ l ∈ h.lv, l.length ≤ 64 := by
  obtain ⟨_, h2⟩ := hp
  refine ⟨?_, fun l hl => ?_⟩
  · simp only [tfieldsB, tlevB, Bool.and_eq_true, decide_eq_true_eq] at h2
    have h3 : ((h.td []).lv.length : Int) ≤ mostL (h.td []).k := h2.2.1.2
    have h4 : mostL (h.td []).k ≤ 6 := by unfold mostL; repeat (first | omega | split)
    have h5 : (h.td []).lv.length = h.lv.length := rfl
    omega
  · have h3 := lev_of h2 l hl
    simp only [lvlB, Bool.and_eq_true, decide_eq_true_eq] at h3
    exact h3.1.2
theorem pv_form (p : Option Nat) : ∃ a, pv p = .pointer a := by cases p <;> exact ⟨_, rfl⟩
theorem heap_cell {w w' : World} {b o : Nat} {v : Value} (h : w'.heap[b]? = w.heap[b]?) (hc : w.cell? ⟨b, o, none⟩ = some v) : w'.cell? ⟨b, o, none⟩ = some v := by
  rw [World.cell?_of_block (w := w) (a := ⟨b, o, none⟩) h]; exact hc
theorem all_some : ∀ rs : List (Option Tt), (∃ ts : List Tt, rs = ts.map some) ∨ ∃ i, ∃ h : i < rs.length, rs[i] = none
  | [] => .inl ⟨[], rfl⟩
  | none :: _ => .inr ⟨0, by simp, rfl⟩
  | some a :: l => by
    rcases all_some l with ⟨ts, rfl⟩ | ⟨i, h, e⟩
    · exact .inl ⟨a :: ts, rfl⟩
    · exact .inr ⟨i + 1, by simp; exact h, by simpa using e⟩
theorem join_all (h : Hd) (ts : List Tt) : joinN h (ts.map some) = sizedT (Tt.mk h ts) := by
  match ts with
  | [] => rfl
  | [a] => rfl
  | [a, b] => rfl
  | a :: b :: c :: _ => rfl
theorem join_none (h : Hd) (rs : List (Option Tt)) (h3 : rs.length ≤ 3) (i : Nat) (hi : i < rs.length) (e : rs[i] = none) : joinN h rs = none := by
  match rs, h3 with
  | [], _ => simp at hi
  | [a], _ =>
    have : i = 0 := by simp at hi; omega
    subst this
    have e : a = none := e
    subst e; rfl
  | [a, b], _ =>
    rcases (show i = 0 ∨ i = 1 by simp at hi; omega) with rfl | rfl
    · have e : a = none := e
      subst e; rfl
    · have e : b = none := e
      subst e; cases a <;> rfl
  | [a, b, c], _ =>
    rcases (show i = 0 ∨ i = 1 ∨ i = 2 by simp at hi; omega) with rfl | rfl | rfl
    · have e : a = none := e
      subst e; rfl
    · have e : b = none := e
      subst e; cases a <;> rfl
    · have e : c = none := e
      subst e; cases a <;> cases b <;> rfl
theorem zmk_sz (k n : Int) (zs : List Zs) : (zmk k n zs).sz = 1 + sumZ zs := rfl
theorem sumZ_ge (l : List Zs) (h : ∀ z ∈ l, 1 ≤ z.sz) (j : Nat) (hj : j < l.length) : l[j].sz ≤ sumZ l := by
  induction l generalizing j with
  | nil => simp at hj
  | cons x l ih =>
    have h1 := h x (by simp)
    have h2 := sumZ_nonneg l (fun z hz => h z (by simp [hz]))
    cases j with
    | zero => simp only [sumZ, List.getElem_cons_zero]; omega
    | succ j =>
      have := ih (fun z hz => h z (by simp [hz])) j (by simpa using hj)
      simp only [sumZ, List.getElem_cons_succ]
      omega
theorem sumZ_cnt (ts : List Tt) : sumZ (ts.map Tt.z) = cntT ts := by
  induction ts with
  | nil => rfl
  | cons a l ih => simp only [List.map_cons, sumZ, cntT, ih, a.z_sz]; omega
end Go.Proofs.YtbgibiongnhjoaaGreat
