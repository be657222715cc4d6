/- The heap of raised sides in memory, and what its own methods do: Len, Less, Swap, Pop, Push. -/
import Derived.Test.YteedainidoldoaaSvK
import Derived.Test.YteedainidoldoaaSvD
import Derived.Deep.AppendLies
import Derived.BigQuiet
import Derived.BigRegion
namespace Go.Proofs.Yteedainidoldoaa
open Go.ChangeShapes Go.WideShapes Go.ChangeAt Go.RowKit

/-- The first n of a row of pairs. -/
def RowF (xs : List Value) (f : Nat → Rp) (n : Nat) : Prop := ∀ k, k < n → xs[k * 2]? = some (.int .i64 (f k).1) ∧ xs[k * 2 + 1]? = some (.int .i64 (f k).2)
/-- The heap: its list and which sides wait in it. -/
structure Hq (w : World) (rb n : Nat) (f : Nat → Rp) (q : Nat → Bool) : Prop where
  lst : ∃ v xs, w.cell? ⟨rb, 0, none⟩ = some v ∧ w.ownsRow (rb + 1) 65 2 v n xs ∧ RowF xs f n
  wts : ∀ j, j < 31 → w.cell? ⟨rb, j + 1, none⟩ = some (.bool (q j))
  frz : ∀ j, w.frozen? ⟨rb, j, none⟩ = false
theorem Hq.keep {w w' : World} {rb n : Nat} {f : Nat → Rp} {q : Nat → Bool} (h : Hq w rb n f q) (hb : Below w.heap.size w w') : Hq w' rb n f q := by
  obtain ⟨v, xs, h1, h2, h3⟩ := h.lst
  exact ⟨⟨v, xs, keep_cell hb h1, row_keep hb h2, h3⟩, fun j hj => keep_cell hb (h.wts j hj), fun j => by rw [hb.frozen (p := ⟨rb, j, none⟩) (lt_cell h1)]; exact h.frz j⟩
theorem Hq.lt {w : World} {rb n : Nat} {f : Nat → Rp} {q : Nat → Bool} (h : Hq w rb n f q) : rb < w.heap.size := by
  obtain ⟨v, xs, h1, _⟩ := h.lst
  exact lt_cell h1
/-- Where something stands in the list, the list has a block. -/
theorem Hq.row {w : World} {rb n : Nat} {f : Nat → Rp} {q : Nat → Bool} (h : Hq w rb n f q) (hn : 0 < n) : ∃ g cap xs, w.cell? ⟨rb, 0, none⟩ = some (.slice (some ⟨g, 0, none⟩) n cap) ∧ w.ownsRow (rb + 1) 65 2 (.slice (some ⟨g, 0, none⟩) n cap) n xs ∧ RowF xs f n ∧ rb < g ∧ g < w.heap.size ∧ n ≤ cap ∧ cap ≤ maxLen := by
  obtain ⟨v, xs, h1, h2, h3⟩ := h.lst
  rcases h2.2 with ⟨_, h4⟩ | ⟨g, cap, cur, h4, h5, h6, h7, h8, _⟩
  · omega
  · subst h4
    exact ⟨g, cap, xs, h1, h2, h3, by omega, (Array.getElem?_eq_some_iff.1 h6).1, h7, h8⟩
theorem RowF.cells {w : World} {rb n g cap : Nat} {xs : List Value} {f : Nat → Rp} (h : w.ownsRow (rb + 1) 65 2 (.slice (some ⟨g, 0, none⟩) n cap) n xs) (hx : RowF xs f n) (k : Nat) (hk : k < n) : w.cell? ⟨g, k * 2, none⟩ = some (.int .i64 (f k).1) ∧ w.cell? ⟨g, k * 2 + 1, none⟩ = some (.int .i64 (f k).2) :=
  ⟨by rw [h.cellAt _ (by omega)]; exact (hx k hk).1, by rw [h.cellAt _ (by omega)]; exact (hx k hk).2⟩

set_option maxHeartbeats 1000000 in
theorem len_any (rb n : Nat) (f : Nat → Rp) (q : Nat → Bool) (w : World) (h : Hq w rb n f q) :
    Calls Try.prog 37 #[.pointer (some ⟨rb, 0, none⟩)] w fun e w' => e = .returned (.int .i64 n) ∧ w' = w := by
  obtain ⟨v, xs, h1, h2, _⟩ := h.lst
  rcases h2.2 with ⟨h4, h5⟩ | ⟨g, cap, cur, h4, h5, h6, h7, h8, _⟩
  · subst h4 h5
    clear h2 h
    go_enter Try.func37, Try.ntmps37
    go_wp2_with fail
    go_ret
    exact ⟨rfl, rfl⟩
  · subst h4
    unfold maxLen at h8
    clear h2 h6 h
    go_enter Try.func37, Try.ntmps37
    go_wp2_with fail
    go_ret
    exact ⟨rfl, rfl⟩

set_option maxRecDepth 20000 in
set_option maxHeartbeats 4000000 in
theorem less_any (rb n : Nat) (f : Nat → Rp) (q : Nat → Bool) (i j : Nat) (w : World) (h : Hq w rb n f q) (hi : i < n) (hj : j < n) :
    Calls Try.prog 69 #[.pointer (some ⟨rb, 0, none⟩), .int .i64 i, .int .i64 j] w fun e w' => e = .returned (.bool (ltP (f i) (f j))) ∧ Below w.heap.size w w' := by
  obtain ⟨g, cap, xs, h1, h2, h3, _, hg, hc, hm⟩ := h.row (by omega)
  obtain ⟨a1, a2⟩ := h3.cells h2 i hi
  obtain ⟨b1, b2⟩ := h3.cells h2 j hj
  have hrb := h.lt
  unfold maxLen at hm
  have HP : Hid (∀ m, Below w.heap.size w (w.drewN m)) := fun m => below_drewN (Below.refl _ _) m
  clear h2 h3 h xs
  have HD : Hid (ltP (f i) (f j) = if (f i).1 != (f j).1 then decide ((f i).1 < (f j).1) else decide ((f i).2 < (f j).2)) := rfl
  generalize ltP (f i) (f j) = r at *
  generalize f i = p at *
  generalize f j = s at *
  obtain ⟨p1, p2⟩ := p
  obtain ⟨s1, s2⟩ := s
  simp only at a1 a2 b1 b2 HD
  have hi' : (i : Int) < n := by omega
  have hj' : (j : Int) < n := by omega
  by_cases he : p1 = s1
  · have HD2 : Hid (decide (p2 < s2) = r) := by show _ = _; rw [HD.out]; simp [he]
    subst he
    clear HD
    go_enter Try.func69, Try.ntmps69
    go_wp2_with fail
    go_quiet (fail)
    go_wp2_with fail
    go_quiet (fail)
    go_wp2_with fail
    go_ret
    exact ⟨ret_bool HD2.out, by first | exact HP.out _ | (rw [← World.drewN_add]; exact HP.out _) | exact below_drewN (HP.out _) _⟩
  · have HD2 : Hid (decide (p1 < s1) = r) := by show _ = _; rw [HD.out]; simp [he]
    clear HD
    go_enter Try.func69, Try.ntmps69
    go_wp2_with fail
    go_quiet (fail)
    go_wp2_with fail
    go_quiet (fail)
    go_wp2_with fail
    go_ret
    exact ⟨ret_bool HD2.out, by first | exact HP.out _ | (rw [← World.drewN_add]; exact HP.out _) | exact below_drewN (HP.out _) _⟩
end Go.Proofs.Yteedainidoldoaa
