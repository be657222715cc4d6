/- What the two functions ConsOk answer (the specification's and the program's): the same plain test of the constraints. -/
import Derived.Test.YteedainidoldoaaCons
namespace Go.Proofs.Yteedainidoldoaa
open Go.ChangeShapes Go.WideShapes Go.ChangeAt Go.RowKit

def okB (n : Int) (c : Cn) : Bool := decide (-1 ≤ c.a ∧ c.a < n ∧ -1 ≤ c.b ∧ c.b < n ∧ -1000 ≤ c.n ∧ c.n ≤ 1000)
def consB (n : Int) (cs : List Cn) : Bool := decide (0 ≤ n ∧ n ≤ 30 ∧ cs.length ≤ 100) && cs.all (okB n)

theorem consB_no {n : Int} {cs : List Cn} (h : n < 0 ∨ 30 < n ∨ 100 < cs.length) : consB n cs = false := by
  unfold consB; rw [decide_eq_false (by omega)]; rfl
theorem consB_not {n : Int} {cs : List Cn} (k : Nat) (hk : k < cs.length) (h : okB n cs[k] = false) : consB n cs = false := by
  unfold consB
  rw [Bool.and_eq_false_iff]; right
  rw [List.all_eq_false]
  exact ⟨cs[k], by simp, by simp [h]⟩
theorem consB_all {n : Int} {cs : List Cn} (h1 : 0 ≤ n ∧ n ≤ 30 ∧ cs.length ≤ 100) (h : ∀ j (h : j < cs.length), okB n cs[j] = true) : consB n cs = true := by
  unfold consB
  rw [decide_eq_true h1, Bool.true_and, List.all_eq_true]
  intro x hx
  obtain ⟨j, hj, rfl⟩ := List.getElem_of_mem hx
  exact h j hj
theorem consB_yes {n : Int} {cs : List Cn} (h : consB n cs = true) : (0 ≤ n ∧ n ≤ 30 ∧ cs.length ≤ 100) ∧ ∀ j (h : j < cs.length), -1 ≤ cs[j].a ∧ cs[j].a < n ∧ -1 ≤ cs[j].b ∧ cs[j].b < n ∧ -1000 ≤ cs[j].n ∧ cs[j].n ≤ 1000 := by
  unfold consB at h
  rw [Bool.and_eq_true, decide_eq_true_eq, List.all_eq_true] at h
  exact ⟨h.1, fun j hj => by have := h.2 cs[j] (by simp); simpa [okB] using this⟩

set_option maxHeartbeats 2000000 in
theorem specConsOk_any (n : Int) (v : Value) (cs : List Cn) (w : World) (hn : ConsAt w v cs) :
    Calls Try.prog 18 #[.int .i64 n, v] w fun e w' => e = .returned (.bool (consB n cs)) ∧ Below w.heap.size w w' := by
  obtain ⟨a, cap, rfl, hlc, hcm, hc⟩ := hn
  unfold maxLen at hcm
  have HC := hide hc
  clear hc
  by_cases hb : n < 0 ∨ 30 < n ∨ 100 < cs.length
  · have HN := hide (consB_no hb)
    rw [HN.out]
    go_enter Try.func18, Try.ntmps18
    go_wp2_with fail
    all_goals first | (exfalso; omega) | (go_ret; exact ⟨rfl, Below.refl _ _⟩)
  · have h1 : 0 ≤ n := by omega
    have h2 : n ≤ 30 := by omega
    have h3 : cs.length ≤ 100 := by omega
    clear hb
    go_enter Try.func18, Try.ntmps18
    go_wp2_with fail
    go_loopw [5] (fun i wr => ∃ (k : Nat), k ≤ cs.length ∧ i = .int .i64 k ∧ Hid (∀ j (h : j < cs.length), j < k → okB n cs[j] = true) ∧ Below w.heap.size w wr) (fun i _ => cs.length - (intOf i).toNat)
    case atStart => exact ⟨0, by omega, rfl, fun j _ h => by omega, Below.refl _ _⟩
    case round =>
      obtain ⟨k, hk, rfl, HA, hbel⟩ := hrel
      by_cases hlt : k < cs.length
      · obtain ⟨b1, o1, rfl, c1⟩ := HC.out (by omega)
        obtain ⟨p1, p2, p3⟩ := (c1 k hlt).keep hbel
        have hlt' : (k : Int) < cs.length := by omega
        clear c1 HC
        by_cases hok : okB n cs[k] = true
        · have HN : Hid (∀ j (h : j < cs.length), j < k + 1 → okB n cs[j] = true) := by
            intro j h hj
            by_cases e : j = k
            · subst e; exact hok
            · exact HA.out j h (by omega)
          clear HA
          generalize cs[k] = c at *
          simp only [okB, decide_eq_true_eq] at hok
          obtain ⟨g1, g2, g3, g4, g5, g6⟩ := hok
          go_wp2_with fail
          go_roundw
          case rel => exact ⟨k + 1, by omega, by go_num, HN, hbel.alloc hbel.size _⟩
          case measure => simp [intOf]; omega
        · have HN := hide (consB_not k hlt (by simpa using hok))
          generalize cs[k] = c at *
          simp only [okB, decide_eq_true_eq] at hok
          go_wp2_with fail
          all_goals first | (exfalso; omega) | (go_ret; exact ⟨ret_bool HN.out.symm, hbel.alloc hbel.size _⟩)
      · have HN : Hid (consB n cs = true) := consB_all ⟨h1, h2, h3⟩ (fun j hj => HA.out j hj (by omega))
        go_wp2_with fail
        go_ret
        exact ⟨ret_bool HN.out.symm, hbel⟩

set_option maxHeartbeats 400000 in
theorem sideOk_any (n s : Int) (w : World) : Calls Try.prog 35 #[.int .i64 n, .int .i64 s] w fun e w' => e = .returned (.bool (decide (-1 ≤ s ∧ s < n))) ∧ w' = w := by
  go_enter Try.func35, Try.ntmps35
  go_wp2_with fail
  all_goals
    go_ret
    exact ⟨ret_bool (by rw [Bool.eq_iff_iff]; simp; try omega), rfl⟩
end Go.Proofs.Yteedainidoldoaa
