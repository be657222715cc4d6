/- What the program's ConsOk answers: the plain test. -/
import Derived.Test.YteedainidoldoaaOk
namespace Go.Proofs.Yteedainidoldoaa
open Go.ChangeShapes Go.WideShapes Go.ChangeAt Go.RowKit

set_option maxHeartbeats 2000000 in
theorem implConsOk_any (n : Int) (v : Value) (cs : List Cn) (w : World) (hn : ConsAt w v cs) :
    Calls Try.prog 24 #[.int .i64 n, v] w fun e w' => e = .returned (.bool (consB n cs)) ∧ Below w.heap.size w w' := by
  obtain ⟨a, cap, rfl, hlc, hcm, hc⟩ := hn
  unfold maxLen at hcm
  have HC := hide hc
  clear hc
  by_cases hb : n < 0 ∨ 30 < n ∨ 100 < cs.length
  · have HN := hide (consB_no hb)
    rw [HN.out]
    go_enter Try.func24, Try.ntmps24
    go_wp2_with fail
    all_goals first | (exfalso; omega) | (go_ret; exact ⟨rfl, Below.refl _ _⟩)
  · have h1 : 0 ≤ n := by omega
    have h2 : n ≤ 30 := by omega
    have h3 : cs.length ≤ 100 := by omega
    clear hb
    go_enter Try.func24, Try.ntmps24
    go_wp2_with fail
    go_loopw [20] (fun i wr => ∃ (k : Nat), k ≤ cs.length ∧ i = .int .i64 k ∧ Hid (∀ j (h : j < cs.length), j < k → okB n cs[j] = true) ∧ Below w.heap.size w wr) (fun i _ => cs.length - (intOf i).toNat)
    case atStart => exact ⟨0, by omega, rfl, fun j _ h => by omega, Below.refl _ _⟩
    case round =>
      obtain ⟨k, hk, rfl, HA, hbel⟩ := hrel
      by_cases hlt : k < cs.length
      · obtain ⟨b1, o1, rfl, c1⟩ := HC.out (by omega)
        obtain ⟨p1, p2, p3⟩ := (c1 k hlt).keep hbel
        have hlt' : (k : Int) < cs.length := by omega
        clear c1 HC
        by_cases hok : okB n cs[k] = true
        · have HN : Hid (∀ j (h : j < cs.length), j < k + 1 → okB n cs[j] = true) := by
            intro j h hj
            by_cases e : j = k
            · subst e; exact hok
            · exact HA.out j h (by omega)
          clear HA
          generalize cs[k] = c at *
          obtain ⟨ca, cn, cb⟩ := c
          simp only [okB, decide_eq_true_eq] at hok p1 p2 p3
          obtain ⟨g1, g2, g3, g4, g5, g6⟩ := hok
          have D1 : Hid (decide (-1 ≤ ca ∧ ca < n) = true) := by show _ = _; simp; omega
          have D2 : Hid (decide (-1 ≤ cb ∧ cb < n) = true) := by show _ = _; simp; omega
          go_wp2_with (go_at_call 35; refine (sideOk_any _ _ _).mono ?_; rintro e w' ⟨rfl, rfl⟩; first | rw [D1.out] | rw [D2.out])
          go_roundw
          case rel => exact ⟨k + 1, by omega, by go_num, HN, hbel.alloc hbel.size _⟩
          case measure => simp [intOf]; omega
        · have HN := hide (consB_not k hlt (by simpa using hok))
          generalize cs[k] = c at *
          obtain ⟨ca, cn, cb⟩ := c
          simp only [okB, decide_eq_true_eq] at hok p1 p2 p3
          have hcase : ¬ (-1 ≤ ca ∧ ca < n) ∨ ((-1 ≤ ca ∧ ca < n) ∧ ¬ (-1 ≤ cb ∧ cb < n)) ∨ ((-1 ≤ ca ∧ ca < n) ∧ (-1 ≤ cb ∧ cb < n) ∧ (cn < -1000 ∨ 1000 < cn)) := by omega
          clear hok
          rcases hcase with q | ⟨q1, q2⟩ | ⟨q1, q2, q3⟩
          · have D1 : Hid (decide (-1 ≤ ca ∧ ca < n) = false) := by show _ = _; simpa using q
            clear q
            go_wp2_with (go_at_call 35; refine (sideOk_any _ _ _).mono ?_; rintro e w' ⟨rfl, rfl⟩; rw [D1.out])
            go_ret
            exact ⟨ret_bool HN.out.symm, hbel.alloc hbel.size _⟩
          · have D1 : Hid (decide (-1 ≤ ca ∧ ca < n) = true) := by show _ = _; simpa using q1
            have D2 : Hid (decide (-1 ≤ cb ∧ cb < n) = false) := by show _ = _; simpa using q2
            clear q1 q2
            go_wp2_with (go_at_call 35; refine (sideOk_any _ _ _).mono ?_; rintro e w' ⟨rfl, rfl⟩; first | rw [D1.out] | rw [D2.out])
            go_ret
            exact ⟨ret_bool HN.out.symm, hbel.alloc hbel.size _⟩
          · have D1 : Hid (decide (-1 ≤ ca ∧ ca < n) = true) := by show _ = _; simpa using q1
            have D2 : Hid (decide (-1 ≤ cb ∧ cb < n) = true) := by show _ = _; simpa using q2
            clear q1 q2
            go_wp2_with (go_at_call 35; refine (sideOk_any _ _ _).mono ?_; rintro e w' ⟨rfl, rfl⟩; first | rw [D1.out] | rw [D2.out])
            all_goals first | (exfalso; omega) | (go_ret; exact ⟨ret_bool HN.out.symm, hbel.alloc hbel.size _⟩)
      · have HN : Hid (consB n cs = true) := consB_all ⟨h1, h2, h3⟩ (fun j hj => HA.out j hj (by omega))
        go_wp2_with fail
        go_ret
        exact ⟨ret_bool HN.out.symm, hbel⟩
end Go.Proofs.Yteedainidoldoaa
