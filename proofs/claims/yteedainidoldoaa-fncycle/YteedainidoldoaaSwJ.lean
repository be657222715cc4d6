/- The law of Solve, walked. -/
import Derived.Test.YteedainidoldoaaSwI
namespace Go.Proofs.Yteedainidoldoaa
open Go.ChangeShapes Go.WideShapes Go.ChangeAt Go.RowKit

theorem specSolve2 (n : Int) (v : Value) (cs : List Cn) (w : World) (hn : ConsAt w v cs) : Calls Try.prog 7 #[.int .i64 n, v] w (SoOut (solS n cs) w) :=
  specSolve_any n v cs w hn (fun m W e hok hb => by subst e; exact l2First_any m v cs W (hn.keep hb) hok)
/-- One of the two lists is empty, and both are short. -/
theorem sol_shape (n : Int) (cs : List Cn) : (solS n cs).1.length ≤ 31 ∧ (solS n cs).2.1.length ≤ 31 ∧ ((solS n cs).1 = [] ∨ (solS n cs).2.1 = []) := by
  cases hok : consB n cs with
  | false => rw [solS_no hok]; simp
  | true =>
    have h1 := (consB_yes hok).1
    obtain ⟨m, rfl⟩ : ∃ m : Nat, n = m := ⟨n.toNat, by omega⟩
    obtain ⟨r1, r2⟩ := roundsV_fn cs m (cn_rng hok) (m + 2)
    unfold solS
    rw [if_neg (by rw [hok]; decide)]
    rw [show ((m : Int)).toNat = m from rfl]
    split
    · refine ⟨?_, by simp, .inr rfl⟩
      show (roundsV cs m (m + 2)).length ≤ 31
      omega
    · refine ⟨by simp, ?_, .inl rfl⟩
      have := firstS_len m (cs.map ctC) cs.length
      show ((firstS m (cs.map ctC) cs.length).map _).length ≤ 31
      rw [List.length_map]
      omega
theorem ints_empty {w w' : World} {v : Value} (h : IntsAt w v []) : IntsAt w' v [] := by
  obtain ⟨a, cap, hv, h1, h2, _⟩ := h
  exact ⟨a, cap, hv, h1, h2, fun h => by simp at h⟩
theorem nums_nil (k : Nat) : nums k 0 = [] := rfl
set_option maxRecDepth 20000 in
theorem markNil_any (v : Value) (k : Nat) (w : World) (h : IntsAt w v []) : Calls Try.prog 13 #[v, .int .i64 k] w fun e w' => e = .returned (.int .i64 (k : Int)) ∧ w' = w := by
  obtain ⟨a, cap, rfl, _, _, _⟩ := h
  simp only [List.length_nil]
  go_enter Try.func13, Try.ntmps13
  go_wp2_with fail
  go_loopw [1, 5] (fun m i wr => m = .int .i64 k ∧ i = .int .i64 0 ∧ w = wr) (fun _ _ _ => 0)
  case atStart => exact ⟨rfl, rfl, rfl⟩
  case round =>
    obtain ⟨rfl, rfl, rfl⟩ := hrel
    go_wp2_with fail
    go_ret
    exact ⟨rfl, rfl⟩
theorem OwI.chg {lo : Nat} {W W' : World} {v : Value} {ks : List Int} (h : OwI lo W v ks) {g : Nat} (hg : W.grownBy W' (some g)) (hlt : g < lo) : OwI lo W' v ks :=
  h.kept hg (.inr (row_far h hlt).symm)
theorem OwI.keep {lo : Nat} {W W' : World} {v : Value} {ks : List Int} (h : OwI lo W v ks) (hb : Below W.heap.size W W') : OwI lo W' v ks := row_keep hb h
theorem own_below {lo : Nat} {W W' : World} {v : Value} {ks : List Int} (h : OwI lo W v ks) (hlo : lo ≤ W.heap.size) (hg : W.grownBy W' v.ownBlock) : Below lo W W' :=
  (Below.refl lo W).grown hg hlo (fun k hk => by
    rcases h.2 with ⟨rfl, _⟩ | ⟨g, cap, cur, rfl, hb, _⟩
    · cases hk
    · have e : g = k := by simpa [Value.ownBlock] using hk
      omega)
/-- The first answer is marked. -/
theorem marks_one {lo : Nat} {W : World} {u1 u2 : Value} {r1 r2 : List Int} (h1 : OwI lo W u1 r1) (h2 : OwI lo W u2 r2) (hlo : lo ≤ W.heap.size) (hl : r1.length ≤ 31) (h12 : r1 = [] ∨ r2 = []) :
    Calls Try.prog 13 #[u1, .int .i64 (1 : Nat)] W fun e W1 => e = .returned (.int .i64 ((1 + r1.length : Nat) : Int)) ∧ IntsAt W1 u1 (nums 1 r1.length) ∧ (r2 = [] ∨ (OwI lo W1 u2 r2 ∧ r1 = [])) ∧ IntsAt W1 u2 r2 ∧ Below lo W W1 := by
  by_cases e : r1 = []
  · subst e
    refine (markNil_any u1 1 W h1.at).mono ?_
    rintro e w' ⟨rfl, rfl⟩
    exact ⟨rfl, h1.at, .inr ⟨h2, rfl⟩, h2.at, Below.refl _ _⟩
  · have e2 := h12.resolve_left e
    subst e2
    refine (markIntS_any lo u1 r1 1 W h1 (by omega) (by omega)).mono ?_
    rintro e w' ⟨rfl, h3, h4⟩
    exact ⟨rfl, h3.at, .inl rfl, ints_empty h2.at, own_below h1 hlo h4⟩
/-- The second one is. -/
theorem marks_two {lo : Nat} {W : World} {u1 u2 : Value} {r1 r2 : List Int} {k n1 : Nat} (h1 : IntsAt W u1 (nums 1 r1.length)) (h2 : r2 = [] ∨ (OwI lo W u2 r2 ∧ r1 = [])) (h3 : IntsAt W u2 r2) (hlo : lo ≤ W.heap.size) (hl : r2.length ≤ 31) (hk : k ≤ 1000) (hn : n1 = r1.length) :
    Calls Try.prog 13 #[u2, .int .i64 k] W fun e W1 => e = .returned (.int .i64 ((k + r2.length : Nat) : Int)) ∧ IntsAt W1 u1 (nums 1 n1) ∧ IntsAt W1 u2 (nums k r2.length) ∧ Below lo W W1 := by
  subst hn
  rcases h2 with rfl | ⟨h2, rfl⟩
  · refine (markNil_any u2 k W h3).mono ?_
    rintro e w' ⟨rfl, rfl⟩
    exact ⟨rfl, h1, h3, Below.refl _ _⟩
  · refine (markIntS_any lo u2 r2 k W h2 (by omega) (by omega)).mono ?_
    rintro e w' ⟨rfl, h5, h6⟩
    exact ⟨rfl, ints_empty h1, h5.at, own_below h2 hlo h6⟩
end Go.Proofs.Yteedainidoldoaa
