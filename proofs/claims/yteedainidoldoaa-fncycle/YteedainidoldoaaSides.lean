/- What the small functions on the numbers of the sides answer (an array of 31 numbers): of, set, meet. -/
import Derived.Test.YteedainidoldoaaMeets
import Derived.BigQuiet
namespace Go.Proofs.Yteedainidoldoaa
open Go.ChangeShapes Go.WideShapes Go.ChangeAt Go.RowKit

/-- An array of 31 numbers in a block of its own. -/
def ArrAt (w : World) (b : Nat) (f : Nat → Int) : Prop := ∀ j, j < 31 → w.cell? ⟨b, j, none⟩ = some (.int .i64 (f j))
theorem ArrAt.keep {w w' : World} (hb : Below w.heap.size w w') {b : Nat} {f : Nat → Int} (h : ArrAt w b f) : ArrAt w' b f := fun j hj => keep_cell hb (h j hj)

set_option maxHeartbeats 1000000 in
theorem of_any (b : Nat) (s : Int) (f : Nat → Int) (w : World) (hA : ArrAt w b f) (h0 : -1 ≤ s) (h1 : s < 30) :
    Calls Try.prog 39 #[.pointer (some ⟨b, 0, none⟩), .int .i64 s] w fun e w' => e = .returned (.int .i64 (f (s + 1).toNat)) ∧ w' = w := by
  by_cases hs : s = -1
  · subst hs
    have c := hA 0 (by omega)
    clear hA
    simp only [show (-1 + 1 : Int).toNat = 0 from rfl]
    generalize f 0 = q at *
    go_enter Try.func39, Try.ntmps39
    go_wp2_with fail
    go_ret
    exact ⟨rfl, rfl⟩
  · obtain ⟨k, rfl⟩ : ∃ k : Nat, s = k := ⟨s.toNat, by omega⟩
    have c := hA (k + 1) (by omega)
    clear hA
    simp only [show ((k : Int) + 1).toNat = k + 1 from by omega]
    generalize f (k + 1) = q at *
    go_enter Try.func39, Try.ntmps39
    go_wp2_with fail
    go_ret
    exact ⟨rfl, rfl⟩

set_option maxHeartbeats 2000000 in
theorem set_any (b : Nat) (s : Nat) (x : Int) (w : World) (u : Value) (hs : s ≤ 29) (hc : w.cell? ⟨b, s + 1, none⟩ = some u) (hf : w.frozen? ⟨b, s + 1, none⟩ = false) :
    Calls Try.prog 30 #[.pointer (some ⟨b, 0, none⟩), .int .i64 s, .int .i64 x] w fun e w' => (∃ v, e = .returned v) ∧ w' = w.setCell ⟨b, s + 1, none⟩ (.int .i64 x) := by
  go_enter Try.func30, Try.ntmps30
  go_wp2_with fail
  exact bodyPost_end (results_none Try.results30 _ _ _) rfl ⟨⟨_, rfl⟩, rfl⟩

set_option maxHeartbeats 2000000 in
theorem meet_any (b : Nat) (c : Cn) (f : Nat → Int) (w : World) (hA : ArrAt w b f) (h1 : -1 ≤ c.a) (h2 : c.a < 30) (h3 : -1 ≤ c.b) (h4 : c.b < 30) (h5 : -1000 ≤ c.n) (h6 : c.n ≤ 1000)
    (r1 : 0 ≤ f (c.a + 1).toNat) (r2 : f (c.a + 1).toNat ≤ 9223372036854775807) (r3 : 0 ≤ f (c.b + 1).toNat) (r4 : f (c.b + 1).toNat ≤ 9223372036854775807) :
    Calls Try.prog 31 #[.pointer (some ⟨b, 0, none⟩), .agg #[.int .i64 c.a, .int .i64 c.n, .int .i64 c.b]] w fun e w' => e = .returned (.bool (decide (f (c.a + 1).toNat + c.n ≤ f (c.b + 1).toNat))) ∧ Below w.heap.size w w' := by
  obtain ⟨ca, cn, cb⟩ := c
  simp only at *
  have HA : Hid (∀ o n, ArrAt ((w.alloc o).drewN n) b f) := fun o n => hA.keep (below_drewN (bel_alloc (Below.refl _ _) o) n)
  have hB : ∀ o n, Below w.heap.size w ((w.alloc o).drewN n) := fun o n => below_drewN (bel_alloc (Below.refl _ _) o) n
  have HB := hide hB
  clear hA hB
  by_cases hp : 0 < cn
  · have HD : Hid (decide (f (ca + 1).toNat + cn ≤ f (cb + 1).toNat) = decide (f (ca + 1).toNat ≤ f (cb + 1).toNat - cn)) := by show _ = _; rw [Bool.eq_iff_iff]; simp; omega
    rw [HD.out]
    go_enter Try.func31, Try.ntmps31
    go_wp2_with fail
    go_quiet (first | (go_at_call 39; refine Calls.quiet_of_same (of_any _ _ f _ (by exact HA.out _ _) (by omega) (by omega))))
    go_wp2_with fail
    go_ret
    exact ⟨rfl, HB.out _ _⟩
  · go_enter Try.func31, Try.ntmps31
    go_wp2_with fail
    go_quiet (first | (go_at_call 39; refine Calls.quiet_of_same (of_any _ _ f _ (by exact HA.out _ _) (by omega) (by omega))))
    go_wp2_with fail
    go_ret
    exact ⟨rfl, HB.out _ _⟩
end Go.Proofs.Yteedainidoldoaa
