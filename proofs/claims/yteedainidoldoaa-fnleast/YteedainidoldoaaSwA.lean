/- The program's search in memory: its table, and best. -/
import Derived.Test.YteedainidoldoaaSvZ
import Derived.BigQuiet
namespace Go.Proofs.Yteedainidoldoaa
open Go.ChangeShapes Go.WideShapes Go.ChangeAt Go.RowKit

def tab (n : Nat) (ct : List Ct) (l : Nat) : List Int := (List.range ((n + 1) * (n + 1))).map (fun p => pb ct l (p / (n + 1)) (p % (n + 1)))
theorem tab_len (n : Nat) (ct : List Ct) (l : Nat) : (tab n ct l).length = (n + 1) * (n + 1) := by unfold tab; simp
theorem tab_at {n : Nat} (ct : List Ct) (l : Nat) {s h : Nat} (hs : s ≤ n) (hh : h ≤ n) : ∃ hp : s * (n + 1) + h < (tab n ct l).length, (tab n ct l)[s * (n + 1) + h] = pb ct l s h := by
  have h1 : s * (n + 1) + h < (n + 1) * (n + 1) := by
    have : (s + 1) * (n + 1) ≤ (n + 1) * (n + 1) := Nat.mul_le_mul_right _ (by omega)
    rw [Nat.add_mul] at this
    omega
  refine ⟨by rw [tab_len]; exact h1, ?_⟩
  unfold tab
  rw [List.getElem_map, List.getElem_range]
  rw [show (s * (n + 1) + h) / (n + 1) = s from by rw [Nat.mul_comm, Nat.mul_add_div (by omega), Nat.div_eq_of_lt (by omega), Nat.add_zero], show (s * (n + 1) + h) % (n + 1) = h from by rw [Nat.mul_comm, Nat.mul_add_mod, Nat.mod_eq_of_lt (by omega)]]
/-- A search in memory: its first L rows stand. -/
structure Cy (W : World) (sb n : Nat) (v : Value) (cs : List Cn) (L : Nat) : Prop where
  cn : W.cell? ⟨sb, 0, none⟩ = some (.int .i64 n)
  cc : W.cell? ⟨sb, 1, none⟩ = some v
  cons : ConsAt W v cs
  rows : ∀ l, l < L → ∃ r, W.cell? ⟨sb, 2 + l, none⟩ = some r ∧ IntsAt W r (tab n (cs.map ctC) l)
theorem Cy.keep {W W' : World} {sb n : Nat} {v : Value} {cs : List Cn} {L : Nat} (h : Cy W sb n v cs L) (hb : Below W.heap.size W W') : Cy W' sb n v cs L :=
  ⟨keep_cell hb h.cn, keep_cell hb h.cc, h.cons.keep hb, fun l hl => by
    obtain ⟨r, h1, h2⟩ := h.rows l hl
    exact ⟨r, keep_cell hb h1, h2.keep hb⟩⟩
set_option maxRecDepth 20000 in
set_option maxHeartbeats 4000000 in
theorem best_any (sb n : Nat) (v : Value) (cs : List Cn) (L l : Nat) (from_ home : Int) (w : World) (h : Cy w sb n v cs L) (hl : l < L) (hL : L ≤ 31) (hn : n ≤ 30) (f0 : -1 ≤ from_) (f1 : from_ < n) (h0 : -1 ≤ home) (h1 : home < n) :
    Calls Try.prog 42 #[.pointer (some ⟨sb, 0, none⟩), .int .i64 l, .int .i64 from_, .int .i64 home] w fun e w' => ∃ k, w' = w.drewN k ∧ e = .returned (.int .i64 (pb (cs.map ctC) l (from_ + 1).toNat (home + 1).toNat)) := by
  obtain ⟨f, rfl⟩ : ∃ f : Nat, from_ = (f : Int) - 1 := ⟨(from_ + 1).toNat, by omega⟩
  obtain ⟨g, rfl⟩ : ∃ g : Nat, home = (g : Int) - 1 := ⟨(home + 1).toNat, by omega⟩
  rw [show ((f : Int) - 1 + 1).toNat = f from by omega, show ((g : Int) - 1 + 1).toNat = g from by omega]
  obtain ⟨r, c2, hr⟩ := h.rows l hl
  obtain ⟨hp, hv⟩ := tab_at (n := n) (cs.map ctC) l (s := f) (h := g) (by omega) (by omega)
  obtain ⟨a, cap, rfl, hc1, hc2, hc3⟩ := hr
  obtain ⟨b, off, rfl, hc⟩ := hc3 (by omega)
  have c3 := hc _ hp
  rw [hv] at c3
  have c0 := h.cn
  have hb0 := lt_cell c0
  have hb1 := lt_cell c3
  rw [tab_len] at c2 hc1 hp
  generalize pb (cs.map ctC) l f g = q at *
  have hNN : (n + 1) * (n + 1) ≤ 31 * 31 := Nat.mul_le_mul (by omega) (by omega)
  unfold maxLen at hc2
  clear hc hc3 hv h
  generalize hN : (n + 1) * (n + 1) = N at *
  generalize hI : f * (n + 1) + g = I at *
  have hI2 : f * (n + 1) + g = I := hI
  have hfn : f * (n + 1) ≤ 31 * 31 := Nat.mul_le_mul (by omega) (by omega)
  obtain ⟨F, hF⟩ : ∃ F : Nat, F = f * (n + 1) := ⟨_, rfl⟩
  rw [← hF] at hfn hI2
  have w1 : IntKind.i64.wrap (f : Int) = (f : Int) := by rw [IntKind.wrap_i64]; omega
  have w3 : IntKind.i64.wrap ((f : Int) * ((n : Int) + 1)) = (F : Int) := by
    rw [show (f : Int) * ((n : Int) + 1) = ((F : Nat) : Int) from by rw [hF, Int.natCast_mul]; rfl, IntKind.wrap_i64]
    omega
  have w4 : IntKind.i64.wrap ((F : Int) + ((g : Int) - 1)) = (F : Int) + ((g : Int) - 1) := by rw [IntKind.wrap_i64]; omega
  have w5 : IntKind.i64.wrap ((F : Int) + ((g : Int) - 1) + 1) = (I : Int) := by rw [IntKind.wrap_i64]; omega
  have hIN : (I : Int) < N := by omega
  clear hF hI hI2 hN
  have hl31 : l < 31 := by omega
  have hl31i : (l : Int) < 31 := by omega
  go_enter Try.func42, Try.ntmps42
  go_wp2_with fail
  go_quiet (fail)
  go_wp2_with fail
  go_ret
  exact ⟨_, rfl, rfl⟩
end Go.Proofs.Yteedainidoldoaa
