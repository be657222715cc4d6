/- The specification's reader of drawn bytes: next, left, l1Open. -/
import Derived.Test.YteedainidoldoaaSwJ
import Derived.BigQuiet
namespace Go.Proofs.Yteedainidoldoaa
open Go.ChangeShapes Go.WideShapes Go.ChangeAt Go.RowKit

/-- Bytes that lie below a block number. -/
def BytesAt (base : Nat) (w : World) (a : Option Addr) (n : Nat) : Prop :=
  0 < n → ∃ b off, a = some ⟨b, off, none⟩ ∧ b < base ∧ ∀ j, j < n → ∃ q, w.cell? ⟨b, off + j, none⟩ = some (.int .u8 q) ∧ 0 ≤ q ∧ q < 256
/-- A reader: bytes and a place. -/
def RdAt (base : Nat) (w : World) (R : Nat) : Prop :=
  ∃ (a : Option Addr) (n cap p : Nat), w.ownsRow base 76 2 (.slice (some ⟨R, 0, none⟩) 1 1) 1 [.slice a n cap, .int .i64 (p : Int)] ∧ n ≤ 1000 ∧ p ≤ 1000 ∧ BytesAt base w a n
theorem RdAt.lt {base : Nat} {w : World} {R : Nat} (h : RdAt base w R) : base ≤ R ∧ R < w.heap.size := by
  obtain ⟨a, n, cap, p, h1, _⟩ := h; exact h1.lt R rfl
theorem BytesAt.keep {base : Nat} {w w' : World} {a : Option Addr} {n : Nat} (h : BytesAt base w a n) (hb : Below base w w') : BytesAt base w' a n := fun h0 => by
  obtain ⟨b, off, h1, h2, h3⟩ := h h0
  refine ⟨b, off, h1, h2, fun j hj => ?_⟩
  obtain ⟨q, h4, h5⟩ := h3 j hj
  exact ⟨q, by rw [hb.cell (p := ⟨b, off + j, none⟩) h2]; exact h4, h5⟩
theorem RdAt.keep {base : Nat} {w w' : World} {R : Nat} (h : RdAt base w R) (hb : Below w.heap.size w w') : RdAt base w' R := by
  have hl := h.lt
  obtain ⟨a, n, cap, p, h1, h2, h3, h4⟩ := h
  exact ⟨a, n, cap, p, row_keep hb h1, h2, h3, h4.keep (hb.mono (by omega))⟩
/-- A row of other cells may be written. -/
theorem RdAt.grown {base : Nat} {w w' : World} {R : Nat} {r : Option Nat} (h : RdAt base w R) (hg : w.grownBy w' r) (hr : ∀ g, r = some g → R < g) : RdAt base w' R := by
  have hl := h.lt
  obtain ⟨a, n, cap, p, h1, h2, h3, h4⟩ := h
  refine ⟨a, n, cap, p, h1.kept hg (.inr (fun e => ?_)), h2, h3, h4.keep ((Below.refl base w).grown hg (by omega) (fun k hk => by have := hr k hk; omega))⟩
  have := hr R (by rw [← e]; rfl)
  omega
theorem grown_but {w w' : World} (h : w.grownBy w' none) (r : Option Nat) : w.grownBy w' r := ⟨h.os, h.tape, h.output, h.size, fun k hk _ => h.block k hk (fun e => by cases e)⟩
theorem tmod_nat {v : Int} {m : Nat} (h0 : 0 ≤ v) (hm : 0 < m) : ∃ r : Nat, v.tmod (m : Int) = (r : Int) ∧ r < m := by
  obtain ⟨n, rfl⟩ : ∃ n : Nat, v = (n : Int) := ⟨v.toNat, by omega⟩
  exact ⟨n % m, by rw [← Int.ofNat_tmod], Nat.mod_lt _ hm⟩
theorem tdiv_nat {v : Int} {m : Nat} (h0 : 0 ≤ v) : ∃ r : Nat, v.tdiv (m : Int) = (r : Int) ∧ r ≤ v.toNat := by
  obtain ⟨n, rfl⟩ : ∃ n : Nat, v = (n : Int) := ⟨v.toNat, by omega⟩
  exact ⟨n / m, by rw [← Int.ofNat_tdiv], Nat.div_le_self _ _⟩
set_option maxRecDepth 20000 in
set_option maxHeartbeats 1000000 in
theorem next_b (R : Nat) (base : Nat) (w : World) (h : RdAt base w R) :
    Calls Try.prog 44 #[.pointer (some ⟨R, 0, none⟩)] w fun e w' => ∃ v : Int, e = .returned (.int .i64 v) ∧ 0 ≤ v ∧ v < 256 ∧ RdAt base w' R ∧ w.grownBy w' (some R) := by
  have hl := h.lt
  obtain ⟨a, n, cap, p, h1, h2, h3, h4⟩ := h
  have c0 : w.cell? ⟨R, 0, none⟩ = some (.slice a n cap) := by rw [h1.cellAt 0 (by omega)]; rfl
  have c1 : w.cell? ⟨R, 1, none⟩ = some (.int .i64 (p : Int)) := by rw [h1.cellAt 1 (by omega)]; rfl
  have cf : w.frozen? ⟨R, 1, none⟩ = false := h1.frozenAt 1
  have H1 := hide h1
  have H4 := hide h4
  clear h1 h4
  by_cases hp : p < n
  · obtain ⟨b, off, rfl, hb, hq⟩ := H4.out (by omega)
    obtain ⟨q, cq, q0, q1⟩ := hq p hp
    have hp' : (p : Int) < (n : Int) := by omega
    have hw1 : IntKind.i64.wrap ((p : Int) + 1) = (p : Int) + 1 := by rw [IntKind.wrap_i64]; omega
    have hwq : IntKind.i64.wrap q = q := by rw [IntKind.wrap_i64]; omega
    have HN := hide (show w.drew.drew.ownsRow base 76 2 (.slice (some ⟨R, 0, none⟩) 1 1) 1 [.slice (some ⟨b, off, none⟩) n cap, .int .i64 (p : Int)] from H1.out)
    have hbne : ¬ b = R := by omega
    clear hq
    go_enter Try.func44, Try.ntmps44
    go_wp2_with fail
    go_region
    go_wp2_with fail
    go_region
    go_wp2_with fail
    go_ret
    refine ⟨q, rfl, q0, q1, ?_, ?_⟩
    · exact ⟨_, n, cap, p + 1, (HN.out.stored 1 (.int .i64 ((p + 1 : Nat) : Int))).1, h2, by omega, H4.out.keep ((((Below.refl base w).drew).drew).setCell (p := ⟨_, _, _⟩) (by show base ≤ R; omega) _)⟩
    · exact grown_trans (grown_but (grown_of ((Below.refl w.heap.size w).drew.drew)) (some R)) (grown_set _ ⟨R, 1, none⟩ _)
  · have hp' : ¬ (p : Int) < (n : Int) := by omega
    go_enter Try.func44, Try.ntmps44
    go_wp2_with fail
    go_region
    go_wp2_with fail
    go_ret
    exact ⟨0, rfl, by omega, by omega, ⟨a, n, cap, p, H1.out, h2, h3, H4.out.keep (Below.refl base w).drew⟩, grown_but (grown_of ((Below.refl w.heap.size w).drew)) _⟩
set_option maxRecDepth 20000 in
set_option maxHeartbeats 1000000 in
theorem left_b (R : Nat) (base : Nat) (w : World) (h : RdAt base w R) :
    Calls Try.prog 45 #[.pointer (some ⟨R, 0, none⟩)] w fun e w' => ∃ v : Int, e = .returned (.int .i64 v) ∧ RdAt base w' R ∧ Below w.heap.size w w' := by
  have hl := h.lt
  have HR := hide h
  obtain ⟨a, n, cap, p, h1, h2, h3, h4⟩ := h
  have c0 : w.cell? ⟨R, 0, none⟩ = some (.slice a n cap) := by rw [h1.cellAt 0 (by omega)]; rfl
  have c1 : w.cell? ⟨R, 1, none⟩ = some (.int .i64 (p : Int)) := by rw [h1.cellAt 1 (by omega)]; rfl
  clear h1 h4
  go_enter Try.func45, Try.ntmps45
  go_wp2_with fail
  go_region
  go_wp2_with fail
  go_ret
  exact ⟨_, rfl, HR.out.keep (Below.refl _ _).drew, (Below.refl _ _).drew⟩
/-- Bytes that came in as an argument. -/
def CodeAt (w : World) (a : Option Addr) (n : Nat) : Prop :=
  0 < n → ∃ b off, a = some ⟨b, off, none⟩ ∧ ∀ j, j < n → ∃ q, w.cell? ⟨b, off + j, none⟩ = some (.int .u8 q) ∧ 0 ≤ q ∧ q < 256
theorem CodeAt.bytes {w : World} {a : Option Addr} {n m : Nat} (h : CodeAt w a n) (hm : m ≤ n) : BytesAt w.heap.size w a m := fun h0 => by
  obtain ⟨b, off, h1, h2⟩ := h (by omega)
  refine ⟨b, off, h1, ?_, fun j hj => h2 j (by omega)⟩
  obtain ⟨q, h3, _⟩ := h2 0 (by omega)
  exact lt_cell h3
theorem CodeAt.keep {w w' : World} {a : Option Addr} {n : Nat} (h : CodeAt w a n) (hb : Below w.heap.size w w') : CodeAt w' a n := fun h0 => by
  obtain ⟨b, off, h1, h2⟩ := h h0
  refine ⟨b, off, h1, fun j hj => ?_⟩
  obtain ⟨q, h3, h4⟩ := h2 j hj
  exact ⟨q, keep_cell hb h3, h4⟩
set_option maxRecDepth 20000 in
set_option maxHeartbeats 1000000 in
theorem open_b (a : Option Addr) (n cap : Nat) (w : World) (h : CodeAt w a n) (hn : n ≤ cap) (hc : cap ≤ maxLen) :
    Calls Try.prog 29 #[.slice a n cap] w fun e w' => e = .returned (.pointer (some ⟨w.heap.size, 0, none⟩)) ∧ RdAt w.heap.size w' w.heap.size ∧ Below w.heap.size w w' := by
  have H := hide h
  unfold maxLen at hc
  clear h
  by_cases hb : 1000 < n
  · have d1 : decide (1000 < (n : Int)) = true := by simp; omega
    have hsl : ∀ W : World, (Instr.slice 34 (.slice a n cap) none (some (.int .i64 1000)) none).run Try.prog W = .ok (.slice a 1000 cap) W := fun W => by
      rw [run_slice_h W 34 a n cap (by kernel_rfl) .i64 1000 (by omega) (by omega)]
      have h0 : ¬ cap = 0 := by omega
      simp [sliced, go_sem]
    go_enter Try.func29, Try.ntmps29
    go_wp2_with fail
    go_ret
    exact ⟨rfl, ⟨a, 1000, cap, 0, World.ownsRow_lit w _ 1 (Nat.le_refl _) (by unfold maxLen; omega) rfl, by omega, by omega, (H.out.bytes (by omega)).keep (bel_alloc (Below.refl _ _) _)⟩, bel_alloc (Below.refl _ _) _⟩
  · have d1 : decide (1000 < (n : Int)) = false := by simp; omega
    go_enter Try.func29, Try.ntmps29
    go_wp2_with fail
    go_ret
    exact ⟨rfl, ⟨a, n, cap, 0, World.ownsRow_lit w _ 1 (Nat.le_refl _) (by unfold maxLen; omega) rfl, by omega, by omega, (H.out.bytes (by omega)).keep (bel_alloc (Below.refl _ _) _)⟩, bel_alloc (Below.refl _ _) _⟩
end Go.Proofs.Yteedainidoldoaa
