/- What the specification's reader of bytes answers: a number below 256, and that it stays a reader. -/
import Derived.Test.YtmdcdapjjodpiaaDoorMrt
import Derived.RegionTactic
import Derived.ChangeAlike
namespace Go.Proofs.YtmdcdapjjodpiaaDoor
open Go.ChangeShapes Go.WideShapes Go.ChangeAt Go.RowKit

/-- Bytes that lie below a block number. -/
def LowB (base : Nat) (w : World) (a : Option Addr) (n : Nat) : Prop :=
  0 < n → ∃ b off, a = some ⟨b, off, none⟩ ∧ b < base ∧ ∀ j, j < n → ∃ c : Nat, c < 256 ∧ w.cell? ⟨b, off + j, none⟩ = some (.int .u8 (c : Int))
/-- A reader: bytes and a place. -/
def RdQ (base : Nat) (w : World) (R : Nat) : Prop :=
  ∃ (a : Option Addr) (n cap p : Nat), w.ownsRow base 46 2 (.slice (some ⟨R, 0, none⟩) 1 1) 1 [.slice a n cap, .int .i64 (p : Int)] ∧ n ≤ 1000 ∧ p ≤ 1000 ∧ LowB base w a n
theorem LowB.keep {base : Nat} {w w' : World} {a : Option Addr} {n : Nat} (h : LowB base w a n) (hb : Below base w w') : LowB base w' a n := fun h0 => by
  obtain ⟨b, off, h1, h2, h3⟩ := h h0
  refine ⟨b, off, h1, h2, fun j hj => ?_⟩
  obtain ⟨c, h4, h5⟩ := h3 j hj
  exact ⟨c, h4, by rw [hb.cell (p := ⟨b, off + j, none⟩) h2]; exact h5⟩
theorem RdQ.lt {base : Nat} {w : World} {R : Nat} (h : RdQ base w R) : base ≤ R ∧ R < w.heap.size := by
  obtain ⟨a, n, cap, p, h1, _⟩ := h; exact h1.lt R rfl
theorem RdQ.keep {base : Nat} {w w' : World} {R : Nat} (h : RdQ base w R) (hb : Below w.heap.size w w') : RdQ base w' R := by
  have hl := h.lt
  obtain ⟨a, n, cap, p, h1, h2, h3, h4⟩ := h
  exact ⟨a, n, cap, p, row_keep hb h1, h2, h3, h4.keep (hb.mono (by omega))⟩
theorem size_set (w : World) (p : Addr) (u : Value) : (w.setCell p u).heap.size = w.heap.size := by simp [World.setCell]
theorem grown_set (w : World) (p : Addr) (u : Value) : w.grownBy (w.setCell p u) (some p.block) :=
  ⟨rfl, rfl, rfl, by rw [size_set]; exact Nat.le_refl _, fun k _ hne => Below.heap_setCell w p u k (fun e => hne (by rw [e]))⟩
theorem below_of {base : Nat} {w w' : World} {g : Nat} (hg : w.grownBy w' (some g)) (hb : base ≤ g) (hw : base ≤ w.heap.size) : Below base w w' := (Below.refl base w).grown hg hw (fun k hk => by simp at hk; omega)

set_option maxRecDepth 20000 in
set_option maxHeartbeats 1000000 in
theorem next_any (R : Nat) (base : Nat) (w : World) (h : RdQ base w R) :
    Calls Tryd.prog 9 #[.pointer (some ⟨R, 0, none⟩)] w fun e w' => ∃ v : Nat, e = .returned (.int .i64 (v : Int)) ∧ v < 256 ∧ RdQ base w' R ∧ w.grownBy w' (some R) := by
  have hl := h.lt
  obtain ⟨a, n, cap, p, h1, h2, h3, h4⟩ := h
  have c0 : w.cell? ⟨R, 0, none⟩ = some (.slice a n cap) := by rw [h1.cellAt 0 (by omega)]; rfl
  have c1 : w.cell? ⟨R, 1, none⟩ = some (.int .i64 (p : Int)) := by rw [h1.cellAt 1 (by omega)]; rfl
  have cf : w.frozen? ⟨R, 1, none⟩ = false := h1.frozenAt 1
  have H1 := hide h1
  have H4 := hide h4
  clear h1 h4
  by_cases hp : p < n
  · obtain ⟨b, off, rfl, hb, hq⟩ := H4.out (by omega)
    obtain ⟨q, q1, cq⟩ := hq p hp
    have hp' : (p : Int) < (n : Int) := by omega
    have hw1 : IntKind.i64.wrap ((p : Int) + 1) = (p : Int) + 1 := by rw [IntKind.wrap_i64]; omega
    have hwq : IntKind.i64.wrap (q : Int) = (q : Int) := by rw [IntKind.wrap_i64]; omega
    have HN := hide (show w.drew.drew.ownsRow base 46 2 (.slice (some ⟨R, 0, none⟩) 1 1) 1 [.slice (some ⟨b, off, none⟩) n cap, .int .i64 (p : Int)] from H1.out)
    have hbne : ¬ b = R := by omega
    clear hq
    go_enter Tryd.func9, Tryd.ntmps9
    go_wp2_with fail
    go_region
    go_wp2_with fail
    go_region
    go_wp2_with fail
    go_ret
    refine ⟨q, rfl, q1, ?_, ?_⟩
    · exact ⟨_, n, cap, p + 1, (HN.out.stored 1 (.int .i64 ((p + 1 : Nat) : Int))).1, h2, by omega, H4.out.keep ((((Below.refl base w).drew).drew).setCell (p := ⟨_, _, _⟩) (by show base ≤ R; omega) _)⟩
    · exact ((((grown_of ((Below.refl w.heap.size w).drew.drew)).but (some R)).trans (grown_set _ ⟨R, 1, none⟩ _)))
  · have hp' : ¬ (p : Int) < (n : Int) := by omega
    go_enter Tryd.func9, Tryd.ntmps9
    go_wp2_with fail
    go_region
    go_wp2_with fail
    go_ret
    exact ⟨0, rfl, by omega, ⟨a, n, cap, p, H1.out, h2, h3, H4.out.keep (Below.refl base w).drew⟩, (grown_of ((Below.refl w.heap.size w).drew)).but _⟩
theorem tmod_nat {v m : Nat} (hm : 0 < m) : ((v : Int).tmod (m : Int) = ((v % m : Nat) : Int)) ∧ v % m < m := ⟨by rw [← Int.ofNat_tmod], Nat.mod_lt _ hm⟩
set_option maxRecDepth 20000 in
set_option maxHeartbeats 1000000 in
theorem left_any (R : Nat) (base : Nat) (w : World) (h : RdQ base w R) :
    Calls Tryd.prog 52 #[.pointer (some ⟨R, 0, none⟩)] w fun e w' => ∃ z : Int, e = .returned (.int .i64 z) ∧ ∃ n, w' = w.drewN n := by
  have hl := h.lt
  obtain ⟨a, n, cap, p, h1, h2, h3, h4⟩ := h
  have c0 : w.cell? ⟨R, 0, none⟩ = some (.slice a n cap) := by rw [h1.cellAt 0 (by omega)]; rfl
  have c1 : w.cell? ⟨R, 1, none⟩ = some (.int .i64 (p : Int)) := by rw [h1.cellAt 1 (by omega)]; rfl
  clear h1 h4
  go_enter Tryd.func52, Tryd.ntmps52
  go_wp2_with fail
  go_region
  go_wp2_with fail
  go_ret
  exact ⟨_, rfl, 1, rfl⟩
set_option maxRecDepth 20000 in
set_option maxHeartbeats 1000000 in
theorem pick_any (R base g : Nat) (ss : List ByteArray) (w : World) (h : RdQ base w R) (hm : 0 < ss.length) (hg : g ≠ R) (hm2 : ss.length ≤ 100) (hc : ∀ j (hj : j < ss.length), w.cell? ⟨g, j, none⟩ = some (.string ss[j])) :
    Calls Tryd.prog 11 #[.pointer (some ⟨R, 0, none⟩), .slice (some ⟨g, 0, none⟩) ss.length ss.length] w fun e w' => ∃ s, e = .returned (.string s) ∧ s ∈ ss ∧ RdQ base w' R ∧ w.grownBy w' (some R) := by
  have HR := hide h
  have HC := hide hc
  have hlg := lt_cell (hc 0 hm)
  have hne : ¬ ss = [] := by intro e; subst e; simp at hm
  have hne2 : ¬ (ss.length : Int) = 0 := by omega
  clear h hc
  go_enter Tryd.func11, Tryd.ntmps11
  go_wp2_with fail
  refine (next_any R base _ HR.out).mono ?_
  rintro e w1 ⟨v, rfl, hv1, hr1, hg1⟩
  obtain ⟨hr, hrl⟩ := tmod_nat (v := v) hm
  obtain ⟨r, hrr⟩ : ∃ r, r = v % ss.length := ⟨_, rfl⟩
  rw [← hrr] at hr hrl
  have c1 : w1.cell? ⟨g, r, none⟩ = some (.string ss[r]) := (hg1.cell_far ⟨g, r, none⟩ hlg (by simp; exact hg)).trans (HC.out r hrl)
  have hrl' : (r : Int) < (ss.length : Int) := by omega
  have hwr : IntKind.i64.wrap (r : Int) = (r : Int) := by rw [IntKind.wrap_i64]; omega
  have HM := hide (show ss[r] ∈ ss by simp)
  have HR1 := hide hr1
  have HG1 := hide hg1
  clear hr1 hg1 hrr
  go_wp2_with fail
  go_ret
  exact ⟨_, rfl, HM.out, HR1.out, HG1.out⟩
end Go.Proofs.YtmdcdapjjodpiaaDoor
