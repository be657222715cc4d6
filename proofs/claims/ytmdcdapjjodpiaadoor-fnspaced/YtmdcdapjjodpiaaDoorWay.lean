/- What the functions that give the tables answer; the opening of the reader. -/
import Derived.Test.YtmdcdapjjodpiaaDoorTbl
namespace Go.Proofs.YtmdcdapjjodpiaaDoor
open Go.ChangeShapes Go.WideShapes Go.ChangeAt Go.RowKit

set_option maxRecDepth 100000 in
set_option maxHeartbeats 4000000 in
theorem l14Defs_any (w : World) : Calls Tryd.prog 35 #[] w fun e w' => e = .returned (.slice (some ⟨w.heap.size, 0, none⟩) 44 44) ∧ TabAt w w' defsL := by
  go_enter Tryd.func35, Tryd.ntmps35
  go_wp2_with fail
  go_ret
  exact ⟨rfl, TabAt.new w _ _ defsL (by kernel_rfl)⟩

set_option maxRecDepth 100000 in
set_option maxHeartbeats 4000000 in
theorem l14Scripts_any (w : World) : Calls Tryd.prog 36 #[] w fun e w' => e = .returned (.slice (some ⟨w.heap.size, 0, none⟩) 39 39) ∧ TabAt w w' scriptsL := by
  go_enter Tryd.func36, Tryd.ntmps36
  go_wp2_with fail
  go_ret
  exact ⟨rfl, TabAt.new w _ _ scriptsL (by kernel_rfl)⟩

set_option maxRecDepth 100000 in
set_option maxHeartbeats 4000000 in
theorem l14Others_any (w : World) : Calls Tryd.prog 37 #[] w fun e w' => e = .returned (.slice (some ⟨w.heap.size, 0, none⟩) 39 39) ∧ TabAt w w' othersL := by
  go_enter Tryd.func37, Tryd.ntmps37
  go_wp2_with fail
  go_ret
  exact ⟨rfl, TabAt.new w _ _ othersL (by kernel_rfl)⟩

/-- A new row of texts that may be chosen. -/
def WaysOut (w : World) (e : Ending) (w' : World) : Prop := ∃ L : List ByteArray, e = .returned (.slice (some ⟨w.heap.size, 0, none⟩) L.length L.length) ∧ TabAt w w' L ∧ 3 ≤ L.length ∧ L.length ≤ 100 ∧ L.all wayB = true
set_option maxRecDepth 100000 in
set_option maxHeartbeats 8000000 in
theorem l14Ways_any (c : Int) (w : World) : Calls Tryd.prog 51 #[.int .u8 c] w fun e w' => WaysOut w e w' := by
  by_cases h78 : c = 78
  · have q78 : (c == 78) = true := by simp [h78]
    clear h78
    go_enter Tryd.func51, Tryd.ntmps51
    go_wp2_with fail
    go_ret
    exact ⟨waysN, rfl, TabAt.new w _ _ waysN (by kernel_rfl), by decide, by decide, waysN_ok⟩
  have q78 : (c == 78) = false := by simp [h78]
  clear h78
  by_cases h76 : c = 76
  · have q76 : (c == 76) = true := by simp [h76]
    clear h76
    go_enter Tryd.func51, Tryd.ntmps51
    go_wp2_with fail
    go_ret
    exact ⟨waysL, rfl, TabAt.new w _ _ waysL (by kernel_rfl), by decide, by decide, waysL_ok⟩
  have q76 : (c == 76) = false := by simp [h76]
  clear h76
  by_cases h80 : c = 80
  · have q80 : (c == 80) = true := by simp [h80]
    clear h80
    go_enter Tryd.func51, Tryd.ntmps51
    go_wp2_with fail
    go_ret
    exact ⟨waysP, rfl, TabAt.new w _ _ waysP (by kernel_rfl), by decide, by decide, waysP_ok⟩
  have q80 : (c == 80) = false := by simp [h80]
  clear h80
  by_cases h84 : c = 84
  · have q84 : (c == 84) = true := by simp [h84]
    clear h84
    go_enter Tryd.func51, Tryd.ntmps51
    go_wp2_with fail
    go_ret
    exact ⟨waysT, rfl, TabAt.new w _ _ waysT (by kernel_rfl), by decide, by decide, waysT_ok⟩
  have q84 : (c == 84) = false := by simp [h84]
  clear h84
  by_cases h70 : c = 70
  · have q70 : (c == 70) = true := by simp [h70]
    clear h70
    go_enter Tryd.func51, Tryd.ntmps51
    go_wp2_with fail
    go_ret
    exact ⟨waysF, rfl, TabAt.new w _ _ waysF (by kernel_rfl), by decide, by decide, waysF_ok⟩
  have q70 : (c == 70) = false := by simp [h70]
  clear h70
  go_enter Tryd.func51, Tryd.ntmps51
  go_wp2_with fail
  go_ret
  exact ⟨waysA, rfl, TabAt.new w _ _ waysA (by kernel_rfl), by decide, by decide, waysA_ok⟩
theorem LowB.of {w : World} {a : Option Addr} {T : ByteArray} (h : 0 < T.size → ∃ b o, a = some ⟨b, o, none⟩ ∧ Lib.Bytes w b o T) (n : Nat) (hn : n ≤ T.size) : LowB w.heap.size w a n := fun h0 => by
  obtain ⟨b, o, h1, h2⟩ := h (by omega)
  have h3 := h2 0 (by omega)
  rw [Nat.add_zero] at h3
  exact ⟨b, o, h1, lt_cell h3, fun j hj => ⟨(T[j]'(by omega)).toNat, UInt8.toNat_lt _, h2 j (by omega)⟩⟩
set_option maxRecDepth 20000 in
set_option maxHeartbeats 1000000 in
theorem l1Open_any (v : Value) (T : ByteArray) (w : World) (h : BytesV w v T) :
    Calls Tryd.prog 8 #[v] w fun e w' => e = .returned (.pointer (some ⟨w.heap.size, 0, none⟩)) ∧ RdQ w.heap.size w' w.heap.size ∧ Below w.heap.size w w' := by
  obtain ⟨a, cap, rfl, hn, hc, hb⟩ := h
  have HB := hide hb
  unfold maxLen at hc
  clear hb
  obtain ⟨n, hnn⟩ : ∃ n, n = T.size := ⟨_, rfl⟩
  have HN := hide hnn
  rw [← hnn] at hn ⊢
  clear hnn
  by_cases hb : 1000 < n
  · have d1 : decide (1000 < (n : Int)) = true := by simp; omega
    have hsl : ∀ W : World, (Instr.slice 22 (.slice a n cap) none (some (.int .i64 1000)) none).run Tryd.prog W = .ok (.slice a 1000 cap) W := fun W => by
      rw [run_slice_h (P := Tryd.prog) W 22 a n cap (by kernel_rfl) .i64 1000 (by omega) (by omega)]
      have h0 : ¬ cap = 0 := by omega
      simp [sliced, go_sem]
    go_enter Tryd.func8, Tryd.ntmps8
    go_wp2_with fail
    go_ret
    exact ⟨rfl, ⟨a, 1000, cap, 0, World.ownsRow_lit w _ 1 (Nat.le_refl _) (by unfold maxLen; omega) rfl, Nat.le_refl _, by omega, (LowB.of HB.out 1000 (by have := HN.out; omega)).keep (bel_alloc (Below.refl _ _) _)⟩, bel_alloc (Below.refl _ _) _⟩
  · have d1 : decide (1000 < (n : Int)) = false := by simp; omega
    go_enter Tryd.func8, Tryd.ntmps8
    go_wp2_with fail
    go_ret
    exact ⟨rfl, ⟨a, n, cap, 0, World.ownsRow_lit w _ 1 (Nat.le_refl _) (by unfold maxLen; omega) rfl, by omega, by omega, (LowB.of HB.out n (by have := HN.out; omega)).keep (bel_alloc (Below.refl _ _) _)⟩, bel_alloc (Below.refl _ _) _⟩
end Go.Proofs.YtmdcdapjjodpiaaDoor
