/- What the searches for a text in a row of texts answer (slices.Index, slices.Contains; the specification's l1At, l1In). -/
import Derived.Test.YtlhhdhmhncjilaaGreatSmall
namespace Go.Proofs.YtlhhdhmhncjilaaGreat
open Go.ChangeShapes Go.WideShapes Go.ChangeAt Go.RowKit

def StrsAt (w : World) (v : Value) (ss : List ByteArray) : Prop :=
  ∃ a cap, v = .slice a ss.length cap ∧ ss.length ≤ cap ∧ cap ≤ maxLen ∧
    (0 < ss.length → ∃ b off, a = some ⟨b, off, none⟩ ∧ ∀ j (h : j < ss.length), w.cell? ⟨b, off + j, none⟩ = some (.string ss[j]))
theorem StrsAt.keep {w w' : World} (hb : Below w.heap.size w w') {v : Value} {ss : List ByteArray} (h : StrsAt w v ss) : StrsAt w' v ss := by
  obtain ⟨a, cap, hv, h1, h2, h3⟩ := h
  refine ⟨a, cap, hv, h1, h2, fun h0 => ?_⟩
  obtain ⟨b, off, ha, hc⟩ := h3 h0
  exact ⟨b, off, ha, fun j h => keep_cell hb (hc j h)⟩

set_option maxHeartbeats 1000000 in
theorem index_any (v : Value) (ss : List ByteArray) (s : ByteArray) (w : World) (h : StrsAt w v ss) :
    Calls Tryz.prog 105 #[v, .string s] w fun e w' => e = .returned (.int .i64 (atS ss s)) ∧ w' = w := by
  obtain ⟨a, cap, rfl, hl, hm, hc⟩ := h
  unfold maxLen at hm
  have H : Hid (0 < ss.length → ∃ b off, a = some ⟨b, off, none⟩ ∧ ∀ j (h : j < ss.length), w.cell? ⟨b, off + j, none⟩ = some (.string ss[j])) := hc
  clear hc
  go_enter Tryz.func105, Tryz.ntmps105
  go_wp2_with fail
  go_loop [8] (fun i => ∃ k : Nat, k ≤ ss.length ∧ i = .int .i64 k ∧ Hid (∀ j (_ : j < ss.length), j < k → ss[j] ≠ s)) (fun i => ss.length - (intOf i).toNat)
  case atStart => exact ⟨0, by omega, rfl, fun j _ h => by omega⟩
  case round =>
    obtain ⟨k, hk, rfl, HA⟩ := hrel
    by_cases hlt : k < ss.length
    · obtain ⟨b, off, rfl, hc⟩ := H.out (by omega)
      have d := hc k hlt
      by_cases he : ss[k] = s
      · have hq : (s.toList == ss[k].toList) = true := by rw [beq_bytes]; simp [he]
        have HF : Hid (atS ss s = k) := atS_found ss s k hlt he (fun j hj => HA.out j (by omega) hj)
        clear hc H he
        go_wp2_with fail
        go_ret
        exact ⟨ret_int HF.out.symm, rfl⟩
      · have hq : (s.toList == ss[k].toList) = false := by rw [beq_bytes]; simp; exact fun e => he e.symm
        have HN : Hid (∀ j (_ : j < ss.length), j < k + 1 → ss[j] ≠ s) := by
          intro j h hj
          by_cases e : j = k
          · subst e; exact he
          · exact HA.out j h (by omega)
        clear hc H he
        go_wp2_with fail
        go_round
        case rel => exact ⟨k + 1, by omega, by go_num, HN⟩
        case measure => simp [intOf]; omega
    · have HF : Hid (atS ss s = -1) := atS_none ss s (fun j hj => HA.out j hj (by omega))
      go_wp2_with fail
      go_ret
      exact ⟨ret_int HF.out.symm, rfl⟩

set_option maxHeartbeats 1000000 in
theorem l1At_any (v : Value) (ss : List ByteArray) (s : ByteArray) (w : World) (h : StrsAt w v ss) :
    Calls Tryz.prog 89 #[v, .string s] w fun e w' => e = .returned (.int .i64 (atS ss s)) ∧ w' = w := by
  obtain ⟨a, cap, rfl, hl, hm, hc⟩ := h
  unfold maxLen at hm
  have H : Hid (0 < ss.length → ∃ b off, a = some ⟨b, off, none⟩ ∧ ∀ j (h : j < ss.length), w.cell? ⟨b, off + j, none⟩ = some (.string ss[j])) := hc
  clear hc
  go_enter Tryz.func89, Tryz.ntmps89
  go_wp2_with fail
  go_loop [5] (fun i => ∃ k : Nat, k ≤ ss.length ∧ i = .int .i64 k ∧ Hid (∀ j (_ : j < ss.length), j < k → ss[j] ≠ s)) (fun i => ss.length - (intOf i).toNat)
  case atStart => exact ⟨0, by omega, rfl, fun j _ h => by omega⟩
  case round =>
    obtain ⟨k, hk, rfl, HA⟩ := hrel
    by_cases hlt : k < ss.length
    · obtain ⟨b, off, rfl, hc⟩ := H.out (by omega)
      have d := hc k hlt
      by_cases he : ss[k] = s
      · have hq : (ss[k].toList == s.toList) = true := by rw [beq_bytes]; simp [he]
        have HF : Hid (atS ss s = k) := atS_found ss s k hlt he (fun j hj => HA.out j (by omega) hj)
        clear hc H he
        go_wp2_with fail
        go_ret
        exact ⟨ret_int HF.out.symm, rfl⟩
      · have hq : (ss[k].toList == s.toList) = false := by rw [beq_bytes]; simp [he]
        have HN : Hid (∀ j (_ : j < ss.length), j < k + 1 → ss[j] ≠ s) := by
          intro j h hj
          by_cases e : j = k
          · subst e; exact he
          · exact HA.out j h (by omega)
        clear hc H he
        go_wp2_with fail
        go_round
        case rel => exact ⟨k + 1, by omega, by go_num, HN⟩
        case measure => simp [intOf]; omega
    · have HF : Hid (atS ss s = -1) := atS_none ss s (fun j hj => HA.out j hj (by omega))
      go_wp2_with fail
      go_ret
      exact ⟨ret_int HF.out.symm, rfl⟩

set_option maxHeartbeats 400000 in
theorem contains_any (v : Value) (ss : List ByteArray) (s : ByteArray) (w : World) (h : StrsAt w v ss) :
    Calls Tryz.prog 103 #[v, .string s] w fun e w' => e = .returned (.bool (hasB ss s)) ∧ w' = w := by
  rw [← atS_mem]
  have H : Hid (StrsAt w v ss) := h
  obtain ⟨a, cap, rfl, _, _, _⟩ := h
  go_enter Tryz.func103, Tryz.ntmps103
  go_wp2_with (go_at_call 105; refine (index_any _ ss _ _ H.out).mono ?_; rintro e w' ⟨rfl, rfl⟩)
  go_ret
  exact ⟨rfl, rfl⟩
set_option maxHeartbeats 400000 in
theorem l1In_any (v : Value) (ss : List ByteArray) (s : ByteArray) (w : World) (h : StrsAt w v ss) :
    Calls Tryz.prog 78 #[v, .string s] w fun e w' => e = .returned (.bool (hasB ss s)) ∧ w' = w := by
  rw [← atS_mem]
  have H : Hid (StrsAt w v ss) := h
  obtain ⟨a, cap, rfl, _, _, _⟩ := h
  go_enter Tryz.func78, Tryz.ntmps78
  go_wp2_with (go_at_call 89; refine (l1At_any _ ss _ _ H.out).mono ?_; rintro e w' ⟨rfl, rfl⟩)
  go_ret
  exact ⟨rfl, rfl⟩
end Go.Proofs.YtlhhdhmhncjilaaGreat
