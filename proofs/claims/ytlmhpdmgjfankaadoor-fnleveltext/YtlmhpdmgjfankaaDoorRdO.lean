/- What the specification's l1Open and l1Many answer. -/
import Derived.Test.YtlmhpdmgjfankaaDoorDrawW
namespace Go.Proofs.YtlmhpdmgjfankaaDoor
open Go.ChangeShapes Go.WideShapes Go.ChangeAt Go.RowKit

/-- Bytes that came in as an argument. -/
def CodeAt (w : World) (a : Option Addr) (bs : List UInt8) : Prop :=
  0 < bs.length → ∃ b off, a = some ⟨b, off, none⟩ ∧ ∀ j (h : j < bs.length), w.cell? ⟨b, off + j, none⟩ = some (.int .u8 (bs[j].toNat : Int))
theorem CodeAt.bytes {w : World} {a : Option Addr} {bs : List UInt8} (h : CodeAt w a bs) (m : Nat) : BytesAt w.heap.size w a (bs.take m) := fun h0 => by
  have hl : (bs.take m).length = min m bs.length := List.length_take
  obtain ⟨b, off, h1, h2⟩ := h (by omega)
  refine ⟨b, off, h1, lt_cell (h2 0 (by omega)), fun j hj => ?_⟩
  rw [h2 j (by omega)]
  simp
theorem CodeAt.keep {w w' : World} {a : Option Addr} {bs : List UInt8} (h : CodeAt w a bs) (hb : Below w.heap.size w w') : CodeAt w' a bs := fun h0 => by
  obtain ⟨b, off, h1, h2⟩ := h h0
  exact ⟨b, off, h1, fun j hj => keep_cell hb (h2 j hj)⟩

set_option maxRecDepth 20000 in
set_option maxHeartbeats 1000000 in
theorem l1Open_any (a : Option Addr) (bs : List UInt8) (cap : Nat) (w : World) (h : CodeAt w a bs) (hn : bs.length ≤ cap) (hc : cap ≤ maxLen) :
    Calls Tryd.prog 23 #[.slice a bs.length cap] w fun e w' => e = .returned (.pointer (some ⟨w.heap.size, 0, none⟩)) ∧ RdAt ⟨bs.take 1000, 0⟩ w.heap.size w' w.heap.size ∧ Below w.heap.size w w' := by
  have H := hide (h.bytes 1000)
  have hl : (bs.take 1000).length = min 1000 bs.length := List.length_take
  have HL := hide hl
  unfold maxLen at hc
  clear h hl
  obtain ⟨n, hnn⟩ : ∃ n, n = bs.length := ⟨_, rfl⟩
  rw [← hnn] at hn HL ⊢
  clear hnn
  by_cases hb : 1000 < n
  · have d1 : decide (1000 < (n : Int)) = true := by simp; omega
    have hsl : ∀ W : World, (Instr.slice 33 (.slice a n cap) none (some (.int .i64 1000)) none).run Tryd.prog W = .ok (.slice a 1000 cap) W := fun W => by
      rw [run_slice_h W 33 a n cap (by kernel_rfl) .i64 1000 (by omega) (by omega)]
      have h0 : ¬ cap = 0 := by omega
      simp [sliced, go_sem]
    go_enter Tryd.func23, Tryd.ntmps23
    go_wp2_with fail
    go_ret
    have hl2 : (bs.take 1000).length = 1000 := by have := HL.out; omega
    exact ⟨rfl, ⟨a, cap, by rw [hl2]; exact World.ownsRow_lit w _ 1 (Nat.le_refl _) (by unfold maxLen; omega) rfl, by rw [hl2]; exact Nat.le_refl _, by show 0 ≤ 1000; omega, H.out.keep (bel_alloc (Below.refl _ _) _)⟩, bel_alloc (Below.refl _ _) _⟩
  · have d1 : decide (1000 < (n : Int)) = false := by simp; omega
    go_enter Tryd.func23, Tryd.ntmps23
    go_wp2_with fail
    go_ret
    have hl2 : (bs.take 1000).length = n := by have := HL.out; omega
    exact ⟨rfl, ⟨a, cap, by rw [hl2]; exact World.ownsRow_lit w _ 1 (Nat.le_refl _) (by unfold maxLen; omega) rfl, by rw [hl2]; omega, by show 0 ≤ 1000; omega, H.out.keep (bel_alloc (Below.refl _ _) _)⟩, bel_alloc (Below.refl _ _) _⟩

def succs : Nat → Tr → Tr
  | 0, t => t
  | n + 1, t => .one 2 ⟨#[]⟩ (succs n t)
theorem succs_ok {t : Tr} (h : t.ok) : ∀ n, (succs n t).ok
  | 0 => h
  | n + 1 => ⟨rfl, empty_ok 2 (by decide), succs_ok h n⟩
theorem succs_cnt (t : Tr) : ∀ n, (succs n t).cnt = n + t.cnt
  | 0 => by simp [succs]
  | n + 1 => by simp only [succs, Tr.cnt, succs_cnt t n]; omega
set_option maxRecDepth 20000 in
set_option maxHeartbeats 1000000 in
theorem l1Many_any (t : Tr) (p n : Nat) (w : World) (ht : TreeAt w.heap.size w p t) (hn : n ≤ 64) :
    Calls Tryd.prog 45 #[.pointer (some ⟨p, 0, none⟩), .int .i64 (n : Int)] w fun e w' => ∃ g, e = .returned (.pointer (some ⟨g, 0, none⟩)) ∧ TreeAt w'.heap.size w' g (succs n t) ∧ Below w.heap.size w w' := by
  have HT := hide ht
  clear ht
  go_enter Tryd.func45, Tryd.ntmps45
  go_wp2_with fail
  go_loopw [0, 5] (fun l i wr => ∃ (j g : Nat), j ≤ n ∧ i = .int .i64 j ∧ l = .pointer (some ⟨g, 0, none⟩) ∧ Hid (TreeAt wr.heap.size wr g (succs j t)) ∧ Below w.heap.size w wr) (fun _ i _ => n - (intOf i).toNat)
  case atStart => exact ⟨0, p, by omega, rfl, rfl, HT.out, Below.refl _ _⟩
  case round =>
    obtain ⟨j, g, hj, rfl, rfl, HTR, hbel⟩ := hrel
    by_cases hlt : j < n
    · have d1 : decide ((j : Int) < (n : Int)) = true := by simp; omega
      have d2 : decide ((j : Int) ≤ 64) = true := by simp; omega
      go_wp2_with (go_at_call 65; refine (l1Succ_any _ g _ HTR.out).mono ?_; rintro e w3 ⟨rfl, ht3, hb3⟩)
      go_roundw
      case rel => exact ⟨j + 1, _, by omega, by go_num, rfl, ht3, hbel.trans (hb3.mono hbel.size)⟩
      case measure => simp [intOf]; omega
    · have d1 : decide ((j : Int) < (n : Int)) = false := by simp; omega
      have hje : j = n := by omega
      have HTN : Hid (TreeAt wr.heap.size wr g (succs n t)) := by have := HTR.out; rwa [hje] at this
      clear hje
      go_wp2_with fail
      go_ret
      exact ⟨g, rfl, HTN.out, hbel⟩

end Go.Proofs.YtlmhpdmgjfankaaDoor
