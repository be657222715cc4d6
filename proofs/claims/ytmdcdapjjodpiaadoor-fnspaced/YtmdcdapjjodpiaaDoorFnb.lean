/- What the searches in the tables of words and signs answer, and the readers of numbers. -/
import Derived.Test.YtmdcdapjjodpiaaDoorFna
namespace Go.Proofs.YtmdcdapjjodpiaaDoor
open Go.ChangeShapes Go.WideShapes Go.ChangeAt Go.RowKit

def StrsAt (w : World) (v : Value) (ss : List ByteArray) : Prop :=
  ∃ a cap, v = .slice a ss.length cap ∧ ss.length ≤ cap ∧ cap ≤ maxLen ∧
    (0 < ss.length → ∃ b off, a = some ⟨b, off, none⟩ ∧ ∀ j (h : j < ss.length), w.cell? ⟨b, off + j, none⟩ = some (.string ss[j]))
theorem isIn_hit {ss : List ByteArray} {s : ByteArray} {k : Nat} (h : k < ss.length) (he : ss[k] = s) : isIn ss s = true := by
  unfold isIn
  rw [List.any_eq_true]
  exact ⟨ss[k], List.getElem_mem h, by simp [he]⟩
theorem isIn_miss {ss : List ByteArray} {s : ByteArray} (h : ∀ j (_ : j < ss.length), ss[j] ≠ s) : isIn ss s = false := by
  unfold isIn
  rw [List.any_eq_false]
  intro x hx
  obtain ⟨j, hj, rfl⟩ := List.getElem_of_mem hx
  simp [h j hj]
set_option maxHeartbeats 1000000 in
theorem l1At_any (v : Value) (ss : List ByteArray) (s : ByteArray) (w : World) (h : StrsAt w v ss) :
    Calls Tryd.prog 39 #[v, .string s] w fun e w' => (∃ z : Int, e = .returned (.int .i64 z) ∧ decide (0 ≤ z) = isIn ss s) ∧ w' = w := by
  obtain ⟨a, cap, rfl, hl, hm, hc⟩ := h
  unfold maxLen at hm
  have H : Hid (0 < ss.length → ∃ b off, a = some ⟨b, off, none⟩ ∧ ∀ j (h : j < ss.length), w.cell? ⟨b, off + j, none⟩ = some (.string ss[j])) := hc
  clear hc
  go_enter Tryd.func39, Tryd.ntmps39
  go_wp2_with fail
  go_loop [5] (fun i => ∃ k : Nat, k ≤ ss.length ∧ i = .int .i64 k ∧ Hid (∀ j (_ : j < ss.length), j < k → ss[j] ≠ s)) (fun i => ss.length - (intOf i).toNat)
  case atStart => exact ⟨0, by omega, rfl, fun j _ h => by omega⟩
  case round =>
    obtain ⟨k, hk, rfl, HA⟩ := hrel
    by_cases hlt : k < ss.length
    · obtain ⟨b, off, rfl, hc⟩ := H.out (by omega)
      have d := hc k hlt
      by_cases he : ss[k] = s
      · have hq : (ss[k].toList == s.toList) = true := by rw [beq_bytes]; simp [he]
        have HF : Hid (isIn ss s = true) := isIn_hit hlt he
        clear hc H he
        go_wp2_with fail
        go_ret
        exact ⟨⟨_, rfl, by rw [HF.out]; simp⟩, rfl⟩
      · have hq : (ss[k].toList == s.toList) = false := by rw [beq_bytes]; simp [he]
        have HN : Hid (∀ j (_ : j < ss.length), j < k + 1 → ss[j] ≠ s) := by
          intro j h hj
          by_cases e : j = k
          · subst e; exact he
          · exact HA.out j h (by omega)
        clear hc H he
        go_wp2_with fail
        go_round
        case rel => exact ⟨k + 1, by omega, by go_num, HN⟩
        case measure => simp [intOf]; omega
    · have HF : Hid (isIn ss s = false) := isIn_miss (fun j hj => HA.out j hj (by omega))
      go_wp2_with fail
      go_ret
      exact ⟨⟨_, rfl, by rw [HF.out]; simp⟩, rfl⟩
set_option maxHeartbeats 400000 in
theorem l1In_any (v : Value) (ss : List ByteArray) (s : ByteArray) (w : World) (h : StrsAt w v ss) :
    Calls Tryd.prog 22 #[v, .string s] w fun e w' => e = .returned (.bool (isIn ss s)) ∧ w' = w := by
  have H : Hid (StrsAt w v ss) := h
  obtain ⟨a, cap, rfl, _, _, _⟩ := h
  go_enter Tryd.func22, Tryd.ntmps22
  go_wp2_with (go_at_call 39; refine (l1At_any _ ss _ _ H.out).mono ?_; rintro e w' ⟨⟨z, rfl, hz⟩, rfl⟩)
  go_ret
  exact ⟨rfl, rfl⟩
def wordsC : Obj := .cells #[.string ⟨#[102, 117, 110]⟩, .string ⟨#[102, 111, 114, 97, 108, 108]⟩, .string ⟨#[108, 101, 116]⟩, .string ⟨#[80, 114, 111, 112]⟩, .string ⟨#[84, 121, 112, 101]⟩, .string ⟨#[83, 111, 114, 116]⟩, .string ⟨#[97, 120, 105, 111, 109]⟩, .string ⟨#[100, 101, 102]⟩, .string ⟨#[116, 104, 101, 111, 114, 101, 109]⟩, .string ⟨#[98, 121]⟩, .string ⟨#[102, 97, 109, 105, 108, 121]⟩, .string ⟨#[99, 108, 97, 115, 115]⟩, .string ⟨#[105, 110, 115, 116, 97, 110, 99, 101]⟩, .string ⟨#[113, 117, 111, 116, 105, 101, 110, 116]⟩, .string ⟨#[101, 118, 97, 108]⟩, .string ⟨#[99, 104, 101, 99, 107]⟩, .string ⟨#[95]⟩] 9
def signsC : Obj := .cells #[.string ⟨#[58, 61]⟩, .string ⟨#[61, 62]⟩, .string ⟨#[45, 62]⟩, .string ⟨#[60, 45]⟩, .string ⟨#[47, 92]⟩, .string ⟨#[92, 47]⟩, .string ⟨#[46, 123]⟩, .string ⟨#[40]⟩, .string ⟨#[41]⟩, .string ⟨#[123]⟩, .string ⟨#[125]⟩, .string ⟨#[91]⟩, .string ⟨#[93]⟩, .string ⟨#[58]⟩, .string ⟨#[44]⟩, .string ⟨#[59]⟩, .string ⟨#[124]⟩, .string ⟨#[64]⟩, .string ⟨#[61]⟩, .string ⟨#[43]⟩, .string ⟨#[42]⟩, .string ⟨#[46]⟩] 9
theorem strs_new (w : World) (A : Array Value) (t : TypeId) (fr : Nat × Nat) (ss : List ByteArray) (hA : A = (ss.map Value.string).toArray) (hl : ss.length ≤ 1000) (n : Nat) (hn : n = ss.length) : StrsAt (w.alloc (.cells A t fr)) (.slice (some ⟨w.heap.size, 0, none⟩) n n) ss := by
  subst hn hA
  refine ⟨_, _, rfl, Nat.le_refl _, by unfold maxLen; omega, fun _ => ⟨_, 0, rfl, fun j hj => ?_⟩⟩
  rw [Nat.zero_add, World.cell?_alloc_mark]
  simp [hj]
theorem StrsAt.words (w : World) : StrsAt (w.alloc wordsC) (.slice (some ⟨w.heap.size, 0, none⟩) 17 17) wordsL := strs_new w _ _ _ wordsL rfl (by decide) _ rfl
theorem StrsAt.signs (w : World) : StrsAt (w.alloc signsC) (.slice (some ⟨w.heap.size, 0, none⟩) 22 22) signsL := strs_new w _ _ _ signsL rfl (by decide) _ rfl
set_option maxRecDepth 20000 in
set_option maxHeartbeats 1000000 in
theorem l14Words_any (w : World) : Calls Tryd.prog 23 #[] w fun e w' => e = .returned (.slice (some ⟨w.heap.size, 0, none⟩) 17 17) ∧ w' = w.alloc wordsC := by
  go_enter Tryd.func23, Tryd.ntmps23
  go_wp2_with fail
  go_ret
  exact ⟨rfl, rfl⟩
set_option maxRecDepth 20000 in
set_option maxHeartbeats 1000000 in
theorem l14Signs_any (w : World) : Calls Tryd.prog 27 #[] w fun e w' => e = .returned (.slice (some ⟨w.heap.size, 0, none⟩) 22 22) ∧ w' = w.alloc signsC := by
  go_enter Tryd.func27, Tryd.ntmps27
  go_wp2_with fail
  go_ret
  exact ⟨rfl, rfl⟩
/-- The variables that are read. -/
structure Tabs (w : World) : Prop where
  sg : ∀ j (h : j < signsL.length), w.cell? ⟨0, j, none⟩ = some (.string signsL[j])
  wd : ∀ j (h : j < wordsL.length), w.cell? ⟨1, j, none⟩ = some (.string wordsL[j])
theorem lt_cell {w : World} {b o : Nat} {v : Value} (h : w.cell? ⟨b, o, none⟩ = some v) : b < w.heap.size := World.block_lt_of_cell? w ⟨b, o, none⟩ h
theorem keep_cell {w w' : World} (hb : Below w.heap.size w w') {b o : Nat} {v : Value} (h : w.cell? ⟨b, o, none⟩ = some v) : w'.cell? ⟨b, o, none⟩ = some v := by
  rw [hb.cell (p := ⟨b, o, none⟩) (lt_cell h)]; exact h
theorem Tabs.keep {w w' : World} (h : Tabs w) (hb : Below w.heap.size w w') : Tabs w' := ⟨fun j hj => keep_cell hb (h.sg j hj), fun j hj => keep_cell hb (h.wd j hj)⟩
theorem idxW (W : World) : ∀ (k : Nat) (hk : k < 17), (Instr.index 59 (.agg #[.string ⟨#[102, 117, 110]⟩, .string ⟨#[102, 111, 114, 97, 108, 108]⟩, .string ⟨#[108, 101, 116]⟩, .string ⟨#[80, 114, 111, 112]⟩, .string ⟨#[84, 121, 112, 101]⟩, .string ⟨#[83, 111, 114, 116]⟩, .string ⟨#[97, 120, 105, 111, 109]⟩, .string ⟨#[100, 101, 102]⟩, .string ⟨#[116, 104, 101, 111, 114, 101, 109]⟩, .string ⟨#[98, 121]⟩, .string ⟨#[102, 97, 109, 105, 108, 121]⟩, .string ⟨#[99, 108, 97, 115, 115]⟩, .string ⟨#[105, 110, 115, 116, 97, 110, 99, 101]⟩, .string ⟨#[113, 117, 111, 116, 105, 101, 110, 116]⟩, .string ⟨#[101, 118, 97, 108]⟩, .string ⟨#[99, 104, 101, 99, 107]⟩, .string ⟨#[95]⟩]) (.int .i64 (k : Int))).run Tryd.prog W = .ok (.string (wordsL[k]'hk)) W
  | 0, _ => by kernel_rfl
  | 1, _ => by kernel_rfl
  | 2, _ => by kernel_rfl
  | 3, _ => by kernel_rfl
  | 4, _ => by kernel_rfl
  | 5, _ => by kernel_rfl
  | 6, _ => by kernel_rfl
  | 7, _ => by kernel_rfl
  | 8, _ => by kernel_rfl
  | 9, _ => by kernel_rfl
  | 10, _ => by kernel_rfl
  | 11, _ => by kernel_rfl
  | 12, _ => by kernel_rfl
  | 13, _ => by kernel_rfl
  | 14, _ => by kernel_rfl
  | 15, _ => by kernel_rfl
  | 16, _ => by kernel_rfl
  | k + 17, h => absurd h (by omega)
theorem idxS (W : World) : ∀ (k : Nat) (hk : k < 22), (Instr.index 52 (.agg #[.string ⟨#[58, 61]⟩, .string ⟨#[61, 62]⟩, .string ⟨#[45, 62]⟩, .string ⟨#[60, 45]⟩, .string ⟨#[47, 92]⟩, .string ⟨#[92, 47]⟩, .string ⟨#[46, 123]⟩, .string ⟨#[40]⟩, .string ⟨#[41]⟩, .string ⟨#[123]⟩, .string ⟨#[125]⟩, .string ⟨#[91]⟩, .string ⟨#[93]⟩, .string ⟨#[58]⟩, .string ⟨#[44]⟩, .string ⟨#[59]⟩, .string ⟨#[124]⟩, .string ⟨#[64]⟩, .string ⟨#[61]⟩, .string ⟨#[43]⟩, .string ⟨#[42]⟩, .string ⟨#[46]⟩]) (.int .i64 (k : Int))).run Tryd.prog W = .ok (.string (signsL[k]'hk)) W
  | 0, _ => by kernel_rfl
  | 1, _ => by kernel_rfl
  | 2, _ => by kernel_rfl
  | 3, _ => by kernel_rfl
  | 4, _ => by kernel_rfl
  | 5, _ => by kernel_rfl
  | 6, _ => by kernel_rfl
  | 7, _ => by kernel_rfl
  | 8, _ => by kernel_rfl
  | 9, _ => by kernel_rfl
  | 10, _ => by kernel_rfl
  | 11, _ => by kernel_rfl
  | 12, _ => by kernel_rfl
  | 13, _ => by kernel_rfl
  | 14, _ => by kernel_rfl
  | 15, _ => by kernel_rfl
  | 16, _ => by kernel_rfl
  | 17, _ => by kernel_rfl
  | 18, _ => by kernel_rfl
  | 19, _ => by kernel_rfl
  | 20, _ => by kernel_rfl
  | 21, _ => by kernel_rfl
  | k + 22, h => absurd h (by omega)
set_option maxRecDepth 20000 in
set_option maxHeartbeats 4000000 in
theorem isSourceWord_any (s : ByteArray) (w : World) (h : Tabs w) :
    Calls Tryd.prog 46 #[.string s] w fun e w' => e = .returned (.bool (isIn wordsL s)) ∧ w' = w := by
  have c0 : w.cell? ⟨1, 0, none⟩ = some (.string ⟨#[102, 117, 110]⟩) := h.wd 0 (by decide)
  have c1 : w.cell? ⟨1, 1, none⟩ = some (.string ⟨#[102, 111, 114, 97, 108, 108]⟩) := h.wd 1 (by decide)
  have c2 : w.cell? ⟨1, 2, none⟩ = some (.string ⟨#[108, 101, 116]⟩) := h.wd 2 (by decide)
  have c3 : w.cell? ⟨1, 3, none⟩ = some (.string ⟨#[80, 114, 111, 112]⟩) := h.wd 3 (by decide)
  have c4 : w.cell? ⟨1, 4, none⟩ = some (.string ⟨#[84, 121, 112, 101]⟩) := h.wd 4 (by decide)
  have c5 : w.cell? ⟨1, 5, none⟩ = some (.string ⟨#[83, 111, 114, 116]⟩) := h.wd 5 (by decide)
  have c6 : w.cell? ⟨1, 6, none⟩ = some (.string ⟨#[97, 120, 105, 111, 109]⟩) := h.wd 6 (by decide)
  have c7 : w.cell? ⟨1, 7, none⟩ = some (.string ⟨#[100, 101, 102]⟩) := h.wd 7 (by decide)
  have c8 : w.cell? ⟨1, 8, none⟩ = some (.string ⟨#[116, 104, 101, 111, 114, 101, 109]⟩) := h.wd 8 (by decide)
  have c9 : w.cell? ⟨1, 9, none⟩ = some (.string ⟨#[98, 121]⟩) := h.wd 9 (by decide)
  have c10 : w.cell? ⟨1, 10, none⟩ = some (.string ⟨#[102, 97, 109, 105, 108, 121]⟩) := h.wd 10 (by decide)
  have c11 : w.cell? ⟨1, 11, none⟩ = some (.string ⟨#[99, 108, 97, 115, 115]⟩) := h.wd 11 (by decide)
  have c12 : w.cell? ⟨1, 12, none⟩ = some (.string ⟨#[105, 110, 115, 116, 97, 110, 99, 101]⟩) := h.wd 12 (by decide)
  have c13 : w.cell? ⟨1, 13, none⟩ = some (.string ⟨#[113, 117, 111, 116, 105, 101, 110, 116]⟩) := h.wd 13 (by decide)
  have c14 : w.cell? ⟨1, 14, none⟩ = some (.string ⟨#[101, 118, 97, 108]⟩) := h.wd 14 (by decide)
  have c15 : w.cell? ⟨1, 15, none⟩ = some (.string ⟨#[99, 104, 101, 99, 107]⟩) := h.wd 15 (by decide)
  have c16 : w.cell? ⟨1, 16, none⟩ = some (.string ⟨#[95]⟩) := h.wd 16 (by decide)
  have h00 := lt_cell c0
  clear h
  go_enter Tryd.func46, Tryd.ntmps46
  go_wp2_with fail
  go_loop [6] (fun i => ∃ k : Nat, k ≤ 17 ∧ i = .int .i64 k ∧ Hid (∀ j (_ : j < wordsL.length), j < k → wordsL[j] ≠ s)) (fun i => 17 - (intOf i).toNat)
  case atStart => exact ⟨0, by omega, rfl, fun j _ h => by omega⟩
  case round =>
    obtain ⟨k, hk, rfl, HA⟩ := hrel
    clear c0 c1 c2 c3 c4 c5 c6 c7 c8 c9 c10 c11 c12 c13 c14 c15 c16
    by_cases hlt : k < 17
    · have hix := fun W => idxW W k hlt
      have hlt' : (k : Int) < 17 := by omega
      by_cases he : wordsL[k]'hlt = s
      · have hq : ((wordsL[k]'hlt).toList == s.toList) = true := by rw [beq_bytes]; simp [he]
        have HF : Hid (isIn wordsL s = true) := isIn_hit (ss := wordsL) hlt he
        clear he
        generalize wordsL[k]'hlt = U at *
        go_wp2_with fail
        go_ret
        exact ⟨ret_bool HF.out.symm, rfl⟩
      · have hq : ((wordsL[k]'hlt).toList == s.toList) = false := by rw [beq_bytes]; simp [he]
        have HN : Hid (∀ j (_ : j < wordsL.length), j < k + 1 → wordsL[j] ≠ s) := by
          intro j h hj
          by_cases e : j = k
          · subst e; exact he
          · exact HA.out j h (by omega)
        clear he HA
        generalize wordsL[k]'hlt = U at hix hq
        go_wp2_with fail
        go_round
        case rel => exact ⟨k + 1, by omega, by go_num, HN⟩
        case measure => simp [intOf]; omega
    · have HF : Hid (isIn wordsL s = false) := isIn_miss (fun j hj => HA.out j hj (by have : wordsL.length = 17 := rfl; omega))
      have hlt' : ¬ (k : Int) < 17 := by omega
      go_wp2_with fail
      go_ret
      exact ⟨ret_bool HF.out.symm, rfl⟩
end Go.Proofs.YtmdcdapjjodpiaaDoor
