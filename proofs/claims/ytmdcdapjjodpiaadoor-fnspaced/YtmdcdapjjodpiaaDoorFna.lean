/- What the small functions on bytes, slices of bytes and strings answer. -/
import Derived.Test.YtmdcdapjjodpiaaDoorPla
import Derived.WalkLawsBesides
import Derived.WalkSpells
import Derived.Deep.Draws
import Derived.Lib.ConvBytes
import Derived.Lib.SlBytesConst
import Derived.BigQuiet
import Derived.Deep.QuietTactic
import Derived.Deep.RegionWith
namespace Go.Proofs.YtmdcdapjjodpiaaDoor
open Go.ChangeShapes Go.WideShapes Go.ChangeAt Go.RowKit

theorem beq_bytes (a b : ByteArray) : (a.toList == b.toList) = decide (a = b) := by
  rw [Bool.eq_iff_iff]
  simp only [beq_iff_eq, decide_eq_true_eq, ByteArray.toList_eq]
  constructor
  · intro h; cases a; cases b; simp at h; simp [h]
  · intro h; rw [h]
/-- A slice of bytes from i on. -/
theorem sl_l (W : World) (b o n c i : Nat) (h : i < n) (hc : n ≤ c) : (Instr.slice 22 (.slice (some ⟨b, o, none⟩) n c) (some (.int .i64 (i : Int))) none none).run Tryd.prog W = .ok (.slice (some ⟨b, o + i, none⟩) (n - i) (c - i)) W := by
  have hne : ¬ c = i := by omega
  rw [run_slice_l (P := Tryd.prog) W 22 _ _ _ (by kernel_rfl) .i64 _ (by omega) (by omega)]
  rw [show ((sizeOf (Tryd.prog.elem 22)).run Tryd.prog W) = .ok 1 W by kernel_rfl]
  by_cases h0 : i = 0
  · subst h0
    simp [Result.andThen, sliced, Addr.add, hne]
  · simp [Result.andThen, sliced, Addr.add, hne, h0]
theorem sl_h (W : World) (b o n c i : Nat) (h : 0 < i) (hc : i ≤ c) : (Instr.slice 22 (.slice (some ⟨b, o, none⟩) n c) none (some (.int .i64 (i : Int))) none).run Tryd.prog W = .ok (.slice (some ⟨b, o, none⟩) i c) W := by
  have hne : ¬ c = 0 := by omega
  rw [run_slice_h (P := Tryd.prog) W 22 _ _ _ (by kernel_rfl) .i64 _ (by omega) (by omega)]
  rw [show ((sizeOf (Tryd.prog.elem 22)).run Tryd.prog W) = .ok 1 W by kernel_rfl]
  simp [Result.andThen, sliced, Addr.add, hne]
theorem sl_lh (W : World) (b o n c l h : Nat) (hlh : l < h) (hc : h ≤ c) : (Instr.slice 22 (.slice (some ⟨b, o, none⟩) n c) (some (.int .i64 (l : Int))) (some (.int .i64 (h : Int))) none).run Tryd.prog W = .ok (.slice (some ⟨b, o + l, none⟩) (h - l) (c - l)) W :=
  Lib.run_slice_window W 22 5 (by kernel_rfl) (fun w => by kernel_rfl) b o n c l h hlh hc
theorem conv_win (W : World) (b o : Nat) (T : ByteArray) (hc : Lib.Bytes W b o T) (j n cap : Nat) (hj : j + n ≤ T.size) :
    (convert 22 9 (.slice (some ⟨b, o + j, none⟩) n cap)).run Tryd.prog W = .ok (.string (T.extract j (j + n))) W :=
  Lib.run_convert_window W 22 5 9 (by kernel_rfl) (by kernel_rfl) (by kernel_rfl) b o T hc j n cap hj

set_option maxHeartbeats 400000 in
theorem isBlank_any (n : Int) (w : World) : Calls Tryd.prog 28 #[.int .u8 n] w fun e w' => e = .returned (.bool (decide (n = 32) || decide (n = 10))) ∧ w' = w := by
  go_enter Tryd.func28, Tryd.ntmps28
  go_wp2
  all_goals
    go_ret
    exact ⟨ret_bool (by rw [Bool.eq_iff_iff]; simp <;> omega), rfl⟩
set_option maxHeartbeats 400000 in
theorem isSourceBlank_any (n : Int) (w : World) : Calls Tryd.prog 14 #[.int .u8 n] w fun e w' => e = .returned (.bool (blankB n)) ∧ w' = w := by
  cases h : (decide (n = 32) || decide (n = 10))
  all_goals
    go_enter Tryd.func14, Tryd.ntmps14
    go_wp2_with (go_at_call 28; refine (isBlank_any _ _).mono ?_; rintro e w' ⟨rfl, rfl⟩; rw [h])
  all_goals
    go_ret
    exact ⟨ret_bool (by rw [Bool.eq_iff_iff]; simp at h; simp [blankB]; omega), rfl⟩
set_option maxHeartbeats 400000 in
theorem l14In_any (n : Int) (w : World) : Calls Tryd.prog 21 #[.int .u8 n] w fun e w' => e = .returned (.bool (goesB n)) ∧ w' = w := by
  cases h : letB n <;> cases h2 : digB n
  all_goals
    go_enter Tryd.func21, Tryd.ntmps21
    go_wp2_with (first | (go_at_call 20; refine (l1Letter_any _ _).mono ?_; rintro e w' ⟨rfl, rfl⟩) | (go_at_call 25; refine (l1Digit_any _ _).mono ?_; rintro e w' ⟨rfl, rfl⟩))
  all_goals
    go_ret
    exact ⟨ret_bool (by rw [Bool.eq_iff_iff]; simp [goesB, h, h2]), rfl⟩

set_option maxHeartbeats 400000 in
theorem equal_any (w : World) (b o : Nat) (T P : ByteArray) (g : Nat) (hc : Lib.Bytes w b o T) (hg : Lib.Bytes w g 0 P) (j n cap c2 : Nat) (hj : j + n ≤ T.size) :
    Calls Tryd.prog 29 #[.slice (some ⟨b, o + j, none⟩) n cap, .slice (some ⟨g, 0, none⟩) P.size c2] w fun e w' => e = .returned (.bool (decide (T.extract j (j + n) = P))) ∧ w' = w := by
  have h1 := conv_win w b o T hc j n cap hj
  have h2 := conv_win w g 0 P hg 0 P.size c2 (by omega)
  have h3 : P.extract 0 (0 + P.size) = P := by simp
  rw [h3] at h2
  rw [← beq_bytes]
  go_enter Tryd.func29, Tryd.ntmps29
  go_wp2_with fail
  go_ret
  exact ⟨rfl, rfl⟩
set_option maxHeartbeats 1000000 in
theorem prefix_any (w : World) (b o : Nat) (T P : ByteArray) (g : Nat) (hc : Lib.Bytes w b o T) (hg : Lib.Bytes w g 0 P) (i cap c2 : Nat) (hi : i ≤ T.size) (hP : 0 < P.size) (hcap : T.size - i ≤ cap) :
    Calls Tryd.prog 15 #[.slice (some ⟨b, o + i, none⟩) (T.size - i) cap, .slice (some ⟨g, 0, none⟩) P.size c2] w fun e w' => e = .returned (.bool (preB P T i)) ∧ w' = w := by
  have HC := hide hc
  have HG := hide hg
  clear hc hg
  obtain ⟨m, hm⟩ : ∃ m, m = T.size - i := ⟨_, rfl⟩
  rw [← hm] at hcap ⊢
  have HM := hide hm
  clear hm
  by_cases h : P.size ≤ m
  · have HE : Hid (preB P T i = decide (T.extract i (i + P.size) = P)) := by
      show _ = _
      unfold preB
      have := HM.out
      simp [show i + P.size ≤ T.size by omega]
    have hsl := fun W n => sl_h W b (o + i) n cap P.size hP (by omega)
    have hle : (P.size : Int) ≤ m := by omega
    have hz : i + P.size ≤ T.size := by have := HM.out; omega
    go_enter Tryd.func15, Tryd.ntmps15
    go_wp2_with (go_at_call 29; refine (equal_any _ b o T P g HC.out HG.out i P.size cap c2 hz).mono ?_; rintro e w' ⟨rfl, rfl⟩)
    go_ret
    exact ⟨ret_bool HE.out.symm, rfl⟩
  · have HE : Hid (preB P T i = false) := by
      show _ = _
      unfold preB
      have := HM.out
      simp [show ¬ (i + P.size ≤ T.size) by omega]
    have hle : ¬ (P.size : Int) ≤ m := by omega
    go_enter Tryd.func15, Tryd.ntmps15
    go_wp2_with fail
    go_ret
    exact ⟨ret_bool HE.out.symm, rfl⟩
set_option maxHeartbeats 1000000 in
theorem starts_any (w : World) (T P : ByteArray) (i : Nat) (hi : i ≤ T.size) (hP2 : P.size ≤ 100) :
    Calls Tryd.prog 12 #[.string (T.extract i T.size), .string P] w fun e w' => e = .returned (.bool (preB P T i)) ∧ w' = w := by
  have hs := ext_size T i T.size hi (Nat.le_refl _)
  by_cases h : P.size ≤ T.size - i
  · have HX : Hid ((T.extract i T.size).extract 0 P.size = T.extract i (i + P.size)) := by
      show _ = _
      apply ByteArray.ext
      apply Array.toList_inj.1
      rw [Lib.extract_data, Lib.extract_data, Lib.extract_data]
      simp only [List.drop_zero, Nat.sub_zero, List.take_take]
      rw [show min P.size (T.size - i) = P.size by omega, show i + P.size - i = P.size by omega]
    have HE : Hid (preB P T i = decide (T.extract i (i + P.size) = P)) := by
      show _ = _
      unfold preB
      simp [show i + P.size ≤ T.size by omega]
    obtain ⟨S, hS⟩ : ∃ S, S = T.extract i T.size := ⟨_, rfl⟩
    rw [← hS] at hs HX ⊢
    have HS := hide hs
    have hle : P.size ≤ S.size := by omega
    have hle2 : (P.size : Int) ≤ S.size := by omega
    clear hs hS
    have HB := beq_bytes (S.extract 0 P.size) P
    rw [HX.out] at HB
    have HB2 := hide HB
    clear HB
    go_enter Tryd.func12, Tryd.ntmps12
    go_wp2_with fail
    go_ret
    exact ⟨ret_bool (by rw [HE.out, ← HB2.out, HX.out]), rfl⟩
  · have HE : Hid (preB P T i = false) := by
      show _ = _
      unfold preB
      simp [show ¬ (i + P.size ≤ T.size) by omega]
    obtain ⟨S, hS⟩ : ∃ S, S = T.extract i T.size := ⟨_, rfl⟩
    rw [← hS] at hs ⊢
    have hle : ¬ (P.size : Int) ≤ S.size := by omega
    clear hs hS
    go_enter Tryd.func12, Tryd.ntmps12
    go_wp2_with fail
    go_ret
    exact ⟨ret_bool HE.out.symm, rfl⟩
end Go.Proofs.YtmdcdapjjodpiaaDoor
