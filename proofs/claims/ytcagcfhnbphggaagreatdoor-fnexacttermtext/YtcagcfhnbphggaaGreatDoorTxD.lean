/- What the writers of numbers answer below 100: strconv.Itoa, l1Dec. -/
import Derived.Test.YtcagcfhnbphggaaGreatDoorChecked
import Derived.WalkKit
import Derived.ProofKit
import Derived.Below
import Derived.Lib.ItoaNum
import Derived.Lib.ItoaWalk
import Derived.Lib.Strings
import Derived.Laws.IdiomStrings
import Derived.Test.YtcagcfhnbphggaaGreatDoorIv
import Derived.Test.YtcagcfhnbphggaaGreatDoorLwH
namespace Go.Proofs.YtcagcfhnbphggaaGreatDoor
open Go.ChangeShapes Go.WideShapes Go.ChangeAt Go.RowKit

theorem small_ba (b : ByteArray) (l : List UInt8) (h : b.data.toList = l) : b = ⟨l.toArray⟩ := by subst h; rfl

set_option maxHeartbeats 2000000 in
set_option maxRecDepth 100000 in
theorem small_any (i : Nat) (h : i < 100) (w : World) :
    Calls Tryz.prog 100 #[.int .i64 i] w fun e w' => e = .returned (.string ⟨(Lib.decDigits i).toArray⟩) ∧ w' = w := by
  go_enter Tryz.func100, Tryz.ntmps100
  go_name_bytes_deep 45 SM hSM
  have eSM : SM = Lib.smalls := by rw [← hSM]; decide +kernel
  subst eSM
  clear hSM
  go_name_bytes_deep 30 DG hDG
  have eDG : DG = Lib.digits36 := by rw [← hDG]; decide +kernel
  subst eDG
  clear hDG
  by_cases h10 : i < 10
  · have hsl : ∀ w, (Instr.slice 9 (.string Lib.digits36) (some (.int .i64 (i : Int))) (some (.int .i64 ((i : Int) + 1))) none).run Tryz.prog w = .ok (.string (Lib.digits36.extract i (i + 1))) w := fun w => by
      rw [run_slice_string w 9 Lib.digits36 .i64 .i64 _ _ Tryz.underlying9 (by omega) (by omega) (by rw [Lib.digits36_size]; omega), show ((i : Int)).toNat = i by omega, show ((i : Int) + 1).toNat = i + 1 by omega]
    go_wp2
    go_ret
    refine ⟨?_, rfl⟩
    show Ending.returned (Value.string (Lib.digits36.extract i (i + 1))) = _
    rw [small_ba (Lib.digits36.extract i (i + 1)) (Lib.decDigits i) (by rw [Lib.extract_data]; exact Lib.digits36_piece h10)]
  · have hsl : ∀ w, (Instr.slice 9 (.string Lib.smalls) (some (.int .i64 ((i : Int) * 2))) (some (.int .i64 ((i : Int) * 2 + 2))) none).run Tryz.prog w = .ok (.string (Lib.smalls.extract (i * 2) (i * 2 + 2))) w := fun w => by
      rw [run_slice_string w 9 Lib.smalls .i64 .i64 _ _ Tryz.underlying9 (by omega) (by omega) (by rw [Lib.smalls_size]; omega), show ((i : Int) * 2).toNat = i * 2 by omega, show ((i : Int) * 2 + 2).toNat = i * 2 + 2 by omega]
    go_wp2
    go_ret
    refine ⟨?_, rfl⟩
    show Ending.returned (Value.string (Lib.smalls.extract (i * 2) (i * 2 + 2))) = _
    rw [small_ba (Lib.smalls.extract (i * 2) (i * 2 + 2)) (Lib.decDigits i) (by rw [Lib.extract_data]; exact Lib.smalls_piece h10 h)]

set_option maxHeartbeats 2000000 in
set_option maxRecDepth 100000 in
theorem formatInt_any (i : Nat) (h : i < 100) (w : World) :
    Calls Tryz.prog 89 #[.int .i64 i, .int .i64 10] w fun e w' => e = .returned (.string ⟨(Lib.decDigits i).toArray⟩) ∧ w' = w := by
  go_enter Tryz.func89, Tryz.ntmps89
  go_wp2_with (first | (go_at_call 100; refine (small_any i h _).mono ?_; rintro e w' ⟨rfl, rfl⟩) | fail)
  go_ret
  exact ⟨rfl, rfl⟩
set_option maxHeartbeats 2000000 in
theorem itoa_any (i : Nat) (h : i < 100) (w : World) :
    Calls Tryz.prog 54 #[.int .i64 i] w fun e w' => e = .returned (.string ⟨(Lib.decDigits i).toArray⟩) ∧ w' = w := by
  go_enter Tryz.func54, Tryz.ntmps54
  go_wp2_with (first | (go_at_call 89; refine (formatInt_any i h _).mono ?_; rintro e w' ⟨rfl, rfl⟩) | go_in)
  go_ret
  exact ⟨rfl, rfl⟩

theorem conv_dig (W : World) (b : Nat) (x : Int) (q : Nat) (hq : q < 10) (hx : x = 48 + (q : Int)) (c : W.cell? ⟨b, 0, none⟩ = some (.int .u8 x)) : (convert 26 9 (.slice (some ⟨b, 0, none⟩) 1 1)).run Tryz.prog W = .ok (.string ⟨#[UInt8.ofNat (48 + q)]⟩) W := by
  have hn : (UInt8.ofNat (48 + q)).toNat = 48 + q := by simp; omega
  exact run_convert_bytes_back (P := Tryz.prog) W 26 9 5 ⟨b, 0, none⟩ 1 [UInt8.ofNat (48 + q)] Tryz.underlying26 Tryz.underlying5 Tryz.underlying9 (fun j hj => by
    have h0 : j = 0 := by simp at hj; omega
    subst h0
    simp only [List.getElem_cons_zero, hn]
    have : (Addr.add ⟨b, 0, none⟩ 0) = ⟨b, 0, none⟩ := rfl
    rw [this, c, hx]
    simp)

set_option maxHeartbeats 2000000 in
set_option maxRecDepth 20000 in
theorem l1Dec_one (i : Nat) (h : i < 10) (w : World) :
    Calls Tryz.prog 27 #[.int .i64 i] w fun e w' => e = .returned (.string ⟨(Lib.decDigits i).toArray⟩) ∧ Below w.heap.size w w' := by
  have hcv := conv_dig (w.alloc (.cells #[.int .u8 (48 + (i : Int))] 5)) w.heap.size (48 + (i : Int)) i h rfl (by simp [go_sem])
  have HD := hide (Lib.decDigits_one h)
  generalize UInt8.ofNat (48 + i) = d at hcv HD
  go_enter Tryz.func27, Tryz.ntmps27
  go_wp2_with fail
  go_ret
  refine ⟨?_, bel_alloc (Below.refl _ _) _⟩
  rw [HD.out]
  rfl

set_option maxHeartbeats 2000000 in
set_option maxRecDepth 20000 in
theorem l1Dec_two (i : Nat) (h0 : ¬ i < 10) (h : i < 100) (w : World) :
    Calls Tryz.prog 27 #[.int .i64 i] w fun e w' => e = .returned (.string ⟨(Lib.decDigits i).toArray⟩) ∧ Below w.heap.size w w' := by
  have HD := hide (Lib.decDigits_two h0 h)
  have HQ := hide (show ∀ W, Calls Tryz.prog 27 #[.int .i64 ((i : Int) / 10)] W fun e w' => e = .returned (.string ⟨#[UInt8.ofNat (48 + i / 10)]⟩) ∧ Below W.heap.size W w' from fun W => by
    rw [show ((i : Int) / 10) = ((i / 10 : Nat) : Int) by omega]
    have := l1Dec_one (i / 10) (by omega) W
    rw [Lib.decDigits_one (show i / 10 < 10 by omega)] at this
    exact this)
  have HC := hide (fun (W : World) (b : Nat) c => conv_dig W b (48 + (i : Int) % 10) (i % 10) (by omega) (by omega) c)
  generalize UInt8.ofNat (48 + i % 10) = d at HD HC
  generalize UInt8.ofNat (48 + i / 10) = d2 at HD HQ
  have hsz : (⟨#[d2]⟩ : ByteArray).size + (⟨#[d]⟩ : ByteArray).size ≤ 9223372036854775807 := by show 1 + 1 ≤ _; omega
  have hap : (⟨#[d2]⟩ : ByteArray) ++ ⟨#[d]⟩ = ⟨#[d2, d]⟩ := rfl
  have h0' : (10 : Int) ≤ i := by omega
  have q1 : IntKind.i64.wrap ((i : Int) / 10) = (i : Int) / 10 := by rw [IntKind.wrap_i64]; omega
  have q2 : (i : Int).tmod 10 = (i : Int) % 10 := by rw [Int.tmod_eq_emod_of_nonneg (by omega)]
  have q3 : IntKind.i64.wrap (48 + (i : Int) % 10) = 48 + (i : Int) % 10 := by rw [IntKind.wrap_i64]; omega
  have q4 : IntKind.u8.wrap (48 + (i : Int) % 10) = 48 + (i : Int) % 10 := by rw [IntKind.wrap_u8]; omega
  have h1' : (i : Int) < 100 := by omega
  clear h0 h
  go_enter Tryz.func27, Tryz.ntmps27
  go_wp2_with fail
  refine anyE_region (S := fun _ => True) (L := 10) (by kernel_rfl) ?_
  refine anyE_take 0 (v := ?v0) rfl (by kernel_rfl) (by kernel_rfl) (by kernel_rfl) (by kernel_rfl) (fun _ _ _ h => h) (by rfl) ?hy0 trivial ?rest0
  case hy0 =>
    intro wx hx
    go_simp
    try rfl
  case rest0 =>
  intro K hK
  go_simp
  refine hK.out _ ?_
  clear hK K
  refine anyE_take 1 (v := ?v1) rfl (by kernel_rfl) (by kernel_rfl) (by kernel_rfl) (by kernel_rfl) (fun _ _ _ h => h) (by rfl) ?hy1 trivial ?rest1
  case hy1 =>
    intro wx hx
    go_simp
    try rfl
  case rest1 =>
  intro K hK
  go_simp
  refine hK.out _ ?_
  clear hK K
  refine anyE_take 3 (v := ?v2) rfl (by kernel_rfl) (by kernel_rfl) (by kernel_rfl) (by kernel_rfl) (fun _ _ _ h => h) (by rfl) ?hy2 trivial ?rest2
  case hy2 =>
    intro wx hx
    go_simp
    try rfl
  case rest2 =>
  intro K hK
  go_simp
  refine hK.out _ ?_
  clear hK K
  refine anyE_take 4 (v := ?v3) rfl (by kernel_rfl) (by kernel_rfl) (by kernel_rfl) (by kernel_rfl) (fun _ _ _ h => h) (by rfl) ?hy3 trivial ?rest3
  case hy3 =>
    intro wx hx
    go_simp
    try rfl
  case rest3 =>
  intro K hK
  go_simp
  refine hK.out _ ?_
  clear hK K
  refine anyE_take 5 (v := ?v4) rfl (by kernel_rfl) (by kernel_rfl) (by kernel_rfl) (by kernel_rfl) (fun _ _ _ h => h) (by rfl) ?hy4 trivial ?rest4
  case hy4 =>
    intro wx hx
    go_simp
    try rfl
  case rest4 =>
  intro K hK
  go_simp
  refine hK.out _ ?_
  clear hK K
  refine anyE_take 6 (v := ?v5) rfl (by kernel_rfl) (by kernel_rfl) (by kernel_rfl) (by kernel_rfl) (fun _ _ _ h => h) (by rfl) ?hy5 trivial ?rest5
  case hy5 =>
    intro wx hx
    go_simp
    try rfl
  case rest5 =>
  intro K hK
  go_simp
  refine hK.out _ ?_
  clear hK K
  try simp only [q2, q3, q4]
  refine anyE_two 2 7 (by kernel_rfl) rfl rfl (fun K hK => ?_) (fun K hK => ?_)
  · go_simp
    try simp only [q1]
    refine (HQ.out _).mono ?_
    rintro e w1 ⟨rfl, hb1⟩
    refine hK.out _ _ (fun _ => trivial) ?_
    clear hK K
    refine anyE_one 7 (by kernel_rfl) rfl (fun K hK => ?_)
    go_simp
    refine hK.out _ _ (fun _ => trivial) ?_
    clear hK K
    refine anyE_one 8 (by kernel_rfl) rfl (fun K hK => ?_)
    go_simp
    rw [HC.out _ _ (by simp [go_sem])]
    go_simp
    refine hK.out _ _ (fun _ => trivial) ?_
    clear hK K
    refine anyE_one 9 (by kernel_rfl) rfl (fun K hK => ?_)
    go_simp
    try simp only [hap]
    refine hK.out _ _ (fun _ => trivial) ?_
    clear hK K
    refine anyE_one 10 (by kernel_rfl) rfl (fun K hK => ?_)
    go_simp
    refine hK.out _ _ (fun h => absurd rfl h) ?_
    clear hK K
    refine anyE_done (by kernel_rfl) ?_ _
    go_wp2_with fail
    go_ret
    refine ⟨?_, ((Below.refl w.heap.size w).drew.trans hb1).alloc (by have := hb1.size; simpa using this) _⟩
    rw [HD.out]
    rfl
  · go_simp
    refine hK.out _ _ (fun _ => trivial) ?_
    clear hK K
    have hc0 : ((w.alloc (.cells #[.int .u8 (48 + (i : Int) % 10)] 5)).drew).cell? ⟨w.heap.size, 0, none⟩ = some (.int .u8 (48 + (i : Int) % 10)) := by simp [go_sem]
    refine anyE_two 2 8 (by kernel_rfl) rfl rfl (fun K hK => ?_) (fun K hK => ?_)
    · go_simp
      try simp only [q1]
      refine (HQ.out _).mono ?_
      rintro e w1 ⟨rfl, hb1⟩
      refine hK.out _ _ (fun _ => trivial) ?_
      clear hK K
      have hc1 := keep_cell hb1 hc0
      refine anyE_one 8 (by kernel_rfl) rfl (fun K hK => ?_)
      go_simp
      rw [HC.out _ _ hc1]
      go_simp
      refine hK.out _ _ (fun _ => trivial) ?_
      clear hK K
      refine anyE_one 9 (by kernel_rfl) rfl (fun K hK => ?_)
      go_simp
      try simp only [hap]
      refine hK.out _ _ (fun _ => trivial) ?_
      clear hK K
      refine anyE_one 10 (by kernel_rfl) rfl (fun K hK => ?_)
      go_simp
      refine hK.out _ _ (fun h => absurd rfl h) ?_
      clear hK K
      refine anyE_done (by kernel_rfl) ?_ _
      go_wp2_with fail
      go_ret
      refine ⟨?_, (bel_alloc (Below.refl _ _) _).drew.trans (hb1.mono (by simp))⟩
      rw [HD.out]
      rfl

    · go_simp
      rw [HC.out _ _ hc0]
      go_simp
      refine hK.out _ _ (fun _ => trivial) ?_
      clear hK K
      refine anyE_one 2 (by kernel_rfl) rfl (fun K hK => ?_)
      go_simp
      try simp only [q1]
      refine (HQ.out _).mono ?_
      rintro e w1 ⟨rfl, hb1⟩
      refine hK.out _ _ (fun _ => trivial) ?_
      clear hK K
      refine anyE_one 9 (by kernel_rfl) rfl (fun K hK => ?_)
      go_simp
      try simp only [hap]
      refine hK.out _ _ (fun _ => trivial) ?_
      clear hK K
      refine anyE_one 10 (by kernel_rfl) rfl (fun K hK => ?_)
      go_simp
      refine hK.out _ _ (fun h => absurd rfl h) ?_
      clear hK K
      refine anyE_done (by kernel_rfl) ?_ _
      go_wp2_with fail
      go_ret
      refine ⟨?_, (bel_alloc (Below.refl _ _) _).drew.trans (hb1.mono (by simp))⟩
      rw [HD.out]
      rfl

theorem l1Dec_any (i : Nat) (h : i < 100) (w : World) :
    Calls Tryz.prog 27 #[.int .i64 i] w fun e w' => e = .returned (.string ⟨(Lib.decDigits i).toArray⟩) ∧ Below w.heap.size w w' := by
  by_cases h0 : i < 10
  · exact l1Dec_one i h0 w
  · exact l1Dec_two i h0 h w
end Go.Proofs.YtcagcfhnbphggaaGreatDoor
