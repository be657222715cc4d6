/- What the small functions of both readers of levels' texts answer: l1Outside, l1Number, l1Starts, l1Many; decimal. -/
import Derived.Test.YtnifepmaijfllaaPaC
import Derived.Test.YtnifepmaijfllaaDraw
import Derived.Test.YtnifepmaijfllaaShort
import Derived.Deep.CutRange
import Derived.Test.YtnifepmaijfllaaPutK
namespace Go.Proofs.Ytnifepmaijfllaa
open Go.ChangeShapes Go.WideShapes Go.ChangeAt Go.RowKit

def outV : Option Nat → Int
  | none => -1
  | some j => j
theorem out_bd {c : UInt8} {s : Bs} (d : Int) (i : Nat) : -1 ≤ outV (lastO c d i s) ∧ outV (lastO c d i s) < i + s.length := by
  cases h : lastO c d i s with
  | none => simp [outV]; omega
  | some j =>
    obtain ⟨h1, h2⟩ := lastO_get h
    have := (List.getElem?_eq_some_iff.1 h2).1
    simp [outV]; omega
theorem lastO_snoc (c : UInt8) (s : Bs) (k : Nat) (h : k < s.length) : lastO c 0 0 (s.take (k + 1)) = if s[k] = c ∧ net (s.take k) = 0 then some k else lastO c 0 0 (s.take k) := by
  rw [List.take_succ_eq_append_getElem h, lastO_append]
  have hl : (s.take k).length = k := by simp; omega
  simp only [lastO, hl, Nat.zero_add, Int.zero_add]
  by_cases h2 : s[k] = c ∧ net (s.take k) = 0
  · rw [if_pos h2, if_pos h2]
  · rw [if_neg h2, if_neg h2]
theorem net_snoc (s : Bs) (k : Nat) (h : k < s.length) : net (s.take (k + 1)) = net (s.take k) + (if s[k] = 40 then 1 else if s[k] = 41 then -1 else 0) := by
  rw [List.take_succ_eq_append_getElem h, net_append]; simp [net]
theorem net_bd : ∀ (s : Bs), -(s.length : Int) ≤ net s ∧ net s ≤ s.length
  | [] => by simp [net]
  | x :: s => by
    have ih := net_bd s
    simp only [net, List.length_cons]
    split
    · omega
    · split <;> omega
theorem u8_eq (a b : UInt8) : ((a.toNat : Int) == (b.toNat : Int)) = decide (a = b) := by
  rw [Bool.eq_iff_iff, beq_iff_eq, decide_eq_true_eq]
  constructor
  · intro h; exact UInt8.toNat_inj.1 (by omega)
  · intro h; rw [h]
theorem get_data (s : ByteArray) (k : Nat) (h : k < s.size) : s.data.toList[k]'(by simpa using h) = s[k] := by rw [Array.getElem_toList]; rfl

set_option maxRecDepth 20000 in
set_option maxHeartbeats 2000000 in
theorem l1Outside43_any (s : ByteArray) (w : World) (hs : s.size ≤ 100000) :
    Calls Try.prog 139 #[.string s, .int .u8 43] w fun e w' => e = .returned (.int .i64 (outV (lastO 43 0 0 s.data.toList))) ∧ w' = w := by
  have hlen : s.data.toList.length = s.size := by simp
  have HL := hide hlen
  clear hlen
  go_enter Try.func139, Try.ntmps139
  go_wp2_with fail
  go_loopw [5, 6, 7] (fun d m i wr => ∃ (k : Nat) (dv mv : Int), k ≤ s.size ∧ i = .int .i64 k ∧ d = .int .i64 dv ∧ m = .int .i64 mv ∧ Hid (dv = net (s.data.toList.take k)) ∧ Hid (mv = outV (lastO 43 0 0 (s.data.toList.take k))) ∧ w = wr) (fun _ _ i _ => s.size - (intOf i).toNat)
  case atStart => exact ⟨0, 0, -1, by omega, rfl, rfl, rfl, rfl, rfl, rfl⟩
  case round =>
    obtain ⟨k, dv, mv, hk, rfl, rfl, rfl, HD, HM, rfl⟩ := hrel
    have hdb : -100000 ≤ dv ∧ dv ≤ 100000 := by
      have h1 := net_bd (s.data.toList.take k)
      have h2 : (s.data.toList.take k).length ≤ 100000 := by have := HL.out; simp; omega
      have := HD.out
      omega
    obtain ⟨hdb1, hdb2⟩ := hdb
    by_cases hlt : k < s.size
    · have hlt' : (k : Int) < s.size := by omega
      have hkl : k < s.data.toList.length := by have := HL.out; omega
      have hg := get_data s k hlt
      have HD2 := net_snoc s.data.toList k hkl
      have HM2 := lastO_snoc 43 s.data.toList k hkl
      rw [hg] at HD2 HM2
      rw [← HD.out] at HD2 HM2
      have q1 : ((s[k].toNat : Int) == 43) = decide (s[k] = 43) := u8_eq s[k] 43
      have q2 : ((s[k].toNat : Int) == 40) = decide (s[k] = 40) := u8_eq s[k] 40
      have q3 : ((s[k].toNat : Int) == 41) = decide (s[k] = 41) := u8_eq s[k] 41
      have HD3 := hide HD2
      have HM3 := hide HM2
      clear HD2 HM2 hg
      by_cases e40 : s[k] = 40
      · have r1 : ((s[k].toNat : Int) == 43) = false := by rw [q1, e40]; rfl
        have r2 : ((s[k].toNat : Int) == 40) = true := by rw [q2, e40]; rfl
        have r3 : ((s[k].toNat : Int) == 41) = false := by rw [q3, e40]; rfl
        have HD4 : Hid (dv + 1 = net (s.data.toList.take (k + 1))) := by show _ = _; rw [HD3.out, if_pos e40]
        have HM4 : Hid (mv = outV (lastO 43 0 0 (s.data.toList.take (k + 1)))) := by show _ = _; rw [HM3.out, if_neg (fun e => by have := e.1; rw [e40] at this; revert this; decide)]; exact HM.out
        clear q1 q2 q3 e40 HD3 HM3
        go_wp2_with fail
        go_roundw
        case rel => exact ⟨k + 1, dv + 1, mv, by omega, by go_num, rfl, rfl, HD4, HM4, by first | rfl | trivial⟩
        case measure => simp [intOf]; omega
      · by_cases e41 : s[k] = 41
        · have r1 : ((s[k].toNat : Int) == 43) = false := by rw [q1, e41]; rfl
          have r2 : ((s[k].toNat : Int) == 40) = false := by rw [q2, e41]; rfl
          have r3 : ((s[k].toNat : Int) == 41) = true := by rw [q3, e41]; rfl
          have HD4 : Hid (dv - 1 = net (s.data.toList.take (k + 1))) := by show _ = _; rw [HD3.out, if_neg e40, if_pos e41]; omega
          have HM4 : Hid (mv = outV (lastO 43 0 0 (s.data.toList.take (k + 1)))) := by show _ = _; rw [HM3.out, if_neg (fun e => by have := e.1; rw [e41] at this; revert this; decide)]; exact HM.out
          clear q1 q2 q3 e40 e41 HD3 HM3
          go_wp2_with fail
          go_roundw
          case rel => exact ⟨k + 1, dv - 1, mv, by omega, by go_num, rfl, rfl, HD4, HM4, by first | rfl | trivial⟩
          case measure => simp [intOf]; omega
        · have r2 : ((s[k].toNat : Int) == 40) = false := by rw [q2]; simp [e40]
          have r3 : ((s[k].toNat : Int) == 41) = false := by rw [q3]; simp [e41]
          have HD4 : Hid (dv = net (s.data.toList.take (k + 1))) := by show _ = _; rw [HD3.out, if_neg e40, if_neg e41]; omega
          by_cases e1 : s[k] = 43 ∧ dv = 0
          · have r1 : ((s[k].toNat : Int) == 43) = true := by rw [q1]; simp [e1.1]
            have r0 : (dv == 0) = true := by rw [e1.2]; rfl
            have HM4 : Hid ((k : Int) = outV (lastO 43 0 0 (s.data.toList.take (k + 1)))) := by show _ = _; rw [HM3.out, if_pos e1]; rfl
            clear q1 q2 q3 e40 e41 HD3 HM3 e1
            go_wp2_with fail
            go_roundw
            case rel => exact ⟨k + 1, dv, k, by omega, by go_num, rfl, rfl, HD4, HM4, by first | rfl | trivial⟩
            case measure => simp [intOf]; omega
          · have HM4 : Hid (mv = outV (lastO 43 0 0 (s.data.toList.take (k + 1)))) := by show _ = _; rw [HM3.out, if_neg e1]; exact HM.out
            by_cases e2 : s[k] = 43
            · have r1 : ((s[k].toNat : Int) == 43) = true := by rw [q1]; simp [e2]
              have r0 : (dv == 0) = false := by rw [beq_eq_false_iff_ne]; exact fun e => e1 ⟨e2, e⟩
              clear q1 q2 q3 e40 e41 HD3 HM3 e1 e2
              go_wp2_with fail
              go_roundw
              case rel => exact ⟨k + 1, dv, mv, by omega, by go_num, rfl, rfl, HD4, HM4, by first | rfl | trivial⟩
              case measure => simp [intOf]; omega
            · have r1 : ((s[k].toNat : Int) == 43) = false := by rw [q1]; simp [e2]
              clear q1 q2 q3 e40 e41 HD3 HM3 e1 e2
              go_wp2_with fail
              go_roundw
              case rel => exact ⟨k + 1, dv, mv, by omega, by go_num, rfl, rfl, HD4, HM4, by first | rfl | trivial⟩
              case measure => simp [intOf]; omega
    · have HF : Hid (mv = outV (lastO 43 0 0 s.data.toList)) := by show _ = _; have := HM.out; rwa [List.take_of_length_le (by have := HL.out; omega)] at this
      go_wp2_with fail
      go_ret
      exact ⟨ret_int HF.out, rfl⟩
set_option maxRecDepth 20000 in
set_option maxHeartbeats 2000000 in
theorem l1Outside44_any (s : ByteArray) (w : World) (hs : s.size ≤ 100000) :
    Calls Try.prog 139 #[.string s, .int .u8 44] w fun e w' => e = .returned (.int .i64 (outV (lastO 44 0 0 s.data.toList))) ∧ w' = w := by
  have hlen : s.data.toList.length = s.size := by simp
  have HL := hide hlen
  clear hlen
  go_enter Try.func139, Try.ntmps139
  go_wp2_with fail
  go_loopw [5, 6, 7] (fun d m i wr => ∃ (k : Nat) (dv mv : Int), k ≤ s.size ∧ i = .int .i64 k ∧ d = .int .i64 dv ∧ m = .int .i64 mv ∧ Hid (dv = net (s.data.toList.take k)) ∧ Hid (mv = outV (lastO 44 0 0 (s.data.toList.take k))) ∧ w = wr) (fun _ _ i _ => s.size - (intOf i).toNat)
  case atStart => exact ⟨0, 0, -1, by omega, rfl, rfl, rfl, rfl, rfl, rfl⟩
  case round =>
    obtain ⟨k, dv, mv, hk, rfl, rfl, rfl, HD, HM, rfl⟩ := hrel
    have hdb : -100000 ≤ dv ∧ dv ≤ 100000 := by
      have h1 := net_bd (s.data.toList.take k)
      have h2 : (s.data.toList.take k).length ≤ 100000 := by have := HL.out; simp; omega
      have := HD.out
      omega
    obtain ⟨hdb1, hdb2⟩ := hdb
    by_cases hlt : k < s.size
    · have hlt' : (k : Int) < s.size := by omega
      have hkl : k < s.data.toList.length := by have := HL.out; omega
      have hg := get_data s k hlt
      have HD2 := net_snoc s.data.toList k hkl
      have HM2 := lastO_snoc 44 s.data.toList k hkl
      rw [hg] at HD2 HM2
      rw [← HD.out] at HD2 HM2
      have q1 : ((s[k].toNat : Int) == 44) = decide (s[k] = 44) := u8_eq s[k] 44
      have q2 : ((s[k].toNat : Int) == 40) = decide (s[k] = 40) := u8_eq s[k] 40
      have q3 : ((s[k].toNat : Int) == 41) = decide (s[k] = 41) := u8_eq s[k] 41
      have HD3 := hide HD2
      have HM3 := hide HM2
      clear HD2 HM2 hg
      by_cases e40 : s[k] = 40
      · have r1 : ((s[k].toNat : Int) == 44) = false := by rw [q1, e40]; rfl
        have r2 : ((s[k].toNat : Int) == 40) = true := by rw [q2, e40]; rfl
        have r3 : ((s[k].toNat : Int) == 41) = false := by rw [q3, e40]; rfl
        have HD4 : Hid (dv + 1 = net (s.data.toList.take (k + 1))) := by show _ = _; rw [HD3.out, if_pos e40]
        have HM4 : Hid (mv = outV (lastO 44 0 0 (s.data.toList.take (k + 1)))) := by show _ = _; rw [HM3.out, if_neg (fun e => by have := e.1; rw [e40] at this; revert this; decide)]; exact HM.out
        clear q1 q2 q3 e40 HD3 HM3
        go_wp2_with fail
        go_roundw
        case rel => exact ⟨k + 1, dv + 1, mv, by omega, by go_num, rfl, rfl, HD4, HM4, by first | rfl | trivial⟩
        case measure => simp [intOf]; omega
      · by_cases e41 : s[k] = 41
        · have r1 : ((s[k].toNat : Int) == 44) = false := by rw [q1, e41]; rfl
          have r2 : ((s[k].toNat : Int) == 40) = false := by rw [q2, e41]; rfl
          have r3 : ((s[k].toNat : Int) == 41) = true := by rw [q3, e41]; rfl
          have HD4 : Hid (dv - 1 = net (s.data.toList.take (k + 1))) := by show _ = _; rw [HD3.out, if_neg e40, if_pos e41]; omega
          have HM4 : Hid (mv = outV (lastO 44 0 0 (s.data.toList.take (k + 1)))) := by show _ = _; rw [HM3.out, if_neg (fun e => by have := e.1; rw [e41] at this; revert this; decide)]; exact HM.out
          clear q1 q2 q3 e40 e41 HD3 HM3
          go_wp2_with fail
          go_roundw
          case rel => exact ⟨k + 1, dv - 1, mv, by omega, by go_num, rfl, rfl, HD4, HM4, by first | rfl | trivial⟩
          case measure => simp [intOf]; omega
        · have r2 : ((s[k].toNat : Int) == 40) = false := by rw [q2]; simp [e40]
          have r3 : ((s[k].toNat : Int) == 41) = false := by rw [q3]; simp [e41]
          have HD4 : Hid (dv = net (s.data.toList.take (k + 1))) := by show _ = _; rw [HD3.out, if_neg e40, if_neg e41]; omega
          by_cases e1 : s[k] = 44 ∧ dv = 0
          · have r1 : ((s[k].toNat : Int) == 44) = true := by rw [q1]; simp [e1.1]
            have r0 : (dv == 0) = true := by rw [e1.2]; rfl
            have HM4 : Hid ((k : Int) = outV (lastO 44 0 0 (s.data.toList.take (k + 1)))) := by show _ = _; rw [HM3.out, if_pos e1]; rfl
            clear q1 q2 q3 e40 e41 HD3 HM3 e1
            go_wp2_with fail
            go_roundw
            case rel => exact ⟨k + 1, dv, k, by omega, by go_num, rfl, rfl, HD4, HM4, by first | rfl | trivial⟩
            case measure => simp [intOf]; omega
          · have HM4 : Hid (mv = outV (lastO 44 0 0 (s.data.toList.take (k + 1)))) := by show _ = _; rw [HM3.out, if_neg e1]; exact HM.out
            by_cases e2 : s[k] = 44
            · have r1 : ((s[k].toNat : Int) == 44) = true := by rw [q1]; simp [e2]
              have r0 : (dv == 0) = false := by rw [beq_eq_false_iff_ne]; exact fun e => e1 ⟨e2, e⟩
              clear q1 q2 q3 e40 e41 HD3 HM3 e1 e2
              go_wp2_with fail
              go_roundw
              case rel => exact ⟨k + 1, dv, mv, by omega, by go_num, rfl, rfl, HD4, HM4, by first | rfl | trivial⟩
              case measure => simp [intOf]; omega
            · have r1 : ((s[k].toNat : Int) == 44) = false := by rw [q1]; simp [e2]
              clear q1 q2 q3 e40 e41 HD3 HM3 e1 e2
              go_wp2_with fail
              go_roundw
              case rel => exact ⟨k + 1, dv, mv, by omega, by go_num, rfl, rfl, HD4, HM4, by first | rfl | trivial⟩
              case measure => simp [intOf]; omega
    · have HF : Hid (mv = outV (lastO 44 0 0 s.data.toList)) := by show _ = _; have := HM.out; rwa [List.take_of_length_le (by have := HL.out; omega)] at this
      go_wp2_with fail
      go_ret
      exact ⟨ret_int HF.out, rfl⟩
end Go.Proofs.Ytnifepmaijfllaa

/- What the number's readers of both sides answer: l1Number, decimal; and l1Starts, l1Many. -/
namespace Go.Proofs.Ytnifepmaijfllaa
open Go.ChangeShapes Go.WideShapes Go.ChangeAt Go.RowKit

def numR (d : Bs) : Value := .tuple #[.int .i64 (if okNum d then (numU d : Int) else 0), .bool (okNum d)]
theorem dig_eq (c : UInt8) : digB (c.toNat : Int) = digU c := by
  unfold digB digU
  rw [Bool.eq_iff_iff]
  simp only [Bool.and_eq_true, decide_eq_true_eq]
  omega
theorem numU_snoc (s : Bs) (k : Nat) (h : k < s.length) : numU (s.take (k + 1)) = numU (s.take k) * 10 + (s[k].toNat - 48) := by
  unfold numU
  rw [List.take_succ_eq_append_getElem h, List.foldl_append]; rfl
theorem all_dig_snoc (s : Bs) (k : Nat) (h : k < s.length) (ha : (s.take k).all digU = true) (hc : digU s[k] = true) : (s.take (k + 1)).all digU = true := by
  rw [List.take_succ_eq_append_getElem h, List.all_append, ha]; simp [hc]
theorem num_small {s : Bs} (h : s.all digU = true) (hl : s.length ≤ 4) : numU s ≤ 9999 := by
  by_cases h0 : s = []
  · subst h0; simp [numU]
  · exact num_le (by unfold okNum; rw [h]; cases s with | nil => exact absurd rfl h0 | cons c r => simp at hl ⊢; omega)
theorem ret_num {d : Bs} {n : Int} {b : Bool} (hb : b = okNum d) (hn : n = if okNum d then (numU d : Int) else 0) : Ending.returned (.tuple #[.int .i64 n, .bool b]) = .returned (numR d) := by unfold numR; rw [hb, hn]

set_option maxRecDepth 20000 in
set_option maxHeartbeats 2000000 in
theorem l1Number_any (s : ByteArray) (w : World) (hs : s.size ≤ 100000) :
    Calls Try.prog 140 #[.string s, .int .i64 4] w fun e w' => e = .returned (numR s.data.toList) ∧ w' = w := by
  have hlen : s.data.toList.length = s.size := by simp
  by_cases h1 : s.size < 1
  · have HF : Hid (okNum s.data.toList = false) := by show _ = _; unfold okNum; simp; omega
    clear hlen
    go_enter Try.func140, Try.ntmps140
    go_wp2_with fail
    refine bodyPost_ret (results_tmp2 Try.results140 _ _ _) rfl ⟨ret_num HF.out.symm (by rw [HF.out]; rfl), rfl⟩
  by_cases h2 : 4 < s.size
  · have HF : Hid (okNum s.data.toList = false) := by show _ = _; unfold okNum; simp; omega
    clear hlen
    go_enter Try.func140, Try.ntmps140
    go_wp2_with fail
    refine bodyPost_ret (results_tmp2 Try.results140 _ _ _) rfl ⟨ret_num HF.out.symm (by rw [HF.out]; rfl), rfl⟩
  have HL := hide hlen
  clear hlen
  have d1 : decide ((s.size : Int) < 1) = false := by simp; omega
  have d2 : decide (4 < (s.size : Int)) = false := by simp; omega
  go_enter Try.func140, Try.ntmps140
  go_wp2_with fail
  go_loopw [6, 7] (fun v i wr => ∃ (k n : Nat), k ≤ s.size ∧ i = .int .i64 k ∧ v = .int .i64 n ∧ n ≤ 9999 ∧ Hid (n = numU (s.data.toList.take k)) ∧ Hid ((s.data.toList.take k).all digU = true) ∧ w = wr) (fun _ i _ => s.size - (intOf i).toNat)
  case atStart => exact ⟨0, 0, by omega, rfl, rfl, by omega, rfl, rfl, rfl⟩
  case round =>
    obtain ⟨k, n, hk, rfl, rfl, hn, HV, HA, rfl⟩ := hrel
    by_cases hlt : k < s.size
    · have hlt' : (k : Int) < s.size := by omega
      have hkl : k < s.data.toList.length := by have := HL.out; omega
      have hg := get_data s k hlt
      have hsn := numU_snoc s.data.toList k hkl
      have hal := all_dig_snoc s.data.toList k hkl HA.out
      rw [hg] at hsn hal
      have q1 := dig_eq s[k]
      cases hd : digU s[k]
      · rw [hd] at q1
        have HF : Hid (okNum s.data.toList = false) := by
          show _ = _
          unfold okNum
          rw [Bool.and_eq_false_iff]
          right
          rw [List.all_eq_false]
          exact ⟨s[k], by rw [← hg]; exact List.getElem_mem hkl, by rw [hd]; simp⟩
        clear hsn hal hg hd
        go_wp2_with (first | (go_at_call 58; refine (l1Digit_any _ _).mono ?_; rintro e w' ⟨rfl, hw⟩; have hw := hw.symm; subst hw; rw [q1]) | fail)
        refine bodyPost_ret (results_tmp2 Try.results140 _ _ _) rfl ⟨ret_num HF.out.symm (by rw [HF.out]; rfl), rfl⟩
      · rw [hd] at q1
        have HA2 := hide (hal hd)
        have hb : 48 ≤ s[k].toNat ∧ s[k].toNat ≤ 57 := by
          unfold digU at hd
          simp only [Bool.and_eq_true, decide_eq_true_eq] at hd
          exact hd
        have hn2 : numU (s.data.toList.take (k + 1)) ≤ 9999 := num_small HA2.out (by have := HL.out; simp; omega)
        rw [← HV.out] at hsn
        rw [hsn] at hn2
        have HV2 : Hid (n * 10 + (s[k].toNat - 48) = numU (s.data.toList.take (k + 1))) := hsn.symm
        obtain ⟨z, hz⟩ : ∃ z : Nat, s[k].toNat = 48 + z := ⟨s[k].toNat - 48, by omega⟩
        have hz9 : z ≤ 9 := by omega
        have w1 : IntKind.u8.wrap ((s[k].toNat : Int) - 48) = (z : Int) := by rw [hz]; rw [show (((48 + z : Nat) : Int) - 48) = (z : Int) by omega]; first | (rw [IntKind.wrap_u8]; omega) | (simp [IntKind.wrap]; omega)
        have hz2 : s[k].toNat - 48 = z := by omega
        rw [hz2] at HV2 hn2
        clear hsn hal hg hd hz2 hz hb
        go_wp2_with (first | (go_at_call 58; refine (l1Digit_any _ _).mono ?_; rintro e w' ⟨rfl, hw⟩; have hw := hw.symm; subst hw; rw [q1]) | fail)
        go_roundw
        case rel => exact ⟨k + 1, n * 10 + z, by omega, by go_num, by go_num, by omega, HV2, HA2, by first | rfl | trivial⟩
        case measure => simp [intOf]; omega
    · have HF : Hid (okNum s.data.toList = true ∧ n = numU s.data.toList) := by
        have ha := HA.out
        have hv := HV.out
        rw [List.take_of_length_le (by have := HL.out; omega)] at ha hv
        refine ⟨?_, hv⟩
        unfold okNum
        rw [ha]
        have := HL.out
        simp; omega
      go_wp2_with fail
      refine bodyPost_ret (results_tmp2 Try.results140 _ _ _) rfl ⟨ret_num HF.out.1.symm (by rw [HF.out.1, HF.out.2]; rfl), rfl⟩

set_option maxRecDepth 20000 in
set_option maxHeartbeats 2000000 in
theorem decimal_any (s : ByteArray) (w : World) (hs : s.size ≤ 100000) :
    Calls Try.prog 146 #[.string s, .int .i64 4] w fun e w' => e = .returned (numR s.data.toList) ∧ w' = w := by
  have hlen : s.data.toList.length = s.size := by simp
  by_cases h1 : s.size < 1
  · have HF : Hid (okNum s.data.toList = false) := by show _ = _; unfold okNum; simp; omega
    clear hlen
    go_enter Try.func146, Try.ntmps146
    go_wp2_with fail
    refine bodyPost_ret (results_tmp2 Try.results146 _ _ _) rfl ⟨ret_num HF.out.symm (by rw [HF.out]; rfl), rfl⟩
  by_cases h2 : 4 < s.size
  · have HF : Hid (okNum s.data.toList = false) := by show _ = _; unfold okNum; simp; omega
    clear hlen
    go_enter Try.func146, Try.ntmps146
    go_wp2_with fail
    refine bodyPost_ret (results_tmp2 Try.results146 _ _ _) rfl ⟨ret_num HF.out.symm (by rw [HF.out]; rfl), rfl⟩
  have HL := hide hlen
  clear hlen
  have d1 : decide ((s.size : Int) < 1) = false := by simp; omega
  have d2 : decide (4 < (s.size : Int)) = false := by simp; omega
  go_enter Try.func146, Try.ntmps146
  go_wp2_with fail
  go_loopw [6, 19] (fun v i wr => ∃ (k n : Nat), k ≤ s.size ∧ i = .int .i64 k ∧ v = .int .i64 n ∧ n ≤ 9999 ∧ Hid (n = numU (s.data.toList.take k)) ∧ Hid ((s.data.toList.take k).all digU = true) ∧ w = wr) (fun _ i _ => s.size - (intOf i).toNat)
  case atStart => exact ⟨0, 0, by omega, rfl, rfl, by omega, rfl, rfl, rfl⟩
  case round =>
    obtain ⟨k, n, hk, rfl, rfl, hn, HV, HA, rfl⟩ := hrel
    by_cases hlt : k < s.size
    · have hlt' : (k : Int) < s.size := by omega
      have hkl : k < s.data.toList.length := by have := HL.out; omega
      have hg := get_data s k hlt
      have hsn := numU_snoc s.data.toList k hkl
      have hal := all_dig_snoc s.data.toList k hkl HA.out
      rw [hg] at hsn hal
      have q1 := dig_eq s[k]
      cases hd : digU s[k]
      · rw [hd] at q1
        have HF : Hid (okNum s.data.toList = false) := by
          show _ = _
          unfold okNum
          rw [Bool.and_eq_false_iff]
          right
          rw [List.all_eq_false]
          exact ⟨s[k], by rw [← hg]; exact List.getElem_mem hkl, by rw [hd]; simp⟩
        clear hsn hal hg hd
        go_wp2_with (first | (go_at_call 112; refine (isDigit_any _ _).mono ?_; rintro e w' ⟨rfl, hw⟩; have hw := hw.symm; subst hw; rw [q1]) | fail)
        refine bodyPost_ret (results_tmp2 Try.results146 _ _ _) rfl ⟨ret_num HF.out.symm (by rw [HF.out]; rfl), rfl⟩
      · rw [hd] at q1
        have HA2 := hide (hal hd)
        have hb : 48 ≤ s[k].toNat ∧ s[k].toNat ≤ 57 := by
          unfold digU at hd
          simp only [Bool.and_eq_true, decide_eq_true_eq] at hd
          exact hd
        have hn2 : numU (s.data.toList.take (k + 1)) ≤ 9999 := num_small HA2.out (by have := HL.out; simp; omega)
        rw [← HV.out] at hsn
        rw [hsn] at hn2
        have HV2 : Hid (n * 10 + (s[k].toNat - 48) = numU (s.data.toList.take (k + 1))) := hsn.symm
        obtain ⟨z, hz⟩ : ∃ z : Nat, s[k].toNat = 48 + z := ⟨s[k].toNat - 48, by omega⟩
        have hz9 : z ≤ 9 := by omega
        have w1 : IntKind.u8.wrap ((s[k].toNat : Int) - 48) = (z : Int) := by rw [hz]; rw [show (((48 + z : Nat) : Int) - 48) = (z : Int) by omega]; first | (rw [IntKind.wrap_u8]; omega) | (simp [IntKind.wrap]; omega)
        have hz2 : s[k].toNat - 48 = z := by omega
        rw [hz2] at HV2 hn2
        clear hsn hal hg hd hz2 hz hb
        go_wp2_with (first | (go_at_call 112; refine (isDigit_any _ _).mono ?_; rintro e w' ⟨rfl, hw⟩; have hw := hw.symm; subst hw; rw [q1]) | fail)
        go_roundw
        case rel => exact ⟨k + 1, n * 10 + z, by omega, by go_num, by go_num, by omega, HV2, HA2, by first | rfl | trivial⟩
        case measure => simp [intOf]; omega
    · have HF : Hid (okNum s.data.toList = true ∧ n = numU s.data.toList) := by
        have ha := HA.out
        have hv := HV.out
        rw [List.take_of_length_le (by have := HL.out; omega)] at ha hv
        refine ⟨?_, hv⟩
        unfold okNum
        rw [ha]
        have := HL.out
        simp; omega
      go_wp2_with fail
      refine bodyPost_ret (results_tmp2 Try.results146 _ _ _) rfl ⟨ret_num HF.out.1.symm (by rw [HF.out.1, HF.out.2]; rfl), rfl⟩
end Go.Proofs.Ytnifepmaijfllaa

/- What l1Starts and l1Many answer; the specification's reader with fuel enough. -/
namespace Go.Proofs.Ytnifepmaijfllaa
open Go.ChangeShapes Go.WideShapes Go.ChangeAt Go.RowKit

theorem ext_to (s : ByteArray) (k : Nat) : (s.extract 0 k).data.toList = s.data.toList.take k := by simp [ByteArray.data_extract]
theorem ext_from (s : ByteArray) (k : Nat) : (s.extract k s.size).data.toList = s.data.toList.drop k := by
  simp only [ByteArray.data_extract, Array.toList_extract]
  show (s.data.toList.drop k).take (s.size - k) = _
  rw [List.take_of_length_le]
  simp
set_option maxRecDepth 20000 in
set_option maxHeartbeats 1000000 in
theorem l1Starts_any (s q : ByteArray) (w : World) :
    Calls Try.prog 141 #[.string s, .string q] w fun e w' => e = .returned (.bool (decide (s.data.toList.take q.size = q.data.toList))) ∧ w' = w := by
  have l1 : s.data.toList.length = s.size := by simp
  have l2 : q.data.toList.length = q.size := by simp
  by_cases h : q.size ≤ s.size
  · have d1 : decide ((q.size : Int) ≤ (s.size : Int)) = true := by simp; omega
    have hle : (q.size : Int) ≤ s.size := by omega
    have HF : Hid (((s.extract 0 q.size).toList == q.toList) = decide (s.data.toList.take q.size = q.data.toList)) := by
      show _ = _
      rw [ByteArray.toList_eq, ByteArray.toList_eq, ext_to, Bool.eq_iff_iff, beq_iff_eq, decide_eq_true_eq]
    clear l1 l2
    go_enter Try.func141, Try.ntmps141
    go_wp2_with fail
    go_ret
    exact ⟨ret_bool HF.out, rfl⟩
  · have d1 : decide ((q.size : Int) ≤ (s.size : Int)) = false := by simp; omega
    have HF : Hid (false = decide (s.data.toList.take q.size = q.data.toList)) := by
      show _ = _
      rw [eq_comm, decide_eq_false_iff_not]
      intro e
      have := congrArg List.length e
      simp at this
      omega
    clear l1 l2
    go_enter Try.func141, Try.ntmps141
    go_wp2_with fail
    go_ret
    exact ⟨ret_bool HF.out, rfl⟩
set_option maxRecDepth 20000 in
set_option maxHeartbeats 1000000 in
theorem l1ManyT_any (t : Tr) (p n : Nat) (w : World) (ht : TreeAt w.heap.size w p t) (hn : n ≤ 100000) :
    Calls Try.prog 133 #[.pointer (some ⟨p, 0, none⟩), .int .i64 (n : Int)] w fun e w' => ∃ g, e = .returned (.pointer (some ⟨g, 0, none⟩)) ∧ TreeAt w'.heap.size w' g (manyT n t) ∧ Below w.heap.size w w' := by
  have HT := hide ht
  obtain ⟨M, hM⟩ : ∃ M, M = min n 65 := ⟨_, rfl⟩
  unfold manyT
  rw [← hM]
  have hM1 : M ≤ n := by omega
  have hM2 : M ≤ 65 := by omega
  have hM3 : M < n → M = 65 := by omega
  have HM3 := hide hM3
  clear ht hM hM3
  go_enter Try.func133, Try.ntmps133
  go_wp2_with fail
  go_loopw [0, 5] (fun l i wr => ∃ (j g : Nat), j ≤ M ∧ i = .int .i64 j ∧ l = .pointer (some ⟨g, 0, none⟩) ∧ Hid (TreeAt wr.heap.size wr g (tsucc j t)) ∧ Below w.heap.size w wr) (fun _ i _ => M - (intOf i).toNat)
  case atStart => exact ⟨0, p, by omega, rfl, rfl, HT.out, Below.refl _ _⟩
  case round =>
    obtain ⟨j, g, hj, rfl, rfl, HTR, hbel⟩ := hrel
    by_cases hlt : j < M
    · have d1 : decide ((j : Int) < (n : Int)) = true := by simp; omega
      have d2 : decide ((j : Int) ≤ 64) = true := by simp; omega
      go_wp2_with (go_at_call 130; refine (l1Succ_any _ g _ HTR.out).mono ?_; rintro e w3 ⟨rfl, ht3, hb3⟩)
      go_roundw
      case rel => exact ⟨j + 1, _, by omega, by go_num, rfl, ht3, hbel.trans (hb3.mono hbel.size)⟩
      case measure => simp [intOf]; omega
    · have hje : j = M := by omega
      subst hje
      by_cases hjn : j < n
      · have d1 : decide ((j : Int) < (n : Int)) = true := by simp; omega
        have h65 := HM3.out hjn
        have d2 : decide ((j : Int) ≤ 64) = false := by simp; omega
        clear h65
        go_wp2_with fail
        go_ret
        exact ⟨g, rfl, HTR.out, hbel⟩
      · have d1 : decide ((j : Int) < (n : Int)) = false := by simp; omega
        go_wp2_with fail
        go_ret
        exact ⟨g, rfl, HTR.out, hbel⟩
def spF (s : Bs) : Option Tr := sp (s.length + 1) s
theorem sp_fuel {s : Bs} {n : Nat} (h : s.length < n) : sp n s = spF s := by
  cases h1 : sp n s with
  | some t =>
    obtain ⟨e, g, rfl⟩ := sp_sound n s t h1
    exact (sp_complete g _ (by omega)).symm
  | none =>
    cases h2 : spF s with
    | none => rfl
    | some t =>
      obtain ⟨e, g, rfl⟩ := sp_sound _ s t h2
      rw [sp_complete g n h] at h1
      cases h1
theorem spPair_fuel {k : Int} {i : Bs} {n : Nat} (h : i.length < n) : spPair k (sp n) i = spPair k spF i := by
  unfold spPair
  cases lastO 44 0 0 i with
  | none => rfl
  | some c =>
    simp only []
    rw [sp_fuel (by simp; omega), sp_fuel (by simp; omega)]
theorem spIn_fuel {k : Int} {i : Bs} {n : Nat} (h : i.length ≤ n) : spIn k (sp n) i = spIn k spF i := by
  unfold spIn
  split
  · rename_i hl
    have : i ≠ [] := by intro e; rw [e] at hl; simp at hl
    have hp : 0 < i.length := List.length_pos_iff.2 this
    exact spPair_fuel (by rw [List.length_dropLast]; omega)
  · rfl
theorem spF_plus {s : Bs} {p : Nat} (h : lastO 43 0 0 s = some p) : spF s = if okNum (s.drop (p + 1)) then (spF (s.take p)).map (manyT (numU (s.drop (p + 1)))) else none := by
  have hl := (cut_at h).2
  unfold spF
  simp only [sp, h]
  rw [sp_fuel (s := s.take p) (by simp; omega)]
  rfl
theorem spF_base {s : Bs} (h : lastO 43 0 0 s = none) : spF s = if okNum s then some (manyT (numU s) zeroT) else if s.take 4 = [109, 97, 120, 40] then spIn 3 spF (s.drop 4) else if s.take 5 = [105, 109, 97, 120, 40] then spIn 4 spF (s.drop 5) else if okName s then some (nameT s) else none := by
  conv => lhs; unfold spF
  simp only [sp, h]
  rw [spIn_fuel (by simp), spIn_fuel (by simp)]
end Go.Proofs.Ytnifepmaijfllaa

/- What the specification's l1Read answers: the tree of a level's text, in new memory, or nothing. -/
namespace Go.Proofs.Ytnifepmaijfllaa
open Go.ChangeShapes Go.WideShapes Go.ChangeAt Go.RowKit

def ReadOut (r : Option Tr) (e : Ending) (w' : World) : Prop :=
  match r with
  | none => e = .returned (.pointer none)
  | some t => ∃ g, e = .returned (.pointer (some ⟨g, 0, none⟩)) ∧ TreeAt w'.heap.size w' g t
def ReadAt (s : ByteArray) : Prop := ∀ w, Calls Try.prog 97 #[.string s] w fun e w' => ReadOut (spF s.data.toList) e w' ∧ Below w.heap.size w w'

set_option maxRecDepth 20000 in
set_option maxHeartbeats 4000000 in
theorem read_plus (s : ByteArray) (hs : s.size ≤ 3000) (p : Nat) (hp : lastO 43 0 0 s.data.toList = some p) (ih : ReadAt (s.extract 0 p)) : ReadAt s := by
  intro w
  have hpl : p < s.size := by have := (cut_at hp).2; simpa using this
  have HO := hide (l1Outside43_any s w (by omega))
  rw [hp] at HO
  have hov : outV (some p) = (p : Int) := rfl
  rw [hov] at HO
  have HN := hide (l1Number_any (s.extract (p + 1) s.size) w (by simp; omega))
  rw [ext_from] at HN
  have HI := hide (ih w)
  rw [ext_to] at HI
  rw [spF_plus hp]
  have HNL : Hid (okNum (s.data.toList.drop (p + 1)) = true → numU (s.data.toList.drop (p + 1)) ≤ 9999) := fun h => num_le h
  unfold numR at HN
  generalize okNum (s.data.toList.drop (p + 1)) = ok at *
  generalize numU (s.data.toList.drop (p + 1)) = nn at *
  generalize spF (s.data.toList.take p) = r at *
  have hp1 : (p : Int) + 1 ≤ s.size := by omega
  have hpw : IntKind.i64.wrap ((p : Int) + 1) = (p : Int) + 1 := by rw [IntKind.wrap_i64]; omega
  clear hp ih hov
  cases ok
  · simp only [Bool.false_eq_true, if_false] at HN ⊢
    go_enter Try.func97, Try.ntmps97
    go_wp2_with fail
    refine HO.out.mono ?_
    rintro e w1 ⟨rfl, hw⟩
    have hw := hw.symm
    subst hw
    go_wp2_with fail
    refine HN.out.mono ?_
    rintro e w1 ⟨rfl, hw⟩
    have hw := hw.symm
    subst hw
    go_wp2_with fail
    refine HI.out.mono ?_
    rintro e w2 ⟨hr, hb2⟩
    have HB2 := hide hb2
    clear hb2
    obtain ⟨q, rfl⟩ : ∃ q, e = .returned (.pointer q) := by
      cases r with
      | none => exact ⟨_, hr⟩
      | some t => obtain ⟨g, h, _⟩ := hr; exact ⟨_, h⟩
    clear hr
    go_wp2_with fail
    go_ret
    exact ⟨rfl, HB2.out⟩
  · simp only [if_true] at HN ⊢
    have hnn : nn ≤ 9999 := by first | exact HNL.out rfl | exact HNL.out trivial
    go_enter Try.func97, Try.ntmps97
    go_wp2_with fail
    refine HO.out.mono ?_
    rintro e w1 ⟨rfl, hw⟩
    have hw := hw.symm
    subst hw
    go_wp2_with fail
    refine HN.out.mono ?_
    rintro e w1 ⟨rfl, hw⟩
    have hw := hw.symm
    subst hw
    go_wp2_with fail
    refine HI.out.mono ?_
    rintro e w2 ⟨hr, hb2⟩
    have HB2 := hide hb2
    clear hb2
    cases r with
    | none =>
      have hr : e = .returned (.pointer none) := hr
      subst hr
      go_wp2_with (first | (go_at_call 65; refine (none_none _).mono ?_; rintro e w' ⟨rfl, hw⟩; have hw := hw.symm; subst hw) | fail)
      go_ret
      exact ⟨rfl, HB2.out⟩
    | some t =>
      obtain ⟨g, rfl, htr⟩ := hr
      have HM := hide (l1ManyT_any t g nn w2 htr (by omega))
      clear htr
      go_wp2_with (first | (go_at_call 65; refine (none_some _ _).mono ?_; rintro e w' ⟨rfl, hw⟩; have hw := hw.symm; subst hw) | fail)
      refine HM.out.mono ?_
      rintro e w3 ⟨g3, rfl, ht3, hb3⟩
      have HT3 := hide ht3
      have HB3 := hide (bel_trans HB2.out hb3)
      clear ht3 hb3
      go_wp2_with fail
      go_ret
      exact ⟨⟨g3, rfl, HT3.out⟩, HB3.out⟩

/-- What stands in front of the parts of a text that begins a pair. -/
theorem in_parts {k : Int} {i : ByteArray} {t : Option Tr} (h : t = spIn k spF i.data.toList) : (i.size < 1 ∧ t = none) ∨ (∃ n, i.size = n + 1 ∧ ((∃ hl : n < i.size, i[n] ≠ 41 ∧ t = none) ∨ (∃ hl : n < i.size, i[n] = 41 ∧ t = spPair k spF (i.data.toList.take n)))) := by
  have hlen : i.data.toList.length = i.size := by simp
  by_cases h0 : i.size < 1
  · left
    have : i.data.toList = [] := List.eq_nil_of_length_eq_zero (by omega)
    rw [this] at h
    exact ⟨h0, by rw [h]; rfl⟩
  · right
    obtain ⟨n, hn⟩ : ∃ n, i.size = n + 1 := ⟨i.size - 1, by omega⟩
    have hni : n < i.size := by omega
    refine ⟨n, hn, ?_⟩
    have hgl : i.data.toList.getLast? = some i[n] := by
      rw [List.getLast?_eq_getElem?, hlen, hn, Nat.add_sub_cancel, List.getElem?_eq_getElem (by omega), get_data i n hni]
    unfold spIn at h
    rw [hgl] at h
    by_cases e : i[n] = 41
    · right
      rw [if_pos (by rw [e])] at h
      refine ⟨hni, e, ?_⟩
      rw [h, List.dropLast_eq_take, hlen, hn, Nat.add_sub_cancel]
    · left
      rw [if_neg (fun q => e (Option.some.inj q))] at h
      exact ⟨hni, e, h⟩
end Go.Proofs.Ytnifepmaijfllaa

/- What the specification's l1Read answers at texts without a plus outside; and at all texts. -/
namespace Go.Proofs.Ytnifepmaijfllaa
open Go.ChangeShapes Go.WideShapes Go.ChangeAt Go.RowKit

theorem mk_data (s : ByteArray) : (⟨s.data.toList.toArray⟩ : ByteArray) = s := by cases s; simp
theorem pair_none {k : Int} {i : Bs} (h : lastO 44 0 0 i = none) : spPair k spF i = none := by unfold spPair; rw [h]
theorem pair_some {k : Int} {i : Bs} {c : Nat} (h : lastO 44 0 0 i = some c) : spPair k spF i = match spF (i.take c), spF (i.drop (c + 1)) with
    | some a, some b => some (.two k ⟨#[]⟩ a b)
    | _, _ => none := by
  unfold spPair
  simp only [h]
  cases spF (i.take c) <;> cases spF (i.drop (c + 1)) <;> rfl
theorem out_ptr {r : Option Tr} {e : Ending} {w : World} (h : ReadOut r e w) : ∃ q, e = .returned (.pointer q) := by
  cases r with
  | none => exact ⟨_, h⟩
  | some t => obtain ⟨g, h, _⟩ := h; exact ⟨_, h⟩

set_option maxRecDepth 20000 in
set_option maxHeartbeats 4000000 in
theorem read_num (s : ByteArray) (hs : s.size ≤ 3000) (hp : lastO 43 0 0 s.data.toList = none) (hok : okNum s.data.toList = true) : ReadAt s := by
  intro w
  have HO := hide (l1Outside43_any s w (by omega))
  rw [hp] at HO
  have hov : outV none = -1 := rfl
  rw [hov] at HO
  have HN := hide (l1Number_any s w (by omega))
  unfold numR at HN
  rw [spF_base hp]
  rw [hok] at HN ⊢
  simp only [if_true] at HN ⊢
  have hnn := num_le hok
  generalize numU s.data.toList = nn at *
  clear hp hov hok
  go_enter Try.func97, Try.ntmps97
  go_wp2_with fail
  refine HO.out.mono ?_
  rintro e w1 ⟨rfl, hw⟩
  have hw := hw.symm
  subst hw
  go_wp2_with fail
  refine HN.out.mono ?_
  rintro e w1 ⟨rfl, hw⟩
  have hw := hw.symm
  subst hw
  go_wp2_with fail
  refine (l1Zero_any w).mono ?_
  rintro e w2 ⟨rfl, ht2, hb2⟩
  have HM := hide (l1ManyT_any _ _ nn w2 ht2 (by omega))
  have HB2 := hide hb2
  clear ht2 hb2
  go_wp2_with fail
  refine HM.out.mono ?_
  rintro e w3 ⟨g3, rfl, ht3, hb3⟩
  have HT3 := hide ht3
  have HB3 := hide (bel_trans HB2.out hb3)
  clear ht3 hb3
  go_wp2_with fail
  go_ret
  exact ⟨⟨g3, rfl, HT3.out⟩, HB3.out⟩

set_option maxRecDepth 20000 in
set_option maxHeartbeats 4000000 in
theorem read_name (s : ByteArray) (hs : s.size ≤ 3000) (hp : lastO 43 0 0 s.data.toList = none) (hok : okNum s.data.toList = false) (h4 : ¬ s.data.toList.take 4 = [109, 97, 120, 40]) (h5 : ¬ s.data.toList.take 5 = [105, 109, 97, 120, 40]) : ReadAt s := by
  intro w
  have HO := hide (l1Outside43_any s w (by omega))
  rw [hp] at HO
  have hov : outV none = -1 := rfl
  rw [hov] at HO
  have HN := hide (l1Number_any s w (by omega))
  unfold numR at HN
  rw [spF_base hp]
  have HS1 := hide (l1Starts_any s ⟨#[109, 97, 120, 40]⟩ w)
  have HS2 := hide (l1Starts_any s ⟨#[105, 109, 97, 120, 40]⟩ w)
  have z4 : (⟨#[109, 97, 120, 40]⟩ : ByteArray).size = 4 := rfl
  have z5 : (⟨#[105, 109, 97, 120, 40]⟩ : ByteArray).size = 5 := rfl
  rw [z4] at HS1
  rw [z5] at HS2
  have t4 : (⟨#[109, 97, 120, 40]⟩ : ByteArray).data.toList = [109, 97, 120, 40] := rfl
  have t5 : (⟨#[105, 109, 97, 120, 40]⟩ : ByteArray).data.toList = [105, 109, 97, 120, 40] := rfl
  rw [t4] at HS1
  rw [t5] at HS2
  clear z4 z5 t4 t5
  rw [decide_eq_false h4] at HS1
  rw [decide_eq_false h5] at HS2
  have HP := hide (l1ParamOk_any s w (by unfold maxLen; omega))
  have hpe : okName s.data.toList = paramB s := by unfold okName; rw [mk_data]
  rw [hok] at HN ⊢
  rw [if_neg (by simp), if_neg h4, if_neg h5, hpe]
  simp only [Bool.false_eq_true, if_false] at HN
  have HNT : Hid (nameT s.data.toList = .leaf 5 s) := by show _ = _; unfold nameT; rw [mk_data]
  rw [HNT.out]
  clear hp hov hok h4 h5 hpe
  cases hpb : paramB s
  · rw [hpb] at HP
    rw [if_neg (by simp)]
    clear hpb
    go_enter Try.func97, Try.ntmps97
    go_wp2_with fail
    refine HO.out.mono ?_
    rintro e w1 ⟨rfl, hw⟩
    have hw := hw.symm
    subst hw
    go_wp2_with fail
    refine HN.out.mono ?_
    rintro e w1 ⟨rfl, hw⟩
    have hw := hw.symm
    subst hw
    go_wp2_with (first | (go_at_call_of 141 (Value.string ⟨#[109, 97, 120, 40]⟩); refine HS1.out.mono ?_; rintro e w' ⟨rfl, hw⟩; have hw := hw.symm; subst hw) | (go_at_call_of 141 (Value.string ⟨#[105, 109, 97, 120, 40]⟩); refine HS2.out.mono ?_; rintro e w' ⟨rfl, hw⟩; have hw := hw.symm; subst hw) | (go_at_call 116; refine HP.out.mono ?_; rintro e w' ⟨rfl, hw⟩; have hw := hw.symm; subst hw) | fail)
    go_ret
    exact ⟨rfl, Below.refl _ _⟩
  · rw [hpb] at HP
    rw [if_pos rfl]
    clear hpb
    go_enter Try.func97, Try.ntmps97
    go_wp2_with fail
    refine HO.out.mono ?_
    rintro e w1 ⟨rfl, hw⟩
    have hw := hw.symm
    subst hw
    go_wp2_with fail
    refine HN.out.mono ?_
    rintro e w1 ⟨rfl, hw⟩
    have hw := hw.symm
    subst hw
    go_wp2_with (first | (go_at_call_of 141 (Value.string ⟨#[109, 97, 120, 40]⟩); refine HS1.out.mono ?_; rintro e w' ⟨rfl, hw⟩; have hw := hw.symm; subst hw) | (go_at_call_of 141 (Value.string ⟨#[105, 109, 97, 120, 40]⟩); refine HS2.out.mono ?_; rintro e w' ⟨rfl, hw⟩; have hw := hw.symm; subst hw) | (go_at_call 116; refine HP.out.mono ?_; rintro e w' ⟨rfl, hw⟩; have hw := hw.symm; subst hw) | fail)
    refine (l1Param_any s w).mono ?_
    rintro e w2 ⟨rfl, ht2, hb2⟩
    have HT2 := hide ht2
    have HB2 := hide hb2
    clear ht2 hb2
    go_wp2_with fail
    go_ret
    exact ⟨⟨_, rfl, HT2.out⟩, HB2.out⟩

set_option maxRecDepth 20000 in
set_option maxHeartbeats 8000000 in
theorem read_max (s : ByteArray) (hs : s.size ≤ 3000) (hp : lastO 43 0 0 s.data.toList = none) (hok : okNum s.data.toList = false) (hst : s.data.toList.take 4 = [109, 97, 120, 40]) (ih : ∀ q : ByteArray, q.size < s.size → ReadAt q) : ReadAt s := by
  intro w
  have HO := hide (l1Outside43_any s w (by omega))
  rw [hp] at HO
  have hov : outV none = -1 := rfl
  rw [hov] at HO
  have HN := hide (l1Number_any s w (by omega))
  unfold numR at HN
  rw [spF_base hp]
  have HS1 := hide (l1Starts_any s ⟨#[109, 97, 120, 40]⟩ w)
  have HS2 := hide (l1Starts_any s ⟨#[105, 109, 97, 120, 40]⟩ w)
  have z4 : (⟨#[109, 97, 120, 40]⟩ : ByteArray).size = 4 := rfl
  have z5 : (⟨#[105, 109, 97, 120, 40]⟩ : ByteArray).size = 5 := rfl
  rw [z4] at HS1
  rw [z5] at HS2
  have t4 : (⟨#[109, 97, 120, 40]⟩ : ByteArray).data.toList = [109, 97, 120, 40] := rfl
  have t5 : (⟨#[105, 109, 97, 120, 40]⟩ : ByteArray).data.toList = [105, 109, 97, 120, 40] := rfl
  rw [t4] at HS1
  rw [t5] at HS2
  clear z4 z5 t4 t5
  rw [decide_eq_true hst] at HS1
  rw [if_neg (by rw [hok]; simp), if_pos hst]
  rw [hok] at HN
  simp only [Bool.false_eq_true, if_false] at HN
  have hsz : 4 ≤ s.size := by
    have := congrArg List.length hst
    simp at this
    omega
  obtain ⟨i, hi⟩ : ∃ i, i = s.extract 4 s.size := ⟨_, rfl⟩
  have hiz : i.size = s.size - 4 := by rw [hi]; simp
  have hil := ext_from s 4
  rw [← hi] at hil
  rw [← hil]
  obtain ⟨t, ht⟩ : ∃ t, t = spIn 3 spF i.data.toList := ⟨_, rfl⟩
  rw [← ht]
  have HI := hide hi
  have hi1 : i.size < s.size := by omega
  have hi2 : i.size ≤ 3000 := by omega
  clear hi hil hp hov hok hst hiz
  rcases in_parts ht with ⟨h0, rfl⟩ | ⟨n, hn, (⟨hl, hne, rfl⟩ | ⟨hl, he, htp⟩)⟩
  · clear ht
    go_enter Try.func97, Try.ntmps97
    go_wp2_with fail
    refine HO.out.mono ?_
    rintro e w1 ⟨rfl, hw⟩
    have hw := hw.symm
    subst hw
    go_wp2_with fail
    refine HN.out.mono ?_
    rintro e w1 ⟨rfl, hw⟩
    have hw := hw.symm
    subst hw
    go_upto_region 19 with (first | (go_at_call_of 141 (Value.string ⟨#[109, 97, 120, 40]⟩); refine HS1.out.mono ?_; rintro e w' ⟨rfl, hw⟩; have hw := hw.symm; subst hw) | fail)
    rw [← HI.out]
    clear HI
    go_wp2_with fail
    go_ret
    exact ⟨rfl, Below.refl _ _⟩
  · have q1 : ((i[n].toNat : Int) != 41) = true := by
      have := u8_eq i[n] 41
      rw [bne, show ((i[n].toNat : Int) == 41) = decide (i[n] = 41) from this]; simp [hne]
    clear ht hne
    go_enter Try.func97, Try.ntmps97
    go_wp2_with fail
    refine HO.out.mono ?_
    rintro e w1 ⟨rfl, hw⟩
    have hw := hw.symm
    subst hw
    go_wp2_with fail
    refine HN.out.mono ?_
    rintro e w1 ⟨rfl, hw⟩
    have hw := hw.symm
    subst hw
    go_upto_region 19 with (first | (go_at_call_of 141 (Value.string ⟨#[109, 97, 120, 40]⟩); refine HS1.out.mono ?_; rintro e w' ⟨rfl, hw⟩; have hw := hw.symm; subst hw) | fail)
    rw [← HI.out]
    clear HI
    go_wp2_with fail
    go_ret
    exact ⟨rfl, Below.refl _ _⟩
  · have q1 : ((i[n].toNat : Int) != 41) = false := by
      have := u8_eq i[n] 41
      rw [bne, show ((i[n].toNat : Int) == 41) = decide (i[n] = 41) from this]; simp [he]
    obtain ⟨j, hj⟩ : ∃ j, j = i.extract 0 n := ⟨_, rfl⟩
    have hjz : j.size = n := by rw [hj]; simp; omega
    have hjl := ext_to i n
    rw [← hj] at hjl
    rw [← hjl] at htp
    have HJ := hide hj
    have HC := hide (l1Outside44_any j w (by omega))
    have hj1 : j.size < s.size := by omega
    have hj2 : j.size ≤ 3000 := by omega
    clear ht he hj hjl hjz
    cases hc : lastO 44 0 0 j.data.toList with
    | none =>
      rw [pair_none hc] at htp
      subst htp
      rw [hc] at HC
      have hov : outV none = -1 := rfl
      rw [hov] at HC
      clear hc hov
      go_enter Try.func97, Try.ntmps97
      go_wp2_with fail
      refine HO.out.mono ?_
      rintro e w1 ⟨rfl, hw⟩
      have hw := hw.symm
      subst hw
      go_wp2_with fail
      refine HN.out.mono ?_
      rintro e w1 ⟨rfl, hw⟩
      have hw := hw.symm
      subst hw
      go_upto_region 19 with (first | (go_at_call_of 141 (Value.string ⟨#[109, 97, 120, 40]⟩); refine HS1.out.mono ?_; rintro e w' ⟨rfl, hw⟩; have hw := hw.symm; subst hw) | fail)
      rw [← HI.out]
      clear HI
      go_upto_region 23 with fail
      rw [← HJ.out]
      clear HJ
      go_wp2_with fail
      refine HC.out.mono ?_
      rintro e w1 ⟨rfl, hw⟩
      have hw := hw.symm
      subst hw
      go_wp2_with fail
      go_ret
      exact ⟨rfl, Below.refl _ _⟩
    | some c =>
      rw [pair_some hc] at htp
      have hcl : c < j.size := by have := (cut_at hc).2; simpa using this
      rw [hc] at HC
      have hov : outV (some c) = (c : Int) := rfl
      rw [hov] at HC
      have HA := hide (ih (j.extract 0 c) (by simp; omega))
      have HB := hide (ih (j.extract (c + 1) j.size) (by simp; omega))
      unfold ReadAt at HA HB
      rw [ext_to] at HA
      rw [ext_from] at HB
      have hc1 : (c : Int) + 1 ≤ j.size := by omega
      have hcw : IntKind.i64.wrap ((c : Int) + 1) = (c : Int) + 1 := by rw [IntKind.wrap_i64]; omega
      generalize spF (j.data.toList.take c) = ra at *
      generalize spF (j.data.toList.drop (c + 1)) = rb at *
      clear hc hov ih
      go_enter Try.func97, Try.ntmps97
      go_wp2_with fail
      refine HO.out.mono ?_
      rintro e w1 ⟨rfl, hw⟩
      have hw := hw.symm
      subst hw
      go_wp2_with fail
      refine HN.out.mono ?_
      rintro e w1 ⟨rfl, hw⟩
      have hw := hw.symm
      subst hw
      go_upto_region 19 with (first | (go_at_call_of 141 (Value.string ⟨#[109, 97, 120, 40]⟩); refine HS1.out.mono ?_; rintro e w' ⟨rfl, hw⟩; have hw := hw.symm; subst hw) | fail)
      rw [← HI.out]
      clear HI
      go_upto_region 23 with fail
      rw [← HJ.out]
      clear HJ
      go_wp2_with fail
      refine HC.out.mono ?_
      rintro e w1 ⟨rfl, hw⟩
      have hw := hw.symm
      subst hw
      go_wp2_with fail
      refine (HA.out w).mono ?_
      rintro e w2 ⟨hra, hb2⟩
      have HB2 := hide hb2
      have HRA := hide hra
      obtain ⟨qa, rfl⟩ := out_ptr hra
      clear hb2 hra
      go_wp2_with fail
      refine (HB.out w2).mono ?_
      rintro e w3 ⟨hrb, hb3⟩
      have HB3 := hide (bel_trans HB2.out hb3)
      cases ra with
      | none =>
        have hqa : qa = none := by have h := HRA.out; unfold ReadOut at h; simpa using h
        subst hqa
        subst htp
        obtain ⟨qb, rfl⟩ := out_ptr hrb
        clear hrb hb3
        go_wp2_with (first | (go_at_call 65; refine (none_none _).mono ?_; rintro e w' ⟨rfl, hw⟩; have hw := hw.symm; subst hw) | fail)
        go_ret
        exact ⟨rfl, HB3.out⟩
      | some ta =>
        obtain ⟨g, hg, hta⟩ := HRA.out
        have hqa : qa = some ⟨g, 0, none⟩ := by simpa using hg
        subst hqa
        have HTA := hide ((hta.keep hb3).mono hb3.size)
        cases rb with
        | none =>
          subst htp
          have hrb : e = .returned (.pointer none) := hrb
          subst hrb
          clear hb3 hta hg
          go_wp2_with (first | (go_at_call_of 65 (some (Addr.mk g 0 none)); refine (none_some _ _).mono ?_; rintro e w' ⟨rfl, hw⟩; have hw := hw.symm; subst hw) | (go_at_call 65; refine (none_none _).mono ?_; rintro e w' ⟨rfl, hw⟩; have hw := hw.symm; subst hw) | fail)
          go_ret
          exact ⟨rfl, HB3.out⟩
        | some tb =>
          subst htp
          obtain ⟨gb, rfl, htb⟩ := hrb
          have h4 := HTA.out.cell4
          have h4b := htb.cell4
          have hsa := ta.sz_le
          have hsb := tb.sz_le
          have HTB := hide htb
          clear hb3 hta hg htb
          go_wp2_with (first | (go_at_call 65; refine (none_some _ _).mono ?_; rintro e w' ⟨rfl, hw⟩; have hw := hw.symm; subst hw) | (go_at_call 117; refine (make_two 3 ⟨#[]⟩ g ta.sz gb tb.sz _ h4 hsa h4b hsb).mono ?_; rintro e w4 ⟨rfl, n4, rfl⟩) | fail)
          go_ret
          exact ⟨⟨_, rfl, tree_two HTA.out HTB.out 3 ⟨#[]⟩ n4⟩, HB3.out.trans ((bel_new w3 _ n4).mono HB3.out.size)⟩

set_option maxRecDepth 20000 in
set_option maxHeartbeats 8000000 in
theorem read_imax (s : ByteArray) (hs : s.size ≤ 3000) (hp : lastO 43 0 0 s.data.toList = none) (hok : okNum s.data.toList = false) (h4 : ¬ s.data.toList.take 4 = [109, 97, 120, 40]) (hst : s.data.toList.take 5 = [105, 109, 97, 120, 40]) (ih : ∀ q : ByteArray, q.size < s.size → ReadAt q) : ReadAt s := by
  intro w
  have HO := hide (l1Outside43_any s w (by omega))
  rw [hp] at HO
  have hov : outV none = -1 := rfl
  rw [hov] at HO
  have HN := hide (l1Number_any s w (by omega))
  unfold numR at HN
  rw [spF_base hp]
  have HS1 := hide (l1Starts_any s ⟨#[109, 97, 120, 40]⟩ w)
  have HS2 := hide (l1Starts_any s ⟨#[105, 109, 97, 120, 40]⟩ w)
  have z4 : (⟨#[109, 97, 120, 40]⟩ : ByteArray).size = 4 := rfl
  have z5 : (⟨#[105, 109, 97, 120, 40]⟩ : ByteArray).size = 5 := rfl
  rw [z4] at HS1
  rw [z5] at HS2
  have t4 : (⟨#[109, 97, 120, 40]⟩ : ByteArray).data.toList = [109, 97, 120, 40] := rfl
  have t5 : (⟨#[105, 109, 97, 120, 40]⟩ : ByteArray).data.toList = [105, 109, 97, 120, 40] := rfl
  rw [t4] at HS1
  rw [t5] at HS2
  clear z4 z5 t4 t5
  rw [decide_eq_false h4] at HS1
  rw [decide_eq_true hst] at HS2
  rw [if_neg (by rw [hok]; simp), if_neg h4, if_pos hst]
  rw [hok] at HN
  simp only [Bool.false_eq_true, if_false] at HN
  have hsz : 5 ≤ s.size := by
    have := congrArg List.length hst
    simp at this
    omega
  obtain ⟨i, hi⟩ : ∃ i, i = s.extract 5 s.size := ⟨_, rfl⟩
  have hiz : i.size = s.size - 5 := by rw [hi]; simp
  have hil := ext_from s 5
  rw [← hi] at hil
  rw [← hil]
  obtain ⟨t, ht⟩ : ∃ t, t = spIn 4 spF i.data.toList := ⟨_, rfl⟩
  rw [← ht]
  have HI := hide hi
  have hi1 : i.size < s.size := by omega
  have hi2 : i.size ≤ 3000 := by omega
  clear hi hil hp hov hok hst hiz h4
  rcases in_parts ht with ⟨h0, rfl⟩ | ⟨n, hn, (⟨hl, hne, rfl⟩ | ⟨hl, he, htp⟩)⟩
  · clear ht
    go_enter Try.func97, Try.ntmps97
    go_wp2_with fail
    refine HO.out.mono ?_
    rintro e w1 ⟨rfl, hw⟩
    have hw := hw.symm
    subst hw
    go_wp2_with fail
    refine HN.out.mono ?_
    rintro e w1 ⟨rfl, hw⟩
    have hw := hw.symm
    subst hw
    go_upto_region 19 with (first | (go_at_call_of 141 (Value.string ⟨#[109, 97, 120, 40]⟩); refine HS1.out.mono ?_; rintro e w' ⟨rfl, hw⟩; have hw := hw.symm; subst hw) | (go_at_call_of 141 (Value.string ⟨#[105, 109, 97, 120, 40]⟩); refine HS2.out.mono ?_; rintro e w' ⟨rfl, hw⟩; have hw := hw.symm; subst hw) | fail)
    rw [← HI.out]
    clear HI
    go_wp2_with fail
    go_ret
    exact ⟨rfl, Below.refl _ _⟩
  · have q1 : ((i[n].toNat : Int) != 41) = true := by
      have := u8_eq i[n] 41
      rw [bne, show ((i[n].toNat : Int) == 41) = decide (i[n] = 41) from this]; simp [hne]
    clear ht hne
    go_enter Try.func97, Try.ntmps97
    go_wp2_with fail
    refine HO.out.mono ?_
    rintro e w1 ⟨rfl, hw⟩
    have hw := hw.symm
    subst hw
    go_wp2_with fail
    refine HN.out.mono ?_
    rintro e w1 ⟨rfl, hw⟩
    have hw := hw.symm
    subst hw
    go_upto_region 19 with (first | (go_at_call_of 141 (Value.string ⟨#[109, 97, 120, 40]⟩); refine HS1.out.mono ?_; rintro e w' ⟨rfl, hw⟩; have hw := hw.symm; subst hw) | (go_at_call_of 141 (Value.string ⟨#[105, 109, 97, 120, 40]⟩); refine HS2.out.mono ?_; rintro e w' ⟨rfl, hw⟩; have hw := hw.symm; subst hw) | fail)
    rw [← HI.out]
    clear HI
    go_wp2_with fail
    go_ret
    exact ⟨rfl, Below.refl _ _⟩
  · have q1 : ((i[n].toNat : Int) != 41) = false := by
      have := u8_eq i[n] 41
      rw [bne, show ((i[n].toNat : Int) == 41) = decide (i[n] = 41) from this]; simp [he]
    obtain ⟨j, hj⟩ : ∃ j, j = i.extract 0 n := ⟨_, rfl⟩
    have hjz : j.size = n := by rw [hj]; simp; omega
    have hjl := ext_to i n
    rw [← hj] at hjl
    rw [← hjl] at htp
    have HJ := hide hj
    have HC := hide (l1Outside44_any j w (by omega))
    have hj1 : j.size < s.size := by omega
    have hj2 : j.size ≤ 3000 := by omega
    clear ht he hj hjl hjz
    cases hc : lastO 44 0 0 j.data.toList with
    | none =>
      rw [pair_none hc] at htp
      subst htp
      rw [hc] at HC
      have hov : outV none = -1 := rfl
      rw [hov] at HC
      clear hc hov
      go_enter Try.func97, Try.ntmps97
      go_wp2_with fail
      refine HO.out.mono ?_
      rintro e w1 ⟨rfl, hw⟩
      have hw := hw.symm
      subst hw
      go_wp2_with fail
      refine HN.out.mono ?_
      rintro e w1 ⟨rfl, hw⟩
      have hw := hw.symm
      subst hw
      go_upto_region 19 with (first | (go_at_call_of 141 (Value.string ⟨#[109, 97, 120, 40]⟩); refine HS1.out.mono ?_; rintro e w' ⟨rfl, hw⟩; have hw := hw.symm; subst hw) | (go_at_call_of 141 (Value.string ⟨#[105, 109, 97, 120, 40]⟩); refine HS2.out.mono ?_; rintro e w' ⟨rfl, hw⟩; have hw := hw.symm; subst hw) | fail)
      rw [← HI.out]
      clear HI
      go_upto_region 23 with fail
      rw [← HJ.out]
      clear HJ
      go_wp2_with fail
      refine HC.out.mono ?_
      rintro e w1 ⟨rfl, hw⟩
      have hw := hw.symm
      subst hw
      go_wp2_with fail
      go_ret
      exact ⟨rfl, Below.refl _ _⟩
    | some c =>
      rw [pair_some hc] at htp
      have hcl : c < j.size := by have := (cut_at hc).2; simpa using this
      rw [hc] at HC
      have hov : outV (some c) = (c : Int) := rfl
      rw [hov] at HC
      have HA := hide (ih (j.extract 0 c) (by simp; omega))
      have HB := hide (ih (j.extract (c + 1) j.size) (by simp; omega))
      unfold ReadAt at HA HB
      rw [ext_to] at HA
      rw [ext_from] at HB
      have hc1 : (c : Int) + 1 ≤ j.size := by omega
      have hcw : IntKind.i64.wrap ((c : Int) + 1) = (c : Int) + 1 := by rw [IntKind.wrap_i64]; omega
      generalize spF (j.data.toList.take c) = ra at *
      generalize spF (j.data.toList.drop (c + 1)) = rb at *
      clear hc hov ih
      go_enter Try.func97, Try.ntmps97
      go_wp2_with fail
      refine HO.out.mono ?_
      rintro e w1 ⟨rfl, hw⟩
      have hw := hw.symm
      subst hw
      go_wp2_with fail
      refine HN.out.mono ?_
      rintro e w1 ⟨rfl, hw⟩
      have hw := hw.symm
      subst hw
      go_upto_region 19 with (first | (go_at_call_of 141 (Value.string ⟨#[109, 97, 120, 40]⟩); refine HS1.out.mono ?_; rintro e w' ⟨rfl, hw⟩; have hw := hw.symm; subst hw) | (go_at_call_of 141 (Value.string ⟨#[105, 109, 97, 120, 40]⟩); refine HS2.out.mono ?_; rintro e w' ⟨rfl, hw⟩; have hw := hw.symm; subst hw) | fail)
      rw [← HI.out]
      clear HI
      go_upto_region 23 with fail
      rw [← HJ.out]
      clear HJ
      go_wp2_with fail
      refine HC.out.mono ?_
      rintro e w1 ⟨rfl, hw⟩
      have hw := hw.symm
      subst hw
      go_wp2_with fail
      refine (HA.out w).mono ?_
      rintro e w2 ⟨hra, hb2⟩
      have HB2 := hide hb2
      have HRA := hide hra
      obtain ⟨qa, rfl⟩ := out_ptr hra
      clear hb2 hra
      go_wp2_with fail
      refine (HB.out w2).mono ?_
      rintro e w3 ⟨hrb, hb3⟩
      have HB3 := hide (bel_trans HB2.out hb3)
      cases ra with
      | none =>
        have hqa : qa = none := by have h := HRA.out; unfold ReadOut at h; simpa using h
        subst hqa
        subst htp
        obtain ⟨qb, rfl⟩ := out_ptr hrb
        clear hrb hb3
        go_wp2_with (first | (go_at_call 65; refine (none_none _).mono ?_; rintro e w' ⟨rfl, hw⟩; have hw := hw.symm; subst hw) | fail)
        go_ret
        exact ⟨rfl, HB3.out⟩
      | some ta =>
        obtain ⟨g, hg, hta⟩ := HRA.out
        have hqa : qa = some ⟨g, 0, none⟩ := by simpa using hg
        subst hqa
        have HTA := hide ((hta.keep hb3).mono hb3.size)
        cases rb with
        | none =>
          subst htp
          have hrb : e = .returned (.pointer none) := hrb
          subst hrb
          clear hb3 hta hg
          go_wp2_with (first | (go_at_call_of 65 (some (Addr.mk g 0 none)); refine (none_some _ _).mono ?_; rintro e w' ⟨rfl, hw⟩; have hw := hw.symm; subst hw) | (go_at_call 65; refine (none_none _).mono ?_; rintro e w' ⟨rfl, hw⟩; have hw := hw.symm; subst hw) | fail)
          go_ret
          exact ⟨rfl, HB3.out⟩
        | some tb =>
          subst htp
          obtain ⟨gb, rfl, htb⟩ := hrb
          have h4 := HTA.out.cell4
          have h4b := htb.cell4
          have hsa := ta.sz_le
          have hsb := tb.sz_le
          have HTB := hide htb
          clear hb3 hta hg htb
          go_wp2_with (first | (go_at_call 65; refine (none_some _ _).mono ?_; rintro e w' ⟨rfl, hw⟩; have hw := hw.symm; subst hw) | (go_at_call 117; refine (make_two 4 ⟨#[]⟩ g ta.sz gb tb.sz _ h4 hsa h4b hsb).mono ?_; rintro e w4 ⟨rfl, n4, rfl⟩) | fail)
          go_ret
          exact ⟨⟨_, rfl, tree_two HTA.out HTB.out 4 ⟨#[]⟩ n4⟩, HB3.out.trans ((bel_new w3 _ n4).mono HB3.out.size)⟩

theorem read_all : ∀ (n : Nat) (s : ByteArray), s.size < n → s.size ≤ 3000 → ReadAt s := by
  intro n
  induction n with
  | zero => intro s h; omega
  | succ n ih =>
    intro s hn hs
    cases hp : lastO 43 0 0 s.data.toList with
    | some p =>
      have hpl : p < s.size := by have := (cut_at hp).2; simpa using this
      exact read_plus s hs p hp (ih _ (by simp; omega) (by simp; omega))
    | none =>
      cases hok : okNum s.data.toList
      · by_cases h4 : s.data.toList.take 4 = [109, 97, 120, 40]
        · exact read_max s hs hp hok h4 (fun q hq => ih q (by omega) (by omega))
        · by_cases h5 : s.data.toList.take 5 = [105, 109, 97, 120, 40]
          · exact read_imax s hs hp hok h4 h5 (fun q hq => ih q (by omega) (by omega))
          · exact read_name s hs hp hok h4 h5
      · exact read_num s hs hp hok
theorem l1Read_any (s : ByteArray) (hs : s.size ≤ 3000) : ReadAt s := read_all (s.size + 1) s (by omega) hs
end Go.Proofs.Ytnifepmaijfllaa

/- What the specification's ParseLevel answers: the level of a text, in new memory, or a code. -/
namespace Go.Proofs.Ytnifepmaijfllaa
open Go.ChangeShapes Go.WideShapes Go.ChangeAt Go.RowKit

/-- What ParseLevel answers. -/
def ParseOut (B : Nat) (w' : World) (e : Ending) (s : ByteArray) : Prop :=
  ((3000 < s.size ∨ spF s.data.toList = none) ∧ LvOut B w' e none 4) ∨ (s.size ≤ 3000 ∧ ∃ t, spF s.data.toList = some t ∧ LvOut B w' e (sizedR t) 3)

set_option maxRecDepth 20000 in
set_option maxHeartbeats 4000000 in
theorem specParse_any (s : ByteArray) (w : World) (hs : s.size ≤ maxLen) :
    Calls Try.prog 43 #[.string s] w fun e w' => ParseOut w.heap.size w' e s ∧ Below w.heap.size w w' := by
  unfold maxLen at hs
  obtain ⟨W, hW⟩ : ∃ W, W = w.alloc (.cells #[.slice none 0 0] 30) := ⟨_, rfl⟩
  have HB := hide (show Below w.heap.size w W by rw [hW]; exact bel_alloc (Below.refl _ _) _)
  have hsW : W.heap.size = w.heap.size + 1 := by rw [hW]; simp
  have x1 : W.cell? ⟨w.heap.size, 0, none⟩ = some (.slice none 0 0) := by rw [hW]; simp [go_sem]
  have xf : W.frozen? ⟨w.heap.size, 0, none⟩ = false := by rw [hW]; simp [go_sem]
  have HXB := hide (show W.heap[w.heap.size]? = some (.cells #[.slice none 0 0] 30 (0, 0)) by rw [hW]; exact heap_alloc_new w _)
  by_cases hbig : 3000 < s.size
  · have d1 : decide (3000 < (s.size : Int)) = true := by simp; omega
    have HBIG := hide hbig
    clear hbig
    go_enter Try.func43, Try.ntmps43
    go_upto_region 1 with fail
    rw [← hW]
    clear hW
    go_wp2_with fail
    refine bodyPost_ret (v := .tuple #[.agg #[.slice none 0 0], .int .i64 4]) (by simp [results, go_sem, x1]) rfl ⟨.inl ⟨.inl HBIG.out, rfl⟩, HB.out.setCell (p := ⟨_, _, _⟩) (Nat.le_refl _) _⟩
  · have d1 : decide (3000 < (s.size : Int)) = false := by simp; omega
    have HSZ := hide (show s.size ≤ 3000 by omega)
    have HR := hide (l1Read_any s (by omega) W)
    clear hbig
    go_enter Try.func43, Try.ntmps43
    go_upto_region 1 with fail
    rw [← hW]
    clear hW
    go_wp2_with fail
    refine HR.out.mono ?_
    rintro e w2 ⟨hr, hb2⟩
    have hs2 := hb2.size
    have HB2 := hide (HB.out.trans (hb2.mono (by omega)))
    have x1 := keep_cell hb2 x1
    have xf : w2.frozen? ⟨w.heap.size, 0, none⟩ = false := (hb2.frozen (p := ⟨w.heap.size, 0, none⟩) (by show w.heap.size < _; omega)).trans xf
    have HXB2 := hide ((hb2.block (w.heap.size) (by omega)).trans HXB.out)
    cases hsp : spF s.data.toList with
    | none =>
      have HSP := hide hsp
      rw [hsp] at hr
      have hr : e = .returned (.pointer none) := hr
      subst hr
      clear hsp hb2
      go_wp2_with (first | (go_at_call 65; refine (none_none _).mono ?_; rintro e w' ⟨rfl, hw⟩; have hw := hw.symm; subst hw) | fail)
      refine bodyPost_ret (v := .tuple #[.agg #[.slice none 0 0], .int .i64 4]) (by simp [results, go_sem, x1]) rfl ⟨.inl ⟨.inr HSP.out, rfl⟩, HB2.out.setCell (p := ⟨_, _, _⟩) (Nat.le_refl _) _⟩
    | some pt =>
      have HSP := hide hsp
      rw [hsp] at hr
      obtain ⟨g4, rfl, ht4⟩ := hr
      have HT4 := hide ht4
      clear hsp hb2 ht4
      go_wp2_with (first | (go_at_call 65; refine (none_some _ _).mono ?_; rintro e w' ⟨rfl, hw⟩; have hw := hw.symm; subst hw) | fail)
      refine (l1Fits_any pt g4 w2 HT4.out).mono ?_
      rintro e w5 ⟨rfl, hb5⟩
      have hs5 := hb5.size
      have HB5 := hide (HB2.out.trans (hb5.mono (by omega)))
      have x1 := keep_cell hb5 x1
      have xf : w5.frozen? ⟨w.heap.size, 0, none⟩ = false := (hb5.frozen (p := ⟨w.heap.size, 0, none⟩) (by show w.heap.size < _; omega)).trans xf
      have HXB5 := hide ((hb5.block (w.heap.size) (by omega)).trans HXB2.out)
      have HT5 := hide ((HT4.out.keep hb5).mono hb5.size)
      clear hb5
      cases hfit : fitsB pt
      · have HRR : Hid (sizedR pt = none) := by show _ = _; unfold sizedR; rw [hfit]; rfl
        clear hfit
        go_wp2_with fail
        refine bodyPost_ret (v := .tuple #[.agg #[.slice none 0 0], .int .i64 3]) (by simp [results, go_sem, x1]) rfl ⟨.inr ⟨HSZ.out, pt, HSP.out, by rw [HRR.out]; exact rfl⟩, HB5.out.setCell (p := ⟨_, _, _⟩) (Nat.le_refl _) _⟩
      · have HRR : Hid (sizedR pt = some pt) := by show _ = _; unfold sizedR; rw [hfit]; rfl
        have hcn : pt.cnt ≤ 1000 := by unfold fitsB at hfit; simp at hfit; omega
        have HLV := hide (l1LevelA_any pt g4 w5 HT5.out hcn)
        rw [Tr.flat_len] at HLV
        clear hfit hcn
        go_wp2_with fail
        refine HLV.out.mono ?_
        rintro e w6 ⟨g6, cap6, rfl, hn6, hb6⟩
        have HB6 := hide (HB5.out.trans (hb6.mono (by omega)))
        have x1 := keep_cell hb6 x1
        have xf : w6.frozen? ⟨w.heap.size, 0, none⟩ = false := (hb6.frozen (p := ⟨w.heap.size, 0, none⟩) (by show w.heap.size < _; omega)).trans xf
        have HXB6 := hide ((hb6.block (w.heap.size) (by omega)).trans HXB5.out)
        have hn6' := hn6.ndW
        rw [Tr.flat_len] at hn6'
        have HND := hide ((hn6'.mono (show w.heap.size ≤ w5.heap.size by omega)).set (l := w.heap.size) (o := 0) (by decide) (by decide) HXB6.out (.slice (some ⟨g6, 0, none⟩) pt.cnt cap6))
        clear hn6 hn6' hb6 HLV
        go_wp2_with fail
        refine bodyPost_ret (v := .tuple #[.agg #[.slice (some ⟨g6, 0, none⟩) pt.cnt cap6], .int .i64 0]) (by simp [results, go_sem, x1]) rfl ⟨.inr ⟨HSZ.out, pt, HSP.out, by rw [HRR.out]; exact ⟨g6, cap6, rfl, HND.out⟩⟩, HB6.out.setCell (p := ⟨_, _, _⟩) (Nat.le_refl _) _⟩
end Go.Proofs.Ytnifepmaijfllaa
