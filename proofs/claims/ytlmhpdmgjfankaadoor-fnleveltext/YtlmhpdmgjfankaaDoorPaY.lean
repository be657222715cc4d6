/- What the small functions of both readers of levels' texts answer: l1Outside, l1Number, l1Starts, l1Many; decimal. -/
import Derived.Test.YtlmhpdmgjfankaaDoorPaC
import Derived.Test.YtlmhpdmgjfankaaDoorDraw
import Derived.Test.YtlmhpdmgjfankaaDoorBytes
namespace Go.Proofs.YtlmhpdmgjfankaaDoor
open Go.ChangeShapes Go.WideShapes Go.ChangeAt Go.RowKit

def outV : Option Nat → Int
  | none => -1
  | some j => j
theorem out_bd {c : UInt8} {s : Bs} (d : Int) (i : Nat) : -1 ≤ outV (lastO c d i s) ∧ outV (lastO c d i s) < i + s.length := by
  cases h : lastO c d i s with
  | none => simp [outV]; omega
  | some j =>
    obtain ⟨h1, h2⟩ := lastO_get h
    have := (List.getElem?_eq_some_iff.1 h2).1
    simp [outV]; omega
theorem lastO_snoc (c : UInt8) (s : Bs) (k : Nat) (h : k < s.length) : lastO c 0 0 (s.take (k + 1)) = if s[k] = c ∧ net (s.take k) = 0 then some k else lastO c 0 0 (s.take k) := by
  rw [List.take_succ_eq_append_getElem h, lastO_append]
  have hl : (s.take k).length = k := by simp; omega
  simp only [lastO, hl, Nat.zero_add, Int.zero_add]
  by_cases h2 : s[k] = c ∧ net (s.take k) = 0
  · rw [if_pos h2, if_pos h2]
  · rw [if_neg h2, if_neg h2]
theorem net_snoc (s : Bs) (k : Nat) (h : k < s.length) : net (s.take (k + 1)) = net (s.take k) + (if s[k] = 40 then 1 else if s[k] = 41 then -1 else 0) := by
  rw [List.take_succ_eq_append_getElem h, net_append]; simp [net]
theorem net_bd : ∀ (s : Bs), -(s.length : Int) ≤ net s ∧ net s ≤ s.length
  | [] => by simp [net]
  | x :: s => by
    have ih := net_bd s
    simp only [net, List.length_cons]
    split
    · omega
    · split <;> omega
theorem u8_eq (a b : UInt8) : ((a.toNat : Int) == (b.toNat : Int)) = decide (a = b) := by
  rw [Bool.eq_iff_iff, beq_iff_eq, decide_eq_true_eq]
  constructor
  · intro h; exact UInt8.toNat_inj.1 (by omega)
  · intro h; rw [h]
theorem get_data (s : ByteArray) (k : Nat) (h : k < s.size) : s.data.toList[k]'(by simpa using h) = s[k] := by rw [Array.getElem_toList]; rfl

end Go.Proofs.YtlmhpdmgjfankaaDoor

/- What the number's readers of both sides answer: l1Number, decimal; and l1Starts, l1Many. -/
namespace Go.Proofs.YtlmhpdmgjfankaaDoor
open Go.ChangeShapes Go.WideShapes Go.ChangeAt Go.RowKit

def numR (d : Bs) : Value := .tuple #[.int .i64 (if okNum d then (numU d : Int) else 0), .bool (okNum d)]
theorem dig_eq (c : UInt8) : digB (c.toNat : Int) = digU c := by
  unfold digB digU
  rw [Bool.eq_iff_iff]
  simp only [Bool.and_eq_true, decide_eq_true_eq]
  omega
theorem numU_snoc (s : Bs) (k : Nat) (h : k < s.length) : numU (s.take (k + 1)) = numU (s.take k) * 10 + (s[k].toNat - 48) := by
  unfold numU
  rw [List.take_succ_eq_append_getElem h, List.foldl_append]; rfl
theorem all_dig_snoc (s : Bs) (k : Nat) (h : k < s.length) (ha : (s.take k).all digU = true) (hc : digU s[k] = true) : (s.take (k + 1)).all digU = true := by
  rw [List.take_succ_eq_append_getElem h, List.all_append, ha]; simp [hc]
theorem num_small {s : Bs} (h : s.all digU = true) (hl : s.length ≤ 4) : numU s ≤ 9999 := by
  by_cases h0 : s = []
  · subst h0; simp [numU]
  · exact num_le (by unfold okNum; rw [h]; cases s with | nil => exact absurd rfl h0 | cons c r => simp at hl ⊢; omega)
theorem ret_num {d : Bs} {n : Int} {b : Bool} (hb : b = okNum d) (hn : n = if okNum d then (numU d : Int) else 0) : Ending.returned (.tuple #[.int .i64 n, .bool b]) = .returned (numR d) := by unfold numR; rw [hb, hn]

set_option maxRecDepth 20000 in
set_option maxHeartbeats 2000000 in
theorem decimal_any (s : ByteArray) (w : World) (hs : s.size ≤ 100000) :
    Calls Tryd.prog 52 #[.string s, .int .i64 4] w fun e w' => e = .returned (numR s.data.toList) ∧ w' = w := by
  have hlen : s.data.toList.length = s.size := by simp
  by_cases h1 : s.size < 1
  · have HF : Hid (okNum s.data.toList = false) := by show _ = _; unfold okNum; simp; omega
    clear hlen
    go_enter Tryd.func52, Tryd.ntmps52
    go_wp2_with fail
    refine bodyPost_ret (results_tmp2 Tryd.results52 _ _ _) rfl ⟨ret_num HF.out.symm (by rw [HF.out]; rfl), rfl⟩
  by_cases h2 : 4 < s.size
  · have HF : Hid (okNum s.data.toList = false) := by show _ = _; unfold okNum; simp; omega
    clear hlen
    go_enter Tryd.func52, Tryd.ntmps52
    go_wp2_with fail
    refine bodyPost_ret (results_tmp2 Tryd.results52 _ _ _) rfl ⟨ret_num HF.out.symm (by rw [HF.out]; rfl), rfl⟩
  have HL := hide hlen
  clear hlen
  have d1 : decide ((s.size : Int) < 1) = false := by simp; omega
  have d2 : decide (4 < (s.size : Int)) = false := by simp; omega
  go_enter Tryd.func52, Tryd.ntmps52
  go_wp2_with fail
  go_loopw [6, 19] (fun v i wr => ∃ (k n : Nat), k ≤ s.size ∧ i = .int .i64 k ∧ v = .int .i64 n ∧ n ≤ 9999 ∧ Hid (n = numU (s.data.toList.take k)) ∧ Hid ((s.data.toList.take k).all digU = true) ∧ w = wr) (fun _ i _ => s.size - (intOf i).toNat)
  case atStart => exact ⟨0, 0, by omega, rfl, rfl, by omega, rfl, rfl, rfl⟩
  case round =>
    obtain ⟨k, n, hk, rfl, rfl, hn, HV, HA, rfl⟩ := hrel
    by_cases hlt : k < s.size
    · have hlt' : (k : Int) < s.size := by omega
      have hkl : k < s.data.toList.length := by have := HL.out; omega
      have hg := get_data s k hlt
      have hsn := numU_snoc s.data.toList k hkl
      have hal := all_dig_snoc s.data.toList k hkl HA.out
      rw [hg] at hsn hal
      have q1 := dig_eq s[k]
      cases hd : digU s[k]
      · rw [hd] at q1
        have HF : Hid (okNum s.data.toList = false) := by
          show _ = _
          unfold okNum
          rw [Bool.and_eq_false_iff]
          right
          rw [List.all_eq_false]
          exact ⟨s[k], by rw [← hg]; exact List.getElem_mem hkl, by rw [hd]; simp⟩
        clear hsn hal hg hd
        go_wp2_with (first | (go_at_call 53; refine (isDigit_any _ _).mono ?_; rintro e w' ⟨rfl, hw⟩; have hw := hw.symm; subst hw; rw [q1]) | fail)
        refine bodyPost_ret (results_tmp2 Tryd.results52 _ _ _) rfl ⟨ret_num HF.out.symm (by rw [HF.out]; rfl), rfl⟩
      · rw [hd] at q1
        have HA2 := hide (hal hd)
        have hb : 48 ≤ s[k].toNat ∧ s[k].toNat ≤ 57 := by
          unfold digU at hd
          simp only [Bool.and_eq_true, decide_eq_true_eq] at hd
          exact hd
        have hn2 : numU (s.data.toList.take (k + 1)) ≤ 9999 := num_small HA2.out (by have := HL.out; simp; omega)
        rw [← HV.out] at hsn
        rw [hsn] at hn2
        have HV2 : Hid (n * 10 + (s[k].toNat - 48) = numU (s.data.toList.take (k + 1))) := hsn.symm
        obtain ⟨z, hz⟩ : ∃ z : Nat, s[k].toNat = 48 + z := ⟨s[k].toNat - 48, by omega⟩
        have hz9 : z ≤ 9 := by omega
        have w1 : IntKind.u8.wrap ((s[k].toNat : Int) - 48) = (z : Int) := by rw [hz]; rw [show (((48 + z : Nat) : Int) - 48) = (z : Int) by omega]; first | (rw [IntKind.wrap_u8]; omega) | (simp [IntKind.wrap]; omega)
        have hz2 : s[k].toNat - 48 = z := by omega
        rw [hz2] at HV2 hn2
        clear hsn hal hg hd hz2 hz hb
        go_wp2_with (first | (go_at_call 53; refine (isDigit_any _ _).mono ?_; rintro e w' ⟨rfl, hw⟩; have hw := hw.symm; subst hw; rw [q1]) | fail)
        go_roundw
        case rel => exact ⟨k + 1, n * 10 + z, by omega, by go_num, by go_num, by omega, HV2, HA2, by first | rfl | trivial⟩
        case measure => simp [intOf]; omega
    · have HF : Hid (okNum s.data.toList = true ∧ n = numU s.data.toList) := by
        have ha := HA.out
        have hv := HV.out
        rw [List.take_of_length_le (by have := HL.out; omega)] at ha hv
        refine ⟨?_, hv⟩
        unfold okNum
        rw [ha]
        have := HL.out
        simp; omega
      go_wp2_with fail
      refine bodyPost_ret (results_tmp2 Tryd.results52 _ _ _) rfl ⟨ret_num HF.out.1.symm (by rw [HF.out.1, HF.out.2]; rfl), rfl⟩
end Go.Proofs.YtlmhpdmgjfankaaDoor

/- What l1Starts and l1Many answer; the specification's reader with fuel enough. -/
namespace Go.Proofs.YtlmhpdmgjfankaaDoor
open Go.ChangeShapes Go.WideShapes Go.ChangeAt Go.RowKit

theorem ext_to (s : ByteArray) (k : Nat) : (s.extract 0 k).data.toList = s.data.toList.take k := by simp [ByteArray.data_extract]
theorem ext_from (s : ByteArray) (k : Nat) : (s.extract k s.size).data.toList = s.data.toList.drop k := by
  simp only [ByteArray.data_extract, Array.toList_extract]
  show (s.data.toList.drop k).take (s.size - k) = _
  rw [List.take_of_length_le]
  simp
theorem mk_data (s : ByteArray) : (⟨s.data.toList.toArray⟩ : ByteArray) = s := by cases s; simp
end Go.Proofs.YtlmhpdmgjfankaaDoor
