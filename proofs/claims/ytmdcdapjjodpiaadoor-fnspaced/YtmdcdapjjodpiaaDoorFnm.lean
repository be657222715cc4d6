/- What the readers of numbers of one to three digits answer, and the small tests ahead of a name's or a number's end. -/
import Derived.Test.YtmdcdapjjodpiaaDoorFna
namespace Go.Proofs.YtmdcdapjjodpiaaDoor
open Go.ChangeShapes Go.WideShapes Go.ChangeAt Go.RowKit

def numR (s : ByteArray) : Value := .tuple #[.int .i64 (if okNum s then (numU s.data.toList : Int) else 0), .bool (okNum s)]
theorem get_data (s : ByteArray) (k : Nat) (h : k < s.size) : s.data.toList[k]'(by simpa using h) = s[k] := by rw [Array.getElem_toList]; rfl
theorem dig_eq (c : UInt8) : digB (c.toNat : Int) = digU c := by
  unfold digB digU
  rw [Bool.eq_iff_iff]
  simp only [Bool.and_eq_true, decide_eq_true_eq]
  omega
theorem numU_snoc (s : List UInt8) (k : Nat) (h : k < s.length) : numU (s.take (k + 1)) = numU (s.take k) * 10 + (s[k].toNat - 48) := by
  unfold numU
  rw [List.take_succ_eq_append_getElem h, List.foldl_append]; rfl
theorem all_dig_snoc (s : List UInt8) (k : Nat) (h : k < s.length) (ha : (s.take k).all digU = true) (hc : digU s[k] = true) : (s.take (k + 1)).all digU = true := by
  rw [List.take_succ_eq_append_getElem h, List.all_append, ha]; simp [hc]
theorem ret_num {s : ByteArray} {n : Int} {b : Bool} (hb : b = okNum s) (hn : n = if okNum s then (numU s.data.toList : Int) else 0) : Ending.returned (.tuple #[.int .i64 n, .bool b]) = .returned (numR s) := by unfold numR; rw [hb, hn]

set_option maxRecDepth 20000 in
set_option maxHeartbeats 2000000 in
theorem l1Number_any (s : ByteArray) (w : World) (hs : s.size ≤ 100000) :
    Calls Tryd.prog 26 #[.string s, .int .i64 3] w fun e w' => e = .returned (numR s) ∧ w' = w := by
  have hlen : s.data.toList.length = s.size := by simp
  by_cases h1 : s.size < 1
  · have HF : Hid (okNum s = false) := by show _ = _; unfold okNum; simp; omega
    clear hlen
    go_enter Tryd.func26, Tryd.ntmps26
    go_wp2_with fail
    refine bodyPost_ret (results_tmp2 Tryd.results26 _ _ _) rfl ⟨ret_num HF.out.symm (by rw [HF.out]; rfl), rfl⟩
  by_cases h2 : 3 < s.size
  · have HF : Hid (okNum s = false) := by show _ = _; unfold okNum; simp; omega
    clear hlen
    go_enter Tryd.func26, Tryd.ntmps26
    go_wp2_with fail
    refine bodyPost_ret (results_tmp2 Tryd.results26 _ _ _) rfl ⟨ret_num HF.out.symm (by rw [HF.out]; rfl), rfl⟩
  have HL := hide hlen
  clear hlen
  have d1 : decide ((s.size : Int) < 1) = false := by simp; omega
  have d2 : decide (3 < (s.size : Int)) = false := by simp; omega
  go_enter Tryd.func26, Tryd.ntmps26
  go_wp2_with fail
  go_loopw [6, 7] (fun v i wr => ∃ (k n : Nat), k ≤ s.size ∧ i = .int .i64 k ∧ v = .int .i64 n ∧ n ≤ 999 ∧ Hid (n = numU (s.data.toList.take k)) ∧ Hid ((s.data.toList.take k).all digU = true) ∧ w = wr) (fun _ i _ => s.size - (intOf i).toNat)
  case atStart => exact ⟨0, 0, by omega, rfl, rfl, by omega, rfl, rfl, rfl⟩
  case round =>
    obtain ⟨k, n, hk, rfl, rfl, hn, HV, HA, rfl⟩ := hrel
    by_cases hlt : k < s.size
    · have hlt' : (k : Int) < s.size := by omega
      have hkl : k < s.data.toList.length := by have := HL.out; omega
      have hg := get_data s k hlt
      have hsn := numU_snoc s.data.toList k hkl
      have hal := all_dig_snoc s.data.toList k hkl HA.out
      rw [hg] at hsn hal
      have q1 := dig_eq s[k]
      cases hd : digU s[k]
      · rw [hd] at q1
        have HF : Hid (okNum s = false) := by
          show _ = _
          unfold okNum
          rw [Bool.and_eq_false_iff]
          right
          rw [List.all_eq_false]
          exact ⟨s[k], by rw [← hg]; exact List.getElem_mem hkl, by rw [hd]; simp⟩
        clear hsn hal hg hd
        go_wp2_with (first | (go_at_call 25; refine (l1Digit_any _ _).mono ?_; rintro e w' ⟨rfl, hw⟩; have hw := hw.symm; subst hw; rw [q1]) | fail)
        refine bodyPost_ret (results_tmp2 Tryd.results26 _ _ _) rfl ⟨ret_num HF.out.symm (by rw [HF.out]; rfl), rfl⟩
      · rw [hd] at q1
        have HA2 := hide (hal hd)
        have hb : 48 ≤ s[k].toNat ∧ s[k].toNat ≤ 57 := by
          unfold digU at hd
          simp only [Bool.and_eq_true, decide_eq_true_eq] at hd
          exact hd
        have hn2 : numU (s.data.toList.take (k + 1)) ≤ 999 := numU_le HA2.out (by have := HL.out; simp; omega)
        rw [← HV.out] at hsn
        rw [hsn] at hn2
        have HV2 : Hid (n * 10 + (s[k].toNat - 48) = numU (s.data.toList.take (k + 1))) := hsn.symm
        obtain ⟨z, hz⟩ : ∃ z : Nat, s[k].toNat = 48 + z := ⟨s[k].toNat - 48, by omega⟩
        have hz9 : z ≤ 9 := by omega
        have w1 : IntKind.u8.wrap ((s[k].toNat : Int) - 48) = (z : Int) := by rw [hz]; rw [show (((48 + z : Nat) : Int) - 48) = (z : Int) by omega]; first | (rw [IntKind.wrap_u8]; omega) | (simp [IntKind.wrap]; omega)
        have hz2 : s[k].toNat - 48 = z := by omega
        rw [hz2] at HV2 hn2
        clear hsn hal hg hd hz2 hz hb
        go_wp2_with (first | (go_at_call 25; refine (l1Digit_any _ _).mono ?_; rintro e w' ⟨rfl, hw⟩; have hw := hw.symm; subst hw; rw [q1]) | fail)
        go_roundw
        case rel => exact ⟨k + 1, n * 10 + z, by omega, by go_num, by go_num, by omega, HV2, HA2, by first | rfl | trivial⟩
        case measure => simp [intOf]; omega
    · have HF : Hid (okNum s = true ∧ n = numU s.data.toList) := by
        have ha := HA.out
        have hv := HV.out
        rw [List.take_of_length_le (by have := HL.out; omega)] at ha hv
        refine ⟨?_, hv⟩
        unfold okNum
        rw [ha]
        have := HL.out
        simp; omega
      go_wp2_with fail
      refine bodyPost_ret (results_tmp2 Tryd.results26 _ _ _) rfl ⟨ret_num HF.out.1.symm (by rw [HF.out.1, HF.out.2]; rfl), rfl⟩

set_option maxRecDepth 20000 in
set_option maxHeartbeats 2000000 in
theorem decimal_any (s : ByteArray) (w : World) (hs : s.size ≤ 100000) :
    Calls Tryd.prog 47 #[.string s, .int .i64 3] w fun e w' => e = .returned (numR s) ∧ w' = w := by
  have hlen : s.data.toList.length = s.size := by simp
  by_cases h1 : s.size < 1
  · have HF : Hid (okNum s = false) := by show _ = _; unfold okNum; simp; omega
    clear hlen
    go_enter Tryd.func47, Tryd.ntmps47
    go_wp2_with fail
    refine bodyPost_ret (results_tmp2 Tryd.results47 _ _ _) rfl ⟨ret_num HF.out.symm (by rw [HF.out]; rfl), rfl⟩
  by_cases h2 : 3 < s.size
  · have HF : Hid (okNum s = false) := by show _ = _; unfold okNum; simp; omega
    clear hlen
    go_enter Tryd.func47, Tryd.ntmps47
    go_wp2_with fail
    refine bodyPost_ret (results_tmp2 Tryd.results47 _ _ _) rfl ⟨ret_num HF.out.symm (by rw [HF.out]; rfl), rfl⟩
  have HL := hide hlen
  clear hlen
  have d1 : decide ((s.size : Int) < 1) = false := by simp; omega
  have d2 : decide (3 < (s.size : Int)) = false := by simp; omega
  go_enter Tryd.func47, Tryd.ntmps47
  go_wp2_with fail
  go_loopw [6, 19] (fun v i wr => ∃ (k n : Nat), k ≤ s.size ∧ i = .int .i64 k ∧ v = .int .i64 n ∧ n ≤ 999 ∧ Hid (n = numU (s.data.toList.take k)) ∧ Hid ((s.data.toList.take k).all digU = true) ∧ w = wr) (fun _ i _ => s.size - (intOf i).toNat)
  case atStart => exact ⟨0, 0, by omega, rfl, rfl, by omega, rfl, rfl, rfl⟩
  case round =>
    obtain ⟨k, n, hk, rfl, rfl, hn, HV, HA, rfl⟩ := hrel
    by_cases hlt : k < s.size
    · have hlt' : (k : Int) < s.size := by omega
      have hkl : k < s.data.toList.length := by have := HL.out; omega
      have hg := get_data s k hlt
      have hsn := numU_snoc s.data.toList k hkl
      have hal := all_dig_snoc s.data.toList k hkl HA.out
      rw [hg] at hsn hal
      have q1 := dig_eq s[k]
      cases hd : digU s[k]
      · rw [hd] at q1
        have HF : Hid (okNum s = false) := by
          show _ = _
          unfold okNum
          rw [Bool.and_eq_false_iff]
          right
          rw [List.all_eq_false]
          exact ⟨s[k], by rw [← hg]; exact List.getElem_mem hkl, by rw [hd]; simp⟩
        clear hsn hal hg hd
        go_wp2_with (first | (go_at_call 32; refine (isDigit_any _ _).mono ?_; rintro e w' ⟨rfl, hw⟩; have hw := hw.symm; subst hw; rw [q1]) | fail)
        refine bodyPost_ret (results_tmp2 Tryd.results47 _ _ _) rfl ⟨ret_num HF.out.symm (by rw [HF.out]; rfl), rfl⟩
      · rw [hd] at q1
        have HA2 := hide (hal hd)
        have hb : 48 ≤ s[k].toNat ∧ s[k].toNat ≤ 57 := by
          unfold digU at hd
          simp only [Bool.and_eq_true, decide_eq_true_eq] at hd
          exact hd
        have hn2 : numU (s.data.toList.take (k + 1)) ≤ 999 := numU_le HA2.out (by have := HL.out; simp; omega)
        rw [← HV.out] at hsn
        rw [hsn] at hn2
        have HV2 : Hid (n * 10 + (s[k].toNat - 48) = numU (s.data.toList.take (k + 1))) := hsn.symm
        obtain ⟨z, hz⟩ : ∃ z : Nat, s[k].toNat = 48 + z := ⟨s[k].toNat - 48, by omega⟩
        have hz9 : z ≤ 9 := by omega
        have w1 : IntKind.u8.wrap ((s[k].toNat : Int) - 48) = (z : Int) := by rw [hz]; rw [show (((48 + z : Nat) : Int) - 48) = (z : Int) by omega]; first | (rw [IntKind.wrap_u8]; omega) | (simp [IntKind.wrap]; omega)
        have hz2 : s[k].toNat - 48 = z := by omega
        rw [hz2] at HV2 hn2
        clear hsn hal hg hd hz2 hz hb
        go_wp2_with (first | (go_at_call 32; refine (isDigit_any _ _).mono ?_; rintro e w' ⟨rfl, hw⟩; have hw := hw.symm; subst hw; rw [q1]) | fail)
        go_roundw
        case rel => exact ⟨k + 1, n * 10 + z, by omega, by go_num, by go_num, by omega, HV2, HA2, by first | rfl | trivial⟩
        case measure => simp [intOf]; omega
    · have HF : Hid (okNum s = true ∧ n = numU s.data.toList) := by
        have ha := HA.out
        have hv := HV.out
        rw [List.take_of_length_le (by have := HL.out; omega)] at ha hv
        refine ⟨?_, hv⟩
        unfold okNum
        rw [ha]
        have := HL.out
        simp; omega
      go_wp2_with fail
      refine bodyPost_ret (results_tmp2 Tryd.results47 _ _ _) rfl ⟨ret_num HF.out.1.symm (by rw [HF.out.1, HF.out.2]; rfl), rfl⟩

theorem Bytes.at {w : World} {b o : Nat} {T : ByteArray} (h : Lib.Bytes w b o T) (k : Nat) (hk : k < T.size) : w.cell? ⟨b, o + k, none⟩ = some (.int .u8 (bN T k)) := by
  rw [bN_eq T k hk]; exact h k hk
/-- What stands behind a short name: one more of the same name. -/
def nextP (T : ByteArray) (i : Nat) : Bool := decide (bN T i = 46) && (decide (i + 1 < T.size) && letB (bN T (i + 1)))
set_option maxHeartbeats 1000000 in
theorem beginsNext_any (w : World) (b o : Nat) (T : ByteArray) (hc : Lib.Bytes w b o T) (i cap : Nat) (hi : i < T.size) :
    Calls Tryd.prog 44 #[.slice (some ⟨b, o + i, none⟩) (T.size - i) cap] w fun e w' => e = .returned (.bool (nextP T i)) ∧ w' = w := by
  have c0 := Bytes.at hc i hi
  obtain ⟨m, hm⟩ : ∃ m, m = T.size - i := ⟨_, rfl⟩
  rw [← hm]
  have HM := hide hm
  by_cases h1 : i + 1 < T.size
  · have c1 := Bytes.at hc (i + 1) h1
    have hm1 : (1 : Int) < m := by omega
    have hm2 : 1 < m := by omega
    have hm3 : 0 < m := by omega
    by_cases h46 : bN T i = 46
    · have HE : Hid (nextP T i = letB (bN T (i + 1))) := by show _ = _; simp [nextP, h46, h1]
      have hq : (bN T i == 46) = true := by simp [h46]
      rw [show o + (i + 1) = o + i + 1 by omega] at c1
      clear hm hc h46
      generalize bN T i = x0 at *
      generalize bN T (i + 1) = x1 at *
      cases hl : letB x1
      all_goals
        go_enter Tryd.func44, Tryd.ntmps44
        go_wp2_with (go_at_call 30; refine (beginsName_any _ _).mono ?_; rintro e w' ⟨rfl, rfl⟩; rw [hl])
        go_ret
        exact ⟨ret_bool (by rw [HE.out, hl]), rfl⟩
    · have HE : Hid (nextP T i = false) := by show _ = _; simp [nextP, h46]
      have hq : (bN T i == 46) = false := by simp [h46]
      clear hm hc
      generalize bN T i = x0 at *
      go_enter Tryd.func44, Tryd.ntmps44
      go_wp2_with fail
      go_ret
      exact ⟨ret_bool HE.out.symm, rfl⟩
  · have HE : Hid (nextP T i = false) := by show _ = _; simp [nextP, h1]
    have hm1 : ¬ (1 : Int) < m := by omega
    have hm2 : decide ((1 : Int) < m) = false := by simp; omega
    clear hm hc c0
    go_enter Tryd.func44, Tryd.ntmps44
    go_wp2_with fail
    go_ret
    exact ⟨ret_bool HE.out.symm, rfl⟩
set_option maxHeartbeats 1000000 in
theorem noteEnd_any (w : World) (b o : Nat) (T : ByteArray) (hc : Lib.Bytes w b o T) (i cap : Nat) (hi : i ≤ T.size) (hT : T.size ≤ 20000) :
    Calls Tryd.prog 16 #[.slice (some ⟨b, o, none⟩) T.size cap, .int .i64 (i : Int)] w fun e w' => e = .returned (.int .i64 (stopAt (noteP T) T.size i : Nat)) ∧ w' = w := by
  have HC := hide hc
  clear hc
  obtain ⟨S, hS⟩ : ∃ S, S = stopAt (noteP T) T.size i := ⟨_, rfl⟩
  rw [← hS]
  have HS0 := hide hS.symm
  clear hS
  go_enter Tryd.func16, Tryd.ntmps16
  go_wp2_with fail
  go_loop [1] (fun v => ∃ k : Nat, k ≤ T.size ∧ v = .int .i64 k ∧ Hid (stopAt (noteP T) T.size k = S)) (fun v => T.size - (intOf v).toNat)
  case atStart => exact ⟨i, hi, rfl, HS0.out⟩
  case round =>
    obtain ⟨k, hk, rfl, HS⟩ := hrel
    by_cases hlt : k < T.size
    · have c0 := Bytes.at HC.out k hlt
      have hlt' : (k : Int) < T.size := by omega
      by_cases h10 : bN T k = 10
      · have hp : noteP T k = false := by simp [noteP, h10]
        have hst := HS.out
        rw [stop_not hp] at hst
        have hq : (bN T k != 10) = false := by simp [h10]
        have HR := hide hst
        clear hst hp h10
        generalize bN T k = x0 at *
        go_wp2_with fail
        go_ret
        exact ⟨by first | rfl | (rw [HR.out]; rfl), rfl⟩
      · have hp : noteP T k = true := by simp [noteP, h10]
        have hst := HS.out
        rw [stop_step hlt hp] at hst
        have hq : (bN T k != 10) = true := by simp [h10]
        have HR := hide hst
        clear hst hp h10
        generalize bN T k = x0 at *
        go_wp2_with fail
        go_round
        case rel => exact ⟨k + 1, by omega, by go_num, HR⟩
        case measure => simp [intOf]; omega
    · have hst := HS.out
      rw [stop_end (by omega)] at hst
      have HR := hide hst
      have hlt' : decide ((k : Int) < T.size) = false := by simp; omega
      clear hst
      go_wp2_with fail
      go_ret
      exact ⟨by first | rfl | (rw [HR.out]; rfl), rfl⟩
end Go.Proofs.YtmdcdapjjodpiaaDoor
