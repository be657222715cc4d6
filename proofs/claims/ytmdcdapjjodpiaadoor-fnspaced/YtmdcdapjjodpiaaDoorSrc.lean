/- What the program's reader of a token answers. -/
import Derived.Test.YtmdcdapjjodpiaaDoorFnc
import Derived.Lib.SmallJoins
import Derived.Deep.MidRow
namespace Go.Proofs.YtmdcdapjjodpiaaDoor
open Go.ChangeShapes Go.WideShapes Go.ChangeAt Go.RowKit

theorem tokV_form (r : Option (Tk × Nat)) (i : Nat) : ∃ (k n p e : Int) (s : ByteArray), tokV r i = .tuple #[.agg #[.int .i64 k, .string s, .int .i64 n, .int .i64 p], .int .i64 e] := by
  cases r with
  | none => exact ⟨_, _, _, _, _, rfl⟩
  | some x => exact ⟨_, _, _, _, _, rfl⟩
theorem conv_str (S : ByteArray) (W : World) : (convert 9 22 (.string S)).run Tryd.prog W = .ok (.slice (some ⟨W.heap.size, 0, none⟩) S.size (grownCap W S.size 0 5)) (Lib.bytesWorld W 5 S) := Lib.run_convert_string_bytes W 9 22 5 S Tryd.underlying9 Tryd.underlying22 Tryd.underlying5
theorem conv_bytes (S : ByteArray) (W : World) : Lib.Bytes (Lib.bytesWorld W 5 S) W.heap.size 0 S := by
  intro i hi
  rw [Nat.zero_add, Lib.bytesWorld_cell W 5 S i hi]
  have : i < S.data.toList.length := by simpa using hi
  rw [List.getD_eq_getElem?_getD, List.getElem?_eq_getElem this, get_data S i hi]
  rfl
theorem sign_hit {T : ByteArray} {i k : Nat} (h : k < signsL.length) (hp : preB signsL[k] T i = true) : signAt T i (signsL.drop k) = some (⟨3, signsL[k], 0, i⟩, i + (signsL[k]).size) := by
  rw [List.drop_eq_getElem_cons h]
  unfold signAt
  rw [if_pos hp]
theorem sign_miss {T : ByteArray} {i k : Nat} (h : k < signsL.length) (hp : preB signsL[k] T i = false) : signAt T i (signsL.drop k) = signAt T i (signsL.drop (k + 1)) := by
  rw [List.drop_eq_getElem_cons h]
  conv => lhs; unfold signAt
  rw [if_neg (by rw [hp]; decide)]
theorem signs_sz : ∀ s ∈ signsL, 0 < s.size ∧ s.size ≤ 2 := by
  intro s hs
  simp only [signsL, List.mem_cons, List.not_mem_nil, or_false] at hs
  rcases hs with rfl | rfl | rfl | rfl | rfl | rfl | rfl | rfl | rfl | rfl | rfl | rfl | rfl | rfl | rfl | rfl | rfl | rfl | rfl | rfl | rfl | rfl <;> decide
theorem range_signs {w : World} (h : Tabs w) : w.rangeAt 0 0 (signsL.map Value.string) := fun j v hv => by
    rw [List.getElem?_map] at hv
    cases hj : signsL[j]? with
    | none => rw [hj] at hv; simp at hv
    | some u =>
      rw [hj] at hv
      obtain ⟨h1, h2⟩ := List.getElem?_eq_some_iff.1 hj
      rw [Nat.zero_add, h.sg j h1, h2]
      exact hv
theorem info_signs : (Tryd.prog.info? 52).map (·.size) = some (signsL.map Value.string).length := by kernel_rfl
theorem idx_signs (W : World) (k : Nat) (hk : k < 22) : (Instr.index 52 (.agg (signsL.map Value.string).toArray) (.int .i64 (k : Int))).run Tryd.prog W = .ok (.string (signsL[k]'hk)) W := idxS W k hk
set_option maxRecDepth 20000 in
set_option maxHeartbeats 8000000 in
theorem sourceToken_any (w : World) (b o : Nat) (T : ByteArray) (hc : Lib.Bytes w b o T) (htab : Tabs w) (i cap : Nat) (hi : i < T.size) (hcap : T.size ≤ cap) (hT : T.size ≤ 20000) :
    Calls Tryd.prog 17 #[.slice (some ⟨b, o, none⟩) T.size cap, .int .i64 (i : Int)] w fun e w' => e = .returned (tokV (tokAt T i) i) ∧ Below w.heap.size w w' := by
  have HBW : Hid (Below w.heap.size w (w.alloc (.cells #[.int .i64 0, .string ⟨#[]⟩, .int .i64 0, .int .i64 0] 29))) := bel_alloc (Below.refl _ _) _
  have HC : Hid (Lib.Bytes (w.alloc (.cells #[.int .i64 0, .string ⟨#[]⟩, .int .i64 0, .int .i64 0] 29)) b o T) := bytes_keep HBW.out hc
  have HT := hide (htab.keep HBW.out)
  have HR := hide (ResAt.new w)
  have HQ := hide (tokAt_eq T i)
  have c0 := Bytes.at HC.out i hi
  have hi' : (i : Int) < T.size := by omega
  clear hc htab
  cases hl : letB (bN T i)
  · cases hd : digB (bN T i)
    · have HA : Hid (tokAt T i = signAt T i signsL) := by show _ = _; rw [HQ.out, hl, hd]; rfl
      have HLD := hide (range_signs HT.out)
      have hix := idx_signs
      have HIN := hide info_signs
      generalize signsL.map Value.string = SL at HLD hix HIN
      go_enter Tryd.func17, Tryd.ntmps17
      rw [HA.out]
      generalize hw1 : w.alloc (.cells #[.int .i64 0, .string ⟨#[]⟩, .int .i64 0, .int .i64 0] 29) = w1 at *
      clear HQ
      generalize bN T i = x0 at *
      go_wp2_with (first
        | (refine wpList_load_mid rfl 52 (.global 0) rfl 0 0 rfl SL _ HLD.out Tryd.underlying52 rfl HIN.out ?_)
        | (go_at_call 30; refine (beginsName_any _ _).mono ?_; rintro e w' ⟨rfl, hw⟩; have hw := hw.symm; subst hw; rw [hl])
        | (go_at_call 32; refine (isDigit_any _ _).mono ?_; rintro e w' ⟨rfl, hw⟩; have hw := hw.symm; subst hw; rw [hd])
        | fail)
      have hB1 : Hid (Below w1.heap.size w1 w1) := Below.refl _ _
      go_loopw [30] (fun v wr => ∃ k : Nat, k ≤ 22 ∧ v = .int .i64 k ∧ Hid (signAt T i (signsL.drop k) = signAt T i signsL) ∧ Hid (Below w1.heap.size w1 wr)) (fun v _ => 22 - (intOf v).toNat)
      case atStart => exact ⟨0, by omega, rfl, rfl, hB1.out⟩
      case round =>
        obtain ⟨k, hk, rfl, HS, HB⟩ := hrel
        clear c0
        by_cases hlt : k < 22
        · have hlt' : (k : Int) < 22 := by omega
          have hix2 := fun W => hix W k hlt
          have hsl := fun W => sl_l W b o T.size cap i hi hcap
          obtain ⟨hz0, hz2⟩ := signs_sz (signsL[k]'hlt) (List.getElem_mem _)
          have hcs := conv_str (signsL[k]'hlt)
          have HC2 := hide (bytes_keep HB.out HC.out)
          have HB2 := Go.Joins.below_bytesWorld wr.heap.size wr 5 (signsL[k]'hlt) (Nat.le_refl _)
          have HB3 := hide (bel_trans HB.out HB2)
          have HP := prefix_any (Lib.bytesWorld wr 5 (signsL[k]'hlt)) b o T (signsL[k]'hlt) wr.heap.size (bytes_keep HB2 HC2.out) (conv_bytes _ wr) i (cap - i) (grownCap wr (signsL[k]'hlt).size 0 5) (by omega) hz0 (by omega)
          cases hp : preB (signsL[k]'hlt) T i
          · have HM := hide ((sign_miss hlt hp).symm.trans HS.out)
            rw [hp] at HP
            have HP2 := hide HP
            clear HP hp HS hix HB2 HC2
            generalize signsL[k]'hlt = U at *
            go_wp2_with (first
              | (go_at_call 15; refine HP2.out.mono ?_; rintro e w' ⟨rfl, hw⟩; have hw := hw.symm; subst hw)
              | fail)
            go_roundw
            case rel => exact ⟨k + 1, by omega, by go_num, HM.out, HB3.out⟩
            case measure => simp [intOf]; omega
          · have HM : Hid (tokV (signAt T i signsL) i = .tuple #[.agg #[.int .i64 3, .string (signsL[k]'hlt), .int .i64 0, .int .i64 i], .int .i64 ((i + (signsL[k]'hlt).size : Nat) : Int)]) := by
              show _ = _
              rw [← HS.out, sign_hit hlt hp]
              rfl
            rw [hp] at HP
            have HP2 := hide HP
            have HRR := HR.out.keep HB3.out
            have HB4 := hide (bel_trans HBW.out HB3.out)
            clear HP hp HS hix HB2 HC2
            generalize signsL[k]'hlt = U at *
            obtain ⟨r0, r1, r2, r3, rf⟩ := HRR
            have f0 := rf 0
            have f1 := rf 1
            have f2 := rf 2
            have f3 := rf 3
            clear rf
            go_wp2_with (first
              | (go_at_call 15; refine HP2.out.mono ?_; rintro e w' ⟨rfl, hw⟩; have hw := hw.symm; subst hw)
              | fail)
            obtain ⟨t0, t1, t2, t3⟩ := set4 r0 r1 r2 r3 (.int .i64 3) (.string U) (.int .i64 0) (.int .i64 i)
            refine bodyPost_ret (v := .tuple #[.agg #[.int .i64 3, .string U, .int .i64 0, .int .i64 i], .int .i64 ((i + U.size : Nat) : Int)]) (by simp [results, Tryd.results17, go_sem, t0, t1, t2, t3]) rfl ⟨by rw [HM.out], below_set4 HB4.out (Nat.le_refl _) _ _ _ _⟩
        · have hk22 : k = 22 := by omega
          subst hk22
          have hlt' : ¬ ((22 : Nat) : Int) < 22 := by omega
          have HM : Hid (tokV (signAt T i signsL) i = .tuple #[.agg #[.int .i64 0, .string ⟨#[]⟩, .int .i64 0, .int .i64 0], .int .i64 (i : Nat)]) := by
            show _ = _
            rw [← HS.out]
            rfl
          have HRR := HR.out.keep HB.out
          have HB4 := hide (bel_trans HBW.out HB.out)
          obtain ⟨r0, r1, r2, r3, rf⟩ := HRR
          have f0 := rf 0
          have f1 := rf 1
          have f2 := rf 2
          have f3 := rf 3
          clear rf hix HS
          go_wp2_with fail
          obtain ⟨t0, t1, t2, t3⟩ := set4 r0 r1 r2 r3 (.int .i64 0) (.string ⟨#[]⟩) (.int .i64 0) (.int .i64 0)
          refine bodyPost_ret (v := .tuple #[.agg #[.int .i64 0, .string ⟨#[]⟩, .int .i64 0, .int .i64 0], .int .i64 i]) (by simp [results, Tryd.results17, go_sem, t0, t1, t2, t3]) rfl ⟨by rw [HM.out], below_set4 HB4.out (Nat.le_refl _) _ _ _ _⟩
    · have HA : Hid (tokAt T i = numberR T i) := by show _ = _; rw [HQ.out, hl, hd]; rfl
      have HN := numberToken_any (w.alloc (.cells #[.int .i64 0, .string ⟨#[]⟩, .int .i64 0, .int .i64 0] 29)) b o T HC.out i cap hi hcap hT hd
      obtain ⟨K, N, P, E, S, hV⟩ := tokV_form (numberR T i) i
      rw [hV] at HN
      have HV := hide hV
      have HN2 := hide HN
      clear hV HN
      go_enter Tryd.func17, Tryd.ntmps17
      rw [HA.out]
      generalize hw1 : w.alloc (.cells #[.int .i64 0, .string ⟨#[]⟩, .int .i64 0, .int .i64 0] 29) = w1 at *
      clear HQ
      generalize bN T i = x0 at *
      go_wp2_with (first
        | (go_at_call 30; refine (beginsName_any _ _).mono ?_; rintro e w' ⟨rfl, hw⟩; have hw := hw.symm; subst hw; rw [hl])
        | (go_at_call 32; refine (isDigit_any _ _).mono ?_; rintro e w' ⟨rfl, hw⟩; have hw := hw.symm; subst hw; rw [hd])
        | (go_at_call 33; refine HN2.out.mono ?_; rintro e w2 ⟨rfl, hb2⟩
           have HRR := HR.out.keep hb2
           have HB2 := hide (bel_trans HBW.out hb2)
           obtain ⟨r0, r1, r2, r3, rf⟩ := HRR
           have f0 := rf 0
           have f1 := rf 1
           have f2 := rf 2
           have f3 := rf 3
           clear rf hb2)
        | fail)
      obtain ⟨t0, t1, t2, t3⟩ := set4 r0 r1 r2 r3 (.int .i64 K) (.string S) (.int .i64 N) (.int .i64 P)
      refine bodyPost_ret (v := .tuple #[.agg #[.int .i64 K, .string S, .int .i64 N, .int .i64 P], .int .i64 E]) (by simp [results, Tryd.results17, go_sem, t0, t1, t2, t3]) rfl ⟨by rw [HV.out], below_set4 HB2.out (Nat.le_refl _) _ _ _ _⟩
  · have HA : Hid (tokAt T i = nameR T i) := by show _ = _; rw [HQ.out, hl]; rfl
    have HN := nameToken_any (w.alloc (.cells #[.int .i64 0, .string ⟨#[]⟩, .int .i64 0, .int .i64 0] 29)) b o T HC.out HT.out i cap hi hcap hT hl
    obtain ⟨K, N, P, E, S, hV⟩ := tokV_form (nameR T i) i
    rw [hV] at HN
    have HV := hide hV
    have HN2 := hide HN
    clear hV HN
    go_enter Tryd.func17, Tryd.ntmps17
    rw [HA.out]
    generalize hw1 : w.alloc (.cells #[.int .i64 0, .string ⟨#[]⟩, .int .i64 0, .int .i64 0] 29) = w1 at *
    clear HQ
    generalize bN T i = x0 at *
    go_wp2_with (first
      | (go_at_call 30; refine (beginsName_any _ _).mono ?_; rintro e w' ⟨rfl, hw⟩; have hw := hw.symm; subst hw; rw [hl])
      | (go_at_call 31; refine HN2.out.mono ?_; rintro e w2 ⟨rfl, hb2⟩
         have HRR := HR.out.keep hb2
         have HB2 := hide (bel_trans HBW.out hb2)
         obtain ⟨r0, r1, r2, r3, rf⟩ := HRR
         have f0 := rf 0
         have f1 := rf 1
         have f2 := rf 2
         have f3 := rf 3
         clear rf hb2)
      | fail)
    obtain ⟨t0, t1, t2, t3⟩ := set4 r0 r1 r2 r3 (.int .i64 K) (.string S) (.int .i64 N) (.int .i64 P)
    refine bodyPost_ret (v := .tuple #[.agg #[.int .i64 K, .string S, .int .i64 N, .int .i64 P], .int .i64 E]) (by simp [results, Tryd.results17, go_sem, t0, t1, t2, t3]) rfl ⟨by rw [HV.out], below_set4 HB2.out (Nat.le_refl _) _ _ _ _⟩
end Go.Proofs.YtmdcdapjjodpiaaDoor
