/- What the specification's reader of a token answers at a number, a sign, and at any place. -/
import Derived.Test.YtmdcdapjjodpiaaDoorSps
namespace Go.Proofs.YtmdcdapjjodpiaaDoor
open Go.ChangeShapes Go.WideShapes Go.ChangeAt Go.RowKit

set_option maxRecDepth 20000 in
set_option maxHeartbeats 8000000 in
theorem spNumber_any (T : ByteArray) (i : Nat) (w : World) (hi : i < T.size) (hT : T.size ≤ 20000) (hl0 : letB (bN T i) = false) (hl : digB (bN T i) = true) :
    Calls Tryd.prog 13 #[.string T, .int .i64 (i : Int)] w fun e w' => SpOut (numberR T i) w e w' := by
  have hg := stop_gt (p := numP T) (len := T.size) hi (by simp [numP, goes_dig hl])
  obtain ⟨S, hS⟩ : ∃ S, S = stopAt (numP T) T.size i := ⟨_, rfl⟩
  rw [← hS] at hg
  have HN0 := hide (show numberR T i = if okNum (T.extract i S) then some (⟨2, noB, numU (T.extract i S).data.toList, i⟩, S) else none by rw [hS]; rfl)
  have HS0 := hide hS.symm
  obtain ⟨g1, g2⟩ := hg
  have HBW : Hid (Below w.heap.size w (w.alloc (.cells #[.int .i64 0, .string ⟨#[]⟩, .int .i64 0, .int .i64 0] 29))) := bel_alloc (Below.refl _ _) _
  obtain ⟨r0, r1, r2, r3, rf⟩ := ResAt.new w
  have f0 := rf 0
  have f1 := rf 1
  have f2 := rf 2
  have f3 := rf 3
  rw [bN_eq T i hi] at hl hl0
  have hi' : (i : Int) < T.size := by omega
  clear hS rf
  go_enter Tryd.func13, Tryd.ntmps13
  generalize hw1 : w.alloc (.cells #[.int .i64 0, .string ⟨#[]⟩, .int .i64 0, .int .i64 0] 29) = w1 at *
  go_wp2_with (first
    | (go_at_call 20; refine (l1Letter_any _ _).mono ?_; rintro e w' ⟨rfl, hw⟩; have hw := hw.symm; subst hw; rw [hl0])
    | (go_at_call 25; refine (l1Digit_any _ _).mono ?_; rintro e w' ⟨rfl, hw⟩; have hw := hw.symm; subst hw; rw [hl])
    | fail)
  go_loop [6] (fun v => ∃ k : Nat, k ≤ T.size ∧ v = .int .i64 k ∧ Hid (stopAt (numP T) T.size k = S)) (fun v => T.size - (intOf v).toNat)
  case atStart => exact ⟨i, by omega, rfl, HS0.out⟩
  case round =>
    obtain ⟨k, hk, rfl, HS⟩ := hrel
    obtain ⟨q, hq⟩ : ∃ q, q = (decide (k < T.size) && numP T k) := ⟨_, rfl⟩
    have HQ := hide hq
    clear hq
    go_upto_region 12 with fail
    go_cut [79] from 70 to 81 (fun u wx => u = .bool q ∧ wx = w1)
    case first =>
      by_cases hlt : k < T.size
      · have hlt' : (k : Int) < T.size := by omega
        have e0 := bN_eq T k hlt
        have hqe := HQ.out
        unfold numP at hqe
        rw [e0] at hqe
        have HQ2 : Hid (q = goesB (T[k].toNat : Int)) := by show _ = _; rw [hqe]; simp [hlt]
        clear hqe e0
        go_wp2_with (first
          | (go_at_call 21; refine (l14In_any _ _).mono ?_; rintro e w' ⟨rfl, hw⟩; have hw := hw.symm; subst hw)
          | fail)
        go_meet
        exact ⟨by rw [HQ2.out], rfl⟩
      · have hlt' : ¬ (k : Int) < T.size := by omega
        have HQ2 : Hid (q = false) := by show _ = _; rw [HQ.out]; simp [hlt]
        go_wp2_with fail
        go_meet
        exact ⟨by rw [HQ2.out], rfl⟩
    case rest =>
      obtain ⟨rfl, hwc⟩ := hcut
      have hwc := hwc.symm
      subst hwc
      cases q
      · have hkS : k = S := by
          have hst := HS.out
          have hqq := HQ.out
          by_cases hlt : k < T.size
          · rw [stop_not (by simpa [hlt] using hqq)] at hst; exact hst
          · rw [stop_end (by omega)] at hst; exact hst
        subst hkS
        have hs20 : (T.extract i k).size ≤ 100000 := by rw [ext_size _ _ _ (by omega) g2]; omega
        have hki : (i : Int) ≤ k := by omega
        have hkT : (k : Int) ≤ T.size := by omega
        obtain ⟨s, hs⟩ : ∃ s, s = T.extract i k := ⟨_, rfl⟩
        have HZ : ∀ q : Bool, okNum s = q → Hid (numberR T i = if q then some (⟨2, noB, numU s.data.toList, i⟩, k) else none) := by
          intro q h1
          show _ = _
          rw [HN0.out, ← hs, h1]
        have HD := l1Number_any s w1 (by rw [hs]; exact hs20)
        rw [hs] at HD
        cases hok : okNum s
        · have HE := HZ false hok
          rw [numR_no (by rw [← hs]; exact hok)] at HD
          have HD2 := hide HD
          clear HZ HD hs hok
          go_wp2_with (first
            | (go_at_call 26; refine HD2.out.mono ?_; rintro e w' ⟨rfl, hw⟩; have hw := hw.symm; subst hw)
            | fail)
          obtain ⟨x0, x1, x2, x3⟩ := set4 r0 r1 r2 r3 (.int .i64 2) (.string ⟨#[]⟩) (.int .i64 0) (.int .i64 i)
          refine bodyPost_ret (v := .tuple #[.agg #[.int .i64 2, .string ⟨#[]⟩, .int .i64 0, .int .i64 i], .int .i64 0]) (by simp [results, Tryd.results13, go_sem, x0, x1, x2, x3]) rfl ⟨⟨_, _, _, _, _, rfl, by rw [HE.out]; rfl⟩, below_set4 HBW.out (Nat.le_refl _) _ _ _ _⟩
        · have HE := HZ true hok
          rw [numR_yes (by rw [← hs]; exact hok), ← hs] at HD
          have HD2 := hide HD
          have HSE := hide hs.symm
          clear HZ HD hs hok
          obtain ⟨m, hm⟩ : ∃ m, m = numU s.data.toList := ⟨_, rfl⟩
          rw [← hm] at HD2 HE
          clear hm
          go_wp2_with (first
            | (go_at_call 26; rw [HSE.out]; refine HD2.out.mono ?_; rintro e w' ⟨rfl, hw⟩; have hw := hw.symm; subst hw)
            | fail)
          obtain ⟨x0, x1, x2, x3⟩ := set4 r0 r1 r2 r3 (.int .i64 2) (.string ⟨#[]⟩) (.int .i64 m) (.int .i64 i)
          refine bodyPost_ret (v := .tuple #[.agg #[.int .i64 2, .string ⟨#[]⟩, .int .i64 m, .int .i64 i], .int .i64 k]) (by simp [results, Tryd.results13, go_sem, x0, x1, x2, x3]) rfl ⟨⟨_, _, _, _, _, rfl, by rw [HE.out]; exact ⟨rfl, rfl, rfl, rfl, rfl⟩⟩, below_set4 HBW.out (Nat.le_refl _) _ _ _ _⟩
      · have hqq := HQ.out
        have hlt : k < T.size := by
          by_cases h : k < T.size
          · exact h
          · simp [h] at hqq
        have hp : numP T k = true := by simpa [hlt] using hqq.symm
        have hst := HS.out
        rw [stop_step hlt hp] at hst
        have HR2 := hide hst
        clear hst hqq hp
        go_wp2_with fail
        go_round
        case rel => exact ⟨k + 1, by omega, by go_num, HR2⟩
        case measure => simp [intOf]; omega
set_option maxRecDepth 20000 in
set_option maxHeartbeats 8000000 in
theorem spSign_any (T : ByteArray) (i : Nat) (w : World) (hi : i < T.size) (hT : T.size ≤ 20000) (hl0 : letB (bN T i) = false) (hl : digB (bN T i) = false) :
    Calls Tryd.prog 13 #[.string T, .int .i64 (i : Int)] w fun e w' => SpOut (signR T i) w e w' := by
  have HBW : Hid (Below w.heap.size w (w.alloc (.cells #[.int .i64 0, .string ⟨#[]⟩, .int .i64 0, .int .i64 0] 29))) := bel_alloc (Below.refl _ _) _
  have HR := hide (ResAt.new w)
  rw [bN_eq T i hi] at hl hl0
  have hi' : (i : Int) < T.size := by omega
  go_enter Tryd.func13, Tryd.ntmps13
  generalize hw1 : w.alloc (.cells #[.int .i64 0, .string ⟨#[]⟩, .int .i64 0, .int .i64 0] 29) = w1 at *
  go_wp2_with (first
    | (go_at_call 20; refine (l1Letter_any _ _).mono ?_; rintro e w' ⟨rfl, hw⟩; have hw := hw.symm; subst hw; rw [hl0])
    | (go_at_call 25; refine (l1Digit_any _ _).mono ?_; rintro e w' ⟨rfl, hw⟩; have hw := hw.symm; subst hw; rw [hl])
    | (go_at_call 27; refine (l14Signs_any _).mono ?_; rintro e w' ⟨rfl, hw⟩; have hw := hw.symm; subst hw)
    | fail)
  have HSG := hide (StrsAt.signs w1)
  have HB1 : Hid (Below w1.heap.size w1 (w1.alloc signsC)) := bel_alloc (Below.refl _ _) _
  generalize hw2 : w1.alloc signsC = w2 at *
  have lw2 : w1.heap.size < w2.heap.size := by rw [← hw2]; simp
  have lw1 : w.heap.size < w1.heap.size := by rw [← hw1]; simp
  clear hw2 hw1
  go_loopw [11] (fun v wr => ∃ k : Nat, k ≤ 22 ∧ v = .int .i64 k ∧ Hid (signAt T i (signsL.drop k) = signR T i) ∧ Hid (Below w2.heap.size w2 wr)) (fun v _ => 22 - (intOf v).toNat)
  case atStart => exact ⟨0, by omega, rfl, rfl, Below.refl _ _⟩
  case round =>
    obtain ⟨k, hk, rfl, HS, HB⟩ := hrel
    by_cases hlt : k < 22
    · have hlt' : (k : Int) < 22 := by omega
      obtain ⟨hz0, hz2⟩ := signs_sz (signsL[k]'hlt) (List.getElem_mem _)
      have hcell : wr.cell? ⟨w1.heap.size, k, none⟩ = some (.string (signsL[k]'hlt)) := by
        obtain ⟨a, cap, hv, h1, h2, h3⟩ := HSG.out.keep HB.out
        obtain ⟨b, off, ha, hc⟩ := h3 (by decide)
        have := hc k hlt
        simp only [Value.slice.injEq] at hv
        obtain ⟨hv, _, _⟩ := hv
        rw [ha] at hv
        simp only [Option.some.injEq, Addr.mk.injEq] at hv
        obtain ⟨rfl, rfl, _⟩ := hv
        rw [Nat.zero_add] at this
        exact this
      have HB3 := hide (HB1.out.trans (HB.out.mono (Nat.le_of_lt lw2)))
      have HRR := HR.out.tk.low HB3.out lw1
      have HP := fun W => starts_any W T (signsL[k]'hlt) i (by omega) (by omega)
      cases hp : preB (signsL[k]'hlt) T i
      · have HM := hide ((sign_miss hlt hp).symm.trans HS.out)
        rw [hp] at HP
        have HP2 := hide HP
        clear HP hp HS HRR
        generalize signsL[k]'hlt = U at *
        go_wp2_with fail
        go_quiet (first | (go_at_call 12; refine Calls.quiet_of_same (HP2.out _)) | fail)
        go_wp2_with fail
        go_roundw
        case rel => exact ⟨k + 1, by omega, by go_num, HM.out, below_drewN HB.out _⟩
        case measure => simp [intOf]; omega
      · have HM : Hid (signR T i = some (⟨3, signsL[k]'hlt, 0, i⟩, i + (signsL[k]'hlt).size)) := (sign_hit hlt hp).symm.trans HS.out |>.symm
        rw [hp] at HP
        have HP2 := hide HP
        have HB5 := hide (bel_trans HBW.out HB3.out)
        obtain ⟨r0, r1, r2, r3, rf⟩ := HRR
        have f0 := rf 0
        have f1 := rf 1
        have f2 := rf 2
        have f3 := rf 3
        clear HP hp HS rf
        generalize signsL[k]'hlt = U at *
        have hne : ¬ w1.heap.size = w.heap.size := by omega
        have hne2 : ¬ w.heap.size = w1.heap.size := by omega
        go_wp2_with fail
        go_quiet (first | (go_at_call 12; refine Calls.quiet_of_same (HP2.out _)) | fail)
        go_wp2_with fail
        go_region_with fail
        all_goals
          go_wp2_with fail
          have y0 : (wr.drewN (nq + 1)).cell? ⟨w.heap.size, 0, none⟩ = some (.int .i64 0) := by simpa using r0
          have y1 : (wr.drewN (nq + 1)).cell? ⟨w.heap.size, 1, none⟩ = some (.string ⟨#[]⟩) := by simpa using r1
          have y2 : (wr.drewN (nq + 1)).cell? ⟨w.heap.size, 2, none⟩ = some (.int .i64 0) := by simpa using r2
          have y3 : (wr.drewN (nq + 1)).cell? ⟨w.heap.size, 3, none⟩ = some (.int .i64 0) := by simpa using r3
          have hbz := below_drewN HB5.out (nq + 1)
          generalize wr.drewN (nq + 1) = wz at *
          have hwr : IntKind.i64.wrap ((i : Int) + (U.size : Int)) = (i : Int) + (U.size : Int) := by rw [IntKind.wrap_i64]; omega
          obtain ⟨x0, x1, x2, x3⟩ := set4 y0 y1 y2 y3 (.int .i64 3) (.string U) (.int .i64 0) (.int .i64 i)
          refine bodyPost_ret (v := .tuple #[.agg #[.int .i64 3, .string U, .int .i64 0, .int .i64 i], .int .i64 ((i + U.size : Nat) : Int)]) (by simp [results, Tryd.results13, go_sem, x0, x1, x2, x3, hwr]) rfl ⟨⟨_, _, _, _, _, rfl, by rw [HM.out]; exact ⟨rfl, rfl, rfl, rfl, rfl⟩⟩, below_set4 hbz (Nat.le_refl _) _ _ _ _⟩
    · have hk22 : k = 22 := by omega
      subst hk22
      have hlt' : ¬ ((22 : Nat) : Int) < 22 := by omega
      have HM : Hid (signR T i = none) := by show _ = _; rw [← HS.out]; rfl
      have HB3 := hide (HB1.out.trans (HB.out.mono (Nat.le_of_lt lw2)))
      have HB5 := hide (bel_trans HBW.out HB3.out)
      obtain ⟨r0, r1, r2, r3, rf⟩ := HR.out.tk.low HB3.out lw1
      have f0 := rf 0
      have f1 := rf 1
      have f2 := rf 2
      have f3 := rf 3
      clear rf HS
      go_wp2_with fail
      obtain ⟨x0, x1, x2, x3⟩ := set4 r0 r1 r2 r3 (.int .i64 0) (.string ⟨#[]⟩) (.int .i64 0) (.int .i64 0)
      refine bodyPost_ret (v := .tuple #[.agg #[.int .i64 0, .string ⟨#[]⟩, .int .i64 0, .int .i64 0], .int .i64 0]) (by simp [results, Tryd.results13, go_sem, x0, x1, x2, x3]) rfl ⟨⟨_, _, _, _, _, rfl, by rw [HM.out]; rfl⟩, below_set4 HB5.out (Nat.le_refl _) _ _ _ _⟩
theorem spToken_any (T : ByteArray) (i : Nat) (w : World) (hi : i < T.size) (hT : T.size ≤ 20000) :
    Calls Tryd.prog 13 #[.string T, .int .i64 (i : Int)] w fun e w' => SpOut (tokAt T i) w e w' := by
  rw [tokAt_eq]
  cases hl : letB (bN T i)
  · cases hd : digB (bN T i)
    · exact spSign_any T i w hi hT hl hd
    · exact spNumber_any T i w hi hT hl hd
  · exact spName_any T i w hi hT hl
end Go.Proofs.YtmdcdapjjodpiaaDoor
