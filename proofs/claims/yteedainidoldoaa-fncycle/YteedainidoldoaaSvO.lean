/- The heap's down, Push and Pop, walked through the interface's methods. -/
import Derived.Test.YteedainidoldoaaSvN
namespace Go.Proofs.Yteedainidoldoaa
open Go.ChangeShapes Go.WideShapes Go.ChangeAt Go.RowKit

theorem less_at (rb n : Nat) (f : Nat → Rp) (q : Nat → Bool) (i j : Nat) (x y : Int) (w : World) (h : Hq w rb n f q) (hi : i < n) (hj : j < n) (hx : x = i) (hy : y = j) :
    Calls Try.prog 69 #[.pointer (some ⟨rb, 0, none⟩), .int .i64 x, .int .i64 y] w fun e w' => e = .returned (.bool (ltP (f i) (f j))) ∧ Below w.heap.size w w' := by
  subst hx hy
  exact less_any rb n f q i j w h hi hj
theorem swap_at (rb n : Nat) (f : Nat → Rp) (q : Nat → Bool) (i j : Nat) (x y : Int) (w : World) (h : Hq w rb n f q) (hi : i < n) (hj : j < n) (hij : i ≠ j) (hx : x = i) (hy : y = j) :
    Calls Try.prog 72 #[.pointer (some ⟨rb, 0, none⟩), .int .i64 x, .int .i64 y] w fun e w' => (∃ v, e = .returned v) ∧ Hq w' rb n (swF f i j) q ∧ FrH rb w w' := by
  subst hx hy
  exact swap_any rb n f q i j w h hi hj hij
theorem lsK_two {f : Nat → Rp} {n i : Nat} (h : 2 * i + 2 < n) (hl : ltP (f (2 * i + 2)) (f (2 * i + 1)) = true) : lsK f n i = 2 * i + 2 := by unfold lsK; rw [if_pos ⟨h, hl⟩]
theorem lsK_one {f : Nat → Rp} {n i : Nat} (h : ¬ (2 * i + 2 < n ∧ ltP (f (2 * i + 2)) (f (2 * i + 1)) = true)) : lsK f n i = 2 * i + 1 := by unfold lsK; rw [if_neg h]
/-- The lesser one under a place is not less: it is a heap. -/
theorem HpD.stop {n : Nat} {f : Nat → Rp} {i : Nat} (h : HpD n f i) (hl : ltP (f (lsK f n i)) (f i) = false) : HpF n f := h.end (fun _ h0 hk hp => leP_trans (leP_not.1 hl) (lsK_le f h0 hk hp))

set_option maxRecDepth 20000 in
set_option maxHeartbeats 16000000 in
theorem down_any (rb N n : Nat) (f : Nat → Rp) (q : Nat → Bool) (w : World) (h : Hq w rb N f q) (hnN : n ≤ N) (hn : n ≤ 1000) (hu : HpD n f 0) :
    Calls Try.prog 51 #[.iface 78 (.pointer (some ⟨rb, 0, none⟩)), .int .i64 0, .int .i64 n] w fun e w' => (∃ v, e = .returned v) ∧ ∃ f', Hq w' rb N f' q ∧ HpF n f' ∧ Same n f f' ∧ FrH rb w w' := by
  have H0 := hide (And.intro h (And.intro hu (And.intro (Same.refl n f) (FrH.refl h.lt))))
  clear h hu
  go_enter Try.func51, Try.ntmps51
  go_wp2_with fail
  go_loopw [7] (fun r wr => ∃ (k : Nat), k ≤ n ∧ r = .int .i64 k ∧ Hid (∃ f', Hq wr rb N f' q ∧ HpD n f' k ∧ Same n f f' ∧ FrH rb w wr)) (fun r _ => n - (intOf r).toNat)
  case atStart => exact ⟨0, by omega, rfl, ⟨f, H0.out⟩⟩
  case round =>
    obtain ⟨k, hk, rfl, HF⟩ := hrel
    clear H0
    obtain ⟨f', g1, g2, g3, g4⟩ := HF.out
    have G1 := hide g1
    have G2 := hide g2
    have G3 := hide g3
    have G4 := hide g4
    clear HF g1 g2 g3 g4
    by_cases hk0 : n ≤ 2 * k + 1
    · have HE := hide (G2.out.end (fun k' h0 hk' hp => by omega))
      have hk1 : (n : Int) ≤ 2 * (k : Int) + 1 := by omega
      clear G2
      go_wp2_with fail
      go_ret
      exact ⟨⟨_, rfl⟩, f', G1.out, HE.out, G3.out, G4.out⟩
    · have hk1 : ¬ (n : Int) ≤ 2 * (k : Int) + 1 := by omega
      have hk3 : ¬ 2 * (k : Int) + 1 < 0 := by omega
      have HL := hide (fun W (i j : Nat) (x y : Int) (h : Hq W rb N f' q) hi hj hx hy => less_at rb N f' q i j x y W h hi hj hx hy)
      have HW := hide (fun W (i j : Nat) (x y : Int) (h : Hq W rb N f' q) hi hj hij hx hy => swap_at rb N f' q i j x y W h hi hj hij hx hy)
      by_cases h2 : 2 * k + 2 < n
      · have h2' : 2 * (k : Int) + 1 + 1 < n := by omega
        cases hl1 : ltP (f' (2 * k + 2)) (f' (2 * k + 1)) with
        | true =>
          have HJ := hide (lsK_two h2 hl1)
          have HS : Hid (leP (f' (2 * k + 2)) (f' k) → HpD n (swF f' k (2 * k + 2)) (2 * k + 2)) := fun hl => by
            have h := G2.out.step (by omega) (by rw [HJ.out]; exact hl)
            rw [HJ.out] at h
            exact h
          have HE : Hid (ltP (f' (2 * k + 2)) (f' k) = false → HpF n f') := fun hl => G2.out.stop (by rw [HJ.out]; exact hl)
          clear G2 HJ
          cases hl2 : ltP (f' (2 * k + 2)) (f' k) with
          | false =>
            have HE2 := hide (HE.out hl2)
            clear HE HS HW
            go_wp2_with (first
              | (go_at_call 69; refine (HL.out _ (2 * k + 2) (2 * k + 1) _ _ G1.out (by omega) (by omega) (by omega) (by omega)).mono ?_; rintro e w1 ⟨rfl, hb1⟩; rw [hl1]; have G5 := hide (G1.out.keep hb1))
              | (go_at_call 69; refine (HL.out _ (2 * k + 2) k _ _ G5.out (by omega) (by omega) (by omega) (by omega)).mono ?_; rintro e w2 ⟨rfl, hb2⟩; rw [hl2])
              | fail)
            go_ret
            exact ⟨⟨_, rfl⟩, f', G5.out.keep hb2, HE2.out, G3.out, (G4.out.trans (.keep hb1 G1.out.lt)).trans (.keep hb2 G5.out.lt)⟩
          | true =>
            have HS2 := hide (HS.out (leP_of hl2))
            have HG3 := hide (G3.out.sw (i := k) (j := 2 * k + 2) (by omega) (by omega))
            clear HE HS
            go_wp2_with (first
              | (go_at_call 69; refine (HL.out _ (2 * k + 2) (2 * k + 1) _ _ G1.out (by omega) (by omega) (by omega) (by omega)).mono ?_; rintro e w1 ⟨rfl, hb1⟩; rw [hl1]; have G5 := hide (G1.out.keep hb1))
              | (go_at_call 69; refine (HL.out _ (2 * k + 2) k _ _ G5.out (by omega) (by omega) (by omega) (by omega)).mono ?_; rintro e w2 ⟨rfl, hb2⟩; rw [hl2]; have G6 := hide (G5.out.keep hb2))
              | (go_at_call 72; refine (HW.out _ k (2 * k + 2) _ _ G6.out (by omega) (by omega) (by omega) (by omega) (by omega)).mono ?_; rintro e w3 ⟨⟨v3, rfl⟩, hq3, hf3⟩; have Q3 := hide hq3; have F3 := hide hf3; clear hq3 hf3)
              | fail)
            go_roundw
            case rel => exact ⟨2 * k + 2, by omega, by go_num, ⟨_, Q3.out, HS2.out, HG3.out, ((G4.out.trans (.keep hb1 G1.out.lt)).trans (.keep hb2 G5.out.lt)).trans F3.out⟩⟩
            case measure => simp [intOf]; omega
        | false =>
          have HJ : Hid (lsK f' n k = 2 * k + 1) := lsK_one (fun h => by rw [hl1] at h; cases h.2)
          have HS : Hid (leP (f' (2 * k + 1)) (f' k) → HpD n (swF f' k (2 * k + 1)) (2 * k + 1)) := fun hl => by
            have h := G2.out.step (by omega) (by rw [HJ.out]; exact hl)
            rw [HJ.out] at h
            exact h
          have HE : Hid (ltP (f' (2 * k + 1)) (f' k) = false → HpF n f') := fun hl => G2.out.stop (by rw [HJ.out]; exact hl)
          clear G2 HJ
          cases hl2 : ltP (f' (2 * k + 1)) (f' k) with
          | false =>
            have HE2 := hide (HE.out hl2)
            clear HE HS HW
            go_wp2_with (first
              | (go_at_call 69; refine (HL.out _ (2 * k + 2) (2 * k + 1) _ _ G1.out (by omega) (by omega) (by omega) (by omega)).mono ?_; rintro e w1 ⟨rfl, hb1⟩; rw [hl1]; have G5 := hide (G1.out.keep hb1))
              | (go_at_call 69; refine (HL.out _ (2 * k + 1) k _ _ G5.out (by omega) (by omega) (by omega) (by omega)).mono ?_; rintro e w2 ⟨rfl, hb2⟩; rw [hl2])
              | fail)
            go_ret
            exact ⟨⟨_, rfl⟩, f', G5.out.keep hb2, HE2.out, G3.out, (G4.out.trans (.keep hb1 G1.out.lt)).trans (.keep hb2 G5.out.lt)⟩
          | true =>
            have HS2 := hide (HS.out (leP_of hl2))
            have HG3 := hide (G3.out.sw (i := k) (j := 2 * k + 1) (by omega) (by omega))
            clear HE HS
            go_wp2_with (first
              | (go_at_call 69; refine (HL.out _ (2 * k + 2) (2 * k + 1) _ _ G1.out (by omega) (by omega) (by omega) (by omega)).mono ?_; rintro e w1 ⟨rfl, hb1⟩; rw [hl1]; have G5 := hide (G1.out.keep hb1))
              | (go_at_call 69; refine (HL.out _ (2 * k + 1) k _ _ G5.out (by omega) (by omega) (by omega) (by omega)).mono ?_; rintro e w2 ⟨rfl, hb2⟩; rw [hl2]; have G6 := hide (G5.out.keep hb2))
              | (go_at_call 72; refine (HW.out _ k (2 * k + 1) _ _ G6.out (by omega) (by omega) (by omega) (by omega) (by omega)).mono ?_; rintro e w3 ⟨⟨v3, rfl⟩, hq3, hf3⟩; have Q3 := hide hq3; have F3 := hide hf3; clear hq3 hf3)
              | fail)
            go_roundw
            case rel => exact ⟨2 * k + 1, by omega, by go_num, ⟨_, Q3.out, HS2.out, HG3.out, ((G4.out.trans (.keep hb1 G1.out.lt)).trans (.keep hb2 G5.out.lt)).trans F3.out⟩⟩
            case measure => simp [intOf]; omega
      · have h2' : ¬ 2 * (k : Int) + 1 + 1 < n := by omega
        have HJ : Hid (lsK f' n k = 2 * k + 1) := lsK_one (fun h => h2 h.1)
        have HS : Hid (leP (f' (2 * k + 1)) (f' k) → HpD n (swF f' k (2 * k + 1)) (2 * k + 1)) := fun hl => by
          have h := G2.out.step (by omega) (by rw [HJ.out]; exact hl)
          rw [HJ.out] at h
          exact h
        have HE : Hid (ltP (f' (2 * k + 1)) (f' k) = false → HpF n f') := fun hl => G2.out.stop (by rw [HJ.out]; exact hl)
        clear G2 HJ
        cases hl2 : ltP (f' (2 * k + 1)) (f' k) with
        | false =>
          have HE2 := hide (HE.out hl2)
          clear HE HS HW
          go_wp2_with (first
            | (go_at_call 69; refine (HL.out _ (2 * k + 1) k _ _ G1.out (by omega) (by omega) (by omega) (by omega)).mono ?_; rintro e w2 ⟨rfl, hb2⟩; rw [hl2])
            | fail)
          go_ret
          exact ⟨⟨_, rfl⟩, f', G1.out.keep hb2, HE2.out, G3.out, G4.out.trans (.keep hb2 G1.out.lt)⟩
        | true =>
          have HS2 := hide (HS.out (leP_of hl2))
          have HG3 := hide (G3.out.sw (i := k) (j := 2 * k + 1) (by omega) (by omega))
          clear HE HS
          go_wp2_with (first
            | (go_at_call 69; refine (HL.out _ (2 * k + 1) k _ _ G1.out (by omega) (by omega) (by omega) (by omega)).mono ?_; rintro e w2 ⟨rfl, hb2⟩; rw [hl2]; have G6 := hide (G1.out.keep hb2))
            | (go_at_call 72; refine (HW.out _ k (2 * k + 1) _ _ G6.out (by omega) (by omega) (by omega) (by omega) (by omega)).mono ?_; rintro e w3 ⟨⟨v3, rfl⟩, hq3, hf3⟩; have Q3 := hide hq3; have F3 := hide hf3; clear hq3 hf3)
            | fail)
          go_roundw
          case rel => exact ⟨2 * k + 1, by omega, by go_num, ⟨_, Q3.out, HS2.out, HG3.out, (G4.out.trans (.keep hb2 G1.out.lt)).trans F3.out⟩⟩
          case measure => simp [intOf]; omega

set_option maxRecDepth 20000 in
set_option maxHeartbeats 8000000 in
theorem heapPush_any (rb n : Nat) (f : Nat → Rp) (q : Nat → Bool) (p1 p2 : Int) (w : World) (h : Hq w rb n f q) (hn : n < 1000) (hu : HpF n f) :
    Calls Try.prog 46 #[.iface 78 (.pointer (some ⟨rb, 0, none⟩)), .iface 65 (.agg #[.int .i64 p1, .int .i64 p2])] w fun e w' => (∃ v, e = .returned v) ∧ ∃ f', Hq w' rb (n + 1) f' q ∧ HpF (n + 1) f' ∧ Same (n + 1) (snF f n (p1, p2)) f' ∧ FrH rb w w' := by
  have HH := hide h
  have HU := hide (hpU_snoc hu (p1, p2))
  clear h hu
  have hw1 : ((n + 1 : Nat) : Int) - 1 = (n : Int) := by omega
  go_enter Try.func46, Try.ntmps46
  go_wp2_with (first
    | (go_at_call 71; refine (pushM_any rb n f q p1 p2 _ HH.out (by omega)).mono ?_; rintro e w1 ⟨⟨v1, rfl⟩, hq1, hf1⟩; have Q1 := hide hq1; have F1 := hide hf1; clear hq1 hf1)
    | (go_at_call 37; refine (len_any rb (n + 1) _ q _ Q1.out).mono ?_; rintro e w2 ⟨rfl, rfl⟩)
    | (go_at_call 50; refine (up_any rb (n + 1) n _ q _ Q1.out (by omega) (by omega) HU.out).mono ?_; rintro e w3 ⟨⟨v3, rfl⟩, f3, q3, u3, s3, r3⟩; have Z := hide (And.intro q3 (And.intro u3 (And.intro s3 r3))); clear q3 u3 s3 r3)
    | fail)
  exact bodyPost_end (results_none Try.results46 _ _ _) rfl ⟨⟨_, rfl⟩, f3, Z.out.1, Z.out.2.1, Z.out.2.2.1, F1.out.trans Z.out.2.2.2⟩

set_option maxRecDepth 20000 in
set_option maxHeartbeats 8000000 in
theorem heapPop_any (rb n : Nat) (f : Nat → Rp) (q : Nat → Bool) (w : World) (h : Hq w rb (n + 1) f q) (hn : n < 1000) (hu : HpF (n + 1) f) :
    Calls Try.prog 47 #[.iface 78 (.pointer (some ⟨rb, 0, none⟩))] w fun e w' => (∃ v, e = .returned v) ∧ ∃ f', Hq w' rb n f' q ∧ HpF n f' ∧ Same n (swF f 0 n) f' ∧ FrH rb w w' := by
  have HH := hide h
  have HU := hide (hpD_pop hu)
  clear h hu
  have hw1 : ((n + 1 : Nat) : Int) - 1 = (n : Int) := by omega
  by_cases h0 : n = 0
  · subst h0
    have Q0 : Hid (∀ W, Hq W rb 1 f q → Calls Try.prog 72 #[.pointer (some ⟨rb, 0, none⟩), .int .i64 0, .int .i64 0] W fun e w' => (∃ v, e = .returned v) ∧ Hq w' rb 1 (swF f 0 0) q ∧ FrH rb W w') := fun W hW => swap_same rb 1 f q 0 W hW (by omega)
    go_enter Try.func47, Try.ntmps47
    go_wp2_with (first
      | (go_at_call 37; refine (len_any rb (0 + 1) _ q _ HH.out).mono ?_; rintro e w0 ⟨rfl, rfl⟩)
      | (go_at_call 72; refine (Q0.out _ HH.out).mono ?_; rintro e w1 ⟨⟨v1, rfl⟩, hq1, hf1⟩; have Q1 := hide hq1; have F1 := hide hf1; clear hq1 hf1)
      | (go_at_call 51; refine (down_any rb 1 0 _ q _ Q1.out (by omega) (by omega) HU.out).mono ?_; rintro e w3 ⟨⟨v3, rfl⟩, f3, q3, u3, s3, r3⟩; have Q3 := hide q3; have Z := hide (And.intro u3 (And.intro s3 r3)); clear q3 u3 s3 r3)
      | (go_at_call 70; refine (popM_any rb 0 _ q _ Q3.out).mono ?_; rintro e w4 ⟨⟨v4, rfl⟩, hq4, hf4⟩; have Q4 := hide hq4; have F4 := hide hf4; clear hq4 hf4)
      | fail)
    go_ret
    exact ⟨⟨_, rfl⟩, f3, Q4.out, Z.out.1, Z.out.2.1, (F1.out.trans Z.out.2.2).trans F4.out⟩
  · have Q0 : Hid (∀ W, Hq W rb (n + 1) f q → Calls Try.prog 72 #[.pointer (some ⟨rb, 0, none⟩), .int .i64 0, .int .i64 n] W fun e w' => (∃ v, e = .returned v) ∧ Hq w' rb (n + 1) (swF f 0 n) q ∧ FrH rb W w') := fun W hW => swap_at rb (n + 1) f q 0 n 0 n W hW (by omega) (by omega) (by omega) rfl rfl
    clear h0
    go_enter Try.func47, Try.ntmps47
    go_wp2_with (first
      | (go_at_call 37; refine (len_any rb (n + 1) _ q _ HH.out).mono ?_; rintro e w0 ⟨rfl, rfl⟩)
      | (go_at_call 72; refine (Q0.out _ HH.out).mono ?_; rintro e w1 ⟨⟨v1, rfl⟩, hq1, hf1⟩; have Q1 := hide hq1; have F1 := hide hf1; clear hq1 hf1)
      | (go_at_call 51; refine (down_any rb (n + 1) n _ q _ Q1.out (by omega) (by omega) HU.out).mono ?_; rintro e w3 ⟨⟨v3, rfl⟩, f3, q3, u3, s3, r3⟩; have Q3 := hide q3; have Z := hide (And.intro u3 (And.intro s3 r3)); clear q3 u3 s3 r3)
      | (go_at_call 70; refine (popM_any rb n _ q _ Q3.out).mono ?_; rintro e w4 ⟨⟨v4, rfl⟩, hq4, hf4⟩; have Q4 := hide hq4; have F4 := hide hf4; clear hq4 hf4)
      | fail)
    go_ret
    exact ⟨⟨_, rfl⟩, f3, Q4.out, Z.out.1, Z.out.2.1, (F1.out.trans Z.out.2.2).trans F4.out⟩
end Go.Proofs.Yteedainidoldoaa
