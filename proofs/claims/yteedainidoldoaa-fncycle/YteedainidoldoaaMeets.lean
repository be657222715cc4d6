/- What the specification's Meets answers: a plain test of the values and the constraints. -/
import Derived.Test.YteedainidoldoaaOkImpl
import Derived.Test.YteedainidoldoaaOpen
import Derived.BigQuiet
namespace Go.Proofs.Yteedainidoldoaa
open Go.ChangeShapes Go.WideShapes Go.ChangeAt Go.RowKit

/-- The number of a side: 0 for -1. -/
def valOf (ks : List Int) (s : Int) : Int := if s < 0 then 0 else ks.getD s.toNat 0
def metB (ks : List Int) (c : Cn) : Bool := decide (valOf ks c.a + c.n ≤ valOf ks c.b)
def meetsB (ks : List Int) (cs : List Cn) : Bool := consB ks.length cs && ks.all (fun k => decide (0 ≤ k)) && cs.all (metB ks)

theorem meetsB_cons {ks : List Int} {cs : List Cn} (h : consB ks.length cs = false) : meetsB ks cs = false := by simp [meetsB, h]
theorem meetsB_neg {ks : List Int} {cs : List Cn} (k : Nat) (hk : k < ks.length) (h : ks[k] < 0) : meetsB ks cs = false := by
  unfold meetsB
  rw [Bool.and_eq_false_iff]; left
  rw [Bool.and_eq_false_iff]; right
  rw [List.all_eq_false]
  exact ⟨ks[k], by simp, by simp; omega⟩
theorem meetsB_met {ks : List Int} {cs : List Cn} (k : Nat) (hk : k < cs.length) (h : metB ks cs[k] = false) : meetsB ks cs = false := by
  unfold meetsB
  rw [Bool.and_eq_false_iff]; right
  rw [List.all_eq_false]
  exact ⟨cs[k], by simp, by simp [h]⟩
theorem meetsB_all {ks : List Int} {cs : List Cn} (h : consB ks.length cs = true) (h1 : ∀ j (h : j < ks.length), 0 ≤ ks[j]) (h2 : ∀ j (h : j < cs.length), metB ks cs[j] = true) : meetsB ks cs = true := by
  unfold meetsB
  rw [h, Bool.true_and, Bool.and_eq_true, List.all_eq_true, List.all_eq_true]
  refine ⟨fun x hx => ?_, fun x hx => ?_⟩
  · obtain ⟨j, hj, rfl⟩ := List.getElem_of_mem hx
    simpa using h1 j hj
  · obtain ⟨j, hj, rfl⟩ := List.getElem_of_mem hx
    exact h2 j hj
theorem valOf_range {ks : List Int} {s : Int} (hf : Fits ks) (h1 : ∀ j (h : j < ks.length), 0 ≤ ks[j]) (h : s < ks.length) : 0 ≤ valOf ks s ∧ valOf ks s ≤ 9223372036854775807 := by
  unfold valOf
  by_cases h0 : s < 0
  · rw [if_pos h0]; omega
  · rw [if_neg h0]
    have hl : s.toNat < ks.length := by omega
    rw [List.getD_eq_getElem?_getD, List.getElem?_eq_getElem hl, Option.getD_some]
    exact ⟨h1 _ hl, (hf _ (by simp)).2⟩

set_option maxHeartbeats 1000000 in
theorem l2Value_any (v : Value) (ks : List Int) (s : Int) (w : World) (hk : IntsAt w v ks) (h : s < ks.length) :
    Calls Try.prog 21 #[v, .int .i64 s] w fun e w' => e = .returned (.int .i64 (valOf ks s)) ∧ w' = w := by
  obtain ⟨a, cap, rfl, hlc, hcm, hc⟩ := hk
  unfold maxLen at hcm
  by_cases h0 : s < 0
  · have HV : Hid (valOf ks s = 0) := by show _ = _; rw [valOf, if_pos h0]
    go_enter Try.func21, Try.ntmps21
    go_wp2_with fail
    go_ret
    exact ⟨ret_int HV.out.symm, rfl⟩
  · obtain ⟨j, rfl⟩ : ∃ j : Nat, s = j := ⟨s.toNat, by omega⟩
    have hj : j < ks.length := by omega
    have HV : Hid (valOf ks j = ks[j]) := by show _ = _; rw [valOf, if_neg h0]; simp [List.getD_eq_getElem?_getD, hj]
    obtain ⟨b, off, rfl, hcc⟩ := hc (by omega)
    have c1 := hcc j hj
    clear hcc
    generalize ks[j] = q at *
    go_enter Try.func21, Try.ntmps21
    go_wp2_with fail
    go_ret
    exact ⟨ret_int HV.out.symm, rfl⟩

set_option maxHeartbeats 2000000 in
theorem specMeets_any (v1 v2 : Value) (ks : List Int) (cs : List Cn) (w : World) (hk : IntsAt w v1 ks) (hn : ConsAt w v2 cs) (hf : Fits ks) :
    Calls Try.prog 17 #[v1, v2] w fun e w' => e = .returned (.bool (meetsB ks cs)) ∧ Below w.heap.size w w' := by
  have HK := hide hk
  have HN := hide hn
  have HF := hide hf
  obtain ⟨a1, cap1, rfl, hlc1, hcm1, hc1⟩ := hk
  obtain ⟨a2, cap2, rfl, hlc2, hcm2, hc2⟩ := hn
  unfold maxLen at hcm1 hcm2
  have H1 := hide hc1
  have H2 := hide hc2
  clear hc1 hc2 hf
  cases hok : consB ks.length cs
  · have HM := hide (meetsB_cons hok)
    go_enter Try.func17, Try.ntmps17
    go_wp2_with (go_at_call 18; refine (specConsOk_any _ _ cs _ HN.out).mono ?_; rintro e w1 ⟨rfl, hb1⟩; rw [hok])
    go_ret
    exact ⟨ret_bool HM.out.symm, hb1⟩
  · obtain ⟨⟨_, g2, g3⟩, g4⟩ := consB_yes hok
    have HOK := hide hok
    have HS := hide g4
    clear hok g4
    go_enter Try.func17, Try.ntmps17
    go_wp2_with (go_at_call 18; refine (specConsOk_any _ _ cs _ HN.out).mono ?_; rintro e w1 ⟨rfl, hb1⟩; rw [HOK.out])
    go_loopw [5] (fun i wr => ∃ (k : Nat), k ≤ ks.length ∧ i = .int .i64 k ∧ Hid (∀ j (h : j < ks.length), j < k → 0 ≤ ks[j]) ∧ w1 = wr) (fun i _ => ks.length - (intOf i).toNat)
    case atStart => exact ⟨0, by omega, rfl, fun j _ h => by omega, rfl⟩
    case round =>
      obtain ⟨k, hk, rfl, HA, rfl⟩ := hrel
      by_cases hlt : k < ks.length
      · obtain ⟨b, off, rfl, hc⟩ := H1.out (by omega)
        have c1 := keep_cell hb1 (hc k hlt)
        have hlt' : (k : Int) < ks.length := by omega
        clear hc
        by_cases hneg : ks[k] < 0
        · have HM := hide (meetsB_neg (cs := cs) k hlt hneg)
          generalize ks[k] = q at *
          go_wp2_with fail
          go_ret
          exact ⟨ret_bool HM.out.symm, hb1⟩
        · have HA2 : Hid (∀ j (h : j < ks.length), j < k + 1 → 0 ≤ ks[j]) := by
            intro j h hj
            by_cases e : j = k
            · subst e; omega
            · exact HA.out j h (by omega)
          generalize ks[k] = q at *
          go_wp2_with fail
          go_roundw
          case rel => exact ⟨k + 1, by omega, by go_num, HA2, by first | rfl | trivial⟩
          case measure => simp [intOf]; omega
      · have HA2 : Hid (∀ j (h : j < ks.length), 0 ≤ ks[j]) := fun j h => HA.out j h (by omega)
        have HK1 := hide (HK.out.keep hb1)
        clear HA
        go_wp2_with fail
        go_loopw [6] (fun i wr => ∃ (k : Nat), k ≤ cs.length ∧ i = .int .i64 k ∧ Hid (∀ j (h : j < cs.length), j < k → metB ks cs[j] = true) ∧ w1 = wr) (fun i _ => cs.length - (intOf i).toNat)
        case atStart => exact ⟨0, by omega, rfl, fun j _ h => by omega, rfl⟩
        case round =>
          obtain ⟨k, hk, rfl, HA, rfl⟩ := hrel
          by_cases hlt : k < cs.length
          · obtain ⟨b, off, rfl, hc⟩ := H2.out (by omega)
            obtain ⟨c1, c2, c3⟩ := (hc k hlt).keep hb1
            have hlt' : (k : Int) < cs.length := by omega
            obtain ⟨s1, s2, s3, s4, s5, s6⟩ := HS.out k hlt
            obtain ⟨r1, r2⟩ := valOf_range (s := cs[k].a) HF.out HA2.out (by omega)
            obtain ⟨r3, r4⟩ := valOf_range (s := cs[k].b) HF.out HA2.out (by omega)
            have HMB : Hid (metB ks cs[k] = decide (valOf ks cs[k].a + cs[k].n ≤ valOf ks cs[k].b)) := rfl
            by_cases hmet : metB ks cs[k] = true
            · have HA3 : Hid (∀ j (h : j < cs.length), j < k + 1 → metB ks cs[j] = true) := by
                intro j h hj
                by_cases e : j = k
                · subst e; exact hmet
                · exact HA.out j h (by omega)
              rw [HMB.out, decide_eq_true_eq] at hmet
              clear hc HA HMB
              generalize cs[k] = c at *
              obtain ⟨ca, cn, cb⟩ := c
              simp only at *
              obtain ⟨x, hx⟩ : ∃ x, valOf ks ca = x := ⟨_, rfl⟩
              obtain ⟨y, hy⟩ : ∃ y, valOf ks cb = y := ⟨_, rfl⟩
              have HV1 := hide hx
              have HV2 := hide hy
              rw [hx] at r1 r2 hmet
              rw [hy] at r3 r4 hmet
              clear hx hy
              have hd : decide (y - x < cn) = false := by simp; omega
              go_wp2_with (go_at_call 21; refine (l2Value_any _ ks _ _ HK1.out (by omega)).mono ?_; rintro e w' ⟨rfl, rfl⟩; first | rw [HV1.out] | rw [HV2.out])
              go_roundw
              case rel => exact ⟨k + 1, by omega, by go_num, HA3, by first | rfl | trivial⟩
              case measure => simp [intOf]; omega
            · have HM := hide (meetsB_met k hlt (by simpa using hmet))
              rw [HMB.out, decide_eq_true_eq] at hmet
              clear hc HA HMB
              generalize cs[k] = c at *
              obtain ⟨ca, cn, cb⟩ := c
              simp only at *
              obtain ⟨x, hx⟩ : ∃ x, valOf ks ca = x := ⟨_, rfl⟩
              obtain ⟨y, hy⟩ : ∃ y, valOf ks cb = y := ⟨_, rfl⟩
              have HV1 := hide hx
              have HV2 := hide hy
              rw [hx] at r1 r2 hmet
              rw [hy] at r3 r4 hmet
              clear hx hy
              have hd : decide (y - x < cn) = true := by simp; omega
              go_wp2_with (go_at_call 21; refine (l2Value_any _ ks _ _ HK1.out (by omega)).mono ?_; rintro e w' ⟨rfl, rfl⟩; first | rw [HV1.out] | rw [HV2.out])
              go_ret
              exact ⟨ret_bool HM.out.symm, hb1⟩
          · have HM : Hid (meetsB ks cs = true) := meetsB_all HOK.out HA2.out (fun j hj => HA.out j hj (by omega))
            go_wp2_with fail
            go_ret
            exact ⟨ret_bool HM.out.symm, hb1⟩
end Go.Proofs.Yteedainidoldoaa
