/- The law of the cycle, walked. -/
import Derived.Test.YteedainidoldoaaSxE
import Derived.Test.YteedainidoldoaaCycImpl
namespace Go.Proofs.Yteedainidoldoaa
open Go.ChangeShapes Go.WideShapes Go.ChangeAt Go.RowKit

theorem fits_zero (m : Nat) : Fits (List.replicate m 0) := fun k hk => by
  have := (List.mem_replicate.1 hk).2
  omega
set_option maxRecDepth 100000 in
set_option maxHeartbeats 8000000 in
theorem cycle_walk (a : Option Addr) (n cap : Nat) (w : World) (h : CodeAt w a n) (hn : n ≤ cap) (hc : cap ≤ maxLen) :
    Calls Try.prog 5 #[.slice a n cap] w fun e w' => e = .returned (.bool true) ∧ Below w.heap.size w w' := by
  obtain ⟨i42, hi42, hz42, hs42, hb42⟩ := info_parts Try.info42
  obtain ⟨i3, hi3, hz3, hs3, hb3⟩ := info_parts Try.info3
  have HDR := hide (drawSolve_any a n cap w h hn hc)
  unfold maxLen at hc
  clear h
  by_cases hbig : 1048576 < n
  · have d1 : decide (1048576 < (n : Int)) = true := by simp; omega
    go_enter Try.func5, Try.ntmps5
    go_wp2_with fail
    go_ret
    exact ⟨rfl, Below.refl _ _⟩
  have d1 : decide (1048576 < (n : Int)) = false := by simp; omega
  go_enter Try.func5, Try.ntmps5
  go_wp2_with fail
  refine HDR.out.mono ?_
  rintro e w1 ⟨k, v, cs, rfl, hcs, hl1, hl12, hb1⟩
  have HB1 := hide hb1
  have HCS := hide hcs
  have HSP := hide (fun v W (h : ConsAt W v cs) => specSolve2 k v cs W h)
  have HIM := hide (fun v W (h : ConsAt W v cs) => implSolve_any k v cs W h)
  have HSH := hide (sol_shape k cs)
  obtain ⟨⟨r1, r2, b⟩, hr⟩ : ∃ r, solS k cs = r := ⟨_, rfl⟩
  rw [hr] at HSP HIM HSH
  have HS := hide hr
  have hl31 : r2.length ≤ 31 := HSH.out.2.1
  clear hr hb1 HDR HSH
  obtain ⟨av, cv, rfl, hvc, hvm, hvx⟩ := hcs
  obtain ⟨bv, ov, rfl, hvy⟩ := hvx (by omega)
  have HVX := hide hvy
  unfold maxLen at hvm
  clear hvx hvy
  go_wp2_with fail
  refine (HSP.out _ _ HCS.out).mono ?_
  rintro e w2 ⟨v1, v2, rfl, hs1, hs2, hb2⟩
  have HB2 := hide hb2
  obtain ⟨sa, sc, rfl⟩ : ∃ sa sc, v2 = .slice sa r2.length sc := by
    obtain ⟨va, vc, e, _⟩ := hs2
    exact ⟨va, vc, e⟩
  have HF2 := hide (flatC_cells (w := w2.alloc (.cells #[] 42)) (b := bv) (off := ov) (cs := cs) (fun i hi => ((HVX.out i hi).keep hb2).keep (bel_alloc (Below.refl _ _) _)))
  have HO2 : Hid ((w2.alloc (.cells #[] 42)).ownsRow w2.heap.size 42 3 (.slice (some ⟨w2.heap.size, 0, none⟩) 0 0) 0 []) := ⟨rfl, .inr ⟨w2.heap.size, 0, #[], rfl, Nat.le_refl _, heap_alloc_new _ _, Nat.le_refl _, Nat.zero_le _, rfl, rfl⟩⟩
  have HBA : Hid (Below w2.heap.size w2 (w2.alloc (.cells #[] 42))) := bel_alloc (Below.refl _ _) _
  clear hs1 hs2 hb2
  go_wp2_with (first
    | (at_builtin; refine wpList_append_lies _ rfl _ _ 27 rfl w2.heap.size 42 i42 (.agg #[.int .i64 0, .int .i64 0, .int .i64 0]) 3 24 Try.underlying27 hi42 hz42 hs42 hb42 rfl (by omega) (.slice (some ⟨w2.heap.size, 0, none⟩) 0 0) 0 [] rfl HO2.out ⟨bv, ov, none⟩ cs.length cv (flatC cs) rfl (flatC_len cs) HF2.out (flatC_one cs) (by omega) (by unfold maxLen; omega) (by omega) HBA.out.size _ rfl ?_)
    | fail)
  intro g3 c3 w3 hown3 hgrow3 hat3 hlt3
  have HX3 : Hid (ConsAt w3 (.slice (some ⟨g3, 0, none⟩) cs.length c3) cs) := ConsIn.all hown3 rfl (flatC_in cs)
  have HB3 : Hid (Below w1.heap.size w1 w3) := HB2.out.trans ((HBA.out.grown hgrow3 (by have := HBA.out.size; omega) (fun z hz => by cases hz; exact Nat.le_refl _)).mono HB2.out.size)
  clear hown3 hgrow3 hat3 hlt3 HF2 HO2 HBA HVX HB2
  go_wp2_with fail
  refine (HIM.out _ _ HX3.out).mono ?_
  rintro e w4 ⟨u1, u2, rfl, hu1, hu2, hb4⟩
  have HU4 : Hid (IntsAt w4 u2 r2) := OwI.at hu2
  have HB4 := hide (bel_trans HB3.out hb4)
  have HC4 := hide (HCS.out.keep HB4.out)
  have HBw := hide (bel_trans HB1.out HB4.out)
  obtain ⟨ua, uc, rfl⟩ : ∃ ua uc, u2 = .slice ua r2.length uc := by
    obtain ⟨va, vc, e, _⟩ := HU4.out
    exact ⟨va, vc, e⟩
  have hbb : (b != b) = false := by simp
  clear hu1 hu2 hb4 HX3 HB3 HSP HIM HB1 HB4 HCS
  cases b with
  | true =>
    have hr2 : r2 = [] := sol_nil HS.out (.inl rfl)
    have hz : (r2.length : Int) = 0 := by rw [hr2]; rfl
    have hz2 : decide ((r2.length : Int) = 0) = true := by simp [hr2]
    clear hr2
    go_wp2_with fail
    go_ret
    exact ⟨rfl, HBw.out⟩
  | false =>
    cases hok : consB k cs with
    | false =>
      have hr2 : r2 = [] := sol_nil HS.out (.inr hok)
      have HOK := hide hok
      have hz : (r2.length : Int) = 0 := by rw [hr2]; rfl
      clear hr2 hok
      go_wp2_with (first
        | (go_at_call 18; refine (specConsOk_any _ _ cs _ HC4.out).mono ?_; rintro e w5 ⟨rfl, hb5⟩; rw [HOK.out]; have HB5 := hide (bel_trans HBw.out hb5); clear hb5)
        | fail)
      go_ret
      exact ⟨rfl, HB5.out⟩
    | true =>
      obtain ⟨hcy, hno⟩ := sol_false HS.out hok
      obtain ⟨m, rfl⟩ : ∃ m : Nat, k = m := ⟨k.toNat, by have := (consB_yes hok).1; omega⟩
      have hm30 : m ≤ 30 := by have := (consB_yes hok).1; omega
      have HOK := hide hok
      have HCY := hide hcy
      have HNO := hide (hno (List.replicate m 0) (by simp))
      have hself : ((r2.length : Int) == (r2.length : Int)) = true := by simp
      have HMK : Hid (∀ W : World, (Instr.makeSlice 24 (.int .i64 m) (.int .i64 m)).run Try.prog W = .ok (.slice (some ⟨W.heap.size, 0, none⟩) m m) (W.alloc (.cells (madeCells #[.int .i64 0] m) 3))) := by
        show ∀ W : World, _
        intro W
        have hr := run_make (P := Try.prog) W 24 3 i3 (.int .i64 0) Try.underlying24 hi3 hz3 .i64 .i64 m m (by omega) (by omega) (by rw [hb3]; omega) (by omega)
        rw [hs3, Nat.mul_one] at hr
        exact hr
      have HRZ : Hid (∀ W : World, IntsAt (W.alloc (.cells (madeCells #[.int .i64 0] m) 3)) (.slice (some ⟨W.heap.size, 0, none⟩) m m) (List.replicate m 0)) := by
        show ∀ W : World, _
        intro W
        have hz := made_zero m
        rw [Nat.mul_one] at hz
        refine row_ints0 (base := W.heap.size) (n := m) ?_ (by simp)
        refine ⟨by simp, .inr ⟨W.heap.size, m, _, rfl, Nat.le_refl _, heap_alloc_new _ _, Nat.le_refl _, by unfold maxLen; omega, ?_, ?_⟩⟩
        · rw [size_madeCells, Nat.mul_one]
        · rw [show (madeCells #[Value.int .i64 0] m).toList = _ from hz, List.take_of_length_le (by simp)]
      have hmk := HMK.out
      clear hcy hno hok
      go_wp2_with (first
        | (go_at_call 18; refine (specConsOk_any _ _ cs _ HC4.out).mono ?_; rintro e w5 ⟨rfl, hb5⟩; rw [HOK.out]; have HB5 := hide (bel_trans HBw.out hb5); have HC5 := hide (HC4.out.keep hb5); have HU5 := hide (HU4.out.keep hb5); clear hb5)
        | (go_at_call 19; refine (implCycle_any _ _ _ cs r2 _ HC5.out HU5.out (by omega)).mono ?_; rintro e w6 ⟨rfl, hb6⟩; rw [HCY.out]; have HB6 := hide (bel_trans HB5.out hb6); have HC6 := hide (HC5.out.keep hb6); have HU6 := hide (HU5.out.keep hb6); clear hb6)
        | (go_at_call 20; refine (specCycle_any _ _ _ cs r2 _ HC6.out HU6.out (by omega)).mono ?_; rintro e w7 ⟨rfl, hb7⟩; rw [HCY.out]; have HB7 := hide (bel_trans HB6.out hb7); have HC7 := hide (HC6.out.keep hb7); clear hb7)
        | (go_at_call 16; refine (implMeets_any _ _ _ cs _ (HRZ.out _) (HC7.out.keep (bel_alloc (Below.refl _ _) _)) (fits_zero m)).mono ?_; rintro e w8 ⟨rfl, hb8⟩; rw [HNO.out]; have HB8 := hide (bel_trans HB7.out (bel_trans (bel_alloc (Below.refl _ _) _) hb8)); clear hb8)
        | fail)
      go_ret
      exact ⟨rfl, HB8.out⟩
end Go.Proofs.Yteedainidoldoaa
