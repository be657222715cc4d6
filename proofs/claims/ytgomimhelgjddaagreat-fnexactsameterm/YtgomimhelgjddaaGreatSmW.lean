/- The walk of the law FnExactSameTerm. -/
import Derived.Test.YtgomimhelgjddaaGreatSmF
import Derived.Test.YtgomimhelgjddaaGreatTTm
import Derived.Test.YtgomimhelgjddaaGreatTEq
import Derived.Deep.RegionHeld3
namespace Go.Proofs.YtgomimhelgjddaaGreat
open Go.ChangeShapes Go.WideShapes Go.ChangeAt Go.RowKit

theorem nsSum_mem {ns : List Nd} {nd : Nd} (h : nd ∈ ns) : ndSize nd ≤ nsSum ns := by
  induction ns with
  | nil => cases h
  | cons y l ih =>
    simp only [nsSum]
    rcases List.mem_cons.1 h with rfl | h2
    · omega
    · have := ih h2; omega
theorem tsmall_of {ts : List Td} (h : tmSize ts ≤ 1048576) : ∀ td ∈ ts, TSmall td := by
  intro td htd
  have h1 := sumL_mem tdSize htd
  unfold tmSize at h
  have h2 : tdSize td = td.s.size + (td.lv.length + sumL lvSize td.lv) + td.kids.length := rfl
  refine ⟨by omega, fun l hl => ?_, by omega⟩
  have h3 := sumL_mem lvSize hl
  have h4 : lvSize l = l.length + nsSum l := rfl
  refine ⟨by omega, fun nd hnd => ?_⟩
  have h5 := nsSum_mem hnd
  have h6 : ndSize nd = nd.s.size + nd.kids.length := rfl
  omega

set_option maxRecDepth 100000 in
set_option maxHeartbeats 8000000 in
theorem sm_walk (v1 v2 : Value) (ns1 ns2 : List Td) (w : World) (hn1 : TNodesAt w v1 ns1) (hn2 : TNodesAt w v2 ns2) (hz1 : ∀ td ∈ ns1, TLens td) (hz2 : ∀ td ∈ ns2, TLens td) :
    Calls Tryz.prog 5 #[.agg #[v1], .agg #[v2]] w fun e w' => e = .returned (.bool true) ∧ Below w.heap.size w w' := by
  have HN1 := hide hn1
  have HN2 := hide hn2
  have HZ1 := hide hz1
  have HZ2 := hide hz2
  obtain ⟨a1, cap1, rfl, _, _, _⟩ := hn1
  obtain ⟨a2, cap2, rfl, _, _, _⟩ := hn2
  clear hz1 hz2
  have b0 : Hid (∀ o1 o2, Below w.heap.size w ((w.alloc o1).alloc o2)) := fun o1 o2 => bel_alloc (bel_alloc (Below.refl _ _) o1) o2
  by_cases hbig : (1048576 : Int) < (tmSize ns1 : Nat)
  · have HL : Hid (leftOf 1048576 (tmSize ns1) = -1) := by show leftOf _ _ = _; rw [leftOf, if_pos hbig]
    clear hbig
    go_enter Tryz.func5, Tryz.ntmps5
    go_wp2_with fail
    refine (szTerm_any _ ns1 _ _ (HN1.out.keep (b0.out _ _)) HZ1.out (by omega) (by omega)).mono ?_
    rintro e w1 ⟨rfl, hb1⟩
    rw [HL.out]
    have hbel1 := bel_trans (b0.out _ _) hb1
    clear hb1
    go_wp2_with fail
    go_ret
    exact ⟨rfl, hbel1⟩
  obtain ⟨M, hM⟩ : ∃ M : Int, M = 1048576 - (tmSize ns1 : Nat) := ⟨_, rfl⟩
  have hM0 : 0 ≤ M := by omega
  have hM1 : M ≤ 1048576 := by omega
  have HL : Hid (leftOf 1048576 (tmSize ns1) = M) := by show leftOf _ _ = _; rw [leftOf, if_neg hbig, hM]
  have hlen1 : ns1.length ≤ 1048576 := Nat.le_trans (show ns1.length ≤ tmSize ns1 by unfold tmSize; omega) (by omega)
  have HKL1 := hide (tsmall_of (show tmSize ns1 ≤ 1048576 by omega))
  have HLV1 := hide (fun td (h : td ∈ ns1) => (HKL1.out td h).1)
  have dM : decide (M < 0) = false := by simp; omega
  clear hbig hM
  by_cases hbig2 : M < (tmSize ns2 : Nat)
  · have HL2 : Hid (leftOf M (tmSize ns2) = -1) := by show leftOf _ _ = _; rw [leftOf, if_pos hbig2]
    clear hbig2
    go_enter Tryz.func5, Tryz.ntmps5
    go_wp2_with fail
    refine (szTerm_any _ ns1 _ _ (HN1.out.keep (b0.out _ _)) HZ1.out (by omega) (by omega)).mono ?_
    rintro e w1 ⟨rfl, hb1⟩
    rw [HL.out]
    have d1 := keep_cell (b := w.heap.size + 1) (o := 0) (v := .slice a2 ns2.length cap2) hb1 (by simp [go_sem])
    have hbel1 := bel_trans (b0.out _ _) hb1
    clear hb1
    go_wp2_with fail
    refine (szTerm_any _ ns2 _ _ (HN2.out.keep hbel1) HZ2.out hM0 hM1).mono ?_
    rintro e w2 ⟨rfl, hb2⟩
    rw [HL2.out]
    have hbel2 := bel_trans hbel1 hb2
    clear hb2
    go_wp2_with fail
    go_ret
    exact ⟨rfl, hbel2⟩
  obtain ⟨M2, hM2⟩ : ∃ M2 : Int, M2 = M - (tmSize ns2 : Nat) := ⟨_, rfl⟩
  have HL2 : Hid (leftOf M (tmSize ns2) = M2) := by show leftOf _ _ = _; rw [leftOf, if_neg hbig2, hM2]
  have hlen2 : ns2.length ≤ 1048576 := Nat.le_trans (show ns2.length ≤ tmSize ns2 by unfold tmSize; omega) (by omega)
  have HKL2 := hide (tsmall_of (show tmSize ns2 ≤ 1048576 by omega))
  have HLV2 := hide (fun td (h : td ∈ ns2) => (HKL2.out td h).1)
  have dM2 : decide (M2 < 0) = false := by simp; omega
  clear hbig2 hM2
  go_enter Tryz.func5, Tryz.ntmps5
  go_wp2_with fail
  refine (szTerm_any _ ns1 _ _ (HN1.out.keep (b0.out _ _)) HZ1.out (by omega) (by omega)).mono ?_
  rintro e w1 ⟨rfl, hb1⟩
  rw [HL.out]
  have c1 := keep_cell (b := w.heap.size) (o := 0) (v := .slice a1 ns1.length cap1) hb1 (by simp [go_sem])
  have d1 := keep_cell (b := w.heap.size + 1) (o := 0) (v := .slice a2 ns2.length cap2) hb1 (by simp [go_sem])
  have hbel1 := bel_trans (b0.out _ _) hb1
  clear hb1
  go_wp2_with fail
  refine (szTerm_any _ ns2 _ _ (HN2.out.keep hbel1) HZ2.out hM0 hM1).mono ?_
  rintro e w2 ⟨rfl, hb2⟩
  rw [HL2.out]
  have c2 := keep_cell hb2 c1
  have d2 := keep_cell hb2 d1
  have HB2 := hide (bel_trans hbel1 hb2)
  clear hb2 hbel1 c1 d1
  go_wp2_with fail
  go_region_held3 (fun w' => w'.cell? ⟨w.heap.size, 0, none⟩ = some (.slice a1 ns1.length cap1) ∧ w'.cell? ⟨w.heap.size + 1, 0, none⟩ = some (.slice a2 ns2.length cap2))
    (first
      | go_keep
      | exact ⟨keep_cell (bel_trans (bel_trans ((Below.refl w2.heap.size w2).drew.trans hb3) hb4) hb5) c2, keep_cell (bel_trans (bel_trans ((Below.refl w2.heap.size w2).drew.trans hb3) hb4) hb5) d2⟩
      | exact ⟨keep_cell (bel_trans ((Below.refl w2.heap.size w2).drew.trans hb3) hb4) c2, keep_cell (bel_trans ((Below.refl w2.heap.size w2).drew.trans hb3) hb4) d2⟩
      | exact ⟨keep_cell ((Below.refl w2.heap.size w2).drew.trans hb3) c2, keep_cell ((Below.refl w2.heap.size w2).drew.trans hb3) d2⟩
      | fail)
    (first
      | (go_at_call_of 8 (Value.agg #[Value.slice a1 ns1.length cap1]); refine (toTerm_fr _ ns1 _ (by exact HN1.out.keep HB2.out.drew) hlen1 HKL1.out).mono ?_; rintro e w3 ⟨g3, rfl, hn3, hg3, hb3⟩)
      | (go_at_call_of 8 (Value.agg #[Value.slice a2 ns2.length cap2]); refine (toTerm_fr _ ns2 _ (by exact HN2.out.keep (bel_trans HB2.out ((Below.refl w2.heap.size w2).drew.trans hb3))) hlen2 HKL2.out).mono ?_; rintro e w4 ⟨g4, rfl, hn4, hg4, hb4⟩)
      | (go_at_call 20; refine (sameT_both _ _ ns1 ns2 _ (by exact hn3.at.keep hb4) (by exact hn4.at) HZ1.out HZ2.out HLV1.out HLV2.out).mono ?_; rintro e w5 ⟨⟨r, rfl, hi⟩, hb5⟩)
      | fail)
  have hW5 : Below w2.heap.size w2 w5 := bel_trans (bel_trans ((Below.refl w2.heap.size w2).drew.trans hb3) hb4) hb5
  have c5 := keep_cell hW5 c2
  have d5 := keep_cell hW5 d2
  have hbel5 := bel_trans HB2.out hW5
  have HI := hide hi
  clear hi hn3 hn4 hb3 hb4 hb5 hW5 c2 d2 HB2
  go_wp2_with fail
  refine (toTerm_fr _ ns1 _ (HN1.out.keep hbel5) hlen1 HKL1.out).mono ?_
  rintro e w6 ⟨g6, rfl, hn6, hg6, hb6⟩
  have c6 := keep_cell hb6 c5
  have d6 := keep_cell hb6 d5
  have hbel6 := bel_trans hbel5 hb6
  have H6 := hide hn6.at
  clear hb6 c5 d5 hbel5 hn6
  have l6 := lt_cell d6
  have l6' := lt_cell c6
  go_wp2_with fail
  refine (toTerm_fr _ ns2 _ (HN2.out.keep (bel_alloc hbel6 _)) hlen2 HKL2.out).mono ?_
  rintro e w7 ⟨g7, rfl, hn7, hg7, hb7⟩
  have hbw7 : Below w6.heap.size w6 w7 := bel_trans (bel_alloc (Below.refl _ _) _) hb7
  have c7 := keep_cell hbw7 c6
  have d7 := keep_cell hbw7 d6
  have x7 := keep_cell (b := w6.heap.size) (o := 0) (v := .slice (some ⟨g6, 0, none⟩) ns1.length ns1.length) hb7 (by simp [go_sem])
  have hbel7 := bel_trans hbel6 hbw7
  have H17 := hide (H6.out.keep hbw7)
  have H27 := hide hn7.at
  have l7 := lt_cell x7
  clear hb7 hbw7 c6 d6 hbel6 H6 hn7 l6 l6'
  go_wp2_with fail
  refine (HI.out _ _ _ (H17.out.keep (bel_alloc (Below.refl _ _) _)) (H27.out.keep (bel_alloc (Below.refl _ _) _))).mono ?_
  rintro e w8 ⟨rfl, hb8⟩
  have hbw8 : Below w7.heap.size w7 w8 := bel_trans (bel_alloc (Below.refl _ _) _) hb8
  have c8 := keep_cell hbw8 c7
  have d8 := keep_cell hbw8 d7
  have x8 := keep_cell hbw8 x7
  have y8 := keep_cell (b := w7.heap.size) (o := 0) (v := .slice (some ⟨g7, 0, none⟩) ns2.length ns2.length) hb8 (by simp [go_sem])
  have HB8 := hide (bel_trans hbel7 hbw8)
  have H18 := hide (H17.out.keep hbw8)
  have H28 := hide (H27.out.keep hbw8)
  have hself : (r != r) = false := by simp
  clear hb8 hbw8 c7 d7 x7 hbel7 H17 H27 l7 HI
  go_wp2_with fail
  go_region_held3 (fun w' => w'.cell? ⟨w6.heap.size, 0, none⟩ = some (.slice (some ⟨g6, 0, none⟩) ns1.length ns1.length) ∧ w'.cell? ⟨w7.heap.size, 0, none⟩ = some (.slice (some ⟨g7, 0, none⟩) ns2.length ns2.length) ∧ w'.cell? ⟨w.heap.size, 0, none⟩ = some (.slice a1 ns1.length cap1) ∧ w'.cell? ⟨w.heap.size + 1, 0, none⟩ = some (.slice a2 ns2.length cap2))
    (first
      | go_keep
      | exact ⟨keep_cell (bel_trans ((Below.refl w8.heap.size w8).drew.trans hb9) hb10) x8, keep_cell (bel_trans ((Below.refl w8.heap.size w8).drew.trans hb9) hb10) y8, keep_cell (bel_trans ((Below.refl w8.heap.size w8).drew.trans hb9) hb10) c8, keep_cell (bel_trans ((Below.refl w8.heap.size w8).drew.trans hb9) hb10) d8⟩
      | exact ⟨keep_cell ((Below.refl w8.heap.size w8).drew.trans hb9) x8, keep_cell ((Below.refl w8.heap.size w8).drew.trans hb9) y8, keep_cell ((Below.refl w8.heap.size w8).drew.trans hb9) c8, keep_cell ((Below.refl w8.heap.size w8).drew.trans hb9) d8⟩
      | fail)
    (first
      | (go_at_call 8; refine (toTerm_fr _ ns1 _ (by exact HN1.out.keep HB8.out.drew) hlen1 HKL1.out).mono ?_; rintro e w9 ⟨g9, rfl, hn9, hg9, hb9⟩)
      | (go_at_call 11; refine (eqTerm_any _ _ ns1 _ (by exact H18.out.keep ((Below.refl w8.heap.size w8).drew.trans hb9)) hn9.at).mono ?_; rintro e w10 ⟨rfl, hb10⟩)
      | fail)
  have hbw10 : Below w8.heap.size w8 w10 := bel_trans ((Below.refl w8.heap.size w8).drew.trans hb9) hb10
  have x10 := keep_cell hbw10 x8
  have y10 := keep_cell hbw10 y8
  have c10 := keep_cell hbw10 c8
  have d10 := keep_cell hbw10 d8
  have HB10 := hide (bel_trans HB8.out hbw10)
  have H210 := hide (H28.out.keep hbw10)
  clear hn9 hb9 hb10 hbw10 x8 y8 c8 d8 HB8 H28 H18
  go_wp2_with fail
  go_region_held3 (fun w' => w'.cell? ⟨w6.heap.size, 0, none⟩ = some (.slice (some ⟨g6, 0, none⟩) ns1.length ns1.length) ∧ w'.cell? ⟨w7.heap.size, 0, none⟩ = some (.slice (some ⟨g7, 0, none⟩) ns2.length ns2.length) ∧ w'.cell? ⟨w.heap.size, 0, none⟩ = some (.slice a1 ns1.length cap1) ∧ w'.cell? ⟨w.heap.size + 1, 0, none⟩ = some (.slice a2 ns2.length cap2))
    (first
      | go_keep
      | exact ⟨keep_cell (bel_trans ((Below.refl w10.heap.size w10).drew.trans hb11) hb12) x10, keep_cell (bel_trans ((Below.refl w10.heap.size w10).drew.trans hb11) hb12) y10, keep_cell (bel_trans ((Below.refl w10.heap.size w10).drew.trans hb11) hb12) c10, keep_cell (bel_trans ((Below.refl w10.heap.size w10).drew.trans hb11) hb12) d10⟩
      | exact ⟨keep_cell ((Below.refl w10.heap.size w10).drew.trans hb11) x10, keep_cell ((Below.refl w10.heap.size w10).drew.trans hb11) y10, keep_cell ((Below.refl w10.heap.size w10).drew.trans hb11) c10, keep_cell ((Below.refl w10.heap.size w10).drew.trans hb11) d10⟩
      | fail)
    (first
      | (go_at_call 8; refine (toTerm_fr _ ns2 _ (by exact HN2.out.keep HB10.out.drew) hlen2 HKL2.out).mono ?_; rintro e w11 ⟨g11, rfl, hn11, hg11, hb11⟩)
      | (go_at_call 11; refine (eqTerm_any _ _ ns2 _ (by exact H210.out.keep ((Below.refl w10.heap.size w10).drew.trans hb11)) hn11.at).mono ?_; rintro e w12 ⟨rfl, hb12⟩)
      | fail)
  have hbw12 : Below w10.heap.size w10 w12 := bel_trans ((Below.refl w10.heap.size w10).drew.trans hb11) hb12
  have hbel12 := bel_trans HB10.out hbw12
  clear hn11 hb11 hb12 hbw12
  go_wp2_with fail
  go_ret
  exact ⟨rfl, hbel12⟩

end Go.Proofs.YtgomimhelgjddaaGreat
