/- Proved: the law FnExactLevelLeq answers true at every two levels that can be read as data, and both read afterwards as before. No condition. -/
import Derived.Test.YtnhkpmgfgiolbaaRows
import Derived.Test.YtnhkpmgfgiolbaaLeqI
import Derived.Test.YtnhkpmgfgiolbaaImpl
import Derived.Test.YtnhkpmgfgiolbaaEq
import Derived.Test.YtnhkpmgfgiolbaaOpen
import Derived.WalkKit
import Derived.ProofKit
import Derived.OpenShut
import Derived.ShutString
import Derived.ChangeOld
import Derived.Below
namespace Go.Proofs.Ytnhkpmgfgiolbaa
open Go.ChangeShapes Go.WideShapes Go.ChangeAt Go.RowKit

theorem leq_own : ownKnob Try.prog.godebug = none := by kernel_rfl
theorem leq_laidOut : laidOutB Try.prog = true := by kernel_rfl

theorem leq_same {ns1 ns2 : List Nd} {t1 t2 : Tr} (h1 : OkTree ns1 t1) (h2 : OkTree ns2 t2) : casesLeq (namesOf ns1) t1.it t2.it = triesLeq t1 t2 (t2.names (t1.names [])) := by
  have e1 := h1.2.2.1
  rw [Bool.eq_iff_iff]
  unfold casesLeq triesLeq
  rw [List.all_eq_true, List.all_eq_true]
  have h := leq_iff (t1 := t1) (t2 := t2) h1.2.1 h2.2.1 (by have := h2.2.2.2; omega) (names := namesOf ns1) (all := t2.names (t1.names [])) h1.2.2.2.2.2 (by rw [← e1]; exact names_pre t2 _) (fun s hs => by rw [← e1]; exact names_params t1 [] s hs) (names_params t2 _) (names_le12 h1 h2)
  constructor
  · intro H vs hvs
    rw [decide_eq_true_eq]
    exact h.2 (fun z hz => (leqB_iff _ _).1 (H z (by simpa using hz))) vs hvs
  · intro H z hz
    refine (leqB_iff _ _).2 (h.1 (fun vs hvs => ?_) z (by simpa using hz))
    have := H vs hvs
    rwa [decide_eq_true_eq] at this

set_option maxRecDepth 10000 in
set_option maxHeartbeats 2000000 in
theorem implLevelLeq_bad (v1 v2 : Value) (ns1 ns2 : List Nd) (w : World) (hn1 : NodesAt w v1 ns1) (hn2 : NodesAt w v2 ns2) (hz1 : ∀ nd ∈ ns1, nd.s.size ≤ maxLen) (hz2 : ∀ nd ∈ ns2, nd.s.size ≤ maxLen) (hl : lvlB ns1 = false ∨ lvlB ns2 = false) :
    Calls Try.prog 32 #[.agg #[v1], .agg #[v2]] w fun e w' => e = .returned (.bool false) ∧ Below w.heap.size w w' := by
  have HN1 := hide hn1
  have HN2 := hide hn2
  have HZ1 := hide hz1
  have HZ2 := hide hz2
  obtain ⟨a1, cap1, rfl, _, _, _⟩ := hn1
  obtain ⟨a2, cap2, rfl, _, _, _⟩ := hn2
  clear hz1 hz2
  have HB0 : Hid (∀ o1 o2, Below w.heap.size w ((w.alloc o1).alloc o2)) := fun o1 o2 => bel_alloc (bel_alloc (Below.refl _ _) o1) o2
  cases hl1 : lvlB ns1
  · have HL1 := hide hl1
    clear hl1 hl
    go_enter Try.func32, Try.ntmps32
    go_wp2_with fail
    refine (implLevelOk_any _ ns1 _ (HN1.out.keep (HB0.out _ _)) HZ1.out).mono ?_
    rintro e w1 ⟨rfl, hb1⟩
    rw [HL1.out]
    have hbel1 := bel_trans (HB0.out _ _) hb1
    clear hb1
    go_wp2_with fail
    go_ret
    exact ⟨rfl, hbel1⟩
  · have hl2 : lvlB ns2 = false := by
      rcases hl with h | h
      · rw [hl1] at h; cases h
      · exact h
    have HL1 := hide hl1
    have HL2 := hide hl2
    clear hl1 hl2 hl
    go_enter Try.func32, Try.ntmps32
    go_wp2_with fail
    refine (implLevelOk_any _ ns1 _ (HN1.out.keep (HB0.out _ _)) HZ1.out).mono ?_
    rintro e w1 ⟨rfl, hb1⟩
    rw [HL1.out]
    have d1 := keep_cell (b := w.heap.size + 1) (o := 0) (v := .slice a2 ns2.length cap2) hb1 (by simp [go_sem])
    have hbel1 := bel_trans (HB0.out _ _) hb1
    clear hb1
    go_wp2_with fail
    refine (implLevelOk_any _ ns2 _ (HN2.out.keep hbel1) HZ2.out).mono ?_
    rintro e w2 ⟨rfl, hb2⟩
    rw [HL2.out]
    have hbel2 := bel_trans hbel1 hb2
    clear hb2
    go_wp2_with fail
    go_ret
    exact ⟨rfl, hbel2⟩

set_option maxRecDepth 10000 in
set_option maxHeartbeats 2000000 in
theorem implLevelLeq_any (v1 v2 : Value) (ns1 ns2 : List Nd) (t1 t2 : Tr) (w : World) (hn1 : NodesAt w v1 ns1) (hn2 : NodesAt w v2 ns2) (hz1 : ∀ nd ∈ ns1, nd.s.size ≤ maxLen) (hz2 : ∀ nd ∈ ns2, nd.s.size ≤ maxLen) (hl1 : lvlB ns1 = true) (hl2 : lvlB ns2 = true) (h1 : OkTree ns1 t1) (h2 : OkTree ns2 t2) :
    Calls Try.prog 32 #[.agg #[v1], .agg #[v2]] w fun e w' => e = .returned (.bool (casesLeq (namesOf ns1) t1.it t2.it)) ∧ Below w.heap.size w w' := by
  have HN1 := hide hn1
  have HN2 := hide hn2
  have HZ1 := hide hz1
  have HZ2 := hide hz2
  have HL1 := hide hl1
  have HL2 := hide hl2
  obtain ⟨a1, cap1, rfl, _, _, _⟩ := hn1
  obtain ⟨a2, cap2, rfl, _, _, _⟩ := hn2
  have HLQ : Hid (∀ w', NodesAt w' (.slice a1 ns1.length cap1) ns1 → NodesAt w' (.slice a2 ns2.length cap2) ns2 → Calls Try.prog 82 #[.agg #[.slice a1 ns1.length cap1], .agg #[.slice a2 ns2.length cap2]] w' fun e w2 => e = .returned (.bool (casesLeq (namesOf ns1) t1.it t2.it)) ∧ Below w'.heap.size w' w2) := fun w' q1 q2 => implLeq_any _ _ ns1 ns2 t1 t2 w' q1 q2 h1 h2
  clear hz1 hz2 hl1 hl2 h1 h2
  generalize casesLeq (namesOf ns1) t1.it t2.it = r at *
  have HB0 : Hid (∀ o1 o2, Below w.heap.size w ((w.alloc o1).alloc o2)) := fun o1 o2 => bel_alloc (bel_alloc (Below.refl _ _) o1) o2
  go_enter Try.func32, Try.ntmps32
  go_wp2_with fail
  refine (implLevelOk_any _ ns1 _ (HN1.out.keep (HB0.out _ _)) HZ1.out).mono ?_
  rintro e w1 ⟨rfl, hb1⟩
  rw [HL1.out]
  have d0 := keep_cell (b := w.heap.size) (o := 0) (v := .slice a1 ns1.length cap1) hb1 (by simp [go_sem])
  have d1 := keep_cell (b := w.heap.size + 1) (o := 0) (v := .slice a2 ns2.length cap2) hb1 (by simp [go_sem])
  have hbel1 := bel_trans (HB0.out _ _) hb1
  clear hb1
  go_wp2_with fail
  refine (implLevelOk_any _ ns2 _ (HN2.out.keep hbel1) HZ2.out).mono ?_
  rintro e w2 ⟨rfl, hb2⟩
  rw [HL2.out]
  have e0 := keep_cell hb2 d0
  have e1 := keep_cell hb2 d1
  have hbel2 := bel_trans hbel1 hb2
  clear hb2 d0 d1
  go_wp2_with fail
  refine (HLQ.out _ (HN1.out.keep hbel2) (HN2.out.keep hbel2)).mono ?_
  rintro e w3 ⟨rfl, hb3⟩
  have hbel3 := bel_trans hbel2 hb3
  clear hb3
  go_wp2_with fail
  go_ret
  exact ⟨rfl, hbel3⟩

theorem leq_kids {ns : List Nd} {n : Nat} (h : nsSum ns ≤ n) : ∀ nd ∈ ns, nd.kids.length ≤ n := by
  induction ns with
  | nil => simp
  | cons x ns ih =>
    intro nd hnd
    simp only [nsSum, ndSize] at h
    rcases List.mem_cons.1 hnd with rfl | h2
    · omega
    · exact ih (by omega) nd h2
theorem leq_both (v1 v2 : Value) (ns1 ns2 : List Nd) (w : World) (hn1 : NodesAt w v1 ns1) (hn2 : NodesAt w v2 ns2) (hz1 : ∀ nd ∈ ns1, nd.s.size ≤ maxLen) (hz2 : ∀ nd ∈ ns2, nd.s.size ≤ maxLen) :
    Calls Try.prog 31 #[.agg #[v1], .agg #[v2]] w fun e w' => (∃ r : Bool, e = .returned (.bool r) ∧ ∀ (u1 u2 : Value) (w2 : World), NodesAt w2 u1 ns1 → NodesAt w2 u2 ns2 → Calls Try.prog 32 #[.agg #[u1], .agg #[u2]] w2 fun e2 w3 => e2 = .returned (.bool r) ∧ Below w2.heap.size w2 w3) ∧ Below w.heap.size w w' := by
  refine (specLeq_any v1 v2 ns1 ns2 w hn1 hn2 hz1 hz2).mono ?_
  rintro e w1 ⟨(⟨hl, rfl⟩ | ⟨hl1, hl2, t1, t2, h1, h2, rfl⟩), hb⟩
  · exact ⟨⟨false, rfl, fun u1 u2 w2 q1 q2 => implLevelLeq_bad u1 u2 ns1 ns2 w2 q1 q2 hz1 hz2 hl⟩, hb⟩
  · refine ⟨⟨_, rfl, fun u1 u2 w2 q1 q2 => ?_⟩, hb⟩
    rw [← leq_same h1 h2]
    exact implLevelLeq_any u1 u2 ns1 ns2 t1 t2 w2 q1 q2 hz1 hz2 hl1 hl2 h1 h2

set_option maxRecDepth 100000 in
set_option maxHeartbeats 8000000 in
theorem leq_walk (v1 v2 : Value) (ns1 ns2 : List Nd) (w : World) (hn1 : NodesAt w v1 ns1) (hn2 : NodesAt w v2 ns2) (hz1 : ∀ nd ∈ ns1, nd.s.size ≤ maxLen) (hz2 : ∀ nd ∈ ns2, nd.s.size ≤ maxLen) :
    Calls Try.prog 7 #[.agg #[v1], .agg #[v2]] w fun e w' => e = .returned (.bool true) ∧ Below w.heap.size w w' := by
  have HN1 := hide hn1
  have HN2 := hide hn2
  have HZ1 := hide hz1
  have HZ2 := hide hz2
  obtain ⟨a1, cap1, rfl, _, _, _⟩ := hn1
  obtain ⟨a2, cap2, rfl, _, _, _⟩ := hn2
  clear hz1 hz2
  have b0 : Hid (∀ o1 o2, Below w.heap.size w ((w.alloc o1).alloc o2)) := fun o1 o2 => bel_alloc (bel_alloc (Below.refl _ _) o1) o2
  by_cases hbig : (1048576 : Int) < (ns1.length + nsSum ns1 : Nat)
  · have HL : Hid (leftOf 1048576 (ns1.length + nsSum ns1) = -1) := by show leftOf _ _ = _; rw [leftOf, if_pos hbig]
    clear hbig
    go_enter Try.func7, Try.ntmps7
    go_wp2_with fail
    refine (szLevel_any _ ns1 _ _ (HN1.out.keep (b0.out _ _)) HZ1.out (by omega) (by omega)).mono ?_
    rintro e w1 ⟨rfl, hb1⟩
    rw [HL.out]
    have hbel1 := bel_trans (b0.out _ _) hb1
    clear hb1
    go_wp2_with fail
    go_ret
    exact ⟨rfl, hbel1⟩
  obtain ⟨M, hM⟩ : ∃ M : Int, M = 1048576 - (ns1.length + nsSum ns1 : Nat) := ⟨_, rfl⟩
  have hM0 : 0 ≤ M := by omega
  have hM1 : M ≤ 1048576 := by omega
  have HL : Hid (leftOf 1048576 (ns1.length + nsSum ns1) = M) := by show leftOf _ _ = _; rw [leftOf, if_neg hbig, hM]
  have hlen1 : ns1.length ≤ 1048576 := by omega
  have HKL1 := hide (leq_kids (show nsSum ns1 ≤ 1048576 by omega))
  have dM : decide (M < 0) = false := by simp; omega
  clear hbig hM
  by_cases hbig2 : M < (ns2.length + nsSum ns2 : Nat)
  · have HL2 : Hid (leftOf M (ns2.length + nsSum ns2) = -1) := by show leftOf _ _ = _; rw [leftOf, if_pos hbig2]
    clear hbig2
    go_enter Try.func7, Try.ntmps7
    go_wp2_with fail
    refine (szLevel_any _ ns1 _ _ (HN1.out.keep (b0.out _ _)) HZ1.out (by omega) (by omega)).mono ?_
    rintro e w1 ⟨rfl, hb1⟩
    rw [HL.out]
    have d1 := keep_cell (b := w.heap.size + 1) (o := 0) (v := .slice a2 ns2.length cap2) hb1 (by simp [go_sem])
    have hbel1 := bel_trans (b0.out _ _) hb1
    clear hb1
    go_wp2_with fail
    refine (szLevel_any _ ns2 _ _ (HN2.out.keep hbel1) HZ2.out hM0 hM1).mono ?_
    rintro e w2 ⟨rfl, hb2⟩
    rw [HL2.out]
    have hbel2 := bel_trans hbel1 hb2
    clear hb2
    go_wp2_with fail
    go_ret
    exact ⟨rfl, hbel2⟩
  obtain ⟨M2, hM2⟩ : ∃ M2 : Int, M2 = M - (ns2.length + nsSum ns2 : Nat) := ⟨_, rfl⟩
  have HL2 : Hid (leftOf M (ns2.length + nsSum ns2) = M2) := by show leftOf _ _ = _; rw [leftOf, if_neg hbig2, hM2]
  have hlen2 : ns2.length ≤ 1048576 := by omega
  have HKL2 := hide (leq_kids (show nsSum ns2 ≤ 1048576 by omega))
  have dM2 : decide (M2 < 0) = false := by simp; omega
  clear hbig2 hM2
  go_enter Try.func7, Try.ntmps7
  go_wp2_with fail
  refine (szLevel_any _ ns1 _ _ (HN1.out.keep (b0.out _ _)) HZ1.out (by omega) (by omega)).mono ?_
  rintro e w1 ⟨rfl, hb1⟩
  rw [HL.out]
  have c1 := keep_cell (b := w.heap.size) (o := 0) (v := .slice a1 ns1.length cap1) hb1 (by simp [go_sem])
  have d1 := keep_cell (b := w.heap.size + 1) (o := 0) (v := .slice a2 ns2.length cap2) hb1 (by simp [go_sem])
  have hbel1 := bel_trans (b0.out _ _) hb1
  clear hb1
  go_wp2_with fail
  refine (szLevel_any _ ns2 _ _ (HN2.out.keep hbel1) HZ2.out hM0 hM1).mono ?_
  rintro e w2 ⟨rfl, hb2⟩
  rw [HL2.out]
  have c2 := keep_cell hb2 c1
  have d2 := keep_cell hb2 d1
  have HB2 := hide (bel_trans hbel1 hb2)
  clear hb2 hbel1 c1 d1
  go_wp2_with fail
  go_region_held3 (fun w' => w'.cell? ⟨w.heap.size, 0, none⟩ = some (.slice a1 ns1.length cap1) ∧ w'.cell? ⟨w.heap.size + 1, 0, none⟩ = some (.slice a2 ns2.length cap2))
    (first
      | go_keep
      | exact ⟨keep_cell (bel_trans (bel_trans ((Below.refl w2.heap.size w2).drew.trans hb3) hb4) hb5) c2, keep_cell (bel_trans (bel_trans ((Below.refl w2.heap.size w2).drew.trans hb3) hb4) hb5) d2⟩
      | exact ⟨keep_cell (bel_trans ((Below.refl w2.heap.size w2).drew.trans hb3) hb4) c2, keep_cell (bel_trans ((Below.refl w2.heap.size w2).drew.trans hb3) hb4) d2⟩
      | exact ⟨keep_cell ((Below.refl w2.heap.size w2).drew.trans hb3) c2, keep_cell ((Below.refl w2.heap.size w2).drew.trans hb3) d2⟩
      | fail)
    (first
      | (go_at_call_of 21 (Value.agg #[Value.slice a1 ns1.length cap1]); refine (toLevel_any _ ns1 _ (by exact HN1.out.keep HB2.out.drew) hlen1 HKL1.out).mono ?_; rintro e w3 ⟨g3, rfl, hn3, hg3, hb3⟩)
      | (go_at_call_of 21 (Value.agg #[Value.slice a2 ns2.length cap2]); refine (toLevel_any _ ns2 _ (by exact HN2.out.keep (bel_trans HB2.out ((Below.refl w2.heap.size w2).drew.trans hb3))) hlen2 HKL2.out).mono ?_; rintro e w4 ⟨g4, rfl, hn4, hg4, hb4⟩)
      | (go_at_call 31; refine (leq_both _ _ ns1 ns2 _ (by exact hn3.at.keep hb4) (by exact hn4.at) HZ1.out HZ2.out).mono ?_; rintro e w5 ⟨⟨r, rfl, hi⟩, hb5⟩)
      | fail)
  have hW5 : Below w2.heap.size w2 w5 := bel_trans (bel_trans ((Below.refl w2.heap.size w2).drew.trans hb3) hb4) hb5
  have c5 := keep_cell hW5 c2
  have d5 := keep_cell hW5 d2
  have hbel5 := bel_trans HB2.out hW5
  have HI := hide hi
  clear hi hn3 hn4 hb3 hb4 hb5 hW5 c2 d2 HB2
  go_wp2_with fail
  refine (toLevel_any _ ns1 _ (HN1.out.keep hbel5) hlen1 HKL1.out).mono ?_
  rintro e w6 ⟨g6, rfl, hn6, hg6, hb6⟩
  have c6 := keep_cell hb6 c5
  have d6 := keep_cell hb6 d5
  have hbel6 := bel_trans hbel5 hb6
  have H6 := hide hn6.at
  clear hb6 c5 d5 hbel5 hn6
  have l6 := lt_cell d6
  have l6' := lt_cell c6
  go_wp2_with fail
  refine (toLevel_any _ ns2 _ (HN2.out.keep (bel_alloc hbel6 _)) hlen2 HKL2.out).mono ?_
  rintro e w7 ⟨g7, rfl, hn7, hg7, hb7⟩
  have hbw7 : Below w6.heap.size w6 w7 := bel_trans (bel_alloc (Below.refl _ _) _) hb7
  have c7 := keep_cell hbw7 c6
  have d7 := keep_cell hbw7 d6
  have x7 := keep_cell (b := w6.heap.size) (o := 0) (v := .slice (some ⟨g6, 0, none⟩) ns1.length ns1.length) hb7 (by simp [go_sem])
  have hbel7 := bel_trans hbel6 hbw7
  have H17 := hide (H6.out.keep hbw7)
  have H27 := hide hn7.at
  have l7 := lt_cell x7
  clear hb7 hbw7 c6 d6 hbel6 H6 hn7 l6 l6'
  go_wp2_with fail
  refine (HI.out _ _ _ (H17.out.keep (bel_alloc (Below.refl _ _) _)) (H27.out.keep (bel_alloc (Below.refl _ _) _))).mono ?_
  rintro e w8 ⟨rfl, hb8⟩
  have hbw8 : Below w7.heap.size w7 w8 := bel_trans (bel_alloc (Below.refl _ _) _) hb8
  have c8 := keep_cell hbw8 c7
  have d8 := keep_cell hbw8 d7
  have x8 := keep_cell hbw8 x7
  have y8 := keep_cell (b := w7.heap.size) (o := 0) (v := .slice (some ⟨g7, 0, none⟩) ns2.length ns2.length) hb8 (by simp [go_sem])
  have HB8 := hide (bel_trans hbel7 hbw8)
  have H18 := hide (H17.out.keep hbw8)
  have H28 := hide (H27.out.keep hbw8)
  have hself : (r != r) = false := by simp
  clear hb8 hbw8 c7 d7 x7 hbel7 H17 H27 l7 HI
  go_wp2_with fail
  go_region_held3 (fun w' => w'.cell? ⟨w6.heap.size, 0, none⟩ = some (.slice (some ⟨g6, 0, none⟩) ns1.length ns1.length) ∧ w'.cell? ⟨w7.heap.size, 0, none⟩ = some (.slice (some ⟨g7, 0, none⟩) ns2.length ns2.length) ∧ w'.cell? ⟨w.heap.size, 0, none⟩ = some (.slice a1 ns1.length cap1) ∧ w'.cell? ⟨w.heap.size + 1, 0, none⟩ = some (.slice a2 ns2.length cap2))
    (first
      | go_keep
      | exact ⟨keep_cell (bel_trans ((Below.refl w8.heap.size w8).drew.trans hb9) hb10) x8, keep_cell (bel_trans ((Below.refl w8.heap.size w8).drew.trans hb9) hb10) y8, keep_cell (bel_trans ((Below.refl w8.heap.size w8).drew.trans hb9) hb10) c8, keep_cell (bel_trans ((Below.refl w8.heap.size w8).drew.trans hb9) hb10) d8⟩
      | exact ⟨keep_cell ((Below.refl w8.heap.size w8).drew.trans hb9) x8, keep_cell ((Below.refl w8.heap.size w8).drew.trans hb9) y8, keep_cell ((Below.refl w8.heap.size w8).drew.trans hb9) c8, keep_cell ((Below.refl w8.heap.size w8).drew.trans hb9) d8⟩
      | fail)
    (first
      | (go_at_call 21; refine (toLevel_any _ ns1 _ (by exact HN1.out.keep HB8.out.drew) hlen1 HKL1.out).mono ?_; rintro e w9 ⟨g9, rfl, hn9, hg9, hb9⟩)
      | (go_at_call 23; refine (eqLevel_any _ _ ns1 _ (by exact H18.out.keep ((Below.refl w8.heap.size w8).drew.trans hb9)) hn9.at).mono ?_; rintro e w10 ⟨rfl, hb10⟩)
      | fail)
  have hbw10 : Below w8.heap.size w8 w10 := bel_trans ((Below.refl w8.heap.size w8).drew.trans hb9) hb10
  have x10 := keep_cell hbw10 x8
  have y10 := keep_cell hbw10 y8
  have c10 := keep_cell hbw10 c8
  have d10 := keep_cell hbw10 d8
  have HB10 := hide (bel_trans HB8.out hbw10)
  have H210 := hide (H28.out.keep hbw10)
  clear hn9 hb9 hb10 hbw10 x8 y8 c8 d8 HB8 H28 H18
  go_wp2_with fail
  go_region_held3 (fun w' => w'.cell? ⟨w6.heap.size, 0, none⟩ = some (.slice (some ⟨g6, 0, none⟩) ns1.length ns1.length) ∧ w'.cell? ⟨w7.heap.size, 0, none⟩ = some (.slice (some ⟨g7, 0, none⟩) ns2.length ns2.length) ∧ w'.cell? ⟨w.heap.size, 0, none⟩ = some (.slice a1 ns1.length cap1) ∧ w'.cell? ⟨w.heap.size + 1, 0, none⟩ = some (.slice a2 ns2.length cap2))
    (first
      | go_keep
      | exact ⟨keep_cell (bel_trans ((Below.refl w10.heap.size w10).drew.trans hb11) hb12) x10, keep_cell (bel_trans ((Below.refl w10.heap.size w10).drew.trans hb11) hb12) y10, keep_cell (bel_trans ((Below.refl w10.heap.size w10).drew.trans hb11) hb12) c10, keep_cell (bel_trans ((Below.refl w10.heap.size w10).drew.trans hb11) hb12) d10⟩
      | exact ⟨keep_cell ((Below.refl w10.heap.size w10).drew.trans hb11) x10, keep_cell ((Below.refl w10.heap.size w10).drew.trans hb11) y10, keep_cell ((Below.refl w10.heap.size w10).drew.trans hb11) c10, keep_cell ((Below.refl w10.heap.size w10).drew.trans hb11) d10⟩
      | fail)
    (first
      | (go_at_call 21; refine (toLevel_any _ ns2 _ (by exact HN2.out.keep HB10.out.drew) hlen2 HKL2.out).mono ?_; rintro e w11 ⟨g11, rfl, hn11, hg11, hb11⟩)
      | (go_at_call 23; refine (eqLevel_any _ _ ns2 _ (by exact H210.out.keep ((Below.refl w10.heap.size w10).drew.trans hb11)) hn11.at).mono ?_; rintro e w12 ⟨rfl, hb12⟩)
      | fail)
  have hbw12 : Below w10.heap.size w10 w12 := bel_trans ((Below.refl w10.heap.size w10).drew.trans hb11) hb12
  have hbel12 := bel_trans HB10.out hbw12
  clear hn11 hb11 hb12 hbw12
  go_wp2_with fail
  go_ret
  exact ⟨rfl, hbel12⟩

set_option maxRecDepth 100000 in
theorem leq_lifted (os : Os) (started : os.Started) (H : Type) (enc : TypeId × Value → H) :
    ReturnsInHanded {} Try.checked os 7 .any (Rows.fnExactLevelLeqSpec.pre6 enc Try.prog Try.f7 Rows.fnExactLevelLeqRow.domain false) (Rows.fnExactLevelLeqSpec.post enc Try.prog Try.f7 false true false false) := by
  refine returnsInHanded_of_change (C := Try.checked) leq_own started (by kernel_rfl) Try.func7
    (ChangeSpec.witness6 (enc := enc) (C := Try.checked) false ⟨#[], #[.agg #[.slice none 0 0], .agg #[.slice none 0 0]], []⟩ 8 (by kernel_rfl) (by kernel_rfl) (by kernel_rfl) (by kernel_rfl)) ?_
  intro W base args ds gs before hval0 hW hcnd _
  have hval : ∀ (j : Nat) t v, Try.f7.params[j]? = some t → args[j]? = some v → Value.okWide Try.prog W .any base t v := hval0
  have hW' := hW
  obtain ⟨p, q, hA0, hV, rfl, hfz, hnd⟩ := hW
  have hA : DataW.TrodAll enc Try.prog W 0 (fun _ => true) true Try.f7.params.toList args.toList ds p := hA0
  rw [Try.params7] at hA hval
  obtain ⟨v0, vs0, d0, ds0, p0, q0, hargs, rfl, rfl, h0, r0⟩ := trodAll_cons hA
  obtain ⟨v1, vs1, d1, ds1, p1, q1, rfl, rfl, rfl, h1, r1⟩ := trodAll_cons r0
  obtain ⟨rfl, rfl, rfl⟩ := trodAll_nil r1
  obtain rfl : args = #[v0, v1] := by cases args; simp_all
  obtain ⟨rfl, rfl⟩ := trodVars_none hV
  have k0 := h0
  have k1 := h1
  have lt0 : ∀ x ∈ p0, x.block < W.heap.size := by obtain ⟨m, hm⟩ := k0; exact DataW.trod_lt m _ _ _ hm
  have lt1 : ∀ x ∈ p1, x.block < W.heap.size := by obtain ⟨m, hm⟩ := k1; exact DataW.trod_lt m _ _ _ hm
  obtain ⟨u0, rfl, ns1, hns1, hsz1⟩ := open_level (hval 0 25 v0 rfl rfl) h0
  obtain ⟨u1, rfl, ns2, hns2, hsz2⟩ := open_level (hval 1 25 v1 rfl rfl) h1
  clear hA0 hval0
  refine (leq_walk u0 u1 ns1 ns2 W hns1 hns2 hsz1 hsz2).mono fun e W' ⟨he, bel⟩ => ?_
  subst he
  exact ⟨_, rfl, _, _, _, [], _, [], hW', trodAll_mk1 (shut_bool Try.underlying4 _), (trodAll_cons_mk (Below.trod leq_laidOut (by kernel_rfl) (of_decide_eq_true (by kernel_rfl)) k0 bel lt0) (trodAll_cons_mk (Below.trod leq_laidOut (by kernel_rfl) (of_decide_eq_true (by kernel_rfl)) k1 bel lt1) trodAll_mk0)), rfl, bel.frame _, fun h => by cases h⟩

theorem leq_over : Rows.fnExactLevelLeqRow.holds Try.pinned (OpenSpec.ofChange Rows.fnExactLevelLeqSpec) :=
  OpenClaim.holds_of_wide 7 Try.f7 rfl rfl rfl rfl rfl rfl rfl ⟨rfl, rfl, rfl, rfl, rfl⟩ rfl rfl rfl rfl rfl (by kernel_rfl) Try.func7 (by kernel_rfl)
    (of_decide_eq_true (by kernel_rfl)) (by unfold Func.isWrapper; first | (rw [if_pos (by decide +kernel)]; kernel_rfl) | (rw [if_neg (by decide +kernel)]; exact ⟨rfl, rfl⟩))
    (fun os started H enc _ => leq_lifted os started H enc)

theorem fnExactLevelLeq_holds : Rows.FnExactLevelLeqSaid :=
  leq_over
#print axioms fnExactLevelLeq_holds
end Go.Proofs.Ytnhkpmgfgiolbaa
