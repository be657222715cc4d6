/- What the comparing of two terms (eqTerm and what it calls) answers at two terms with the same nodes: true; nothing that was there is written. -/
import Derived.Test.YtjkkojefpecbfaaGreatLib
import Derived.Test.YtjkkojefpecbfaaGreatEq
import Derived.Test.YtjkkojefpecbfaaGreatStA
import Derived.Test.YtjkkojefpecbfaaGreatLwA
import Derived.Test.YtjkkojefpecbfaaGreatTTm
import Derived.Deep.RegionHeld3
import Derived.Deep.CutRange
import Derived.Deep.Upon
namespace Go.Proofs.YtjkkojefpecbfaaGreat
open Go.ChangeShapes Go.WideShapes Go.ChangeAt Go.RowKit

set_option maxHeartbeats 1000000 in
theorem eqLevelS_any (v1 v2 : Value) (ls : List (List Nd)) (w : World) (h1 : LevsAt w v1 ls) (h2 : LevsAt w v2 ls) :
    Calls Tryz.prog 37 #[v1, v2] w fun e w' => e = .returned (.bool true) ∧ Below w.heap.size w w' := by
  obtain ⟨a1, cap1, rfl, hl1, hm1, hc1⟩ := h1
  obtain ⟨a2, cap2, rfl, hl2, hm2, hc2⟩ := h2
  unfold maxLen at hm1 hm2
  have H1 : Hid (0 < ls.length → ∃ b off, a1 = some ⟨b, off, none⟩ ∧ ∀ i (h : i < ls.length), ∃ u, w.cell? ⟨b, off + i, none⟩ = some u ∧ NodesAt w u ls[i]) := hc1
  have H2 : Hid (0 < ls.length → ∃ b off, a2 = some ⟨b, off, none⟩ ∧ ∀ i (h : i < ls.length), ∃ u, w.cell? ⟨b, off + i, none⟩ = some u ∧ NodesAt w u ls[i]) := hc2
  clear hc1 hc2
  go_enter Tryz.func37, Tryz.ntmps37
  go_wp2_with fail
  go_loopw [5] (fun i wr => ∃ (k : Nat), k ≤ ls.length ∧ i = .int .i64 k ∧ Below w.heap.size w wr) (fun i _ => ls.length - (intOf i).toNat)
  case atStart => exact ⟨0, by omega, rfl, Below.refl _ _⟩
  case round =>
    obtain ⟨k, hk, rfl, hbel⟩ := hrel
    by_cases hlt : k < ls.length
    · obtain ⟨b1, o1, rfl, c1⟩ := H1.out (by omega)
      obtain ⟨b2, o2, rfl, c2⟩ := H2.out (by omega)
      obtain ⟨u1, p1, p2⟩ := c1 k hlt
      obtain ⟨u2, q1, q2⟩ := c2 k hlt
      have p1' := keep_cell hbel p1
      have q1' := keep_cell hbel q1
      have P2 := hide (p2.keep hbel)
      have Q2 := hide (q2.keep hbel)
      have hlt' : (k : Int) < ls.length := by omega
      clear c1 c2 H1 H2 p1 q1
      generalize ls[k] = ns at *
      obtain ⟨ua, uc, rfl, _, _, _⟩ := p2
      obtain ⟨va, vc, rfl, _, _, _⟩ := q2
      go_wp2_with fail
      go_region_with (go_at_call 74; refine (eqLevel_any _ _ ns _ ?_ ?_).mono ?_; exact P2.out.keep (below_drewN (Below.refl _ _) _); exact Q2.out.keep (below_drewN (Below.refl _ _) _); rintro e w1 ⟨rfl, hb⟩)
      all_goals
        go_wp2_with fail
        go_roundw
        case rel => exact ⟨k + 1, by omega, by go_num, hbel.drew.trans (hb.mono hbel.size)⟩
        case measure => simp [intOf]; omega
    · go_wp2_with fail
      go_ret
      exact ⟨rfl, hbel⟩

set_option maxHeartbeats 1000000 in
theorem eqNode_any (td : Td) (l1 k1 l2 k2 : Value) (w : World) (hl1 : LevsAt w l1 td.lv) (hl2 : LevsAt w l2 td.lv) (h1 : IntsAt w k1 td.kids) (h2 : IntsAt w k2 td.kids) :
    Calls Tryz.prog 104 #[.agg #[.int .i64 td.k, .int .i64 td.n, .int .i64 td.m, .string td.s, l1, k1], .agg #[.int .i64 td.k, .int .i64 td.n, .int .i64 td.m, .string td.s, l2, k2]] w fun e w' => e = .returned (.bool true) ∧ Below w.heap.size w w' := by
  have b2 : ∀ o1 o2, Below w.heap.size w ((w.alloc o1).alloc o2) := fun o1 o2 => (((Below.refl w.heap.size w).alloc (Nat.le_refl _) o1).alloc (by simp) o2)
  have H1 : Hid (∀ o1 o2, IntsAt ((w.alloc o1).alloc o2) k1 td.kids) := fun o1 o2 => h1.keep (b2 o1 o2)
  have H2 : Hid (∀ o1 o2, IntsAt ((w.alloc o1).alloc o2) k2 td.kids) := fun o1 o2 => h2.keep (b2 o1 o2)
  have L1 : Hid (∀ o1 o2, LevsAt ((w.alloc o1).alloc o2) l1 td.lv) := fun o1 o2 => hl1.keep (b2 o1 o2)
  have L2 : Hid (∀ o1 o2, LevsAt ((w.alloc o1).alloc o2) l2 td.lv) := fun o1 o2 => hl2.keep (b2 o1 o2)
  have HB2 := hide b2
  obtain ⟨a1, cap1, rfl, _, _, _⟩ := h1
  obtain ⟨a2, cap2, rfl, _, _, _⟩ := h2
  obtain ⟨la1, lc1, rfl, _, _, _⟩ := hl1
  obtain ⟨la2, lc2, rfl, _, _, _⟩ := hl2
  clear b2
  go_enter Tryz.func104, Tryz.ntmps104
  go_wp2_with fail
  refine (eqLevelS_any _ _ td.lv _ (L1.out _ _) (L2.out _ _)).mono ?_
  rintro e w1 ⟨rfl, hb⟩
  have x1 : w1.cell? ⟨w.heap.size, 5, none⟩ = some (.slice a1 td.kids.length cap1) := keep_cell hb (by simp [go_sem])
  have x2 : w1.cell? ⟨w.heap.size + 1, 5, none⟩ = some (.slice a2 td.kids.length cap2) := keep_cell hb (by simp [go_sem])
  have HB := hide hb
  clear hb
  go_wp2_with (go_at_call 152; refine (eqIntS_any _ _ td.kids _ ((H1.out _ _).keep HB.out) ((H2.out _ _).keep HB.out)).mono ?_; rintro e w2 ⟨rfl, n, rfl⟩)
  go_ret
  exact ⟨rfl, below_drewN ((HB2.out _ _).trans (HB.out.mono (by simp; omega))) n⟩

set_option maxHeartbeats 1000000 in
theorem eqNodeS_any (v1 v2 : Value) (ts : List Td) (w : World) (h1 : TNodesAt w v1 ts) (h2 : TNodesAt w v2 ts) :
    Calls Tryz.prog 56 #[v1, v2] w fun e w' => e = .returned (.bool true) ∧ Below w.heap.size w w' := by
  obtain ⟨a1, cap1, rfl, hl1, hm1, hc1⟩ := h1
  obtain ⟨a2, cap2, rfl, hl2, hm2, hc2⟩ := h2
  unfold maxLen at hm1 hm2
  have H1 : Hid (0 < ts.length → ∃ b off, a1 = some ⟨b, off, none⟩ ∧ ∀ i (h : i < ts.length), TNodeAt w b (off + i * 6) ts[i]) := hc1
  have H2 : Hid (0 < ts.length → ∃ b off, a2 = some ⟨b, off, none⟩ ∧ ∀ i (h : i < ts.length), TNodeAt w b (off + i * 6) ts[i]) := hc2
  clear hc1 hc2
  go_enter Tryz.func56, Tryz.ntmps56
  go_wp2_with fail
  go_loopw [5] (fun i wr => ∃ (k : Nat), k ≤ ts.length ∧ i = .int .i64 k ∧ Below w.heap.size w wr) (fun i _ => ts.length - (intOf i).toNat)
  case atStart => exact ⟨0, by omega, rfl, Below.refl _ _⟩
  case round =>
    obtain ⟨k, hk, rfl, hbel⟩ := hrel
    by_cases hlt : k < ts.length
    · obtain ⟨b1, o1, rfl, c1⟩ := H1.out (by omega)
      obtain ⟨b2, o2, rfl, c2⟩ := H2.out (by omega)
      have n1 := (c1 k hlt).keep hbel
      have n2 := (c2 k hlt).keep hbel
      have hlt' : (k : Int) < ts.length := by omega
      clear c1 c2 H1 H2
      generalize ts[k] = td at *
      obtain ⟨p1, p2, p3, p4, l1, p5, hl1', k1, p6, hk1⟩ := n1
      obtain ⟨q1, q2, q3, q4, l2, q5, hl2', k2, q6, hk2⟩ := n2
      have L1 := hide hl1'
      have L2 := hide hl2'
      have K1 := hide hk1
      have K2 := hide hk2
      obtain ⟨la1, lc1, rfl, _, _, _⟩ := hl1'
      obtain ⟨la2, lc2, rfl, _, _, _⟩ := hl2'
      obtain ⟨ka1, kc1, rfl, _, _, _⟩ := hk1
      obtain ⟨ka2, kc2, rfl, _, _, _⟩ := hk2
      go_wp2_with fail
      go_region_with (go_at_call 104; refine (eqNode_any td _ _ _ _ _ ?_ ?_ ?_ ?_).mono ?_; exact L1.out.keep (below_drewN (Below.refl _ _) _); exact L2.out.keep (below_drewN (Below.refl _ _) _); exact K1.out.keep (below_drewN (Below.refl _ _) _); exact K2.out.keep (below_drewN (Below.refl _ _) _); rintro e w1 ⟨rfl, hb⟩)
      all_goals
        go_wp2_with fail
        go_roundw
        case rel => exact ⟨k + 1, by omega, by go_num, hbel.drew.trans (hb.mono hbel.size)⟩
        case measure => simp [intOf]; omega
    · go_wp2_with fail
      go_ret
      exact ⟨rfl, hbel⟩

set_option maxHeartbeats 1000000 in
theorem eqTerm_any (v1 v2 : Value) (ts : List Td) (w : World) (h1 : TNodesAt w v1 ts) (h2 : TNodesAt w v2 ts) :
    Calls Tryz.prog 16 #[.agg #[v1], .agg #[v2]] w fun e w' => e = .returned (.bool true) ∧ Below w.heap.size w w' := by
  have H1 : Hid (∀ o1 o2, TNodesAt ((w.alloc o1).alloc o2) v1 ts) := fun o1 o2 => h1.keep (((Below.refl w.heap.size w).alloc (Nat.le_refl _) o1).alloc (by simp) o2)
  have H2 : Hid (∀ o1 o2, TNodesAt ((w.alloc o1).alloc o2) v2 ts) := fun o1 o2 => h2.keep (((Below.refl w.heap.size w).alloc (Nat.le_refl _) o1).alloc (by simp) o2)
  obtain ⟨a1, cap1, rfl, _, _, _⟩ := h1
  obtain ⟨a2, cap2, rfl, _, _, _⟩ := h2
  go_enter Tryz.func16, Tryz.ntmps16
  go_wp2_with (go_at_call 56; refine (eqNodeS_any _ _ ts _ (H1.out _ _) (H2.out _ _)).mono ?_; rintro e w1 ⟨rfl, hb⟩)
  go_ret
  exact ⟨rfl, (((Below.refl w.heap.size w).alloc (Nat.le_refl _) _).alloc (by simp) _).trans (hb.mono (by simp; omega))⟩
end Go.Proofs.YtjkkojefpecbfaaGreat

/- The walk of the law FnExactLift. -/
namespace Go.Proofs.YtjkkojefpecbfaaGreat
open Go.ChangeShapes Go.WideShapes Go.ChangeAt Go.RowKit

set_option maxRecDepth 100000 in
set_option maxHeartbeats 8000000 in
theorem li_walk (v : Value) (ts : List Td) (f by' : Int) (w : World) (hn : TNodesAt w v ts) (hz : ∀ td ∈ ts, TLens td) :
    Calls Tryz.prog 5 #[.agg #[v], .int .i64 f, .int .i64 by'] w fun e w' => e = .returned (.bool true) ∧ Below w.heap.size w w' := by
  have HN := hide hn
  have HZ := hide hz
  obtain ⟨a, cap, rfl, _, _, _⟩ := hn
  clear hz
  have b0 : Hid (∀ o, Below w.heap.size w (w.alloc o)) := fun o => bel_alloc (Below.refl _ _) o
  by_cases hbig : (1048576 : Int) < (tmSize ts : Nat)
  · have HL : Hid (leftOf 1048576 (tmSize ts) = -1) := by show leftOf _ _ = _; rw [leftOf, if_pos hbig]
    clear hbig
    go_enter Tryz.func5, Tryz.ntmps5
    go_wp2_with fail
    refine (szTerm_any _ ts _ _ (HN.out.keep (b0.out _)) HZ.out (by omega) (by omega)).mono ?_
    rintro e w1 ⟨rfl, hb1⟩
    rw [HL.out]
    have hbel1 := bel_trans (b0.out _) hb1
    clear hb1
    go_wp2_with fail
    go_ret
    exact ⟨rfl, hbel1⟩
  obtain ⟨M, hM⟩ : ∃ M : Int, M = 1048576 - (tmSize ts : Nat) := ⟨_, rfl⟩
  have hM0 : 0 ≤ M := by omega
  have HL : Hid (leftOf 1048576 (tmSize ts) = M) := by show leftOf _ _ = _; rw [leftOf, if_neg hbig, hM]
  have hlen : ts.length ≤ 1048576 := Nat.le_trans (show ts.length ≤ tmSize ts by unfold tmSize; omega) (by omega)
  have HSM := hide (tsmall_of (show tmSize ts ≤ 1048576 by omega))
  have HSPL := hide (spell_of (show tmSize ts ≤ 1048576 by omega))
  have HCT : Hid (costT ts ≤ 4200000) := by show _ ≤ _; have := costT_sum ts; unfold tmSize at hbig; omega
  have dM : decide (M < 0) = false := by simp; omega
  clear hbig hM
  obtain ⟨T, hT⟩ := tree_for ts
  obtain ⟨A, hA⟩ : ∃ A, A = liftA ts T f by' := ⟨_, rfl⟩
  have HOK : Hid (AnsOk A) := by show AnsOk _; rw [hA]; exact lift_ok f by' hT
  have HSP : Hid (∀ (v : Value) (w : World), TNodesAt w v ts → Calls Tryz.prog 26 #[.agg #[v], .int .i64 f, .int .i64 by'] w fun e w' => SOut w.heap.size w' e A ∧ Below w.heap.size w w') := fun v w hv => by rw [hA]; exact specLift_any v ts T f by' w hv HZ.out (fun td h => (HSM.out td h).1) hT
  have HIM : Hid (∀ (v : Value) (w : World), TNodesAt w v ts → Calls Tryz.prog 27 #[.agg #[v], .int .i64 f, .int .i64 by'] w fun e w' => TOut w.heap.size w' e A ∧ Below w.heap.size w w') := fun v w hv => by rw [hA]; exact implLift_any v ts T f by' w hv HZ.out HSM.out HSPL.out hT
  have HCP : Hid (∀ (v : Value) (w : World), TNodesAt w v ts → Calls Tryz.prog 14 #[.agg #[v]] w fun e w' => ∃ g, e = .returned (.agg #[.slice (some ⟨g, 0, none⟩) ts.length ts.length]) ∧ TsR w.heap.size w'.heap.size w' g ts.length ts.length ts ∧ w.heap.size ≤ g ∧ Below w.heap.size w w') := fun v w hv => toTerm_own v ts w hv hlen HSM.out
  clear hA hT
  obtain ⟨r, c⟩ := A
  have hself : (c != c) = false := by simp
  go_enter Tryz.func5, Tryz.ntmps5
  go_wp2_with fail
  refine (szTerm_any _ ts _ _ (HN.out.keep (b0.out _)) HZ.out (by omega) (by omega)).mono ?_
  rintro e w1 ⟨rfl, hb1⟩
  rw [HL.out]
  have cx := keep_cell (b := w.heap.size) (o := 0) (v := .slice a ts.length cap) hb1 (by simp [go_sem])
  have HB := hide (bel_trans (b0.out _) hb1)
  clear hb1 HL
  go_wp2_with fail
  refine (HCP.out _ _ (HN.out.keep HB.out)).mono ?_
  rintro e w2 ⟨g2, rfl, hn2, hg2, hb2⟩
  have cx := keep_cell hb2 cx
  have hx0 := lt_cell cx
  have HB := hide (bel_trans HB.out hb2)
  have HN2 := hide (hn2.nodes rfl)
  clear hb2 hn2
  go_wp2_with fail
  refine (HSP.out _ _ HN2.out).mono ?_
  rintro e w3 ⟨⟨v4, rfl, ho4⟩, hb3⟩
  have cx := keep_cell hb3 cx
  have HB := hide (bel_trans HB.out hb3)
  have HA4 := hide ho4
  have o1 := hb3.size
  obtain ⟨a4, c4, rfl⟩ := ho4.form
  clear hb3 ho4 HN2 HSP
  obtain ⟨W4, hW4⟩ : ∃ W4, W4 = w3.alloc (.cells #[.slice a4 r.length c4] 28) := ⟨_, rfl⟩
  have hbW : Below w3.heap.size w3 W4 := by rw [hW4]; exact bel_alloc (Below.refl _ _) _
  have c8 : W4.cell? ⟨w3.heap.size, 0, none⟩ = some (.slice a4 r.length c4) := by rw [hW4]; simp [go_sem]
  have o2 := lt_cell c8
  have cx := keep_cell hbW cx
  have HB := hide (bel_trans HB.out hbW)
  have HA4 : Hid (FrR w2.heap.size w3.heap.size W4 (.slice a4 r.length c4) r) := HA4.out.range.same (fun b _ q => hbW.block b q)
  go_upto_region 6 with fail
  rw [← hW4]
  clear hW4 hbW
  go_wp2_with fail
  refine (HCP.out _ _ (HN.out.keep HB.out)).mono ?_
  rintro e w5 ⟨g5, rfl, hn5, hg5, hb5⟩
  have cx := keep_cell hb5 cx
  have c8 := keep_cell hb5 c8
  have HB := hide (bel_trans HB.out hb5)
  have HA4 := hide (HA4.out.same (fun b _ q => hb5.block b (by omega)))
  have o3 := hb5.size
  have HX := hide hn5
  clear hb5 hn5 hg5
  obtain ⟨W6, hW6⟩ : ∃ W6, W6 = w5.alloc (.cells #[.slice (some ⟨g5, 0, none⟩) ts.length ts.length] 28) := ⟨_, rfl⟩
  have hbW : Below w5.heap.size w5 W6 := by rw [hW6]; exact bel_alloc (Below.refl _ _) _
  have c10 : W6.cell? ⟨w5.heap.size, 0, none⟩ = some (.slice (some ⟨g5, 0, none⟩) ts.length ts.length) := by rw [hW6]; simp [go_sem]
  have o4 := lt_cell c10
  have cx := keep_cell hbW cx
  have c8 := keep_cell hbW c8
  have HB := hide (bel_trans HB.out hbW)
  have HA4 := hide (HA4.out.same (fun b _ q => hbW.block b (by omega)))
  have HX := hide (HX.out.keep hbW (Nat.le_refl _))
  go_upto_region 7 with fail
  rw [← hW6]
  clear hW6 hbW
  go_wp2_with fail
  refine (HIM.out _ _ (HX.out.nodes rfl)).mono ?_
  rintro e w7 ⟨⟨v6, rfl, ho6⟩, hb7⟩
  have o5 := hb7.size
  obtain ⟨a6, c6, rfl⟩ := ho6.form
  obtain ⟨W8, hW8⟩ : ∃ W8, W8 = w7.alloc (.cells #[.slice a6 r.length c6] 28) := ⟨_, rfl⟩
  have hbW : Below w7.heap.size w7 W8 := by rw [hW8]; exact bel_alloc (Below.refl _ _) _
  have c11 : W8.cell? ⟨w7.heap.size, 0, none⟩ = some (.slice a6 r.length c6) := by rw [hW8]; simp [go_sem]
  have o6 := lt_cell c11
  have HE : Hid (LwS w W8 [(w.heap.size, .slice a ts.length cap), (w3.heap.size, .slice a4 r.length c4), (w5.heap.size, .slice (some ⟨g5, 0, none⟩) ts.length ts.length), (w7.heap.size, .slice a6 r.length c6)] w2.heap.size w3.heap.size W6.heap.size w7.heap.size (.slice a4 r.length c4) (.slice a6 r.length c6) r r) := by
    refine ⟨bel_trans HB.out (bel_trans hb7 hbW), by omega, HA4.out.same (fun b _ q => by rw [hbW.block b (by omega), hb7.block b (by omega)]), ho6.keep hbW (Nat.le_refl _), ?_⟩
    intro p hp
    simp only [List.mem_cons, List.not_mem_nil, or_false] at hp
    rcases hp with rfl | rfl | rfl | rfl
    · exact keep_cell hbW (keep_cell hb7 cx)
    · exact keep_cell hbW (keep_cell hb7 c8)
    · exact keep_cell hbW (keep_cell hb7 c10)
    · exact c11
  have HX := hide (HX.out.keep (bel_trans hb7 hbW) (by omega))
  clear hb7 ho6 cx c8 c10 c11 HB HA4
  have cx := HE.out.box (w.heap.size, .slice a ts.length cap) (by simp)
  have c8 := HE.out.box (w3.heap.size, .slice a4 r.length c4) (by simp)
  have c10 := HE.out.box (w5.heap.size, .slice (some ⟨g5, 0, none⟩) ts.length ts.length) (by simp)
  have c11 := HE.out.box (w7.heap.size, .slice a6 r.length c6) (by simp)
  simp only at cx c8 c10 c11
  go_upto_region 8 with fail
  rw [← hW8]
  clear hW8 hbW
  go_wp2_with fail
  refine (eqTerm_any _ _ r _ HE.out.a6.nodes HE.out.a4.at).mono ?_
  rintro e w9 ⟨rfl, hb9⟩
  have o7 := hb9.size
  have HE := hide (HE.out.keep hb9)
  have HX := hide (HX.out.keep hb9 (by omega))
  have cx := keep_cell hb9 cx
  have c8 := keep_cell hb9 c8
  have c10 := keep_cell hb9 c10
  have c11 := keep_cell hb9 c11
  clear hb9
  go_wp2_with fail
  go_region_held3 (fun w' => w'.cell? ⟨w5.heap.size, 0, none⟩ = some (.slice (some ⟨g5, 0, none⟩) ts.length ts.length) ∧ w'.cell? ⟨w.heap.size, 0, none⟩ = some (.slice a ts.length cap))
    (first
      | go_keep
      | (go_split_ands; exact ⟨keep_cell hb11 (by assumption), keep_cell hb11 (by assumption)⟩)
      | (go_split_ands; exact ⟨keep_cell hb10 (by assumption), keep_cell hb10 (by assumption)⟩)
      | fail)
    (first
      | (go_at_call 14; refine (HCP.out _ _ (by exact HN.out.keep HE.out.bel.drew)).mono ?_; rintro e w10 ⟨g10, rfl, hn10, hg10, hb10⟩)
      | (go_at_call 16; refine (eqTerm_any _ _ ts _ (by exact (HX.out.nodes rfl).keep ((Below.refl w9.heap.size w9).drew.trans hb10)) (hn10.nodes rfl)).mono ?_; rintro e w11 ⟨rfl, hb11⟩)
      | fail)
  have hb9b : Below w9.heap.size w9 w11 := (Below.refl w9.heap.size w9).drew.trans (hb10.trans (hb11.mono hb10.size))
  clear hn10 hb10 hb11 hg10
  have o8 := hb9b.size
  have HE := hide (HE.out.keep hb9b)
  have HX := hide (HX.out.keep hb9b (by omega))
  have cx := keep_cell hb9b cx
  have c8 := keep_cell hb9b c8
  have c10 := keep_cell hb9b c10
  have c11 := keep_cell hb9b c11
  clear hb9b
  have HM1 := hide (markTerm_any W4.heap.size w5.heap.size g5 ts.length ts 1 w11 HX.out (by omega) HSM.out hlen (by omega) (by have := HCT.out; omega))
  rw [show ((1 : Nat) : Int) = 1 from rfl] at HM1
  obtain ⟨K1, hK1⟩ : ∃ K1, K1 = 1 + costT ts := ⟨_, rfl⟩
  rw [← hK1] at HM1
  have dK : decide ((K1 : Int) < 0) = false := by simp
  clear hK1
  go_wp2_with fail
  refine HM1.out.mono ?_
  rintro e w12 ⟨rfl, hc12⟩
  have HE : Hid (LwS w w12 _ _ _ _ _ _ _ _ _) := HE.out.chg hc12 (by omega) (by omega) (by omega) (by
    intro p hp
    simp only [List.mem_cons, List.not_mem_nil, or_false] at hp
    rcases hp with rfl | rfl | rfl | rfl <;> simp only <;> omega)
  have o9 := hc12.1.size
  clear hc12 HM1 HX cx c8 c10 c11
  have cx := HE.out.box (w.heap.size, .slice a ts.length cap) (by simp)
  have c8 := HE.out.box (w3.heap.size, .slice a4 r.length c4) (by simp)
  have c11 := HE.out.box (w7.heap.size, .slice a6 r.length c6) (by simp)
  simp only at cx c8 c11
  go_wp2_with fail
  refine (eqTerm_any _ _ r _ HE.out.a6.nodes HE.out.a4.at).mono ?_
  rintro e w13 ⟨rfl, hb13⟩
  have o10 := hb13.size
  have HE := hide (HE.out.keep hb13)
  have cx := keep_cell hb13 cx
  have c8 := keep_cell hb13 c8
  have c11 := keep_cell hb13 c11
  clear hb13
  obtain ⟨k1, k2, k3⟩ := HOK.out.small
  have HK1 : Hid (∀ td ∈ r, TSmall td) := k1
  have HM2 := hide (markTerm_V W6.heap.size w7.heap.size _ r 1 w13 HE.out.a6 (by omega) (by omega) HK1.out (by simp only at k2; omega) (by omega) (by simp only at k3; omega))
  rw [show ((1 : Nat) : Int) = 1 from rfl] at HM2
  obtain ⟨K2, hK2⟩ : ∃ K2, K2 = 1 + costT r := ⟨_, rfl⟩
  have HK2 := hide hK2
  rw [← hK2] at HM2
  have hk50 : K2 ≤ 50000000 := by simp only at k3; omega
  clear hK2 k1 k2 k3
  go_wp2_with fail
  refine HM2.out.mono ?_
  rintro e w14 ⟨rfl, hv14, hc14⟩
  have HE : Hid (LwS w w14 _ _ _ _ _ _ _ _ (markT 1 r)) := HE.out.mark hv14 hc14 (by omega) (by omega) (by
    intro p hp
    simp only [List.mem_cons, List.not_mem_nil, or_false] at hp
    rcases hp with rfl | rfl | rfl | rfl <;> simp only <;> omega)
  have o11 := hc14.1.size
  clear hv14 hc14 HM2 cx c8 c11
  have cx := HE.out.box (w.heap.size, .slice a ts.length cap) (by simp)
  have c8 := HE.out.box (w3.heap.size, .slice a4 r.length c4) (by simp)
  have c11 := HE.out.box (w7.heap.size, .slice a6 r.length c6) (by simp)
  simp only at cx c8 c11
  have HH := hide (show ∀ W, TNodesAt W (.slice a6 r.length c6) (markT 1 r) → Calls Tryz.prog 20 #[.agg #[.slice a6 r.length c6], .int .i64 1] W fun e w' => e = .returned (.int .i64 (K2 : Int)) ∧ Below W.heap.size W w' from fun W hW => by
    have := heldTerm_any _ r 1 W hW HK1.out (by omega) (by have := HK2.out; omega)
    rw [← HK2.out] at this
    exact this)
  have hKK : ((K2 : Int) != (K2 : Int)) = false := by simp
  have dK2 : decide ((K2 : Int) < 0) = false := by simp
  go_wp2_with fail
  refine (HH.out _ HE.out.a6.nodes).mono ?_
  rintro e w15 ⟨rfl, hb15⟩
  have HE := hide (HE.out.keep hb15)
  have cx := keep_cell hb15 cx
  have c8 := keep_cell hb15 c8
  have c11 := keep_cell hb15 c11
  have o12 := hb15.size
  clear hb15
  go_wp2_with fail
  refine (HCP.out _ _ (HN.out.keep HE.out.bel)).mono ?_
  rintro e w16 ⟨g16, rfl, hn16, hg16, hb16⟩
  have HE := hide (HE.out.keep hb16)
  have c8 := keep_cell hb16 c8
  have c11 := keep_cell hb16 c11
  have HN16 := hide (hn16.nodes rfl)
  clear hb16 hn16 cx
  go_wp2_with fail
  refine (HIM.out _ _ HN16.out).mono ?_
  rintro e w17 ⟨⟨v17, rfl, ho17⟩, hb17⟩
  obtain ⟨a17, c17, rfl⟩ := ho17.form
  obtain ⟨W18, hW18⟩ : ∃ W18, W18 = w17.alloc (.cells #[.slice a17 r.length c17] 28) := ⟨_, rfl⟩
  have hbW : Below w17.heap.size w17 W18 := by rw [hW18]; exact bel_alloc (Below.refl _ _) _
  have HE := hide ((HE.out.keep hb17).keep hbW)
  have c8 := keep_cell hbW (keep_cell hb17 c8)
  have c11 := keep_cell hbW (keep_cell hb17 c11)
  have c16 : W18.cell? ⟨w17.heap.size, 0, none⟩ = some (.slice a17 r.length c17) := by rw [hW18]; simp [go_sem]
  have o13 := lt_cell c16
  have HI17 := hide (ho17.nodes.keep hbW)
  clear hb17 ho17 HN16
  go_upto_region 25 with fail
  rw [← hW18]
  clear hW18 hbW
  go_wp2_with fail
  refine (eqTerm_any _ _ r _ HI17.out HE.out.a4.at).mono ?_
  rintro e w19 ⟨rfl, hb19⟩
  have HE := hide (HE.out.keep hb19)
  have c11 := keep_cell hb19 c11
  clear hb19 c8 c16 HI17
  go_wp2_with fail
  refine (HH.out _ HE.out.a6.nodes).mono ?_
  rintro e w20 ⟨rfl, hb20⟩
  have HE := hide (HE.out.keep hb20)
  clear hb20 c11
  go_wp2_with fail
  go_ret
  exact ⟨rfl, HE.out.bel⟩
end Go.Proofs.YtjkkojefpecbfaaGreat
