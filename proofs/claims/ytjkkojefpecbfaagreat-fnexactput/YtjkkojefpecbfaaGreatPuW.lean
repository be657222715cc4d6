/- The walk of the law FnExactPut. -/
import Derived.Test.YtjkkojefpecbfaaGreatSpI
import Derived.Test.YtjkkojefpecbfaaGreatLwA
import Derived.Test.YtjkkojefpecbfaaGreatTEq
import Derived.Test.YtjkkojefpecbfaaGreatStG
import Derived.Deep.RegionHeld3
import Derived.Deep.CutRange
import Derived.Deep.Upon
namespace Go.Proofs.YtjkkojefpecbfaaGreat
open Go.ChangeShapes Go.WideShapes Go.ChangeAt Go.RowKit

theorem var_sm : VarOk smP := fun _ => ⟨fun l hl => by simp at hl, by simp⟩
theorem put_ok' {bs aa : List Td} {TB TA : Tt} (hB : TreeFor bs TB) (hA : TreeFor aa TA) : AnsOk (putA bs aa TB TA) := by
  unfold putA
  split
  · rename_i h
    exact ansOk_fit (put_all var_sm TA (all_mono node_sm (hA h.2).2) TB 0 (all_mono node_sm (hB h.1).2))
  · exact .inl rfl
set_option maxRecDepth 100000 in
set_option maxHeartbeats 16000000 in
theorem pu_walk (v1 v2 : Value) (t1 t2 : List Td) (w : World) (hn1 : TNodesAt w v1 t1) (hn2 : TNodesAt w v2 t2) (hz1 : ∀ td ∈ t1, TLens td) (hz2 : ∀ td ∈ t2, TLens td) :
    Calls Tryz.prog 6 #[.agg #[v1], .agg #[v2]] w fun e w' => e = .returned (.bool true) ∧ Below w.heap.size w w' := by
  have HN1 := hide hn1
  have HN2 := hide hn2
  have HZ1 := hide hz1
  have HZ2 := hide hz2
  obtain ⟨a1, cap1, rfl, _, _, _⟩ := hn1
  obtain ⟨a2, cap2, rfl, _, _, _⟩ := hn2
  clear hz1 hz2
  obtain ⟨W0, hW0⟩ : ∃ W0, W0 = (w.alloc (.cells #[.slice a1 t1.length cap1] 24)).alloc (.cells #[.slice a2 t2.length cap2] 24) := ⟨_, rfl⟩
  have hb0 : Below w.heap.size w W0 := by rw [hW0]; exact bel_alloc (bel_alloc (Below.refl _ _) _) _
  have cx : W0.cell? ⟨w.heap.size, 0, none⟩ = some (.slice a1 t1.length cap1) := by rw [hW0]; simp [go_sem]
  have cy : W0.cell? ⟨w.heap.size + 1, 0, none⟩ = some (.slice a2 t2.length cap2) := by rw [hW0]; simp [go_sem]
  have lx := lt_cell cx
  have ly := lt_cell cy
  have HB := hide hb0
  clear hb0
  by_cases hbig : (1048576 : Int) < (tmSize t1 : Nat)
  · have HL : Hid (leftOf 1048576 (tmSize t1) = -1) := by show leftOf _ _ = _; rw [leftOf, if_pos hbig]
    clear hbig
    go_enter Tryz.func6, Tryz.ntmps6
    go_upto_region 1 with fail
    rw [← hW0]
    clear hW0
    go_wp2_with fail
    refine (szTerm_any _ t1 _ _ (HN1.out.keep HB.out) HZ1.out (by omega) (by omega)).mono ?_
    rintro e w1 ⟨rfl, hb1⟩
    rw [HL.out]
    have hbel1 := bel_trans HB.out hb1
    clear hb1
    go_wp2_with fail
    go_ret
    exact ⟨rfl, hbel1⟩
  obtain ⟨M, hM⟩ : ∃ M : Int, M = 1048576 - (tmSize t1 : Nat) := ⟨_, rfl⟩
  have hM0 : 0 ≤ M := by omega
  have HL : Hid (leftOf 1048576 (tmSize t1) = M) := by show leftOf _ _ = _; rw [leftOf, if_neg hbig, hM]
  have hlen1 : t1.length ≤ 1048576 := Nat.le_trans (show t1.length ≤ tmSize t1 by unfold tmSize; omega) (by omega)
  have HSM1 := hide (tsmall_of (show tmSize t1 ≤ 1048576 by omega))
  have HSPL1 := hide (spell_of (show tmSize t1 ≤ 1048576 by omega))
  have HCT1 : Hid (costT t1 ≤ 4200000) := by show _ ≤ _; have := costT_sum t1; unfold tmSize at hbig; omega
  have dM : decide (M < 0) = false := by simp; omega
  have hM1 : M ≤ 1048576 := by omega
  clear hbig hM
  by_cases hbig : M < (tmSize t2 : Nat)
  · have HL2 : Hid (leftOf M (tmSize t2) = -1) := by show leftOf _ _ = _; rw [leftOf, if_pos hbig]
    clear hbig
    go_enter Tryz.func6, Tryz.ntmps6
    go_upto_region 1 with fail
    rw [← hW0]
    clear hW0
    go_wp2_with fail
    refine (szTerm_any _ t1 _ _ (HN1.out.keep HB.out) HZ1.out (by omega) (by omega)).mono ?_
    rintro e w1 ⟨rfl, hb1⟩
    rw [HL.out]
    have cy := keep_cell hb1 cy
    have ly := lt_cell cy
    have HB1 := hide (bel_trans HB.out hb1)
    clear hb1 cx lx
    go_wp2_with fail
    refine (szTerm_any _ t2 _ _ (HN2.out.keep HB1.out) HZ2.out hM0 hM1).mono ?_
    rintro e w2 ⟨rfl, hb2⟩
    rw [HL2.out]
    have hbel2 := bel_trans HB1.out hb2
    clear hb2
    go_wp2_with fail
    go_ret
    exact ⟨rfl, hbel2⟩
  obtain ⟨N, hN⟩ : ∃ N : Int, N = M - (tmSize t2 : Nat) := ⟨_, rfl⟩
  have HL2 : Hid (leftOf M (tmSize t2) = N) := by show leftOf _ _ = _; rw [leftOf, if_neg hbig, hN]
  have hlen2 : t2.length ≤ 1048576 := Nat.le_trans (show t2.length ≤ tmSize t2 by unfold tmSize; omega) (by omega)
  have HSM2 := hide (tsmall_of (show tmSize t2 ≤ 1048576 by omega))
  have HSPL2 := hide (spell_of (show tmSize t2 ≤ 1048576 by omega))
  have HCT2 : Hid (costT t2 ≤ 4200000) := by show _ ≤ _; have := costT_sum t2; unfold tmSize at hbig; omega
  have dN : decide (N < 0) = false := by simp; omega
  clear hbig hN
  obtain ⟨T1, hT1⟩ := tree_for t1
  obtain ⟨T2, hT2⟩ := tree_for t2
  obtain ⟨A, hA⟩ : ∃ A, A = putA t1 t2 T1 T2 := ⟨_, rfl⟩
  have HOK : Hid (AnsOk A) := by show AnsOk _; rw [hA]; exact put_ok' hT1 hT2
  have HSP : Hid (∀ (v1 v2 : Value) (w : World), TNodesAt w v1 t1 → TNodesAt w v2 t2 → Calls Tryz.prog 28 #[.agg #[v1], .agg #[v2]] w fun e w' => (∃ v, e = .returned (.tuple #[.agg #[v], .int .i64 A.2]) ∧ FrR w.heap.size w'.heap.size w' v A.1) ∧ Below w.heap.size w w') := fun v1 v2 w h1 h2 => by
    rw [hA]
    exact (specPut_any v1 v2 t1 t2 T1 T2 w h1 h2 HZ1.out HZ2.out (fun td h => (HSM1.out td h).1) (fun td h => (HSM2.out td h).1) hT1 hT2).mono fun e w' ⟨⟨v, q1, q2⟩, q3⟩ => ⟨⟨v, q1, q2.range⟩, q3⟩
  have HIM : Hid (∀ (v1 v2 : Value) (w : World), TNodesAt w v1 t1 → TNodesAt w v2 t2 → Calls Tryz.prog 29 #[.agg #[v1], .agg #[v2]] w fun e w' => TOut w.heap.size w' e A ∧ Below w.heap.size w w') := fun v1 v2 w h1 h2 => by rw [hA]; exact implPut_any v1 v2 t1 t2 T1 T2 w h1 h2 HZ1.out HZ2.out HSM1.out HSM2.out HSPL1.out HSPL2.out hT1 hT2
  have HIF : Hid (∀ (v1 v2 : Value) (w : World), TNodesAt w v1 t1 → TNodesAt w v2 t2 → Calls Tryz.prog 29 #[.agg #[v1], .agg #[v2]] w fun e w' => (∃ v, e = .returned (.tuple #[.agg #[v], .int .i64 A.2]) ∧ FrR w.heap.size w'.heap.size w' v A.1) ∧ Below w.heap.size w w') := fun v1 v2 w h1 h2 => (HIM.out v1 v2 w h1 h2).mono fun e w' ⟨⟨v, q1, q2⟩, q3⟩ => ⟨⟨v, q1, q2.fr⟩, q3⟩
  have HC1 : Hid (∀ (v : Value) (w : World), TNodesAt w v t1 → Calls Tryz.prog 14 #[.agg #[v]] w fun e w' => ∃ g, e = .returned (.agg #[.slice (some ⟨g, 0, none⟩) t1.length t1.length]) ∧ TsR w.heap.size w'.heap.size w' g t1.length t1.length t1 ∧ w.heap.size ≤ g ∧ Below w.heap.size w w') := fun v w hv => toTerm_own v t1 w hv hlen1 HSM1.out
  have HC2 : Hid (∀ (v : Value) (w : World), TNodesAt w v t2 → Calls Tryz.prog 14 #[.agg #[v]] w fun e w' => ∃ g, e = .returned (.agg #[.slice (some ⟨g, 0, none⟩) t2.length t2.length]) ∧ TsR w.heap.size w'.heap.size w' g t2.length t2.length t2 ∧ w.heap.size ≤ g ∧ Below w.heap.size w w') := fun v w hv => toTerm_own v t2 w hv hlen2 HSM2.out
  clear hA hT1 hT2
  obtain ⟨r, c⟩ := A
  simp only at HSP HIF
  have hself : (c != c) = false := by simp
  go_enter Tryz.func6, Tryz.ntmps6
  go_upto_region 1 with fail
  rw [← hW0]
  clear hW0
  go_wp2_with fail
  refine (szTerm_any _ t1 _ _ (HN1.out.keep HB.out) HZ1.out (by omega) (by omega)).mono ?_
  rintro e w1 ⟨rfl, hb1⟩
  rw [HL.out]
  have cx := keep_cell hb1 cx
  have cy := keep_cell hb1 cy
  have lx := lt_cell cx
  have ly := lt_cell cy
  have HB := hide (bel_trans HB.out hb1)
  clear hb1 HL
  go_wp2_with fail
  refine (szTerm_any _ t2 _ _ (HN2.out.keep HB.out) HZ2.out hM0 hM1).mono ?_
  rintro e w2 ⟨rfl, hb2⟩
  rw [HL2.out]
  have cx := keep_cell hb2 cx
  have cy := keep_cell hb2 cy
  have lx := lt_cell cx
  have ly := lt_cell cy
  have HB := hide (bel_trans HB.out hb2)
  have hw0 : w.heap.size + 1 < w2.heap.size := ly
  clear hb2 HL2 dM hM0 hM1
  go_upto_region 8 with fail
  go_cut [6, 7] from 27 to 34 (fun b cc wx => ∃ (b8 : Nat) (v4 : Value), b = .pointer (some ⟨b8, 0, none⟩) ∧ cc = .int .i64 c ∧ Hid (Below w2.heap.size w2 wx ∧ wx.cell? ⟨b8, 0, none⟩ = some v4 ∧ w2.heap.size ≤ b8 ∧ FrR w2.heap.size wx.heap.size wx v4 r))
  case first =>
    clear HIM HIF HOK
    obtain ⟨Y0, hY0⟩ : ∃ Y0, Y0 = w2.drew := ⟨_, rfl⟩
    have hBY0 : Below w2.heap.size w2 Y0 := by rw [hY0]; exact (Below.refl _ _).drew
    refine anyE_region (L := 10) (S := fun w' : World => Below w2.heap.size w2 w') (by kernel_rfl) ?_
    rw [← hY0]
    clear hY0
    refine anyE_take 0 (v := ?v1) rfl (by kernel_rfl) (by kernel_rfl) (by kernel_rfl) (by kernel_rfl) (fun _ _ _ h => h) (by rfl) ?hy1 hBY0 ?rest1
    case hy1 =>
      intro wx hx
      have m1 := keep_cell hx cx
      have m2 := keep_cell hx cy
      go_simp
      try rfl
    case rest1 =>
    intro K hK
    go_simp
    refine hK.out _ ?_
    clear hK K
    refine anyE_take 2 (v := ?v2) rfl (by kernel_rfl) (by kernel_rfl) (by kernel_rfl) (by kernel_rfl) (fun _ _ _ h => h) (by rfl) ?hy2 hBY0 ?rest2
    case hy2 =>
      intro wx hx
      have m1 := keep_cell hx cx
      have m2 := keep_cell hx cy
      go_simp
      try rfl
    case rest2 =>
    intro K hK
    go_simp
    refine hK.out _ ?_
    clear hK K
    refine anyE_two 1 8 (by kernel_rfl) rfl rfl (fun K hK => ?_) (fun K hK => ?_)
    · go_simp
      refine (HC1.out _ Y0 (HN1.out.keep (bel_trans HB.out hBY0))).mono ?_
      rintro e Y1 ⟨g1, rfl, hn, hg, hb⟩
      have hBY1 := bel_trans hBY0 hb
      refine hK.out _ _ (fun _ => hBY1) ?_
      have HV1 := hide (hn.nodes rfl)
      have hzY1 := hb.size
      clear hK K hn hg hb
      refine anyE_two 3 8 (by kernel_rfl) rfl rfl (fun K hK => ?_) (fun K hK => ?_)
      · go_simp
        refine (HC2.out _ Y1 (HN2.out.keep (bel_trans HB.out hBY1))).mono ?_
        rintro e Y2 ⟨g2, rfl, hn, hg, hb⟩
        have hBY2 := bel_trans hBY1 hb
        refine hK.out _ _ (fun _ => hBY2) ?_
        have HV2 := hide (hn.nodes rfl)
        have HV1 := hide (HV1.out.keep hb)
        have hzY2 := hb.size
        clear hK K hn hg hb
        refine anyE_two 4 8 (by kernel_rfl) rfl rfl (fun K hK => ?_) (fun K hK => ?_)
        · go_simp
          refine (HSP.out _ _ Y2 HV1.out HV2.out).mono ?_
          rintro e Y3 ⟨⟨v4, rfl, hv⟩, hb⟩
          have hBY3 := bel_trans hBY2 hb
          refine hK.out _ _ (fun _ => hBY3) ?_
          have hzY3 := hb.size
          clear hK K hb HV1 HV2
          obtain ⟨a4, c4, rfl⟩ := hv.form
          refine anyE_take 5 (v := ?v3) rfl (by kernel_rfl) (by kernel_rfl) (by kernel_rfl) (by kernel_rfl) (fun _ _ _ h => h) (by rfl) ?hy3 hBY3 ?rest3
          case hy3 =>
            intro wx hx
            go_simp
            try rfl
          case rest3 =>
          intro K hK
          go_simp
          refine hK.out _ ?_
          clear hK K
          refine anyE_take 6 (v := ?v4) rfl (by kernel_rfl) (by kernel_rfl) (by kernel_rfl) (by kernel_rfl) (fun _ _ _ h => h) (by rfl) ?hy4 hBY3 ?rest4
          case hy4 =>
            intro wx hx
            go_simp
            try rfl
          case rest4 =>
          intro K hK
          go_simp
          refine hK.out _ ?_
          clear hK K
          refine anyE_take 7 (v := ?v5) rfl (by kernel_rfl) (by kernel_rfl) (by kernel_rfl) (by kernel_rfl) (fun _ _ _ h => h) (by rfl) ?hy5 hBY3 ?rest5
          case hy5 =>
            intro wx hx
            go_simp
            try rfl
          case rest5 =>
          intro K hK
          go_simp
          refine hK.out _ ?_
          clear hK K
          refine anyE_one 8 (by kernel_rfl) rfl (fun K hK => ?_)
          go_simp
          obtain ⟨Y4, hY4⟩ : ∃ X, X = Y3.alloc (.cells #[.slice none 0 0] 28) := ⟨_, rfl⟩
          rw [← hY4]
          have hb : Below Y3.heap.size Y3 Y4 := by rw [hY4]; exact bel_alloc (Below.refl _ _) _
          have hxY4 : Y4.heap[Y3.heap.size]? = some (.cells #[.slice none 0 0] 28 (0, 0)) := by rw [hY4]; exact heap_alloc_new _ _
          have hBY4 := bel_trans hBY3 hb
          refine hK.out _ _ (fun _ => hBY4) ?_
          have hzY4 := hb.size
          have hbx : w2.heap.size ≤ Y3.heap.size := hBY3.size
          have hbl := hb
          clear hK K hb hY4
          have cb : Y4.cell? ⟨Y3.heap.size, 0, none⟩ = some (.slice none 0 0) := by rw [Lib.cell_of_heap hxY4]; rfl
          have fb : Y4.frozen? ⟨Y3.heap.size, 0, none⟩ = false := Lib.frozen_of_heap hxY4 0
          have lb := lt_cell cb
          have hBs : Below w2.heap.size w2 (Y4.setCell ⟨Y3.heap.size, 0, none⟩ (.slice a4 r.length c4)) := hBY4.setCell (p := ⟨_, _, _⟩) (by show _ ≤ Y3.heap.size; omega) _
          have hcs : (Y4.setCell ⟨Y3.heap.size, 0, none⟩ (.slice a4 r.length c4)).cell? ⟨Y3.heap.size, 0, none⟩ = some (.slice a4 r.length c4) := by rw [Lib.cell_of_heap (set_one hxY4 _)]; rfl
          have hfr : FrR w2.heap.size (Y4.setCell ⟨Y3.heap.size, 0, none⟩ (.slice a4 r.length c4)).heap.size (Y4.setCell ⟨Y3.heap.size, 0, none⟩ (.slice a4 r.length c4)) (.slice a4 r.length c4) r := by
            rw [size_set]
            have hw0 := hBY2.size
            refine (hv.same (fun b q1 q2 => ?_)).mono (by omega) (by omega)
            rw [Below.heap_setCell _ _ _ b (by show b ≠ Y3.heap.size; omega)]
            exact hbl.block b q2
          refine anyE_one 9 (by kernel_rfl) rfl (fun K hK => ?_)
          go_simp
          refine hK.out _ _ (fun _ => hBs) ?_
          clear hK K
          refine anyE_one 10 (by kernel_rfl) rfl (fun K hK => ?_)
          go_simp
          refine hK.out _ _ (fun h => absurd rfl h) ?_
          clear hK K
          refine anyE_done (by kernel_rfl) ?_ _
          go_wp2_with fail
          go_meet
          case rel =>
          exact ⟨Y3.heap.size, .slice a4 r.length c4, rfl, rfl, hBs, hcs, by omega, hfr⟩
        · go_simp
          obtain ⟨Y5, hY5⟩ : ∃ X, X = Y2.alloc (.cells #[.slice none 0 0] 28) := ⟨_, rfl⟩
          rw [← hY5]
          have hb : Below Y2.heap.size Y2 Y5 := by rw [hY5]; exact bel_alloc (Below.refl _ _) _
          have hxY5 : Y5.heap[Y2.heap.size]? = some (.cells #[.slice none 0 0] 28 (0, 0)) := by rw [hY5]; exact heap_alloc_new _ _
          have hBY5 := bel_trans hBY2 hb
          refine hK.out _ _ (fun _ => hBY5) ?_
          have hzY5 := hb.size
          have hbx : w2.heap.size ≤ Y2.heap.size := hBY2.size
          have hbl := hb
          have HV1 := hide (HV1.out.keep hb)
          have HV2 := hide (HV2.out.keep hb)
          clear hK K hb hY5
          refine anyE_one 4 (by kernel_rfl) rfl (fun K hK => ?_)
          go_simp
          refine (HSP.out _ _ Y5 HV1.out HV2.out).mono ?_
          rintro e Y6 ⟨⟨v4, rfl, hv⟩, hb⟩
          have hBY6 := bel_trans hBY5 hb
          refine hK.out _ _ (fun _ => hBY6) ?_
          have hxl := (Array.getElem?_eq_some_iff.1 hxY5).1
          have hxY6 := (hb.block _ (Array.getElem?_eq_some_iff.1 hxY5).1).trans hxY5
          have hzY6 := hb.size
          clear hK K hb HV1 HV2
          obtain ⟨a4, c4, rfl⟩ := hv.form
          refine anyE_take 5 (v := ?v6) rfl (by kernel_rfl) (by kernel_rfl) (by kernel_rfl) (by kernel_rfl) (fun _ _ _ h => h) (by rfl) ?hy6 hBY6 ?rest6
          case hy6 =>
            intro wx hx
            go_simp
            try rfl
          case rest6 =>
          intro K hK
          go_simp
          refine hK.out _ ?_
          clear hK K
          refine anyE_take 6 (v := ?v7) rfl (by kernel_rfl) (by kernel_rfl) (by kernel_rfl) (by kernel_rfl) (fun _ _ _ h => h) (by rfl) ?hy7 hBY6 ?rest7
          case hy7 =>
            intro wx hx
            go_simp
            try rfl
          case rest7 =>
          intro K hK
          go_simp
          refine hK.out _ ?_
          clear hK K
          refine anyE_take 7 (v := ?v8) rfl (by kernel_rfl) (by kernel_rfl) (by kernel_rfl) (by kernel_rfl) (fun _ _ _ h => h) (by rfl) ?hy8 hBY6 ?rest8
          case hy8 =>
            intro wx hx
            go_simp
            try rfl
          case rest8 =>
          intro K hK
          go_simp
          refine hK.out _ ?_
          clear hK K
          have cb : Y6.cell? ⟨Y2.heap.size, 0, none⟩ = some (.slice none 0 0) := by rw [Lib.cell_of_heap hxY6]; rfl
          have fb : Y6.frozen? ⟨Y2.heap.size, 0, none⟩ = false := Lib.frozen_of_heap hxY6 0
          have lb := lt_cell cb
          have hBs : Below w2.heap.size w2 (Y6.setCell ⟨Y2.heap.size, 0, none⟩ (.slice a4 r.length c4)) := hBY6.setCell (p := ⟨_, _, _⟩) (by show _ ≤ Y2.heap.size; omega) _
          have hcs : (Y6.setCell ⟨Y2.heap.size, 0, none⟩ (.slice a4 r.length c4)).cell? ⟨Y2.heap.size, 0, none⟩ = some (.slice a4 r.length c4) := by rw [Lib.cell_of_heap (set_one hxY6 _)]; rfl
          have hfr : FrR w2.heap.size (Y6.setCell ⟨Y2.heap.size, 0, none⟩ (.slice a4 r.length c4)).heap.size (Y6.setCell ⟨Y2.heap.size, 0, none⟩ (.slice a4 r.length c4)) (.slice a4 r.length c4) r := by
            rw [size_set]
            have hw0 := hBY5.size
            refine (hv.same (fun b q1 q2 => ?_)).mono (by omega) (by omega)
            rw [Below.heap_setCell _ _ _ b (by show b ≠ Y2.heap.size; omega)]
            try rfl
          refine anyE_one 9 (by kernel_rfl) rfl (fun K hK => ?_)
          go_simp
          refine hK.out _ _ (fun _ => hBs) ?_
          clear hK K
          refine anyE_one 10 (by kernel_rfl) rfl (fun K hK => ?_)
          go_simp
          refine hK.out _ _ (fun h => absurd rfl h) ?_
          clear hK K
          refine anyE_done (by kernel_rfl) ?_ _
          go_wp2_with fail
          go_meet
          case rel =>
          exact ⟨Y2.heap.size, .slice a4 r.length c4, rfl, rfl, hBs, hcs, by omega, hfr⟩
      · go_simp
        obtain ⟨Y7, hY7⟩ : ∃ X, X = Y1.alloc (.cells #[.slice none 0 0] 28) := ⟨_, rfl⟩
        rw [← hY7]
        have hb : Below Y1.heap.size Y1 Y7 := by rw [hY7]; exact bel_alloc (Below.refl _ _) _
        have hxY7 : Y7.heap[Y1.heap.size]? = some (.cells #[.slice none 0 0] 28 (0, 0)) := by rw [hY7]; exact heap_alloc_new _ _
        have hBY7 := bel_trans hBY1 hb
        refine hK.out _ _ (fun _ => hBY7) ?_
        have hzY7 := hb.size
        have hbx : w2.heap.size ≤ Y1.heap.size := hBY1.size
        have hbl := hb
        have HV1 := hide (HV1.out.keep hb)
        clear hK K hb hY7
        refine anyE_one 3 (by kernel_rfl) rfl (fun K hK => ?_)
        go_simp
        refine (HC2.out _ Y7 (HN2.out.keep (bel_trans HB.out hBY7))).mono ?_
        rintro e Y8 ⟨g2, rfl, hn, hg, hb⟩
        have hBY8 := bel_trans hBY7 hb
        refine hK.out _ _ (fun _ => hBY8) ?_
        have HV2 := hide (hn.nodes rfl)
        have HV1 := hide (HV1.out.keep hb)
        have hxY8 := (hb.block _ (Array.getElem?_eq_some_iff.1 hxY7).1).trans hxY7
        have hzY8 := hb.size
        clear hK K hn hg hb
        refine anyE_one 4 (by kernel_rfl) rfl (fun K hK => ?_)
        go_simp
        refine (HSP.out _ _ Y8 HV1.out HV2.out).mono ?_
        rintro e Y9 ⟨⟨v4, rfl, hv⟩, hb⟩
        have hBY9 := bel_trans hBY8 hb
        refine hK.out _ _ (fun _ => hBY9) ?_
        have hxl := (Array.getElem?_eq_some_iff.1 hxY8).1
        have hxY9 := (hb.block _ (Array.getElem?_eq_some_iff.1 hxY8).1).trans hxY8
        have hzY9 := hb.size
        clear hK K hb HV1 HV2
        obtain ⟨a4, c4, rfl⟩ := hv.form
        refine anyE_take 5 (v := ?v9) rfl (by kernel_rfl) (by kernel_rfl) (by kernel_rfl) (by kernel_rfl) (fun _ _ _ h => h) (by rfl) ?hy9 hBY9 ?rest9
        case hy9 =>
          intro wx hx
          go_simp
          try rfl
        case rest9 =>
        intro K hK
        go_simp
        refine hK.out _ ?_
        clear hK K
        refine anyE_take 6 (v := ?v10) rfl (by kernel_rfl) (by kernel_rfl) (by kernel_rfl) (by kernel_rfl) (fun _ _ _ h => h) (by rfl) ?hy10 hBY9 ?rest10
        case hy10 =>
          intro wx hx
          go_simp
          try rfl
        case rest10 =>
        intro K hK
        go_simp
        refine hK.out _ ?_
        clear hK K
        refine anyE_take 7 (v := ?v11) rfl (by kernel_rfl) (by kernel_rfl) (by kernel_rfl) (by kernel_rfl) (fun _ _ _ h => h) (by rfl) ?hy11 hBY9 ?rest11
        case hy11 =>
          intro wx hx
          go_simp
          try rfl
        case rest11 =>
        intro K hK
        go_simp
        refine hK.out _ ?_
        clear hK K
        have cb : Y9.cell? ⟨Y1.heap.size, 0, none⟩ = some (.slice none 0 0) := by rw [Lib.cell_of_heap hxY9]; rfl
        have fb : Y9.frozen? ⟨Y1.heap.size, 0, none⟩ = false := Lib.frozen_of_heap hxY9 0
        have lb := lt_cell cb
        have hBs : Below w2.heap.size w2 (Y9.setCell ⟨Y1.heap.size, 0, none⟩ (.slice a4 r.length c4)) := hBY9.setCell (p := ⟨_, _, _⟩) (by show _ ≤ Y1.heap.size; omega) _
        have hcs : (Y9.setCell ⟨Y1.heap.size, 0, none⟩ (.slice a4 r.length c4)).cell? ⟨Y1.heap.size, 0, none⟩ = some (.slice a4 r.length c4) := by rw [Lib.cell_of_heap (set_one hxY9 _)]; rfl
        have hfr : FrR w2.heap.size (Y9.setCell ⟨Y1.heap.size, 0, none⟩ (.slice a4 r.length c4)).heap.size (Y9.setCell ⟨Y1.heap.size, 0, none⟩ (.slice a4 r.length c4)) (.slice a4 r.length c4) r := by
          rw [size_set]
          have hw0 := hBY8.size
          refine (hv.same (fun b q1 q2 => ?_)).mono (by omega) (by omega)
          rw [Below.heap_setCell _ _ _ b (by show b ≠ Y1.heap.size; omega)]
          try rfl
        refine anyE_one 9 (by kernel_rfl) rfl (fun K hK => ?_)
        go_simp
        refine hK.out _ _ (fun _ => hBs) ?_
        clear hK K
        refine anyE_one 10 (by kernel_rfl) rfl (fun K hK => ?_)
        go_simp
        refine hK.out _ _ (fun h => absurd rfl h) ?_
        clear hK K
        refine anyE_done (by kernel_rfl) ?_ _
        go_wp2_with fail
        go_meet
        case rel =>
        exact ⟨Y1.heap.size, .slice a4 r.length c4, rfl, rfl, hBs, hcs, by omega, hfr⟩
    · go_simp
      obtain ⟨Y10, hY10⟩ : ∃ X, X = Y0.alloc (.cells #[.slice none 0 0] 28) := ⟨_, rfl⟩
      rw [← hY10]
      have hb : Below Y0.heap.size Y0 Y10 := by rw [hY10]; exact bel_alloc (Below.refl _ _) _
      have hxY10 : Y10.heap[Y0.heap.size]? = some (.cells #[.slice none 0 0] 28 (0, 0)) := by rw [hY10]; exact heap_alloc_new _ _
      have hBY10 := bel_trans hBY0 hb
      refine hK.out _ _ (fun _ => hBY10) ?_
      have hzY10 := hb.size
      have hbx : w2.heap.size ≤ Y0.heap.size := hBY0.size
      have hbl := hb
      clear hK K hb hY10
      refine anyE_one 1 (by kernel_rfl) rfl (fun K hK => ?_)
      go_simp
      refine (HC1.out _ Y10 (HN1.out.keep (bel_trans HB.out hBY10))).mono ?_
      rintro e Y11 ⟨g1, rfl, hn, hg, hb⟩
      have hBY11 := bel_trans hBY10 hb
      refine hK.out _ _ (fun _ => hBY11) ?_
      have HV1 := hide (hn.nodes rfl)
      have hxY11 := (hb.block _ (Array.getElem?_eq_some_iff.1 hxY10).1).trans hxY10
      have hzY11 := hb.size
      clear hK K hn hg hb
      refine anyE_one 3 (by kernel_rfl) rfl (fun K hK => ?_)
      go_simp
      refine (HC2.out _ Y11 (HN2.out.keep (bel_trans HB.out hBY11))).mono ?_
      rintro e Y12 ⟨g2, rfl, hn, hg, hb⟩
      have hBY12 := bel_trans hBY11 hb
      refine hK.out _ _ (fun _ => hBY12) ?_
      have HV2 := hide (hn.nodes rfl)
      have HV1 := hide (HV1.out.keep hb)
      have hxY12 := (hb.block _ (Array.getElem?_eq_some_iff.1 hxY11).1).trans hxY11
      have hzY12 := hb.size
      clear hK K hn hg hb
      refine anyE_one 4 (by kernel_rfl) rfl (fun K hK => ?_)
      go_simp
      refine (HSP.out _ _ Y12 HV1.out HV2.out).mono ?_
      rintro e Y13 ⟨⟨v4, rfl, hv⟩, hb⟩
      have hBY13 := bel_trans hBY12 hb
      refine hK.out _ _ (fun _ => hBY13) ?_
      have hxl := (Array.getElem?_eq_some_iff.1 hxY12).1
      have hxY13 := (hb.block _ (Array.getElem?_eq_some_iff.1 hxY12).1).trans hxY12
      have hzY13 := hb.size
      clear hK K hb HV1 HV2
      obtain ⟨a4, c4, rfl⟩ := hv.form
      refine anyE_take 5 (v := ?v12) rfl (by kernel_rfl) (by kernel_rfl) (by kernel_rfl) (by kernel_rfl) (fun _ _ _ h => h) (by rfl) ?hy12 hBY13 ?rest12
      case hy12 =>
        intro wx hx
        go_simp
        try rfl
      case rest12 =>
      intro K hK
      go_simp
      refine hK.out _ ?_
      clear hK K
      refine anyE_take 6 (v := ?v13) rfl (by kernel_rfl) (by kernel_rfl) (by kernel_rfl) (by kernel_rfl) (fun _ _ _ h => h) (by rfl) ?hy13 hBY13 ?rest13
      case hy13 =>
        intro wx hx
        go_simp
        try rfl
      case rest13 =>
      intro K hK
      go_simp
      refine hK.out _ ?_
      clear hK K
      refine anyE_take 7 (v := ?v14) rfl (by kernel_rfl) (by kernel_rfl) (by kernel_rfl) (by kernel_rfl) (fun _ _ _ h => h) (by rfl) ?hy14 hBY13 ?rest14
      case hy14 =>
        intro wx hx
        go_simp
        try rfl
      case rest14 =>
      intro K hK
      go_simp
      refine hK.out _ ?_
      clear hK K
      have cb : Y13.cell? ⟨Y0.heap.size, 0, none⟩ = some (.slice none 0 0) := by rw [Lib.cell_of_heap hxY13]; rfl
      have fb : Y13.frozen? ⟨Y0.heap.size, 0, none⟩ = false := Lib.frozen_of_heap hxY13 0
      have lb := lt_cell cb
      have hBs : Below w2.heap.size w2 (Y13.setCell ⟨Y0.heap.size, 0, none⟩ (.slice a4 r.length c4)) := hBY13.setCell (p := ⟨_, _, _⟩) (by show _ ≤ Y0.heap.size; omega) _
      have hcs : (Y13.setCell ⟨Y0.heap.size, 0, none⟩ (.slice a4 r.length c4)).cell? ⟨Y0.heap.size, 0, none⟩ = some (.slice a4 r.length c4) := by rw [Lib.cell_of_heap (set_one hxY13 _)]; rfl
      have hfr : FrR w2.heap.size (Y13.setCell ⟨Y0.heap.size, 0, none⟩ (.slice a4 r.length c4)).heap.size (Y13.setCell ⟨Y0.heap.size, 0, none⟩ (.slice a4 r.length c4)) (.slice a4 r.length c4) r := by
        rw [size_set]
        have hw0 := hBY12.size
        refine (hv.same (fun b q1 q2 => ?_)).mono (by omega) (by omega)
        rw [Below.heap_setCell _ _ _ b (by show b ≠ Y0.heap.size; omega)]
        try rfl
      refine anyE_one 9 (by kernel_rfl) rfl (fun K hK => ?_)
      go_simp
      refine hK.out _ _ (fun _ => hBs) ?_
      clear hK K
      refine anyE_one 10 (by kernel_rfl) rfl (fun K hK => ?_)
      go_simp
      refine hK.out _ _ (fun h => absurd rfl h) ?_
      clear hK K
      refine anyE_done (by kernel_rfl) ?_ _
      go_wp2_with fail
      go_meet
      case rel =>
      exact ⟨Y0.heap.size, .slice a4 r.length c4, rfl, rfl, hBs, hcs, by omega, hfr⟩
  case rest =>
  obtain ⟨b8, v4, rfl, rfl, HCU⟩ := hcut
  have hb3 := HCU.out.1
  have c8 := HCU.out.2.1
  have l8 := lt_cell c8
  have hbx8 := l8
  have h8 := HCU.out.2.2.1
  have HA4 := hide HCU.out.2.2.2
  have o2 := hb3.size
  have cx := keep_cell hb3 cx
  have cy := keep_cell hb3 cy
  have lx' := lt_cell cx
  have ly' := lt_cell cy
  have HB := hide (bel_trans HB.out hb3)
  obtain ⟨a4, c4, rfl⟩ := HA4.out.form
  clear hb3 HCU HSP
  generalize hwc : wc.heap.size = sc at *
  have hsc : Hid (wc.heap.size = sc) := hwc
  clear hwc
  go_wp2_with fail
  refine (HC1.out _ _ (HN1.out.keep HB.out)).mono ?_
  rintro e w5 ⟨g5, rfl, hn5, hg5, hb5⟩
  have o3 : sc ≤ w5.heap.size := by have := hb5.size; have := hsc.out; omega
  have cx := keep_cell hb5 cx
  have cy := keep_cell hb5 cy
  have c8 := keep_cell hb5 c8
  have HB := hide (bel_trans HB.out hb5)
  have HA4 := hide (HA4.out.same (fun b _ q => hb5.block b (by have := hsc.out; omega)))
  have HX : Hid (TsR sc w5.heap.size w5 g5 t1.length t1.length t1) := by show TsR _ _ _ _ _ _ _; rw [← hsc.out]; exact hn5
  clear hb5 hn5 hg5 lx' ly' lx ly l8
  obtain ⟨W6, hW6⟩ : ∃ W6, W6 = w5.alloc (.cells #[.slice (some ⟨g5, 0, none⟩) t1.length t1.length] 28) := ⟨_, rfl⟩
  have hbW : Below w5.heap.size w5 W6 := by rw [hW6]; exact bel_alloc (Below.refl _ _) _
  have c10 : W6.cell? ⟨w5.heap.size, 0, none⟩ = some (.slice (some ⟨g5, 0, none⟩) t1.length t1.length) := by rw [hW6]; simp [go_sem]
  have o4 := lt_cell c10
  have cx := keep_cell hbW cx
  have cy := keep_cell hbW cy
  have c8 := keep_cell hbW c8
  have HB := hide (bel_trans HB.out hbW)
  have HA4 := hide (HA4.out.same (fun b _ q => hbW.block b (by omega)))
  have HX := hide (HX.out.keep hbW (Nat.le_refl _))
  have lx := lt_cell cx
  have ly := lt_cell cy
  have l8 := lt_cell c8
  go_upto_region 10 with fail
  rw [← hW6]
  clear hW6 hbW
  go_wp2_with fail
  refine (HC2.out _ _ (HN2.out.keep HB.out)).mono ?_
  rintro e w7 ⟨g7, rfl, hn7, hg7, hb7⟩
  have o5 := hb7.size
  have cx := keep_cell hb7 cx
  have cy := keep_cell hb7 cy
  have c8 := keep_cell hb7 c8
  have c10 := keep_cell hb7 c10
  have HB := hide (bel_trans HB.out hb7)
  have HA4 := hide (HA4.out.same (fun b _ q => hb7.block b (by omega)))
  have HX := hide (HX.out.keep hb7 (by omega))
  have HY := hide hn7
  clear hb7 hn7 hg7
  obtain ⟨W8, hW8⟩ : ∃ W8, W8 = w7.alloc (.cells #[.slice (some ⟨g7, 0, none⟩) t2.length t2.length] 28) := ⟨_, rfl⟩
  have hbW : Below w7.heap.size w7 W8 := by rw [hW8]; exact bel_alloc (Below.refl _ _) _
  have c11 : W8.cell? ⟨w7.heap.size, 0, none⟩ = some (.slice (some ⟨g7, 0, none⟩) t2.length t2.length) := by rw [hW8]; simp [go_sem]
  have o6 := lt_cell c11
  have cx := keep_cell hbW cx
  have cy := keep_cell hbW cy
  have c8 := keep_cell hbW c8
  have c10 := keep_cell hbW c10
  have HB := hide (bel_trans HB.out hbW)
  have HA4 := hide (HA4.out.same (fun b _ q => hbW.block b (by omega)))
  have HX := hide (HX.out.keep hbW (by omega))
  have HY := hide (HY.out.keep hbW (Nat.le_refl _))
  go_upto_region 11 with fail
  rw [← hW8]
  clear hW8 hbW
  go_wp2_with fail
  refine (HIM.out _ _ _ (HX.out.nodes rfl) (HY.out.nodes rfl)).mono ?_
  rintro e w9 ⟨⟨v6, rfl, ho6⟩, hb9⟩
  have o7 := hb9.size
  obtain ⟨a6, c6, rfl⟩ := ho6.form
  obtain ⟨W10, hW10⟩ : ∃ W10, W10 = w9.alloc (.cells #[.slice a6 r.length c6] 28) := ⟨_, rfl⟩
  have hbW : Below w9.heap.size w9 W10 := by rw [hW10]; exact bel_alloc (Below.refl _ _) _
  have c12 : W10.cell? ⟨w9.heap.size, 0, none⟩ = some (.slice a6 r.length c6) := by rw [hW10]; simp [go_sem]
  have o8 := lt_cell c12
  have HE : Hid (LwS w W10 [(w.heap.size, .slice a1 t1.length cap1), (w.heap.size + 1, .slice a2 t2.length cap2), (b8, .slice a4 r.length c4), (w5.heap.size, .slice (some ⟨g5, 0, none⟩) t1.length t1.length), (w7.heap.size, .slice (some ⟨g7, 0, none⟩) t2.length t2.length), (w9.heap.size, .slice a6 r.length c6)] w2.heap.size sc W8.heap.size w9.heap.size (.slice a4 r.length c4) (.slice a6 r.length c6) r r) := by
    refine ⟨bel_trans HB.out (bel_trans hb9 hbW), by omega, HA4.out.same (fun b _ q => by rw [hbW.block b (by omega), hb9.block b (by omega)]), ho6.keep hbW (Nat.le_refl _), ?_⟩
    intro p hp
    simp only [List.mem_cons, List.not_mem_nil, or_false] at hp
    rcases hp with rfl | rfl | rfl | rfl | rfl | rfl
    · exact keep_cell hbW (keep_cell hb9 cx)
    · exact keep_cell hbW (keep_cell hb9 cy)
    · exact keep_cell hbW (keep_cell hb9 c8)
    · exact keep_cell hbW (keep_cell hb9 c10)
    · exact keep_cell hbW (keep_cell hb9 c11)
    · exact c12
  have HX := hide (HX.out.keep (bel_trans hb9 hbW) (by omega))
  have HY := hide (HY.out.keep (bel_trans hb9 hbW) (by omega))
  clear hb9 ho6 cx cy c8 c10 c11 c12 HB HA4 lx ly l8
  have cx := HE.out.box (w.heap.size, .slice a1 t1.length cap1) (by simp)
  have cy := HE.out.box (w.heap.size + 1, .slice a2 t2.length cap2) (by simp)
  have c8 := HE.out.box (b8, .slice a4 r.length c4) (by simp)
  have c10 := HE.out.box (w5.heap.size, .slice (some ⟨g5, 0, none⟩) t1.length t1.length) (by simp)
  have c11 := HE.out.box (w7.heap.size, .slice (some ⟨g7, 0, none⟩) t2.length t2.length) (by simp)
  have c12 := HE.out.box (w9.heap.size, .slice a6 r.length c6) (by simp)
  simp only at cx cy c8 c10 c11 c12
  have l8 := lt_cell c8
  go_upto_region 12 with fail
  rw [← hW10]
  clear hW10 hbW
  go_wp2_with fail
  refine (eqTerm_any _ _ r _ HE.out.a6.nodes HE.out.a4.at).mono ?_
  rintro e w11 ⟨rfl, hb11⟩
  have o9 := hb11.size
  have HE := hide (HE.out.keep hb11)
  have HX := hide (HX.out.keep hb11 (by omega))
  have HY := hide (HY.out.keep hb11 (by omega))
  have cx := keep_cell hb11 cx
  have cy := keep_cell hb11 cy
  have c8 := keep_cell hb11 c8
  have c10 := keep_cell hb11 c10
  have c11 := keep_cell hb11 c11
  have c12 := keep_cell hb11 c12
  clear hb11
  go_wp2_with fail
  go_region_held3 (fun w' => w'.cell? ⟨w5.heap.size, 0, none⟩ = some (.slice (some ⟨g5, 0, none⟩) t1.length t1.length) ∧ w'.cell? ⟨w.heap.size, 0, none⟩ = some (.slice a1 t1.length cap1))
    (first
      | go_keep
      | (go_split_ands; exact ⟨keep_cell hb13 (by assumption), keep_cell hb13 (by assumption)⟩)
      | (go_split_ands; exact ⟨keep_cell hb12 (by assumption), keep_cell hb12 (by assumption)⟩)
      | fail)
    (first
      | (go_at_call 14; refine (HC1.out _ _ (by exact HN1.out.keep HE.out.bel.drew)).mono ?_; rintro e w12 ⟨g12, rfl, hn12, hg12, hb12⟩)
      | (go_at_call 16; refine (eqTerm_any _ _ t1 _ (by exact (HX.out.nodes rfl).keep ((Below.refl w11.heap.size w11).drew.trans hb12)) (hn12.nodes rfl)).mono ?_; rintro e w13 ⟨rfl, hb13⟩)
      | fail)
  have hbb : Below w11.heap.size w11 w13 := (Below.refl w11.heap.size w11).drew.trans (hb12.trans (hb13.mono hb12.size))
  clear hn12 hb12 hb13 hg12
  have o10 := hbb.size
  have HE := hide (HE.out.keep hbb)
  have HX := hide (HX.out.keep hbb (by omega))
  have HY := hide (HY.out.keep hbb (by omega))
  have cx := keep_cell hbb cx
  have cy := keep_cell hbb cy
  have c8 := keep_cell hbb c8
  have c10 := keep_cell hbb c10
  have c11 := keep_cell hbb c11
  have c12 := keep_cell hbb c12
  clear hbb
  go_wp2_with fail
  go_region_held3 (fun w' => w'.cell? ⟨w7.heap.size, 0, none⟩ = some (.slice (some ⟨g7, 0, none⟩) t2.length t2.length) ∧ w'.cell? ⟨w.heap.size + 1, 0, none⟩ = some (.slice a2 t2.length cap2))
    (first
      | go_keep
      | (go_split_ands; exact ⟨keep_cell hb15 (by assumption), keep_cell hb15 (by assumption)⟩)
      | (go_split_ands; exact ⟨keep_cell hb14 (by assumption), keep_cell hb14 (by assumption)⟩)
      | fail)
    (first
      | (go_at_call 14; refine (HC2.out _ _ (by exact HN2.out.keep HE.out.bel.drew)).mono ?_; rintro e w14 ⟨g14, rfl, hn14, hg14, hb14⟩)
      | (go_at_call 16; refine (eqTerm_any _ _ t2 _ (by exact (HY.out.nodes rfl).keep ((Below.refl w13.heap.size w13).drew.trans hb14)) (hn14.nodes rfl)).mono ?_; rintro e w15 ⟨rfl, hb15⟩)
      | fail)
  have hbb : Below w13.heap.size w13 w15 := (Below.refl w13.heap.size w13).drew.trans (hb14.trans (hb15.mono hb14.size))
  clear hn14 hb14 hb15 hg14
  have o11 := hbb.size
  have HE := hide (HE.out.keep hbb)
  have HX := hide (HX.out.keep hbb (by omega))
  have HY := hide (HY.out.keep hbb (by omega))
  have cx := keep_cell hbb cx
  have cy := keep_cell hbb cy
  have c8 := keep_cell hbb c8
  have c10 := keep_cell hbb c10
  have c11 := keep_cell hbb c11
  have c12 := keep_cell hbb c12
  clear hbb
  have HM1 := hide (markTerm_any sc w5.heap.size g5 t1.length t1 1 w15 HX.out (by omega) HSM1.out hlen1 (by omega) (by have := HCT1.out; omega))
  rw [show ((1 : Nat) : Int) = 1 from rfl] at HM1
  obtain ⟨K1, hK1⟩ : ∃ K1, K1 = 1 + costT t1 := ⟨_, rfl⟩
  rw [← hK1] at HM1
  have hK1b : 1 ≤ K1 ∧ K1 ≤ 4200001 := by have := HCT1.out; omega
  clear hK1
  go_wp2_with fail
  refine HM1.out.mono ?_
  rintro e w16 ⟨rfl, hc16⟩
  have HE : Hid (LwS w w16 _ _ _ _ _ _ _ _ _) := HE.out.chg hc16 (by omega) (by omega) (by omega) (by
    intro p hp
    simp only [List.mem_cons, List.not_mem_nil, or_false] at hp
    rcases hp with rfl | rfl | rfl | rfl | rfl | rfl <;> simp only <;> omega)
  have o12 := hc16.1.size
  have HY : Hid (TsR W6.heap.size w7.heap.size w16 g7 t2.length t2.length t2) := HY.out.same (fun b q1 q2 => hc16.out (by omega) (by omega))
  clear hc16 HM1 HX cx cy c8 c10 c11 c12
  have cx := HE.out.box (w.heap.size, .slice a1 t1.length cap1) (by simp)
  have cy := HE.out.box (w.heap.size + 1, .slice a2 t2.length cap2) (by simp)
  have c8 := HE.out.box (b8, .slice a4 r.length c4) (by simp)
  have c11 := HE.out.box (w7.heap.size, .slice (some ⟨g7, 0, none⟩) t2.length t2.length) (by simp)
  have c12 := HE.out.box (w9.heap.size, .slice a6 r.length c6) (by simp)
  simp only at cx cy c8 c11 c12
  have HM2 := hide (markTerm_any W6.heap.size w7.heap.size g7 t2.length t2 K1 w16 HY.out (by omega) HSM2.out hlen2 hK1b.1 (by have := HCT2.out; omega))
  obtain ⟨K2, hK2⟩ : ∃ K2, K2 = K1 + costT t2 := ⟨_, rfl⟩
  rw [← hK2] at HM2
  have dK : decide ((K2 : Int) < 0) = false := by simp
  clear hK2
  go_wp2_with fail
  refine HM2.out.mono ?_
  rintro e w17 ⟨rfl, hc17⟩
  have HE : Hid (LwS w w17 _ _ _ _ _ _ _ _ _) := HE.out.chg hc17 (by omega) (by omega) (by omega) (by
    intro p hp
    simp only [List.mem_cons, List.not_mem_nil, or_false] at hp
    rcases hp with rfl | rfl | rfl | rfl | rfl | rfl <;> simp only <;> omega)
  have o13 := hc17.1.size
  clear hc17 HM2 HY cx cy c8 c11 c12
  have cx := HE.out.box (w.heap.size, .slice a1 t1.length cap1) (by simp)
  have cy := HE.out.box (w.heap.size + 1, .slice a2 t2.length cap2) (by simp)
  have c8 := HE.out.box (b8, .slice a4 r.length c4) (by simp)
  have c12 := HE.out.box (w9.heap.size, .slice a6 r.length c6) (by simp)
  simp only at cx cy c8 c12
  go_wp2_with fail
  refine (eqTerm_any _ _ r _ HE.out.a6.nodes HE.out.a4.at).mono ?_
  rintro e w18 ⟨rfl, hb18⟩
  have o14 := hb18.size
  have HE := hide (HE.out.keep hb18)
  have cx := keep_cell hb18 cx
  have cy := keep_cell hb18 cy
  have c8 := keep_cell hb18 c8
  have c12 := keep_cell hb18 c12
  clear hb18
  obtain ⟨k1, k2, k3⟩ := HOK.out.small
  have HK1 : Hid (∀ td ∈ r, TSmall td) := k1
  have HM3 := hide (markTerm_V W8.heap.size w9.heap.size _ r 1 w18 HE.out.a6 (by omega) (by omega) HK1.out (by simp only at k2; omega) (by omega) (by simp only at k3; omega))
  rw [show ((1 : Nat) : Int) = 1 from rfl] at HM3
  obtain ⟨K3, hK3⟩ : ∃ K3, K3 = 1 + costT r := ⟨_, rfl⟩
  have HK3 := hide hK3
  rw [← hK3] at HM3
  have hk50 : K3 ≤ 50000000 := by simp only at k3; omega
  clear hK3 k1 k2 k3
  go_wp2_with fail
  refine HM3.out.mono ?_
  rintro e w19 ⟨rfl, hv19, hc19⟩
  have HE : Hid (LwS w w19 _ _ _ _ _ _ _ _ (markT 1 r)) := HE.out.mark hv19 hc19 (by omega) (by omega) (by
    intro p hp
    simp only [List.mem_cons, List.not_mem_nil, or_false] at hp
    rcases hp with rfl | rfl | rfl | rfl | rfl | rfl <;> simp only <;> omega)
  have o15 := hc19.1.size
  clear hv19 hc19 HM3 cx cy c8 c12
  have cx := HE.out.box (w.heap.size, .slice a1 t1.length cap1) (by simp)
  have cy := HE.out.box (w.heap.size + 1, .slice a2 t2.length cap2) (by simp)
  have c8 := HE.out.box (b8, .slice a4 r.length c4) (by simp)
  have c12 := HE.out.box (w9.heap.size, .slice a6 r.length c6) (by simp)
  simp only at cx cy c8 c12
  have HH := hide (show ∀ W, TNodesAt W (.slice a6 r.length c6) (markT 1 r) → Calls Tryz.prog 20 #[.agg #[.slice a6 r.length c6], .int .i64 1] W fun e w' => e = .returned (.int .i64 (K3 : Int)) ∧ Below W.heap.size W w' from fun W hW => by
    have := heldTerm_any _ r 1 W hW HK1.out (by omega) (by have := HK3.out; omega)
    rw [← HK3.out] at this
    exact this)
  have hKK : ((K3 : Int) != (K3 : Int)) = false := by simp
  have dK3 : decide ((K3 : Int) < 0) = false := by simp
  go_wp2_with fail
  refine (HH.out _ HE.out.a6.nodes).mono ?_
  rintro e w20 ⟨rfl, hb20⟩
  have HE := hide (HE.out.keep hb20)
  have cx := keep_cell hb20 cx
  have cy := keep_cell hb20 cy
  have c8 := keep_cell hb20 c8
  have c12 := keep_cell hb20 c12
  have lx := lt_cell cx
  have ly := lt_cell cy
  clear hb20
  have HB := hide HE.out.bel
  go_upto_region 31 with fail
  go_cut [15, 16] from 94 to 101 (fun b cc wx => ∃ (b8 : Nat) (v4 : Value), b = .pointer (some ⟨b8, 0, none⟩) ∧ cc = .int .i64 c ∧ Hid (Below w20.heap.size w20 wx ∧ wx.cell? ⟨b8, 0, none⟩ = some v4 ∧ w20.heap.size ≤ b8 ∧ FrR w20.heap.size wx.heap.size wx v4 r))
  case first =>
    clear HIM HE HH c8 c12
    obtain ⟨Y0, hY0⟩ : ∃ Y0, Y0 = w20.drew := ⟨_, rfl⟩
    have hBY0 : Below w20.heap.size w20 Y0 := by rw [hY0]; exact (Below.refl _ _).drew
    refine anyE_region (L := 10) (S := fun w' : World => Below w20.heap.size w20 w') (by kernel_rfl) ?_
    rw [← hY0]
    clear hY0
    refine anyE_take 0 (v := ?v15) rfl (by kernel_rfl) (by kernel_rfl) (by kernel_rfl) (by kernel_rfl) (fun _ _ _ h => h) (by rfl) ?hy15 hBY0 ?rest15
    case hy15 =>
      intro wx hx
      have m1 := keep_cell hx cx
      have m2 := keep_cell hx cy
      go_simp
      try rfl
    case rest15 =>
    intro K hK
    go_simp
    refine hK.out _ ?_
    clear hK K
    refine anyE_take 2 (v := ?v16) rfl (by kernel_rfl) (by kernel_rfl) (by kernel_rfl) (by kernel_rfl) (fun _ _ _ h => h) (by rfl) ?hy16 hBY0 ?rest16
    case hy16 =>
      intro wx hx
      have m1 := keep_cell hx cx
      have m2 := keep_cell hx cy
      go_simp
      try rfl
    case rest16 =>
    intro K hK
    go_simp
    refine hK.out _ ?_
    clear hK K
    refine anyE_two 1 8 (by kernel_rfl) rfl rfl (fun K hK => ?_) (fun K hK => ?_)
    · go_simp
      refine (HC1.out _ Y0 (HN1.out.keep (bel_trans HB.out hBY0))).mono ?_
      rintro e Y14 ⟨g1, rfl, hn, hg, hb⟩
      have hBY14 := bel_trans hBY0 hb
      refine hK.out _ _ (fun _ => hBY14) ?_
      have HV1 := hide (hn.nodes rfl)
      have hzY14 := hb.size
      clear hK K hn hg hb
      refine anyE_two 3 8 (by kernel_rfl) rfl rfl (fun K hK => ?_) (fun K hK => ?_)
      · go_simp
        refine (HC2.out _ Y14 (HN2.out.keep (bel_trans HB.out hBY14))).mono ?_
        rintro e Y15 ⟨g2, rfl, hn, hg, hb⟩
        have hBY15 := bel_trans hBY14 hb
        refine hK.out _ _ (fun _ => hBY15) ?_
        have HV2 := hide (hn.nodes rfl)
        have HV1 := hide (HV1.out.keep hb)
        have hzY15 := hb.size
        clear hK K hn hg hb
        refine anyE_two 4 8 (by kernel_rfl) rfl rfl (fun K hK => ?_) (fun K hK => ?_)
        · go_simp
          refine (HIF.out _ _ Y15 HV1.out HV2.out).mono ?_
          rintro e Y16 ⟨⟨v4, rfl, hv⟩, hb⟩
          have hBY16 := bel_trans hBY15 hb
          refine hK.out _ _ (fun _ => hBY16) ?_
          have hzY16 := hb.size
          clear hK K hb HV1 HV2
          obtain ⟨a4, c4, rfl⟩ := hv.form
          refine anyE_take 5 (v := ?v17) rfl (by kernel_rfl) (by kernel_rfl) (by kernel_rfl) (by kernel_rfl) (fun _ _ _ h => h) (by rfl) ?hy17 hBY16 ?rest17
          case hy17 =>
            intro wx hx
            go_simp
            try rfl
          case rest17 =>
          intro K hK
          go_simp
          refine hK.out _ ?_
          clear hK K
          refine anyE_take 6 (v := ?v18) rfl (by kernel_rfl) (by kernel_rfl) (by kernel_rfl) (by kernel_rfl) (fun _ _ _ h => h) (by rfl) ?hy18 hBY16 ?rest18
          case hy18 =>
            intro wx hx
            go_simp
            try rfl
          case rest18 =>
          intro K hK
          go_simp
          refine hK.out _ ?_
          clear hK K
          refine anyE_take 7 (v := ?v19) rfl (by kernel_rfl) (by kernel_rfl) (by kernel_rfl) (by kernel_rfl) (fun _ _ _ h => h) (by rfl) ?hy19 hBY16 ?rest19
          case hy19 =>
            intro wx hx
            go_simp
            try rfl
          case rest19 =>
          intro K hK
          go_simp
          refine hK.out _ ?_
          clear hK K
          refine anyE_one 8 (by kernel_rfl) rfl (fun K hK => ?_)
          go_simp
          obtain ⟨Y17, hY17⟩ : ∃ X, X = Y16.alloc (.cells #[.slice none 0 0] 28) := ⟨_, rfl⟩
          rw [← hY17]
          have hb : Below Y16.heap.size Y16 Y17 := by rw [hY17]; exact bel_alloc (Below.refl _ _) _
          have hxY17 : Y17.heap[Y16.heap.size]? = some (.cells #[.slice none 0 0] 28 (0, 0)) := by rw [hY17]; exact heap_alloc_new _ _
          have hBY17 := bel_trans hBY16 hb
          refine hK.out _ _ (fun _ => hBY17) ?_
          have hzY17 := hb.size
          have hbx : w20.heap.size ≤ Y16.heap.size := hBY16.size
          have hbl := hb
          clear hK K hb hY17
          have cb : Y17.cell? ⟨Y16.heap.size, 0, none⟩ = some (.slice none 0 0) := by rw [Lib.cell_of_heap hxY17]; rfl
          have fb : Y17.frozen? ⟨Y16.heap.size, 0, none⟩ = false := Lib.frozen_of_heap hxY17 0
          have lb := lt_cell cb
          have hBs : Below w20.heap.size w20 (Y17.setCell ⟨Y16.heap.size, 0, none⟩ (.slice a4 r.length c4)) := hBY17.setCell (p := ⟨_, _, _⟩) (by show _ ≤ Y16.heap.size; omega) _
          have hcs : (Y17.setCell ⟨Y16.heap.size, 0, none⟩ (.slice a4 r.length c4)).cell? ⟨Y16.heap.size, 0, none⟩ = some (.slice a4 r.length c4) := by rw [Lib.cell_of_heap (set_one hxY17 _)]; rfl
          have hfr : FrR w20.heap.size (Y17.setCell ⟨Y16.heap.size, 0, none⟩ (.slice a4 r.length c4)).heap.size (Y17.setCell ⟨Y16.heap.size, 0, none⟩ (.slice a4 r.length c4)) (.slice a4 r.length c4) r := by
            rw [size_set]
            have hw0 := hBY15.size
            refine (hv.same (fun b q1 q2 => ?_)).mono (by omega) (by omega)
            rw [Below.heap_setCell _ _ _ b (by show b ≠ Y16.heap.size; omega)]
            exact hbl.block b q2
          refine anyE_one 9 (by kernel_rfl) rfl (fun K hK => ?_)
          go_simp
          refine hK.out _ _ (fun _ => hBs) ?_
          clear hK K
          refine anyE_one 10 (by kernel_rfl) rfl (fun K hK => ?_)
          go_simp
          refine hK.out _ _ (fun h => absurd rfl h) ?_
          clear hK K
          refine anyE_done (by kernel_rfl) ?_ _
          go_wp2_with fail
          go_meet
          case rel =>
          exact ⟨Y16.heap.size, .slice a4 r.length c4, rfl, rfl, hBs, hcs, by omega, hfr⟩
        · go_simp
          obtain ⟨Y18, hY18⟩ : ∃ X, X = Y15.alloc (.cells #[.slice none 0 0] 28) := ⟨_, rfl⟩
          rw [← hY18]
          have hb : Below Y15.heap.size Y15 Y18 := by rw [hY18]; exact bel_alloc (Below.refl _ _) _
          have hxY18 : Y18.heap[Y15.heap.size]? = some (.cells #[.slice none 0 0] 28 (0, 0)) := by rw [hY18]; exact heap_alloc_new _ _
          have hBY18 := bel_trans hBY15 hb
          refine hK.out _ _ (fun _ => hBY18) ?_
          have hzY18 := hb.size
          have hbx : w20.heap.size ≤ Y15.heap.size := hBY15.size
          have hbl := hb
          have HV1 := hide (HV1.out.keep hb)
          have HV2 := hide (HV2.out.keep hb)
          clear hK K hb hY18
          refine anyE_one 4 (by kernel_rfl) rfl (fun K hK => ?_)
          go_simp
          refine (HIF.out _ _ Y18 HV1.out HV2.out).mono ?_
          rintro e Y19 ⟨⟨v4, rfl, hv⟩, hb⟩
          have hBY19 := bel_trans hBY18 hb
          refine hK.out _ _ (fun _ => hBY19) ?_
          have hxl := (Array.getElem?_eq_some_iff.1 hxY18).1
          have hxY19 := (hb.block _ (Array.getElem?_eq_some_iff.1 hxY18).1).trans hxY18
          have hzY19 := hb.size
          clear hK K hb HV1 HV2
          obtain ⟨a4, c4, rfl⟩ := hv.form
          refine anyE_take 5 (v := ?v20) rfl (by kernel_rfl) (by kernel_rfl) (by kernel_rfl) (by kernel_rfl) (fun _ _ _ h => h) (by rfl) ?hy20 hBY19 ?rest20
          case hy20 =>
            intro wx hx
            go_simp
            try rfl
          case rest20 =>
          intro K hK
          go_simp
          refine hK.out _ ?_
          clear hK K
          refine anyE_take 6 (v := ?v21) rfl (by kernel_rfl) (by kernel_rfl) (by kernel_rfl) (by kernel_rfl) (fun _ _ _ h => h) (by rfl) ?hy21 hBY19 ?rest21
          case hy21 =>
            intro wx hx
            go_simp
            try rfl
          case rest21 =>
          intro K hK
          go_simp
          refine hK.out _ ?_
          clear hK K
          refine anyE_take 7 (v := ?v22) rfl (by kernel_rfl) (by kernel_rfl) (by kernel_rfl) (by kernel_rfl) (fun _ _ _ h => h) (by rfl) ?hy22 hBY19 ?rest22
          case hy22 =>
            intro wx hx
            go_simp
            try rfl
          case rest22 =>
          intro K hK
          go_simp
          refine hK.out _ ?_
          clear hK K
          have cb : Y19.cell? ⟨Y15.heap.size, 0, none⟩ = some (.slice none 0 0) := by rw [Lib.cell_of_heap hxY19]; rfl
          have fb : Y19.frozen? ⟨Y15.heap.size, 0, none⟩ = false := Lib.frozen_of_heap hxY19 0
          have lb := lt_cell cb
          have hBs : Below w20.heap.size w20 (Y19.setCell ⟨Y15.heap.size, 0, none⟩ (.slice a4 r.length c4)) := hBY19.setCell (p := ⟨_, _, _⟩) (by show _ ≤ Y15.heap.size; omega) _
          have hcs : (Y19.setCell ⟨Y15.heap.size, 0, none⟩ (.slice a4 r.length c4)).cell? ⟨Y15.heap.size, 0, none⟩ = some (.slice a4 r.length c4) := by rw [Lib.cell_of_heap (set_one hxY19 _)]; rfl
          have hfr : FrR w20.heap.size (Y19.setCell ⟨Y15.heap.size, 0, none⟩ (.slice a4 r.length c4)).heap.size (Y19.setCell ⟨Y15.heap.size, 0, none⟩ (.slice a4 r.length c4)) (.slice a4 r.length c4) r := by
            rw [size_set]
            have hw0 := hBY18.size
            refine (hv.same (fun b q1 q2 => ?_)).mono (by omega) (by omega)
            rw [Below.heap_setCell _ _ _ b (by show b ≠ Y15.heap.size; omega)]
            try rfl
          refine anyE_one 9 (by kernel_rfl) rfl (fun K hK => ?_)
          go_simp
          refine hK.out _ _ (fun _ => hBs) ?_
          clear hK K
          refine anyE_one 10 (by kernel_rfl) rfl (fun K hK => ?_)
          go_simp
          refine hK.out _ _ (fun h => absurd rfl h) ?_
          clear hK K
          refine anyE_done (by kernel_rfl) ?_ _
          go_wp2_with fail
          go_meet
          case rel =>
          exact ⟨Y15.heap.size, .slice a4 r.length c4, rfl, rfl, hBs, hcs, by omega, hfr⟩
      · go_simp
        obtain ⟨Y20, hY20⟩ : ∃ X, X = Y14.alloc (.cells #[.slice none 0 0] 28) := ⟨_, rfl⟩
        rw [← hY20]
        have hb : Below Y14.heap.size Y14 Y20 := by rw [hY20]; exact bel_alloc (Below.refl _ _) _
        have hxY20 : Y20.heap[Y14.heap.size]? = some (.cells #[.slice none 0 0] 28 (0, 0)) := by rw [hY20]; exact heap_alloc_new _ _
        have hBY20 := bel_trans hBY14 hb
        refine hK.out _ _ (fun _ => hBY20) ?_
        have hzY20 := hb.size
        have hbx : w20.heap.size ≤ Y14.heap.size := hBY14.size
        have hbl := hb
        have HV1 := hide (HV1.out.keep hb)
        clear hK K hb hY20
        refine anyE_one 3 (by kernel_rfl) rfl (fun K hK => ?_)
        go_simp
        refine (HC2.out _ Y20 (HN2.out.keep (bel_trans HB.out hBY20))).mono ?_
        rintro e Y21 ⟨g2, rfl, hn, hg, hb⟩
        have hBY21 := bel_trans hBY20 hb
        refine hK.out _ _ (fun _ => hBY21) ?_
        have HV2 := hide (hn.nodes rfl)
        have HV1 := hide (HV1.out.keep hb)
        have hxY21 := (hb.block _ (Array.getElem?_eq_some_iff.1 hxY20).1).trans hxY20
        have hzY21 := hb.size
        clear hK K hn hg hb
        refine anyE_one 4 (by kernel_rfl) rfl (fun K hK => ?_)
        go_simp
        refine (HIF.out _ _ Y21 HV1.out HV2.out).mono ?_
        rintro e Y22 ⟨⟨v4, rfl, hv⟩, hb⟩
        have hBY22 := bel_trans hBY21 hb
        refine hK.out _ _ (fun _ => hBY22) ?_
        have hxl := (Array.getElem?_eq_some_iff.1 hxY21).1
        have hxY22 := (hb.block _ (Array.getElem?_eq_some_iff.1 hxY21).1).trans hxY21
        have hzY22 := hb.size
        clear hK K hb HV1 HV2
        obtain ⟨a4, c4, rfl⟩ := hv.form
        refine anyE_take 5 (v := ?v23) rfl (by kernel_rfl) (by kernel_rfl) (by kernel_rfl) (by kernel_rfl) (fun _ _ _ h => h) (by rfl) ?hy23 hBY22 ?rest23
        case hy23 =>
          intro wx hx
          go_simp
          try rfl
        case rest23 =>
        intro K hK
        go_simp
        refine hK.out _ ?_
        clear hK K
        refine anyE_take 6 (v := ?v24) rfl (by kernel_rfl) (by kernel_rfl) (by kernel_rfl) (by kernel_rfl) (fun _ _ _ h => h) (by rfl) ?hy24 hBY22 ?rest24
        case hy24 =>
          intro wx hx
          go_simp
          try rfl
        case rest24 =>
        intro K hK
        go_simp
        refine hK.out _ ?_
        clear hK K
        refine anyE_take 7 (v := ?v25) rfl (by kernel_rfl) (by kernel_rfl) (by kernel_rfl) (by kernel_rfl) (fun _ _ _ h => h) (by rfl) ?hy25 hBY22 ?rest25
        case hy25 =>
          intro wx hx
          go_simp
          try rfl
        case rest25 =>
        intro K hK
        go_simp
        refine hK.out _ ?_
        clear hK K
        have cb : Y22.cell? ⟨Y14.heap.size, 0, none⟩ = some (.slice none 0 0) := by rw [Lib.cell_of_heap hxY22]; rfl
        have fb : Y22.frozen? ⟨Y14.heap.size, 0, none⟩ = false := Lib.frozen_of_heap hxY22 0
        have lb := lt_cell cb
        have hBs : Below w20.heap.size w20 (Y22.setCell ⟨Y14.heap.size, 0, none⟩ (.slice a4 r.length c4)) := hBY22.setCell (p := ⟨_, _, _⟩) (by show _ ≤ Y14.heap.size; omega) _
        have hcs : (Y22.setCell ⟨Y14.heap.size, 0, none⟩ (.slice a4 r.length c4)).cell? ⟨Y14.heap.size, 0, none⟩ = some (.slice a4 r.length c4) := by rw [Lib.cell_of_heap (set_one hxY22 _)]; rfl
        have hfr : FrR w20.heap.size (Y22.setCell ⟨Y14.heap.size, 0, none⟩ (.slice a4 r.length c4)).heap.size (Y22.setCell ⟨Y14.heap.size, 0, none⟩ (.slice a4 r.length c4)) (.slice a4 r.length c4) r := by
          rw [size_set]
          have hw0 := hBY21.size
          refine (hv.same (fun b q1 q2 => ?_)).mono (by omega) (by omega)
          rw [Below.heap_setCell _ _ _ b (by show b ≠ Y14.heap.size; omega)]
          try rfl
        refine anyE_one 9 (by kernel_rfl) rfl (fun K hK => ?_)
        go_simp
        refine hK.out _ _ (fun _ => hBs) ?_
        clear hK K
        refine anyE_one 10 (by kernel_rfl) rfl (fun K hK => ?_)
        go_simp
        refine hK.out _ _ (fun h => absurd rfl h) ?_
        clear hK K
        refine anyE_done (by kernel_rfl) ?_ _
        go_wp2_with fail
        go_meet
        case rel =>
        exact ⟨Y14.heap.size, .slice a4 r.length c4, rfl, rfl, hBs, hcs, by omega, hfr⟩
    · go_simp
      obtain ⟨Y23, hY23⟩ : ∃ X, X = Y0.alloc (.cells #[.slice none 0 0] 28) := ⟨_, rfl⟩
      rw [← hY23]
      have hb : Below Y0.heap.size Y0 Y23 := by rw [hY23]; exact bel_alloc (Below.refl _ _) _
      have hxY23 : Y23.heap[Y0.heap.size]? = some (.cells #[.slice none 0 0] 28 (0, 0)) := by rw [hY23]; exact heap_alloc_new _ _
      have hBY23 := bel_trans hBY0 hb
      refine hK.out _ _ (fun _ => hBY23) ?_
      have hzY23 := hb.size
      have hbx : w20.heap.size ≤ Y0.heap.size := hBY0.size
      have hbl := hb
      clear hK K hb hY23
      refine anyE_one 1 (by kernel_rfl) rfl (fun K hK => ?_)
      go_simp
      refine (HC1.out _ Y23 (HN1.out.keep (bel_trans HB.out hBY23))).mono ?_
      rintro e Y24 ⟨g1, rfl, hn, hg, hb⟩
      have hBY24 := bel_trans hBY23 hb
      refine hK.out _ _ (fun _ => hBY24) ?_
      have HV1 := hide (hn.nodes rfl)
      have hxY24 := (hb.block _ (Array.getElem?_eq_some_iff.1 hxY23).1).trans hxY23
      have hzY24 := hb.size
      clear hK K hn hg hb
      refine anyE_one 3 (by kernel_rfl) rfl (fun K hK => ?_)
      go_simp
      refine (HC2.out _ Y24 (HN2.out.keep (bel_trans HB.out hBY24))).mono ?_
      rintro e Y25 ⟨g2, rfl, hn, hg, hb⟩
      have hBY25 := bel_trans hBY24 hb
      refine hK.out _ _ (fun _ => hBY25) ?_
      have HV2 := hide (hn.nodes rfl)
      have HV1 := hide (HV1.out.keep hb)
      have hxY25 := (hb.block _ (Array.getElem?_eq_some_iff.1 hxY24).1).trans hxY24
      have hzY25 := hb.size
      clear hK K hn hg hb
      refine anyE_one 4 (by kernel_rfl) rfl (fun K hK => ?_)
      go_simp
      refine (HIF.out _ _ Y25 HV1.out HV2.out).mono ?_
      rintro e Y26 ⟨⟨v4, rfl, hv⟩, hb⟩
      have hBY26 := bel_trans hBY25 hb
      refine hK.out _ _ (fun _ => hBY26) ?_
      have hxl := (Array.getElem?_eq_some_iff.1 hxY25).1
      have hxY26 := (hb.block _ (Array.getElem?_eq_some_iff.1 hxY25).1).trans hxY25
      have hzY26 := hb.size
      clear hK K hb HV1 HV2
      obtain ⟨a4, c4, rfl⟩ := hv.form
      refine anyE_take 5 (v := ?v26) rfl (by kernel_rfl) (by kernel_rfl) (by kernel_rfl) (by kernel_rfl) (fun _ _ _ h => h) (by rfl) ?hy26 hBY26 ?rest26
      case hy26 =>
        intro wx hx
        go_simp
        try rfl
      case rest26 =>
      intro K hK
      go_simp
      refine hK.out _ ?_
      clear hK K
      refine anyE_take 6 (v := ?v27) rfl (by kernel_rfl) (by kernel_rfl) (by kernel_rfl) (by kernel_rfl) (fun _ _ _ h => h) (by rfl) ?hy27 hBY26 ?rest27
      case hy27 =>
        intro wx hx
        go_simp
        try rfl
      case rest27 =>
      intro K hK
      go_simp
      refine hK.out _ ?_
      clear hK K
      refine anyE_take 7 (v := ?v28) rfl (by kernel_rfl) (by kernel_rfl) (by kernel_rfl) (by kernel_rfl) (fun _ _ _ h => h) (by rfl) ?hy28 hBY26 ?rest28
      case hy28 =>
        intro wx hx
        go_simp
        try rfl
      case rest28 =>
      intro K hK
      go_simp
      refine hK.out _ ?_
      clear hK K
      have cb : Y26.cell? ⟨Y0.heap.size, 0, none⟩ = some (.slice none 0 0) := by rw [Lib.cell_of_heap hxY26]; rfl
      have fb : Y26.frozen? ⟨Y0.heap.size, 0, none⟩ = false := Lib.frozen_of_heap hxY26 0
      have lb := lt_cell cb
      have hBs : Below w20.heap.size w20 (Y26.setCell ⟨Y0.heap.size, 0, none⟩ (.slice a4 r.length c4)) := hBY26.setCell (p := ⟨_, _, _⟩) (by show _ ≤ Y0.heap.size; omega) _
      have hcs : (Y26.setCell ⟨Y0.heap.size, 0, none⟩ (.slice a4 r.length c4)).cell? ⟨Y0.heap.size, 0, none⟩ = some (.slice a4 r.length c4) := by rw [Lib.cell_of_heap (set_one hxY26 _)]; rfl
      have hfr : FrR w20.heap.size (Y26.setCell ⟨Y0.heap.size, 0, none⟩ (.slice a4 r.length c4)).heap.size (Y26.setCell ⟨Y0.heap.size, 0, none⟩ (.slice a4 r.length c4)) (.slice a4 r.length c4) r := by
        rw [size_set]
        have hw0 := hBY25.size
        refine (hv.same (fun b q1 q2 => ?_)).mono (by omega) (by omega)
        rw [Below.heap_setCell _ _ _ b (by show b ≠ Y0.heap.size; omega)]
        try rfl
      refine anyE_one 9 (by kernel_rfl) rfl (fun K hK => ?_)
      go_simp
      refine hK.out _ _ (fun _ => hBs) ?_
      clear hK K
      refine anyE_one 10 (by kernel_rfl) rfl (fun K hK => ?_)
      go_simp
      refine hK.out _ _ (fun h => absurd rfl h) ?_
      clear hK K
      refine anyE_done (by kernel_rfl) ?_ _
      go_wp2_with fail
      go_meet
      case rel =>
      exact ⟨Y0.heap.size, .slice a4 r.length c4, rfl, rfl, hBs, hcs, by omega, hfr⟩
  case rest =>
  obtain ⟨b15, v15, rfl, rfl, HCU⟩ := hcut
  have hb21 := HCU.out.1
  have c15 := HCU.out.2.1
  have HA15 := hide HCU.out.2.2.2.at
  have HE := hide (HE.out.keep hb21)
  have c8 := keep_cell hb21 c8
  have c12 := keep_cell hb21 c12
  obtain ⟨a15, cap15, rfl, _, _, _⟩ := HCU.out.2.2.2.at
  have l15 := lt_cell c15
  have l8' := lt_cell c8
  clear hb21 HCU cx cy lx ly HIF HIM
  go_wp2_with fail
  refine (eqTerm_any _ _ r _ HA15.out HE.out.a4.at).mono ?_
  rintro e w22 ⟨rfl, hb22⟩
  have HE := hide (HE.out.keep hb22)
  have c12 := keep_cell hb22 c12
  clear hb22 c8 c15 HA15 l15 l8'
  go_wp2_with fail
  refine (HH.out _ HE.out.a6.nodes).mono ?_
  rintro e w23 ⟨rfl, hb23⟩
  have HE := hide (HE.out.keep hb23)
  clear hb23 c12
  go_wp2_with fail
  go_ret
  exact ⟨rfl, HE.out.bel⟩
end Go.Proofs.YtjkkojefpecbfaaGreat
