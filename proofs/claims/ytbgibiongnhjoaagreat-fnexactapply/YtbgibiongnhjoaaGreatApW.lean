/- The walk of the law FnExactApply. -/
import Derived.Test.YtbgibiongnhjoaaGreatApT
import Derived.Test.YtbgibiongnhjoaaGreatLwA
import Derived.Deep.RegionHeld3
import Derived.Deep.CutRange
import Derived.Deep.Upon
namespace Go.Proofs.YtbgibiongnhjoaaGreat
open Go.ChangeShapes Go.WideShapes Go.ChangeAt Go.RowKit

theorem app_sm : smP appH 2 := ⟨fun l hl => by simp [appH] at hl, by simp [appH]⟩
theorem app_ok {ts : List Td} {tss : List (List Td)} {T : Tt} {Ts : List Tt} (hT : TreeFor ts T) (hTs : TreesFor tss Ts) : AnsOk (appA ts tss T Ts) := by
  unfold appA
  split
  · rename_i h
    exact ansOk_fit (apps_all app_sm Ts T (all_mono node_sm (hT h.1).2) (fun x hx => all_mono node_sm (trees_mem hTs h.2 x hx).1))
  · exact .inl rfl
theorem costTs_sum (tss : List (List Td)) : costTs tss ≤ 4 * sumL tmSize tss := by
  induction tss with
  | nil => simp [costTs]
  | cons x a ih =>
    have := costT_sum x
    simp only [costTs, sumL, tmSize]
    omega
theorem small_of {tss : List (List Td)} (h : sumL tmSize tss ≤ 1048576) : ∀ l ∈ tss, tmSize l ≤ 1048576 := fun l hl => by
  have := sumL_mem tmSize hl
  omega
set_option maxRecDepth 100000 in
set_option maxHeartbeats 16000000 in
theorem ap_walk (v1 v2 : Value) (ts : List Td) (tss : List (List Td)) (w : World) (hn1 : TNodesAt w v1 ts) (hn2 : TermsAt w v2 tss) (hz1 : ∀ td ∈ ts, TLens td) (hz2 : ∀ l ∈ tss, ∀ td ∈ l, TLens td) :
    Calls Tryz.prog 4 #[.agg #[v1], v2] w fun e w' => e = .returned (.bool true) ∧ Below w.heap.size w w' := by
  have HN1 := hide hn1
  have HN2 := hide hn2
  have HZ1 := hide hz1
  have HZ2 := hide hz2
  obtain ⟨a1, cap1, rfl, _, _, _⟩ := hn1
  obtain ⟨a2, cap2, rfl, _, _, _⟩ := hn2
  clear hz1 hz2
  obtain ⟨W0, hW0⟩ : ∃ W0, W0 = w.alloc (.cells #[.slice a1 ts.length cap1] 24) := ⟨_, rfl⟩
  have hb0 : Below w.heap.size w W0 := by rw [hW0]; exact bel_alloc (Below.refl _ _) _
  have cx : W0.cell? ⟨w.heap.size, 0, none⟩ = some (.slice a1 ts.length cap1) := by rw [hW0]; simp [go_sem]
  have lx := lt_cell cx
  have HB := hide hb0
  clear hb0
  by_cases hbig : (1048576 : Int) < (tmSize ts : Nat)
  · have HL : Hid (leftOf 1048576 (tmSize ts) = -1) := by show leftOf _ _ = _; rw [leftOf, if_pos hbig]
    clear hbig
    go_enter Tryz.func4, Tryz.ntmps4
    go_upto_region 1 with fail
    rw [← hW0]
    clear hW0
    go_wp2_with fail
    refine (szTerm_any _ ts _ _ (HN1.out.keep HB.out) HZ1.out (by omega) (by omega)).mono ?_
    rintro e w1 ⟨rfl, hb1⟩
    rw [HL.out]
    have hbel1 := bel_trans HB.out hb1
    clear hb1
    go_wp2_with fail
    go_ret
    exact ⟨rfl, hbel1⟩
  obtain ⟨M, hM⟩ : ∃ M : Int, M = 1048576 - (tmSize ts : Nat) := ⟨_, rfl⟩
  have hM0 : 0 ≤ M := by omega
  have HL : Hid (leftOf 1048576 (tmSize ts) = M) := by show leftOf _ _ = _; rw [leftOf, if_neg hbig, hM]
  have hlen1 : ts.length ≤ 1048576 := Nat.le_trans (show ts.length ≤ tmSize ts by unfold tmSize; omega) (by omega)
  have HSM1 := hide (tsmall_of (show tmSize ts ≤ 1048576 by omega))
  have HSPL1 := hide (spell_of (show tmSize ts ≤ 1048576 by omega))
  have HCT1 : Hid (costT ts ≤ 4200000) := by show _ ≤ _; have := costT_sum ts; unfold tmSize at hbig; omega
  have dM : decide (M < 0) = false := by simp; omega
  have hM1 : M ≤ 1048576 := by omega
  clear hbig hM
  by_cases hbig : M < (tss.length + sumL tmSize tss : Nat)
  · have HL2 : Hid (leftOf M (tss.length + sumL tmSize tss) = -1) := by show leftOf _ _ = _; rw [leftOf, if_pos hbig]
    clear hbig
    go_enter Tryz.func4, Tryz.ntmps4
    go_upto_region 1 with fail
    rw [← hW0]
    clear hW0
    go_wp2_with fail
    refine (szTerm_any _ ts _ _ (HN1.out.keep HB.out) HZ1.out (by omega) (by omega)).mono ?_
    rintro e w1 ⟨rfl, hb1⟩
    rw [HL.out]
    have HB1 := hide (bel_trans HB.out hb1)
    clear hb1 cx lx
    go_wp2_with fail
    refine (szTermS_any _ tss _ _ (HN2.out.keep HB1.out) HZ2.out hM0 hM1).mono ?_
    rintro e w2 ⟨rfl, hb2⟩
    rw [HL2.out]
    have hbel2 := bel_trans HB1.out hb2
    clear hb2
    go_wp2_with fail
    go_ret
    exact ⟨rfl, hbel2⟩
  obtain ⟨N, hN⟩ : ∃ N : Int, N = M - (tss.length + sumL tmSize tss : Nat) := ⟨_, rfl⟩
  have HL2 : Hid (leftOf M (tss.length + sumL tmSize tss) = N) := by show leftOf _ _ = _; rw [leftOf, if_neg hbig, hN]
  have hlen2 : tss.length ≤ 1048576 := by omega
  have hsum : sumL tmSize tss ≤ 1048576 := by omega
  have hsm := small_of hsum
  have HSM2 : Hid (∀ l ∈ tss, ∀ td ∈ l, TSmall td) := fun l hl => tsmall_of (hsm l hl)
  have HSPL2 : Hid (∀ l ∈ tss, ∀ td ∈ l, (spell td.lv).length ≤ 1000000000) := fun l hl => spell_of (hsm l hl)
  have HST2 : Hid (∀ l ∈ tss, SmallT l) := fun l hl => ⟨Nat.le_trans (show l.length ≤ tmSize l by unfold tmSize; omega) (hsm l hl), tsmall_of (hsm l hl)⟩
  have HCT2 : Hid (costTs tss ≤ 4200000) := by show _ ≤ _; have := costTs_sum tss; omega
  have dN : decide (N < 0) = false := by simp; omega
  clear hbig hN hsum hsm
  obtain ⟨T, hT⟩ := tree_for ts
  obtain ⟨Ts, hTs⟩ := trees_for tss
  obtain ⟨A, hA⟩ : ∃ A, A = appA ts tss T Ts := ⟨_, rfl⟩
  have HOK : Hid (AnsOk A) := by show AnsOk _; rw [hA]; exact app_ok hT hTs
  have HSP : Hid (∀ (v1 v2 : Value) (w : World), TNodesAt w v1 ts → TermsAt w v2 tss → Calls Tryz.prog 23 #[.agg #[v1], v2] w fun e w' => SOut w.heap.size w' e A ∧ Below w.heap.size w w') := fun v1 v2 w h1 h2 => by
    rw [hA]
    exact specApply_any v1 v2 ts tss T Ts w h1 h2 HZ1.out (fun td h => (HSM1.out td h).1) HZ2.out (fun l hl td h => (HSM2.out l hl td h).1) hlen2 hT hTs
  have HIM : Hid (∀ (v1 v2 : Value) (w : World), TNodesAt w v1 ts → TermsAt w v2 tss → Calls Tryz.prog 25 #[.agg #[v1], v2] w fun e w' => TOut w.heap.size w' e A ∧ Below w.heap.size w w') := fun v1 v2 w h1 h2 => by
    rw [hA]
    exact implApply_any v1 v2 ts tss T Ts w h1 h2 HZ1.out HSM1.out HSPL1.out HZ2.out HSM2.out HSPL2.out hlen2 hT hTs
  have HC1 : Hid (∀ (v : Value) (w : World), TNodesAt w v ts → Calls Tryz.prog 14 #[.agg #[v]] w fun e w' => ∃ g, e = .returned (.agg #[.slice (some ⟨g, 0, none⟩) ts.length ts.length]) ∧ TsR w.heap.size w'.heap.size w' g ts.length ts.length ts ∧ w.heap.size ≤ g ∧ Below w.heap.size w w') := fun v w hv => toTerm_own v ts w hv hlen1 HSM1.out
  have HC2 : Hid (∀ (v : Value) (w : World), TermsAt w v tss → Calls Tryz.prog 24 #[v] w fun e w' => ∃ v', e = .returned v' ∧ TsV w.heap.size w'.heap.size w' v' tss ∧ Below w.heap.size w w') := fun v w hv => toTermS_own v tss w hv hlen2 HST2.out
  clear hA hT hTs
  obtain ⟨r, c⟩ := A
  have hself : (c != c) = false := by simp
  go_enter Tryz.func4, Tryz.ntmps4
  go_upto_region 1 with fail
  rw [← hW0]
  clear hW0
  go_wp2_with fail
  refine (szTerm_any _ ts _ _ (HN1.out.keep HB.out) HZ1.out (by omega) (by omega)).mono ?_
  rintro e w1 ⟨rfl, hb1⟩
  rw [HL.out]
  have cx := keep_cell hb1 cx
  have lx := lt_cell cx
  have HB := hide (bel_trans HB.out hb1)
  clear hb1 HL
  go_wp2_with fail
  refine (szTermS_any _ tss _ _ (HN2.out.keep HB.out) HZ2.out hM0 hM1).mono ?_
  rintro e w2 ⟨rfl, hb2⟩
  rw [HL2.out]
  have cx := keep_cell hb2 cx
  have lx := lt_cell cx
  have HB := hide (bel_trans HB.out hb2)
  have hw0 : w.heap.size < w2.heap.size := lx
  clear hb2 HL2 dM hM0 hM1
  go_wp2_with fail
  refine (HC1.out _ _ (HN1.out.keep HB.out)).mono ?_
  rintro e w3 ⟨g3, rfl, hn3, hg3, hb3⟩
  have cx := keep_cell hb3 cx
  have lx := lt_cell cx
  have HB := hide (bel_trans HB.out hb3)
  have HV3 := hide (hn3.nodes rfl)
  have hs3 := hb3.size
  clear hb3 hn3 hg3
  go_wp2_with fail
  refine (HC2.out _ _ (HN2.out.keep HB.out)).mono ?_
  rintro e w4 ⟨v4, rfl, hn4, hb4⟩
  have cx := keep_cell hb4 cx
  have lx := lt_cell cx
  have HB := hide (bel_trans HB.out hb4)
  have HV3 := hide (HV3.out.keep hb4)
  have HV4 := hide hn4.terms
  have hs4 := hb4.size
  obtain ⟨xa, xc, rfl⟩ := hn4.form
  clear hb4 hn4
  go_wp2_with fail
  refine (HSP.out _ _ _ HV3.out HV4.out).mono ?_
  rintro e w5 ⟨⟨v5, rfl, ho5⟩, hb5⟩
  have cx := keep_cell hb5 cx
  have HB := hide (bel_trans HB.out hb5)
  have o1 := hb5.size
  obtain ⟨a4, c4, rfl⟩ := ho5.form
  have HA4 := hide ho5
  clear hb5 ho5 HSP HV3 HV4
  obtain ⟨W6, hW6⟩ : ∃ W6, W6 = w5.alloc (.cells #[.slice a4 r.length c4] 28) := ⟨_, rfl⟩
  have hbW : Below w5.heap.size w5 W6 := by rw [hW6]; exact bel_alloc (Below.refl _ _) _
  have c8 : W6.cell? ⟨w5.heap.size, 0, none⟩ = some (.slice a4 r.length c4) := by rw [hW6]; simp [go_sem]
  have o2 := lt_cell c8
  have cx := keep_cell hbW cx
  have lx := lt_cell cx
  have HB := hide (bel_trans HB.out hbW)
  have HA4 : Hid (FrR w4.heap.size w5.heap.size W6 (.slice a4 r.length c4) r) := HA4.out.range.same (fun b _ q => hbW.block b q)
  go_upto_region 9 with fail
  rw [← hW6]
  clear hW6 hbW
  go_wp2_with fail
  refine (HC1.out _ _ (HN1.out.keep HB.out)).mono ?_
  rintro e w7 ⟨g7, rfl, hn7, hg7, hb7⟩
  have o3 := hb7.size
  have cx := keep_cell hb7 cx
  have c8 := keep_cell hb7 c8
  have HB := hide (bel_trans HB.out hb7)
  have HA4 := hide (HA4.out.same (fun b _ q => hb7.block b (by omega)))
  have HX := hide hn7
  clear hb7 hn7 hg7
  obtain ⟨W8, hW8⟩ : ∃ W8, W8 = w7.alloc (.cells #[.slice (some ⟨g7, 0, none⟩) ts.length ts.length] 28) := ⟨_, rfl⟩
  have hbW : Below w7.heap.size w7 W8 := by rw [hW8]; exact bel_alloc (Below.refl _ _) _
  have c10 : W8.cell? ⟨w7.heap.size, 0, none⟩ = some (.slice (some ⟨g7, 0, none⟩) ts.length ts.length) := by rw [hW8]; simp [go_sem]
  have o4 := lt_cell c10
  have cx := keep_cell hbW cx
  have c8 := keep_cell hbW c8
  have HB := hide (bel_trans HB.out hbW)
  have HA4 := hide (HA4.out.same (fun b _ q => hbW.block b (by omega)))
  have HX := hide (HX.out.keep hbW (Nat.le_refl _))
  go_upto_region 10 with fail
  rw [← hW8]
  clear hW8 hbW
  go_wp2_with fail
  refine (HC2.out _ _ (HN2.out.keep HB.out)).mono ?_
  rintro e w9 ⟨v9, rfl, hn9, hb9⟩
  have o5 := hb9.size
  have cx := keep_cell hb9 cx
  have c8 := keep_cell hb9 c8
  have c10 := keep_cell hb9 c10
  have l10 := lt_cell c10
  have HB := hide (bel_trans HB.out hb9)
  have HA4 := hide (HA4.out.same (fun b _ q => hb9.block b (by omega)))
  have HX := hide (HX.out.keep hb9 (by omega))
  have HY := hide hn9
  obtain ⟨ya, yc, rfl⟩ := hn9.form
  clear hb9 hn9
  go_wp2_with fail
  refine (HIM.out _ _ _ (HX.out.nodes rfl) HY.out.terms).mono ?_
  rintro e w10 ⟨⟨v6, rfl, ho6⟩, hb10⟩
  have o6 := hb10.size
  obtain ⟨a6, c6, rfl⟩ := ho6.form
  obtain ⟨W11, hW11⟩ : ∃ W11, W11 = w10.alloc (.cells #[.slice a6 r.length c6] 28) := ⟨_, rfl⟩
  have hbW : Below w10.heap.size w10 W11 := by rw [hW11]; exact bel_alloc (Below.refl _ _) _
  have c12 : W11.cell? ⟨w10.heap.size, 0, none⟩ = some (.slice a6 r.length c6) := by rw [hW11]; simp [go_sem]
  have o7 := lt_cell c12
  have HE : Hid (LwS w W11 [(w.heap.size, .slice a1 ts.length cap1), (w5.heap.size, .slice a4 r.length c4), (w7.heap.size, .slice (some ⟨g7, 0, none⟩) ts.length ts.length), (w10.heap.size, .slice a6 r.length c6)] w4.heap.size w5.heap.size w9.heap.size w10.heap.size (.slice a4 r.length c4) (.slice a6 r.length c6) r r) := by
    refine ⟨bel_trans HB.out (bel_trans hb10 hbW), by omega, HA4.out.same (fun b _ q => by rw [hbW.block b (by omega), hb10.block b (by omega)]), ho6.keep hbW (Nat.le_refl _), ?_⟩
    intro p hp
    simp only [List.mem_cons, List.not_mem_nil, or_false] at hp
    rcases hp with rfl | rfl | rfl | rfl
    · exact keep_cell hbW (keep_cell hb10 cx)
    · exact keep_cell hbW (keep_cell hb10 c8)
    · exact keep_cell hbW (keep_cell hb10 c10)
    · exact c12
  have HX := hide (HX.out.keep (bel_trans hb10 hbW) (by omega))
  have HY := hide (HY.out.keep (bel_trans hb10 hbW) (by omega))
  clear hb10 ho6 cx c8 c10 c12 HB HA4 lx l10
  have cx := HE.out.box (w.heap.size, .slice a1 ts.length cap1) (by simp)
  have c8 := HE.out.box (w5.heap.size, .slice a4 r.length c4) (by simp)
  have c10 := HE.out.box (w7.heap.size, .slice (some ⟨g7, 0, none⟩) ts.length ts.length) (by simp)
  have c12 := HE.out.box (w10.heap.size, .slice a6 r.length c6) (by simp)
  simp only at cx c8 c10 c12
  go_upto_region 12 with fail
  rw [← hW11]
  clear hW11 hbW
  go_wp2_with fail
  refine (eqTerm_any _ _ r _ HE.out.a6.nodes HE.out.a4.at).mono ?_
  rintro e w11 ⟨rfl, hb11⟩
  have o9 := hb11.size
  have HE := hide (HE.out.keep hb11)
  have HX := hide (HX.out.keep hb11 (by omega))
  have HY := hide (HY.out.keep hb11 (by omega))
  have cx := keep_cell hb11 cx
  have c8 := keep_cell hb11 c8
  have c10 := keep_cell hb11 c10
  have c12 := keep_cell hb11 c12
  clear hb11
  go_wp2_with fail
  go_region_held3 (fun w' => w'.cell? ⟨w7.heap.size, 0, none⟩ = some (.slice (some ⟨g7, 0, none⟩) ts.length ts.length) ∧ w'.cell? ⟨w.heap.size, 0, none⟩ = some (.slice a1 ts.length cap1))
    (first
      | go_keep
      | (go_split_ands; exact ⟨keep_cell hb13 (by assumption), keep_cell hb13 (by assumption)⟩)
      | (go_split_ands; exact ⟨keep_cell hb12 (by assumption), keep_cell hb12 (by assumption)⟩)
      | fail)
    (first
      | (go_at_call 14; refine (HC1.out _ _ (by exact HN1.out.keep HE.out.bel.drew)).mono ?_; rintro e w12 ⟨g12, rfl, hn12, hg12, hb12⟩)
      | (go_at_call 16; refine (eqTerm_any _ _ ts _ (by exact (HX.out.nodes rfl).keep ((Below.refl w11.heap.size w11).drew.trans hb12)) (hn12.nodes rfl)).mono ?_; rintro e w13 ⟨rfl, hb13⟩)
      | fail)
  have hbb : Below w11.heap.size w11 w13 := (Below.refl w11.heap.size w11).drew.trans (hb12.trans (hb13.mono hb12.size))
  clear hn12 hb12 hb13 hg12
  have o10 := hbb.size
  have HE := hide (HE.out.keep hbb)
  have HX := hide (HX.out.keep hbb (by omega))
  have HY := hide (HY.out.keep hbb (by omega))
  have cx := keep_cell hbb cx
  have c8 := keep_cell hbb c8
  have c10 := keep_cell hbb c10
  have c12 := keep_cell hbb c12
  clear hbb
  go_wp2_with fail
  refine (HC2.out _ _ (HN2.out.keep HE.out.bel)).mono ?_
  rintro e w14 ⟨v14, rfl, hn14, hb14⟩
  have o11 := hb14.size
  have HE := hide (HE.out.keep hb14)
  have HX := hide (HX.out.keep hb14 (by omega))
  have HY := hide (HY.out.keep hb14 (by omega))
  have cx := keep_cell hb14 cx
  have c8 := keep_cell hb14 c8
  have c10 := keep_cell hb14 c10
  have c12 := keep_cell hb14 c12
  have HV14 := hide hn14.terms
  obtain ⟨za, zc, rfl⟩ := hn14.form
  clear hb14 hn14
  go_wp2_with fail
  refine (eqTermS_any _ _ tss _ HY.out.terms HV14.out).mono ?_
  rintro e w15 ⟨rfl, hb15⟩
  have o12 := hb15.size
  have HE := hide (HE.out.keep hb15)
  have HX := hide (HX.out.keep hb15 (by omega))
  have HY := hide (HY.out.keep hb15 (by omega))
  have cx := keep_cell hb15 cx
  have c8 := keep_cell hb15 c8
  have c10 := keep_cell hb15 c10
  have c12 := keep_cell hb15 c12
  clear hb15 HV14
  have HM1 := hide (markTerm_any W6.heap.size w7.heap.size g7 ts.length ts 1 w15 HX.out (by omega) HSM1.out hlen1 (by omega) (by have := HCT1.out; omega))
  rw [show ((1 : Nat) : Int) = 1 from rfl] at HM1
  obtain ⟨K1, hK1⟩ : ∃ K1, K1 = 1 + costT ts := ⟨_, rfl⟩
  rw [← hK1] at HM1
  have hK1b : 1 ≤ K1 ∧ K1 ≤ 4200001 := by have := HCT1.out; omega
  clear hK1
  go_wp2_with fail
  refine HM1.out.mono ?_
  rintro e w16 ⟨rfl, hc16⟩
  have HE : Hid (LwS w w16 _ _ _ _ _ _ _ _ _) := HE.out.chg hc16 (by omega) (by omega) (by omega) (by
    intro p hp
    simp only [List.mem_cons, List.not_mem_nil, or_false] at hp
    rcases hp with rfl | rfl | rfl | rfl <;> simp only <;> omega)
  have o13 := hc16.1.size
  have HY : Hid (TsV W8.heap.size w9.heap.size w16 (.slice ya tss.length yc) tss) := HY.out.same (fun b q1 q2 => hc16.out (by omega) (by omega))
  clear hc16 HM1 HX cx c8 c10 c12
  have cx := HE.out.box (w.heap.size, .slice a1 ts.length cap1) (by simp)
  have c8 := HE.out.box (w5.heap.size, .slice a4 r.length c4) (by simp)
  have c12 := HE.out.box (w10.heap.size, .slice a6 r.length c6) (by simp)
  simp only at cx c8 c12
  have HM2 := hide (markTermS_V W8.heap.size w9.heap.size _ tss K1 w16 HY.out (by omega) HST2.out hlen2 hK1b.1 (by have := HCT2.out; omega))
  obtain ⟨K2, hK2⟩ : ∃ K2, K2 = K1 + costTs tss := ⟨_, rfl⟩
  rw [← hK2] at HM2
  have dK : decide ((K2 : Int) < 0) = false := by simp
  clear hK2
  go_wp2_with fail
  refine HM2.out.mono ?_
  rintro e w17 ⟨rfl, _, hc17⟩
  have HE : Hid (LwS w w17 _ _ _ _ _ _ _ _ _) := HE.out.chg hc17 (by omega) (by omega) (by omega) (by
    intro p hp
    simp only [List.mem_cons, List.not_mem_nil, or_false] at hp
    rcases hp with rfl | rfl | rfl | rfl <;> simp only <;> omega)
  have o14 := hc17.1.size
  clear hc17 HM2 HY cx c8 c12
  have cx := HE.out.box (w.heap.size, .slice a1 ts.length cap1) (by simp)
  have c8 := HE.out.box (w5.heap.size, .slice a4 r.length c4) (by simp)
  have c12 := HE.out.box (w10.heap.size, .slice a6 r.length c6) (by simp)
  simp only at cx c8 c12
  go_wp2_with fail
  refine (eqTerm_any _ _ r _ HE.out.a6.nodes HE.out.a4.at).mono ?_
  rintro e w18 ⟨rfl, hb18⟩
  have o15 := hb18.size
  have HE := hide (HE.out.keep hb18)
  have cx := keep_cell hb18 cx
  have c8 := keep_cell hb18 c8
  have c12 := keep_cell hb18 c12
  clear hb18
  obtain ⟨k1, k2, k3⟩ := HOK.out.small
  have HK1 : Hid (∀ td ∈ r, TSmall td) := k1
  have HM3 := hide (markTerm_V w9.heap.size w10.heap.size _ r 1 w18 HE.out.a6 (by omega) (by omega) HK1.out (by simp only at k2; omega) (by omega) (by simp only at k3; omega))
  rw [show ((1 : Nat) : Int) = 1 from rfl] at HM3
  obtain ⟨K3, hK3⟩ : ∃ K3, K3 = 1 + costT r := ⟨_, rfl⟩
  have HK3 := hide hK3
  rw [← hK3] at HM3
  have hk50 : K3 ≤ 50000000 := by simp only at k3; omega
  clear hK3 k1 k2 k3
  go_wp2_with fail
  refine HM3.out.mono ?_
  rintro e w19 ⟨rfl, hv19, hc19⟩
  have HE : Hid (LwS w w19 _ _ _ _ _ _ _ _ (markT 1 r)) := HE.out.mark hv19 hc19 (by omega) (by omega) (by
    intro p hp
    simp only [List.mem_cons, List.not_mem_nil, or_false] at hp
    rcases hp with rfl | rfl | rfl | rfl <;> simp only <;> omega)
  have o16 := hc19.1.size
  clear hv19 hc19 HM3 cx c8 c12
  have cx := HE.out.box (w.heap.size, .slice a1 ts.length cap1) (by simp)
  have c8 := HE.out.box (w5.heap.size, .slice a4 r.length c4) (by simp)
  have c12 := HE.out.box (w10.heap.size, .slice a6 r.length c6) (by simp)
  simp only at cx c8 c12
  have HH := hide (show ∀ W, TNodesAt W (.slice a6 r.length c6) (markT 1 r) → Calls Tryz.prog 20 #[.agg #[.slice a6 r.length c6], .int .i64 1] W fun e w' => e = .returned (.int .i64 (K3 : Int)) ∧ Below W.heap.size W w' from fun W hW => by
    have := heldTerm_any _ r 1 W hW HK1.out (by omega) (by have := HK3.out; omega)
    rw [← HK3.out] at this
    exact this)
  have hKK : ((K3 : Int) != (K3 : Int)) = false := by simp
  have dK3 : decide ((K3 : Int) < 0) = false := by simp
  go_wp2_with fail
  refine (HH.out _ HE.out.a6.nodes).mono ?_
  rintro e w20 ⟨rfl, hb20⟩
  have HE := hide (HE.out.keep hb20)
  have cx := keep_cell hb20 cx
  have c8 := keep_cell hb20 c8
  have c12 := keep_cell hb20 c12
  clear hb20
  go_wp2_with fail
  refine (HC1.out _ _ (HN1.out.keep HE.out.bel)).mono ?_
  rintro e w21 ⟨g21, rfl, hn21, hg21, hb21⟩
  have HE := hide (HE.out.keep hb21)
  have c8 := keep_cell hb21 c8
  have c12 := keep_cell hb21 c12
  have HV21 := hide (hn21.nodes rfl)
  clear hb21 hn21 hg21 cx
  go_wp2_with fail
  refine (HC2.out _ _ (HN2.out.keep HE.out.bel)).mono ?_
  rintro e w22 ⟨v22, rfl, hn22, hb22⟩
  have HE := hide (HE.out.keep hb22)
  have c8 := keep_cell hb22 c8
  have c12 := keep_cell hb22 c12
  have HV21 := hide (HV21.out.keep hb22)
  have HV22 := hide hn22.terms
  obtain ⟨qa, qc, rfl⟩ := hn22.form
  clear hb22 hn22
  go_wp2_with fail
  refine (HIM.out _ _ _ HV21.out HV22.out).mono ?_
  rintro e w23 ⟨⟨v23, rfl, ho23⟩, hb23⟩
  obtain ⟨a23, c23, rfl⟩ := ho23.form
  obtain ⟨W24, hW24⟩ : ∃ W24, W24 = w23.alloc (.cells #[.slice a23 r.length c23] 28) := ⟨_, rfl⟩
  have hbW : Below w23.heap.size w23 W24 := by rw [hW24]; exact bel_alloc (Below.refl _ _) _
  have HE := hide ((HE.out.keep hb23).keep hbW)
  have c8 := keep_cell hbW (keep_cell hb23 c8)
  have c12 := keep_cell hbW (keep_cell hb23 c12)
  have c16 : W24.cell? ⟨w23.heap.size, 0, none⟩ = some (.slice a23 r.length c23) := by rw [hW24]; simp [go_sem]
  have o17 := lt_cell c16
  have HI24 := hide (ho23.nodes.keep hbW)
  clear hb23 ho23 HV21 HV22
  go_upto_region 32 with fail
  rw [← hW24]
  clear hW24 hbW
  go_wp2_with fail
  refine (eqTerm_any _ _ r _ HI24.out HE.out.a4.at).mono ?_
  rintro e w25 ⟨rfl, hb25⟩
  have HE := hide (HE.out.keep hb25)
  have c12 := keep_cell hb25 c12
  clear hb25 c8 c16 HI24
  go_wp2_with fail
  refine (HH.out _ HE.out.a6.nodes).mono ?_
  rintro e w26 ⟨rfl, hb26⟩
  have HE := hide (HE.out.keep hb26)
  clear hb26 c12
  go_wp2_with fail
  go_ret
  exact ⟨rfl, HE.out.bel⟩
end Go.Proofs.YtbgibiongnhjoaaGreat
