/- The walk of the law FnExactPutParams. -/
import Derived.Test.YtbgibiongnhjoaaGreatPpH
import Derived.Test.YtbgibiongnhjoaaGreatTEq
import Derived.Test.YtbgibiongnhjoaaGreatStG
import Derived.Deep.RegionHeld3
import Derived.Deep.CutRange
import Derived.Deep.Upon
import Derived.Test.YtbgibiongnhjoaaGreatTo
import Derived.Deep.Slices
import Derived.Deep.Strs
import Derived.Lib.SmallJoins
namespace Go.Proofs.YtbgibiongnhjoaaGreat
open Go.ChangeShapes Go.WideShapes Go.ChangeAt Go.RowKit

theorem par_ok {ts : List Td} {T : Tt} {names : List ByteArray} {ls : List (List Nd)} (hT : TreeFor ts T) : AnsOk (parA ts T names ls) := by
  unfold parA
  split
  · rename_i h
    obtain ⟨h1, h2⟩ := h
    unfold namedB at h2
    rw [Bool.and_eq_true] at h2
    obtain ⟨hfl, hP⟩ := hT h1
    unfold parO
    split
    · rename_i hg
      refine .inr ⟨parR names (ls.map treeOf) T, rfl, by rw [parR_cnt, ← T.flat_len 0, hfl]; exact len_of h1, par_all (fun h c hn hf => ⟨fun l hl => ?_, by simp only [Hd.par, List.length_map]; exact (lv_small hn).1⟩) T hP hg⟩
      simp only [Hd.par, List.mem_map] at hl
      obtain ⟨m, hm, rfl⟩ := hl
      rw [fitL_ok (trees_ok h2.2).ok (lev_of hn.2 m hm)]
      exact List.all_eq_true.1 hf m hm
    · exact .inl rfl
  · exact .inl rfl
theorem levs_small {ls : List (List Nd)} (h : sumL lvSize ls ≤ 1048576) : ∀ l ∈ ls, l.length ≤ 1048576 ∧ ∀ nd ∈ l, nd.kids.length ≤ 1048576 := fun l hl => by
  have h3 := sumL_mem lvSize hl
  have h4 : lvSize l = l.length + nsSum l := rfl
  refine ⟨by omega, fun nd hnd => ?_⟩
  have h5 := nsSum_mem hnd
  have h6 : ndSize nd = nd.s.size + nd.kids.length := rfl
  omega
set_option maxRecDepth 100000 in
set_option maxHeartbeats 16000000 in
theorem pp_walk (v1 vn vl : Value) (ts : List Td) (names : List ByteArray) (ls : List (List Nd)) (w : World) (hn1 : TNodesAt w v1 ts) (hn2 : StrsAt w vn names) (hn3 : LevsAt w vl ls) (hz1 : ∀ td ∈ ts, TLens td) (hz2 : ∀ s ∈ names, s.size ≤ maxLen) (hz3 : ∀ l ∈ ls, LvLens l) :
    Calls Tryz.prog 7 #[.agg #[v1], vn, vl] w fun e w' => e = .returned (.bool true) ∧ Below w.heap.size w w' := by
  have HN1 := hide hn1
  have HN2 := hide hn2
  have HN3 := hide hn3
  have HZ1 := hide hz1
  have HZ2 := hide hz2
  have HZ3 := hide hz3
  obtain ⟨a1, cap1, rfl, _, _, _⟩ := hn1
  obtain ⟨a2, cap2, rfl, _, _, _⟩ := hn2
  obtain ⟨a3, cap3, rfl, _, _, _⟩ := hn3
  clear hz1 hz2 hz3
  obtain ⟨W0, hW0⟩ : ∃ W0, W0 = w.alloc (.cells #[.slice a1 ts.length cap1] 24) := ⟨_, rfl⟩
  have hb0 : Below w.heap.size w W0 := by rw [hW0]; exact bel_alloc (Below.refl _ _) _
  have cx : W0.cell? ⟨w.heap.size, 0, none⟩ = some (.slice a1 ts.length cap1) := by rw [hW0]; simp [go_sem]
  have lx := lt_cell cx
  have HB := hide hb0
  clear hb0
  by_cases hbig : (1048576 : Int) < (tmSize ts : Nat)
  · have HL : Hid (leftOf 1048576 (tmSize ts) = -1) := by show leftOf _ _ = _; rw [leftOf, if_pos hbig]
    clear hbig
    go_enter Tryz.func7, Tryz.ntmps7
    go_upto_region 1 with fail
    rw [← hW0]
    clear hW0
    go_wp2_with fail
    refine (szTerm_any _ ts _ _ (HN1.out.keep HB.out) HZ1.out (by omega) (by omega)).mono ?_
    rintro e w1 ⟨rfl, hb1⟩
    rw [HL.out]
    have hbel1 := bel_trans HB.out hb1
    clear hb1
    go_wp2_with fail
    go_ret
    exact ⟨rfl, hbel1⟩
  obtain ⟨M, hM⟩ : ∃ M : Int, M = 1048576 - (tmSize ts : Nat) := ⟨_, rfl⟩
  have hM0 : 0 ≤ M := by omega
  have HL : Hid (leftOf 1048576 (tmSize ts) = M) := by show leftOf _ _ = _; rw [leftOf, if_neg hbig, hM]
  have hlen1 : ts.length ≤ 1048576 := Nat.le_trans (show ts.length ≤ tmSize ts by unfold tmSize; omega) (by omega)
  have HSM1 := hide (tsmall_of (show tmSize ts ≤ 1048576 by omega))
  have HSPL1 := hide (spell_of (show tmSize ts ≤ 1048576 by omega))
  have HCT1 : Hid (costT ts ≤ 4200000) := by show _ ≤ _; have := costT_sum ts; unfold tmSize at hbig; omega
  have dM : decide (M < 0) = false := by simp; omega
  have hM1 : M ≤ 1048576 := by omega
  clear hbig hM
  by_cases hbig : M < (names.length + strSum names : Nat)
  · have HL2 : Hid (leftOf M (names.length + strSum names) = -1) := by show leftOf _ _ = _; rw [leftOf, if_pos hbig]
    clear hbig
    go_enter Tryz.func7, Tryz.ntmps7
    go_upto_region 1 with fail
    rw [← hW0]
    clear hW0
    go_wp2_with fail
    refine (szTerm_any _ ts _ _ (HN1.out.keep HB.out) HZ1.out (by omega) (by omega)).mono ?_
    rintro e w1 ⟨rfl, hb1⟩
    rw [HL.out]
    have HB1 := hide (bel_trans HB.out hb1)
    clear hb1 cx lx
    go_wp2_with fail
    refine (szStringS_any _ names _ _ (HN2.out.keep HB1.out) HZ2.out hM0 hM1).mono ?_
    rintro e w2 ⟨rfl, hw⟩
    have hw := hw.symm
    subst hw
    rw [HL2.out]
    go_wp2_with fail
    go_ret
    exact ⟨rfl, HB1.out⟩
  obtain ⟨M2, hM2⟩ : ∃ M2 : Int, M2 = M - (names.length + strSum names : Nat) := ⟨_, rfl⟩
  have HL2 : Hid (leftOf M (names.length + strSum names) = M2) := by show leftOf _ _ = _; rw [leftOf, if_neg hbig, hM2]
  have hlen2 : names.length ≤ 1048576 := by omega
  have hM20 : 0 ≤ M2 := by omega
  have hM21 : M2 ≤ 1048576 := by omega
  have dM2 : decide (M2 < 0) = false := by simp; omega
  clear hbig hM2
  by_cases hbig : M2 < (ls.length + sumL lvSize ls : Nat)
  · have HL3 : Hid (leftOf M2 (ls.length + sumL lvSize ls) = -1) := by show leftOf _ _ = _; rw [leftOf, if_pos hbig]
    clear hbig
    go_enter Tryz.func7, Tryz.ntmps7
    go_upto_region 1 with fail
    rw [← hW0]
    clear hW0
    go_wp2_with fail
    refine (szTerm_any _ ts _ _ (HN1.out.keep HB.out) HZ1.out (by omega) (by omega)).mono ?_
    rintro e w1 ⟨rfl, hb1⟩
    rw [HL.out]
    have HB1 := hide (bel_trans HB.out hb1)
    clear hb1 cx lx
    go_wp2_with fail
    refine (szStringS_any _ names _ _ (HN2.out.keep HB1.out) HZ2.out hM0 hM1).mono ?_
    rintro e w2 ⟨rfl, hw⟩
    have hw := hw.symm
    subst hw
    rw [HL2.out]
    go_wp2_with fail
    refine (szLevelS_any _ ls _ _ (HN3.out.keep HB1.out) HZ3.out hM20 hM21).mono ?_
    rintro e w3 ⟨rfl, hb3⟩
    rw [HL3.out]
    have hbel3 := bel_trans HB1.out hb3
    clear hb3
    go_wp2_with fail
    go_ret
    exact ⟨rfl, hbel3⟩
  obtain ⟨M3, hM3⟩ : ∃ M3 : Int, M3 = M2 - (ls.length + sumL lvSize ls : Nat) := ⟨_, rfl⟩
  have HL3 : Hid (leftOf M2 (ls.length + sumL lvSize ls) = M3) := by show leftOf _ _ = _; rw [leftOf, if_neg hbig, hM3]
  have hlen3 : ls.length ≤ 1048576 := by omega
  have HKL := hide (levs_small (show sumL lvSize ls ≤ 1048576 by omega))
  have HCL : Hid (costLs ls ≤ 2200000) := by show _ ≤ _; have := costLs_sum ls; omega
  have dM3 : decide (M3 < 0) = false := by simp; omega
  clear hbig hM3
  obtain ⟨T, hT⟩ := tree_for ts
  obtain ⟨A, hA⟩ : ∃ A, A = parA ts T names ls := ⟨_, rfl⟩
  have HOK : Hid (AnsOk A) := by show AnsOk _; rw [hA]; exact par_ok hT
  have HSP : Hid (∀ (v1 v2 v3 : Value) (w : World), TNodesAt w v1 ts → StrsAt w v2 names → LevsAt w v3 ls → Calls Tryz.prog 32 #[.agg #[v1], v2, v3] w fun e w' => SOut w.heap.size w' e A ∧ Below w.heap.size w w') := fun v1 v2 v3 w h1 h2 h3 => by
    rw [hA]
    exact specPutParams_any v1 v2 v3 ts T names ls w h1 HZ1.out (fun td h => (HSM1.out td h).1) h2 h3 HZ3.out hlen3 hT
  have HIM : Hid (∀ (v1 v2 v3 : Value) (w : World), TNodesAt w v1 ts → StrsAt w v2 names → LevsAt w v3 ls → Calls Tryz.prog 35 #[.agg #[v1], v2, v3] w fun e w' => TOut w.heap.size w' e A ∧ Below w.heap.size w w') := fun v1 v2 v3 w h1 h2 h3 => by
    rw [hA]
    exact implPutParams_any v1 v2 v3 ts T names ls w h1 HZ1.out HSM1.out HSPL1.out h2 h3 HZ3.out hT
  have HC1 : Hid (∀ (v : Value) (w : World), TNodesAt w v ts → Calls Tryz.prog 14 #[.agg #[v]] w fun e w' => ∃ g, e = .returned (.agg #[.slice (some ⟨g, 0, none⟩) ts.length ts.length]) ∧ TsR w.heap.size w'.heap.size w' g ts.length ts.length ts ∧ w.heap.size ≤ g ∧ Below w.heap.size w w') := fun v w hv => toTerm_own v ts w hv hlen1 HSM1.out
  have HC2 : Hid (∀ (v : Value) (w : World), StrsAt w v names → Calls Tryz.prog 33 #[v] w fun e w' => ∃ g, e = .returned (.slice (some ⟨g, 0, none⟩) names.length names.length) ∧ w'.ownsRow w.heap.size 9 1 (.slice (some ⟨g, 0, none⟩) names.length names.length) names.length (names.map Value.string) ∧ w.heap.size ≤ g ∧ Below w.heap.size w w') := fun v w hv => toStringS_own v names w hv hlen2
  have HC3 : Hid (∀ (v : Value) (w : World), LevsAt w v ls → Calls Tryz.prog 34 #[v] w fun e w' => ∃ g, e = .returned (.slice (some ⟨g, 0, none⟩) ls.length ls.length) ∧ LsV w.heap.size w'.heap.size w' (.slice (some ⟨g, 0, none⟩) ls.length ls.length) ls ∧ Below w.heap.size w w') := fun v w hv => (toLevelS_own v ls w hv hlen3 HKL.out).mono (by
    rintro e w' ⟨g, rfl, h1, h2, h3⟩
    have hR : g < w'.heap.size := by obtain ⟨xs, f, q1, _⟩ := h1; exact (World.ownsRow.lt q1 g rfl).2
    exact ⟨g, rfl, h1.toV rfl hR, h3⟩)
  clear hA hT
  obtain ⟨r, c⟩ := A
  have hself : (c != c) = false := by simp
  go_enter Tryz.func7, Tryz.ntmps7
  go_upto_region 1 with fail
  rw [← hW0]
  clear hW0
  go_wp2_with fail
  refine (szTerm_any _ ts _ _ (HN1.out.keep HB.out) HZ1.out (by omega) (by omega)).mono ?_
  rintro e w1 ⟨rfl, hb1⟩
  rw [HL.out]
  have cx := keep_cell hb1 cx
  have lx := lt_cell cx
  have HB := hide (bel_trans HB.out hb1)
  clear hb1 HL
  go_wp2_with fail
  refine (szStringS_any _ names _ _ (HN2.out.keep HB.out) HZ2.out hM0 hM1).mono ?_
  rintro e w1' ⟨rfl, hw⟩
  have hw := hw.symm
  subst hw
  rw [HL2.out]
  clear HL2
  go_wp2_with fail
  refine (szLevelS_any _ ls _ _ (HN3.out.keep HB.out) HZ3.out hM20 hM21).mono ?_
  rintro e w2 ⟨rfl, hb2⟩
  rw [HL3.out]
  have cx := keep_cell hb2 cx
  have lx := lt_cell cx
  have HB := hide (bel_trans HB.out hb2)
  have hw0 : w.heap.size < w2.heap.size := lx
  clear hb2 HL3 dM hM0 hM1 dM2 hM20 hM21
  go_wp2_with fail
  refine (HC1.out _ _ (HN1.out.keep HB.out)).mono ?_
  rintro e w3 ⟨g3, rfl, hn3, hg3, hb3⟩
  have cx := keep_cell hb3 cx
  have lx := lt_cell cx
  have HB := hide (bel_trans HB.out hb3)
  have HV3 := hide (hn3.nodes rfl)
  have hs3 := hb3.size
  clear hb3 hn3 hg3
  go_wp2_with fail
  refine (HC2.out _ _ (HN2.out.keep HB.out)).mono ?_
  rintro e w4 ⟨g4, rfl, hn4, hg4, hb4⟩
  have cx := keep_cell hb4 cx
  have lx := lt_cell cx
  have HB := hide (bel_trans HB.out hb4)
  have HV3 := hide (HV3.out.keep hb4)
  have HV4 := hide (row_strs hn4)
  have hs4 := hb4.size
  clear hb4 hn4 hg4
  go_wp2_with fail
  refine (HC3.out _ _ (HN3.out.keep HB.out)).mono ?_
  rintro e w4' ⟨g4', rfl, hn4', hb4'⟩
  have cx := keep_cell hb4' cx
  have lx := lt_cell cx
  have HB := hide (bel_trans HB.out hb4')
  have HV3 := hide (HV3.out.keep hb4')
  have HV4 := hide (HV4.out.keep hb4')
  have HV5 := hide hn4'.levs
  have hs4' := hb4'.size
  clear hb4' hn4'
  go_wp2_with fail
  refine (HSP.out _ _ _ _ HV3.out HV4.out HV5.out).mono ?_
  rintro e w5 ⟨⟨v5, rfl, ho5⟩, hb5⟩
  have cx := keep_cell hb5 cx
  have HB := hide (bel_trans HB.out hb5)
  have o1 := hb5.size
  obtain ⟨a4, c4, rfl⟩ := ho5.form
  have HA4 := hide ho5
  clear hb5 ho5 HSP HV3 HV4 HV5
  obtain ⟨W6, hW6⟩ : ∃ W6, W6 = w5.alloc (.cells #[.slice a4 r.length c4] 28) := ⟨_, rfl⟩
  have hbW : Below w5.heap.size w5 W6 := by rw [hW6]; exact bel_alloc (Below.refl _ _) _
  have c8 : W6.cell? ⟨w5.heap.size, 0, none⟩ = some (.slice a4 r.length c4) := by rw [hW6]; simp [go_sem]
  have o2 := lt_cell c8
  have cx := keep_cell hbW cx
  have lx := lt_cell cx
  have HB := hide (bel_trans HB.out hbW)
  have HA4 : Hid (FrR w4'.heap.size w5.heap.size W6 (.slice a4 r.length c4) r) := HA4.out.range.same (fun b _ q => hbW.block b q)
  go_upto_region 12 with fail
  rw [← hW6]
  clear hW6 hbW
  go_wp2_with fail
  refine (HC1.out _ _ (HN1.out.keep HB.out)).mono ?_
  rintro e w7 ⟨g7, rfl, hn7, hg7, hb7⟩
  have o3 := hb7.size
  have cx := keep_cell hb7 cx
  have c8 := keep_cell hb7 c8
  have HB := hide (bel_trans HB.out hb7)
  have HA4 := hide (HA4.out.same (fun b _ q => hb7.block b (by omega)))
  have HX := hide hn7
  clear hb7 hn7 hg7
  obtain ⟨W8, hW8⟩ : ∃ W8, W8 = w7.alloc (.cells #[.slice (some ⟨g7, 0, none⟩) ts.length ts.length] 28) := ⟨_, rfl⟩
  have hbW : Below w7.heap.size w7 W8 := by rw [hW8]; exact bel_alloc (Below.refl _ _) _
  have c10 : W8.cell? ⟨w7.heap.size, 0, none⟩ = some (.slice (some ⟨g7, 0, none⟩) ts.length ts.length) := by rw [hW8]; simp [go_sem]
  have o4 := lt_cell c10
  have cx := keep_cell hbW cx
  have c8 := keep_cell hbW c8
  have HB := hide (bel_trans HB.out hbW)
  have HA4 := hide (HA4.out.same (fun b _ q => hbW.block b (by omega)))
  have HX := hide (HX.out.keep hbW (Nat.le_refl _))
  go_upto_region 13 with fail
  rw [← hW8]
  clear hW8 hbW
  go_wp2_with fail
  refine (HC2.out _ _ (HN2.out.keep HB.out)).mono ?_
  rintro e w9 ⟨g9, rfl, hn9, hg9, hb9⟩
  have o5 := hb9.size
  have cx := keep_cell hb9 cx
  have c8 := keep_cell hb9 c8
  have c10 := keep_cell hb9 c10
  have HB := hide (bel_trans HB.out hb9)
  have HA4 := hide (HA4.out.same (fun b _ q => hb9.block b (by omega)))
  have HX := hide (HX.out.keep hb9 (by omega))
  have HY := hide hn9
  have hg9' := (World.ownsRow.lt hn9 g9 rfl).2
  clear hb9 hn9
  go_wp2_with fail
  refine (HC3.out _ _ (HN3.out.keep HB.out)).mono ?_
  rintro e w9' ⟨g10, rfl, hn10, hb10'⟩
  have o5' := hb10'.size
  have cx := keep_cell hb10' cx
  have c8 := keep_cell hb10' c8
  have c10 := keep_cell hb10' c10
  have l10 := lt_cell c10
  have HB := hide (bel_trans HB.out hb10')
  have HA4 := hide (HA4.out.same (fun b _ q => hb10'.block b (by omega)))
  have HX := hide (HX.out.keep hb10' (by omega))
  have HY := hide (row_keep hb10' HY.out)
  have HLV := hide hn10
  clear hb10' hn10
  go_wp2_with fail
  refine (HIM.out _ _ _ _ (HX.out.nodes rfl) (row_strs HY.out) HLV.out.levs).mono ?_
  rintro e w10 ⟨⟨v6, rfl, ho6⟩, hb10⟩
  have o6 := hb10.size
  obtain ⟨a6, c6, rfl⟩ := ho6.form
  obtain ⟨W11, hW11⟩ : ∃ W11, W11 = w10.alloc (.cells #[.slice a6 r.length c6] 28) := ⟨_, rfl⟩
  have hbW : Below w10.heap.size w10 W11 := by rw [hW11]; exact bel_alloc (Below.refl _ _) _
  have c12 : W11.cell? ⟨w10.heap.size, 0, none⟩ = some (.slice a6 r.length c6) := by rw [hW11]; simp [go_sem]
  have o7 := lt_cell c12
  have HE : Hid (LwS w W11 [(w.heap.size, .slice a1 ts.length cap1), (w5.heap.size, .slice a4 r.length c4), (w7.heap.size, .slice (some ⟨g7, 0, none⟩) ts.length ts.length), (w10.heap.size, .slice a6 r.length c6)] w4'.heap.size w5.heap.size w9'.heap.size w10.heap.size (.slice a4 r.length c4) (.slice a6 r.length c6) r r) := by
    refine ⟨bel_trans HB.out (bel_trans hb10 hbW), by omega, HA4.out.same (fun b _ q => by rw [hbW.block b (by omega), hb10.block b (by omega)]), ho6.keep hbW (Nat.le_refl _), ?_⟩
    intro p hp
    simp only [List.mem_cons, List.not_mem_nil, or_false] at hp
    rcases hp with rfl | rfl | rfl | rfl
    · exact keep_cell hbW (keep_cell hb10 cx)
    · exact keep_cell hbW (keep_cell hb10 c8)
    · exact keep_cell hbW (keep_cell hb10 c10)
    · exact c12
  have HX := hide (HX.out.keep (bel_trans hb10 hbW) (by omega))
  have HY := hide (row_keep (bel_trans hb10 hbW) HY.out)
  have HLV := hide (HLV.out.keep (bel_trans hb10 hbW) (by omega))
  clear hb10 ho6 cx c8 c10 c12 HB HA4 lx l10
  have cx := HE.out.box (w.heap.size, .slice a1 ts.length cap1) (by simp)
  have c8 := HE.out.box (w5.heap.size, .slice a4 r.length c4) (by simp)
  have c10 := HE.out.box (w7.heap.size, .slice (some ⟨g7, 0, none⟩) ts.length ts.length) (by simp)
  have c12 := HE.out.box (w10.heap.size, .slice a6 r.length c6) (by simp)
  simp only at cx c8 c10 c12
  go_upto_region 16 with fail
  rw [← hW11]
  clear hW11 hbW
  go_wp2_with fail
  refine (eqTerm_any _ _ r _ HE.out.a6.nodes HE.out.a4.at).mono ?_
  rintro e w11 ⟨rfl, hb11⟩
  have o9 := hb11.size
  have HE := hide (HE.out.keep hb11)
  have HX := hide (HX.out.keep hb11 (by omega))
  have HY := hide (row_keep hb11 HY.out)
  have HLV := hide (HLV.out.keep hb11 (by omega))
  have cx := keep_cell hb11 cx
  have c8 := keep_cell hb11 c8
  have c10 := keep_cell hb11 c10
  have c12 := keep_cell hb11 c12
  clear hb11
  go_wp2_with fail
  go_region_held3 (fun w' => w'.cell? ⟨w7.heap.size, 0, none⟩ = some (.slice (some ⟨g7, 0, none⟩) ts.length ts.length) ∧ w'.cell? ⟨w.heap.size, 0, none⟩ = some (.slice a1 ts.length cap1))
    (first
      | go_keep
      | (go_split_ands; exact ⟨keep_cell hb13 (by assumption), keep_cell hb13 (by assumption)⟩)
      | (go_split_ands; exact ⟨keep_cell hb12 (by assumption), keep_cell hb12 (by assumption)⟩)
      | fail)
    (first
      | (go_at_call 14; refine (HC1.out _ _ (by exact HN1.out.keep HE.out.bel.drew)).mono ?_; rintro e w12 ⟨g12, rfl, hn12, hg12, hb12⟩)
      | (go_at_call 16; refine (eqTerm_any _ _ ts _ (by exact (HX.out.nodes rfl).keep ((Below.refl w11.heap.size w11).drew.trans hb12)) (hn12.nodes rfl)).mono ?_; rintro e w13 ⟨rfl, hb13⟩)
      | fail)
  have hbb : Below w11.heap.size w11 w13 := (Below.refl w11.heap.size w11).drew.trans (hb12.trans (hb13.mono hb12.size))
  clear hn12 hb12 hb13 hg12
  have o10 := hbb.size
  have HE := hide (HE.out.keep hbb)
  have HX := hide (HX.out.keep hbb (by omega))
  have HY := hide (row_keep hbb HY.out)
  have HLV := hide (HLV.out.keep hbb (by omega))
  have cx := keep_cell hbb cx
  have c8 := keep_cell hbb c8
  have c10 := keep_cell hbb c10
  have c12 := keep_cell hbb c12
  clear hbb
  go_wp2_with fail
  refine (HC2.out _ _ (HN2.out.keep HE.out.bel)).mono ?_
  rintro e w14 ⟨g14, rfl, hn14, hg14, hb14⟩
  have o11 := hb14.size
  have HE := hide (HE.out.keep hb14)
  have HX := hide (HX.out.keep hb14 (by omega))
  have HY := hide (row_keep hb14 HY.out)
  have HLV := hide (HLV.out.keep hb14 (by omega))
  have cx := keep_cell hb14 cx
  have c8 := keep_cell hb14 c8
  have c10 := keep_cell hb14 c10
  have c12 := keep_cell hb14 c12
  have HV14 := hide (row_strs hn14)
  clear hb14 hn14 hg14
  go_wp2_with fail
  refine (eqStringS_any _ _ names _ (row_strs HY.out) HV14.out).mono ?_
  rintro e w15 ⟨rfl, n15, hw15⟩
  have hb15 : Below w14.heap.size w14 w15 := by rw [hw15]; exact below_drewN (Below.refl _ _) n15
  have o12 := hb15.size
  have HE := hide (HE.out.keep hb15)
  have HX := hide (HX.out.keep hb15 (by omega))
  have HY := hide (row_keep hb15 HY.out)
  have HLV := hide (HLV.out.keep hb15 (by omega))
  have cx := keep_cell hb15 cx
  have c8 := keep_cell hb15 c8
  have c10 := keep_cell hb15 c10
  have c12 := keep_cell hb15 c12
  clear hb15 hw15 HV14
  go_wp2_with fail
  refine (HC3.out _ _ (HN3.out.keep HE.out.bel)).mono ?_
  rintro e w14b ⟨g14b, rfl, hn14b, hb14b⟩
  have o11b := hb14b.size
  have HE := hide (HE.out.keep hb14b)
  have HX := hide (HX.out.keep hb14b (by omega))
  have HY := hide (row_keep hb14b HY.out)
  have HLV := hide (HLV.out.keep hb14b (by omega))
  have cx := keep_cell hb14b cx
  have c8 := keep_cell hb14b c8
  have c10 := keep_cell hb14b c10
  have c12 := keep_cell hb14b c12
  have HV14b := hide hn14b.levs
  clear hb14b hn14b
  go_wp2_with fail
  refine (eqLevelS_any _ _ ls _ HLV.out.levs HV14b.out).mono ?_
  rintro e w15b ⟨rfl, hb15b⟩
  have o12b := hb15b.size
  have HE := hide (HE.out.keep hb15b)
  have HX := hide (HX.out.keep hb15b (by omega))
  have HY := hide (row_keep hb15b HY.out)
  have HLV := hide (HLV.out.keep hb15b (by omega))
  have cx := keep_cell hb15b cx
  have c8 := keep_cell hb15b c8
  have c10 := keep_cell hb15b c10
  have c12 := keep_cell hb15b c12
  clear hb15b HV14b
  have HM1 := hide (markTerm_any W6.heap.size w7.heap.size g7 ts.length ts 1 w15b HX.out (by omega) HSM1.out hlen1 (by omega) (by have := HCT1.out; omega))
  rw [show ((1 : Nat) : Int) = 1 from rfl] at HM1
  obtain ⟨K1, hK1⟩ : ∃ K1, K1 = 1 + costT ts := ⟨_, rfl⟩
  rw [← hK1] at HM1
  have hK1b : 1 ≤ K1 ∧ K1 ≤ 4200001 := by have := HCT1.out; omega
  clear hK1
  go_wp2_with fail
  refine HM1.out.mono ?_
  rintro e w16 ⟨rfl, hc16⟩
  have HE : Hid (LwS w w16 _ _ _ _ _ _ _ _ _) := HE.out.chg hc16 (by omega) (by omega) (by omega) (by
    intro p hp
    simp only [List.mem_cons, List.not_mem_nil, or_false] at hp
    rcases hp with rfl | rfl | rfl | rfl <;> simp only <;> omega)
  have o13 := hc16.1.size
  have HY : Hid (w16.ownsRow W8.heap.size 9 1 (.slice (some ⟨g9, 0, none⟩) names.length names.length) names.length (names.map Value.string)) := row_same HY.out (fun b hb => by
    have e : b = g9 := by simp [Value.ownBlock] at hb; omega
    subst e
    exact hc16.out (by omega) (by omega))
  have HLV : Hid (LsV w9.heap.size w9'.heap.size w16 (.slice (some ⟨g10, 0, none⟩) ls.length ls.length) ls) := HLV.out.same (fun b q1 q2 => hc16.out (by omega) (by omega))
  clear hc16 HM1 HX cx c8 c10 c12
  have cx := HE.out.box (w.heap.size, .slice a1 ts.length cap1) (by simp)
  have c8 := HE.out.box (w5.heap.size, .slice a4 r.length c4) (by simp)
  have c12 := HE.out.box (w10.heap.size, .slice a6 r.length c6) (by simp)
  simp only at cx c8 c12
  have HM2 := hide (markStringS_any W8.heap.size w9.heap.size g9 names.length names.length (names.map Value.string) K1 w16 HY.out hg9' (by omega) hlen2 hK1b.1 (by omega))
  obtain ⟨K2, hK2⟩ : ∃ K2, K2 = K1 + names.length := ⟨_, rfl⟩
  rw [← hK2] at HM2
  have hK2b : 1 ≤ K2 ∧ K2 ≤ 5300000 := by omega
  clear hK2
  go_wp2_with fail
  refine HM2.out.mono ?_
  rintro e w17 ⟨rfl, hc17⟩
  have HE : Hid (LwS w w17 _ _ _ _ _ _ _ _ _) := HE.out.chg hc17 (by omega) (by omega) (by omega) (by
    intro p hp
    simp only [List.mem_cons, List.not_mem_nil, or_false] at hp
    rcases hp with rfl | rfl | rfl | rfl <;> simp only <;> omega)
  have o14 := hc17.1.size
  have HLV : Hid (LsV w9.heap.size w9'.heap.size w17 (.slice (some ⟨g10, 0, none⟩) ls.length ls.length) ls) := HLV.out.same (fun b q1 q2 => hc17.out (by omega) (by omega))
  clear hc17 HM2 HY cx c8 c12
  have cx := HE.out.box (w.heap.size, .slice a1 ts.length cap1) (by simp)
  have c8 := HE.out.box (w5.heap.size, .slice a4 r.length c4) (by simp)
  have c12 := HE.out.box (w10.heap.size, .slice a6 r.length c6) (by simp)
  simp only at cx c8 c12
  have HM2 := hide (markLevelS_V w9.heap.size w9'.heap.size _ ls K2 w17 HLV.out (by omega) HKL.out hlen3 hK2b.1 (by have := HCL.out; omega))
  obtain ⟨K2b, hK2b'⟩ : ∃ K2b, K2b = K2 + costLs ls := ⟨_, rfl⟩
  rw [← hK2b'] at HM2
  have dK : decide ((K2b : Int) < 0) = false := by simp
  clear hK2b'
  go_wp2_with fail
  refine HM2.out.mono ?_
  rintro e w17b ⟨rfl, _, hc17b⟩
  have HE : Hid (LwS w w17b _ _ _ _ _ _ _ _ _) := HE.out.chg hc17b (by omega) (by omega) (by omega) (by
    intro p hp
    simp only [List.mem_cons, List.not_mem_nil, or_false] at hp
    rcases hp with rfl | rfl | rfl | rfl <;> simp only <;> omega)
  have o14b := hc17b.1.size
  clear hc17b HM2 HLV cx c8 c12
  have cx := HE.out.box (w.heap.size, .slice a1 ts.length cap1) (by simp)
  have c8 := HE.out.box (w5.heap.size, .slice a4 r.length c4) (by simp)
  have c12 := HE.out.box (w10.heap.size, .slice a6 r.length c6) (by simp)
  simp only at cx c8 c12
  go_wp2_with fail
  refine (eqTerm_any _ _ r _ HE.out.a6.nodes HE.out.a4.at).mono ?_
  rintro e w18 ⟨rfl, hb18⟩
  have o15 := hb18.size
  have HE := hide (HE.out.keep hb18)
  have cx := keep_cell hb18 cx
  have c8 := keep_cell hb18 c8
  have c12 := keep_cell hb18 c12
  clear hb18
  obtain ⟨k1, k2, k3⟩ := HOK.out.small
  have HK1 : Hid (∀ td ∈ r, TSmall td) := k1
  have HM3 := hide (markTerm_V w9'.heap.size w10.heap.size _ r 1 w18 HE.out.a6 (by omega) (by omega) HK1.out (by simp only at k2; omega) (by omega) (by simp only at k3; omega))
  rw [show ((1 : Nat) : Int) = 1 from rfl] at HM3
  obtain ⟨K3, hK3⟩ : ∃ K3, K3 = 1 + costT r := ⟨_, rfl⟩
  have HK3 := hide hK3
  rw [← hK3] at HM3
  have hk50 : K3 ≤ 50000000 := by simp only at k3; omega
  clear hK3 k1 k2 k3
  go_wp2_with fail
  refine HM3.out.mono ?_
  rintro e w19 ⟨rfl, hv19, hc19⟩
  have HE : Hid (LwS w w19 _ _ _ _ _ _ _ _ (markT 1 r)) := HE.out.mark hv19 hc19 (by omega) (by omega) (by
    intro p hp
    simp only [List.mem_cons, List.not_mem_nil, or_false] at hp
    rcases hp with rfl | rfl | rfl | rfl <;> simp only <;> omega)
  have o16 := hc19.1.size
  clear hv19 hc19 HM3 cx c8 c12
  have cx := HE.out.box (w.heap.size, .slice a1 ts.length cap1) (by simp)
  have c8 := HE.out.box (w5.heap.size, .slice a4 r.length c4) (by simp)
  have c12 := HE.out.box (w10.heap.size, .slice a6 r.length c6) (by simp)
  simp only at cx c8 c12
  have HH := hide (show ∀ W, TNodesAt W (.slice a6 r.length c6) (markT 1 r) → Calls Tryz.prog 20 #[.agg #[.slice a6 r.length c6], .int .i64 1] W fun e w' => e = .returned (.int .i64 (K3 : Int)) ∧ Below W.heap.size W w' from fun W hW => by
    have := heldTerm_any _ r 1 W hW HK1.out (by omega) (by have := HK3.out; omega)
    rw [← HK3.out] at this
    exact this)
  have hKK : ((K3 : Int) != (K3 : Int)) = false := by simp
  have dK3 : decide ((K3 : Int) < 0) = false := by simp
  go_wp2_with fail
  refine (HH.out _ HE.out.a6.nodes).mono ?_
  rintro e w20 ⟨rfl, hb20⟩
  have HE := hide (HE.out.keep hb20)
  have cx := keep_cell hb20 cx
  have c8 := keep_cell hb20 c8
  have c12 := keep_cell hb20 c12
  clear hb20
  go_wp2_with fail
  refine (HC1.out _ _ (HN1.out.keep HE.out.bel)).mono ?_
  rintro e w21 ⟨g21, rfl, hn21, hg21, hb21⟩
  have HE := hide (HE.out.keep hb21)
  have c8 := keep_cell hb21 c8
  have c12 := keep_cell hb21 c12
  have HV21 := hide (hn21.nodes rfl)
  clear hb21 hn21 hg21 cx
  go_wp2_with fail
  refine (HC2.out _ _ (HN2.out.keep HE.out.bel)).mono ?_
  rintro e w22 ⟨g22, rfl, hn22, hg22, hb22⟩
  have HE := hide (HE.out.keep hb22)
  have c8 := keep_cell hb22 c8
  have c12 := keep_cell hb22 c12
  have HV21 := hide (HV21.out.keep hb22)
  have HV22 := hide (row_strs hn22)
  clear hb22 hn22 hg22
  go_wp2_with fail
  refine (HC3.out _ _ (HN3.out.keep HE.out.bel)).mono ?_
  rintro e w22b ⟨g22b, rfl, hn22b, hb22b⟩
  have HE := hide (HE.out.keep hb22b)
  have c8 := keep_cell hb22b c8
  have c12 := keep_cell hb22b c12
  have HV21 := hide (HV21.out.keep hb22b)
  have HV22 := hide (HV22.out.keep hb22b)
  have HV22b := hide hn22b.levs
  clear hb22b hn22b
  go_wp2_with fail
  refine (HIM.out _ _ _ _ HV21.out HV22.out HV22b.out).mono ?_
  rintro e w23 ⟨⟨v23, rfl, ho23⟩, hb23⟩
  obtain ⟨a23, c23, rfl⟩ := ho23.form
  obtain ⟨W24, hW24⟩ : ∃ W24, W24 = w23.alloc (.cells #[.slice a23 r.length c23] 28) := ⟨_, rfl⟩
  have hbW : Below w23.heap.size w23 W24 := by rw [hW24]; exact bel_alloc (Below.refl _ _) _
  have HE := hide ((HE.out.keep hb23).keep hbW)
  have c8 := keep_cell hbW (keep_cell hb23 c8)
  have c12 := keep_cell hbW (keep_cell hb23 c12)
  have c16 : W24.cell? ⟨w23.heap.size, 0, none⟩ = some (.slice a23 r.length c23) := by rw [hW24]; simp [go_sem]
  have o17 := lt_cell c16
  have HI24 := hide (ho23.nodes.keep hbW)
  clear hb23 ho23 HV21 HV22 HV22b
  go_upto_region 39 with fail
  rw [← hW24]
  clear hW24 hbW
  go_wp2_with fail
  refine (eqTerm_any _ _ r _ HI24.out HE.out.a4.at).mono ?_
  rintro e w25 ⟨rfl, hb25⟩
  have HE := hide (HE.out.keep hb25)
  have c12 := keep_cell hb25 c12
  clear hb25 c8 c16 HI24
  go_wp2_with fail
  refine (HH.out _ HE.out.a6.nodes).mono ?_
  rintro e w26 ⟨rfl, hb26⟩
  have HE := hide (HE.out.keep hb26)
  clear hb26 c12
  go_wp2_with fail
  go_ret
  exact ⟨rfl, HE.out.bel⟩
end Go.Proofs.YtbgibiongnhjoaaGreat

/- How a level that comes in as an argument is read: whatever was read as one lies in memory as a row of nodes. -/
namespace Go.Proofs.YtbgibiongnhjoaaGreat
open Go.ChangeShapes Go.WideShapes Go.ChangeAt Go.RowKit Go.Deep

theorem Tryz.cells104 : Tryz.prog.cellsOf 104 = 1 := by kernel_rfl
theorem Tryz.cells102 : Tryz.prog.cellsOf 102 = 1 := by kernel_rfl
theorem Tryz.cells207 : Tryz.prog.cellsOf 207 = 3 := by kernel_rfl
theorem Tryz.cells3 : Tryz.prog.cellsOf 3 = 1 := by kernel_rfl
theorem Tryz.cells9 : Tryz.prog.cellsOf 9 = 1 := by kernel_rfl
theorem Tryz.cells65 : Tryz.prog.cellsOf 65 = 1 := by kernel_rfl

section
variable {H : Type} {enc : TypeId × Value → H} {W : World} {base : Nat} {held : Bool}

theorem addr_none {w : World} {a : Addr} {v : Value} (h : w.cell? (a.add 0) = some v) : ∃ b off, a = ⟨b, off, none⟩ := by
  obtain ⟨b, off, spot⟩ := a
  have hs := World.cell?_spot h
  simp [Addr.add] at hs
  exact ⟨b, off, by rw [hs]⟩
theorem list3 {α : Type} {l : List α} (h : l.length = 3) : ∃ a b c, l = [a, b, c] := by
  match l, h with
  | [a, b, c], _ => exact ⟨a, b, c, rfl⟩

theorem open_kids {fuel : Nat} {kv : Value} {x : DataW H × List MemPlace} (h : DataW.trod enc Tryz.prog W base (fun _ => true) held fuel 65 [kv] = some x) : ∃ ks, IntsAt W kv ks := by
  rcases open_ints Tryz.underlying65 Tryz.underlying3 Tryz.cells3 h with ⟨hcs, _⟩ | ⟨a, len, cap, zs, hcs, _, hl, hm, hz, _, hcell, _⟩
  · simp at hcs
    exact ⟨[], none, 0, hcs, by simp, by unfold maxLen; omega, fun h => by simp at h⟩
  · simp at hcs hz
    have hlen : (zs.take len).length = len := by simp; omega
    refine ⟨zs.take len, some a, cap, by rw [hlen]; exact hcs, by omega, hm, fun h0 => ?_⟩
    have h1 := hcell 0 (by omega)
    obtain ⟨b, off, rfl⟩ := addr_none h1
    refine ⟨b, off, rfl, fun j hj => ?_⟩
    have h2 := hcell j (by omega)
    rw [Addr.add_lit] at h2
    rw [h2]
    simp [List.getD, show j < zs.length from by omega]

theorem open_nodes {fuel : Nat} {v : Value} {x : DataW H × List MemPlace} (h : DataW.trod enc Tryz.prog W base (fun _ => true) held fuel 102 [v] = some x) : ∃ ns, NodesAt W v ns ∧ ∀ nd ∈ ns, nd.s.size ≤ maxLen := by
  rcases open_slice Tryz.underlying102 h with ⟨hcs, _⟩ | ⟨a, len, cap, m, n, D, Pl, hcs, _, hl, hm, hmm, _, hel⟩
  · simp at hcs
    exact ⟨[], ⟨none, 0, hcs, by simp, by unfold maxLen; omega, fun h => by simp at h⟩, by simp⟩
  · simp at hcs hmm
    subst hmm
    rw [Tryz.cells207] at hel
    have each : ∀ i, i < len → ∃ nd : Nd, nd.s.size ≤ maxLen ∧ W.cell? (a.add (i * 3)) = some (.int .i64 nd.k) ∧ W.cell? ((a.add (i * 3)).add 1) = some (.string nd.s) ∧ ∃ kv, W.cell? ((a.add (i * 3)).add 2) = some kv ∧ IntsAt W kv nd.kids := by
      intro i hi
      obtain ⟨cs, hc1, hc2⟩ := hel i (by omega)
      obtain ⟨hb, hlen, hcell⟩ := World.cells?_some hc1
      obtain ⟨y0, y1, y2, n', _, _, t0, t1, t2⟩ := trod_struct3 Tryz.underlying207 hc2
      obtain ⟨c0, c1, c2, rfl⟩ := list3 hlen
      simp [Tryz.cells3, Tryz.cells9, Tryz.cells65] at t0 t1 t2
      obtain ⟨k, e0, _, _⟩ := DataW.trod_int Tryz.underlying3 t0
      obtain ⟨s, e1, _, hs⟩ := DataW.trod_string Tryz.underlying9 t1
      obtain ⟨ks, hk⟩ := open_kids t2
      simp at e0 e1
      subst e0 e1
      refine ⟨⟨k, s, ks⟩, hs, ?_, ?_, c2, ?_, hk⟩
      · have := hcell 0 (by omega); simpa [Addr.add] using this
      · have := hcell 1 (by omega); simpa using this
      · have := hcell 2 (by omega); simpa using this
    haveI : Inhabited Nd := ⟨⟨0, ⟨#[]⟩, []⟩⟩
    obtain ⟨f, hf⟩ := choose_lt (α := Nd) (p := fun i nd => nd.s.size ≤ maxLen ∧ W.cell? (a.add (i * 3)) = some (.int .i64 nd.k) ∧ W.cell? ((a.add (i * 3)).add 1) = some (.string nd.s) ∧ ∃ kv, W.cell? ((a.add (i * 3)).add 2) = some kv ∧ IntsAt W kv nd.kids) each
    refine ⟨(List.range len).map f, ⟨some a, _, by simpa using hcs, by simpa using hl, hm, fun h0 => ?_⟩, ?_⟩
    · have h0' : 0 < len := by simpa using h0
      obtain ⟨_, g1, _⟩ := hf 0 h0'
      rw [Nat.zero_mul] at g1
      obtain ⟨b, off, rfl⟩ := addr_none g1
      refine ⟨b, off, rfl, fun i hi => ?_⟩
      have hi' : i < len := by simpa using hi
      obtain ⟨_, q1, q2, kv, q3, q4⟩ := hf i hi'
      simp only [Addr.add_lit] at q1 q2 q3
      simp only [List.getElem_map, List.getElem_range]
      exact ⟨q1, q2, kv, q3, q4⟩
    · intro nd hnd
      simp at hnd
      obtain ⟨i, hi, rfl⟩ := hnd
      exact (hf i hi).1
theorem array1 {α : Type} {a : Array α} (h : a.size = 1) : ∃ x, a = #[x] := by
  obtain ⟨l⟩ := a
  match l, h with
  | [x], _ => exact ⟨x, rfl⟩
end
end Go.Proofs.YtbgibiongnhjoaaGreat
