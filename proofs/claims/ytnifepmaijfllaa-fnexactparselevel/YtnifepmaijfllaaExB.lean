/- FnExactLevelPut walked: it answers true. -/
import Derived.Test.YtnifepmaijfllaaExA
import Derived.Test.YtnifepmaijfllaaTTo
import Derived.Test.YtnifepmaijfllaaTEq
import Derived.Test.YtnifepmaijfllaaEq
import Derived.Deep.CutRange
import Derived.Deep.Upon
namespace Go.Proofs.Ytnifepmaijfllaa
open Go.ChangeShapes Go.WideShapes Go.ChangeAt Go.RowKit

theorem ex_kids {ns : List Nd} {n : Nat} (h : nsSum ns ≤ n) : ∀ nd ∈ ns, nd.kids.length ≤ n := by
  induction ns with
  | nil => simp
  | cons x ns ih =>
    intro nd hnd
    simp only [nsSum, ndSize] at h
    rcases List.mem_cons.1 hnd with rfl | h2
    · omega
    · exact ih (by omega) nd h2
theorem ex_levs {ls : List (List Nd)} {n : Nat} (h : sumL lvSize ls ≤ n) : ∀ l ∈ ls, l.length ≤ n ∧ ∀ nd ∈ l, nd.kids.length ≤ n := by
  induction ls with
  | nil => simp
  | cons x ls ih =>
    intro l hl
    simp only [sumL, lvSize] at h
    rcases List.mem_cons.1 hl with rfl | h2
    · exact ⟨by omega, ex_kids (by omega)⟩
    · exact ih (by omega) l h2
theorem strs_of {w : World} {base g n cap : Nat} {ss : List ByteArray} (h : w.ownsRow base 9 1 (.slice (some ⟨g, 0, none⟩) n cap) n (ss.map Value.string)) (hn : n = ss.length) : StrsAt w (.slice (some ⟨g, 0, none⟩) n cap) ss :=
  ownsRow_strs h hn (fun j hj => by rw [List.getElem?_map, List.getElem?_eq_getElem hj]; rfl)

/-- What stays known to the end: the specification's answer, the program's, and where they are kept. -/
structure ExS (w cur : World) (L0 b8 s11 s12 : Nat) (vx v6 v12 : Value) (rs gs : List Nd) : Prop where
  bel : Below w.heap.size w cur
  big : s12 < cur.heap.size
  r6 : NdR L0 b8 cur v6 rs
  g0 : NdR s11 s12 cur v12 gs
  cx : cur.cell? ⟨w.heap.size, 0, none⟩ = some vx
  c8 : cur.cell? ⟨b8, 0, none⟩ = some v6
  c13 : cur.cell? ⟨s12, 0, none⟩ = some v12
theorem ExS.keep {w cur cur' : World} {L0 b8 s11 s12 : Nat} {vx v6 v12 : Value} {rs gs : List Nd} (h : ExS w cur L0 b8 s11 s12 vx v6 v12 rs gs) (ho : b8 ≤ s12) (hb : Below cur.heap.size cur cur') : ExS w cur' L0 b8 s11 s12 vx v6 v12 rs gs :=
  ⟨bel_trans h.bel hb, by have := hb.size; have := h.big; omega, h.r6.keep hb (by have := h.big; omega), h.g0.keep hb (by have := h.big; omega), keep_cell hb h.cx, keep_cell hb h.c8, keep_cell hb h.c13⟩
theorem ExS.chg {w cur cur' : World} {L0 b8 s11 s12 lo hi : Nat} {vx v6 v12 : Value} {rs gs : List Nd} (h : ExS w cur L0 b8 s11 s12 vx v6 v12 rs gs) (hw : w.heap.size < lo) (h1 : b8 < lo) (h2 : hi ≤ s11) (h3 : s11 ≤ s12) (hc : Chg lo hi cur cur') : ExS w cur' L0 b8 s11 s12 vx v6 v12 rs gs :=
  have hs := h.big
  ⟨h.bel.trans (hc.1.mono (by omega)), by have := hc.1.size; omega, h.r6.out hc (.inl (by omega)) (by have := lt_cell h.c8; omega), h.g0.out hc (.inr (by omega)) (by omega), hc.cell (.inl (by omega)) h.cx, hc.cell (.inl (by omega)) h.c8, hc.cell (.inr (by omega)) h.c13⟩
/-- The answer itself is marked. -/
theorem ExS.mark {w cur cur' : World} {L0 b8 s11 s12 : Nat} {vx v6 v12 : Value} {rs gs gs' : List Nd} (h : ExS w cur L0 b8 s11 s12 vx v6 v12 rs gs) (hw : w.heap.size < s11) (h1 : b8 < s11) (hg : NdR s11 s12 cur' v12 gs') (hc : Chg s11 s12 cur cur') : ExS w cur' L0 b8 s11 s12 vx v6 v12 rs gs' :=
  have hs := h.big
  ⟨h.bel.trans (hc.1.mono (by omega)), by have := hc.1.size; omega, h.r6.out hc (.inl (by omega)) (by have := lt_cell h.c8; omega), hg, hc.cell (.inl (by omega)) h.cx, hc.cell (.inl (by omega)) h.c8, hc.cell (.inr (Nat.le_refl _)) h.c13⟩
/-- The copies of the arguments. -/
structure ExX (cur : World) (s7 s8 s9 s10 s11 g8 g10 g11 : Nat) (ns : List Nd) (names : List ByteArray) (ls : List (List Nd)) : Prop where
  x0 : NdR s7 s8 cur (.slice (some ⟨g8, 0, none⟩) ns.length ns.length) ns
  x1 : cur.ownsRow s9 9 1 (.slice (some ⟨g10, 0, none⟩) names.length names.length) names.length (names.map Value.string)
  x2 : LsR s10 s11 cur g11 ls.length ls.length ls
  c10 : cur.cell? ⟨s8, 0, none⟩ = some (.slice (some ⟨g8, 0, none⟩) ns.length ns.length)
theorem ExX.keep {cur cur' : World} {s7 s8 s9 s10 s11 g8 g10 g11 : Nat} {ns : List Nd} {names : List ByteArray} {ls : List (List Nd)} (h : ExX cur s7 s8 s9 s10 s11 g8 g10 g11 ns names ls) (h1 : s8 ≤ cur.heap.size) (h2 : s11 ≤ cur.heap.size) (h3 : g11 < s11) (hb : Below cur.heap.size cur cur') : ExX cur' s7 s8 s9 s10 s11 g8 g10 g11 ns names ls :=
  ⟨h.x0.keep hb h1, row_keep hb h.x1, h.x2.same (fun b _ q => hb.block b (by omega)) h3, keep_cell hb h.c10⟩

set_option maxRecDepth 100000 in
set_option maxHeartbeats 8000000 in
theorem ex_walk (v vn vl : Value) (ns : List Nd) (names : List ByteArray) (ls : List (List Nd)) (w : World) (hns : NodesAt w v ns) (hsz : LvLens ns) (hn : StrsAt w vn names) (hnz : ∀ s ∈ names, s.size ≤ maxLen) (hv : LevsAt w vl ls) (hz : ∀ l ∈ ls, LvLens l) :
    Calls Try.prog 13 #[.agg #[v], vn, vl] w fun e w' => e = .returned (.bool true) ∧ Below w.heap.size w w' := by
  have HN := hide hns
  have HZ := hide hsz
  have HS := hide hn
  have HSZ := hide hnz
  have HV := hide hv
  have HVZ := hide hz
  obtain ⟨a, cap, rfl, _, _, _⟩ := hns
  obtain ⟨an, cn, rfl, _, _, _⟩ := hn
  obtain ⟨al, cl, rfl, _, _, _⟩ := hv
  clear hsz hnz hz
  have b0 : Hid (∀ o, Below w.heap.size w (w.alloc o)) := fun o => bel_alloc (Below.refl _ _) o
  by_cases hbig : (1048576 : Int) < (ns.length + nsSum ns : Nat)
  · have HL : Hid (leftOf 1048576 (ns.length + nsSum ns) = -1) := by show leftOf _ _ = _; rw [leftOf, if_pos hbig]
    clear hbig
    go_enter Try.func13, Try.ntmps13
    go_wp2_with (go_at_call 19; refine (szLevel_any _ ns _ _ (HN.out.keep (b0.out _)) HZ.out (by omega) (by omega)).mono ?_; rintro e w1 ⟨rfl, hb⟩; rw [HL.out])
    go_ret
    exact ⟨rfl, (bel_alloc (Below.refl w.heap.size w) _).trans (hb.mono (by simp))⟩
  obtain ⟨M, hM⟩ : ∃ M : Int, M = 1048576 - (ns.length + nsSum ns : Nat) := ⟨_, rfl⟩
  have hM0 : 0 ≤ M := by omega
  have hM1 : M ≤ 1048576 := by omega
  have HL : Hid (leftOf 1048576 (ns.length + nsSum ns) = M) := by show leftOf _ _ = _; rw [leftOf, if_neg hbig, hM]
  have hlen : ns.length ≤ 1048576 := by omega
  have HKL := hide (ex_kids (show nsSum ns ≤ 1048576 by omega))
  have HCN : Hid (costN ns ≤ 2200000) := by show _ ≤ _; have := cost_sum ns; omega
  have dM : decide (M < 0) = false := by simp; omega
  clear hbig hM
  by_cases hbigs : M < (names.length + strSum names : Nat)
  · have HL2 : Hid (leftOf M (names.length + strSum names) = -1) := by show leftOf _ _ = _; rw [leftOf, if_pos hbigs]
    clear hbigs
    go_enter Try.func13, Try.ntmps13
    go_wp2_with fail
    refine (szLevel_any _ ns _ _ (HN.out.keep (b0.out _)) HZ.out (by omega) (by omega)).mono ?_
    rintro e w1 ⟨rfl, hb1⟩
    rw [HL.out]
    have hbel1 := bel_trans (b0.out _) hb1
    clear hb1
    go_wp2_with (go_at_call 24; refine (szStringS_any _ names _ _ (HS.out.keep hbel1) HSZ.out hM0 hM1).mono ?_; rintro e w2 ⟨rfl, hw⟩; have hw := hw.symm; subst hw; rw [HL2.out])
    go_ret
    exact ⟨rfl, hbel1⟩
  obtain ⟨M2, hM2⟩ : ∃ M2 : Int, M2 = M - (names.length + strSum names : Nat) := ⟨_, rfl⟩
  have HL2 : Hid (leftOf M (names.length + strSum names) = M2) := by show leftOf _ _ = _; rw [leftOf, if_neg hbigs, hM2]
  have hlens : names.length ≤ 1048576 := by omega
  have hM20 : 0 ≤ M2 := by omega
  have hM21 : M2 ≤ 1048576 := by omega
  have dM2 : decide (M2 < 0) = false := by simp; omega
  clear hbigs hM2
  by_cases hbigl : M2 < (ls.length + sumL lvSize ls : Nat)
  · have HL3 : Hid (leftOf M2 (ls.length + sumL lvSize ls) = -1) := by show leftOf _ _ = _; rw [leftOf, if_pos hbigl]
    clear hbigl
    go_enter Try.func13, Try.ntmps13
    go_wp2_with fail
    refine (szLevel_any _ ns _ _ (HN.out.keep (b0.out _)) HZ.out (by omega) (by omega)).mono ?_
    rintro e w1 ⟨rfl, hb1⟩
    rw [HL.out]
    have hbel1 := bel_trans (b0.out _) hb1
    clear hb1
    go_wp2_with (go_at_call 24; refine (szStringS_any _ names _ _ (HS.out.keep hbel1) HSZ.out hM0 hM1).mono ?_; rintro e w2 ⟨rfl, hw⟩; have hw := hw.symm; subst hw; rw [HL2.out])
    refine (szLevelS_any _ ls _ _ (HV.out.keep hbel1) HVZ.out hM20 hM21).mono ?_
    rintro e w2 ⟨rfl, hb2⟩
    rw [HL3.out]
    have hbel2 := bel_trans hbel1 hb2
    clear hb2
    go_wp2_with fail
    go_ret
    exact ⟨rfl, hbel2⟩
  obtain ⟨M3, hM3⟩ : ∃ M3 : Int, M3 = M2 - (ls.length + sumL lvSize ls : Nat) := ⟨_, rfl⟩
  have HL3 : Hid (leftOf M2 (ls.length + sumL lvSize ls) = M3) := by show leftOf _ _ = _; rw [leftOf, if_neg hbigl, hM3]
  have hlenl : ls.length ≤ 1048576 := by omega
  have HKLS := hide (ex_levs (show sumL lvSize ls ≤ 1048576 by omega))
  have HCL : Hid (costLs ls ≤ 2200000) := by show _ ≤ _; have := costLs_sum ls; omega
  have dM3 : decide (M3 < 0) = false := by simp; omega
  clear hbigl hM3
  go_enter Try.func13, Try.ntmps13
  go_wp2_with fail
  refine (szLevel_any _ ns _ _ (HN.out.keep (b0.out _)) HZ.out (by omega) (by omega)).mono ?_
  rintro e w1 ⟨rfl, hb1⟩
  rw [HL.out]
  have hbel1 := bel_trans (b0.out _) hb1
  have hx1 := keep_cell (b := w.heap.size) (o := 0) (v := .slice a ns.length cap) hb1 (by simp [go_sem])
  clear hb1
  go_wp2_with (go_at_call 24; refine (szStringS_any _ names _ _ (HS.out.keep hbel1) HSZ.out hM0 hM1).mono ?_; rintro e w2 ⟨rfl, hw⟩; have hw := hw.symm; subst hw; rw [HL2.out])
  refine (szLevelS_any _ ls _ _ (HV.out.keep hbel1) HVZ.out hM20 hM21).mono ?_
  rintro e w2 ⟨rfl, hb2⟩
  rw [HL3.out]
  have hx2 := keep_cell hb2 hx1
  have hbel2 := bel_trans hbel1 hb2
  clear hb2 hx1 hbel1 HL HL2 HL3
  go_wp2_with fail
  refine (toLevel_own _ ns _ (HN.out.keep hbel2) hlen HKL.out).mono ?_
  rintro e w3 ⟨g3, rfl, hn3, hg3, hb3⟩
  have hx3 := keep_cell hb3 hx2
  have hbel3 := bel_trans hbel2 hb3
  have h3 := hn3.nodes rfl
  clear hb3 hx2 hbel2 hn3
  go_wp2_with fail
  refine (toStringS_own _ names _ (HS.out.keep hbel3) hlens).mono ?_
  rintro e w4 ⟨g4, rfl, hs4, hg4, hb4⟩
  have hx4 := keep_cell hb4 hx3
  have hbel4 := bel_trans hbel3 hb4
  have h34 := h3.keep hb4
  have hs4' := strs_of hs4 rfl
  clear hb4 hx3 hbel3 h3 hs4
  go_wp2_with fail
  refine (toLevelS_own _ ls _ (HV.out.keep hbel4) hlenl HKLS.out).mono ?_
  rintro e w5 ⟨g5, rfl, hl5, hg5, hb5⟩
  have hx5 := keep_cell hb5 hx4
  have hbel5 := bel_trans hbel4 hb5
  have h35 := h34.keep hb5
  have hs5 := hs4'.keep hb5
  have hl5' := hl5.levs rfl
  clear hb5 hx4 hbel4 h34 hs4' hl5
  go_wp2_with fail
  refine (put_both _ _ _ ns names ls _ h35 HZ.out hs5 hl5' HVZ.out hlenl).mono ?_
  rintro e w6 ⟨⟨vs, rs, c, rfl, hnd6, hsm, hi⟩, hb6⟩
  have HI := hide hi
  have HSM := hide hsm
  obtain ⟨va6, vc6, hvs⟩ := row_form (NdW.toR hnd6).choose_spec.1
  subst hvs
  have hx6 := keep_cell hb6 hx5
  have HB6 := hide (bel_trans hbel5 hb6)
  have hR6 := hnd6.toR
  obtain ⟨L0, hL0⟩ : ∃ L0, L0 = w5.heap.size := ⟨_, rfl⟩
  obtain ⟨b8, hb8⟩ : ∃ b8, b8 = w6.heap.size := ⟨_, rfl⟩
  rw [← hL0, ← hb8] at hR6
  have hs56 := hb6.size
  obtain ⟨W7, hW7⟩ : ∃ W7, W7 = w6.alloc (.cells #[.slice va6 rs.length vc6] 30) := ⟨_, rfl⟩
  have hb7 : Below w6.heap.size w6 W7 := by rw [hW7]; exact bel_alloc (Below.refl _ _) _
  obtain ⟨s7, hs7⟩ : ∃ s7, s7 = W7.heap.size := ⟨_, rfl⟩
  have hs7' : W7.heap.size = w6.heap.size + 1 := by rw [hW7]; simp
  have HR7 := hide (hR6.keep hb7 (by omega))
  have hx7 := keep_cell hb7 hx6
  have y8 : W7.cell? ⟨b8, 0, none⟩ = some (.slice va6 rs.length vc6) := by rw [hW7, hb8]; simp [go_sem]
  have HB7 := hide (bel_trans HB6.out hb7)
  have o1 : w.heap.size < b8 := by have := lt_cell hx6; omega
  have o2 : b8 < s7 := by omega
  have o3 : L0 ≤ b8 := by omega
  clear hb6 hx5 hbel5 h35 hs5 hl5' hi hsm hnd6 hR6 hx6 hb7 HB6
  go_upto_region 12 with fail
  rw [← hW7]
  rw [← hb8]
  clear hW7 hs7' hs56 hb8 hL0
  go_wp2_with fail
  refine (toLevel_own _ ns _ (HN.out.keep HB7.out) hlen HKL.out).mono ?_
  rintro e w8 ⟨g8, rfl, hn8, hg8, hb8⟩
  obtain ⟨s8, hs8⟩ : ∃ s8, s8 = w8.heap.size := ⟨_, rfl⟩
  have hs78 := hb8.size
  have hR8 := hn8.toR
  rw [← hs7, ← hs8] at hR8
  obtain ⟨W9, hW9⟩ : ∃ W9, W9 = w8.alloc (.cells #[.slice (some ⟨g8, 0, none⟩) ns.length ns.length] 30) := ⟨_, rfl⟩
  have hb9 : Below w8.heap.size w8 W9 := by rw [hW9]; exact bel_alloc (Below.refl _ _) _
  obtain ⟨s9, hs9⟩ : ∃ s9, s9 = W9.heap.size := ⟨_, rfl⟩
  have hs9' : W9.heap.size = w8.heap.size + 1 := by rw [hW9]; simp
  have hb89 := bel_trans hb8 hb9
  have HR9 := hide (HR7.out.keep hb89 (by omega))
  have HX9 := hide (hR8.keep hb9 (by omega))
  have hx9 := keep_cell hb89 hx7
  have y89 := keep_cell hb89 y8
  have y10 : W9.cell? ⟨s8, 0, none⟩ = some (.slice (some ⟨g8, 0, none⟩) ns.length ns.length) := by rw [hW9, hs8]; simp [go_sem]
  have HB9 := hide (bel_trans HB7.out hb89)
  have o4 : s7 ≤ s8 := by omega
  have o5 : s8 < s9 := by omega
  clear hn8 hR8 hx7 y8 hb8 hb9 hb89 HR7 HB7
  go_upto_region 13 with fail
  rw [← hW9]
  rw [← hs8]
  clear hW9 hs9' hs78 hs8 hs7
  go_wp2_with fail
  refine (toStringS_own _ names _ (HS.out.keep HB9.out) hlens).mono ?_
  rintro e w10 ⟨g10, rfl, hs10r, hg10, hb10⟩
  obtain ⟨s10, hs10⟩ : ∃ s10, s10 = w10.heap.size := ⟨_, rfl⟩
  have hz10 := hb10.size
  have hx10 := keep_cell hb10 hx9
  have y810 := keep_cell hb10 y89
  have y1010 := keep_cell hb10 y10
  have HR10 := hide (HR9.out.keep hb10 (by omega))
  have HX10 := hide (HX9.out.keep hb10 (by omega))
  have HB10 := hide (bel_trans HB9.out hb10)
  rw [← hs9] at hs10r
  have HS10 := hide hs10r
  have o6 : s9 ≤ s10 := by omega
  have o7 : g10 < s10 := by have := (hs10r.lt g10 rfl).2; omega
  clear hs10r hx9 y89 y10 hb10 HR9 HX9 HB9 hs9 hz10
  go_wp2_with fail
  refine (toLevelS_own _ ls _ (HV.out.keep HB10.out) hlenl HKLS.out).mono ?_
  rintro e w11 ⟨g11, rfl, hl11, hg11, hb11⟩
  obtain ⟨s11, hs11⟩ : ∃ s11, s11 = w11.heap.size := ⟨_, rfl⟩
  have hz11 := hb11.size
  rw [← hs10, ← hs11] at hl11
  have hx11 := keep_cell hb11 hx10
  have y811 := keep_cell hb11 y810
  have HR11 := hide (HR10.out.keep hb11 (by omega))
  have HX11 : Hid (ExX w11 s7 s8 s9 s10 s11 g8 g10 g11 ns names ls) := ⟨HX10.out.keep hb11 (by omega), row_keep hb11 HS10.out, hl11, keep_cell hb11 y1010⟩
  have HB11 := hide (bel_trans HB10.out hb11)
  have o8 : s10 ≤ s11 := by omega
  have o9 : g11 < s11 := by
    obtain ⟨_, _, hrow, _⟩ := hl11
    have := (hrow.lt g11 rfl).2; omega
  have y1011 := HX11.out.c10
  clear hx10 y810 y1010 hb11 HR10 HX10 HB10 HS10 hl11 hs10 hz11
  go_wp2_with fail
  refine (HI.out _ _ _ w11 HX11.out.x0.nodes (strs_of HX11.out.x1 rfl) (HX11.out.x2.levs rfl)).mono ?_
  rintro e w12 ⟨⟨v12, rfl, hnd12⟩, hb12⟩
  obtain ⟨va12, vc12, hvs⟩ := row_form (NdW.toR hnd12).choose_spec.1
  subst hvs
  obtain ⟨s12, hs12⟩ : ∃ s12, s12 = w12.heap.size := ⟨_, rfl⟩
  have hz12 := hb12.size
  have hR12 := hnd12.toR
  rw [← hs11, ← hs12] at hR12
  obtain ⟨W13, hW13⟩ : ∃ W13, W13 = w12.alloc (.cells #[.slice va12 rs.length vc12] 30) := ⟨_, rfl⟩
  have hb13 : Below w12.heap.size w12 W13 := by rw [hW13]; exact bel_alloc (Below.refl _ _) _
  have hz13 : W13.heap.size = w12.heap.size + 1 := by rw [hW13]; simp
  have hbb := bel_trans hb12 hb13
  have o10 : s11 ≤ s12 := by omega
  have HE : Hid (ExS w W13 L0 b8 s11 s12 (.slice a ns.length cap) (.slice va6 rs.length vc6) (.slice va12 rs.length vc12) rs rs) := ⟨bel_trans HB11.out hbb, by omega, HR11.out.keep hbb (by omega), hR12.keep hb13 (by omega), keep_cell hbb hx11, keep_cell hbb y811, by rw [hW13, hs12]; simp [go_sem]⟩
  have HX : Hid (ExX W13 s7 s8 s9 s10 s11 g8 g10 g11 ns names ls) := HX11.out.keep (by omega) (by omega) o9 hbb
  clear hb12 hb13 hbb hR12 hnd12 hx11 y811 y1011 HR11 HX11 HB11 hz12
  go_upto_region 16 with fail
  rw [← hW13]
  rw [← hs12]
  clear hW13 hs12 hs11 hz13
  have cx := HE.out.cx
  have c8 := HE.out.c8
  have c13 := HE.out.c13
  have c10 := HX.out.c10
  have big := HE.out.big
  go_wp2_with fail
  refine (eqLevel_any _ _ rs W13 HE.out.g0.nodes HE.out.r6.nodes).mono ?_
  rintro e w14 ⟨rfl, hb14⟩
  have HE := hide (HE.out.keep (by omega) hb14)
  have HX := hide (HX.out.keep (by omega) (by omega) o9 hb14)
  clear cx c8 c13 c10 big
  have cx := HE.out.cx
  have c8 := HE.out.c8
  have c13 := HE.out.c13
  have c10 := HX.out.c10
  have big := HE.out.big
  clear hb14
  have hcc : (c != c) = false := by simp
  go_wp2_with fail
  go_region_held3 (fun w' => w'.cell? ⟨s8, 0, none⟩ = some (.slice (some ⟨g8, 0, none⟩) ns.length ns.length) ∧ w'.cell? ⟨w.heap.size, 0, none⟩ = some (.slice a ns.length cap))
    (first
      | go_keep
      | (go_split_ands; exact ⟨keep_cell hb16 (by assumption), keep_cell hb16 (by assumption)⟩)
      | (go_split_ands; exact ⟨keep_cell hb15 (by assumption), keep_cell hb15 (by assumption)⟩)
      | fail)
    (first
      | (go_at_call 21; refine (toLevel_own _ ns _ (by exact HN.out.keep HE.out.bel.drew) hlen HKL.out).mono ?_; rintro e w15 ⟨g15, rfl, hn15, hg15, hb15⟩)
      | (go_at_call 23; refine (eqLevel_any _ _ ns _ (by exact HX.out.x0.nodes.keep ((Below.refl w14.heap.size w14).drew.trans hb15)) (hn15.nodes rfl)).mono ?_; rintro e w16 ⟨rfl, hb16⟩)
      | fail)
  have hb1416 : Below w14.heap.size w14 w16 := (Below.refl w14.heap.size w14).drew.trans (hb15.trans (hb16.mono hb15.size))
  clear hn15 hb15 hb16
  have HE := hide (HE.out.keep (by omega) hb1416)
  have HX := hide (HX.out.keep (by omega) (by omega) o9 hb1416)
  clear cx c8 c13 c10 big
  have cx := HE.out.cx
  have c8 := HE.out.c8
  have c13 := HE.out.c13
  have c10 := HX.out.c10
  have big := HE.out.big
  clear hb1416
  go_wp2_with fail
  refine (toStringS_own _ names _ (HS.out.keep HE.out.bel) hlens).mono ?_
  rintro e w17 ⟨g17, rfl, hr17, hg17, hb17⟩
  have h17 := strs_of hr17 rfl
  clear hr17
  have HE := hide (HE.out.keep (by omega) hb17)
  have HX := hide (HX.out.keep (by omega) (by omega) o9 hb17)
  clear cx c8 c13 c10 big
  have cx := HE.out.cx
  have c8 := HE.out.c8
  have c13 := HE.out.c13
  have c10 := HX.out.c10
  have big := HE.out.big
  clear hb17
  go_wp2_with fail
  refine (eqStringS_any _ _ names _ (strs_of HX.out.x1 rfl) h17).mono ?_
  rintro e w18 ⟨rfl, n18, rfl⟩
  have hb18 := below_drewN (Below.refl w17.heap.size w17) n18
  clear h17
  have HE := hide (HE.out.keep (by omega) hb18)
  have HX := hide (HX.out.keep (by omega) (by omega) o9 hb18)
  clear cx c8 c13 c10 big
  have cx := HE.out.cx
  have c8 := HE.out.c8
  have c13 := HE.out.c13
  have c10 := HX.out.c10
  have big := HE.out.big
  clear hb18
  go_wp2_with fail
  refine (toLevelS_own _ ls _ (HV.out.keep HE.out.bel) hlenl HKLS.out).mono ?_
  rintro e w19 ⟨g19, rfl, hl19, hg19, hb19⟩
  have h19 := hl19.levs rfl
  clear hl19
  have HE := hide (HE.out.keep (by omega) hb19)
  have HX := hide (HX.out.keep (by omega) (by omega) o9 hb19)
  clear cx c8 c13 c10 big
  have cx := HE.out.cx
  have c8 := HE.out.c8
  have c13 := HE.out.c13
  have c10 := HX.out.c10
  have big := HE.out.big
  clear hb19
  go_wp2_with fail
  refine (eqLevelS_any _ _ ls _ (HX.out.x2.levs rfl) h19).mono ?_
  rintro e w20 ⟨rfl, hb20⟩
  clear h19
  have HE := hide (HE.out.keep (by omega) hb20)
  have HX := hide (HX.out.keep (by omega) (by omega) o9 hb20)
  clear cx c8 c13 c10 big
  have cx := HE.out.cx
  have c8 := HE.out.c8
  have c13 := HE.out.c13
  have c10 := HX.out.c10
  have big := HE.out.big
  clear hb20
  have HM1 := hide (markLevel_any s7 s8 _ ns 1 w20 HX.out.x0 (by omega) (by omega) HKL.out (by omega) (by have := HCN.out; omega) hlen)
  rw [show ((1 : Nat) : Int) = 1 from rfl] at HM1
  obtain ⟨K1, hK1⟩ : ∃ K1, K1 = 1 + costN ns := ⟨_, rfl⟩
  rw [← hK1] at HM1
  have hK1b : K1 ≤ 3000000 := by have := HCN.out; omega
  have hK1p : 1 ≤ K1 := by omega
  go_wp2_with fail
  refine HM1.out.mono ?_
  rintro e w21 ⟨rfl, hn21, hc21⟩
  have hz21 := hc21.1.size
  have HX1 := hide (row_same (w' := w21) HX.out.x1 (fun q hq => hc21.out (.inr (by have := (World.ownsRow.lt HX.out.x1 q hq).1; omega)) (World.ownsRow.lt HX.out.x1 q hq).2))
  have HX2 := hide (HX.out.x2.same (w' := w21) (fun q q1 q2 => hc21.out (.inr (by omega)) (by omega)) o9)
  have HE := hide (HE.out.chg (by omega) (by omega) (by omega) o10 hc21)
  clear cx c8 c13 c10 big hn21 hc21 HX HM1 hK1
  have cx := HE.out.cx
  have c8 := HE.out.c8
  have c13 := HE.out.c13
  have big := HE.out.big
  have HM2 := hide (markStringS_any s9 s10 g10 names.length names.length _ K1 w21 HX1.out o7 (by omega) hlens hK1p (by omega))
  obtain ⟨K2, hK2⟩ : ∃ K2, K2 = K1 + names.length := ⟨_, rfl⟩
  rw [← hK2] at HM2
  have hK2b : K2 ≤ 5000000 := by omega
  have hK2p : 1 ≤ K2 := by omega
  go_wp2_with fail
  refine HM2.out.mono ?_
  rintro e w22 ⟨rfl, hc22⟩
  have hz22 := hc22.1.size
  have HX2 := hide (HX2.out.same (w' := w22) (fun q q1 q2 => hc22.out (.inr (by omega)) (by omega)) o9)
  have HE := hide (HE.out.chg (by omega) (by omega) (by omega) o10 hc22)
  clear cx c8 c13 big hc22 HX1 HM2 hK2
  have cx := HE.out.cx
  have c8 := HE.out.c8
  have c13 := HE.out.c13
  have big := HE.out.big
  have HM3 := hide (markLevelS_any s10 s11 g11 ls.length ls K2 w22 HX2.out (by omega) HKLS.out hlenl hK2p (by have := HCL.out; omega))
  obtain ⟨K3, hK3⟩ : ∃ K3, K3 = K2 + costLs ls := ⟨_, rfl⟩
  rw [← hK3] at HM3
  have hK3p : 1 ≤ K3 := by omega
  go_wp2_with fail
  refine HM3.out.mono ?_
  rintro e w23 ⟨rfl, hc23⟩
  have hz23 := hc23.1.size
  have HE := hide (HE.out.chg (by omega) (by omega) (by omega) o10 hc23)
  clear cx c8 c13 big hc23 HX2 HM3 hK3
  have cx := HE.out.cx
  have c8 := HE.out.c8
  have c13 := HE.out.c13
  have big := HE.out.big
  go_wp2_with fail
  refine (eqLevel_any _ _ rs _ HE.out.g0.nodes HE.out.r6.nodes).mono ?_
  rintro e w24 ⟨rfl, hb24⟩
  have HE := hide (HE.out.keep (by omega) hb24)
  clear cx c8 c13 big
  have cx := HE.out.cx
  have c8 := HE.out.c8
  have c13 := HE.out.c13
  have big := HE.out.big
  clear hb24
  have HM4 := hide (markLevel_any s11 s12 _ rs 1 w24 HE.out.g0 (by omega) (by omega) HSM.out.2.2 (by omega) (by have := HSM.out.1; omega) (by have := HSM.out.2.1; omega))
  rw [show ((1 : Nat) : Int) = 1 from rfl] at HM4
  obtain ⟨K4, hK4⟩ : ∃ K4, K4 = 1 + costN rs := ⟨_, rfl⟩
  have HK4 := hide hK4
  rw [← hK4] at HM4
  clear hK4
  go_wp2_with fail
  refine HM4.out.mono ?_
  rintro e w25 ⟨rfl, hn25, hc25⟩
  have hz25 := hc25.1.size
  have HE := hide (HE.out.mark (by omega) (by omega) hn25 hc25)
  clear cx c8 c13 big hn25 hc25 HM4
  have cx := HE.out.cx
  have c8 := HE.out.c8
  have c13 := HE.out.c13
  have big := HE.out.big
  have HH := hide (show ∀ W, NodesAt W (.slice va12 rs.length vc12) (markN 1 rs) → Calls Try.prog 46 #[.agg #[.slice va12 rs.length vc12], .int .i64 1] W fun e w' => e = .returned (.int .i64 (K4 : Int)) ∧ Below W.heap.size W w' from fun W hW => by
    have := heldLevel_any _ rs 1 W hW HSM.out.2.2 (by omega) (by have := HSM.out.1; omega)
    rw [← HK4.out] at this
    exact this)
  have hKK : ((K4 : Int) != (K4 : Int)) = false := by simp
  go_wp2_with fail
  refine (HH.out _ HE.out.g0.nodes).mono ?_
  rintro e w26 ⟨rfl, hb26⟩
  have HE := hide (HE.out.keep (by omega) hb26)
  clear cx c8 c13 big
  have cx := HE.out.cx
  have c8 := HE.out.c8
  have c13 := HE.out.c13
  have big := HE.out.big
  clear hb26
  go_wp2_with fail
  refine (toLevel_own _ ns _ (HN.out.keep HE.out.bel) hlen HKL.out).mono ?_
  rintro e w27 ⟨g27, rfl, hn27, hg27, hb27⟩
  have h27 := hn27.nodes rfl
  clear hn27
  have HE := hide (HE.out.keep (by omega) hb27)
  clear cx c8 c13 big
  have cx := HE.out.cx
  have c8 := HE.out.c8
  have c13 := HE.out.c13
  have big := HE.out.big
  clear hb27
  go_wp2_with fail
  refine (toStringS_own _ names _ (HS.out.keep HE.out.bel) hlens).mono ?_
  rintro e w28 ⟨g28, rfl, hr28, hg28, hb28⟩
  have h28 := strs_of hr28 rfl
  have h27 := h27.keep hb28
  clear hr28
  have HE := hide (HE.out.keep (by omega) hb28)
  clear cx c8 c13 big
  have cx := HE.out.cx
  have c8 := HE.out.c8
  have c13 := HE.out.c13
  have big := HE.out.big
  clear hb28
  go_wp2_with fail
  refine (toLevelS_own _ ls _ (HV.out.keep HE.out.bel) hlenl HKLS.out).mono ?_
  rintro e w29 ⟨g29, rfl, hl29, hg29, hb29⟩
  have h29 := hl29.levs rfl
  have h27 := h27.keep hb29
  have h28 := h28.keep hb29
  clear hl29
  have HE := hide (HE.out.keep (by omega) hb29)
  clear cx c8 c13 big
  have cx := HE.out.cx
  have c8 := HE.out.c8
  have c13 := HE.out.c13
  have big := HE.out.big
  clear hb29
  go_wp2_with fail
  refine (HI.out _ _ _ w29 h27 h28 h29).mono ?_
  rintro e w30 ⟨⟨v30, rfl, hnd30⟩, hb30⟩
  obtain ⟨va30, vc30, hvs⟩ := row_form (NdW.toR hnd30).choose_spec.1
  subst hvs
  have h30 := (NdW.toR hnd30).nodes
  clear h27 h28 h29 hnd30
  have HE := hide (HE.out.keep (by omega) hb30)
  clear cx c8 c13 big
  have cx := HE.out.cx
  have c8 := HE.out.c8
  have c13 := HE.out.c13
  have big := HE.out.big
  clear hb30
  obtain ⟨W31, hW31⟩ : ∃ W31, W31 = w30.alloc (.cells #[.slice va30 rs.length vc30] 30) := ⟨_, rfl⟩
  have hb31 : Below w30.heap.size w30 W31 := by rw [hW31]; exact bel_alloc (Below.refl _ _) _
  have c18 : W31.cell? ⟨w30.heap.size, 0, none⟩ = some (.slice va30 rs.length vc30) := by rw [hW31]; simp [go_sem]
  have h31 := h30.keep hb31
  clear h30
  have HE := hide (HE.out.keep (by omega) hb31)
  clear cx c8 c13 big
  have cx := HE.out.cx
  have c8 := HE.out.c8
  have c13 := HE.out.c13
  have big := HE.out.big
  clear hb31
  go_upto_region 39 with fail
  rw [← hW31]
  clear hW31
  go_wp2_with fail
  refine (eqLevel_any _ _ rs _ h31 HE.out.r6.nodes).mono ?_
  rintro e w32 ⟨rfl, hb32⟩
  clear h31 c18
  have HE := hide (HE.out.keep (by omega) hb32)
  clear cx c8 c13 big
  have cx := HE.out.cx
  have c8 := HE.out.c8
  have c13 := HE.out.c13
  have big := HE.out.big
  clear hb32
  go_wp2_with fail
  refine (HH.out _ HE.out.g0.nodes).mono ?_
  rintro e w33 ⟨rfl, hb33⟩
  have HE := hide (HE.out.keep (by omega) hb33)
  clear cx c8 c13 big
  have cx := HE.out.cx
  have c8 := HE.out.c8
  have c13 := HE.out.c13
  have big := HE.out.big
  clear hb33
  go_wp2_with fail
  go_ret
  exact ⟨rfl, HE.out.bel⟩
end Go.Proofs.Ytnifepmaijfllaa
