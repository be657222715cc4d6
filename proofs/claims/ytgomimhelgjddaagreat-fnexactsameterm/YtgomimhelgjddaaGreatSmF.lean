/- What the specification's SameTerm answers. -/
import Derived.Test.YtgomimhelgjddaaGreatSmC
import Derived.Test.YtgomimhelgjddaaGreatSmL
namespace Go.Proofs.YtgomimhelgjddaaGreat
open Go.ChangeShapes Go.WideShapes Go.ChangeAt Go.RowKit

/-- Whether two valid terms are the same. -/
noncomputable def sameT (ta tb : List Td) : Bool := sameF hs ta tb ta.length ((ta.length : Int) - 1) ((tb.length : Int) - 1)
/-- Each level of the nodes has a tree. -/
def LvOk (ts : List Td) : Prop := ∀ td ∈ ts, ∀ l ∈ td.lv, ∃ t, OkTree l t
theorem forest_lv {Q : Nat → Prop} {w : World} {pt : Nat → Nat} {ts : List Td} (h : Forest Q w pt ts ts.length) : LvOk ts := by
  intro td htd l hl
  obtain ⟨i, hi, rfl⟩ := List.mem_iff_getElem.1 htd
  obtain ⟨lvv, kdv, _, _, ps, us, h1, h2, h3, h4⟩ := h i hi hi
  obtain ⟨q, hq, rfl⟩ := List.mem_iff_getElem.1 hl
  have hqu : q < us.length := by have := h4.1; omega
  exact ⟨us[q], okTree_of (h4.2 q hq hqu) (h3.2 _ (List.getElem_mem hqu))⟩
theorem forest_lt {Q : Nat → Prop} {w : World} {pt : Nat → Nat} {ts : List Td} (h : Forest Q w pt ts ts.length) (i : Nat) (hi : i < ts.length) : pt i < w.heap.size := by
  obtain ⟨lvv, kdv, h1, _⟩ := h i hi hi
  exact (h1.lt (pt i) rfl).2
theorem term_pos {ts : List Td} (h : termB ts = true) : 1 ≤ ts.length := (root_sz h).1

/-- What SameTerm answers. -/
def SmOut (ta tb : List Td) (e : Ending) : Prop :=
  ((termB ta = false ∨ termB tb = false) ∧ e = .returned (.bool false)) ∨ (termB ta = true ∧ termB tb = true ∧ LvOk ta ∧ LvOk tb ∧ e = .returned (.bool (sameT ta tb)))

set_option maxRecDepth 20000 in
set_option maxHeartbeats 4000000 in
theorem specSameT_any (v1 v2 : Value) (ta tb : List Td) (w : World) (h1 : TNodesAt w v1 ta) (h2 : TNodesAt w v2 tb) (z1 : ∀ td ∈ ta, TLens td) (z2 : ∀ td ∈ tb, TLens td) (l1 : ∀ td ∈ ta, td.lv.length ≤ 1048576) (l2 : ∀ td ∈ tb, td.lv.length ≤ 1048576) :
    Calls Tryz.prog 20 #[.agg #[v1], .agg #[v2]] w fun e w' => SmOut ta tb e ∧ Below w.heap.size w w' := by
  have HN1 := hide h1
  have HN2 := hide h2
  obtain ⟨a1, cap1, rfl, _, _, _⟩ := h1
  obtain ⟨a2, cap2, rfl, _, _, _⟩ := h2
  obtain ⟨W, hW⟩ : ∃ W, W = (w.alloc (.cells #[.slice a1 ta.length cap1] 30)).alloc (.cells #[.slice a2 tb.length cap2] 30) := ⟨_, rfl⟩
  have HBW := hide (show Below w.heap.size w W by rw [hW]; exact bel_alloc (bel_alloc (Below.refl _ _) _) _)
  have x2 : W.cell? ⟨w.heap.size + 1, 0, none⟩ = some (.slice a2 tb.length cap2) := by rw [hW]; simp [go_sem]
  have HT1 := hide (l3TreeF_any _ ta W (HN1.out.keep HBW.out) z1 l1)
  have HT2 := hide (fun W' (hb : Below w.heap.size w W') => l3TreeF_any _ tb W' (HN2.out.keep hb) z2 l2)
  clear z1 z2 l1 l2
  go_enter Tryz.func20, Tryz.ntmps20
  go_wp2_with fail
  rw [← hW]
  clear hW
  refine HT1.out.mono ?_
  rintro e w1 ⟨hA, hb1⟩
  have x2 := keep_cell hb1 x2
  have HB1 := hide (bel_trans HBW.out hb1)
  have HBA := hide hb1
  clear HT1
  rcases hA with ⟨ht, rfl⟩ | ⟨ht, _, pa, Qa, rfl, hFa, hPa⟩
  · have HO : Hid (SmOut ta tb (.returned (.bool false))) := .inl ⟨.inl ht, rfl⟩
    clear ht hb1
    go_wp2_with fail
    refine (HT2.out _ HB1.out).mono ?_
    rintro e w2 ⟨hB, hb2⟩
    have HB2 := hide (bel_trans HB1.out hb2)
    clear hb2 HT2
    rcases hB with ⟨_, rfl⟩ | ⟨_, _, pb, Qb, rfl, _, _⟩
    · go_upto_region 3 with fail
      refine wp_region_LW (fun Q' hQ' => ?_)
      repeat (refine LW.step (fun K hK => ?_); go_simp; first | (refine hK.out _ _ ?_; clear hK K) | (go_at_call 24; refine (tnone_none _).mono ?_; rintro e w' ⟨rfl, hw⟩; have hw := hw.symm; subst hw; refine hK.out _ _ ?_; clear hK K))
      refine LW.nil ?_
      rw [hQ'.out]
      clear hQ'
      go_wp2_with fail
      go_ret
      exact ⟨HO.out, HB2.out⟩
    · generalize pb (tb.length - 1) = PB
      go_upto_region 3 with fail
      refine wp_region_LW (fun Q' hQ' => ?_)
      repeat (refine LW.step (fun K hK => ?_); go_simp; first | (refine hK.out _ _ ?_; clear hK K) | (go_at_call 24; refine (tnone_none _).mono ?_; rintro e w' ⟨rfl, hw⟩; have hw := hw.symm; subst hw; refine hK.out _ _ ?_; clear hK K))
      refine LW.nil ?_
      rw [hQ'.out]
      clear hQ'
      go_wp2_with fail
      go_ret
      exact ⟨HO.out, HB2.out⟩
  · have HTA := hide ht
    have HFA := hide hFa
    have HLA := hide (forest_lt hFa)
    clear ht hFa hPa hb1
    generalize hPA : pa (ta.length - 1) = PA
    go_wp2_with fail
    refine (HT2.out _ HB1.out).mono ?_
    rintro e w2 ⟨hB, hb2⟩
    have HB2 := hide (bel_trans HB1.out hb2)
    rcases hB with ⟨ht2, rfl⟩ | ⟨ht2, _, pb, Qb, rfl, hFb, hPb⟩
    · have HO : Hid (SmOut ta tb (.returned (.bool false))) := .inl ⟨.inr ht2, rfl⟩
      clear hb2 HT2 ht2
      go_upto_region 3 with fail
      refine wp_region_LW (fun Q' hQ' => ?_)
      repeat (refine LW.step (fun K hK => ?_); go_simp; first | (refine hK.out _ _ ?_; clear hK K) | (go_at_call_of 24 (Value.pointer (some ⟨PA, 0, none⟩)); refine (tnone_some _ _).mono ?_; rintro e w' ⟨rfl, hw⟩; have hw := hw.symm; subst hw; refine hK.out _ _ ?_; clear hK K) | (go_at_call_of 24 (Value.pointer none); refine (tnone_none _).mono ?_; rintro e w' ⟨rfl, hw⟩; have hw := hw.symm; subst hw; refine hK.out _ _ ?_; clear hK K))
      refine LW.nil ?_
      rw [hQ'.out]
      clear hQ'
      go_wp2_with fail
      go_ret
      exact ⟨HO.out, HB2.out⟩
    · have hpa := term_pos HTA.out
      have hpb := term_pos ht2
      have HC : Hid (∀ W', Below w2.heap.size w2 W' → Calls Tryz.prog 37 #[.pointer (some ⟨PA, 0, none⟩), .pointer (some ⟨pb (tb.length - 1), 0, none⟩)] W' fun e w' => e = .returned (.bool (sameT ta tb)) ∧ Below W'.heap.size W' w') := fun W' hbp => by
        have h := l3Same_all HTA.out ht2 (pa := pa) (pb := pb) (fun i j hi hj => by have h3 := HLA.out i hi; have h4 := hPb j hj; omega) ta.length (ta.length - 1) (tb.length - 1) W' Qa Qb (by omega) (by omega) (by omega) ((HFA.out.to (Carry.below hb2)).to (Carry.below hbp)) (hFb.to (Carry.below hbp))
        rw [hPA, show ((ta.length - 1 : Nat) : Int) = (ta.length : Int) - 1 by omega, show ((tb.length - 1 : Nat) : Int) = (tb.length : Int) - 1 by omega] at h
        exact h
      have HO : Hid (SmOut ta tb (.returned (.bool (sameT ta tb)))) := .inr ⟨HTA.out, ht2, forest_lv HFA.out, forest_lv hFb, rfl⟩
      clear hb2 HT2 ht2 hFb hPb hpa hpb
      generalize pb (tb.length - 1) = PB at *
      generalize sameT ta tb = bb at *
      go_upto_region 3 with fail
      refine wp_region_LW (fun Q' hQ' => ?_)
      repeat (refine LW.step (fun K hK => ?_); go_simp; first | (refine hK.out _ _ ?_; clear hK K) | (go_at_call 24; refine (tnone_some _ _).mono ?_; rintro e w' ⟨rfl, hw⟩; have hw := hw.symm; subst hw; refine hK.out _ _ ?_; clear hK K) | (go_at_call 37; refine (HC.out _ (Below.refl _ _)).mono ?_; rintro e w3 ⟨rfl, hb3⟩; refine hK.out _ _ ?_; clear hK K))
      refine LW.nil ?_
      rw [hQ'.out]
      clear hQ'
      go_wp2_with fail
      go_ret
      exact ⟨HO.out, bel_trans HB2.out hb3⟩
end Go.Proofs.YtgomimhelgjddaaGreat

/- What the program's SameTerm answers. -/
namespace Go.Proofs.YtgomimhelgjddaaGreat
open Go.ChangeShapes Go.WideShapes Go.ChangeAt Go.RowKit

theorem fields_all {ts : List Td} (h : termB ts = true) (i : Nat) (hi : i < ts.length) : tfieldsB nameB ts[i] = true := by
  simp only [termB, termB', Bool.and_eq_true] at h
  cases hf : tfieldsB nameB ts[i] with
  | true => rfl
  | false =>
    exfalso
    have hn : trun (tfieldsB nameB) ts ts.length = none := by
      cases hr : trun (tfieldsB nameB) ts i with
      | none => exact trun_none _ ts i ts.length (by omega) hr
      | some st =>
        have h1 := trun_succ (tfieldsB nameB) ts i hi st hr
        rw [tstep_none (tfieldsB nameB) (.inr (.inr (.inl hf)))] at h1
        exact trun_none _ ts (i + 1) ts.length (by omega) h1
    rw [hn] at h
    simp at h
theorem bind_zero {ts : List Td} (h : termB ts = true) : ∀ td ∈ ts, bindsB td.k = true → td.n = 0 := by
  intro td htd hb
  obtain ⟨i, hi, rfl⟩ := List.mem_iff_getElem.1 htd
  have hf := fields_all h i hi
  unfold tfieldsB numB gN at hf
  unfold bindsB at hb
  simp only [Bool.and_eq_true, Bool.or_eq_true, decide_eq_true_eq] at hf hb
  rw [if_neg (by omega), if_neg (by omega)] at hf
  omega
theorem sameT_iff {ta tb : List Td} (ha : termB ta = true) (hb : termB tb = true) : sameT ta tb = true ↔ ta.length = tb.length ∧ ∀ p (h1 : p < ta.length) (h2 : p < tb.length), hs ta[p] tb[p] = true := by
  unfold sameT
  rw [same_all hs_kn ha hb ta.length (Nat.le_refl _)]
  constructor
  · rintro ⟨h1, h2⟩
    refine ⟨h1, fun p p1 p2 => ?_⟩
    have := h2 p p1
    rwa [tdI_at p1, tdI_at p2] at this
  · rintro ⟨h1, h2⟩
    refine ⟨h1, fun p p1 => ?_⟩
    rw [tdI_at p1, tdI_at (show p < tb.length by omega)]
    exact h2 p p1 (by omega)

set_option maxRecDepth 20000 in
set_option maxHeartbeats 4000000 in
theorem eqNodes_any (ta tb : List Td) (v1 v2 : Value) (w : World) (h1 : TNodesAt w v1 ta) (h2 : TNodesAt w v2 tb) (z1 : ∀ td ∈ ta, TLens td) (z2 : ∀ td ∈ tb, TLens td) (o1 : LvOk ta) (o2 : LvOk tb) (ha : termB ta = true) (hb : termB tb = true) :
    Calls Tryz.prog 38 #[v1, v2, .func (.func 39) #[] #[]] w fun e w' => e = .returned (.bool (sameT ta tb)) ∧ Below w.heap.size w w' := by
  have HSI := hide (sameT_iff ha hb)
  have B1 := hide (bind_zero ha)
  have B2 := hide (bind_zero hb)
  obtain ⟨a1, cap1, rfl, hl1, hm1, hc1⟩ := h1
  obtain ⟨a2, cap2, rfl, hl2, hm2, hc2⟩ := h2
  unfold maxLen at hm1 hm2
  by_cases hlen : ta.length = tb.length
  · have H1 := hide hc1
    have H2 := hide hc2
    have HZ1 := hide z1
    have HZ2 := hide z2
    have HO1 := hide o1
    have HO2 := hide o2
    have hq : ((ta.length : Int) != (tb.length : Int)) = false := by simp [hlen]
    have HL := hide hlen
    have hle : ta.length ≤ tb.length := by omega
    clear hc1 hc2 hlen z1 z2 o1 o2 ha hb
    go_enter Tryz.func38, Tryz.ntmps38
    go_wp2_with fail
    go_loopw [17] (fun i wr => ∃ (k : Nat), k ≤ ta.length ∧ i = .int .i64 k ∧ Hid (Below w.heap.size w wr) ∧ Hid (∀ j (h : j < ta.length) (h2 : j < tb.length), j < k → hs ta[j] tb[j] = true)) (fun i _ => ta.length - (intOf i).toNat)
    case atStart => exact ⟨0, by omega, rfl, Below.refl _ _, fun j _ _ h => by omega⟩
    case round =>
      obtain ⟨k, hk, rfl, HB, HA⟩ := hrel
      by_cases hlt : k < ta.length
      · obtain ⟨b1, o1, rfl, c1⟩ := H1.out (by omega)
        obtain ⟨b2, o2, rfl, c2⟩ := H2.out (by omega)
        have hlt2 : k < tb.length := by omega
        obtain ⟨p0, p1, p2, p3, lv1, p4, q4, kv1, p5, q5⟩ := c1 k hlt
        obtain ⟨r0, r1, r2, r3, lv2, r4, s4, kv2, r5, s5⟩ := c2 k hlt2
        have p0 := keep_cell HB.out p0
        have p1 := keep_cell HB.out p1
        have p2 := keep_cell HB.out p2
        have p3 := keep_cell HB.out p3
        have p4 := keep_cell HB.out p4
        have p5 := keep_cell HB.out p5
        have r0 := keep_cell HB.out r0
        have r1 := keep_cell HB.out r1
        have r2 := keep_cell HB.out r2
        have r3 := keep_cell HB.out r3
        have r4 := keep_cell HB.out r4
        have r5 := keep_cell HB.out r5
        have hlt' : (k : Int) < ta.length := by omega
        have hlt2' : (k : Int) < tb.length := by omega
        have l1 := lt_cell p0
        have l2 := lt_cell r0
        have m1 := List.getElem_mem hlt
        have m2 := List.getElem_mem hlt2
        have HC : Hid (∀ W, Below wr.heap.size wr W → Calls Tryz.prog 39 #[.agg #[.int .i64 ta[k].k, .int .i64 ta[k].n, .int .i64 ta[k].m, .string ta[k].s, lv1, kv1], .agg #[.int .i64 tb[k].k, .int .i64 tb[k].n, .int .i64 tb[k].m, .string tb[k].s, lv2, kv2]] W fun e w' => e = .returned (.bool (hs ta[k] tb[k])) ∧ Below W.heap.size W w') := fun W hb =>
          same39_any ta[k] tb[k] lv1 kv1 lv2 kv2 W ((q4.keep HB.out).keep hb) ((s4.keep HB.out).keep hb) (by obtain ⟨a, c, h, _⟩ := q5; exact ⟨a, _, c, h⟩) (by obtain ⟨a, c, h, _⟩ := s5; exact ⟨a, _, c, h⟩) (HZ1.out _ m1).2 (HZ2.out _ m2).2 (HO1.out _ m1) (HO2.out _ m2) (B1.out _ m1) (B2.out _ m2)
        have HN : Hid (hs ta[k] tb[k] = true → ∀ j (h : j < ta.length) (h2 : j < tb.length), j < k + 1 → hs ta[j] tb[j] = true) := by
          intro he j h h2 hj
          by_cases e : j = k
          · subst e; exact he
          · exact HA.out j h h2 (by omega)
        have HNO : Hid (hs ta[k] tb[k] = false → sameT ta tb = false) := fun h => by
          cases hs' : sameT ta tb with
          | false => rfl
          | true => have h3 := (HSI.out.1 hs').2 k hlt hlt2; rw [h] at h3; cases h3
        obtain ⟨ka1, kc1, rfl, _, _, _⟩ := q4
        obtain ⟨ka2, kc2, rfl, _, _, _⟩ := s4
        obtain ⟨kb1, kd1, rfl, _, _, _⟩ := q5
        obtain ⟨kb2, kd2, rfl, _, _, _⟩ := s5
        generalize hs ta[k] tb[k] = bb at *
        clear c1 c2 H1 H2 HA m1 m2
        go_wp2_with fail
        refine (HC.out _ (bel_alloc (bel_alloc (Below.refl _ _) _) _)).mono ?_
        rintro e w1 ⟨rfl, hb1⟩
        have hbw := hide (bel_trans HB.out (bel_trans (bel_alloc (bel_alloc (Below.refl wr.heap.size wr) _) _) hb1))
        clear hb1
        cases bb
        · have HF := hide (HNO.out rfl)
          go_wp2_with fail
          go_ret
          exact ⟨ret_bool HF.out.symm, hbw.out⟩
        · have HM := hide (HN.out rfl)
          go_wp2_with fail
          go_roundw
          case rel => exact ⟨k + 1, by omega, by go_num, hbw.out, HM⟩
          case measure => simp [intOf]; omega
      · have HE : Hid (sameT ta tb = true) := HSI.out.2 ⟨HL.out, fun j h h2 => HA.out j h h2 (by omega)⟩
        go_wp2_with fail
        go_ret
        exact ⟨ret_bool HE.out.symm, HB.out⟩
  · have hq : ((ta.length : Int) != (tb.length : Int)) = true := by rw [bne_iff_ne]; omega
    have HF : Hid (sameT ta tb = false) := by
      show _ = _
      cases hs' : sameT ta tb with
      | false => rfl
      | true => exact absurd (HSI.out.1 hs').1 hlen
    clear hc1 hc2 hlen
    go_enter Tryz.func38, Tryz.ntmps38
    go_wp2_with fail
    go_ret
    exact ⟨ret_bool HF.out.symm, Below.refl _ _⟩

set_option maxRecDepth 20000 in
set_option maxHeartbeats 4000000 in
theorem implSameT_bad (v1 v2 : Value) (ta tb : List Td) (w : World) (h1 : TNodesAt w v1 ta) (h2 : TNodesAt w v2 tb) (z1 : ∀ td ∈ ta, TLens td) (z2 : ∀ td ∈ tb, TLens td) (hbad : termB ta = false ∨ termB tb = false) :
    Calls Tryz.prog 21 #[.agg #[v1], .agg #[v2]] w fun e w' => e = .returned (.bool false) ∧ Below w.heap.size w w' := by
  have HT1 := hide (fun W (hb : Below w.heap.size w W) => implTermOk_any v1 ta W (h1.keep hb) z1)
  have HT2 := hide (fun W (hb : Below w.heap.size w W) => implTermOk_any v2 tb W (h2.keep hb) z2)
  obtain ⟨a1, cap1, rfl, _, _, _⟩ := h1
  obtain ⟨a2, cap2, rfl, _, _, _⟩ := h2
  clear z1 z2
  have HBW := hide (fun o1 o2 => bel_alloc (bel_alloc (Below.refl w.heap.size w) o1) o2)
  cases hA : termB ta
  · rw [hA] at HT1
    clear hbad hA
    go_enter Tryz.func21, Tryz.ntmps21
    go_wp2_with (first | (go_at_call 27; refine (HT1.out _ (HBW.out _ _)).mono ?_; rintro e w1 ⟨rfl, hb1⟩) | fail)
    go_ret
    exact ⟨rfl, bel_trans (HBW.out _ _) hb1⟩
  · have hB : termB tb = false := by rcases hbad with h | h; rw [hA] at h; cases h; exact h
    rw [hA] at HT1
    rw [hB] at HT2
    clear hbad hA hB
    go_enter Tryz.func21, Tryz.ntmps21
    go_wp2_with fail
    refine (HT1.out _ (HBW.out _ _)).mono ?_
    rintro e w1 ⟨rfl, hb1⟩
    have x2 := keep_cell (b := w.heap.size + 1) (o := 0) (v := .slice a2 tb.length cap2) hb1 (by simp [go_sem])
    have HB1 := hide (bel_trans (HBW.out _ _) hb1)
    clear hb1
    go_wp2_with (first | (go_at_call 27; refine (HT2.out _ HB1.out).mono ?_; rintro e w2 ⟨rfl, hb2⟩) | fail)
    go_ret
    exact ⟨rfl, bel_trans HB1.out hb2⟩
set_option maxRecDepth 20000 in
set_option maxHeartbeats 4000000 in
theorem implSameT_any (v1 v2 : Value) (ta tb : List Td) (w : World) (h1 : TNodesAt w v1 ta) (h2 : TNodesAt w v2 tb) (z1 : ∀ td ∈ ta, TLens td) (z2 : ∀ td ∈ tb, TLens td) (o1 : LvOk ta) (o2 : LvOk tb) (hA : termB ta = true) (hB : termB tb = true) :
    Calls Tryz.prog 21 #[.agg #[v1], .agg #[v2]] w fun e w' => e = .returned (.bool (sameT ta tb)) ∧ Below w.heap.size w w' := by
  have HT1 := hide (fun W (hb : Below w.heap.size w W) => implTermOk_any v1 ta W (h1.keep hb) z1)
  have HT2 := hide (fun W (hb : Below w.heap.size w W) => implTermOk_any v2 tb W (h2.keep hb) z2)
  have HE := hide (fun W (hb : Below w.heap.size w W) => eqNodes_any ta tb v1 v2 W (h1.keep hb) (h2.keep hb) z1 z2 o1 o2 hA hB)
  obtain ⟨a1, cap1, rfl, _, _, _⟩ := h1
  obtain ⟨a2, cap2, rfl, _, _, _⟩ := h2
  rw [hA] at HT1
  rw [hB] at HT2
  clear z1 z2 o1 o2 hA hB
  have HBW := hide (fun o1 o2 => bel_alloc (bel_alloc (Below.refl w.heap.size w) o1) o2)
  go_enter Tryz.func21, Tryz.ntmps21
  go_wp2_with fail
  refine (HT1.out _ (HBW.out _ _)).mono ?_
  rintro e w1 ⟨rfl, hb1⟩
  have x1 := keep_cell (b := w.heap.size) (o := 0) (v := .slice a1 ta.length cap1) hb1 (by simp [go_sem])
  have x2 := keep_cell (b := w.heap.size + 1) (o := 0) (v := .slice a2 tb.length cap2) hb1 (by simp [go_sem])
  have HB1 := hide (bel_trans (HBW.out _ _) hb1)
  clear hb1
  go_wp2_with fail
  refine (HT2.out _ HB1.out).mono ?_
  rintro e w2 ⟨rfl, hb2⟩
  have x1 := keep_cell hb2 x1
  have x2 := keep_cell hb2 x2
  have HB2 := hide (bel_trans HB1.out hb2)
  clear hb2
  go_wp2_with (first | (go_at_call 38; refine (HE.out _ HB2.out).mono ?_; rintro e w3 ⟨rfl, hb3⟩) | fail)
  go_ret
  exact ⟨rfl, bel_trans HB2.out hb3⟩
/-- Both answer the same. -/
theorem sameT_both (v1 v2 : Value) (ta tb : List Td) (w : World) (h1 : TNodesAt w v1 ta) (h2 : TNodesAt w v2 tb) (z1 : ∀ td ∈ ta, TLens td) (z2 : ∀ td ∈ tb, TLens td) (l1 : ∀ td ∈ ta, td.lv.length ≤ 1048576) (l2 : ∀ td ∈ tb, td.lv.length ≤ 1048576) :
    Calls Tryz.prog 20 #[.agg #[v1], .agg #[v2]] w fun e w' => (∃ r : Bool, e = .returned (.bool r) ∧ ∀ (u1 u2 : Value) (W : World), TNodesAt W u1 ta → TNodesAt W u2 tb → Calls Tryz.prog 21 #[.agg #[u1], .agg #[u2]] W fun e2 W2 => e2 = .returned (.bool r) ∧ Below W.heap.size W W2) ∧ Below w.heap.size w w' := by
  refine (specSameT_any v1 v2 ta tb w h1 h2 z1 z2 l1 l2).mono ?_
  rintro e w1 ⟨(⟨hbad, rfl⟩ | ⟨hA, hB, o1, o2, rfl⟩), hb⟩
  · exact ⟨⟨false, rfl, fun u1 u2 W k1 k2 => implSameT_bad u1 u2 ta tb W k1 k2 z1 z2 hbad⟩, hb⟩
  · exact ⟨⟨sameT ta tb, rfl, fun u1 u2 W k1 k2 => implSameT_any u1 u2 ta tb W k1 k2 z1 z2 o1 o2 hA hB⟩, hb⟩
end Go.Proofs.YtgomimhelgjddaaGreat
