/- The walk of the law FnExactSpine. -/
import Derived.Test.YtbgibiongnhjoaaGreatSiE
import Derived.Deep.RegionHeld3
import Derived.Deep.CutRange
import Derived.Deep.Upon
namespace Go.Proofs.YtbgibiongnhjoaaGreat
open Go.ChangeShapes Go.WideShapes Go.ChangeAt Go.RowKit

theorem flat_cost {T : Tt} (h : T.all smP) : costT (T.flat 0) ≤ 1543 * T.cnt := by
  have hm := flat_mem T 0 h
  have := costT_each (c := 1543) (ts := T.flat 0) (fun td htd => by
    obtain ⟨q1, q2, q3⟩ := hm td htd
    have h4 := costLs_lvl (ls := td.lv) q2
    have h5 : td.lv.length ≤ 6 := q3
    omega)
  rw [T.flat_len 0] at this
  exact this
def sumC : List Tt → Nat
  | [] => 0
  | x :: xs => x.cnt + sumC xs
theorem sumC_append (a b : List Tt) : sumC (a ++ b) = sumC a + sumC b := by
  induction a with
  | nil => simp [sumC]
  | cons x a ih => simp [sumC, ih]; omega
theorem spine_sum : ∀ T : Tt, (spineT T).1.cnt + sumC (spineT T).2 ≤ T.cnt
  | .t0 h => by simp [spineT, sumC]
  | .t1 h a => by simp [spineT, sumC]
  | .t2 h a b => by
    have := spine_sum a
    unfold spineT
    split
    · simp only [sumC_append, sumC, Tt.cnt]; omega
    · simp [sumC]
  | .t3 h a b c => by simp [spineT, sumC]
theorem costTs_flat : ∀ xs : List Tt, (∀ x ∈ xs, x.all smP) → costTs (xs.map (fun x => x.flat 0)) ≤ 1543 * sumC xs
  | [], _ => by simp [costTs]
  | x :: xs, h => by
    have h1 := flat_cost (h x (by simp))
    have h2 := costTs_flat xs (fun y hy => h y (by simp [hy]))
    simp only [List.map_cons, costTs, sumC]
    omega
/-- What the two answers keep to. -/
theorem spin_ok {ts : List Td} {T : Tt} (hT : TreeFor ts T) : SmallT (spinA ts T).1 ∧ (∀ l ∈ (spinA ts T).2, SmallT l) ∧ (spinA ts T).2.length ≤ 20000 ∧ costT (spinA ts T).1 + costTs (spinA ts T).2 ≤ 31000000 := by
  unfold spinA
  split
  · rename_i ht
    obtain ⟨hfl, hP⟩ := hT ht
    have hc : T.cnt ≤ 20000 := by rw [← T.flat_len 0, hfl]; exact len_of ht
    obtain ⟨h1, h2⟩ := spine_all T (all_mono node_sm hP)
    obtain ⟨c1, c2, c3⟩ := spine_cnt T
    have hs := spine_sum T
    have k1 := flat_cost h1
    have k2 := costTs_flat (spineT T).2 h2
    have sm : ∀ X : Tt, X.all smP → X.cnt ≤ 20000 → SmallT (X.flat 0) := fun X hX hXc => by
      obtain ⟨q1, q2, _⟩ := AnsOk.small (r := (X.flat 0, 0)) (.inr ⟨X, rfl, hXc, hX⟩)
      exact ⟨by simp only at q2; omega, q1⟩
    refine ⟨sm _ h1 (by omega), fun l hl => ?_, by simp; omega, by simp only; omega⟩
    simp only [List.mem_map] at hl
    obtain ⟨x, hx, rfl⟩ := hl
    exact sm x (h2 x hx) (by have := c3 x hx; omega)
  · exact ⟨⟨by simp, fun td h => by simp at h⟩, fun l h => by simp at h, by simp, by simp [costT, costTs]⟩
theorem tsG_tsV {lo hi : Nat} {w : World} {v : Value} {tss : List (List Td)} (h : TsG TmV lo hi w v tss) : TsV lo hi w v tss := h
theorem tsV_tsG {lo hi : Nat} {w : World} {v : Value} {tss : List (List Td)} (h : TsV lo hi w v tss) : TsG TmV lo hi w v tss := h
/-- What stays known: both answers, and the boxes. -/
structure SnS (w cur : World) (bs : List (Nat × Value)) (l4 m4 h4 l6 m6 h6 : Nat) (v4 x4 v6 x6 : Value) (r : List Td × List (List Td)) (gh : List Td) (gt : List (List Td)) : Prop where
  bel : Below w.heap.size w cur
  ord : l4 ≤ m4 ∧ m4 ≤ h4 ∧ h4 ≤ cur.heap.size ∧ l6 ≤ m6 ∧ m6 ≤ h6 ∧ h6 ≤ cur.heap.size
  w1 : TsG FrR l4 m4 cur x4 r.2
  w0 : FrR m4 h4 cur v4 r.1
  g1 : TsG TmV l6 m6 cur x6 gt
  g0 : TmV m6 h6 cur v6 gh
  box : ∀ p ∈ bs, cur.cell? ⟨p.1, 0, none⟩ = some p.2
theorem SnS.keep {w cur cur' : World} {bs : List (Nat × Value)} {l4 m4 h4 l6 m6 h6 : Nat} {v4 x4 v6 x6 : Value} {r : List Td × List (List Td)} {gh : List Td} {gt : List (List Td)} (h : SnS w cur bs l4 m4 h4 l6 m6 h6 v4 x4 v6 x6 r gh gt) (hb : Below cur.heap.size cur cur') : SnS w cur' bs l4 m4 h4 l6 m6 h6 v4 x4 v6 x6 r gh gt :=
  have o := h.ord
  ⟨bel_trans h.bel hb, by have := hb.size; omega, h.w1.same same_frR (fun b _ q => hb.block b (by omega)), h.w0.same (fun b _ q => hb.block b (by omega)), h.g1.same same_tmV (fun b _ q => hb.block b (by omega)), h.g0.same (fun b _ q => hb.block b (by omega)), fun p hp => keep_cell hb (h.box p hp)⟩
theorem SnS.chg {w cur cur' : World} {bs : List (Nat × Value)} {l4 m4 h4 l6 m6 h6 lo hi : Nat} {v4 x4 v6 x6 : Value} {r : List Td × List (List Td)} {gh : List Td} {gt : List (List Td)} (h : SnS w cur bs l4 m4 h4 l6 m6 h6 v4 x4 v6 x6 r gh gt) (hc : Chg lo hi cur cur') (hw : w.heap.size ≤ lo) (q4 : h4 ≤ lo ∨ hi ≤ l4) (q6 : h6 ≤ lo ∨ hi ≤ l6) (hbs : ∀ p ∈ bs, p.1 < lo ∨ hi ≤ p.1) : SnS w cur' bs l4 m4 h4 l6 m6 h6 v4 x4 v6 x6 r gh gt :=
  have o := h.ord
  ⟨h.bel.trans (hc.1.mono (by omega)), by have := hc.1.size; omega, h.w1.same same_frR (fun b q1 q2 => hc.out (by omega) (by omega)), h.w0.same (fun b q1 q2 => hc.out (by omega) (by omega)), h.g1.same same_tmV (fun b q1 q2 => hc.out (by omega) (by omega)), h.g0.same (fun b q1 q2 => hc.out (by omega) (by omega)), fun p hp => hc.cell (hbs p hp) (h.box p hp)⟩
theorem SnS.markH {w cur cur' : World} {bs : List (Nat × Value)} {l4 m4 h4 l6 m6 h6 : Nat} {v4 x4 v6 x6 : Value} {r : List Td × List (List Td)} {gh gh' : List Td} {gt : List (List Td)} (h : SnS w cur bs l4 m4 h4 l6 m6 h6 v4 x4 v6 x6 r gh gt) (hv : TmV m6 h6 cur' v6 gh') (hc : Chg m6 h6 cur cur') (hw : w.heap.size ≤ m6) (q4 : h4 ≤ l6) (hbs : ∀ p ∈ bs, p.1 < m6 ∨ h6 ≤ p.1) : SnS w cur' bs l4 m4 h4 l6 m6 h6 v4 x4 v6 x6 r gh' gt :=
  have o := h.ord
  ⟨h.bel.trans (hc.1.mono (by omega)), by have := hc.1.size; omega, h.w1.same same_frR (fun b q1 q2 => hc.out (by omega) (by omega)), h.w0.same (fun b q1 q2 => hc.out (by omega) (by omega)), h.g1.same same_tmV (fun b q1 q2 => hc.out (by omega) (by omega)), hv, fun p hp => hc.cell (hbs p hp) (h.box p hp)⟩
theorem SnS.markT {w cur cur' : World} {bs : List (Nat × Value)} {l4 m4 h4 l6 m6 h6 : Nat} {v4 x4 v6 x6 : Value} {r : List Td × List (List Td)} {gh : List Td} {gt gt' : List (List Td)} (h : SnS w cur bs l4 m4 h4 l6 m6 h6 v4 x4 v6 x6 r gh gt) (hv : TsV l6 m6 cur' x6 gt') (hc : Chg l6 m6 cur cur') (hw : w.heap.size ≤ l6) (q4 : h4 ≤ l6) (hbs : ∀ p ∈ bs, p.1 < l6 ∨ m6 ≤ p.1) : SnS w cur' bs l4 m4 h4 l6 m6 h6 v4 x4 v6 x6 r gh gt' :=
  have o := h.ord
  ⟨h.bel.trans (hc.1.mono (by omega)), by have := hc.1.size; omega, h.w1.same same_frR (fun b q1 q2 => hc.out (by omega) (by omega)), h.w0.same (fun b q1 q2 => hc.out (by omega) (by omega)), tsV_tsG hv, h.g0.same (fun b q1 q2 => hc.out (by omega) (by omega)), fun p hp => hc.cell (hbs p hp) (h.box p hp)⟩
theorem frr_nodes (lo hi : Nat) (w : World) (u : Value) (ts : List Td) (h : FrR lo hi w u ts) : TNodesAt w u ts := h.at
theorem tmv_nodes (lo hi : Nat) (w : World) (u : Value) (ts : List Td) (h : TmV lo hi w u ts) : TNodesAt w u ts := h.nodes
set_option maxRecDepth 100000 in
set_option maxHeartbeats 16000000 in
theorem si_walk (v : Value) (ts : List Td) (w : World) (hn : TNodesAt w v ts) (hz : ∀ td ∈ ts, TLens td) :
    Calls Tryz.prog 3 #[.agg #[v]] w fun e w' => e = .returned (.bool true) ∧ Below w.heap.size w w' := by
  have HN := hide hn
  have HZ := hide hz
  obtain ⟨a, cap, rfl, _, _, _⟩ := hn
  clear hz
  have b0 : Hid (∀ o, Below w.heap.size w (w.alloc o)) := fun o => bel_alloc (Below.refl _ _) o
  by_cases hbig : (1048576 : Int) < (tmSize ts : Nat)
  · have HL : Hid (leftOf 1048576 (tmSize ts) = -1) := by show leftOf _ _ = _; rw [leftOf, if_pos hbig]
    clear hbig
    go_enter Tryz.func3, Tryz.ntmps3
    go_wp2_with fail
    refine (szTerm_any _ ts _ _ (HN.out.keep (b0.out _)) HZ.out (by omega) (by omega)).mono ?_
    rintro e w1 ⟨rfl, hb1⟩
    rw [HL.out]
    have hbel1 := bel_trans (b0.out _) hb1
    clear hb1
    go_wp2_with fail
    go_ret
    exact ⟨rfl, hbel1⟩
  obtain ⟨M, hM⟩ : ∃ M : Int, M = 1048576 - (tmSize ts : Nat) := ⟨_, rfl⟩
  have HL : Hid (leftOf 1048576 (tmSize ts) = M) := by show leftOf _ _ = _; rw [leftOf, if_neg hbig, hM]
  have hlen : ts.length ≤ 1048576 := Nat.le_trans (show ts.length ≤ tmSize ts by unfold tmSize; omega) (by omega)
  have HSM := hide (tsmall_of (show tmSize ts ≤ 1048576 by omega))
  have HSPL := hide (spell_of (show tmSize ts ≤ 1048576 by omega))
  have HCT : Hid (costT ts ≤ 4200000) := by show _ ≤ _; have := costT_sum ts; unfold tmSize at hbig; omega
  have dM : decide (M < 0) = false := by simp; omega
  clear hbig hM
  obtain ⟨T, hT⟩ := tree_for ts
  obtain ⟨A, hA⟩ : ∃ A, A = spinA ts T := ⟨_, rfl⟩
  have HOK : Hid (SmallT A.1 ∧ (∀ l ∈ A.2, SmallT l) ∧ A.2.length ≤ 20000 ∧ costT A.1 + costTs A.2 ≤ 31000000) := by show SmallT A.1 ∧ _; rw [hA]; exact spin_ok hT
  have HSP : Hid (∀ (v : Value) (w : World), TNodesAt w v ts → Calls Tryz.prog 13 #[.agg #[v]] w fun e w' => SNOut w.heap.size w' e A ∧ Below w.heap.size w w') := fun v w hv => by rw [hA]; exact specSpine_any v ts T w hv HZ.out (fun td h => (HSM.out td h).1) hT
  have HIM : Hid (∀ (v : Value) (w : World), TNodesAt w v ts → Calls Tryz.prog 15 #[.agg #[v]] w fun e w' => NOut w.heap.size w' e A ∧ Below w.heap.size w w') := fun v w hv => by rw [hA]; exact implSpine_any v ts T w hv HZ.out HSM.out HSPL.out hT
  have HCP : Hid (∀ (v : Value) (w : World), TNodesAt w v ts → Calls Tryz.prog 14 #[.agg #[v]] w fun e w' => ∃ g, e = .returned (.agg #[.slice (some ⟨g, 0, none⟩) ts.length ts.length]) ∧ TsR w.heap.size w'.heap.size w' g ts.length ts.length ts ∧ w.heap.size ≤ g ∧ Below w.heap.size w w') := fun v w hv => toTerm_own v ts w hv hlen HSM.out
  clear hA hT
  obtain ⟨r, q⟩ := A
  go_enter Tryz.func3, Tryz.ntmps3
  go_wp2_with fail
  refine (szTerm_any _ ts _ _ (HN.out.keep (b0.out _)) HZ.out (by omega) (by omega)).mono ?_
  rintro e w1 ⟨rfl, hb1⟩
  rw [HL.out]
  have cx := keep_cell (b := w.heap.size) (o := 0) (v := .slice a ts.length cap) hb1 (by simp [go_sem])
  have HB := hide (bel_trans (b0.out _) hb1)
  clear hb1 HL
  go_wp2_with fail
  refine (HCP.out _ _ (HN.out.keep HB.out)).mono ?_
  rintro e w2 ⟨g2, rfl, hn2, hg2, hb2⟩
  have cx := keep_cell hb2 cx
  have hx0 := lt_cell cx
  have HB := hide (bel_trans HB.out hb2)
  have HN2 := hide (hn2.nodes rfl)
  clear hb2 hn2
  go_wp2_with fail
  refine (HSP.out _ _ HN2.out).mono ?_
  rintro e w3 ⟨⟨v4, x4, m4, rfl, ho4, hm4, hx4, hv4⟩, hb3⟩
  have cx := keep_cell hb3 cx
  have HB := hide (bel_trans HB.out hb3)
  have o1 := hb3.size
  obtain ⟨a4, c4, rfl⟩ := hv4.form
  obtain ⟨ya, yc, rfl⟩ := hx4.form
  have HV4 := hide hv4
  have HX4 := hide hx4
  clear hb3 HN2 HSP hv4 hx4
  simp only at HV4 HX4
  obtain ⟨W4, hW4⟩ : ∃ W4, W4 = w3.alloc (.cells #[.slice a4 r.length c4] 28) := ⟨_, rfl⟩
  have hbW : Below w3.heap.size w3 W4 := by rw [hW4]; exact bel_alloc (Below.refl _ _) _
  have c8 : W4.cell? ⟨w3.heap.size, 0, none⟩ = some (.slice a4 r.length c4) := by rw [hW4]; simp [go_sem]
  have o2 := lt_cell c8
  have cx := keep_cell hbW cx
  have HB := hide (bel_trans HB.out hbW)
  have HV4 := hide (HV4.out.same (fun b _ q => hbW.block b q))
  have HX4 := hide (HX4.out.same same_frR (fun b _ q => hbW.block b (by omega)))
  go_upto_region 6 with fail
  rw [← hW4]
  clear hW4 hbW
  go_wp2_with fail
  refine (HCP.out _ _ (HN.out.keep HB.out)).mono ?_
  rintro e w5 ⟨g5, rfl, hn5, hg5, hb5⟩
  have cx := keep_cell hb5 cx
  have c8 := keep_cell hb5 c8
  have HB := hide (bel_trans HB.out hb5)
  have HV4 := hide (HV4.out.same (fun b _ q => hb5.block b (by omega)))
  have HX4 := hide (HX4.out.same same_frR (fun b _ q => hb5.block b (by omega)))
  have o3 := hb5.size
  have HX := hide hn5
  clear hb5 hn5 hg5
  obtain ⟨W6, hW6⟩ : ∃ W6, W6 = w5.alloc (.cells #[.slice (some ⟨g5, 0, none⟩) ts.length ts.length] 28) := ⟨_, rfl⟩
  have hbW : Below w5.heap.size w5 W6 := by rw [hW6]; exact bel_alloc (Below.refl _ _) _
  have c10 : W6.cell? ⟨w5.heap.size, 0, none⟩ = some (.slice (some ⟨g5, 0, none⟩) ts.length ts.length) := by rw [hW6]; simp [go_sem]
  have o4 := lt_cell c10
  have cx := keep_cell hbW cx
  have c8 := keep_cell hbW c8
  have HB := hide (bel_trans HB.out hbW)
  have HV4 := hide (HV4.out.same (fun b _ q => hbW.block b (by omega)))
  have HX4 := hide (HX4.out.same same_frR (fun b _ q => hbW.block b (by omega)))
  have HX := hide (HX.out.keep hbW (Nat.le_refl _))
  go_upto_region 7 with fail
  rw [← hW6]
  clear hW6 hbW
  go_wp2_with fail
  refine (HIM.out _ _ (HX.out.nodes rfl)).mono ?_
  rintro e w7 ⟨⟨v6, x6, m6, rfl, ho6, hm6, hx6, hv6⟩, hb7⟩
  have o5 := hb7.size
  obtain ⟨a6, c6, rfl⟩ := hv6.form
  obtain ⟨za, zc, rfl⟩ := hx6.form
  obtain ⟨W8, hW8⟩ : ∃ W8, W8 = w7.alloc (.cells #[.slice a6 r.length c6] 28) := ⟨_, rfl⟩
  have hbW : Below w7.heap.size w7 W8 := by rw [hW8]; exact bel_alloc (Below.refl _ _) _
  have c11 : W8.cell? ⟨w7.heap.size, 0, none⟩ = some (.slice a6 r.length c6) := by rw [hW8]; simp [go_sem]
  have o6 := lt_cell c11
  have HE : Hid (SnS w W8 [(w.heap.size, .slice a ts.length cap), (w3.heap.size, .slice a4 r.length c4), (w5.heap.size, .slice (some ⟨g5, 0, none⟩) ts.length ts.length), (w7.heap.size, .slice a6 r.length c6)] w2.heap.size m4 w3.heap.size W6.heap.size m6 w7.heap.size (.slice a4 r.length c4) (.slice ya q.length yc) (.slice a6 r.length c6) (.slice za q.length zc) (r, q) r q) := by
    have hbb := bel_trans hb7 hbW
    refine ⟨bel_trans HB.out hbb, by omega, HX4.out.same same_frR (fun b _ q => hbb.block b (by omega)), HV4.out.same (fun b _ q => hbb.block b (by omega)), hx6.same same_tmV (fun b _ q => hbW.block b (by omega)), hv6.same (fun b _ q => hbW.block b (by omega)), ?_⟩
    intro p hp
    simp only [List.mem_cons, List.not_mem_nil, or_false] at hp
    rcases hp with rfl | rfl | rfl | rfl
    · exact keep_cell hbW (keep_cell hb7 cx)
    · exact keep_cell hbW (keep_cell hb7 c8)
    · exact keep_cell hbW (keep_cell hb7 c10)
    · exact c11
  have HX := hide (HX.out.keep (bel_trans hb7 hbW) (by omega))
  clear hb7 hx6 hv6 cx c8 c10 c11 HB HX4 HV4
  have cx := HE.out.box (w.heap.size, .slice a ts.length cap) (by simp)
  have c8 := HE.out.box (w3.heap.size, .slice a4 r.length c4) (by simp)
  have c10 := HE.out.box (w5.heap.size, .slice (some ⟨g5, 0, none⟩) ts.length ts.length) (by simp)
  have c11 := HE.out.box (w7.heap.size, .slice a6 r.length c6) (by simp)
  simp only at cx c8 c10 c11
  go_upto_region 8 with fail
  rw [← hW8]
  clear hW8 hbW
  go_wp2_with fail
  refine (eqTerm_any _ _ r _ HE.out.g0.nodes HE.out.w0.at).mono ?_
  rintro e w9 ⟨rfl, hb9⟩
  have o9 := hb9.size
  have HE := hide (HE.out.keep hb9)
  have HX := hide (HX.out.keep hb9 (by omega))
  have cx := keep_cell hb9 cx
  have c8 := keep_cell hb9 c8
  have c10 := keep_cell hb9 c10
  have c11 := keep_cell hb9 c11
  clear hb9
  go_wp2_with fail
  refine (eqTermS_any _ _ q _ (HE.out.g1.terms tmv_nodes) (HE.out.w1.terms frr_nodes)).mono ?_
  rintro e w10 ⟨rfl, hb10⟩
  have o10 := hb10.size
  have HE := hide (HE.out.keep hb10)
  have HX := hide (HX.out.keep hb10 (by omega))
  have cx := keep_cell hb10 cx
  have c8 := keep_cell hb10 c8
  have c10 := keep_cell hb10 c10
  have c11 := keep_cell hb10 c11
  clear hb10
  go_wp2_with fail
  go_region_held3 (fun w' => w'.cell? ⟨w5.heap.size, 0, none⟩ = some (.slice (some ⟨g5, 0, none⟩) ts.length ts.length) ∧ w'.cell? ⟨w.heap.size, 0, none⟩ = some (.slice a ts.length cap))
    (first
      | go_keep
      | (go_split_ands; exact ⟨keep_cell hb12 (by assumption), keep_cell hb12 (by assumption)⟩)
      | (go_split_ands; exact ⟨keep_cell hb11 (by assumption), keep_cell hb11 (by assumption)⟩)
      | fail)
    (first
      | (go_at_call 14; refine (HCP.out _ _ (by exact HN.out.keep HE.out.bel.drew)).mono ?_; rintro e w11 ⟨g11, rfl, hn11, hg11, hb11⟩)
      | (go_at_call 16; refine (eqTerm_any _ _ ts _ (by exact (HX.out.nodes rfl).keep ((Below.refl w10.heap.size w10).drew.trans hb11)) (hn11.nodes rfl)).mono ?_; rintro e w12 ⟨rfl, hb12⟩)
      | fail)
  have hbb : Below w10.heap.size w10 w12 := (Below.refl w10.heap.size w10).drew.trans (hb11.trans (hb12.mono hb11.size))
  clear hn11 hb11 hb12 hg11
  have o12 := hbb.size
  have HE := hide (HE.out.keep hbb)
  have HX := hide (HX.out.keep hbb (by omega))
  have cx := keep_cell hbb cx
  have c8 := keep_cell hbb c8
  have c10 := keep_cell hbb c10
  have c11 := keep_cell hbb c11
  clear hbb
  have HM1 := hide (markTerm_any W4.heap.size w5.heap.size g5 ts.length ts 1 w12 HX.out (by omega) HSM.out hlen (by omega) (by have := HCT.out; omega))
  rw [show ((1 : Nat) : Int) = 1 from rfl] at HM1
  obtain ⟨K1, hK1⟩ : ∃ K1, K1 = 1 + costT ts := ⟨_, rfl⟩
  rw [← hK1] at HM1
  have dK : decide ((K1 : Int) < 0) = false := by simp
  clear hK1
  go_wp2_with fail
  refine HM1.out.mono ?_
  rintro e w13 ⟨rfl, hc13⟩
  have HE : Hid (SnS w w13 _ _ _ _ _ _ _ _ _ _ _ _ _ _) := HE.out.chg hc13 (by omega) (by omega) (by omega) (by
    intro p hp
    simp only [List.mem_cons, List.not_mem_nil, or_false] at hp
    rcases hp with rfl | rfl | rfl | rfl <;> simp only <;> omega)
  have o13 := hc13.1.size
  clear hc13 HM1 HX cx c8 c10 c11
  have cx := HE.out.box (w.heap.size, .slice a ts.length cap) (by simp)
  have c8 := HE.out.box (w3.heap.size, .slice a4 r.length c4) (by simp)
  have c11 := HE.out.box (w7.heap.size, .slice a6 r.length c6) (by simp)
  simp only at cx c8 c11
  go_wp2_with fail
  refine (eqTerm_any _ _ r _ HE.out.g0.nodes HE.out.w0.at).mono ?_
  rintro e w14 ⟨rfl, hb14⟩
  have o14 := hb14.size
  have HE := hide (HE.out.keep hb14)
  have cx := keep_cell hb14 cx
  have c8 := keep_cell hb14 c8
  have c11 := keep_cell hb14 c11
  clear hb14
  go_wp2_with fail
  refine (eqTermS_any _ _ q _ (HE.out.g1.terms tmv_nodes) (HE.out.w1.terms frr_nodes)).mono ?_
  rintro e w15 ⟨rfl, hb15⟩
  have o15 := hb15.size
  have HE := hide (HE.out.keep hb15)
  have cx := keep_cell hb15 cx
  have c8 := keep_cell hb15 c8
  have c11 := keep_cell hb15 c11
  clear hb15
  obtain ⟨⟨k1, k2⟩, k3, k4, k5⟩ := HOK.out
  have HK1 : Hid (∀ td ∈ r, TSmall td) := k2
  have HK2 : Hid (∀ l ∈ q, SmallT l) := k3
  try simp only at k1 k4 k5
  have hm6w : m6 ≤ w7.heap.size := hm6
  have HM2 := hide (markTerm_V m6 w7.heap.size _ r 1 w15 HE.out.g0 (by omega) (by omega) HK1.out k1 (by omega) (by omega))
  rw [show ((1 : Nat) : Int) = 1 from rfl] at HM2
  obtain ⟨K2, hK2⟩ : ∃ K2, K2 = 1 + costT r := ⟨_, rfl⟩
  have HKK2 := hide hK2
  rw [← hK2] at HM2
  have hk50 : 1 ≤ K2 ∧ K2 + costTs q ≤ 50000000 := by omega
  clear hK2
  go_wp2_with fail
  refine HM2.out.mono ?_
  rintro e w16 ⟨rfl, hv16, hc16⟩
  have HE : Hid (SnS w w16 _ _ _ _ _ _ _ _ _ _ _ _ (markT 1 r) _) := HE.out.markH hv16 hc16 (by omega) (by omega) (by
    intro p hp
    simp only [List.mem_cons, List.not_mem_nil, or_false] at hp
    rcases hp with rfl | rfl | rfl | rfl <;> simp only <;> omega)
  have o16 := hc16.1.size
  clear hv16 hc16 HM2 cx c8 c11
  have cx := HE.out.box (w.heap.size, .slice a ts.length cap) (by simp)
  have c8 := HE.out.box (w3.heap.size, .slice a4 r.length c4) (by simp)
  have c11 := HE.out.box (w7.heap.size, .slice a6 r.length c6) (by simp)
  simp only at cx c8 c11
  have HM3 := hide (markTermS_V W6.heap.size m6 _ q K2 w16 (tsG_tsV HE.out.g1) (by omega) HK2.out (by omega) hk50.1 hk50.2)
  obtain ⟨K3, hK3⟩ : ∃ K3, K3 = K2 + costTs q := ⟨_, rfl⟩
  have HKK3 := hide hK3
  rw [← hK3] at HM3
  have hk3b : K3 ≤ 50000000 := by omega
  clear hK3
  go_wp2_with fail
  refine HM3.out.mono ?_
  rintro e w17 ⟨rfl, hv17, hc17⟩
  have HE : Hid (SnS w w17 _ _ _ _ _ _ _ _ _ _ _ _ (markT 1 r) (markTs K2 q)) := HE.out.markT hv17 hc17 (by omega) (by omega) (by
    intro p hp
    simp only [List.mem_cons, List.not_mem_nil, or_false] at hp
    rcases hp with rfl | rfl | rfl | rfl <;> simp only <;> omega)
  have o17 := hc17.1.size
  clear hv17 hc17 HM3 cx c8 c11
  have cx := HE.out.box (w.heap.size, .slice a ts.length cap) (by simp)
  have c8 := HE.out.box (w3.heap.size, .slice a4 r.length c4) (by simp)
  have c11 := HE.out.box (w7.heap.size, .slice a6 r.length c6) (by simp)
  simp only at cx c8 c11
  have HH := hide (show ∀ W, TNodesAt W (.slice a6 r.length c6) (markT 1 r) → Calls Tryz.prog 20 #[.agg #[.slice a6 r.length c6], .int .i64 1] W fun e w' => e = .returned (.int .i64 (K2 : Int)) ∧ Below W.heap.size W w' from fun W hW => by
    have := heldTerm_any _ r 1 W hW HK1.out (by omega) (by have := HKK2.out; omega)
    rw [← HKK2.out] at this
    exact this)
  have HHS := hide (show ∀ W, TermsAt W (.slice za q.length zc) (markTs K2 q) → Calls Tryz.prog 21 #[.slice za q.length zc, .int .i64 (K2 : Int)] W fun e w' => e = .returned (.int .i64 (K3 : Int)) ∧ Below W.heap.size W w' from fun W hW => by
    have := heldTermS_any _ q K2 W hW HK2.out hk50.1 (by have := HKK3.out; omega)
    rw [← HKK3.out] at this
    exact this)
  have hKK : ((K3 : Int) != (K3 : Int)) = false := by simp
  have dK2 : decide ((K2 : Int) < 0) = false := by simp
  have dK3 : decide ((K3 : Int) < 0) = false := by simp
  clear k1 k2 k3 k4 k5 hk50
  go_wp2_with fail
  refine (HH.out _ HE.out.g0.nodes).mono ?_
  rintro e w18 ⟨rfl, hb18⟩
  have HE := hide (HE.out.keep hb18)
  have cx := keep_cell hb18 cx
  have c8 := keep_cell hb18 c8
  have c11 := keep_cell hb18 c11
  clear hb18
  go_wp2_with fail
  refine (HHS.out _ (HE.out.g1.terms tmv_nodes)).mono ?_
  rintro e w19 ⟨rfl, hb19⟩
  have HE := hide (HE.out.keep hb19)
  have cx := keep_cell hb19 cx
  have c8 := keep_cell hb19 c8
  have c11 := keep_cell hb19 c11
  clear hb19
  go_wp2_with fail
  refine (HCP.out _ _ (HN.out.keep HE.out.bel)).mono ?_
  rintro e w20 ⟨g20, rfl, hn20, hg20, hb20⟩
  have HE := hide (HE.out.keep hb20)
  have c8 := keep_cell hb20 c8
  have c11 := keep_cell hb20 c11
  have HN20 := hide (hn20.nodes rfl)
  clear hb20 hn20 cx
  go_wp2_with fail
  refine (HIM.out _ _ HN20.out).mono ?_
  rintro e w21 ⟨⟨v21, x21, m21, rfl, _, hm21, hx21, hv21⟩, hb21⟩
  obtain ⟨a21, c21, rfl⟩ := hv21.form
  obtain ⟨ua, uc, rfl⟩ := hx21.form
  obtain ⟨W22, hW22⟩ : ∃ W22, W22 = w21.alloc (.cells #[.slice a21 r.length c21] 28) := ⟨_, rfl⟩
  have hbW : Below w21.heap.size w21 W22 := by rw [hW22]; exact bel_alloc (Below.refl _ _) _
  have HE := hide ((HE.out.keep hb21).keep hbW)
  have c8 := keep_cell hbW (keep_cell hb21 c8)
  have c11 := keep_cell hbW (keep_cell hb21 c11)
  have c16 : W22.cell? ⟨w21.heap.size, 0, none⟩ = some (.slice a21 r.length c21) := by rw [hW22]; simp [go_sem]
  have o22 := lt_cell c16
  have HI22 := hide (hv21.nodes.keep hbW)
  have HJ22 := hide ((hx21.terms tmv_nodes).keep hbW)
  clear hb21 hx21 hv21 HN20
  go_upto_region 29 with fail
  rw [← hW22]
  clear hW22 hbW
  go_wp2_with fail
  refine (eqTerm_any _ _ r _ HI22.out HE.out.w0.at).mono ?_
  rintro e w23 ⟨rfl, hb23⟩
  have HE := hide (HE.out.keep hb23)
  have c11 := keep_cell hb23 c11
  have HJ22 := hide (HJ22.out.keep hb23)
  clear hb23 c8 c16 HI22
  go_wp2_with fail
  refine (eqTermS_any _ _ q _ HJ22.out (HE.out.w1.terms frr_nodes)).mono ?_
  rintro e w24 ⟨rfl, hb24⟩
  have HE := hide (HE.out.keep hb24)
  have c11 := keep_cell hb24 c11
  clear hb24 HJ22
  go_wp2_with fail
  refine (HH.out _ HE.out.g0.nodes).mono ?_
  rintro e w25 ⟨rfl, hb25⟩
  have HE := hide (HE.out.keep hb25)
  clear hb25 c11
  go_wp2_with fail
  refine (HHS.out _ (HE.out.g1.terms tmv_nodes)).mono ?_
  rintro e w26 ⟨rfl, hb26⟩
  have HE := hide (HE.out.keep hb26)
  clear hb26
  go_wp2_with fail
  go_ret
  exact ⟨rfl, HE.out.bel⟩
end Go.Proofs.YtbgibiongnhjoaaGreat
