/- The walk of the law FnExactLevelsOf. -/
import Derived.Test.YtdbepifdmcjjpaaGreatLoE
import Derived.Test.YtdbepifdmcjjpaaGreatLoS
import Derived.Test.YtdbepifdmcjjpaaGreatMkV
import Derived.Test.YtdbepifdmcjjpaaGreatMkS
import Derived.Test.YtdbepifdmcjjpaaGreatTEq
import Derived.Test.YtdbepifdmcjjpaaGreatTSz
import Derived.Deep.RegionHeld3
import Derived.Deep.CutRange
import Derived.Deep.Upon
namespace Go.Proofs.YtdbepifdmcjjpaaGreat
open Go.ChangeShapes Go.WideShapes Go.ChangeAt Go.RowKit

theorem levsA_len (ts : List Td) : (levsA ts).length ≤ 720000 := by
  unfold levsA
  split
  · rename_i ht
    have hl : ts.length ≤ 20000 := by have ht2 := ht; unfold termB termB' at ht2; simp at ht2; exact ht2.1
    have h1 := levsZ_len (levF ts ts.length ((ts.length : Int) - 1)) []
    have h2 := levs_root_len ht (lvN_le ht)
    unfold levsT
    simp only [List.length_nil] at h1
    omega
  · simp
/-- A row of texts whose block lies within a range. -/
def OwnQ (lo hi : Nat) (w : World) (v : Value) (ks : List ByteArray) : Prop := OwnS lo w v ks ∧ ∀ b, v.ownBlock = some b → b < hi
theorem OwnQ.keep {lo hi : Nat} {w w' : World} {v : Value} {ks : List ByteArray} (h : OwnQ lo hi w v ks) (hb : Below w.heap.size w w') : OwnQ lo hi w' v ks := ⟨h.1.keep hb, h.2⟩
theorem OwnQ.of {lo : Nat} {w : World} {v : Value} {ks : List ByteArray} (h : OwnS lo w v ks) : OwnQ lo w.heap.size w v ks := ⟨h, fun b hb => (World.ownsRow.lt h b hb).2⟩
theorem OwnQ.chg {lo hi l2 h2 : Nat} {w w' : World} {v : Value} {ks : List ByteArray} (h : OwnQ lo hi w v ks) (hc : Chg l2 h2 w w') (hd : hi ≤ l2 ∨ h2 ≤ lo) : OwnQ lo hi w' v ks :=
  ⟨row_same h.1 (fun g hg => hc.out (by have := (World.ownsRow.lt h.1 g hg).1; have := h.2 g hg; omega) (World.ownsRow.lt h.1 g hg).2), h.2⟩

/-- What stays known: the law's argument, the two answers, and the copy that was handed in. -/
structure LoSt (w cur : World) (vx : Value) (s4 s5 s6 s7 b5 : Nat) (v4 v6 v5 : Value) (ws gs : List ByteArray) : Prop where
  bel : Below w.heap.size w cur
  big : s7 ≤ cur.heap.size
  a4 : OwnQ s4 s5 cur v4 ws
  a6 : OwnQ s6 s7 cur v6 gs
  cx : cur.cell? ⟨w.heap.size, 0, none⟩ = some vx
  c5 : cur.cell? ⟨b5, 0, none⟩ = some v5
theorem LoSt.keep {w cur cur' : World} {vx : Value} {s4 s5 s6 s7 b5 : Nat} {v4 v6 v5 : Value} {ws gs : List ByteArray} (h : LoSt w cur vx s4 s5 s6 s7 b5 v4 v6 v5 ws gs) (hb : Below cur.heap.size cur cur') : LoSt w cur' vx s4 s5 s6 s7 b5 v4 v6 v5 ws gs :=
  ⟨bel_trans h.bel hb, by have := hb.size; have := h.big; omega, h.a4.keep hb, h.a6.keep hb, keep_cell hb h.cx, keep_cell hb h.c5⟩
theorem LoSt.chg {w cur cur' : World} {vx : Value} {s4 s5 s6 s7 b5 lo hi : Nat} {v4 v6 v5 : Value} {ws gs : List ByteArray} (h : LoSt w cur vx s4 s5 s6 s7 b5 v4 v6 v5 ws gs) (hw : w.heap.size < lo) (h1 : s5 ≤ lo) (h2 : hi ≤ b5) (h3 : hi ≤ s6) (hc : Chg lo hi cur cur') : LoSt w cur' vx s4 s5 s6 s7 b5 v4 v6 v5 ws gs :=
  ⟨h.bel.trans (hc.1.mono (by omega)), by have := hc.1.size; have := h.big; omega, h.a4.chg hc (.inl h1), h.a6.chg hc (.inr h3), hc.cell (.inl hw) h.cx, hc.cell (.inr h2) h.c5⟩
/-- The answer itself is marked. -/
theorem LoSt.mark {w cur cur' : World} {vx : Value} {s4 s5 s6 s7 b5 : Nat} {v4 v6 v5 : Value} {ws gs gs' : List ByteArray} (h : LoSt w cur vx s4 s5 s6 s7 b5 v4 v6 v5 ws gs) (hw : w.heap.size < s6) (h1 : s5 ≤ s6) (h2 : b5 < s6) (hk : OwnS s6 cur' v6 gs') (hc : Chg s6 s7 cur cur') : LoSt w cur' vx s4 s5 s6 s7 b5 v4 v6 v5 ws gs' :=
  ⟨h.bel.trans (hc.1.mono (by omega)), by have := hc.1.size; have := h.big; omega, h.a4.chg hc (.inl h1), ⟨hk, h.a6.2⟩, hc.cell (.inl hw) h.cx, hc.cell (.inl h2) h.c5⟩

set_option maxRecDepth 100000 in
set_option maxHeartbeats 8000000 in
theorem lo_walk (v : Value) (ts : List Td) (w : World) (hn : TNodesAt w v ts) (hz : ∀ td ∈ ts, TLens td) :
    Calls Tryz.prog 4 #[.agg #[v]] w fun e w' => e = .returned (.bool true) ∧ Below w.heap.size w w' := by
  have HN := hide hn
  have HZ := hide hz
  obtain ⟨a, cap, rfl, _, _, _⟩ := hn
  clear hz
  have b0 : Hid (∀ o, Below w.heap.size w (w.alloc o)) := fun o => bel_alloc (Below.refl _ _) o
  by_cases hbig : (1048576 : Int) < (tmSize ts : Nat)
  · have HL : Hid (leftOf 1048576 (tmSize ts) = -1) := by show leftOf _ _ = _; rw [leftOf, if_pos hbig]
    clear hbig
    go_enter Tryz.func4, Tryz.ntmps4
    go_wp2_with fail
    refine (szTerm_any _ ts _ _ (HN.out.keep (b0.out _)) HZ.out (by omega) (by omega)).mono ?_
    rintro e w1 ⟨rfl, hb1⟩
    rw [HL.out]
    have hbel1 := bel_trans (b0.out _) hb1
    clear hb1
    go_wp2_with fail
    go_ret
    exact ⟨rfl, hbel1⟩
  obtain ⟨M, hM⟩ : ∃ M : Int, M = 1048576 - (tmSize ts : Nat) := ⟨_, rfl⟩
  have hM0 : 0 ≤ M := by omega
  have HL : Hid (leftOf 1048576 (tmSize ts) = M) := by show leftOf _ _ = _; rw [leftOf, if_neg hbig, hM]
  have hlen : ts.length ≤ 1048576 := Nat.le_trans (show ts.length ≤ tmSize ts by unfold tmSize; omega) (by omega)
  have HSM := hide (tsmall_of (show tmSize ts ≤ 1048576 by omega))
  have HCT : Hid (costT ts ≤ 4200000) := by show _ ≤ _; have := costT_sum ts; unfold tmSize at hbig; omega
  have dM : decide (M < 0) = false := by simp; omega
  clear hbig hM
  obtain ⟨hs, hhs⟩ : ∃ hs, hs = levsA ts := ⟨_, rfl⟩
  have hl : hs.length ≤ 720000 := by rw [hhs]; exact levsA_len ts
  have HSP : Hid (∀ (v : Value) (w : World), TNodesAt w v ts → Calls Tryz.prog 15 #[.agg #[v]] w fun e w' => (∃ v', e = .returned v' ∧ OwnS w.heap.size w' v' hs) ∧ Below w.heap.size w w') := fun v w hv => (specLevs_any v ts w hv HZ.out (fun td h => (HSM.out td h).1)).mono fun e w' ⟨h1, h2⟩ => ⟨by rw [hhs]; exact h1, h2⟩
  have HIM : Hid (∀ (v : Value) (w : World), TNodesAt w v ts → Calls Tryz.prog 16 #[.agg #[v]] w fun e w' => (∃ v', e = .returned v' ∧ OwnS w.heap.size w' v' hs) ∧ Below w.heap.size w w') := fun v w hv => (implLevs_any sortS v ts w hv HZ.out).mono fun e w' ⟨h1, h2⟩ => ⟨by rw [hhs]; exact h1, h2⟩
  have HCP : Hid (∀ (v : Value) (w : World), TNodesAt w v ts → Calls Tryz.prog 8 #[.agg #[v]] w fun e w' => ∃ g, e = .returned (.agg #[.slice (some ⟨g, 0, none⟩) ts.length ts.length]) ∧ TsR w.heap.size w'.heap.size w' g ts.length ts.length ts ∧ w.heap.size ≤ g ∧ Below w.heap.size w w') := fun v w hv => toTerm_own v ts w hv hlen HSM.out
  clear hhs
  go_enter Tryz.func4, Tryz.ntmps4
  go_wp2_with fail
  refine (szTerm_any _ ts _ _ (HN.out.keep (b0.out _)) HZ.out (by omega) (by omega)).mono ?_
  rintro e w1 ⟨rfl, hb1⟩
  rw [HL.out]
  have cx := keep_cell (b := w.heap.size) (o := 0) (v := .slice a ts.length cap) hb1 (by simp [go_sem])
  have HB := hide (bel_trans (b0.out _) hb1)
  clear hb1 HL
  go_wp2_with fail
  refine (HCP.out _ _ (HN.out.keep HB.out)).mono ?_
  rintro e w2 ⟨g2, rfl, hn2, hg2, hb2⟩
  have cx := keep_cell hb2 cx
  have HB := hide (bel_trans HB.out hb2)
  have HN2 := hide (hn2.nodes rfl)
  clear hb2 hn2
  go_wp2_with fail
  refine (HSP.out _ _ HN2.out).mono ?_
  rintro e w3 ⟨⟨v4, rfl, ho4⟩, hb3⟩
  have cx := keep_cell hb3 cx
  have HB := hide (bel_trans HB.out hb3)
  have HA4 := hide (OwnQ.of ho4)
  have o1 := hb3.size
  have hx0 := lt_cell cx
  obtain ⟨a4, c4, rfl⟩ := row_form ho4
  clear hb3 ho4 HN2 HSP
  go_wp2_with fail
  refine (HCP.out _ _ (HN.out.keep HB.out)).mono ?_
  rintro e w4 ⟨g5, rfl, hn4, hg5, hb4⟩
  have cx := keep_cell hb4 cx
  have HB := hide (bel_trans HB.out hb4)
  have HA4 := hide (HA4.out.keep hb4)
  have o2 := hb4.size
  have HX := hide hn4
  clear hb4 hn4 hg5
  obtain ⟨W5, hW5⟩ : ∃ W5, W5 = w4.alloc (.cells #[.slice (some ⟨g5, 0, none⟩) ts.length ts.length] 30) := ⟨_, rfl⟩
  have hbW : Below w4.heap.size w4 W5 := by rw [hW5]; exact bel_alloc (Below.refl _ _) _
  have c5 : W5.cell? ⟨w4.heap.size, 0, none⟩ = some (.slice (some ⟨g5, 0, none⟩) ts.length ts.length) := by rw [hW5]; simp [go_sem]
  have o3 := lt_cell c5
  have cx := keep_cell hbW cx
  have HB := hide (bel_trans HB.out hbW)
  have HA4 := hide (HA4.out.keep hbW)
  have HX := hide (HX.out.keep hbW (Nat.le_refl _))
  go_upto_region 7 with fail
  rw [← hW5]
  clear hW5 hbW
  go_wp2_with fail
  refine (HIM.out _ _ (HX.out.nodes rfl)).mono ?_
  rintro e w6 ⟨⟨v6, rfl, ho6⟩, hb6⟩
  have o4 := hb6.size
  have HE : Hid (LoSt w w6 (.slice a ts.length cap) w2.heap.size w3.heap.size W5.heap.size w6.heap.size w4.heap.size (.slice a4 hs.length c4) v6 (.slice (some ⟨g5, 0, none⟩) ts.length ts.length) hs hs) := ⟨bel_trans HB.out hb6, Nat.le_refl _, HA4.out.keep hb6, OwnQ.of ho6, keep_cell hb6 cx, keep_cell hb6 c5⟩
  have HX := hide (HX.out.keep hb6 (by omega))
  obtain ⟨a6, c6, rfl⟩ := row_form ho6
  clear hb6 ho6 cx c5 HB HA4
  have cx := HE.out.cx
  have c5 := HE.out.c5
  go_wp2_with fail
  refine (eqStringS_any _ _ hs _ HE.out.a6.1.strs HE.out.a4.1.strs).mono ?_
  rintro e w7 ⟨rfl, n7, rfl⟩
  have hb7 := below_drewN (Below.refl w6.heap.size w6) n7
  have HE := hide (HE.out.keep hb7)
  have HX := hide (HX.out.keep hb7 (by omega))
  clear hb7 cx c5
  have cx := HE.out.cx
  have c5 := HE.out.c5
  generalize w6.drewN n7 = w7 at *
  go_wp2_with fail
  go_region_held3 (fun w' => w'.cell? ⟨w4.heap.size, 0, none⟩ = some (.slice (some ⟨g5, 0, none⟩) ts.length ts.length) ∧ w'.cell? ⟨w.heap.size, 0, none⟩ = some (.slice a ts.length cap))
    (first
      | go_keep
      | (go_split_ands; exact ⟨keep_cell hb9 (by assumption), keep_cell hb9 (by assumption)⟩)
      | (go_split_ands; exact ⟨keep_cell hb8 (by assumption), keep_cell hb8 (by assumption)⟩)
      | fail)
    (first
      | (go_at_call 8; refine (HCP.out _ _ (by exact HN.out.keep HE.out.bel.drew)).mono ?_; rintro e w8 ⟨g8, rfl, hn8, hg8, hb8⟩)
      | (go_at_call 11; refine (eqTerm_any _ _ ts _ (by exact (HX.out.nodes rfl).keep ((Below.refl w7.heap.size w7).drew.trans hb8)) (hn8.nodes rfl)).mono ?_; rintro e w9 ⟨rfl, hb9⟩)
      | fail)
  have hb79 : Below w7.heap.size w7 w9 := (Below.refl w7.heap.size w7).drew.trans (hb8.trans (hb9.mono hb8.size))
  clear hn8 hb8 hb9 hg8
  have hz7 := HE.out.big
  have HE := hide (HE.out.keep hb79)
  have HX := hide (HX.out.keep hb79 (by omega))
  clear hb79 cx c5 hz7
  have cx := HE.out.cx
  have c5 := HE.out.c5
  have hz9 := HE.out.big
  have HM1 := hide (markTerm_any w3.heap.size w4.heap.size g5 ts.length ts 1 w9 HX.out (by omega) HSM.out hlen (by omega) (by have := HCT.out; omega))
  rw [show ((1 : Nat) : Int) = 1 from rfl] at HM1
  obtain ⟨K1, hK1⟩ : ∃ K1, K1 = 1 + costT ts := ⟨_, rfl⟩
  rw [← hK1] at HM1
  have dK : decide ((K1 : Int) < 0) = false := by simp
  clear hK1
  go_wp2_with fail
  refine HM1.out.mono ?_
  rintro e w10 ⟨rfl, hc10⟩
  have HE := hide (HE.out.chg (by omega) (Nat.le_refl _) (Nat.le_refl _) (by omega) hc10)
  clear hc10 HM1 HX cx c5 hz9
  have cx := HE.out.cx
  go_wp2_with fail
  refine (eqStringS_any _ _ hs _ HE.out.a6.1.strs HE.out.a4.1.strs).mono ?_
  rintro e w11 ⟨rfl, n11, rfl⟩
  have HE := hide (HE.out.keep (below_drewN (Below.refl w10.heap.size w10) n11))
  clear cx
  have cx := HE.out.cx
  have hz11 := HE.out.big
  generalize w10.drewN n11 = w11 at *
  have HM2 := hide (markStr_any W5.heap.size w6.heap.size _ hs 1 w11 HE.out.a6.1 HE.out.a6.2 (by omega) (by omega) (by omega) (by omega))
  rw [show ((1 : Nat) : Int) = 1 from rfl] at HM2
  obtain ⟨K2, hK2⟩ : ∃ K2, K2 = 1 + hs.length := ⟨_, rfl⟩
  have HK2 := hide hK2
  rw [← hK2] at HM2
  clear hK2
  go_wp2_with fail
  refine HM2.out.mono ?_
  rintro e w12 ⟨rfl, hk12, hg12⟩
  have HE := hide (HE.out.mark (by omega) (by omega) (by omega) hk12 hg12)
  clear hk12 hg12 HM2 cx hz11
  have cx := HE.out.cx
  have HH := hide (show ∀ W, StrsAt W (.slice a6 hs.length c6) (mts 1 hs.length) → Calls Tryz.prog 19 #[.slice a6 hs.length c6, .int .i64 1] W fun e w' => e = .returned (.int .i64 (K2 : Int)) ∧ Below W.heap.size W w' from fun W hW => by
    have := heldStr_any _ hs.length 1 W hW (by omega) (by omega) (by omega)
    rw [← HK2.out] at this
    exact this)
  have hKK : ((K2 : Int) != (K2 : Int)) = false := by simp
  have dK2 : decide ((K2 : Int) < 0) = false := by simp
  go_wp2_with fail
  refine (HH.out _ HE.out.a6.1.strs).mono ?_
  rintro e w13 ⟨rfl, hb13⟩
  have HE := hide (HE.out.keep hb13)
  clear hb13 cx
  have cx := HE.out.cx
  go_wp2_with fail
  refine (HCP.out _ _ (HN.out.keep HE.out.bel)).mono ?_
  rintro e w14 ⟨g14, rfl, hn14, hg14, hb14⟩
  have HE := hide (HE.out.keep hb14)
  have HN14 := hide (hn14.nodes rfl)
  clear hb14 hn14 cx
  have cx := HE.out.cx
  go_wp2_with fail
  refine (HIM.out _ _ HN14.out).mono ?_
  rintro e w15 ⟨⟨v15, rfl, ho15⟩, hb15⟩
  have HE := hide (HE.out.keep hb15)
  have HI15 := hide ho15.strs
  obtain ⟨a15, c15, rfl⟩ := row_form ho15
  clear hb15 ho15 cx HN14
  have cx := HE.out.cx
  go_wp2_with fail
  refine (eqStringS_any _ _ hs _ HI15.out HE.out.a4.1.strs).mono ?_
  rintro e w16 ⟨rfl, n16, rfl⟩
  have HE := hide (HE.out.keep (below_drewN (Below.refl w15.heap.size w15) n16))
  clear cx HI15
  have cx := HE.out.cx
  generalize w15.drewN n16 = w16 at *
  go_wp2_with fail
  refine (HH.out _ HE.out.a6.1.strs).mono ?_
  rintro e w17 ⟨rfl, hb17⟩
  have HE := hide (HE.out.keep hb17)
  clear hb17 cx
  go_wp2_with fail
  go_ret
  exact ⟨rfl, HE.out.bel⟩
end Go.Proofs.YtdbepifdmcjjpaaGreat
