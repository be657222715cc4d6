/- The walk of the law FnExactLift. -/
import Derived.Test.YtbgibiongnhjoaaGreatTEq
import Derived.Test.YtbgibiongnhjoaaGreatTTo
import Derived.Deep.RegionHeld3
import Derived.Deep.CutRange
import Derived.Deep.Upon
import Derived.Test.YtbgibiongnhjoaaGreatSz
import Derived.Deep.Slices
import Derived.Deep.Strs
import Derived.Lib.SmallJoins
import Derived.Test.YtbgibiongnhjoaaGreatCut
namespace Go.Proofs.YtbgibiongnhjoaaGreat
open Go.ChangeShapes Go.WideShapes Go.ChangeAt Go.RowKit

set_option maxRecDepth 100000 in
set_option maxHeartbeats 8000000 in
theorem li_walk (v : Value) (ts : List Td) (f by' : Int) (w : World) (hn : TNodesAt w v ts) (hz : ∀ td ∈ ts, TLens td) :
    Calls Tryz.prog 5 #[.agg #[v], .int .i64 f, .int .i64 by'] w fun e w' => e = .returned (.bool true) ∧ Below w.heap.size w w' := by
  have HN := hide hn
  have HZ := hide hz
  obtain ⟨a, cap, rfl, _, _, _⟩ := hn
  clear hz
  have b0 : Hid (∀ o, Below w.heap.size w (w.alloc o)) := fun o => bel_alloc (Below.refl _ _) o
  by_cases hbig : (1048576 : Int) < (tmSize ts : Nat)
  · have HL : Hid (leftOf 1048576 (tmSize ts) = -1) := by show leftOf _ _ = _; rw [leftOf, if_pos hbig]
    clear hbig
    go_enter Tryz.func5, Tryz.ntmps5
    go_wp2_with fail
    refine (szTerm_any _ ts _ _ (HN.out.keep (b0.out _)) HZ.out (by omega) (by omega)).mono ?_
    rintro e w1 ⟨rfl, hb1⟩
    rw [HL.out]
    have hbel1 := bel_trans (b0.out _) hb1
    clear hb1
    go_wp2_with fail
    go_ret
    exact ⟨rfl, hbel1⟩
  obtain ⟨M, hM⟩ : ∃ M : Int, M = 1048576 - (tmSize ts : Nat) := ⟨_, rfl⟩
  have hM0 : 0 ≤ M := by omega
  have HL : Hid (leftOf 1048576 (tmSize ts) = M) := by show leftOf _ _ = _; rw [leftOf, if_neg hbig, hM]
  have hlen : ts.length ≤ 1048576 := Nat.le_trans (show ts.length ≤ tmSize ts by unfold tmSize; omega) (by omega)
  have HSM := hide (tsmall_of (show tmSize ts ≤ 1048576 by omega))
  have HSPL := hide (spell_of (show tmSize ts ≤ 1048576 by omega))
  have HCT : Hid (costT ts ≤ 4200000) := by show _ ≤ _; have := costT_sum ts; unfold tmSize at hbig; omega
  have dM : decide (M < 0) = false := by simp; omega
  clear hbig hM
  obtain ⟨T, hT⟩ := tree_for ts
  obtain ⟨A, hA⟩ : ∃ A, A = liftA ts T f by' := ⟨_, rfl⟩
  have HOK : Hid (AnsOk A) := by show AnsOk _; rw [hA]; exact lift_ok f by' hT
  have HSP : Hid (∀ (v : Value) (w : World), TNodesAt w v ts → Calls Tryz.prog 26 #[.agg #[v], .int .i64 f, .int .i64 by'] w fun e w' => SOut w.heap.size w' e A ∧ Below w.heap.size w w') := fun v w hv => by rw [hA]; exact specLift_any v ts T f by' w hv HZ.out (fun td h => (HSM.out td h).1) hT
  have HIM : Hid (∀ (v : Value) (w : World), TNodesAt w v ts → Calls Tryz.prog 27 #[.agg #[v], .int .i64 f, .int .i64 by'] w fun e w' => TOut w.heap.size w' e A ∧ Below w.heap.size w w') := fun v w hv => by rw [hA]; exact implLift_any v ts T f by' w hv HZ.out HSM.out HSPL.out hT
  have HCP : Hid (∀ (v : Value) (w : World), TNodesAt w v ts → Calls Tryz.prog 14 #[.agg #[v]] w fun e w' => ∃ g, e = .returned (.agg #[.slice (some ⟨g, 0, none⟩) ts.length ts.length]) ∧ TsR w.heap.size w'.heap.size w' g ts.length ts.length ts ∧ w.heap.size ≤ g ∧ Below w.heap.size w w') := fun v w hv => toTerm_own v ts w hv hlen HSM.out
  clear hA hT
  obtain ⟨r, c⟩ := A
  have hself : (c != c) = false := by simp
  go_enter Tryz.func5, Tryz.ntmps5
  go_wp2_with fail
  refine (szTerm_any _ ts _ _ (HN.out.keep (b0.out _)) HZ.out (by omega) (by omega)).mono ?_
  rintro e w1 ⟨rfl, hb1⟩
  rw [HL.out]
  have cx := keep_cell (b := w.heap.size) (o := 0) (v := .slice a ts.length cap) hb1 (by simp [go_sem])
  have HB := hide (bel_trans (b0.out _) hb1)
  clear hb1 HL
  go_wp2_with fail
  refine (HCP.out _ _ (HN.out.keep HB.out)).mono ?_
  rintro e w2 ⟨g2, rfl, hn2, hg2, hb2⟩
  have cx := keep_cell hb2 cx
  have hx0 := lt_cell cx
  have HB := hide (bel_trans HB.out hb2)
  have HN2 := hide (hn2.nodes rfl)
  clear hb2 hn2
  go_wp2_with fail
  refine (HSP.out _ _ HN2.out).mono ?_
  rintro e w3 ⟨⟨v4, rfl, ho4⟩, hb3⟩
  have cx := keep_cell hb3 cx
  have HB := hide (bel_trans HB.out hb3)
  have HA4 := hide ho4
  have o1 := hb3.size
  obtain ⟨a4, c4, rfl⟩ := ho4.form
  clear hb3 ho4 HN2 HSP
  obtain ⟨W4, hW4⟩ : ∃ W4, W4 = w3.alloc (.cells #[.slice a4 r.length c4] 28) := ⟨_, rfl⟩
  have hbW : Below w3.heap.size w3 W4 := by rw [hW4]; exact bel_alloc (Below.refl _ _) _
  have c8 : W4.cell? ⟨w3.heap.size, 0, none⟩ = some (.slice a4 r.length c4) := by rw [hW4]; simp [go_sem]
  have o2 := lt_cell c8
  have cx := keep_cell hbW cx
  have HB := hide (bel_trans HB.out hbW)
  have HA4 : Hid (FrR w2.heap.size w3.heap.size W4 (.slice a4 r.length c4) r) := HA4.out.range.same (fun b _ q => hbW.block b q)
  go_upto_region 6 with fail
  rw [← hW4]
  clear hW4 hbW
  go_wp2_with fail
  refine (HCP.out _ _ (HN.out.keep HB.out)).mono ?_
  rintro e w5 ⟨g5, rfl, hn5, hg5, hb5⟩
  have cx := keep_cell hb5 cx
  have c8 := keep_cell hb5 c8
  have HB := hide (bel_trans HB.out hb5)
  have HA4 := hide (HA4.out.same (fun b _ q => hb5.block b (by omega)))
  have o3 := hb5.size
  have HX := hide hn5
  clear hb5 hn5 hg5
  obtain ⟨W6, hW6⟩ : ∃ W6, W6 = w5.alloc (.cells #[.slice (some ⟨g5, 0, none⟩) ts.length ts.length] 28) := ⟨_, rfl⟩
  have hbW : Below w5.heap.size w5 W6 := by rw [hW6]; exact bel_alloc (Below.refl _ _) _
  have c10 : W6.cell? ⟨w5.heap.size, 0, none⟩ = some (.slice (some ⟨g5, 0, none⟩) ts.length ts.length) := by rw [hW6]; simp [go_sem]
  have o4 := lt_cell c10
  have cx := keep_cell hbW cx
  have c8 := keep_cell hbW c8
  have HB := hide (bel_trans HB.out hbW)
  have HA4 := hide (HA4.out.same (fun b _ q => hbW.block b (by omega)))
  have HX := hide (HX.out.keep hbW (Nat.le_refl _))
  go_upto_region 7 with fail
  rw [← hW6]
  clear hW6 hbW
  go_wp2_with fail
  refine (HIM.out _ _ (HX.out.nodes rfl)).mono ?_
  rintro e w7 ⟨⟨v6, rfl, ho6⟩, hb7⟩
  have o5 := hb7.size
  obtain ⟨a6, c6, rfl⟩ := ho6.form
  obtain ⟨W8, hW8⟩ : ∃ W8, W8 = w7.alloc (.cells #[.slice a6 r.length c6] 28) := ⟨_, rfl⟩
  have hbW : Below w7.heap.size w7 W8 := by rw [hW8]; exact bel_alloc (Below.refl _ _) _
  have c11 : W8.cell? ⟨w7.heap.size, 0, none⟩ = some (.slice a6 r.length c6) := by rw [hW8]; simp [go_sem]
  have o6 := lt_cell c11
  have HE : Hid (LwS w W8 [(w.heap.size, .slice a ts.length cap), (w3.heap.size, .slice a4 r.length c4), (w5.heap.size, .slice (some ⟨g5, 0, none⟩) ts.length ts.length), (w7.heap.size, .slice a6 r.length c6)] w2.heap.size w3.heap.size W6.heap.size w7.heap.size (.slice a4 r.length c4) (.slice a6 r.length c6) r r) := by
    refine ⟨bel_trans HB.out (bel_trans hb7 hbW), by omega, HA4.out.same (fun b _ q => by rw [hbW.block b (by omega), hb7.block b (by omega)]), ho6.keep hbW (Nat.le_refl _), ?_⟩
    intro p hp
    simp only [List.mem_cons, List.not_mem_nil, or_false] at hp
    rcases hp with rfl | rfl | rfl | rfl
    · exact keep_cell hbW (keep_cell hb7 cx)
    · exact keep_cell hbW (keep_cell hb7 c8)
    · exact keep_cell hbW (keep_cell hb7 c10)
    · exact c11
  have HX := hide (HX.out.keep (bel_trans hb7 hbW) (by omega))
  clear hb7 ho6 cx c8 c10 c11 HB HA4
  have cx := HE.out.box (w.heap.size, .slice a ts.length cap) (by simp)
  have c8 := HE.out.box (w3.heap.size, .slice a4 r.length c4) (by simp)
  have c10 := HE.out.box (w5.heap.size, .slice (some ⟨g5, 0, none⟩) ts.length ts.length) (by simp)
  have c11 := HE.out.box (w7.heap.size, .slice a6 r.length c6) (by simp)
  simp only at cx c8 c10 c11
  go_upto_region 8 with fail
  rw [← hW8]
  clear hW8 hbW
  go_wp2_with fail
  refine (eqTerm_any _ _ r _ HE.out.a6.nodes HE.out.a4.at).mono ?_
  rintro e w9 ⟨rfl, hb9⟩
  have o7 := hb9.size
  have HE := hide (HE.out.keep hb9)
  have HX := hide (HX.out.keep hb9 (by omega))
  have cx := keep_cell hb9 cx
  have c8 := keep_cell hb9 c8
  have c10 := keep_cell hb9 c10
  have c11 := keep_cell hb9 c11
  clear hb9
  go_wp2_with fail
  go_region_held3 (fun w' => w'.cell? ⟨w5.heap.size, 0, none⟩ = some (.slice (some ⟨g5, 0, none⟩) ts.length ts.length) ∧ w'.cell? ⟨w.heap.size, 0, none⟩ = some (.slice a ts.length cap))
    (first
      | go_keep
      | (go_split_ands; exact ⟨keep_cell hb11 (by assumption), keep_cell hb11 (by assumption)⟩)
      | (go_split_ands; exact ⟨keep_cell hb10 (by assumption), keep_cell hb10 (by assumption)⟩)
      | fail)
    (first
      | (go_at_call 14; refine (HCP.out _ _ (by exact HN.out.keep HE.out.bel.drew)).mono ?_; rintro e w10 ⟨g10, rfl, hn10, hg10, hb10⟩)
      | (go_at_call 16; refine (eqTerm_any _ _ ts _ (by exact (HX.out.nodes rfl).keep ((Below.refl w9.heap.size w9).drew.trans hb10)) (hn10.nodes rfl)).mono ?_; rintro e w11 ⟨rfl, hb11⟩)
      | fail)
  have hb9b : Below w9.heap.size w9 w11 := (Below.refl w9.heap.size w9).drew.trans (hb10.trans (hb11.mono hb10.size))
  clear hn10 hb10 hb11 hg10
  have o8 := hb9b.size
  have HE := hide (HE.out.keep hb9b)
  have HX := hide (HX.out.keep hb9b (by omega))
  have cx := keep_cell hb9b cx
  have c8 := keep_cell hb9b c8
  have c10 := keep_cell hb9b c10
  have c11 := keep_cell hb9b c11
  clear hb9b
  have HM1 := hide (markTerm_any W4.heap.size w5.heap.size g5 ts.length ts 1 w11 HX.out (by omega) HSM.out hlen (by omega) (by have := HCT.out; omega))
  rw [show ((1 : Nat) : Int) = 1 from rfl] at HM1
  obtain ⟨K1, hK1⟩ : ∃ K1, K1 = 1 + costT ts := ⟨_, rfl⟩
  rw [← hK1] at HM1
  have dK : decide ((K1 : Int) < 0) = false := by simp
  clear hK1
  go_wp2_with fail
  refine HM1.out.mono ?_
  rintro e w12 ⟨rfl, hc12⟩
  have HE : Hid (LwS w w12 _ _ _ _ _ _ _ _ _) := HE.out.chg hc12 (by omega) (by omega) (by omega) (by
    intro p hp
    simp only [List.mem_cons, List.not_mem_nil, or_false] at hp
    rcases hp with rfl | rfl | rfl | rfl <;> simp only <;> omega)
  have o9 := hc12.1.size
  clear hc12 HM1 HX cx c8 c10 c11
  have cx := HE.out.box (w.heap.size, .slice a ts.length cap) (by simp)
  have c8 := HE.out.box (w3.heap.size, .slice a4 r.length c4) (by simp)
  have c11 := HE.out.box (w7.heap.size, .slice a6 r.length c6) (by simp)
  simp only at cx c8 c11
  go_wp2_with fail
  refine (eqTerm_any _ _ r _ HE.out.a6.nodes HE.out.a4.at).mono ?_
  rintro e w13 ⟨rfl, hb13⟩
  have o10 := hb13.size
  have HE := hide (HE.out.keep hb13)
  have cx := keep_cell hb13 cx
  have c8 := keep_cell hb13 c8
  have c11 := keep_cell hb13 c11
  clear hb13
  obtain ⟨k1, k2, k3⟩ := HOK.out.small
  have HK1 : Hid (∀ td ∈ r, TSmall td) := k1
  have HM2 := hide (markTerm_V W6.heap.size w7.heap.size _ r 1 w13 HE.out.a6 (by omega) (by omega) HK1.out (by simp only at k2; omega) (by omega) (by simp only at k3; omega))
  rw [show ((1 : Nat) : Int) = 1 from rfl] at HM2
  obtain ⟨K2, hK2⟩ : ∃ K2, K2 = 1 + costT r := ⟨_, rfl⟩
  have HK2 := hide hK2
  rw [← hK2] at HM2
  have hk50 : K2 ≤ 50000000 := by simp only at k3; omega
  clear hK2 k1 k2 k3
  go_wp2_with fail
  refine HM2.out.mono ?_
  rintro e w14 ⟨rfl, hv14, hc14⟩
  have HE : Hid (LwS w w14 _ _ _ _ _ _ _ _ (markT 1 r)) := HE.out.mark hv14 hc14 (by omega) (by omega) (by
    intro p hp
    simp only [List.mem_cons, List.not_mem_nil, or_false] at hp
    rcases hp with rfl | rfl | rfl | rfl <;> simp only <;> omega)
  have o11 := hc14.1.size
  clear hv14 hc14 HM2 cx c8 c11
  have cx := HE.out.box (w.heap.size, .slice a ts.length cap) (by simp)
  have c8 := HE.out.box (w3.heap.size, .slice a4 r.length c4) (by simp)
  have c11 := HE.out.box (w7.heap.size, .slice a6 r.length c6) (by simp)
  simp only at cx c8 c11
  have HH := hide (show ∀ W, TNodesAt W (.slice a6 r.length c6) (markT 1 r) → Calls Tryz.prog 20 #[.agg #[.slice a6 r.length c6], .int .i64 1] W fun e w' => e = .returned (.int .i64 (K2 : Int)) ∧ Below W.heap.size W w' from fun W hW => by
    have := heldTerm_any _ r 1 W hW HK1.out (by omega) (by have := HK2.out; omega)
    rw [← HK2.out] at this
    exact this)
  have hKK : ((K2 : Int) != (K2 : Int)) = false := by simp
  have dK2 : decide ((K2 : Int) < 0) = false := by simp
  go_wp2_with fail
  refine (HH.out _ HE.out.a6.nodes).mono ?_
  rintro e w15 ⟨rfl, hb15⟩
  have HE := hide (HE.out.keep hb15)
  have cx := keep_cell hb15 cx
  have c8 := keep_cell hb15 c8
  have c11 := keep_cell hb15 c11
  have o12 := hb15.size
  clear hb15
  go_wp2_with fail
  refine (HCP.out _ _ (HN.out.keep HE.out.bel)).mono ?_
  rintro e w16 ⟨g16, rfl, hn16, hg16, hb16⟩
  have HE := hide (HE.out.keep hb16)
  have c8 := keep_cell hb16 c8
  have c11 := keep_cell hb16 c11
  have HN16 := hide (hn16.nodes rfl)
  clear hb16 hn16 cx
  go_wp2_with fail
  refine (HIM.out _ _ HN16.out).mono ?_
  rintro e w17 ⟨⟨v17, rfl, ho17⟩, hb17⟩
  obtain ⟨a17, c17, rfl⟩ := ho17.form
  obtain ⟨W18, hW18⟩ : ∃ W18, W18 = w17.alloc (.cells #[.slice a17 r.length c17] 28) := ⟨_, rfl⟩
  have hbW : Below w17.heap.size w17 W18 := by rw [hW18]; exact bel_alloc (Below.refl _ _) _
  have HE := hide ((HE.out.keep hb17).keep hbW)
  have c8 := keep_cell hbW (keep_cell hb17 c8)
  have c11 := keep_cell hbW (keep_cell hb17 c11)
  have c16 : W18.cell? ⟨w17.heap.size, 0, none⟩ = some (.slice a17 r.length c17) := by rw [hW18]; simp [go_sem]
  have o13 := lt_cell c16
  have HI17 := hide (ho17.nodes.keep hbW)
  clear hb17 ho17 HN16
  go_upto_region 25 with fail
  rw [← hW18]
  clear hW18 hbW
  go_wp2_with fail
  refine (eqTerm_any _ _ r _ HI17.out HE.out.a4.at).mono ?_
  rintro e w19 ⟨rfl, hb19⟩
  have HE := hide (HE.out.keep hb19)
  have c11 := keep_cell hb19 c11
  clear hb19 c8 c16 HI17
  go_wp2_with fail
  refine (HH.out _ HE.out.a6.nodes).mono ?_
  rintro e w20 ⟨rfl, hb20⟩
  have HE := hide (HE.out.keep hb20)
  clear hb20 c11
  go_wp2_with fail
  go_ret
  exact ⟨rfl, HE.out.bel⟩
end Go.Proofs.YtbgibiongnhjoaaGreat

/- How a level that comes in as an argument is read: whatever was read as one lies in memory as a row of nodes. -/
namespace Go.Proofs.YtbgibiongnhjoaaGreat
open Go.ChangeShapes Go.WideShapes Go.ChangeAt Go.RowKit Go.Deep

theorem Tryz.cells104 : Tryz.prog.cellsOf 104 = 1 := by kernel_rfl
theorem Tryz.cells102 : Tryz.prog.cellsOf 102 = 1 := by kernel_rfl
theorem Tryz.cells207 : Tryz.prog.cellsOf 207 = 3 := by kernel_rfl
theorem Tryz.cells3 : Tryz.prog.cellsOf 3 = 1 := by kernel_rfl
theorem Tryz.cells9 : Tryz.prog.cellsOf 9 = 1 := by kernel_rfl
theorem Tryz.cells65 : Tryz.prog.cellsOf 65 = 1 := by kernel_rfl

section
variable {H : Type} {enc : TypeId × Value → H} {W : World} {base : Nat} {held : Bool}

theorem addr_none {w : World} {a : Addr} {v : Value} (h : w.cell? (a.add 0) = some v) : ∃ b off, a = ⟨b, off, none⟩ := by
  obtain ⟨b, off, spot⟩ := a
  have hs := World.cell?_spot h
  simp [Addr.add] at hs
  exact ⟨b, off, by rw [hs]⟩
theorem list3 {α : Type} {l : List α} (h : l.length = 3) : ∃ a b c, l = [a, b, c] := by
  match l, h with
  | [a, b, c], _ => exact ⟨a, b, c, rfl⟩

theorem open_kids {fuel : Nat} {kv : Value} {x : DataW H × List MemPlace} (h : DataW.trod enc Tryz.prog W base (fun _ => true) held fuel 65 [kv] = some x) : ∃ ks, IntsAt W kv ks := by
  rcases open_ints Tryz.underlying65 Tryz.underlying3 Tryz.cells3 h with ⟨hcs, _⟩ | ⟨a, len, cap, zs, hcs, _, hl, hm, hz, _, hcell, _⟩
  · simp at hcs
    exact ⟨[], none, 0, hcs, by simp, by unfold maxLen; omega, fun h => by simp at h⟩
  · simp at hcs hz
    have hlen : (zs.take len).length = len := by simp; omega
    refine ⟨zs.take len, some a, cap, by rw [hlen]; exact hcs, by omega, hm, fun h0 => ?_⟩
    have h1 := hcell 0 (by omega)
    obtain ⟨b, off, rfl⟩ := addr_none h1
    refine ⟨b, off, rfl, fun j hj => ?_⟩
    have h2 := hcell j (by omega)
    rw [Addr.add_lit] at h2
    rw [h2]
    simp [List.getD, show j < zs.length from by omega]

theorem open_nodes {fuel : Nat} {v : Value} {x : DataW H × List MemPlace} (h : DataW.trod enc Tryz.prog W base (fun _ => true) held fuel 102 [v] = some x) : ∃ ns, NodesAt W v ns ∧ ∀ nd ∈ ns, nd.s.size ≤ maxLen := by
  rcases open_slice Tryz.underlying102 h with ⟨hcs, _⟩ | ⟨a, len, cap, m, n, D, Pl, hcs, _, hl, hm, hmm, _, hel⟩
  · simp at hcs
    exact ⟨[], ⟨none, 0, hcs, by simp, by unfold maxLen; omega, fun h => by simp at h⟩, by simp⟩
  · simp at hcs hmm
    subst hmm
    rw [Tryz.cells207] at hel
    have each : ∀ i, i < len → ∃ nd : Nd, nd.s.size ≤ maxLen ∧ W.cell? (a.add (i * 3)) = some (.int .i64 nd.k) ∧ W.cell? ((a.add (i * 3)).add 1) = some (.string nd.s) ∧ ∃ kv, W.cell? ((a.add (i * 3)).add 2) = some kv ∧ IntsAt W kv nd.kids := by
      intro i hi
      obtain ⟨cs, hc1, hc2⟩ := hel i (by omega)
      obtain ⟨hb, hlen, hcell⟩ := World.cells?_some hc1
      obtain ⟨y0, y1, y2, n', _, _, t0, t1, t2⟩ := trod_struct3 Tryz.underlying207 hc2
      obtain ⟨c0, c1, c2, rfl⟩ := list3 hlen
      simp [Tryz.cells3, Tryz.cells9, Tryz.cells65] at t0 t1 t2
      obtain ⟨k, e0, _, _⟩ := DataW.trod_int Tryz.underlying3 t0
      obtain ⟨s, e1, _, hs⟩ := DataW.trod_string Tryz.underlying9 t1
      obtain ⟨ks, hk⟩ := open_kids t2
      simp at e0 e1
      subst e0 e1
      refine ⟨⟨k, s, ks⟩, hs, ?_, ?_, c2, ?_, hk⟩
      · have := hcell 0 (by omega); simpa [Addr.add] using this
      · have := hcell 1 (by omega); simpa using this
      · have := hcell 2 (by omega); simpa using this
    haveI : Inhabited Nd := ⟨⟨0, ⟨#[]⟩, []⟩⟩
    obtain ⟨f, hf⟩ := choose_lt (α := Nd) (p := fun i nd => nd.s.size ≤ maxLen ∧ W.cell? (a.add (i * 3)) = some (.int .i64 nd.k) ∧ W.cell? ((a.add (i * 3)).add 1) = some (.string nd.s) ∧ ∃ kv, W.cell? ((a.add (i * 3)).add 2) = some kv ∧ IntsAt W kv nd.kids) each
    refine ⟨(List.range len).map f, ⟨some a, _, by simpa using hcs, by simpa using hl, hm, fun h0 => ?_⟩, ?_⟩
    · have h0' : 0 < len := by simpa using h0
      obtain ⟨_, g1, _⟩ := hf 0 h0'
      rw [Nat.zero_mul] at g1
      obtain ⟨b, off, rfl⟩ := addr_none g1
      refine ⟨b, off, rfl, fun i hi => ?_⟩
      have hi' : i < len := by simpa using hi
      obtain ⟨_, q1, q2, kv, q3, q4⟩ := hf i hi'
      simp only [Addr.add_lit] at q1 q2 q3
      simp only [List.getElem_map, List.getElem_range]
      exact ⟨q1, q2, kv, q3, q4⟩
    · intro nd hnd
      simp at hnd
      obtain ⟨i, hi, rfl⟩ := hnd
      exact (hf i hi).1
theorem array1 {α : Type} {a : Array α} (h : a.size = 1) : ∃ x, a = #[x] := by
  obtain ⟨l⟩ := a
  match l, h with
  | [x], _ => exact ⟨x, rfl⟩
set_option maxRecDepth 100000 in
theorem open_level {r : Reach} {b0 : Nat} {v : Value} {d : DataW H} {p : List MemPlace} (hv : Value.okWide Tryz.prog W r b0 104 v) (h : DataW.Trod enc Tryz.prog W base (fun _ => true) held 104 v d p) :
    ∃ c, v = .agg #[c] ∧ ∃ ns, NodesAt W c ns ∧ ∀ nd ∈ ns, nd.s.size ≤ maxLen := by
  obtain ⟨cs, rfl, hsz⟩ := okWide_struct Tryz.underlying104 hv
  rw [Tryz.cells104] at hsz
  obtain ⟨c, rfl⟩ := array1 hsz
  obtain ⟨fuel, hf⟩ := h
  obtain ⟨y0, n, _, _, ht⟩ := trod_struct1 Tryz.underlying104 hf
  simp [Value.cells, Tryz.cells102] at ht
  exact ⟨c, rfl, open_nodes ht⟩
end
end Go.Proofs.YtbgibiongnhjoaaGreat

/- How a term that comes in as an argument is read: whatever was read as one lies in memory as a row of nodes. -/
namespace Go.Proofs.YtbgibiongnhjoaaGreat
open Go.ChangeShapes Go.WideShapes Go.ChangeAt Go.RowKit Go.Deep

theorem Tryz.cells24 : Tryz.prog.cellsOf 24 = 1 := by kernel_rfl
theorem Tryz.cells22 : Tryz.prog.cellsOf 22 = 1 := by kernel_rfl
theorem Tryz.cells137 : Tryz.prog.cellsOf 137 = 6 := by kernel_rfl
theorem Tryz.cells49 : Tryz.prog.cellsOf 49 = 1 := by kernel_rfl

section
variable {H : Type} {enc : TypeId × Value → H} {W : World} {base : Nat} {held : Bool}

theorem list6 {α : Type} {l : List α} (h : l.length = 6) : ∃ a b c d e f, l = [a, b, c, d, e, f] := by
  match l, h with
  | [a, b, c, d, e, f], _ => exact ⟨a, b, c, d, e, f, rfl⟩
theorem trod_struct6 {P : Program} {spare : Nat → Bool} {t : TypeId} {f0 f1 f2 f3 f4 f5 : Field} {fuel : Nat} {cs : List Value} {x : DataW H × List MemPlace} (ht : P.underlying t = some (.struct #[f0, f1, f2, f3, f4, f5])) (h : DataW.trod enc P W base spare held fuel t cs = some x) :
    ∃ y0 y1 y2 y3 y4 y5 n, cs.length = P.cellsOf t ∧ DataW.trod enc P W base spare held n f0.type ((cs.drop f0.offset).take (P.cellsOf f0.type)) = some y0 ∧
      DataW.trod enc P W base spare held n f1.type ((cs.drop f1.offset).take (P.cellsOf f1.type)) = some y1 ∧ DataW.trod enc P W base spare held n f2.type ((cs.drop f2.offset).take (P.cellsOf f2.type)) = some y2 ∧
      DataW.trod enc P W base spare held n f3.type ((cs.drop f3.offset).take (P.cellsOf f3.type)) = some y3 ∧ DataW.trod enc P W base spare held n f4.type ((cs.drop f4.offset).take (P.cellsOf f4.type)) = some y4 ∧
      DataW.trod enc P W base spare held n f5.type ((cs.drop f5.offset).take (P.cellsOf f5.type)) = some y5 := by
  obtain ⟨xs, n, _, rfl, hl, hlen, hf⟩ := DataW.trod_struct ht h
  match xs, hlen with
  | [y0, y1, y2, y3, y4, y5], _ => exact ⟨y0, y1, y2, y3, y4, y5, n, hl, by simpa using hf 0 f0 rfl, by simpa using hf 1 f1 rfl, by simpa using hf 2 f2 rfl, by simpa using hf 3 f3 rfl, by simpa using hf 4 f4 rfl, by simpa using hf 5 f5 rfl⟩

set_option maxRecDepth 20000 in
theorem open_levs {fuel : Nat} {v : Value} {x : DataW H × List MemPlace} (h : DataW.trod enc Tryz.prog W base (fun _ => true) held fuel 49 [v] = some x) : ∃ ls, LevsAt W v ls ∧ ∀ l ∈ ls, LvLens l := by
  rcases open_slice Tryz.underlying49 h with ⟨hcs, _⟩ | ⟨a, len, cap, m, n, D, Pl, hcs, _, hl, hm, hmm, _, hel⟩
  · simp at hcs
    exact ⟨[], ⟨none, 0, hcs, by simp, by unfold maxLen; omega, fun h => by simp at h⟩, by simp⟩
  · simp at hcs hmm
    subst hmm
    rw [Tryz.cells104] at hel
    have each : ∀ i, i < len → ∃ l : List Nd, LvLens l ∧ ∃ u, W.cell? (a.add (i * 1)) = some u ∧ NodesAt W u l := by
      intro i hi
      obtain ⟨cs, hc1, hc2⟩ := hel i (by omega)
      obtain ⟨hb, hlen, hcell⟩ := World.cells?_some hc1
      obtain ⟨y0, n', _, _, t0⟩ := trod_struct1 Tryz.underlying104 hc2
      obtain ⟨c0, rfl⟩ : ∃ c0, cs = [c0] := by
        match cs, hlen with
        | [c], _ => exact ⟨c, rfl⟩
      simp [Tryz.cells102] at t0
      obtain ⟨ns, hns, hsz⟩ := open_nodes t0
      refine ⟨ns, hsz, c0, ?_, hns⟩
      have := hcell 0 (by omega); simpa [Addr.add] using this
    haveI : Inhabited (List Nd) := ⟨[]⟩
    obtain ⟨f, hf⟩ := choose_lt (α := List Nd) (p := fun i l => LvLens l ∧ ∃ u, W.cell? (a.add (i * 1)) = some u ∧ NodesAt W u l) each
    refine ⟨(List.range len).map f, ⟨some a, _, by simpa using hcs, by simpa using hl, hm, fun h0 => ?_⟩, ?_⟩
    · have h0' : 0 < len := by simpa using h0
      obtain ⟨_, u0, g1, _⟩ := hf 0 h0'
      rw [Nat.zero_mul] at g1
      obtain ⟨b, off, rfl⟩ := addr_none g1
      refine ⟨b, off, rfl, fun i hi => ?_⟩
      have hi' : i < len := by simpa using hi
      obtain ⟨_, u, q1, q2⟩ := hf i hi'
      simp only [Addr.add_lit, Nat.mul_one] at q1
      simp only [List.getElem_map, List.getElem_range]
      exact ⟨u, q1, q2⟩
    · intro l hl
      simp at hl
      obtain ⟨i, hi, rfl⟩ := hl
      exact (hf i hi).1

set_option maxRecDepth 20000 in
theorem open_tnodes {fuel : Nat} {v : Value} {x : DataW H × List MemPlace} (h : DataW.trod enc Tryz.prog W base (fun _ => true) held fuel 22 [v] = some x) : ∃ ts, TNodesAt W v ts ∧ ∀ td ∈ ts, TLens td := by
  rcases open_slice Tryz.underlying22 h with ⟨hcs, _⟩ | ⟨a, len, cap, m, n, D, Pl, hcs, _, hl, hm, hmm, _, hel⟩
  · simp at hcs
    exact ⟨[], ⟨none, 0, hcs, by simp, by unfold maxLen; omega, fun h => by simp at h⟩, by simp⟩
  · simp at hcs hmm
    subst hmm
    rw [Tryz.cells137] at hel
    have each : ∀ i, i < len → ∃ td : Td, TLens td ∧ W.cell? (a.add (i * 6)) = some (.int .i64 td.k) ∧ W.cell? ((a.add (i * 6)).add 1) = some (.int .i64 td.n) ∧ W.cell? ((a.add (i * 6)).add 2) = some (.int .i64 td.m) ∧ W.cell? ((a.add (i * 6)).add 3) = some (.string td.s) ∧ ∃ lv, W.cell? ((a.add (i * 6)).add 4) = some lv ∧ LevsAt W lv td.lv ∧ ∃ kv, W.cell? ((a.add (i * 6)).add 5) = some kv ∧ IntsAt W kv td.kids := by
      intro i hi
      obtain ⟨cs, hc1, hc2⟩ := hel i (by omega)
      obtain ⟨hb, hlen, hcell⟩ := World.cells?_some hc1
      obtain ⟨y0, y1, y2, y3, y4, y5, n', _, t0, t1, t2, t3, t4, t5⟩ := trod_struct6 Tryz.underlying137 hc2
      obtain ⟨c0, c1, c2, c3, c4, c5, rfl⟩ := list6 hlen
      simp [Tryz.cells3, Tryz.cells9, Tryz.cells65, Tryz.cells49] at t0 t1 t2 t3 t4 t5
      obtain ⟨k, e0, _, _⟩ := DataW.trod_int Tryz.underlying3 t0
      obtain ⟨n1, e1, _, _⟩ := DataW.trod_int Tryz.underlying3 t1
      obtain ⟨m1, e2, _, _⟩ := DataW.trod_int Tryz.underlying3 t2
      obtain ⟨s, e3, _, hs⟩ := DataW.trod_string Tryz.underlying9 t3
      obtain ⟨ls, hls, hlz⟩ := open_levs t4
      obtain ⟨ks, hk⟩ := open_kids t5
      simp at e0 e1 e2 e3
      subst e0 e1 e2 e3
      refine ⟨⟨k, n1, m1, s, ls, ks⟩, ⟨hs, hlz⟩, ?_, ?_, ?_, ?_, c4, ?_, hls, c5, ?_, hk⟩
      · have := hcell 0 (by omega); simpa [Addr.add] using this
      · have := hcell 1 (by omega); simpa using this
      · have := hcell 2 (by omega); simpa using this
      · have := hcell 3 (by omega); simpa using this
      · have := hcell 4 (by omega); simpa using this
      · have := hcell 5 (by omega); simpa using this
    haveI : Inhabited Td := ⟨⟨0, 0, 0, ⟨#[]⟩, [], []⟩⟩
    obtain ⟨f, hf⟩ := choose_lt (α := Td) (p := fun i td => TLens td ∧ W.cell? (a.add (i * 6)) = some (.int .i64 td.k) ∧ W.cell? ((a.add (i * 6)).add 1) = some (.int .i64 td.n) ∧ W.cell? ((a.add (i * 6)).add 2) = some (.int .i64 td.m) ∧ W.cell? ((a.add (i * 6)).add 3) = some (.string td.s) ∧ ∃ lv, W.cell? ((a.add (i * 6)).add 4) = some lv ∧ LevsAt W lv td.lv ∧ ∃ kv, W.cell? ((a.add (i * 6)).add 5) = some kv ∧ IntsAt W kv td.kids) each
    refine ⟨(List.range len).map f, ⟨some a, _, by simpa using hcs, by simpa using hl, hm, fun h0 => ?_⟩, ?_⟩
    · have h0' : 0 < len := by simpa using h0
      obtain ⟨_, g1, _⟩ := hf 0 h0'
      rw [Nat.zero_mul] at g1
      obtain ⟨b, off, rfl⟩ := addr_none g1
      refine ⟨b, off, rfl, fun i hi => ?_⟩
      have hi' : i < len := by simpa using hi
      obtain ⟨_, q1, q2, q3, q4, lv, q5, q6, kv, q7, q8⟩ := hf i hi'
      simp only [Addr.add_lit] at q1 q2 q3 q4 q5 q7
      simp only [List.getElem_map, List.getElem_range]
      exact ⟨q1, q2, q3, q4, lv, q5, q6, kv, q7, q8⟩
    · intro td hnd
      simp at hnd
      obtain ⟨i, hi, rfl⟩ := hnd
      exact (hf i hi).1
set_option maxRecDepth 100000 in
theorem open_term {r : Reach} {b0 : Nat} {v : Value} {d : DataW H} {p : List MemPlace} (hv : Value.okWide Tryz.prog W r b0 24 v) (h : DataW.Trod enc Tryz.prog W base (fun _ => true) held 24 v d p) :
    ∃ c, v = .agg #[c] ∧ ∃ ts, TNodesAt W c ts ∧ ∀ td ∈ ts, TLens td := by
  obtain ⟨cs, rfl, hsz⟩ := okWide_struct Tryz.underlying24 hv
  rw [Tryz.cells24] at hsz
  obtain ⟨c, rfl⟩ := array1 hsz
  obtain ⟨fuel, hf⟩ := h
  obtain ⟨y0, n, _, _, ht⟩ := trod_struct1 Tryz.underlying24 hf
  simp [Value.cells, Tryz.cells22] at ht
  exact ⟨c, rfl, open_tnodes ht⟩
end
end Go.Proofs.YtbgibiongnhjoaaGreat
