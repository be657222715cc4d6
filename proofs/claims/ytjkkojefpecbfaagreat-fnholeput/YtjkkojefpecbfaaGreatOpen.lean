/- What the specification's Put answers. -/
import Derived.Test.YtjkkojefpecbfaaGreatDrA
import Derived.Test.YtjkkojefpecbfaaGreatApI
import Derived.Test.YtjkkojefpecbfaaGreatPuD
import Derived.Test.YtjkkojefpecbfaaGreatDrY
import Derived.Test.YtjkkojefpecbfaaGreatApS
import Derived.Test.YtjkkojefpecbfaaGreatSmall
import Derived.Deep.Slices
import Derived.Deep.Strs
import Derived.Lib.SmallJoins
namespace Go.Proofs.YtjkkojefpecbfaaGreat
open Go.ChangeShapes Go.WideShapes Go.ChangeAt Go.RowKit

theorem var_leaf' : VarOk leafP := fun _ h => by omega
set_option maxRecDepth 20000 in
set_option maxHeartbeats 8000000 in
theorem specPut_any (vb va : Value) (bs aa : List Td) (TB TA : Tt) (w : World) (hnb : TNodesAt w vb bs) (hna : TNodesAt w va aa) (hzb : ∀ td ∈ bs, TLens td) (hza : ∀ td ∈ aa, TLens td) (hlb : ∀ td ∈ bs, td.lv.length ≤ 1048576) (hla : ∀ td ∈ aa, td.lv.length ≤ 1048576) (hTB : TreeFor bs TB) (hTA : TreeFor aa TA) :
    Calls Tryz.prog 28 #[.agg #[vb], .agg #[va]] w fun e w' => SOut w.heap.size w' e (putA bs aa TB TA) ∧ Below w.heap.size w w' := by
  obtain ⟨A, hA⟩ : ∃ A, A = putA bs aa TB TA := ⟨_, rfl⟩
  rw [← hA]
  have HAA := hide hA
  clear hA
  obtain ⟨W, hW⟩ : ∃ W, W = ((w.alloc (.cells #[vb] 28)).alloc (.cells #[va] 28)).alloc (.cells #[.slice none 0 0] 28) := ⟨_, rfl⟩
  have hbW : Below w.heap.size w W := by rw [hW]; exact bel_alloc (bel_alloc (bel_alloc (Below.refl w.heap.size w) _) _) _
  have HT := hide (l3TreeF_any vb bs W (hnb.keep hbW) hzb hlb)
  have HTA2 := hide (fun (w3 : World) (h : Below W.heap.size W w3) => l3TreeF_any va aa w3 (hna.keep (bel_trans hbW h)) hza hla)
  have HBW := hide hbW
  have HTB := hide hTB
  have HTA := hide hTA
  obtain ⟨b1, capb, rfl, _, _, _⟩ := hnb
  obtain ⟨a1, capa, rfl, _, _, _⟩ := hna
  have c0 : W.cell? ⟨w.heap.size, 0, none⟩ = some (.slice b1 bs.length capb) := by rw [hW]; simp [go_sem]
  have c1 : W.cell? ⟨w.heap.size + 1, 0, none⟩ = some (.slice a1 aa.length capa) := by rw [hW]; simp [go_sem]
  have HR : Hid (W.heap[w.heap.size + 1 + 1]? = some (.cells #[.slice none 0 0] 28 (0, 0))) := by show _ = _; rw [hW]; exact heap_alloc_at _ _ (by simp)
  have l0 := lt_cell c0
  have l1 := lt_cell c1
  clear hzb hza hlb hla hbW hTB hTA
  go_enter Tryz.func28, Tryz.ntmps28
  go_upto_region 1 with fail
  rw [← hW]
  clear hW
  go_wp2_with fail
  refine HT.out.mono ?_
  rintro e w3 ⟨he, hb3⟩
  have hrl : w.heap.size + 1 + 1 < W.heap.size := (Array.getElem?_eq_some_iff.1 HR.out).1
  have hWs := HBW.out.size
  have HB3 := hide hb3
  have HCA := hide (HTA2.out w3 hb3)
  have c1 := keep_cell hb3 c1
  have l1 := lt_cell c1
  have HBAD : Hid (∀ w' w4 : World, Below W.heap.size W w4 → w' = w4.setCell ⟨w.heap.size + 1 + 1, 0, none⟩ (.slice none 0 0) → SOut w.heap.size w' (.returned (.tuple #[.agg #[.slice none 0 0], .int .i64 1])) ([], 1) ∧ Below w.heap.size w w') := fun w' w4 h4 hw' => by
    subst hw'
    exact ⟨⟨_, rfl, frt_nil _ _⟩, (bel_trans HBW.out h4).setCell (p := ⟨_, _, _⟩) (by show _ ≤ w.heap.size + 1 + 1; omega) _⟩
  have HRW : Hid (∀ w4 : World, Below W.heap.size W w4 → w4.heap[w.heap.size + 1 + 1]? = some (.cells #[.slice none 0 0] 28 (0, 0))) := fun w4 h4 => by rw [h4.block _ hrl]; exact HR.out
  clear hb3 c0 l0 HT HTA2
  rcases he with ⟨htb, rfl⟩ | ⟨htb, hkb, ptb, Qb, rfl, hfb, _⟩
  · have HE : Hid (A = ([], 1)) := by show _ = _; rw [HAA.out]; unfold putA; rw [if_neg (by simp [htb])]
    clear htb
    go_wp2_with fail
    refine HCA.out.mono ?_
    rintro e w4 ⟨he4, hb4⟩
    have HB4 := hide (bel_trans HB3.out hb4)
    have hr4 := HRW.out w4 HB4.out
    have c4 : w4.cell? ⟨w.heap.size + 1 + 1, 0, none⟩ = some (.slice none 0 0) := by rw [Lib.cell_of_heap hr4]; rfl
    have f4 : w4.frozen? ⟨w.heap.size + 1 + 1, 0, none⟩ = false := Lib.frozen_of_heap hr4 0
    have l4 := lt_cell c4
    have HN := hide (tnone_none w4)
    clear hb4 HCA hr4
    rcases he4 with ⟨hta, rfl⟩ | ⟨hta, hka, pta, Qa, rfl, hfa, _⟩
    · clear hta
      go_wp2_with (go_at_call 48; refine HN.out.mono ?_; rintro e w5 ⟨rfl, hw⟩; have hw := hw.symm; subst hw)
      exact bodyPost_ret (v := .tuple #[.agg #[.slice none 0 0], .int .i64 1]) (by simp [results, Tryz.results28, go_sem, c4]) rfl (by rw [HE.out]; exact HBAD.out _ _ HB4.out rfl)
    · clear hta hka hfa
      go_wp2_with (go_at_call 48; refine HN.out.mono ?_; rintro e w5 ⟨rfl, hw⟩; have hw := hw.symm; subst hw)
      exact bodyPost_ret (v := .tuple #[.agg #[.slice none 0 0], .int .i64 1]) (by simp [results, Tryz.results28, go_sem, c4]) rfl (by rw [HE.out]; exact HBAD.out _ _ HB4.out rfl)
  · obtain ⟨hspb, hcb⟩ := tree_root htb hkb hfb HTB.out
    have HPB := hide (HTB.out htb).2
    generalize ptb (bs.length - 1) = rb at *
    have HSB := hide hspb
    clear hkb hfb hspb
    go_wp2_with fail
    refine HCA.out.mono ?_
    rintro e w4 ⟨he4, hb4⟩
    have HSB4 := hide (HSB.out.keep hb4)
    have HB4 := hide (bel_trans HB3.out hb4)
    have hr4 := HRW.out w4 HB4.out
    have c4 : w4.cell? ⟨w.heap.size + 1 + 1, 0, none⟩ = some (.slice none 0 0) := by rw [Lib.cell_of_heap hr4]; rfl
    have f4 : w4.frozen? ⟨w.heap.size + 1 + 1, 0, none⟩ = false := Lib.frozen_of_heap hr4 0
    have l4 := lt_cell c4
    have HN1 := hide (tnone_some ⟨rb, 0, none⟩ w4)
    have h34 := hb4.size
    clear hb4 HCA hr4 HSB
    rcases he4 with ⟨hta, rfl⟩ | ⟨hta, hka, pta, Qa, rfl, hfa, _⟩
    · have HE : Hid (A = ([], 1)) := by show _ = _; rw [HAA.out]; unfold putA; rw [if_neg (by simp [hta])]
      have HN := hide (tnone_none w4)
      clear hta
      go_wp2_with (go_at_call 48; first | (refine HN.out.mono ?_; rintro e w5 ⟨rfl, hw⟩; have hw := hw.symm; subst hw) | (refine HN1.out.mono ?_; rintro e w5 ⟨rfl, hw⟩; have hw := hw.symm; subst hw))
      exact bodyPost_ret (v := .tuple #[.agg #[.slice none 0 0], .int .i64 1]) (by simp [results, Tryz.results28, go_sem, c4]) rfl (by rw [HE.out]; exact HBAD.out _ _ HB4.out rfl)
    · obtain ⟨hspa, hca⟩ := tree_root hta hka hfa HTA.out
      have hPA := (HTA.out hta).2
      generalize pta (aa.length - 1) = ra at *
      have HN2 := hide (tnone_some ⟨ra, 0, none⟩ w4)
      have HE : Hid (A = ansT (fitT (putR TA TB 0))) := by show _ = _; rw [HAA.out]; unfold putA; rw [if_pos ⟨htb, hta⟩]
      have HL := hide (l3Put_any TA ra hPA hca w4.heap.size TB rb w4 (HSB4.out.weak (fun b _ (hb : b < w3.heap.size) => by show b < _; omega)) hspa (Nat.le_refl _) HPB.out hcb)
      have HAN := hide (fun (p' : Nat) (w' : World) (Q' : Nat → Prop) (h : SpG Q' w' (putR TA TB 0) p') => l3Answer_any Q' (putR TA TB 0) p' w' h (put_all var_leaf' TA (all_mono node_leaf hPA) TB 0 (all_mono node_leaf HPB.out)) (put_all var_lev' TA (all_mono node_lev hPA) TB 0 (all_mono node_lev HPB.out)))
      clear hta hka hfa htb hspa hPA HSB4 HPB HAA
      go_wp2_with (first
        | (go_at_call 48; first | (refine HN1.out.mono ?_; rintro e w5 ⟨rfl, hw⟩; have hw := hw.symm; subst hw) | (refine HN2.out.mono ?_; rintro e w5 ⟨rfl, hw⟩; have hw := hw.symm; subst hw))
        | fail)
      refine HL.out.mono ?_
      rintro e w5 ⟨p5, rfl, hs5, hb5⟩
      have HAN5 := hide (HAN.out p5 w5 _ hs5)
      have HB5 := hide (bel_trans HB4.out hb5)
      clear hs5 hb5 c4 f4 l4 HL HAN
      unfold ptrV
      go_wp2_with fail
      refine HAN5.out.mono ?_
      rintro e w6 ⟨⟨v6, rfl, hv6⟩, hb6⟩
      obtain ⟨va, vc, rfl⟩ := hv6.form
      have HB6 := hide (bel_trans HB5.out hb6)
      have hr6 := HRW.out w6 HB6.out
      have c6 : w6.cell? ⟨w.heap.size + 1 + 1, 0, none⟩ = some (.slice none 0 0) := by rw [Lib.cell_of_heap hr6]; rfl
      have f6 : w6.frozen? ⟨w.heap.size + 1 + 1, 0, none⟩ = false := Lib.frozen_of_heap hr6 0
      have l6 := lt_cell c6
      have HV6 := hide hv6
      have hw5 : W.heap.size ≤ w5.heap.size := HB5.out.size
      generalize ansT (fitT (putR TA TB 0)) = rr at *
      clear hv6 hb6 HAN5 hr6
      go_wp2_with fail
      refine bodyPost_ret (v := .tuple #[.agg #[.slice va rr.1.length vc], .int .i64 rr.2]) (by simp [results, Tryz.results28, go_sem, c6]) rfl ⟨⟨_, by rw [HE.out], ?_⟩, ?_⟩
      · rw [HE.out]
        exact HV6.out.low (by omega) (p := ⟨_, _, _⟩) (by show w.heap.size + 1 + 1 < _; omega) _
      · exact (bel_trans HBW.out HB6.out).setCell (p := ⟨_, _, _⟩) (by show _ ≤ w.heap.size + 1 + 1; omega) _
end Go.Proofs.YtjkkojefpecbfaaGreat

/- FnHolePut's walk. -/
namespace Go.Proofs.YtjkkojefpecbfaaGreat
open Go.ChangeShapes Go.WideShapes Go.ChangeAt Go.RowKit

theorem hole_at {w : World} {b : Nat} (h : w.heap[b]? = some (.cells #[.int .i64 9, .int .i64 77, .int .i64 0, .string ⟨#[]⟩, .slice none 0 0, .slice none 0 0] 67 (0, 0))) : TNodesAt w (.slice (some ⟨b, 0, none⟩) 1 1) hole77 := by
  refine ⟨some ⟨b, 0, none⟩, 1, rfl, Nat.le_refl _, by unfold maxLen; omega, fun _ => ⟨b, 0, rfl, fun i hi => ?_⟩⟩
  have e : i = 0 := by simp [hole77] at hi; omega
  subst e
  refine ⟨?_, ?_, ?_, ?_, .slice none 0 0, ?_, ⟨none, 0, rfl, Nat.le_refl _, by unfold maxLen; omega, fun q => by simp [hole77] at q⟩, .slice none 0 0, ?_, ⟨none, 0, rfl, Nat.le_refl _, by unfold maxLen; omega, fun q => by simp [hole77] at q⟩⟩ <;> (rw [Lib.cell_of_heap h]; rfl)
theorem hole77_sz : ∀ td ∈ hole77, SzT td := szt_flat (T := holeT 77) ⟨by show (⟨#[]⟩ : ByteArray).size ≤ 1000; decide, by show ([] : List (List Nd)).length ≤ 3; decide, fun l hl => by simp at hl, fun l hl => by simp at hl⟩
set_option maxRecDepth 20000 in
set_option maxHeartbeats 16000000 in
theorem fnHolePut_walk (a : Option Addr) (bs : List UInt8) (cap : Nat) (w : World) (h : CodeAt w a bs) (hn : bs.length ≤ cap) (hc : cap ≤ maxLen) :
    Calls Tryz.prog 11 #[.slice a bs.length cap] w fun e w' => e = .returned (.bool true) ∧ Below w.heap.size w w' := by
  obtain ⟨ρ, hρ⟩ : ∃ ρ : Pl, ρ = ⟨bs.take 1000, 0⟩ := ⟨_, rfl⟩
  have HDR : Hid (Calls Tryz.prog 44 #[.slice a bs.length cap] w fun e w' => ∃ v1 v2, e = .returned (.tuple #[.agg #[v1], .agg #[v2]]) ∧ FrT w.heap.size w' v1 (dp1 ρ) ∧ FrT w.heap.size w' v2 (dp2 ρ) ∧ Below w.heap.size w w' ∧ LvQ (dp1 ρ) ∧ LvQ (dp2 ρ)) := by show Calls _ _ _ _ _; rw [hρ]; exact drawPut_any a bs cap w h hn hc
  obtain ⟨T, hT⟩ := tree_for (dp1 ρ)
  obtain ⟨TA, hTA⟩ := tree_for (dp2 ρ)
  have HT := hide hT
  have HTA := hide hTA
  clear h hρ hT hTA
  go_enter Tryz.func11, Tryz.ntmps11
  by_cases hbig : 1048576 < bs.length
  · have d1 : decide ((1048576 : Int) < (bs.length : Int)) = true := by simp; omega
    go_wp2_with fail
    go_ret
    exact ⟨rfl, Below.refl _ _⟩
  have d1 : decide ((1048576 : Int) < (bs.length : Int)) = false := by simp; omega
  go_wp2_with fail
  refine HDR.out.mono ?_
  rintro e w1 ⟨v1, v2, rfl, hf1, hf2, hb1, hq1, hq2⟩
  obtain ⟨a1, cap1, rfl⟩ := hf1.form
  obtain ⟨a2, cap2, rfl⟩ := hf2.form
  have HSZ := hide (szt_dp1 hq1)
  have HSA := hide (szt_dp2 hq2)
  have HSP : Hid (T.flat 0 = dp1 ρ → T.all szP) := fun e => szp_dp1 e hq1
  have HNO : Hid (T.flat 0 = dp1 ρ → T.all (noH 77)) := fun e => dp1_no e
  clear HDR
  generalize dp1 ρ = ts at *
  generalize dp2 ρ = aa at *
  have HN1 := hide hf1.at
  have HM1 := hide hf2.at
  clear hf1 hf2 hq1 hq2
  obtain ⟨W2, hW2⟩ : ∃ W2, W2 = (w1.alloc (.cells #[.slice a1 ts.length cap1] 28)).alloc (.cells #[.slice a2 aa.length cap2] 28) := ⟨_, rfl⟩
  have hb2 : Below w1.heap.size w1 W2 := by rw [hW2]; exact bel_alloc (bel_alloc (Below.refl _ _) _) _
  have c3 : W2.cell? ⟨w1.heap.size, 0, none⟩ = some (.slice a1 ts.length cap1) := by rw [hW2]; simp [go_sem]
  have c4 : W2.cell? ⟨w1.heap.size + 1, 0, none⟩ = some (.slice a2 aa.length cap2) := by rw [hW2]; simp [go_sem]
  have HN2 := hide (HN1.out.keep hb2)
  have HM2 := hide (HM1.out.keep hb2)
  have HB2 := hide (bel_trans hb1 hb2)
  have hs1 := hb1.size
  have hs2 := hb2.size
  clear hb1 hb2 HN1 HM1
  go_upto_region 4 with fail
  rw [← hW2]
  clear hW2
  have l3 := lt_cell c3
  have l4 := lt_cell c4
  have HC2 := hide (specTermOk_any _ ts W2 HN2.out (fun td hm => (HSZ.out td hm).1) (fun td hm => (HSZ.out td hm).2.1.1))
  cases hv : termB ts with
  | false =>
    rw [hv] at HC2
    go_wp2_with fail
    refine HC2.out.mono ?_
    rintro e w3 ⟨rfl, hb3⟩
    have HB3 := hide (bel_trans HB2.out hb3)
    clear hb3
    go_wp2_with fail
    go_ret
    exact ⟨rfl, HB3.out⟩
  | true =>
    rw [hv] at HC2
    obtain ⟨hTe, hTn⟩ := HT.out hv
    have hTc : T.cnt ≤ 20000 := by rw [← T.flat_len 0, hTe]; exact len_of hv
    obtain ⟨hp1, hp2, hp3⟩ := first_put hTn hTc hv
    have HP1 := hide hp1
    have HSF : Hid (∀ td ∈ (putR (holeT 77) T 0).flat 0, SzT td) := szt_flat (put_all var_sz (holeT 77) ⟨by show (⟨#[]⟩ : ByteArray).size ≤ 1000; decide, by show ([] : List (List Nd)).length ≤ 3; decide, fun l hl => by simp at hl, fun l hl => by simp at hl⟩ T 0 (HSP.out hTe))
    have HTF : Hid (TreeFor ((putR (holeT 77) T 0).flat 0) (putR (holeT 77) T 0)) := fun _ => ⟨rfl, hp2⟩
    have HP2 : Hid (termB aa = true → holeA ((putR (holeT 77) T 0).flat 0) aa (putR (holeT 77) T 0) TA 77 = putA ts aa T TA) := fun ha => second_put hTn (HNO.out hTe) hv ha hp3
    generalize putR (holeT 77) T 0 = F at *
    clear hTe hTn hTc hp1 hp2 hp3 HSP HNO hv
    go_wp2_with fail
    refine HC2.out.mono ?_
    rintro e w3 ⟨rfl, hb3⟩
    have HN3 := hide (HN2.out.keep hb3)
    have HM3 := hide (HM2.out.keep hb3)
    have c3 := keep_cell hb3 c3
    have c4 := keep_cell hb3 c4
    have HB3 := hide (bel_trans HB2.out hb3)
    have hs3 := hb3.size
    clear hb3 HN2 HM2 HB2 HC2 l3 l4
    have l3 := lt_cell c3
    have l4 := lt_cell c4
    have HC3 := hide (specTermOk_any _ aa w3 HM3.out (fun td hm => (HSA.out td hm).1) (fun td hm => (HSA.out td hm).2.1.1))
    cases hva : termB aa with
    | false =>
      rw [hva] at HC3
      go_wp2_with fail
      refine HC3.out.mono ?_
      rintro e w4 ⟨rfl, hb4⟩
      have HB4 := hide (bel_trans HB3.out hb4)
      clear hb4
      go_wp2_with fail
      go_ret
      exact ⟨rfl, HB4.out⟩
    | true =>
      rw [hva] at HC3
      have HP2 := hide (HP2.out hva)
      clear hva
      go_wp2_with fail
      refine HC3.out.mono ?_
      rintro e w4 ⟨rfl, hb4⟩
      have HN4 := hide (HN3.out.keep hb4)
      have HM4 := hide (HM3.out.keep hb4)
      have c3 := keep_cell hb4 c3
      have c4 := keep_cell hb4 c4
      have HB4 := hide (bel_trans HB3.out hb4)
      have hs4 := hb4.size
      clear hb4 HN3 HM3 HB3 HC3 l3 l4
      obtain ⟨W5, hW5⟩ : ∃ W5, W5 = (w4.alloc (.cells #[.int .i64 9, .int .i64 77, .int .i64 0, .string ⟨#[]⟩, .slice none 0 0, .slice none 0 0] 67)).alloc (.cells #[.slice (some ⟨w4.heap.size, 0, none⟩) 1 1] 28) := ⟨_, rfl⟩
      have hb5 : Below w4.heap.size w4 W5 := by rw [hW5]; exact bel_alloc (bel_alloc (Below.refl _ _) _) _
      have c5 : W5.cell? ⟨w4.heap.size + 1, 0, none⟩ = some (.slice (some ⟨w4.heap.size, 0, none⟩) 1 1) := by rw [hW5]; simp [go_sem]
      have HHO : Hid (TNodesAt W5 (.slice (some ⟨w4.heap.size, 0, none⟩) 1 1) hole77) := hole_at (by rw [hW5, heap_alloc_old _ _ (by simp)]; exact heap_alloc_new w4 _)
      have HN5 := hide (HN4.out.keep hb5)
      have HM5 := hide (HM4.out.keep hb5)
      have c3 := keep_cell hb5 c3
      have c4 := keep_cell hb5 c4
      have HB5 := hide (bel_trans HB4.out hb5)
      have hs5 := hb5.size
      clear hb5 HN4 HM4 HB4
      go_upto_region 7 with fail
      first | rw [← hW5] | skip
      clear hW5
      have l3 := lt_cell c3
      have l4 := lt_cell c4
      have l5 := lt_cell c5
      have HC5 := hide (implPut_any _ _ ts hole77 T (holeT 77) W5 HN5.out HHO.out (fun td hm => (HSZ.out td hm).1) (fun td hm => (hole77_sz td hm).1) (fun td hm => (HSZ.out td hm).2.1) (fun td hm => (hole77_sz td hm).2.1) (fun td hm => (HSZ.out td hm).2.2) (fun td hm => (hole77_sz td hm).2.2) HT.out hole77_for)
      rw [HP1.out] at HC5
      go_wp2_with fail
      refine HC5.out.mono ?_
      rintro e w6 ⟨⟨vf, rfl, htf⟩, hb6⟩
      obtain ⟨af, cf, rfl⟩ := htf.form
      have HF6 := hide htf.nodes
      have HN6 := hide (HN5.out.keep hb6)
      have HM6 := hide (HM5.out.keep hb6)
      have c3 := keep_cell hb6 c3
      have c4 := keep_cell hb6 c4
      have HB6 := hide (bel_trans HB5.out hb6)
      have hs6 := hb6.size
      clear htf hb6 HN5 HM5 HB5 HC5 HHO l3 l4 l5 c5
      dsimp only at *
      generalize hFl : F.flat 0 = ff at *
      clear hFl
      obtain ⟨W7, hW7⟩ : ∃ W7, W7 = w6.alloc (.cells #[.slice af ff.length cf] 28) := ⟨_, rfl⟩
      have hb7 : Below w6.heap.size w6 W7 := by rw [hW7]; exact bel_alloc (Below.refl _ _) _
      have c6 : W7.cell? ⟨w6.heap.size, 0, none⟩ = some (.slice af ff.length cf) := by rw [hW7]; simp [go_sem]
      have HF7 := hide (HF6.out.keep hb7)
      have HN7 := hide (HN6.out.keep hb7)
      have HM7 := hide (HM6.out.keep hb7)
      have c3 := keep_cell hb7 c3
      have c4 := keep_cell hb7 c4
      have HB7 := hide (bel_trans HB6.out hb7)
      have hs7 := hb7.size
      clear hb7 HF6 HN6 HM6 HB6
      go_upto_region 8 with fail
      rw [← hW7]
      clear hW7
      obtain ⟨X, hX⟩ : ∃ X, X = putA ts aa T TA := ⟨_, rfl⟩
      have HXE := hide hX
      clear hX
      have HC7 := hide (implHole_any _ _ ff aa F TA 77 W7 HF7.out HM7.out (fun td hm => (HSF.out td hm).1) (fun td hm => (HSA.out td hm).1) (fun td hm => (HSF.out td hm).2.1) (fun td hm => (HSA.out td hm).2.1) (fun td hm => (HSF.out td hm).2.2) (fun td hm => (HSA.out td hm).2.2) HTF.out HTA.out)
      rw [HP2.out, ← HXE.out] at HC7
      have l3 := lt_cell c3
      have l4 := lt_cell c4
      have l6 := lt_cell c6
      go_wp2_with fail
      refine HC7.out.mono ?_
      rintro e w8 ⟨⟨vx, rfl, htx⟩, hb8⟩
      obtain ⟨ax, cx, rfl⟩ := htx.form
      have HX8 := hide htx.nodes
      have HN8 := hide (HN7.out.keep hb8)
      have HM8 := hide (HM7.out.keep hb8)
      have c3 := keep_cell hb8 c3
      have c4 := keep_cell hb8 c4
      have HB8 := hide (bel_trans HB7.out hb8)
      have hs8 := hb8.size
      clear htx hb8 HF7 HN7 HM7 HB7 HC7 l3 l4 l6 c6
      obtain ⟨W9, hW9⟩ : ∃ W9, W9 = w8.alloc (.cells #[.slice ax X.1.length cx] 28) := ⟨_, rfl⟩
      have hb9 : Below w8.heap.size w8 W9 := by rw [hW9]; exact bel_alloc (Below.refl _ _) _
      have c8 : W9.cell? ⟨w8.heap.size, 0, none⟩ = some (.slice ax X.1.length cx) := by rw [hW9]; simp [go_sem]
      have HX9 := hide (HX8.out.keep hb9)
      have HN9 := hide (HN8.out.keep hb9)
      have HM9 := hide (HM8.out.keep hb9)
      have c3 := keep_cell hb9 c3
      have c4 := keep_cell hb9 c4
      have HB9 := hide (bel_trans HB8.out hb9)
      have hs9 := hb9.size
      clear hb9 HX8 HN8 HM8 HB8
      go_upto_region 11 with fail
      rw [← hW9]
      clear hW9
      have HC9 := hide (implPut_any _ _ ts aa T TA W9 HN9.out HM9.out (fun td hm => (HSZ.out td hm).1) (fun td hm => (HSA.out td hm).1) (fun td hm => (HSZ.out td hm).2.1) (fun td hm => (HSA.out td hm).2.1) (fun td hm => (HSZ.out td hm).2.2) (fun td hm => (HSA.out td hm).2.2) HT.out HTA.out)
      rw [← HXE.out] at HC9
      have l3 := lt_cell c3
      have l4 := lt_cell c4
      have l8 := lt_cell c8
      go_wp2_with fail
      refine HC9.out.mono ?_
      rintro e w10 ⟨⟨vy, rfl, hty⟩, hb10⟩
      obtain ⟨ay, cy, rfl⟩ := hty.form
      have HY10 := hide hty.nodes
      have HX10 := hide (HX9.out.keep hb10)
      have HN10 := hide (HN9.out.keep hb10)
      have HM10 := hide (HM9.out.keep hb10)
      have c3 := keep_cell hb10 c3
      have c4 := keep_cell hb10 c4
      have c8 := keep_cell hb10 c8
      have HB10 := hide (bel_trans HB9.out hb10)
      have hs10 := hb10.size
      clear hty hb10 HX9 HN9 HM9 HB9 HC9 l3 l4 l8
      obtain ⟨W11, hW11⟩ : ∃ W11, W11 = w10.alloc (.cells #[.slice ay X.1.length cy] 28) := ⟨_, rfl⟩
      have hb11 : Below w10.heap.size w10 W11 := by rw [hW11]; exact bel_alloc (Below.refl _ _) _
      have c10 : W11.cell? ⟨w10.heap.size, 0, none⟩ = some (.slice ay X.1.length cy) := by rw [hW11]; simp [go_sem]
      have HY11 := hide (HY10.out.keep hb11)
      have HX11 := hide (HX10.out.keep hb11)
      have HN11 := hide (HN10.out.keep hb11)
      have HM11 := hide (HM10.out.keep hb11)
      have c3 := keep_cell hb11 c3
      have c4 := keep_cell hb11 c4
      have c8 := keep_cell hb11 c8
      have HB11 := hide (bel_trans HB10.out hb11)
      have hs11 := hb11.size
      clear hb11 HY10 HX10 HN10 HM10 HB10
      go_upto_region 12 with fail
      rw [← hW11]
      clear hW11
      have HC11 := hide (specPut_any _ _ ts aa T TA W11 HN11.out HM11.out (fun td hm => (HSZ.out td hm).1) (fun td hm => (HSA.out td hm).1) (fun td hm => (HSZ.out td hm).2.1.1) (fun td hm => (HSA.out td hm).2.1.1) HT.out HTA.out)
      rw [← HXE.out] at HC11
      have l3 := lt_cell c3
      have l4 := lt_cell c4
      have l8 := lt_cell c8
      have l10 := lt_cell c10
      go_wp2_with fail
      refine HC11.out.mono ?_
      rintro e w12 ⟨⟨vm, rfl, htm⟩, hb12⟩
      obtain ⟨am, cm, rfl⟩ := htm.form
      have HZ12 := hide htm.at
      have HY12 := hide (HY11.out.keep hb12)
      have HX12 := hide (HX11.out.keep hb12)
      have c8 := keep_cell hb12 c8
      have c10 := keep_cell hb12 c10
      have HB12 := hide (bel_trans HB11.out hb12)
      have hs12 := hb12.size
      clear htm hb12 HY11 HX11 HN11 HM11 HB11 HC11 l3 l4 l8 l10 c3 c4 HXE
      obtain ⟨W13, hW13⟩ : ∃ W13, W13 = w12.alloc (.cells #[.slice am X.1.length cm] 28) := ⟨_, rfl⟩
      have hb13 : Below w12.heap.size w12 W13 := by rw [hW13]; exact bel_alloc (Below.refl _ _) _
      have c12 : W13.cell? ⟨w12.heap.size, 0, none⟩ = some (.slice am X.1.length cm) := by rw [hW13]; simp [go_sem]
      have HZ13 := hide (HZ12.out.keep hb13)
      have HY13 := hide (HY12.out.keep hb13)
      have HX13 := hide (HX12.out.keep hb13)
      have c8 := keep_cell hb13 c8
      have c10 := keep_cell hb13 c10
      have HB13 := hide (bel_trans HB12.out hb13)
      have hs13 := hb13.size
      clear hb13 HZ12 HY12 HX12 HB12
      go_upto_region 13 with fail
      rw [← hW13]
      clear hW13
      have l8 := lt_cell c8
      have l10 := lt_cell c10
      have l12 := lt_cell c12
      obtain ⟨xx, xc⟩ := X
      dsimp only at *
      go_wp2_with fail
      refine (eqTerm_any _ _ xx W13 HX13.out HY13.out).mono ?_
      rintro e w14 ⟨rfl, hb14⟩
      have HY14 := hide (HY13.out.keep hb14)
      have HZ14 := hide (HZ13.out.keep hb14)
      have c10 := keep_cell hb14 c10
      have c12 := keep_cell hb14 c12
      have l10 := lt_cell c10
      have l12 := lt_cell c12
      have HB14 := hide (bel_trans HB13.out hb14)
      clear hb14
      go_wp2_with fail
      refine (eqTerm_any _ _ xx w14 HY14.out HZ14.out).mono ?_
      rintro e w15 ⟨rfl, hb15⟩
      have HB15 := hide (bel_trans HB14.out hb15)
      clear hb15
      go_wp2_with fail
      go_ret
      exact ⟨rfl, HB15.out⟩
end Go.Proofs.YtjkkojefpecbfaaGreat

/- How a level that comes in as an argument is read: whatever was read as one lies in memory as a row of nodes. -/
namespace Go.Proofs.YtjkkojefpecbfaaGreat
open Go.ChangeShapes Go.WideShapes Go.ChangeAt Go.RowKit Go.Deep

section
variable {H : Type} {enc : TypeId × Value → H} {W : World} {base : Nat} {held : Bool}

theorem addr_none {w : World} {a : Addr} {v : Value} (h : w.cell? (a.add 0) = some v) : ∃ b off, a = ⟨b, off, none⟩ := by
  obtain ⟨b, off, spot⟩ := a
  have hs := World.cell?_spot h
  simp [Addr.add] at hs
  exact ⟨b, off, by rw [hs]⟩
end
end Go.Proofs.YtjkkojefpecbfaaGreat
