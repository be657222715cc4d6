/- What the program's PutHole answers. -/
import Derived.Test.YtjkkojefpecbfaaGreatPhA
import Derived.Test.YtjkkojefpecbfaaGreatSpI
import Derived.Test.YtjkkojefpecbfaaGreatPhF
namespace Go.Proofs.YtjkkojefpecbfaaGreat
open Go.ChangeShapes Go.WideShapes Go.ChangeAt Go.RowKit

/-- What PutHole answers. -/
def holeA (bs aa : List Td) (TB TA : Tt) (hole : Int) : List Td × Int := if termB bs = true ∧ termB aa = true then ansT (fitT (fillR TA hole TB 0)) else ([], 1)
set_option maxRecDepth 20000 in
set_option maxHeartbeats 8000000 in
theorem implHole_any (vb va : Value) (bs aa : List Td) (TB TA : Tt) (hole : Int) (w : World) (hnb : TNodesAt w vb bs) (hna : TNodesAt w va aa) (hzb : ∀ td ∈ bs, TLens td) (hza : ∀ td ∈ aa, TLens td) (hsb : ∀ td ∈ bs, TSmall td) (hsa : ∀ td ∈ aa, TSmall td) (hpb : ∀ td ∈ bs, (spell td.lv).length ≤ 1000000000) (hpa : ∀ td ∈ aa, (spell td.lv).length ≤ 1000000000) (hTB : TreeFor bs TB) (hTA : TreeFor aa TA) :
    Calls Tryz.prog 41 #[.agg #[vb], .int .i64 hole, .agg #[va]] w fun e w' => TOut w.heap.size w' e (holeA bs aa TB TA hole) ∧ Below w.heap.size w w' := by
  obtain ⟨A, hA⟩ : ∃ A, A = holeA bs aa TB TA hole := ⟨_, rfl⟩
  rw [← hA]
  have HAA := hide hA
  clear hA
  obtain ⟨W, hW⟩ : ∃ W, W = ((w.alloc (.cells #[vb] 28)).alloc (.cells #[va] 28)).alloc (.cells #[.slice none 0 0] 28) := ⟨_, rfl⟩
  have hbW : Below w.heap.size w W := by rw [hW]; exact bel_alloc (bel_alloc (bel_alloc (Below.refl w.heap.size w) _) _) _
  have HRB := hide (fun (w2 : World) (Sb mb gb : Nat) (Z0 : Nat → Zs) (H0 : Nat → Bool) => read_more vb bs W w2 Sb mb gb 0 [] Z0 H0 (hnb.keep hbW) hzb hsb hpb)
  have HRA := hide (fun (w2 : World) (Sb mb gb clock : Nat) (L0 : List (Nk × Nat × Nat)) (Z0 : Nat → Zs) (H0 : Nat → Bool) => read_more va aa W w2 Sb mb gb clock L0 Z0 H0 (hna.keep hbW) hza hsa hpa)
  have HBW := hide hbW
  have HW := hide hW
  have HTB := hide hTB
  have HTA := hide hTA
  obtain ⟨b1, capb, rfl, _, _, _⟩ := hnb
  obtain ⟨a1, capa, rfl, _, _, _⟩ := hna
  have c0 : W.cell? ⟨w.heap.size, 0, none⟩ = some (.slice b1 bs.length capb) := by rw [hW]; simp [go_sem]
  have c1 : W.cell? ⟨w.heap.size + 1, 0, none⟩ = some (.slice a1 aa.length capa) := by rw [hW]; simp [go_sem]
  have HR : Hid (W.heap[w.heap.size + 1 + 1]? = some (.cells #[.slice none 0 0] 28 (0, 0))) := by show _ = _; rw [hW]; exact heap_alloc_at _ _ (by simp)
  have l0 := lt_cell c0
  have l1 := lt_cell c1
  clear hzb hza hsb hsa hpb hpa hbW hW hTB hTA
  go_enter Tryz.func41, Tryz.ntmps41
  go_upto_region 1 with fail
  rw [← HW.out]
  go_wp2_with fail
  refine (newStore_any W).mono ?_
  rintro e w2 ⟨⟨Sb, mb, gb, rfl, hs2⟩, hb2⟩
  have c0 := keep_cell hb2 c0
  have c1 := keep_cell hb2 c1
  have l0 := lt_cell c0
  have l1 := lt_cell c1
  have HCB := hide (HRB.out w2 Sb mb gb _ _ hb2 hs2)
  have HWs := hide HBW.out.size
  have hrl : w.heap.size + 1 + 1 < W.heap.size := (Array.getElem?_eq_some_iff.1 HR.out).1
  have c1W : Hid (W.cell? ⟨w.heap.size + 1, 0, none⟩ = some (.slice a1 aa.length capa)) := by show _ = _; rw [HW.out]; simp [go_sem]
  clear hs2 hb2 HW HRB
  go_wp2_with fail
  refine HCB.out.mono ?_
  rintro e w3 ⟨he, hb3⟩
  have HB3 := hide hb3
  have c1 := keep_cell hb3 c1W.out
  have l1 := lt_cell c1
  clear HCB c0 l0 hb3
  have HBAD : Hid (∀ w' w4 : World, Below W.heap.size W w4 → w' = w4.setCell ⟨w.heap.size + 1 + 1, 0, none⟩ (.slice none 0 0) → TOut w.heap.size w' (.returned (.tuple #[.agg #[.slice none 0 0], .int .i64 1])) ([], 1) ∧ Below w.heap.size w w') := fun w' w4 h4 hw' => by
    subst hw'
    exact ⟨⟨_, rfl, tmV_nil _ _ _⟩, (bel_trans HBW.out h4).setCell (p := ⟨_, _, _⟩) (by show _ ≤ w.heap.size + 1 + 1; omega) _⟩
  have HRW : Hid (∀ w4 : World, Below W.heap.size W w4 → w4.heap[w.heap.size + 1 + 1]? = some (.cells #[.slice none 0 0] 28 (0, 0))) := fun w4 h4 => by rw [h4.block _ hrl]; exact HR.out
  rcases he with ⟨htb, rfl, hs3⟩ | ⟨htb, ptb, clock, L, Z, H, rfl, hs3, hr3, _⟩
  · have HE : Hid (A = ([], 1)) := by show _ = _; rw [HAA.out]; unfold holeA; rw [if_neg (by simp [htb])]
    have HCA := hide (HRA.out w3 Sb mb gb _ _ _ _ HB3.out hs3)
    clear htb hs3 HRA
    go_wp2_with fail
    refine HCA.out.mono ?_
    rintro e w4 ⟨he4, hb4⟩
    have HB4 := hide hb4
    have c4 : w4.cell? ⟨w.heap.size + 1 + 1, 0, none⟩ = some (.slice none 0 0) := by rw [Lib.cell_of_heap (HRW.out w4 hb4)]; rfl
    have f4 : w4.frozen? ⟨w.heap.size + 1 + 1, 0, none⟩ = false := Lib.frozen_of_heap (HRW.out w4 hb4) 0
    have l4 := lt_cell c4
    clear hb4 HCA
    rcases he4 with ⟨hta, rfl, _⟩ | ⟨hta, pta, clock4, L4, Z4, H4, rfl, _⟩
    · clear hta
      go_wp2_with fail
      exact bodyPost_ret (v := .tuple #[.agg #[.slice none 0 0], .int .i64 1]) (by simp [results, Tryz.results41, go_sem, c4]) rfl (by rw [HE.out]; exact HBAD.out _ _ HB4.out rfl)
    · clear hta
      go_wp2_with fail
      exact bodyPost_ret (v := .tuple #[.agg #[.slice none 0 0], .int .i64 1]) (by simp [results, Tryz.results41, go_sem, c4]) rfl (by rw [HE.out]; exact HBAD.out _ _ HB4.out rfl)
  · have HCA := hide (HRA.out w3 Sb mb gb _ _ _ _ HB3.out hs3)
    have HR3 := hide hr3
    clear hs3 hr3 HRA
    go_wp2_with fail
    refine HCA.out.mono ?_
    rintro e w4 ⟨he4, hb4⟩
    have HB4 := hide hb4
    have c4 : w4.cell? ⟨w.heap.size + 1 + 1, 0, none⟩ = some (.slice none 0 0) := by rw [Lib.cell_of_heap (HRW.out w4 hb4)]; rfl
    have f4 : w4.frozen? ⟨w.heap.size + 1 + 1, 0, none⟩ = false := Lib.frozen_of_heap (HRW.out w4 hb4) 0
    have l4 := lt_cell c4
    have hb4s := hb4.size
    clear hb4 HCA
    rcases he4 with ⟨hta, rfl, _⟩ | ⟨hta, pta, clock4, L4, Z4, H4, rfl, hs4, hr4, hx4⟩
    · have HE : Hid (A = ([], 1)) := by show _ = _; rw [HAA.out]; unfold holeA; rw [if_neg (by simp [hta])]
      clear hta
      go_wp2_with fail
      exact bodyPost_ret (v := .tuple #[.agg #[.slice none 0 0], .int .i64 1]) (by simp [results, Tryz.results41, go_sem, c4]) rfl (by rw [HE.out]; exact HBAD.out _ _ HB4.out rfl)
    · have HE : Hid (A = ansT (fitT (fillR TA hole TB 0))) := by show _ = _; rw [HAA.out]; unfold holeA; rw [if_pos ⟨htb, hta⟩]
      obtain ⟨hfb, hPB⟩ := HTB.out htb
      obtain ⟨hfa, hPA⟩ := HTA.out hta
      have hIB := (rd_root HR3.out hfb).more (fun x hx => (hx4 x hx).1)
      have hIA := rd_root hr4 hfa
      have HL := hide (putHole_any W.heap.size Sb mb gb clock4 L4 Z4 H4 TB TA (ptb (bs.length - 1)) (pta (aa.length - 1)) hole w4 hs4 hb4s hIB hPB hIA hPA)
      have HLV : Hid (∀ T', fitT (fillR TA hole TB 0) = some T' → T'.all levP) := fun T' h => by rw [fit_some h]; exact fill_all var_lev' TA hole (all_mono node_lev hPA) TB 0 (all_mono node_lev hPB)
      have hml : mb < w4.heap.size := (Array.getElem?_eq_some_iff.1 hs4.mp).1
      have hmlo : W.heap.size ≤ mb := hs4.lows.2
      generalize pta (aa.length - 1) = ra at *
      generalize ptb (bs.length - 1) = rb at *
      generalize fitT (fillR TA hole TB 0) = rr at *
      clear htb hta hs4 hr4 hx4 hfb hPB hfa hPA hIB hIA HR3 HAA
      go_wp2_with fail
      refine HL.out.mono ?_
      rintro e w5 ⟨b5, clock5, L5, Z5, H5, rfl, hs5, hL5, hr5, hg5⟩
      have HST := hide (sizedTerm_any W.heap.size Sb mb gb clock5 L5 Z5 H5 w5 hs5 (Nat.le_trans hb4s hg5.size) rr b5 hr5 HLV.out)
      have HR5 : Hid (w5.heap[w.heap.size + 1 + 1]? = some (.cells #[.slice none 0 0] 28 (0, 0))) := by show _ = _; rw [hg5.block _ l4 (fun e => by have := Option.some.inj e; omega)]; exact HRW.out w4 HB4.out
      have HB5 : Hid (Below w.heap.size w w5) := (bel_trans HBW.out HB4.out).grown hg5 (by have := HWs.out; omega) (fun k hk => by have := Option.some.inj hk; have := HWs.out; omega)
      clear hs5 hL5 hr5 hg5 c4 f4 l4 HL
      go_wp2_with fail
      refine HST.out.mono ?_
      rintro e w6 ⟨⟨v6, rfl, hv6⟩, hb6⟩
      obtain ⟨va, vc, rfl⟩ := hv6.form
      have hl5 : w.heap.size + 1 + 1 < w5.heap.size := (Array.getElem?_eq_some_iff.1 HR5.out).1
      have HR6 : Hid (w6.heap[w.heap.size + 1 + 1]? = some (.cells #[.slice none 0 0] 28 (0, 0))) := by show _ = _; rw [hb6.block _ hl5]; exact HR5.out
      have c6 : w6.cell? ⟨w.heap.size + 1 + 1, 0, none⟩ = some (.slice none 0 0) := by rw [Lib.cell_of_heap HR6.out]; rfl
      have f6 : w6.frozen? ⟨w.heap.size + 1 + 1, 0, none⟩ = false := Lib.frozen_of_heap HR6.out 0
      have l6 := lt_cell c6
      have HB6 := hide (bel_trans HB5.out hb6)
      have HV6 := hide (hv6.mono HB5.out.size (Nat.le_refl _))
      clear hv6 hb6 HST
      go_wp2_with fail
      refine bodyPost_ret (v := .tuple #[.agg #[.slice va (ansT rr).1.length vc], .int .i64 (ansT rr).2]) (by simp [results, Tryz.results41, go_sem, c6]) rfl ⟨⟨_, by rw [HE.out], ?_⟩, ?_⟩
      · rw [HE.out, size_set]
        exact tmV_off' HV6.out HR6.out (by decide) (fun k hk => Below.heap_setCell w6 _ _ k hk)
      · exact HB6.out.setCell (p := ⟨_, _, _⟩) (by show _ ≤ w.heap.size + 1 + 1; omega) _
end Go.Proofs.YtjkkojefpecbfaaGreat

/- What the specification's PutHole answers. -/
namespace Go.Proofs.YtjkkojefpecbfaaGreat
open Go.ChangeShapes Go.WideShapes Go.ChangeAt Go.RowKit

set_option maxRecDepth 20000 in
set_option maxHeartbeats 8000000 in
theorem specHole_any (vb va : Value) (bs aa : List Td) (TB TA : Tt) (hole : Int) (w : World) (hnb : TNodesAt w vb bs) (hna : TNodesAt w va aa) (hzb : ∀ td ∈ bs, TLens td) (hza : ∀ td ∈ aa, TLens td) (hlb : ∀ td ∈ bs, td.lv.length ≤ 1048576) (hla : ∀ td ∈ aa, td.lv.length ≤ 1048576) (hTB : TreeFor bs TB) (hTA : TreeFor aa TA) :
    Calls Tryz.prog 40 #[.agg #[vb], .int .i64 hole, .agg #[va]] w fun e w' => SOut w.heap.size w' e (holeA bs aa TB TA hole) ∧ Below w.heap.size w w' := by
  obtain ⟨A, hA⟩ : ∃ A, A = holeA bs aa TB TA hole := ⟨_, rfl⟩
  rw [← hA]
  have HAA := hide hA
  clear hA
  obtain ⟨W, hW⟩ : ∃ W, W = ((w.alloc (.cells #[vb] 28)).alloc (.cells #[va] 28)).alloc (.cells #[.slice none 0 0] 28) := ⟨_, rfl⟩
  have hbW : Below w.heap.size w W := by rw [hW]; exact bel_alloc (bel_alloc (bel_alloc (Below.refl w.heap.size w) _) _) _
  have HT := hide (l3TreeF_any vb bs W (hnb.keep hbW) hzb hlb)
  have HTA2 := hide (fun (w3 : World) (h : Below W.heap.size W w3) => l3TreeF_any va aa w3 (hna.keep (bel_trans hbW h)) hza hla)
  have HBW := hide hbW
  have HTB := hide hTB
  have HTA := hide hTA
  obtain ⟨b1, capb, rfl, _, _, _⟩ := hnb
  obtain ⟨a1, capa, rfl, _, _, _⟩ := hna
  have c0 : W.cell? ⟨w.heap.size, 0, none⟩ = some (.slice b1 bs.length capb) := by rw [hW]; simp [go_sem]
  have c1 : W.cell? ⟨w.heap.size + 1, 0, none⟩ = some (.slice a1 aa.length capa) := by rw [hW]; simp [go_sem]
  have HR : Hid (W.heap[w.heap.size + 1 + 1]? = some (.cells #[.slice none 0 0] 28 (0, 0))) := by show _ = _; rw [hW]; exact heap_alloc_at _ _ (by simp)
  have l0 := lt_cell c0
  have l1 := lt_cell c1
  clear hzb hza hlb hla hbW hTB hTA
  go_enter Tryz.func40, Tryz.ntmps40
  go_upto_region 1 with fail
  rw [← hW]
  clear hW
  go_wp2_with fail
  refine HT.out.mono ?_
  rintro e w3 ⟨he, hb3⟩
  have hrl : w.heap.size + 1 + 1 < W.heap.size := (Array.getElem?_eq_some_iff.1 HR.out).1
  have hWs := HBW.out.size
  have HB3 := hide hb3
  have HCA := hide (HTA2.out w3 hb3)
  have c1 := keep_cell hb3 c1
  have l1 := lt_cell c1
  have HBAD : Hid (∀ w' w4 : World, Below W.heap.size W w4 → w' = w4.setCell ⟨w.heap.size + 1 + 1, 0, none⟩ (.slice none 0 0) → SOut w.heap.size w' (.returned (.tuple #[.agg #[.slice none 0 0], .int .i64 1])) ([], 1) ∧ Below w.heap.size w w') := fun w' w4 h4 hw' => by
    subst hw'
    exact ⟨⟨_, rfl, frt_nil _ _⟩, (bel_trans HBW.out h4).setCell (p := ⟨_, _, _⟩) (by show _ ≤ w.heap.size + 1 + 1; omega) _⟩
  have HRW : Hid (∀ w4 : World, Below W.heap.size W w4 → w4.heap[w.heap.size + 1 + 1]? = some (.cells #[.slice none 0 0] 28 (0, 0))) := fun w4 h4 => by rw [h4.block _ hrl]; exact HR.out
  clear hb3 c0 l0 HT HTA2
  rcases he with ⟨htb, rfl⟩ | ⟨htb, hkb, ptb, Qb, rfl, hfb, _⟩
  · have HE : Hid (A = ([], 1)) := by show _ = _; rw [HAA.out]; unfold holeA; rw [if_neg (by simp [htb])]
    clear htb
    go_wp2_with fail
    refine HCA.out.mono ?_
    rintro e w4 ⟨he4, hb4⟩
    have HB4 := hide (bel_trans HB3.out hb4)
    have hr4 := HRW.out w4 HB4.out
    have c4 : w4.cell? ⟨w.heap.size + 1 + 1, 0, none⟩ = some (.slice none 0 0) := by rw [Lib.cell_of_heap hr4]; rfl
    have f4 : w4.frozen? ⟨w.heap.size + 1 + 1, 0, none⟩ = false := Lib.frozen_of_heap hr4 0
    have l4 := lt_cell c4
    have HN := hide (tnone_none w4)
    clear hb4 HCA hr4
    rcases he4 with ⟨hta, rfl⟩ | ⟨hta, hka, pta, Qa, rfl, hfa, _⟩
    · clear hta
      go_wp2_with (go_at_call 48; refine HN.out.mono ?_; rintro e w5 ⟨rfl, hw⟩; have hw := hw.symm; subst hw)
      exact bodyPost_ret (v := .tuple #[.agg #[.slice none 0 0], .int .i64 1]) (by simp [results, Tryz.results40, go_sem, c4]) rfl (by rw [HE.out]; exact HBAD.out _ _ HB4.out rfl)
    · clear hta hka hfa
      go_wp2_with (go_at_call 48; refine HN.out.mono ?_; rintro e w5 ⟨rfl, hw⟩; have hw := hw.symm; subst hw)
      exact bodyPost_ret (v := .tuple #[.agg #[.slice none 0 0], .int .i64 1]) (by simp [results, Tryz.results40, go_sem, c4]) rfl (by rw [HE.out]; exact HBAD.out _ _ HB4.out rfl)
  · obtain ⟨hspb, hcb⟩ := tree_root htb hkb hfb HTB.out
    have HPB := hide (HTB.out htb).2
    generalize ptb (bs.length - 1) = rb at *
    have HSB := hide hspb
    clear hkb hfb hspb
    go_wp2_with fail
    refine HCA.out.mono ?_
    rintro e w4 ⟨he4, hb4⟩
    have HSB4 := hide (HSB.out.keep hb4)
    have HB4 := hide (bel_trans HB3.out hb4)
    have hr4 := HRW.out w4 HB4.out
    have c4 : w4.cell? ⟨w.heap.size + 1 + 1, 0, none⟩ = some (.slice none 0 0) := by rw [Lib.cell_of_heap hr4]; rfl
    have f4 : w4.frozen? ⟨w.heap.size + 1 + 1, 0, none⟩ = false := Lib.frozen_of_heap hr4 0
    have l4 := lt_cell c4
    have HN1 := hide (tnone_some ⟨rb, 0, none⟩ w4)
    have h34 := hb4.size
    clear hb4 HCA hr4 HSB
    rcases he4 with ⟨hta, rfl⟩ | ⟨hta, hka, pta, Qa, rfl, hfa, _⟩
    · have HE : Hid (A = ([], 1)) := by show _ = _; rw [HAA.out]; unfold holeA; rw [if_neg (by simp [hta])]
      have HN := hide (tnone_none w4)
      clear hta
      go_wp2_with (go_at_call 48; first | (refine HN.out.mono ?_; rintro e w5 ⟨rfl, hw⟩; have hw := hw.symm; subst hw) | (refine HN1.out.mono ?_; rintro e w5 ⟨rfl, hw⟩; have hw := hw.symm; subst hw))
      exact bodyPost_ret (v := .tuple #[.agg #[.slice none 0 0], .int .i64 1]) (by simp [results, Tryz.results40, go_sem, c4]) rfl (by rw [HE.out]; exact HBAD.out _ _ HB4.out rfl)
    · obtain ⟨hspa, hca⟩ := tree_root hta hka hfa HTA.out
      have hPA := (HTA.out hta).2
      generalize pta (aa.length - 1) = ra at *
      have HN2 := hide (tnone_some ⟨ra, 0, none⟩ w4)
      have HE : Hid (A = ansT (fitT (fillR TA hole TB 0))) := by show _ = _; rw [HAA.out]; unfold holeA; rw [if_pos ⟨htb, hta⟩]
      have HL := hide (l3Fill_all TA ra hole hPA hca w4.heap.size TB.cnt TB rb 0 w4 (Nat.le_refl _) (HSB4.out.weak (fun b _ (hb : b < w3.heap.size) => by show b < _; omega)) hspa (Nat.le_refl _) HPB.out hcb (by omega) (by omega))
      have HAN := hide (fun (p' : Nat) (w' : World) (Q' : Nat → Prop) (h : SpG Q' w' (fillR TA hole TB 0) p') => l3Answer_any Q' (fillR TA hole TB 0) p' w' h (fill_all var_leaf' TA hole (all_mono node_leaf hPA) TB 0 (all_mono node_leaf HPB.out)) (fill_all var_lev' TA hole (all_mono node_lev hPA) TB 0 (all_mono node_lev HPB.out)))
      clear hta hka hfa htb hspa hPA HSB4 HPB HAA
      go_wp2_with (first
        | (go_at_call 48; first | (refine HN1.out.mono ?_; rintro e w5 ⟨rfl, hw⟩; have hw := hw.symm; subst hw) | (refine HN2.out.mono ?_; rintro e w5 ⟨rfl, hw⟩; have hw := hw.symm; subst hw))
        | fail)
      refine HL.out.mono ?_
      rintro e w5 ⟨p5, rfl, hs5, hb5⟩
      have HAN5 := hide (HAN.out p5 w5 _ hs5)
      have HB5 := hide (bel_trans HB4.out hb5)
      clear hs5 hb5 c4 f4 l4 HL HAN
      unfold ptrV
      go_wp2_with fail
      refine HAN5.out.mono ?_
      rintro e w6 ⟨⟨v6, rfl, hv6⟩, hb6⟩
      obtain ⟨va, vc, rfl⟩ := hv6.form
      have HB6 := hide (bel_trans HB5.out hb6)
      have hr6 := HRW.out w6 HB6.out
      have c6 : w6.cell? ⟨w.heap.size + 1 + 1, 0, none⟩ = some (.slice none 0 0) := by rw [Lib.cell_of_heap hr6]; rfl
      have f6 : w6.frozen? ⟨w.heap.size + 1 + 1, 0, none⟩ = false := Lib.frozen_of_heap hr6 0
      have l6 := lt_cell c6
      have HV6 := hide hv6
      have hw5 : W.heap.size ≤ w5.heap.size := HB5.out.size
      generalize ansT (fitT (fillR TA hole TB 0)) = rr at *
      clear hv6 hb6 HAN5 hr6
      go_wp2_with fail
      refine bodyPost_ret (v := .tuple #[.agg #[.slice va rr.1.length vc], .int .i64 rr.2]) (by simp [results, Tryz.results40, go_sem, c6]) rfl ⟨⟨_, by rw [HE.out], ?_⟩, ?_⟩
      · rw [HE.out]
        exact HV6.out.low (by omega) (p := ⟨_, _, _⟩) (by show w.heap.size + 1 + 1 < _; omega) _
      · exact (bel_trans HBW.out HB6.out).setCell (p := ⟨_, _, _⟩) (by show _ ≤ w.heap.size + 1 + 1; omega) _
end Go.Proofs.YtjkkojefpecbfaaGreat
