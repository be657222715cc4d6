/- What the specification's l3Answer and Lift answer. -/
import Derived.Test.YtjkkojefpecbfaaGreatLiA
namespace Go.Proofs.YtjkkojefpecbfaaGreat
open Go.ChangeShapes Go.WideShapes Go.ChangeAt Go.RowKit

/-- A term that the specification answers, with its code. -/
def SOut (B : Nat) (w' : World) (e : Ending) (r : List Td × Int) : Prop := ∃ v, e = .returned (.tuple #[.agg #[v], .int .i64 r.2]) ∧ FrT B w' v r.1
set_option maxRecDepth 20000 in
set_option maxHeartbeats 4000000 in
theorem l3Answer_any (Qs : Nat → Prop) (T : Tt) (p : Nat) (w : World) (hS : SpG Qs w T p) (hL : T.all leafP) (hP : T.all levP) :
    Calls Tryz.prog 60 #[.pointer (some ⟨p, 0, none⟩)] w fun e w' => SOut w.heap.size w' e (ansT (fitT T)) ∧ Below w.heap.size w w' := by
  obtain ⟨A, hA⟩ : ∃ A, A = ansT (fitT T) := ⟨_, rfl⟩
  rw [← hA]
  have HAA := hide hA
  obtain ⟨W, hW⟩ : ∃ W, W = w.alloc (.cells #[.slice none 0 0] 28) := ⟨_, rfl⟩
  have hbW : Below w.heap.size w W := by rw [hW]; exact bel_alloc (Below.refl _ _) _
  have hr : W.heap[w.heap.size]? = some (.cells #[.slice none 0 0] 28 (0, 0)) := by rw [hW]; exact heap_alloc_new w _
  have c0 : W.cell? ⟨w.heap.size, 0, none⟩ = some (.slice none 0 0) := by rw [Lib.cell_of_heap hr]; rfl
  have f0 : W.frozen? ⟨w.heap.size, 0, none⟩ = false := Lib.frozen_of_heap hr 0
  have l0 := lt_cell c0
  have hSW := hS.keep hbW
  obtain ⟨z1, z2⟩ := zG_sz T hL
  have hz := (spg_sz hSW).cells.1
  have HBW := hide hbW
  by_cases hb : T.big
  · have HE : Hid (A = ([], 3)) := by show _ = _; rw [HAA.out, fit_big hb]; rfl
    rw [z1 hb] at hz
    have HG := hide (l3Great_any p 20001 W hz)
    clear hb hS hSW hL hP hbW hr z1 z2 hA
    go_enter Tryz.func60, Tryz.ntmps60
    go_upto_region 1 with fail
    rw [← hW]
    clear hW
    go_wp2_with fail
    refine HG.out.mono ?_
    rintro e w1 ⟨rfl, hw⟩
    have hw := hw.symm
    subst hw
    go_wp2_with fail
    refine bodyPost_ret (v := .tuple #[.agg #[.slice none 0 0], .int .i64 3]) (by simp [results, Tryz.results60, go_sem, c0]) rfl ⟨⟨_, by rw [HE.out], by rw [HE.out]; exact frt_nil _ _⟩, ?_⟩
    exact HBW.out.setCell (p := ⟨_, _, _⟩) (by show _ ≤ w.heap.size; omega) _
  · have HE : Hid (A = (T.flat 0, 0)) := by show _ = _; rw [HAA.out, fit_ok hb]; rfl
    have hc : T.cnt ≤ 20000 := by have : ¬ 20000 < T.cnt := fun e => hb (.inr e); omega
    rw [z2 hb] at hz
    have HG := hide (l3Great_any p T.cnt W hz)
    have hd : decide (20000 < (T.cnt : Int)) = false := by simp; omega
    rw [hd] at HG
    have HT := hide (l3Term_any Qs T p W hSW hP hc)
    clear hb hS hSW hL hP hbW z1 z2 hA hd hc
    go_enter Tryz.func60, Tryz.ntmps60
    go_upto_region 1 with fail
    rw [← hW]
    clear hW
    go_wp2_with fail
    refine HG.out.mono ?_
    rintro e w1 ⟨rfl, hw⟩
    have hw := hw.symm
    subst hw
    go_wp2_with fail
    refine HT.out.mono ?_
    rintro e w2 ⟨v, rfl, hv, hb2⟩
    obtain ⟨va, vc, rfl⟩ := hv.form
    have c2 := keep_cell hb2 c0
    have hr2 : w2.heap[w.heap.size]? = some (.cells #[.slice none 0 0] 28 (0, 0)) := by rw [hb2.block _ l0]; exact hr
    have f2 : w2.frozen? ⟨w.heap.size, 0, none⟩ = false := Lib.frozen_of_heap hr2 0
    have l2 := lt_cell c2
    have HB2 := hide (bel_trans HBW.out hb2)
    have HV := hide hv
    clear hv hb2 hr2
    go_wp2_with fail
    refine bodyPost_ret (v := .tuple #[.agg #[.slice va (T.flat 0).length vc], .int .i64 0]) (by simp [results, Tryz.results60, go_sem, c2]) rfl ⟨⟨_, by rw [HE.out], ?_⟩, ?_⟩
    · rw [HE.out]
      exact HV.out.low (by omega) (p := ⟨_, _, _⟩) (by show w.heap.size < _; omega) _
    · exact HB2.out.setCell (p := ⟨_, _, _⟩) (by show _ ≤ w.heap.size; omega) _
theorem lift_leaf (by' : Int) : ∀ (T : Tt) (f : Int), T.all leafP → (liftR by' T f).all leafP
  | .t0 h, f, hp => by
    unfold liftR
    split
    · exact hp
    · split
      · exact fun h => by omega
      · exact hp
  | .t1 h a, f, hp => by
    unfold liftR
    split
    · exact hp
    · exact ⟨hp.1, lift_leaf by' a _ hp.2⟩
  | .t2 h a b, f, hp => by
    unfold liftR
    split
    · exact hp
    · exact ⟨hp.1, lift_leaf by' a _ hp.2.1, lift_leaf by' b _ hp.2.2⟩
  | .t3 h a b c, f, hp => by
    unfold liftR
    split
    · exact hp
    · exact ⟨hp.1, lift_leaf by' a _ hp.2.1, lift_leaf by' b _ hp.2.2.1, lift_leaf by' c _ hp.2.2.2⟩
theorem node_leaf (h : Hd) (c : Nat) (hp : nodeP h c) : leafP h c := var_leaf h c (node_var h c hp)
/-- The root that l3Tree answers. -/
theorem tree_root {ts : List Td} {T : Tt} {pt : Nat → Nat} {Q : Nat → Prop} {w' : World} (ht : termB ts = true) (hk : KidsIn ts ts.length) (F : Forest Q w' pt ts ts.length) (hT : TreeFor ts T) : SpG (fun b => b < w'.heap.size) w' T (pt (ts.length - 1)) ∧ T.cnt ≤ 20000 := by
  obtain ⟨hfl, hP⟩ := hT ht
  have hc : T.cnt ≤ 20000 := by rw [← T.flat_len 0, hfl]; exact len_of ht
  exact ⟨((forest_root hk F hfl).toG (all_mono node_var hP) hc).weak (fun b hb _ => hb), hc⟩
set_option maxRecDepth 20000 in
set_option maxHeartbeats 8000000 in
theorem specLift_any (v : Value) (ts : List Td) (T : Tt) (f by' : Int) (w : World) (hns : TNodesAt w v ts) (hsz : ∀ td ∈ ts, TLens td) (hlv : ∀ td ∈ ts, td.lv.length ≤ 1048576) (hT : TreeFor ts T) :
    Calls Tryz.prog 26 #[.agg #[v], .int .i64 f, .int .i64 by'] w fun e w' => SOut w.heap.size w' e (liftA ts T f by') ∧ Below w.heap.size w w' := by
  obtain ⟨A, hA⟩ : ∃ A, A = liftA ts T f by' := ⟨_, rfl⟩
  rw [← hA]
  have HAA := hide hA
  clear hA
  obtain ⟨W, hW⟩ : ∃ W, W = (w.alloc (.cells #[v] 28)).alloc (.cells #[.slice none 0 0] 28) := ⟨_, rfl⟩
  have hbW : Below w.heap.size w W := by rw [hW]; exact bel_alloc (bel_alloc (Below.refl w.heap.size w) _) _
  have HT := hide (l3TreeF_any v ts W (hns.keep hbW) hsz hlv)
  have HBW := hide hbW
  have HTT := hide hT
  obtain ⟨a, cap, rfl, _, _, _⟩ := hns
  have c0 : W.cell? ⟨w.heap.size, 0, none⟩ = some (.slice a ts.length cap) := by rw [hW]; simp [go_sem]
  have HR : Hid (W.heap[w.heap.size + 1]? = some (.cells #[.slice none 0 0] 28 (0, 0))) := by show _ = _; rw [hW]; exact heap_alloc_at _ _ (by simp)
  have l0 := lt_cell c0
  clear hsz hlv hbW hT
  go_enter Tryz.func26, Tryz.ntmps26
  go_upto_region 1 with fail
  rw [← hW]
  clear hW
  go_wp2_with fail
  refine HT.out.mono ?_
  rintro e w3 ⟨he, hb3⟩
  have hrl : w.heap.size + 1 < W.heap.size := (Array.getElem?_eq_some_iff.1 HR.out).1
  have HR3 : Hid (w3.heap[w.heap.size + 1]? = some (.cells #[.slice none 0 0] 28 (0, 0))) := by show _ = _; rw [hb3.block _ hrl]; exact HR.out
  have HB3 := hide (bel_trans HBW.out hb3)
  have hWs := HBW.out.size
  clear hb3 c0 l0 HT
  have c3 : w3.cell? ⟨w.heap.size + 1, 0, none⟩ = some (.slice none 0 0) := by rw [Lib.cell_of_heap HR3.out]; rfl
  have f3 : w3.frozen? ⟨w.heap.size + 1, 0, none⟩ = false := Lib.frozen_of_heap HR3.out 0
  have l3 := lt_cell c3
  have HBAD : Hid (∀ w', w' = w3.setCell ⟨w.heap.size + 1, 0, none⟩ (.slice none 0 0) → SOut w.heap.size w' (.returned (.tuple #[.agg #[.slice none 0 0], .int .i64 1])) ([], 1) ∧ Below w.heap.size w w') := fun w' hw' => by
    subst hw'
    exact ⟨⟨_, rfl, frt_nil _ _⟩, HB3.out.setCell (p := ⟨_, _, _⟩) (by show _ ≤ w.heap.size + 1; omega) _⟩
  rcases he with ⟨ht, rfl⟩ | ⟨ht, hkin, pt, Q, rfl, hf3, _⟩
  · have HE : Hid (A = ([], 1)) := by show _ = _; rw [HAA.out]; unfold liftA; rw [if_neg (by simp [ht])]
    have HN := hide (tnone_none w3)
    clear ht
    go_wp2_with (go_at_call 48; refine HN.out.mono ?_; rintro e w4 ⟨rfl, hw⟩; have hw := hw.symm; subst hw)
    exact bodyPost_ret (v := .tuple #[.agg #[.slice none 0 0], .int .i64 1]) (by simp [results, Tryz.results26, go_sem, c3]) rfl (by rw [HE.out]; exact HBAD.out _ rfl)
  · obtain ⟨hsp, hcnt⟩ := tree_root ht hkin hf3 HTT.out
    have hP := (HTT.out ht).2
    generalize pt (ts.length - 1) = rb at *
    have HN := hide (tnone_some ⟨rb, 0, none⟩ w3)
    by_cases h1 : f < 0
    · have HE : Hid (A = ([], 1)) := by show _ = _; rw [HAA.out]; unfold liftA; rw [if_neg (by omega)]
      have d1 : decide (f < 0) = true := by simp [h1]
      clear h1 hsp hP hf3
      go_wp2_with (go_at_call 48; refine HN.out.mono ?_; rintro e w4 ⟨rfl, hw⟩; have hw := hw.symm; subst hw)
      exact bodyPost_ret (v := .tuple #[.agg #[.slice none 0 0], .int .i64 1]) (by simp [results, Tryz.results26, go_sem, c3]) rfl (by rw [HE.out]; exact HBAD.out _ rfl)
    have d1 : decide (f < 0) = false := by simp; omega
    by_cases h2 : 20000 < f
    · have HE : Hid (A = ([], 1)) := by show _ = _; rw [HAA.out]; unfold liftA; rw [if_neg (by omega)]
      have d2 : decide (20000 < f) = true := by simp [h2]
      clear h1 h2 hsp hP hf3
      go_wp2_with (go_at_call 48; refine HN.out.mono ?_; rintro e w4 ⟨rfl, hw⟩; have hw := hw.symm; subst hw)
      exact bodyPost_ret (v := .tuple #[.agg #[.slice none 0 0], .int .i64 1]) (by simp [results, Tryz.results26, go_sem, c3]) rfl (by rw [HE.out]; exact HBAD.out _ rfl)
    have d2 : decide (20000 < f) = false := by simp; omega
    by_cases h3 : by' < 0
    · have HE : Hid (A = ([], 1)) := by show _ = _; rw [HAA.out]; unfold liftA; rw [if_neg (by omega)]
      have d3 : decide (by' < 0) = true := by simp [h3]
      clear h1 h2 h3 hsp hP hf3
      go_wp2_with (go_at_call 48; refine HN.out.mono ?_; rintro e w4 ⟨rfl, hw⟩; have hw := hw.symm; subst hw)
      exact bodyPost_ret (v := .tuple #[.agg #[.slice none 0 0], .int .i64 1]) (by simp [results, Tryz.results26, go_sem, c3]) rfl (by rw [HE.out]; exact HBAD.out _ rfl)
    have d3 : decide (by' < 0) = false := by simp; omega
    by_cases h4 : 20000 < by'
    · have HE : Hid (A = ([], 1)) := by show _ = _; rw [HAA.out]; unfold liftA; rw [if_neg (by omega)]
      have d4 : decide (20000 < by') = true := by simp [h4]
      clear h1 h2 h3 h4 hsp hP hf3
      go_wp2_with (go_at_call 48; refine HN.out.mono ?_; rintro e w4 ⟨rfl, hw⟩; have hw := hw.symm; subst hw)
      exact bodyPost_ret (v := .tuple #[.agg #[.slice none 0 0], .int .i64 1]) (by simp [results, Tryz.results26, go_sem, c3]) rfl (by rw [HE.out]; exact HBAD.out _ rfl)
    have d4 : decide (20000 < by') = false := by simp; omega
    have HE : Hid (A = ansT (fitT (liftR by' T f))) := by show _ = _; rw [HAA.out]; unfold liftA; rw [if_pos ⟨ht, by omega⟩]
    have HL := hide (l3Lift_all by' (by omega) w3.heap.size T.cnt T rb f w3 (Nat.le_refl _) hsp (Nat.le_refl _) hP hcnt (by omega) (by omega))
    have HAN := hide (fun (p' : Nat) (w' : World) (Q' : Nat → Prop) (h : SpG Q' w' (liftR by' T f) p') => l3Answer_any Q' (liftR by' T f) p' w' h (lift_leaf by' T f (all_mono node_leaf hP)) (lift_lev by' T f (all_mono node_lev hP)))
    clear h1 h2 h3 h4 hsp hP hf3 ht HAA
    go_wp2_with (first
      | (go_at_call 48; refine HN.out.mono ?_; rintro e w4 ⟨rfl, hw⟩; have hw := hw.symm; subst hw)
      | fail)
    refine HL.out.mono ?_
    rintro e w4 ⟨p4, rfl, hs4, hb4⟩
    have HAN4 := hide (HAN.out p4 w4 _ hs4)
    have HR4 : Hid (w4.heap[w.heap.size + 1]? = some (.cells #[.slice none 0 0] 28 (0, 0))) := by show _ = _; rw [hb4.block _ l3]; exact HR3.out
    have HB4 := hide (bel_trans HB3.out hb4)
    clear hs4 hb4 c3 f3 l3 HL HR3 HAN
    unfold ptrV
    go_wp2_with fail
    refine HAN4.out.mono ?_
    rintro e w5 ⟨⟨v5, rfl, hv5⟩, hb5⟩
    obtain ⟨va, vc, rfl⟩ := hv5.form
    have hl4 : w.heap.size + 1 < w4.heap.size := (Array.getElem?_eq_some_iff.1 HR4.out).1
    have hr5 : w5.heap[w.heap.size + 1]? = some (.cells #[.slice none 0 0] 28 (0, 0)) := by rw [hb5.block _ hl4]; exact HR4.out
    have c5 : w5.cell? ⟨w.heap.size + 1, 0, none⟩ = some (.slice none 0 0) := by rw [Lib.cell_of_heap hr5]; rfl
    have f5 : w5.frozen? ⟨w.heap.size + 1, 0, none⟩ = false := Lib.frozen_of_heap hr5 0
    have l5 := lt_cell c5
    have HB5 := hide (bel_trans HB4.out hb5)
    have HV5 := hide hv5
    have hw4 := HB4.out.size
    generalize ansT (fitT (liftR by' T f)) = rr at *
    clear hv5 hb5 HAN4 hr5
    go_wp2_with fail
    refine bodyPost_ret (v := .tuple #[.agg #[.slice va rr.1.length vc], .int .i64 rr.2]) (by simp [results, Tryz.results26, go_sem, c5]) rfl ⟨⟨_, by rw [HE.out], ?_⟩, ?_⟩
    · rw [HE.out]
      exact HV5.out.low hw4 (p := ⟨_, _, _⟩) (by show w.heap.size + 1 < _; omega) _
    · exact HB5.out.setCell (p := ⟨_, _, _⟩) (by show _ ≤ w.heap.size + 1; omega) _
end Go.Proofs.YtjkkojefpecbfaaGreat
