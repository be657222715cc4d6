/- The walk of the law FnExactNamesOf. -/
import Derived.Test.YtpmpooekpeocdaaGreatNaC
import Derived.Test.YtpmpooekpeocdaaGreatNaE
import Derived.Test.YtpmpooekpeocdaaGreatDcC
import Derived.Test.YtpmpooekpeocdaaGreatDcW
namespace Go.Proofs.YtpmpooekpeocdaaGreat
open Go.ChangeShapes Go.WideShapes Go.ChangeAt Go.RowKit

theorem namesA_len (d : Dc) : (namesA d).length ≤ 22 := by
  unfold namesA
  split
  · rename_i h
    have := (decl_small h).2
    unfold namesD
    split
    · decide
    · split
      · simp; omega
      · simp
  · simp
theorem costC_sum (cs : List Ct) : costC cs ≤ cs.length + 4 * sumL ctSize cs := by
  induction cs with
  | nil => simp [costC]
  | cons x a ih =>
    have h1 := costT_sum x.t
    have h2 : ctSize x = x.s.size + tmSize x.t := rfl
    have h3 : tmSize x.t = x.t.length + sumL tdSize x.t := rfl
    simp only [costC, sumL, List.length_cons]
    omega
theorem costD_sum (d : Dc) (h : dcSize d ≤ 1048576) : costD d ≤ 5000000 := by
  have h1 := costT_sum d.t
  have h2 := costT_sum d.v
  have h3 := costC_sum d.cs
  have h4 : tmSize d.t = d.t.length + sumL tdSize d.t := rfl
  have h5 : tmSize d.v = d.v.length + sumL tdSize d.v := rfl
  unfold dcSize at h
  unfold costD
  omega
/-- A row of texts whose block lies within a range. -/
def OwnQ (lo hi : Nat) (w : World) (v : Value) (ks : List ByteArray) : Prop := OwnS lo w v ks ∧ ∀ b, v.ownBlock = some b → b < hi
theorem OwnQ.keep {lo hi : Nat} {w w' : World} {v : Value} {ks : List ByteArray} (h : OwnQ lo hi w v ks) (hb : Below w.heap.size w w') : OwnQ lo hi w' v ks := ⟨h.1.keep hb, h.2⟩
theorem OwnQ.of {lo : Nat} {w : World} {v : Value} {ks : List ByteArray} (h : OwnS lo w v ks) : OwnQ lo w.heap.size w v ks := ⟨h, fun b hb => (World.ownsRow.lt h b hb).2⟩
theorem OwnQ.chg {lo hi l2 h2 : Nat} {w w' : World} {v : Value} {ks : List ByteArray} (h : OwnQ lo hi w v ks) (hc : Chg l2 h2 w w') (hd : hi ≤ l2 ∨ h2 ≤ lo) : OwnQ lo hi w' v ks :=
  ⟨row_same h.1 (fun g hg => hc.out (by have := (World.ownsRow.lt h.1 g hg).1; have := h.2 g hg; omega) (World.ownsRow.lt h.1 g hg).2), h.2⟩
/-- What stays known: the law's argument, the two answers, and the copy that was handed in. -/
structure NaSt (w cur : World) (cx cy : Array Value) (s4 s5 s6 s7 b5 : Nat) (v4 v6 : Value) (ws gs : List ByteArray) : Prop where
  bel : Below w.heap.size w cur
  big : s7 ≤ cur.heap.size
  a4 : OwnQ s4 s5 cur v4 ws
  a6 : OwnQ s6 s7 cur v6 gs
  hx : cur.heap[w.heap.size]? = some (.cells cx 28 (0, 0))
  hy : cur.heap[b5]? = some (.cells cy 36 (0, 0))
section
variable {w cur cur' : World} {cx cy : Array Value} {s4 s5 s6 s7 b5 : Nat} {v4 v6 : Value} {ws gs gs' : List ByteArray}
theorem NaSt.keep (h : NaSt w cur cx cy s4 s5 s6 s7 b5 v4 v6 ws gs) (hb : Below cur.heap.size cur cur') : NaSt w cur' cx cy s4 s5 s6 s7 b5 v4 v6 ws gs :=
  ⟨bel_trans h.bel hb, by have := hb.size; have := h.big; omega, h.a4.keep hb, h.a6.keep hb, (hb.block _ (Array.getElem?_eq_some_iff.1 h.hx).1).trans h.hx, (hb.block _ (Array.getElem?_eq_some_iff.1 h.hy).1).trans h.hy⟩
theorem NaSt.chg {lo hi : Nat} (h : NaSt w cur cx cy s4 s5 s6 s7 b5 v4 v6 ws gs) (hw : w.heap.size < lo) (h1 : s5 ≤ lo) (h2 : hi ≤ b5) (h3 : hi ≤ s6) (hc : Chg lo hi cur cur') : NaSt w cur' cx cy s4 s5 s6 s7 b5 v4 v6 ws gs :=
  ⟨h.bel.trans (hc.1.mono (by omega)), by have := hc.1.size; have := h.big; omega, h.a4.chg hc (.inl h1), h.a6.chg hc (.inr h3), (hc.out (.inl hw) (Array.getElem?_eq_some_iff.1 h.hx).1).trans h.hx, (hc.out (.inr h2) (Array.getElem?_eq_some_iff.1 h.hy).1).trans h.hy⟩
theorem NaSt.mark (h : NaSt w cur cx cy s4 s5 s6 s7 b5 v4 v6 ws gs) (hw : w.heap.size < s6) (h1 : s5 ≤ s6) (h2 : b5 < s6) (hk : OwnS s6 cur' v6 gs') (hc : Chg s6 s7 cur cur') : NaSt w cur' cx cy s4 s5 s6 s7 b5 v4 v6 ws gs' :=
  ⟨h.bel.trans (hc.1.mono (by omega)), by have := hc.1.size; have := h.big; omega, h.a4.chg hc (.inl h1), ⟨hk, h.a6.2⟩, (hc.out (.inl hw) (Array.getElem?_eq_some_iff.1 h.hx).1).trans h.hx, (hc.out (.inl h2) (Array.getElem?_eq_some_iff.1 h.hy).1).trans h.hy⟩
end
set_option maxRecDepth 100000 in
set_option maxHeartbeats 8000000 in
theorem na_walk (S : SortS) (d : Dc) (pv tv vv cv : Value) (w : World) (hd : DeclAt w pv tv vv cv d) (hz : DcLens d) :
    Calls Tryz.prog 4 #[declV d pv tv vv cv] w fun e w' => e = .returned (.bool true) ∧ Below w.heap.size w w' := by
  obtain ⟨pa, pc, hpv⟩ : ∃ a c, pv = .slice a d.ps.length c := by obtain ⟨a, c, h, _⟩ := hd.ps; exact ⟨a, c, h⟩
  obtain ⟨ta, tc, htv⟩ := hd.t.form
  obtain ⟨va, vc, hvv⟩ := hd.v.form
  obtain ⟨ca, cc, hcv⟩ := hd.cs.form
  subst hpv htv hvv hcv
  have HN := hide hd
  have HZ := hide hz
  obtain ⟨W, hW⟩ : ∃ W, W = w.alloc (.cells #[.int .i64 d.k, .string d.s, .slice pa d.ps.length pc, .slice ta d.t.length tc, .slice va d.v.length vc, .int .i64 d.f, .slice ca d.cs.length cc] 28) := ⟨_, rfl⟩
  have HBW := hide (show Below w.heap.size w W by rw [hW]; exact bel_alloc (Below.refl _ _) _)
  have HX0 : Hid (W.heap[w.heap.size]? = some (.cells #[.int .i64 d.k, .string d.s, .slice pa d.ps.length pc, .slice ta d.t.length tc, .slice va d.v.length vc, .int .i64 d.f, .slice ca d.cs.length cc] 28 (0, 0))) := by show _ = _; rw [hW]; exact heap_alloc_new w _
  have c0 : W.cell? ⟨w.heap.size, 0, none⟩ = some (.int .i64 d.k) := by rw [Lib.cell_of_heap HX0.out]; rfl
  have c1 : W.cell? ⟨w.heap.size, 1, none⟩ = some (.string d.s) := by rw [Lib.cell_of_heap HX0.out]; rfl
  have c2 : W.cell? ⟨w.heap.size, 2, none⟩ = some (.slice pa d.ps.length pc) := by rw [Lib.cell_of_heap HX0.out]; rfl
  have c3 : W.cell? ⟨w.heap.size, 3, none⟩ = some (.slice ta d.t.length tc) := by rw [Lib.cell_of_heap HX0.out]; rfl
  have c4 : W.cell? ⟨w.heap.size, 4, none⟩ = some (.slice va d.v.length vc) := by rw [Lib.cell_of_heap HX0.out]; rfl
  have c5 : W.cell? ⟨w.heap.size, 5, none⟩ = some (.int .i64 d.f) := by rw [Lib.cell_of_heap HX0.out]; rfl
  have c6 : W.cell? ⟨w.heap.size, 6, none⟩ = some (.slice ca d.cs.length cc) := by rw [Lib.cell_of_heap HX0.out]; rfl
  have cl := lt_cell c0
  clear hz hd
  have HSZ := hide (szDecl_any d _ _ _ _ 1048576 W HZ.out (HN.out.keep HBW.out) (by omega) (by omega))
  unfold declV at HSZ ⊢
  by_cases hbig : (1048576 : Int) < (dcSize d : Nat)
  · have HL : Hid (leftOf 1048576 (dcSize d) = -1) := by show leftOf _ _ = _; rw [leftOf, if_pos hbig]
    clear hbig
    rw [HL.out] at HSZ
    go_enter Tryz.func4, Tryz.ntmps4
    go_upto_region 1 with fail
    rw [← hW]
    clear hW
    go_wp2_with fail
    refine HSZ.out.mono ?_
    rintro e w1 ⟨rfl, hb1⟩
    have hbel1 := bel_trans HBW.out hb1
    clear hb1
    go_wp2_with fail
    go_ret
    exact ⟨rfl, hbel1⟩
  obtain ⟨M, hM⟩ : ∃ M : Int, M = 1048576 - (dcSize d : Nat) := ⟨_, rfl⟩
  have hM0 : 0 ≤ M := by omega
  have HL : Hid (leftOf 1048576 (dcSize d) = M) := by show leftOf _ _ = _; rw [leftOf, if_neg hbig, hM]
  have hle : dcSize d ≤ 1048576 := by omega
  have dM : decide (M < 0) = false := by simp; omega
  have HCT := hide (costD_sum d hle)
  have HSM := hide (dw_small hle)
  obtain ⟨hs, hhs⟩ : ∃ hs, hs = namesA d := ⟨_, rfl⟩
  have hl : hs.length ≤ 22 := by rw [hhs]; exact namesA_len d
  have HSP : Hid (∀ (p t v c : Value) (w : World), DeclAt w p t v c d → Calls Tryz.prog 15 #[declV d p t v c] w fun e w' => (∃ v', e = .returned v' ∧ OwnS w.heap.size w' v' hs) ∧ Below w.heap.size w w') := fun p t v c w h => by rw [hhs]; exact specNames_any d p t v c w HZ.out (dw_v hle) h
  have HIM : Hid (∀ (p t v c : Value) (w : World), DeclAt w p t v c d → Calls Tryz.prog 16 #[declV d p t v c] w fun e w' => (∃ v', e = .returned v' ∧ OwnS w.heap.size w' v' hs) ∧ Below w.heap.size w w') := fun p t v c w h => by rw [hhs]; exact implNames_any S d p t v c w HZ.out (dw_s hle) h
  have HCP := hide (fun (p t v c : Value) (w : World) (h : DeclAt w p t v c d) => toDecl_own d p t v c w h (dw_small hle))
  have HEQ := hide (fun (p1 t1 v1 c1 p2 t2 v2 c2 : Value) (w : World) (h1 : DeclAt w p1 t1 v1 c1 d) (h2 : DeclAt w p2 t2 v2 c2 d) => eqDecl_any d p1 t1 v1 c1 p2 t2 v2 c2 w h1 h2)
  rw [HL.out] at HSZ
  clear hbig hM hle HL hhs
  unfold declV at HSP HIM HCP HEQ
  go_enter Tryz.func4, Tryz.ntmps4
  go_upto_region 1 with fail
  rw [← hW]
  clear hW
  go_wp2_with fail
  refine HSZ.out.mono ?_
  rintro e w1 ⟨rfl, hb1⟩
  have HB := hide (bel_trans HBW.out hb1)
  have HX : Hid (w1.heap[w.heap.size]? = some (.cells #[.int .i64 d.k, .string d.s, .slice pa d.ps.length pc, .slice ta d.t.length tc, .slice va d.v.length vc, .int .i64 d.f, .slice ca d.cs.length cc] 28 (0, 0))) := (hb1.block _ cl).trans HX0.out
  clear hb1 HX0 HBW HSZ c0 c1 c2 c3 c4 c5 c6 cl
  have c0 : w1.cell? ⟨w.heap.size, 0, none⟩ = some (.int .i64 d.k) := by rw [Lib.cell_of_heap HX.out]; rfl
  have c1 : w1.cell? ⟨w.heap.size, 1, none⟩ = some (.string d.s) := by rw [Lib.cell_of_heap HX.out]; rfl
  have c2 : w1.cell? ⟨w.heap.size, 2, none⟩ = some (.slice pa d.ps.length pc) := by rw [Lib.cell_of_heap HX.out]; rfl
  have c3 : w1.cell? ⟨w.heap.size, 3, none⟩ = some (.slice ta d.t.length tc) := by rw [Lib.cell_of_heap HX.out]; rfl
  have c4 : w1.cell? ⟨w.heap.size, 4, none⟩ = some (.slice va d.v.length vc) := by rw [Lib.cell_of_heap HX.out]; rfl
  have c5 : w1.cell? ⟨w.heap.size, 5, none⟩ = some (.int .i64 d.f) := by rw [Lib.cell_of_heap HX.out]; rfl
  have c6 : w1.cell? ⟨w.heap.size, 6, none⟩ = some (.slice ca d.cs.length cc) := by rw [Lib.cell_of_heap HX.out]; rfl
  have cl := lt_cell c0
  go_wp2_with fail
  refine (HCP.out _ _ _ _ _ (HN.out.keep HB.out)).mono ?_
  rintro e w2 ⟨gp2, gt2, gv2, gc2, rfl, hf2, hb2⟩
  have HN2 := hide hf2.decl
  have HB := hide (bel_trans HB.out hb2)
  have HX : Hid (w2.heap[w.heap.size]? = some (.cells #[.int .i64 d.k, .string d.s, .slice pa d.ps.length pc, .slice ta d.t.length tc, .slice va d.v.length vc, .int .i64 d.f, .slice ca d.cs.length cc] 28 (0, 0))) := (hb2.block _ cl).trans HX.out
  clear hb2 hf2 c0 c1 c2 c3 c4 c5 c6 cl
  have c0 : w2.cell? ⟨w.heap.size, 0, none⟩ = some (.int .i64 d.k) := by rw [Lib.cell_of_heap HX.out]; rfl
  have c1 : w2.cell? ⟨w.heap.size, 1, none⟩ = some (.string d.s) := by rw [Lib.cell_of_heap HX.out]; rfl
  have c2 : w2.cell? ⟨w.heap.size, 2, none⟩ = some (.slice pa d.ps.length pc) := by rw [Lib.cell_of_heap HX.out]; rfl
  have c3 : w2.cell? ⟨w.heap.size, 3, none⟩ = some (.slice ta d.t.length tc) := by rw [Lib.cell_of_heap HX.out]; rfl
  have c4 : w2.cell? ⟨w.heap.size, 4, none⟩ = some (.slice va d.v.length vc) := by rw [Lib.cell_of_heap HX.out]; rfl
  have c5 : w2.cell? ⟨w.heap.size, 5, none⟩ = some (.int .i64 d.f) := by rw [Lib.cell_of_heap HX.out]; rfl
  have c6 : w2.cell? ⟨w.heap.size, 6, none⟩ = some (.slice ca d.cs.length cc) := by rw [Lib.cell_of_heap HX.out]; rfl
  have cl := lt_cell c0
  go_wp2_with fail
  refine (HSP.out _ _ _ _ _ HN2.out).mono ?_
  rintro e w3 ⟨⟨v4, rfl, ho4⟩, hb3⟩
  have HB := hide (bel_trans HB.out hb3)
  have HX : Hid (w3.heap[w.heap.size]? = some (.cells #[.int .i64 d.k, .string d.s, .slice pa d.ps.length pc, .slice ta d.t.length tc, .slice va d.v.length vc, .int .i64 d.f, .slice ca d.cs.length cc] 28 (0, 0))) := (hb3.block _ cl).trans HX.out
  have HA4 := hide (OwnQ.of ho4)
  have o1 := hb3.size
  have hx0 : w.heap.size < w3.heap.size := by omega
  obtain ⟨a4, q4, rfl⟩ := row_form ho4
  clear hb3 ho4 HN2 HSP c0 c1 c2 c3 c4 c5 c6 cl
  have c0 : w3.cell? ⟨w.heap.size, 0, none⟩ = some (.int .i64 d.k) := by rw [Lib.cell_of_heap HX.out]; rfl
  have c1 : w3.cell? ⟨w.heap.size, 1, none⟩ = some (.string d.s) := by rw [Lib.cell_of_heap HX.out]; rfl
  have c2 : w3.cell? ⟨w.heap.size, 2, none⟩ = some (.slice pa d.ps.length pc) := by rw [Lib.cell_of_heap HX.out]; rfl
  have c3 : w3.cell? ⟨w.heap.size, 3, none⟩ = some (.slice ta d.t.length tc) := by rw [Lib.cell_of_heap HX.out]; rfl
  have c4 : w3.cell? ⟨w.heap.size, 4, none⟩ = some (.slice va d.v.length vc) := by rw [Lib.cell_of_heap HX.out]; rfl
  have c5 : w3.cell? ⟨w.heap.size, 5, none⟩ = some (.int .i64 d.f) := by rw [Lib.cell_of_heap HX.out]; rfl
  have c6 : w3.cell? ⟨w.heap.size, 6, none⟩ = some (.slice ca d.cs.length cc) := by rw [Lib.cell_of_heap HX.out]; rfl
  have cl := lt_cell c0
  go_wp2_with fail
  refine (HCP.out _ _ _ _ _ (HN.out.keep HB.out)).mono ?_
  rintro e w4 ⟨gp, gt, gv, gc, rfl, hf5, hb5⟩
  have HB := hide (bel_trans HB.out hb5)
  have HX : Hid (w4.heap[w.heap.size]? = some (.cells #[.int .i64 d.k, .string d.s, .slice pa d.ps.length pc, .slice ta d.t.length tc, .slice va d.v.length vc, .int .i64 d.f, .slice ca d.cs.length cc] 28 (0, 0))) := (hb5.block _ cl).trans HX.out
  have HA4 := hide (HA4.out.keep hb5)
  have HY := hide hf5
  have o2 := hb5.size
  clear hb5 hf5 c0 c1 c2 c3 c4 c5 c6 cl
  obtain ⟨W5, hW5⟩ : ∃ W5, W5 = w4.alloc (.cells #[.int .i64 d.k, .string d.s, .slice (some ⟨gp, 0, none⟩) d.ps.length d.ps.length, .slice (some ⟨gt, 0, none⟩) d.t.length d.t.length, .slice (some ⟨gv, 0, none⟩) d.v.length d.v.length, .int .i64 d.f, .slice (some ⟨gc, 0, none⟩) d.cs.length d.cs.length] 36) := ⟨_, rfl⟩
  have hbW : Below w4.heap.size w4 W5 := by rw [hW5]; exact bel_alloc (Below.refl _ _) _
  have HX5 : Hid (W5.heap[w4.heap.size]? = some (.cells #[.int .i64 d.k, .string d.s, .slice (some ⟨gp, 0, none⟩) d.ps.length d.ps.length, .slice (some ⟨gt, 0, none⟩) d.t.length d.t.length, .slice (some ⟨gv, 0, none⟩) d.v.length d.v.length, .int .i64 d.f, .slice (some ⟨gc, 0, none⟩) d.cs.length d.cs.length] 36 (0, 0))) := by show _ = _; rw [hW5]; exact heap_alloc_new w4 _
  have HX : Hid (W5.heap[w.heap.size]? = some (.cells #[.int .i64 d.k, .string d.s, .slice pa d.ps.length pc, .slice ta d.t.length tc, .slice va d.v.length vc, .int .i64 d.f, .slice ca d.cs.length cc] 28 (0, 0))) := (hbW.block _ (Array.getElem?_eq_some_iff.1 HX.out).1).trans HX.out
  have HB := hide (bel_trans HB.out hbW)
  have HA4 := hide (HA4.out.keep hbW)
  have HY := hide (HY.out.keep hbW (Nat.le_refl _))
  have e0 : W5.cell? ⟨w4.heap.size, 0, none⟩ = some (.int .i64 d.k) := by rw [Lib.cell_of_heap HX5.out]; rfl
  have e1 : W5.cell? ⟨w4.heap.size, 1, none⟩ = some (.string d.s) := by rw [Lib.cell_of_heap HX5.out]; rfl
  have e2 : W5.cell? ⟨w4.heap.size, 2, none⟩ = some (.slice (some ⟨gp, 0, none⟩) d.ps.length d.ps.length) := by rw [Lib.cell_of_heap HX5.out]; rfl
  have e3 : W5.cell? ⟨w4.heap.size, 3, none⟩ = some (.slice (some ⟨gt, 0, none⟩) d.t.length d.t.length) := by rw [Lib.cell_of_heap HX5.out]; rfl
  have e4 : W5.cell? ⟨w4.heap.size, 4, none⟩ = some (.slice (some ⟨gv, 0, none⟩) d.v.length d.v.length) := by rw [Lib.cell_of_heap HX5.out]; rfl
  have e5 : W5.cell? ⟨w4.heap.size, 5, none⟩ = some (.int .i64 d.f) := by rw [Lib.cell_of_heap HX5.out]; rfl
  have e6 : W5.cell? ⟨w4.heap.size, 6, none⟩ = some (.slice (some ⟨gc, 0, none⟩) d.cs.length d.cs.length) := by rw [Lib.cell_of_heap HX5.out]; rfl
  have el := lt_cell e0
  go_upto_region 7 with fail
  rw [← hW5]
  clear hW5 hbW
  go_wp2_with fail
  refine (HIM.out _ _ _ _ _ HY.out.decl).mono ?_
  rintro e w6 ⟨⟨v6, rfl, ho6⟩, hb6⟩
  have o4 := hb6.size
  have HE : Hid (NaSt w w6 #[.int .i64 d.k, .string d.s, .slice pa d.ps.length pc, .slice ta d.t.length tc, .slice va d.v.length vc, .int .i64 d.f, .slice ca d.cs.length cc] #[.int .i64 d.k, .string d.s, .slice (some ⟨gp, 0, none⟩) d.ps.length d.ps.length, .slice (some ⟨gt, 0, none⟩) d.t.length d.t.length, .slice (some ⟨gv, 0, none⟩) d.v.length d.v.length, .int .i64 d.f, .slice (some ⟨gc, 0, none⟩) d.cs.length d.cs.length] w2.heap.size w3.heap.size W5.heap.size w6.heap.size w4.heap.size (.slice a4 hs.length q4) v6 hs hs) := ⟨bel_trans HB.out hb6, Nat.le_refl _, HA4.out.keep hb6, OwnQ.of ho6, (hb6.block _ (Array.getElem?_eq_some_iff.1 HX.out).1).trans HX.out, (hb6.block _ el).trans HX5.out⟩
  have HY := hide (HY.out.keep hb6 (by omega))
  obtain ⟨a6, q6, rfl⟩ := row_form ho6
  obtain ⟨b5, hb5⟩ : ∃ b5, b5 = w4.heap.size := ⟨_, rfl⟩
  have HB5 := hide hb5
  rw [← hb5] at HE el ⊢
  have o5 : b5 < W5.heap.size := el
  have o6 : w4.heap.size ≤ b5 := by omega
  clear hb6 ho6 HB HA4 HX HX5 hb5 e0 e1 e2 e3 e4 e5 e6 el
  go_wp2_with fail
  refine (eqStringS_any _ _ hs _ HE.out.a6.1.strs HE.out.a4.1.strs).mono ?_
  rintro e w7 ⟨rfl, n7, rfl⟩
  have hb7 := below_drewN (Below.refl w6.heap.size w6) n7
  have HE := hide (HE.out.keep hb7)
  have HY := hide (HY.out.keep hb7 (by omega))
  clear hb7
  generalize w6.drewN n7 = w7 at *
  have e0 : w7.cell? ⟨b5, 0, none⟩ = some (.int .i64 d.k) := by rw [Lib.cell_of_heap HE.out.hy]; rfl
  have e1 : w7.cell? ⟨b5, 1, none⟩ = some (.string d.s) := by rw [Lib.cell_of_heap HE.out.hy]; rfl
  have e2 : w7.cell? ⟨b5, 2, none⟩ = some (.slice (some ⟨gp, 0, none⟩) d.ps.length d.ps.length) := by rw [Lib.cell_of_heap HE.out.hy]; rfl
  have e3 : w7.cell? ⟨b5, 3, none⟩ = some (.slice (some ⟨gt, 0, none⟩) d.t.length d.t.length) := by rw [Lib.cell_of_heap HE.out.hy]; rfl
  have e4 : w7.cell? ⟨b5, 4, none⟩ = some (.slice (some ⟨gv, 0, none⟩) d.v.length d.v.length) := by rw [Lib.cell_of_heap HE.out.hy]; rfl
  have e5 : w7.cell? ⟨b5, 5, none⟩ = some (.int .i64 d.f) := by rw [Lib.cell_of_heap HE.out.hy]; rfl
  have e6 : w7.cell? ⟨b5, 6, none⟩ = some (.slice (some ⟨gc, 0, none⟩) d.cs.length d.cs.length) := by rw [Lib.cell_of_heap HE.out.hy]; rfl
  have el := lt_cell e0
  have c0 : w7.cell? ⟨w.heap.size, 0, none⟩ = some (.int .i64 d.k) := by rw [Lib.cell_of_heap HE.out.hx]; rfl
  have c1 : w7.cell? ⟨w.heap.size, 1, none⟩ = some (.string d.s) := by rw [Lib.cell_of_heap HE.out.hx]; rfl
  have c2 : w7.cell? ⟨w.heap.size, 2, none⟩ = some (.slice pa d.ps.length pc) := by rw [Lib.cell_of_heap HE.out.hx]; rfl
  have c3 : w7.cell? ⟨w.heap.size, 3, none⟩ = some (.slice ta d.t.length tc) := by rw [Lib.cell_of_heap HE.out.hx]; rfl
  have c4 : w7.cell? ⟨w.heap.size, 4, none⟩ = some (.slice va d.v.length vc) := by rw [Lib.cell_of_heap HE.out.hx]; rfl
  have c5 : w7.cell? ⟨w.heap.size, 5, none⟩ = some (.int .i64 d.f) := by rw [Lib.cell_of_heap HE.out.hx]; rfl
  have c6 : w7.cell? ⟨w.heap.size, 6, none⟩ = some (.slice ca d.cs.length cc) := by rw [Lib.cell_of_heap HE.out.hx]; rfl
  have cl := lt_cell c0
  go_wp2_with fail
  go_region_held3 (fun w' : World => w'.cell? ⟨b5, 0, none⟩ = some (.int .i64 d.k) ∧ w'.cell? ⟨b5, 1, none⟩ = some (.string d.s) ∧ w'.cell? ⟨b5, 2, none⟩ = some (.slice (some ⟨gp, 0, none⟩) d.ps.length d.ps.length) ∧ w'.cell? ⟨b5, 3, none⟩ = some (.slice (some ⟨gt, 0, none⟩) d.t.length d.t.length) ∧ w'.cell? ⟨b5, 4, none⟩ = some (.slice (some ⟨gv, 0, none⟩) d.v.length d.v.length) ∧ w'.cell? ⟨b5, 5, none⟩ = some (.int .i64 d.f) ∧ w'.cell? ⟨b5, 6, none⟩ = some (.slice (some ⟨gc, 0, none⟩) d.cs.length d.cs.length) ∧ w'.cell? ⟨w.heap.size, 0, none⟩ = some (.int .i64 d.k) ∧ w'.cell? ⟨w.heap.size, 1, none⟩ = some (.string d.s) ∧ w'.cell? ⟨w.heap.size, 2, none⟩ = some (.slice pa d.ps.length pc) ∧ w'.cell? ⟨w.heap.size, 3, none⟩ = some (.slice ta d.t.length tc) ∧ w'.cell? ⟨w.heap.size, 4, none⟩ = some (.slice va d.v.length vc) ∧ w'.cell? ⟨w.heap.size, 5, none⟩ = some (.int .i64 d.f) ∧ w'.cell? ⟨w.heap.size, 6, none⟩ = some (.slice ca d.cs.length cc))
    (first
      | go_keep
      | (go_split_ands; exact ⟨keep_cell hb9 (by assumption), keep_cell hb9 (by assumption), keep_cell hb9 (by assumption), keep_cell hb9 (by assumption), keep_cell hb9 (by assumption), keep_cell hb9 (by assumption), keep_cell hb9 (by assumption), keep_cell hb9 (by assumption), keep_cell hb9 (by assumption), keep_cell hb9 (by assumption), keep_cell hb9 (by assumption), keep_cell hb9 (by assumption), keep_cell hb9 (by assumption), keep_cell hb9 (by assumption)⟩)
      | (go_split_ands; exact ⟨keep_cell hb8 (by assumption), keep_cell hb8 (by assumption), keep_cell hb8 (by assumption), keep_cell hb8 (by assumption), keep_cell hb8 (by assumption), keep_cell hb8 (by assumption), keep_cell hb8 (by assumption), keep_cell hb8 (by assumption), keep_cell hb8 (by assumption), keep_cell hb8 (by assumption), keep_cell hb8 (by assumption), keep_cell hb8 (by assumption), keep_cell hb8 (by assumption), keep_cell hb8 (by assumption)⟩)
      | fail)
    (first
      | (go_at_call 12; refine (HCP.out _ _ _ _ _ (by exact HN.out.keep HE.out.bel.drew)).mono ?_; rintro e w8 ⟨gp8, gt8, gv8, gc8, rfl, hf8, hb8⟩)
      | (go_at_call 14; refine (HEQ.out _ _ _ _ _ _ _ _ _ (by exact HY.out.decl.keep ((Below.refl w7.heap.size w7).drew.trans hb8)) hf8.decl).mono ?_; rintro e w9 ⟨rfl, hb9⟩)
      | fail)
  have hb79 : Below w7.heap.size w7 w9 := (Below.refl w7.heap.size w7).drew.trans (hb8.trans (hb9.mono hb8.size))
  clear hf8 hb8 hb9 c0 c1 c2 c3 c4 c5 c6 cl e0 e1 e2 e3 e4 e5 e6 el
  have hz7 := HE.out.big
  have HE := hide (HE.out.keep hb79)
  have HY := hide (HY.out.keep hb79 (by omega))
  clear hb79 hz7
  have hz9 := HE.out.big
  have e0 : w9.cell? ⟨b5, 0, none⟩ = some (.int .i64 d.k) := by rw [Lib.cell_of_heap HE.out.hy]; rfl
  have e1 : w9.cell? ⟨b5, 1, none⟩ = some (.string d.s) := by rw [Lib.cell_of_heap HE.out.hy]; rfl
  have e2 : w9.cell? ⟨b5, 2, none⟩ = some (.slice (some ⟨gp, 0, none⟩) d.ps.length d.ps.length) := by rw [Lib.cell_of_heap HE.out.hy]; rfl
  have e3 : w9.cell? ⟨b5, 3, none⟩ = some (.slice (some ⟨gt, 0, none⟩) d.t.length d.t.length) := by rw [Lib.cell_of_heap HE.out.hy]; rfl
  have e4 : w9.cell? ⟨b5, 4, none⟩ = some (.slice (some ⟨gv, 0, none⟩) d.v.length d.v.length) := by rw [Lib.cell_of_heap HE.out.hy]; rfl
  have e5 : w9.cell? ⟨b5, 5, none⟩ = some (.int .i64 d.f) := by rw [Lib.cell_of_heap HE.out.hy]; rfl
  have e6 : w9.cell? ⟨b5, 6, none⟩ = some (.slice (some ⟨gc, 0, none⟩) d.cs.length d.cs.length) := by rw [Lib.cell_of_heap HE.out.hy]; rfl
  have el := lt_cell e0
  have HM1 := hide (markDecl_any w3.heap.size w4.heap.size gp gt gv gc d 1 w9 HY.out (by omega) HSM.out (by omega) (by have := HCT.out; omega))
  rw [show ((1 : Nat) : Int) = 1 from rfl] at HM1
  obtain ⟨K1, hK1⟩ : ∃ K1, K1 = 1 + costD d := ⟨_, rfl⟩
  rw [← hK1] at HM1
  unfold declV at HM1
  have dK : decide ((K1 : Int) < 0) = false := by simp
  clear hK1
  go_wp2_with fail
  refine HM1.out.mono ?_
  rintro e w10 ⟨rfl, hc10⟩
  have HE := hide (HE.out.chg (by omega) (Nat.le_refl _) o6 (by omega) hc10)
  clear hc10 HM1 HY hz9 e0 e1 e2 e3 e4 e5 e6 el
  go_wp2_with fail
  refine (eqStringS_any _ _ hs _ HE.out.a6.1.strs HE.out.a4.1.strs).mono ?_
  rintro e w11 ⟨rfl, n11, rfl⟩
  have HE := hide (HE.out.keep (below_drewN (Below.refl w10.heap.size w10) n11))
  have hz11 := HE.out.big
  generalize w10.drewN n11 = w11 at *
  have HM2 := hide (markStr_any W5.heap.size w6.heap.size _ hs 1 w11 HE.out.a6.1 HE.out.a6.2 (by omega) (by omega) (by omega) (by omega))
  rw [show ((1 : Nat) : Int) = 1 from rfl] at HM2
  obtain ⟨K2, hK2⟩ : ∃ K2, K2 = 1 + hs.length := ⟨_, rfl⟩
  have HK2 := hide hK2
  rw [← hK2] at HM2
  clear hK2
  go_wp2_with fail
  refine HM2.out.mono ?_
  rintro e w12 ⟨rfl, hk12, hg12⟩
  have HE := hide (HE.out.mark (by omega) (by omega) (by omega) hk12 hg12)
  clear hk12 hg12 HM2 hz11
  have HH := hide (show ∀ W, StrsAt W (.slice a6 hs.length q6) (mts 1 hs.length) → Calls Tryz.prog 20 #[.slice a6 hs.length q6, .int .i64 1] W fun e w' => e = .returned (.int .i64 (K2 : Int)) ∧ Below W.heap.size W w' from fun W hW => by
    have := heldStr_any _ hs.length 1 W hW (by omega) (by omega) (by omega)
    rw [← HK2.out] at this
    exact this)
  have hKK : ((K2 : Int) != (K2 : Int)) = false := by simp
  have dK2 : decide ((K2 : Int) < 0) = false := by simp
  go_wp2_with fail
  refine (HH.out _ HE.out.a6.1.strs).mono ?_
  rintro e w13 ⟨rfl, hb13⟩
  have HE := hide (HE.out.keep hb13)
  clear hb13
  have c0 : w13.cell? ⟨w.heap.size, 0, none⟩ = some (.int .i64 d.k) := by rw [Lib.cell_of_heap HE.out.hx]; rfl
  have c1 : w13.cell? ⟨w.heap.size, 1, none⟩ = some (.string d.s) := by rw [Lib.cell_of_heap HE.out.hx]; rfl
  have c2 : w13.cell? ⟨w.heap.size, 2, none⟩ = some (.slice pa d.ps.length pc) := by rw [Lib.cell_of_heap HE.out.hx]; rfl
  have c3 : w13.cell? ⟨w.heap.size, 3, none⟩ = some (.slice ta d.t.length tc) := by rw [Lib.cell_of_heap HE.out.hx]; rfl
  have c4 : w13.cell? ⟨w.heap.size, 4, none⟩ = some (.slice va d.v.length vc) := by rw [Lib.cell_of_heap HE.out.hx]; rfl
  have c5 : w13.cell? ⟨w.heap.size, 5, none⟩ = some (.int .i64 d.f) := by rw [Lib.cell_of_heap HE.out.hx]; rfl
  have c6 : w13.cell? ⟨w.heap.size, 6, none⟩ = some (.slice ca d.cs.length cc) := by rw [Lib.cell_of_heap HE.out.hx]; rfl
  have cl := lt_cell c0
  go_wp2_with fail
  refine (HCP.out _ _ _ _ _ (HN.out.keep HE.out.bel)).mono ?_
  rintro e w14 ⟨gp14, gt14, gv14, gc14, rfl, hn14, hb14⟩
  have HE := hide (HE.out.keep hb14)
  have HN14 := hide hn14.decl
  clear hb14 hn14 c0 c1 c2 c3 c4 c5 c6 cl
  go_wp2_with fail
  refine (HIM.out _ _ _ _ _ HN14.out).mono ?_
  rintro e w15 ⟨⟨v15, rfl, ho15⟩, hb15⟩
  have HE := hide (HE.out.keep hb15)
  have HI15 := hide ho15.strs
  obtain ⟨a15, q15, rfl⟩ := row_form ho15
  clear hb15 ho15 HN14
  go_wp2_with fail
  refine (eqStringS_any _ _ hs _ HI15.out HE.out.a4.1.strs).mono ?_
  rintro e w16 ⟨rfl, n16, rfl⟩
  have HE := hide (HE.out.keep (below_drewN (Below.refl w15.heap.size w15) n16))
  clear HI15
  generalize w15.drewN n16 = w16 at *
  go_wp2_with fail
  refine (HH.out _ HE.out.a6.1.strs).mono ?_
  rintro e w17 ⟨rfl, hb17⟩
  have HE := hide (HE.out.keep hb17)
  clear hb17
  go_wp2_with fail
  go_ret
  exact ⟨rfl, HE.out.bel⟩
end Go.Proofs.YtpmpooekpeocdaaGreat
