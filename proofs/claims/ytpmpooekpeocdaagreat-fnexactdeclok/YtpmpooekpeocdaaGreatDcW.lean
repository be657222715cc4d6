/- The walk of the law FnExactDeclOk. -/
import Derived.Test.YtpmpooekpeocdaaGreatDcT
import Derived.Test.YtpmpooekpeocdaaGreatDcL
import Derived.Test.YtpmpooekpeocdaaGreatDcB
import Derived.Test.YtpmpooekpeocdaaGreatDcC
import Derived.Deep.RegionHeld3
import Derived.Deep.CutRange
import Derived.Deep.Upon
namespace Go.Proofs.YtpmpooekpeocdaaGreat
open Go.ChangeShapes Go.WideShapes Go.ChangeAt Go.RowKit

theorem dw_ns {ns : List Nd} {nd : Nd} (h : nd ∈ ns) : ndSize nd ≤ nsSum ns := by
  induction ns with
  | nil => cases h
  | cons y l ih =>
    simp only [nsSum]
    rcases List.mem_cons.1 h with rfl | h2
    · omega
    · have := ih h2; omega
theorem dw_tsmall {ts : List Td} (h : tmSize ts ≤ 1048576) : ∀ td ∈ ts, TSmall td := by
  intro td htd
  have h1 := sumL_mem tdSize htd
  unfold tmSize at h
  have h2 : tdSize td = td.s.size + (td.lv.length + sumL lvSize td.lv) + td.kids.length := rfl
  refine ⟨by omega, fun l hl => ?_, by omega⟩
  have h3 := sumL_mem lvSize hl
  have h4 : lvSize l = l.length + nsSum l := rfl
  refine ⟨by omega, fun nd hnd => ?_⟩
  have h5 := dw_ns hnd
  have h6 : ndSize nd = nd.s.size + nd.kids.length := rfl
  omega
theorem dw_spell {ts : List Td} (h : tmSize ts ≤ 1048576) : ∀ td ∈ ts, (spell td.lv).length ≤ 1000000000 := by
  intro td htd
  have h1 := sumL_mem tdSize htd
  unfold tmSize at h
  have h2 : tdSize td = td.s.size + (td.lv.length + sumL lvSize td.lv) + td.kids.length := rfl
  have h3 := spell_len td.lv
  omega
theorem dw_ct {d : Dc} (h : dcSize d ≤ 1048576) : ∀ c ∈ d.cs, tmSize c.t ≤ 1048576 := fun c hc => by
  have h1 := sumL_mem ctSize hc
  have h2 : ctSize c = c.s.size + tmSize c.t := rfl
  unfold dcSize at h
  omega
theorem dw_t {d : Dc} (h : dcSize d ≤ 1048576) : tmSize d.t ≤ 1048576 ∧ tmSize d.v ≤ 1048576 ∧ d.ps.length ≤ 1048576 ∧ d.cs.length ≤ 1048576 := by unfold dcSize at h; omega
theorem dw_len {ts : List Td} (h : tmSize ts ≤ 1048576) : ts.length ≤ 1048576 := by unfold tmSize at h; omega
theorem dw_small {d : Dc} (h : dcSize d ≤ 1048576) : DcSmall d :=
  ⟨(dw_t h).2.2.1, ⟨dw_len (dw_t h).1, dw_tsmall (dw_t h).1⟩, ⟨dw_len (dw_t h).2.1, dw_tsmall (dw_t h).2.1⟩, ⟨(dw_t h).2.2.2, fun c hc => ⟨dw_len (dw_ct h c hc), dw_tsmall (dw_ct h c hc)⟩⟩⟩
theorem dw_s {d : Dc} (h : dcSize d ≤ 1048576) : DcS d := ⟨⟨dw_tsmall (dw_t h).1, dw_spell (dw_t h).1⟩, ⟨dw_tsmall (dw_t h).2.1, dw_spell (dw_t h).2.1⟩, fun c hc => ⟨dw_tsmall (dw_ct h c hc), dw_spell (dw_ct h c hc)⟩⟩
theorem dw_v {d : Dc} (h : dcSize d ≤ 1048576) : DcV d := ⟨fun td q => (dw_tsmall (dw_t h).1 td q).1, fun td q => (dw_tsmall (dw_t h).2.1 td q).1, fun c hc td q => (dw_tsmall (dw_ct h c hc) td q).1⟩

set_option maxRecDepth 100000 in
set_option maxHeartbeats 8000000 in
theorem dc_walk (S : SortS) (d : Dc) (pv tv vv cv : Value) (w : World) (hd : DeclAt w pv tv vv cv d) (hz : DcLens d) :
    Calls Tryz.prog 3 #[declV d pv tv vv cv] w fun e w' => e = .returned (.bool true) ∧ Below w.heap.size w w' := by
  obtain ⟨pa, pc, hpv⟩ : ∃ a c, pv = .slice a d.ps.length c := by obtain ⟨a, c, h, _⟩ := hd.ps; exact ⟨a, c, h⟩
  obtain ⟨ta, tc, htv⟩ := hd.t.form
  obtain ⟨va, vc, hvv⟩ := hd.v.form
  obtain ⟨ca, cc, hcv⟩ := hd.cs.form
  subst hpv htv hvv hcv
  have HN := hide hd
  have HZ := hide hz
  obtain ⟨W, hW⟩ : ∃ W, W = w.alloc (.cells #[.int .i64 d.k, .string d.s, .slice pa d.ps.length pc, .slice ta d.t.length tc, .slice va d.v.length vc, .int .i64 d.f, .slice ca d.cs.length cc] 28) := ⟨_, rfl⟩
  have HBW := hide (show Below w.heap.size w W by rw [hW]; exact bel_alloc (Below.refl _ _) _)
  have HX0 : Hid (W.heap[w.heap.size]? = some (.cells #[.int .i64 d.k, .string d.s, .slice pa d.ps.length pc, .slice ta d.t.length tc, .slice va d.v.length vc, .int .i64 d.f, .slice ca d.cs.length cc] 28 (0, 0))) := by show _ = _; rw [hW]; exact heap_alloc_new w _
  have c0 : W.cell? ⟨w.heap.size, 0, none⟩ = some (.int .i64 d.k) := by rw [Lib.cell_of_heap HX0.out]; rfl
  have c1 : W.cell? ⟨w.heap.size, 1, none⟩ = some (.string d.s) := by rw [Lib.cell_of_heap HX0.out]; rfl
  have c2 : W.cell? ⟨w.heap.size, 2, none⟩ = some (.slice pa d.ps.length pc) := by rw [Lib.cell_of_heap HX0.out]; rfl
  have c3 : W.cell? ⟨w.heap.size, 3, none⟩ = some (.slice ta d.t.length tc) := by rw [Lib.cell_of_heap HX0.out]; rfl
  have c4 : W.cell? ⟨w.heap.size, 4, none⟩ = some (.slice va d.v.length vc) := by rw [Lib.cell_of_heap HX0.out]; rfl
  have c5 : W.cell? ⟨w.heap.size, 5, none⟩ = some (.int .i64 d.f) := by rw [Lib.cell_of_heap HX0.out]; rfl
  have c6 : W.cell? ⟨w.heap.size, 6, none⟩ = some (.slice ca d.cs.length cc) := by rw [Lib.cell_of_heap HX0.out]; rfl
  have cl := lt_cell c0
  clear hz hd
  have HSZ := hide (szDecl_any d _ _ _ _ 1048576 W HZ.out (HN.out.keep HBW.out) (by omega) (by omega))
  unfold declV at HSZ ⊢
  by_cases hbig : (1048576 : Int) < (dcSize d : Nat)
  · have HL : Hid (leftOf 1048576 (dcSize d) = -1) := by show leftOf _ _ = _; rw [leftOf, if_pos hbig]
    clear hbig
    rw [HL.out] at HSZ
    go_enter Tryz.func3, Tryz.ntmps3
    go_upto_region 1 with fail
    rw [← hW]
    clear hW
    go_wp2_with fail
    refine HSZ.out.mono ?_
    rintro e w1 ⟨rfl, hb1⟩
    have hbel1 := bel_trans HBW.out hb1
    clear hb1
    go_wp2_with fail
    go_ret
    exact ⟨rfl, hbel1⟩
  obtain ⟨M, hM⟩ : ∃ M : Int, M = 1048576 - (dcSize d : Nat) := ⟨_, rfl⟩
  have hM0 : 0 ≤ M := by omega
  have HL : Hid (leftOf 1048576 (dcSize d) = M) := by show leftOf _ _ = _; rw [leftOf, if_neg hbig, hM]
  have hle : dcSize d ≤ 1048576 := by omega
  have dM : decide (M < 0) = false := by simp; omega
  have HSP := hide (fun (p t v c : Value) (w : World) (h : DeclAt w p t v c d) => specDeclOk_any d p t v c w HZ.out (dw_v hle) h)
  have HIM := hide (fun (p t v c : Value) (w : World) (h : DeclAt w p t v c d) => implDeclOk_any S d p t v c w HZ.out (dw_s hle) h)
  have HCP := hide (fun (p t v c : Value) (w : World) (h : DeclAt w p t v c d) => toDecl_fr d p t v c w h (dw_small hle))
  have HEQ := hide (fun (p1 t1 v1 c1 p2 t2 v2 c2 : Value) (w : World) (h1 : DeclAt w p1 t1 v1 c1 d) (h2 : DeclAt w p2 t2 v2 c2 d) => eqDecl_any d p1 t1 v1 c1 p2 t2 v2 c2 w h1 h2)
  rw [HL.out] at HSZ
  clear hbig hM hle HL
  generalize declB d = ans at *
  have hne : (ans != ans) = false := by simp
  unfold declV at HSP HIM HCP HEQ
  go_enter Tryz.func3, Tryz.ntmps3
  go_upto_region 1 with fail
  rw [← hW]
  clear hW
  go_wp2_with fail
  refine HSZ.out.mono ?_
  rintro e w1 ⟨rfl, hb1⟩
  have HB := hide (bel_trans HBW.out hb1)
  have HX : Hid (w1.heap[w.heap.size]? = some (.cells #[.int .i64 d.k, .string d.s, .slice pa d.ps.length pc, .slice ta d.t.length tc, .slice va d.v.length vc, .int .i64 d.f, .slice ca d.cs.length cc] 28 (0, 0))) := (hb1.block _ cl).trans HX0.out
  clear hb1 HX0 HBW HSZ c0 c1 c2 c3 c4 c5 c6 cl
  have c0 : w1.cell? ⟨w.heap.size, 0, none⟩ = some (.int .i64 d.k) := by rw [Lib.cell_of_heap HX.out]; rfl
  have c1 : w1.cell? ⟨w.heap.size, 1, none⟩ = some (.string d.s) := by rw [Lib.cell_of_heap HX.out]; rfl
  have c2 : w1.cell? ⟨w.heap.size, 2, none⟩ = some (.slice pa d.ps.length pc) := by rw [Lib.cell_of_heap HX.out]; rfl
  have c3 : w1.cell? ⟨w.heap.size, 3, none⟩ = some (.slice ta d.t.length tc) := by rw [Lib.cell_of_heap HX.out]; rfl
  have c4 : w1.cell? ⟨w.heap.size, 4, none⟩ = some (.slice va d.v.length vc) := by rw [Lib.cell_of_heap HX.out]; rfl
  have c5 : w1.cell? ⟨w.heap.size, 5, none⟩ = some (.int .i64 d.f) := by rw [Lib.cell_of_heap HX.out]; rfl
  have c6 : w1.cell? ⟨w.heap.size, 6, none⟩ = some (.slice ca d.cs.length cc) := by rw [Lib.cell_of_heap HX.out]; rfl
  have cl := lt_cell c0
  go_wp2_with fail
  refine (HCP.out _ _ _ _ _ (HN.out.keep HB.out)).mono ?_
  rintro e w2 ⟨pv2, tv2, vv2, cv2, rfl, hf2, hb2⟩
  have HN2 := hide hf2.at
  have HB := hide (bel_trans HB.out hb2)
  have HX : Hid (w2.heap[w.heap.size]? = some (.cells #[.int .i64 d.k, .string d.s, .slice pa d.ps.length pc, .slice ta d.t.length tc, .slice va d.v.length vc, .int .i64 d.f, .slice ca d.cs.length cc] 28 (0, 0))) := (hb2.block _ cl).trans HX.out
  clear hb2 hf2 c0 c1 c2 c3 c4 c5 c6 cl
  have c0 : w2.cell? ⟨w.heap.size, 0, none⟩ = some (.int .i64 d.k) := by rw [Lib.cell_of_heap HX.out]; rfl
  have c1 : w2.cell? ⟨w.heap.size, 1, none⟩ = some (.string d.s) := by rw [Lib.cell_of_heap HX.out]; rfl
  have c2 : w2.cell? ⟨w.heap.size, 2, none⟩ = some (.slice pa d.ps.length pc) := by rw [Lib.cell_of_heap HX.out]; rfl
  have c3 : w2.cell? ⟨w.heap.size, 3, none⟩ = some (.slice ta d.t.length tc) := by rw [Lib.cell_of_heap HX.out]; rfl
  have c4 : w2.cell? ⟨w.heap.size, 4, none⟩ = some (.slice va d.v.length vc) := by rw [Lib.cell_of_heap HX.out]; rfl
  have c5 : w2.cell? ⟨w.heap.size, 5, none⟩ = some (.int .i64 d.f) := by rw [Lib.cell_of_heap HX.out]; rfl
  have c6 : w2.cell? ⟨w.heap.size, 6, none⟩ = some (.slice ca d.cs.length cc) := by rw [Lib.cell_of_heap HX.out]; rfl
  have cl := lt_cell c0
  go_wp2_with fail
  refine (HSP.out _ _ _ _ _ HN2.out).mono ?_
  rintro e w3 ⟨rfl, hb3⟩
  have HB := hide (bel_trans HB.out hb3)
  have HX : Hid (w3.heap[w.heap.size]? = some (.cells #[.int .i64 d.k, .string d.s, .slice pa d.ps.length pc, .slice ta d.t.length tc, .slice va d.v.length vc, .int .i64 d.f, .slice ca d.cs.length cc] 28 (0, 0))) := (hb3.block _ cl).trans HX.out
  clear hb3 HN2 HSP c0 c1 c2 c3 c4 c5 c6 cl
  have c0 : w3.cell? ⟨w.heap.size, 0, none⟩ = some (.int .i64 d.k) := by rw [Lib.cell_of_heap HX.out]; rfl
  have c1 : w3.cell? ⟨w.heap.size, 1, none⟩ = some (.string d.s) := by rw [Lib.cell_of_heap HX.out]; rfl
  have c2 : w3.cell? ⟨w.heap.size, 2, none⟩ = some (.slice pa d.ps.length pc) := by rw [Lib.cell_of_heap HX.out]; rfl
  have c3 : w3.cell? ⟨w.heap.size, 3, none⟩ = some (.slice ta d.t.length tc) := by rw [Lib.cell_of_heap HX.out]; rfl
  have c4 : w3.cell? ⟨w.heap.size, 4, none⟩ = some (.slice va d.v.length vc) := by rw [Lib.cell_of_heap HX.out]; rfl
  have c5 : w3.cell? ⟨w.heap.size, 5, none⟩ = some (.int .i64 d.f) := by rw [Lib.cell_of_heap HX.out]; rfl
  have c6 : w3.cell? ⟨w.heap.size, 6, none⟩ = some (.slice ca d.cs.length cc) := by rw [Lib.cell_of_heap HX.out]; rfl
  have cl := lt_cell c0
  go_wp2_with fail
  refine (HCP.out _ _ _ _ _ (HN.out.keep HB.out)).mono ?_
  rintro e w4 ⟨pv5, tv5, vv5, cv5, rfl, hf5, hb5⟩
  have hx5 := hf5.at
  obtain ⟨pa5, pc5, hpv⟩ : ∃ a c, pv5 = .slice a d.ps.length c := by obtain ⟨a, c, h, _⟩ := hx5.ps; exact ⟨a, c, h⟩
  obtain ⟨ta5, tc5, htv⟩ := hx5.t.form
  obtain ⟨va5, vc5, hvv⟩ := hx5.v.form
  obtain ⟨ca5, cc5, hcv⟩ := hx5.cs.form
  subst hpv htv hvv hcv
  have HB := hide (bel_trans HB.out hb5)
  have HX : Hid (w4.heap[w.heap.size]? = some (.cells #[.int .i64 d.k, .string d.s, .slice pa d.ps.length pc, .slice ta d.t.length tc, .slice va d.v.length vc, .int .i64 d.f, .slice ca d.cs.length cc] 28 (0, 0))) := (hb5.block _ cl).trans HX.out
  have HY := hide hx5
  clear hb5 hf5 hx5 c0 c1 c2 c3 c4 c5 c6 cl
  obtain ⟨W5, hW5⟩ : ∃ W5, W5 = w4.alloc (.cells #[.int .i64 d.k, .string d.s, .slice pa5 d.ps.length pc5, .slice ta5 d.t.length tc5, .slice va5 d.v.length vc5, .int .i64 d.f, .slice ca5 d.cs.length cc5] 36) := ⟨_, rfl⟩
  have hbW : Below w4.heap.size w4 W5 := by rw [hW5]; exact bel_alloc (Below.refl _ _) _
  have HX5 : Hid (W5.heap[w4.heap.size]? = some (.cells #[.int .i64 d.k, .string d.s, .slice pa5 d.ps.length pc5, .slice ta5 d.t.length tc5, .slice va5 d.v.length vc5, .int .i64 d.f, .slice ca5 d.cs.length cc5] 36 (0, 0))) := by show _ = _; rw [hW5]; exact heap_alloc_new w4 _
  have HX : Hid (W5.heap[w.heap.size]? = some (.cells #[.int .i64 d.k, .string d.s, .slice pa d.ps.length pc, .slice ta d.t.length tc, .slice va d.v.length vc, .int .i64 d.f, .slice ca d.cs.length cc] 28 (0, 0))) := (hbW.block _ (Array.getElem?_eq_some_iff.1 HX.out).1).trans HX.out
  have HB := hide (bel_trans HB.out hbW)
  have HY := hide (HY.out.keep hbW)
  have e0 : W5.cell? ⟨w4.heap.size, 0, none⟩ = some (.int .i64 d.k) := by rw [Lib.cell_of_heap HX5.out]; rfl
  have e1 : W5.cell? ⟨w4.heap.size, 1, none⟩ = some (.string d.s) := by rw [Lib.cell_of_heap HX5.out]; rfl
  have e2 : W5.cell? ⟨w4.heap.size, 2, none⟩ = some (.slice pa5 d.ps.length pc5) := by rw [Lib.cell_of_heap HX5.out]; rfl
  have e3 : W5.cell? ⟨w4.heap.size, 3, none⟩ = some (.slice ta5 d.t.length tc5) := by rw [Lib.cell_of_heap HX5.out]; rfl
  have e4 : W5.cell? ⟨w4.heap.size, 4, none⟩ = some (.slice va5 d.v.length vc5) := by rw [Lib.cell_of_heap HX5.out]; rfl
  have e5 : W5.cell? ⟨w4.heap.size, 5, none⟩ = some (.int .i64 d.f) := by rw [Lib.cell_of_heap HX5.out]; rfl
  have e6 : W5.cell? ⟨w4.heap.size, 6, none⟩ = some (.slice ca5 d.cs.length cc5) := by rw [Lib.cell_of_heap HX5.out]; rfl
  have el := lt_cell e0
  go_upto_region 7 with fail
  rw [← hW5]
  clear hW5 hbW
  go_wp2_with fail
  refine (HIM.out _ _ _ _ _ HY.out).mono ?_
  rintro e w6 ⟨rfl, hb6⟩
  have HX5 : Hid (w6.heap[w4.heap.size]? = some (.cells #[.int .i64 d.k, .string d.s, .slice pa5 d.ps.length pc5, .slice ta5 d.t.length tc5, .slice va5 d.v.length vc5, .int .i64 d.f, .slice ca5 d.cs.length cc5] 36 (0, 0))) := (hb6.block _ el).trans HX5.out
  have HX : Hid (w6.heap[w.heap.size]? = some (.cells #[.int .i64 d.k, .string d.s, .slice pa d.ps.length pc, .slice ta d.t.length tc, .slice va d.v.length vc, .int .i64 d.f, .slice ca d.cs.length cc] 28 (0, 0))) := (hb6.block _ (Array.getElem?_eq_some_iff.1 HX.out).1).trans HX.out
  have HB := hide (bel_trans HB.out hb6)
  have HY := hide (HY.out.keep hb6)
  clear hb6 HIM e0 e1 e2 e3 e4 e5 e6 el
  have e0 : w6.cell? ⟨w4.heap.size, 0, none⟩ = some (.int .i64 d.k) := by rw [Lib.cell_of_heap HX5.out]; rfl
  have e1 : w6.cell? ⟨w4.heap.size, 1, none⟩ = some (.string d.s) := by rw [Lib.cell_of_heap HX5.out]; rfl
  have e2 : w6.cell? ⟨w4.heap.size, 2, none⟩ = some (.slice pa5 d.ps.length pc5) := by rw [Lib.cell_of_heap HX5.out]; rfl
  have e3 : w6.cell? ⟨w4.heap.size, 3, none⟩ = some (.slice ta5 d.t.length tc5) := by rw [Lib.cell_of_heap HX5.out]; rfl
  have e4 : w6.cell? ⟨w4.heap.size, 4, none⟩ = some (.slice va5 d.v.length vc5) := by rw [Lib.cell_of_heap HX5.out]; rfl
  have e5 : w6.cell? ⟨w4.heap.size, 5, none⟩ = some (.int .i64 d.f) := by rw [Lib.cell_of_heap HX5.out]; rfl
  have e6 : w6.cell? ⟨w4.heap.size, 6, none⟩ = some (.slice ca5 d.cs.length cc5) := by rw [Lib.cell_of_heap HX5.out]; rfl
  have el := lt_cell e0
  have c0 : w6.cell? ⟨w.heap.size, 0, none⟩ = some (.int .i64 d.k) := by rw [Lib.cell_of_heap HX.out]; rfl
  have c1 : w6.cell? ⟨w.heap.size, 1, none⟩ = some (.string d.s) := by rw [Lib.cell_of_heap HX.out]; rfl
  have c2 : w6.cell? ⟨w.heap.size, 2, none⟩ = some (.slice pa d.ps.length pc) := by rw [Lib.cell_of_heap HX.out]; rfl
  have c3 : w6.cell? ⟨w.heap.size, 3, none⟩ = some (.slice ta d.t.length tc) := by rw [Lib.cell_of_heap HX.out]; rfl
  have c4 : w6.cell? ⟨w.heap.size, 4, none⟩ = some (.slice va d.v.length vc) := by rw [Lib.cell_of_heap HX.out]; rfl
  have c5 : w6.cell? ⟨w.heap.size, 5, none⟩ = some (.int .i64 d.f) := by rw [Lib.cell_of_heap HX.out]; rfl
  have c6 : w6.cell? ⟨w.heap.size, 6, none⟩ = some (.slice ca d.cs.length cc) := by rw [Lib.cell_of_heap HX.out]; rfl
  have cl := lt_cell c0
  go_wp2_with fail
  go_region_held3 (fun w' => w'.cell? ⟨w4.heap.size, 0, none⟩ = some (.int .i64 d.k) ∧ w'.cell? ⟨w4.heap.size, 1, none⟩ = some (.string d.s) ∧ w'.cell? ⟨w4.heap.size, 2, none⟩ = some (.slice pa5 d.ps.length pc5) ∧ w'.cell? ⟨w4.heap.size, 3, none⟩ = some (.slice ta5 d.t.length tc5) ∧ w'.cell? ⟨w4.heap.size, 4, none⟩ = some (.slice va5 d.v.length vc5) ∧ w'.cell? ⟨w4.heap.size, 5, none⟩ = some (.int .i64 d.f) ∧ w'.cell? ⟨w4.heap.size, 6, none⟩ = some (.slice ca5 d.cs.length cc5) ∧ w'.cell? ⟨w.heap.size, 0, none⟩ = some (.int .i64 d.k) ∧ w'.cell? ⟨w.heap.size, 1, none⟩ = some (.string d.s) ∧ w'.cell? ⟨w.heap.size, 2, none⟩ = some (.slice pa d.ps.length pc) ∧ w'.cell? ⟨w.heap.size, 3, none⟩ = some (.slice ta d.t.length tc) ∧ w'.cell? ⟨w.heap.size, 4, none⟩ = some (.slice va d.v.length vc) ∧ w'.cell? ⟨w.heap.size, 5, none⟩ = some (.int .i64 d.f) ∧ w'.cell? ⟨w.heap.size, 6, none⟩ = some (.slice ca d.cs.length cc))
    (first
      | go_keep
      | (go_split_ands; exact ⟨keep_cell hb9 (by assumption), keep_cell hb9 (by assumption), keep_cell hb9 (by assumption), keep_cell hb9 (by assumption), keep_cell hb9 (by assumption), keep_cell hb9 (by assumption), keep_cell hb9 (by assumption), keep_cell hb9 (by assumption), keep_cell hb9 (by assumption), keep_cell hb9 (by assumption), keep_cell hb9 (by assumption), keep_cell hb9 (by assumption), keep_cell hb9 (by assumption), keep_cell hb9 (by assumption)⟩)
      | (go_split_ands; exact ⟨keep_cell hb8 (by assumption), keep_cell hb8 (by assumption), keep_cell hb8 (by assumption), keep_cell hb8 (by assumption), keep_cell hb8 (by assumption), keep_cell hb8 (by assumption), keep_cell hb8 (by assumption), keep_cell hb8 (by assumption), keep_cell hb8 (by assumption), keep_cell hb8 (by assumption), keep_cell hb8 (by assumption), keep_cell hb8 (by assumption), keep_cell hb8 (by assumption), keep_cell hb8 (by assumption)⟩)
      | fail)
    (first
      | (go_at_call 12; refine (HCP.out _ _ _ _ _ (by exact HN.out.keep HB.out.drew)).mono ?_; rintro e w8 ⟨pv8, tv8, vv8, cv8, rfl, hf8, hb8⟩)
      | (go_at_call 14; refine (HEQ.out _ _ _ _ _ _ _ _ _ (by exact HY.out.keep ((Below.refl w6.heap.size w6).drew.trans hb8)) hf8.at).mono ?_; rintro e w9 ⟨rfl, hb9⟩)
      | fail)
  have hb69 : Below w6.heap.size w6 w9 := (Below.refl w6.heap.size w6).drew.trans (hb8.trans (hb9.mono hb8.size))
  have HB9 := hide (bel_trans HB.out hb69)
  clear hf8 hb8 hb9 hb69
  go_wp2_with fail
  go_ret
  exact ⟨rfl, HB9.out⟩
end Go.Proofs.YtpmpooekpeocdaaGreat
