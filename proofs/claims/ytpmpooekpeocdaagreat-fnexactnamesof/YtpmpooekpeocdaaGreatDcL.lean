/- What the program's DeclOk answers. -/
import Derived.Test.YtpmpooekpeocdaaGreatDcK
import Derived.Test.YtpmpooekpeocdaaGreatLwH
namespace Go.Proofs.YtpmpooekpeocdaaGreat
open Go.ChangeShapes Go.WideShapes Go.ChangeAt Go.RowKit

set_option maxRecDepth 20000 in
set_option maxHeartbeats 4000000 in
theorem implDeclOk_any (S : SortS) (d : Dc) (pv tv vv cv : Value) (w : World) (hz : DcLens d) (hm : DcS d) (hd : DeclAt w pv tv vv cv d) :
    Calls Tryz.prog 13 #[declV d pv tv vv cv] w fun e w' => e = .returned (.bool (declB d)) ∧ Below w.heap.size w w' := by
  obtain ⟨pa, pc, hpv⟩ : ∃ a c, pv = .slice a d.ps.length c := by obtain ⟨a, c, h, _⟩ := hd.ps; exact ⟨a, c, h⟩
  obtain ⟨ta, tc, htv⟩ := hd.t.form
  obtain ⟨va, vc, hvv⟩ := hd.v.form
  obtain ⟨ca, cc, hcv⟩ := hd.cs.form
  subst hpv htv hvv hcv
  obtain ⟨W, hW⟩ : ∃ W, W = (w.alloc (.cells #[.int .i64 d.k, .string d.s, .slice pa d.ps.length pc, .slice ta d.t.length tc, .slice va d.v.length vc, .int .i64 d.f, .slice ca d.cs.length cc] 36)).drew := ⟨_, rfl⟩
  have hbW : Below w.heap.size w W := by rw [hW]; exact (bel_alloc (Below.refl w.heap.size w) _).drew
  have h0 : W.heap[w.heap.size]? = some (.cells #[.int .i64 d.k, .string d.s, .slice pa d.ps.length pc, .slice ta d.t.length tc, .slice va d.v.length vc, .int .i64 d.f, .slice ca d.cs.length cc] 36 (0, 0)) := by rw [hW]; exact heap_alloc_new w _
  have hS0 : (fun w' : World => w'.heap[w.heap.size]? = some (.cells #[.int .i64 d.k, .string d.s, .slice pa d.ps.length pc, .slice ta d.t.length tc, .slice va d.v.length vc, .int .i64 d.f, .slice ca d.cs.length cc] 36 (0, 0))) (w.alloc (.cells #[.int .i64 d.k, .string d.s, .slice pa d.ps.length pc, .slice ta d.t.length tc, .slice va d.v.length vc, .int .i64 d.f, .slice ca d.cs.length cc] 36)).drew := by rw [← hW]; exact h0
  have HRD : Hid (∀ (w0 X : World) (Sb mb gb clock0 : Nat) (L0 : List (Nk × Nat × Nat)) (Z0 : Nat → Zs) (H0 : Nat → Bool), Below w.heap.size w w0 → Below w0.heap.size w0 X → St w0.heap.size X Sb mb gb clock0 L0 Z0 H0 → Calls Tryz.prog 43 #[.pointer (some ⟨Sb, 0, none⟩), .agg #[.int .i64 d.k, .string d.s, .slice pa d.ps.length pc, .slice ta d.t.length tc, .slice va d.v.length vc, .int .i64 d.f, .slice ca d.cs.length cc]] X fun e w' => (∃ q1 q2 ga gn gc, e = .returned (.tuple #[.agg #[.pointer q1, .pointer q2, .slice ga gn gc], .bool (declB d)])) ∧ Below w0.heap.size w0 w' ∧ KeptX (fun k => k = mb) X w') := fun w0 X Sb mb gb clock0 L0 Z0 H0 h1 h2 h3 => (readDecl_any S d _ _ _ _ w0 X Sb mb gb clock0 L0 Z0 H0 hz hm (hd.keep h1) h2 h3).mono fun e w' ⟨⟨q1, q2, ga, gn, gc, _, _, _, _, h, _⟩, hb, hk⟩ => ⟨⟨q1, q2, ga, gn, gc, h⟩, hb, hk⟩
  have HW := hide hW
  have HBW := hide hbW
  have H0 := hide h0
  have lW := (Array.getElem?_eq_some_iff.1 h0).1
  obtain ⟨A, hA⟩ : ∃ A, A = declB d := ⟨_, rfl⟩
  rw [← hA] at HRD ⊢
  clear hA hz hm hd hbW hW h0
  unfold declV
  go_enter Tryz.func13, Tryz.ntmps13
  go_wp2_with fail
  refine anyE_region (L := 8) (S := (fun w' : World => w'.heap[w.heap.size]? = some (.cells #[.int .i64 d.k, .string d.s, .slice pa d.ps.length pc, .slice ta d.t.length tc, .slice va d.v.length vc, .int .i64 d.f, .slice ca d.cs.length cc] 36 (0, 0)))) (by kernel_rfl) ?_
  refine anyE_take 1 (v := ?v1) rfl (by kernel_rfl) (by kernel_rfl) (by kernel_rfl) (by kernel_rfl) (fun _ _ _ h => h) (by rfl) ?hy1 hS0 ?rest1
  case hy1 =>
    intro wx hx
    have hx : wx.heap[w.heap.size]? = some (.cells #[.int .i64 d.k, .string d.s, .slice pa d.ps.length pc, .slice ta d.t.length tc, .slice va d.v.length vc, .int .i64 d.f, .slice ca d.cs.length cc] 36 (0, 0)) := hx
    have m0 : wx.cell? ⟨w.heap.size, 0, none⟩ = some (.int .i64 d.k) := by rw [Lib.cell_of_heap hx]; rfl
    have m1 : wx.cell? ⟨w.heap.size, 1, none⟩ = some (.string d.s) := by rw [Lib.cell_of_heap hx]; rfl
    have m2 : wx.cell? ⟨w.heap.size, 2, none⟩ = some (.slice pa d.ps.length pc) := by rw [Lib.cell_of_heap hx]; rfl
    have m3 : wx.cell? ⟨w.heap.size, 3, none⟩ = some (.slice ta d.t.length tc) := by rw [Lib.cell_of_heap hx]; rfl
    have m4 : wx.cell? ⟨w.heap.size, 4, none⟩ = some (.slice va d.v.length vc) := by rw [Lib.cell_of_heap hx]; rfl
    have m5 : wx.cell? ⟨w.heap.size, 5, none⟩ = some (.int .i64 d.f) := by rw [Lib.cell_of_heap hx]; rfl
    have m6 : wx.cell? ⟨w.heap.size, 6, none⟩ = some (.slice ca d.cs.length cc) := by rw [Lib.cell_of_heap hx]; rfl
    have lm := lt_cell m0
    go_simp
    try rfl
  case rest1 =>
  intro K hK
  go_simp
  refine hK.out _ ?_
  clear hK K
  rw [← HW.out]
  clear hS0
  refine anyE_two 0 6 (by kernel_rfl) rfl rfl (fun K hK => ?_) (fun K hK => ?_)
  · go_simp
    refine (newStore_any W).mono ?_
    rintro e w2 ⟨⟨Sb, mb, gb, rfl, hs2⟩, hb2⟩
    have h2 : w2.heap[w.heap.size]? = some (.cells #[.int .i64 d.k, .string d.s, .slice pa d.ps.length pc, .slice ta d.t.length tc, .slice va d.v.length vc, .int .i64 d.f, .slice ca d.cs.length cc] 36 (0, 0)) := (hb2.block _ lW).trans H0.out
    refine hK.out _ _ (fun _ => h2) ?_
    clear hK K
    have HS2 := hide hs2
    have HB2 := hide hb2
    have H2 := hide h2
    have hmb := (Array.getElem?_eq_some_iff.1 hs2.mp).1
    have HMB := hide hmb
    have hmW : W.heap.size ≤ mb := hs2.lows.2
    have HMW := hide hmW
    have HLW := hide lW
    have h2s := hb2.size
    have H2S := hide h2s
    clear hs2 hb2 h2 hmb hmW h2s lW
    refine anyE_two 2 6 (by kernel_rfl) rfl rfl (fun K hK => ?_) (fun K hK => ?_)
    · go_simp
      refine (HRD.out W w2 Sb mb gb _ _ _ _ HBW.out HB2.out HS2.out).mono ?_
      rintro e w3 ⟨⟨q1, q2, ga, gn, gc, rfl⟩, hb3, hk3⟩
      have h3 : w3.heap[w.heap.size]? = some (.cells #[.int .i64 d.k, .string d.s, .slice pa d.ps.length pc, .slice ta d.t.length tc, .slice va d.v.length vc, .int .i64 d.f, .slice ca d.cs.length cc] 36 (0, 0)) := (hb3.block _ HLW.out).trans H0.out
      refine hK.out _ _ (fun _ => h3) ?_
      clear hK K
      obtain ⟨X, hX⟩ : ∃ X, X = w3.alloc (.cells #[.pointer none, .pointer none, .slice none 0 0] 64) := ⟨_, rfl⟩
      have hbX : Below w3.heap.size w3 X := by rw [hX]; exact bel_alloc (Below.refl _ _) _
      have HX : Hid (X.heap[w.heap.size]? = some (.cells #[.int .i64 d.k, .string d.s, .slice pa d.ps.length pc, .slice ta d.t.length tc, .slice va d.v.length vc, .int .i64 d.f, .slice ca d.cs.length cc] 36 (0, 0))) := (hbX.block _ (Array.getElem?_eq_some_iff.1 h3).1).trans h3
      have HBB : Hid (w.heap.size < w3.heap.size) := (Array.getElem?_eq_some_iff.1 h3).1
      have HBK : Hid (X.heap[w3.heap.size]? = some (.cells #[.pointer none, .pointer none, .slice none 0 0] 64 (0, 0))) := by show _ = _; rw [hX]; exact heap_alloc_new w3 _
      have HBX : Hid (Below w.heap.size w X) := bel_trans (HBW.out.trans (hb3.mono HBW.out.size)) hbX
      have HSS : Hid (∀ X' : World, X.grownBy X' (some (w3.heap.size)) → (fun w' : World => w'.heap[w.heap.size]? = some (.cells #[.int .i64 d.k, .string d.s, .slice pa d.ps.length pc, .slice ta d.t.length tc, .slice va d.v.length vc, .int .i64 d.f, .slice ca d.cs.length cc] 36 (0, 0))) X') := fun X' hg => by
        show _ = _
        rw [hg.block _ (by have := (Array.getElem?_eq_some_iff.1 HX.out).1; exact this) (fun e => by have h1 : w.heap.size = w3.heap.size := Option.some.inj e; have := HBB.out; omega)]
        exact HX.out
      have HBS : Hid (∀ X' : World, X.grownBy X' (some (w3.heap.size)) → Below w.heap.size w X') := fun X' hg => HBX.out.grown hg HBX.out.size (fun k hk => by have h1 : w3.heap.size = k := Option.some.inj hk; have := HBB.out; omega)
      clear hbX hb3 hk3
      refine anyE_take 3 (v := ?v2) rfl (by kernel_rfl) (by kernel_rfl) (by kernel_rfl) (by kernel_rfl) (fun _ _ _ h => h) (by rfl) ?hy2 h3 ?rest2
      case hy2 =>
        intro wx hx
        go_simp
        try rfl
      case rest2 =>
      intro K hK
      go_simp
      refine hK.out _ ?_
      clear hK K
      refine anyE_take 4 (v := ?v3) rfl (by kernel_rfl) (by kernel_rfl) (by kernel_rfl) (by kernel_rfl) (fun _ _ _ h => h) (by rfl) ?hy3 h3 ?rest3
      case hy3 =>
        intro wx hx
        go_simp
        try rfl
      case rest3 =>
      intro K hK
      go_simp
      refine hK.out _ ?_
      clear hK K
      refine anyE_take 5 (v := ?v4) rfl (by kernel_rfl) (by kernel_rfl) (by kernel_rfl) (by kernel_rfl) (fun _ _ _ h => h) (by rfl) ?hy4 h3 ?rest4
      case hy4 =>
        intro wx hx
        go_simp
        try rfl
      case rest4 =>
      intro K hK
      go_simp
      refine hK.out _ ?_
      clear hK K
      refine anyE_one 6 (by kernel_rfl) rfl (fun K hK => ?_)
      go_simp
      rw [← hX]
      refine hK.out _ _ (fun _ => HX.out) ?_
      clear hK K h3 hX
      have z0 : X.cell? ⟨w3.heap.size, 0, none⟩ = some (.pointer none) := by rw [Lib.cell_of_heap HBK.out]; rfl
      have zf0 : X.frozen? ⟨w3.heap.size, 0, none⟩ = false := Lib.frozen_of_heap HBK.out 0
      have z1 : X.cell? ⟨w3.heap.size, 1, none⟩ = some (.pointer none) := by rw [Lib.cell_of_heap HBK.out]; rfl
      have zf1 : X.frozen? ⟨w3.heap.size, 1, none⟩ = false := Lib.frozen_of_heap HBK.out 1
      have z2 : X.cell? ⟨w3.heap.size, 2, none⟩ = some (.slice none 0 0) := by rw [Lib.cell_of_heap HBK.out]; rfl
      have zf2 : X.frozen? ⟨w3.heap.size, 2, none⟩ = false := Lib.frozen_of_heap HBK.out 2
      have lz := lt_cell z0
      refine anyE_one 7 (by kernel_rfl) rfl (fun K hK => ?_)
      go_simp
      refine hK.out _ _ (fun _ => HSS.out _ (((grown_set _ ⟨w3.heap.size, 0, none⟩ (.pointer q1)).trans (grown_set _ ⟨w3.heap.size, 1, none⟩ (.pointer q2))).trans (grown_set _ ⟨w3.heap.size, 2, none⟩ (.slice ga gn gc)))) ?_
      clear hK K
      refine anyE_one 8 (by kernel_rfl) rfl (fun K hK => ?_)
      go_simp
      refine hK.out _ _ (fun h => absurd rfl h) ?_
      clear hK K
      refine anyE_done (by kernel_rfl) ?_ _
      go_wp2_with fail
      go_ret
      exact ⟨rfl, HBS.out _ (((grown_set _ ⟨w3.heap.size, 0, none⟩ (.pointer q1)).trans (grown_set _ ⟨w3.heap.size, 1, none⟩ (.pointer q2))).trans (grown_set _ ⟨w3.heap.size, 2, none⟩ (.slice ga gn gc)))⟩
    · go_simp
      obtain ⟨Y, hY⟩ : ∃ Y, Y = w2.alloc (.cells #[.pointer none, .pointer none, .slice none 0 0] 64) := ⟨_, rfl⟩
      rw [← hY]
      have hbY : Below w2.heap.size w2 Y := by rw [hY]; exact bel_alloc (Below.refl _ _) _
      have hYk : Y.heap[w2.heap.size]? = some (.cells #[.pointer none, .pointer none, .slice none 0 0] 64 (0, 0)) := by rw [hY]; exact heap_alloc_new w2 _
      have hY0 : Y.heap[w.heap.size]? = some (.cells #[.int .i64 d.k, .string d.s, .slice pa d.ps.length pc, .slice ta d.t.length tc, .slice va d.v.length vc, .int .i64 d.f, .slice ca d.cs.length cc] 36 (0, 0)) := (hbY.block _ (Array.getElem?_eq_some_iff.1 H2.out).1).trans H2.out
      refine hK.out _ _ (fun _ => hY0) ?_
      clear hK K hY
      have HRY := hide (HRD.out W Y Sb mb gb _ _ _ _ HBW.out (HB2.out.trans (hbY.mono HB2.out.size)) (HS2.out.keep hbY HB2.out.size))
      have HYK := hide hYk
      clear hbY hYk
      refine anyE_one 2 (by kernel_rfl) rfl (fun K hK => ?_)
      go_simp
      refine HRY.out.mono ?_
      rintro e X ⟨⟨q1, q2, ga, gn, gc, rfl⟩, hb3, hk3⟩
      have h3 : X.heap[w.heap.size]? = some (.cells #[.int .i64 d.k, .string d.s, .slice pa d.ps.length pc, .slice ta d.t.length tc, .slice va d.v.length vc, .int .i64 d.f, .slice ca d.cs.length cc] 36 (0, 0)) := (hb3.block _ HLW.out).trans H0.out
      refine hK.out _ _ (fun _ => h3) ?_
      clear hK K
      have HX := hide h3
      have HBB : Hid (w.heap.size < w2.heap.size) := by show _ < _; have := HLW.out; have := H2S.out; omega
      have HBK : Hid (X.heap[w2.heap.size]? = some (.cells #[.pointer none, .pointer none, .slice none 0 0] 64 (0, 0))) := (hk3.block _ (Array.getElem?_eq_some_iff.1 HYK.out).1 (by show ¬ w2.heap.size = mb; have := HMB.out; omega)).trans HYK.out
      have HBX : Hid (Below w.heap.size w X) := HBW.out.trans (hb3.mono HBW.out.size)
      have HSS : Hid (∀ X' : World, X.grownBy X' (some (w2.heap.size)) → (fun w' : World => w'.heap[w.heap.size]? = some (.cells #[.int .i64 d.k, .string d.s, .slice pa d.ps.length pc, .slice ta d.t.length tc, .slice va d.v.length vc, .int .i64 d.f, .slice ca d.cs.length cc] 36 (0, 0))) X') := fun X' hg => by
        show _ = _
        rw [hg.block _ (by have := (Array.getElem?_eq_some_iff.1 HX.out).1; exact this) (fun e => by have h1 : w.heap.size = w2.heap.size := Option.some.inj e; have := HBB.out; omega)]
        exact HX.out
      have HBS : Hid (∀ X' : World, X.grownBy X' (some (w2.heap.size)) → Below w.heap.size w X') := fun X' hg => HBX.out.grown hg HBX.out.size (fun k hk => by have h1 : w2.heap.size = k := Option.some.inj hk; have := HBB.out; omega)
      clear hb3 hk3
      refine anyE_take 3 (v := ?v5) rfl (by kernel_rfl) (by kernel_rfl) (by kernel_rfl) (by kernel_rfl) (fun _ _ _ h => h) (by rfl) ?hy5 h3 ?rest5
      case hy5 =>
        intro wx hx
        go_simp
        try rfl
      case rest5 =>
      intro K hK
      go_simp
      refine hK.out _ ?_
      clear hK K
      refine anyE_take 4 (v := ?v6) rfl (by kernel_rfl) (by kernel_rfl) (by kernel_rfl) (by kernel_rfl) (fun _ _ _ h => h) (by rfl) ?hy6 h3 ?rest6
      case hy6 =>
        intro wx hx
        go_simp
        try rfl
      case rest6 =>
      intro K hK
      go_simp
      refine hK.out _ ?_
      clear hK K
      refine anyE_take 5 (v := ?v7) rfl (by kernel_rfl) (by kernel_rfl) (by kernel_rfl) (by kernel_rfl) (fun _ _ _ h => h) (by rfl) ?hy7 h3 ?rest7
      case hy7 =>
        intro wx hx
        go_simp
        try rfl
      case rest7 =>
      intro K hK
      go_simp
      refine hK.out _ ?_
      clear hK K
      have z0 : X.cell? ⟨w2.heap.size, 0, none⟩ = some (.pointer none) := by rw [Lib.cell_of_heap HBK.out]; rfl
      have zf0 : X.frozen? ⟨w2.heap.size, 0, none⟩ = false := Lib.frozen_of_heap HBK.out 0
      have z1 : X.cell? ⟨w2.heap.size, 1, none⟩ = some (.pointer none) := by rw [Lib.cell_of_heap HBK.out]; rfl
      have zf1 : X.frozen? ⟨w2.heap.size, 1, none⟩ = false := Lib.frozen_of_heap HBK.out 1
      have z2 : X.cell? ⟨w2.heap.size, 2, none⟩ = some (.slice none 0 0) := by rw [Lib.cell_of_heap HBK.out]; rfl
      have zf2 : X.frozen? ⟨w2.heap.size, 2, none⟩ = false := Lib.frozen_of_heap HBK.out 2
      have lz := lt_cell z0
      refine anyE_one 7 (by kernel_rfl) rfl (fun K hK => ?_)
      go_simp
      refine hK.out _ _ (fun _ => HSS.out _ (((grown_set _ ⟨w2.heap.size, 0, none⟩ (.pointer q1)).trans (grown_set _ ⟨w2.heap.size, 1, none⟩ (.pointer q2))).trans (grown_set _ ⟨w2.heap.size, 2, none⟩ (.slice ga gn gc)))) ?_
      clear hK K
      refine anyE_one 8 (by kernel_rfl) rfl (fun K hK => ?_)
      go_simp
      refine hK.out _ _ (fun h => absurd rfl h) ?_
      clear hK K
      refine anyE_done (by kernel_rfl) ?_ _
      go_wp2_with fail
      go_ret
      exact ⟨rfl, HBS.out _ (((grown_set _ ⟨w2.heap.size, 0, none⟩ (.pointer q1)).trans (grown_set _ ⟨w2.heap.size, 1, none⟩ (.pointer q2))).trans (grown_set _ ⟨w2.heap.size, 2, none⟩ (.slice ga gn gc)))⟩
  · go_simp
    obtain ⟨Y, hY⟩ : ∃ Y, Y = W.alloc (.cells #[.pointer none, .pointer none, .slice none 0 0] 64) := ⟨_, rfl⟩
    rw [← hY]
    have hbY : Below W.heap.size W Y := by rw [hY]; exact bel_alloc (Below.refl _ _) _
    have hYk : Y.heap[W.heap.size]? = some (.cells #[.pointer none, .pointer none, .slice none 0 0] 64 (0, 0)) := by rw [hY]; exact heap_alloc_new W _
    have hY0 : Y.heap[w.heap.size]? = some (.cells #[.int .i64 d.k, .string d.s, .slice pa d.ps.length pc, .slice ta d.t.length tc, .slice va d.v.length vc, .int .i64 d.f, .slice ca d.cs.length cc] 36 (0, 0)) := (hbY.block _ lW).trans H0.out
    refine hK.out _ _ (fun _ => hY0) ?_
    clear hK K hY
    have HYK := hide hYk
    have HY0 := hide hY0
    have HBY : Hid (Below w.heap.size w Y) := HBW.out.trans (hbY.mono HBW.out.size)
    have HLW := hide lW
    clear hbY hYk hY0 lW
    refine anyE_one 0 (by kernel_rfl) rfl (fun K hK => ?_)
    go_simp
    refine (newStore_any Y).mono ?_
    rintro e w2 ⟨⟨Sb, mb, gb, rfl, hs2⟩, hb2⟩
    have h2 : w2.heap[w.heap.size]? = some (.cells #[.int .i64 d.k, .string d.s, .slice pa d.ps.length pc, .slice ta d.t.length tc, .slice va d.v.length vc, .int .i64 d.f, .slice ca d.cs.length cc] 36 (0, 0)) := (hb2.block _ (Array.getElem?_eq_some_iff.1 HY0.out).1).trans HY0.out
    refine hK.out _ _ (fun _ => h2) ?_
    clear hK K
    have HRY := hide (HRD.out Y w2 Sb mb gb _ _ _ _ HBY.out hb2 hs2)
    clear hs2 hb2 h2
    refine anyE_one 2 (by kernel_rfl) rfl (fun K hK => ?_)
    go_simp
    refine HRY.out.mono ?_
    rintro e X ⟨⟨q1, q2, ga, gn, gc, rfl⟩, hb3, hk3⟩
    have h3 : X.heap[w.heap.size]? = some (.cells #[.int .i64 d.k, .string d.s, .slice pa d.ps.length pc, .slice ta d.t.length tc, .slice va d.v.length vc, .int .i64 d.f, .slice ca d.cs.length cc] 36 (0, 0)) := (hb3.block _ (Array.getElem?_eq_some_iff.1 HY0.out).1).trans HY0.out
    refine hK.out _ _ (fun _ => h3) ?_
    clear hK K
    have HX := hide h3
    have HBB := HLW
    have HBK : Hid (X.heap[W.heap.size]? = some (.cells #[.pointer none, .pointer none, .slice none 0 0] 64 (0, 0))) := (hb3.block _ (Array.getElem?_eq_some_iff.1 HYK.out).1).trans HYK.out
    have HBX : Hid (Below w.heap.size w X) := HBY.out.trans (hb3.mono HBY.out.size)
    have HSS : Hid (∀ X' : World, X.grownBy X' (some (W.heap.size)) → (fun w' : World => w'.heap[w.heap.size]? = some (.cells #[.int .i64 d.k, .string d.s, .slice pa d.ps.length pc, .slice ta d.t.length tc, .slice va d.v.length vc, .int .i64 d.f, .slice ca d.cs.length cc] 36 (0, 0))) X') := fun X' hg => by
      show _ = _
      rw [hg.block _ (by have := (Array.getElem?_eq_some_iff.1 HX.out).1; exact this) (fun e => by have h1 : w.heap.size = W.heap.size := Option.some.inj e; have := HBB.out; omega)]
      exact HX.out
    have HBS : Hid (∀ X' : World, X.grownBy X' (some (W.heap.size)) → Below w.heap.size w X') := fun X' hg => HBX.out.grown hg HBX.out.size (fun k hk => by have h1 : W.heap.size = k := Option.some.inj hk; have := HBB.out; omega)
    clear hb3 hk3
    refine anyE_take 3 (v := ?v8) rfl (by kernel_rfl) (by kernel_rfl) (by kernel_rfl) (by kernel_rfl) (fun _ _ _ h => h) (by rfl) ?hy8 h3 ?rest8
    case hy8 =>
      intro wx hx
      go_simp
      try rfl
    case rest8 =>
    intro K hK
    go_simp
    refine hK.out _ ?_
    clear hK K
    refine anyE_take 4 (v := ?v9) rfl (by kernel_rfl) (by kernel_rfl) (by kernel_rfl) (by kernel_rfl) (fun _ _ _ h => h) (by rfl) ?hy9 h3 ?rest9
    case hy9 =>
      intro wx hx
      go_simp
      try rfl
    case rest9 =>
    intro K hK
    go_simp
    refine hK.out _ ?_
    clear hK K
    refine anyE_take 5 (v := ?v10) rfl (by kernel_rfl) (by kernel_rfl) (by kernel_rfl) (by kernel_rfl) (fun _ _ _ h => h) (by rfl) ?hy10 h3 ?rest10
    case hy10 =>
      intro wx hx
      go_simp
      try rfl
    case rest10 =>
    intro K hK
    go_simp
    refine hK.out _ ?_
    clear hK K
    have z0 : X.cell? ⟨W.heap.size, 0, none⟩ = some (.pointer none) := by rw [Lib.cell_of_heap HBK.out]; rfl
    have zf0 : X.frozen? ⟨W.heap.size, 0, none⟩ = false := Lib.frozen_of_heap HBK.out 0
    have z1 : X.cell? ⟨W.heap.size, 1, none⟩ = some (.pointer none) := by rw [Lib.cell_of_heap HBK.out]; rfl
    have zf1 : X.frozen? ⟨W.heap.size, 1, none⟩ = false := Lib.frozen_of_heap HBK.out 1
    have z2 : X.cell? ⟨W.heap.size, 2, none⟩ = some (.slice none 0 0) := by rw [Lib.cell_of_heap HBK.out]; rfl
    have zf2 : X.frozen? ⟨W.heap.size, 2, none⟩ = false := Lib.frozen_of_heap HBK.out 2
    have lz := lt_cell z0
    refine anyE_one 7 (by kernel_rfl) rfl (fun K hK => ?_)
    go_simp
    refine hK.out _ _ (fun _ => HSS.out _ (((grown_set _ ⟨W.heap.size, 0, none⟩ (.pointer q1)).trans (grown_set _ ⟨W.heap.size, 1, none⟩ (.pointer q2))).trans (grown_set _ ⟨W.heap.size, 2, none⟩ (.slice ga gn gc)))) ?_
    clear hK K
    refine anyE_one 8 (by kernel_rfl) rfl (fun K hK => ?_)
    go_simp
    refine hK.out _ _ (fun h => absurd rfl h) ?_
    clear hK K
    refine anyE_done (by kernel_rfl) ?_ _
    go_wp2_with fail
    go_ret
    exact ⟨rfl, HBS.out _ (((grown_set _ ⟨W.heap.size, 0, none⟩ (.pointer q1)).trans (grown_set _ ⟨W.heap.size, 1, none⟩ (.pointer q2))).trans (grown_set _ ⟨W.heap.size, 2, none⟩ (.slice ga gn gc)))⟩
end Go.Proofs.YtpmpooekpeocdaaGreat
