/- What variable and lift answer: nodes of the store. -/
import Derived.Test.YtjkkojefpecbfaaGreatFoC
namespace Go.Proofs.YtjkkojefpecbfaaGreat
open Go.ChangeShapes Go.WideShapes Go.ChangeAt Go.RowKit

theorem levs_nil (w : World) : LevsAt w (.slice none 0 0) [] := ⟨none, 0, rfl, Nat.le_refl _, by unfold maxLen; omega, fun h => by simp at h⟩
set_option maxRecDepth 20000 in
set_option maxHeartbeats 4000000 in
theorem variable_any (base Sb mb gb clock : Nat) (L : List (Nk × Nat × Nat)) (Z : Nat → Zs) (H : Nat → Bool) (n : Int) (w : World) (hs : St base w Sb mb gb clock L Z H) (hbase : base ≤ w.heap.size) (h0 : 0 ≤ n) :
    Calls Tryz.prog 112 #[.pointer (some ⟨Sb, 0, none⟩), .int .i64 n] w (WithOut base Sb mb gb L (if 20000 < n then none else some (varT n)) w) := by
  by_cases hn : 20000 < n
  · rw [if_pos hn]
    have s1 := hs.cell.2
    have hsl := lt_cell s1
    have HS := hide hs
    have d0 : decide (20000 < n) = true := by simp [hn]
    clear hs hn
    go_enter Tryz.func112, Tryz.ntmps112
    go_wp2_with fail
    go_ret
    exact ⟨gb, clock, L, Z, H, rfl, HS.out, fun x hx => hx, rfl, (grown_of (Below.refl w.heap.size w)).but _⟩
  · rw [if_neg hn]
    have d0 : decide (20000 < n) = false := by simp [hn]
    have hK : KeySt L (keyP (varT n).hd []) := ⟨by show 0 ≤ tkidsN 1; decide, fun j hj => by have : (j : Int) < tkidsN 1 := hj; have : tkidsN 1 = 0 := by decide
                                                                                             omega, fun j _ => by rw [keyP_kid _ _ (by simp)]; rfl⟩
    have HN := hide (node_any base Sb mb gb clock L Z H (keyP (varT n).hd []) (.slice none 0 0) [] w hs hbase hK (fun w' _ => levs_nil w') ⟨rfl, fun l hl => by simp at hl⟩ (by simp) (fun l hl => by simp at hl) (fun _ => ⟨h0, by show n ≤ 20000; omega⟩) (by show (zmk 1 n []).sz ≤ 20000; rw [zmk_sz]; simp [sumZ]))
    have HN : Hid (Calls Tryz.prog 98 #[.pointer (some ⟨Sb, 0, none⟩), .agg #[.int .i64 1, .int .i64 n, .int .i64 0, .string ⟨#[]⟩, .string ⟨#[]⟩, .pointer none, .pointer none, .pointer none], .slice none 0 0] w (NodeOut base Sb mb gb L Z H (keyP (varT n).hd []) w)) := HN.out
    clear hn hK hs
    go_enter Tryz.func112, Tryz.ntmps112
    go_wp2_with fail
    refine HN.out.mono ?_
    rintro e w' ⟨b', clock', L', Z', H', rfl, h1, ⟨c, h2⟩, h4, h5⟩
    have H1 := hide h1
    have H2 := hide h2
    have H4 := hide h4
    have H5 := hide h5
    clear h1 h2 h4 h5
    go_wp2_with fail
    go_ret
    exact ⟨b', clock', L', Z', H', rfl, H1.out, fun x hx => (H4.out x hx).1, ⟨c, H2.out⟩, H5.out⟩
/-- What lift's function keeps at hand. -/
def LiftInv (Sb cf cs cb : Nat) (f by' : Int) (_ : Unit) (w : World) : Prop := w.cell? ⟨cf, 0, none⟩ = some (.int .i64 f) ∧ w.cell? ⟨cs, 0, none⟩ = some (.pointer (some ⟨Sb, 0, none⟩)) ∧ w.cell? ⟨cb, 0, none⟩ = some (.int .i64 by')
theorem LiftInv.same {Sb cf cs cb : Nat} {f by' : Int} (s : Unit) (w w' : World) (h : LiftInv Sb cf cs cb f by' s w) (hh : ∀ b ∈ [cf, cs, cb], w'.heap[b]? = w.heap[b]?) : LiftInv Sb cf cs cb f by' s w' :=
  ⟨heap_cell (hh cf (by simp)) h.1, heap_cell (hh cs (by simp)) h.2.1, heap_cell (hh cb (by simp)) h.2.2⟩
set_option maxRecDepth 20000 in
set_option maxHeartbeats 8000000 in
theorem liftF_ok (base Sb mb gb cf cs cb : Nat) (f by' U : Int) (hf : 0 ≤ f ∧ f ≤ 20000) (hby : 0 ≤ by' ∧ by' ≤ 100000) (hU : U ≤ 100000) (hne : ∀ x ∈ [cf, cs, cb], x ≠ mb) : KnowOk base Sb mb gb (fun k => k = mb) [cf, cs, cb] [] (fun _ _ => True) (LiftInv Sb cf cs cb f by') (knowL f by') 111 (.pointer (some ⟨cf, 0, none⟩)) (.pointer (some ⟨cs, 0, none⟩)) (.pointer (some ⟨cb, 0, none⟩)) U := by
  intro T b u s w clock L Z H hs hbase hT hP hu0 hu1 _ _ hI hbl hCs
  obtain ⟨i0, i1, i2⟩ := hI
  have hz := ist_z hs T.cnt T b (Nat.le_refl _) hT
  obtain ⟨ps, c, hpl, hm, _⟩ := ist_open hT
  obtain ⟨lv, ls, nb, _⟩ := (hs.ents _ hm).node
  have nb : NbAt w b (tmL (keyP T.hd ps) lv (Z b) (H b)) := nb
  rw [hz] at nb
  have hlo : 0 ≤ T.z.lo ∧ T.z.lo ≤ 20001 := by
    have := (hs.ents _ hm).ok.1
    have h : ZOk (Z b) := this
    rw [hz] at h
    exact ⟨h.2.1, h.2.2⟩
  have hbm := (ist_lt hs hT).2.2.1
  have hnum : T.hd.k = 1 → 0 ≤ T.hd.n ∧ T.hd.n ≤ 20000 := fun e => num_of (td := T.hd.td []) (hd_all T hP).2 e
  have a0 : w.cell? ⟨b, 0, none⟩ = some (.int .i64 T.hd.k) := by rw [nb.cell 0 (by omega)]; rfl
  have a1 : w.cell? ⟨b, 1, none⟩ = some (.int .i64 T.hd.n) := by rw [nb.cell 1 (by omega)]; rfl
  have a10 : w.cell? ⟨b, 10, none⟩ = some (.int .i64 T.z.lo) := by rw [nb.cell 10 (by omega)]; rfl
  have hAl := lt_cell a0
  have hfl := lt_cell i0
  have hsl := lt_cell i1
  have hcl := lt_cell i2
  have HNE := hide hne
  have HTT := hide hT
  have HS := hide hs
  have HBS := hide hbase
  have HI : Hid (LiftInv Sb cf cs cb f by' () w) := ⟨i0, i1, i2⟩
  have HNM := hide hnum
  clear nb hz hne hT hs hbase hm hnum hbl hCs hP
  have p10 : ∀ p : Bel w.heap.size w, p.w'.cell? ⟨b, 10, none⟩ = some (.int .i64 T.z.lo) := fun p => p.cell hAl a10
  have pf : ∀ p : Bel w.heap.size w, p.w'.cell? ⟨cf, 0, none⟩ = some (.int .i64 f) := fun p => p.cell hfl i0
  haveI := bel_ne w.heap.size w
  have hcp := T.cnt_pos
  have hw1 : IntKind.i64.wrap (f + u) = f + u := by rw [IntKind.wrap_i64]; omega
  by_cases h1 : T.z.lo ≤ f + u
  · have HE : Hid (knowL f by' T u s = (some (some T), s)) := by show _ = _; unfold knowL; rw [if_pos h1]
    rw [HE.out]
    have d1 : decide (T.z.lo ≤ f + u) = true := by simp [h1]
    clear h1 a10 i0
    go_enter Tryz.func111, Tryz.ntmps111
    go_wp2_with fail
    refine wp_region_belH w.heap.size (by kernel_rfl) (by kernel_rfl) (fun Q' hQ' => ?_)
    repeat (refine QW.step (fun K hK => ?_); go_simp; first | (refine hK _ ?_; clear hK K) | fail)
    refine QW.nil ?_
    refine hQ'.out _ (fun p => ?_)
    clear hQ'
    go_wp2_with fail
    refine bodyPost_ret (v := .tuple #[.pointer (some ⟨b, 0, none⟩), .bool true]) (by simp [results, Tryz.results111, go_sem]) rfl ?_
    exact ⟨clock, L, Z, H, HS.out.keep p.h HBS.out, fun x hx => hx, KeptX.of p.h, HI.out.same _ _ _ (fun x hx => p.h.block x (by simp at hx; rcases hx with rfl | rfl | rfl <;> assumption)), .inr ⟨some T, b, rfl, rfl, HTT.out⟩⟩
  · have d1 : decide (T.z.lo ≤ f + u) = false := by simp; omega
    by_cases h2 : T.hd.k = 1
    · have HE : Hid (knowL f by' T u s = (some (if 20000 < T.hd.n + by' then none else some (varT (T.hd.n + by'))), s)) := by show _ = _; unfold knowL; rw [if_neg h1, if_pos h2]
      rw [HE.out]
      obtain ⟨rr, hrr⟩ : ∃ rr : Option Tt, rr = if 20000 < T.hd.n + by' then none else some (varT (T.hd.n + by')) := ⟨_, rfl⟩
      rw [← hrr]
      have HRR := hide hrr
      clear hrr HE
      obtain ⟨n0, n1⟩ := HNM.out h2
      have q2 : (T.hd.k == 1) = true := by simp [h2]
      have hw2 : IntKind.i64.wrap (T.hd.n + by') = T.hd.n + by' := by rw [IntKind.wrap_i64]; omega
      clear h1 h2
      go_enter Tryz.func111, Tryz.ntmps111
      go_wp2_with fail
      refine wp_region_belH w.heap.size (by kernel_rfl) (by kernel_rfl) (fun Q' hQ' => ?_)
      repeat (refine QW.step (fun K hK => ?_); go_simp; first | (refine hK _ ?_; clear hK K) | fail)
      refine QW.nil ?_
      refine hQ'.out _ (fun p => ?_)
      clear hQ' p10 pf
      obtain ⟨V0, hV0⟩ : ∃ V0, V0 = p.w' := ⟨_, rfl⟩
      have hb0 : Below w.heap.size w V0 := by rw [hV0]; exact p.h
      rw [← hV0]
      clear hV0
      have a0 := keep_cell hb0 a0
      have a1 := keep_cell hb0 a1
      have i1 := keep_cell hb0 i1
      have i2 := keep_cell hb0 i2
      have hAl := lt_cell a0
      have hsl := lt_cell i1
      have hcl := lt_cell i2
      obtain ⟨V, hV⟩ : ∃ V, V = V0.drew := ⟨_, rfl⟩
      have hbV : Below w.heap.size w V := by rw [hV]; exact hb0.drew
      have HSV := hide (HS.out.keep hbV HBS.out)
      have HIV : Hid (LiftInv Sb cf cs cb f by' () V) := HI.out.same _ _ _ (fun x hx => hbV.block x (by simp at hx; rcases hx with rfl | rfl | rfl <;> assumption))
      have HVR := hide (variable_any base Sb mb gb clock L Z H (T.hd.n + by') V HSV.out (Nat.le_trans HBS.out hbV.size) (by omega))
      rw [← HRR.out] at HVR
      have HG := hide (fun (wx : World) (h : wx.heap[b]? = V0.heap[b]?) => heap_cell h a1)
      have HGS := hide (fun (wx : World) (h : wx.heap[cs]? = V0.heap[cs]?) => heap_cell h i1)
      have HGB := hide (fun (wx : World) (h : wx.heap[cb]? = V0.heap[cb]?) => heap_cell h i2)
      have HKV := hide (KeptX.of (C := fun k => k = mb) hbV)
      have hS0 : (fun w' : World => w'.heap[b]? = V0.heap[b]? ∧ w'.heap[cs]? = V0.heap[cs]? ∧ w'.heap[cb]? = V0.heap[cb]?) V0.drew := ⟨rfl, rfl, rfl⟩
      have hVl : b < V.heap.size ∧ cs < V.heap.size ∧ cb < V.heap.size := by rw [hV]; exact ⟨hAl, hsl, hcl⟩
      have hVb : ∀ x : Nat, V.heap[x]? = V0.heap[x]? := fun x => by rw [hV]; rfl
      have HV := hide hV
      clear hV hbV hb0
      go_wp2_with fail
      refine anyE_region (L := 10) (S := fun w' : World => w'.heap[b]? = V0.heap[b]? ∧ w'.heap[cs]? = V0.heap[cs]? ∧ w'.heap[cb]? = V0.heap[cb]?) (by kernel_rfl) ?_
      refine anyE_take 0 (v := ?v1) rfl (by kernel_rfl) (by kernel_rfl) (by kernel_rfl) (by kernel_rfl) (fun _ _ _ h => h) (by rfl) ?hy1 hS0 ?rest1
      case hy1 =>
        intro wx hx
        have m1 := HG.out wx hx.1
        have ms := HGS.out wx hx.2.1
        have mb' := HGB.out wx hx.2.2
        go_simp
        try rfl
      case rest1 =>
      intro K hK
      go_simp
      refine hK.out _ ?_
      clear hK K
      refine anyE_take 1 (v := ?v2) rfl (by kernel_rfl) (by kernel_rfl) (by kernel_rfl) (by kernel_rfl) (fun _ _ _ h => h) (by rfl) ?hy2 hS0 ?rest2
      case hy2 =>
        intro wx hx
        have m1 := HG.out wx hx.1
        have ms := HGS.out wx hx.2.1
        have mb' := HGB.out wx hx.2.2
        go_simp
        try rfl
      case rest2 =>
      intro K hK
      go_simp
      refine hK.out _ ?_
      clear hK K
      refine anyE_take 2 (v := ?v3) rfl (by kernel_rfl) (by kernel_rfl) (by kernel_rfl) (by kernel_rfl) (fun _ _ _ h => h) (by rfl) ?hy3 hS0 ?rest3
      case hy3 =>
        intro wx hx
        have m1 := HG.out wx hx.1
        have ms := HGS.out wx hx.2.1
        have mb' := HGB.out wx hx.2.2
        go_simp
        try rfl
      case rest3 =>
      intro K hK
      go_simp
      refine hK.out _ ?_
      clear hK K
      refine anyE_take 3 (v := ?v4) rfl (by kernel_rfl) (by kernel_rfl) (by kernel_rfl) (by kernel_rfl) (fun _ _ _ h => h) (by rfl) ?hy4 hS0 ?rest4
      case hy4 =>
        intro wx hx
        have m1 := HG.out wx hx.1
        have ms := HGS.out wx hx.2.1
        have mb' := HGB.out wx hx.2.2
        go_simp
        try rfl
      case rest4 =>
      intro K hK
      go_simp
      refine hK.out _ ?_
      clear hK K
      refine anyE_take 4 (v := ?v5) rfl (by kernel_rfl) (by kernel_rfl) (by kernel_rfl) (by kernel_rfl) (fun _ _ _ h => h) (by rfl) ?hy5 hS0 ?rest5
      case hy5 =>
        intro wx hx
        have m1 := HG.out wx hx.1
        have ms := HGS.out wx hx.2.1
        have mb' := HGB.out wx hx.2.2
        go_simp
        try rfl
      case rest5 =>
      intro K hK
      go_simp
      refine hK.out _ ?_
      clear hK K
      refine anyE_take 5 (v := ?v6) rfl (by kernel_rfl) (by kernel_rfl) (by kernel_rfl) (by kernel_rfl) (fun _ _ _ h => h) (by rfl) ?hy6 hS0 ?rest6
      case hy6 =>
        intro wx hx
        have m1 := HG.out wx hx.1
        have ms := HGS.out wx hx.2.1
        have mb' := HGB.out wx hx.2.2
        go_simp
        try rfl
      case rest6 =>
      intro K hK
      go_simp
      refine hK.out _ ?_
      clear hK K
      refine anyE_take 6 (v := ?v7) rfl (by kernel_rfl) (by kernel_rfl) (by kernel_rfl) (by kernel_rfl) (fun _ _ _ h => h) (by rfl) ?hy7 hS0 ?rest7
      case hy7 =>
        intro wx hx
        have m1 := HG.out wx hx.1
        have ms := HGS.out wx hx.2.1
        have mb' := HGB.out wx hx.2.2
        go_simp
        try rfl
      case rest7 =>
      intro K hK
      go_simp
      refine hK.out _ ?_
      clear hK K
      refine anyE_take 7 (v := ?v8) rfl (by kernel_rfl) (by kernel_rfl) (by kernel_rfl) (by kernel_rfl) (fun _ _ _ h => h) (by rfl) ?hy8 hS0 ?rest8
      case hy8 =>
        intro wx hx
        have m1 := HG.out wx hx.1
        have ms := HGS.out wx hx.2.1
        have mb' := HGB.out wx hx.2.2
        go_simp
        try rfl
      case rest8 =>
      intro K hK
      go_simp
      refine hK.out _ ?_
      clear hK K
      refine anyE_one 8 (by kernel_rfl) rfl (fun K hK => ?_)
      rw [← HV.out]
      go_simp
      refine HVR.out.mono ?_
      rintro e w' ⟨b', clock', L', Z', H', rfl, g1, g2, g3, g4⟩
      have H1 := hide g1
      have H2 := hide g2
      have H3 := hide g3
      have hk4 : KeptX (fun k => k = mb) V w' := KeptX.grown g4 (fun x hx => (Option.some.inj hx).symm)
      have H4 := hide (HKV.out.trans hk4)
      have HI4 : Hid (LiftInv Sb cf cs cb f by' () w') := HIV.out.same _ _ _ (fun x hx => hk4.block x (by have := HKV.out.size; simp at hx; rcases hx with rfl | rfl | rfl <;> omega) (HNE.out x hx))
      have e1 : w'.heap[b]? = V0.heap[b]? := (hk4.block b hVl.1 hbm).trans (hVb b)
      have e2 : w'.heap[cs]? = V0.heap[cs]? := (hk4.block cs hVl.2.1 (HNE.out cs (by simp))).trans (hVb cs)
      have e3 : w'.heap[cb]? = V0.heap[cb]? := (hk4.block cb hVl.2.2 (HNE.out cb (by simp))).trans (hVb cb)
      clear g1 g2 g3 g4 hk4
      refine hK.out _ _ (fun _ => ⟨e1, e2, e3⟩) ?_
      clear hK K
      refine anyE_one 9 (by kernel_rfl) rfl (fun K hK => ?_)
      go_simp
      refine hK.out _ _ (fun _ => ⟨e1, e2, e3⟩) ?_
      clear hK K
      refine anyE_one 10 (by kernel_rfl) rfl (fun K hK => ?_)
      go_simp
      refine hK.out _ _ (fun h => absurd rfl h) ?_
      clear hK K
      refine anyE_done (by kernel_rfl) ?_ _
      go_wp2_with fail
      refine bodyPost_ret (v := .tuple #[.pointer (some ⟨b', 0, none⟩), .bool true]) (by simp [results, Tryz.results111, go_sem]) rfl ?_
      exact ⟨clock', L', Z', H', H1.out, H2.out, H4.out, HI4.out, .inr ⟨_, b', rfl, rfl, H3.out⟩⟩
    · have HE : Hid (knowL f by' T u s = (none, s)) := by show _ = _; unfold knowL; rw [if_neg h1, if_neg h2]
      rw [HE.out]
      have q2 : (T.hd.k == 1) = false := by simp [h2]
      clear h1 h2
      go_enter Tryz.func111, Tryz.ntmps111
      go_wp2_with fail
      refine wp_region_belH w.heap.size (by kernel_rfl) (by kernel_rfl) (fun Q' hQ' => ?_)
      repeat (refine QW.step (fun K hK => ?_); go_simp; first | (refine hK _ ?_; clear hK K) | fail)
      refine QW.nil ?_
      refine hQ'.out _ (fun p => ?_)
      clear hQ' p10 pf
      have a0 := p.cell hAl a0
      have hAl := lt_cell a0
      go_wp2_with fail
      refine bodyPost_ret (v := .tuple #[.pointer none, .bool false]) (by simp [results, Tryz.results111, go_sem]) rfl ?_
      exact ⟨clock, L, Z, H, HS.out.keep p.h HBS.out, fun x hx => hx, KeptX.of p.h, HI.out.same _ _ _ (fun x hx => p.h.block x (by simp at hx; rcases hx with rfl | rfl | rfl <;> assumption)), .inl ⟨rfl, none, rfl⟩⟩
end Go.Proofs.YtjkkojefpecbfaaGreat

/- What change and lift answer. -/
namespace Go.Proofs.YtjkkojefpecbfaaGreat
open Go.ChangeShapes Go.WideShapes Go.ChangeAt Go.RowKit

theorem KeptX.one {mb : Nat} {w w' : World} (h : KeptX (fun k => k = mb) w w') : w.grownBy w' (some mb) :=
  ⟨h.os, h.tape, h.output, h.size, fun k hk hr => h.block k hk (fun e => hr (by rw [e]))⟩
set_option maxRecDepth 20000 in
set_option maxHeartbeats 4000000 in
theorem change_any {S : Type} (base Sb mb gb : Nat) (C : Nat → Prop) (bl : List Nat) (aa : List (Tt × Nat)) (Pre : Tt → S → Prop) (Inv : S → World → Prop) (know : Tt → Int → S → Option (Option Tt) × S) (gf : Nat) (x0 x1 x2 : Value) (U : Int)
    (heg : ∀ args w, (callFunc gf args).run Tryz.prog w = .ok (.enter gf args) w) (hC : C mb) (hCl : ∀ k, C k → base ≤ k) (hInv : ∀ s w w', Inv s w → (∀ b ∈ bl, w'.heap[b]? = w.heap[b]?) → Inv s w') (hPre : ∀ T u s s1 j (h : j < T.kids.length), Pre T s → know T u s = (none, s1) → Pre T.kids[j] (chgJ know T u s1 j).2) (HK : Hid (KnowOk base Sb mb gb C bl aa Pre Inv know gf x0 x1 x2 U)) (hU : U ≤ 100000) (hmb : ∀ x ∈ bl, x ≠ mb)
    (T : Tt) (b : Nat) (s : S) (w : World) (clock : Nat) (L : List (Nk × Nat × Nat)) (Z : Nat → Zs) (H : Nat → Bool) (hs : St base w Sb mb gb clock L Z H) (hbase : base ≤ w.heap.size) (hT : IsT L T b) (hP : T.all nodeP) (hu : T.cnt ≤ U) (hA : ∀ p ∈ aa, IsT L p.1 p.2) (hpr : Pre T s) (hI : Inv s w) (hbl : ∀ x ∈ bl, x < w.heap.size) (hCs : ∀ k, C k → k < w.heap.size) :
    Calls Tryz.prog 110 #[.pointer (some ⟨Sb, 0, none⟩), .pointer (some ⟨b, 0, none⟩), .func (.func gf) #[] #[x0, x1, x2]] w (FoldOut base Sb mb gb C Inv L (chgS know T 0 s) w) := by
  have hmf : ∀ (fn : Fn) (first cap : Array Value) (w : World), (Instr.makeFunc fn first cap).run Tryz.prog w = .ok (.func fn first cap) w := fun _ _ _ _ => rfl
  have HF := hide (fold_ptr base Sb mb gb C bl aa Pre Inv know gf x0 x1 x2 U heg hC hCl hInv hPre HK hU hmb T.cnt T b 0 s w clock L Z H (Nat.le_refl _) hs hbase hT hP (Int.le_refl _) (by omega) hA hpr hI hbl hCs)
  generalize chgS know T 0 s = r at *
  clear heg hC hCl hInv HK hmb hs hT hP hI hbl hCs hA hpr hPre
  go_enter Tryz.func110, Tryz.ntmps110
  go_wp2_with fail
  refine HF.out.mono ?_
  rintro e w1 ⟨b', clock', L', Z', H', rfl, h1, h2, h3, h4, h5⟩
  have H1 := hide h1
  have H2 := hide h2
  have H3 := hide h3
  have H4 := hide h4
  have H5 := hide h5
  clear h1 h2 h3 h4 h5
  go_wp2_with fail
  go_ret
  exact ⟨b', clock', L', Z', H', rfl, H1.out, H2.out, H3.out, H4.out, H5.out⟩
theorem enter111 : ∀ args w, (callFunc 111 args).run Tryz.prog w = .ok (.enter 111 args) w := fun _ _ => by kernel_rfl
set_option maxRecDepth 20000 in
set_option maxHeartbeats 4000000 in
theorem lift_any (base Sb mb gb clock : Nat) (L : List (Nk × Nat × Nat)) (Z : Nat → Zs) (H : Nat → Bool) (T : Tt) (b : Nat) (f by' : Int) (w : World) (hs : St base w Sb mb gb clock L Z H) (hbase : base ≤ w.heap.size) (hT : IsT L T b) (hP : T.all nodeP) (hf : 0 ≤ f ∧ f ≤ 20000) (hby : 0 ≤ by' ∧ by' ≤ 100000) :
    Calls Tryz.prog 65 #[.pointer (some ⟨Sb, 0, none⟩), .pointer (some ⟨b, 0, none⟩), .int .i64 f, .int .i64 by'] w (WithOut base Sb mb gb L (chgS (knowL f by') T 0 ()).1 w) := by
  have hmf : ∀ (fn : Fn) (first cap : Array Value) (w : World), (Instr.makeFunc fn first cap).run Tryz.prog w = .ok (.func fn first cap) w := fun _ _ _ _ => rfl
  obtain ⟨W, hW⟩ : ∃ W, W = ((w.alloc (.cells #[.pointer (some ⟨Sb, 0, none⟩)] 82)).alloc (.cells #[.int .i64 f] 3)).alloc (.cells #[.int .i64 by'] 3) := ⟨_, rfl⟩
  have hbW : Below w.heap.size w W := by rw [hW]; exact bel_alloc (bel_alloc (bel_alloc (Below.refl _ _) _) _) _
  have c0 : W.cell? ⟨w.heap.size, 0, none⟩ = some (.pointer (some ⟨Sb, 0, none⟩)) := by rw [hW]; simp [go_sem]
  have c1 : W.cell? ⟨w.heap.size + 1, 0, none⟩ = some (.int .i64 f) := by rw [hW]; simp [go_sem]
  have c2 : W.cell? ⟨w.heap.size + 1 + 1, 0, none⟩ = some (.int .i64 by') := by rw [hW]; simp [go_sem]
  have l0 := lt_cell c0
  have l1 := lt_cell c1
  have l2 := lt_cell c2
  have hml : mb < w.heap.size := (Array.getElem?_eq_some_iff.1 hs.mp).1
  have hmlo : base ≤ mb := hs.lows.2
  have hne : ∀ x ∈ [w.heap.size + 1, w.heap.size, w.heap.size + 1 + 1], x ≠ mb := fun x hx => by simp at hx; rcases hx with rfl | rfl | rfl <;> omega
  have hcnt := (ist_lt hs hT).1
  have HC := hide (change_any base Sb mb gb (fun k => k = mb) [w.heap.size + 1, w.heap.size, w.heap.size + 1 + 1] [] (fun _ _ => True) (LiftInv Sb (w.heap.size + 1) w.heap.size (w.heap.size + 1 + 1) f by') (knowL f by') 111 (.pointer (some ⟨w.heap.size + 1, 0, none⟩)) (.pointer (some ⟨w.heap.size, 0, none⟩)) (.pointer (some ⟨w.heap.size + 1 + 1, 0, none⟩)) 100000 enter111 rfl (fun k (hk : k = mb) => by omega) (fun s w w' h hh => h.same s w w' hh) (fun _ _ _ _ _ _ _ _ => trivial)
    (hide (liftF_ok base Sb mb gb _ _ _ f by' 100000 hf hby (by omega) hne)) (by omega) hne T b () W clock L Z H (hs.keep hbW hbase) (Nat.le_trans hbase hbW.size) hT hP (by omega) (fun p hp => by cases hp) trivial ⟨c1, c0, c2⟩ (fun x hx => by simp at hx; rcases hx with rfl | rfl | rfl <;> assumption) (fun k (hk : k = mb) => by have := hbW.size; omega))
  have HZ0 : Hid (by' = 0 → Res gb L (chgS (knowL f by') T 0 ()).1 b) := fun e => by
    subst e
    rw [chg_liftR f 0 T 0 (all_mono node_var hP) hcnt, liftR_zero, far_no _ (all_mono node_var hP)]
    exact hT
  have HSK := hide (hs.keep hbW hbase)
  generalize chgS (knowL f by') T 0 () = r at *
  have HBW := hide hbW
  clear hs hT hP hne hbW c1 l1
  go_enter Tryz.func65, Tryz.ntmps65
  go_upto_region 1 with fail
  rw [← hW]
  clear hW
  by_cases h0 : by' = 0
  · have d0 : (by' == 0) = true := beq_iff_eq.2 h0
    have HR0 := hide (HZ0.out h0)
    clear h0 HZ0
    go_wp2_with fail
    go_ret
    exact ⟨b, clock, L, Z, H, rfl, HSK.out, fun _ h => h, HR0.out, (grown_of HBW.out).but (some mb)⟩
  have d0 : (by' == 0) = false := beq_eq_false_iff_ne.2 h0
  clear h0 HZ0 HSK
  go_wp2_with fail
  refine HC.out.mono ?_
  rintro e w1 ⟨b', clock', L', Z', H', rfl, h1, h2, h3, h4, h5⟩
  have H1 := hide h1
  have H2 := hide h2
  have H3 := hide (((grown_of HBW.out).but (some mb)).trans h3.one)
  have H5 := hide h5
  clear h1 h2 h3 h4 h5
  go_wp2_with fail
  go_ret
  exact ⟨b', clock', L', Z', H', rfl, H1.out, H2.out, H5.out, H3.out⟩
end Go.Proofs.YtjkkojefpecbfaaGreat
