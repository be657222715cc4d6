/- What the copying of a declaration (toDecl, toCtorS, toCtor) answers: a new one with the same parts; nothing that was there is written. -/
import Derived.Test.YtpmpooekpeocdaaGreatDcA
import Derived.Test.YtpmpooekpeocdaaGreatTTm
namespace Go.Proofs.YtpmpooekpeocdaaGreat
open Go.ChangeShapes Go.WideShapes Go.ChangeAt Go.RowKit

theorem Tryz.info73 : (Tryz.prog.info? 73).map (fun i => (i.zero, i.size, i.bytes)) = some (some (.agg #[.string ⟨#[]⟩, .slice none 0 0]), 2, 40) := by kernel_rfl
def CtSmall (c : Ct) : Prop := c.t.length ≤ 1048576 ∧ ∀ td ∈ c.t, TSmall td
structure DcSmall (d : Dc) : Prop where
  ps : d.ps.length ≤ 1048576
  t : d.t.length ≤ 1048576 ∧ ∀ td ∈ d.t, TSmall td
  v : d.v.length ≤ 1048576 ∧ ∀ td ∈ d.v, TSmall td
  cs : d.cs.length ≤ 1048576 ∧ ∀ c ∈ d.cs, CtSmall c
theorem heap_alloc_atD (w : World) (o : Obj) {k : Nat} (h : k = w.heap.size) : (w.alloc o).heap[k]? = some o := by subst h; exact heap_alloc_new w o
theorem fr_decl {B : Nat} {w : World} {pv tv vv cv : Value} {d : Dc} (h1 : Fr B w (fun w => StrsAt w pv d.ps)) (h2 : Fr B w (fun w => TNodesAt w tv d.t)) (h3 : Fr B w (fun w => TNodesAt w vv d.v)) (h4 : Fr B w (fun w => CtorsAt w cv d.cs)) : Fr B w (fun w => DeclAt w pv tv vv cv d) := fun w' hw => ⟨h1 w' hw, h2 w' hw, h3 w' hw, h4 w' hw⟩
theorem strs_fr {B : Nat} {w : World} {g n cap : Nat} {ss : List ByteArray} (h : StrsAt w (.slice (some ⟨g, 0, none⟩) n cap) ss) (hB : B ≤ g) : Fr B w (fun w => StrsAt w (.slice (some ⟨g, 0, none⟩) n cap) ss) := fun w' hw => by
  obtain ⟨a, c, h1, h2, h3, h4⟩ := h
  refine ⟨a, c, h1, h2, h3, fun h0 => ?_⟩
  obtain ⟨b, off, h5, h6⟩ := h4 h0
  have e : b = g := by rw [h5] at h1; injection h1 with h1; injection h1 with h1; injection h1 with h1; exact h1.symm
  exact ⟨b, off, h5, fun j hj => hw _ _ _ (by omega) (h6 j hj)⟩
set_option maxRecDepth 20000 in
set_option maxHeartbeats 2000000 in
theorem toCtor_fr (c : Ct) (tv : Value) (w : World) (ht : TNodesAt w tv c.t) (hk : CtSmall c) :
    Calls Tryz.prog 78 #[.agg #[.string c.s, tv]] w fun e w' => ∃ g, e = .returned (.agg #[.string c.s, .slice (some ⟨g, 0, none⟩) c.t.length c.t.length]) ∧ Fr w.heap.size w' (fun w => TNodesAt w (.slice (some ⟨g, 0, none⟩) c.t.length c.t.length) c.t) ∧ w.heap.size ≤ g ∧ Below w.heap.size w w' := by
  have HK := hide hk
  have HT := hide ht
  obtain ⟨ta, tc, rfl⟩ := ht.form
  clear ht hk
  obtain ⟨W0, hW0⟩ : ∃ W0, W0 = (((w.alloc (.cells #[.string c.s, .slice ta c.t.length tc] 129)).alloc (.cells #[.string ⟨#[]⟩, .slice none 0 0] 73)).alloc (.cells #[.string ⟨#[]⟩, .slice none 0 0] 73)) := ⟨_, rfl⟩
  have hbW : Below w.heap.size w W0 := by rw [hW0]; exact bel_alloc (bel_alloc (bel_alloc (Below.refl _ _) _) _) _
  have HA0 : Hid (W0.heap[w.heap.size]? = some (.cells #[.string c.s, .slice ta c.t.length tc] 129 (0, 0))) := by show _ = _; rw [hW0, heap_alloc_old _ _ (by simp; omega), heap_alloc_old _ _ (by simp)]; exact heap_alloc_new w _
  have HR0 : Hid (W0.heap[w.heap.size + 1]? = some (.cells #[.string ⟨#[]⟩, .slice none 0 0] 73 (0, 0))) := by show _ = _; rw [hW0, heap_alloc_old _ _ (by simp)]; exact heap_alloc_atD _ _ (by simp)
  have HO0 : Hid (W0.heap[w.heap.size + 1 + 1]? = some (.cells #[.string ⟨#[]⟩, .slice none 0 0] 73 (0, 0))) := by show _ = _; rw [hW0]; exact heap_alloc_atD _ _ (by simp)
  have hz0 : w.heap.size + 1 + 1 < W0.heap.size := (Array.getElem?_eq_some_iff.1 HO0.out).1
  have HB0 := hide hbW
  clear hbW
  go_enter Tryz.func78, Tryz.ntmps78
  go_upto_region 2 with fail
  rw [← hW0]
  clear hW0
  have xa : W0.cell? ⟨w.heap.size, 0, none⟩ = some (.string c.s) := by rw [Lib.cell_of_heap HA0.out]; rfl
  have xl := lt_cell xa
  have xb : W0.cell? ⟨w.heap.size + 1 + 1, 0, none⟩ = some (.string ⟨#[]⟩) := by rw [Lib.cell_of_heap HO0.out]; rfl
  have xf : W0.frozen? ⟨w.heap.size + 1 + 1, 0, none⟩ = false := Lib.frozen_of_heap HO0.out 0
  go_upto_region 3 with fail
  obtain ⟨W1, hWn⟩ : ∃ W1, W1 = W0.setCell ⟨w.heap.size + 1 + 1, 0, none⟩ (.string c.s) := ⟨_, rfl⟩
  rw [← hWn]
  have hgr : W0.grownBy W1 (some (w.heap.size + 1 + 1)) := by rw [hWn]; exact grown_set W0 ⟨_, 0, none⟩ _
  have hgs := hgr.size
  have HO1 : Hid (W1.heap[w.heap.size + 1 + 1]? = some (.cells #[.string c.s, .slice none 0 0] 73 (0, 0))) := by show _ = _; rw [hWn]; exact heap_setCell_same W0 _ 0 _ 73 _ HO0.out
  have HA1 : Hid (W1.heap[w.heap.size]? = some (.cells #[.string c.s, .slice ta c.t.length tc] 129 (0, 0))) := (hgr.block _ (by omega) (fun e => by have := Option.some.inj e; omega)).trans HA0.out
  have HR1 : Hid (W1.heap[w.heap.size + 1]? = some (.cells #[.string ⟨#[]⟩, .slice none 0 0] 73 (0, 0))) := (hgr.block _ (by omega) (fun e => by have := Option.some.inj e; omega)).trans HR0.out
  have HB1 : Hid (Below w.heap.size w W1) := HB0.out.grown hgr (by omega) (fun k hk => by have := Option.some.inj hk; omega)
  have hz1 : w.heap.size + 1 + 1 < W1.heap.size := by omega
  clear hWn hgr hgs xb xf HO0 HA0 HR0 HB0 hz0 xa xl
  have xa : W1.cell? ⟨w.heap.size, 1, none⟩ = some (.slice ta c.t.length tc) := by rw [Lib.cell_of_heap HA1.out]; rfl
  have xl := lt_cell xa
  have HC := hide (toTerm_fr _ c.t W1 (HT.out.keep HB1.out) HK.out.1 HK.out.2)
  go_wp2_with fail
  refine HC.out.mono ?_
  rintro e V1 ⟨g1, rfl, hfr, hgl, hb⟩
  have hbs := hb.size
  have HAV : Hid (V1.heap[w.heap.size]? = some (.cells #[.string c.s, .slice ta c.t.length tc] 129 (0, 0))) := (hb.block _ (by omega)).trans HA1.out
  have HRV : Hid (V1.heap[w.heap.size + 1]? = some (.cells #[.string ⟨#[]⟩, .slice none 0 0] 73 (0, 0))) := (hb.block _ (by omega)).trans HR1.out
  have HOV : Hid (V1.heap[w.heap.size + 1 + 1]? = some (.cells #[.string c.s, .slice none 0 0] 73 (0, 0))) := (hb.block _ (by omega)).trans HO1.out
  have HBV : Hid (Below w.heap.size w V1) := HB1.out.trans (hb.mono (by omega))
  have hzv : w.heap.size + 1 + 1 < V1.heap.size := by omega
  have HFTV : Hid (Fr (w.heap.size + 1 + 1 + 1) V1 (fun w => TNodesAt w (.slice (some ⟨g1, 0, none⟩) c.t.length c.t.length) c.t)) := hfr.mono (by omega)
  have hg1 : w.heap.size + 1 + 1 < g1 := by omega
  clear hb hfr hgl HC xa xl hbs
  have xb : V1.cell? ⟨w.heap.size + 1 + 1, 1, none⟩ = some (.slice none 0 0) := by rw [Lib.cell_of_heap HOV.out]; rfl
  have xf : V1.frozen? ⟨w.heap.size + 1 + 1, 1, none⟩ = false := Lib.frozen_of_heap HOV.out 1
  go_upto_region 4 with fail
  obtain ⟨W2, hWn⟩ : ∃ W2, W2 = V1.setCell ⟨w.heap.size + 1 + 1, 1, none⟩ (.slice (some ⟨g1, 0, none⟩) c.t.length c.t.length) := ⟨_, rfl⟩
  rw [← hWn]
  have hgr : V1.grownBy W2 (some (w.heap.size + 1 + 1)) := by rw [hWn]; exact grown_set V1 ⟨_, 1, none⟩ _
  have hgs := hgr.size
  have HO2 : Hid (W2.heap[w.heap.size + 1 + 1]? = some (.cells #[.string c.s, .slice (some ⟨g1, 0, none⟩) c.t.length c.t.length] 73 (0, 0))) := by show _ = _; rw [hWn]; exact heap_setCell_same V1 _ 1 _ 73 _ HOV.out
  have HA2 : Hid (W2.heap[w.heap.size]? = some (.cells #[.string c.s, .slice ta c.t.length tc] 129 (0, 0))) := (hgr.block _ (by omega) (fun e => by have := Option.some.inj e; omega)).trans HAV.out
  have HR2 : Hid (W2.heap[w.heap.size + 1]? = some (.cells #[.string ⟨#[]⟩, .slice none 0 0] 73 (0, 0))) := (hgr.block _ (by omega) (fun e => by have := Option.some.inj e; omega)).trans HRV.out
  have HB2 : Hid (Below w.heap.size w W2) := HBV.out.grown hgr (by omega) (fun k hk => by have := Option.some.inj hk; omega)
  have hz2 : w.heap.size + 1 + 1 < W2.heap.size := by omega
  have HFT : Hid (Fr (w.heap.size + 1 + 1 + 1) W2 (fun w => TNodesAt w (.slice (some ⟨g1, 0, none⟩) c.t.length c.t.length) c.t)) := by show Fr _ _ _; rw [hWn]; exact HFTV.out.set (p := ⟨_, _, _⟩) (by dsimp only; omega) _
  clear hWn hgr hgs xb xf HO1 HA1 HR1 HB1 hz1 HAV HRV HOV HBV hzv HFTV
  have p0 : W2.cell? ⟨w.heap.size + 1 + 1, 0, none⟩ = some (.string c.s) := by rw [Lib.cell_of_heap HO2.out]; rfl
  have r0 : W2.cell? ⟨w.heap.size + 1, 0, none⟩ = some (.string ⟨#[]⟩) := by rw [Lib.cell_of_heap HR2.out]; rfl
  have f0 : W2.frozen? ⟨w.heap.size + 1, 0, none⟩ = false := Lib.frozen_of_heap HR2.out 0
  have p1 : W2.cell? ⟨w.heap.size + 1 + 1, 1, none⟩ = some (.slice (some ⟨g1, 0, none⟩) c.t.length c.t.length) := by rw [Lib.cell_of_heap HO2.out]; rfl
  have r1 : W2.cell? ⟨w.heap.size + 1, 1, none⟩ = some (.slice none 0 0) := by rw [Lib.cell_of_heap HR2.out]; rfl
  have f1 : W2.frozen? ⟨w.heap.size + 1, 1, none⟩ = false := Lib.frozen_of_heap HR2.out 1
  go_wp2_with fail
  refine bodyPost_ret (v := .agg #[.string c.s, .slice (some ⟨g1, 0, none⟩) c.t.length c.t.length]) (by simp [results, Tryz.results78, go_sem, r0, r1]) rfl ?_
  refine ⟨g1, rfl, ?_, by omega, ?_⟩
  · exact Fr.mono (B := w.heap.size + 1 + 1 + 1) (Fr.set (Fr.set HFT.out (p := ⟨_, _, _⟩) (by dsimp only; omega) _) (p := ⟨_, _, _⟩) (by dsimp only; omega) _) (by omega)
  · exact (Below.setCell (Below.setCell HB2.out (p := ⟨_, _, _⟩) (by dsimp only; omega) _) (p := ⟨_, _, _⟩) (by dsimp only; omega) _)
/-- The first k constructors stand in the row R, what they lead to in blocks behind it. -/
def CtorsIn (w : World) (R : Nat) (xs : List Value) (cs : List Ct) (k : Nat) : Prop :=
  ∀ i (h : i < cs.length), i < k → xs[i * 2]? = some (.string cs[i].s) ∧ ∃ tv, xs[i * 2 + 1]? = some tv ∧ Fr (R + 1) w (fun w => TNodesAt w tv cs[i].t)
theorem CtorsIn.keep {w w' : World} (hb : Below w.heap.size w w') {R : Nat} {xs : List Value} {cs : List Ct} {k : Nat} (h : CtorsIn w R xs cs k) : CtorsIn w' R xs cs k := fun i hi hk => by
  obtain ⟨h1, tv, h2, h3⟩ := h i hi hk
  exact ⟨h1, tv, h2, h3.keep hb⟩
theorem CtorsIn.put {w w' : World} {R : Nat} {xs : List Value} {cs : List Ct} {k : Nat} {tv : Value} (hx : xs.length = cs.length * 2) (h : CtorsIn w R xs cs k) (hk : k < cs.length) (ht : Fr (R + 1) w (fun w => TNodesAt w tv cs[k].t)) (hw : ∀ P, Fr (R + 1) w P → Fr (R + 1) w' P) :
    CtorsIn w' R ((xs.set (k * 2) (.string cs[k].s)).set (k * 2 + 1) tv) cs (k + 1) := by
  intro i hi hik
  by_cases e : i = k
  · subst e
    refine ⟨?_, tv, ?_, hw _ ht⟩
    · rw [List.getElem?_set_ne (by omega), List.getElem?_set_self (by omega)]
    · rw [List.getElem?_set_self (by simp; omega)]
  · obtain ⟨h1, tv', h2, h3⟩ := h i hi (by omega)
    refine ⟨?_, tv', ?_, hw _ h3⟩
    · rw [List.getElem?_set_ne (by omega), List.getElem?_set_ne (by omega)]; exact h1
    · rw [List.getElem?_set_ne (by omega), List.getElem?_set_ne (by omega)]; exact h2
theorem CtorsIn.fr {w : World} {base R n cap : Nat} {e : TypeId} {xs : List Value} {cs : List Ct} (h : w.ownsRow base e 2 (.slice (some ⟨R, 0, none⟩) n cap) n xs) (hn : n = cs.length) (hx : CtorsIn w R xs cs cs.length) :
    Fr R w (fun w => CtorsAt w (.slice (some ⟨R, 0, none⟩) n cap) cs) := by
  subst hn
  intro w' hw
  rcases h.2 with ⟨h', _⟩ | ⟨g', cap', cur, h', _, hg, hnc, hcm, hcs, htake⟩
  · simp at h'
  · simp only [Value.slice.injEq, Option.some.injEq, Addr.mk.injEq, and_true, true_and] at h'
    obtain ⟨rfl, rfl⟩ := h'
    refine ⟨_, _, rfl, hnc, hcm, fun _ => ⟨R, 0, rfl, fun i hi => ?_⟩⟩
    obtain ⟨h1, tv, h2, h3⟩ := hx i hi hi
    rw [Nat.zero_add]
    have cc : ∀ o v, o < 2 → xs[i * 2 + o]? = some v → w'.cell? ⟨R, i * 2 + o, none⟩ = some v := fun o v ho hv => hw _ _ _ (Nat.le_refl _) (by rw [h.cellAt _ (by omega)]; exact hv)
    exact ⟨cc 0 _ (by omega) h1, tv, cc 1 _ (by omega) h2, h3 w' (fun b o v hb => hw b o v (by omega))⟩

set_option maxRecDepth 20000 in
set_option maxHeartbeats 2000000 in
theorem toCtorS_fr (v : Value) (cs : List Ct) (w : World) (hn : CtorsAt w v cs) (hl : cs.length ≤ 1048576) (hkl : ∀ c ∈ cs, CtSmall c) :
    Calls Tryz.prog 41 #[v] w fun e w' => ∃ g, e = .returned (.slice (some ⟨g, 0, none⟩) cs.length cs.length) ∧ Fr w.heap.size w' (fun w => CtorsAt w (.slice (some ⟨g, 0, none⟩) cs.length cs.length) cs) ∧ w.heap.size ≤ g ∧ Below w.heap.size w w' := by
  obtain ⟨i0, hi, hz0, hz1, hz2⟩ := info_parts Tryz.info73
  have HNN := hide hn
  obtain ⟨a, cap, rfl, hlc, hcm, _⟩ := hn
  have HK := hide hkl
  clear hkl
  go_enter Tryz.func41, Tryz.ntmps41
  go_wp2_with (at_make; refine wpList_make_full _ rfl _ _ 34 rfl w.heap.size 73 i0 (.agg #[.string ⟨#[]⟩, .slice none 0 0]) 2 Tryz.underlying34 hi hz0 hz1 .i64 .i64 _ _ cs.length rfl rfl rfl rfl (by rw [hz2]; omega) (by unfold maxLen; omega) (Nat.le_refl _) ?_; intro w1 hown hgrow)
  go_loopw [4] (fun i wr => ∃ (k : Nat) (xs : List Value), k ≤ cs.length ∧ i = .int .i64 k ∧ wr.ownsRow w.heap.size 73 2 (.slice (some ⟨w.heap.size, 0, none⟩) cs.length cs.length) cs.length xs ∧ Hid (CtorsIn wr w.heap.size xs cs k) ∧ w.heap.size < wr.heap.size ∧ Below w.heap.size w wr) (fun i _ => cs.length - (intOf i).toNat)
  case atStart => exact ⟨0, _, by omega, rfl, hown, fun j _ h => by omega, (hown.lt _ rfl).2, (Below.refl _ _).grown hgrow (Nat.le_refl _) (fun k hk => by cases hk)⟩
  case round =>
    obtain ⟨k, xs, hk, rfl, hownr, HX, hsz, hbel⟩ := hrel
    clear hown hgrow
    by_cases hlt : k < cs.length
    · obtain ⟨a', cap', e', _, _, hc0⟩ := HNN.out.keep hbel
      obtain ⟨b, off, ha, hc⟩ := hc0 (by omega)
      have ea : a = some ⟨b, off, none⟩ := by rw [← ha]; injection e'
      subst ea
      obtain ⟨c1, tv, c2, htv⟩ := hc k hlt
      have HSM := hide (HK.out cs[k] (by simp))
      have HTV := hide htv
      obtain ⟨ta, tc, rfl⟩ := htv.form
      clear hc hc0 e' ha htv
      go_wp2_with fail
      refine (toCtor_fr cs[k] _ _ HTV.out HSM.out).mono ?_
      rintro e w2 ⟨gt, rfl, hft, hgt, hb⟩
      have hown2 := row_keep hb hownr
      have HX2 := hide (HX.out.keep hb)
      have hbel2 : Below w.heap.size w w2 := hbel.trans (hb.mono hbel.size)
      have hxl := hown2.1
      have s0 := (hown2.stored (k * 2) (.string cs[k].s)).1
      have s1 := (s0.stored (k * 2 + 1) (.slice (some ⟨gt, 0, none⟩) cs[k].t.length cs[k].t.length)).1
      have f0 := hown2.frozenAt (k * 2)
      have f1 := hown2.frozenAt (k * 2 + 1)
      have e0 := hown2.cellAt (k * 2) (by omega)
      have e1 := hown2.cellAt (k * 2 + 1) (by omega)
      rw [List.getElem?_eq_getElem (by omega)] at e0 e1
      have hsz2 : w.heap.size < w2.heap.size := by have := hb.size; omega
      have HP := hide (HX2.out.put (w' := ((w2.setCell ⟨w.heap.size, k * 2, none⟩ (.string cs[k].s)).setCell ⟨w.heap.size, k * 2 + 1, none⟩ (.slice (some ⟨gt, 0, none⟩) cs[k].t.length cs[k].t.length))) (by omega) hlt (hft.mono (by omega)) (fun P hP => Fr.set (Fr.set hP (p := ⟨_, _, _⟩) (by dsimp only; omega) _) (p := ⟨_, _, _⟩) (by dsimp only; omega) _))
      have HB2 := hide hbel2
      clear HX2 HX hft hown2 hownr s0 hb c1 c2 hbel2
      go_wp2_with fail
      go_roundw
      case rel => exact ⟨k + 1, _, by omega, by go_num, s1, HP, by simpa [World.setCell] using hsz2, (HB2.out.setCell (p := ⟨_, _, _⟩) (Nat.le_refl _) _).setCell (p := ⟨_, _, _⟩) (Nat.le_refl _) _⟩
      case measure => simp [intOf]; omega
    · have hall := CtorsIn.fr hownr rfl (by have := HX.out; rwa [show k = cs.length from by omega] at this)
      go_wp2_with fail
      go_ret
      exact ⟨_, rfl, hall, Nat.le_refl _, hbel⟩
set_option maxRecDepth 20000 in
set_option maxHeartbeats 4000000 in
theorem toDecl_fr (d : Dc) (pv tv vv cv : Value) (w : World) (hd : DeclAt w pv tv vv cv d) (hk : DcSmall d) :
    Calls Tryz.prog 12 #[declV d pv tv vv cv] w fun e w' => ∃ pv' tv' vv' cv', e = .returned (declV d pv' tv' vv' cv') ∧ Fr w.heap.size w' (fun w => DeclAt w pv' tv' vv' cv' d) ∧ Below w.heap.size w w' := by
  have HK := hide hk
  have HD := hide hd
  obtain ⟨pa, pc, hpv⟩ : ∃ a c, pv = .slice a d.ps.length c := by obtain ⟨a, c, h, _⟩ := hd.ps; exact ⟨a, c, h⟩
  obtain ⟨ta, tc, htv⟩ := hd.t.form
  obtain ⟨va, vc, hvv⟩ := hd.v.form
  obtain ⟨ca, cc, hcv⟩ := hd.cs.form
  subst hpv htv hvv hcv
  clear hd hk
  unfold declV
  obtain ⟨W0, hW0⟩ : ∃ W0, W0 = (((w.alloc (.cells #[.int .i64 d.k, .string d.s, .slice pa d.ps.length pc, .slice ta d.t.length tc, .slice va d.v.length vc, .int .i64 d.f, .slice ca d.cs.length cc] 28)).alloc (.cells #[.int .i64 0, .string ⟨#[]⟩, .slice none 0 0, .slice none 0 0, .slice none 0 0, .int .i64 0, .slice none 0 0] 36)).alloc (.cells #[.int .i64 0, .string ⟨#[]⟩, .slice none 0 0, .slice none 0 0, .slice none 0 0, .int .i64 0, .slice none 0 0] 36)) := ⟨_, rfl⟩
  have hbW : Below w.heap.size w W0 := by rw [hW0]; exact bel_alloc (bel_alloc (bel_alloc (Below.refl _ _) _) _) _
  have HA0 : Hid (W0.heap[w.heap.size]? = some (.cells #[.int .i64 d.k, .string d.s, .slice pa d.ps.length pc, .slice ta d.t.length tc, .slice va d.v.length vc, .int .i64 d.f, .slice ca d.cs.length cc] 28 (0, 0))) := by show _ = _; rw [hW0, heap_alloc_old _ _ (by simp; omega), heap_alloc_old _ _ (by simp)]; exact heap_alloc_new w _
  have HR0 : Hid (W0.heap[w.heap.size + 1]? = some (.cells #[.int .i64 0, .string ⟨#[]⟩, .slice none 0 0, .slice none 0 0, .slice none 0 0, .int .i64 0, .slice none 0 0] 36 (0, 0))) := by show _ = _; rw [hW0, heap_alloc_old _ _ (by simp)]; exact heap_alloc_atD _ _ (by simp)
  have HO0 : Hid (W0.heap[w.heap.size + 1 + 1]? = some (.cells #[.int .i64 0, .string ⟨#[]⟩, .slice none 0 0, .slice none 0 0, .slice none 0 0, .int .i64 0, .slice none 0 0] 36 (0, 0))) := by show _ = _; rw [hW0]; exact heap_alloc_atD _ _ (by simp)
  have hz0 : w.heap.size + 1 + 1 < W0.heap.size := (Array.getElem?_eq_some_iff.1 HO0.out).1
  have HB0 := hide hbW
  clear hbW
  go_enter Tryz.func12, Tryz.ntmps12
  go_upto_region 2 with fail
  rw [← hW0]
  clear hW0
  have xa : W0.cell? ⟨w.heap.size, 0, none⟩ = some (.int .i64 d.k) := by rw [Lib.cell_of_heap HA0.out]; rfl
  have xl := lt_cell xa
  have xb : W0.cell? ⟨w.heap.size + 1 + 1, 0, none⟩ = some (.int .i64 0) := by rw [Lib.cell_of_heap HO0.out]; rfl
  have xf : W0.frozen? ⟨w.heap.size + 1 + 1, 0, none⟩ = false := Lib.frozen_of_heap HO0.out 0
  go_upto_region 3 with fail
  obtain ⟨W1, hWn⟩ : ∃ W1, W1 = W0.setCell ⟨w.heap.size + 1 + 1, 0, none⟩ (.int .i64 d.k) := ⟨_, rfl⟩
  rw [← hWn]
  have hgr : W0.grownBy W1 (some (w.heap.size + 1 + 1)) := by rw [hWn]; exact grown_set W0 ⟨_, 0, none⟩ _
  have hgs := hgr.size
  have HO1 : Hid (W1.heap[w.heap.size + 1 + 1]? = some (.cells #[.int .i64 d.k, .string ⟨#[]⟩, .slice none 0 0, .slice none 0 0, .slice none 0 0, .int .i64 0, .slice none 0 0] 36 (0, 0))) := by show _ = _; rw [hWn]; exact heap_setCell_same W0 _ 0 _ 36 _ HO0.out
  have HA1 : Hid (W1.heap[w.heap.size]? = some (.cells #[.int .i64 d.k, .string d.s, .slice pa d.ps.length pc, .slice ta d.t.length tc, .slice va d.v.length vc, .int .i64 d.f, .slice ca d.cs.length cc] 28 (0, 0))) := (hgr.block _ (by omega) (fun e => by have := Option.some.inj e; omega)).trans HA0.out
  have HR1 : Hid (W1.heap[w.heap.size + 1]? = some (.cells #[.int .i64 0, .string ⟨#[]⟩, .slice none 0 0, .slice none 0 0, .slice none 0 0, .int .i64 0, .slice none 0 0] 36 (0, 0))) := (hgr.block _ (by omega) (fun e => by have := Option.some.inj e; omega)).trans HR0.out
  have HB1 : Hid (Below w.heap.size w W1) := HB0.out.grown hgr (by omega) (fun k hk => by have := Option.some.inj hk; omega)
  have hz1 : w.heap.size + 1 + 1 < W1.heap.size := by omega
  clear hWn hgr hgs xb xf HO0 HA0 HR0 HB0 hz0 xa xl
  have xa : W1.cell? ⟨w.heap.size, 1, none⟩ = some (.string d.s) := by rw [Lib.cell_of_heap HA1.out]; rfl
  have xl := lt_cell xa
  have xb : W1.cell? ⟨w.heap.size + 1 + 1, 1, none⟩ = some (.string ⟨#[]⟩) := by rw [Lib.cell_of_heap HO1.out]; rfl
  have xf : W1.frozen? ⟨w.heap.size + 1 + 1, 1, none⟩ = false := Lib.frozen_of_heap HO1.out 1
  go_upto_region 4 with fail
  obtain ⟨W2, hWn⟩ : ∃ W2, W2 = W1.setCell ⟨w.heap.size + 1 + 1, 1, none⟩ (.string d.s) := ⟨_, rfl⟩
  rw [← hWn]
  have hgr : W1.grownBy W2 (some (w.heap.size + 1 + 1)) := by rw [hWn]; exact grown_set W1 ⟨_, 1, none⟩ _
  have hgs := hgr.size
  have HO2 : Hid (W2.heap[w.heap.size + 1 + 1]? = some (.cells #[.int .i64 d.k, .string d.s, .slice none 0 0, .slice none 0 0, .slice none 0 0, .int .i64 0, .slice none 0 0] 36 (0, 0))) := by show _ = _; rw [hWn]; exact heap_setCell_same W1 _ 1 _ 36 _ HO1.out
  have HA2 : Hid (W2.heap[w.heap.size]? = some (.cells #[.int .i64 d.k, .string d.s, .slice pa d.ps.length pc, .slice ta d.t.length tc, .slice va d.v.length vc, .int .i64 d.f, .slice ca d.cs.length cc] 28 (0, 0))) := (hgr.block _ (by omega) (fun e => by have := Option.some.inj e; omega)).trans HA1.out
  have HR2 : Hid (W2.heap[w.heap.size + 1]? = some (.cells #[.int .i64 0, .string ⟨#[]⟩, .slice none 0 0, .slice none 0 0, .slice none 0 0, .int .i64 0, .slice none 0 0] 36 (0, 0))) := (hgr.block _ (by omega) (fun e => by have := Option.some.inj e; omega)).trans HR1.out
  have HB2 : Hid (Below w.heap.size w W2) := HB1.out.grown hgr (by omega) (fun k hk => by have := Option.some.inj hk; omega)
  have hz2 : w.heap.size + 1 + 1 < W2.heap.size := by omega
  clear hWn hgr hgs xb xf HO1 HA1 HR1 HB1 hz1 xa xl
  have xa : W2.cell? ⟨w.heap.size, 2, none⟩ = some (.slice pa d.ps.length pc) := by rw [Lib.cell_of_heap HA2.out]; rfl
  have xl := lt_cell xa
  have HC := hide ((toStringS_own _ d.ps W2 (HD.out.ps.keep HB2.out) HK.out.ps))
  go_wp2_with fail
  refine HC.out.mono ?_
  rintro e V2 ⟨g2, rfl, hfr, hgl, hb⟩
  have hbs := hb.size
  have HAV : Hid (V2.heap[w.heap.size]? = some (.cells #[.int .i64 d.k, .string d.s, .slice pa d.ps.length pc, .slice ta d.t.length tc, .slice va d.v.length vc, .int .i64 d.f, .slice ca d.cs.length cc] 28 (0, 0))) := (hb.block _ (by omega)).trans HA2.out
  have HRV : Hid (V2.heap[w.heap.size + 1]? = some (.cells #[.int .i64 0, .string ⟨#[]⟩, .slice none 0 0, .slice none 0 0, .slice none 0 0, .int .i64 0, .slice none 0 0] 36 (0, 0))) := (hb.block _ (by omega)).trans HR2.out
  have HOV : Hid (V2.heap[w.heap.size + 1 + 1]? = some (.cells #[.int .i64 d.k, .string d.s, .slice none 0 0, .slice none 0 0, .slice none 0 0, .int .i64 0, .slice none 0 0] 36 (0, 0))) := (hb.block _ (by omega)).trans HO2.out
  have HBV : Hid (Below w.heap.size w V2) := HB2.out.trans (hb.mono (by omega))
  have hzv : w.heap.size + 1 + 1 < V2.heap.size := by omega
  have HFPV : Hid (Fr (w.heap.size + 1 + 1 + 1) V2 (fun w => StrsAt w (.slice (some ⟨g2, 0, none⟩) d.ps.length d.ps.length) d.ps)) := strs_fr (row_strs hfr) (by omega)
  have hg2 : w.heap.size + 1 + 1 < g2 := by omega
  clear hb hfr hgl HC xa xl hbs
  have xb : V2.cell? ⟨w.heap.size + 1 + 1, 2, none⟩ = some (.slice none 0 0) := by rw [Lib.cell_of_heap HOV.out]; rfl
  have xf : V2.frozen? ⟨w.heap.size + 1 + 1, 2, none⟩ = false := Lib.frozen_of_heap HOV.out 2
  go_upto_region 5 with fail
  obtain ⟨W3, hWn⟩ : ∃ W3, W3 = V2.setCell ⟨w.heap.size + 1 + 1, 2, none⟩ (.slice (some ⟨g2, 0, none⟩) d.ps.length d.ps.length) := ⟨_, rfl⟩
  rw [← hWn]
  have hgr : V2.grownBy W3 (some (w.heap.size + 1 + 1)) := by rw [hWn]; exact grown_set V2 ⟨_, 2, none⟩ _
  have hgs := hgr.size
  have HO3 : Hid (W3.heap[w.heap.size + 1 + 1]? = some (.cells #[.int .i64 d.k, .string d.s, .slice (some ⟨g2, 0, none⟩) d.ps.length d.ps.length, .slice none 0 0, .slice none 0 0, .int .i64 0, .slice none 0 0] 36 (0, 0))) := by show _ = _; rw [hWn]; exact heap_setCell_same V2 _ 2 _ 36 _ HOV.out
  have HA3 : Hid (W3.heap[w.heap.size]? = some (.cells #[.int .i64 d.k, .string d.s, .slice pa d.ps.length pc, .slice ta d.t.length tc, .slice va d.v.length vc, .int .i64 d.f, .slice ca d.cs.length cc] 28 (0, 0))) := (hgr.block _ (by omega) (fun e => by have := Option.some.inj e; omega)).trans HAV.out
  have HR3 : Hid (W3.heap[w.heap.size + 1]? = some (.cells #[.int .i64 0, .string ⟨#[]⟩, .slice none 0 0, .slice none 0 0, .slice none 0 0, .int .i64 0, .slice none 0 0] 36 (0, 0))) := (hgr.block _ (by omega) (fun e => by have := Option.some.inj e; omega)).trans HRV.out
  have HB3 : Hid (Below w.heap.size w W3) := HBV.out.grown hgr (by omega) (fun k hk => by have := Option.some.inj hk; omega)
  have hz3 : w.heap.size + 1 + 1 < W3.heap.size := by omega
  have HFP : Hid (Fr (w.heap.size + 1 + 1 + 1) W3 (fun w => StrsAt w (.slice (some ⟨g2, 0, none⟩) d.ps.length d.ps.length) d.ps)) := by show Fr _ _ _; rw [hWn]; exact HFPV.out.set (p := ⟨_, _, _⟩) (by dsimp only; omega) _
  clear hWn hgr hgs xb xf HO2 HA2 HR2 HB2 hz2 HAV HRV HOV HBV hzv HFPV
  have xa : W3.cell? ⟨w.heap.size, 3, none⟩ = some (.slice ta d.t.length tc) := by rw [Lib.cell_of_heap HA3.out]; rfl
  have xl := lt_cell xa
  have HC := hide ((toTerm_fr _ d.t W3 (HD.out.t.keep HB3.out) HK.out.t.1 HK.out.t.2))
  go_wp2_with fail
  refine HC.out.mono ?_
  rintro e V3 ⟨g3, rfl, hfr, hgl, hb⟩
  have hbs := hb.size
  have HAV : Hid (V3.heap[w.heap.size]? = some (.cells #[.int .i64 d.k, .string d.s, .slice pa d.ps.length pc, .slice ta d.t.length tc, .slice va d.v.length vc, .int .i64 d.f, .slice ca d.cs.length cc] 28 (0, 0))) := (hb.block _ (by omega)).trans HA3.out
  have HRV : Hid (V3.heap[w.heap.size + 1]? = some (.cells #[.int .i64 0, .string ⟨#[]⟩, .slice none 0 0, .slice none 0 0, .slice none 0 0, .int .i64 0, .slice none 0 0] 36 (0, 0))) := (hb.block _ (by omega)).trans HR3.out
  have HOV : Hid (V3.heap[w.heap.size + 1 + 1]? = some (.cells #[.int .i64 d.k, .string d.s, .slice (some ⟨g2, 0, none⟩) d.ps.length d.ps.length, .slice none 0 0, .slice none 0 0, .int .i64 0, .slice none 0 0] 36 (0, 0))) := (hb.block _ (by omega)).trans HO3.out
  have HBV : Hid (Below w.heap.size w V3) := HB3.out.trans (hb.mono (by omega))
  have hzv : w.heap.size + 1 + 1 < V3.heap.size := by omega
  have HFPV : Hid (Fr (w.heap.size + 1 + 1 + 1) V3 (fun w => StrsAt w (.slice (some ⟨g2, 0, none⟩) d.ps.length d.ps.length) d.ps)) := HFP.out.keep hb
  have HFTV : Hid (Fr (w.heap.size + 1 + 1 + 1) V3 (fun w => TNodesAt w (.slice (some ⟨g3, 0, none⟩) d.t.length d.t.length) d.t)) := hfr.mono (by omega)
  have hg3 : w.heap.size + 1 + 1 < g3 := by omega
  clear hb hfr hgl HC xa xl hbs
  have xb : V3.cell? ⟨w.heap.size + 1 + 1, 3, none⟩ = some (.slice none 0 0) := by rw [Lib.cell_of_heap HOV.out]; rfl
  have xf : V3.frozen? ⟨w.heap.size + 1 + 1, 3, none⟩ = false := Lib.frozen_of_heap HOV.out 3
  go_upto_region 6 with fail
  obtain ⟨W4, hWn⟩ : ∃ W4, W4 = V3.setCell ⟨w.heap.size + 1 + 1, 3, none⟩ (.slice (some ⟨g3, 0, none⟩) d.t.length d.t.length) := ⟨_, rfl⟩
  rw [← hWn]
  have hgr : V3.grownBy W4 (some (w.heap.size + 1 + 1)) := by rw [hWn]; exact grown_set V3 ⟨_, 3, none⟩ _
  have hgs := hgr.size
  have HO4 : Hid (W4.heap[w.heap.size + 1 + 1]? = some (.cells #[.int .i64 d.k, .string d.s, .slice (some ⟨g2, 0, none⟩) d.ps.length d.ps.length, .slice (some ⟨g3, 0, none⟩) d.t.length d.t.length, .slice none 0 0, .int .i64 0, .slice none 0 0] 36 (0, 0))) := by show _ = _; rw [hWn]; exact heap_setCell_same V3 _ 3 _ 36 _ HOV.out
  have HA4 : Hid (W4.heap[w.heap.size]? = some (.cells #[.int .i64 d.k, .string d.s, .slice pa d.ps.length pc, .slice ta d.t.length tc, .slice va d.v.length vc, .int .i64 d.f, .slice ca d.cs.length cc] 28 (0, 0))) := (hgr.block _ (by omega) (fun e => by have := Option.some.inj e; omega)).trans HAV.out
  have HR4 : Hid (W4.heap[w.heap.size + 1]? = some (.cells #[.int .i64 0, .string ⟨#[]⟩, .slice none 0 0, .slice none 0 0, .slice none 0 0, .int .i64 0, .slice none 0 0] 36 (0, 0))) := (hgr.block _ (by omega) (fun e => by have := Option.some.inj e; omega)).trans HRV.out
  have HB4 : Hid (Below w.heap.size w W4) := HBV.out.grown hgr (by omega) (fun k hk => by have := Option.some.inj hk; omega)
  have hz4 : w.heap.size + 1 + 1 < W4.heap.size := by omega
  have HFP : Hid (Fr (w.heap.size + 1 + 1 + 1) W4 (fun w => StrsAt w (.slice (some ⟨g2, 0, none⟩) d.ps.length d.ps.length) d.ps)) := by show Fr _ _ _; rw [hWn]; exact HFPV.out.set (p := ⟨_, _, _⟩) (by dsimp only; omega) _
  have HFT : Hid (Fr (w.heap.size + 1 + 1 + 1) W4 (fun w => TNodesAt w (.slice (some ⟨g3, 0, none⟩) d.t.length d.t.length) d.t)) := by show Fr _ _ _; rw [hWn]; exact HFTV.out.set (p := ⟨_, _, _⟩) (by dsimp only; omega) _
  clear hWn hgr hgs xb xf HO3 HA3 HR3 HB3 hz3 HAV HRV HOV HBV hzv HFPV HFTV
  have xa : W4.cell? ⟨w.heap.size, 4, none⟩ = some (.slice va d.v.length vc) := by rw [Lib.cell_of_heap HA4.out]; rfl
  have xl := lt_cell xa
  have HC := hide ((toTerm_fr _ d.v W4 (HD.out.v.keep HB4.out) HK.out.v.1 HK.out.v.2))
  go_wp2_with fail
  refine HC.out.mono ?_
  rintro e V4 ⟨g4, rfl, hfr, hgl, hb⟩
  have hbs := hb.size
  have HAV : Hid (V4.heap[w.heap.size]? = some (.cells #[.int .i64 d.k, .string d.s, .slice pa d.ps.length pc, .slice ta d.t.length tc, .slice va d.v.length vc, .int .i64 d.f, .slice ca d.cs.length cc] 28 (0, 0))) := (hb.block _ (by omega)).trans HA4.out
  have HRV : Hid (V4.heap[w.heap.size + 1]? = some (.cells #[.int .i64 0, .string ⟨#[]⟩, .slice none 0 0, .slice none 0 0, .slice none 0 0, .int .i64 0, .slice none 0 0] 36 (0, 0))) := (hb.block _ (by omega)).trans HR4.out
  have HOV : Hid (V4.heap[w.heap.size + 1 + 1]? = some (.cells #[.int .i64 d.k, .string d.s, .slice (some ⟨g2, 0, none⟩) d.ps.length d.ps.length, .slice (some ⟨g3, 0, none⟩) d.t.length d.t.length, .slice none 0 0, .int .i64 0, .slice none 0 0] 36 (0, 0))) := (hb.block _ (by omega)).trans HO4.out
  have HBV : Hid (Below w.heap.size w V4) := HB4.out.trans (hb.mono (by omega))
  have hzv : w.heap.size + 1 + 1 < V4.heap.size := by omega
  have HFPV : Hid (Fr (w.heap.size + 1 + 1 + 1) V4 (fun w => StrsAt w (.slice (some ⟨g2, 0, none⟩) d.ps.length d.ps.length) d.ps)) := HFP.out.keep hb
  have HFTV : Hid (Fr (w.heap.size + 1 + 1 + 1) V4 (fun w => TNodesAt w (.slice (some ⟨g3, 0, none⟩) d.t.length d.t.length) d.t)) := HFT.out.keep hb
  have HFVV : Hid (Fr (w.heap.size + 1 + 1 + 1) V4 (fun w => TNodesAt w (.slice (some ⟨g4, 0, none⟩) d.v.length d.v.length) d.v)) := hfr.mono (by omega)
  have hg4 : w.heap.size + 1 + 1 < g4 := by omega
  clear hb hfr hgl HC xa xl hbs
  have xb : V4.cell? ⟨w.heap.size + 1 + 1, 4, none⟩ = some (.slice none 0 0) := by rw [Lib.cell_of_heap HOV.out]; rfl
  have xf : V4.frozen? ⟨w.heap.size + 1 + 1, 4, none⟩ = false := Lib.frozen_of_heap HOV.out 4
  go_upto_region 7 with fail
  obtain ⟨W5, hWn⟩ : ∃ W5, W5 = V4.setCell ⟨w.heap.size + 1 + 1, 4, none⟩ (.slice (some ⟨g4, 0, none⟩) d.v.length d.v.length) := ⟨_, rfl⟩
  rw [← hWn]
  have hgr : V4.grownBy W5 (some (w.heap.size + 1 + 1)) := by rw [hWn]; exact grown_set V4 ⟨_, 4, none⟩ _
  have hgs := hgr.size
  have HO5 : Hid (W5.heap[w.heap.size + 1 + 1]? = some (.cells #[.int .i64 d.k, .string d.s, .slice (some ⟨g2, 0, none⟩) d.ps.length d.ps.length, .slice (some ⟨g3, 0, none⟩) d.t.length d.t.length, .slice (some ⟨g4, 0, none⟩) d.v.length d.v.length, .int .i64 0, .slice none 0 0] 36 (0, 0))) := by show _ = _; rw [hWn]; exact heap_setCell_same V4 _ 4 _ 36 _ HOV.out
  have HA5 : Hid (W5.heap[w.heap.size]? = some (.cells #[.int .i64 d.k, .string d.s, .slice pa d.ps.length pc, .slice ta d.t.length tc, .slice va d.v.length vc, .int .i64 d.f, .slice ca d.cs.length cc] 28 (0, 0))) := (hgr.block _ (by omega) (fun e => by have := Option.some.inj e; omega)).trans HAV.out
  have HR5 : Hid (W5.heap[w.heap.size + 1]? = some (.cells #[.int .i64 0, .string ⟨#[]⟩, .slice none 0 0, .slice none 0 0, .slice none 0 0, .int .i64 0, .slice none 0 0] 36 (0, 0))) := (hgr.block _ (by omega) (fun e => by have := Option.some.inj e; omega)).trans HRV.out
  have HB5 : Hid (Below w.heap.size w W5) := HBV.out.grown hgr (by omega) (fun k hk => by have := Option.some.inj hk; omega)
  have hz5 : w.heap.size + 1 + 1 < W5.heap.size := by omega
  have HFP : Hid (Fr (w.heap.size + 1 + 1 + 1) W5 (fun w => StrsAt w (.slice (some ⟨g2, 0, none⟩) d.ps.length d.ps.length) d.ps)) := by show Fr _ _ _; rw [hWn]; exact HFPV.out.set (p := ⟨_, _, _⟩) (by dsimp only; omega) _
  have HFT : Hid (Fr (w.heap.size + 1 + 1 + 1) W5 (fun w => TNodesAt w (.slice (some ⟨g3, 0, none⟩) d.t.length d.t.length) d.t)) := by show Fr _ _ _; rw [hWn]; exact HFTV.out.set (p := ⟨_, _, _⟩) (by dsimp only; omega) _
  have HFV : Hid (Fr (w.heap.size + 1 + 1 + 1) W5 (fun w => TNodesAt w (.slice (some ⟨g4, 0, none⟩) d.v.length d.v.length) d.v)) := by show Fr _ _ _; rw [hWn]; exact HFVV.out.set (p := ⟨_, _, _⟩) (by dsimp only; omega) _
  clear hWn hgr hgs xb xf HO4 HA4 HR4 HB4 hz4 HAV HRV HOV HBV hzv HFPV HFTV HFVV
  have xa : W5.cell? ⟨w.heap.size, 5, none⟩ = some (.int .i64 d.f) := by rw [Lib.cell_of_heap HA5.out]; rfl
  have xl := lt_cell xa
  have xb : W5.cell? ⟨w.heap.size + 1 + 1, 5, none⟩ = some (.int .i64 0) := by rw [Lib.cell_of_heap HO5.out]; rfl
  have xf : W5.frozen? ⟨w.heap.size + 1 + 1, 5, none⟩ = false := Lib.frozen_of_heap HO5.out 5
  go_upto_region 8 with fail
  obtain ⟨W6, hWn⟩ : ∃ W6, W6 = W5.setCell ⟨w.heap.size + 1 + 1, 5, none⟩ (.int .i64 d.f) := ⟨_, rfl⟩
  rw [← hWn]
  have hgr : W5.grownBy W6 (some (w.heap.size + 1 + 1)) := by rw [hWn]; exact grown_set W5 ⟨_, 5, none⟩ _
  have hgs := hgr.size
  have HO6 : Hid (W6.heap[w.heap.size + 1 + 1]? = some (.cells #[.int .i64 d.k, .string d.s, .slice (some ⟨g2, 0, none⟩) d.ps.length d.ps.length, .slice (some ⟨g3, 0, none⟩) d.t.length d.t.length, .slice (some ⟨g4, 0, none⟩) d.v.length d.v.length, .int .i64 d.f, .slice none 0 0] 36 (0, 0))) := by show _ = _; rw [hWn]; exact heap_setCell_same W5 _ 5 _ 36 _ HO5.out
  have HA6 : Hid (W6.heap[w.heap.size]? = some (.cells #[.int .i64 d.k, .string d.s, .slice pa d.ps.length pc, .slice ta d.t.length tc, .slice va d.v.length vc, .int .i64 d.f, .slice ca d.cs.length cc] 28 (0, 0))) := (hgr.block _ (by omega) (fun e => by have := Option.some.inj e; omega)).trans HA5.out
  have HR6 : Hid (W6.heap[w.heap.size + 1]? = some (.cells #[.int .i64 0, .string ⟨#[]⟩, .slice none 0 0, .slice none 0 0, .slice none 0 0, .int .i64 0, .slice none 0 0] 36 (0, 0))) := (hgr.block _ (by omega) (fun e => by have := Option.some.inj e; omega)).trans HR5.out
  have HB6 : Hid (Below w.heap.size w W6) := HB5.out.grown hgr (by omega) (fun k hk => by have := Option.some.inj hk; omega)
  have hz6 : w.heap.size + 1 + 1 < W6.heap.size := by omega
  have HFP : Hid (Fr (w.heap.size + 1 + 1 + 1) W6 (fun w => StrsAt w (.slice (some ⟨g2, 0, none⟩) d.ps.length d.ps.length) d.ps)) := by show Fr _ _ _; rw [hWn]; exact HFP.out.set (p := ⟨_, _, _⟩) (by dsimp only; omega) _
  have HFT : Hid (Fr (w.heap.size + 1 + 1 + 1) W6 (fun w => TNodesAt w (.slice (some ⟨g3, 0, none⟩) d.t.length d.t.length) d.t)) := by show Fr _ _ _; rw [hWn]; exact HFT.out.set (p := ⟨_, _, _⟩) (by dsimp only; omega) _
  have HFV : Hid (Fr (w.heap.size + 1 + 1 + 1) W6 (fun w => TNodesAt w (.slice (some ⟨g4, 0, none⟩) d.v.length d.v.length) d.v)) := by show Fr _ _ _; rw [hWn]; exact HFV.out.set (p := ⟨_, _, _⟩) (by dsimp only; omega) _
  clear hWn hgr hgs xb xf HO5 HA5 HR5 HB5 hz5 xa xl
  have xa : W6.cell? ⟨w.heap.size, 6, none⟩ = some (.slice ca d.cs.length cc) := by rw [Lib.cell_of_heap HA6.out]; rfl
  have xl := lt_cell xa
  have HC := hide ((toCtorS_fr _ d.cs W6 (HD.out.cs.keep HB6.out) HK.out.cs.1 HK.out.cs.2))
  go_wp2_with fail
  refine HC.out.mono ?_
  rintro e V6 ⟨g6, rfl, hfr, hgl, hb⟩
  have hbs := hb.size
  have HAV : Hid (V6.heap[w.heap.size]? = some (.cells #[.int .i64 d.k, .string d.s, .slice pa d.ps.length pc, .slice ta d.t.length tc, .slice va d.v.length vc, .int .i64 d.f, .slice ca d.cs.length cc] 28 (0, 0))) := (hb.block _ (by omega)).trans HA6.out
  have HRV : Hid (V6.heap[w.heap.size + 1]? = some (.cells #[.int .i64 0, .string ⟨#[]⟩, .slice none 0 0, .slice none 0 0, .slice none 0 0, .int .i64 0, .slice none 0 0] 36 (0, 0))) := (hb.block _ (by omega)).trans HR6.out
  have HOV : Hid (V6.heap[w.heap.size + 1 + 1]? = some (.cells #[.int .i64 d.k, .string d.s, .slice (some ⟨g2, 0, none⟩) d.ps.length d.ps.length, .slice (some ⟨g3, 0, none⟩) d.t.length d.t.length, .slice (some ⟨g4, 0, none⟩) d.v.length d.v.length, .int .i64 d.f, .slice none 0 0] 36 (0, 0))) := (hb.block _ (by omega)).trans HO6.out
  have HBV : Hid (Below w.heap.size w V6) := HB6.out.trans (hb.mono (by omega))
  have hzv : w.heap.size + 1 + 1 < V6.heap.size := by omega
  have HFPV : Hid (Fr (w.heap.size + 1 + 1 + 1) V6 (fun w => StrsAt w (.slice (some ⟨g2, 0, none⟩) d.ps.length d.ps.length) d.ps)) := HFP.out.keep hb
  have HFTV : Hid (Fr (w.heap.size + 1 + 1 + 1) V6 (fun w => TNodesAt w (.slice (some ⟨g3, 0, none⟩) d.t.length d.t.length) d.t)) := HFT.out.keep hb
  have HFVV : Hid (Fr (w.heap.size + 1 + 1 + 1) V6 (fun w => TNodesAt w (.slice (some ⟨g4, 0, none⟩) d.v.length d.v.length) d.v)) := HFV.out.keep hb
  have HFCV : Hid (Fr (w.heap.size + 1 + 1 + 1) V6 (fun w => CtorsAt w (.slice (some ⟨g6, 0, none⟩) d.cs.length d.cs.length) d.cs)) := hfr.mono (by omega)
  have hg6 : w.heap.size + 1 + 1 < g6 := by omega
  clear hb hfr hgl HC xa xl hbs
  have xb : V6.cell? ⟨w.heap.size + 1 + 1, 6, none⟩ = some (.slice none 0 0) := by rw [Lib.cell_of_heap HOV.out]; rfl
  have xf : V6.frozen? ⟨w.heap.size + 1 + 1, 6, none⟩ = false := Lib.frozen_of_heap HOV.out 6
  go_upto_region 9 with fail
  obtain ⟨W7, hWn⟩ : ∃ W7, W7 = V6.setCell ⟨w.heap.size + 1 + 1, 6, none⟩ (.slice (some ⟨g6, 0, none⟩) d.cs.length d.cs.length) := ⟨_, rfl⟩
  rw [← hWn]
  have hgr : V6.grownBy W7 (some (w.heap.size + 1 + 1)) := by rw [hWn]; exact grown_set V6 ⟨_, 6, none⟩ _
  have hgs := hgr.size
  have HO7 : Hid (W7.heap[w.heap.size + 1 + 1]? = some (.cells #[.int .i64 d.k, .string d.s, .slice (some ⟨g2, 0, none⟩) d.ps.length d.ps.length, .slice (some ⟨g3, 0, none⟩) d.t.length d.t.length, .slice (some ⟨g4, 0, none⟩) d.v.length d.v.length, .int .i64 d.f, .slice (some ⟨g6, 0, none⟩) d.cs.length d.cs.length] 36 (0, 0))) := by show _ = _; rw [hWn]; exact heap_setCell_same V6 _ 6 _ 36 _ HOV.out
  have HA7 : Hid (W7.heap[w.heap.size]? = some (.cells #[.int .i64 d.k, .string d.s, .slice pa d.ps.length pc, .slice ta d.t.length tc, .slice va d.v.length vc, .int .i64 d.f, .slice ca d.cs.length cc] 28 (0, 0))) := (hgr.block _ (by omega) (fun e => by have := Option.some.inj e; omega)).trans HAV.out
  have HR7 : Hid (W7.heap[w.heap.size + 1]? = some (.cells #[.int .i64 0, .string ⟨#[]⟩, .slice none 0 0, .slice none 0 0, .slice none 0 0, .int .i64 0, .slice none 0 0] 36 (0, 0))) := (hgr.block _ (by omega) (fun e => by have := Option.some.inj e; omega)).trans HRV.out
  have HB7 : Hid (Below w.heap.size w W7) := HBV.out.grown hgr (by omega) (fun k hk => by have := Option.some.inj hk; omega)
  have hz7 : w.heap.size + 1 + 1 < W7.heap.size := by omega
  have HFP : Hid (Fr (w.heap.size + 1 + 1 + 1) W7 (fun w => StrsAt w (.slice (some ⟨g2, 0, none⟩) d.ps.length d.ps.length) d.ps)) := by show Fr _ _ _; rw [hWn]; exact HFPV.out.set (p := ⟨_, _, _⟩) (by dsimp only; omega) _
  have HFT : Hid (Fr (w.heap.size + 1 + 1 + 1) W7 (fun w => TNodesAt w (.slice (some ⟨g3, 0, none⟩) d.t.length d.t.length) d.t)) := by show Fr _ _ _; rw [hWn]; exact HFTV.out.set (p := ⟨_, _, _⟩) (by dsimp only; omega) _
  have HFV : Hid (Fr (w.heap.size + 1 + 1 + 1) W7 (fun w => TNodesAt w (.slice (some ⟨g4, 0, none⟩) d.v.length d.v.length) d.v)) := by show Fr _ _ _; rw [hWn]; exact HFVV.out.set (p := ⟨_, _, _⟩) (by dsimp only; omega) _
  have HFC : Hid (Fr (w.heap.size + 1 + 1 + 1) W7 (fun w => CtorsAt w (.slice (some ⟨g6, 0, none⟩) d.cs.length d.cs.length) d.cs)) := by show Fr _ _ _; rw [hWn]; exact HFCV.out.set (p := ⟨_, _, _⟩) (by dsimp only; omega) _
  clear hWn hgr hgs xb xf HO6 HA6 HR6 HB6 hz6 HAV HRV HOV HBV hzv HFPV HFTV HFVV HFCV
  have p0 : W7.cell? ⟨w.heap.size + 1 + 1, 0, none⟩ = some (.int .i64 d.k) := by rw [Lib.cell_of_heap HO7.out]; rfl
  have r0 : W7.cell? ⟨w.heap.size + 1, 0, none⟩ = some (.int .i64 0) := by rw [Lib.cell_of_heap HR7.out]; rfl
  have f0 : W7.frozen? ⟨w.heap.size + 1, 0, none⟩ = false := Lib.frozen_of_heap HR7.out 0
  have p1 : W7.cell? ⟨w.heap.size + 1 + 1, 1, none⟩ = some (.string d.s) := by rw [Lib.cell_of_heap HO7.out]; rfl
  have r1 : W7.cell? ⟨w.heap.size + 1, 1, none⟩ = some (.string ⟨#[]⟩) := by rw [Lib.cell_of_heap HR7.out]; rfl
  have f1 : W7.frozen? ⟨w.heap.size + 1, 1, none⟩ = false := Lib.frozen_of_heap HR7.out 1
  have p2 : W7.cell? ⟨w.heap.size + 1 + 1, 2, none⟩ = some (.slice (some ⟨g2, 0, none⟩) d.ps.length d.ps.length) := by rw [Lib.cell_of_heap HO7.out]; rfl
  have r2 : W7.cell? ⟨w.heap.size + 1, 2, none⟩ = some (.slice none 0 0) := by rw [Lib.cell_of_heap HR7.out]; rfl
  have f2 : W7.frozen? ⟨w.heap.size + 1, 2, none⟩ = false := Lib.frozen_of_heap HR7.out 2
  have p3 : W7.cell? ⟨w.heap.size + 1 + 1, 3, none⟩ = some (.slice (some ⟨g3, 0, none⟩) d.t.length d.t.length) := by rw [Lib.cell_of_heap HO7.out]; rfl
  have r3 : W7.cell? ⟨w.heap.size + 1, 3, none⟩ = some (.slice none 0 0) := by rw [Lib.cell_of_heap HR7.out]; rfl
  have f3 : W7.frozen? ⟨w.heap.size + 1, 3, none⟩ = false := Lib.frozen_of_heap HR7.out 3
  have p4 : W7.cell? ⟨w.heap.size + 1 + 1, 4, none⟩ = some (.slice (some ⟨g4, 0, none⟩) d.v.length d.v.length) := by rw [Lib.cell_of_heap HO7.out]; rfl
  have r4 : W7.cell? ⟨w.heap.size + 1, 4, none⟩ = some (.slice none 0 0) := by rw [Lib.cell_of_heap HR7.out]; rfl
  have f4 : W7.frozen? ⟨w.heap.size + 1, 4, none⟩ = false := Lib.frozen_of_heap HR7.out 4
  have p5 : W7.cell? ⟨w.heap.size + 1 + 1, 5, none⟩ = some (.int .i64 d.f) := by rw [Lib.cell_of_heap HO7.out]; rfl
  have r5 : W7.cell? ⟨w.heap.size + 1, 5, none⟩ = some (.int .i64 0) := by rw [Lib.cell_of_heap HR7.out]; rfl
  have f5 : W7.frozen? ⟨w.heap.size + 1, 5, none⟩ = false := Lib.frozen_of_heap HR7.out 5
  have p6 : W7.cell? ⟨w.heap.size + 1 + 1, 6, none⟩ = some (.slice (some ⟨g6, 0, none⟩) d.cs.length d.cs.length) := by rw [Lib.cell_of_heap HO7.out]; rfl
  have r6 : W7.cell? ⟨w.heap.size + 1, 6, none⟩ = some (.slice none 0 0) := by rw [Lib.cell_of_heap HR7.out]; rfl
  have f6 : W7.frozen? ⟨w.heap.size + 1, 6, none⟩ = false := Lib.frozen_of_heap HR7.out 6
  go_wp2_with fail
  refine bodyPost_ret (v := .agg #[.int .i64 d.k, .string d.s, .slice (some ⟨g2, 0, none⟩) d.ps.length d.ps.length, .slice (some ⟨g3, 0, none⟩) d.t.length d.t.length, .slice (some ⟨g4, 0, none⟩) d.v.length d.v.length, .int .i64 d.f, .slice (some ⟨g6, 0, none⟩) d.cs.length d.cs.length]) (by simp [results, Tryz.results12, go_sem, r0, r1, r2, r3, r4, r5, r6]) rfl ?_
  refine ⟨_, _, _, _, rfl, fr_decl ?_ ?_ ?_ ?_, ?_⟩
  · exact Fr.mono (B := w.heap.size + 1 + 1 + 1) (Fr.set (Fr.set (Fr.set (Fr.set (Fr.set (Fr.set (Fr.set HFP.out (p := ⟨_, _, _⟩) (by dsimp only; omega) _) (p := ⟨_, _, _⟩) (by dsimp only; omega) _) (p := ⟨_, _, _⟩) (by dsimp only; omega) _) (p := ⟨_, _, _⟩) (by dsimp only; omega) _) (p := ⟨_, _, _⟩) (by dsimp only; omega) _) (p := ⟨_, _, _⟩) (by dsimp only; omega) _) (p := ⟨_, _, _⟩) (by dsimp only; omega) _) (by omega)
  · exact Fr.mono (B := w.heap.size + 1 + 1 + 1) (Fr.set (Fr.set (Fr.set (Fr.set (Fr.set (Fr.set (Fr.set HFT.out (p := ⟨_, _, _⟩) (by dsimp only; omega) _) (p := ⟨_, _, _⟩) (by dsimp only; omega) _) (p := ⟨_, _, _⟩) (by dsimp only; omega) _) (p := ⟨_, _, _⟩) (by dsimp only; omega) _) (p := ⟨_, _, _⟩) (by dsimp only; omega) _) (p := ⟨_, _, _⟩) (by dsimp only; omega) _) (p := ⟨_, _, _⟩) (by dsimp only; omega) _) (by omega)
  · exact Fr.mono (B := w.heap.size + 1 + 1 + 1) (Fr.set (Fr.set (Fr.set (Fr.set (Fr.set (Fr.set (Fr.set HFV.out (p := ⟨_, _, _⟩) (by dsimp only; omega) _) (p := ⟨_, _, _⟩) (by dsimp only; omega) _) (p := ⟨_, _, _⟩) (by dsimp only; omega) _) (p := ⟨_, _, _⟩) (by dsimp only; omega) _) (p := ⟨_, _, _⟩) (by dsimp only; omega) _) (p := ⟨_, _, _⟩) (by dsimp only; omega) _) (p := ⟨_, _, _⟩) (by dsimp only; omega) _) (by omega)
  · exact Fr.mono (B := w.heap.size + 1 + 1 + 1) (Fr.set (Fr.set (Fr.set (Fr.set (Fr.set (Fr.set (Fr.set HFC.out (p := ⟨_, _, _⟩) (by dsimp only; omega) _) (p := ⟨_, _, _⟩) (by dsimp only; omega) _) (p := ⟨_, _, _⟩) (by dsimp only; omega) _) (p := ⟨_, _, _⟩) (by dsimp only; omega) _) (p := ⟨_, _, _⟩) (by dsimp only; omega) _) (p := ⟨_, _, _⟩) (by dsimp only; omega) _) (p := ⟨_, _, _⟩) (by dsimp only; omega) _) (by omega)
  · exact (Below.setCell (Below.setCell (Below.setCell (Below.setCell (Below.setCell (Below.setCell (Below.setCell HB7.out (p := ⟨_, _, _⟩) (by dsimp only; omega) _) (p := ⟨_, _, _⟩) (by dsimp only; omega) _) (p := ⟨_, _, _⟩) (by dsimp only; omega) _) (p := ⟨_, _, _⟩) (by dsimp only; omega) _) (p := ⟨_, _, _⟩) (by dsimp only; omega) _) (p := ⟨_, _, _⟩) (by dsimp only; omega) _) (p := ⟨_, _, _⟩) (by dsimp only; omega) _)
end Go.Proofs.YtpmpooekpeocdaaGreat
