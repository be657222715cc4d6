/- The copy of a declaration as rows of the call's own: what each part leads to lies within a range of blocks of its own. -/
import Derived.Test.YtpmpooekpeocdaaGreatStD
import Derived.Test.YtpmpooekpeocdaaGreatDcB
import Derived.Test.YtpmpooekpeocdaaGreatMkT
namespace Go.Proofs.YtpmpooekpeocdaaGreat
open Go.ChangeShapes Go.WideShapes Go.ChangeAt Go.RowKit

/-- What holds in each world that has the same blocks within a range. -/
def FrH (lo hi : Nat) (w : World) (P : World → Prop) : Prop := hi ≤ w.heap.size ∧ ∀ w' : World, (∀ b : Nat, lo ≤ b → b < hi → w'.heap[b]? = w.heap[b]?) → P w'
theorem FrH.keep {lo hi : Nat} {w w' : World} {P : World → Prop} (h : FrH lo hi w P) (hb : Below w.heap.size w w') : FrH lo hi w' P :=
  ⟨Nat.le_trans h.1 hb.size, fun w2 h2 => h.2 w2 (fun b h3 h4 => (h2 b h3 h4).trans (hb.block b (Nat.lt_of_lt_of_le h4 h.1)))⟩
theorem FrH.set {lo hi : Nat} {w : World} {P : World → Prop} (h : FrH lo hi w P) {p : Addr} (hp : p.block < lo) (u : Value) : FrH lo hi (w.setCell p u) P :=
  ⟨by rw [size_set]; exact h.1, fun w2 h2 => h.2 w2 (fun b h3 h4 => (h2 b h3 h4).trans (Below.heap_setCell w p u b (by omega)))⟩
theorem FrH.get {lo hi : Nat} {w : World} {P : World → Prop} (h : FrH lo hi w P) : P w := h.2 w (fun _ _ _ => rfl)
theorem frh_ts {lo hi : Nat} {w : World} {R n cap : Nat} {ts : List Td} (h : TsR lo hi w R n cap ts) (hh : hi ≤ w.heap.size) : FrH lo hi w (fun w => TsR lo hi w R n cap ts) := ⟨hh, fun _ hw => h.same hw⟩
def StR (lo hi : Nat) (w : World) (v : Value) (ss : List ByteArray) : Prop := w.ownsRow lo 9 1 v ss.length (ss.map Value.string) ∧ ∀ b, v.ownBlock = some b → b < hi
theorem frh_st {lo hi : Nat} {w : World} {v : Value} {ss : List ByteArray} (h : w.ownsRow lo 9 1 v ss.length (ss.map Value.string)) (hh : hi = w.heap.size) : FrH lo hi w (fun w => StR lo hi w v ss) :=
  ⟨Nat.le_of_eq hh, fun _ hw => ⟨row_same h (fun g hg => hw g (World.ownsRow.lt h g hg).1 (by rw [hh]; exact (World.ownsRow.lt h g hg).2)), fun b hb => by rw [hh]; exact (World.ownsRow.lt h b hb).2⟩⟩
set_option maxRecDepth 20000 in
set_option maxHeartbeats 2000000 in
theorem toCtor_own (c : Ct) (tv : Value) (w : World) (ht : TNodesAt w tv c.t) (hk : CtSmall c) :
    Calls Tryz.prog 78 #[.agg #[.string c.s, tv]] w fun e w' => ∃ g, e = .returned (.agg #[.string c.s, .slice (some ⟨g, 0, none⟩) c.t.length c.t.length]) ∧ TsR w.heap.size w'.heap.size w' g c.t.length c.t.length c.t ∧ w.heap.size ≤ g ∧ Below w.heap.size w w' := by
  have HK := hide hk
  have HT := hide ht
  obtain ⟨ta, tc, rfl⟩ := ht.form
  clear ht hk
  obtain ⟨W0, hW0⟩ : ∃ W0, W0 = (((w.alloc (.cells #[.string c.s, .slice ta c.t.length tc] 129)).alloc (.cells #[.string ⟨#[]⟩, .slice none 0 0] 73)).alloc (.cells #[.string ⟨#[]⟩, .slice none 0 0] 73)) := ⟨_, rfl⟩
  have hbW : Below w.heap.size w W0 := by rw [hW0]; exact bel_alloc (bel_alloc (bel_alloc (Below.refl _ _) _) _) _
  have HA0 : Hid (W0.heap[w.heap.size]? = some (.cells #[.string c.s, .slice ta c.t.length tc] 129 (0, 0))) := by show _ = _; rw [hW0, heap_alloc_old _ _ (by simp; omega), heap_alloc_old _ _ (by simp)]; exact heap_alloc_new w _
  have HR0 : Hid (W0.heap[w.heap.size + 1]? = some (.cells #[.string ⟨#[]⟩, .slice none 0 0] 73 (0, 0))) := by show _ = _; rw [hW0, heap_alloc_old _ _ (by simp)]; exact heap_alloc_atD _ _ (by simp)
  have HO0 : Hid (W0.heap[w.heap.size + 1 + 1]? = some (.cells #[.string ⟨#[]⟩, .slice none 0 0] 73 (0, 0))) := by show _ = _; rw [hW0]; exact heap_alloc_atD _ _ (by simp)
  have hz0 : w.heap.size + 1 + 1 < W0.heap.size := (Array.getElem?_eq_some_iff.1 HO0.out).1
  have HB0 := hide hbW
  clear hbW
  go_enter Tryz.func78, Tryz.ntmps78
  go_upto_region 2 with fail
  rw [← hW0]
  clear hW0
  have xa : W0.cell? ⟨w.heap.size, 0, none⟩ = some (.string c.s) := by rw [Lib.cell_of_heap HA0.out]; rfl
  have xl := lt_cell xa
  have xb : W0.cell? ⟨w.heap.size + 1 + 1, 0, none⟩ = some (.string ⟨#[]⟩) := by rw [Lib.cell_of_heap HO0.out]; rfl
  have xf : W0.frozen? ⟨w.heap.size + 1 + 1, 0, none⟩ = false := Lib.frozen_of_heap HO0.out 0
  go_upto_region 3 with fail
  obtain ⟨W1, hWn⟩ : ∃ W1, W1 = W0.setCell ⟨w.heap.size + 1 + 1, 0, none⟩ (.string c.s) := ⟨_, rfl⟩
  rw [← hWn]
  have hgr : W0.grownBy W1 (some (w.heap.size + 1 + 1)) := by rw [hWn]; exact grown_set W0 ⟨_, 0, none⟩ _
  have hgs := hgr.size
  have HO1 : Hid (W1.heap[w.heap.size + 1 + 1]? = some (.cells #[.string c.s, .slice none 0 0] 73 (0, 0))) := by show _ = _; rw [hWn]; exact heap_setCell_same W0 _ 0 _ 73 _ HO0.out
  have HA1 : Hid (W1.heap[w.heap.size]? = some (.cells #[.string c.s, .slice ta c.t.length tc] 129 (0, 0))) := (hgr.block _ (by omega) (fun e => by have := Option.some.inj e; omega)).trans HA0.out
  have HR1 : Hid (W1.heap[w.heap.size + 1]? = some (.cells #[.string ⟨#[]⟩, .slice none 0 0] 73 (0, 0))) := (hgr.block _ (by omega) (fun e => by have := Option.some.inj e; omega)).trans HR0.out
  have HB1 : Hid (Below w.heap.size w W1) := HB0.out.grown hgr (by omega) (fun k hk => by have := Option.some.inj hk; omega)
  have hz1 : w.heap.size + 1 + 1 < W1.heap.size := by omega
  clear hWn hgr hgs xb xf HO0 HA0 HR0 HB0 hz0 xa xl
  have xa : W1.cell? ⟨w.heap.size, 1, none⟩ = some (.slice ta c.t.length tc) := by rw [Lib.cell_of_heap HA1.out]; rfl
  have xl := lt_cell xa
  have HC := hide (toTerm_own _ c.t W1 (HT.out.keep HB1.out) HK.out.1 HK.out.2)
  go_wp2_with fail
  refine HC.out.mono ?_
  rintro e V1 ⟨g1, rfl, hfr, hgl, hb⟩
  have hbs := hb.size
  have HAV : Hid (V1.heap[w.heap.size]? = some (.cells #[.string c.s, .slice ta c.t.length tc] 129 (0, 0))) := (hb.block _ (by omega)).trans HA1.out
  have HRV : Hid (V1.heap[w.heap.size + 1]? = some (.cells #[.string ⟨#[]⟩, .slice none 0 0] 73 (0, 0))) := (hb.block _ (by omega)).trans HR1.out
  have HOV : Hid (V1.heap[w.heap.size + 1 + 1]? = some (.cells #[.string c.s, .slice none 0 0] 73 (0, 0))) := (hb.block _ (by omega)).trans HO1.out
  have HBV : Hid (Below w.heap.size w V1) := HB1.out.trans (hb.mono (by omega))
  have hzv : w.heap.size + 1 + 1 < V1.heap.size := by omega
  have ol1 : w.heap.size + 1 + 1 < W1.heap.size := by omega
  have oh1 : W1.heap.size ≤ V1.heap.size := hbs
  obtain ⟨l1, hl1⟩ : ∃ l1, l1 = W1.heap.size := ⟨_, rfl⟩
  obtain ⟨h1, hh1⟩ : ∃ h1, h1 = V1.heap.size := ⟨_, rfl⟩
  have HFTV : Hid (FrH l1 h1 V1 (fun w => TsR l1 h1 w g1 c.t.length c.t.length c.t)) := by rw [hl1, hh1]; exact frh_ts hfr (Nat.le_refl _)
  rw [← hl1] at ol1 oh1
  rw [← hh1] at oh1
  clear hb hfr hgl HC xa xl hbs hl1 hh1
  have xb : V1.cell? ⟨w.heap.size + 1 + 1, 1, none⟩ = some (.slice none 0 0) := by rw [Lib.cell_of_heap HOV.out]; rfl
  have xf : V1.frozen? ⟨w.heap.size + 1 + 1, 1, none⟩ = false := Lib.frozen_of_heap HOV.out 1
  go_upto_region 4 with fail
  obtain ⟨W2, hWn⟩ : ∃ W2, W2 = V1.setCell ⟨w.heap.size + 1 + 1, 1, none⟩ (.slice (some ⟨g1, 0, none⟩) c.t.length c.t.length) := ⟨_, rfl⟩
  rw [← hWn]
  have hgr : V1.grownBy W2 (some (w.heap.size + 1 + 1)) := by rw [hWn]; exact grown_set V1 ⟨_, 1, none⟩ _
  have hgs := hgr.size
  have HO2 : Hid (W2.heap[w.heap.size + 1 + 1]? = some (.cells #[.string c.s, .slice (some ⟨g1, 0, none⟩) c.t.length c.t.length] 73 (0, 0))) := by show _ = _; rw [hWn]; exact heap_setCell_same V1 _ 1 _ 73 _ HOV.out
  have HA2 : Hid (W2.heap[w.heap.size]? = some (.cells #[.string c.s, .slice ta c.t.length tc] 129 (0, 0))) := (hgr.block _ (by omega) (fun e => by have := Option.some.inj e; omega)).trans HAV.out
  have HR2 : Hid (W2.heap[w.heap.size + 1]? = some (.cells #[.string ⟨#[]⟩, .slice none 0 0] 73 (0, 0))) := (hgr.block _ (by omega) (fun e => by have := Option.some.inj e; omega)).trans HRV.out
  have HB2 : Hid (Below w.heap.size w W2) := HBV.out.grown hgr (by omega) (fun k hk => by have := Option.some.inj hk; omega)
  have hz2 : w.heap.size + 1 + 1 < W2.heap.size := by omega
  have HFT : Hid (FrH l1 h1 W2 (fun w => TsR l1 h1 w g1 c.t.length c.t.length c.t)) := by show FrH _ _ _ _; rw [hWn]; exact HFTV.out.set (p := ⟨_, _, _⟩) (by dsimp only; omega) _
  clear hWn hgr hgs xb xf HO1 HA1 HR1 HB1 hz1 HAV HRV HOV HBV hzv HFTV
  have p0 : W2.cell? ⟨w.heap.size + 1 + 1, 0, none⟩ = some (.string c.s) := by rw [Lib.cell_of_heap HO2.out]; rfl
  have r0 : W2.cell? ⟨w.heap.size + 1, 0, none⟩ = some (.string ⟨#[]⟩) := by rw [Lib.cell_of_heap HR2.out]; rfl
  have f0 : W2.frozen? ⟨w.heap.size + 1, 0, none⟩ = false := Lib.frozen_of_heap HR2.out 0
  have p1 : W2.cell? ⟨w.heap.size + 1 + 1, 1, none⟩ = some (.slice (some ⟨g1, 0, none⟩) c.t.length c.t.length) := by rw [Lib.cell_of_heap HO2.out]; rfl
  have r1 : W2.cell? ⟨w.heap.size + 1, 1, none⟩ = some (.slice none 0 0) := by rw [Lib.cell_of_heap HR2.out]; rfl
  have f1 : W2.frozen? ⟨w.heap.size + 1, 1, none⟩ = false := Lib.frozen_of_heap HR2.out 1
  go_wp2_with fail
  refine bodyPost_ret (v := .agg #[.string c.s, .slice (some ⟨g1, 0, none⟩) c.t.length c.t.length]) (by simp [results, Tryz.results78, go_sem, r0, r1]) rfl ?_
  have hz := HFT.out.1
  have hg := HFT.out.get.lt
  refine ⟨g1, rfl, TsR.mono (lo := l1) (hi := h1) ?_ (by omega) (by simp; exact hz), by omega, ?_⟩
  · exact (FrH.get (lo := l1) (hi := h1) (P := (fun w => TsR l1 h1 w g1 c.t.length c.t.length c.t)) (FrH.set (FrH.set HFT.out (p := ⟨_, _, _⟩) (by dsimp only; omega) _) (p := ⟨_, _, _⟩) (by dsimp only; omega) _))
  · exact (Below.setCell (Below.setCell HB2.out (p := ⟨_, _, _⟩) (by dsimp only; omega) _) (p := ⟨_, _, _⟩) (by dsimp only; omega) _)
/-- A constructor's cells in a row, and what it leads to. -/
def CtC (lo hi : Nat) (w : World) (xs : List Value) (i : Nat) (c : Ct) : Prop := xs[i * 2]? = some (.string c.s) ∧ ∃ g, xs[i * 2 + 1]? = some (.slice (some ⟨g, 0, none⟩) c.t.length c.t.length) ∧ TsR lo hi w g c.t.length c.t.length c.t
theorem CtC.same {lo hi : Nat} {w w' : World} {xs : List Value} {i : Nat} {c : Ct} (h : CtC lo hi w xs i c) (hh : ∀ b, lo ≤ b → b < hi → w'.heap[b]? = w.heap[b]?) : CtC lo hi w' xs i c := by
  obtain ⟨a, g, b, d⟩ := h
  exact ⟨a, g, b, d.same hh⟩
/-- The first k constructors of the row R. -/
def CtsO (w : World) (R : Nat) (xs : List Value) (cs : List Ct) (k : Nat) : Prop :=
  ∃ f : Nat → Nat, R < f 0 ∧ (∀ i, i < k → f i ≤ f (i + 1)) ∧ f k ≤ w.heap.size ∧ ∀ i (h : i < cs.length), i < k → CtC (f i) (f (i + 1)) w xs i cs[i]
theorem CtsO.put {w w2 w3 : World} {R : Nat} {xs : List Value} {cs : List Ct} {k g : Nat} (hx : xs.length = cs.length * 2) (h : CtsO w R xs cs k) (hk : k < cs.length) (hb : Below w.heap.size w w2) (hu : TsR w.heap.size w2.heap.size w2 g cs[k].t.length cs[k].t.length cs[k].t) (hs3 : w3.heap.size = w2.heap.size) (hw3 : ∀ b, b ≠ R → w3.heap[b]? = w2.heap[b]?) :
    CtsO w3 R ((xs.set (k * 2) (.string cs[k].s)).set (k * 2 + 1) (.slice (some ⟨g, 0, none⟩) cs[k].t.length cs[k].t.length)) cs (k + 1) := by
  obtain ⟨f, f1, f2, f3, f4⟩ := h
  have hs := hb.size
  have m0 := mono_le f2 0 k (by omega) (Nat.le_refl _)
  refine ⟨fun i => if i ≤ k then f i else w2.heap.size, by simp; exact f1, fun i hi => ?_, by rw [hs3]; simp only [if_neg (show ¬ k + 1 ≤ k by omega)]; exact Nat.le_refl _, fun i hi hik => ?_⟩
  · by_cases e : i < k
    · simp only [if_pos (show i ≤ k by omega), if_pos (show i + 1 ≤ k by omega)]; exact f2 i e
    · have : i = k := by omega
      subst this
      simp only [if_pos (Nat.le_refl i), if_neg (show ¬ i + 1 ≤ i by omega)]; omega
  · by_cases e : i = k
    · subst e
      simp only [if_pos (Nat.le_refl i), if_neg (show ¬ i + 1 ≤ i by omega)]
      refine ⟨?_, g, ?_, (hu.mono f3 (Nat.le_refl _)).same (fun b hb1 _ => hw3 b (by omega))⟩
      · rw [List.getElem?_set_ne (by omega), List.getElem?_set_self (by omega)]
      · rw [List.getElem?_set_self (by simp; omega)]
    · obtain ⟨h1, g', h2, h3⟩ := f4 i hi (by omega)
      have m1 := mono_le f2 0 i (by omega) (by omega)
      have m2 := mono_le f2 (i + 1) k (by omega) (Nat.le_refl _)
      simp only [if_pos (show i ≤ k by omega), if_pos (show i + 1 ≤ k by omega)]
      refine ⟨?_, g', ?_, h3.same (fun q q1 q2 => by rw [hw3 q (by omega)]; exact hb.block q (by omega))⟩
      · rw [List.getElem?_set_ne (by omega), List.getElem?_set_ne (by omega)]; exact h1
      · rw [List.getElem?_set_ne (by omega), List.getElem?_set_ne (by omega)]; exact h2
/-- A row of constructors of the call's own. -/
def CsR (lo hi : Nat) (w : World) (R n cap : Nat) (cs : List Ct) : Prop :=
  ∃ (xs : List Value) (f : Nat → Nat), w.ownsRow lo 73 2 (.slice (some ⟨R, 0, none⟩) n cap) n xs ∧ R < f 0 ∧ (∀ i, i < cs.length → f i ≤ f (i + 1)) ∧ f cs.length ≤ hi ∧ ∀ i (h : i < cs.length), CtC (f i) (f (i + 1)) w xs i cs[i]
theorem CsR.lt {lo hi : Nat} {w : World} {R n cap : Nat} {cs : List Ct} (h : CsR lo hi w R n cap cs) : lo ≤ R ∧ R < hi ∧ R < w.heap.size := by
  obtain ⟨xs, f, h1, h2, h3, h4, _⟩ := h
  have := mono_le h3 0 cs.length (by omega) (Nat.le_refl _)
  exact ⟨(h1.lt R rfl).1, by omega, (h1.lt R rfl).2⟩
theorem CsR.same {lo hi : Nat} {w w' : World} {R n cap : Nat} {cs : List Ct} (h : CsR lo hi w R n cap cs) (hh : ∀ b, lo ≤ b → b < hi → w'.heap[b]? = w.heap[b]?) : CsR lo hi w' R n cap cs := by
  have hl := h.lt
  obtain ⟨xs, f, h1, h2, h3, h4, h5⟩ := h
  refine ⟨xs, f, row_same h1 (fun g hg => hh g (World.ownsRow.lt h1 g hg).1 (by simp [Value.ownBlock] at hg; omega)), h2, h3, h4, fun i hi => ?_⟩
  have m1 := mono_le h3 0 i (by omega) (by omega)
  have m2 := mono_le h3 (i + 1) cs.length (by omega) (by omega)
  exact (h5 i hi).same (fun q q1 q2 => hh q (by omega) (by omega))
theorem frh_cs {lo hi : Nat} {w : World} {R n cap : Nat} {cs : List Ct} (h : CsR lo hi w R n cap cs) (hh : hi ≤ w.heap.size) : FrH lo hi w (fun w => CsR lo hi w R n cap cs) := ⟨hh, fun _ hw => h.same hw⟩
theorem CsR.ctors {lo hi : Nat} {w : World} {R cap : Nat} {cs : List Ct} (h : CsR lo hi w R cs.length cap cs) : CtorsAt w (.slice (some ⟨R, 0, none⟩) cs.length cap) cs := by
  obtain ⟨xs, f, h1, _, _, _, h5⟩ := h
  obtain ⟨hc1, hc2⟩ := ownsRow_cap h1
  refine ⟨_, cap, rfl, hc1, hc2, fun _ => ⟨R, 0, rfl, fun i hi => ?_⟩⟩
  obtain ⟨a, g, b, d⟩ := h5 i hi
  rw [Nat.zero_add]
  exact ⟨by rw [h1.cellAt _ (by omega)]; exact a, _, by rw [h1.cellAt _ (by omega)]; exact b, d.nodes rfl⟩
set_option maxRecDepth 20000 in
set_option maxHeartbeats 2000000 in
theorem toCtorS_own (v : Value) (cs : List Ct) (w : World) (hn : CtorsAt w v cs) (hl : cs.length ≤ 1048576) (hkl : ∀ c ∈ cs, CtSmall c) :
    Calls Tryz.prog 41 #[v] w fun e w' => ∃ g, e = .returned (.slice (some ⟨g, 0, none⟩) cs.length cs.length) ∧ CsR w.heap.size w'.heap.size w' g cs.length cs.length cs ∧ w.heap.size ≤ g ∧ Below w.heap.size w w' := by
  obtain ⟨i0, hi, hz0, hz1, hz2⟩ := info_parts Tryz.info73
  have HNN := hide hn
  obtain ⟨a, cap, rfl, hlc, hcm, _⟩ := hn
  have HK := hide hkl
  clear hkl
  go_enter Tryz.func41, Tryz.ntmps41
  go_wp2_with (at_make; refine wpList_make_full _ rfl _ _ 34 rfl w.heap.size 73 i0 (.agg #[.string ⟨#[]⟩, .slice none 0 0]) 2 Tryz.underlying34 hi hz0 hz1 .i64 .i64 _ _ cs.length rfl rfl rfl rfl (by rw [hz2]; omega) (by unfold maxLen; omega) (Nat.le_refl _) ?_; intro w1 hown hgrow)
  go_loopw [4] (fun i wr => ∃ (k : Nat) (xs : List Value), k ≤ cs.length ∧ i = .int .i64 k ∧ wr.ownsRow w.heap.size 73 2 (.slice (some ⟨w.heap.size, 0, none⟩) cs.length cs.length) cs.length xs ∧ Hid (CtsO wr w.heap.size xs cs k) ∧ w.heap.size < wr.heap.size ∧ Below w.heap.size w wr) (fun i _ => cs.length - (intOf i).toNat)
  case atStart => exact ⟨0, _, by omega, rfl, hown, ⟨fun _ => w.heap.size + 1, Nat.lt_succ_self _, fun _ h => by omega, (hown.lt w.heap.size rfl).2, fun _ _ h => by omega⟩, (hown.lt _ rfl).2, (Below.refl _ _).grown hgrow (Nat.le_refl _) (fun k hk => by cases hk)⟩
  case round =>
    obtain ⟨k, xs, hk, rfl, hownr, HX, hsz, hbel⟩ := hrel
    clear hown hgrow
    by_cases hlt : k < cs.length
    · obtain ⟨a', cap', e', _, _, hc0⟩ := HNN.out.keep hbel
      obtain ⟨b, off, ha, hc⟩ := hc0 (by omega)
      have ea : a = some ⟨b, off, none⟩ := by rw [← ha]; injection e'
      subst ea
      obtain ⟨c1, tv, c2, htv⟩ := hc k hlt
      have HSM := hide (HK.out cs[k] (by simp))
      have HTV := hide htv
      obtain ⟨ta, tc, rfl⟩ := htv.form
      clear hc hc0 e' ha htv
      go_wp2_with fail
      refine (toCtor_own cs[k] _ _ HTV.out HSM.out).mono ?_
      rintro e w2 ⟨gt, rfl, hft, hgt, hb⟩
      have hown2 := row_keep hb hownr
      have hbel2 : Below w.heap.size w w2 := hbel.trans (hb.mono hbel.size)
      have hxl := hown2.1
      have s0 := (hown2.stored (k * 2) (.string cs[k].s)).1
      have s1 := (s0.stored (k * 2 + 1) (.slice (some ⟨gt, 0, none⟩) cs[k].t.length cs[k].t.length)).1
      have f0 := hown2.frozenAt (k * 2)
      have f1 := hown2.frozenAt (k * 2 + 1)
      have e0 := hown2.cellAt (k * 2) (by omega)
      have e1 := hown2.cellAt (k * 2 + 1) (by omega)
      rw [List.getElem?_eq_getElem (by omega)] at e0 e1
      have hsz2 : w.heap.size < w2.heap.size := by have := hb.size; omega
      have HP := hide (HX.out.put (w3 := ((w2.setCell ⟨w.heap.size, k * 2, none⟩ (.string cs[k].s)).setCell ⟨w.heap.size, k * 2 + 1, none⟩ (.slice (some ⟨gt, 0, none⟩) cs[k].t.length cs[k].t.length))) (by omega) hlt hb hft (by simp) (fun b hb2 => by rw [Below.heap_setCell _ _ _ _ hb2, Below.heap_setCell _ _ _ _ hb2]))
      have HB2 := hide hbel2
      clear HX hft hown2 hownr s0 hb c1 c2 hbel2
      go_wp2_with fail
      go_roundw
      case rel => exact ⟨k + 1, _, by omega, by go_num, s1, HP, by simpa [World.setCell] using hsz2, (HB2.out.setCell (p := ⟨_, _, _⟩) (Nat.le_refl _) _).setCell (p := ⟨_, _, _⟩) (Nat.le_refl _) _⟩
      case measure => simp [intOf]; omega
    · have hall : CsR w.heap.size wr.heap.size wr w.heap.size cs.length cs.length cs := by
        have hx := HX.out
        rw [show k = cs.length from by omega] at hx
        obtain ⟨f, f1, f2, f3, f4⟩ := hx
        exact ⟨xs, f, hownr, f1, f2, f3, fun i hi => f4 i hi hi⟩
      go_wp2_with fail
      go_ret
      exact ⟨_, rfl, hall, Nat.le_refl _, hbel⟩
/-- A declaration of the call's own. -/
structure DcR (lo hi : Nat) (w : World) (gp gt gv gc : Nat) (d : Dc) (l1 h1 l2 h2 l3 h3 l4 h4 : Nat) : Prop where
  ps : StR l1 h1 w (.slice (some ⟨gp, 0, none⟩) d.ps.length d.ps.length) d.ps
  t : TsR l2 h2 w gt d.t.length d.t.length d.t
  v : TsR l3 h3 w gv d.v.length d.v.length d.v
  cs : CsR l4 h4 w gc d.cs.length d.cs.length d.cs
  o : lo ≤ l1 ∧ l1 ≤ h1 ∧ h1 ≤ l2 ∧ l2 ≤ h2 ∧ h2 ≤ l3 ∧ l3 ≤ h3 ∧ h3 ≤ l4 ∧ l4 ≤ h4 ∧ h4 ≤ hi
theorem DcR.same {lo hi : Nat} {w w' : World} {gp gt gv gc : Nat} {d : Dc} {l1 h1 l2 h2 l3 h3 l4 h4 : Nat} (h : DcR lo hi w gp gt gv gc d l1 h1 l2 h2 l3 h3 l4 h4) (hh : ∀ b, lo ≤ b → b < hi → w'.heap[b]? = w.heap[b]?) : DcR lo hi w' gp gt gv gc d l1 h1 l2 h2 l3 h3 l4 h4 := by
  obtain ⟨o1, o2, o3, o4, o5, o6, o7, o8, o9⟩ := h.o
  refine ⟨⟨row_same h.ps.1 (fun g hg => hh g (by have := (World.ownsRow.lt h.ps.1 g hg).1; omega) (by have := h.ps.2 g hg; omega)), h.ps.2⟩, h.t.same (fun b q1 q2 => hh b (by omega) (by omega)), h.v.same (fun b q1 q2 => hh b (by omega) (by omega)), h.cs.same (fun b q1 q2 => hh b (by omega) (by omega)), h.o⟩
theorem DcR.keep {lo hi : Nat} {w w' : World} {gp gt gv gc : Nat} {d : Dc} {l1 h1 l2 h2 l3 h3 l4 h4 : Nat} (h : DcR lo hi w gp gt gv gc d l1 h1 l2 h2 l3 h3 l4 h4) (hb : Below w.heap.size w w') (hhi : hi ≤ w.heap.size) : DcR lo hi w' gp gt gv gc d l1 h1 l2 h2 l3 h3 l4 h4 := h.same (fun b _ q => hb.block b (by omega))
theorem DcR.decl {lo hi : Nat} {w : World} {gp gt gv gc : Nat} {d : Dc} {l1 h1 l2 h2 l3 h3 l4 h4 : Nat} (h : DcR lo hi w gp gt gv gc d l1 h1 l2 h2 l3 h3 l4 h4) : DeclAt w (.slice (some ⟨gp, 0, none⟩) d.ps.length d.ps.length) (.slice (some ⟨gt, 0, none⟩) d.t.length d.t.length) (.slice (some ⟨gv, 0, none⟩) d.v.length d.v.length) (.slice (some ⟨gc, 0, none⟩) d.cs.length d.cs.length) d :=
  ⟨row_strs h.ps.1, h.t.nodes rfl, h.v.nodes rfl, h.cs.ctors⟩
def DcO (lo hi : Nat) (w : World) (gp gt gv gc : Nat) (d : Dc) : Prop := ∃ l1 h1 l2 h2 l3 h3 l4 h4, DcR lo hi w gp gt gv gc d l1 h1 l2 h2 l3 h3 l4 h4
theorem DcO.keep {lo hi : Nat} {w w' : World} {gp gt gv gc : Nat} {d : Dc} (h : DcO lo hi w gp gt gv gc d) (hb : Below w.heap.size w w') (hhi : hi ≤ w.heap.size) : DcO lo hi w' gp gt gv gc d := by
  obtain ⟨l1, h1, l2, h2, l3, h3, l4, h4, h⟩ := h
  exact ⟨l1, h1, l2, h2, l3, h3, l4, h4, h.keep hb hhi⟩
theorem DcO.decl {lo hi : Nat} {w : World} {gp gt gv gc : Nat} {d : Dc} (h : DcO lo hi w gp gt gv gc d) : DeclAt w (.slice (some ⟨gp, 0, none⟩) d.ps.length d.ps.length) (.slice (some ⟨gt, 0, none⟩) d.t.length d.t.length) (.slice (some ⟨gv, 0, none⟩) d.v.length d.v.length) (.slice (some ⟨gc, 0, none⟩) d.cs.length d.cs.length) d := by
  obtain ⟨l1, h1, l2, h2, l3, h3, l4, h4, h⟩ := h
  exact h.decl
set_option maxRecDepth 20000 in
set_option maxHeartbeats 4000000 in
theorem toDecl_own (d : Dc) (pv tv vv cv : Value) (w : World) (hd : DeclAt w pv tv vv cv d) (hk : DcSmall d) :
    Calls Tryz.prog 12 #[declV d pv tv vv cv] w fun e w' => ∃ gp gt gv gc, e = .returned (declV d (.slice (some ⟨gp, 0, none⟩) d.ps.length d.ps.length) (.slice (some ⟨gt, 0, none⟩) d.t.length d.t.length) (.slice (some ⟨gv, 0, none⟩) d.v.length d.v.length) (.slice (some ⟨gc, 0, none⟩) d.cs.length d.cs.length)) ∧ DcO w.heap.size w'.heap.size w' gp gt gv gc d ∧ Below w.heap.size w w' := by
  have HK := hide hk
  have HD := hide hd
  obtain ⟨pa, pc, hpv⟩ : ∃ a c, pv = .slice a d.ps.length c := by obtain ⟨a, c, h, _⟩ := hd.ps; exact ⟨a, c, h⟩
  obtain ⟨ta, tc, htv⟩ := hd.t.form
  obtain ⟨va, vc, hvv⟩ := hd.v.form
  obtain ⟨ca, cc, hcv⟩ := hd.cs.form
  subst hpv htv hvv hcv
  clear hd hk
  unfold declV
  obtain ⟨W0, hW0⟩ : ∃ W0, W0 = (((w.alloc (.cells #[.int .i64 d.k, .string d.s, .slice pa d.ps.length pc, .slice ta d.t.length tc, .slice va d.v.length vc, .int .i64 d.f, .slice ca d.cs.length cc] 28)).alloc (.cells #[.int .i64 0, .string ⟨#[]⟩, .slice none 0 0, .slice none 0 0, .slice none 0 0, .int .i64 0, .slice none 0 0] 36)).alloc (.cells #[.int .i64 0, .string ⟨#[]⟩, .slice none 0 0, .slice none 0 0, .slice none 0 0, .int .i64 0, .slice none 0 0] 36)) := ⟨_, rfl⟩
  have hbW : Below w.heap.size w W0 := by rw [hW0]; exact bel_alloc (bel_alloc (bel_alloc (Below.refl _ _) _) _) _
  have HA0 : Hid (W0.heap[w.heap.size]? = some (.cells #[.int .i64 d.k, .string d.s, .slice pa d.ps.length pc, .slice ta d.t.length tc, .slice va d.v.length vc, .int .i64 d.f, .slice ca d.cs.length cc] 28 (0, 0))) := by show _ = _; rw [hW0, heap_alloc_old _ _ (by simp; omega), heap_alloc_old _ _ (by simp)]; exact heap_alloc_new w _
  have HR0 : Hid (W0.heap[w.heap.size + 1]? = some (.cells #[.int .i64 0, .string ⟨#[]⟩, .slice none 0 0, .slice none 0 0, .slice none 0 0, .int .i64 0, .slice none 0 0] 36 (0, 0))) := by show _ = _; rw [hW0, heap_alloc_old _ _ (by simp)]; exact heap_alloc_atD _ _ (by simp)
  have HO0 : Hid (W0.heap[w.heap.size + 1 + 1]? = some (.cells #[.int .i64 0, .string ⟨#[]⟩, .slice none 0 0, .slice none 0 0, .slice none 0 0, .int .i64 0, .slice none 0 0] 36 (0, 0))) := by show _ = _; rw [hW0]; exact heap_alloc_atD _ _ (by simp)
  have hz0 : w.heap.size + 1 + 1 < W0.heap.size := (Array.getElem?_eq_some_iff.1 HO0.out).1
  have HB0 := hide hbW
  clear hbW
  go_enter Tryz.func12, Tryz.ntmps12
  go_upto_region 2 with fail
  rw [← hW0]
  clear hW0
  have xa : W0.cell? ⟨w.heap.size, 0, none⟩ = some (.int .i64 d.k) := by rw [Lib.cell_of_heap HA0.out]; rfl
  have xl := lt_cell xa
  have xb : W0.cell? ⟨w.heap.size + 1 + 1, 0, none⟩ = some (.int .i64 0) := by rw [Lib.cell_of_heap HO0.out]; rfl
  have xf : W0.frozen? ⟨w.heap.size + 1 + 1, 0, none⟩ = false := Lib.frozen_of_heap HO0.out 0
  go_upto_region 3 with fail
  obtain ⟨W1, hWn⟩ : ∃ W1, W1 = W0.setCell ⟨w.heap.size + 1 + 1, 0, none⟩ (.int .i64 d.k) := ⟨_, rfl⟩
  rw [← hWn]
  have hgr : W0.grownBy W1 (some (w.heap.size + 1 + 1)) := by rw [hWn]; exact grown_set W0 ⟨_, 0, none⟩ _
  have hgs := hgr.size
  have HO1 : Hid (W1.heap[w.heap.size + 1 + 1]? = some (.cells #[.int .i64 d.k, .string ⟨#[]⟩, .slice none 0 0, .slice none 0 0, .slice none 0 0, .int .i64 0, .slice none 0 0] 36 (0, 0))) := by show _ = _; rw [hWn]; exact heap_setCell_same W0 _ 0 _ 36 _ HO0.out
  have HA1 : Hid (W1.heap[w.heap.size]? = some (.cells #[.int .i64 d.k, .string d.s, .slice pa d.ps.length pc, .slice ta d.t.length tc, .slice va d.v.length vc, .int .i64 d.f, .slice ca d.cs.length cc] 28 (0, 0))) := (hgr.block _ (by omega) (fun e => by have := Option.some.inj e; omega)).trans HA0.out
  have HR1 : Hid (W1.heap[w.heap.size + 1]? = some (.cells #[.int .i64 0, .string ⟨#[]⟩, .slice none 0 0, .slice none 0 0, .slice none 0 0, .int .i64 0, .slice none 0 0] 36 (0, 0))) := (hgr.block _ (by omega) (fun e => by have := Option.some.inj e; omega)).trans HR0.out
  have HB1 : Hid (Below w.heap.size w W1) := HB0.out.grown hgr (by omega) (fun k hk => by have := Option.some.inj hk; omega)
  have hz1 : w.heap.size + 1 + 1 < W1.heap.size := by omega
  clear hWn hgr hgs xb xf HO0 HA0 HR0 HB0 hz0 xa xl
  have xa : W1.cell? ⟨w.heap.size, 1, none⟩ = some (.string d.s) := by rw [Lib.cell_of_heap HA1.out]; rfl
  have xl := lt_cell xa
  have xb : W1.cell? ⟨w.heap.size + 1 + 1, 1, none⟩ = some (.string ⟨#[]⟩) := by rw [Lib.cell_of_heap HO1.out]; rfl
  have xf : W1.frozen? ⟨w.heap.size + 1 + 1, 1, none⟩ = false := Lib.frozen_of_heap HO1.out 1
  go_upto_region 4 with fail
  obtain ⟨W2, hWn⟩ : ∃ W2, W2 = W1.setCell ⟨w.heap.size + 1 + 1, 1, none⟩ (.string d.s) := ⟨_, rfl⟩
  rw [← hWn]
  have hgr : W1.grownBy W2 (some (w.heap.size + 1 + 1)) := by rw [hWn]; exact grown_set W1 ⟨_, 1, none⟩ _
  have hgs := hgr.size
  have HO2 : Hid (W2.heap[w.heap.size + 1 + 1]? = some (.cells #[.int .i64 d.k, .string d.s, .slice none 0 0, .slice none 0 0, .slice none 0 0, .int .i64 0, .slice none 0 0] 36 (0, 0))) := by show _ = _; rw [hWn]; exact heap_setCell_same W1 _ 1 _ 36 _ HO1.out
  have HA2 : Hid (W2.heap[w.heap.size]? = some (.cells #[.int .i64 d.k, .string d.s, .slice pa d.ps.length pc, .slice ta d.t.length tc, .slice va d.v.length vc, .int .i64 d.f, .slice ca d.cs.length cc] 28 (0, 0))) := (hgr.block _ (by omega) (fun e => by have := Option.some.inj e; omega)).trans HA1.out
  have HR2 : Hid (W2.heap[w.heap.size + 1]? = some (.cells #[.int .i64 0, .string ⟨#[]⟩, .slice none 0 0, .slice none 0 0, .slice none 0 0, .int .i64 0, .slice none 0 0] 36 (0, 0))) := (hgr.block _ (by omega) (fun e => by have := Option.some.inj e; omega)).trans HR1.out
  have HB2 : Hid (Below w.heap.size w W2) := HB1.out.grown hgr (by omega) (fun k hk => by have := Option.some.inj hk; omega)
  have hz2 : w.heap.size + 1 + 1 < W2.heap.size := by omega
  clear hWn hgr hgs xb xf HO1 HA1 HR1 HB1 hz1 xa xl
  have xa : W2.cell? ⟨w.heap.size, 2, none⟩ = some (.slice pa d.ps.length pc) := by rw [Lib.cell_of_heap HA2.out]; rfl
  have xl := lt_cell xa
  have HC := hide ((toStringS_own _ d.ps W2 (HD.out.ps.keep HB2.out) HK.out.ps))
  go_wp2_with fail
  refine HC.out.mono ?_
  rintro e V2 ⟨g2, rfl, hfr, hgl, hb⟩
  have hbs := hb.size
  have HAV : Hid (V2.heap[w.heap.size]? = some (.cells #[.int .i64 d.k, .string d.s, .slice pa d.ps.length pc, .slice ta d.t.length tc, .slice va d.v.length vc, .int .i64 d.f, .slice ca d.cs.length cc] 28 (0, 0))) := (hb.block _ (by omega)).trans HA2.out
  have HRV : Hid (V2.heap[w.heap.size + 1]? = some (.cells #[.int .i64 0, .string ⟨#[]⟩, .slice none 0 0, .slice none 0 0, .slice none 0 0, .int .i64 0, .slice none 0 0] 36 (0, 0))) := (hb.block _ (by omega)).trans HR2.out
  have HOV : Hid (V2.heap[w.heap.size + 1 + 1]? = some (.cells #[.int .i64 d.k, .string d.s, .slice none 0 0, .slice none 0 0, .slice none 0 0, .int .i64 0, .slice none 0 0] 36 (0, 0))) := (hb.block _ (by omega)).trans HO2.out
  have HBV : Hid (Below w.heap.size w V2) := HB2.out.trans (hb.mono (by omega))
  have hzv : w.heap.size + 1 + 1 < V2.heap.size := by omega
  have ol2 : w.heap.size + 1 + 1 < W2.heap.size := by omega
  have oh2 : W2.heap.size ≤ V2.heap.size := hbs
  obtain ⟨l2, hl2⟩ : ∃ l2, l2 = W2.heap.size := ⟨_, rfl⟩
  obtain ⟨h2, hh2⟩ : ∃ h2, h2 = V2.heap.size := ⟨_, rfl⟩
  have HFPV : Hid (FrH l2 h2 V2 (fun w => StR l2 h2 w (.slice (some ⟨g2, 0, none⟩) d.ps.length d.ps.length) d.ps)) := by rw [hl2, hh2]; exact frh_st hfr rfl
  rw [← hl2] at ol2 oh2
  rw [← hh2] at oh2
  clear hb hfr hgl HC xa xl hbs hl2 hh2
  have xb : V2.cell? ⟨w.heap.size + 1 + 1, 2, none⟩ = some (.slice none 0 0) := by rw [Lib.cell_of_heap HOV.out]; rfl
  have xf : V2.frozen? ⟨w.heap.size + 1 + 1, 2, none⟩ = false := Lib.frozen_of_heap HOV.out 2
  go_upto_region 5 with fail
  obtain ⟨W3, hWn⟩ : ∃ W3, W3 = V2.setCell ⟨w.heap.size + 1 + 1, 2, none⟩ (.slice (some ⟨g2, 0, none⟩) d.ps.length d.ps.length) := ⟨_, rfl⟩
  rw [← hWn]
  have hgr : V2.grownBy W3 (some (w.heap.size + 1 + 1)) := by rw [hWn]; exact grown_set V2 ⟨_, 2, none⟩ _
  have hgs := hgr.size
  have HO3 : Hid (W3.heap[w.heap.size + 1 + 1]? = some (.cells #[.int .i64 d.k, .string d.s, .slice (some ⟨g2, 0, none⟩) d.ps.length d.ps.length, .slice none 0 0, .slice none 0 0, .int .i64 0, .slice none 0 0] 36 (0, 0))) := by show _ = _; rw [hWn]; exact heap_setCell_same V2 _ 2 _ 36 _ HOV.out
  have HA3 : Hid (W3.heap[w.heap.size]? = some (.cells #[.int .i64 d.k, .string d.s, .slice pa d.ps.length pc, .slice ta d.t.length tc, .slice va d.v.length vc, .int .i64 d.f, .slice ca d.cs.length cc] 28 (0, 0))) := (hgr.block _ (by omega) (fun e => by have := Option.some.inj e; omega)).trans HAV.out
  have HR3 : Hid (W3.heap[w.heap.size + 1]? = some (.cells #[.int .i64 0, .string ⟨#[]⟩, .slice none 0 0, .slice none 0 0, .slice none 0 0, .int .i64 0, .slice none 0 0] 36 (0, 0))) := (hgr.block _ (by omega) (fun e => by have := Option.some.inj e; omega)).trans HRV.out
  have HB3 : Hid (Below w.heap.size w W3) := HBV.out.grown hgr (by omega) (fun k hk => by have := Option.some.inj hk; omega)
  have hz3 : w.heap.size + 1 + 1 < W3.heap.size := by omega
  have HFP : Hid (FrH l2 h2 W3 (fun w => StR l2 h2 w (.slice (some ⟨g2, 0, none⟩) d.ps.length d.ps.length) d.ps)) := by show FrH _ _ _ _; rw [hWn]; exact HFPV.out.set (p := ⟨_, _, _⟩) (by dsimp only; omega) _
  clear hWn hgr hgs xb xf HO2 HA2 HR2 HB2 hz2 HAV HRV HOV HBV hzv HFPV
  have xa : W3.cell? ⟨w.heap.size, 3, none⟩ = some (.slice ta d.t.length tc) := by rw [Lib.cell_of_heap HA3.out]; rfl
  have xl := lt_cell xa
  have HC := hide ((toTerm_own _ d.t W3 (HD.out.t.keep HB3.out) HK.out.t.1 HK.out.t.2))
  go_wp2_with fail
  refine HC.out.mono ?_
  rintro e V3 ⟨g3, rfl, hfr, hgl, hb⟩
  have hbs := hb.size
  have HAV : Hid (V3.heap[w.heap.size]? = some (.cells #[.int .i64 d.k, .string d.s, .slice pa d.ps.length pc, .slice ta d.t.length tc, .slice va d.v.length vc, .int .i64 d.f, .slice ca d.cs.length cc] 28 (0, 0))) := (hb.block _ (by omega)).trans HA3.out
  have HRV : Hid (V3.heap[w.heap.size + 1]? = some (.cells #[.int .i64 0, .string ⟨#[]⟩, .slice none 0 0, .slice none 0 0, .slice none 0 0, .int .i64 0, .slice none 0 0] 36 (0, 0))) := (hb.block _ (by omega)).trans HR3.out
  have HOV : Hid (V3.heap[w.heap.size + 1 + 1]? = some (.cells #[.int .i64 d.k, .string d.s, .slice (some ⟨g2, 0, none⟩) d.ps.length d.ps.length, .slice none 0 0, .slice none 0 0, .int .i64 0, .slice none 0 0] 36 (0, 0))) := (hb.block _ (by omega)).trans HO3.out
  have HBV : Hid (Below w.heap.size w V3) := HB3.out.trans (hb.mono (by omega))
  have hzv : w.heap.size + 1 + 1 < V3.heap.size := by omega
  have op3 : h2 ≤ W3.heap.size := HFP.out.1
  have ol3 : w.heap.size + 1 + 1 < W3.heap.size := by omega
  have oh3 : W3.heap.size ≤ V3.heap.size := hbs
  obtain ⟨l3, hl3⟩ : ∃ l3, l3 = W3.heap.size := ⟨_, rfl⟩
  obtain ⟨h3, hh3⟩ : ∃ h3, h3 = V3.heap.size := ⟨_, rfl⟩
  have HFTV : Hid (FrH l3 h3 V3 (fun w => TsR l3 h3 w g3 d.t.length d.t.length d.t)) := by rw [hl3, hh3]; exact frh_ts hfr (Nat.le_refl _)
  rw [← hl3] at ol3 oh3 op3
  rw [← hh3] at oh3
  have HFPV : Hid (FrH l2 h2 V3 (fun w => StR l2 h2 w (.slice (some ⟨g2, 0, none⟩) d.ps.length d.ps.length) d.ps)) := HFP.out.keep hb
  clear hb hfr hgl HC xa xl hbs hl3 hh3
  have xb : V3.cell? ⟨w.heap.size + 1 + 1, 3, none⟩ = some (.slice none 0 0) := by rw [Lib.cell_of_heap HOV.out]; rfl
  have xf : V3.frozen? ⟨w.heap.size + 1 + 1, 3, none⟩ = false := Lib.frozen_of_heap HOV.out 3
  go_upto_region 6 with fail
  obtain ⟨W4, hWn⟩ : ∃ W4, W4 = V3.setCell ⟨w.heap.size + 1 + 1, 3, none⟩ (.slice (some ⟨g3, 0, none⟩) d.t.length d.t.length) := ⟨_, rfl⟩
  rw [← hWn]
  have hgr : V3.grownBy W4 (some (w.heap.size + 1 + 1)) := by rw [hWn]; exact grown_set V3 ⟨_, 3, none⟩ _
  have hgs := hgr.size
  have HO4 : Hid (W4.heap[w.heap.size + 1 + 1]? = some (.cells #[.int .i64 d.k, .string d.s, .slice (some ⟨g2, 0, none⟩) d.ps.length d.ps.length, .slice (some ⟨g3, 0, none⟩) d.t.length d.t.length, .slice none 0 0, .int .i64 0, .slice none 0 0] 36 (0, 0))) := by show _ = _; rw [hWn]; exact heap_setCell_same V3 _ 3 _ 36 _ HOV.out
  have HA4 : Hid (W4.heap[w.heap.size]? = some (.cells #[.int .i64 d.k, .string d.s, .slice pa d.ps.length pc, .slice ta d.t.length tc, .slice va d.v.length vc, .int .i64 d.f, .slice ca d.cs.length cc] 28 (0, 0))) := (hgr.block _ (by omega) (fun e => by have := Option.some.inj e; omega)).trans HAV.out
  have HR4 : Hid (W4.heap[w.heap.size + 1]? = some (.cells #[.int .i64 0, .string ⟨#[]⟩, .slice none 0 0, .slice none 0 0, .slice none 0 0, .int .i64 0, .slice none 0 0] 36 (0, 0))) := (hgr.block _ (by omega) (fun e => by have := Option.some.inj e; omega)).trans HRV.out
  have HB4 : Hid (Below w.heap.size w W4) := HBV.out.grown hgr (by omega) (fun k hk => by have := Option.some.inj hk; omega)
  have hz4 : w.heap.size + 1 + 1 < W4.heap.size := by omega
  have HFP : Hid (FrH l2 h2 W4 (fun w => StR l2 h2 w (.slice (some ⟨g2, 0, none⟩) d.ps.length d.ps.length) d.ps)) := by show FrH _ _ _ _; rw [hWn]; exact HFPV.out.set (p := ⟨_, _, _⟩) (by dsimp only; omega) _
  have HFT : Hid (FrH l3 h3 W4 (fun w => TsR l3 h3 w g3 d.t.length d.t.length d.t)) := by show FrH _ _ _ _; rw [hWn]; exact HFTV.out.set (p := ⟨_, _, _⟩) (by dsimp only; omega) _
  clear hWn hgr hgs xb xf HO3 HA3 HR3 HB3 hz3 HAV HRV HOV HBV hzv HFPV HFTV
  have xa : W4.cell? ⟨w.heap.size, 4, none⟩ = some (.slice va d.v.length vc) := by rw [Lib.cell_of_heap HA4.out]; rfl
  have xl := lt_cell xa
  have HC := hide ((toTerm_own _ d.v W4 (HD.out.v.keep HB4.out) HK.out.v.1 HK.out.v.2))
  go_wp2_with fail
  refine HC.out.mono ?_
  rintro e V4 ⟨g4, rfl, hfr, hgl, hb⟩
  have hbs := hb.size
  have HAV : Hid (V4.heap[w.heap.size]? = some (.cells #[.int .i64 d.k, .string d.s, .slice pa d.ps.length pc, .slice ta d.t.length tc, .slice va d.v.length vc, .int .i64 d.f, .slice ca d.cs.length cc] 28 (0, 0))) := (hb.block _ (by omega)).trans HA4.out
  have HRV : Hid (V4.heap[w.heap.size + 1]? = some (.cells #[.int .i64 0, .string ⟨#[]⟩, .slice none 0 0, .slice none 0 0, .slice none 0 0, .int .i64 0, .slice none 0 0] 36 (0, 0))) := (hb.block _ (by omega)).trans HR4.out
  have HOV : Hid (V4.heap[w.heap.size + 1 + 1]? = some (.cells #[.int .i64 d.k, .string d.s, .slice (some ⟨g2, 0, none⟩) d.ps.length d.ps.length, .slice (some ⟨g3, 0, none⟩) d.t.length d.t.length, .slice none 0 0, .int .i64 0, .slice none 0 0] 36 (0, 0))) := (hb.block _ (by omega)).trans HO4.out
  have HBV : Hid (Below w.heap.size w V4) := HB4.out.trans (hb.mono (by omega))
  have hzv : w.heap.size + 1 + 1 < V4.heap.size := by omega
  have op4 : h3 ≤ W4.heap.size := HFT.out.1
  have ol4 : w.heap.size + 1 + 1 < W4.heap.size := by omega
  have oh4 : W4.heap.size ≤ V4.heap.size := hbs
  obtain ⟨l4, hl4⟩ : ∃ l4, l4 = W4.heap.size := ⟨_, rfl⟩
  obtain ⟨h4, hh4⟩ : ∃ h4, h4 = V4.heap.size := ⟨_, rfl⟩
  have HFVV : Hid (FrH l4 h4 V4 (fun w => TsR l4 h4 w g4 d.v.length d.v.length d.v)) := by rw [hl4, hh4]; exact frh_ts hfr (Nat.le_refl _)
  rw [← hl4] at ol4 oh4 op4
  rw [← hh4] at oh4
  have HFPV : Hid (FrH l2 h2 V4 (fun w => StR l2 h2 w (.slice (some ⟨g2, 0, none⟩) d.ps.length d.ps.length) d.ps)) := HFP.out.keep hb
  have HFTV : Hid (FrH l3 h3 V4 (fun w => TsR l3 h3 w g3 d.t.length d.t.length d.t)) := HFT.out.keep hb
  clear hb hfr hgl HC xa xl hbs hl4 hh4
  have xb : V4.cell? ⟨w.heap.size + 1 + 1, 4, none⟩ = some (.slice none 0 0) := by rw [Lib.cell_of_heap HOV.out]; rfl
  have xf : V4.frozen? ⟨w.heap.size + 1 + 1, 4, none⟩ = false := Lib.frozen_of_heap HOV.out 4
  go_upto_region 7 with fail
  obtain ⟨W5, hWn⟩ : ∃ W5, W5 = V4.setCell ⟨w.heap.size + 1 + 1, 4, none⟩ (.slice (some ⟨g4, 0, none⟩) d.v.length d.v.length) := ⟨_, rfl⟩
  rw [← hWn]
  have hgr : V4.grownBy W5 (some (w.heap.size + 1 + 1)) := by rw [hWn]; exact grown_set V4 ⟨_, 4, none⟩ _
  have hgs := hgr.size
  have HO5 : Hid (W5.heap[w.heap.size + 1 + 1]? = some (.cells #[.int .i64 d.k, .string d.s, .slice (some ⟨g2, 0, none⟩) d.ps.length d.ps.length, .slice (some ⟨g3, 0, none⟩) d.t.length d.t.length, .slice (some ⟨g4, 0, none⟩) d.v.length d.v.length, .int .i64 0, .slice none 0 0] 36 (0, 0))) := by show _ = _; rw [hWn]; exact heap_setCell_same V4 _ 4 _ 36 _ HOV.out
  have HA5 : Hid (W5.heap[w.heap.size]? = some (.cells #[.int .i64 d.k, .string d.s, .slice pa d.ps.length pc, .slice ta d.t.length tc, .slice va d.v.length vc, .int .i64 d.f, .slice ca d.cs.length cc] 28 (0, 0))) := (hgr.block _ (by omega) (fun e => by have := Option.some.inj e; omega)).trans HAV.out
  have HR5 : Hid (W5.heap[w.heap.size + 1]? = some (.cells #[.int .i64 0, .string ⟨#[]⟩, .slice none 0 0, .slice none 0 0, .slice none 0 0, .int .i64 0, .slice none 0 0] 36 (0, 0))) := (hgr.block _ (by omega) (fun e => by have := Option.some.inj e; omega)).trans HRV.out
  have HB5 : Hid (Below w.heap.size w W5) := HBV.out.grown hgr (by omega) (fun k hk => by have := Option.some.inj hk; omega)
  have hz5 : w.heap.size + 1 + 1 < W5.heap.size := by omega
  have HFP : Hid (FrH l2 h2 W5 (fun w => StR l2 h2 w (.slice (some ⟨g2, 0, none⟩) d.ps.length d.ps.length) d.ps)) := by show FrH _ _ _ _; rw [hWn]; exact HFPV.out.set (p := ⟨_, _, _⟩) (by dsimp only; omega) _
  have HFT : Hid (FrH l3 h3 W5 (fun w => TsR l3 h3 w g3 d.t.length d.t.length d.t)) := by show FrH _ _ _ _; rw [hWn]; exact HFTV.out.set (p := ⟨_, _, _⟩) (by dsimp only; omega) _
  have HFV : Hid (FrH l4 h4 W5 (fun w => TsR l4 h4 w g4 d.v.length d.v.length d.v)) := by show FrH _ _ _ _; rw [hWn]; exact HFVV.out.set (p := ⟨_, _, _⟩) (by dsimp only; omega) _
  clear hWn hgr hgs xb xf HO4 HA4 HR4 HB4 hz4 HAV HRV HOV HBV hzv HFPV HFTV HFVV
  have xa : W5.cell? ⟨w.heap.size, 5, none⟩ = some (.int .i64 d.f) := by rw [Lib.cell_of_heap HA5.out]; rfl
  have xl := lt_cell xa
  have xb : W5.cell? ⟨w.heap.size + 1 + 1, 5, none⟩ = some (.int .i64 0) := by rw [Lib.cell_of_heap HO5.out]; rfl
  have xf : W5.frozen? ⟨w.heap.size + 1 + 1, 5, none⟩ = false := Lib.frozen_of_heap HO5.out 5
  go_upto_region 8 with fail
  obtain ⟨W6, hWn⟩ : ∃ W6, W6 = W5.setCell ⟨w.heap.size + 1 + 1, 5, none⟩ (.int .i64 d.f) := ⟨_, rfl⟩
  rw [← hWn]
  have hgr : W5.grownBy W6 (some (w.heap.size + 1 + 1)) := by rw [hWn]; exact grown_set W5 ⟨_, 5, none⟩ _
  have hgs := hgr.size
  have HO6 : Hid (W6.heap[w.heap.size + 1 + 1]? = some (.cells #[.int .i64 d.k, .string d.s, .slice (some ⟨g2, 0, none⟩) d.ps.length d.ps.length, .slice (some ⟨g3, 0, none⟩) d.t.length d.t.length, .slice (some ⟨g4, 0, none⟩) d.v.length d.v.length, .int .i64 d.f, .slice none 0 0] 36 (0, 0))) := by show _ = _; rw [hWn]; exact heap_setCell_same W5 _ 5 _ 36 _ HO5.out
  have HA6 : Hid (W6.heap[w.heap.size]? = some (.cells #[.int .i64 d.k, .string d.s, .slice pa d.ps.length pc, .slice ta d.t.length tc, .slice va d.v.length vc, .int .i64 d.f, .slice ca d.cs.length cc] 28 (0, 0))) := (hgr.block _ (by omega) (fun e => by have := Option.some.inj e; omega)).trans HA5.out
  have HR6 : Hid (W6.heap[w.heap.size + 1]? = some (.cells #[.int .i64 0, .string ⟨#[]⟩, .slice none 0 0, .slice none 0 0, .slice none 0 0, .int .i64 0, .slice none 0 0] 36 (0, 0))) := (hgr.block _ (by omega) (fun e => by have := Option.some.inj e; omega)).trans HR5.out
  have HB6 : Hid (Below w.heap.size w W6) := HB5.out.grown hgr (by omega) (fun k hk => by have := Option.some.inj hk; omega)
  have hz6 : w.heap.size + 1 + 1 < W6.heap.size := by omega
  have HFP : Hid (FrH l2 h2 W6 (fun w => StR l2 h2 w (.slice (some ⟨g2, 0, none⟩) d.ps.length d.ps.length) d.ps)) := by show FrH _ _ _ _; rw [hWn]; exact HFP.out.set (p := ⟨_, _, _⟩) (by dsimp only; omega) _
  have HFT : Hid (FrH l3 h3 W6 (fun w => TsR l3 h3 w g3 d.t.length d.t.length d.t)) := by show FrH _ _ _ _; rw [hWn]; exact HFT.out.set (p := ⟨_, _, _⟩) (by dsimp only; omega) _
  have HFV : Hid (FrH l4 h4 W6 (fun w => TsR l4 h4 w g4 d.v.length d.v.length d.v)) := by show FrH _ _ _ _; rw [hWn]; exact HFV.out.set (p := ⟨_, _, _⟩) (by dsimp only; omega) _
  clear hWn hgr hgs xb xf HO5 HA5 HR5 HB5 hz5 xa xl
  have xa : W6.cell? ⟨w.heap.size, 6, none⟩ = some (.slice ca d.cs.length cc) := by rw [Lib.cell_of_heap HA6.out]; rfl
  have xl := lt_cell xa
  have HC := hide ((toCtorS_own _ d.cs W6 (HD.out.cs.keep HB6.out) HK.out.cs.1 HK.out.cs.2))
  go_wp2_with fail
  refine HC.out.mono ?_
  rintro e V6 ⟨g6, rfl, hfr, hgl, hb⟩
  have hbs := hb.size
  have HAV : Hid (V6.heap[w.heap.size]? = some (.cells #[.int .i64 d.k, .string d.s, .slice pa d.ps.length pc, .slice ta d.t.length tc, .slice va d.v.length vc, .int .i64 d.f, .slice ca d.cs.length cc] 28 (0, 0))) := (hb.block _ (by omega)).trans HA6.out
  have HRV : Hid (V6.heap[w.heap.size + 1]? = some (.cells #[.int .i64 0, .string ⟨#[]⟩, .slice none 0 0, .slice none 0 0, .slice none 0 0, .int .i64 0, .slice none 0 0] 36 (0, 0))) := (hb.block _ (by omega)).trans HR6.out
  have HOV : Hid (V6.heap[w.heap.size + 1 + 1]? = some (.cells #[.int .i64 d.k, .string d.s, .slice (some ⟨g2, 0, none⟩) d.ps.length d.ps.length, .slice (some ⟨g3, 0, none⟩) d.t.length d.t.length, .slice (some ⟨g4, 0, none⟩) d.v.length d.v.length, .int .i64 d.f, .slice none 0 0] 36 (0, 0))) := (hb.block _ (by omega)).trans HO6.out
  have HBV : Hid (Below w.heap.size w V6) := HB6.out.trans (hb.mono (by omega))
  have hzv : w.heap.size + 1 + 1 < V6.heap.size := by omega
  have op6 : h4 ≤ W6.heap.size := HFV.out.1
  have ol6 : w.heap.size + 1 + 1 < W6.heap.size := by omega
  have oh6 : W6.heap.size ≤ V6.heap.size := hbs
  obtain ⟨l6, hl6⟩ : ∃ l6, l6 = W6.heap.size := ⟨_, rfl⟩
  obtain ⟨h6, hh6⟩ : ∃ h6, h6 = V6.heap.size := ⟨_, rfl⟩
  have HFCV : Hid (FrH l6 h6 V6 (fun w => CsR l6 h6 w g6 d.cs.length d.cs.length d.cs)) := by rw [hl6, hh6]; exact frh_cs hfr (Nat.le_refl _)
  rw [← hl6] at ol6 oh6 op6
  rw [← hh6] at oh6
  have HFPV : Hid (FrH l2 h2 V6 (fun w => StR l2 h2 w (.slice (some ⟨g2, 0, none⟩) d.ps.length d.ps.length) d.ps)) := HFP.out.keep hb
  have HFTV : Hid (FrH l3 h3 V6 (fun w => TsR l3 h3 w g3 d.t.length d.t.length d.t)) := HFT.out.keep hb
  have HFVV : Hid (FrH l4 h4 V6 (fun w => TsR l4 h4 w g4 d.v.length d.v.length d.v)) := HFV.out.keep hb
  clear hb hfr hgl HC xa xl hbs hl6 hh6
  have xb : V6.cell? ⟨w.heap.size + 1 + 1, 6, none⟩ = some (.slice none 0 0) := by rw [Lib.cell_of_heap HOV.out]; rfl
  have xf : V6.frozen? ⟨w.heap.size + 1 + 1, 6, none⟩ = false := Lib.frozen_of_heap HOV.out 6
  go_upto_region 9 with fail
  obtain ⟨W7, hWn⟩ : ∃ W7, W7 = V6.setCell ⟨w.heap.size + 1 + 1, 6, none⟩ (.slice (some ⟨g6, 0, none⟩) d.cs.length d.cs.length) := ⟨_, rfl⟩
  rw [← hWn]
  have hgr : V6.grownBy W7 (some (w.heap.size + 1 + 1)) := by rw [hWn]; exact grown_set V6 ⟨_, 6, none⟩ _
  have hgs := hgr.size
  have HO7 : Hid (W7.heap[w.heap.size + 1 + 1]? = some (.cells #[.int .i64 d.k, .string d.s, .slice (some ⟨g2, 0, none⟩) d.ps.length d.ps.length, .slice (some ⟨g3, 0, none⟩) d.t.length d.t.length, .slice (some ⟨g4, 0, none⟩) d.v.length d.v.length, .int .i64 d.f, .slice (some ⟨g6, 0, none⟩) d.cs.length d.cs.length] 36 (0, 0))) := by show _ = _; rw [hWn]; exact heap_setCell_same V6 _ 6 _ 36 _ HOV.out
  have HA7 : Hid (W7.heap[w.heap.size]? = some (.cells #[.int .i64 d.k, .string d.s, .slice pa d.ps.length pc, .slice ta d.t.length tc, .slice va d.v.length vc, .int .i64 d.f, .slice ca d.cs.length cc] 28 (0, 0))) := (hgr.block _ (by omega) (fun e => by have := Option.some.inj e; omega)).trans HAV.out
  have HR7 : Hid (W7.heap[w.heap.size + 1]? = some (.cells #[.int .i64 0, .string ⟨#[]⟩, .slice none 0 0, .slice none 0 0, .slice none 0 0, .int .i64 0, .slice none 0 0] 36 (0, 0))) := (hgr.block _ (by omega) (fun e => by have := Option.some.inj e; omega)).trans HRV.out
  have HB7 : Hid (Below w.heap.size w W7) := HBV.out.grown hgr (by omega) (fun k hk => by have := Option.some.inj hk; omega)
  have hz7 : w.heap.size + 1 + 1 < W7.heap.size := by omega
  have HFP : Hid (FrH l2 h2 W7 (fun w => StR l2 h2 w (.slice (some ⟨g2, 0, none⟩) d.ps.length d.ps.length) d.ps)) := by show FrH _ _ _ _; rw [hWn]; exact HFPV.out.set (p := ⟨_, _, _⟩) (by dsimp only; omega) _
  have HFT : Hid (FrH l3 h3 W7 (fun w => TsR l3 h3 w g3 d.t.length d.t.length d.t)) := by show FrH _ _ _ _; rw [hWn]; exact HFTV.out.set (p := ⟨_, _, _⟩) (by dsimp only; omega) _
  have HFV : Hid (FrH l4 h4 W7 (fun w => TsR l4 h4 w g4 d.v.length d.v.length d.v)) := by show FrH _ _ _ _; rw [hWn]; exact HFVV.out.set (p := ⟨_, _, _⟩) (by dsimp only; omega) _
  have HFC : Hid (FrH l6 h6 W7 (fun w => CsR l6 h6 w g6 d.cs.length d.cs.length d.cs)) := by show FrH _ _ _ _; rw [hWn]; exact HFCV.out.set (p := ⟨_, _, _⟩) (by dsimp only; omega) _
  clear hWn hgr hgs xb xf HO6 HA6 HR6 HB6 hz6 HAV HRV HOV HBV hzv HFPV HFTV HFVV HFCV
  have p0 : W7.cell? ⟨w.heap.size + 1 + 1, 0, none⟩ = some (.int .i64 d.k) := by rw [Lib.cell_of_heap HO7.out]; rfl
  have r0 : W7.cell? ⟨w.heap.size + 1, 0, none⟩ = some (.int .i64 0) := by rw [Lib.cell_of_heap HR7.out]; rfl
  have f0 : W7.frozen? ⟨w.heap.size + 1, 0, none⟩ = false := Lib.frozen_of_heap HR7.out 0
  have p1 : W7.cell? ⟨w.heap.size + 1 + 1, 1, none⟩ = some (.string d.s) := by rw [Lib.cell_of_heap HO7.out]; rfl
  have r1 : W7.cell? ⟨w.heap.size + 1, 1, none⟩ = some (.string ⟨#[]⟩) := by rw [Lib.cell_of_heap HR7.out]; rfl
  have f1 : W7.frozen? ⟨w.heap.size + 1, 1, none⟩ = false := Lib.frozen_of_heap HR7.out 1
  have p2 : W7.cell? ⟨w.heap.size + 1 + 1, 2, none⟩ = some (.slice (some ⟨g2, 0, none⟩) d.ps.length d.ps.length) := by rw [Lib.cell_of_heap HO7.out]; rfl
  have r2 : W7.cell? ⟨w.heap.size + 1, 2, none⟩ = some (.slice none 0 0) := by rw [Lib.cell_of_heap HR7.out]; rfl
  have f2 : W7.frozen? ⟨w.heap.size + 1, 2, none⟩ = false := Lib.frozen_of_heap HR7.out 2
  have p3 : W7.cell? ⟨w.heap.size + 1 + 1, 3, none⟩ = some (.slice (some ⟨g3, 0, none⟩) d.t.length d.t.length) := by rw [Lib.cell_of_heap HO7.out]; rfl
  have r3 : W7.cell? ⟨w.heap.size + 1, 3, none⟩ = some (.slice none 0 0) := by rw [Lib.cell_of_heap HR7.out]; rfl
  have f3 : W7.frozen? ⟨w.heap.size + 1, 3, none⟩ = false := Lib.frozen_of_heap HR7.out 3
  have p4 : W7.cell? ⟨w.heap.size + 1 + 1, 4, none⟩ = some (.slice (some ⟨g4, 0, none⟩) d.v.length d.v.length) := by rw [Lib.cell_of_heap HO7.out]; rfl
  have r4 : W7.cell? ⟨w.heap.size + 1, 4, none⟩ = some (.slice none 0 0) := by rw [Lib.cell_of_heap HR7.out]; rfl
  have f4 : W7.frozen? ⟨w.heap.size + 1, 4, none⟩ = false := Lib.frozen_of_heap HR7.out 4
  have p5 : W7.cell? ⟨w.heap.size + 1 + 1, 5, none⟩ = some (.int .i64 d.f) := by rw [Lib.cell_of_heap HO7.out]; rfl
  have r5 : W7.cell? ⟨w.heap.size + 1, 5, none⟩ = some (.int .i64 0) := by rw [Lib.cell_of_heap HR7.out]; rfl
  have f5 : W7.frozen? ⟨w.heap.size + 1, 5, none⟩ = false := Lib.frozen_of_heap HR7.out 5
  have p6 : W7.cell? ⟨w.heap.size + 1 + 1, 6, none⟩ = some (.slice (some ⟨g6, 0, none⟩) d.cs.length d.cs.length) := by rw [Lib.cell_of_heap HO7.out]; rfl
  have r6 : W7.cell? ⟨w.heap.size + 1, 6, none⟩ = some (.slice none 0 0) := by rw [Lib.cell_of_heap HR7.out]; rfl
  have f6 : W7.frozen? ⟨w.heap.size + 1, 6, none⟩ = false := Lib.frozen_of_heap HR7.out 6
  go_wp2_with fail
  refine bodyPost_ret (v := .agg #[.int .i64 d.k, .string d.s, .slice (some ⟨g2, 0, none⟩) d.ps.length d.ps.length, .slice (some ⟨g3, 0, none⟩) d.t.length d.t.length, .slice (some ⟨g4, 0, none⟩) d.v.length d.v.length, .int .i64 d.f, .slice (some ⟨g6, 0, none⟩) d.cs.length d.cs.length]) (by simp [results, Tryz.results12, go_sem, r0, r1, r2, r3, r4, r5, r6]) rfl ?_
  have hz := HFC.out.1
  refine ⟨g2, g3, g4, g6, rfl, ⟨l2, h2, l3, h3, l4, h4, l6, h6, ?_, ?_, ?_, ?_, by omega, oh2, op3, oh3, op4, oh4, op6, oh6, by simp; exact hz⟩, ?_⟩
  · exact (FrH.get (lo := l2) (hi := h2) (P := (fun w => StR l2 h2 w (.slice (some ⟨g2, 0, none⟩) d.ps.length d.ps.length) d.ps)) (FrH.set (FrH.set (FrH.set (FrH.set (FrH.set (FrH.set (FrH.set HFP.out (p := ⟨_, _, _⟩) (by dsimp only; omega) _) (p := ⟨_, _, _⟩) (by dsimp only; omega) _) (p := ⟨_, _, _⟩) (by dsimp only; omega) _) (p := ⟨_, _, _⟩) (by dsimp only; omega) _) (p := ⟨_, _, _⟩) (by dsimp only; omega) _) (p := ⟨_, _, _⟩) (by dsimp only; omega) _) (p := ⟨_, _, _⟩) (by dsimp only; omega) _))
  · exact (FrH.get (lo := l3) (hi := h3) (P := (fun w => TsR l3 h3 w g3 d.t.length d.t.length d.t)) (FrH.set (FrH.set (FrH.set (FrH.set (FrH.set (FrH.set (FrH.set HFT.out (p := ⟨_, _, _⟩) (by dsimp only; omega) _) (p := ⟨_, _, _⟩) (by dsimp only; omega) _) (p := ⟨_, _, _⟩) (by dsimp only; omega) _) (p := ⟨_, _, _⟩) (by dsimp only; omega) _) (p := ⟨_, _, _⟩) (by dsimp only; omega) _) (p := ⟨_, _, _⟩) (by dsimp only; omega) _) (p := ⟨_, _, _⟩) (by dsimp only; omega) _))
  · exact (FrH.get (lo := l4) (hi := h4) (P := (fun w => TsR l4 h4 w g4 d.v.length d.v.length d.v)) (FrH.set (FrH.set (FrH.set (FrH.set (FrH.set (FrH.set (FrH.set HFV.out (p := ⟨_, _, _⟩) (by dsimp only; omega) _) (p := ⟨_, _, _⟩) (by dsimp only; omega) _) (p := ⟨_, _, _⟩) (by dsimp only; omega) _) (p := ⟨_, _, _⟩) (by dsimp only; omega) _) (p := ⟨_, _, _⟩) (by dsimp only; omega) _) (p := ⟨_, _, _⟩) (by dsimp only; omega) _) (p := ⟨_, _, _⟩) (by dsimp only; omega) _))
  · exact (FrH.get (lo := l6) (hi := h6) (P := (fun w => CsR l6 h6 w g6 d.cs.length d.cs.length d.cs)) (FrH.set (FrH.set (FrH.set (FrH.set (FrH.set (FrH.set (FrH.set HFC.out (p := ⟨_, _, _⟩) (by dsimp only; omega) _) (p := ⟨_, _, _⟩) (by dsimp only; omega) _) (p := ⟨_, _, _⟩) (by dsimp only; omega) _) (p := ⟨_, _, _⟩) (by dsimp only; omega) _) (p := ⟨_, _, _⟩) (by dsimp only; omega) _) (p := ⟨_, _, _⟩) (by dsimp only; omega) _) (p := ⟨_, _, _⟩) (by dsimp only; omega) _))
  · exact (Below.setCell (Below.setCell (Below.setCell (Below.setCell (Below.setCell (Below.setCell (Below.setCell HB7.out (p := ⟨_, _, _⟩) (by dsimp only; omega) _) (p := ⟨_, _, _⟩) (by dsimp only; omega) _) (p := ⟨_, _, _⟩) (by dsimp only; omega) _) (p := ⟨_, _, _⟩) (by dsimp only; omega) _) (p := ⟨_, _, _⟩) (by dsimp only; omega) _) (p := ⟨_, _, _⟩) (by dsimp only; omega) _) (p := ⟨_, _, _⟩) (by dsimp only; omega) _)
end Go.Proofs.YtpmpooekpeocdaaGreat
