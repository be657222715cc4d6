/- The copies that the laws make of levels, as rows of the call's own: toIntS, toLNode, toLNodeS, toLevel. -/
import Derived.Test.YtbgibiongnhjoaaGreatStrS
import Derived.Test.YtbgibiongnhjoaaGreatStG
namespace Go.Proofs.YtbgibiongnhjoaaGreat
open Go.ChangeShapes Go.WideShapes Go.ChangeAt Go.RowKit

set_option maxRecDepth 20000 in
set_option maxHeartbeats 1000000 in
theorem toIntS_own (v : Value) (ks : List Int) (w : World) (hk : IntsAt w v ks) (hl : ks.length ≤ 1048576) :
    Calls Tryz.prog 143 #[v] w fun e w' => ∃ g, e = .returned (.slice (some ⟨g, 0, none⟩) ks.length ks.length) ∧ KidRow w.heap.size w' (.slice (some ⟨g, 0, none⟩) ks.length ks.length) ks ∧ w.heap.size ≤ g ∧ Below w.heap.size w w' := by
  obtain ⟨i0, hi, hz0, hz1, hz2⟩ := info_parts Tryz.info3
  obtain ⟨a, cap, rfl, hlc, hcm, hc⟩ := hk
  have HC : Hid (0 < ks.length → ∃ b off, a = some ⟨b, off, none⟩ ∧ ∀ j (h : j < ks.length), w.cell? ⟨b, off + j, none⟩ = some (.int .i64 ks[j])) := hc
  clear hc
  go_enter Tryz.func143, Tryz.ntmps143
  go_wp2_with (at_make; refine wpList_make_full _ rfl _ _ 65 rfl w.heap.size 3 i0 (.int .i64 0) 1 Tryz.underlying65 hi hz0 hz1 .i64 .i64 _ _ ks.length rfl rfl rfl rfl (by rw [hz2]; omega) (by unfold maxLen; omega) (Nat.le_refl _) ?_; intro w1 hown hgrow)
  go_loopw [4] (fun i wr => ∃ (k : Nat) (xs : List Value), k ≤ ks.length ∧ i = .int .i64 k ∧ wr.ownsRow w.heap.size 3 1 (.slice (some ⟨w.heap.size, 0, none⟩) ks.length ks.length) ks.length xs ∧ Hid (∀ j (h : j < ks.length), j < k → xs[j]? = some (.int .i64 ks[j])) ∧ Below w.heap.size w wr) (fun i _ => ks.length - (intOf i).toNat)
  case atStart => exact ⟨0, _, by omega, rfl, hown, fun j _ h => by omega, (Below.refl _ _).grown hgrow (Nat.le_refl _) (fun k hk => by cases hk)⟩
  case round =>
    obtain ⟨k, xs, hk, rfl, hownr, HX, hbel⟩ := hrel
    by_cases hlt : k < ks.length
    · obtain ⟨b, off, ha, hc⟩ := HC.out (by omega)
      subst ha
      have c1 := hc k hlt
      have c1' := hbel.cell (p := ⟨b, off + k, none⟩) (lt_cell c1)
      rw [c1] at c1'
      have hst := hownr.stored k (.int .i64 ks[k])
      have hfz := hownr.frozenAt k
      have hce := hownr.cellAt k (by omega)
      have hxl := hownr.1
      obtain ⟨u, hu⟩ : ∃ u, xs[k]? = some u := ⟨xs[k]'(by omega), by simp⟩
      rw [hu] at hce
      have HX2 : Hid (∀ j (h : j < ks.length), j < k + 1 → (xs.set k (.int .i64 ks[k]))[j]? = some (.int .i64 ks[j])) := by
        intro j hj hjk
        rw [List.getElem?_set]
        by_cases e : k = j
        · subst e; rw [if_pos rfl, if_pos (by omega)]
        · rw [if_neg e]; exact HX.out j hj (by omega)
      clear hc c1 hu hown hgrow
      generalize ks[k] = q at *
      go_wp2_with fail
      go_roundw
      case rel => exact ⟨k + 1, _, by omega, by go_num, hst.1, HX2, hbel.setCell (Nat.le_refl _) _⟩
      case measure => simp [intOf]; omega
    · have hxs : xs = ks.map (Value.int .i64) := by
        refine List.ext_getElem? fun q => ?_
        by_cases hq : q < ks.length
        · rw [HX.out q hq (by omega), List.getElem?_map, List.getElem?_eq_getElem hq]; rfl
        · have h1 := hownr.1
          rw [List.getElem?_eq_none (by omega), List.getElem?_eq_none (by rw [List.length_map]; omega)]
      have hints : KidRow w.heap.size wr (.slice (some ⟨w.heap.size, 0, none⟩) ks.length ks.length) ks := by unfold KidRow; rw [← hxs]; exact hownr
      clear hxs
      clear hown hgrow hownr
      go_wp2_with fail
      go_ret
      exact ⟨_, rfl, hints, Nat.le_refl _, hbel⟩
set_option maxRecDepth 20000 in
set_option maxHeartbeats 1000000 in
theorem toLNode_own (nd : Nd) (kv : Value) (w : World) (hk : IntsAt w kv nd.kids) (hl : nd.kids.length ≤ 1048576) :
    Calls Tryz.prog 163 #[.agg #[.int .i64 nd.k, .string nd.s, kv]] w fun e w' => ∃ g, e = .returned (.agg #[.int .i64 nd.k, .string nd.s, .slice (some ⟨g, 0, none⟩) nd.kids.length nd.kids.length]) ∧ KidRow w.heap.size w' (.slice (some ⟨g, 0, none⟩) nd.kids.length nd.kids.length) nd.kids ∧ w.heap.size ≤ g ∧ Below w.heap.size w w' := by
  have HK : Hid (∀ o1 o2 o3, IntsAt (((w.alloc o1).alloc o2).alloc o3) kv nd.kids) := fun o1 o2 o3 => hk.keep ((((Below.refl w.heap.size w).alloc (Nat.le_refl _) o1).alloc (by simp) o2).alloc (by simp; omega) o3)
  obtain ⟨a, cap, rfl, hlc, hcm, _⟩ := hk
  go_enter Tryz.func163, Tryz.ntmps163
  go_wp2_with fail
  refine (toIntS_own _ nd.kids _ (HK.out _ _ _) hl).mono ?_
  rintro e w1 ⟨g, rfl, hints, hg, hb⟩
  obtain ⟨hc, hf⟩ := bcell hb
  have hz : w.heap.size + 1 + 1 < w1.heap.size := by have := hb.size; simp at this; omega
  have hbel : Below w.heap.size w w1 := ((((Below.refl w.heap.size w).alloc (Nat.le_refl _) _).alloc (by simp) _).alloc (by simp; omega) _).trans (hb.mono (by simp; omega))
  simp only [World.size_alloc] at hc hf hg
  clear hb
  go_wp2_with fail
  refine bodyPost_ret (v := .agg #[.int .i64 nd.k, .string nd.s, .slice (some ⟨g, 0, none⟩) nd.kids.length nd.kids.length]) (by simp [results, Tryz.results163, go_sem, hc]) rfl ⟨g, rfl, ?_, by omega, ?_⟩
  · exact KidRow.mono (own_set (own_set (own_set (own_set hints (p := ⟨_, _, _⟩) (by dsimp only; omega) _) (p := ⟨_, _, _⟩) (by dsimp only; omega) _) (p := ⟨_, _, _⟩) (by dsimp only; omega) _) (p := ⟨_, _, _⟩) (by dsimp only; omega) _) (by simp; omega)
  · exact (((hbel.setCell (p := ⟨_, _, _⟩) (by show _ ≤ w.heap.size + 1 + 1; omega) _).setCell (p := ⟨_, _, _⟩) (by show _ ≤ w.heap.size + 1; omega) _).setCell (p := ⟨_, _, _⟩) (by show _ ≤ w.heap.size + 1; omega) _).setCell (p := ⟨_, _, _⟩) (by show _ ≤ w.heap.size + 1; omega) _
/-- The first k nodes stand in the row R, their kids in rows of their own behind it. -/
def NodesO (base : Nat) (w : World) (R : Nat) (xs : List Value) (ns : List Nd) (k : Nat) : Prop :=
  (∀ i (h : i < ns.length), i < k → xs[i * 3]? = some (.int .i64 ns[i].k) ∧ xs[i * 3 + 1]? = some (.string ns[i].s) ∧ ∃ kv, xs[i * 3 + 2]? = some kv ∧ KidRow base w kv ns[i].kids ∧ ∀ b, kv.ownBlock = some b → R < b) ∧ Apart xs k
theorem NodesO.keep {base : Nat} {w w' : World} (hb : Below w.heap.size w w') {R : Nat} {xs : List Value} {ns : List Nd} {k : Nat} (h : NodesO base w R xs ns k) : NodesO base w' R xs ns k := ⟨fun i hi hk => by
  obtain ⟨a, b, kv, c, d, e⟩ := h.1 i hi hk; exact ⟨a, b, kv, c, d.keep hb, e⟩, h.2⟩
theorem NodesO.put {base : Nat} {w w0 : World} {R : Nat} {xs : List Value} {ns : List Nd} {k g : Nat} (hx : xs.length = ns.length * 3) (h : NodesO base w R xs ns k) (hk : k < ns.length) (hg : R < g) (hnew : ∀ i, i < ns.length → i < k → ∀ kv b, xs[i * 3 + 2]? = some kv → kv.ownBlock = some b → b < g) (hints : KidRow base w (.slice (some ⟨g, 0, none⟩) ns[k].kids.length ns[k].kids.length) ns[k].kids) (hw : ∀ b, b ≠ R → w0.heap[b]? = w.heap[b]?) :
    NodesO base w0 R (((xs.set (k * 3) (.int .i64 ns[k].k)).set (k * 3 + 1) (.string ns[k].s)).set (k * 3 + 2) (.slice (some ⟨g, 0, none⟩) ns[k].kids.length ns[k].kids.length)) ns (k + 1) := by
  refine ⟨fun i hi hik => ?_, fun p q hp hq hpq kv1 kv2 b c1 c2 o1 o2 => ?_⟩
  · by_cases e : i = k
    · subst e
      refine ⟨?_, ?_, .slice (some ⟨g, 0, none⟩) ns[i].kids.length ns[i].kids.length, ?_, row_same hints (fun q hq => hw q (by simp [Value.ownBlock] at hq; omega)), fun b hb => by simp [Value.ownBlock] at hb; omega⟩
      · rw [List.getElem?_set_ne (by omega), List.getElem?_set_ne (by omega), List.getElem?_set_self (by omega)]
      · rw [List.getElem?_set_ne (by omega), List.getElem?_set_self (by rw [List.length_set]; omega)]
      · rw [List.getElem?_set_self (by rw [List.length_set, List.length_set]; omega)]
    · obtain ⟨a, b, kv, c, d, f⟩ := h.1 i hi (by omega)
      refine ⟨?_, ?_, kv, ?_, row_same d (fun q hq => hw q (by have := f q hq; omega)), f⟩
      · rw [List.getElem?_set_ne (by omega), List.getElem?_set_ne (by omega), List.getElem?_set_ne (by omega)]; exact a
      · rw [List.getElem?_set_ne (by omega), List.getElem?_set_ne (by omega), List.getElem?_set_ne (by omega)]; exact b
      · rw [List.getElem?_set_ne (by omega), List.getElem?_set_ne (by omega), List.getElem?_set_ne (by omega)]; exact c
  · have hold : ∀ i, i < k → (((xs.set (k * 3) (.int .i64 ns[k].k)).set (k * 3 + 1) (.string ns[k].s)).set (k * 3 + 2) (.slice (some ⟨g, 0, none⟩) ns[k].kids.length ns[k].kids.length))[i * 3 + 2]? = xs[i * 3 + 2]? := fun i hi => by
      rw [List.getElem?_set_ne (by omega), List.getElem?_set_ne (by omega), List.getElem?_set_ne (by omega)]
    have hnewv : (((xs.set (k * 3) (.int .i64 ns[k].k)).set (k * 3 + 1) (.string ns[k].s)).set (k * 3 + 2) (.slice (some ⟨g, 0, none⟩) ns[k].kids.length ns[k].kids.length))[k * 3 + 2]? = some (.slice (some ⟨g, 0, none⟩) ns[k].kids.length ns[k].kids.length) := by
      rw [List.getElem?_set_self (by rw [List.length_set, List.length_set]; omega)]
    by_cases ep : p < k
    · rw [hold p ep] at c1
      by_cases eq : q < k
      · rw [hold q eq] at c2
        exact h.2 p q ep eq hpq kv1 kv2 b c1 c2 o1 o2
      · obtain rfl : q = k := by omega
        rw [hnewv] at c2
        obtain rfl := Option.some.inj c2
        have := hnew p (by omega) ep kv1 b c1 o1
        simp [Value.ownBlock] at o2
        omega
    · obtain rfl : p = k := by omega
      rw [hnewv] at c1
      obtain rfl := Option.some.inj c1
      rw [hold q (by omega)] at c2
      have := hnew q (by omega) (by omega) kv2 b c2 o2
      simp [Value.ownBlock] at o1
      omega
set_option maxRecDepth 20000 in
set_option maxHeartbeats 1000000 in
theorem toLNodeS_own (v : Value) (ns : List Nd) (w : World) (hn : NodesAt w v ns) (hl : ns.length ≤ 1048576) (hkl : ∀ nd ∈ ns, nd.kids.length ≤ 1048576) :
    Calls Tryz.prog 120 #[v] w fun e w' => ∃ g, e = .returned (.slice (some ⟨g, 0, none⟩) ns.length ns.length) ∧ NdW w.heap.size w' (.slice (some ⟨g, 0, none⟩) ns.length ns.length) ns ∧ w.heap.size ≤ g ∧ Below w.heap.size w w' := by
  obtain ⟨i0, hi, hz0, hz1, hz2⟩ := info_parts Tryz.info174
  obtain ⟨a, cap, rfl, hlc, hcm, hc⟩ := hn
  have HC : Hid (0 < ns.length → ∃ b off, a = some ⟨b, off, none⟩ ∧ ∀ i (h : i < ns.length), NodeAt w b (off + i * 3) ns[i]) := hc
  have HK : Hid (∀ nd ∈ ns, nd.kids.length ≤ 1048576) := hkl
  clear hc hkl
  go_enter Tryz.func120, Tryz.ntmps120
  go_wp2_with (at_make; refine wpList_make_full _ rfl _ _ 109 rfl w.heap.size 174 i0 (.agg #[.int .i64 0, .string ⟨#[]⟩, .slice none 0 0]) 3 Tryz.underlying109 hi hz0 hz1 .i64 .i64 _ _ ns.length rfl rfl rfl rfl (by rw [hz2]; omega) (by unfold maxLen; omega) (Nat.le_refl _) ?_; intro w1 hown hgrow)
  go_loopw [4] (fun i wr => ∃ (k : Nat) (xs : List Value), k ≤ ns.length ∧ i = .int .i64 k ∧ wr.ownsRow w.heap.size 174 3 (.slice (some ⟨w.heap.size, 0, none⟩) ns.length ns.length) ns.length xs ∧ Hid (NodesO w.heap.size wr w.heap.size xs ns k) ∧ w.heap.size < wr.heap.size ∧ Below w.heap.size w wr) (fun i _ => ns.length - (intOf i).toNat)
  case atStart => exact ⟨0, _, by omega, rfl, hown, ⟨fun j _ h => by omega, fun i j h => by omega⟩, (hown.lt _ rfl).2, (Below.refl _ _).grown hgrow (Nat.le_refl _) (fun k hk => by cases hk)⟩
  case round =>
    obtain ⟨k, xs, hk, rfl, hownr, HX, hsz, hbel⟩ := hrel
    clear hown hgrow
    by_cases hlt : k < ns.length
    · obtain ⟨b, off, ha, hc⟩ := HC.out (by omega)
      subst ha
      obtain ⟨c1, c2, kv, c3, hkv⟩ := hc k hlt
      have hkl := HK.out ns[k] (by simp)
      have c1' := hbel.cell (p := ⟨b, off + k * 3, none⟩) (lt_cell c1)
      have c2' := hbel.cell (p := ⟨b, off + k * 3 + 1, none⟩) (lt_cell c2)
      have c3' := hbel.cell (p := ⟨b, off + k * 3 + 2, none⟩) (lt_cell c3)
      rw [c1] at c1'
      rw [c2] at c2'
      rw [c3] at c3'
      have hkv' := hkv.keep hbel
      clear hc c1 c2 c3 hkv
      go_wp2_with fail
      refine (toLNode_own ns[k] kv _ hkv' hkl).mono ?_
      rintro e w2 ⟨g, rfl, hints, hg, hb⟩
      have hown2 := row_keep hb hownr
      have HX2 := hide (HX.out.keep hb)
      have hbel2 : Below w.heap.size w w2 := hbel.trans (hb.mono hbel.size)
      have hxl := hown2.1
      have hput := HX2.out.put (w0 := ((w2.setCell ⟨w.heap.size, k * 3, none⟩ (.int .i64 ns[k].k)).setCell ⟨w.heap.size, k * 3 + 1, none⟩ (.string ns[k].s)).setCell ⟨w.heap.size, k * 3 + 2, none⟩ (.slice (some ⟨g, 0, none⟩) ns[k].kids.length ns[k].kids.length)) hxl hlt (by omega) (fun i hi hik kv b hx hb2 => by
        obtain ⟨_, _, kv2, c, d, _⟩ := HX.out.1 i hi hik
        rw [c] at hx
        obtain rfl := Option.some.inj hx
        have := (World.ownsRow.lt d b hb2).2
        omega) (hints.mono hbel.size) (fun b hb2 => by rw [Below.heap_setCell _ _ _ _ hb2, Below.heap_setCell _ _ _ _ hb2, Below.heap_setCell _ _ _ _ hb2])
      have s1 := (hown2.stored (k * 3) (.int .i64 ns[k].k)).1
      have s2 := (s1.stored (k * 3 + 1) (.string ns[k].s)).1
      have s3 := (s2.stored (k * 3 + 2) (.slice (some ⟨g, 0, none⟩) ns[k].kids.length ns[k].kids.length)).1
      have f1 := hown2.frozenAt (k * 3)
      have f2 := hown2.frozenAt (k * 3 + 1)
      have f3 := hown2.frozenAt (k * 3 + 2)
      have e1 := hown2.cellAt (k * 3) (by omega)
      have e2 := hown2.cellAt (k * 3 + 1) (by omega)
      have e3 := hown2.cellAt (k * 3 + 2) (by omega)
      rw [List.getElem?_eq_getElem (by omega)] at e1 e2 e3
      have hsz2 : w.heap.size < w2.heap.size := by have := hb.size; omega
      have HP := hide hput
      clear hput HX2 HX hints hown2 hownr s1 s2 hb c1' c2' c3' hkv'
      go_wp2_with fail
      go_roundw
      case rel => exact ⟨k + 1, _, by omega, by go_num, s3, HP, by simpa [World.setCell] using hsz2, ((hbel2.setCell (p := ⟨_, _, _⟩) (Nat.le_refl _) _).setCell (p := ⟨_, _, _⟩) (Nat.le_refl _) _).setCell (p := ⟨_, _, _⟩) (Nat.le_refl _) _⟩
      case measure => simp [intOf]; omega
    · have hall : NdW w.heap.size wr (.slice (some ⟨w.heap.size, 0, none⟩) ns.length ns.length) ns := by
        have hx := HX.out
        rw [show k = ns.length from by omega] at hx
        refine ⟨xs, hownr, fun i hi => ?_, hx.2⟩
        obtain ⟨a, b, kv, c, d, _⟩ := hx.1 i hi hi
        exact ⟨a, b, kv, c, d⟩
      go_wp2_with fail
      go_ret
      exact ⟨_, rfl, hall, Nat.le_refl _, hbel⟩
theorem NdW.low {base : Nat} {w : World} {v : Value} {ns : List Nd} (h : NdW base w v ns) {p : Addr} (hp : p.block < base) (u : Value) : NdW base (w.setCell p u) v ns := by
  obtain ⟨xs, h1, h2, h3⟩ := h
  refine ⟨xs, row_same h1 (fun g hg => Below.heap_setCell w p u g (by have := (World.ownsRow.lt h1 g hg).1; omega)), fun i hi => ?_, h3⟩
  obtain ⟨a, b, kv, c, d⟩ := h2 i hi
  exact ⟨a, b, kv, c, row_same d (fun g hg => Below.heap_setCell w p u g (by have := (World.ownsRow.lt d g hg).1; omega))⟩
set_option maxRecDepth 20000 in
set_option maxHeartbeats 1000000 in
theorem toLevel_own (v : Value) (ns : List Nd) (w : World) (hn : NodesAt w v ns) (hl : ns.length ≤ 1048576) (hkl : ∀ nd ∈ ns, nd.kids.length ≤ 1048576) :
    Calls Tryz.prog 71 #[.agg #[v]] w fun e w' => ∃ g, e = .returned (.agg #[.slice (some ⟨g, 0, none⟩) ns.length ns.length]) ∧ NdW w.heap.size w' (.slice (some ⟨g, 0, none⟩) ns.length ns.length) ns ∧ w.heap.size ≤ g ∧ Below w.heap.size w w' := by
  have HN : Hid (∀ o1 o2 o3, NodesAt (((w.alloc o1).alloc o2).alloc o3) v ns) := fun o1 o2 o3 => hn.keep ((((Below.refl w.heap.size w).alloc (Nat.le_refl _) o1).alloc (by simp) o2).alloc (by simp; omega) o3)
  have HK : Hid (∀ nd ∈ ns, nd.kids.length ≤ 1048576) := hkl
  obtain ⟨a, cap, rfl, hlc, hcm, _⟩ := hn
  clear hkl
  go_enter Tryz.func71, Tryz.ntmps71
  go_wp2_with fail
  refine (toLNodeS_own _ ns _ (HN.out _ _ _) hl HK.out).mono ?_
  rintro e w1 ⟨g, rfl, hnodes, hg, hb⟩
  obtain ⟨hc, hf⟩ := bcell hb
  have hz : w.heap.size + 1 + 1 < w1.heap.size := by have := hb.size; simp at this; omega
  have hbel : Below w.heap.size w w1 := ((((Below.refl w.heap.size w).alloc (Nat.le_refl _) _).alloc (by simp) _).alloc (by simp; omega) _).trans (hb.mono (by simp; omega))
  simp only [World.size_alloc] at hc hf hg
  clear hb
  go_wp2_with fail
  refine bodyPost_ret (v := .agg #[.slice (some ⟨g, 0, none⟩) ns.length ns.length]) (by simp [results, Tryz.results71, go_sem, hc]) rfl ⟨g, rfl, ?_, by omega, ?_⟩
  · exact ((hnodes.low (p := ⟨_, _, _⟩) (by simp) _).low (p := ⟨_, _, _⟩) (by simp) _).mono (by simp; omega)
  · exact (hbel.setCell (p := ⟨_, _, _⟩) (by show _ ≤ w.heap.size + 1 + 1; omega) _).setCell (p := ⟨_, _, _⟩) (by show _ ≤ w.heap.size + 1; omega) _
end Go.Proofs.YtbgibiongnhjoaaGreat

/- Levels copied, as rows of the call's own, each within a range of blocks; what toLevelS, markStringS and markLevelS answer. -/
namespace Go.Proofs.YtbgibiongnhjoaaGreat
open Go.ChangeShapes Go.WideShapes Go.ChangeAt Go.RowKit

/-- A row of levels, each within a range of blocks behind those of the one in front of it. -/
def LsR (lo hi : Nat) (w : World) (R n cap : Nat) (ls : List (List Nd)) : Prop :=
  ∃ (xs : List Value) (f : Nat → Nat), w.ownsRow lo 111 1 (.slice (some ⟨R, 0, none⟩) n cap) n xs ∧ R < f 0 ∧ (∀ i, i < ls.length → f i ≤ f (i + 1)) ∧ f ls.length ≤ hi ∧ ∀ i (h : i < ls.length), ∃ v, xs[i]? = some v ∧ NdR (f i) (f (i + 1)) w v ls[i]
theorem mono_le {f : Nat → Nat} {n : Nat} (h : ∀ i, i < n → f i ≤ f (i + 1)) : ∀ i j, i ≤ j → j ≤ n → f i ≤ f j := by
  intro i j hij hj
  induction j with
  | zero => have : i = 0 := by omega
            subst this; exact Nat.le_refl _
  | succ j ih =>
    by_cases e : i = j + 1
    · subst e; exact Nat.le_refl _
    · exact Nat.le_trans (ih (by omega) (by omega)) (h j (by omega))
theorem LsR.same {lo hi : Nat} {w w' : World} {R n cap : Nat} {ls : List (List Nd)} (h : LsR lo hi w R n cap ls) (hh : ∀ b, lo ≤ b → b < hi → w'.heap[b]? = w.heap[b]?) (hR : R < hi) : LsR lo hi w' R n cap ls := by
  obtain ⟨xs, f, h1, h2, h3, h4, h5⟩ := h
  have hlo := (h1.lt R rfl).1
  refine ⟨xs, f, row_same h1 (fun g hg => hh g (World.ownsRow.lt h1 g hg).1 (by simp [Value.ownBlock] at hg; omega)), h2, h3, h4, fun i hi => ?_⟩
  obtain ⟨v, a, b⟩ := h5 i hi
  have m1 := mono_le h3 0 i (by omega) (by omega)
  have m2 := mono_le h3 (i + 1) ls.length (by omega) (by omega)
  exact ⟨v, a, b.same (fun q q1 q2 => hh q (by omega) (by omega))⟩
theorem LsR.levs {lo hi : Nat} {w : World} {R n cap : Nat} {ls : List (List Nd)} (h : LsR lo hi w R n cap ls) (hn : ls.length = n) : LevsAt w (.slice (some ⟨R, 0, none⟩) n cap) ls := by
  obtain ⟨xs, f, h1, _, _, _, h5⟩ := h
  obtain ⟨hc1, hc2⟩ := ownsRow_cap h1
  subst hn
  refine ⟨_, cap, rfl, hc1, hc2, fun _ => ⟨R, 0, rfl, fun i hi => ?_⟩⟩
  obtain ⟨v, a, b⟩ := h5 i hi
  exact ⟨v, by rw [Nat.zero_add, h1.cellAt i (by omega)]; exact a, b.nodes⟩
/-- The first k levels of the row R. -/
def LevsO (w : World) (R : Nat) (xs : List Value) (ls : List (List Nd)) (k : Nat) : Prop :=
  ∃ f : Nat → Nat, R < f 0 ∧ (∀ i, i < k → f i ≤ f (i + 1)) ∧ f k ≤ w.heap.size ∧ ∀ i (h : i < ls.length), i < k → ∃ v, xs[i]? = some v ∧ NdR (f i) (f (i + 1)) w v ls[i]
theorem LevsO.put {w w2 : World} {R : Nat} {xs : List Value} {ls : List (List Nd)} {k : Nat} {u : Value} (hx : xs.length = ls.length) (h : LevsO w R xs ls k) (hk : k < ls.length) (hb : Below w.heap.size w w2) (hu : NdW w.heap.size w2 u ls[k]) (u1 : Value) : LevsO (w2.setCell ⟨R, k, none⟩ u1) R (xs.set k u) ls (k + 1) := by
  obtain ⟨f, f1, f2, f3, f4⟩ := h
  have hs := hb.size
  have m0 := mono_le f2 0 k (by omega) (Nat.le_refl _)
  refine ⟨fun i => if i ≤ k then f i else w2.heap.size, by simp; exact f1, fun i hi => ?_, by rw [size_set]; simp only [if_neg (show ¬ k + 1 ≤ k by omega)]; exact Nat.le_refl _, fun i hi hik => ?_⟩
  · by_cases e : i < k
    · simp only [if_pos (show i ≤ k by omega), if_pos (show i + 1 ≤ k by omega)]; exact f2 i e
    · have : i = k := by omega
      subst this
      simp only [if_pos (Nat.le_refl i), if_neg (show ¬ i + 1 ≤ i by omega)]; omega
  · by_cases e : i = k
    · subst e
      refine ⟨u, by rw [List.getElem?_set_self (by omega)], ?_⟩
      simp only [if_pos (Nat.le_refl i), if_neg (show ¬ i + 1 ≤ i by omega)]
      exact ((hu.mono f3).toR).same (fun b hb1 _ => Below.heap_setCell w2 _ _ b (by show b ≠ R; omega))
    · obtain ⟨v, a, b⟩ := f4 i hi (by omega)
      have m1 := mono_le f2 0 i (by omega) (by omega)
      have m2 := mono_le f2 (i + 1) k (by omega) (Nat.le_refl _)
      refine ⟨v, by rw [List.getElem?_set_ne (by omega)]; exact a, ?_⟩
      simp only [if_pos (show i ≤ k by omega), if_pos (show i + 1 ≤ k by omega)]
      exact b.same (fun q q1 q2 => by rw [Below.heap_setCell w2 _ _ q (by show q ≠ R; omega)]; exact hb.block q (by omega))
set_option maxRecDepth 20000 in
set_option maxHeartbeats 1000000 in
theorem toLevelS_own (v : Value) (ls : List (List Nd)) (w : World) (hn : LevsAt w v ls) (hl : ls.length ≤ 1048576) (hkl : ∀ l ∈ ls, l.length ≤ 1048576 ∧ ∀ nd ∈ l, nd.kids.length ≤ 1048576) :
    Calls Tryz.prog 34 #[v] w fun e w' => ∃ g, e = .returned (.slice (some ⟨g, 0, none⟩) ls.length ls.length) ∧ LsR w.heap.size w'.heap.size w' g ls.length ls.length ls ∧ w.heap.size ≤ g ∧ Below w.heap.size w w' := by
  obtain ⟨i0, hi, hz0, hz1, hz2⟩ := info_parts Tryz.info111
  obtain ⟨a, cap, rfl, hlc, hcm, hc⟩ := hn
  have HC : Hid (0 < ls.length → ∃ b off, a = some ⟨b, off, none⟩ ∧ ∀ i (h : i < ls.length), ∃ u, w.cell? ⟨b, off + i, none⟩ = some u ∧ NodesAt w u ls[i]) := hc
  have HK := hide hkl
  clear hc hkl
  go_enter Tryz.func34, Tryz.ntmps34
  go_wp2_with (at_make; refine wpList_make_full _ rfl _ _ 54 rfl w.heap.size 111 i0 (.agg #[.slice none 0 0]) 1 Tryz.underlying54 hi hz0 hz1 .i64 .i64 _ _ ls.length rfl rfl rfl rfl (by rw [hz2]; omega) (by unfold maxLen; omega) (Nat.le_refl _) ?_; intro w1 hown hgrow)
  go_loopw [4] (fun i wr => ∃ (k : Nat) (xs : List Value), k ≤ ls.length ∧ i = .int .i64 k ∧ wr.ownsRow w.heap.size 111 1 (.slice (some ⟨w.heap.size, 0, none⟩) ls.length ls.length) ls.length xs ∧ Hid (LevsO wr w.heap.size xs ls k) ∧ w.heap.size < wr.heap.size ∧ Below w.heap.size w wr) (fun i _ => ls.length - (intOf i).toNat)
  case atStart => exact ⟨0, _, by omega, rfl, hown, ⟨fun _ => w.heap.size + 1, Nat.lt_succ_self _, fun _ h => by omega, (hown.lt w.heap.size rfl).2, fun _ _ h => by omega⟩, (hown.lt _ rfl).2, (Below.refl _ _).grown hgrow (Nat.le_refl _) (fun k hk => by cases hk)⟩
  case round =>
    obtain ⟨k, xs, hk, rfl, hownr, HX, hsz, hbel⟩ := hrel
    clear hown hgrow
    by_cases hlt : k < ls.length
    · obtain ⟨b, off, ha, hc⟩ := HC.out (by omega)
      subst ha
      obtain ⟨u, c1, hnu⟩ := hc k hlt
      obtain ⟨hkl1, hkl2⟩ := HK.out ls[k] (by simp)
      have c1' := keep_cell hbel c1
      have HNU := hide (hnu.keep hbel)
      have HKL := hide hkl2
      obtain ⟨ua, uc, rfl, _, _, _⟩ := hnu
      clear hc c1 hkl2
      go_wp2_with fail
      refine (toLevel_own _ ls[k] _ HNU.out hkl1 HKL.out).mono ?_
      rintro e w2 ⟨g, rfl, hfr, hg, hb⟩
      have hown2 := row_keep hb hownr
      have hbel2 : Below w.heap.size w w2 := hbel.trans (hb.mono hbel.size)
      have hxl := hown2.1
      have s1 := (hown2.stored k (.slice (some ⟨g, 0, none⟩) ls[k].length ls[k].length)).1
      have f1 := hown2.frozenAt k
      have e1 := hown2.cellAt k (by omega)
      rw [List.getElem?_eq_getElem (by omega)] at e1
      have hsz2 : w.heap.size < w2.heap.size := by have := hb.size; omega
      have HP := hide (HX.out.put (u := .slice (some ⟨g, 0, none⟩) ls[k].length ls[k].length) (by omega) hlt hb hfr (.slice (some ⟨g, 0, none⟩) ls[k].length ls[k].length))
      clear HX hfr hown2 hownr hb c1'
      go_wp2_with fail
      go_roundw
      case rel => exact ⟨k + 1, _, by omega, by go_num, s1, HP, by simpa [World.setCell] using hsz2, hbel2.setCell (p := ⟨_, _, _⟩) (Nat.le_refl _) _⟩
      case measure => simp [intOf]; omega
    · have hall : LsR w.heap.size wr.heap.size wr w.heap.size ls.length ls.length ls := by
        have hx := HX.out
        rw [show k = ls.length from by omega] at hx
        obtain ⟨f, f1, f2, f3, f4⟩ := hx
        exact ⟨xs, f, hownr, f1, f2, f3, fun i hi => f4 i hi hi⟩
      go_wp2_with fail
      go_ret
      exact ⟨_, rfl, hall, Nat.le_refl _, hbel⟩
set_option maxRecDepth 20000 in
set_option maxHeartbeats 2000000 in
theorem markStringS_any (lo hi g n cap : Nat) (xs0 : List Value) (k : Nat) (w : World) (h : w.ownsRow lo 9 1 (.slice (some ⟨g, 0, none⟩) n cap) n xs0) (hgh : g < hi) (hlo : lo ≤ w.heap.size) (hn : n ≤ 1048576) (hk1 : 1 ≤ k) (hk : k ≤ 50000000) :
    Calls Tryz.prog 38 #[.slice (some ⟨g, 0, none⟩) n cap, .int .i64 k] w fun e w' => e = .returned (.int .i64 ((k + n : Nat) : Int)) ∧ Chg lo hi w w' := by
  have hgl := (h.lt g rfl).1
  have HO := hide h
  clear h
  go_enter Tryz.func38, Tryz.ntmps38
  go_wp2_with fail
  go_loopw [1, 5] (fun m i wr => ∃ (j : Nat) (xs : List Value), j ≤ n ∧ i = .int .i64 j ∧ m = .int .i64 ((k + j : Nat) : Int) ∧ wr.ownsRow lo 9 1 (.slice (some ⟨g, 0, none⟩) n cap) n xs ∧ Hid (Chg lo hi w wr)) (fun _ i _ => n - (intOf i).toNat)
  case atStart => exact ⟨0, _, by omega, rfl, rfl, HO.out, Chg.refl _ _ _⟩
  case round =>
    obtain ⟨j, xs, hj, rfl, rfl, hownr, HC⟩ := hrel
    clear HO
    by_cases hlt : j < n
    · have hlt' : (j : Int) < n := by omega
      obtain ⟨K, hK⟩ : ∃ K, K = k + j := ⟨_, rfl⟩
      have HKE := hide hK
      rw [← hK]
      have hK1 : 1 ≤ K := by omega
      have hK2 : K ≤ 60000000 := by omega
      have HMT := hide (markText_any K wr hK1 (by omega))
      have HOW := hide hownr
      clear hK hownr
      go_wp2_with fail
      refine HMT.out.mono ?_
      rintro e w2 ⟨rfl, hb2⟩
      have hs2 := hb2.size
      have ho2 := row_keep hb2 HOW.out
      have hst := (ho2.stored j (.string (mt K))).1
      have HST := hide hst
      have hfz := ho2.frozenAt j
      have hce := ho2.cellAt j (by omega)
      have hxl := ho2.1
      rw [List.getElem?_eq_getElem (by omega)] at hce
      have HC2 := hide ((HC.out.trans (Chg.of (hi := hi) hb2 (by have := HC.out.1.size; omega))).trans (Chg.set w2 (p := ⟨g, j, none⟩) hgl hgh (.string (mt K))))
      clear hst ho2 hb2 HMT
      go_wp2_with fail
      go_roundw
      case rel => exact ⟨j + 1, _, by omega, by go_num, by have := HKE.out; rw [show k + (j + 1) = K + 1 by omega]; go_num, HST.out, HC2⟩
      case measure => simp [intOf]; omega
    · have hjn : j = n := by omega
      subst hjn
      clear hownr
      go_wp2_with fail
      go_ret
      exact ⟨rfl, HC.out⟩
def costLs : List (List Nd) → Nat
  | [] => 0
  | l :: ls => costN l + costLs ls
theorem costLs_append (a b : List (List Nd)) : costLs (a ++ b) = costLs a + costLs b := by
  induction a with
  | nil => simp [costLs]
  | cons x a ih => simp [costLs, ih]; omega
theorem costLs_snoc (ls : List (List Nd)) (i : Nat) (h : i < ls.length) : costLs (ls.take (i + 1)) = costLs (ls.take i) + costN ls[i] := by
  rw [List.take_succ_eq_append_getElem h, costLs_append]; simp [costLs]
theorem costLs_le (ls : List (List Nd)) (i : Nat) : costLs (ls.take i) ≤ costLs ls := by
  conv => rhs; rw [← List.take_append_drop i ls, costLs_append]
  omega
set_option maxRecDepth 20000 in
set_option maxHeartbeats 4000000 in
theorem markLevelS_any (lo hi R cap : Nat) (ls : List (List Nd)) (k0 : Nat) (w : World) (h : LsR lo hi w R ls.length cap ls) (hhi : hi ≤ w.heap.size) (hkl : ∀ l ∈ ls, l.length ≤ 1048576 ∧ ∀ nd ∈ l, nd.kids.length ≤ 1048576) (hn : ls.length ≤ 1048576) (hk1 : 1 ≤ k0) (hk : k0 + costLs ls ≤ 50000000) :
    Calls Tryz.prog 39 #[.slice (some ⟨R, 0, none⟩) ls.length cap, .int .i64 k0] w fun e w' => e = .returned (.int .i64 ((k0 + costLs ls : Nat) : Int)) ∧ Chg lo hi w w' := by
  obtain ⟨xs, f, h1, h2, h3, h4, h5⟩ := h
  have hRl := h1.lt R rfl
  have HM := hide h3
  have HKL := hide hkl
  have H0 : Hid (∀ i (h : i < ls.length), 0 ≤ i → ∃ v, xs[i]? = some v ∧ NdR (f i) (f (i + 1)) w v ls[i]) := fun i hi _ => h5 i hi
  have HR := hide h1
  clear h3 h5 hkl h1
  go_enter Tryz.func39, Tryz.ntmps39
  go_wp2_with fail
  go_loopw [1, 5] (fun m i wr => ∃ (j K : Nat), j ≤ ls.length ∧ i = .int .i64 j ∧ m = .int .i64 K ∧ Hid (K = k0 + costLs (ls.take j)) ∧ Hid (∀ i (h : i < ls.length), j ≤ i → ∃ v, xs[i]? = some v ∧ NdR (f i) (f (i + 1)) wr v ls[i]) ∧ Hid (Chg (f 0) (f ls.length) w wr)) (fun _ i _ => ls.length - (intOf i).toNat)
  case atStart => exact ⟨0, k0, by omega, rfl, rfl, by show _ = _; simp [costLs], H0, Chg.refl _ _ _⟩
  case round =>
    obtain ⟨j, K, hj, rfl, rfl, HK, HN, HC⟩ := hrel
    clear H0
    have hK1 : 1 ≤ K := by have := HK.out; omega
    have hK2 : K ≤ 50000000 := by have := HK.out; have := costLs_le ls j; omega
    have hm0 := mono_le HM.out 0 ls.length (by omega) (Nat.le_refl _)
    by_cases hlt : j < ls.length
    · have hlt' : (j : Int) < ls.length := by omega
      obtain ⟨v, hv, hnd⟩ := HN.out j hlt (Nat.le_refl _)
      have m1 := mono_le HM.out 0 j (by omega) (by omega)
      have m2 := mono_le HM.out (j + 1) ls.length (by omega) (Nat.le_refl _)
      have m3 := HM.out j hlt
      have hsz := HC.out.1.size
      have hrow : wr.ownsRow lo 111 1 (.slice (some ⟨R, 0, none⟩) ls.length cap) ls.length xs := row_same HR.out (fun g hg => HC.out.out (by simp [Value.ownBlock] at hg; omega) (World.ownsRow.lt HR.out g hg).2)
      have hxl := hrow.1
      have c1 := hrow.cellAt j (by omega)
      rw [hv] at c1
      obtain ⟨hl1, hl2⟩ := HKL.out ls[j] (List.getElem_mem hlt)
      have HCST : Hid (K + costN ls[j] = k0 + costLs (ls.take (j + 1))) := by show _ = _; rw [costLs_snoc ls j hlt]; have := HK.out; omega
      have HCALL := hide (markLNodeS_any (f j) (f (j + 1)) v ls[j] K wr hnd (by omega) hl2 hK1 (by have := HCST.out; have := costLs_le ls (j + 1); omega) hl1)
      obtain ⟨va, vc, hvf⟩ := hnd.form
      subst hvf
      clear hrow hnd hl2
      go_wp2_with fail
      refine HCALL.out.mono ?_
      rintro e w2 ⟨rfl, hn2, hc2⟩
      have HN2 : Hid (∀ i (h : i < ls.length), j + 1 ≤ i → ∃ v, xs[i]? = some v ∧ NdR (f i) (f (i + 1)) w2 v ls[i]) := by
        show ∀ i, _
        intro i hi hji
        obtain ⟨v, a, b⟩ := HN.out i hi (by omega)
        have m4 := mono_le HM.out (j + 1) i (by omega) (by omega)
        have m5 := mono_le HM.out (i + 1) ls.length (by omega) (Nat.le_refl _)
        exact ⟨v, a, b.out hc2 (.inr (by omega)) (by omega)⟩
      have HC2 := hide (HC.out.trans (hc2.mono m1 m2))
      clear hn2 hc2
      generalize costN ls[j] = cj at *
      go_wp2_with fail
      go_roundw
      case rel => exact ⟨j + 1, K + cj, by omega, by go_num, rfl, HCST, HN2, HC2⟩
      case measure => simp [intOf]; omega
    · have hjn : j = ls.length := by omega
      subst hjn
      have HRR : Hid (K = k0 + costLs ls) := by show _ = _; have := HK.out; rwa [List.take_length] at this
      have HC2 := hide (HC.out.mono (lo' := lo) (hi' := hi) (by omega) (by omega))
      go_wp2_with fail
      go_ret
      exact ⟨ret_int (by rw [HRR.out]), HC2.out⟩
end Go.Proofs.YtbgibiongnhjoaaGreat
