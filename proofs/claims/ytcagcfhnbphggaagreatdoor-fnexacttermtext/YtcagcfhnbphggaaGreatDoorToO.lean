/- The copies that the laws make of levels, as rows of the call's own: toIntS, toLNode, toLNodeS, toLevel. -/
import Derived.Test.YtcagcfhnbphggaaGreatDoorMkD
import Derived.Test.YtcagcfhnbphggaaGreatDoorTTo
import Derived.Test.YtcagcfhnbphggaaGreatDoorNames
import Derived.Test.YtcagcfhnbphggaaGreatDoorEq
namespace Go.Proofs.YtcagcfhnbphggaaGreatDoor
open Go.ChangeShapes Go.WideShapes Go.ChangeAt Go.RowKit

set_option maxRecDepth 20000 in
set_option maxHeartbeats 1000000 in
theorem toIntS_own (v : Value) (ks : List Int) (w : World) (hk : IntsAt w v ks) (hl : ks.length ≤ 1048576) :
    Calls Tryz.prog 47 #[v] w fun e w' => ∃ g, e = .returned (.slice (some ⟨g, 0, none⟩) ks.length ks.length) ∧ KidRow w.heap.size w' (.slice (some ⟨g, 0, none⟩) ks.length ks.length) ks ∧ w.heap.size ≤ g ∧ Below w.heap.size w w' := by
  obtain ⟨i0, hi, hz0, hz1, hz2⟩ := info_parts Tryz.info3
  obtain ⟨a, cap, rfl, hlc, hcm, hc⟩ := hk
  have HC : Hid (0 < ks.length → ∃ b off, a = some ⟨b, off, none⟩ ∧ ∀ j (h : j < ks.length), w.cell? ⟨b, off + j, none⟩ = some (.int .i64 ks[j])) := hc
  clear hc
  go_enter Tryz.func47, Tryz.ntmps47
  go_wp2_with (at_make; refine wpList_make_full _ rfl _ _ 52 rfl w.heap.size 3 i0 (.int .i64 0) 1 Tryz.underlying52 hi hz0 hz1 .i64 .i64 _ _ ks.length rfl rfl rfl rfl (by rw [hz2]; omega) (by unfold maxLen; omega) (Nat.le_refl _) ?_; intro w1 hown hgrow)
  go_loopw [4] (fun i wr => ∃ (k : Nat) (xs : List Value), k ≤ ks.length ∧ i = .int .i64 k ∧ wr.ownsRow w.heap.size 3 1 (.slice (some ⟨w.heap.size, 0, none⟩) ks.length ks.length) ks.length xs ∧ Hid (∀ j (h : j < ks.length), j < k → xs[j]? = some (.int .i64 ks[j])) ∧ Below w.heap.size w wr) (fun i _ => ks.length - (intOf i).toNat)
  case atStart => exact ⟨0, _, by omega, rfl, hown, fun j _ h => by omega, (Below.refl _ _).grown hgrow (Nat.le_refl _) (fun k hk => by cases hk)⟩
  case round =>
    obtain ⟨k, xs, hk, rfl, hownr, HX, hbel⟩ := hrel
    by_cases hlt : k < ks.length
    · obtain ⟨b, off, ha, hc⟩ := HC.out (by omega)
      subst ha
      have c1 := hc k hlt
      have c1' := hbel.cell (p := ⟨b, off + k, none⟩) (lt_cell c1)
      rw [c1] at c1'
      have hst := hownr.stored k (.int .i64 ks[k])
      have hfz := hownr.frozenAt k
      have hce := hownr.cellAt k (by omega)
      have hxl := hownr.1
      obtain ⟨u, hu⟩ : ∃ u, xs[k]? = some u := ⟨xs[k]'(by omega), by simp⟩
      rw [hu] at hce
      have HX2 : Hid (∀ j (h : j < ks.length), j < k + 1 → (xs.set k (.int .i64 ks[k]))[j]? = some (.int .i64 ks[j])) := by
        intro j hj hjk
        rw [List.getElem?_set]
        by_cases e : k = j
        · subst e; rw [if_pos rfl, if_pos (by omega)]
        · rw [if_neg e]; exact HX.out j hj (by omega)
      clear hc c1 hu hown hgrow
      generalize ks[k] = q at *
      go_wp2_with fail
      go_roundw
      case rel => exact ⟨k + 1, _, by omega, by go_num, hst.1, HX2, hbel.setCell (Nat.le_refl _) _⟩
      case measure => simp [intOf]; omega
    · have hxs : xs = ks.map (Value.int .i64) := by
        refine List.ext_getElem? fun q => ?_
        by_cases hq : q < ks.length
        · rw [HX.out q hq (by omega), List.getElem?_map, List.getElem?_eq_getElem hq]; rfl
        · have h1 := hownr.1
          rw [List.getElem?_eq_none (by omega), List.getElem?_eq_none (by rw [List.length_map]; omega)]
      have hints : KidRow w.heap.size wr (.slice (some ⟨w.heap.size, 0, none⟩) ks.length ks.length) ks := by unfold KidRow; rw [← hxs]; exact hownr
      clear hxs
      clear hown hgrow hownr
      go_wp2_with fail
      go_ret
      exact ⟨_, rfl, hints, Nat.le_refl _, hbel⟩
set_option maxRecDepth 20000 in
set_option maxHeartbeats 1000000 in
theorem toLNode_own (nd : Nd) (kv : Value) (w : World) (hk : IntsAt w kv nd.kids) (hl : nd.kids.length ≤ 1048576) :
    Calls Tryz.prog 94 #[.agg #[.int .i64 nd.k, .string nd.s, kv]] w fun e w' => ∃ g, e = .returned (.agg #[.int .i64 nd.k, .string nd.s, .slice (some ⟨g, 0, none⟩) nd.kids.length nd.kids.length]) ∧ KidRow w.heap.size w' (.slice (some ⟨g, 0, none⟩) nd.kids.length nd.kids.length) nd.kids ∧ w.heap.size ≤ g ∧ Below w.heap.size w w' := by
  have HK : Hid (∀ o1 o2 o3, IntsAt (((w.alloc o1).alloc o2).alloc o3) kv nd.kids) := fun o1 o2 o3 => hk.keep ((((Below.refl w.heap.size w).alloc (Nat.le_refl _) o1).alloc (by simp) o2).alloc (by simp; omega) o3)
  obtain ⟨a, cap, rfl, hlc, hcm, _⟩ := hk
  go_enter Tryz.func94, Tryz.ntmps94
  go_wp2_with fail
  refine (toIntS_own _ nd.kids _ (HK.out _ _ _) hl).mono ?_
  rintro e w1 ⟨g, rfl, hints, hg, hb⟩
  obtain ⟨hc, hf⟩ := bcell hb
  have hz : w.heap.size + 1 + 1 < w1.heap.size := by have := hb.size; simp at this; omega
  have hbel : Below w.heap.size w w1 := ((((Below.refl w.heap.size w).alloc (Nat.le_refl _) _).alloc (by simp) _).alloc (by simp; omega) _).trans (hb.mono (by simp; omega))
  simp only [World.size_alloc] at hc hf hg
  clear hb
  go_wp2_with fail
  refine bodyPost_ret (v := .agg #[.int .i64 nd.k, .string nd.s, .slice (some ⟨g, 0, none⟩) nd.kids.length nd.kids.length]) (by simp [results, Tryz.results94, go_sem, hc]) rfl ⟨g, rfl, ?_, by omega, ?_⟩
  · exact KidRow.mono (own_set (own_set (own_set (own_set hints (p := ⟨_, _, _⟩) (by dsimp only; omega) _) (p := ⟨_, _, _⟩) (by dsimp only; omega) _) (p := ⟨_, _, _⟩) (by dsimp only; omega) _) (p := ⟨_, _, _⟩) (by dsimp only; omega) _) (by simp; omega)
  · exact (((hbel.setCell (p := ⟨_, _, _⟩) (by show _ ≤ w.heap.size + 1 + 1; omega) _).setCell (p := ⟨_, _, _⟩) (by show _ ≤ w.heap.size + 1; omega) _).setCell (p := ⟨_, _, _⟩) (by show _ ≤ w.heap.size + 1; omega) _).setCell (p := ⟨_, _, _⟩) (by show _ ≤ w.heap.size + 1; omega) _
/-- The first k nodes stand in the row R, their kids in rows of their own behind it. -/
def NodesO (base : Nat) (w : World) (R : Nat) (xs : List Value) (ns : List Nd) (k : Nat) : Prop :=
  (∀ i (h : i < ns.length), i < k → xs[i * 3]? = some (.int .i64 ns[i].k) ∧ xs[i * 3 + 1]? = some (.string ns[i].s) ∧ ∃ kv, xs[i * 3 + 2]? = some kv ∧ KidRow base w kv ns[i].kids ∧ ∀ b, kv.ownBlock = some b → R < b) ∧ Apart xs k
theorem NodesO.keep {base : Nat} {w w' : World} (hb : Below w.heap.size w w') {R : Nat} {xs : List Value} {ns : List Nd} {k : Nat} (h : NodesO base w R xs ns k) : NodesO base w' R xs ns k := ⟨fun i hi hk => by
  obtain ⟨a, b, kv, c, d, e⟩ := h.1 i hi hk; exact ⟨a, b, kv, c, d.keep hb, e⟩, h.2⟩
theorem NodesO.put {base : Nat} {w w0 : World} {R : Nat} {xs : List Value} {ns : List Nd} {k g : Nat} (hx : xs.length = ns.length * 3) (h : NodesO base w R xs ns k) (hk : k < ns.length) (hg : R < g) (hnew : ∀ i, i < ns.length → i < k → ∀ kv b, xs[i * 3 + 2]? = some kv → kv.ownBlock = some b → b < g) (hints : KidRow base w (.slice (some ⟨g, 0, none⟩) ns[k].kids.length ns[k].kids.length) ns[k].kids) (hw : ∀ b, b ≠ R → w0.heap[b]? = w.heap[b]?) :
    NodesO base w0 R (((xs.set (k * 3) (.int .i64 ns[k].k)).set (k * 3 + 1) (.string ns[k].s)).set (k * 3 + 2) (.slice (some ⟨g, 0, none⟩) ns[k].kids.length ns[k].kids.length)) ns (k + 1) := by
  refine ⟨fun i hi hik => ?_, fun p q hp hq hpq kv1 kv2 b c1 c2 o1 o2 => ?_⟩
  · by_cases e : i = k
    · subst e
      refine ⟨?_, ?_, .slice (some ⟨g, 0, none⟩) ns[i].kids.length ns[i].kids.length, ?_, row_same hints (fun q hq => hw q (by simp [Value.ownBlock] at hq; omega)), fun b hb => by simp [Value.ownBlock] at hb; omega⟩
      · rw [List.getElem?_set_ne (by omega), List.getElem?_set_ne (by omega), List.getElem?_set_self (by omega)]
      · rw [List.getElem?_set_ne (by omega), List.getElem?_set_self (by rw [List.length_set]; omega)]
      · rw [List.getElem?_set_self (by rw [List.length_set, List.length_set]; omega)]
    · obtain ⟨a, b, kv, c, d, f⟩ := h.1 i hi (by omega)
      refine ⟨?_, ?_, kv, ?_, row_same d (fun q hq => hw q (by have := f q hq; omega)), f⟩
      · rw [List.getElem?_set_ne (by omega), List.getElem?_set_ne (by omega), List.getElem?_set_ne (by omega)]; exact a
      · rw [List.getElem?_set_ne (by omega), List.getElem?_set_ne (by omega), List.getElem?_set_ne (by omega)]; exact b
      · rw [List.getElem?_set_ne (by omega), List.getElem?_set_ne (by omega), List.getElem?_set_ne (by omega)]; exact c
  · have hold : ∀ i, i < k → (((xs.set (k * 3) (.int .i64 ns[k].k)).set (k * 3 + 1) (.string ns[k].s)).set (k * 3 + 2) (.slice (some ⟨g, 0, none⟩) ns[k].kids.length ns[k].kids.length))[i * 3 + 2]? = xs[i * 3 + 2]? := fun i hi => by
      rw [List.getElem?_set_ne (by omega), List.getElem?_set_ne (by omega), List.getElem?_set_ne (by omega)]
    have hnewv : (((xs.set (k * 3) (.int .i64 ns[k].k)).set (k * 3 + 1) (.string ns[k].s)).set (k * 3 + 2) (.slice (some ⟨g, 0, none⟩) ns[k].kids.length ns[k].kids.length))[k * 3 + 2]? = some (.slice (some ⟨g, 0, none⟩) ns[k].kids.length ns[k].kids.length) := by
      rw [List.getElem?_set_self (by rw [List.length_set, List.length_set]; omega)]
    by_cases ep : p < k
    · rw [hold p ep] at c1
      by_cases eq : q < k
      · rw [hold q eq] at c2
        exact h.2 p q ep eq hpq kv1 kv2 b c1 c2 o1 o2
      · obtain rfl : q = k := by omega
        rw [hnewv] at c2
        obtain rfl := Option.some.inj c2
        have := hnew p (by omega) ep kv1 b c1 o1
        simp [Value.ownBlock] at o2
        omega
    · obtain rfl : p = k := by omega
      rw [hnewv] at c1
      obtain rfl := Option.some.inj c1
      rw [hold q (by omega)] at c2
      have := hnew q (by omega) (by omega) kv2 b c2 o2
      simp [Value.ownBlock] at o1
      omega
set_option maxRecDepth 20000 in
set_option maxHeartbeats 1000000 in
theorem toLNodeS_own (v : Value) (ns : List Nd) (w : World) (hn : NodesAt w v ns) (hl : ns.length ≤ 1048576) (hkl : ∀ nd ∈ ns, nd.kids.length ≤ 1048576) :
    Calls Tryz.prog 82 #[v] w fun e w' => ∃ g, e = .returned (.slice (some ⟨g, 0, none⟩) ns.length ns.length) ∧ NdW w.heap.size w' (.slice (some ⟨g, 0, none⟩) ns.length ns.length) ns ∧ w.heap.size ≤ g ∧ Below w.heap.size w w' := by
  obtain ⟨i0, hi, hz0, hz1, hz2⟩ := info_parts Tryz.info117
  obtain ⟨a, cap, rfl, hlc, hcm, hc⟩ := hn
  have HC : Hid (0 < ns.length → ∃ b off, a = some ⟨b, off, none⟩ ∧ ∀ i (h : i < ns.length), NodeAt w b (off + i * 3) ns[i]) := hc
  have HK : Hid (∀ nd ∈ ns, nd.kids.length ≤ 1048576) := hkl
  clear hc hkl
  go_enter Tryz.func82, Tryz.ntmps82
  go_wp2_with (at_make; refine wpList_make_full _ rfl _ _ 92 rfl w.heap.size 117 i0 (.agg #[.int .i64 0, .string ⟨#[]⟩, .slice none 0 0]) 3 Tryz.underlying92 hi hz0 hz1 .i64 .i64 _ _ ns.length rfl rfl rfl rfl (by rw [hz2]; omega) (by unfold maxLen; omega) (Nat.le_refl _) ?_; intro w1 hown hgrow)
  go_loopw [4] (fun i wr => ∃ (k : Nat) (xs : List Value), k ≤ ns.length ∧ i = .int .i64 k ∧ wr.ownsRow w.heap.size 117 3 (.slice (some ⟨w.heap.size, 0, none⟩) ns.length ns.length) ns.length xs ∧ Hid (NodesO w.heap.size wr w.heap.size xs ns k) ∧ w.heap.size < wr.heap.size ∧ Below w.heap.size w wr) (fun i _ => ns.length - (intOf i).toNat)
  case atStart => exact ⟨0, _, by omega, rfl, hown, ⟨fun j _ h => by omega, fun i j h => by omega⟩, (hown.lt _ rfl).2, (Below.refl _ _).grown hgrow (Nat.le_refl _) (fun k hk => by cases hk)⟩
  case round =>
    obtain ⟨k, xs, hk, rfl, hownr, HX, hsz, hbel⟩ := hrel
    clear hown hgrow
    by_cases hlt : k < ns.length
    · obtain ⟨b, off, ha, hc⟩ := HC.out (by omega)
      subst ha
      obtain ⟨c1, c2, kv, c3, hkv⟩ := hc k hlt
      have hkl := HK.out ns[k] (by simp)
      have c1' := hbel.cell (p := ⟨b, off + k * 3, none⟩) (lt_cell c1)
      have c2' := hbel.cell (p := ⟨b, off + k * 3 + 1, none⟩) (lt_cell c2)
      have c3' := hbel.cell (p := ⟨b, off + k * 3 + 2, none⟩) (lt_cell c3)
      rw [c1] at c1'
      rw [c2] at c2'
      rw [c3] at c3'
      have hkv' := hkv.keep hbel
      clear hc c1 c2 c3 hkv
      go_wp2_with fail
      refine (toLNode_own ns[k] kv _ hkv' hkl).mono ?_
      rintro e w2 ⟨g, rfl, hints, hg, hb⟩
      have hown2 := row_keep hb hownr
      have HX2 := hide (HX.out.keep hb)
      have hbel2 : Below w.heap.size w w2 := hbel.trans (hb.mono hbel.size)
      have hxl := hown2.1
      have hput := HX2.out.put (w0 := ((w2.setCell ⟨w.heap.size, k * 3, none⟩ (.int .i64 ns[k].k)).setCell ⟨w.heap.size, k * 3 + 1, none⟩ (.string ns[k].s)).setCell ⟨w.heap.size, k * 3 + 2, none⟩ (.slice (some ⟨g, 0, none⟩) ns[k].kids.length ns[k].kids.length)) hxl hlt (by omega) (fun i hi hik kv b hx hb2 => by
        obtain ⟨_, _, kv2, c, d, _⟩ := HX.out.1 i hi hik
        rw [c] at hx
        obtain rfl := Option.some.inj hx
        have := (World.ownsRow.lt d b hb2).2
        omega) (hints.mono hbel.size) (fun b hb2 => by rw [Below.heap_setCell _ _ _ _ hb2, Below.heap_setCell _ _ _ _ hb2, Below.heap_setCell _ _ _ _ hb2])
      have s1 := (hown2.stored (k * 3) (.int .i64 ns[k].k)).1
      have s2 := (s1.stored (k * 3 + 1) (.string ns[k].s)).1
      have s3 := (s2.stored (k * 3 + 2) (.slice (some ⟨g, 0, none⟩) ns[k].kids.length ns[k].kids.length)).1
      have f1 := hown2.frozenAt (k * 3)
      have f2 := hown2.frozenAt (k * 3 + 1)
      have f3 := hown2.frozenAt (k * 3 + 2)
      have e1 := hown2.cellAt (k * 3) (by omega)
      have e2 := hown2.cellAt (k * 3 + 1) (by omega)
      have e3 := hown2.cellAt (k * 3 + 2) (by omega)
      rw [List.getElem?_eq_getElem (by omega)] at e1 e2 e3
      have hsz2 : w.heap.size < w2.heap.size := by have := hb.size; omega
      have HP := hide hput
      clear hput HX2 HX hints hown2 hownr s1 s2 hb c1' c2' c3' hkv'
      go_wp2_with fail
      go_roundw
      case rel => exact ⟨k + 1, _, by omega, by go_num, s3, HP, by simpa [World.setCell] using hsz2, ((hbel2.setCell (p := ⟨_, _, _⟩) (Nat.le_refl _) _).setCell (p := ⟨_, _, _⟩) (Nat.le_refl _) _).setCell (p := ⟨_, _, _⟩) (Nat.le_refl _) _⟩
      case measure => simp [intOf]; omega
    · have hall : NdW w.heap.size wr (.slice (some ⟨w.heap.size, 0, none⟩) ns.length ns.length) ns := by
        have hx := HX.out
        rw [show k = ns.length from by omega] at hx
        refine ⟨xs, hownr, fun i hi => ?_, hx.2⟩
        obtain ⟨a, b, kv, c, d, _⟩ := hx.1 i hi hi
        exact ⟨a, b, kv, c, d⟩
      go_wp2_with fail
      go_ret
      exact ⟨_, rfl, hall, Nat.le_refl _, hbel⟩
theorem NdW.low {base : Nat} {w : World} {v : Value} {ns : List Nd} (h : NdW base w v ns) {p : Addr} (hp : p.block < base) (u : Value) : NdW base (w.setCell p u) v ns := by
  obtain ⟨xs, h1, h2, h3⟩ := h
  refine ⟨xs, row_same h1 (fun g hg => Below.heap_setCell w p u g (by have := (World.ownsRow.lt h1 g hg).1; omega)), fun i hi => ?_, h3⟩
  obtain ⟨a, b, kv, c, d⟩ := h2 i hi
  exact ⟨a, b, kv, c, row_same d (fun g hg => Below.heap_setCell w p u g (by have := (World.ownsRow.lt d g hg).1; omega))⟩
set_option maxRecDepth 20000 in
set_option maxHeartbeats 1000000 in
theorem toLevel_own (v : Value) (ns : List Nd) (w : World) (hn : NodesAt w v ns) (hl : ns.length ≤ 1048576) (hkl : ∀ nd ∈ ns, nd.kids.length ≤ 1048576) :
    Calls Tryz.prog 68 #[.agg #[v]] w fun e w' => ∃ g, e = .returned (.agg #[.slice (some ⟨g, 0, none⟩) ns.length ns.length]) ∧ NdW w.heap.size w' (.slice (some ⟨g, 0, none⟩) ns.length ns.length) ns ∧ w.heap.size ≤ g ∧ Below w.heap.size w w' := by
  have HN : Hid (∀ o1 o2 o3, NodesAt (((w.alloc o1).alloc o2).alloc o3) v ns) := fun o1 o2 o3 => hn.keep ((((Below.refl w.heap.size w).alloc (Nat.le_refl _) o1).alloc (by simp) o2).alloc (by simp; omega) o3)
  have HK : Hid (∀ nd ∈ ns, nd.kids.length ≤ 1048576) := hkl
  obtain ⟨a, cap, rfl, hlc, hcm, _⟩ := hn
  clear hkl
  go_enter Tryz.func68, Tryz.ntmps68
  go_wp2_with fail
  refine (toLNodeS_own _ ns _ (HN.out _ _ _) hl HK.out).mono ?_
  rintro e w1 ⟨g, rfl, hnodes, hg, hb⟩
  obtain ⟨hc, hf⟩ := bcell hb
  have hz : w.heap.size + 1 + 1 < w1.heap.size := by have := hb.size; simp at this; omega
  have hbel : Below w.heap.size w w1 := ((((Below.refl w.heap.size w).alloc (Nat.le_refl _) _).alloc (by simp) _).alloc (by simp; omega) _).trans (hb.mono (by simp; omega))
  simp only [World.size_alloc] at hc hf hg
  clear hb
  go_wp2_with fail
  refine bodyPost_ret (v := .agg #[.slice (some ⟨g, 0, none⟩) ns.length ns.length]) (by simp [results, Tryz.results68, go_sem, hc]) rfl ⟨g, rfl, ?_, by omega, ?_⟩
  · exact ((hnodes.low (p := ⟨_, _, _⟩) (by simp) _).low (p := ⟨_, _, _⟩) (by simp) _).mono (by simp; omega)
  · exact (hbel.setCell (p := ⟨_, _, _⟩) (by show _ ≤ w.heap.size + 1 + 1; omega) _).setCell (p := ⟨_, _, _⟩) (by show _ ≤ w.heap.size + 1; omega) _
end Go.Proofs.YtcagcfhnbphggaaGreatDoor
