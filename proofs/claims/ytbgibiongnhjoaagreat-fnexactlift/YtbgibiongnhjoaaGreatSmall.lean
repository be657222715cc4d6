/- What the copying of a level (toLevel and what it calls) answers: a new level with the same nodes; nothing that was there is written. -/
import Derived.Test.YtbgibiongnhjoaaGreatSz
namespace Go.Proofs.YtbgibiongnhjoaaGreat
open Go.ChangeShapes Go.WideShapes Go.ChangeAt Go.RowKit

theorem Tryz.info3 : (Tryz.prog.info? 3).map (fun i => (i.zero, i.size, i.bytes)) = some (some (.int .i64 0), 1, 8) := by kernel_rfl
theorem Tryz.info174 : (Tryz.prog.info? 174).map (fun i => (i.zero, i.size, i.bytes)) = some (some (.agg #[.int .i64 0, .string ⟨#[]⟩, .slice none 0 0]), 3, 48) := by kernel_rfl

theorem ownsRow_ints {w : World} {base g n cap : Nat} {e : TypeId} {xs : List Value} {ks : List Int} (h : w.ownsRow base e 1 (.slice (some ⟨g, 0, none⟩) n cap) n xs) (hn : n = ks.length) (hx : ∀ j (h : j < ks.length), xs[j]? = some (.int .i64 ks[j])) :
    IntsAt w (.slice (some ⟨g, 0, none⟩) n cap) ks := by
  subst hn
  rcases h.2 with ⟨h', _⟩ | ⟨g', cap', cur, h', _, hg, hnc, hcm, hcs, htake⟩
  · simp at h'
  · simp only [Value.slice.injEq, Option.some.injEq, Addr.mk.injEq, and_true, true_and] at h'
    obtain ⟨rfl, rfl⟩ := h'
    exact ⟨_, _, rfl, hnc, hcm, fun _ => ⟨g, 0, rfl, fun j hj => by rw [Nat.zero_add, h.cellAt j (by omega)]; exact hx j hj⟩⟩

set_option maxHeartbeats 1000000 in
theorem toIntS_any (v : Value) (ks : List Int) (w : World) (hk : IntsAt w v ks) (hl : ks.length ≤ 1048576) :
    Calls Tryz.prog 143 #[v] w fun e w' => ∃ g, e = .returned (.slice (some ⟨g, 0, none⟩) ks.length ks.length) ∧ IntsAt w' (.slice (some ⟨g, 0, none⟩) ks.length ks.length) ks ∧ w.heap.size ≤ g ∧ Below w.heap.size w w' := by
  obtain ⟨i0, hi, hz0, hz1, hz2⟩ := info_parts Tryz.info3
  obtain ⟨a, cap, rfl, hlc, hcm, hc⟩ := hk
  have HC : Hid (0 < ks.length → ∃ b off, a = some ⟨b, off, none⟩ ∧ ∀ j (h : j < ks.length), w.cell? ⟨b, off + j, none⟩ = some (.int .i64 ks[j])) := hc
  clear hc
  go_enter Tryz.func143, Tryz.ntmps143
  go_wp2_with (at_make; refine wpList_make_full _ rfl _ _ 65 rfl w.heap.size 3 i0 (.int .i64 0) 1 Tryz.underlying65 hi hz0 hz1 .i64 .i64 _ _ ks.length rfl rfl rfl rfl (by rw [hz2]; omega) (by unfold maxLen; omega) (Nat.le_refl _) ?_; intro w1 hown hgrow)
  go_loopw [4] (fun i wr => ∃ (k : Nat) (xs : List Value), k ≤ ks.length ∧ i = .int .i64 k ∧ wr.ownsRow w.heap.size 3 1 (.slice (some ⟨w.heap.size, 0, none⟩) ks.length ks.length) ks.length xs ∧ Hid (∀ j (h : j < ks.length), j < k → xs[j]? = some (.int .i64 ks[j])) ∧ Below w.heap.size w wr) (fun i _ => ks.length - (intOf i).toNat)
  case atStart => exact ⟨0, _, by omega, rfl, hown, fun j _ h => by omega, (Below.refl _ _).grown hgrow (Nat.le_refl _) (fun k hk => by cases hk)⟩
  case round =>
    obtain ⟨k, xs, hk, rfl, hownr, HX, hbel⟩ := hrel
    by_cases hlt : k < ks.length
    · obtain ⟨b, off, ha, hc⟩ := HC.out (by omega)
      subst ha
      have c1 := hc k hlt
      have c1' := hbel.cell (p := ⟨b, off + k, none⟩) (lt_cell c1)
      rw [c1] at c1'
      have hst := hownr.stored k (.int .i64 ks[k])
      have hfz := hownr.frozenAt k
      have hce := hownr.cellAt k (by omega)
      have hxl := hownr.1
      obtain ⟨u, hu⟩ : ∃ u, xs[k]? = some u := ⟨xs[k]'(by omega), by simp⟩
      rw [hu] at hce
      have HX2 : Hid (∀ j (h : j < ks.length), j < k + 1 → (xs.set k (.int .i64 ks[k]))[j]? = some (.int .i64 ks[j])) := by
        intro j hj hjk
        rw [List.getElem?_set]
        by_cases e : k = j
        · subst e; rw [if_pos rfl, if_pos (by omega)]
        · rw [if_neg e]; exact HX.out j hj (by omega)
      clear hc c1 hu hown hgrow
      generalize ks[k] = q at *
      go_wp2_with fail
      go_roundw
      case rel => exact ⟨k + 1, _, by omega, by go_num, hst.1, HX2, hbel.setCell (Nat.le_refl _) _⟩
      case measure => simp [intOf]; omega
    · have hints := ownsRow_ints hownr rfl (fun j hj => HX.out j hj (by omega))
      clear hown hgrow hownr
      go_wp2_with fail
      go_ret
      exact ⟨_, rfl, hints, Nat.le_refl _, hbel⟩

theorem cell_set {w : World} {p : Addr} {u : Value} {b o : Nat} (h : b ≠ p.block) : (w.setCell p u).cell? ⟨b, o, none⟩ = w.cell? ⟨b, o, none⟩ :=
  World.cell?_of_block (a := ⟨b, o, none⟩) (Below.heap_setCell w p u b h)
theorem IntsAt.set {w : World} {g n cap : Nat} {ks : List Int} (h : IntsAt w (.slice (some ⟨g, 0, none⟩) n cap) ks) {p : Addr} (hp : g ≠ p.block) (u : Value) : IntsAt (w.setCell p u) (.slice (some ⟨g, 0, none⟩) n cap) ks := by
  obtain ⟨a, c, hv, h1, h2, h3⟩ := h
  refine ⟨a, c, hv, h1, h2, fun h0 => ?_⟩
  obtain ⟨b, off, ha, hc⟩ := h3 h0
  subst ha
  simp only [Value.slice.injEq, Option.some.injEq, Addr.mk.injEq] at hv
  obtain ⟨⟨rfl, _, _⟩, _⟩ := hv
  exact ⟨g, off, rfl, fun j hj => by rw [cell_set hp]; exact hc j hj⟩
theorem IntsAt.cells {w w' : World} {g n cap : Nat} {ks : List Int} (h : IntsAt w (.slice (some ⟨g, 0, none⟩) n cap) ks) (hc : ∀ o, w'.cell? ⟨g, o, none⟩ = w.cell? ⟨g, o, none⟩) : IntsAt w' (.slice (some ⟨g, 0, none⟩) n cap) ks := by
  obtain ⟨a, c, hv, h1, h2, h3⟩ := h
  refine ⟨a, c, hv, h1, h2, fun h0 => ?_⟩
  obtain ⟨b, off, ha, hcc⟩ := h3 h0
  subst ha
  simp only [Value.slice.injEq, Option.some.injEq, Addr.mk.injEq] at hv
  obtain ⟨⟨rfl, _, _⟩, _⟩ := hv
  exact ⟨g, off, rfl, fun j hj => by rw [hc]; exact hcc j hj⟩
/-- A level whose memory lies in the blocks from B on: what is written below B leaves it. -/
def NodesFr (B : Nat) (w : World) (v : Value) (ns : List Nd) : Prop :=
  ∀ w' : World, (∀ b o, B ≤ b → w'.cell? ⟨b, o, none⟩ = w.cell? ⟨b, o, none⟩) → NodesAt w' v ns
theorem NodesFr.at {B : Nat} {w : World} {v : Value} {ns : List Nd} (h : NodesFr B w v ns) : NodesAt w v ns := h w (fun _ _ _ => rfl)
theorem NodesFr.set {B : Nat} {w : World} {v : Value} {ns : List Nd} (h : NodesFr B w v ns) {p : Addr} (hp : p.block < B) (u : Value) : NodesFr B (w.setCell p u) v ns :=
  fun w' hw => h w' (fun b o hb => by rw [hw b o hb, cell_set (by omega)])
theorem NodesFr.mono {B B' : Nat} {w : World} {v : Value} {ns : List Nd} (h : NodesFr B w v ns) (hB : B' ≤ B) : NodesFr B' w v ns :=
  fun w' hw => h w' (fun b o hb => hw b o (by omega))
theorem grown_of {w w' : World} (hb : Below w.heap.size w w') : w.grownBy w' none := ⟨hb.os, hb.tape, hb.output, hb.size, fun k hk _ => hb.block k hk⟩
theorem row_keep {w w' : World} (hb : Below w.heap.size w w') {base : Nat} {e : TypeId} {size : Nat} {v : Value} {n : Nat} {xs : List Value} (h : w.ownsRow base e size v n xs) : w'.ownsRow base e size v n xs :=
  h.kept (grown_of hb) (by cases hv : v.ownBlock <;> simp)
theorem bcell {W w1 : World} (hb : Below W.heap.size W w1) : (∀ b o, b < W.heap.size → w1.cell? ⟨b, o, none⟩ = W.cell? ⟨b, o, none⟩) ∧ (∀ b o, b < W.heap.size → w1.frozen? ⟨b, o, none⟩ = W.frozen? ⟨b, o, none⟩) :=
  ⟨fun b o h => hb.cell (p := ⟨b, o, none⟩) h, fun b o h => hb.frozen (p := ⟨b, o, none⟩) h⟩

set_option maxHeartbeats 1000000 in
theorem toLNode_any (nd : Nd) (kv : Value) (w : World) (hk : IntsAt w kv nd.kids) (hl : nd.kids.length ≤ 1048576) :
    Calls Tryz.prog 163 #[.agg #[.int .i64 nd.k, .string nd.s, kv]] w fun e w' => ∃ g, e = .returned (.agg #[.int .i64 nd.k, .string nd.s, .slice (some ⟨g, 0, none⟩) nd.kids.length nd.kids.length]) ∧ IntsAt w' (.slice (some ⟨g, 0, none⟩) nd.kids.length nd.kids.length) nd.kids ∧ w.heap.size ≤ g ∧ Below w.heap.size w w' := by
  have HK : Hid (∀ o1 o2 o3, IntsAt (((w.alloc o1).alloc o2).alloc o3) kv nd.kids) := fun o1 o2 o3 => hk.keep ((((Below.refl w.heap.size w).alloc (Nat.le_refl _) o1).alloc (by simp) o2).alloc (by simp; omega) o3)
  obtain ⟨a, cap, rfl, hlc, hcm, _⟩ := hk
  go_enter Tryz.func163, Tryz.ntmps163
  go_wp2_with fail
  refine (toIntS_any _ nd.kids _ (HK.out _ _ _) hl).mono ?_
  rintro e w1 ⟨g, rfl, hints, hg, hb⟩
  obtain ⟨hc, hf⟩ := bcell hb
  have hz : w.heap.size + 1 + 1 < w1.heap.size := by have := hb.size; simp at this; omega
  have hbel : Below w.heap.size w w1 := ((((Below.refl w.heap.size w).alloc (Nat.le_refl _) _).alloc (by simp) _).alloc (by simp; omega) _).trans (hb.mono (by simp; omega))
  simp only [World.size_alloc] at hc hf hg
  clear hb
  go_wp2_with fail
  refine bodyPost_ret (v := .agg #[.int .i64 nd.k, .string nd.s, .slice (some ⟨g, 0, none⟩) nd.kids.length nd.kids.length]) (by simp [results, Tryz.results163, go_sem, hc]) rfl ⟨g, rfl, ?_, by omega, ?_⟩
  · exact (((hints.set (p := ⟨_, _, _⟩) (by dsimp only; omega) _).set (p := ⟨_, _, _⟩) (by dsimp only; omega) _).set (p := ⟨_, _, _⟩) (by dsimp only; omega) _).set (p := ⟨_, _, _⟩) (by dsimp only; omega) _
  · exact (((hbel.setCell (p := ⟨_, _, _⟩) (by show _ ≤ w.heap.size + 1 + 1; omega) _).setCell (p := ⟨_, _, _⟩) (by show _ ≤ w.heap.size + 1; omega) _).setCell (p := ⟨_, _, _⟩) (by show _ ≤ w.heap.size + 1; omega) _).setCell (p := ⟨_, _, _⟩) (by show _ ≤ w.heap.size + 1; omega) _

/-- The first k nodes stand in the row R, their kids in rows of their own. -/
def NodesIn (w : World) (R : Nat) (xs : List Value) (ns : List Nd) (k : Nat) : Prop :=
  ∀ i (h : i < ns.length), i < k → xs[i * 3]? = some (.int .i64 ns[i].k) ∧ xs[i * 3 + 1]? = some (.string ns[i].s) ∧ ∃ g, R < g ∧ xs[i * 3 + 2]? = some (.slice (some ⟨g, 0, none⟩) ns[i].kids.length ns[i].kids.length) ∧ IntsAt w (.slice (some ⟨g, 0, none⟩) ns[i].kids.length ns[i].kids.length) ns[i].kids
theorem NodesIn.keep {w w' : World} (hb : Below w.heap.size w w') {R : Nat} {xs : List Value} {ns : List Nd} {k : Nat} (h : NodesIn w R xs ns k) : NodesIn w' R xs ns k := fun i hi hk => by
  obtain ⟨h1, h2, g, h3, h4, h5⟩ := h i hi hk
  exact ⟨h1, h2, g, h3, h4, h5.keep hb⟩
theorem NodesIn.put {w : World} {R : Nat} {xs : List Value} {ns : List Nd} {k g : Nat} (hx : xs.length = ns.length * 3) (h : NodesIn w R xs ns k) (hk : k < ns.length) (hg : R < g) (hints : IntsAt w (.slice (some ⟨g, 0, none⟩) ns[k].kids.length ns[k].kids.length) ns[k].kids) (u1 u2 u3 : Value) :
    NodesIn (((w.setCell ⟨R, k * 3, none⟩ u1).setCell ⟨R, k * 3 + 1, none⟩ u2).setCell ⟨R, k * 3 + 2, none⟩ u3) R (((xs.set (k * 3) (.int .i64 ns[k].k)).set (k * 3 + 1) (.string ns[k].s)).set (k * 3 + 2) (.slice (some ⟨g, 0, none⟩) ns[k].kids.length ns[k].kids.length)) ns (k + 1) := by
  intro i hi hik
  by_cases e : i = k
  · subst e
    refine ⟨?_, ?_, g, hg, ?_, ((hints.set (p := ⟨_, _, _⟩) (by show g ≠ R; omega) _).set (p := ⟨_, _, _⟩) (by show g ≠ R; omega) _).set (p := ⟨_, _, _⟩) (by show g ≠ R; omega) _⟩
    · rw [List.getElem?_set_ne (by omega), List.getElem?_set_ne (by omega), List.getElem?_set_self (by omega)]
    · rw [List.getElem?_set_ne (by omega), List.getElem?_set_self (by simp; omega)]
    · rw [List.getElem?_set_self (by simp; omega)]
  · obtain ⟨h1, h2, g', h3, h4, h5⟩ := h i hi (by omega)
    refine ⟨?_, ?_, g', h3, ?_, ((h5.set (p := ⟨_, _, _⟩) (by show g' ≠ R; omega) _).set (p := ⟨_, _, _⟩) (by show g' ≠ R; omega) _).set (p := ⟨_, _, _⟩) (by show g' ≠ R; omega) _⟩
    · rw [List.getElem?_set_ne (by omega), List.getElem?_set_ne (by omega), List.getElem?_set_ne (by omega)]; exact h1
    · rw [List.getElem?_set_ne (by omega), List.getElem?_set_ne (by omega), List.getElem?_set_ne (by omega)]; exact h2
    · rw [List.getElem?_set_ne (by omega), List.getElem?_set_ne (by omega), List.getElem?_set_ne (by omega)]; exact h4
theorem NodesIn.all {w : World} {base R n cap : Nat} {e : TypeId} {xs : List Value} {ns : List Nd} (h : w.ownsRow base e 3 (.slice (some ⟨R, 0, none⟩) n cap) n xs) (hn : n = ns.length) (hx : NodesIn w R xs ns ns.length) :
    NodesFr R w (.slice (some ⟨R, 0, none⟩) n cap) ns := by
  subst hn
  intro w' hw
  rcases h.2 with ⟨h', _⟩ | ⟨g', cap', cur, h', _, hg, hnc, hcm, hcs, htake⟩
  · simp at h'
  · simp only [Value.slice.injEq, Option.some.injEq, Addr.mk.injEq, and_true, true_and] at h'
    obtain ⟨rfl, rfl⟩ := h'
    refine ⟨_, _, rfl, hnc, hcm, fun _ => ⟨R, 0, rfl, fun i hi => ?_⟩⟩
    obtain ⟨h1, h2, g, h3, h4, h5⟩ := hx i hi hi
    rw [Nat.zero_add]
    exact ⟨by rw [hw _ _ (Nat.le_refl _), h.cellAt _ (by omega)]; exact h1, by rw [hw _ _ (Nat.le_refl _), h.cellAt _ (by omega)]; exact h2, _, by rw [hw _ _ (Nat.le_refl _), h.cellAt _ (by omega)]; exact h4, h5.cells (fun o => hw _ _ (by omega))⟩

set_option maxHeartbeats 1000000 in
theorem toLNodeS_any (v : Value) (ns : List Nd) (w : World) (hn : NodesAt w v ns) (hl : ns.length ≤ 1048576) (hkl : ∀ nd ∈ ns, nd.kids.length ≤ 1048576) :
    Calls Tryz.prog 120 #[v] w fun e w' => ∃ g, e = .returned (.slice (some ⟨g, 0, none⟩) ns.length ns.length) ∧ NodesFr w.heap.size w' (.slice (some ⟨g, 0, none⟩) ns.length ns.length) ns ∧ w.heap.size ≤ g ∧ Below w.heap.size w w' := by
  obtain ⟨i0, hi, hz0, hz1, hz2⟩ := info_parts Tryz.info174
  obtain ⟨a, cap, rfl, hlc, hcm, hc⟩ := hn
  have HC : Hid (0 < ns.length → ∃ b off, a = some ⟨b, off, none⟩ ∧ ∀ i (h : i < ns.length), NodeAt w b (off + i * 3) ns[i]) := hc
  have HK : Hid (∀ nd ∈ ns, nd.kids.length ≤ 1048576) := hkl
  clear hc hkl
  go_enter Tryz.func120, Tryz.ntmps120
  go_wp2_with (at_make; refine wpList_make_full _ rfl _ _ 109 rfl w.heap.size 174 i0 (.agg #[.int .i64 0, .string ⟨#[]⟩, .slice none 0 0]) 3 Tryz.underlying109 hi hz0 hz1 .i64 .i64 _ _ ns.length rfl rfl rfl rfl (by rw [hz2]; omega) (by unfold maxLen; omega) (Nat.le_refl _) ?_; intro w1 hown hgrow)
  go_loopw [4] (fun i wr => ∃ (k : Nat) (xs : List Value), k ≤ ns.length ∧ i = .int .i64 k ∧ wr.ownsRow w.heap.size 174 3 (.slice (some ⟨w.heap.size, 0, none⟩) ns.length ns.length) ns.length xs ∧ Hid (NodesIn wr w.heap.size xs ns k) ∧ w.heap.size < wr.heap.size ∧ Below w.heap.size w wr) (fun i _ => ns.length - (intOf i).toNat)
  case atStart => exact ⟨0, _, by omega, rfl, hown, fun j _ h => by omega, (hown.lt _ rfl).2, (Below.refl _ _).grown hgrow (Nat.le_refl _) (fun k hk => by cases hk)⟩
  case round =>
    obtain ⟨k, xs, hk, rfl, hownr, HX, hsz, hbel⟩ := hrel
    clear hown hgrow
    by_cases hlt : k < ns.length
    · obtain ⟨b, off, ha, hc⟩ := HC.out (by omega)
      subst ha
      obtain ⟨c1, c2, kv, c3, hkv⟩ := hc k hlt
      have hkl := HK.out ns[k] (by simp)
      have c1' := hbel.cell (p := ⟨b, off + k * 3, none⟩) (lt_cell c1)
      have c2' := hbel.cell (p := ⟨b, off + k * 3 + 1, none⟩) (lt_cell c2)
      have c3' := hbel.cell (p := ⟨b, off + k * 3 + 2, none⟩) (lt_cell c3)
      rw [c1] at c1'
      rw [c2] at c2'
      rw [c3] at c3'
      have hkv' := hkv.keep hbel
      clear hc c1 c2 c3 hkv
      go_wp2_with fail
      refine (toLNode_any ns[k] kv _ hkv' hkl).mono ?_
      rintro e w2 ⟨g, rfl, hints, hg, hb⟩
      have hown2 := row_keep hb hownr
      have HX2 : Hid (NodesIn w2 w.heap.size xs ns k) := HX.out.keep hb
      have hbel2 : Below w.heap.size w w2 := hbel.trans (hb.mono hbel.size)
      have hxl := hown2.1
      have hput := HX2.out.put hxl hlt (by omega) hints (.int .i64 ns[k].k) (.string ns[k].s) (.slice (some ⟨g, 0, none⟩) ns[k].kids.length ns[k].kids.length)
      have s1 := (hown2.stored (k * 3) (.int .i64 ns[k].k)).1
      have s2 := (s1.stored (k * 3 + 1) (.string ns[k].s)).1
      have s3 := (s2.stored (k * 3 + 2) (.slice (some ⟨g, 0, none⟩) ns[k].kids.length ns[k].kids.length)).1
      have f1 := hown2.frozenAt (k * 3)
      have f2 := hown2.frozenAt (k * 3 + 1)
      have f3 := hown2.frozenAt (k * 3 + 2)
      have e1 := hown2.cellAt (k * 3) (by omega)
      have e2 := hown2.cellAt (k * 3 + 1) (by omega)
      have e3 := hown2.cellAt (k * 3 + 2) (by omega)
      rw [List.getElem?_eq_getElem (by omega)] at e1 e2 e3
      have hsz2 : w.heap.size < w2.heap.size := by have := hb.size; omega
      have HP : Hid (NodesIn (((w2.setCell ⟨w.heap.size, k * 3, none⟩ (.int .i64 ns[k].k)).setCell ⟨w.heap.size, k * 3 + 1, none⟩ (.string ns[k].s)).setCell ⟨w.heap.size, k * 3 + 2, none⟩ (.slice (some ⟨g, 0, none⟩) ns[k].kids.length ns[k].kids.length)) w.heap.size _ ns (k + 1)) := hput
      clear hput HX2 HX hints hown2 hownr s1 s2 hb c1' c2' c3' hkv'
      go_wp2_with fail
      go_roundw
      case rel => exact ⟨k + 1, _, by omega, by go_num, s3, HP, by simpa [World.setCell] using hsz2, ((hbel2.setCell (p := ⟨_, _, _⟩) (Nat.le_refl _) _).setCell (p := ⟨_, _, _⟩) (Nat.le_refl _) _).setCell (p := ⟨_, _, _⟩) (Nat.le_refl _) _⟩
      case measure => simp [intOf]; omega
    · have hall := NodesIn.all hownr rfl (by have := HX.out; rwa [show k = ns.length from by omega] at this)
      go_wp2_with fail
      go_ret
      exact ⟨_, rfl, hall, Nat.le_refl _, hbel⟩

set_option maxHeartbeats 1000000 in
theorem toLevel_any (v : Value) (ns : List Nd) (w : World) (hn : NodesAt w v ns) (hl : ns.length ≤ 1048576) (hkl : ∀ nd ∈ ns, nd.kids.length ≤ 1048576) :
    Calls Tryz.prog 71 #[.agg #[v]] w fun e w' => ∃ g, e = .returned (.agg #[.slice (some ⟨g, 0, none⟩) ns.length ns.length]) ∧ NodesFr w.heap.size w' (.slice (some ⟨g, 0, none⟩) ns.length ns.length) ns ∧ w.heap.size ≤ g ∧ Below w.heap.size w w' := by
  have HN : Hid (∀ o1 o2 o3, NodesAt (((w.alloc o1).alloc o2).alloc o3) v ns) := fun o1 o2 o3 => hn.keep ((((Below.refl w.heap.size w).alloc (Nat.le_refl _) o1).alloc (by simp) o2).alloc (by simp; omega) o3)
  have HK : Hid (∀ nd ∈ ns, nd.kids.length ≤ 1048576) := hkl
  obtain ⟨a, cap, rfl, hlc, hcm, _⟩ := hn
  clear hkl
  go_enter Tryz.func71, Tryz.ntmps71
  go_wp2_with fail
  refine (toLNodeS_any _ ns _ (HN.out _ _ _) hl HK.out).mono ?_
  rintro e w1 ⟨g, rfl, hnodes, hg, hb⟩
  obtain ⟨hc, hf⟩ := bcell hb
  have hz : w.heap.size + 1 + 1 < w1.heap.size := by have := hb.size; simp at this; omega
  have hbel : Below w.heap.size w w1 := ((((Below.refl w.heap.size w).alloc (Nat.le_refl _) _).alloc (by simp) _).alloc (by simp; omega) _).trans (hb.mono (by simp; omega))
  simp only [World.size_alloc] at hc hf hg
  clear hb
  go_wp2_with fail
  refine bodyPost_ret (v := .agg #[.slice (some ⟨g, 0, none⟩) ns.length ns.length]) (by simp [results, Tryz.results71, go_sem, hc]) rfl ⟨g, rfl, ?_, by omega, ?_⟩
  · exact ((hnodes.set (p := ⟨_, _, _⟩) (by simp) _).set (p := ⟨_, _, _⟩) (by simp) _).mono (by simp; omega)
  · exact (hbel.setCell (p := ⟨_, _, _⟩) (by show _ ≤ w.heap.size + 1 + 1; omega) _).setCell (p := ⟨_, _, _⟩) (by show _ ≤ w.heap.size + 1; omega) _
end Go.Proofs.YtbgibiongnhjoaaGreat

/- What the small functions around LevelOk answer, on both sides: how many kids a kind has, names of parameters, a node's fields, places in lists, equal rows. -/
namespace Go.Proofs.YtbgibiongnhjoaaGreat
open Go.ChangeShapes Go.WideShapes Go.ChangeAt Go.RowKit

set_option maxHeartbeats 400000 in
theorem levelKids_any (k : Int) (w : World) : Calls Tryz.prog 164 #[.int .i64 k] w fun e w' => e = .returned (.int .i64 (kidsN k)) ∧ w' = w := by
  by_cases h1 : k = 1
  · subst h1; go_enter Tryz.func164, Tryz.ntmps164; go_wp2; go_ret; exact ⟨rfl, rfl⟩
  by_cases h5 : k = 5
  · subst h5; go_enter Tryz.func164, Tryz.ntmps164; go_wp2; go_ret; exact ⟨rfl, rfl⟩
  by_cases h2 : k = 2
  · subst h2; go_enter Tryz.func164, Tryz.ntmps164; go_wp2; go_ret; exact ⟨rfl, rfl⟩
  by_cases h3 : k = 3
  · subst h3; go_enter Tryz.func164, Tryz.ntmps164; go_wp2; go_ret; exact ⟨rfl, rfl⟩
  by_cases h4 : k = 4
  · subst h4; go_enter Tryz.func164, Tryz.ntmps164; go_wp2; go_ret; exact ⟨rfl, rfl⟩
  have HK : Hid (kidsN k = -1) := by show _ = _; unfold kidsN; rw [if_neg (by omega), if_neg (by omega), if_neg (by omega)]
  have e1 : (k == 1) = false := beq_eq_false_iff_ne.2 h1
  have e2 : (k == 2) = false := beq_eq_false_iff_ne.2 h2
  have e3 : (k == 3) = false := beq_eq_false_iff_ne.2 h3
  have e4 : (k == 4) = false := beq_eq_false_iff_ne.2 h4
  have e5 : (k == 5) = false := beq_eq_false_iff_ne.2 h5
  clear h1 h2 h3 h4 h5
  go_enter Tryz.func164, Tryz.ntmps164; go_wp2; go_ret; exact ⟨ret_int HK.out.symm, rfl⟩

set_option maxHeartbeats 400000 in
theorem paramNameOk_any (s : ByteArray) (w : World) (hs : s.size ≤ maxLen) : Calls Tryz.prog 193 #[.string s] w fun e w' => e = .returned (.bool (paramB s)) ∧ w' = w := by
  have HP : Hid (paramB s = (shortB s && !(s.toList == [109, 97, 120]) && !(s.toList == [105, 109, 97, 120]))) := rfl
  cases h : shortB s
  all_goals
    rw [h] at HP
    cases h1 : (s.toList == [109, 97, 120])
    all_goals
      rw [h1] at HP
      go_enter Tryz.func193, Tryz.ntmps193
      go_wp2_with (go_at_call 200; refine (implShort_any _ _ hs).mono ?_; rintro e w' ⟨rfl, rfl⟩)
      go_ret
      exact ⟨ret_bool HP.out.symm, rfl⟩
set_option maxHeartbeats 400000 in
theorem l1ParamOk_any (s : ByteArray) (w : World) (hs : s.size ≤ maxLen) : Calls Tryz.prog 159 #[.string s] w fun e w' => e = .returned (.bool (paramB s)) ∧ w' = w := by
  have HP : Hid (paramB s = (shortB s && !(s.toList == [109, 97, 120]) && !(s.toList == [105, 109, 97, 120]))) := rfl
  cases h : shortB s
  all_goals
    rw [h] at HP
    cases h1 : (s.toList == [109, 97, 120])
    all_goals
      rw [h1] at HP
      go_enter Tryz.func159, Tryz.ntmps159
      go_wp2_with (go_at_call 139; refine (specShort_any _ _ hs).mono ?_; rintro e w' ⟨rfl, rfl⟩)
      go_ret
      exact ⟨ret_bool HP.out.symm, rfl⟩
set_option maxHeartbeats 400000 in
theorem levelFieldsOk_any (nd : Nd) (kv : Value) (w : World) (hs : nd.s.size ≤ maxLen) (hk : IntsAt w kv nd.kids) : Calls Tryz.prog 165 #[.agg #[.int .i64 nd.k, .string nd.s, kv]] w fun e w' => e = .returned (.bool (fieldsB nd)) ∧ Below w.heap.size w w' := by
  obtain ⟨a, cap, rfl, _, _, _⟩ := hk
  by_cases h : nd.k = 5
  · have HF : Hid (fieldsB nd = paramB nd.s) := by show _ = _; rw [fieldsB, if_pos h]
    have hq : (nd.k == 5) = true := beq_iff_eq.2 h
    clear h
    go_enter Tryz.func165, Tryz.ntmps165
    go_wp2_with (go_at_call 193; refine (paramNameOk_any _ _ hs).mono ?_; rintro e w' ⟨rfl, rfl⟩)
    go_ret
    exact ⟨ret_bool HF.out.symm, (Below.refl _ _).alloc (Nat.le_refl _) _⟩
  · have HF : Hid (fieldsB nd = nd.s.toList.isEmpty) := by show _ = _; rw [fieldsB, if_neg h]
    have hq : (nd.k == 5) = false := beq_eq_false_iff_ne.2 h
    clear h
    go_enter Tryz.func165, Tryz.ntmps165
    go_wp2_with fail
    go_ret
    exact ⟨ret_bool HF.out.symm, (Below.refl _ _).alloc (Nat.le_refl _) _⟩

set_option maxHeartbeats 1000000 in
theorem equal_any (v1 v2 : Value) (ks1 ks2 : List Int) (w : World) (h1 : IntsAt w v1 ks1) (h2 : IntsAt w v2 ks2) :
    Calls Tryz.prog 184 #[v1, v2] w fun e w' => e = .returned (.bool (decide (ks1 = ks2))) ∧ ∃ n, w' = w.drewN n := by
  obtain ⟨a1, cap1, rfl, hl1, hm1, hc1⟩ := h1
  obtain ⟨a2, cap2, rfl, hl2, hm2, hc2⟩ := h2
  unfold maxLen at hm1 hm2
  by_cases hlen : ks1.length = ks2.length
  · have H1 : Hid (0 < ks1.length → ∃ b off, a1 = some ⟨b, off, none⟩ ∧ ∀ j (h : j < ks1.length), w.cell? ⟨b, off + j, none⟩ = some (.int .i64 ks1[j])) := hc1
    have H2 : Hid (0 < ks2.length → ∃ b off, a2 = some ⟨b, off, none⟩ ∧ ∀ j (h : j < ks2.length), w.cell? ⟨b, off + j, none⟩ = some (.int .i64 ks2[j])) := hc2
    have hq : ((ks1.length : Int) != (ks2.length : Int)) = false := by simp [hlen]
    have HL : Hid (ks1.length = ks2.length) := hlen
    have hle : ks1.length ≤ ks2.length := by omega
    clear hc1 hc2 hlen
    go_enter Tryz.func184, Tryz.ntmps184
    go_wp2_with fail
    go_loopw [13] (fun i wr => ∃ (k : Nat) (n : Nat), k ≤ ks1.length ∧ i = .int .i64 k ∧ wr = w.drewN n ∧ Hid (∀ j (h : j < ks1.length) (h2 : j < ks2.length), j < k → ks1[j] = ks2[j])) (fun i _ => ks1.length - (intOf i).toNat)
    case atStart => exact ⟨0, 0, by omega, rfl, rfl, fun j _ _ h => by omega⟩
    case round =>
      obtain ⟨k, n, hk, rfl, rfl, HA⟩ := hrel
      by_cases hlt : k < ks1.length
      · obtain ⟨b1, o1, rfl, c1⟩ := H1.out (by omega)
        obtain ⟨b2, o2, rfl, c2⟩ := H2.out (by omega)
        have d1 := c1 k hlt
        have d2 := c2 k (by omega)
        have hlt' : (k : Int) < ks1.length := by omega
        have hlt2 : (k : Int) < ks2.length := by omega
        by_cases he : ks1[k] = ks2[k]'(by omega)
        · have hne : (ks1[k] != ks2[k]'(by omega)) = false := by simp [he]
          have HN : Hid (∀ j (h : j < ks1.length) (h2 : j < ks2.length), j < k + 1 → ks1[j] = ks2[j]) := by
            intro j h h2 hj
            by_cases e : j = k
            · subst e; exact he
            · exact HA.out j h h2 (by omega)
          clear c1 c2 H1 H2 he
          go_wp2_with fail
          go_region
          go_wp2_with fail
          go_roundw
          case rel => exact ⟨k + 1, _, by omega, by go_num, rfl, HN⟩
          case measure => simp [intOf]; omega
        · have hne : (ks1[k] != ks2[k]'(by omega)) = true := by simp [he]
          have HN : Hid (decide (ks1 = ks2) = false) := by
            show _ = false
            rw [decide_eq_false_iff_not]; intro e; apply he; subst e; rfl
          clear c1 c2 H1 H2 he
          go_wp2_with fail
          go_region
          go_wp2_with fail
          go_ret
          exact ⟨ret_bool HN.out.symm, _, rfl⟩
      · have HN : Hid (decide (ks1 = ks2) = true) := by
          show _ = true
          rw [decide_eq_true_eq]
          apply List.ext_getElem HL.out
          intro j h h2
          exact HA.out j h h2 (by omega)
        go_wp2_with fail
        go_ret
        exact ⟨ret_bool HN.out.symm, n, rfl⟩
  · have hq : ((ks1.length : Int) != (ks2.length : Int)) = true := by
      rw [bne_iff_ne]; omega
    have HN : Hid (decide (ks1 = ks2) = false) := by
      show _ = false
      rw [decide_eq_false_iff_not]; intro e; apply hlen; rw [e]
    clear hc1 hc2 hlen
    go_enter Tryz.func184, Tryz.ntmps184
    go_wp2_with fail
    go_ret
    exact ⟨ret_bool HN.out.symm, 0, rfl⟩
end Go.Proofs.YtbgibiongnhjoaaGreat
