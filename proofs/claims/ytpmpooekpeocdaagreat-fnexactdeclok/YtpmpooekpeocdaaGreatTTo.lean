/- What the copying of a term (toTerm and what it calls) answers: a new term with the same nodes; nothing that was there is written. -/
import Derived.Test.YtpmpooekpeocdaaGreatTSz
namespace Go.Proofs.YtpmpooekpeocdaaGreat
open Go.ChangeShapes Go.WideShapes Go.ChangeAt Go.RowKit

/-- What holds in every world that keeps the cells of the blocks from B on. -/
def Fr (B : Nat) (w : World) (P : World → Prop) : Prop := ∀ w' : World, (∀ b o v, B ≤ b → w.cell? ⟨b, o, none⟩ = some v → w'.cell? ⟨b, o, none⟩ = some v) → P w'
theorem Fr.at {B : Nat} {w : World} {P : World → Prop} (h : Fr B w P) : P w := h w (fun _ _ _ _ h => h)
theorem Fr.set {B : Nat} {w : World} {P : World → Prop} (h : Fr B w P) {p : Addr} (hp : p.block < B) (u : Value) : Fr B (w.setCell p u) P :=
  fun w' hw => h w' (fun b o v hb hv => hw b o v hb (by rw [cell_set (by omega)]; exact hv))
theorem Fr.mono {B B' : Nat} {w : World} {P : World → Prop} (h : Fr B w P) (hB : B' ≤ B) : Fr B' w P := fun w' hw => h w' (fun b o v hb => hw b o v (by omega))
theorem Fr.keep {B : Nat} {w w' : World} {P : World → Prop} (h : Fr B w P) (hb : Below w.heap.size w w') : Fr B w' P := fun w2 hw => h w2 (fun b o v hB hv => hw b o v hB (keep_cell hb hv))
abbrev LvFr (B : Nat) (w : World) (v : Value) (ns : List Nd) : Prop := Fr B w (fun w => NodesAt w v ns)
theorem IntsAt.some {w w' : World} {g n cap : Nat} {ks : List Int} (h : IntsAt w (.slice (some ⟨g, 0, none⟩) n cap) ks) (hc : ∀ o u, w.cell? ⟨g, o, none⟩ = some u → w'.cell? ⟨g, o, none⟩ = some u) : IntsAt w' (.slice (some ⟨g, 0, none⟩) n cap) ks := by
  obtain ⟨a, c, hv, h1, h2, h3⟩ := h
  refine ⟨a, c, hv, h1, h2, fun h0 => ?_⟩
  obtain ⟨b, off, ha, hcc⟩ := h3 h0
  subst ha
  simp only [Value.slice.injEq, Option.some.injEq, Addr.mk.injEq] at hv
  obtain ⟨⟨rfl, _, _⟩, _⟩ := hv
  exact ⟨g, off, rfl, fun j hj => hc _ _ (hcc j hj)⟩
theorem NodesIn.fr {w : World} {base R n cap : Nat} {e : TypeId} {xs : List Value} {ns : List Nd} (h : w.ownsRow base e 3 (.slice (some ⟨R, 0, none⟩) n cap) n xs) (hn : n = ns.length) (hx : NodesIn w R xs ns ns.length) :
    LvFr R w (.slice (some ⟨R, 0, none⟩) n cap) ns := by
  subst hn
  intro w' hw
  rcases h.2 with ⟨h', _⟩ | ⟨g', cap', cur, h', _, hg, hnc, hcm, hcs, htake⟩
  · simp at h'
  · simp only [Value.slice.injEq, Option.some.injEq, Addr.mk.injEq, and_true, true_and] at h'
    obtain ⟨rfl, rfl⟩ := h'
    refine ⟨_, _, rfl, hnc, hcm, fun _ => ⟨R, 0, rfl, fun i hi => ?_⟩⟩
    obtain ⟨h1, h2, g, h3, h4, h5⟩ := hx i hi hi
    rw [Nat.zero_add]
    exact ⟨hw _ _ _ (Nat.le_refl _) (by rw [h.cellAt _ (by omega)]; exact h1), hw _ _ _ (Nat.le_refl _) (by rw [h.cellAt _ (by omega)]; exact h2), _, hw _ _ _ (Nat.le_refl _) (by rw [h.cellAt _ (by omega)]; exact h4), h5.some (fun o u => hw _ _ u (by omega))⟩

set_option maxHeartbeats 1000000 in
theorem toLNodeS_fr (v : Value) (ns : List Nd) (w : World) (hn : NodesAt w v ns) (hl : ns.length ≤ 1048576) (hkl : ∀ nd ∈ ns, nd.kids.length ≤ 1048576) :
    Calls Tryz.prog 209 #[v] w fun e w' => ∃ g, e = .returned (.slice (some ⟨g, 0, none⟩) ns.length ns.length) ∧ LvFr w.heap.size w' (.slice (some ⟨g, 0, none⟩) ns.length ns.length) ns ∧ w.heap.size ≤ g ∧ Below w.heap.size w w' := by
  obtain ⟨i0, hi, hz0, hz1, hz2⟩ := info_parts Tryz.info243
  obtain ⟨a, cap, rfl, hlc, hcm, hc⟩ := hn
  have HC : Hid (0 < ns.length → ∃ b off, a = some ⟨b, off, none⟩ ∧ ∀ i (h : i < ns.length), NodeAt w b (off + i * 3) ns[i]) := hc
  have HK : Hid (∀ nd ∈ ns, nd.kids.length ≤ 1048576) := hkl
  clear hc hkl
  go_enter Tryz.func209, Tryz.ntmps209
  go_wp2_with (at_make; refine wpList_make_full _ rfl _ _ 198 rfl w.heap.size 243 i0 (.agg #[.int .i64 0, .string ⟨#[]⟩, .slice none 0 0]) 3 Tryz.underlying198 hi hz0 hz1 .i64 .i64 _ _ ns.length rfl rfl rfl rfl (by rw [hz2]; omega) (by unfold maxLen; omega) (Nat.le_refl _) ?_; intro w1 hown hgrow)
  go_loopw [4] (fun i wr => ∃ (k : Nat) (xs : List Value), k ≤ ns.length ∧ i = .int .i64 k ∧ wr.ownsRow w.heap.size 243 3 (.slice (some ⟨w.heap.size, 0, none⟩) ns.length ns.length) ns.length xs ∧ Hid (NodesIn wr w.heap.size xs ns k) ∧ w.heap.size < wr.heap.size ∧ Below w.heap.size w wr) (fun i _ => ns.length - (intOf i).toNat)
  case atStart => exact ⟨0, _, by omega, rfl, hown, fun j _ h => by omega, (hown.lt _ rfl).2, (Below.refl _ _).grown hgrow (Nat.le_refl _) (fun k hk => by cases hk)⟩
  case round =>
    obtain ⟨k, xs, hk, rfl, hownr, HX, hsz, hbel⟩ := hrel
    clear hown hgrow
    by_cases hlt : k < ns.length
    · obtain ⟨b, off, ha, hc⟩ := HC.out (by omega)
      subst ha
      obtain ⟨c1, c2, kv, c3, hkv⟩ := hc k hlt
      have hkl := HK.out ns[k] (by simp)
      have c1' := hbel.cell (p := ⟨b, off + k * 3, none⟩) (lt_cell c1)
      have c2' := hbel.cell (p := ⟨b, off + k * 3 + 1, none⟩) (lt_cell c2)
      have c3' := hbel.cell (p := ⟨b, off + k * 3 + 2, none⟩) (lt_cell c3)
      rw [c1] at c1'
      rw [c2] at c2'
      rw [c3] at c3'
      have hkv' := hkv.keep hbel
      clear hc c1 c2 c3 hkv
      go_wp2_with fail
      refine (toLNode_any ns[k] kv _ hkv' hkl).mono ?_
      rintro e w2 ⟨g, rfl, hints, hg, hb⟩
      have hown2 := row_keep hb hownr
      have HX2 : Hid (NodesIn w2 w.heap.size xs ns k) := HX.out.keep hb
      have hbel2 : Below w.heap.size w w2 := hbel.trans (hb.mono hbel.size)
      have hxl := hown2.1
      have hput := HX2.out.put hxl hlt (by omega) hints (.int .i64 ns[k].k) (.string ns[k].s) (.slice (some ⟨g, 0, none⟩) ns[k].kids.length ns[k].kids.length)
      have s1 := (hown2.stored (k * 3) (.int .i64 ns[k].k)).1
      have s2 := (s1.stored (k * 3 + 1) (.string ns[k].s)).1
      have s3 := (s2.stored (k * 3 + 2) (.slice (some ⟨g, 0, none⟩) ns[k].kids.length ns[k].kids.length)).1
      have f1 := hown2.frozenAt (k * 3)
      have f2 := hown2.frozenAt (k * 3 + 1)
      have f3 := hown2.frozenAt (k * 3 + 2)
      have e1 := hown2.cellAt (k * 3) (by omega)
      have e2 := hown2.cellAt (k * 3 + 1) (by omega)
      have e3 := hown2.cellAt (k * 3 + 2) (by omega)
      rw [List.getElem?_eq_getElem (by omega)] at e1 e2 e3
      have hsz2 : w.heap.size < w2.heap.size := by have := hb.size; omega
      have HP : Hid (NodesIn (((w2.setCell ⟨w.heap.size, k * 3, none⟩ (.int .i64 ns[k].k)).setCell ⟨w.heap.size, k * 3 + 1, none⟩ (.string ns[k].s)).setCell ⟨w.heap.size, k * 3 + 2, none⟩ (.slice (some ⟨g, 0, none⟩) ns[k].kids.length ns[k].kids.length)) w.heap.size _ ns (k + 1)) := hput
      clear hput HX2 HX hints hown2 hownr s1 s2 hb c1' c2' c3' hkv'
      go_wp2_with fail
      go_roundw
      case rel => exact ⟨k + 1, _, by omega, by go_num, s3, HP, by simpa [World.setCell] using hsz2, ((hbel2.setCell (p := ⟨_, _, _⟩) (Nat.le_refl _) _).setCell (p := ⟨_, _, _⟩) (Nat.le_refl _) _).setCell (p := ⟨_, _, _⟩) (Nat.le_refl _) _⟩
      case measure => simp [intOf]; omega
    · have hall := NodesIn.fr hownr rfl (by have := HX.out; rwa [show k = ns.length from by omega] at this)
      go_wp2_with fail
      go_ret
      exact ⟨_, rfl, hall, Nat.le_refl _, hbel⟩

set_option maxHeartbeats 1000000 in
theorem toLevel_fr (v : Value) (ns : List Nd) (w : World) (hn : NodesAt w v ns) (hl : ns.length ≤ 1048576) (hkl : ∀ nd ∈ ns, nd.kids.length ≤ 1048576) :
    Calls Tryz.prog 177 #[.agg #[v]] w fun e w' => ∃ g, e = .returned (.agg #[.slice (some ⟨g, 0, none⟩) ns.length ns.length]) ∧ LvFr w.heap.size w' (.slice (some ⟨g, 0, none⟩) ns.length ns.length) ns ∧ w.heap.size ≤ g ∧ Below w.heap.size w w' := by
  have HN : Hid (∀ o1 o2 o3, NodesAt (((w.alloc o1).alloc o2).alloc o3) v ns) := fun o1 o2 o3 => hn.keep ((((Below.refl w.heap.size w).alloc (Nat.le_refl _) o1).alloc (by simp) o2).alloc (by simp; omega) o3)
  have HK : Hid (∀ nd ∈ ns, nd.kids.length ≤ 1048576) := hkl
  obtain ⟨a, cap, rfl, hlc, hcm, _⟩ := hn
  clear hkl
  go_enter Tryz.func177, Tryz.ntmps177
  go_wp2_with fail
  refine (toLNodeS_fr _ ns _ (HN.out _ _ _) hl HK.out).mono ?_
  rintro e w1 ⟨g, rfl, hnodes, hg, hb⟩
  obtain ⟨hc, hf⟩ := bcell hb
  have hz : w.heap.size + 1 + 1 < w1.heap.size := by have := hb.size; simp at this; omega
  have hbel : Below w.heap.size w w1 := ((((Below.refl w.heap.size w).alloc (Nat.le_refl _) _).alloc (by simp) _).alloc (by simp; omega) _).trans (hb.mono (by simp; omega))
  simp only [World.size_alloc] at hc hf hg
  clear hb
  go_wp2_with fail
  refine bodyPost_ret (v := .agg #[.slice (some ⟨g, 0, none⟩) ns.length ns.length]) (by simp [results, Tryz.results177, go_sem, hc]) rfl ⟨g, rfl, ?_, by omega, ?_⟩
  · exact ((hnodes.set (p := ⟨_, _, _⟩) (by simp) _).set (p := ⟨_, _, _⟩) (by simp) _).mono (by simp; omega)
  · exact (hbel.setCell (p := ⟨_, _, _⟩) (by show _ ≤ w.heap.size + 1 + 1; omega) _).setCell (p := ⟨_, _, _⟩) (by show _ ≤ w.heap.size + 1; omega) _

theorem Tryz.info200 : (Tryz.prog.info? 200).map (fun i => (i.zero, i.size, i.bytes)) = some (some (.agg #[.slice none 0 0]), 1, 24) := by kernel_rfl
/-- The first k levels stand in the row R, their nodes in blocks behind it. -/
def LevsIn (w : World) (R : Nat) (xs : List Value) (ls : List (List Nd)) (k : Nat) : Prop :=
  ∀ i (h : i < ls.length), i < k → ∃ u, xs[i]? = some u ∧ LvFr (R + 1) w u ls[i]
theorem LevsIn.keep {w w' : World} (hb : Below w.heap.size w w') {R : Nat} {xs : List Value} {ls : List (List Nd)} {k : Nat} (h : LevsIn w R xs ls k) : LevsIn w' R xs ls k := fun i hi hk => by
  obtain ⟨u, h1, h2⟩ := h i hi hk
  exact ⟨u, h1, h2.keep hb⟩
theorem LevsIn.put {w : World} {R : Nat} {xs : List Value} {ls : List (List Nd)} {k : Nat} {u : Value} (hx : xs.length = ls.length) (h : LevsIn w R xs ls k) (hk : k < ls.length) (hu : LvFr (R + 1) w u ls[k]) (u1 : Value) : LevsIn (w.setCell ⟨R, k, none⟩ u1) R (xs.set k u) ls (k + 1) := by
  intro i hi hik
  by_cases e : i = k
  · subst e; exact ⟨u, by rw [List.getElem?_set_self (by omega)], hu.set (by dsimp only; omega) _⟩
  · obtain ⟨u', h1, h2⟩ := h i hi (by omega)
    exact ⟨u', by rw [List.getElem?_set_ne (by omega)]; exact h1, h2.set (by dsimp only; omega) _⟩
theorem LevsIn.fr {w : World} {base R n cap : Nat} {e : TypeId} {xs : List Value} {ls : List (List Nd)} (h : w.ownsRow base e 1 (.slice (some ⟨R, 0, none⟩) n cap) n xs) (hn : n = ls.length) (hx : LevsIn w R xs ls ls.length) :
    Fr R w (fun w => LevsAt w (.slice (some ⟨R, 0, none⟩) n cap) ls) := by
  subst hn
  intro w' hw
  rcases h.2 with ⟨h', _⟩ | ⟨g', cap', cur, h', _, hg, hnc, hcm, hcs, htake⟩
  · simp at h'
  · simp only [Value.slice.injEq, Option.some.injEq, Addr.mk.injEq, and_true, true_and] at h'
    obtain ⟨rfl, rfl⟩ := h'
    refine ⟨_, _, rfl, hnc, hcm, fun _ => ⟨R, 0, rfl, fun i hi => ?_⟩⟩
    obtain ⟨u, h1, h2⟩ := hx i hi hi
    rw [Nat.zero_add]
    exact ⟨u, hw _ _ _ (Nat.le_refl _) (by rw [h.cellAt _ (by omega)]; exact h1), h2 w' (fun b o v hb => hw b o v (by omega))⟩

set_option maxHeartbeats 1000000 in
theorem toLevelS_fr (v : Value) (ls : List (List Nd)) (w : World) (hn : LevsAt w v ls) (hl : ls.length ≤ 1048576) (hkl : ∀ l ∈ ls, l.length ≤ 1048576 ∧ ∀ nd ∈ l, nd.kids.length ≤ 1048576) :
    Calls Tryz.prog 145 #[v] w fun e w' => ∃ g, e = .returned (.slice (some ⟨g, 0, none⟩) ls.length ls.length) ∧ Fr w.heap.size w' (fun w => LevsAt w (.slice (some ⟨g, 0, none⟩) ls.length ls.length) ls) ∧ w.heap.size ≤ g ∧ Below w.heap.size w w' := by
  obtain ⟨i0, hi, hz0, hz1, hz2⟩ := info_parts Tryz.info200
  obtain ⟨a, cap, rfl, hlc, hcm, hc⟩ := hn
  have HC : Hid (0 < ls.length → ∃ b off, a = some ⟨b, off, none⟩ ∧ ∀ i (h : i < ls.length), ∃ u, w.cell? ⟨b, off + i, none⟩ = some u ∧ NodesAt w u ls[i]) := hc
  have HK := hide hkl
  clear hc hkl
  go_enter Tryz.func145, Tryz.ntmps145
  go_wp2_with (at_make; refine wpList_make_full _ rfl _ _ 119 rfl w.heap.size 200 i0 (.agg #[.slice none 0 0]) 1 Tryz.underlying119 hi hz0 hz1 .i64 .i64 _ _ ls.length rfl rfl rfl rfl (by rw [hz2]; omega) (by unfold maxLen; omega) (Nat.le_refl _) ?_; intro w1 hown hgrow)
  go_loopw [4] (fun i wr => ∃ (k : Nat) (xs : List Value), k ≤ ls.length ∧ i = .int .i64 k ∧ wr.ownsRow w.heap.size 200 1 (.slice (some ⟨w.heap.size, 0, none⟩) ls.length ls.length) ls.length xs ∧ Hid (LevsIn wr w.heap.size xs ls k) ∧ w.heap.size < wr.heap.size ∧ Below w.heap.size w wr) (fun i _ => ls.length - (intOf i).toNat)
  case atStart => exact ⟨0, _, by omega, rfl, hown, fun j _ h => by omega, (hown.lt _ rfl).2, (Below.refl _ _).grown hgrow (Nat.le_refl _) (fun k hk => by cases hk)⟩
  case round =>
    obtain ⟨k, xs, hk, rfl, hownr, HX, hsz, hbel⟩ := hrel
    clear hown hgrow
    by_cases hlt : k < ls.length
    · obtain ⟨b, off, ha, hc⟩ := HC.out (by omega)
      subst ha
      obtain ⟨u, c1, hnu⟩ := hc k hlt
      obtain ⟨hkl1, hkl2⟩ := HK.out ls[k] (by simp)
      have c1' := keep_cell hbel c1
      have HNU := hide (hnu.keep hbel)
      have HKL := hide hkl2
      obtain ⟨ua, uc, rfl, _, _, _⟩ := hnu
      clear hc c1 hkl2
      go_wp2_with fail
      refine (toLevel_fr _ ls[k] _ HNU.out hkl1 HKL.out).mono ?_
      rintro e w2 ⟨g, rfl, hfr, hg, hb⟩
      have hown2 := row_keep hb hownr
      have HX2 := hide (HX.out.keep hb)
      have hbel2 : Below w.heap.size w w2 := hbel.trans (hb.mono hbel.size)
      have hxl := hown2.1
      have s1 := (hown2.stored k (.slice (some ⟨g, 0, none⟩) ls[k].length ls[k].length)).1
      have f1 := hown2.frozenAt k
      have e1 := hown2.cellAt k (by omega)
      rw [List.getElem?_eq_getElem (by omega)] at e1
      have hsz2 : w.heap.size < w2.heap.size := by have := hb.size; omega
      have HP := hide (HX2.out.put (u := .slice (some ⟨g, 0, none⟩) ls[k].length ls[k].length) (by omega) hlt (hfr.mono (by omega)) (.slice (some ⟨g, 0, none⟩) ls[k].length ls[k].length))
      clear HX2 HX hfr hown2 hownr hb c1'
      go_wp2_with fail
      go_roundw
      case rel => exact ⟨k + 1, _, by omega, by go_num, s1, HP, by simpa [World.setCell] using hsz2, hbel2.setCell (p := ⟨_, _, _⟩) (Nat.le_refl _) _⟩
      case measure => simp [intOf]; omega
    · have hall := LevsIn.fr hownr rfl (by have := HX.out; rwa [show k = ls.length from by omega] at this)
      go_wp2_with fail
      go_ret
      exact ⟨_, rfl, hall, Nat.le_refl _, hbel⟩
end Go.Proofs.YtpmpooekpeocdaaGreat
