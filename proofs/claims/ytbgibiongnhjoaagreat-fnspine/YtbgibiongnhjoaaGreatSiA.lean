/- Rows of terms: what they read, their size, their copies, comparing them, marks and what is held. -/
import Derived.Test.YtbgibiongnhjoaaGreatDrV
import Derived.Test.YtbgibiongnhjoaaGreatMkT
import Derived.Test.YtbgibiongnhjoaaGreatTEq
import Derived.Test.YtbgibiongnhjoaaGreatTPlain
import Derived.Test.YtbgibiongnhjoaaGreatFew
import Derived.Test.YtbgibiongnhjoaaGreatPutP
import Derived.Test.YtbgibiongnhjoaaGreatStX
namespace Go.Proofs.YtbgibiongnhjoaaGreat
open Go.ChangeShapes Go.WideShapes Go.ChangeAt Go.RowKit

/-- A row of terms. -/
def TermsAt (w : World) (v : Value) (tss : List (List Td)) : Prop :=
  ∃ a cap, v = .slice a tss.length cap ∧ tss.length ≤ cap ∧ cap ≤ maxLen ∧
    (0 < tss.length → ∃ b off, a = some ⟨b, off, none⟩ ∧ ∀ i (h : i < tss.length), ∃ u, w.cell? ⟨b, off + i, none⟩ = some u ∧ TNodesAt w u tss[i])
theorem TermsAt.keep {w w' : World} {v : Value} {tss : List (List Td)} (h : TermsAt w v tss) (hb : Below w.heap.size w w') : TermsAt w' v tss := by
  obtain ⟨a, cap, h1, h2, h3, h4⟩ := h
  refine ⟨a, cap, h1, h2, h3, fun h0 => ?_⟩
  obtain ⟨b, off, h5, h6⟩ := h4 h0
  refine ⟨b, off, h5, fun i hi => ?_⟩
  obtain ⟨u, h7, h8⟩ := h6 i hi
  exact ⟨u, keep_cell hb h7, h8.keep hb⟩
theorem Tryz.info28 : (Tryz.prog.info? 28).map (fun i => (i.zero, i.size, i.bytes)) = some (some (.agg #[.slice none 0 0]), 1, 24) := by kernel_rfl
end Go.Proofs.YtbgibiongnhjoaaGreat

/- What the store's apply answers. -/
namespace Go.Proofs.YtbgibiongnhjoaaGreat
open Go.ChangeShapes Go.WideShapes Go.ChangeAt Go.RowKit

theorem app_node : nodeP appH 2 := ⟨by decide, by decide +kernel⟩
theorem var0_node : nodeP ⟨1, 0, 0, ⟨#[]⟩, []⟩ 0 := ⟨by decide, by decide +kernel⟩
theorem app_dummy : (Tt.t2 appH (varT 0) (varT 0)).all nodeP := ⟨app_node, var0_node, var0_node⟩
theorem apps_snoc (f : Option Tt) (xs : List Tt) (j : Nat) (h : j < xs.length) : appsO f (xs.take (j + 1)) = join2 appH (appsO f (xs.take j)) (some xs[j]) := by
  unfold appsO
  rw [List.take_succ_eq_append_getElem h, List.foldl_append]
  rfl
set_option maxRecDepth 20000 in
set_option maxHeartbeats 4000000 in
theorem apply_any (base Sb mb gb clock lo : Nat) (L : List (Nk × Nat × Nat)) (Z : Nat → Zs) (H : Nat → Bool) (f : Option Tt) (fb : Nat) (xs : List Tt) (ps : List Nat) (v : Value) (w : World) (hs : St base w Sb mb gb clock L Z H) (hbase : base ≤ w.heap.size) (hf : Res gb L f fb) (hl : ps.length = xs.length) (hx : ∀ i (h1 : i < ps.length) (h2 : i < xs.length), IsT L xs[i] ps[i]) (hrow : w.ownsRow lo 80 1 v xs.length (ps.map ptrV)) (hxl : xs.length ≤ 1048576) :
    Calls Tryz.prog 63 #[.pointer (some ⟨Sb, 0, none⟩), .pointer (some ⟨fb, 0, none⟩), v] w (WithOut base Sb mb gb L (appsO f xs) w) := by
  obtain ⟨R, hR⟩ : ∃ R, R = appsO f xs := ⟨_, rfl⟩
  rw [← hR]
  have HRR := hide hR
  obtain ⟨a, cap, rfl⟩ := row_form hrow
  have H0 : Hid (Res gb L (appsO f (xs.take 0)) fb) := hf
  have HS := hide hs
  have HBS := hide hbase
  have HX := hide hx
  have HL := hide hl
  have HROW := hide hrow
  have HNM : Hid (∀ g, (Value.slice a xs.length cap).ownBlock = some g → g ≠ mb) := fun g hg e => by
    subst e
    rcases hrow.2 with ⟨h3, h0⟩ | ⟨g2, cap', cur, h3, _, h4, _⟩
    · rw [h3] at hg; simp [Value.ownBlock] at hg
    · rw [h3] at hg
      have e : g2 = g := by simpa [Value.ownBlock] using hg
      subst e
      rw [hs.mp] at h4
      cases h4
  clear hs hbase hx hl hrow hf hR
  go_enter Tryz.func63, Tryz.ntmps63
  go_wp2_with fail
  go_loopw [1, 11] (fun fv i wr => ∃ (j fb' clock' : Nat) (L' : List (Nk × Nat × Nat)) (Z' : Nat → Zs) (H' : Nat → Bool), j ≤ xs.length ∧ i = .int .i64 j ∧ fv = .pointer (some ⟨fb', 0, none⟩) ∧ Hid (St base wr Sb mb gb clock' L' Z' H') ∧ Hid (∀ x ∈ L, x ∈ L') ∧ Hid (Res gb L' (appsO f (xs.take j)) fb') ∧ Hid (w.grownBy wr (some mb))) (fun _ i _ => xs.length - (intOf i).toNat)
  case atStart => exact ⟨0, fb, clock, L, Z, H, by omega, rfl, rfl, HS, fun x h => h, H0, (grown_of (Below.refl w.heap.size w)).but _⟩
  case round =>
    clear H0 HS
    obtain ⟨j, fb', clock', L', Z', H', hj, rfl, rfl, HSJ, HLJ, HRJ, HGJ⟩ := hrel
    by_cases hlt : j < xs.length
    · have hlt' : (j : Int) < xs.length := by omega
      have HQ1 := hide (show j + 1 ≤ xs.length from hlt)
      have hjp : j < ps.length := by have := HL.out; omega
      have hrw : wr.ownsRow lo 80 1 (.slice a xs.length cap) xs.length (ps.map ptrV) := HROW.out.kept HGJ.out (by
        rcases HROW.out.2 with ⟨h3, h0⟩ | ⟨g2, cap', cur, h3, _⟩
        · exact .inr (fun e => by rw [h3] at e; simp [Value.ownBlock] at e)
        · exact .inr (fun e => HNM.out mb e rfl))
      obtain ⟨Rb, rfl⟩ := own_some hrw (by omega)
      have d1 := hrw.cellAt j (by have := HL.out; simp; omega)
      rw [List.getElem?_map, List.getElem?_eq_getElem hjp] at d1
      simp only [Option.map_some, ptrV] at d1
      have hl1 := lt_cell d1
      have HN := hide (with_node (T := .t2 appH (varT 0) (varT 0)) (rs := [appsO f (xs.take j), some xs[j]]) (ps := [fb', ps[j]]) (lv := .slice none 0 0) HSJ.out (Nat.le_trans HBS.out HGJ.out.size) app_dummy rfl rfl (fun i h1 h2 => by
        rcases (show i = 0 ∨ i = 1 by simp at h1; omega) with rfl | rfl
        · exact HRJ.out
        · exact (HX.out j hjp hlt).more HLJ.out) (fun w' _ => levs_nil w'))
      have HN : Hid (Calls Tryz.prog 98 #[.pointer (some ⟨Sb, 0, none⟩), .agg #[.int .i64 4, .int .i64 0, .int .i64 0, .string ⟨#[]⟩, .string ⟨#[]⟩, .pointer (some ⟨fb', 0, none⟩), .pointer (some ⟨ps[j], 0, none⟩), .pointer none], .slice none 0 0] wr (WithOut base Sb mb gb L' (appsO f (xs.take (j + 1))) wr)) := by
        show Calls _ _ _ _ _
        rw [apps_snoc f xs j hlt]
        exact HN.out
      generalize ps[j] = pj at *
      clear hrw hjp
      go_wp2_with fail
      refine HN.out.mono ?_
      rintro e w1 ⟨b', clock1, L1, Z1, H1, rfl, h1, h2, h3, h4⟩
      have G1 := hide h1
      have G2 : Hid (∀ x ∈ L, x ∈ L1) := fun x hx => h2 x (HLJ.out x hx)
      have G3 := hide h3
      have G4 := hide (HGJ.out.trans h4)
      clear h1 h2 h3 h4 HN d1 hl1
      go_wp2_with fail
      go_roundw
      case rel => exact ⟨j + 1, b', clock1, L1, Z1, H1, HQ1.out, by go_num, rfl, G1, G2, G3, G4⟩
      case measure => have := HQ1.out; simp [intOf]; omega
    · have hlt' : ¬ (j : Int) < xs.length := by omega
      have e : j = xs.length := by omega
      subst e
      have HRE : Hid (Res gb L' R fb') := by show Res _ _ _ _; rw [HRR.out]; have h := HRJ.out; rwa [List.take_length] at h
      go_wp2_with fail
      go_ret
      exact ⟨fb', clock', L', Z', H', rfl, HSJ.out, HLJ.out, HRE.out, HGJ.out⟩
end Go.Proofs.YtbgibiongnhjoaaGreat

/- Rows of terms that grow; what slices.Reverse and the store's spine answer. -/
namespace Go.Proofs.YtbgibiongnhjoaaGreat
open Go.ChangeShapes Go.WideShapes Go.ChangeAt Go.RowKit Go.Sort

/-- A row of terms of the call's own, each with what is known of it within a range of blocks of its own. -/
def TsG (E : Nat → Nat → World → Value → List Td → Prop) (lo hi : Nat) (w : World) (v : Value) (tss : List (List Td)) : Prop :=
  ∃ (xs : List Value) (s t : Nat → Nat), w.ownsRow lo 28 1 v tss.length xs ∧ Rg tss.length lo hi s t ∧ (∀ b, v.ownBlock = some b → b < hi ∧ ∀ i, i < tss.length → b < s i ∨ t i ≤ b) ∧ ∀ i (h : i < tss.length), ∃ u, xs[i]? = some u ∧ E (s i) (t i) w u tss[i]
/-- What is asked of it. -/
def SameE (E : Nat → Nat → World → Value → List Td → Prop) : Prop := ∀ (lo hi : Nat) (w w' : World) (u : Value) (ts : List Td), E lo hi w u ts → (∀ b : Nat, lo ≤ b → b < hi → w'.heap[b]? = w.heap[b]?) → E lo hi w' u ts
theorem same_tmV : SameE TmV := fun _ _ _ _ _ _ h hh => h.same hh
theorem tsG_nil (E : Nat → Nat → World → Value → List Td → Prop) (lo hi : Nat) (w : World) : TsG E lo hi w (.slice none 0 0) [] := ⟨[], fun _ => 0, fun _ => 0, World.ownsRow_nil _ _ _ _, ⟨fun i h => by simp at h, fun i j _ h => by simp at h⟩, fun b h => by simp [Value.ownBlock] at h, fun i h => by simp at h⟩
theorem TsG.form {E : Nat → Nat → World → Value → List Td → Prop} {lo hi : Nat} {w : World} {v : Value} {tss : List (List Td)} (h : TsG E lo hi w v tss) : ∃ a cap, v = .slice a tss.length cap := by
  obtain ⟨xs, s, t, h1, _⟩ := h; exact row_form h1
theorem TsG.same {E : Nat → Nat → World → Value → List Td → Prop} (hE : SameE E) {lo hi : Nat} {w w' : World} {v : Value} {tss : List (List Td)} (h : TsG E lo hi w v tss) (hh : ∀ b : Nat, lo ≤ b → b < hi → w'.heap[b]? = w.heap[b]?) : TsG E lo hi w' v tss := by
  obtain ⟨xs, s, t, h1, h2, h3, h4⟩ := h
  refine ⟨xs, s, t, row_same h1 (fun g hg => hh g (World.ownsRow.lt h1 g hg).1 (h3 g hg).1), h2, h3, fun i hi => ?_⟩
  obtain ⟨u, a, b⟩ := h4 i hi
  have := h2.1 i hi
  exact ⟨u, a, hE _ _ _ _ _ _ b (fun q q1 q2 => hh q (by omega) (by omega))⟩
theorem TsG.terms {E : Nat → Nat → World → Value → List Td → Prop} (hN : ∀ (lo hi : Nat) (w : World) (u : Value) (ts : List Td), E lo hi w u ts → TNodesAt w u ts) {lo hi : Nat} {w : World} {v : Value} {tss : List (List Td)} (h : TsG E lo hi w v tss) : TermsAt w v tss := by
  obtain ⟨xs, s, t, h1, _, _, h4⟩ := h
  rcases h1.2 with ⟨h3, h0⟩ | ⟨g, cap, cur, h3, _⟩
  · exact ⟨none, 0, by rw [h3, h0], by omega, by unfold maxLen; omega, fun h => by omega⟩
  · subst h3
    obtain ⟨hc1, hc2⟩ := ownsRow_cap h1
    refine ⟨_, cap, rfl, hc1, hc2, fun _ => ⟨g, 0, rfl, fun i hi => ?_⟩⟩
    obtain ⟨u, a, b⟩ := h4 i hi
    exact ⟨u, by rw [Nat.zero_add, h1.cellAt i (by omega)]; exact a, hN _ _ _ _ _ b⟩
theorem TsG.mono {E : Nat → Nat → World → Value → List Td → Prop} {lo hi lo' hi' : Nat} {w : World} {v : Value} {tss : List (List Td)} (h : TsG E lo hi w v tss) (h1 : lo' ≤ lo) (h2 : hi ≤ hi') : TsG E lo' hi' w v tss := by
  obtain ⟨xs, s, t, a, b, c, d⟩ := h
  exact ⟨xs, s, t, row_mono a h1, b.mono h1 h2, fun q hq => ⟨by have := (c q hq).1; omega, (c q hq).2⟩, d⟩
theorem TsG.snoc {E : Nat → Nat → World → Value → List Td → Prop} (hE : SameE E) {lo : Nat} {w W w4 : World} {v u : Value} {g4 cap4 s0 : Nat} {ls : List (List Td)} {l : List Td} {xs : List Value} {s t : Nat → Nat} (hlo : lo ≤ w.heap.size) (hbw : Below w.heap.size w W) (h1 : w.ownsRow lo 28 1 v ls.length xs) (h2 : Rg ls.length lo w.heap.size s t) (h3 : ∀ b, v.ownBlock = some b → b < w.heap.size ∧ ∀ i, i < ls.length → b < s i ∨ t i ≤ b) (h4 : ∀ i (h : i < ls.length), ∃ u, xs[i]? = some u ∧ E (s i) (t i) w u ls[i])
    (hs0 : w.heap.size ≤ s0) (hu : E s0 W.heap.size W u l) (hs1 : s0 ≤ W.heap.size) (hg : W.grownBy w4 v.ownBlock) (hat : v.ownBlock = some g4 ∨ W.heap.size ≤ g4) (hlt : g4 < w4.heap.size) (h5 : w4.ownsRow lo 28 1 (.slice (some ⟨g4, 0, none⟩) (ls.length + 1) cap4) (ls.length + 1) (xs ++ [u])) : TsG E lo w4.heap.size w4 (.slice (some ⟨g4, 0, none⟩) (ls.length + 1) cap4) (ls ++ [l]) := by
  have hl := h1.1
  have hsz := hbw.size
  have hsz4 := hg.size
  have hvb : ∀ b, v.ownBlock = some b → b < w.heap.size := fun b hb => (h3 b hb).1
  refine ⟨xs ++ [u], rput s ls.length s0, rput t ls.length W.heap.size, by simpa using h5, by simpa using h2.snoc hlo hs0 hs1 hsz4, fun b hb => ?_, fun i hi => ?_⟩
  · have e : b = g4 := by simp [Value.ownBlock] at hb; omega
    subst e
    refine ⟨hlt, fun i hi => ?_⟩
    by_cases e : i = ls.length
    · subst e
      rw [rput_at, rput_at]
      rcases hat with h | h
      · have := hvb b h; omega
      · omega
    · have hi' : i < ls.length := by simp at hi; omega
      rw [rput_ne s _ e, rput_ne t _ e]
      rcases hat with h | h
      · exact (h3 b h).2 i hi'
      · have := h2.1 i hi'; omega
  · by_cases e : i < ls.length
    · obtain ⟨u', a, b⟩ := h4 i e
      have hr := h2.1 i e
      rw [List.getElem_append_left e, rput_ne s _ (by omega), rput_ne t _ (by omega)]
      refine ⟨u', by rw [List.getElem?_append_left (by omega)]; exact a, hE _ _ _ _ _ _ b (fun q q1 q2 => ?_)⟩
      rw [hg.block q (by omega) (fun e2 => by have := (h3 q e2.symm).2 i e; omega)]
      exact hbw.block q (by omega)
    · have e2 : i = ls.length := by simp at hi; omega
      subst e2
      rw [List.getElem_append_right (Nat.le_refl _), rput_at, rput_at]
      simp only [Nat.sub_self, List.getElem_cons_zero]
      refine ⟨u, ?_, hE _ _ _ _ _ _ hu (fun q q1 q2 => hg.block q q2 (fun e2 => by have := hvb q e2.symm; omega))⟩
      rw [List.getElem?_append_right (by omega)]
      simp [hl]

theorem revOwn (base : Nat) (v : Value) (ps : List Nat) (w : World) (h : w.ownsRow base 80 1 v ps.length (ps.map ptrV)) (hl : ps.length ≤ 1000000) :
    Calls Tryz.prog 99 #[v] w fun e w' => e = .returned (.tuple #[]) ∧ w'.ownsRow base 80 1 v ps.length (ps.reverse.map ptrV) ∧ w.grownBy w' v.ownBlock := by
  by_cases h0 : ps.length = 0
  · obtain ⟨a, cap, rfl⟩ := row_form h
    have hn : ps = [] := List.eq_nil_of_length_eq_zero h0
    subst hn
    refine (rev_none a cap w).mono ?_
    rintro e w' ⟨rfl, rfl⟩
    exact ⟨rfl, h, (grown_of (Below.refl _ _)).but _⟩
  rcases h.2 with ⟨h', hx⟩ | ⟨g, cap, cur, rfl, hb, hg, hnc, hcm, hcs, htake⟩
  · exact absurd hx h0
  · have htake : cur.toList.take ps.length = ps.map ptrV := by simpa using htake
    have hH : Holds ptrV w g 0 ps.toArray := by
      intro j hj
      have hj' : j < ps.length := by simpa using hj
      refine ⟨?_, by simp [World.frozen?, hg]⟩
      have h1 : (cur.toList.take ps.length)[j]? = (ps.map ptrV)[j]? := by rw [htake]
      rw [List.getElem?_take_of_lt hj'] at h1
      simp only [World.cell?, hg, Nat.zero_add]
      simp only [Option.isSome_none, Bool.false_eq_true, if_false]
      rw [← Array.getElem?_toList, h1]
      simp [hj']
    refine (rev_some g 0 cap ps w hH (by omega)).mono ?_
    rintro e w' ⟨rfl, n, rfl⟩
    have hblk : (putRow ptrV (Sort.ahead w n) g 0 ps.reverse.toArray).heap[g]? = some (.cells (putCells ptrV 0 ps.reverse.toArray cur) 80 (0, 0)) := by
      simp [putRow, mapBlock, Sort.ahead, Array.getElem?_modify, hg, onCells]
    refine ⟨rfl, ⟨by simp, .inr ⟨g, cap, _, rfl, hb, hblk, hnc, hcm, by simp [putCells, hcs], ?_⟩⟩, ?_⟩
    · rw [Nat.mul_one]
      apply List.ext_getElem?
      intro j
      by_cases hj : j < ps.length
      · rw [List.getElem?_take_of_lt hj, Array.getElem?_toList]
        simp [putCells, hj, show j < cur.size by omega]
      · rw [List.getElem?_take_eq_none (by omega), List.getElem?_eq_none (by simp; omega)]
    · refine ⟨rfl, rfl, rfl, by simp [putRow, mapBlock, Sort.ahead], fun k hk hne => ?_⟩
      have : g ≠ k := fun e => hne (by rw [e]; rfl)
      simp [putRow, mapBlock, Sort.ahead, Array.getElem?_modify, this]
end Go.Proofs.YtbgibiongnhjoaaGreat
