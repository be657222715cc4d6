/- Rows of terms: what they read, their size, their copies, comparing them, marks and what is held. -/
import Derived.Test.YtbgibiongnhjoaaGreatHeB
import Derived.Test.YtbgibiongnhjoaaGreatTEq
import Derived.Test.YtbgibiongnhjoaaGreatTTm
namespace Go.Proofs.YtbgibiongnhjoaaGreat
open Go.ChangeShapes Go.WideShapes Go.ChangeAt Go.RowKit

/-- A row of terms. -/
def TermsAt (w : World) (v : Value) (tss : List (List Td)) : Prop :=
  ∃ a cap, v = .slice a tss.length cap ∧ tss.length ≤ cap ∧ cap ≤ maxLen ∧
    (0 < tss.length → ∃ b off, a = some ⟨b, off, none⟩ ∧ ∀ i (h : i < tss.length), ∃ u, w.cell? ⟨b, off + i, none⟩ = some u ∧ TNodesAt w u tss[i])
theorem TermsAt.keep {w w' : World} {v : Value} {tss : List (List Td)} (h : TermsAt w v tss) (hb : Below w.heap.size w w') : TermsAt w' v tss := by
  obtain ⟨a, cap, h1, h2, h3, h4⟩ := h
  refine ⟨a, cap, h1, h2, h3, fun h0 => ?_⟩
  obtain ⟨b, off, h5, h6⟩ := h4 h0
  refine ⟨b, off, h5, fun i hi => ?_⟩
  obtain ⟨u, h7, h8⟩ := h6 i hi
  exact ⟨u, keep_cell hb h7, h8.keep hb⟩
/-- A row of terms of the call's own, each within a range of blocks of its own. -/
def TsV (lo hi : Nat) (w : World) (v : Value) (tss : List (List Td)) : Prop :=
  ∃ (xs : List Value) (s t : Nat → Nat), w.ownsRow lo 28 1 v tss.length xs ∧ Rg tss.length lo hi s t ∧ (∀ b, v.ownBlock = some b → b < hi ∧ ∀ i, i < tss.length → b < s i ∨ t i ≤ b) ∧ ∀ i (h : i < tss.length), ∃ u, xs[i]? = some u ∧ TmV (s i) (t i) w u tss[i]
theorem TsV.same {lo hi : Nat} {w w' : World} {v : Value} {tss : List (List Td)} (h : TsV lo hi w v tss) (hh : ∀ b, lo ≤ b → b < hi → w'.heap[b]? = w.heap[b]?) : TsV lo hi w' v tss := by
  obtain ⟨xs, s, t, h1, h2, h3, h4⟩ := h
  refine ⟨xs, s, t, row_same h1 (fun g hg => hh g (World.ownsRow.lt h1 g hg).1 (h3 g hg).1), h2, h3, fun i hi => ?_⟩
  obtain ⟨u, a, b⟩ := h4 i hi
  have := h2.1 i hi
  exact ⟨u, a, b.same (fun q q1 q2 => hh q (by omega) (by omega))⟩
theorem TsV.keep {lo hi : Nat} {w w' : World} {v : Value} {tss : List (List Td)} (h : TsV lo hi w v tss) (hb : Below w.heap.size w w') (hl : hi ≤ w.heap.size) : TsV lo hi w' v tss :=
  h.same fun b _ h4 => hb.block b (by omega)
theorem TsV.form {lo hi : Nat} {w : World} {v : Value} {tss : List (List Td)} (h : TsV lo hi w v tss) : ∃ a cap, v = .slice a tss.length cap := by
  obtain ⟨xs, s, t, h1, _⟩ := h; exact row_form h1
theorem TsV.terms {lo hi : Nat} {w : World} {v : Value} {tss : List (List Td)} (h : TsV lo hi w v tss) : TermsAt w v tss := by
  obtain ⟨xs, s, t, h1, _, _, h4⟩ := h
  rcases h1.2 with ⟨h3, h0⟩ | ⟨g, cap, cur, h3, _⟩
  · exact ⟨none, 0, by rw [h3, h0], by omega, by unfold maxLen; omega, fun h => by omega⟩
  · subst h3
    obtain ⟨hc1, hc2⟩ := ownsRow_cap h1
    refine ⟨_, cap, rfl, hc1, hc2, fun _ => ⟨g, 0, rfl, fun i hi => ?_⟩⟩
    obtain ⟨u, a, b⟩ := h4 i hi
    exact ⟨u, by rw [Nat.zero_add, h1.cellAt i (by omega)]; exact a, b.nodes⟩
theorem TsR.toV {lo hi : Nat} {w : World} {R n cap : Nat} {ts : List Td} (h : TsR lo hi w R n cap ts) (hn : ts.length = n) : TmV lo hi w (.slice (some ⟨R, 0, none⟩) n cap) ts := by
  subst hn
  have hR := h.lt
  obtain ⟨xs, f, h1, h2, h3, h4, h5⟩ := h
  refine ⟨xs, f, fun i => f (i + 1), h1, ⟨fun i hi => ?_, fun i j hij hj => ?_⟩, fun b hb => ?_, fun i hi => ?_⟩
  · have m1 := mono_le h3 0 i (by omega) (by omega)
    have m2 := h3 i hi
    have m3 := mono_le h3 (i + 1) ts.length (by omega) (by omega)
    exact ⟨by omega, m2, by show f (i + 1) ≤ _; omega⟩
  · exact mono_le h3 (i + 1) j (by omega) (by omega)
  · have e : b = R := by simp [Value.ownBlock] at hb; omega
    subst e
    exact ⟨by omega, fun i hi => .inl (by have := mono_le h3 0 i (by omega) (by omega); omega)⟩
  · obtain ⟨a, b, c, d, lv, kv, e, g, hr⟩ := h5 i hi
    exact ⟨a, b, c, d, lv, kv, e, g, hr.toV⟩

set_option maxHeartbeats 1000000 in
theorem szTermS_any (v : Value) (tss : List (List Td)) (left : Int) (w : World) (hls : TermsAt w v tss) (hsz : ∀ l ∈ tss, ∀ td ∈ l, TLens td) (h0 : 0 ≤ left) (h1 : left ≤ 1048576) :
    Calls Tryz.prog 22 #[v, .int .i64 left] w fun e w' => e = .returned (.int .i64 (leftOf left (tss.length + sumL tmSize tss))) ∧ Below w.heap.size w w' := by
  obtain ⟨a, cap, rfl, hlc, hcm, hnode⟩ := hls
  unfold maxLen at hcm
  by_cases h : left < tss.length
  · go_enter Tryz.func22, Tryz.ntmps22
    go_wp2_with fail
    go_ret
    exact ⟨ret_int (by rw [leftOf, if_pos (by omega)]), Below.refl _ _⟩
  have HN : Hid (0 < tss.length → ∃ b off, a = some ⟨b, off, none⟩ ∧ ∀ i (h : i < tss.length), ∃ u, w.cell? ⟨b, off + i, none⟩ = some u ∧ TNodesAt w u tss[i]) := hnode
  have HZ : Hid (∀ l ∈ tss, ∀ td ∈ l, TLens td) := hsz
  have d0 : decide (left - (tss.length : Int) < 0) = false := by simp; omega
  clear hnode hsz
  go_enter Tryz.func22, Tryz.ntmps22
  go_wp2_with fail
  go_loopw [1, 5] (fun l i wr => ∃ k : Nat, k ≤ tss.length ∧ i = .int .i64 k ∧ (sumL tmSize (tss.take k) : Int) ≤ left - tss.length ∧ l = .int .i64 (left - tss.length - sumL tmSize (tss.take k)) ∧ Below w.heap.size w wr) (fun _ i _ => tss.length - (intOf i).toNat)
  case atStart => exact ⟨0, by omega, rfl, by simp [sumL]; omega, by simp [sumL], Below.refl _ _⟩
  case round =>
    obtain ⟨k, hk, rfl, hsum, rfl, hbel⟩ := hrel
    by_cases hlt : k < tss.length
    · obtain ⟨b, off, ha, hc⟩ := HN.out (by omega)
      subst ha
      obtain ⟨u, hu, hnu⟩ := hc k hlt
      have hsnoc := sumL_snoc tmSize tss k hlt
      have hsl := HZ.out tss[k] (by simp)
      have hle := sumL_le tmSize tss (k + 1)
      generalize tss[k] = ns at *
      have hu' := keep_cell hbel hu
      have hnu' := hnu.keep hbel
      have HNU := hide hnu'
      obtain ⟨ua, uc, rfl, _, _, _⟩ := hnu'
      have HS : Hid (sumL tmSize (tss.take (k + 1)) = sumL tmSize (tss.take k) + tmSize ns) := hsnoc
      have HSL := hide hsl
      clear hsnoc hc hu hnu hsl
      obtain ⟨L, hL⟩ : ∃ L : Int, L = left - tss.length - sumL tmSize (tss.take k) := ⟨_, rfl⟩
      rw [← hL]
      have hL0 : 0 ≤ L := by omega
      have hL1 : L ≤ 1048576 := by omega
      have HLL : Hid (L = left - tss.length - sumL tmSize (tss.take k)) := hL
      clear hL
      by_cases h3 : L < (tmSize ns : Nat)
      · have HL : Hid (leftOf L (tmSize ns) = -1) := leftOf_neg h3
        clear h3
        go_wp2_with (go_at_call 12; refine (szTerm_any _ ns _ _ HNU.out HSL.out hL0 hL1).mono ?_; rintro e w' ⟨rfl, hb2⟩; rw [HL.out])
        go_ret
        have := HLL.out; have := HS.out; have h3 := HL.out
        exact ⟨ret_int (by rw [leftOf, if_pos (by unfold leftOf at h3; split at h3 <;> omega)]), hbel.trans (hb2.mono hbel.size)⟩
      · obtain ⟨M, hM⟩ : ∃ M : Int, M = L - (tmSize ns : Nat) := ⟨_, rfl⟩
        have HL : Hid (leftOf L (tmSize ns) = M) := by show _ = _; rw [leftOf_pos h3, hM]
        have hge : 0 ≤ M := by omega
        have HM := hide hM
        clear h3 hM
        go_wp2_with (go_at_call 12; refine (szTerm_any _ ns _ _ HNU.out HSL.out hL0 hL1).mono ?_; rintro e w' ⟨rfl, hb2⟩; rw [HL.out])
        go_roundw
        case rel =>
          have := HLL.out; have := HS.out; have := HM.out
          exact ⟨k + 1, by omega, by go_num, by omega, by rw [show M = left - tss.length - sumL tmSize (tss.take (k + 1)) from by omega], hbel.trans (hb2.mono hbel.size)⟩
        case measure => simp [intOf]; omega
    · have hke : tss.take k = tss := List.take_of_length_le (by omega)
      rw [hke] at hsum ⊢
      clear hke
      go_wp2_with fail
      go_ret
      exact ⟨ret_int (by rw [leftOf, if_neg (by omega)]; omega), hbel⟩

set_option maxHeartbeats 1000000 in
theorem eqTermS_any (v1 v2 : Value) (tss : List (List Td)) (w : World) (h1 : TermsAt w v1 tss) (h2 : TermsAt w v2 tss) :
    Calls Tryz.prog 17 #[v1, v2] w fun e w' => e = .returned (.bool true) ∧ Below w.heap.size w w' := by
  obtain ⟨a1, cap1, rfl, hl1, hm1, hc1⟩ := h1
  obtain ⟨a2, cap2, rfl, hl2, hm2, hc2⟩ := h2
  unfold maxLen at hm1 hm2
  have H1 : Hid (0 < tss.length → ∃ b off, a1 = some ⟨b, off, none⟩ ∧ ∀ i (h : i < tss.length), ∃ u, w.cell? ⟨b, off + i, none⟩ = some u ∧ TNodesAt w u tss[i]) := hc1
  have H2 : Hid (0 < tss.length → ∃ b off, a2 = some ⟨b, off, none⟩ ∧ ∀ i (h : i < tss.length), ∃ u, w.cell? ⟨b, off + i, none⟩ = some u ∧ TNodesAt w u tss[i]) := hc2
  clear hc1 hc2
  go_enter Tryz.func17, Tryz.ntmps17
  go_wp2_with fail
  go_loopw [5] (fun i wr => ∃ (k : Nat), k ≤ tss.length ∧ i = .int .i64 k ∧ Below w.heap.size w wr) (fun i _ => tss.length - (intOf i).toNat)
  case atStart => exact ⟨0, by omega, rfl, Below.refl _ _⟩
  case round =>
    obtain ⟨k, hk, rfl, hbel⟩ := hrel
    by_cases hlt : k < tss.length
    · obtain ⟨b1, o1, rfl, c1⟩ := H1.out (by omega)
      obtain ⟨b2, o2, rfl, c2⟩ := H2.out (by omega)
      obtain ⟨u1, p1, p2⟩ := c1 k hlt
      obtain ⟨u2, q1, q2⟩ := c2 k hlt
      have p1' := keep_cell hbel p1
      have q1' := keep_cell hbel q1
      have P2 := hide (p2.keep hbel)
      have Q2 := hide (q2.keep hbel)
      have hlt' : (k : Int) < tss.length := by omega
      clear c1 c2 H1 H2 p1 q1
      generalize tss[k] = ns at *
      obtain ⟨ua, uc, rfl, _, _, _⟩ := p2
      obtain ⟨va, vc, rfl, _, _, _⟩ := q2
      go_wp2_with fail
      go_region_with (go_at_call 16; refine (eqTerm_any _ _ ns _ ?_ ?_).mono ?_; exact P2.out.keep (below_drewN (Below.refl _ _) _); exact Q2.out.keep (below_drewN (Below.refl _ _) _); rintro e w1 ⟨rfl, hb⟩)
      all_goals
        go_wp2_with fail
        go_roundw
        case rel => exact ⟨k + 1, by omega, by go_num, hbel.drew.trans (hb.mono hbel.size)⟩
        case measure => simp [intOf]; omega
    · go_wp2_with fail
      go_ret
      exact ⟨rfl, hbel⟩

theorem Tryz.info28 : (Tryz.prog.info? 28).map (fun i => (i.zero, i.size, i.bytes)) = some (some (.agg #[.slice none 0 0]), 1, 24) := by kernel_rfl
/-- A term is small enough to be copied and marked. -/
def SmallT (l : List Td) : Prop := l.length ≤ 1048576 ∧ ∀ td ∈ l, TSmall td
set_option maxRecDepth 20000 in
set_option maxHeartbeats 1000000 in
theorem toTermS_own (v : Value) (tss : List (List Td)) (w : World) (hn : TermsAt w v tss) (hl : tss.length ≤ 1048576) (hkl : ∀ l ∈ tss, SmallT l) :
    Calls Tryz.prog 24 #[v] w fun e w' => ∃ v', e = .returned v' ∧ TsV w.heap.size w'.heap.size w' v' tss ∧ Below w.heap.size w w' := by
  obtain ⟨i0, hi, hz0, hz1, hz2⟩ := info_parts Tryz.info28
  obtain ⟨a, cap, rfl, hlc, hcm, hc⟩ := hn
  have HC : Hid (0 < tss.length → ∃ b off, a = some ⟨b, off, none⟩ ∧ ∀ i (h : i < tss.length), ∃ u, w.cell? ⟨b, off + i, none⟩ = some u ∧ TNodesAt w u tss[i]) := hc
  have HK := hide hkl
  clear hc hkl
  go_enter Tryz.func24, Tryz.ntmps24
  go_wp2_with (at_make; refine wpList_make_full _ rfl _ _ 29 rfl w.heap.size 28 i0 (.agg #[.slice none 0 0]) 1 Tryz.underlying29 hi hz0 hz1 .i64 .i64 _ _ tss.length rfl rfl rfl rfl (by rw [hz2]; omega) (by unfold maxLen; omega) (Nat.le_refl _) ?_; intro w1 hown hgrow)
  go_loopw [4] (fun i wr => ∃ (k : Nat) (xs : List Value) (s t : Nat → Nat), k ≤ tss.length ∧ i = .int .i64 k ∧ wr.ownsRow w.heap.size 28 1 (.slice (some ⟨w.heap.size, 0, none⟩) tss.length tss.length) tss.length xs ∧ Hid (Rg k (w.heap.size + 1) wr.heap.size s t) ∧ Hid (∀ i (h : i < tss.length), i < k → ∃ u, xs[i]? = some u ∧ TmV (s i) (t i) wr u tss[i]) ∧ w.heap.size < wr.heap.size ∧ Below w.heap.size w wr) (fun i _ => tss.length - (intOf i).toNat)
  case atStart => exact ⟨0, _, fun _ => 0, fun _ => 0, by omega, rfl, hown, ⟨fun i h => by omega, fun i j _ h => by omega⟩, fun _ _ h => by omega, (hown.lt _ rfl).2, (Below.refl _ _).grown hgrow (Nat.le_refl _) (fun k hk => by cases hk)⟩
  case round =>
    obtain ⟨k, xs, s, t, hk, rfl, hownr, HG, HX, hsz, hbel⟩ := hrel
    clear hown hgrow
    by_cases hlt : k < tss.length
    · obtain ⟨b, off, ha, hc⟩ := HC.out (by omega)
      subst ha
      obtain ⟨u, c1, hnu⟩ := hc k hlt
      obtain ⟨hkl1, hkl2⟩ := HK.out tss[k] (by simp)
      have c1' := keep_cell hbel c1
      have HNU := hide (hnu.keep hbel)
      have HKL := hide hkl2
      obtain ⟨ua, uc, rfl, _, _, _⟩ := hnu
      clear hc c1 hkl2
      go_wp2_with fail
      refine (toTerm_own _ tss[k] _ HNU.out hkl1 HKL.out).mono ?_
      rintro e w2 ⟨g, rfl, hfr, hg, hb⟩
      have hown2 := row_keep hb hownr
      have hbel2 : Below w.heap.size w w2 := hbel.trans (hb.mono hbel.size)
      have hxl := hown2.1
      have s1 := (hown2.stored k (.slice (some ⟨g, 0, none⟩) tss[k].length tss[k].length)).1
      have f1 := hown2.frozenAt k
      have e1 := hown2.cellAt k (by omega)
      rw [List.getElem?_eq_getElem (by omega)] at e1
      have hs2 := hb.size
      have hsz2 : w.heap.size < w2.heap.size := by omega
      have HG2 : Hid (Rg (k + 1) (w.heap.size + 1) (w2.setCell ⟨w.heap.size, k, none⟩ (.slice (some ⟨g, 0, none⟩) tss[k].length tss[k].length)).heap.size (rput s k wr.heap.size) (rput t k w2.heap.size)) := by
        show Rg _ _ _ _ _
        rw [size_set]
        exact HG.out.snoc (by omega) (Nat.le_refl _) hs2 (Nat.le_refl _)
      have HP : Hid (∀ i (h : i < tss.length), i < k + 1 → ∃ u, (xs.set k (.slice (some ⟨g, 0, none⟩) tss[k].length tss[k].length))[i]? = some u ∧ TmV (rput s k wr.heap.size i) (rput t k w2.heap.size i) (w2.setCell ⟨w.heap.size, k, none⟩ (.slice (some ⟨g, 0, none⟩) tss[k].length tss[k].length)) u tss[i]) := fun i hi hik => by
        by_cases e : i = k
        · subst e
          rw [rput_at, rput_at, List.getElem?_set_self (by omega)]
          exact ⟨_, rfl, (hfr.toV rfl).same (fun b q1 _ => Below.heap_setCell w2 _ _ b (by show b ≠ w.heap.size; omega))⟩
        · obtain ⟨u, q1, q2⟩ := HX.out i hi (by omega)
          obtain ⟨r1, r2, r3⟩ := HG.out.1 i (by omega)
          rw [rput_ne _ _ e, rput_ne _ _ e, List.getElem?_set_ne (by omega)]
          exact ⟨u, q1, q2.same (fun b p1 p2 => by rw [Below.heap_setCell w2 _ _ b (by show b ≠ w.heap.size; omega)]; exact hb.block b (by omega))⟩
      clear HX HG hfr hown2 hownr hb c1'
      go_wp2_with fail
      go_roundw
      case rel => exact ⟨k + 1, _, _, _, by omega, by go_num, s1, HG2, HP, by simpa [World.setCell] using hsz2, hbel2.setCell (p := ⟨_, _, _⟩) (Nat.le_refl _) _⟩
      case measure => simp [intOf]; omega
    · have hke : k = tss.length := by omega
      subst hke
      have hall : TsV w.heap.size wr.heap.size wr (.slice (some ⟨w.heap.size, 0, none⟩) tss.length tss.length) tss := ⟨xs, s, t, hownr, HG.out.mono (by omega) (Nat.le_refl _), fun b hb => by
        have e : b = w.heap.size := by simp [Value.ownBlock] at hb; omega
        subst e
        exact ⟨hsz, fun i hi => .inl (by have := HG.out.1 i hi; omega)⟩, fun i hi => HX.out i hi hi⟩
      go_wp2_with fail
      go_ret
      exact ⟨_, rfl, hall, hbel⟩

/-- How many marks a row of terms takes; a row of marked terms. -/
def costTs : List (List Td) → Nat
  | [] => 0
  | l :: ls => costT l + costTs ls
def markTs (k : Nat) : List (List Td) → List (List Td)
  | [] => []
  | l :: ls => markT k l :: markTs (k + costT l) ls
theorem markTs_len : ∀ (ls : List (List Td)) (k : Nat), (markTs k ls).length = ls.length
  | [], _ => rfl
  | l :: ls, k => by simp [markTs, markTs_len ls]
theorem markTs_get : ∀ (ls : List (List Td)) (k i : Nat) (h : i < ls.length), (markTs k ls)[i]? = some (markT (k + costTs (ls.take i)) ls[i])
  | [], _, _, h => by simp at h
  | l :: ls, k, 0, _ => by simp [markTs, costTs]
  | l :: ls, k, i + 1, h => by
    have := markTs_get ls (k + costT l) i (by simpa using h)
    simp only [markTs, List.getElem?_cons_succ, List.take_succ_cons, costTs, List.getElem_cons_succ]
    rw [this, Nat.add_assoc]
theorem costTs_append (a b : List (List Td)) : costTs (a ++ b) = costTs a + costTs b := by
  induction a with
  | nil => simp [costTs]
  | cons x a ih => simp [costTs, ih]; omega
theorem costTs_snoc (ls : List (List Td)) (i : Nat) (h : i < ls.length) : costTs (ls.take (i + 1)) = costTs (ls.take i) + costT ls[i] := by
  rw [List.take_succ_eq_append_getElem h, costTs_append]; simp [costTs]
theorem costTs_le (ls : List (List Td)) (i : Nat) : costTs (ls.take i) ≤ costTs ls := by
  conv => rhs; rw [← List.take_append_drop i ls, costTs_append]
  omega
set_option maxRecDepth 20000 in
set_option maxHeartbeats 4000000 in
theorem markTermS_V (lo hi : Nat) (v : Value) (ls : List (List Td)) (k0 : Nat) (w : World) (h : TsV lo hi w v ls) (hhi : hi ≤ w.heap.size) (hkl : ∀ l ∈ ls, SmallT l) (hn : ls.length ≤ 1048576) (hk1 : 1 ≤ k0) (hk : k0 + costTs ls ≤ 50000000) :
    Calls Tryz.prog 19 #[v, .int .i64 k0] w fun e w' => e = .returned (.int .i64 ((k0 + costTs ls : Nat) : Int)) ∧ TsV lo hi w' v (markTs k0 ls) ∧ Chg lo hi w w' := by
  obtain ⟨xs, s, t, h1, h2, h3, h5⟩ := h
  obtain ⟨a, cap, rfl⟩ := row_form h1
  have HRG := hide h2
  have HOB := hide h3
  have HKL := hide hkl
  have H0 : Hid (∀ i (h : i < ls.length), ∃ u, xs[i]? = some u ∧ TmV (s i) (t i) w u (if i < 0 then markT (k0 + costTs (ls.take i)) ls[i] else ls[i])) := fun i hi => by
    simpa using h5 i hi
  have HR := hide h1
  clear h2 h3 h5 hkl h1
  go_enter Tryz.func19, Tryz.ntmps19
  go_wp2_with fail
  go_loopw [1, 5] (fun m i wr => ∃ (j K : Nat), j ≤ ls.length ∧ i = .int .i64 j ∧ m = .int .i64 K ∧ Hid (K = k0 + costTs (ls.take j)) ∧ Hid (wr.ownsRow lo 28 1 (.slice a ls.length cap) ls.length xs) ∧ Hid (∀ i (h : i < ls.length), ∃ u, xs[i]? = some u ∧ TmV (s i) (t i) wr u (if i < j then markT (k0 + costTs (ls.take i)) ls[i] else ls[i])) ∧ Hid (Chg lo hi w wr)) (fun _ i _ => ls.length - (intOf i).toNat)
  case atStart => exact ⟨0, k0, by omega, rfl, rfl, by show _ = _; simp [costTs], HR, H0, Chg.refl _ _ _⟩
  case round =>
    obtain ⟨j, K, hj, rfl, rfl, HK, HRJ, HN, HC⟩ := hrel
    clear H0 HR
    have hK1 : 1 ≤ K := by have := HK.out; omega
    have hK2 : K ≤ 50000000 := by have := HK.out; have := costTs_le ls j; omega
    by_cases hlt : j < ls.length
    · have hlt' : (j : Int) < ls.length := by omega
      obtain ⟨R, rfl⟩ := own_some HRJ.out (by omega)
      obtain ⟨v, hv, hnd⟩ := HN.out j hlt
      rw [if_neg (by omega)] at hnd
      obtain ⟨r1, r2, r3⟩ := HRG.out.1 j hlt
      have hsz := HC.out.1.size
      have hxl := HRJ.out.1
      have c1 := HRJ.out.cellAt j (by omega)
      rw [hv] at c1
      obtain ⟨hl1, hl2⟩ := HKL.out ls[j] (List.getElem_mem hlt)
      have HCST : Hid (K + costT ls[j] = k0 + costTs (ls.take (j + 1))) := by show _ = _; rw [costTs_snoc ls j hlt]; have := HK.out; omega
      have HCALL := hide (markNodeS_V (s j) (t j) v ls[j] K wr hnd (by omega) hl2 hl1 hK1 (by have := HCST.out; have := costTs_le ls (j + 1); omega))
      obtain ⟨va, vc, hvf⟩ := hnd.form
      subst hvf
      clear hnd hl2
      go_wp2_with fail
      refine HCALL.out.mono ?_
      rintro e w2 ⟨rfl, hn2, hc2⟩
      have HRJ2 : Hid (w2.ownsRow lo 28 1 (.slice (some ⟨R, 0, none⟩) ls.length cap) ls.length xs) := row_same HRJ.out (fun g hg => hc2.out ((HOB.out g hg).2 j hlt) (World.ownsRow.lt HRJ.out g hg).2)
      have HN2 : Hid (∀ i (h : i < ls.length), ∃ u, xs[i]? = some u ∧ TmV (s i) (t i) w2 u (if i < j + 1 then markT (k0 + costTs (ls.take i)) ls[i] else ls[i])) := by
        show ∀ i, _
        intro i hi
        by_cases e : i = j
        · subst e
          rw [if_pos (by omega), ← HK.out]
          exact ⟨_, hv, hn2⟩
        · obtain ⟨u, q1, q2⟩ := HN.out i hi
          refine ⟨u, q1, ?_⟩
          have e2 : (if i < j + 1 then markT (k0 + costTs (ls.take i)) ls[i] else ls[i]) = (if i < j then markT (k0 + costTs (ls.take i)) ls[i] else ls[i]) := by
            by_cases h : i < j
            · rw [if_pos h, if_pos (by omega)]
            · rw [if_neg h, if_neg (by omega)]
          rw [e2]
          obtain ⟨p1, p2, p3⟩ := HRG.out.1 i hi
          refine q2.same (fun b b1 b2 => hc2.out ?_ (by omega))
          by_cases e3 : i < j
          · have := HRG.out.2 i j e3 hlt; omega
          · have := HRG.out.2 j i (by omega) hi; omega
      have HC2 := hide (HC.out.trans (hc2.mono (lo' := lo) (hi' := hi) r1 r3))
      clear hn2 hc2 HCALL
      generalize costT ls[j] = cj at *
      go_wp2_with fail
      go_roundw
      case rel => exact ⟨j + 1, K + cj, by omega, by go_num, rfl, HCST, HRJ2, HN2, HC2⟩
      case measure => simp [intOf]; omega
    · have hjn : j = ls.length := by omega
      subst hjn
      have HRR : Hid (K = k0 + costTs ls) := by show _ = _; have := HK.out; rwa [List.take_length] at this
      have HE : Hid (TsV lo hi wr (.slice a ls.length cap) (markTs k0 ls)) := by
        show TsV _ _ _ _ _
        have hml := markTs_len ls k0
        refine ⟨xs, s, t, by rw [hml]; exact HRJ.out, by rw [hml]; exact HRG.out, by rw [hml]; exact HOB.out, fun i hi => ?_⟩
        have hi' : i < ls.length := by omega
        obtain ⟨u, q1, q2⟩ := HN.out i hi'
        rw [if_pos hi'] at q2
        have e := markTs_get ls k0 i hi'
        rw [List.getElem?_eq_getElem hi] at e
        rw [Option.some.inj e]
        exact ⟨u, q1, q2⟩
      go_wp2_with fail
      go_ret
      exact ⟨ret_int (by rw [HRR.out]), HE.out, HC.out⟩

end Go.Proofs.YtbgibiongnhjoaaGreat
