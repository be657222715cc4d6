/- What the comparing of two terms (eqTerm and what it calls) answers at two terms with the same nodes: true; nothing that was there is written. -/
import Derived.Test.YtbgibiongnhjoaaGreatTMem
import Derived.Test.YtbgibiongnhjoaaGreatEq
import Derived.Test.YtbgibiongnhjoaaGreatFew
import Derived.Test.YtbgibiongnhjoaaGreatHeB
namespace Go.Proofs.YtbgibiongnhjoaaGreat
open Go.ChangeShapes Go.WideShapes Go.ChangeAt Go.RowKit

set_option maxHeartbeats 1000000 in
theorem eqLevelS_any (v1 v2 : Value) (ls : List (List Nd)) (w : World) (h1 : LevsAt w v1 ls) (h2 : LevsAt w v2 ls) :
    Calls Tryz.prog 37 #[v1, v2] w fun e w' => e = .returned (.bool true) ∧ Below w.heap.size w w' := by
  obtain ⟨a1, cap1, rfl, hl1, hm1, hc1⟩ := h1
  obtain ⟨a2, cap2, rfl, hl2, hm2, hc2⟩ := h2
  unfold maxLen at hm1 hm2
  have H1 : Hid (0 < ls.length → ∃ b off, a1 = some ⟨b, off, none⟩ ∧ ∀ i (h : i < ls.length), ∃ u, w.cell? ⟨b, off + i, none⟩ = some u ∧ NodesAt w u ls[i]) := hc1
  have H2 : Hid (0 < ls.length → ∃ b off, a2 = some ⟨b, off, none⟩ ∧ ∀ i (h : i < ls.length), ∃ u, w.cell? ⟨b, off + i, none⟩ = some u ∧ NodesAt w u ls[i]) := hc2
  clear hc1 hc2
  go_enter Tryz.func37, Tryz.ntmps37
  go_wp2_with fail
  go_loopw [5] (fun i wr => ∃ (k : Nat), k ≤ ls.length ∧ i = .int .i64 k ∧ Below w.heap.size w wr) (fun i _ => ls.length - (intOf i).toNat)
  case atStart => exact ⟨0, by omega, rfl, Below.refl _ _⟩
  case round =>
    obtain ⟨k, hk, rfl, hbel⟩ := hrel
    by_cases hlt : k < ls.length
    · obtain ⟨b1, o1, rfl, c1⟩ := H1.out (by omega)
      obtain ⟨b2, o2, rfl, c2⟩ := H2.out (by omega)
      obtain ⟨u1, p1, p2⟩ := c1 k hlt
      obtain ⟨u2, q1, q2⟩ := c2 k hlt
      have p1' := keep_cell hbel p1
      have q1' := keep_cell hbel q1
      have P2 := hide (p2.keep hbel)
      have Q2 := hide (q2.keep hbel)
      have hlt' : (k : Int) < ls.length := by omega
      clear c1 c2 H1 H2 p1 q1
      generalize ls[k] = ns at *
      obtain ⟨ua, uc, rfl, _, _, _⟩ := p2
      obtain ⟨va, vc, rfl, _, _, _⟩ := q2
      go_wp2_with fail
      go_region_with (go_at_call 74; refine (eqLevel_any _ _ ns _ ?_ ?_).mono ?_; exact P2.out.keep (below_drewN (Below.refl _ _) _); exact Q2.out.keep (below_drewN (Below.refl _ _) _); rintro e w1 ⟨rfl, hb⟩)
      all_goals
        go_wp2_with fail
        go_roundw
        case rel => exact ⟨k + 1, by omega, by go_num, hbel.drew.trans (hb.mono hbel.size)⟩
        case measure => simp [intOf]; omega
    · go_wp2_with fail
      go_ret
      exact ⟨rfl, hbel⟩

set_option maxHeartbeats 1000000 in
theorem eqNode_any (td : Td) (l1 k1 l2 k2 : Value) (w : World) (hl1 : LevsAt w l1 td.lv) (hl2 : LevsAt w l2 td.lv) (h1 : IntsAt w k1 td.kids) (h2 : IntsAt w k2 td.kids) :
    Calls Tryz.prog 104 #[.agg #[.int .i64 td.k, .int .i64 td.n, .int .i64 td.m, .string td.s, l1, k1], .agg #[.int .i64 td.k, .int .i64 td.n, .int .i64 td.m, .string td.s, l2, k2]] w fun e w' => e = .returned (.bool true) ∧ Below w.heap.size w w' := by
  have b2 : ∀ o1 o2, Below w.heap.size w ((w.alloc o1).alloc o2) := fun o1 o2 => (((Below.refl w.heap.size w).alloc (Nat.le_refl _) o1).alloc (by simp) o2)
  have H1 : Hid (∀ o1 o2, IntsAt ((w.alloc o1).alloc o2) k1 td.kids) := fun o1 o2 => h1.keep (b2 o1 o2)
  have H2 : Hid (∀ o1 o2, IntsAt ((w.alloc o1).alloc o2) k2 td.kids) := fun o1 o2 => h2.keep (b2 o1 o2)
  have L1 : Hid (∀ o1 o2, LevsAt ((w.alloc o1).alloc o2) l1 td.lv) := fun o1 o2 => hl1.keep (b2 o1 o2)
  have L2 : Hid (∀ o1 o2, LevsAt ((w.alloc o1).alloc o2) l2 td.lv) := fun o1 o2 => hl2.keep (b2 o1 o2)
  have HB2 := hide b2
  obtain ⟨a1, cap1, rfl, _, _, _⟩ := h1
  obtain ⟨a2, cap2, rfl, _, _, _⟩ := h2
  obtain ⟨la1, lc1, rfl, _, _, _⟩ := hl1
  obtain ⟨la2, lc2, rfl, _, _, _⟩ := hl2
  clear b2
  go_enter Tryz.func104, Tryz.ntmps104
  go_wp2_with fail
  refine (eqLevelS_any _ _ td.lv _ (L1.out _ _) (L2.out _ _)).mono ?_
  rintro e w1 ⟨rfl, hb⟩
  have x1 : w1.cell? ⟨w.heap.size, 5, none⟩ = some (.slice a1 td.kids.length cap1) := keep_cell hb (by simp [go_sem])
  have x2 : w1.cell? ⟨w.heap.size + 1, 5, none⟩ = some (.slice a2 td.kids.length cap2) := keep_cell hb (by simp [go_sem])
  have HB := hide hb
  clear hb
  go_wp2_with (go_at_call 152; refine (eqIntS_any _ _ td.kids _ ((H1.out _ _).keep HB.out) ((H2.out _ _).keep HB.out)).mono ?_; rintro e w2 ⟨rfl, n, rfl⟩)
  go_ret
  exact ⟨rfl, below_drewN ((HB2.out _ _).trans (HB.out.mono (by simp; omega))) n⟩

set_option maxHeartbeats 1000000 in
theorem eqNodeS_any (v1 v2 : Value) (ts : List Td) (w : World) (h1 : TNodesAt w v1 ts) (h2 : TNodesAt w v2 ts) :
    Calls Tryz.prog 56 #[v1, v2] w fun e w' => e = .returned (.bool true) ∧ Below w.heap.size w w' := by
  obtain ⟨a1, cap1, rfl, hl1, hm1, hc1⟩ := h1
  obtain ⟨a2, cap2, rfl, hl2, hm2, hc2⟩ := h2
  unfold maxLen at hm1 hm2
  have H1 : Hid (0 < ts.length → ∃ b off, a1 = some ⟨b, off, none⟩ ∧ ∀ i (h : i < ts.length), TNodeAt w b (off + i * 6) ts[i]) := hc1
  have H2 : Hid (0 < ts.length → ∃ b off, a2 = some ⟨b, off, none⟩ ∧ ∀ i (h : i < ts.length), TNodeAt w b (off + i * 6) ts[i]) := hc2
  clear hc1 hc2
  go_enter Tryz.func56, Tryz.ntmps56
  go_wp2_with fail
  go_loopw [5] (fun i wr => ∃ (k : Nat), k ≤ ts.length ∧ i = .int .i64 k ∧ Below w.heap.size w wr) (fun i _ => ts.length - (intOf i).toNat)
  case atStart => exact ⟨0, by omega, rfl, Below.refl _ _⟩
  case round =>
    obtain ⟨k, hk, rfl, hbel⟩ := hrel
    by_cases hlt : k < ts.length
    · obtain ⟨b1, o1, rfl, c1⟩ := H1.out (by omega)
      obtain ⟨b2, o2, rfl, c2⟩ := H2.out (by omega)
      have n1 := (c1 k hlt).keep hbel
      have n2 := (c2 k hlt).keep hbel
      have hlt' : (k : Int) < ts.length := by omega
      clear c1 c2 H1 H2
      generalize ts[k] = td at *
      obtain ⟨p1, p2, p3, p4, l1, p5, hl1', k1, p6, hk1⟩ := n1
      obtain ⟨q1, q2, q3, q4, l2, q5, hl2', k2, q6, hk2⟩ := n2
      have L1 := hide hl1'
      have L2 := hide hl2'
      have K1 := hide hk1
      have K2 := hide hk2
      obtain ⟨la1, lc1, rfl, _, _, _⟩ := hl1'
      obtain ⟨la2, lc2, rfl, _, _, _⟩ := hl2'
      obtain ⟨ka1, kc1, rfl, _, _, _⟩ := hk1
      obtain ⟨ka2, kc2, rfl, _, _, _⟩ := hk2
      go_wp2_with fail
      go_region_with (go_at_call 104; refine (eqNode_any td _ _ _ _ _ ?_ ?_ ?_ ?_).mono ?_; exact L1.out.keep (below_drewN (Below.refl _ _) _); exact L2.out.keep (below_drewN (Below.refl _ _) _); exact K1.out.keep (below_drewN (Below.refl _ _) _); exact K2.out.keep (below_drewN (Below.refl _ _) _); rintro e w1 ⟨rfl, hb⟩)
      all_goals
        go_wp2_with fail
        go_roundw
        case rel => exact ⟨k + 1, by omega, by go_num, hbel.drew.trans (hb.mono hbel.size)⟩
        case measure => simp [intOf]; omega
    · go_wp2_with fail
      go_ret
      exact ⟨rfl, hbel⟩

set_option maxHeartbeats 1000000 in
theorem eqTerm_any (v1 v2 : Value) (ts : List Td) (w : World) (h1 : TNodesAt w v1 ts) (h2 : TNodesAt w v2 ts) :
    Calls Tryz.prog 16 #[.agg #[v1], .agg #[v2]] w fun e w' => e = .returned (.bool true) ∧ Below w.heap.size w w' := by
  have H1 : Hid (∀ o1 o2, TNodesAt ((w.alloc o1).alloc o2) v1 ts) := fun o1 o2 => h1.keep (((Below.refl w.heap.size w).alloc (Nat.le_refl _) o1).alloc (by simp) o2)
  have H2 : Hid (∀ o1 o2, TNodesAt ((w.alloc o1).alloc o2) v2 ts) := fun o1 o2 => h2.keep (((Below.refl w.heap.size w).alloc (Nat.le_refl _) o1).alloc (by simp) o2)
  obtain ⟨a1, cap1, rfl, _, _, _⟩ := h1
  obtain ⟨a2, cap2, rfl, _, _, _⟩ := h2
  go_enter Tryz.func16, Tryz.ntmps16
  go_wp2_with (go_at_call 56; refine (eqNodeS_any _ _ ts _ (H1.out _ _) (H2.out _ _)).mono ?_; rintro e w1 ⟨rfl, hb⟩)
  go_ret
  exact ⟨rfl, (((Below.refl w.heap.size w).alloc (Nat.le_refl _) _).alloc (by simp) _).trans (hb.mono (by simp; omega))⟩
end Go.Proofs.YtbgibiongnhjoaaGreat

/- Rows of terms: what they read, their size, their copies, comparing them, marks and what is held. -/
namespace Go.Proofs.YtbgibiongnhjoaaGreat
open Go.ChangeShapes Go.WideShapes Go.ChangeAt Go.RowKit

/-- A row of terms. -/
def TermsAt (w : World) (v : Value) (tss : List (List Td)) : Prop :=
  ∃ a cap, v = .slice a tss.length cap ∧ tss.length ≤ cap ∧ cap ≤ maxLen ∧
    (0 < tss.length → ∃ b off, a = some ⟨b, off, none⟩ ∧ ∀ i (h : i < tss.length), ∃ u, w.cell? ⟨b, off + i, none⟩ = some u ∧ TNodesAt w u tss[i])
theorem TermsAt.keep {w w' : World} {v : Value} {tss : List (List Td)} (h : TermsAt w v tss) (hb : Below w.heap.size w w') : TermsAt w' v tss := by
  obtain ⟨a, cap, h1, h2, h3, h4⟩ := h
  refine ⟨a, cap, h1, h2, h3, fun h0 => ?_⟩
  obtain ⟨b, off, h5, h6⟩ := h4 h0
  refine ⟨b, off, h5, fun i hi => ?_⟩
  obtain ⟨u, h7, h8⟩ := h6 i hi
  exact ⟨u, keep_cell hb h7, h8.keep hb⟩
/-- A row of terms of the call's own, each within a range of blocks of its own. -/
def TsV (lo hi : Nat) (w : World) (v : Value) (tss : List (List Td)) : Prop :=
  ∃ (xs : List Value) (s t : Nat → Nat), w.ownsRow lo 28 1 v tss.length xs ∧ Rg tss.length lo hi s t ∧ (∀ b, v.ownBlock = some b → b < hi ∧ ∀ i, i < tss.length → b < s i ∨ t i ≤ b) ∧ ∀ i (h : i < tss.length), ∃ u, xs[i]? = some u ∧ TmV (s i) (t i) w u tss[i]
set_option maxHeartbeats 1000000 in
theorem eqTermS_any (v1 v2 : Value) (tss : List (List Td)) (w : World) (h1 : TermsAt w v1 tss) (h2 : TermsAt w v2 tss) :
    Calls Tryz.prog 17 #[v1, v2] w fun e w' => e = .returned (.bool true) ∧ Below w.heap.size w w' := by
  obtain ⟨a1, cap1, rfl, hl1, hm1, hc1⟩ := h1
  obtain ⟨a2, cap2, rfl, hl2, hm2, hc2⟩ := h2
  unfold maxLen at hm1 hm2
  have H1 : Hid (0 < tss.length → ∃ b off, a1 = some ⟨b, off, none⟩ ∧ ∀ i (h : i < tss.length), ∃ u, w.cell? ⟨b, off + i, none⟩ = some u ∧ TNodesAt w u tss[i]) := hc1
  have H2 : Hid (0 < tss.length → ∃ b off, a2 = some ⟨b, off, none⟩ ∧ ∀ i (h : i < tss.length), ∃ u, w.cell? ⟨b, off + i, none⟩ = some u ∧ TNodesAt w u tss[i]) := hc2
  clear hc1 hc2
  go_enter Tryz.func17, Tryz.ntmps17
  go_wp2_with fail
  go_loopw [5] (fun i wr => ∃ (k : Nat), k ≤ tss.length ∧ i = .int .i64 k ∧ Below w.heap.size w wr) (fun i _ => tss.length - (intOf i).toNat)
  case atStart => exact ⟨0, by omega, rfl, Below.refl _ _⟩
  case round =>
    obtain ⟨k, hk, rfl, hbel⟩ := hrel
    by_cases hlt : k < tss.length
    · obtain ⟨b1, o1, rfl, c1⟩ := H1.out (by omega)
      obtain ⟨b2, o2, rfl, c2⟩ := H2.out (by omega)
      obtain ⟨u1, p1, p2⟩ := c1 k hlt
      obtain ⟨u2, q1, q2⟩ := c2 k hlt
      have p1' := keep_cell hbel p1
      have q1' := keep_cell hbel q1
      have P2 := hide (p2.keep hbel)
      have Q2 := hide (q2.keep hbel)
      have hlt' : (k : Int) < tss.length := by omega
      clear c1 c2 H1 H2 p1 q1
      generalize tss[k] = ns at *
      obtain ⟨ua, uc, rfl, _, _, _⟩ := p2
      obtain ⟨va, vc, rfl, _, _, _⟩ := q2
      go_wp2_with fail
      go_region_with (go_at_call 16; refine (eqTerm_any _ _ ns _ ?_ ?_).mono ?_; exact P2.out.keep (below_drewN (Below.refl _ _) _); exact Q2.out.keep (below_drewN (Below.refl _ _) _); rintro e w1 ⟨rfl, hb⟩)
      all_goals
        go_wp2_with fail
        go_roundw
        case rel => exact ⟨k + 1, by omega, by go_num, hbel.drew.trans (hb.mono hbel.size)⟩
        case measure => simp [intOf]; omega
    · go_wp2_with fail
      go_ret
      exact ⟨rfl, hbel⟩

theorem Tryz.info28 : (Tryz.prog.info? 28).map (fun i => (i.zero, i.size, i.bytes)) = some (some (.agg #[.slice none 0 0]), 1, 24) := by kernel_rfl
/-- A term is small enough to be copied and marked. -/
def SmallT (l : List Td) : Prop := l.length ≤ 1048576 ∧ ∀ td ∈ l, TSmall td
/-- How many marks a row of terms takes; a row of marked terms. -/
def costTs : List (List Td) → Nat
  | [] => 0
  | l :: ls => costT l + costTs ls
def markTs (k : Nat) : List (List Td) → List (List Td)
  | [] => []
  | l :: ls => markT k l :: markTs (k + costT l) ls
theorem markTs_len : ∀ (ls : List (List Td)) (k : Nat), (markTs k ls).length = ls.length
  | [], _ => rfl
  | l :: ls, k => by simp [markTs, markTs_len ls]
theorem markTs_get : ∀ (ls : List (List Td)) (k i : Nat) (h : i < ls.length), (markTs k ls)[i]? = some (markT (k + costTs (ls.take i)) ls[i])
  | [], _, _, h => by simp at h
  | l :: ls, k, 0, _ => by simp [markTs, costTs]
  | l :: ls, k, i + 1, h => by
    have := markTs_get ls (k + costT l) i (by simpa using h)
    simp only [markTs, List.getElem?_cons_succ, List.take_succ_cons, costTs, List.getElem_cons_succ]
    rw [this, Nat.add_assoc]
theorem costTs_append (a b : List (List Td)) : costTs (a ++ b) = costTs a + costTs b := by
  induction a with
  | nil => simp [costTs]
  | cons x a ih => simp [costTs, ih]; omega
theorem costTs_snoc (ls : List (List Td)) (i : Nat) (h : i < ls.length) : costTs (ls.take (i + 1)) = costTs (ls.take i) + costT ls[i] := by
  rw [List.take_succ_eq_append_getElem h, costTs_append]; simp [costTs]
theorem costTs_le (ls : List (List Td)) (i : Nat) : costTs (ls.take i) ≤ costTs ls := by
  conv => rhs; rw [← List.take_append_drop i ls, costTs_append]
  omega
set_option maxRecDepth 20000 in
set_option maxHeartbeats 4000000 in
theorem markTermS_V (lo hi : Nat) (v : Value) (ls : List (List Td)) (k0 : Nat) (w : World) (h : TsV lo hi w v ls) (hhi : hi ≤ w.heap.size) (hkl : ∀ l ∈ ls, SmallT l) (hn : ls.length ≤ 1048576) (hk1 : 1 ≤ k0) (hk : k0 + costTs ls ≤ 50000000) :
    Calls Tryz.prog 19 #[v, .int .i64 k0] w fun e w' => e = .returned (.int .i64 ((k0 + costTs ls : Nat) : Int)) ∧ TsV lo hi w' v (markTs k0 ls) ∧ Chg lo hi w w' := by
  obtain ⟨xs, s, t, h1, h2, h3, h5⟩ := h
  obtain ⟨a, cap, rfl⟩ := row_form h1
  have HRG := hide h2
  have HOB := hide h3
  have HKL := hide hkl
  have H0 : Hid (∀ i (h : i < ls.length), ∃ u, xs[i]? = some u ∧ TmV (s i) (t i) w u (if i < 0 then markT (k0 + costTs (ls.take i)) ls[i] else ls[i])) := fun i hi => by
    simpa using h5 i hi
  have HR := hide h1
  clear h2 h3 h5 hkl h1
  go_enter Tryz.func19, Tryz.ntmps19
  go_wp2_with fail
  go_loopw [1, 5] (fun m i wr => ∃ (j K : Nat), j ≤ ls.length ∧ i = .int .i64 j ∧ m = .int .i64 K ∧ Hid (K = k0 + costTs (ls.take j)) ∧ Hid (wr.ownsRow lo 28 1 (.slice a ls.length cap) ls.length xs) ∧ Hid (∀ i (h : i < ls.length), ∃ u, xs[i]? = some u ∧ TmV (s i) (t i) wr u (if i < j then markT (k0 + costTs (ls.take i)) ls[i] else ls[i])) ∧ Hid (Chg lo hi w wr)) (fun _ i _ => ls.length - (intOf i).toNat)
  case atStart => exact ⟨0, k0, by omega, rfl, rfl, by show _ = _; simp [costTs], HR, H0, Chg.refl _ _ _⟩
  case round =>
    obtain ⟨j, K, hj, rfl, rfl, HK, HRJ, HN, HC⟩ := hrel
    clear H0 HR
    have hK1 : 1 ≤ K := by have := HK.out; omega
    have hK2 : K ≤ 50000000 := by have := HK.out; have := costTs_le ls j; omega
    by_cases hlt : j < ls.length
    · have hlt' : (j : Int) < ls.length := by omega
      obtain ⟨R, rfl⟩ := own_some HRJ.out (by omega)
      obtain ⟨v, hv, hnd⟩ := HN.out j hlt
      rw [if_neg (by omega)] at hnd
      obtain ⟨r1, r2, r3⟩ := HRG.out.1 j hlt
      have hsz := HC.out.1.size
      have hxl := HRJ.out.1
      have c1 := HRJ.out.cellAt j (by omega)
      rw [hv] at c1
      obtain ⟨hl1, hl2⟩ := HKL.out ls[j] (List.getElem_mem hlt)
      have HCST : Hid (K + costT ls[j] = k0 + costTs (ls.take (j + 1))) := by show _ = _; rw [costTs_snoc ls j hlt]; have := HK.out; omega
      have HCALL := hide (markNodeS_V (s j) (t j) v ls[j] K wr hnd (by omega) hl2 hl1 hK1 (by have := HCST.out; have := costTs_le ls (j + 1); omega))
      obtain ⟨va, vc, hvf⟩ := hnd.form
      subst hvf
      clear hnd hl2
      go_wp2_with fail
      refine HCALL.out.mono ?_
      rintro e w2 ⟨rfl, hn2, hc2⟩
      have HRJ2 : Hid (w2.ownsRow lo 28 1 (.slice (some ⟨R, 0, none⟩) ls.length cap) ls.length xs) := row_same HRJ.out (fun g hg => hc2.out ((HOB.out g hg).2 j hlt) (World.ownsRow.lt HRJ.out g hg).2)
      have HN2 : Hid (∀ i (h : i < ls.length), ∃ u, xs[i]? = some u ∧ TmV (s i) (t i) w2 u (if i < j + 1 then markT (k0 + costTs (ls.take i)) ls[i] else ls[i])) := by
        show ∀ i, _
        intro i hi
        by_cases e : i = j
        · subst e
          rw [if_pos (by omega), ← HK.out]
          exact ⟨_, hv, hn2⟩
        · obtain ⟨u, q1, q2⟩ := HN.out i hi
          refine ⟨u, q1, ?_⟩
          have e2 : (if i < j + 1 then markT (k0 + costTs (ls.take i)) ls[i] else ls[i]) = (if i < j then markT (k0 + costTs (ls.take i)) ls[i] else ls[i]) := by
            by_cases h : i < j
            · rw [if_pos h, if_pos (by omega)]
            · rw [if_neg h, if_neg (by omega)]
          rw [e2]
          obtain ⟨p1, p2, p3⟩ := HRG.out.1 i hi
          refine q2.same (fun b b1 b2 => hc2.out ?_ (by omega))
          by_cases e3 : i < j
          · have := HRG.out.2 i j e3 hlt; omega
          · have := HRG.out.2 j i (by omega) hi; omega
      have HC2 := hide (HC.out.trans (hc2.mono (lo' := lo) (hi' := hi) r1 r3))
      clear hn2 hc2 HCALL
      generalize costT ls[j] = cj at *
      go_wp2_with fail
      go_roundw
      case rel => exact ⟨j + 1, K + cj, by omega, by go_num, rfl, HCST, HRJ2, HN2, HC2⟩
      case measure => simp [intOf]; omega
    · have hjn : j = ls.length := by omega
      subst hjn
      have HRR : Hid (K = k0 + costTs ls) := by show _ = _; have := HK.out; rwa [List.take_length] at this
      have HE : Hid (TsV lo hi wr (.slice a ls.length cap) (markTs k0 ls)) := by
        show TsV _ _ _ _ _
        have hml := markTs_len ls k0
        refine ⟨xs, s, t, by rw [hml]; exact HRJ.out, by rw [hml]; exact HRG.out, by rw [hml]; exact HOB.out, fun i hi => ?_⟩
        have hi' : i < ls.length := by omega
        obtain ⟨u, q1, q2⟩ := HN.out i hi'
        rw [if_pos hi'] at q2
        have e := markTs_get ls k0 i hi'
        rw [List.getElem?_eq_getElem hi] at e
        rw [Option.some.inj e]
        exact ⟨u, q1, q2⟩
      go_wp2_with fail
      go_ret
      exact ⟨ret_int (by rw [HRR.out]), HE.out, HC.out⟩

set_option maxRecDepth 20000 in
set_option maxHeartbeats 4000000 in
theorem heldTermS_any (v : Value) (ls : List (List Td)) (k0 : Nat) (w : World) (h : TermsAt w v (markTs k0 ls)) (hkl : ∀ l ∈ ls, SmallT l) (hk1 : 1 ≤ k0) (hk : k0 + costTs ls ≤ 50000000) :
    Calls Tryz.prog 21 #[v, .int .i64 k0] w fun e w' => e = .returned (.int .i64 ((k0 + costTs ls : Nat) : Int)) ∧ Below w.heap.size w w' := by
  have HKL := hide hkl
  have hml := markTs_len ls k0
  obtain ⟨a, cap, rfl, h1, h2, hc⟩ := h
  have HC := hide hc
  rw [hml] at h1 ⊢
  unfold maxLen at h2
  have HML := hide hml
  clear hc hkl hml
  go_enter Tryz.func21, Tryz.ntmps21
  go_wp2_with fail
  go_loopw [1, 5] (fun m i wr => ∃ (j K : Nat), j ≤ ls.length ∧ i = .int .i64 j ∧ m = .int .i64 K ∧ Hid (K = k0 + costTs (ls.take j)) ∧ Hid (Below w.heap.size w wr)) (fun _ i _ => ls.length - (intOf i).toNat)
  case atStart => exact ⟨0, k0, by omega, rfl, rfl, by show _ = _; simp [costTs], Below.refl _ _⟩
  case round =>
    obtain ⟨j, K, hj, rfl, rfl, HK, HB⟩ := hrel
    have hK1 : 1 ≤ K := by have := HK.out; omega
    have hK2 : K ≤ 50000000 := by have := HK.out; have := costTs_le ls j; omega
    by_cases hlt : j < ls.length
    · have hlt' : (j : Int) < ls.length := by omega
      obtain ⟨b, off, rfl, hcell⟩ := HC.out (by have := HML.out; omega)
      have hjm : j < (markTs k0 ls).length := by have := HML.out; omega
      obtain ⟨u, c1, hu⟩ := hcell j hjm
      have hget : (markTs k0 ls)[j] = markT K ls[j] := by
        have := markTs_get ls k0 j hlt
        rw [List.getElem?_eq_getElem hjm] at this
        rw [HK.out]
        exact Option.some.inj this
      rw [hget] at hu
      have c1 := keep_cell HB.out c1
      obtain ⟨hl1, hl2⟩ := HKL.out ls[j] (List.getElem_mem hlt)
      have HCST : Hid (K + costT ls[j] = k0 + costTs (ls.take (j + 1))) := by show _ = _; rw [costTs_snoc ls j hlt]; have := HK.out; omega
      have HCALL := hide (heldNodeS_any u ls[j] K wr (hu.keep HB.out) hl2 hK1 (by have := HCST.out; have := costTs_le ls (j + 1); omega))
      obtain ⟨ua, uc, hul, rfl⟩ : ∃ ua uc n, u = .slice ua n uc := by obtain ⟨a, cap, h, _⟩ := hu; exact ⟨_, _, _, h⟩
      clear hcell hget hjm hu hl2
      generalize costT ls[j] = cj at *
      have hneg : decide (((K + cj : Nat) : Int) < 0) = false := by simp; omega
      go_wp2_with fail
      refine HCALL.out.mono ?_
      rintro e w2 ⟨rfl, hb2⟩
      have HB2 := hide (bel_trans HB.out hb2)
      clear hb2 HCALL
      go_wp2_with fail
      go_roundw
      case rel => exact ⟨j + 1, K + cj, by omega, by go_num, rfl, HCST, HB2⟩
      case measure => simp [intOf]; omega
    · have hjn : j = ls.length := by omega
      subst hjn
      have HR : Hid (K = k0 + costTs ls) := by show _ = _; have := HK.out; rwa [List.take_length] at this
      go_wp2_with fail
      go_ret
      exact ⟨ret_int (by rw [HR.out]), HB.out⟩
end Go.Proofs.YtbgibiongnhjoaaGreat
