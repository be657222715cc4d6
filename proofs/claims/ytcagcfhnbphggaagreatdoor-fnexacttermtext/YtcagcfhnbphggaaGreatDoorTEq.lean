/- What the comparing of two terms (eqTerm and what it calls) answers at two terms with the same nodes: true; nothing that was there is written. -/
import Derived.Test.YtcagcfhnbphggaaGreatDoorTMem
import Derived.Test.YtcagcfhnbphggaaGreatDoorEq
import Derived.Test.YtcagcfhnbphggaaGreatDoorTree
namespace Go.Proofs.YtcagcfhnbphggaaGreatDoor
open Go.ChangeShapes Go.WideShapes Go.ChangeAt Go.RowKit

set_option maxHeartbeats 1000000 in
theorem eqLevelS_any (v1 v2 : Value) (ls : List (List Nd)) (w : World) (h1 : LevsAt w v1 ls) (h2 : LevsAt w v2 ls) :
    Calls Tryz.prog 58 #[v1, v2] w fun e w' => e = .returned (.bool true) ∧ Below w.heap.size w w' := by
  obtain ⟨a1, cap1, rfl, hl1, hm1, hc1⟩ := h1
  obtain ⟨a2, cap2, rfl, hl2, hm2, hc2⟩ := h2
  unfold maxLen at hm1 hm2
  have H1 : Hid (0 < ls.length → ∃ b off, a1 = some ⟨b, off, none⟩ ∧ ∀ i (h : i < ls.length), ∃ u, w.cell? ⟨b, off + i, none⟩ = some u ∧ NodesAt w u ls[i]) := hc1
  have H2 : Hid (0 < ls.length → ∃ b off, a2 = some ⟨b, off, none⟩ ∧ ∀ i (h : i < ls.length), ∃ u, w.cell? ⟨b, off + i, none⟩ = some u ∧ NodesAt w u ls[i]) := hc2
  clear hc1 hc2
  go_enter Tryz.func58, Tryz.ntmps58
  go_wp2_with fail
  go_loopw [5] (fun i wr => ∃ (k : Nat), k ≤ ls.length ∧ i = .int .i64 k ∧ Below w.heap.size w wr) (fun i _ => ls.length - (intOf i).toNat)
  case atStart => exact ⟨0, by omega, rfl, Below.refl _ _⟩
  case round =>
    obtain ⟨k, hk, rfl, hbel⟩ := hrel
    by_cases hlt : k < ls.length
    · obtain ⟨b1, o1, rfl, c1⟩ := H1.out (by omega)
      obtain ⟨b2, o2, rfl, c2⟩ := H2.out (by omega)
      obtain ⟨u1, p1, p2⟩ := c1 k hlt
      obtain ⟨u2, q1, q2⟩ := c2 k hlt
      have p1' := keep_cell hbel p1
      have q1' := keep_cell hbel q1
      have P2 := hide (p2.keep hbel)
      have Q2 := hide (q2.keep hbel)
      have hlt' : (k : Int) < ls.length := by omega
      clear c1 c2 H1 H2 p1 q1
      generalize ls[k] = ns at *
      obtain ⟨ua, uc, rfl, _, _, _⟩ := p2
      obtain ⟨va, vc, rfl, _, _, _⟩ := q2
      go_wp2_with fail
      go_region_with (go_at_call 76; refine (eqLevel_any _ _ ns _ ?_ ?_).mono ?_; exact P2.out.keep (below_drewN (Below.refl _ _) _); exact Q2.out.keep (below_drewN (Below.refl _ _) _); rintro e w1 ⟨rfl, hb⟩)
      all_goals
        go_wp2_with fail
        go_roundw
        case rel => exact ⟨k + 1, by omega, by go_num, hbel.drew.trans (hb.mono hbel.size)⟩
        case measure => simp [intOf]; omega
    · go_wp2_with fail
      go_ret
      exact ⟨rfl, hbel⟩

set_option maxHeartbeats 1000000 in
theorem eqNode_any (td : Td) (l1 k1 l2 k2 : Value) (w : World) (hl1 : LevsAt w l1 td.lv) (hl2 : LevsAt w l2 td.lv) (h1 : IntsAt w k1 td.kids) (h2 : IntsAt w k2 td.kids) :
    Calls Tryz.prog 36 #[.agg #[.int .i64 td.k, .int .i64 td.n, .int .i64 td.m, .string td.s, l1, k1], .agg #[.int .i64 td.k, .int .i64 td.n, .int .i64 td.m, .string td.s, l2, k2]] w fun e w' => e = .returned (.bool true) ∧ Below w.heap.size w w' := by
  have b2 : ∀ o1 o2, Below w.heap.size w ((w.alloc o1).alloc o2) := fun o1 o2 => (((Below.refl w.heap.size w).alloc (Nat.le_refl _) o1).alloc (by simp) o2)
  have H1 : Hid (∀ o1 o2, IntsAt ((w.alloc o1).alloc o2) k1 td.kids) := fun o1 o2 => h1.keep (b2 o1 o2)
  have H2 : Hid (∀ o1 o2, IntsAt ((w.alloc o1).alloc o2) k2 td.kids) := fun o1 o2 => h2.keep (b2 o1 o2)
  have L1 : Hid (∀ o1 o2, LevsAt ((w.alloc o1).alloc o2) l1 td.lv) := fun o1 o2 => hl1.keep (b2 o1 o2)
  have L2 : Hid (∀ o1 o2, LevsAt ((w.alloc o1).alloc o2) l2 td.lv) := fun o1 o2 => hl2.keep (b2 o1 o2)
  have HB2 := hide b2
  obtain ⟨a1, cap1, rfl, _, _, _⟩ := h1
  obtain ⟨a2, cap2, rfl, _, _, _⟩ := h2
  obtain ⟨la1, lc1, rfl, _, _, _⟩ := hl1
  obtain ⟨la2, lc2, rfl, _, _, _⟩ := hl2
  clear b2
  go_enter Tryz.func36, Tryz.ntmps36
  go_wp2_with fail
  refine (eqLevelS_any _ _ td.lv _ (L1.out _ _) (L2.out _ _)).mono ?_
  rintro e w1 ⟨rfl, hb⟩
  have x1 : w1.cell? ⟨w.heap.size, 5, none⟩ = some (.slice a1 td.kids.length cap1) := keep_cell hb (by simp [go_sem])
  have x2 : w1.cell? ⟨w.heap.size + 1, 5, none⟩ = some (.slice a2 td.kids.length cap2) := keep_cell hb (by simp [go_sem])
  have HB := hide hb
  clear hb
  go_wp2_with (go_at_call 59; refine (eqIntS_any _ _ td.kids _ ((H1.out _ _).keep HB.out) ((H2.out _ _).keep HB.out)).mono ?_; rintro e w2 ⟨rfl, n, rfl⟩)
  go_ret
  exact ⟨rfl, below_drewN ((HB2.out _ _).trans (HB.out.mono (by simp; omega))) n⟩

set_option maxHeartbeats 1000000 in
theorem eqNodeS_any (v1 v2 : Value) (ts : List Td) (w : World) (h1 : TNodesAt w v1 ts) (h2 : TNodesAt w v2 ts) :
    Calls Tryz.prog 20 #[v1, v2] w fun e w' => e = .returned (.bool true) ∧ Below w.heap.size w w' := by
  obtain ⟨a1, cap1, rfl, hl1, hm1, hc1⟩ := h1
  obtain ⟨a2, cap2, rfl, hl2, hm2, hc2⟩ := h2
  unfold maxLen at hm1 hm2
  have H1 : Hid (0 < ts.length → ∃ b off, a1 = some ⟨b, off, none⟩ ∧ ∀ i (h : i < ts.length), TNodeAt w b (off + i * 6) ts[i]) := hc1
  have H2 : Hid (0 < ts.length → ∃ b off, a2 = some ⟨b, off, none⟩ ∧ ∀ i (h : i < ts.length), TNodeAt w b (off + i * 6) ts[i]) := hc2
  clear hc1 hc2
  go_enter Tryz.func20, Tryz.ntmps20
  go_wp2_with fail
  go_loopw [5] (fun i wr => ∃ (k : Nat), k ≤ ts.length ∧ i = .int .i64 k ∧ Below w.heap.size w wr) (fun i _ => ts.length - (intOf i).toNat)
  case atStart => exact ⟨0, by omega, rfl, Below.refl _ _⟩
  case round =>
    obtain ⟨k, hk, rfl, hbel⟩ := hrel
    by_cases hlt : k < ts.length
    · obtain ⟨b1, o1, rfl, c1⟩ := H1.out (by omega)
      obtain ⟨b2, o2, rfl, c2⟩ := H2.out (by omega)
      have n1 := (c1 k hlt).keep hbel
      have n2 := (c2 k hlt).keep hbel
      have hlt' : (k : Int) < ts.length := by omega
      clear c1 c2 H1 H2
      generalize ts[k] = td at *
      obtain ⟨p1, p2, p3, p4, l1, p5, hl1', k1, p6, hk1⟩ := n1
      obtain ⟨q1, q2, q3, q4, l2, q5, hl2', k2, q6, hk2⟩ := n2
      have L1 := hide hl1'
      have L2 := hide hl2'
      have K1 := hide hk1
      have K2 := hide hk2
      obtain ⟨la1, lc1, rfl, _, _, _⟩ := hl1'
      obtain ⟨la2, lc2, rfl, _, _, _⟩ := hl2'
      obtain ⟨ka1, kc1, rfl, _, _, _⟩ := hk1
      obtain ⟨ka2, kc2, rfl, _, _, _⟩ := hk2
      go_wp2_with fail
      go_region_with (go_at_call 36; refine (eqNode_any td _ _ _ _ _ ?_ ?_ ?_ ?_).mono ?_; exact L1.out.keep (below_drewN (Below.refl _ _) _); exact L2.out.keep (below_drewN (Below.refl _ _) _); exact K1.out.keep (below_drewN (Below.refl _ _) _); exact K2.out.keep (below_drewN (Below.refl _ _) _); rintro e w1 ⟨rfl, hb⟩)
      all_goals
        go_wp2_with fail
        go_roundw
        case rel => exact ⟨k + 1, by omega, by go_num, hbel.drew.trans (hb.mono hbel.size)⟩
        case measure => simp [intOf]; omega
    · go_wp2_with fail
      go_ret
      exact ⟨rfl, hbel⟩

set_option maxHeartbeats 1000000 in
theorem eqTerm_any (v1 v2 : Value) (ts : List Td) (w : World) (h1 : TNodesAt w v1 ts) (h2 : TNodesAt w v2 ts) :
    Calls Tryz.prog 9 #[.agg #[v1], .agg #[v2]] w fun e w' => e = .returned (.bool true) ∧ Below w.heap.size w w' := by
  have H1 : Hid (∀ o1 o2, TNodesAt ((w.alloc o1).alloc o2) v1 ts) := fun o1 o2 => h1.keep (((Below.refl w.heap.size w).alloc (Nat.le_refl _) o1).alloc (by simp) o2)
  have H2 : Hid (∀ o1 o2, TNodesAt ((w.alloc o1).alloc o2) v2 ts) := fun o1 o2 => h2.keep (((Below.refl w.heap.size w).alloc (Nat.le_refl _) o1).alloc (by simp) o2)
  obtain ⟨a1, cap1, rfl, _, _, _⟩ := h1
  obtain ⟨a2, cap2, rfl, _, _, _⟩ := h2
  go_enter Tryz.func9, Tryz.ntmps9
  go_wp2_with (go_at_call 20; refine (eqNodeS_any _ _ ts _ (H1.out _ _) (H2.out _ _)).mono ?_; rintro e w1 ⟨rfl, hb⟩)
  go_ret
  exact ⟨rfl, (((Below.refl w.heap.size w).alloc (Nat.le_refl _) _).alloc (by simp) _).trans (hb.mono (by simp; omega))⟩
end Go.Proofs.YtcagcfhnbphggaaGreatDoor
