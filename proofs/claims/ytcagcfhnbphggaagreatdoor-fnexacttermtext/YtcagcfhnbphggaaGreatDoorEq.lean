/- What changes a range of blocks alone; what markIntS and heldIntS answer. -/
import Derived.Test.YtcagcfhnbphggaaGreatDoorMkA
import Derived.Test.YtcagcfhnbphggaaGreatDoorTo
import Derived.Deep.RegionWith
namespace Go.Proofs.YtcagcfhnbphggaaGreatDoor
open Go.ChangeShapes Go.WideShapes Go.ChangeAt Go.RowKit

/-- Of what was there only blocks from lo up to hi are changed. -/
def Chg (lo hi : Nat) (w w' : World) : Prop := Below lo w w' ∧ ∀ b, hi ≤ b → b < w.heap.size → w'.heap[b]? = w.heap[b]?
theorem Chg.refl (lo hi : Nat) (w : World) : Chg lo hi w w := ⟨Below.refl _ _, fun _ _ _ => rfl⟩
theorem Chg.trans {lo hi : Nat} {w w1 w2 : World} (h : Chg lo hi w w1) (h2 : Chg lo hi w1 w2) : Chg lo hi w w2 :=
  ⟨h.1.trans h2.1, fun b hb hl => (h2.2 b hb (by have := h.1.size; omega)).trans (h.2 b hb hl)⟩
theorem Chg.of {lo hi : Nat} {w w1 : World} (h : Below w.heap.size w w1) (hl : lo ≤ w.heap.size) : Chg lo hi w w1 := ⟨h.mono hl, fun b _ hb => h.block b hb⟩
theorem Chg.set {lo hi : Nat} (w : World) {p : Addr} (h1 : lo ≤ p.block) (h2 : p.block < hi) (u : Value) : Chg lo hi w (w.setCell p u) :=
  ⟨(Below.refl lo w).setCell h1 u, fun b hb _ => Below.heap_setCell w p u b (by omega)⟩
theorem Chg.grown {lo hi : Nat} {w w1 : World} {r : Option Nat} (hg : w.grownBy w1 r) (hr : ∀ b, r = some b → lo ≤ b ∧ b < hi) (hl : lo ≤ w.heap.size) : Chg lo hi w w1 :=
  ⟨(Below.refl lo w).grown hg hl (fun k hk => (hr k hk).1), fun b hb hlt => hg.block b hlt (fun e => by have := (hr b e.symm).2; omega)⟩
theorem Chg.mono {lo hi lo' hi' : Nat} {w w1 : World} (h : Chg lo hi w w1) (h1 : lo' ≤ lo) (h2 : hi ≤ hi') : Chg lo' hi' w w1 := ⟨h.1.mono h1, fun b hb hl => h.2 b (by omega) hl⟩
/-- A block outside the range is as before. -/
theorem Chg.out {lo hi : Nat} {w w1 : World} (h : Chg lo hi w w1) {b : Nat} (hb : b < lo ∨ hi ≤ b) (hl : b < w.heap.size) : w1.heap[b]? = w.heap[b]? := by
  rcases hb with h1 | h1
  · exact h.1.block b h1
  · exact h.2 b h1 hl
theorem row_same {w w' : World} {base : Nat} {e : TypeId} {s : Nat} {v : Value} {n : Nat} {xs : List Value} (h : w.ownsRow base e s v n xs) (hh : ∀ g, v.ownBlock = some g → w'.heap[g]? = w.heap[g]?) : w'.ownsRow base e s v n xs := by
  refine ⟨h.1, ?_⟩
  rcases h.2 with h1 | ⟨g, cap, cur, h1, h2, h3, h4⟩
  · exact .inl h1
  · exact .inr ⟨g, cap, cur, h1, h2, by rw [hh g (by rw [h1]; rfl)]; exact h3, h4⟩
/-- Numbers from k on. -/
def nums (k n : Nat) : List Int := (List.range n).map (fun j => ((k + j : Nat) : Int))
theorem nums_len (k n : Nat) : (nums k n).length = n := by simp [nums]
theorem nums_get (k n j : Nat) (h : j < n) : (nums k n)[j]'(by rw [nums_len]; exact h) = ((k + j : Nat) : Int) := by simp [nums]
set_option maxRecDepth 20000 in
set_option maxHeartbeats 2000000 in
theorem markIntS_any (lo : Nat) (v : Value) (ks : List Int) (k : Nat) (w : World) (h : KidRow lo w v ks) (hl : ks.length ≤ 1048576) (hk : k ≤ 100000000) :
    Calls Tryz.prog 39 #[v, .int .i64 k] w fun e w' => e = .returned (.int .i64 ((k + ks.length : Nat) : Int)) ∧ KidRow lo w' v (nums k ks.length) ∧ w.grownBy w' v.ownBlock := by
  by_cases h0 : ks.length = 0
  · have hks : ks = [] := List.eq_nil_of_length_eq_zero h0
    subst hks
    have HH := hide (show KidRow lo w v (nums k ([] : List Int).length) from h)
    obtain ⟨a, cap, rfl⟩ := row_form h
    clear h
    go_enter Tryz.func39, Tryz.ntmps39
    go_wp2_with fail
    go_loopw [1, 5] (fun m i wr => m = .int .i64 k ∧ i = .int .i64 0 ∧ w = wr) (fun _ _ _ => 0)
    case atStart => exact ⟨rfl, rfl, rfl⟩
    case round =>
      obtain ⟨rfl, rfl, rfl⟩ := hrel
      go_wp2_with fail
      go_ret
      exact ⟨by simp, HH.out, ⟨rfl, rfl, rfl, Nat.le_refl _, fun _ _ _ => rfl⟩⟩
  · obtain ⟨g, cap, hv⟩ : ∃ g cap, v = .slice (some ⟨g, 0, none⟩) ks.length cap := by
      rcases h.2 with ⟨_, h1⟩ | ⟨g, cap, _, h1, _⟩
      · omega
      · exact ⟨g, cap, h1⟩
    subst hv
    have hown : w.ownsRow lo 3 1 (.slice (some ⟨g, 0, none⟩) ks.length cap) ks.length (ks.map (Value.int .i64)) := h
    have HO := hide hown
    clear h
    go_enter Tryz.func39, Tryz.ntmps39
    go_wp2_with fail
    go_loopw [1, 5] (fun m i wr => ∃ (j : Nat) (xs : List Value), j ≤ ks.length ∧ i = .int .i64 j ∧ m = .int .i64 ((k + j : Nat) : Int) ∧ wr.ownsRow lo 3 1 (.slice (some ⟨g, 0, none⟩) ks.length cap) ks.length xs ∧ Hid (∀ q, q < j → xs[q]? = some (.int .i64 ((k + q : Nat) : Int))) ∧ Hid (w.grownBy wr (some g))) (fun _ i _ => ks.length - (intOf i).toNat)
    case atStart => exact ⟨0, _, by omega, rfl, rfl, HO.out, fun q h => by omega, ⟨rfl, rfl, rfl, Nat.le_refl _, fun _ _ _ => rfl⟩⟩
    case round =>
      obtain ⟨j, xs, hj, rfl, rfl, hownr, HX, HG⟩ := hrel
      clear HO hown
      by_cases hlt : j < ks.length
      · have hlt' : (j : Int) < ks.length := by omega
        have hst := (hownr.stored j (.int .i64 ((k + j : Nat) : Int))).1
        have HST := hide hst
        have hfz := hownr.frozenAt j
        have hce := hownr.cellAt j (by omega)
        have hxl := hownr.1
        rw [List.getElem?_eq_getElem (by omega)] at hce
        have HX2 : Hid (∀ q, q < j + 1 → (xs.set j (.int .i64 ((k + j : Nat) : Int)))[q]? = some (.int .i64 ((k + q : Nat) : Int))) := by
          show ∀ q, _
          intro q hq
          by_cases e : j = q
          · subst e; rw [List.getElem?_set_self (by omega)]
          · rw [List.getElem?_set_ne e]; exact HX.out q (by omega)
        have HG2 := hide (HG.out.trans (grown_set wr ⟨g, j, none⟩ (.int .i64 ((k + j : Nat) : Int))))
        obtain ⟨K, hK⟩ : ∃ K, K = k + j := ⟨_, rfl⟩
        have HKE := hide hK
        rw [← hK] at HST HX2 HG2 ⊢
        have hK2 : K ≤ 200000000 := by omega
        clear hst HX HG hK hownr
        go_wp2_with fail
        go_roundw
        case rel => exact ⟨j + 1, _, by omega, by go_num, by have := HKE.out; rw [show k + (j + 1) = K + 1 by omega]; go_num, HST.out, HX2, HG2⟩
        case measure => simp [intOf]; omega
      · have hjk : j = ks.length := by omega
        subst hjk
        have hxs : xs = (nums k ks.length).map (Value.int .i64) := by
          refine List.ext_getElem? fun q => ?_
          by_cases hq : q < ks.length
          · rw [HX.out q hq, List.getElem?_map, List.getElem?_eq_getElem (by rw [nums_len]; exact hq), nums_get k _ q hq]; rfl
          · have h1 := hownr.1
            rw [List.getElem?_eq_none (by omega), List.getElem?_eq_none (by rw [List.length_map, nums_len]; omega)]
        have HK : Hid (KidRow lo wr (.slice (some ⟨g, 0, none⟩) ks.length cap) (nums k ks.length)) := by
          show _
          unfold KidRow
          rw [nums_len, ← hxs]
          exact hownr
        clear hownr hxs HX
        go_wp2_with fail
        go_ret
        exact ⟨rfl, HK.out, HG.out⟩
end Go.Proofs.YtcagcfhnbphggaaGreatDoor

/- What the comparing of two levels (eqLevel and what it calls) answers at two levels with the same nodes: true; nothing that was there is written. -/
namespace Go.Proofs.YtcagcfhnbphggaaGreatDoor
open Go.ChangeShapes Go.WideShapes Go.ChangeAt Go.RowKit

set_option maxHeartbeats 1000000 in
theorem eqIntS_any (v1 v2 : Value) (ks : List Int) (w : World) (h1 : IntsAt w v1 ks) (h2 : IntsAt w v2 ks) :
    Calls Tryz.prog 59 #[v1, v2] w fun e w' => e = .returned (.bool true) ∧ ∃ n, w' = w.drewN n := by
  obtain ⟨a1, cap1, rfl, hl1, hm1, hc1⟩ := h1
  obtain ⟨a2, cap2, rfl, hl2, hm2, hc2⟩ := h2
  unfold maxLen at hm1 hm2
  have H1 : Hid (0 < ks.length → ∃ b off, a1 = some ⟨b, off, none⟩ ∧ ∀ j (h : j < ks.length), w.cell? ⟨b, off + j, none⟩ = some (.int .i64 ks[j])) := hc1
  have H2 : Hid (0 < ks.length → ∃ b off, a2 = some ⟨b, off, none⟩ ∧ ∀ j (h : j < ks.length), w.cell? ⟨b, off + j, none⟩ = some (.int .i64 ks[j])) := hc2
  clear hc1 hc2
  go_enter Tryz.func59, Tryz.ntmps59
  go_wp2_with fail
  go_loopw [5] (fun i wr => ∃ (k : Nat) (n : Nat), k ≤ ks.length ∧ i = .int .i64 k ∧ wr = w.drewN n) (fun i _ => ks.length - (intOf i).toNat)
  case atStart => exact ⟨0, 0, by omega, rfl, rfl⟩
  case round =>
    obtain ⟨k, n, hk, rfl, rfl⟩ := hrel
    by_cases hlt : k < ks.length
    · obtain ⟨b1, o1, rfl, c1⟩ := H1.out (by omega)
      obtain ⟨b2, o2, rfl, c2⟩ := H2.out (by omega)
      have d1 := c1 k hlt
      have d2 := c2 k hlt
      have hlt' : (k : Int) < ks.length := by omega
      clear c1 c2 H1 H2
      generalize ks[k] = q at *
      go_wp2_with fail
      go_region
      go_wp2_with fail
      go_roundw
      case rel => exact ⟨k + 1, _, by omega, by go_num, rfl⟩
      case measure => simp [intOf]; omega
    · go_wp2_with fail
      go_ret
      exact ⟨rfl, n, rfl⟩

set_option maxHeartbeats 1000000 in
theorem eqLNode_any (nd : Nd) (k1 k2 : Value) (w : World) (h1 : IntsAt w k1 nd.kids) (h2 : IntsAt w k2 nd.kids) :
    Calls Tryz.prog 104 #[.agg #[.int .i64 nd.k, .string nd.s, k1], .agg #[.int .i64 nd.k, .string nd.s, k2]] w fun e w' => e = .returned (.bool true) ∧ Below w.heap.size w w' := by
  have H1 : Hid (∀ o1 o2, IntsAt ((w.alloc o1).alloc o2) k1 nd.kids) := fun o1 o2 => h1.keep (((Below.refl w.heap.size w).alloc (Nat.le_refl _) o1).alloc (by simp) o2)
  have H2 : Hid (∀ o1 o2, IntsAt ((w.alloc o1).alloc o2) k2 nd.kids) := fun o1 o2 => h2.keep (((Below.refl w.heap.size w).alloc (Nat.le_refl _) o1).alloc (by simp) o2)
  obtain ⟨a1, cap1, rfl, _, _, _⟩ := h1
  obtain ⟨a2, cap2, rfl, _, _, _⟩ := h2
  go_enter Tryz.func104, Tryz.ntmps104
  go_wp2_with (go_at_call 59; refine (eqIntS_any _ _ nd.kids _ (H1.out _ _) (H2.out _ _)).mono ?_; rintro e w1 ⟨rfl, n, rfl⟩)
  go_ret
  exact ⟨rfl, below_drewN (((Below.refl w.heap.size w).alloc (Nat.le_refl _) _).alloc (by simp) _) n⟩

set_option maxHeartbeats 1000000 in
theorem eqLNodeS_any (v1 v2 : Value) (ns : List Nd) (w : World) (h1 : NodesAt w v1 ns) (h2 : NodesAt w v2 ns) :
    Calls Tryz.prog 91 #[v1, v2] w fun e w' => e = .returned (.bool true) ∧ Below w.heap.size w w' := by
  obtain ⟨a1, cap1, rfl, hl1, hm1, hc1⟩ := h1
  obtain ⟨a2, cap2, rfl, hl2, hm2, hc2⟩ := h2
  unfold maxLen at hm1 hm2
  have H1 : Hid (0 < ns.length → ∃ b off, a1 = some ⟨b, off, none⟩ ∧ ∀ i (h : i < ns.length), NodeAt w b (off + i * 3) ns[i]) := hc1
  have H2 : Hid (0 < ns.length → ∃ b off, a2 = some ⟨b, off, none⟩ ∧ ∀ i (h : i < ns.length), NodeAt w b (off + i * 3) ns[i]) := hc2
  clear hc1 hc2
  go_enter Tryz.func91, Tryz.ntmps91
  go_wp2_with fail
  go_loopw [5] (fun i wr => ∃ (k : Nat), k ≤ ns.length ∧ i = .int .i64 k ∧ Below w.heap.size w wr) (fun i _ => ns.length - (intOf i).toNat)
  case atStart => exact ⟨0, by omega, rfl, Below.refl _ _⟩
  case round =>
    obtain ⟨k, hk, rfl, hbel⟩ := hrel
    by_cases hlt : k < ns.length
    · obtain ⟨b1, o1, rfl, c1⟩ := H1.out (by omega)
      obtain ⟨b2, o2, rfl, c2⟩ := H2.out (by omega)
      obtain ⟨p1, p2, kv1, p3, p4⟩ := (c1 k hlt).keep (w' := w) (Below.refl _ _)
      obtain ⟨q1, q2, kv2, q3, q4⟩ := (c2 k hlt).keep (w' := w) (Below.refl _ _)
      have p1' := keep_cell hbel p1
      have p2' := keep_cell hbel p2
      have p3' := keep_cell hbel p3
      have p4' := p4.keep hbel
      have q1' := keep_cell hbel q1
      have q2' := keep_cell hbel q2
      have q3' := keep_cell hbel q3
      have q4' := q4.keep hbel
      have hlt' : (k : Int) < ns.length := by omega
      clear c1 c2 H1 H2 p1 p2 p3 p4 q1 q2 q3 q4
      generalize ns[k] = nd at *
      go_wp2_with fail
      go_region_with (go_at_call 104; refine (eqLNode_any nd kv1 kv2 _ ?_ ?_).mono ?_; exact p4'.keep (below_drewN (Below.refl _ _) _); exact q4'.keep (below_drewN (Below.refl _ _) _); rintro e w1 ⟨rfl, hb⟩)
      all_goals
        go_wp2_with fail
        go_roundw
        case rel => exact ⟨k + 1, by omega, by go_num, hbel.drew.trans (hb.mono hbel.size)⟩
        case measure => simp [intOf]; omega
    · go_wp2_with fail
      go_ret
      exact ⟨rfl, hbel⟩

set_option maxHeartbeats 1000000 in
theorem eqLevel_any (v1 v2 : Value) (ns : List Nd) (w : World) (h1 : NodesAt w v1 ns) (h2 : NodesAt w v2 ns) :
    Calls Tryz.prog 76 #[.agg #[v1], .agg #[v2]] w fun e w' => e = .returned (.bool true) ∧ Below w.heap.size w w' := by
  have H1 : Hid (∀ o1 o2, NodesAt ((w.alloc o1).alloc o2) v1 ns) := fun o1 o2 => h1.keep (((Below.refl w.heap.size w).alloc (Nat.le_refl _) o1).alloc (by simp) o2)
  have H2 : Hid (∀ o1 o2, NodesAt ((w.alloc o1).alloc o2) v2 ns) := fun o1 o2 => h2.keep (((Below.refl w.heap.size w).alloc (Nat.le_refl _) o1).alloc (by simp) o2)
  obtain ⟨a1, cap1, rfl, _, _, _⟩ := h1
  obtain ⟨a2, cap2, rfl, _, _, _⟩ := h2
  go_enter Tryz.func76, Tryz.ntmps76
  go_wp2_with (go_at_call 91; refine (eqLNodeS_any _ _ ns _ (H1.out _ _) (H2.out _ _)).mono ?_; rintro e w1 ⟨rfl, hb⟩)
  go_ret
  exact ⟨rfl, (((Below.refl w.heap.size w).alloc (Nat.le_refl _) _).alloc (by simp) _).trans (hb.mono (by simp; omega))⟩
end Go.Proofs.YtcagcfhnbphggaaGreatDoor
