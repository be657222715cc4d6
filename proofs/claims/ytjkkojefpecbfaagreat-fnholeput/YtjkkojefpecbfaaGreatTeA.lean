/- What the comparing of two levels (eqLevel and what it calls) answers at two levels with the same nodes: true; nothing that was there is written. -/
import Derived.Test.YtjkkojefpecbfaaGreatSmall
import Derived.Deep.RegionWith
import Derived.Test.YtjkkojefpecbfaaGreatMkC
import Derived.Test.YtjkkojefpecbfaaGreatTrA
import Derived.Test.YtjkkojefpecbfaaGreatFlat
import Derived.Test.YtjkkojefpecbfaaGreatSpB
namespace Go.Proofs.YtjkkojefpecbfaaGreat
open Go.ChangeShapes Go.WideShapes Go.ChangeAt Go.RowKit

set_option maxHeartbeats 1000000 in
theorem eqIntS_any (v1 v2 : Value) (ks : List Int) (w : World) (h1 : IntsAt w v1 ks) (h2 : IntsAt w v2 ks) :
    Calls Tryz.prog 152 #[v1, v2] w fun e w' => e = .returned (.bool true) ∧ ∃ n, w' = w.drewN n := by
  obtain ⟨a1, cap1, rfl, hl1, hm1, hc1⟩ := h1
  obtain ⟨a2, cap2, rfl, hl2, hm2, hc2⟩ := h2
  unfold maxLen at hm1 hm2
  have H1 : Hid (0 < ks.length → ∃ b off, a1 = some ⟨b, off, none⟩ ∧ ∀ j (h : j < ks.length), w.cell? ⟨b, off + j, none⟩ = some (.int .i64 ks[j])) := hc1
  have H2 : Hid (0 < ks.length → ∃ b off, a2 = some ⟨b, off, none⟩ ∧ ∀ j (h : j < ks.length), w.cell? ⟨b, off + j, none⟩ = some (.int .i64 ks[j])) := hc2
  clear hc1 hc2
  go_enter Tryz.func152, Tryz.ntmps152
  go_wp2_with fail
  go_loopw [5] (fun i wr => ∃ (k : Nat) (n : Nat), k ≤ ks.length ∧ i = .int .i64 k ∧ wr = w.drewN n) (fun i _ => ks.length - (intOf i).toNat)
  case atStart => exact ⟨0, 0, by omega, rfl, rfl⟩
  case round =>
    obtain ⟨k, n, hk, rfl, rfl⟩ := hrel
    by_cases hlt : k < ks.length
    · obtain ⟨b1, o1, rfl, c1⟩ := H1.out (by omega)
      obtain ⟨b2, o2, rfl, c2⟩ := H2.out (by omega)
      have d1 := c1 k hlt
      have d2 := c2 k hlt
      have hlt' : (k : Int) < ks.length := by omega
      clear c1 c2 H1 H2
      generalize ks[k] = q at *
      go_wp2_with fail
      go_region
      go_wp2_with fail
      go_roundw
      case rel => exact ⟨k + 1, _, by omega, by go_num, rfl⟩
      case measure => simp [intOf]; omega
    · go_wp2_with fail
      go_ret
      exact ⟨rfl, n, rfl⟩

set_option maxHeartbeats 1000000 in
theorem eqLNode_any (nd : Nd) (k1 k2 : Value) (w : World) (h1 : IntsAt w k1 nd.kids) (h2 : IntsAt w k2 nd.kids) :
    Calls Tryz.prog 172 #[.agg #[.int .i64 nd.k, .string nd.s, k1], .agg #[.int .i64 nd.k, .string nd.s, k2]] w fun e w' => e = .returned (.bool true) ∧ Below w.heap.size w w' := by
  have H1 : Hid (∀ o1 o2, IntsAt ((w.alloc o1).alloc o2) k1 nd.kids) := fun o1 o2 => h1.keep (((Below.refl w.heap.size w).alloc (Nat.le_refl _) o1).alloc (by simp) o2)
  have H2 : Hid (∀ o1 o2, IntsAt ((w.alloc o1).alloc o2) k2 nd.kids) := fun o1 o2 => h2.keep (((Below.refl w.heap.size w).alloc (Nat.le_refl _) o1).alloc (by simp) o2)
  obtain ⟨a1, cap1, rfl, _, _, _⟩ := h1
  obtain ⟨a2, cap2, rfl, _, _, _⟩ := h2
  go_enter Tryz.func172, Tryz.ntmps172
  go_wp2_with (go_at_call 152; refine (eqIntS_any _ _ nd.kids _ (H1.out _ _) (H2.out _ _)).mono ?_; rintro e w1 ⟨rfl, n, rfl⟩)
  go_ret
  exact ⟨rfl, below_drewN (((Below.refl w.heap.size w).alloc (Nat.le_refl _) _).alloc (by simp) _) n⟩

set_option maxHeartbeats 1000000 in
theorem eqLNodeS_any (v1 v2 : Value) (ns : List Nd) (w : World) (h1 : NodesAt w v1 ns) (h2 : NodesAt w v2 ns) :
    Calls Tryz.prog 125 #[v1, v2] w fun e w' => e = .returned (.bool true) ∧ Below w.heap.size w w' := by
  obtain ⟨a1, cap1, rfl, hl1, hm1, hc1⟩ := h1
  obtain ⟨a2, cap2, rfl, hl2, hm2, hc2⟩ := h2
  unfold maxLen at hm1 hm2
  have H1 : Hid (0 < ns.length → ∃ b off, a1 = some ⟨b, off, none⟩ ∧ ∀ i (h : i < ns.length), NodeAt w b (off + i * 3) ns[i]) := hc1
  have H2 : Hid (0 < ns.length → ∃ b off, a2 = some ⟨b, off, none⟩ ∧ ∀ i (h : i < ns.length), NodeAt w b (off + i * 3) ns[i]) := hc2
  clear hc1 hc2
  go_enter Tryz.func125, Tryz.ntmps125
  go_wp2_with fail
  go_loopw [5] (fun i wr => ∃ (k : Nat), k ≤ ns.length ∧ i = .int .i64 k ∧ Below w.heap.size w wr) (fun i _ => ns.length - (intOf i).toNat)
  case atStart => exact ⟨0, by omega, rfl, Below.refl _ _⟩
  case round =>
    obtain ⟨k, hk, rfl, hbel⟩ := hrel
    by_cases hlt : k < ns.length
    · obtain ⟨b1, o1, rfl, c1⟩ := H1.out (by omega)
      obtain ⟨b2, o2, rfl, c2⟩ := H2.out (by omega)
      obtain ⟨p1, p2, kv1, p3, p4⟩ := (c1 k hlt).keep (w' := w) (Below.refl _ _)
      obtain ⟨q1, q2, kv2, q3, q4⟩ := (c2 k hlt).keep (w' := w) (Below.refl _ _)
      have p1' := keep_cell hbel p1
      have p2' := keep_cell hbel p2
      have p3' := keep_cell hbel p3
      have p4' := p4.keep hbel
      have q1' := keep_cell hbel q1
      have q2' := keep_cell hbel q2
      have q3' := keep_cell hbel q3
      have q4' := q4.keep hbel
      have hlt' : (k : Int) < ns.length := by omega
      clear c1 c2 H1 H2 p1 p2 p3 p4 q1 q2 q3 q4
      generalize ns[k] = nd at *
      go_wp2_with fail
      go_region_with (go_at_call 172; refine (eqLNode_any nd kv1 kv2 _ ?_ ?_).mono ?_; exact p4'.keep (below_drewN (Below.refl _ _) _); exact q4'.keep (below_drewN (Below.refl _ _) _); rintro e w1 ⟨rfl, hb⟩)
      all_goals
        go_wp2_with fail
        go_roundw
        case rel => exact ⟨k + 1, by omega, by go_num, hbel.drew.trans (hb.mono hbel.size)⟩
        case measure => simp [intOf]; omega
    · go_wp2_with fail
      go_ret
      exact ⟨rfl, hbel⟩

set_option maxHeartbeats 1000000 in
theorem eqLevel_any (v1 v2 : Value) (ns : List Nd) (w : World) (h1 : NodesAt w v1 ns) (h2 : NodesAt w v2 ns) :
    Calls Tryz.prog 74 #[.agg #[v1], .agg #[v2]] w fun e w' => e = .returned (.bool true) ∧ Below w.heap.size w w' := by
  have H1 : Hid (∀ o1 o2, NodesAt ((w.alloc o1).alloc o2) v1 ns) := fun o1 o2 => h1.keep (((Below.refl w.heap.size w).alloc (Nat.le_refl _) o1).alloc (by simp) o2)
  have H2 : Hid (∀ o1 o2, NodesAt ((w.alloc o1).alloc o2) v2 ns) := fun o1 o2 => h2.keep (((Below.refl w.heap.size w).alloc (Nat.le_refl _) o1).alloc (by simp) o2)
  obtain ⟨a1, cap1, rfl, _, _, _⟩ := h1
  obtain ⟨a2, cap2, rfl, _, _, _⟩ := h2
  go_enter Tryz.func74, Tryz.ntmps74
  go_wp2_with (go_at_call 125; refine (eqLNodeS_any _ _ ns _ (H1.out _ _) (H2.out _ _)).mono ?_; rintro e w1 ⟨rfl, hb⟩)
  go_ret
  exact ⟨rfl, (((Below.refl w.heap.size w).alloc (Nat.le_refl _) _).alloc (by simp) _).trans (hb.mono (by simp; omega))⟩
end Go.Proofs.YtjkkojefpecbfaaGreat

/- The copies of terms as rows of the call's own (toNode, toNodeS, toTerm): what a node leads to lies within a range of blocks of its own. -/
namespace Go.Proofs.YtjkkojefpecbfaaGreat
open Go.ChangeShapes Go.WideShapes Go.ChangeAt Go.RowKit

theorem row_mono {b b' : Nat} {w : World} {e : TypeId} {s : Nat} {v : Value} {n : Nat} {xs : List Value} (h : w.ownsRow b e s v n xs) (hb : b' ≤ b) : w.ownsRow b' e s v n xs := by
  refine ⟨h.1, ?_⟩
  rcases h.2 with h1 | ⟨g, cap, cur, h1, h2, h3⟩
  · exact .inl h1
  · exact .inr ⟨g, cap, cur, h1, Nat.le_trans hb h2, h3⟩
end Go.Proofs.YtjkkojefpecbfaaGreat

/- Terms of the call's own: rows of levels and of nodes, what they lead to in ranges of blocks of their own. No program is walked here. -/
namespace Go.Proofs.YtjkkojefpecbfaaGreat
open Go.ChangeShapes Go.WideShapes Go.ChangeAt Go.RowKit

/-- Ranges of blocks, one behind the other. -/
def Rg (n lo hi : Nat) (s t : Nat → Nat) : Prop := (∀ i, i < n → lo ≤ s i ∧ s i ≤ t i ∧ t i ≤ hi) ∧ ∀ i j, i < j → j < n → t i ≤ s j
theorem Rg.mono {n lo hi lo' hi' : Nat} {s t : Nat → Nat} (h : Rg n lo hi s t) (h1 : lo' ≤ lo) (h2 : hi ≤ hi') : Rg n lo' hi' s t :=
  ⟨fun i hi => by have := h.1 i hi; omega, h.2⟩
def rput (f : Nat → Nat) (n x : Nat) : Nat → Nat := fun i => if i = n then x else f i
theorem rput_at (f : Nat → Nat) (n x : Nat) : rput f n x n = x := by simp [rput]
theorem rput_ne (f : Nat → Nat) {n i : Nat} (x : Nat) (h : i ≠ n) : rput f n x i = f i := by simp [rput, h]
theorem Rg.snoc {n lo hi hi' a b : Nat} {s t : Nat → Nat} (h : Rg n lo hi s t) (h1 : lo ≤ hi) (h2 : hi ≤ a) (h3 : a ≤ b) (h4 : b ≤ hi') : Rg (n + 1) lo hi' (rput s n a) (rput t n b) := by
  refine ⟨fun i hi => ?_, fun i j hij hj => ?_⟩
  · by_cases e : i = n
    · subst e; rw [rput_at, rput_at]; omega
    · rw [rput_ne s a e, rput_ne t b e]
      have := h.1 i (by omega)
      omega
  · have ei : i ≠ n := by omega
    rw [rput_ne t b ei]
    by_cases e : j = n
    · subst e; rw [rput_at]; have := h.1 i (by omega); omega
    · rw [rput_ne s a e]; exact h.2 i j hij (by omega)
/-- A row of levels, maybe none; each level within a range of blocks of its own. -/
def LsV (lo hi : Nat) (w : World) (v : Value) (ls : List (List Nd)) : Prop :=
  ∃ (xs : List Value) (s t : Nat → Nat), w.ownsRow lo 111 1 v ls.length xs ∧ Rg ls.length lo hi s t ∧ (∀ b, v.ownBlock = some b → b < hi ∧ ∀ i, i < ls.length → b < s i ∨ t i ≤ b) ∧ ∀ i (h : i < ls.length), ∃ u, xs[i]? = some u ∧ NdR (s i) (t i) w u ls[i]
theorem lsV_nil (lo hi : Nat) (w : World) : LsV lo hi w (.slice none 0 0) [] := ⟨[], fun _ => 0, fun _ => 0, World.ownsRow_nil _ _ _ _, ⟨fun i h => by simp at h, fun i j _ h => by simp at h⟩, fun b h => by simp [Value.ownBlock] at h, fun i h => by simp at h⟩
theorem LsV.same {lo hi : Nat} {w w' : World} {v : Value} {ls : List (List Nd)} (h : LsV lo hi w v ls) (hh : ∀ b, lo ≤ b → b < hi → w'.heap[b]? = w.heap[b]?) : LsV lo hi w' v ls := by
  obtain ⟨xs, s, t, h1, h2, h3, h4⟩ := h
  refine ⟨xs, s, t, row_same h1 (fun g hg => hh g (World.ownsRow.lt h1 g hg).1 (h3 g hg).1), h2, h3, fun i hi => ?_⟩
  obtain ⟨u, a, b⟩ := h4 i hi
  have := h2.1 i hi
  exact ⟨u, a, b.same (fun q q1 q2 => hh q (by omega) (by omega))⟩
theorem LsV.keep {lo hi : Nat} {w w' : World} {v : Value} {ls : List (List Nd)} (h : LsV lo hi w v ls) (hb : Below w.heap.size w w') (hl : hi ≤ w.heap.size) : LsV lo hi w' v ls :=
  h.same fun b _ h4 => hb.block b (by omega)
theorem LsV.levs {lo hi : Nat} {w : World} {v : Value} {ls : List (List Nd)} (h : LsV lo hi w v ls) : LevsAt w v ls := by
  obtain ⟨xs, s, t, h1, _, _, h4⟩ := h
  rcases h1.2 with ⟨h3, h0⟩ | ⟨g, cap, cur, h3, _⟩
  · exact ⟨none, 0, by rw [h3, h0], by omega, by unfold maxLen; omega, fun h => by omega⟩
  · subst h3
    obtain ⟨hc1, hc2⟩ := ownsRow_cap h1
    refine ⟨_, cap, rfl, hc1, hc2, fun _ => ⟨g, 0, rfl, fun i hi => ?_⟩⟩
    obtain ⟨u, a, b⟩ := h4 i hi
    exact ⟨u, by rw [Nat.zero_add, h1.cellAt i (by omega)]; exact a, b.nodes⟩
/-- What a node leads to: its levels within a range of blocks, its kids outside of it. -/
def TdV (lo hi : Nat) (w : World) (lv kv : Value) (td : Td) : Prop :=
  ∃ a c, lo ≤ a ∧ a ≤ c ∧ c ≤ hi ∧ LsV a c w lv td.lv ∧ KidRow lo w kv td.kids ∧ ∀ b, kv.ownBlock = some b → b < hi ∧ (b < a ∨ c ≤ b)
theorem TdV.same {lo hi : Nat} {w w' : World} {lv kv : Value} {td : Td} (h : TdV lo hi w lv kv td) (hh : ∀ b, lo ≤ b → b < hi → w'.heap[b]? = w.heap[b]?) : TdV lo hi w' lv kv td := by
  obtain ⟨a, c, h1, h2, h3, h4, h5, h6⟩ := h
  exact ⟨a, c, h1, h2, h3, h4.same (fun b q1 q2 => hh b (by omega) (by omega)), row_same h5 (fun g hg => hh g (World.ownsRow.lt h5 g hg).1 (h6 g hg).1), h6⟩
theorem TdV.mono {lo hi lo' hi' : Nat} {w : World} {lv kv : Value} {td : Td} (h : TdV lo hi w lv kv td) (h1 : lo' ≤ lo) (h2 : hi ≤ hi') : TdV lo' hi' w lv kv td := by
  obtain ⟨a, c, q1, q2, q3, q4, q5, q6⟩ := h
  exact ⟨a, c, by omega, q2, by omega, q4, q5.mono h1, fun b hb => by have := q6 b hb; omega⟩
/-- A node's cells in a row, and what it leads to. -/
def TdK (lo hi : Nat) (w : World) (xs : List Value) (i : Nat) (td : Td) : Prop :=
  xs[i * 6]? = some (.int .i64 td.k) ∧ xs[i * 6 + 1]? = some (.int .i64 td.n) ∧ xs[i * 6 + 2]? = some (.int .i64 td.m) ∧ xs[i * 6 + 3]? = some (.string td.s) ∧
    ∃ lv kv, xs[i * 6 + 4]? = some lv ∧ xs[i * 6 + 5]? = some kv ∧ TdV lo hi w lv kv td
theorem TdK.same {lo hi : Nat} {w w' : World} {xs : List Value} {i : Nat} {td : Td} (h : TdK lo hi w xs i td) (hh : ∀ b, lo ≤ b → b < hi → w'.heap[b]? = w.heap[b]?) : TdK lo hi w' xs i td := by
  obtain ⟨a, b, c, d, lv, kv, e, f, g⟩ := h
  exact ⟨a, b, c, d, lv, kv, e, f, g.same hh⟩
/-- A term of the call's own: a row of nodes, maybe none, what each leads to in a range of blocks of its own. -/
def TmV (lo hi : Nat) (w : World) (v : Value) (ts : List Td) : Prop :=
  ∃ (xs : List Value) (s t : Nat → Nat), w.ownsRow lo 67 6 v ts.length xs ∧ Rg ts.length lo hi s t ∧ (∀ b, v.ownBlock = some b → b < hi ∧ ∀ i, i < ts.length → b < s i ∨ t i ≤ b) ∧ ∀ i (h : i < ts.length), TdK (s i) (t i) w xs i ts[i]
theorem tmV_nil (lo hi : Nat) (w : World) : TmV lo hi w (.slice none 0 0) [] := ⟨[], fun _ => 0, fun _ => 0, World.ownsRow_nil _ _ _ _, ⟨fun i h => by simp at h, fun i j _ h => by simp at h⟩, fun b h => by simp [Value.ownBlock] at h, fun i h => by simp at h⟩
theorem TmV.same {lo hi : Nat} {w w' : World} {v : Value} {ts : List Td} (h : TmV lo hi w v ts) (hh : ∀ b, lo ≤ b → b < hi → w'.heap[b]? = w.heap[b]?) : TmV lo hi w' v ts := by
  obtain ⟨xs, s, t, h1, h2, h3, h4⟩ := h
  refine ⟨xs, s, t, row_same h1 (fun g hg => hh g (World.ownsRow.lt h1 g hg).1 (h3 g hg).1), h2, h3, fun i hi => ?_⟩
  have := h2.1 i hi
  exact (h4 i hi).same (fun q q1 q2 => hh q (by omega) (by omega))
theorem TmV.keep {lo hi : Nat} {w w' : World} {v : Value} {ts : List Td} (h : TmV lo hi w v ts) (hb : Below w.heap.size w w') (hl : hi ≤ w.heap.size) : TmV lo hi w' v ts :=
  h.same fun b _ h4 => hb.block b (by omega)
theorem TmV.mono {lo hi lo' hi' : Nat} {w : World} {v : Value} {ts : List Td} (h : TmV lo hi w v ts) (h1 : lo' ≤ lo) (h2 : hi ≤ hi') : TmV lo' hi' w v ts := by
  obtain ⟨xs, s, t, a, b, c, d⟩ := h
  exact ⟨xs, s, t, row_mono a h1, b.mono h1 h2, fun q hq => ⟨by have := (c q hq).1; omega, (c q hq).2⟩, d⟩
theorem TmV.form {lo hi : Nat} {w : World} {v : Value} {ts : List Td} (h : TmV lo hi w v ts) : ∃ a cap, v = .slice a ts.length cap := by
  obtain ⟨xs, s, t, h1, _⟩ := h; exact row_form h1
theorem TdV.parts {lo hi : Nat} {w : World} {lv kv : Value} {td : Td} (h : TdV lo hi w lv kv td) : LevsAt w lv td.lv ∧ IntsAt w kv td.kids := by
  obtain ⟨a, c, _, _, _, h4, h5, _⟩ := h
  exact ⟨h4.levs, h5.ints⟩
theorem TmV.nodes {lo hi : Nat} {w : World} {v : Value} {ts : List Td} (h : TmV lo hi w v ts) : TNodesAt w v ts := by
  obtain ⟨xs, s, t, h1, _, _, h4⟩ := h
  rcases h1.2 with ⟨h3, h0⟩ | ⟨g, cap, cur, h3, _⟩
  · exact ⟨none, 0, by rw [h3, h0], by omega, by unfold maxLen; omega, fun h => by omega⟩
  · subst h3
    obtain ⟨hc1, hc2⟩ := ownsRow_cap h1
    refine ⟨_, cap, rfl, hc1, hc2, fun _ => ⟨g, 0, rfl, fun i hi => ?_⟩⟩
    obtain ⟨a, b, c, d, lv, kv, e, f, hv⟩ := h4 i hi
    rw [Nat.zero_add]
    exact ⟨by rw [h1.cellAt _ (by omega)]; exact a, by rw [h1.cellAt _ (by omega)]; exact b, by rw [h1.cellAt _ (by omega)]; exact c, by rw [h1.cellAt _ (by omega)]; exact d, lv, by rw [h1.cellAt _ (by omega)]; exact e, hv.parts.1, kv, by rw [h1.cellAt _ (by omega)]; exact f, hv.parts.2⟩
/-- One level more behind a row of levels. -/
theorem LsV.snoc {lo : Nat} {w W w4 : World} {v u : Value} {g4 cap4 s0 : Nat} {ls : List (List Nd)} {l : List Nd} {xs : List Value} {s t : Nat → Nat} (hlo : lo ≤ w.heap.size) (hbw : Below w.heap.size w W) (h1 : w.ownsRow lo 111 1 v ls.length xs) (h2 : Rg ls.length lo w.heap.size s t) (h3 : ∀ b, v.ownBlock = some b → b < w.heap.size ∧ ∀ i, i < ls.length → b < s i ∨ t i ≤ b) (h4 : ∀ i (h : i < ls.length), ∃ u, xs[i]? = some u ∧ NdR (s i) (t i) w u ls[i])
    (hs0 : w.heap.size ≤ s0) (hu : NdR s0 W.heap.size W u l) (hs1 : s0 ≤ W.heap.size) (hg : W.grownBy w4 v.ownBlock) (hat : v.ownBlock = some g4 ∨ W.heap.size ≤ g4) (hlt : g4 < w4.heap.size) (h5 : w4.ownsRow lo 111 1 (.slice (some ⟨g4, 0, none⟩) (ls.length + 1) cap4) (ls.length + 1) (xs ++ [u])) : LsV lo w4.heap.size w4 (.slice (some ⟨g4, 0, none⟩) (ls.length + 1) cap4) (ls ++ [l]) := by
  have hl := h1.1
  have hsz := hbw.size
  have hsz4 := hg.size
  have hvb : ∀ b, v.ownBlock = some b → b < w.heap.size := fun b hb => (h3 b hb).1
  refine ⟨xs ++ [u], rput s ls.length s0, rput t ls.length W.heap.size, by simpa using h5, by simpa using h2.snoc hlo hs0 hs1 hsz4, fun b hb => ?_, fun i hi => ?_⟩
  · have e : b = g4 := by simp [Value.ownBlock] at hb; omega
    subst e
    refine ⟨hlt, fun i hi => ?_⟩
    by_cases e : i = ls.length
    · subst e
      rw [rput_at, rput_at]
      rcases hat with h | h
      · have := hvb b h; omega
      · omega
    · have hi' : i < ls.length := by simp at hi; omega
      rw [rput_ne s _ e, rput_ne t _ e]
      rcases hat with h | h
      · exact (h3 b h).2 i hi'
      · have := h2.1 i hi'; omega
  · by_cases e : i < ls.length
    · obtain ⟨u', a, b⟩ := h4 i e
      have hr := h2.1 i e
      rw [List.getElem_append_left e, rput_ne s _ (by omega), rput_ne t _ (by omega)]
      refine ⟨u', by rw [List.getElem?_append_left (by omega)]; exact a, b.same (fun q q1 q2 => ?_)⟩
      rw [hg.block q (by omega) (fun e2 => by have := (h3 q e2.symm).2 i e; omega)]
      exact hbw.block q (by omega)
    · have e2 : i = ls.length := by simp at hi; omega
      subst e2
      rw [List.getElem_append_right (Nat.le_refl _), rput_at, rput_at]
      simp only [Nat.sub_self, List.getElem_cons_zero]
      refine ⟨u, ?_, hu.same (fun q q1 q2 => hg.block q q2 (fun e2 => by have := hvb q e2.symm; omega))⟩
      rw [List.getElem?_append_right (by omega), hl, Nat.mul_one, Nat.sub_self]; rfl
end Go.Proofs.YtjkkojefpecbfaaGreat
