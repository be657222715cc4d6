/- Terms of the call's own: rows of levels and of nodes, what they lead to in ranges of blocks of their own. No program is walked here. -/
import Derived.Test.YtjkkojefpecbfaaGreatMkV
import Derived.Test.YtjkkojefpecbfaaGreatSpA
namespace Go.Proofs.YtjkkojefpecbfaaGreat
open Go.ChangeShapes Go.WideShapes Go.ChangeAt Go.RowKit

/-- Ranges of blocks, one behind the other. -/
def Rg (n lo hi : Nat) (s t : Nat → Nat) : Prop := (∀ i, i < n → lo ≤ s i ∧ s i ≤ t i ∧ t i ≤ hi) ∧ ∀ i j, i < j → j < n → t i ≤ s j
theorem Rg.mono {n lo hi lo' hi' : Nat} {s t : Nat → Nat} (h : Rg n lo hi s t) (h1 : lo' ≤ lo) (h2 : hi ≤ hi') : Rg n lo' hi' s t :=
  ⟨fun i hi => by have := h.1 i hi; omega, h.2⟩
def rput (f : Nat → Nat) (n x : Nat) : Nat → Nat := fun i => if i = n then x else f i
theorem rput_at (f : Nat → Nat) (n x : Nat) : rput f n x n = x := by simp [rput]
theorem rput_ne (f : Nat → Nat) {n i : Nat} (x : Nat) (h : i ≠ n) : rput f n x i = f i := by simp [rput, h]
theorem Rg.snoc {n lo hi hi' a b : Nat} {s t : Nat → Nat} (h : Rg n lo hi s t) (h1 : lo ≤ hi) (h2 : hi ≤ a) (h3 : a ≤ b) (h4 : b ≤ hi') : Rg (n + 1) lo hi' (rput s n a) (rput t n b) := by
  refine ⟨fun i hi => ?_, fun i j hij hj => ?_⟩
  · by_cases e : i = n
    · subst e; rw [rput_at, rput_at]; omega
    · rw [rput_ne s a e, rput_ne t b e]
      have := h.1 i (by omega)
      omega
  · have ei : i ≠ n := by omega
    rw [rput_ne t b ei]
    by_cases e : j = n
    · subst e; rw [rput_at]; have := h.1 i (by omega); omega
    · rw [rput_ne s a e]; exact h.2 i j hij (by omega)
/-- A row of levels, maybe none; each level within a range of blocks of its own. -/
def LsV (lo hi : Nat) (w : World) (v : Value) (ls : List (List Nd)) : Prop :=
  ∃ (xs : List Value) (s t : Nat → Nat), w.ownsRow lo 111 1 v ls.length xs ∧ Rg ls.length lo hi s t ∧ (∀ b, v.ownBlock = some b → b < hi ∧ ∀ i, i < ls.length → b < s i ∨ t i ≤ b) ∧ ∀ i (h : i < ls.length), ∃ u, xs[i]? = some u ∧ NdR (s i) (t i) w u ls[i]
theorem lsV_nil (lo hi : Nat) (w : World) : LsV lo hi w (.slice none 0 0) [] := ⟨[], fun _ => 0, fun _ => 0, World.ownsRow_nil _ _ _ _, ⟨fun i h => by simp at h, fun i j _ h => by simp at h⟩, fun b h => by simp [Value.ownBlock] at h, fun i h => by simp at h⟩
theorem LsV.same {lo hi : Nat} {w w' : World} {v : Value} {ls : List (List Nd)} (h : LsV lo hi w v ls) (hh : ∀ b, lo ≤ b → b < hi → w'.heap[b]? = w.heap[b]?) : LsV lo hi w' v ls := by
  obtain ⟨xs, s, t, h1, h2, h3, h4⟩ := h
  refine ⟨xs, s, t, row_same h1 (fun g hg => hh g (World.ownsRow.lt h1 g hg).1 (h3 g hg).1), h2, h3, fun i hi => ?_⟩
  obtain ⟨u, a, b⟩ := h4 i hi
  have := h2.1 i hi
  exact ⟨u, a, b.same (fun q q1 q2 => hh q (by omega) (by omega))⟩
theorem LsV.keep {lo hi : Nat} {w w' : World} {v : Value} {ls : List (List Nd)} (h : LsV lo hi w v ls) (hb : Below w.heap.size w w') (hl : hi ≤ w.heap.size) : LsV lo hi w' v ls :=
  h.same fun b _ h4 => hb.block b (by omega)
theorem LsV.levs {lo hi : Nat} {w : World} {v : Value} {ls : List (List Nd)} (h : LsV lo hi w v ls) : LevsAt w v ls := by
  obtain ⟨xs, s, t, h1, _, _, h4⟩ := h
  rcases h1.2 with ⟨h3, h0⟩ | ⟨g, cap, cur, h3, _⟩
  · exact ⟨none, 0, by rw [h3, h0], by omega, by unfold maxLen; omega, fun h => by omega⟩
  · subst h3
    obtain ⟨hc1, hc2⟩ := ownsRow_cap h1
    refine ⟨_, cap, rfl, hc1, hc2, fun _ => ⟨g, 0, rfl, fun i hi => ?_⟩⟩
    obtain ⟨u, a, b⟩ := h4 i hi
    exact ⟨u, by rw [Nat.zero_add, h1.cellAt i (by omega)]; exact a, b.nodes⟩
/-- What a node leads to: its levels within a range of blocks, its kids outside of it. -/
def TdV (lo hi : Nat) (w : World) (lv kv : Value) (td : Td) : Prop :=
  ∃ a c, lo ≤ a ∧ a ≤ c ∧ c ≤ hi ∧ LsV a c w lv td.lv ∧ KidRow lo w kv td.kids ∧ ∀ b, kv.ownBlock = some b → b < hi ∧ (b < a ∨ c ≤ b)
theorem TdV.same {lo hi : Nat} {w w' : World} {lv kv : Value} {td : Td} (h : TdV lo hi w lv kv td) (hh : ∀ b, lo ≤ b → b < hi → w'.heap[b]? = w.heap[b]?) : TdV lo hi w' lv kv td := by
  obtain ⟨a, c, h1, h2, h3, h4, h5, h6⟩ := h
  exact ⟨a, c, h1, h2, h3, h4.same (fun b q1 q2 => hh b (by omega) (by omega)), row_same h5 (fun g hg => hh g (World.ownsRow.lt h5 g hg).1 (h6 g hg).1), h6⟩
theorem TdV.mono {lo hi lo' hi' : Nat} {w : World} {lv kv : Value} {td : Td} (h : TdV lo hi w lv kv td) (h1 : lo' ≤ lo) (h2 : hi ≤ hi') : TdV lo' hi' w lv kv td := by
  obtain ⟨a, c, q1, q2, q3, q4, q5, q6⟩ := h
  exact ⟨a, c, by omega, q2, by omega, q4, q5.mono h1, fun b hb => by have := q6 b hb; omega⟩
/-- A node's cells in a row, and what it leads to. -/
def TdK (lo hi : Nat) (w : World) (xs : List Value) (i : Nat) (td : Td) : Prop :=
  xs[i * 6]? = some (.int .i64 td.k) ∧ xs[i * 6 + 1]? = some (.int .i64 td.n) ∧ xs[i * 6 + 2]? = some (.int .i64 td.m) ∧ xs[i * 6 + 3]? = some (.string td.s) ∧
    ∃ lv kv, xs[i * 6 + 4]? = some lv ∧ xs[i * 6 + 5]? = some kv ∧ TdV lo hi w lv kv td
theorem TdK.same {lo hi : Nat} {w w' : World} {xs : List Value} {i : Nat} {td : Td} (h : TdK lo hi w xs i td) (hh : ∀ b, lo ≤ b → b < hi → w'.heap[b]? = w.heap[b]?) : TdK lo hi w' xs i td := by
  obtain ⟨a, b, c, d, lv, kv, e, f, g⟩ := h
  exact ⟨a, b, c, d, lv, kv, e, f, g.same hh⟩
/-- A term of the call's own: a row of nodes, maybe none, what each leads to in a range of blocks of its own. -/
def TmV (lo hi : Nat) (w : World) (v : Value) (ts : List Td) : Prop :=
  ∃ (xs : List Value) (s t : Nat → Nat), w.ownsRow lo 67 6 v ts.length xs ∧ Rg ts.length lo hi s t ∧ (∀ b, v.ownBlock = some b → b < hi ∧ ∀ i, i < ts.length → b < s i ∨ t i ≤ b) ∧ ∀ i (h : i < ts.length), TdK (s i) (t i) w xs i ts[i]
theorem tmV_nil (lo hi : Nat) (w : World) : TmV lo hi w (.slice none 0 0) [] := ⟨[], fun _ => 0, fun _ => 0, World.ownsRow_nil _ _ _ _, ⟨fun i h => by simp at h, fun i j _ h => by simp at h⟩, fun b h => by simp [Value.ownBlock] at h, fun i h => by simp at h⟩
theorem TmV.same {lo hi : Nat} {w w' : World} {v : Value} {ts : List Td} (h : TmV lo hi w v ts) (hh : ∀ b, lo ≤ b → b < hi → w'.heap[b]? = w.heap[b]?) : TmV lo hi w' v ts := by
  obtain ⟨xs, s, t, h1, h2, h3, h4⟩ := h
  refine ⟨xs, s, t, row_same h1 (fun g hg => hh g (World.ownsRow.lt h1 g hg).1 (h3 g hg).1), h2, h3, fun i hi => ?_⟩
  have := h2.1 i hi
  exact (h4 i hi).same (fun q q1 q2 => hh q (by omega) (by omega))
theorem TmV.keep {lo hi : Nat} {w w' : World} {v : Value} {ts : List Td} (h : TmV lo hi w v ts) (hb : Below w.heap.size w w') (hl : hi ≤ w.heap.size) : TmV lo hi w' v ts :=
  h.same fun b _ h4 => hb.block b (by omega)
theorem TmV.mono {lo hi lo' hi' : Nat} {w : World} {v : Value} {ts : List Td} (h : TmV lo hi w v ts) (h1 : lo' ≤ lo) (h2 : hi ≤ hi') : TmV lo' hi' w v ts := by
  obtain ⟨xs, s, t, a, b, c, d⟩ := h
  exact ⟨xs, s, t, row_mono a h1, b.mono h1 h2, fun q hq => ⟨by have := (c q hq).1; omega, (c q hq).2⟩, d⟩
theorem TmV.form {lo hi : Nat} {w : World} {v : Value} {ts : List Td} (h : TmV lo hi w v ts) : ∃ a cap, v = .slice a ts.length cap := by
  obtain ⟨xs, s, t, h1, _⟩ := h; exact row_form h1
theorem TdV.parts {lo hi : Nat} {w : World} {lv kv : Value} {td : Td} (h : TdV lo hi w lv kv td) : LevsAt w lv td.lv ∧ IntsAt w kv td.kids := by
  obtain ⟨a, c, _, _, _, h4, h5, _⟩ := h
  exact ⟨h4.levs, h5.ints⟩
theorem TmV.nodes {lo hi : Nat} {w : World} {v : Value} {ts : List Td} (h : TmV lo hi w v ts) : TNodesAt w v ts := by
  obtain ⟨xs, s, t, h1, _, _, h4⟩ := h
  rcases h1.2 with ⟨h3, h0⟩ | ⟨g, cap, cur, h3, _⟩
  · exact ⟨none, 0, by rw [h3, h0], by omega, by unfold maxLen; omega, fun h => by omega⟩
  · subst h3
    obtain ⟨hc1, hc2⟩ := ownsRow_cap h1
    refine ⟨_, cap, rfl, hc1, hc2, fun _ => ⟨g, 0, rfl, fun i hi => ?_⟩⟩
    obtain ⟨a, b, c, d, lv, kv, e, f, hv⟩ := h4 i hi
    rw [Nat.zero_add]
    exact ⟨by rw [h1.cellAt _ (by omega)]; exact a, by rw [h1.cellAt _ (by omega)]; exact b, by rw [h1.cellAt _ (by omega)]; exact c, by rw [h1.cellAt _ (by omega)]; exact d, lv, by rw [h1.cellAt _ (by omega)]; exact e, hv.parts.1, kv, by rw [h1.cellAt _ (by omega)]; exact f, hv.parts.2⟩
/-- One level more behind a row of levels. -/
theorem LsV.snoc {lo : Nat} {w W w4 : World} {v u : Value} {g4 cap4 s0 : Nat} {ls : List (List Nd)} {l : List Nd} {xs : List Value} {s t : Nat → Nat} (hlo : lo ≤ w.heap.size) (hbw : Below w.heap.size w W) (h1 : w.ownsRow lo 111 1 v ls.length xs) (h2 : Rg ls.length lo w.heap.size s t) (h3 : ∀ b, v.ownBlock = some b → b < w.heap.size ∧ ∀ i, i < ls.length → b < s i ∨ t i ≤ b) (h4 : ∀ i (h : i < ls.length), ∃ u, xs[i]? = some u ∧ NdR (s i) (t i) w u ls[i])
    (hs0 : w.heap.size ≤ s0) (hu : NdR s0 W.heap.size W u l) (hs1 : s0 ≤ W.heap.size) (hg : W.grownBy w4 v.ownBlock) (hat : v.ownBlock = some g4 ∨ W.heap.size ≤ g4) (hlt : g4 < w4.heap.size) (h5 : w4.ownsRow lo 111 1 (.slice (some ⟨g4, 0, none⟩) (ls.length + 1) cap4) (ls.length + 1) (xs ++ [u])) : LsV lo w4.heap.size w4 (.slice (some ⟨g4, 0, none⟩) (ls.length + 1) cap4) (ls ++ [l]) := by
  have hl := h1.1
  have hsz := hbw.size
  have hsz4 := hg.size
  have hvb : ∀ b, v.ownBlock = some b → b < w.heap.size := fun b hb => (h3 b hb).1
  refine ⟨xs ++ [u], rput s ls.length s0, rput t ls.length W.heap.size, by simpa using h5, by simpa using h2.snoc hlo hs0 hs1 hsz4, fun b hb => ?_, fun i hi => ?_⟩
  · have e : b = g4 := by simp [Value.ownBlock] at hb; omega
    subst e
    refine ⟨hlt, fun i hi => ?_⟩
    by_cases e : i = ls.length
    · subst e
      rw [rput_at, rput_at]
      rcases hat with h | h
      · have := hvb b h; omega
      · omega
    · have hi' : i < ls.length := by simp at hi; omega
      rw [rput_ne s _ e, rput_ne t _ e]
      rcases hat with h | h
      · exact (h3 b h).2 i hi'
      · have := h2.1 i hi'; omega
  · by_cases e : i < ls.length
    · obtain ⟨u', a, b⟩ := h4 i e
      have hr := h2.1 i e
      rw [List.getElem_append_left e, rput_ne s _ (by omega), rput_ne t _ (by omega)]
      refine ⟨u', by rw [List.getElem?_append_left (by omega)]; exact a, b.same (fun q q1 q2 => ?_)⟩
      rw [hg.block q (by omega) (fun e2 => by have := (h3 q e2.symm).2 i e; omega)]
      exact hbw.block q (by omega)
    · have e2 : i = ls.length := by simp at hi; omega
      subst e2
      rw [List.getElem_append_right (Nat.le_refl _), rput_at, rput_at]
      simp only [Nat.sub_self, List.getElem_cons_zero]
      refine ⟨u, ?_, hu.same (fun q q1 q2 => hg.block q q2 (fun e2 => by have := hvb q e2.symm; omega))⟩
      rw [List.getElem?_append_right (by omega), hl, Nat.mul_one, Nat.sub_self]; rfl
end Go.Proofs.YtjkkojefpecbfaaGreat
