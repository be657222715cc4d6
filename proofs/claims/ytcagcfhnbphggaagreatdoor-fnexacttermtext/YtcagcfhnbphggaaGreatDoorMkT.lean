/- The copies of terms as rows of the call's own (toNode, toNodeS, toTerm): what a node leads to lies within a range of blocks of its own. -/
import Derived.Test.YtcagcfhnbphggaaGreatDoorTTm
namespace Go.Proofs.YtcagcfhnbphggaaGreatDoor
open Go.ChangeShapes Go.WideShapes Go.ChangeAt Go.RowKit

theorem row_mono {b b' : Nat} {w : World} {e : TypeId} {s : Nat} {v : Value} {n : Nat} {xs : List Value} (h : w.ownsRow b e s v n xs) (hb : b' ≤ b) : w.ownsRow b' e s v n xs := by
  refine ⟨h.1, ?_⟩
  rcases h.2 with h1 | ⟨g, cap, cur, h1, h2, h3⟩
  · exact .inl h1
  · exact .inr ⟨g, cap, cur, h1, Nat.le_trans hb h2, h3⟩
theorem LsR.mono {lo hi lo' hi' : Nat} {w : World} {R n cap : Nat} {ls : List (List Nd)} (h : LsR lo hi w R n cap ls) (h1 : lo' ≤ lo) (h2 : hi ≤ hi') : LsR lo' hi' w R n cap ls := by
  obtain ⟨xs, f, a, b, c, d, e⟩ := h
  exact ⟨xs, f, row_mono a h1, b, c, Nat.le_trans d h2, e⟩
/-- What a node leads to: its levels within a range of blocks, its kids behind them. -/
def TdR (lo hi : Nat) (w : World) (lv kv : Value) (td : Td) : Prop :=
  ∃ m gl gk, lv = .slice (some ⟨gl, 0, none⟩) td.lv.length td.lv.length ∧ kv = .slice (some ⟨gk, 0, none⟩) td.kids.length td.kids.length ∧ lo ≤ gl ∧ gl < m ∧ m ≤ gk ∧ gk < hi ∧ LsR lo m w gl td.lv.length td.lv.length td.lv ∧ KidRow m w kv td.kids
theorem TdR.same {lo hi : Nat} {w w' : World} {lv kv : Value} {td : Td} (h : TdR lo hi w lv kv td) (hh : ∀ b, lo ≤ b → b < hi → w'.heap[b]? = w.heap[b]?) : TdR lo hi w' lv kv td := by
  obtain ⟨m, gl, gk, rfl, rfl, h1, h2, h3, h4, h5, h6⟩ := h
  refine ⟨m, gl, gk, rfl, rfl, h1, h2, h3, h4, h5.same (fun b q1 q2 => hh b q1 (by omega)) h2, row_same h6 (fun g hg => ?_)⟩
  simp [Value.ownBlock] at hg
  exact hh g (by omega) (by omega)
theorem TdR.low {lo hi : Nat} {w : World} {lv kv : Value} {td : Td} (h : TdR lo hi w lv kv td) {p : Addr} (hp : p.block < lo) (u : Value) : TdR lo hi (w.setCell p u) lv kv td :=
  h.same fun b hb _ => Below.heap_setCell w p u b (by omega)
theorem TdR.mono {lo hi lo' hi' : Nat} {w : World} {lv kv : Value} {td : Td} (h : TdR lo hi w lv kv td) (h1 : lo' ≤ lo) (h2 : hi ≤ hi') : TdR lo' hi' w lv kv td := by
  obtain ⟨m, gl, gk, a, b, c, d, e, f, g, i⟩ := h
  exact ⟨m, gl, gk, a, b, by omega, d, e, by omega, g.mono h1 (Nat.le_refl _), i⟩

set_option maxRecDepth 20000 in
set_option maxHeartbeats 1000000 in
theorem toNode_own (td : Td) (lv kv : Value) (w : World) (hl : LevsAt w lv td.lv) (hk : IntsAt w kv td.kids) (hll : td.lv.length ≤ 1048576) (hlk : ∀ l ∈ td.lv, l.length ≤ 1048576 ∧ ∀ nd ∈ l, nd.kids.length ≤ 1048576) (hkl : td.kids.length ≤ 1048576) :
    Calls Tryz.prog 31 #[.agg #[.int .i64 td.k, .int .i64 td.n, .int .i64 td.m, .string td.s, lv, kv]] w fun e w' => ∃ gl gk, e = .returned (.agg #[.int .i64 td.k, .int .i64 td.n, .int .i64 td.m, .string td.s, .slice (some ⟨gl, 0, none⟩) td.lv.length td.lv.length, .slice (some ⟨gk, 0, none⟩) td.kids.length td.kids.length]) ∧
      TdR w.heap.size w'.heap.size w' (.slice (some ⟨gl, 0, none⟩) td.lv.length td.lv.length) (.slice (some ⟨gk, 0, none⟩) td.kids.length td.kids.length) td ∧ Below w.heap.size w w' := by
  have b3 : ∀ o1 o2 o3, Below w.heap.size w (((w.alloc o1).alloc o2).alloc o3) := fun o1 o2 o3 => ((((Below.refl w.heap.size w).alloc (Nat.le_refl _) o1).alloc (by simp) o2).alloc (by simp; omega) o3)
  have HB3 := hide b3
  have HL : Hid (∀ o1 o2 o3, LevsAt (((w.alloc o1).alloc o2).alloc o3) lv td.lv) := fun o1 o2 o3 => hl.keep (b3 o1 o2 o3)
  have HK := hide hk
  have HLK := hide hlk
  obtain ⟨la, lc, rfl, _, _, _⟩ := hl
  obtain ⟨ka, kc, rfl, _, _, _⟩ := hk
  clear b3 hlk
  go_enter Tryz.func31, Tryz.ntmps31
  go_wp2_with fail
  refine (toLevelS_own _ td.lv _ (HL.out _ _ _) hll HLK.out).mono ?_
  rintro e w1 ⟨gl, rfl, hfr, hg, hb⟩
  obtain ⟨hc, hf⟩ := bcell hb
  have hz : w.heap.size + 1 + 1 < w1.heap.size := by have := hb.size; simp at this; omega
  have hbel : Below w.heap.size w w1 := (HB3.out _ _ _).trans (hb.mono (by simp; omega))
  simp only [World.size_alloc] at hc hf hg hfr
  have x0 : w1.cell? ⟨w.heap.size + 1 + 1, 0, none⟩ = some (.int .i64 td.k) := by rw [hc _ _ (by omega)]; simp [go_sem]
  have x1 : w1.cell? ⟨w.heap.size + 1 + 1, 1, none⟩ = some (.int .i64 td.n) := by rw [hc _ _ (by omega)]; simp [go_sem]
  have x2 : w1.cell? ⟨w.heap.size + 1 + 1, 2, none⟩ = some (.int .i64 td.m) := by rw [hc _ _ (by omega)]; simp [go_sem]
  have x3 : w1.cell? ⟨w.heap.size + 1 + 1, 3, none⟩ = some (.string td.s) := by rw [hc _ _ (by omega)]; simp [go_sem]
  have x4 : w1.cell? ⟨w.heap.size + 1 + 1, 4, none⟩ = some (.slice none 0 0) := by rw [hc _ _ (by omega)]; simp [go_sem]
  have x5 : w1.cell? ⟨w.heap.size + 1 + 1, 5, none⟩ = some (.slice none 0 0) := by rw [hc _ _ (by omega)]; simp [go_sem]
  have y5 : w1.cell? ⟨w.heap.size, 5, none⟩ = some (.slice ka td.kids.length kc) := by rw [hc _ _ (by omega)]; simp [go_sem]
  have f0 : ∀ o, w1.frozen? ⟨w.heap.size + 1 + 1, o, none⟩ = false := fun o => by rw [hf _ _ (by omega)]; simp [go_sem]
  have r0 : ∀ o, o < 6 → ∃ v, w1.cell? ⟨w.heap.size + 1, o, none⟩ = some v := fun o ho => by
    rw [hc _ _ (by omega)]
    rcases (show o = 0 ∨ o = 1 ∨ o = 2 ∨ o = 3 ∨ o = 4 ∨ o = 5 from by omega) with rfl | rfl | rfl | rfl | rfl | rfl <;> exact ⟨_, by simp [go_sem]; rfl⟩
  have f1 : ∀ o, w1.frozen? ⟨w.heap.size + 1, o, none⟩ = false := fun o => by rw [hf _ _ (by omega)]; simp [go_sem]
  have HFR := hide hfr
  have HBL := hide hbel
  clear hb hfr hbel hc hf
  go_wp2_with fail
  obtain ⟨W1, hW1⟩ : ∃ W1, W1 = w1.setCell ⟨w.heap.size + 1 + 1, 4, none⟩ (.slice (some ⟨gl, 0, none⟩) td.lv.length td.lv.length) := ⟨_, rfl⟩
  rw [← hW1]
  have z0 : W1.cell? ⟨w.heap.size + 1 + 1, 0, none⟩ = some (.int .i64 td.k) := by rw [hW1]; simp [go_sem, x0]
  have z1 : W1.cell? ⟨w.heap.size + 1 + 1, 1, none⟩ = some (.int .i64 td.n) := by rw [hW1]; simp [go_sem, x1]
  have z2 : W1.cell? ⟨w.heap.size + 1 + 1, 2, none⟩ = some (.int .i64 td.m) := by rw [hW1]; simp [go_sem, x2]
  have z3 : W1.cell? ⟨w.heap.size + 1 + 1, 3, none⟩ = some (.string td.s) := by rw [hW1]; simp [go_sem, x3]
  have z4 : W1.cell? ⟨w.heap.size + 1 + 1, 4, none⟩ = some (.slice (some ⟨gl, 0, none⟩) td.lv.length td.lv.length) := by rw [hW1]; simp [go_sem, x4]
  have z5 : W1.cell? ⟨w.heap.size + 1 + 1, 5, none⟩ = some (.slice none 0 0) := by rw [hW1]; simp [go_sem, x5]
  have q0 : ∀ o, W1.frozen? ⟨w.heap.size + 1 + 1, o, none⟩ = false := fun o => by rw [hW1]; simp [go_sem, f0]
  have q1 : ∀ o, W1.frozen? ⟨w.heap.size + 1, o, none⟩ = false := fun o => by rw [hW1]; simp [go_sem, f1]
  have s0 : ∀ o, o < 6 → ∃ v, W1.cell? ⟨w.heap.size + 1, o, none⟩ = some v := fun o ho => by rw [hW1, cell_set (by simp)]; exact r0 o ho
  have hzW : w.heap.size + 1 + 1 < W1.heap.size := by rw [hW1, size_set]; exact hz
  have HBW := hide (show Below w.heap.size w W1 by rw [hW1]; exact HBL.out.setCell (p := ⟨_, _, _⟩) (by show _ ≤ w.heap.size + 1 + 1; omega) _)
  have hgl : gl < w1.heap.size := by obtain ⟨_, _, q, _⟩ := HFR.out; exact (q.lt gl rfl).2
  have hsW : W1.heap.size = w1.heap.size := by rw [hW1, size_set]
  have HFW := hide (show LsR (w.heap.size + 1 + 1 + 1) W1.heap.size W1 gl td.lv.length td.lv.length td.lv by rw [hsW, hW1]; exact HFR.out.same (fun b q1 _ => Below.heap_setCell w1 _ _ b (by dsimp only; omega)) hgl)
  have hgl : gl < W1.heap.size := by rw [hsW]; exact hgl
  clear hW1 hsW x0 x1 x2 x3 x4 x5 y5 f0 f1 r0 hz HFR HBL
  refine (toIntS_own _ td.kids _ (HK.out.keep HBW.out) hkl).mono ?_
  rintro e w2 ⟨gk, rfl, hints, hgk, hb2⟩
  obtain ⟨hc, hf⟩ := bcell hb2
  have x0 := keep_cell hb2 z0
  have x1 := keep_cell hb2 z1
  have x2 := keep_cell hb2 z2
  have x3 := keep_cell hb2 z3
  have x4 := keep_cell hb2 z4
  have x5 := keep_cell hb2 z5
  have f0 : ∀ o, w2.frozen? ⟨w.heap.size + 1 + 1, o, none⟩ = false := fun o => by rw [hf _ _ (by omega)]; exact q0 o
  have f1 : ∀ o, w2.frozen? ⟨w.heap.size + 1, o, none⟩ = false := fun o => by rw [hf _ _ (by omega)]; exact q1 o
  obtain ⟨v0, r0⟩ := s0 0 (by omega)
  obtain ⟨v1, r1⟩ := s0 1 (by omega)
  obtain ⟨v2, r2⟩ := s0 2 (by omega)
  obtain ⟨v3, r3⟩ := s0 3 (by omega)
  obtain ⟨v4, r4⟩ := s0 4 (by omega)
  obtain ⟨v5, r5⟩ := s0 5 (by omega)
  have r0 := keep_cell hb2 r0
  have r1 := keep_cell hb2 r1
  have r2 := keep_cell hb2 r2
  have r3 := keep_cell hb2 r3
  have r4 := keep_cell hb2 r4
  have r5 := keep_cell hb2 r5
  have hgk2 : gk < w2.heap.size := (World.ownsRow.lt hints gk rfl).2
  have HF2 : Hid (TdR (w.heap.size + 1 + 1 + 1) w2.heap.size w2 (.slice (some ⟨gl, 0, none⟩) td.lv.length td.lv.length) (.slice (some ⟨gk, 0, none⟩) td.kids.length td.kids.length) td) := ⟨W1.heap.size, gl, gk, rfl, rfl, hg, hgl, hgk, hgk2, HFW.out.same (fun b _ q2 => hb2.block b q2) hgl, hints⟩
  have hsz2 : w2.heap.size ≤ w2.heap.size := Nat.le_refl _
  have HB2 := hide (HBW.out.trans (hb2.mono HBW.out.size))
  clear hb2 hc hf hints HFW HBW z0 z1 z2 z3 z4 z5 q0 q1 s0
  go_wp2_with fail
  refine bodyPost_ret (v := .agg #[.int .i64 td.k, .int .i64 td.n, .int .i64 td.m, .string td.s, .slice (some ⟨gl, 0, none⟩) td.lv.length td.lv.length, .slice (some ⟨gk, 0, none⟩) td.kids.length td.kids.length]) (by simp [results, go_sem, r0, r1, r2, r3, r4, r5]) rfl ⟨gl, gk, rfl, ?_, ?_⟩
  · exact TdR.mono (TdR.low (TdR.low (TdR.low (TdR.low (TdR.low (TdR.low (TdR.low (HF2.out) (p := ⟨_, _, _⟩) (by dsimp only; omega) _) (p := ⟨_, _, _⟩) (by dsimp only; omega) _) (p := ⟨_, _, _⟩) (by dsimp only; omega) _) (p := ⟨_, _, _⟩) (by dsimp only; omega) _) (p := ⟨_, _, _⟩) (by dsimp only; omega) _) (p := ⟨_, _, _⟩) (by dsimp only; omega) _) (p := ⟨_, _, _⟩) (by dsimp only; omega) _) (by omega) (by simp)
  · exact (Below.setCell (Below.setCell (Below.setCell (Below.setCell (Below.setCell (Below.setCell (Below.setCell HB2.out (p := ⟨_, _, _⟩) (by dsimp only; omega) _) (p := ⟨_, _, _⟩) (by dsimp only; omega) _) (p := ⟨_, _, _⟩) (by dsimp only; omega) _) (p := ⟨_, _, _⟩) (by dsimp only; omega) _) (p := ⟨_, _, _⟩) (by dsimp only; omega) _) (p := ⟨_, _, _⟩) (by dsimp only; omega) _) (p := ⟨_, _, _⟩) (by dsimp only; omega) _)

/-- A node's cells in a row, and what it leads to. -/
def TdC (lo hi : Nat) (w : World) (xs : List Value) (i : Nat) (td : Td) : Prop :=
  xs[i * 6]? = some (.int .i64 td.k) ∧ xs[i * 6 + 1]? = some (.int .i64 td.n) ∧ xs[i * 6 + 2]? = some (.int .i64 td.m) ∧ xs[i * 6 + 3]? = some (.string td.s) ∧
    ∃ lv kv, xs[i * 6 + 4]? = some lv ∧ xs[i * 6 + 5]? = some kv ∧ TdR lo hi w lv kv td
theorem TdC.same {lo hi : Nat} {w w' : World} {xs : List Value} {i : Nat} {td : Td} (h : TdC lo hi w xs i td) (hh : ∀ b, lo ≤ b → b < hi → w'.heap[b]? = w.heap[b]?) : TdC lo hi w' xs i td := by
  obtain ⟨a, b, c, d, lv, kv, e, f, g⟩ := h
  exact ⟨a, b, c, d, lv, kv, e, f, g.same hh⟩
/-- The first k nodes of the row R. -/
def TdsO (w : World) (R : Nat) (xs : List Value) (ts : List Td) (k : Nat) : Prop :=
  ∃ f : Nat → Nat, R < f 0 ∧ (∀ i, i < k → f i ≤ f (i + 1)) ∧ f k ≤ w.heap.size ∧ ∀ i (h : i < ts.length), i < k → TdC (f i) (f (i + 1)) w xs i ts[i]
theorem TdsO.put {w w2 w3 : World} {R : Nat} {xs : List Value} {ts : List Td} {k : Nat} {lv kv : Value} (hx : xs.length = ts.length * 6) (h : TdsO w R xs ts k) (hk : k < ts.length) (hb : Below w.heap.size w w2) (hu : TdR w.heap.size w2.heap.size w2 lv kv ts[k]) (hs3 : w3.heap.size = w2.heap.size) (hw3 : ∀ b, b ≠ R → w3.heap[b]? = w2.heap[b]?) :
    TdsO w3 R ((((((xs.set (k * 6) (.int .i64 ts[k].k)).set (k * 6 + 1) (.int .i64 ts[k].n)).set (k * 6 + 2) (.int .i64 ts[k].m)).set (k * 6 + 3) (.string ts[k].s)).set (k * 6 + 4) lv).set (k * 6 + 5) kv) ts (k + 1) := by
  obtain ⟨f, f1, f2, f3, f4⟩ := h
  have hs := hb.size
  have m0 := mono_le f2 0 k (by omega) (Nat.le_refl _)
  refine ⟨fun i => if i ≤ k then f i else w2.heap.size, by simp; exact f1, fun i hi => ?_, by rw [hs3]; simp only [if_neg (show ¬ k + 1 ≤ k by omega)]; exact Nat.le_refl _, fun i hi hik => ?_⟩
  · by_cases e : i < k
    · simp only [if_pos (show i ≤ k by omega), if_pos (show i + 1 ≤ k by omega)]; exact f2 i e
    · have : i = k := by omega
      subst this
      simp only [if_pos (Nat.le_refl i), if_neg (show ¬ i + 1 ≤ i by omega)]; omega
  · by_cases e : i = k
    · subst e
      simp only [if_pos (Nat.le_refl i), if_neg (show ¬ i + 1 ≤ i by omega)]
      refine ⟨?_, ?_, ?_, ?_, lv, kv, ?_, ?_, (hu.mono f3 (Nat.le_refl _)).same (fun b hb1 _ => hw3 b (by omega))⟩
      · rw [List.getElem?_set_ne (by omega), List.getElem?_set_ne (by omega), List.getElem?_set_ne (by omega), List.getElem?_set_ne (by omega), List.getElem?_set_ne (by omega), List.getElem?_set_self (by omega)]
      · rw [List.getElem?_set_ne (by omega), List.getElem?_set_ne (by omega), List.getElem?_set_ne (by omega), List.getElem?_set_ne (by omega), List.getElem?_set_self (by simp; omega)]
      · rw [List.getElem?_set_ne (by omega), List.getElem?_set_ne (by omega), List.getElem?_set_ne (by omega), List.getElem?_set_self (by simp; omega)]
      · rw [List.getElem?_set_ne (by omega), List.getElem?_set_ne (by omega), List.getElem?_set_self (by simp; omega)]
      · rw [List.getElem?_set_ne (by omega), List.getElem?_set_self (by simp; omega)]
      · rw [List.getElem?_set_self (by simp; omega)]
    · obtain ⟨h1, h2, h3, h4, lv', kv', h5, h6, h7⟩ := f4 i hi (by omega)
      have m1 := mono_le f2 0 i (by omega) (by omega)
      have m2 := mono_le f2 (i + 1) k (by omega) (Nat.le_refl _)
      have hs : ∀ o, o < 6 → ((((((xs.set (k * 6) (.int .i64 ts[k].k)).set (k * 6 + 1) (.int .i64 ts[k].n)).set (k * 6 + 2) (.int .i64 ts[k].m)).set (k * 6 + 3) (.string ts[k].s)).set (k * 6 + 4) lv).set (k * 6 + 5) kv)[i * 6 + o]? = xs[i * 6 + o]? := fun o ho => by
        rw [List.getElem?_set_ne (by omega), List.getElem?_set_ne (by omega), List.getElem?_set_ne (by omega), List.getElem?_set_ne (by omega), List.getElem?_set_ne (by omega), List.getElem?_set_ne (by omega)]
      simp only [if_pos (show i ≤ k by omega), if_pos (show i + 1 ≤ k by omega)]
      refine ⟨?_, ?_, ?_, ?_, lv', kv', ?_, ?_, h7.same (fun q q1 q2 => by rw [hw3 q (by omega)]; exact hb.block q (by omega))⟩
      · exact (hs 0 (by omega)).trans h1
      · rw [hs 1 (by omega)]; exact h2
      · rw [hs 2 (by omega)]; exact h3
      · rw [hs 3 (by omega)]; exact h4
      · rw [hs 4 (by omega)]; exact h5
      · rw [hs 5 (by omega)]; exact h6
/-- A term of the call's own. -/
def TsR (lo hi : Nat) (w : World) (R n cap : Nat) (ts : List Td) : Prop :=
  ∃ (xs : List Value) (f : Nat → Nat), w.ownsRow lo 58 6 (.slice (some ⟨R, 0, none⟩) n cap) n xs ∧ R < f 0 ∧ (∀ i, i < ts.length → f i ≤ f (i + 1)) ∧ f ts.length ≤ hi ∧ ∀ i (h : i < ts.length), TdC (f i) (f (i + 1)) w xs i ts[i]
theorem TsR.lt {lo hi : Nat} {w : World} {R n cap : Nat} {ts : List Td} (h : TsR lo hi w R n cap ts) : lo ≤ R ∧ R < hi ∧ R < w.heap.size := by
  obtain ⟨xs, f, h1, h2, h3, h4, _⟩ := h
  have := mono_le h3 0 ts.length (by omega) (Nat.le_refl _)
  exact ⟨(h1.lt R rfl).1, by omega, (h1.lt R rfl).2⟩
theorem TsR.same {lo hi : Nat} {w w' : World} {R n cap : Nat} {ts : List Td} (h : TsR lo hi w R n cap ts) (hh : ∀ b, lo ≤ b → b < hi → w'.heap[b]? = w.heap[b]?) : TsR lo hi w' R n cap ts := by
  have hlt := h.lt
  obtain ⟨xs, f, h1, h2, h3, h4, h5⟩ := h
  refine ⟨xs, f, row_same h1 (fun g hg => hh g (World.ownsRow.lt h1 g hg).1 (by simp [Value.ownBlock] at hg; omega)), h2, h3, h4, fun i hi => ?_⟩
  have m1 := mono_le h3 0 i (by omega) (by omega)
  have m2 := mono_le h3 (i + 1) ts.length (by omega) (Nat.le_refl _)
  exact (h5 i hi).same (fun q q1 q2 => hh q (by omega) (by omega))
theorem TsR.low {lo hi : Nat} {w : World} {R n cap : Nat} {ts : List Td} (h : TsR lo hi w R n cap ts) {p : Addr} (hp : p.block < lo) (u : Value) : TsR lo hi (w.setCell p u) R n cap ts :=
  h.same fun b hb _ => Below.heap_setCell w p u b (by omega)
theorem TsR.keep {lo hi : Nat} {w w' : World} {R n cap : Nat} {ts : List Td} (h : TsR lo hi w R n cap ts) (hb : Below w.heap.size w w') (hl : hi ≤ w.heap.size) : TsR lo hi w' R n cap ts :=
  h.same fun b _ h4 => hb.block b (by omega)
theorem TsR.mono {lo hi lo' hi' : Nat} {w : World} {R n cap : Nat} {ts : List Td} (h : TsR lo hi w R n cap ts) (h1 : lo' ≤ lo) (h2 : hi ≤ hi') : TsR lo' hi' w R n cap ts := by
  obtain ⟨xs, f, a, b, c, d, e⟩ := h
  exact ⟨xs, f, row_mono a h1, b, c, Nat.le_trans d h2, e⟩
theorem TsR.nodes {lo hi : Nat} {w : World} {R n cap : Nat} {ts : List Td} (h : TsR lo hi w R n cap ts) (hn : ts.length = n) : TNodesAt w (.slice (some ⟨R, 0, none⟩) n cap) ts := by
  obtain ⟨xs, f, h1, _, _, _, h5⟩ := h
  obtain ⟨hc1, hc2⟩ := ownsRow_cap h1
  subst hn
  refine ⟨_, cap, rfl, hc1, hc2, fun _ => ⟨R, 0, rfl, fun i hi => ?_⟩⟩
  obtain ⟨a, b, c, d, lv, kv, e, g, m, gl, gk, rfl, rfl, _, _, _, _, hl, hk⟩ := h5 i hi
  have cc : ∀ o v, o < 6 → xs[i * 6 + o]? = some v → w.cell? ⟨R, i * 6 + o, none⟩ = some v := fun o v ho hv => by rw [h1.cellAt _ (by omega)]; exact hv
  rw [Nat.zero_add]
  exact ⟨cc 0 _ (by omega) a, cc 1 _ (by omega) b, cc 2 _ (by omega) c, cc 3 _ (by omega) d, _, cc 4 _ (by omega) e, hl.levs rfl, _, cc 5 _ (by omega) g, hk.ints⟩

set_option maxRecDepth 20000 in
set_option maxHeartbeats 2000000 in
theorem toNodeS_own (v : Value) (ts : List Td) (w : World) (hn : TNodesAt w v ts) (hl : ts.length ≤ 1048576) (hkl : ∀ td ∈ ts, TSmall td) :
    Calls Tryz.prog 17 #[v] w fun e w' => ∃ g, e = .returned (.slice (some ⟨g, 0, none⟩) ts.length ts.length) ∧ TsR w.heap.size w'.heap.size w' g ts.length ts.length ts ∧ w.heap.size ≤ g ∧ Below w.heap.size w w' := by
  obtain ⟨i0, hi, hz0, hz1, hz2⟩ := info_parts Tryz.info58
  obtain ⟨a, cap, rfl, hlc, hcm, hc⟩ := hn
  have HC : Hid (0 < ts.length → ∃ b off, a = some ⟨b, off, none⟩ ∧ ∀ i (h : i < ts.length), TNodeAt w b (off + i * 6) ts[i]) := hc
  have HK := hide hkl
  clear hc hkl
  go_enter Tryz.func17, Tryz.ntmps17
  go_wp2_with (at_make; refine wpList_make_full _ rfl _ _ 29 rfl w.heap.size 58 i0 (.agg #[.int .i64 0, .int .i64 0, .int .i64 0, .string ⟨#[]⟩, .slice none 0 0, .slice none 0 0]) 6 Tryz.underlying29 hi hz0 hz1 .i64 .i64 _ _ ts.length rfl rfl rfl rfl (by rw [hz2]; omega) (by unfold maxLen; omega) (Nat.le_refl _) ?_; intro w1 hown hgrow)
  go_loopw [4] (fun i wr => ∃ (k : Nat) (xs : List Value), k ≤ ts.length ∧ i = .int .i64 k ∧ wr.ownsRow w.heap.size 58 6 (.slice (some ⟨w.heap.size, 0, none⟩) ts.length ts.length) ts.length xs ∧ Hid (TdsO wr w.heap.size xs ts k) ∧ w.heap.size < wr.heap.size ∧ Below w.heap.size w wr) (fun i _ => ts.length - (intOf i).toNat)
  case atStart => exact ⟨0, _, by omega, rfl, hown, ⟨fun _ => w.heap.size + 1, Nat.lt_succ_self _, fun _ h => by omega, (hown.lt w.heap.size rfl).2, fun _ _ h => by omega⟩, (hown.lt _ rfl).2, (Below.refl _ _).grown hgrow (Nat.le_refl _) (fun k hk => by cases hk)⟩
  case round =>
    obtain ⟨k, xs, hk, rfl, hownr, HX, hsz, hbel⟩ := hrel
    clear hown hgrow
    by_cases hlt : k < ts.length
    · obtain ⟨b, off, ha, hc⟩ := HC.out (by omega)
      subst ha
      obtain ⟨c1, c2, c3, c4, lv, c5, hlv, kv, c6, hkv⟩ := (hc k hlt).keep hbel
      have HSM := hide (HK.out ts[k] (by simp))
      have HLV := hide hlv
      have HKV := hide hkv
      obtain ⟨la, lc, rfl, _, _, _⟩ := hlv
      obtain ⟨ka, kc, rfl, _, _, _⟩ := hkv
      clear hc
      go_wp2_with fail
      refine (toNode_own ts[k] _ _ _ HLV.out HKV.out HSM.out.1 HSM.out.2.1 HSM.out.2.2).mono ?_
      rintro e w2 ⟨gl, gk, rfl, hfl, hb⟩
      have hown2 := row_keep hb hownr
      have hbel2 : Below w.heap.size w w2 := hbel.trans (hb.mono hbel.size)
      have hxl := hown2.1
      have s0 := (hown2.stored (k * 6) (.int .i64 ts[k].k)).1
      have s1 := (s0.stored (k * 6 + 1) (.int .i64 ts[k].n)).1
      have s2 := (s1.stored (k * 6 + 2) (.int .i64 ts[k].m)).1
      have s3 := (s2.stored (k * 6 + 3) (.string ts[k].s)).1
      have s4 := (s3.stored (k * 6 + 4) (.slice (some ⟨gl, 0, none⟩) ts[k].lv.length ts[k].lv.length)).1
      have s5 := (s4.stored (k * 6 + 5) (.slice (some ⟨gk, 0, none⟩) ts[k].kids.length ts[k].kids.length)).1
      have f0 := hown2.frozenAt (k * 6)
      have f1 := hown2.frozenAt (k * 6 + 1)
      have f2 := hown2.frozenAt (k * 6 + 2)
      have f3 := hown2.frozenAt (k * 6 + 3)
      have f4 := hown2.frozenAt (k * 6 + 4)
      have f5 := hown2.frozenAt (k * 6 + 5)
      have e0 := hown2.cellAt (k * 6) (by omega)
      have e1 := hown2.cellAt (k * 6 + 1) (by omega)
      have e2 := hown2.cellAt (k * 6 + 2) (by omega)
      have e3 := hown2.cellAt (k * 6 + 3) (by omega)
      have e4 := hown2.cellAt (k * 6 + 4) (by omega)
      have e5 := hown2.cellAt (k * 6 + 5) (by omega)
      rw [List.getElem?_eq_getElem (by omega)] at e0 e1 e2 e3 e4 e5
      have hsz2 : w.heap.size < w2.heap.size := by have := hb.size; omega
      have HP := hide (HX.out.put (w3 := (((((w2.setCell ⟨w.heap.size, k * 6, none⟩ (.int .i64 ts[k].k)).setCell ⟨w.heap.size, k * 6 + 1, none⟩ (.int .i64 ts[k].n)).setCell ⟨w.heap.size, k * 6 + 2, none⟩ (.int .i64 ts[k].m)).setCell ⟨w.heap.size, k * 6 + 3, none⟩ (.string ts[k].s)).setCell ⟨w.heap.size, k * 6 + 4, none⟩ (.slice (some ⟨gl, 0, none⟩) ts[k].lv.length ts[k].lv.length)).setCell ⟨w.heap.size, k * 6 + 5, none⟩ (.slice (some ⟨gk, 0, none⟩) ts[k].kids.length ts[k].kids.length)) (by omega) hlt hb hfl (by simp) (fun b hb2 => by rw [Below.heap_setCell _ _ _ _ hb2, Below.heap_setCell _ _ _ _ hb2, Below.heap_setCell _ _ _ _ hb2, Below.heap_setCell _ _ _ _ hb2, Below.heap_setCell _ _ _ _ hb2, Below.heap_setCell _ _ _ _ hb2]))
      have HB2 := hide hbel2
      clear HX hfl hown2 hownr s0 s1 s2 s3 s4 hb c1 c2 c3 c4 c5 c6 hbel2
      go_wp2_with fail
      go_roundw
      case rel => exact ⟨k + 1, _, by omega, by go_num, s5, HP, by simpa [World.setCell] using hsz2, (((((HB2.out.setCell (p := ⟨_, _, _⟩) (Nat.le_refl _) _).setCell (p := ⟨_, _, _⟩) (Nat.le_refl _) _).setCell (p := ⟨_, _, _⟩) (Nat.le_refl _) _).setCell (p := ⟨_, _, _⟩) (Nat.le_refl _) _).setCell (p := ⟨_, _, _⟩) (Nat.le_refl _) _).setCell (p := ⟨_, _, _⟩) (Nat.le_refl _) _⟩
      case measure => simp [intOf]; omega
    · have hall : TsR w.heap.size wr.heap.size wr w.heap.size ts.length ts.length ts := by
        have hx := HX.out
        rw [show k = ts.length from by omega] at hx
        obtain ⟨f, f1, f2, f3, f4⟩ := hx
        exact ⟨xs, f, hownr, f1, f2, f3, fun i hi => f4 i hi hi⟩
      go_wp2_with fail
      go_ret
      exact ⟨_, rfl, hall, Nat.le_refl _, hbel⟩

set_option maxRecDepth 20000 in
set_option maxHeartbeats 1000000 in
theorem toTerm_own (v : Value) (ts : List Td) (w : World) (hn : TNodesAt w v ts) (hl : ts.length ≤ 1048576) (hkl : ∀ td ∈ ts, TSmall td) :
    Calls Tryz.prog 6 #[.agg #[v]] w fun e w' => ∃ g, e = .returned (.agg #[.slice (some ⟨g, 0, none⟩) ts.length ts.length]) ∧ TsR w.heap.size w'.heap.size w' g ts.length ts.length ts ∧ w.heap.size ≤ g ∧ Below w.heap.size w w' := by
  have HN : Hid (∀ o1 o2 o3, TNodesAt (((w.alloc o1).alloc o2).alloc o3) v ts) := fun o1 o2 o3 => hn.keep ((((Below.refl w.heap.size w).alloc (Nat.le_refl _) o1).alloc (by simp) o2).alloc (by simp; omega) o3)
  have HK := hide hkl
  obtain ⟨a, cap, rfl, hlc, hcm, _⟩ := hn
  clear hkl
  go_enter Tryz.func6, Tryz.ntmps6
  go_wp2_with fail
  refine (toNodeS_own _ ts _ (HN.out _ _ _) hl HK.out).mono ?_
  rintro e w1 ⟨g, rfl, hnodes, hg, hb⟩
  obtain ⟨hc, hf⟩ := bcell hb
  have hz : w.heap.size + 1 + 1 < w1.heap.size := by have := hb.size; simp at this; omega
  have hbel : Below w.heap.size w w1 := ((((Below.refl w.heap.size w).alloc (Nat.le_refl _) _).alloc (by simp) _).alloc (by simp; omega) _).trans (hb.mono (by simp; omega))
  simp only [World.size_alloc] at hc hf hg hnodes
  clear hb
  go_wp2_with fail
  refine bodyPost_ret (v := .agg #[.slice (some ⟨g, 0, none⟩) ts.length ts.length]) (by simp [results, go_sem, hc]) rfl ⟨g, rfl, ?_, by omega, ?_⟩
  · exact TsR.mono (TsR.low (TsR.low hnodes (p := ⟨_, _, _⟩) (by dsimp only; omega) _) (p := ⟨_, _, _⟩) (by dsimp only; omega) _) (by omega) (by simp)
  · exact (hbel.setCell (p := ⟨_, _, _⟩) (by show _ ≤ w.heap.size + 1 + 1; omega) _).setCell (p := ⟨_, _, _⟩) (by show _ ≤ w.heap.size + 1; omega) _
end Go.Proofs.YtcagcfhnbphggaaGreatDoor
