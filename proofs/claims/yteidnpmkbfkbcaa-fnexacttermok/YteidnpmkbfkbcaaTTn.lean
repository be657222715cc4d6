/- What the copying of a term (toTerm and what it calls) answers: a new term with the same nodes; nothing that was there is written. -/
import Derived.Test.YteidnpmkbfkbcaaTTo
namespace Go.Proofs.Yteidnpmkbfkbcaa
open Go.ChangeShapes Go.WideShapes Go.ChangeAt Go.RowKit

theorem ints_fr {B : Nat} {w : World} {g n cap : Nat} {ks : List Int} (h : IntsAt w (.slice (some ⟨g, 0, none⟩) n cap) ks) (hB : B ≤ g) : Fr B w (fun w => IntsAt w (.slice (some ⟨g, 0, none⟩) n cap) ks) :=
  fun _ hw => h.some (fun _ u => hw _ _ u hB)
theorem lt_alloc3 (w : World) (o1 o2 o3 : Obj) : ((((w.alloc o1).alloc o2).alloc o3)).heap.size = w.heap.size + 1 + 1 + 1 := by simp

set_option maxHeartbeats 1000000 in
theorem toNode_fr (td : Td) (lv kv : Value) (w : World) (hl : LevsAt w lv td.lv) (hk : IntsAt w kv td.kids) (hll : td.lv.length ≤ 1048576) (hlk : ∀ l ∈ td.lv, l.length ≤ 1048576 ∧ ∀ nd ∈ l, nd.kids.length ≤ 1048576) (hkl : td.kids.length ≤ 1048576) :
    Calls Try.prog 155 #[.agg #[.int .i64 td.k, .int .i64 td.n, .int .i64 td.m, .string td.s, lv, kv]] w fun e w' => ∃ gl gk, e = .returned (.agg #[.int .i64 td.k, .int .i64 td.n, .int .i64 td.m, .string td.s, .slice (some ⟨gl, 0, none⟩) td.lv.length td.lv.length, .slice (some ⟨gk, 0, none⟩) td.kids.length td.kids.length]) ∧
      Fr w.heap.size w' (fun w => LevsAt w (.slice (some ⟨gl, 0, none⟩) td.lv.length td.lv.length) td.lv) ∧ Fr w.heap.size w' (fun w => IntsAt w (.slice (some ⟨gk, 0, none⟩) td.kids.length td.kids.length) td.kids) ∧ Below w.heap.size w w' := by
  have b3 : ∀ o1 o2 o3, Below w.heap.size w (((w.alloc o1).alloc o2).alloc o3) := fun o1 o2 o3 => ((((Below.refl w.heap.size w).alloc (Nat.le_refl _) o1).alloc (by simp) o2).alloc (by simp; omega) o3)
  have HB3 := hide b3
  have HL : Hid (∀ o1 o2 o3, LevsAt (((w.alloc o1).alloc o2).alloc o3) lv td.lv) := fun o1 o2 o3 => hl.keep (b3 o1 o2 o3)
  have HK := hide hk
  have HLK := hide hlk
  obtain ⟨la, lc, rfl, _, _, _⟩ := hl
  obtain ⟨ka, kc, rfl, _, _, _⟩ := hk
  clear b3 hlk
  go_enter Try.func155, Try.ntmps155
  go_wp2_with fail
  refine (toLevelS_fr _ td.lv _ (HL.out _ _ _) hll HLK.out).mono ?_
  rintro e w1 ⟨gl, rfl, hfr, hg, hb⟩
  obtain ⟨hc, hf⟩ := bcell hb
  have hz : w.heap.size + 1 + 1 < w1.heap.size := by have := hb.size; simp at this; omega
  have hbel : Below w.heap.size w w1 := (HB3.out _ _ _).trans (hb.mono (by simp; omega))
  simp only [World.size_alloc] at hc hf hg hfr
  have x0 : w1.cell? ⟨w.heap.size + 1 + 1, 0, none⟩ = some (.int .i64 td.k) := by rw [hc _ _ (by omega)]; simp [go_sem]
  have x1 : w1.cell? ⟨w.heap.size + 1 + 1, 1, none⟩ = some (.int .i64 td.n) := by rw [hc _ _ (by omega)]; simp [go_sem]
  have x2 : w1.cell? ⟨w.heap.size + 1 + 1, 2, none⟩ = some (.int .i64 td.m) := by rw [hc _ _ (by omega)]; simp [go_sem]
  have x3 : w1.cell? ⟨w.heap.size + 1 + 1, 3, none⟩ = some (.string td.s) := by rw [hc _ _ (by omega)]; simp [go_sem]
  have x4 : w1.cell? ⟨w.heap.size + 1 + 1, 4, none⟩ = some (.slice none 0 0) := by rw [hc _ _ (by omega)]; simp [go_sem]
  have x5 : w1.cell? ⟨w.heap.size + 1 + 1, 5, none⟩ = some (.slice none 0 0) := by rw [hc _ _ (by omega)]; simp [go_sem]
  have y5 : w1.cell? ⟨w.heap.size, 5, none⟩ = some (.slice ka td.kids.length kc) := by rw [hc _ _ (by omega)]; simp [go_sem]
  have f0 : ∀ o, w1.frozen? ⟨w.heap.size + 1 + 1, o, none⟩ = false := fun o => by rw [hf _ _ (by omega)]; simp [go_sem]
  have r0 : ∀ o, o < 6 → ∃ v, w1.cell? ⟨w.heap.size + 1, o, none⟩ = some v := fun o ho => by
    rw [hc _ _ (by omega)]
    rcases (show o = 0 ∨ o = 1 ∨ o = 2 ∨ o = 3 ∨ o = 4 ∨ o = 5 from by omega) with rfl | rfl | rfl | rfl | rfl | rfl <;> exact ⟨_, by simp [go_sem]; rfl⟩
  have f1 : ∀ o, w1.frozen? ⟨w.heap.size + 1, o, none⟩ = false := fun o => by rw [hf _ _ (by omega)]; simp [go_sem]
  have HFR := hide hfr
  have HBL := hide hbel
  clear hb hfr hbel hc hf
  go_wp2_with fail
  obtain ⟨W1, hW1⟩ : ∃ W1, W1 = w1.setCell ⟨w.heap.size + 1 + 1, 4, none⟩ (.slice (some ⟨gl, 0, none⟩) td.lv.length td.lv.length) := ⟨_, rfl⟩
  rw [← hW1]
  have z0 : W1.cell? ⟨w.heap.size + 1 + 1, 0, none⟩ = some (.int .i64 td.k) := by rw [hW1]; simp [go_sem, x0]
  have z1 : W1.cell? ⟨w.heap.size + 1 + 1, 1, none⟩ = some (.int .i64 td.n) := by rw [hW1]; simp [go_sem, x1]
  have z2 : W1.cell? ⟨w.heap.size + 1 + 1, 2, none⟩ = some (.int .i64 td.m) := by rw [hW1]; simp [go_sem, x2]
  have z3 : W1.cell? ⟨w.heap.size + 1 + 1, 3, none⟩ = some (.string td.s) := by rw [hW1]; simp [go_sem, x3]
  have z4 : W1.cell? ⟨w.heap.size + 1 + 1, 4, none⟩ = some (.slice (some ⟨gl, 0, none⟩) td.lv.length td.lv.length) := by rw [hW1]; simp [go_sem, x4]
  have z5 : W1.cell? ⟨w.heap.size + 1 + 1, 5, none⟩ = some (.slice none 0 0) := by rw [hW1]; simp [go_sem, x5]
  have q0 : ∀ o, W1.frozen? ⟨w.heap.size + 1 + 1, o, none⟩ = false := fun o => by rw [hW1]; simp [go_sem, f0]
  have q1 : ∀ o, W1.frozen? ⟨w.heap.size + 1, o, none⟩ = false := fun o => by rw [hW1]; simp [go_sem, f1]
  have s0 : ∀ o, o < 6 → ∃ v, W1.cell? ⟨w.heap.size + 1, o, none⟩ = some v := fun o ho => by rw [hW1, cell_set (by simp)]; exact r0 o ho
  have hzW : w.heap.size + 1 + 1 < W1.heap.size := by rw [hW1, size_set]; exact hz
  have HBW := hide (show Below w.heap.size w W1 by rw [hW1]; exact HBL.out.setCell (p := ⟨_, _, _⟩) (by show _ ≤ w.heap.size + 1 + 1; omega) _)
  have HFW := hide (show Fr (w.heap.size + 1 + 1 + 1) W1 (fun w => LevsAt w (.slice (some ⟨gl, 0, none⟩) td.lv.length td.lv.length) td.lv) by rw [hW1]; exact HFR.out.set (p := ⟨_, _, _⟩) (by simp) _)
  clear hW1 x0 x1 x2 x3 x4 x5 y5 f0 f1 r0 hz HFR HBL
  refine (toIntS_any _ td.kids _ (HK.out.keep HBW.out) hkl).mono ?_
  rintro e w2 ⟨gk, rfl, hints, hgk, hb2⟩
  obtain ⟨hc, hf⟩ := bcell hb2
  have x0 := keep_cell hb2 z0
  have x1 := keep_cell hb2 z1
  have x2 := keep_cell hb2 z2
  have x3 := keep_cell hb2 z3
  have x4 := keep_cell hb2 z4
  have x5 := keep_cell hb2 z5
  have f0 : ∀ o, w2.frozen? ⟨w.heap.size + 1 + 1, o, none⟩ = false := fun o => by rw [hf _ _ (by omega)]; exact q0 o
  have f1 : ∀ o, w2.frozen? ⟨w.heap.size + 1, o, none⟩ = false := fun o => by rw [hf _ _ (by omega)]; exact q1 o
  obtain ⟨v0, r0⟩ := s0 0 (by omega)
  obtain ⟨v1, r1⟩ := s0 1 (by omega)
  obtain ⟨v2, r2⟩ := s0 2 (by omega)
  obtain ⟨v3, r3⟩ := s0 3 (by omega)
  obtain ⟨v4, r4⟩ := s0 4 (by omega)
  obtain ⟨v5, r5⟩ := s0 5 (by omega)
  have r0 := keep_cell hb2 r0
  have r1 := keep_cell hb2 r1
  have r2 := keep_cell hb2 r2
  have r3 := keep_cell hb2 r3
  have r4 := keep_cell hb2 r4
  have r5 := keep_cell hb2 r5
  have HF2 := hide (HFW.out.keep hb2)
  have HI2 := hide (ints_fr (B := w.heap.size + 1 + 1 + 1) hints (by omega))
  have HB2 := hide (HBW.out.trans (hb2.mono HBW.out.size))
  clear hb2 hc hf hints HFW HBW z0 z1 z2 z3 z4 z5 q0 q1 s0
  go_wp2_with fail
  refine bodyPost_ret (v := .agg #[.int .i64 td.k, .int .i64 td.n, .int .i64 td.m, .string td.s, .slice (some ⟨gl, 0, none⟩) td.lv.length td.lv.length, .slice (some ⟨gk, 0, none⟩) td.kids.length td.kids.length]) (by simp [results, go_sem, r0, r1, r2, r3, r4, r5]) rfl ⟨gl, gk, rfl, ?_, ?_, ?_⟩
  · exact Fr.mono (B := w.heap.size + 1 + 1 + 1) (Fr.set (Fr.set (Fr.set (Fr.set (Fr.set (Fr.set (Fr.set HF2.out (p := ⟨_, _, _⟩) (by dsimp only; omega) _) (p := ⟨_, _, _⟩) (by dsimp only; omega) _) (p := ⟨_, _, _⟩) (by dsimp only; omega) _) (p := ⟨_, _, _⟩) (by dsimp only; omega) _) (p := ⟨_, _, _⟩) (by dsimp only; omega) _) (p := ⟨_, _, _⟩) (by dsimp only; omega) _) (p := ⟨_, _, _⟩) (by dsimp only; omega) _) (by omega)
  · exact Fr.mono (B := w.heap.size + 1 + 1 + 1) (Fr.set (Fr.set (Fr.set (Fr.set (Fr.set (Fr.set (Fr.set HI2.out (p := ⟨_, _, _⟩) (by dsimp only; omega) _) (p := ⟨_, _, _⟩) (by dsimp only; omega) _) (p := ⟨_, _, _⟩) (by dsimp only; omega) _) (p := ⟨_, _, _⟩) (by dsimp only; omega) _) (p := ⟨_, _, _⟩) (by dsimp only; omega) _) (p := ⟨_, _, _⟩) (by dsimp only; omega) _) (p := ⟨_, _, _⟩) (by dsimp only; omega) _) (by omega)
  · exact (Below.setCell (Below.setCell (Below.setCell (Below.setCell (Below.setCell (Below.setCell (Below.setCell HB2.out (p := ⟨_, _, _⟩) (by dsimp only; omega) _) (p := ⟨_, _, _⟩) (by dsimp only; omega) _) (p := ⟨_, _, _⟩) (by dsimp only; omega) _) (p := ⟨_, _, _⟩) (by dsimp only; omega) _) (p := ⟨_, _, _⟩) (by dsimp only; omega) _) (p := ⟨_, _, _⟩) (by dsimp only; omega) _) (p := ⟨_, _, _⟩) (by dsimp only; omega) _)
end Go.Proofs.Yteidnpmkbfkbcaa
