/- What the copying of a term (toTerm and what it calls) answers: a new term with the same nodes; nothing that was there is written. -/
import Derived.Test.YtpmpooekpeocdaaGreatTTo
namespace Go.Proofs.YtpmpooekpeocdaaGreat
open Go.ChangeShapes Go.WideShapes Go.ChangeAt Go.RowKit

theorem ints_fr {B : Nat} {w : World} {g n cap : Nat} {ks : List Int} (h : IntsAt w (.slice (some ⟨g, 0, none⟩) n cap) ks) (hB : B ≤ g) : Fr B w (fun w => IntsAt w (.slice (some ⟨g, 0, none⟩) n cap) ks) :=
  fun _ hw => h.some (fun _ u => hw _ _ u hB)
set_option maxHeartbeats 1000000 in
theorem toNode_fr (td : Td) (lv kv : Value) (w : World) (hl : LevsAt w lv td.lv) (hk : IntsAt w kv td.kids) (hll : td.lv.length ≤ 1048576) (hlk : ∀ l ∈ td.lv, l.length ≤ 1048576 ∧ ∀ nd ∈ l, nd.kids.length ≤ 1048576) (hkl : td.kids.length ≤ 1048576) :
    Calls Tryz.prog 109 #[.agg #[.int .i64 td.k, .int .i64 td.n, .int .i64 td.m, .string td.s, lv, kv]] w fun e w' => ∃ gl gk, e = .returned (.agg #[.int .i64 td.k, .int .i64 td.n, .int .i64 td.m, .string td.s, .slice (some ⟨gl, 0, none⟩) td.lv.length td.lv.length, .slice (some ⟨gk, 0, none⟩) td.kids.length td.kids.length]) ∧
      Fr w.heap.size w' (fun w => LevsAt w (.slice (some ⟨gl, 0, none⟩) td.lv.length td.lv.length) td.lv) ∧ Fr w.heap.size w' (fun w => IntsAt w (.slice (some ⟨gk, 0, none⟩) td.kids.length td.kids.length) td.kids) ∧ Below w.heap.size w w' := by
  have b3 : ∀ o1 o2 o3, Below w.heap.size w (((w.alloc o1).alloc o2).alloc o3) := fun o1 o2 o3 => ((((Below.refl w.heap.size w).alloc (Nat.le_refl _) o1).alloc (by simp) o2).alloc (by simp; omega) o3)
  have HB3 := hide b3
  have HL : Hid (∀ o1 o2 o3, LevsAt (((w.alloc o1).alloc o2).alloc o3) lv td.lv) := fun o1 o2 o3 => hl.keep (b3 o1 o2 o3)
  have HK := hide hk
  have HLK := hide hlk
  obtain ⟨la, lc, rfl, _, _, _⟩ := hl
  obtain ⟨ka, kc, rfl, _, _, _⟩ := hk
  clear b3 hlk
  go_enter Tryz.func109, Tryz.ntmps109
  go_wp2_with fail
  refine (toLevelS_fr _ td.lv _ (HL.out _ _ _) hll HLK.out).mono ?_
  rintro e w1 ⟨gl, rfl, hfr, hg, hb⟩
  obtain ⟨hc, hf⟩ := bcell hb
  have hz : w.heap.size + 1 + 1 < w1.heap.size := by have := hb.size; simp at this; omega
  have hbel : Below w.heap.size w w1 := (HB3.out _ _ _).trans (hb.mono (by simp; omega))
  simp only [World.size_alloc] at hc hf hg hfr
  have x0 : w1.cell? ⟨w.heap.size + 1 + 1, 0, none⟩ = some (.int .i64 td.k) := by rw [hc _ _ (by omega)]; simp [go_sem]
  have x1 : w1.cell? ⟨w.heap.size + 1 + 1, 1, none⟩ = some (.int .i64 td.n) := by rw [hc _ _ (by omega)]; simp [go_sem]
  have x2 : w1.cell? ⟨w.heap.size + 1 + 1, 2, none⟩ = some (.int .i64 td.m) := by rw [hc _ _ (by omega)]; simp [go_sem]
  have x3 : w1.cell? ⟨w.heap.size + 1 + 1, 3, none⟩ = some (.string td.s) := by rw [hc _ _ (by omega)]; simp [go_sem]
  have x4 : w1.cell? ⟨w.heap.size + 1 + 1, 4, none⟩ = some (.slice none 0 0) := by rw [hc _ _ (by omega)]; simp [go_sem]
  have x5 : w1.cell? ⟨w.heap.size + 1 + 1, 5, none⟩ = some (.slice none 0 0) := by rw [hc _ _ (by omega)]; simp [go_sem]
  have y5 : w1.cell? ⟨w.heap.size, 5, none⟩ = some (.slice ka td.kids.length kc) := by rw [hc _ _ (by omega)]; simp [go_sem]
  have f0 : ∀ o, w1.frozen? ⟨w.heap.size + 1 + 1, o, none⟩ = false := fun o => by rw [hf _ _ (by omega)]; simp [go_sem]
  have r0 : ∀ o, o < 6 → ∃ v, w1.cell? ⟨w.heap.size + 1, o, none⟩ = some v := fun o ho => by
    rw [hc _ _ (by omega)]
    rcases (show o = 0 ∨ o = 1 ∨ o = 2 ∨ o = 3 ∨ o = 4 ∨ o = 5 from by omega) with rfl | rfl | rfl | rfl | rfl | rfl <;> exact ⟨_, by simp [go_sem]; rfl⟩
  have f1 : ∀ o, w1.frozen? ⟨w.heap.size + 1, o, none⟩ = false := fun o => by rw [hf _ _ (by omega)]; simp [go_sem]
  have HFR := hide hfr
  have HBL := hide hbel
  clear hb hfr hbel hc hf
  go_wp2_with fail
  obtain ⟨W1, hW1⟩ : ∃ W1, W1 = w1.setCell ⟨w.heap.size + 1 + 1, 4, none⟩ (.slice (some ⟨gl, 0, none⟩) td.lv.length td.lv.length) := ⟨_, rfl⟩
  rw [← hW1]
  have z0 : W1.cell? ⟨w.heap.size + 1 + 1, 0, none⟩ = some (.int .i64 td.k) := by rw [hW1]; simp [go_sem, x0]
  have z1 : W1.cell? ⟨w.heap.size + 1 + 1, 1, none⟩ = some (.int .i64 td.n) := by rw [hW1]; simp [go_sem, x1]
  have z2 : W1.cell? ⟨w.heap.size + 1 + 1, 2, none⟩ = some (.int .i64 td.m) := by rw [hW1]; simp [go_sem, x2]
  have z3 : W1.cell? ⟨w.heap.size + 1 + 1, 3, none⟩ = some (.string td.s) := by rw [hW1]; simp [go_sem, x3]
  have z4 : W1.cell? ⟨w.heap.size + 1 + 1, 4, none⟩ = some (.slice (some ⟨gl, 0, none⟩) td.lv.length td.lv.length) := by rw [hW1]; simp [go_sem, x4]
  have z5 : W1.cell? ⟨w.heap.size + 1 + 1, 5, none⟩ = some (.slice none 0 0) := by rw [hW1]; simp [go_sem, x5]
  have q0 : ∀ o, W1.frozen? ⟨w.heap.size + 1 + 1, o, none⟩ = false := fun o => by rw [hW1]; simp [go_sem, f0]
  have q1 : ∀ o, W1.frozen? ⟨w.heap.size + 1, o, none⟩ = false := fun o => by rw [hW1]; simp [go_sem, f1]
  have s0 : ∀ o, o < 6 → ∃ v, W1.cell? ⟨w.heap.size + 1, o, none⟩ = some v := fun o ho => by rw [hW1, cell_set (by simp)]; exact r0 o ho
  have hzW : w.heap.size + 1 + 1 < W1.heap.size := by rw [hW1, size_set]; exact hz
  have HBW := hide (show Below w.heap.size w W1 by rw [hW1]; exact HBL.out.setCell (p := ⟨_, _, _⟩) (by show _ ≤ w.heap.size + 1 + 1; omega) _)
  have HFW := hide (show Fr (w.heap.size + 1 + 1 + 1) W1 (fun w => LevsAt w (.slice (some ⟨gl, 0, none⟩) td.lv.length td.lv.length) td.lv) by rw [hW1]; exact HFR.out.set (p := ⟨_, _, _⟩) (by simp) _)
  clear hW1 x0 x1 x2 x3 x4 x5 y5 f0 f1 r0 hz HFR HBL
  refine (toIntS_any _ td.kids _ (HK.out.keep HBW.out) hkl).mono ?_
  rintro e w2 ⟨gk, rfl, hints, hgk, hb2⟩
  obtain ⟨hc, hf⟩ := bcell hb2
  have x0 := keep_cell hb2 z0
  have x1 := keep_cell hb2 z1
  have x2 := keep_cell hb2 z2
  have x3 := keep_cell hb2 z3
  have x4 := keep_cell hb2 z4
  have x5 := keep_cell hb2 z5
  have f0 : ∀ o, w2.frozen? ⟨w.heap.size + 1 + 1, o, none⟩ = false := fun o => by rw [hf _ _ (by omega)]; exact q0 o
  have f1 : ∀ o, w2.frozen? ⟨w.heap.size + 1, o, none⟩ = false := fun o => by rw [hf _ _ (by omega)]; exact q1 o
  obtain ⟨v0, r0⟩ := s0 0 (by omega)
  obtain ⟨v1, r1⟩ := s0 1 (by omega)
  obtain ⟨v2, r2⟩ := s0 2 (by omega)
  obtain ⟨v3, r3⟩ := s0 3 (by omega)
  obtain ⟨v4, r4⟩ := s0 4 (by omega)
  obtain ⟨v5, r5⟩ := s0 5 (by omega)
  have r0 := keep_cell hb2 r0
  have r1 := keep_cell hb2 r1
  have r2 := keep_cell hb2 r2
  have r3 := keep_cell hb2 r3
  have r4 := keep_cell hb2 r4
  have r5 := keep_cell hb2 r5
  have HF2 := hide (HFW.out.keep hb2)
  have HI2 := hide (ints_fr (B := w.heap.size + 1 + 1 + 1) hints (by omega))
  have HB2 := hide (HBW.out.trans (hb2.mono HBW.out.size))
  clear hb2 hc hf hints HFW HBW z0 z1 z2 z3 z4 z5 q0 q1 s0
  go_wp2_with fail
  refine bodyPost_ret (v := .agg #[.int .i64 td.k, .int .i64 td.n, .int .i64 td.m, .string td.s, .slice (some ⟨gl, 0, none⟩) td.lv.length td.lv.length, .slice (some ⟨gk, 0, none⟩) td.kids.length td.kids.length]) (by simp [results, go_sem, r0, r1, r2, r3, r4, r5]) rfl ⟨gl, gk, rfl, ?_, ?_, ?_⟩
  · exact Fr.mono (B := w.heap.size + 1 + 1 + 1) (Fr.set (Fr.set (Fr.set (Fr.set (Fr.set (Fr.set (Fr.set HF2.out (p := ⟨_, _, _⟩) (by dsimp only; omega) _) (p := ⟨_, _, _⟩) (by dsimp only; omega) _) (p := ⟨_, _, _⟩) (by dsimp only; omega) _) (p := ⟨_, _, _⟩) (by dsimp only; omega) _) (p := ⟨_, _, _⟩) (by dsimp only; omega) _) (p := ⟨_, _, _⟩) (by dsimp only; omega) _) (p := ⟨_, _, _⟩) (by dsimp only; omega) _) (by omega)
  · exact Fr.mono (B := w.heap.size + 1 + 1 + 1) (Fr.set (Fr.set (Fr.set (Fr.set (Fr.set (Fr.set (Fr.set HI2.out (p := ⟨_, _, _⟩) (by dsimp only; omega) _) (p := ⟨_, _, _⟩) (by dsimp only; omega) _) (p := ⟨_, _, _⟩) (by dsimp only; omega) _) (p := ⟨_, _, _⟩) (by dsimp only; omega) _) (p := ⟨_, _, _⟩) (by dsimp only; omega) _) (p := ⟨_, _, _⟩) (by dsimp only; omega) _) (p := ⟨_, _, _⟩) (by dsimp only; omega) _) (by omega)
  · exact (Below.setCell (Below.setCell (Below.setCell (Below.setCell (Below.setCell (Below.setCell (Below.setCell HB2.out (p := ⟨_, _, _⟩) (by dsimp only; omega) _) (p := ⟨_, _, _⟩) (by dsimp only; omega) _) (p := ⟨_, _, _⟩) (by dsimp only; omega) _) (p := ⟨_, _, _⟩) (by dsimp only; omega) _) (p := ⟨_, _, _⟩) (by dsimp only; omega) _) (p := ⟨_, _, _⟩) (by dsimp only; omega) _) (p := ⟨_, _, _⟩) (by dsimp only; omega) _)
end Go.Proofs.YtpmpooekpeocdaaGreat

/- What the copying of a term (toTerm, toNodeS) answers: a new term with the same nodes; nothing that was there is written. -/
namespace Go.Proofs.YtpmpooekpeocdaaGreat
open Go.ChangeShapes Go.WideShapes Go.ChangeAt Go.RowKit

theorem Tryz.info166 : (Tryz.prog.info? 166).map (fun i => (i.zero, i.size, i.bytes)) = some (some (.agg #[.int .i64 0, .int .i64 0, .int .i64 0, .string ⟨#[]⟩, .slice none 0 0, .slice none 0 0]), 6, 88) := by kernel_rfl
/-- What is asked of a node that is copied. -/
def TSmall (td : Td) : Prop := td.lv.length ≤ 1048576 ∧ (∀ l ∈ td.lv, l.length ≤ 1048576 ∧ ∀ nd ∈ l, nd.kids.length ≤ 1048576) ∧ td.kids.length ≤ 1048576
/-- The first k nodes stand in the row R, what they lead to in blocks behind it. -/
def TNodesIn (w : World) (R : Nat) (xs : List Value) (ts : List Td) (k : Nat) : Prop :=
  ∀ i (h : i < ts.length), i < k → xs[i * 6]? = some (.int .i64 ts[i].k) ∧ xs[i * 6 + 1]? = some (.int .i64 ts[i].n) ∧ xs[i * 6 + 2]? = some (.int .i64 ts[i].m) ∧ xs[i * 6 + 3]? = some (.string ts[i].s) ∧
    ∃ lv, xs[i * 6 + 4]? = some lv ∧ Fr (R + 1) w (fun w => LevsAt w lv ts[i].lv) ∧ ∃ kv, xs[i * 6 + 5]? = some kv ∧ Fr (R + 1) w (fun w => IntsAt w kv ts[i].kids)
theorem TNodesIn.keep {w w' : World} (hb : Below w.heap.size w w') {R : Nat} {xs : List Value} {ts : List Td} {k : Nat} (h : TNodesIn w R xs ts k) : TNodesIn w' R xs ts k := fun i hi hk => by
  obtain ⟨h1, h2, h3, h4, lv, h5, h6, kv, h7, h8⟩ := h i hi hk
  exact ⟨h1, h2, h3, h4, lv, h5, h6.keep hb, kv, h7, h8.keep hb⟩
theorem TNodesIn.put {w w' : World} {R : Nat} {xs : List Value} {ts : List Td} {k : Nat} {lv kv : Value} (hx : xs.length = ts.length * 6) (h : TNodesIn w R xs ts k) (hk : k < ts.length) (hl : Fr (R + 1) w (fun w => LevsAt w lv ts[k].lv)) (hkv : Fr (R + 1) w (fun w => IntsAt w kv ts[k].kids)) (hw : ∀ P, Fr (R + 1) w P → Fr (R + 1) w' P) :
    TNodesIn w' R ((((((xs.set (k * 6) (.int .i64 ts[k].k)).set (k * 6 + 1) (.int .i64 ts[k].n)).set (k * 6 + 2) (.int .i64 ts[k].m)).set (k * 6 + 3) (.string ts[k].s)).set (k * 6 + 4) lv).set (k * 6 + 5) kv) ts (k + 1) := by
  intro i hi hik
  by_cases e : i = k
  · subst e
    refine ⟨?_, ?_, ?_, ?_, lv, ?_, hw _ hl, kv, ?_, hw _ hkv⟩
    · rw [List.getElem?_set_ne (by omega), List.getElem?_set_ne (by omega), List.getElem?_set_ne (by omega), List.getElem?_set_ne (by omega), List.getElem?_set_ne (by omega), List.getElem?_set_self (by omega)]
    · rw [List.getElem?_set_ne (by omega), List.getElem?_set_ne (by omega), List.getElem?_set_ne (by omega), List.getElem?_set_ne (by omega), List.getElem?_set_self (by simp; omega)]
    · rw [List.getElem?_set_ne (by omega), List.getElem?_set_ne (by omega), List.getElem?_set_ne (by omega), List.getElem?_set_self (by simp; omega)]
    · rw [List.getElem?_set_ne (by omega), List.getElem?_set_ne (by omega), List.getElem?_set_self (by simp; omega)]
    · rw [List.getElem?_set_ne (by omega), List.getElem?_set_self (by simp; omega)]
    · rw [List.getElem?_set_self (by simp; omega)]
  · obtain ⟨h1, h2, h3, h4, lv', h5, h6, kv', h7, h8⟩ := h i hi (by omega)
    have hs : ∀ o, o < 6 → ((((((xs.set (k * 6) (.int .i64 ts[k].k)).set (k * 6 + 1) (.int .i64 ts[k].n)).set (k * 6 + 2) (.int .i64 ts[k].m)).set (k * 6 + 3) (.string ts[k].s)).set (k * 6 + 4) lv).set (k * 6 + 5) kv)[i * 6 + o]? = xs[i * 6 + o]? := fun o ho => by
      rw [List.getElem?_set_ne (by omega), List.getElem?_set_ne (by omega), List.getElem?_set_ne (by omega), List.getElem?_set_ne (by omega), List.getElem?_set_ne (by omega), List.getElem?_set_ne (by omega)]
    refine ⟨?_, ?_, ?_, ?_, lv', ?_, hw _ h6, kv', ?_, hw _ h8⟩
    · exact (hs 0 (by omega)).trans h1
    · rw [hs 1 (by omega)]; exact h2
    · rw [hs 2 (by omega)]; exact h3
    · rw [hs 3 (by omega)]; exact h4
    · rw [hs 4 (by omega)]; exact h5
    · rw [hs 5 (by omega)]; exact h7
theorem TNodesIn.fr {w : World} {base R n cap : Nat} {e : TypeId} {xs : List Value} {ts : List Td} (h : w.ownsRow base e 6 (.slice (some ⟨R, 0, none⟩) n cap) n xs) (hn : n = ts.length) (hx : TNodesIn w R xs ts ts.length) :
    Fr R w (fun w => TNodesAt w (.slice (some ⟨R, 0, none⟩) n cap) ts) := by
  subst hn
  intro w' hw
  rcases h.2 with ⟨h', _⟩ | ⟨g', cap', cur, h', _, hg, hnc, hcm, hcs, htake⟩
  · simp at h'
  · simp only [Value.slice.injEq, Option.some.injEq, Addr.mk.injEq, and_true, true_and] at h'
    obtain ⟨rfl, rfl⟩ := h'
    refine ⟨_, _, rfl, hnc, hcm, fun _ => ⟨R, 0, rfl, fun i hi => ?_⟩⟩
    obtain ⟨h1, h2, h3, h4, lv, h5, h6, kv, h7, h8⟩ := hx i hi hi
    rw [Nat.zero_add]
    have cc : ∀ o v, o < 6 → xs[i * 6 + o]? = some v → w'.cell? ⟨R, i * 6 + o, none⟩ = some v := fun o v ho hv => hw _ _ _ (Nat.le_refl _) (by rw [h.cellAt _ (by omega)]; exact hv)
    exact ⟨cc 0 _ (by omega) h1, cc 1 _ (by omega) h2, cc 2 _ (by omega) h3, cc 3 _ (by omega) h4, lv, cc 4 _ (by omega) h5, h6 w' (fun b o v hb => hw b o v (by omega)), kv, cc 5 _ (by omega) h7, h8 w' (fun b o v hb => hw b o v (by omega))⟩

set_option maxHeartbeats 2000000 in
theorem toNodeS_fr (v : Value) (ts : List Td) (w : World) (hn : TNodesAt w v ts) (hl : ts.length ≤ 1048576) (hkl : ∀ td ∈ ts, TSmall td) :
    Calls Tryz.prog 77 #[v] w fun e w' => ∃ g, e = .returned (.slice (some ⟨g, 0, none⟩) ts.length ts.length) ∧ Fr w.heap.size w' (fun w => TNodesAt w (.slice (some ⟨g, 0, none⟩) ts.length ts.length) ts) ∧ w.heap.size ≤ g ∧ Below w.heap.size w w' := by
  obtain ⟨i0, hi, hz0, hz1, hz2⟩ := info_parts Tryz.info166
  obtain ⟨a, cap, rfl, hlc, hcm, hc⟩ := hn
  have HC : Hid (0 < ts.length → ∃ b off, a = some ⟨b, off, none⟩ ∧ ∀ i (h : i < ts.length), TNodeAt w b (off + i * 6) ts[i]) := hc
  have HK := hide hkl
  clear hc hkl
  go_enter Tryz.func77, Tryz.ntmps77
  go_wp2_with (at_make; refine wpList_make_full _ rfl _ _ 31 rfl w.heap.size 166 i0 (.agg #[.int .i64 0, .int .i64 0, .int .i64 0, .string ⟨#[]⟩, .slice none 0 0, .slice none 0 0]) 6 Tryz.underlying31 hi hz0 hz1 .i64 .i64 _ _ ts.length rfl rfl rfl rfl (by rw [hz2]; omega) (by unfold maxLen; omega) (Nat.le_refl _) ?_; intro w1 hown hgrow)
  go_loopw [4] (fun i wr => ∃ (k : Nat) (xs : List Value), k ≤ ts.length ∧ i = .int .i64 k ∧ wr.ownsRow w.heap.size 166 6 (.slice (some ⟨w.heap.size, 0, none⟩) ts.length ts.length) ts.length xs ∧ Hid (TNodesIn wr w.heap.size xs ts k) ∧ w.heap.size < wr.heap.size ∧ Below w.heap.size w wr) (fun i _ => ts.length - (intOf i).toNat)
  case atStart => exact ⟨0, _, by omega, rfl, hown, fun j _ h => by omega, (hown.lt _ rfl).2, (Below.refl _ _).grown hgrow (Nat.le_refl _) (fun k hk => by cases hk)⟩
  case round =>
    obtain ⟨k, xs, hk, rfl, hownr, HX, hsz, hbel⟩ := hrel
    clear hown hgrow
    by_cases hlt : k < ts.length
    · obtain ⟨b, off, ha, hc⟩ := HC.out (by omega)
      subst ha
      obtain ⟨c1, c2, c3, c4, lv, c5, hlv, kv, c6, hkv⟩ := (hc k hlt).keep hbel
      have HSM := hide (HK.out ts[k] (by simp))
      have HLV := hide hlv
      have HKV := hide hkv
      obtain ⟨la, lc, rfl, _, _, _⟩ := hlv
      obtain ⟨ka, kc, rfl, _, _, _⟩ := hkv
      clear hc
      go_wp2_with fail
      refine (toNode_fr ts[k] _ _ _ HLV.out HKV.out HSM.out.1 HSM.out.2.1 HSM.out.2.2).mono ?_
      rintro e w2 ⟨gl, gk, rfl, hfl, hfk, hb⟩
      have hown2 := row_keep hb hownr
      have HX2 := hide (HX.out.keep hb)
      have hbel2 : Below w.heap.size w w2 := hbel.trans (hb.mono hbel.size)
      have hxl := hown2.1
      have s0 := (hown2.stored (k * 6) (.int .i64 ts[k].k)).1
      have s1 := (s0.stored (k * 6 + 1) (.int .i64 ts[k].n)).1
      have s2 := (s1.stored (k * 6 + 2) (.int .i64 ts[k].m)).1
      have s3 := (s2.stored (k * 6 + 3) (.string ts[k].s)).1
      have s4 := (s3.stored (k * 6 + 4) (.slice (some ⟨gl, 0, none⟩) ts[k].lv.length ts[k].lv.length)).1
      have s5 := (s4.stored (k * 6 + 5) (.slice (some ⟨gk, 0, none⟩) ts[k].kids.length ts[k].kids.length)).1
      have f0 := hown2.frozenAt (k * 6)
      have f1 := hown2.frozenAt (k * 6 + 1)
      have f2 := hown2.frozenAt (k * 6 + 2)
      have f3 := hown2.frozenAt (k * 6 + 3)
      have f4 := hown2.frozenAt (k * 6 + 4)
      have f5 := hown2.frozenAt (k * 6 + 5)
      have e0 := hown2.cellAt (k * 6) (by omega)
      have e1 := hown2.cellAt (k * 6 + 1) (by omega)
      have e2 := hown2.cellAt (k * 6 + 2) (by omega)
      have e3 := hown2.cellAt (k * 6 + 3) (by omega)
      have e4 := hown2.cellAt (k * 6 + 4) (by omega)
      have e5 := hown2.cellAt (k * 6 + 5) (by omega)
      rw [List.getElem?_eq_getElem (by omega)] at e0 e1 e2 e3 e4 e5
      have hsz2 : w.heap.size < w2.heap.size := by have := hb.size; omega
      have HP := hide (HX2.out.put (w' := (((((w2.setCell ⟨w.heap.size, k * 6, none⟩ (.int .i64 ts[k].k)).setCell ⟨w.heap.size, k * 6 + 1, none⟩ (.int .i64 ts[k].n)).setCell ⟨w.heap.size, k * 6 + 2, none⟩ (.int .i64 ts[k].m)).setCell ⟨w.heap.size, k * 6 + 3, none⟩ (.string ts[k].s)).setCell ⟨w.heap.size, k * 6 + 4, none⟩ (.slice (some ⟨gl, 0, none⟩) ts[k].lv.length ts[k].lv.length)).setCell ⟨w.heap.size, k * 6 + 5, none⟩ (.slice (some ⟨gk, 0, none⟩) ts[k].kids.length ts[k].kids.length)) (by omega) hlt (hfl.mono (by omega)) (hfk.mono (by omega)) (fun P hP => Fr.set (Fr.set (Fr.set (Fr.set (Fr.set (Fr.set hP (p := ⟨_, _, _⟩) (by dsimp only; omega) _) (p := ⟨_, _, _⟩) (by dsimp only; omega) _) (p := ⟨_, _, _⟩) (by dsimp only; omega) _) (p := ⟨_, _, _⟩) (by dsimp only; omega) _) (p := ⟨_, _, _⟩) (by dsimp only; omega) _) (p := ⟨_, _, _⟩) (by dsimp only; omega) _))
      have HB2 := hide hbel2
      clear HX2 HX hfl hfk hown2 hownr s0 s1 s2 s3 s4 hb c1 c2 c3 c4 c5 c6 hbel2
      go_wp2_with fail
      go_roundw
      case rel => exact ⟨k + 1, _, by omega, by go_num, s5, HP, by simpa [World.setCell] using hsz2, (((((HB2.out.setCell (p := ⟨_, _, _⟩) (Nat.le_refl _) _).setCell (p := ⟨_, _, _⟩) (Nat.le_refl _) _).setCell (p := ⟨_, _, _⟩) (Nat.le_refl _) _).setCell (p := ⟨_, _, _⟩) (Nat.le_refl _) _).setCell (p := ⟨_, _, _⟩) (Nat.le_refl _) _).setCell (p := ⟨_, _, _⟩) (Nat.le_refl _) _⟩
      case measure => simp [intOf]; omega
    · have hall := TNodesIn.fr hownr rfl (by have := HX.out; rwa [show k = ts.length from by omega] at this)
      go_wp2_with fail
      go_ret
      exact ⟨_, rfl, hall, Nat.le_refl _, hbel⟩

set_option maxHeartbeats 1000000 in
theorem toTerm_fr (v : Value) (ts : List Td) (w : World) (hn : TNodesAt w v ts) (hl : ts.length ≤ 1048576) (hkl : ∀ td ∈ ts, TSmall td) :
    Calls Tryz.prog 40 #[.agg #[v]] w fun e w' => ∃ g, e = .returned (.agg #[.slice (some ⟨g, 0, none⟩) ts.length ts.length]) ∧ Fr w.heap.size w' (fun w => TNodesAt w (.slice (some ⟨g, 0, none⟩) ts.length ts.length) ts) ∧ w.heap.size ≤ g ∧ Below w.heap.size w w' := by
  have HN : Hid (∀ o1 o2 o3, TNodesAt (((w.alloc o1).alloc o2).alloc o3) v ts) := fun o1 o2 o3 => hn.keep ((((Below.refl w.heap.size w).alloc (Nat.le_refl _) o1).alloc (by simp) o2).alloc (by simp; omega) o3)
  have HK := hide hkl
  obtain ⟨a, cap, rfl, hlc, hcm, _⟩ := hn
  clear hkl
  go_enter Tryz.func40, Tryz.ntmps40
  go_wp2_with fail
  refine (toNodeS_fr _ ts _ (HN.out _ _ _) hl HK.out).mono ?_
  rintro e w1 ⟨g, rfl, hnodes, hg, hb⟩
  obtain ⟨hc, hf⟩ := bcell hb
  have hz : w.heap.size + 1 + 1 < w1.heap.size := by have := hb.size; simp at this; omega
  have hbel : Below w.heap.size w w1 := ((((Below.refl w.heap.size w).alloc (Nat.le_refl _) _).alloc (by simp) _).alloc (by simp; omega) _).trans (hb.mono (by simp; omega))
  simp only [World.size_alloc] at hc hf hg hnodes
  clear hb
  go_wp2_with fail
  refine bodyPost_ret (v := .agg #[.slice (some ⟨g, 0, none⟩) ts.length ts.length]) (by simp [results, go_sem, hc]) rfl ⟨g, rfl, ?_, by omega, ?_⟩
  · exact ((hnodes.set (p := ⟨_, _, _⟩) (by dsimp only; omega) _).set (p := ⟨_, _, _⟩) (by dsimp only; omega) _).mono (by omega)
  · exact (hbel.setCell (p := ⟨_, _, _⟩) (by show _ ≤ w.heap.size + 1 + 1; omega) _).setCell (p := ⟨_, _, _⟩) (by show _ ≤ w.heap.size + 1; omega) _
end Go.Proofs.YtpmpooekpeocdaaGreat
