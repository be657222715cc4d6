/- What the specification's l2Draw answers: a number and a row of constraints of its own. -/
import Derived.Test.YteedainidoldoaaSxG
import Derived.Deep.CutRange
namespace Go.Proofs.Yteedainidoldoaa
open Go.ChangeShapes Go.WideShapes Go.ChangeAt Go.RowKit

/-- A row of numbers. -/
def AllI (xs : List Value) : Prop := ∀ j, j < xs.length → ∃ q : Int, xs[j]? = some (.int .i64 q)
theorem AllI.set {xs : List Value} (h : AllI xs) (k : Nat) (q : Int) : AllI (xs.set k (.int .i64 q)) := fun j hj => by
  rw [List.length_set] at hj
  by_cases e : k = j
  · subst e; exact ⟨q, by rw [List.getElem?_set_self hj]⟩
  · rw [List.getElem?_set_ne e]; exact h j hj
theorem AllI.app {xs : List Value} (h : AllI xs) (a n b : Int) : AllI (xs ++ [.int .i64 a, .int .i64 n, .int .i64 b]) := fun j hj => by
  by_cases e : j < xs.length
  · rw [List.getElem?_append_left e]; exact h j e
  · rw [List.getElem?_append_right (by omega)]
    have hj : j < xs.length + 3 := by simpa using hj
    rcases (show j - xs.length = 0 ∨ j - xs.length = 1 ∨ j - xs.length = 2 by omega) with e | e | e <;> rw [e] <;> exact ⟨_, rfl⟩
/-- Such a row as constraints. -/
theorem AllI.cons {xs : List Value} {m : Nat} (h : AllI xs) (hl : xs.length = m * 3) : ∃ cs : List Cn, cs.length = m ∧ ConsIn xs cs cs.length := by
  have hx : ∀ j, ∃ q : Int, j < xs.length → xs[j]? = some (.int .i64 q) := fun j => by
    by_cases hj : j < xs.length
    · obtain ⟨q, hq⟩ := h j hj; exact ⟨q, fun _ => hq⟩
    · exact ⟨0, fun h => absurd h hj⟩
  obtain ⟨f, hf⟩ : ∃ f : Nat → Int, ∀ j, j < xs.length → xs[j]? = some (.int .i64 (f j)) := ⟨fun j => Classical.choose (hx j), fun j => Classical.choose_spec (hx j)⟩
  refine ⟨(List.range m).map (fun i => ⟨f (i * 3), f (i * 3 + 1), f (i * 3 + 2)⟩), by simp, fun i hi _ => ?_⟩
  have hi : i < m := by simpa using hi
  simp only [List.getElem_map, List.getElem_range]
  exact ⟨hf _ (by omega), hf _ (by omega), hf _ (by omega)⟩
/-- What is known while constraints are drawn. -/
structure DrS (base R B : Nat) (w wr : World) (v : Value) (m : Nat) : Prop where
  own : ∃ xs, wr.ownsRow B 42 3 v m xs ∧ AllI xs
  rd : RdAt base wr R
  gr : w.grownBy wr (some R)
theorem DrS.far {base R : Nat} {w wr w' : World} {v : Value} {m : Nat} (h : DrS base R w.heap.size w wr v m) (hb : Below wr.heap.size wr w') : DrS base R w.heap.size w w' v m := by
  obtain ⟨⟨xs, h1, h2⟩, h3, h4⟩ := h
  exact ⟨⟨xs, row_keep hb h1, h2⟩, h3.keep hb, grown_trans h4 (grown_but (grown_of hb) _)⟩
/-- A constraint that is put together in a block of its own. -/
structure DrC (w wr : World) (v : Value) (cb : Nat) (x y z : Int) : Prop where
  blk : wr.heap[cb]? = some (.cells #[.int .i64 x, .int .i64 y, .int .i64 z] 42 (0, 0))
  new : w.heap.size ≤ cb
  far : v.ownBlock ≠ some cb
theorem DrC.c0 {w wr : World} {v : Value} {cb : Nat} {x y z : Int} (h : DrC w wr v cb x y z) : wr.cell? ⟨cb, 0, none⟩ = some (.int .i64 x) := by rw [cell_of_row _ _ _ _ _ _ h.blk]; rfl
theorem DrC.c1 {w wr : World} {v : Value} {cb : Nat} {x y z : Int} (h : DrC w wr v cb x y z) : wr.cell? ⟨cb, 1, none⟩ = some (.int .i64 y) := by rw [cell_of_row _ _ _ _ _ _ h.blk]; rfl
theorem DrC.c2 {w wr : World} {v : Value} {cb : Nat} {x y z : Int} (h : DrC w wr v cb x y z) : wr.cell? ⟨cb, 2, none⟩ = some (.int .i64 z) := by rw [cell_of_row _ _ _ _ _ _ h.blk]; rfl
theorem DrC.keep {w wr w' : World} {v : Value} {cb : Nat} {x y z : Int} (h : DrC w wr v cb x y z) (hb : Below wr.heap.size wr w') : DrC w w' v cb x y z :=
  ⟨(hb.block cb (Array.getElem?_eq_some_iff.1 h.blk).1).trans h.blk, h.new, h.far⟩
/-- The reader goes on. -/
theorem DrS.next {base R : Nat} {w wr w' : World} {v : Value} {m : Nat} (h : DrS base R w.heap.size w wr v m) (hR : R < w.heap.size) (hg : wr.grownBy w' (some R)) (hr : RdAt base w' R) : DrS base R w.heap.size w w' v m := by
  obtain ⟨⟨xs, h1, h2⟩, h3, h4⟩ := h
  exact ⟨⟨xs, h1.kept hg (.inr (fun e => by have := (World.ownsRow.lt h1 R e).1; omega)), h2⟩, hr, grown_trans h4 hg⟩
theorem DrS.old {base R : Nat} {w wr : World} {v : Value} {m : Nat} (h : DrS base R w.heap.size w wr v m) {b : Nat} (hb : wr.heap.size ≤ b) : v.ownBlock ≠ some b := fun e => by
  obtain ⟨⟨xs, h1, _⟩, _⟩ := h
  have := (World.ownsRow.lt h1 b e).2
  omega
theorem grown_new {w wr w' : World} {R : Nat} {r : Option Nat} (h : w.grownBy wr (some R)) (hg : wr.grownBy w' r) (hr : ∀ g, r = some g → w.heap.size ≤ g) : w.grownBy w' (some R) :=
  ⟨hg.os.trans h.os, hg.tape.trans h.tape, hg.output.trans h.output, Nat.le_trans h.size hg.size, fun k hk hne => (hg.block k (Nat.lt_of_lt_of_le hk h.size) (fun e => by have := hr k e.symm; omega)).trans (h.block k hk hne)⟩
theorem DrS.side {base R : Nat} {w wr : World} {v : Value} {m : Nat} (h : DrS base R w.heap.size w wr v m) (hR : R < w.heap.size) {cb : Nat} (hc : w.heap.size ≤ cb) (hf : v.ownBlock ≠ some cb) (o : Nat) (u : Value) : DrS base R w.heap.size w (wr.setCell ⟨cb, o, none⟩ u) v m := by
  obtain ⟨⟨xs, h1, h2⟩, h3, h4⟩ := h
  have hg : wr.grownBy (wr.setCell ⟨cb, o, none⟩ u) (some cb) := grown_set wr ⟨cb, o, none⟩ u
  exact ⟨⟨xs, h1.kept hg (.inr hf), h2⟩, h3.grown hg (fun g e => by cases e; omega), grown_new h4 hg (fun g e => by cases e; exact hc)⟩
/-- A number of the row is written anew. -/
theorem DrS.put {base R : Nat} {w wr : World} {g m c : Nat} (h : DrS base R w.heap.size w wr (.slice (some ⟨g, 0, none⟩) m c) m) (hR : R < w.heap.size) (hg : w.heap.size ≤ g) (o : Nat) (q : Int) : DrS base R w.heap.size w (wr.setCell ⟨g, o, none⟩ (.int .i64 q)) (.slice (some ⟨g, 0, none⟩) m c) m := by
  obtain ⟨⟨xs, h1, h2⟩, h3, h4⟩ := h
  have hg2 : wr.grownBy (wr.setCell ⟨g, o, none⟩ (.int .i64 q)) (some g) := grown_set wr ⟨g, o, none⟩ _
  exact ⟨⟨_, (h1.stored o (.int .i64 q)).1, h2.set o q⟩, h3.grown hg2 (fun k e => by cases e; omega), grown_new h4 hg2 (fun k e => by cases e; exact hg)⟩
theorem DrS.form {base R : Nat} {w wr : World} {v : Value} {m : Nat} (h : DrS base R w.heap.size w wr v m) (hm : 1 ≤ m) : ∃ g cp, v = .slice (some ⟨g, 0, none⟩) m cp ∧ w.heap.size ≤ g := by
  obtain ⟨⟨xs, h1, _⟩, _⟩ := h
  obtain ⟨g, cp, h2, h3, _⟩ := h1.form (by omega)
  exact ⟨g, cp, h2, h3⟩
theorem DrS.cell {base R : Nat} {w wr : World} {g m c : Nat} (h : DrS base R w.heap.size w wr (.slice (some ⟨g, 0, none⟩) m c) m) {o : Nat} (ho : o < m * 3) : (∃ q : Int, wr.cell? ⟨g, o, none⟩ = some (.int .i64 q)) ∧ wr.frozen? ⟨g, o, none⟩ = false := by
  obtain ⟨⟨xs, h1, h2⟩, _⟩ := h
  have hl := h1.1
  obtain ⟨q, hq⟩ := h2 o (by omega)
  exact ⟨⟨q, by rw [h1.cellAt o (by omega)]; exact hq⟩, h1.frozenAt o⟩
theorem blk_set {w : World} {B : Nat} {a b c : Value} {t : TypeId} (h : w.heap[B]? = some (.cells #[a, b, c] t (0, 0))) (x y z : Value) : (((w.setCell ⟨B, 0, none⟩ x).setCell ⟨B, 1, none⟩ y).setCell ⟨B, 2, none⟩ z).heap[B]? = some (.cells #[x, y, z] t (0, 0)) :=
  heap_setCell_same _ B 2 _ t z (heap_setCell_same _ B 1 _ t y (heap_setCell_same _ B 0 _ t x h))
def DrOut (base R : Nat) (w : World) (e : Ending) (w' : World) : Prop := ∃ (n : Int) (v : Value) (m : Nat), e = .returned (.tuple #[.int .i64 n, v]) ∧ 1 ≤ m ∧ m ≤ 12 ∧ DrS base R w.heap.size w w' v m
set_option maxRecDepth 20000 in
set_option maxHeartbeats 4000000 in
theorem draw_b (R base : Nat) (w : World) (h : RdAt base w R) : Calls Try.prog 28 #[.pointer (some ⟨R, 0, none⟩)] w (DrOut base R w) := by
  obtain ⟨i42, hi42, hz42, hs42, hb42⟩ := info_parts Try.info42
  have hl := h.lt
  have H0 := hide h
  clear h
  go_enter Try.func28, Try.ntmps28
  go_wp2_with (first
    | (go_at_call 44; refine (next_b R base _ H0.out).mono ?_; rintro e w1 ⟨k, rfl, hk0, hk1, hr1, hg1⟩; have HR1 := hide hr1; have HG1 := hide hg1; have hs1 := hg1.size; clear hr1 hg1)
    | fail)
  have HS0 : Hid (DrS base R w.heap.size w (w1.alloc (.cells #[] 42)) (.slice (some ⟨w1.heap.size, 0, none⟩) 0 0) 0) :=
    ⟨⟨[], ⟨rfl, .inr ⟨w1.heap.size, 0, #[], rfl, hs1, heap_alloc_new _ _, Nat.le_refl _, Nat.zero_le _, rfl, rfl⟩⟩, fun j h => by simp at h⟩, HR1.out.keep (bel_alloc (Below.refl _ _) _), grown_trans HG1.out (grown_but (grown_of (bel_alloc (Below.refl _ _) _)) _)⟩
  obtain ⟨q, hq, hq12⟩ : ∃ q : Nat, k / 6 % 12 = (q : Int) ∧ q < 12 := ⟨(k / 6 % 12).toNat, by omega, by omega⟩
  obtain ⟨n0, hn0, hn1, hn6⟩ : ∃ n0 : Int, 1 + k % 6 = n0 ∧ 1 ≤ n0 ∧ n0 ≤ 6 := ⟨_, rfl, by omega, by omega⟩
  rw [hn0]
  clear hn0
  go_loopw [6, 7] (fun ov iv wr => ∃ (j : Nat) (v : Value), iv = .int .i64 j ∧ v = ov ∧ j ≤ q + 1 ∧ Hid (DrS base R w.heap.size w wr v j)) (fun _ iv _ => q + 1 - (intOf iv).toNat)
  case atStart => exact ⟨0, _, rfl, rfl, by omega, HS0⟩
  case round =>
    clear HS0 HR1 HG1
    obtain ⟨j, v, rfl, rfl, hj, HD⟩ := hrel
    go_upto_region 5 with fail
    go_cut [33] from 19 to 76 (fun s wx => ∃ b : Bool, s = .bool b ∧ (b = true → j < q + 1) ∧ (b = false → 1 ≤ j) ∧ Hid (DrS base R w.heap.size w wx v j))
    case first =>
      by_cases h1 : j < q + 1
      · have h1' : (j : Int) < 1 + (q : Int) := by omega
        by_cases h2 : j < 2
        · have h2' : (j : Int) < 2 := by omega
          go_wp2_with fail
          go_meet
          exact ⟨true, rfl, fun _ => h1, (fun h => by cases h), HD⟩
        · have h2' : ¬ ((j : Int) < 2) := by omega
          have HL := hide (left_b R base _ HD.out.rd)
          go_wp2_with (first
            | (go_at_call 45; refine HL.out.mono ?_; rintro e w2 ⟨lv, rfl, hr2, hb2⟩; have HD2 := hide (HD.out.far hb2); clear hr2 hb2)
            | fail)
          all_goals go_meet
          · exact ⟨_, rfl, fun _ => h1, (fun _ => by omega), HD2⟩
      · have h1' : ¬ ((j : Int) < 1 + (q : Int)) := by omega
        go_wp2_with fail
        go_meet
        exact ⟨false, rfl, (fun h => by cases h), (fun _ => by omega), HD⟩
    case rest =>
      obtain ⟨b, rfl, hb1, hb2, HD⟩ := hcut
      cases b with
      | false =>
        have hj1 := hb2 rfl
        clear hb1 hb2
        obtain ⟨g, cp, rfl, hgw⟩ := HD.out.form hj1
        by_cases hk : 246 ≤ k
        · have hk2 : (k == 245) = false := by simp; omega
          have hj0 : ¬ (j : Int) = 0 := by omega
          go_upto_region 14 with (first
            | (go_at_call 44; refine (next_b R base _ HD.out.rd).mono ?_; rintro e w2 ⟨t, rfl, ht0, ht1, hr2, hg2⟩; have HD2 := hide (HD.out.next hl.2 hg2 hr2); clear hr2 hg2)
            | fail)
          clear HD
          obtain ⟨p, hp, hpj⟩ : ∃ p : Nat, t % (j : Int) = (p : Int) ∧ p < j := ⟨(t % (j : Int)).toNat, by have := Int.emod_nonneg t hj0; omega, by have := Int.emod_lt_of_pos t (show (0 : Int) < (j : Int) by omega); omega⟩
          rw [hp]
          have hpj' : (p : Int) < (j : Int) := by omega
          clear hp
          obtain ⟨⟨a0, c0⟩, f0⟩ := HD2.out.cell (o := p * 3) (by omega)
          obtain ⟨⟨a1, c1⟩, f1⟩ := HD2.out.cell (o := p * 3 + 1) (by omega)
          obtain ⟨⟨a2, c2⟩, f2⟩ := HD2.out.cell (o := p * 3 + 2) (by omega)
          go_upto_region 15 with fail
          have HX2 : Hid ((w2.alloc (.cells #[.int .i64 a0, .int .i64 a1, .int .i64 a2] 42)).heap[w2.heap.size]? = some (.cells #[.int .i64 a0, .int .i64 a1, .int .i64 a2] 42 (0, 0))) := heap_alloc_new _ _
          have HD2' := hide (HD2.out.far (bel_alloc (Below.refl _ _) (.cells #[.int .i64 a0, .int .i64 a1, .int .i64 a2] 42)))
          have HO2 := hide (HD2.out.old (Nat.le_refl w2.heap.size))
          have hs2 : w.heap.size ≤ w2.heap.size := HD2.out.gr.size
          have hRne : ¬ w2.heap.size = R := by omega
          have hgne : ¬ g = w2.heap.size := fun e => HO2.out (by rw [e]; rfl)
          clear c0 c1 c2 f0 f1 f2 HD2
          go_upto_region 16 with (first
            | (go_at_call 44; refine (next_b R base _ HD2'.out.rd).mono ?_; rintro e w3 ⟨t2, rfl, hu0, hu1, hr3, hg3⟩; have HD3 := hide (HD2'.out.next hl.2 hg3 hr3); have HX3 : Hid (w3.heap[w2.heap.size]? = some (.cells #[.int .i64 a0, .int .i64 a1, .int .i64 a2] 42 (0, 0))) := (hg3.block _ (by simp) (fun e => hRne (Option.some.inj e))).trans HX2.out; clear hr3 hg3)
            | fail)
          clear HD2' HX2
          have k0 : w3.cell? ⟨w2.heap.size, 0, none⟩ = some (.int .i64 a0) := by rw [cell_of_row _ _ _ _ _ _ HX3.out]; rfl
          have k1 : w3.cell? ⟨w2.heap.size, 1, none⟩ = some (.int .i64 a1) := by rw [cell_of_row _ _ _ _ _ _ HX3.out]; rfl
          have k2 : w3.cell? ⟨w2.heap.size, 2, none⟩ = some (.int .i64 a2) := by rw [cell_of_row _ _ _ _ _ _ HX3.out]; rfl
          have f0 : w3.frozen? ⟨w2.heap.size, 0, none⟩ = false := Lib.frozen_of_heap HX3.out 0
          have f1 : w3.frozen? ⟨w2.heap.size, 1, none⟩ = false := Lib.frozen_of_heap HX3.out 1
          have f2 : w3.frozen? ⟨w2.heap.size, 2, none⟩ = false := Lib.frozen_of_heap HX3.out 2
          have l3 := lt_cell k0
          obtain ⟨e, he, he4⟩ : ∃ e : Nat, t2 % 4 = (e : Int) ∧ e < 4 := ⟨(t2 % 4).toNat, by omega, by omega⟩
          obtain ⟨qv, hqv⟩ : ∃ qv : Int, (w3.alloc (.cells #[.int .i64 1000, .int .i64 1001, .int .i64 (-1001), .int .i64 (-1000)] 3)).cell? ⟨w3.heap.size, e, none⟩ = some (.int .i64 qv) := by
            rw [cell_of_row _ _ _ _ _ _ (heap_alloc_new w3 _)]
            rcases (show e = 0 ∨ e = 1 ∨ e = 2 ∨ e = 3 by omega) with rfl | rfl | rfl | rfl <;> exact ⟨_, rfl⟩
          go_upto_region 17 with fail
          have HB5 : Hid (((w3.setCell ⟨w2.heap.size, 1, none⟩ (.int .i64 qv)).alloc (.cells #[.int .i64 1000, .int .i64 1001, .int .i64 (-1001), .int .i64 (-1000)] 3)).heap[w2.heap.size]? = some (.cells #[.int .i64 a0, .int .i64 qv, .int .i64 a2] 42 (0, 0))) :=
            ((bel_alloc (Below.refl (w3.setCell ⟨w2.heap.size, 1, none⟩ (.int .i64 qv)).heap.size _) _).block _ (by simp; omega)).trans (heap_setCell_same w3 _ 1 _ 42 _ HX3.out)
          have HD5 : Hid (DrS base R w.heap.size w ((w3.setCell ⟨w2.heap.size, 1, none⟩ (.int .i64 qv)).alloc (.cells #[.int .i64 1000, .int .i64 1001, .int .i64 (-1001), .int .i64 (-1000)] 3)) (.slice (some ⟨g, 0, none⟩) j cp) j) :=
            (HD3.out.side hl.2 hs2 HO2.out 1 _).far (bel_alloc (Below.refl _ _) _)
          clear k0 k1 k2 f0 f1 f2 hqv HD3 HX3
          generalize (w3.setCell ⟨w2.heap.size, 1, none⟩ (.int .i64 qv)).alloc (.cells #[.int .i64 1000, .int .i64 1001, .int .i64 (-1001), .int .i64 (-1000)] 3) = w5 at *
          have k0 : w5.cell? ⟨w2.heap.size, 0, none⟩ = some (.int .i64 a0) := by rw [cell_of_row _ _ _ _ _ _ HB5.out]; rfl
          have k1 : w5.cell? ⟨w2.heap.size, 1, none⟩ = some (.int .i64 qv) := by rw [cell_of_row _ _ _ _ _ _ HB5.out]; rfl
          have k2 : w5.cell? ⟨w2.heap.size, 2, none⟩ = some (.int .i64 a2) := by rw [cell_of_row _ _ _ _ _ _ HB5.out]; rfl
          have f0 : w5.frozen? ⟨w2.heap.size, 0, none⟩ = false := Lib.frozen_of_heap HB5.out 0
          obtain ⟨⟨b0, r0⟩, s0⟩ := HD5.out.cell (o := p * 3) (by omega)
          obtain ⟨⟨b1, r1⟩, s1⟩ := HD5.out.cell (o := p * 3 + 1) (by omega)
          obtain ⟨⟨b2, r2⟩, s2⟩ := HD5.out.cell (o := p * 3 + 2) (by omega)
          have hgne2 : ¬ w2.heap.size = g := fun e => hgne e.symm
          go_wp2_with fail
          · refine bodyPost_ret (v := .tuple #[.int .i64 n0, .slice (some ⟨g, 0, none⟩) j cp]) (by simp [results, Try.results28, go_sem]) rfl ⟨_, _, j, rfl, hj1, by omega, ?_⟩
            exact (((HD5.out.side hl.2 hs2 HO2.out _ _).put hl.2 hgw _ _).put hl.2 hgw _ _).put hl.2 hgw _ _
          · refine bodyPost_ret (v := .tuple #[.int .i64 n0, .slice (some ⟨g, 0, none⟩) j cp]) (by simp [results, Try.results28, go_sem]) rfl ⟨_, _, j, rfl, hj1, by omega, ?_⟩
            exact ((HD5.out.put hl.2 hgw _ _).put hl.2 hgw _ _).put hl.2 hgw _ _
        · have hk' : ¬ 246 ≤ k := hk
          go_wp2_with (first
            | (go_at_call 44; refine (next_b R base _ HD.out.rd).mono ?_; rintro e w2 ⟨t, rfl, ht0, ht1, hr2, hg2⟩; have HD2 := hide (HD.out.next hl.2 hg2 hr2); clear hr2 hg2)
            | fail)
          · refine bodyPost_ret (v := .tuple #[.int .i64 (30 + t % 2), .slice (some ⟨g, 0, none⟩) j cp]) (by simp [results, Try.results28, go_sem]) rfl ⟨_, _, j, rfl, hj1, by omega, HD2.out⟩
          · refine bodyPost_ret (v := .tuple #[.int .i64 n0, .slice (some ⟨g, 0, none⟩) j cp]) (by simp [results, Try.results28, go_sem]) rfl ⟨_, _, j, rfl, hj1, by omega, HD.out⟩
      | true =>
        have hj1 := hb1 rfl
        clear hb1 hb2
        go_wp2_with (first
          | (go_at_call 44; refine (next_b R base _ HD.out.rd).mono ?_; rintro e w2 ⟨t, rfl, ht0, ht1, hr2, hg2⟩; have HD2 := hide (HD.out.next hl.2 hg2 hr2); clear hr2 hg2)
          | fail)
        clear HD
        go_upto_region 8 with fail
        go_cut [9] from 19 to 76 (fun s wx => ∃ (cb : Nat) (x y z : Int), s = .pointer (some ⟨cb, 0, none⟩) ∧ Hid (DrC w wx v cb x y z) ∧ Hid (DrS base R w.heap.size w wx v j))
        case first =>
          have HDd := hide (HD2.out.far ((Below.refl _ _).drew))
          refine anyE_region (L := 99) (S := fun _ => True) (by kernel_rfl) ?_
          generalize w2.drew = wd at *
          refine anyE_take2 0 (v := ?v1) rfl (by kernel_rfl) (by kernel_rfl) (by kernel_rfl) (by kernel_rfl) (fun _ _ _ h => h) (by rfl) ?hy1 trivial ?rest1
          case hy1 =>
            intro wx _
            go_simp
            try rfl
          case rest1 =>
          intro K hK
          go_simp
          refine hK.out _ ?_
          clear hK K
          refine anyE_take2 1 (v := ?v2) rfl (by kernel_rfl) (by kernel_rfl) (by kernel_rfl) (by kernel_rfl) (fun _ _ _ h => h) (by rfl) ?hy2 trivial ?rest2
          case hy2 =>
            intro wx _
            go_simp
            try rfl
          case rest2 =>
          intro K hK
          go_simp
          refine hK.out _ ?_
          clear hK K
          refine anyE_take2 2 (v := ?v3) rfl (by kernel_rfl) (by kernel_rfl) (by kernel_rfl) (by kernel_rfl) (fun _ _ _ h => h) (by rfl) ?hy3 trivial ?rest3
          case hy3 =>
            intro wx _
            go_simp
            try rfl
          case rest3 =>
          intro K hK
          go_simp
          refine hK.out _ ?_
          clear hK K
          refine anyE_take2 3 (v := ?v4) rfl (by kernel_rfl) (by kernel_rfl) (by kernel_rfl) (by kernel_rfl) (fun _ _ _ h => h) (by rfl) ?hy4 trivial ?rest4
          case hy4 =>
            intro wx _
            go_simp
            rw [if_neg (show ¬ IntKind.i64.wrap (n0 + 1) = 0 by rw [IntKind.wrap_i64]; omega)]
            try rfl
          case rest4 =>
          intro K hK
          go_simp
          refine hK.out _ ?_
          clear hK K
          refine anyE_take2 4 (v := ?v5) rfl (by kernel_rfl) (by kernel_rfl) (by kernel_rfl) (by kernel_rfl) (fun _ _ _ h => h) (by rfl) ?hy5 trivial ?rest5
          case hy5 =>
            intro wx _
            go_simp
            try rfl
          case rest5 =>
          intro K hK
          go_simp
          refine hK.out _ ?_
          clear hK K
          refine anyE_take2 5 (v := ?v6) rfl (by kernel_rfl) (by kernel_rfl) (by kernel_rfl) (by kernel_rfl) (fun _ _ _ h => h) (by rfl) ?hy6 trivial ?rest6
          case hy6 =>
            intro wx _
            go_simp
            try rfl
          case rest6 =>
          intro K hK
          go_simp
          refine hK.out _ ?_
          clear hK K
          refine anyE_take2 6 (v := ?v7) rfl (by kernel_rfl) (by kernel_rfl) (by kernel_rfl) (by kernel_rfl) (fun _ _ _ h => h) (by rfl) ?hy7 trivial ?rest7
          case hy7 =>
            intro wx _
            go_simp
            try rfl
          case rest7 =>
          intro K hK
          go_simp
          refine hK.out _ ?_
          clear hK K
          refine anyE_take2 7 (v := ?v8) rfl (by kernel_rfl) (by kernel_rfl) (by kernel_rfl) (by kernel_rfl) (fun _ _ _ h => h) (by rfl) ?hy8 trivial ?rest8
          case hy8 =>
            intro wx _
            go_simp
            try rfl
          case rest8 =>
          intro K hK
          go_simp
          refine hK.out _ ?_
          clear hK K
          refine anyE_take2 8 (v := ?v9) rfl (by kernel_rfl) (by kernel_rfl) (by kernel_rfl) (by kernel_rfl) (fun _ _ _ h => h) (by rfl) ?hy9 trivial ?rest9
          case hy9 =>
            intro wx _
            go_simp
            try rfl
          case rest9 =>
          intro K hK
          go_simp
          refine hK.out _ ?_
          clear hK K
          refine anyE_take2 9 (v := ?v10) rfl (by kernel_rfl) (by kernel_rfl) (by kernel_rfl) (by kernel_rfl) (fun _ _ _ h => h) (by rfl) ?hy10 trivial ?rest10
          case hy10 =>
            intro wx _
            go_simp
            try rfl
          case rest10 =>
          intro K hK
          go_simp
          refine hK.out _ ?_
          clear hK K
          refine anyE_take2 11 (v := ?v11) rfl (by kernel_rfl) (by kernel_rfl) (by kernel_rfl) (by kernel_rfl) (fun _ _ _ h => h) (by rfl) ?hy11 trivial ?rest11
          case hy11 =>
            intro wx _
            go_simp
            try rfl
          case rest11 =>
          intro K hK
          go_simp
          refine hK.out _ ?_
          clear hK K
          refine anyE_take2 12 (v := ?v12) rfl (by kernel_rfl) (by kernel_rfl) (by kernel_rfl) (by kernel_rfl) (fun _ _ _ h => h) (by rfl) ?hy12 trivial ?rest12
          case hy12 =>
            intro wx _
            go_simp
            try rfl
          case rest12 =>
          intro K hK
          go_simp
          refine hK.out _ ?_
          clear hK K
          refine anyE_two 10 16 (by kernel_rfl) rfl rfl (fun K hK => ?_) (fun K hK => ?_)
          · go_simp
            refine (next_b R base _ HDd.out.rd).mono ?_
            rintro e w3 ⟨t3, rfl, hu0, hu1, hr3, hg3⟩
            refine hK.out _ _ (fun _ => trivial) ?_
            clear hK K
            have HD3 := hide (HDd.out.next hl.2 hg3 hr3)
            have HG3 := hide hg3
            have hs3 := hg3.size
            clear hr3 hg3
            refine anyE_take2 13 (v := ?v13) rfl (by kernel_rfl) (by kernel_rfl) (by kernel_rfl) (by kernel_rfl) (fun _ _ _ h => h) (by rfl) ?hy13 trivial ?rest13
            case hy13 =>
              intro wx _
              go_simp
              rw [if_neg (show ¬ IntKind.i64.wrap (n0 + 1) = 0 by rw [IntKind.wrap_i64]; omega)]
              try rfl
            case rest13 =>
            intro K hK
            go_simp
            refine hK.out _ ?_
            clear hK K
            refine anyE_take2 14 (v := ?v14) rfl (by kernel_rfl) (by kernel_rfl) (by kernel_rfl) (by kernel_rfl) (fun _ _ _ h => h) (by rfl) ?hy14 trivial ?rest14
            case hy14 =>
              intro wx _
              go_simp
              try rfl
            case rest14 =>
            intro K hK
            go_simp
            refine hK.out _ ?_
            clear hK K
            refine anyE_take2 15 (v := ?v15) rfl (by kernel_rfl) (by kernel_rfl) (by kernel_rfl) (by kernel_rfl) (fun _ _ _ h => h) (by rfl) ?hy15 trivial ?rest15
            case hy15 =>
              intro wx _
              go_simp
              try rfl
            case rest15 =>
            intro K hK
            go_simp
            refine hK.out _ ?_
            clear hK K
            refine anyE_one 16 (by kernel_rfl) rfl (fun K hK => ?_)
            go_simp
            refine hK.out _ _ (fun _ => trivial) ?_
            clear hK K
            refine anyE_one 17 (by kernel_rfl) rfl (fun K hK => ?_)
            go_simp
            refine hK.out _ _ (fun _ => trivial) ?_
            clear hK K
            refine anyE_done (by kernel_rfl) ?_ _
            go_wp2_with fail
            go_meet
            exact ⟨w3.heap.size, _, _, _, rfl, ⟨heap_alloc_new _ _, by have := HD3.out.gr.size; omega, HD3.out.old (Nat.le_refl _)⟩, HD3.out.far (bel_alloc (Below.refl _ _) _)⟩
          · go_simp
            obtain ⟨wa, hwa⟩ : ∃ X, X = wd.alloc (.cells #[.int .i64 0, .int .i64 0, .int .i64 0] 42) := ⟨_, rfl⟩
            rw [← hwa]
            refine hK.out _ _ (fun _ => trivial) ?_
            clear hK K
            have HDa : Hid (DrS base R w.heap.size w wa v j) := by rw [hwa]; exact HDd.out.far (bel_alloc (Below.refl _ _) _)
            have HXa : Hid (wa.heap[wd.heap.size]? = some (.cells #[.int .i64 0, .int .i64 0, .int .i64 0] 42 (0, 0))) := by rw [hwa]; exact heap_alloc_new _ _
            have HOa := hide (HDd.out.old (Nat.le_refl wd.heap.size))
            have hsd : w.heap.size ≤ wd.heap.size := HDd.out.gr.size
            have hRne : ¬ wd.heap.size = R := by omega
            clear hwa
            refine anyE_one 10 (by kernel_rfl) rfl (fun K hK => ?_)
            go_simp
            refine (next_b R base _ HDa.out.rd).mono ?_
            rintro e w3 ⟨t3, rfl, hu0, hu1, hr3, hg3⟩
            refine hK.out _ _ (fun _ => trivial) ?_
            clear hK K
            have HD3 := hide (HDa.out.next hl.2 hg3 hr3)
            have HX3 : Hid (w3.heap[wd.heap.size]? = some (.cells #[.int .i64 0, .int .i64 0, .int .i64 0] 42 (0, 0))) := (hg3.block _ (Array.getElem?_eq_some_iff.1 HXa.out).1 (fun e => hRne (Option.some.inj e))).trans HXa.out
            clear hr3 hg3
            refine anyE_take2 13 (v := ?v16) rfl (by kernel_rfl) (by kernel_rfl) (by kernel_rfl) (by kernel_rfl) (fun _ _ _ h => h) (by rfl) ?hy16 trivial ?rest16
            case hy16 =>
              intro wx _
              go_simp
              rw [if_neg (show ¬ IntKind.i64.wrap (n0 + 1) = 0 by rw [IntKind.wrap_i64]; omega)]
              try rfl
            case rest16 =>
            intro K hK
            go_simp
            refine hK.out _ ?_
            clear hK K
            refine anyE_take2 14 (v := ?v17) rfl (by kernel_rfl) (by kernel_rfl) (by kernel_rfl) (by kernel_rfl) (fun _ _ _ h => h) (by rfl) ?hy17 trivial ?rest17
            case hy17 =>
              intro wx _
              go_simp
              try rfl
            case rest17 =>
            intro K hK
            go_simp
            refine hK.out _ ?_
            clear hK K
            refine anyE_take2 15 (v := ?v18) rfl (by kernel_rfl) (by kernel_rfl) (by kernel_rfl) (by kernel_rfl) (fun _ _ _ h => h) (by rfl) ?hy18 trivial ?rest18
            case hy18 =>
              intro wx _
              go_simp
              try rfl
            case rest18 =>
            intro K hK
            go_simp
            refine hK.out _ ?_
            clear hK K
            have k0 : w3.cell? ⟨wd.heap.size, 0, none⟩ = some (.int .i64 0) := by rw [cell_of_row _ _ _ _ _ _ HX3.out]; rfl
            have f0 : w3.frozen? ⟨wd.heap.size, 0, none⟩ = false := Lib.frozen_of_heap HX3.out 0
            have k1 : w3.cell? ⟨wd.heap.size, 1, none⟩ = some (.int .i64 0) := by rw [cell_of_row _ _ _ _ _ _ HX3.out]; rfl
            have f1 : w3.frozen? ⟨wd.heap.size, 1, none⟩ = false := Lib.frozen_of_heap HX3.out 1
            have k2 : w3.cell? ⟨wd.heap.size, 2, none⟩ = some (.int .i64 0) := by rw [cell_of_row _ _ _ _ _ _ HX3.out]; rfl
            have f2 : w3.frozen? ⟨wd.heap.size, 2, none⟩ = false := Lib.frozen_of_heap HX3.out 2
            refine anyE_one 17 (by kernel_rfl) rfl (fun K hK => ?_)
            go_simp
            refine hK.out _ _ (fun _ => trivial) ?_
            clear hK K
            refine anyE_done (by kernel_rfl) ?_ _
            go_wp2_with fail
            go_meet
            exact ⟨wd.heap.size, _, _, _, rfl, ⟨blk_set HX3.out _ _ _, hsd, HOa.out⟩, ((HD3.out.side hl.2 hsd HOa.out _ _).side hl.2 hsd HOa.out _ _).side hl.2 hsd HOa.out _ _⟩
        case rest =>
          obtain ⟨cb, x, y, z, rfl, HC, HD3⟩ := hcut
          have c0 := HC.out.c0
          have c1 := HC.out.c1
          have c2 := HC.out.c2
          clear HD2
          go_upto_region 9 with fail
          go_cut [68] from 19 to 76 (fun s wx => ∃ b : Bool, s = .bool b ∧ wc = wx)
          case first =>
            go_wp2_with fail
            all_goals (go_meet; exact ⟨_, rfl, rfl⟩)
          case rest =>
            obtain ⟨b, rfl, rfl⟩ := hcut
            go_upto_if 68 with fail
            go_cut [] from 19 to 76 (fun wx => ∃ y' : Int, Hid (DrC w wx v cb x y' z) ∧ Hid (DrS base R w.heap.size w wx v j))
            case first =>
              cases b with
              | false =>
                go_wp2_with fail
                go_meet
                exact ⟨y, HC, HD3⟩
              | true =>
                have fz : wc.frozen? ⟨cb, 1, none⟩ = false := Lib.frozen_of_heap HC.out.blk 1
                go_wp2_with fail
                go_meet
                exact ⟨_, ⟨heap_setCell_same _ cb 1 _ _ _ HC.out.blk, HC.out.new, HC.out.far⟩, HD3.out.side hl.2 HC.out.new HC.out.far _ _⟩
            case rest =>
              obtain ⟨y', HC, HD⟩ := hcut
              have c0 := HC.out.c0
              have c1 := HC.out.c1
              have c2 := HC.out.c2
              obtain ⟨⟨xs, hx1, hx2⟩, hrd, hgr⟩ := HD.out
              have HX := hide hx1
              have HX2 := hide hx2
              have HRD := hide hrd
              have HGR := hide hgr
              have hs7 := hgr.size
              clear HC HD hx1 hx2 hrd hgr HD3
              go_wp2_with (first
                | (at_builtin
                   refine wpList_append_lies _ rfl _ _ 27 rfl w.heap.size 42 i42 (.agg #[.int .i64 0, .int .i64 0, .int .i64 0]) 3 24 Try.underlying27 hi42 hz42 hs42 hb42 rfl (by omega) v j xs rfl (HX.out.alloc _) ⟨wc.heap.size, 0, none⟩ 1 1 [.int .i64 x, .int .i64 y', .int .i64 z] rfl rfl (World.news_of_block (cs := #[.int .i64 x, .int .i64 y', .int .i64 z]) (t := 42) (fr := (0, 0)) (heap_alloc_new _ _)) (by intro u hu; simp at hu; rcases hu with rfl | rfl | rfl <;> rfl) (by omega) (by unfold maxLen; omega) (by omega) (by simp; omega) _ rfl ?_)
                | fail)
              intro g7 cap7 w7 hown7 hgrow7 hat7 hlt7
              have hRv : ∀ g, v.ownBlock = some g → w.heap.size ≤ g := fun g e => (World.ownsRow.lt HX.out g e).1
              have HD7 : Hid (DrS base R w.heap.size w w7 (.slice (some ⟨g7, 0, none⟩) (j + 1) cap7) (j + 1)) :=
                ⟨⟨_, hown7, HX2.out.app _ _ _⟩, (HRD.out.keep (bel_alloc (Below.refl _ _) _)).grown hgrow7 (fun g e => by have := hRv g e; omega), grown_new (grown_trans HGR.out (grown_but (grown_of (bel_alloc (Below.refl _ _) _)) _)) hgrow7 hRv⟩
              clear hown7 hgrow7 hat7 hlt7 hRv HX HX2 HRD HGR c0 c1 c2
              go_wp2_with fail
              go_roundw
              case rel => exact ⟨j + 1, _, by go_num, rfl, by omega, HD7⟩
              case measure => simp [intOf]; omega
end Go.Proofs.Yteedainidoldoaa
