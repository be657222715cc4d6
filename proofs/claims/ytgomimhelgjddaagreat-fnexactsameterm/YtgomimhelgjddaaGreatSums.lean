/- What the program's functions on sums answer: noSums, plus, join, sumsLeq. -/
import Derived.Test.YtgomimhelgjddaaGreatDec
namespace Go.Proofs.YtgomimhelgjddaaGreat
open Go.ChangeShapes Go.WideShapes Go.ChangeAt Go.RowKit

def Sums.val (S : Sums) : Value := .agg #[.int .i64 S.least, .int .i64 (S.tops 0), .int .i64 (S.tops 1), .int .i64 (S.tops 2), .int .i64 (S.tops 3), .int .i64 (S.tops 4), .int .i64 (S.tops 5)]
/-- Seven numbers in a block of their own that may be written. -/
structure Row7 (w : World) (B : Nat) (c : Nat → Int) : Prop where
  cell : ∀ j, j < 7 → w.cell? ⟨B, j, none⟩ = some (.int .i64 (c j))
  free : ∀ j, w.frozen? ⟨B, j, none⟩ = false
def upd (c : Nat → Int) (i : Nat) (x : Int) : Nat → Int := fun j => if j = i then x else c j
theorem Row7.set {w : World} {B : Nat} {c : Nat → Int} (h : Row7 w B c) (i : Nat) (x : Int) : Row7 (w.setCell ⟨B, i, none⟩ (.int .i64 x)) B (upd c i x) := by
  refine ⟨fun j hj => ?_, fun j => by rw [World.frozen?_setCell]; exact h.free j⟩
  unfold upd
  by_cases e : j = i
  · subst e; rw [if_pos rfl, World.cell?_setCell_same _ _ _ (h.cell j hj)]
  · rw [if_neg e, World.cell?_setCell_other _ _ _ _ (by simp <;> omega)]; exact h.cell j hj
theorem Row7.far {w : World} {B : Nat} {c : Nat → Int} (h : Row7 w B c) {p : Addr} (hp : B ≠ p.block) (u : Value) : Row7 (w.setCell p u) B c :=
  ⟨fun j hj => by rw [cell_set hp]; exact h.cell j hj, fun j => by rw [World.frozen?_setCell]; exact h.free j⟩
theorem Row7.alloc {w : World} {B : Nat} {c : Nat → Int} (h : Row7 w B c) (o : Obj) : Row7 (w.alloc o) B c :=
  have hb : B < w.heap.size := lt_cell (h.cell 0 (by omega))
  ⟨fun j hj => keep_cell (bel_alloc (Below.refl _ _) o) (h.cell j hj), fun j => by rw [World.frozen?_alloc_past o B j hb]; exact h.free j⟩
theorem Row7.keep {w w' : World} (hb : Below w.heap.size w w') {B : Nat} {c : Nat → Int} (h : Row7 w B c) : Row7 w' B c :=
  have hlt : B < w.heap.size := lt_cell (h.cell 0 (by omega))
  ⟨fun j hj => keep_cell hb (h.cell j hj), fun j => by rw [hb.frozen (p := ⟨B, j, none⟩) hlt]; exact h.free j⟩
theorem Row7.congr {w : World} {B : Nat} {c d : Nat → Int} (h : Row7 w B c) (e : ∀ j, j < 7 → c j = d j) : Row7 w B d :=
  ⟨fun j hj => by rw [h.cell j hj, e j hj], h.free⟩
/-- The seven numbers of some sums. -/
def Sums.at (S : Sums) (j : Nat) : Int := if j = 0 then S.least else S.tops (j - 1)
theorem row7_new (w : World) (S : Sums) (t : TypeId) : Row7 (w.alloc (.cells #[.int .i64 S.least, .int .i64 (S.tops 0), .int .i64 (S.tops 1), .int .i64 (S.tops 2), .int .i64 (S.tops 3), .int .i64 (S.tops 4), .int .i64 (S.tops 5)] t)) w.heap.size S.at := by
  refine ⟨fun j hj => ?_, fun j => World.frozen?_alloc_new _ _ _ _⟩
  rw [World.cell?_alloc_new]
  have : j = 0 ∨ j = 1 ∨ j = 2 ∨ j = 3 ∨ j = 4 ∨ j = 5 ∨ j = 6 := by omega
  rcases this with rfl | rfl | rfl | rfl | rfl | rfl | rfl <;> rfl

theorem list7 (f : Nat → Prop) (h : ∀ j, j < 7 → f j) : f 0 ∧ f 1 ∧ f 2 ∧ f 3 ∧ f 4 ∧ f 5 ∧ f 6 := ⟨h 0 (by omega), h 1 (by omega), h 2 (by omega), h 3 (by omega), h 4 (by omega), h 5 (by omega), h 6 (by omega)⟩
theorem row7_put {w : World} {B : Nat} {c : Nat → Int} (h : Row7 w B c) (x0 x1 x2 x3 x4 x5 x6 : Int) :
    Row7 (((((((w.setCell ⟨B, 0, none⟩ (.int .i64 x0)).setCell ⟨B, 1, none⟩ (.int .i64 x1)).setCell ⟨B, 2, none⟩ (.int .i64 x2)).setCell ⟨B, 3, none⟩ (.int .i64 x3)).setCell ⟨B, 4, none⟩ (.int .i64 x4)).setCell ⟨B, 5, none⟩ (.int .i64 x5)).setCell ⟨B, 6, none⟩ (.int .i64 x6)) B (upd (upd (upd (upd (upd (upd (upd c 0 x0) 1 x1) 2 x2) 3 x3) 4 x4) 5 x5) 6 x6) :=
  ((((((h.set 0 x0).set 1 x1).set 2 x2).set 3 x3).set 4 x4).set 5 x5).set 6 x6
theorem bel_put {w0 w : World} (h : Below w0.heap.size w0 w) (B : Nat) (hB : w0.heap.size ≤ B) (u0 u1 u2 u3 u4 u5 u6 : Value) :
    Below w0.heap.size w0 (((((((w.setCell ⟨B, 0, none⟩ u0).setCell ⟨B, 1, none⟩ u1).setCell ⟨B, 2, none⟩ u2).setCell ⟨B, 3, none⟩ u3).setCell ⟨B, 4, none⟩ u4).setCell ⟨B, 5, none⟩ u5).setCell ⟨B, 6, none⟩ u6) :=
  ((((((h.setCell (p := ⟨_, _, _⟩) hB _).setCell (p := ⟨_, _, _⟩) hB _).setCell (p := ⟨_, _, _⟩) hB _).setCell (p := ⟨_, _, _⟩) hB _).setCell (p := ⟨_, _, _⟩) hB _).setCell (p := ⟨_, _, _⟩) hB _).setCell (p := ⟨_, _, _⟩) hB _
set_option maxHeartbeats 1000000 in
theorem res_of {fn : Func} {t : Tmp} (hr : fn.results = #[.cell t 146]) (tmps : Array Value) (W : World) (B : Nat) (c : Nat → Int) (ht : tmps.getD t undef = .pointer (some ⟨B, 0, none⟩)) (h : Row7 W B c) :
    (results fn tmps).run Tryz.prog W = .ok (.agg #[.int .i64 (c 0), .int .i64 (c 1), .int .i64 (c 2), .int .i64 (c 3), .int .i64 (c 4), .int .i64 (c 5), .int .i64 (c 6)]) W := by
  obtain ⟨r0, r1, r2, r3, r4, r5, r6⟩ := list7 _ h.cell
  rw [Array.getD_eq_getD_getElem?] at ht
  simp [results, hr, ht, go_sem, r0, r1, r2, r3, r4, r5, r6]
set_option maxRecDepth 10000 in
set_option maxHeartbeats 4000000 in
theorem noSums_any (w : World) : Calls Tryz.prog 141 #[] w fun e w' => e = .returned noS.val ∧ Below w.heap.size w w' := by
  have HR : Hid (∀ o, Row7 ((w.alloc (.cells #[.int .i64 0, .int .i64 0, .int .i64 0, .int .i64 0, .int .i64 0, .int .i64 0, .int .i64 0] 146)).alloc o) w.heap.size (fun _ => 0)) := fun o =>
    ((row7_new w ⟨0, fun _ => 0⟩ 146).alloc o).congr (fun j _ => by unfold Sums.at; split <;> rfl)
  have HS : Hid (Row7 ((w.alloc (.cells #[.int .i64 0, .int .i64 0, .int .i64 0, .int .i64 0, .int .i64 0, .int .i64 0, .int .i64 0] 146)).alloc (.cells #[.int .i64 0, .int .i64 0, .int .i64 0, .int .i64 0, .int .i64 0, .int .i64 0, .int .i64 0] 146)) (w.heap.size + 1) (fun j => if 1 ≤ j ∧ j ≤ 0 then -1 else 0)) := by
    have := row7_new (w.alloc (.cells #[.int .i64 0, .int .i64 0, .int .i64 0, .int .i64 0, .int .i64 0, .int .i64 0, .int .i64 0] 146)) ⟨0, fun _ => 0⟩ 146
    rw [World.size_alloc] at this
    exact this.congr (fun j _ => by show (if j = 0 then (0 : Int) else 0) = (if 1 ≤ j ∧ j ≤ 0 then -1 else 0); rw [if_neg (show ¬ (1 ≤ j ∧ j ≤ 0) from by omega)]; split <;> rfl)
  go_enter Tryz.func141, Tryz.ntmps141
  go_wp2_with fail
  go_loopw [3] (fun i wr => ∃ (k : Nat), k ≤ 6 ∧ i = .int .i64 k ∧ Hid (Row7 wr (w.heap.size + 1) (fun j => if 1 ≤ j ∧ j ≤ k then -1 else 0)) ∧ Hid (Row7 wr w.heap.size (fun _ => 0)) ∧ Below w.heap.size w wr) (fun i _ => 6 - (intOf i).toNat)
  case atStart => exact ⟨0, by omega, rfl, HS, HR.out _, bel_alloc (bel_alloc (Below.refl _ _) _) _⟩
  case round =>
    obtain ⟨k, hk, rfl, H1, H0, hbel⟩ := hrel
    clear HR HS
    by_cases hlt : k < 6
    · have hlt' : (k : Int) < 6 := by omega
      obtain ⟨u, hc⟩ : ∃ u, wr.cell? ⟨w.heap.size + 1, 1 + k, none⟩ = some u := ⟨_, H1.out.cell (1 + k) (by omega)⟩
      have hf := H1.out.free (1 + k)
      have HN : Hid (Row7 (wr.setCell ⟨w.heap.size + 1, 1 + k, none⟩ (.int .i64 (-1))) (w.heap.size + 1) (fun j => if 1 ≤ j ∧ j ≤ k + 1 then -1 else 0)) := (H1.out.set (1 + k) (-1)).congr (fun j _ => by
        unfold upd
        dsimp only
        by_cases e : j = 1 + k
        · rw [if_pos e, if_pos (by omega)]
        · rw [if_neg e]
          by_cases e2 : 1 ≤ j ∧ j ≤ k
          · rw [if_pos e2, if_pos (by omega)]
          · rw [if_neg e2, if_neg (by omega)])
      have HN0 : Hid (Row7 (wr.setCell ⟨w.heap.size + 1, 1 + k, none⟩ (.int .i64 (-1))) w.heap.size (fun _ => 0)) := H0.out.far (by simp) _
      clear H1 H0
      go_wp2_with fail
      go_roundw
      case rel => exact ⟨k + 1, by omega, by go_num, HN, HN0, hbel.setCell (p := ⟨_, _, _⟩) (by show w.heap.size ≤ w.heap.size + 1; omega) _⟩
      case measure => simp [intOf]; omega
    · obtain rfl : k = 6 := by omega
      obtain ⟨s0, s1, s2, s3, s4, s5, s6⟩ := list7 _ H1.out.cell
      simp at s0 s1 s2 s3 s4 s5 s6
      obtain ⟨r0, r1, r2, r3, r4, r5, r6⟩ := list7 _ H0.out.cell
      have z := H0.out.free
      have HF := hide (row7_put H0.out 0 (-1) (-1) (-1) (-1) (-1) (-1))
      have HB := hide (bel_put hbel w.heap.size (Nat.le_refl _) (.int .i64 0) (.int .i64 (-1)) (.int .i64 (-1)) (.int .i64 (-1)) (.int .i64 (-1)) (.int .i64 (-1)) (.int .i64 (-1)))
      clear H1 H0
      go_wp2_with fail
      refine bodyPost_ret (res_of Tryz.results141 _ _ _ _ rfl HF.out) rfl ⟨?_, HB.out⟩
      simp [upd, Sums.val, noS]

theorem idx0 (a0 a1 a2 a3 a4 a5 : Int) (W : World) : (Instr.index 141 (.agg #[.int .i64 a0, .int .i64 a1, .int .i64 a2, .int .i64 a3, .int .i64 a4, .int .i64 a5]) (.int .i64 0)).run Tryz.prog W = .ok (.int .i64 a0) W := by kernel_rfl
theorem idx1 (a0 a1 a2 a3 a4 a5 : Int) (W : World) : (Instr.index 141 (.agg #[.int .i64 a0, .int .i64 a1, .int .i64 a2, .int .i64 a3, .int .i64 a4, .int .i64 a5]) (.int .i64 1)).run Tryz.prog W = .ok (.int .i64 a1) W := by kernel_rfl
theorem idx2 (a0 a1 a2 a3 a4 a5 : Int) (W : World) : (Instr.index 141 (.agg #[.int .i64 a0, .int .i64 a1, .int .i64 a2, .int .i64 a3, .int .i64 a4, .int .i64 a5]) (.int .i64 2)).run Tryz.prog W = .ok (.int .i64 a2) W := by kernel_rfl
theorem idx3 (a0 a1 a2 a3 a4 a5 : Int) (W : World) : (Instr.index 141 (.agg #[.int .i64 a0, .int .i64 a1, .int .i64 a2, .int .i64 a3, .int .i64 a4, .int .i64 a5]) (.int .i64 3)).run Tryz.prog W = .ok (.int .i64 a3) W := by kernel_rfl
theorem idx4 (a0 a1 a2 a3 a4 a5 : Int) (W : World) : (Instr.index 141 (.agg #[.int .i64 a0, .int .i64 a1, .int .i64 a2, .int .i64 a3, .int .i64 a4, .int .i64 a5]) (.int .i64 4)).run Tryz.prog W = .ok (.int .i64 a4) W := by kernel_rfl
theorem idx5 (a0 a1 a2 a3 a4 a5 : Int) (W : World) : (Instr.index 141 (.agg #[.int .i64 a0, .int .i64 a1, .int .i64 a2, .int .i64 a3, .int .i64 a4, .int .i64 a5]) (.int .i64 5)).run Tryz.prog W = .ok (.int .i64 a5) W := by kernel_rfl
theorem index6 (S : Sums) (k : Nat) (h : k < 6) (W : World) : (Instr.index 141 (.agg #[.int .i64 (S.tops 0), .int .i64 (S.tops 1), .int .i64 (S.tops 2), .int .i64 (S.tops 3), .int .i64 (S.tops 4), .int .i64 (S.tops 5)]) (.int .i64 (k : Int))).run Tryz.prog W = .ok (.int .i64 (S.tops k)) W := by
  have : k = 0 ∨ k = 1 ∨ k = 2 ∨ k = 3 ∨ k = 4 ∨ k = 5 := by omega
  rcases this with rfl | rfl | rfl | rfl | rfl | rfl
  · exact idx0 _ _ _ _ _ _ W
  · exact idx1 _ _ _ _ _ _ W
  · exact idx2 _ _ _ _ _ _ W
  · exact idx3 _ _ _ _ _ _ W
  · exact idx4 _ _ _ _ _ _ W
  · exact idx5 _ _ _ _ _ _ W

/-- The sums behind k rounds of plus. -/
def plusTo (S : Sums) (n k j : Nat) : Int := if j = 0 then S.least + n else if j ≤ k ∧ 0 ≤ S.tops (j - 1) then S.tops (j - 1) + n else S.tops (j - 1)
theorem plusTo_yes {S : Sums} {n k : Nat} (h : 0 ≤ S.tops k) (j : Nat) (_hj : j < 7) : upd (plusTo S n k) (1 + k) (S.tops k + n) j = plusTo S n (k + 1) j := by
  unfold upd plusTo
  by_cases e : j = 1 + k
  · subst e
    rw [if_pos rfl, if_neg (by omega), show 1 + k - 1 = k from by omega, if_pos ⟨by omega, h⟩]
  · rw [if_neg e]
    by_cases e0 : j = 0
    · rw [if_pos e0, if_pos e0]
    · rw [if_neg e0, if_neg e0]
      by_cases e1 : j ≤ k ∧ 0 ≤ S.tops (j - 1)
      · rw [if_pos e1, if_pos ⟨by omega, e1.2⟩]
      · rw [if_neg e1, if_neg (fun c => e1 ⟨by omega, c.2⟩)]
theorem plusTo_no {S : Sums} {n k : Nat} (h : ¬ 0 ≤ S.tops k) (j : Nat) (_hj : j < 7) : plusTo S n k j = plusTo S n (k + 1) j := by
  unfold plusTo
  by_cases e0 : j = 0
  · rw [if_pos e0, if_pos e0]
  · rw [if_neg e0, if_neg e0]
    by_cases e1 : j ≤ k ∧ 0 ≤ S.tops (j - 1)
    · rw [if_pos e1, if_pos ⟨by omega, e1.2⟩]
    · rw [if_neg e1, if_neg]
      rintro ⟨c1, c2⟩
      by_cases e2 : j ≤ k
      · exact e1 ⟨e2, c2⟩
      · rw [show j - 1 = k from by omega] at c2; exact h c2
theorem plusTo_end (S : Sums) (n : Nat) : ∀ j, j < 7 → plusTo S n 6 j = (S.plus n).at j := by
  intro j hj
  unfold plusTo Sums.at Sums.plus
  by_cases e0 : j = 0
  · rw [if_pos e0, if_pos e0]
  · rw [if_neg e0, if_neg e0]
    dsimp only
    by_cases e1 : 0 ≤ S.tops (j - 1)
    · rw [if_pos e1, if_pos ⟨by omega, e1⟩]
    · rw [if_neg e1, if_neg (fun c => e1 c.2)]

set_option maxRecDepth 10000 in
set_option maxHeartbeats 4000000 in
theorem plus_any (S : Sums) (n : Nat) (w : World) (hn : n ≤ 1000) (h0 : 0 ≤ S.least) (h1 : S.least ≤ 1000) (h2 : ∀ i, -1 ≤ S.tops i ∧ S.tops i ≤ 1000) : Calls Tryz.prog 139 #[S.val, .int .i64 n] w fun e w' => e = .returned (S.plus n).val ∧ Below w.heap.size w w' := by
  have HN : Hid (Row7 (w.alloc (.cells #[.int .i64 S.least, .int .i64 (S.tops 0), .int .i64 (S.tops 1), .int .i64 (S.tops 2), .int .i64 (S.tops 3), .int .i64 (S.tops 4), .int .i64 (S.tops 5)] 146)) w.heap.size S.at) := row7_new w S 146
  have HW : Hid (Row7 ((w.alloc (.cells #[.int .i64 (S.least + n), .int .i64 (S.tops 0), .int .i64 (S.tops 1), .int .i64 (S.tops 2), .int .i64 (S.tops 3), .int .i64 (S.tops 4), .int .i64 (S.tops 5)] 146)).alloc (.cells #[.int .i64 0, .int .i64 0, .int .i64 0, .int .i64 0, .int .i64 0, .int .i64 0, .int .i64 0] 146)) w.heap.size (plusTo S n 0)) :=
    ((row7_new w ⟨S.least + n, S.tops⟩ 146).alloc _).congr (fun j _ => by
      unfold Sums.at plusTo; dsimp only
      by_cases e : j = 0
      · rw [if_pos e, if_pos e]
      · rw [if_neg e, if_neg e, if_neg (by omega)])
  have HR : Hid (Row7 ((w.alloc (.cells #[.int .i64 (S.least + n), .int .i64 (S.tops 0), .int .i64 (S.tops 1), .int .i64 (S.tops 2), .int .i64 (S.tops 3), .int .i64 (S.tops 4), .int .i64 (S.tops 5)] 146)).alloc (.cells #[.int .i64 0, .int .i64 0, .int .i64 0, .int .i64 0, .int .i64 0, .int .i64 0, .int .i64 0] 146)) (w.heap.size + 1) (fun _ => 0)) := by
    have := row7_new (w.alloc (.cells #[.int .i64 (S.least + n), .int .i64 (S.tops 0), .int .i64 (S.tops 1), .int .i64 (S.tops 2), .int .i64 (S.tops 3), .int .i64 (S.tops 4), .int .i64 (S.tops 5)] 146)) ⟨0, fun _ => 0⟩ 146
    rw [World.size_alloc] at this
    exact this.congr (fun j _ => by unfold Sums.at; split <;> rfl)
  have HIDX := hide (index6 S)
  clear HN
  simp only [Sums.val]
  go_enter Tryz.func139, Tryz.ntmps139
  go_wp2_with fail
  go_loopw [14] (fun i wr => ∃ (k : Nat), k ≤ 6 ∧ i = .int .i64 k ∧ Hid (Row7 wr w.heap.size (plusTo S n k)) ∧ Hid (Row7 wr (w.heap.size + 1) (fun _ => 0)) ∧ Below w.heap.size w wr) (fun i _ => 6 - (intOf i).toNat)
  case atStart => exact ⟨0, by omega, rfl, HW, HR, bel_alloc (bel_alloc (Below.refl _ _) _) _⟩
  case round =>
    obtain ⟨k, hk, rfl, H1, H0, hbel⟩ := hrel
    clear HR HW
    by_cases hlt : k < 6
    · have hlt' : (k : Int) < 6 := by omega
      have hx := HIDX.out k hlt
      have hc : wr.cell? ⟨w.heap.size, 1 + k, none⟩ = some (.int .i64 (S.tops k)) := by
        rw [H1.out.cell (1 + k) (by omega)]
        unfold plusTo
        rw [if_neg (by omega), if_neg (by omega), show 1 + k - 1 = k from by omega]
      have hf := H1.out.free (1 + k)
      have hb := h2 k
      have HN0 : Hid (∀ u, Row7 (wr.setCell ⟨w.heap.size, 1 + k, none⟩ u) (w.heap.size + 1) (fun _ => 0)) := fun u => H0.out.far (by simp) u
      by_cases hpos : 0 ≤ S.tops k
      · have HN : Hid (Row7 (wr.setCell ⟨w.heap.size, 1 + k, none⟩ (.int .i64 (S.tops k + n))) w.heap.size (plusTo S n (k + 1))) := (H1.out.set (1 + k) _).congr (fun j hj => plusTo_yes hpos j hj)
        generalize S.tops k = q at *
        clear H1 H0 HIDX
        go_wp2_with fail
        go_roundw
        case rel => exact ⟨k + 1, by omega, by go_num, HN, HN0.out _, hbel.setCell (p := ⟨_, _, _⟩) (Nat.le_refl _) _⟩
        case measure => simp [intOf]; omega
      · have HN : Hid (Row7 wr w.heap.size (plusTo S n (k + 1))) := H1.out.congr (fun j hj => plusTo_no hpos j hj)
        generalize S.tops k = q at *
        clear H1 HIDX HN0
        go_wp2_with fail
        go_roundw
        case rel => exact ⟨k + 1, by omega, by go_num, HN, H0, hbel⟩
        case measure => simp [intOf]; omega
    · obtain rfl : k = 6 := by omega
      have HE := hide (plusTo_end S n)
      obtain ⟨s0, s1, s2, s3, s4, s5, s6⟩ := list7 _ H1.out.cell
      rw [HE.out 0 (by omega)] at s0
      rw [HE.out 1 (by omega)] at s1
      rw [HE.out 2 (by omega)] at s2
      rw [HE.out 3 (by omega)] at s3
      rw [HE.out 4 (by omega)] at s4
      rw [HE.out 5 (by omega)] at s5
      rw [HE.out 6 (by omega)] at s6
      obtain ⟨r0, r1, r2, r3, r4, r5, r6⟩ := list7 _ H0.out.cell
      have z := H0.out.free
      have HF := hide (row7_put H0.out ((S.plus n).at 0) ((S.plus n).at 1) ((S.plus n).at 2) ((S.plus n).at 3) ((S.plus n).at 4) ((S.plus n).at 5) ((S.plus n).at 6))
      have HB := hide (bel_put hbel (w.heap.size + 1) (by omega) (.int .i64 ((S.plus n).at 0)) (.int .i64 ((S.plus n).at 1)) (.int .i64 ((S.plus n).at 2)) (.int .i64 ((S.plus n).at 3)) (.int .i64 ((S.plus n).at 4)) (.int .i64 ((S.plus n).at 5)) (.int .i64 ((S.plus n).at 6)))
      have HV : Hid ((S.plus n).val = .agg #[.int .i64 ((S.plus n).at 0), .int .i64 ((S.plus n).at 1), .int .i64 ((S.plus n).at 2), .int .i64 ((S.plus n).at 3), .int .i64 ((S.plus n).at 4), .int .i64 ((S.plus n).at 5), .int .i64 ((S.plus n).at 6)]) := rfl
      generalize (S.plus n).at = c at *
      clear H1 H0 HE HIDX
      go_wp2_with fail
      refine bodyPost_ret (res_of Tryz.results139 _ _ _ _ rfl HF.out) rfl ⟨?_, HB.out⟩
      show _ = Ending.returned (S.plus n).val
      rw [HV.out]
      simp [upd]

/-- The sums behind k rounds of join. -/
def joinTo (S R : Sums) (k j : Nat) : Int := if j = 0 then (if R.least < S.least then S.least else R.least) else if j ≤ k then (if R.tops (j - 1) < S.tops (j - 1) then S.tops (j - 1) else R.tops (j - 1)) else S.tops (j - 1)
theorem joinTo_step {S R : Sums} {k : Nat} {x : Int} (hx : x = if R.tops k < S.tops k then S.tops k else R.tops k) (j : Nat) (_hj : j < 7) : upd (joinTo S R k) (1 + k) x j = joinTo S R (k + 1) j := by
  unfold upd joinTo
  by_cases e : j = 1 + k
  · subst e
    rw [if_pos rfl, if_neg (by omega), show 1 + k - 1 = k from by omega, if_pos (show 1 + k ≤ k + 1 from by omega), hx]
  · rw [if_neg e]
    by_cases e0 : j = 0
    · rw [if_pos e0, if_pos e0]
    · rw [if_neg e0, if_neg e0]
      by_cases e1 : j ≤ k
      · rw [if_pos e1, if_pos (show j ≤ k + 1 from by omega)]
      · rw [if_neg e1, if_neg (show ¬ j ≤ k + 1 from by omega)]
theorem joinTo_end (S R : Sums) : ∀ j, j < 7 → joinTo S R 6 j = (S.join R).at j := by
  intro j hj
  unfold joinTo Sums.at Sums.join
  by_cases e0 : j = 0
  · rw [if_pos e0, if_pos e0]
  · rw [if_neg e0, if_neg e0, if_pos (by omega)]

set_option maxRecDepth 10000 in
set_option maxHeartbeats 4000000 in
theorem join_any (S R : Sums) (w : World) : Calls Tryz.prog 140 #[S.val, R.val] w fun e w' => e = .returned (S.join R).val ∧ Below w.heap.size w w' := by
  obtain ⟨m, hm⟩ : ∃ m : Int, m = if R.least < S.least then S.least else R.least := ⟨_, rfl⟩
  have HM := hide hm
  have HW : Hid (Row7 (((w.alloc (.cells #[.int .i64 m, .int .i64 (S.tops 0), .int .i64 (S.tops 1), .int .i64 (S.tops 2), .int .i64 (S.tops 3), .int .i64 (S.tops 4), .int .i64 (S.tops 5)] 146)).alloc (.cells #[.int .i64 R.least, .int .i64 (R.tops 0), .int .i64 (R.tops 1), .int .i64 (R.tops 2), .int .i64 (R.tops 3), .int .i64 (R.tops 4), .int .i64 (R.tops 5)] 146)).alloc (.cells #[.int .i64 0, .int .i64 0, .int .i64 0, .int .i64 0, .int .i64 0, .int .i64 0, .int .i64 0] 146)) w.heap.size (joinTo S R 0)) :=
    (((row7_new w ⟨m, S.tops⟩ 146).alloc _).alloc _).congr (fun j _ => by
      unfold Sums.at joinTo; dsimp only
      by_cases e : j = 0
      · rw [if_pos e, if_pos e, hm]
      · rw [if_neg e, if_neg e, if_neg (by omega)])
  have HR : Hid (Row7 (((w.alloc (.cells #[.int .i64 m, .int .i64 (S.tops 0), .int .i64 (S.tops 1), .int .i64 (S.tops 2), .int .i64 (S.tops 3), .int .i64 (S.tops 4), .int .i64 (S.tops 5)] 146)).alloc (.cells #[.int .i64 R.least, .int .i64 (R.tops 0), .int .i64 (R.tops 1), .int .i64 (R.tops 2), .int .i64 (R.tops 3), .int .i64 (R.tops 4), .int .i64 (R.tops 5)] 146)).alloc (.cells #[.int .i64 0, .int .i64 0, .int .i64 0, .int .i64 0, .int .i64 0, .int .i64 0, .int .i64 0] 146)) (w.heap.size + 1 + 1) (fun _ => 0)) := by
    have := row7_new ((w.alloc (.cells #[.int .i64 m, .int .i64 (S.tops 0), .int .i64 (S.tops 1), .int .i64 (S.tops 2), .int .i64 (S.tops 3), .int .i64 (S.tops 4), .int .i64 (S.tops 5)] 146)).alloc (.cells #[.int .i64 R.least, .int .i64 (R.tops 0), .int .i64 (R.tops 1), .int .i64 (R.tops 2), .int .i64 (R.tops 3), .int .i64 (R.tops 4), .int .i64 (R.tops 5)] 146)) ⟨0, fun _ => 0⟩ 146
    rw [World.size_alloc, World.size_alloc] at this
    exact this.congr (fun j _ => by unfold Sums.at; split <;> rfl)
  have HIDX := hide (index6 R)
  have hcase : (S.least < R.least ∧ m = R.least) ∨ (¬ S.least < R.least ∧ m = S.least) := by
    by_cases h : S.least < R.least
    · left; rw [if_neg (by omega)] at hm; exact ⟨h, hm⟩
    · right; refine ⟨h, ?_⟩; split at hm <;> omega
  clear hm HM
  have HVAL : Hid ((S.join R).val = .agg #[.int .i64 ((S.join R).at 0), .int .i64 ((S.join R).at 1), .int .i64 ((S.join R).at 2), .int .i64 ((S.join R).at 3), .int .i64 ((S.join R).at 4), .int .i64 ((S.join R).at 5), .int .i64 ((S.join R).at 6)]) := rfl
  simp only [Sums.val] at HVAL ⊢
  rcases hcase with ⟨hc, rfl⟩ | ⟨hc, rfl⟩
  all_goals
    go_enter Tryz.func140, Tryz.ntmps140
    go_wp2_with fail
    go_loopw [15] (fun i wr => ∃ (k : Nat), k ≤ 6 ∧ i = .int .i64 k ∧ Hid (Row7 wr w.heap.size (joinTo S R k)) ∧ Hid (Row7 wr (w.heap.size + 1 + 1) (fun _ => 0)) ∧ Below w.heap.size w wr) (fun i _ => 6 - (intOf i).toNat)
    case atStart => exact ⟨0, by omega, rfl, HW, HR, bel_alloc (bel_alloc (bel_alloc (Below.refl _ _) _) _) _⟩
    case round =>
      obtain ⟨k, hk, rfl, H1, H0, hbel⟩ := hrel
      clear HR HW hc
      by_cases hlt : k < 6
      · have hlt' : (k : Int) < 6 := by omega
        have hx := HIDX.out k hlt
        have hc : wr.cell? ⟨w.heap.size, 1 + k, none⟩ = some (.int .i64 (S.tops k)) := by
          rw [H1.out.cell (1 + k) (by omega)]
          unfold joinTo
          rw [if_neg (by omega), if_neg (by omega), show 1 + k - 1 = k from by omega]
        have hf := H1.out.free (1 + k)
        have HN0 : Hid (∀ u, Row7 (wr.setCell ⟨w.heap.size, 1 + k, none⟩ u) (w.heap.size + 1 + 1) (fun _ => 0)) := fun u => H0.out.far (by simp; omega) u
        by_cases hq : S.tops k < R.tops k
        · have HN : Hid (Row7 (wr.setCell ⟨w.heap.size, 1 + k, none⟩ (.int .i64 (R.tops k))) w.heap.size (joinTo S R (k + 1))) := (H1.out.set (1 + k) _).congr (fun j hj => joinTo_step (by rw [if_neg (by omega)]) j hj)
          generalize S.tops k = p at *
          generalize R.tops k = q at *
          clear H1 H0 HIDX
          go_wp2_with fail
          go_roundw
          case rel => exact ⟨k + 1, by omega, by go_num, HN, HN0.out _, hbel.setCell (p := ⟨_, _, _⟩) (Nat.le_refl _) _⟩
          case measure => simp [intOf]; omega
        · have HN : Hid (Row7 (wr.setCell ⟨w.heap.size, 1 + k, none⟩ (.int .i64 (S.tops k))) w.heap.size (joinTo S R (k + 1))) := (H1.out.set (1 + k) _).congr (fun j hj => joinTo_step (by split <;> omega) j hj)
          generalize S.tops k = p at *
          generalize R.tops k = q at *
          clear H1 H0 HIDX
          go_wp2_with fail
          go_roundw
          case rel => exact ⟨k + 1, by omega, by go_num, HN, HN0.out _, hbel.setCell (p := ⟨_, _, _⟩) (Nat.le_refl _) _⟩
          case measure => simp [intOf]; omega
      · obtain rfl : k = 6 := by omega
        have HE := hide (joinTo_end S R)
        obtain ⟨s0, s1, s2, s3, s4, s5, s6⟩ := list7 _ H1.out.cell
        rw [HE.out 0 (by omega)] at s0
        rw [HE.out 1 (by omega)] at s1
        rw [HE.out 2 (by omega)] at s2
        rw [HE.out 3 (by omega)] at s3
        rw [HE.out 4 (by omega)] at s4
        rw [HE.out 5 (by omega)] at s5
        rw [HE.out 6 (by omega)] at s6
        obtain ⟨r0, r1, r2, r3, r4, r5, r6⟩ := list7 _ H0.out.cell
        have z := H0.out.free
        have HF := hide (row7_put H0.out ((S.join R).at 0) ((S.join R).at 1) ((S.join R).at 2) ((S.join R).at 3) ((S.join R).at 4) ((S.join R).at 5) ((S.join R).at 6))
        have HB := hide (bel_put hbel (w.heap.size + 1 + 1) (by omega) (.int .i64 ((S.join R).at 0)) (.int .i64 ((S.join R).at 1)) (.int .i64 ((S.join R).at 2)) (.int .i64 ((S.join R).at 3)) (.int .i64 ((S.join R).at 4)) (.int .i64 ((S.join R).at 5)) (.int .i64 ((S.join R).at 6)))
        generalize (S.join R).at = c at *
        clear H1 H0 HE HIDX
        go_wp2_with fail
        refine bodyPost_ret (res_of Tryz.results140 _ _ _ _ rfl HF.out) rfl ⟨?_, HB.out⟩
        rw [HVAL.out]
        simp [upd]

def leqB (S R : Sums) : Bool := decide (S.tops 0 ≤ R.tops 0 ∧ S.tops 1 ≤ R.tops 1 ∧ S.tops 2 ≤ R.tops 2 ∧ S.tops 3 ≤ R.tops 3 ∧ S.tops 4 ≤ R.tops 4 ∧ S.tops 5 ≤ R.tops 5 ∧ S.least ≤ R.least)
theorem leqB_iff (S R : Sums) : leqB S R = true ↔ leqS S R := by
  unfold leqB leqS
  rw [decide_eq_true_eq]
  constructor
  · rintro ⟨h0, h1, h2, h3, h4, h5, h6⟩
    refine ⟨fun i hi => ?_, h6⟩
    have : i = 0 ∨ i = 1 ∨ i = 2 ∨ i = 3 ∨ i = 4 ∨ i = 5 := by omega
    rcases this with rfl | rfl | rfl | rfl | rfl | rfl <;> assumption
  · rintro ⟨h, h6⟩
    exact ⟨h 0 (by omega), h 1 (by omega), h 2 (by omega), h 3 (by omega), h 4 (by omega), h 5 (by omega), h6⟩
theorem leqB_no {S R : Sums} (k : Nat) (hk : k < 6) (h : R.tops k < S.tops k) : leqB S R = false := by
  rw [Bool.eq_false_iff]
  intro c
  have := ((leqB_iff S R).1 c).1 k hk
  omega
theorem leqB_all {S R : Sums} (h : ∀ k, k < 6 → S.tops k ≤ R.tops k) : leqB S R = decide (S.least ≤ R.least) := by
  rw [Bool.eq_iff_iff, leqB_iff, decide_eq_true_eq]
  exact ⟨fun c => c.2, fun c => ⟨h, c⟩⟩

set_option maxRecDepth 10000 in
set_option maxHeartbeats 4000000 in
theorem sumsLeq_any (S R : Sums) (w : World) : Calls Tryz.prog 112 #[S.val, R.val] w fun e w' => e = .returned (.bool (leqB S R)) ∧ Below w.heap.size w w' := by
  have HRW : Hid (Row7 ((w.alloc (.cells #[.int .i64 S.least, .int .i64 (S.tops 0), .int .i64 (S.tops 1), .int .i64 (S.tops 2), .int .i64 (S.tops 3), .int .i64 (S.tops 4), .int .i64 (S.tops 5)] 146)).alloc (.cells #[.int .i64 R.least, .int .i64 (R.tops 0), .int .i64 (R.tops 1), .int .i64 (R.tops 2), .int .i64 (R.tops 3), .int .i64 (R.tops 4), .int .i64 (R.tops 5)] 146)) (w.heap.size + 1) R.at) := by
    have := row7_new (w.alloc (.cells #[.int .i64 S.least, .int .i64 (S.tops 0), .int .i64 (S.tops 1), .int .i64 (S.tops 2), .int .i64 (S.tops 3), .int .i64 (S.tops 4), .int .i64 (S.tops 5)] 146)) R 146
    rw [World.size_alloc] at this
    exact this
  have HSW : Hid (Row7 ((w.alloc (.cells #[.int .i64 S.least, .int .i64 (S.tops 0), .int .i64 (S.tops 1), .int .i64 (S.tops 2), .int .i64 (S.tops 3), .int .i64 (S.tops 4), .int .i64 (S.tops 5)] 146)).alloc (.cells #[.int .i64 R.least, .int .i64 (R.tops 0), .int .i64 (R.tops 1), .int .i64 (R.tops 2), .int .i64 (R.tops 3), .int .i64 (R.tops 4), .int .i64 (R.tops 5)] 146)) w.heap.size S.at) := (row7_new w S 146).alloc _
  have HBB := hide (bel_alloc (bel_alloc (Below.refl w.heap.size w) (.cells #[.int .i64 S.least, .int .i64 (S.tops 0), .int .i64 (S.tops 1), .int .i64 (S.tops 2), .int .i64 (S.tops 3), .int .i64 (S.tops 4), .int .i64 (S.tops 5)] 146)) (.cells #[.int .i64 R.least, .int .i64 (R.tops 0), .int .i64 (R.tops 1), .int .i64 (R.tops 2), .int .i64 (R.tops 3), .int .i64 (R.tops 4), .int .i64 (R.tops 5)] 146))
  have HIDX := hide (index6 S)
  simp only [Sums.val]
  go_enter Tryz.func112, Tryz.ntmps112
  go_wp2_with fail
  go_loopw [9] (fun i wr => ∃ (k : Nat), k ≤ 6 ∧ i = .int .i64 k ∧ Hid (∀ j, j < k → S.tops j ≤ R.tops j) ∧ Hid (Row7 wr (w.heap.size + 1) R.at) ∧ Hid (Row7 wr w.heap.size S.at) ∧ Hid (Below w.heap.size w wr)) (fun i _ => 6 - (intOf i).toNat)
  case atStart => exact ⟨0, by omega, rfl, fun j h => by omega, HRW, HSW, HBB⟩
  case round =>
    obtain ⟨k, hk, rfl, HA, H1, H0, HB⟩ := hrel
    clear HRW HSW HBB
    by_cases hlt : k < 6
    · have hlt' : (k : Int) < 6 := by omega
      have hx := HIDX.out k hlt
      have hc : wr.cell? ⟨w.heap.size + 1, 1 + k, none⟩ = some (.int .i64 (R.tops k)) := by
        rw [H1.out.cell (1 + k) (by omega)]
        unfold Sums.at
        rw [if_neg (by omega), show 1 + k - 1 = k from by omega]
      by_cases hq : R.tops k < S.tops k
      · have HN := hide (leqB_no k hlt hq)
        generalize S.tops k = p at *
        generalize R.tops k = q at *
        clear H1 H0 HIDX
        go_wp2_with fail
        go_ret
        exact ⟨ret_bool HN.out.symm, HB.out⟩
      · have HA2 : Hid (∀ j, j < k + 1 → S.tops j ≤ R.tops j) := by
          intro j hj
          by_cases e : j = k
          · subst e; omega
          · exact HA.out j (by omega)
        generalize S.tops k = p at *
        generalize R.tops k = q at *
        clear HIDX
        go_wp2_with fail
        go_roundw
        case rel => exact ⟨k + 1, by omega, by go_num, HA2, H1, H0, HB⟩
        case measure => simp [intOf]; omega
    · obtain rfl : k = 6 := by omega
      have HN := hide (leqB_all HA.out)
      have s0 := H0.out.cell 0 (by omega)
      have r0 := H1.out.cell 0 (by omega)
      unfold Sums.at at s0 r0
      rw [if_pos rfl] at s0 r0
      clear H1 H0 HIDX
      go_wp2_with fail
      go_ret
      exact ⟨ret_bool HN.out.symm, HB.out⟩
end Go.Proofs.YtgomimhelgjddaaGreat
