/- What the program reads of its package: the table of forms, and the library's powers of ten. -/
import Derived.Test.YtcagcfhnbphggaaGreatDoorTtI
namespace Go.Proofs.YtcagcfhnbphggaaGreatDoor
open Go.ChangeShapes Go.WideShapes Go.ChangeAt Go.RowKit

def bA (l : List UInt8) : ByteArray := ⟨l.toArray⟩
def formV (k : Int) : List Value := [.int .i64 k, .string (bA (signT k)), .string (bA (partsK k))]
def formsV : List Value := formV 4 ++ formV 5 ++ formV 6 ++ formV 7 ++ formV 8
/-- The variables that are read. -/
structure Tabs (w : World) : Prop where
  tab : Lib.TabIs Tryz.prog w "internal/strconv.uint64pow10" .u64 Lib.pow10Tab
  frm : ∀ j, j < 15 → w.cell? ⟨0, j, none⟩ = formsV[j]?
theorem Tabs.keep {w w' : World} (h : Tabs w) (hb : Below w.heap.size w w') : Tabs w' := by
  refine ⟨Go.Joins.tab_stays (g := 1) (by kernel_rfl) h.tab hb (Nat.le_refl _), fun j hj => ?_⟩
  have h1 := h.frm j hj
  obtain ⟨v, hv⟩ : ∃ v, formsV[j]? = some v := ⟨_, List.getElem?_eq_getElem (show j < formsV.length from hj)⟩
  rw [hv] at h1 ⊢
  exact keep_cell hb h1
theorem set3 {w : World} {B : Nat} {u0 u1 u2 : Value} (h0 : w.cell? ⟨B, 0, none⟩ = some u0) (h1 : w.cell? ⟨B, 1, none⟩ = some u1) (h2 : w.cell? ⟨B, 2, none⟩ = some u2) (v0 v1 v2 : Value) :
    (((w.setCell ⟨B, 0, none⟩ v0).setCell ⟨B, 1, none⟩ v1).setCell ⟨B, 2, none⟩ v2).cell? ⟨B, 0, none⟩ = some v0 ∧
    (((w.setCell ⟨B, 0, none⟩ v0).setCell ⟨B, 1, none⟩ v1).setCell ⟨B, 2, none⟩ v2).cell? ⟨B, 1, none⟩ = some v1 ∧
    (((w.setCell ⟨B, 0, none⟩ v0).setCell ⟨B, 1, none⟩ v1).setCell ⟨B, 2, none⟩ v2).cell? ⟨B, 2, none⟩ = some v2 := by
  refine ⟨?_, ?_, ?_⟩
  · rw [World.cell?_setCell_other _ _ _ _ (by simp), World.cell?_setCell_other _ _ _ _ (by simp), World.cell?_setCell_same _ _ _ h0]
  · rw [World.cell?_setCell_other _ _ _ _ (by simp), World.cell?_setCell_same _ _ _ (u := u1) (by rw [World.cell?_setCell_other _ _ _ _ (by simp)]; exact h1)]
  · rw [World.cell?_setCell_same _ _ _ (u := u2) (by rw [World.cell?_setCell_other _ _ _ _ (by simp), World.cell?_setCell_other _ _ _ _ (by simp)]; exact h2)]
theorem idx4 (W : World) : (Instr.index 138 (.agg #[.int .i64 4, .string ⟨#[]⟩, .string ⟨#[107, 107]⟩, .int .i64 5, .string ⟨#[94]⟩, .string ⟨#[83, 77, 107, 107]⟩, .int .i64 6, .string ⟨#[33]⟩, .string ⟨#[83, 77, 107, 107]⟩, .int .i64 7, .string ⟨#[61]⟩, .string ⟨#[83, 107, 107, 107]⟩, .int .i64 8, .string ⟨#[46]⟩, .string ⟨#[83, 78, 107]⟩]) (.int .i64 0)).run Tryz.prog W = .ok (.agg #[.int .i64 4, .string ⟨#[]⟩, .string ⟨#[107, 107]⟩]) W := by kernel_rfl
theorem idx5 (W : World) : (Instr.index 138 (.agg #[.int .i64 4, .string ⟨#[]⟩, .string ⟨#[107, 107]⟩, .int .i64 5, .string ⟨#[94]⟩, .string ⟨#[83, 77, 107, 107]⟩, .int .i64 6, .string ⟨#[33]⟩, .string ⟨#[83, 77, 107, 107]⟩, .int .i64 7, .string ⟨#[61]⟩, .string ⟨#[83, 107, 107, 107]⟩, .int .i64 8, .string ⟨#[46]⟩, .string ⟨#[83, 78, 107]⟩]) (.int .i64 1)).run Tryz.prog W = .ok (.agg #[.int .i64 5, .string ⟨#[94]⟩, .string ⟨#[83, 77, 107, 107]⟩]) W := by kernel_rfl
theorem idx6 (W : World) : (Instr.index 138 (.agg #[.int .i64 4, .string ⟨#[]⟩, .string ⟨#[107, 107]⟩, .int .i64 5, .string ⟨#[94]⟩, .string ⟨#[83, 77, 107, 107]⟩, .int .i64 6, .string ⟨#[33]⟩, .string ⟨#[83, 77, 107, 107]⟩, .int .i64 7, .string ⟨#[61]⟩, .string ⟨#[83, 107, 107, 107]⟩, .int .i64 8, .string ⟨#[46]⟩, .string ⟨#[83, 78, 107]⟩]) (.int .i64 2)).run Tryz.prog W = .ok (.agg #[.int .i64 6, .string ⟨#[33]⟩, .string ⟨#[83, 77, 107, 107]⟩]) W := by kernel_rfl
theorem idx7 (W : World) : (Instr.index 138 (.agg #[.int .i64 4, .string ⟨#[]⟩, .string ⟨#[107, 107]⟩, .int .i64 5, .string ⟨#[94]⟩, .string ⟨#[83, 77, 107, 107]⟩, .int .i64 6, .string ⟨#[33]⟩, .string ⟨#[83, 77, 107, 107]⟩, .int .i64 7, .string ⟨#[61]⟩, .string ⟨#[83, 107, 107, 107]⟩, .int .i64 8, .string ⟨#[46]⟩, .string ⟨#[83, 78, 107]⟩]) (.int .i64 3)).run Tryz.prog W = .ok (.agg #[.int .i64 7, .string ⟨#[61]⟩, .string ⟨#[83, 107, 107, 107]⟩]) W := by kernel_rfl
theorem idx8 (W : World) : (Instr.index 138 (.agg #[.int .i64 4, .string ⟨#[]⟩, .string ⟨#[107, 107]⟩, .int .i64 5, .string ⟨#[94]⟩, .string ⟨#[83, 77, 107, 107]⟩, .int .i64 6, .string ⟨#[33]⟩, .string ⟨#[83, 77, 107, 107]⟩, .int .i64 7, .string ⟨#[61]⟩, .string ⟨#[83, 107, 107, 107]⟩, .int .i64 8, .string ⟨#[46]⟩, .string ⟨#[83, 78, 107]⟩]) (.int .i64 4)).run Tryz.prog W = .ok (.agg #[.int .i64 8, .string ⟨#[46]⟩, .string ⟨#[83, 78, 107]⟩]) W := by kernel_rfl
set_option maxRecDepth 20000 in
set_option maxHeartbeats 4000000 in
theorem form_any (k : Int) (hk : 4 ≤ k ∧ k ≤ 8) (w : World) (h : Tabs w) :
    Calls Tryz.prog 75 #[.int .i64 k] w fun e w' => e = .returned (.agg #[.int .i64 k, .string (bA (signT k)), .string (bA (partsK k))]) ∧ Below w.heap.size w w' := by
  have c0 : w.cell? ⟨0, 0, none⟩ = some (.int .i64 4) := h.frm 0 (by omega)
  have c1 : w.cell? ⟨0, 1, none⟩ = some (.string ⟨#[]⟩) := h.frm 1 (by omega)
  have c2 : w.cell? ⟨0, 2, none⟩ = some (.string ⟨#[107, 107]⟩) := h.frm 2 (by omega)
  have c3 : w.cell? ⟨0, 3, none⟩ = some (.int .i64 5) := h.frm 3 (by omega)
  have c4 : w.cell? ⟨0, 4, none⟩ = some (.string ⟨#[94]⟩) := h.frm 4 (by omega)
  have c5 : w.cell? ⟨0, 5, none⟩ = some (.string ⟨#[83, 77, 107, 107]⟩) := h.frm 5 (by omega)
  have c6 : w.cell? ⟨0, 6, none⟩ = some (.int .i64 6) := h.frm 6 (by omega)
  have c7 : w.cell? ⟨0, 7, none⟩ = some (.string ⟨#[33]⟩) := h.frm 7 (by omega)
  have c8 : w.cell? ⟨0, 8, none⟩ = some (.string ⟨#[83, 77, 107, 107]⟩) := h.frm 8 (by omega)
  have c9 : w.cell? ⟨0, 9, none⟩ = some (.int .i64 7) := h.frm 9 (by omega)
  have c10 : w.cell? ⟨0, 10, none⟩ = some (.string ⟨#[61]⟩) := h.frm 10 (by omega)
  have c11 : w.cell? ⟨0, 11, none⟩ = some (.string ⟨#[83, 107, 107, 107]⟩) := h.frm 11 (by omega)
  have c12 : w.cell? ⟨0, 12, none⟩ = some (.int .i64 8) := h.frm 12 (by omega)
  have c13 : w.cell? ⟨0, 13, none⟩ = some (.string ⟨#[46]⟩) := h.frm 13 (by omega)
  have c14 : w.cell? ⟨0, 14, none⟩ = some (.string ⟨#[83, 78, 107]⟩) := h.frm 14 (by omega)
  have h00 := lt_cell c0
  clear h
  go_enter Tryz.func75, Tryz.ntmps75
  go_wp2_with fail
  go_loopw [6] (fun iv wr => ∃ j : Nat, iv = .int .i64 j ∧ (j : Int) + 4 ≤ k ∧ Hid (Below w.heap.size (w.alloc (.cells #[.int .i64 0, .string ⟨#[]⟩, .string ⟨#[]⟩] 113)) wr) ∧ wr.cell? ⟨w.heap.size, 0, none⟩ = some (.int .i64 0) ∧ wr.cell? ⟨w.heap.size, 1, none⟩ = some (.string ⟨#[]⟩) ∧ wr.cell? ⟨w.heap.size, 2, none⟩ = some (.string ⟨#[]⟩) ∧ (∀ j, wr.frozen? ⟨w.heap.size, j, none⟩ = false)) (fun iv _ => 5 - (intOf iv).toNat)
  case atStart => exact ⟨0, rfl, by omega, Below.refl _ _, by simp [go_sem], by simp [go_sem], by simp [go_sem], fun j => by simp [go_sem]⟩
  case round =>
    obtain ⟨j, rfl, hj, HB, r0, r1, r2, rf⟩ := hrel
    have rf0 := rf 0
    have rf1 := rf 1
    have rf2 := rf 2
    have HRF := hide rf
    have lw := lt_cell r0
    have HBW : Hid (Below w.heap.size w wr) := (bel_alloc (Below.refl _ _) _).trans HB.out
    clear rf
    rcases (show j = 0 ∨ j = 1 ∨ j = 2 ∨ j = 3 ∨ j = 4 by omega) with rfl | rfl | rfl | rfl | rfl
    · have hix := idx4
      by_cases e : k = 4
      · subst e
        go_wp2_with fail
        obtain ⟨t0, t1, t2⟩ := set3 (w := wr) r0 r1 r2 (.int .i64 4) (.string ⟨#[]⟩) (.string ⟨#[107, 107]⟩)
        have hb9 : Below w.heap.size w (((wr.setCell ⟨w.heap.size, 0, none⟩ (.int .i64 4)).setCell ⟨w.heap.size, 1, none⟩ (.string ⟨#[]⟩)).setCell ⟨w.heap.size, 2, none⟩ (.string ⟨#[107, 107]⟩)) := ((HBW.out.setCell (p := ⟨_, _, _⟩) (Nat.le_refl _) _).setCell (p := ⟨_, _, _⟩) (Nat.le_refl _) _).setCell (p := ⟨_, _, _⟩) (Nat.le_refl _) _
        generalize ((wr.setCell ⟨w.heap.size, 0, none⟩ (.int .i64 4)).setCell ⟨w.heap.size, 1, none⟩ (.string ⟨#[]⟩)).setCell ⟨w.heap.size, 2, none⟩ (.string ⟨#[107, 107]⟩) = w9 at *
        have q0 := keep_cell (bel_alloc (Below.refl _ _) (.cells #[.int .i64 4, .string ⟨#[]⟩, .string ⟨#[107, 107]⟩] 113)) t0
        have q1 := keep_cell (bel_alloc (Below.refl _ _) (.cells #[.int .i64 4, .string ⟨#[]⟩, .string ⟨#[107, 107]⟩] 113)) t1
        have q2 := keep_cell (bel_alloc (Below.refl _ _) (.cells #[.int .i64 4, .string ⟨#[]⟩, .string ⟨#[107, 107]⟩] 113)) t2
        refine bodyPost_ret (v := .agg #[.int .i64 4, .string ⟨#[]⟩, .string ⟨#[107, 107]⟩]) (by simp [results, Tryz.results75, go_sem, q0, q1, q2]) rfl ⟨rfl, ?_⟩
        exact bel_trans hb9 (bel_alloc (Below.refl _ _) _)
      · have hne : ¬ (4 : Int) = k := fun h => e h.symm
        have hne2 : ((4 : Int) == k) = false := by simp [hne]
        go_wp2_with fail
        go_roundw
        case rel => exact ⟨1, by go_num, by omega, HB.out.trans ((bel_alloc (Below.refl _ _) _).mono (by omega)), keep_cell (bel_alloc (Below.refl _ _) _) r0, keep_cell (bel_alloc (Below.refl _ _) _) r1, keep_cell (bel_alloc (Below.refl _ _) _) r2, fun i => ((bel_alloc (Below.refl _ _) _).frozen (p := ⟨w.heap.size, i, none⟩) lw).trans (HRF.out i)⟩
        case measure => simp [intOf]
    · have hix := idx5
      by_cases e : k = 5
      · subst e
        go_wp2_with fail
        obtain ⟨t0, t1, t2⟩ := set3 (w := wr) r0 r1 r2 (.int .i64 5) (.string ⟨#[94]⟩) (.string ⟨#[83, 77, 107, 107]⟩)
        have hb9 : Below w.heap.size w (((wr.setCell ⟨w.heap.size, 0, none⟩ (.int .i64 5)).setCell ⟨w.heap.size, 1, none⟩ (.string ⟨#[94]⟩)).setCell ⟨w.heap.size, 2, none⟩ (.string ⟨#[83, 77, 107, 107]⟩)) := ((HBW.out.setCell (p := ⟨_, _, _⟩) (Nat.le_refl _) _).setCell (p := ⟨_, _, _⟩) (Nat.le_refl _) _).setCell (p := ⟨_, _, _⟩) (Nat.le_refl _) _
        generalize ((wr.setCell ⟨w.heap.size, 0, none⟩ (.int .i64 5)).setCell ⟨w.heap.size, 1, none⟩ (.string ⟨#[94]⟩)).setCell ⟨w.heap.size, 2, none⟩ (.string ⟨#[83, 77, 107, 107]⟩) = w9 at *
        have q0 := keep_cell (bel_alloc (Below.refl _ _) (.cells #[.int .i64 5, .string ⟨#[94]⟩, .string ⟨#[83, 77, 107, 107]⟩] 113)) t0
        have q1 := keep_cell (bel_alloc (Below.refl _ _) (.cells #[.int .i64 5, .string ⟨#[94]⟩, .string ⟨#[83, 77, 107, 107]⟩] 113)) t1
        have q2 := keep_cell (bel_alloc (Below.refl _ _) (.cells #[.int .i64 5, .string ⟨#[94]⟩, .string ⟨#[83, 77, 107, 107]⟩] 113)) t2
        refine bodyPost_ret (v := .agg #[.int .i64 5, .string ⟨#[94]⟩, .string ⟨#[83, 77, 107, 107]⟩]) (by simp [results, Tryz.results75, go_sem, q0, q1, q2]) rfl ⟨rfl, ?_⟩
        exact bel_trans hb9 (bel_alloc (Below.refl _ _) _)
      · have hne : ¬ (5 : Int) = k := fun h => e h.symm
        have hne2 : ((5 : Int) == k) = false := by simp [hne]
        go_wp2_with fail
        go_roundw
        case rel => exact ⟨2, by go_num, by omega, HB.out.trans ((bel_alloc (Below.refl _ _) _).mono (by omega)), keep_cell (bel_alloc (Below.refl _ _) _) r0, keep_cell (bel_alloc (Below.refl _ _) _) r1, keep_cell (bel_alloc (Below.refl _ _) _) r2, fun i => ((bel_alloc (Below.refl _ _) _).frozen (p := ⟨w.heap.size, i, none⟩) lw).trans (HRF.out i)⟩
        case measure => simp [intOf]
    · have hix := idx6
      by_cases e : k = 6
      · subst e
        go_wp2_with fail
        obtain ⟨t0, t1, t2⟩ := set3 (w := wr) r0 r1 r2 (.int .i64 6) (.string ⟨#[33]⟩) (.string ⟨#[83, 77, 107, 107]⟩)
        have hb9 : Below w.heap.size w (((wr.setCell ⟨w.heap.size, 0, none⟩ (.int .i64 6)).setCell ⟨w.heap.size, 1, none⟩ (.string ⟨#[33]⟩)).setCell ⟨w.heap.size, 2, none⟩ (.string ⟨#[83, 77, 107, 107]⟩)) := ((HBW.out.setCell (p := ⟨_, _, _⟩) (Nat.le_refl _) _).setCell (p := ⟨_, _, _⟩) (Nat.le_refl _) _).setCell (p := ⟨_, _, _⟩) (Nat.le_refl _) _
        generalize ((wr.setCell ⟨w.heap.size, 0, none⟩ (.int .i64 6)).setCell ⟨w.heap.size, 1, none⟩ (.string ⟨#[33]⟩)).setCell ⟨w.heap.size, 2, none⟩ (.string ⟨#[83, 77, 107, 107]⟩) = w9 at *
        have q0 := keep_cell (bel_alloc (Below.refl _ _) (.cells #[.int .i64 6, .string ⟨#[33]⟩, .string ⟨#[83, 77, 107, 107]⟩] 113)) t0
        have q1 := keep_cell (bel_alloc (Below.refl _ _) (.cells #[.int .i64 6, .string ⟨#[33]⟩, .string ⟨#[83, 77, 107, 107]⟩] 113)) t1
        have q2 := keep_cell (bel_alloc (Below.refl _ _) (.cells #[.int .i64 6, .string ⟨#[33]⟩, .string ⟨#[83, 77, 107, 107]⟩] 113)) t2
        refine bodyPost_ret (v := .agg #[.int .i64 6, .string ⟨#[33]⟩, .string ⟨#[83, 77, 107, 107]⟩]) (by simp [results, Tryz.results75, go_sem, q0, q1, q2]) rfl ⟨rfl, ?_⟩
        exact bel_trans hb9 (bel_alloc (Below.refl _ _) _)
      · have hne : ¬ (6 : Int) = k := fun h => e h.symm
        have hne2 : ((6 : Int) == k) = false := by simp [hne]
        go_wp2_with fail
        go_roundw
        case rel => exact ⟨3, by go_num, by omega, HB.out.trans ((bel_alloc (Below.refl _ _) _).mono (by omega)), keep_cell (bel_alloc (Below.refl _ _) _) r0, keep_cell (bel_alloc (Below.refl _ _) _) r1, keep_cell (bel_alloc (Below.refl _ _) _) r2, fun i => ((bel_alloc (Below.refl _ _) _).frozen (p := ⟨w.heap.size, i, none⟩) lw).trans (HRF.out i)⟩
        case measure => simp [intOf]
    · have hix := idx7
      by_cases e : k = 7
      · subst e
        go_wp2_with fail
        obtain ⟨t0, t1, t2⟩ := set3 (w := wr) r0 r1 r2 (.int .i64 7) (.string ⟨#[61]⟩) (.string ⟨#[83, 107, 107, 107]⟩)
        have hb9 : Below w.heap.size w (((wr.setCell ⟨w.heap.size, 0, none⟩ (.int .i64 7)).setCell ⟨w.heap.size, 1, none⟩ (.string ⟨#[61]⟩)).setCell ⟨w.heap.size, 2, none⟩ (.string ⟨#[83, 107, 107, 107]⟩)) := ((HBW.out.setCell (p := ⟨_, _, _⟩) (Nat.le_refl _) _).setCell (p := ⟨_, _, _⟩) (Nat.le_refl _) _).setCell (p := ⟨_, _, _⟩) (Nat.le_refl _) _
        generalize ((wr.setCell ⟨w.heap.size, 0, none⟩ (.int .i64 7)).setCell ⟨w.heap.size, 1, none⟩ (.string ⟨#[61]⟩)).setCell ⟨w.heap.size, 2, none⟩ (.string ⟨#[83, 107, 107, 107]⟩) = w9 at *
        have q0 := keep_cell (bel_alloc (Below.refl _ _) (.cells #[.int .i64 7, .string ⟨#[61]⟩, .string ⟨#[83, 107, 107, 107]⟩] 113)) t0
        have q1 := keep_cell (bel_alloc (Below.refl _ _) (.cells #[.int .i64 7, .string ⟨#[61]⟩, .string ⟨#[83, 107, 107, 107]⟩] 113)) t1
        have q2 := keep_cell (bel_alloc (Below.refl _ _) (.cells #[.int .i64 7, .string ⟨#[61]⟩, .string ⟨#[83, 107, 107, 107]⟩] 113)) t2
        refine bodyPost_ret (v := .agg #[.int .i64 7, .string ⟨#[61]⟩, .string ⟨#[83, 107, 107, 107]⟩]) (by simp [results, Tryz.results75, go_sem, q0, q1, q2]) rfl ⟨rfl, ?_⟩
        exact bel_trans hb9 (bel_alloc (Below.refl _ _) _)
      · have hne : ¬ (7 : Int) = k := fun h => e h.symm
        have hne2 : ((7 : Int) == k) = false := by simp [hne]
        go_wp2_with fail
        go_roundw
        case rel => exact ⟨4, by go_num, by omega, HB.out.trans ((bel_alloc (Below.refl _ _) _).mono (by omega)), keep_cell (bel_alloc (Below.refl _ _) _) r0, keep_cell (bel_alloc (Below.refl _ _) _) r1, keep_cell (bel_alloc (Below.refl _ _) _) r2, fun i => ((bel_alloc (Below.refl _ _) _).frozen (p := ⟨w.heap.size, i, none⟩) lw).trans (HRF.out i)⟩
        case measure => simp [intOf]
    · have hix := idx8
      have e : k = 8 := by omega
      subst e
      go_wp2_with fail
      obtain ⟨t0, t1, t2⟩ := set3 (w := wr) r0 r1 r2 (.int .i64 8) (.string ⟨#[46]⟩) (.string ⟨#[83, 78, 107]⟩)
      have hb9 : Below w.heap.size w (((wr.setCell ⟨w.heap.size, 0, none⟩ (.int .i64 8)).setCell ⟨w.heap.size, 1, none⟩ (.string ⟨#[46]⟩)).setCell ⟨w.heap.size, 2, none⟩ (.string ⟨#[83, 78, 107]⟩)) := ((HBW.out.setCell (p := ⟨_, _, _⟩) (Nat.le_refl _) _).setCell (p := ⟨_, _, _⟩) (Nat.le_refl _) _).setCell (p := ⟨_, _, _⟩) (Nat.le_refl _) _
      generalize ((wr.setCell ⟨w.heap.size, 0, none⟩ (.int .i64 8)).setCell ⟨w.heap.size, 1, none⟩ (.string ⟨#[46]⟩)).setCell ⟨w.heap.size, 2, none⟩ (.string ⟨#[83, 78, 107]⟩) = w9 at *
      have q0 := keep_cell (bel_alloc (Below.refl _ _) (.cells #[.int .i64 8, .string ⟨#[46]⟩, .string ⟨#[83, 78, 107]⟩] 113)) t0
      have q1 := keep_cell (bel_alloc (Below.refl _ _) (.cells #[.int .i64 8, .string ⟨#[46]⟩, .string ⟨#[83, 78, 107]⟩] 113)) t1
      have q2 := keep_cell (bel_alloc (Below.refl _ _) (.cells #[.int .i64 8, .string ⟨#[46]⟩, .string ⟨#[83, 78, 107]⟩] 113)) t2
      refine bodyPost_ret (v := .agg #[.int .i64 8, .string ⟨#[46]⟩, .string ⟨#[83, 78, 107]⟩]) (by simp [results, Tryz.results75, go_sem, q0, q1, q2]) rfl ⟨rfl, ?_⟩
      exact bel_trans hb9 (bel_alloc (Below.refl _ _) _)
end Go.Proofs.YtcagcfhnbphggaaGreatDoor
