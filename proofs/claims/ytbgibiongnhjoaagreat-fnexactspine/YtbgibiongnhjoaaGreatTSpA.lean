/- What the small functions around the program's TermOk answer. -/
import Derived.Test.YtbgibiongnhjoaaGreatParts
import Derived.Test.YtbgibiongnhjoaaGreatName
import Derived.Test.YtbgibiongnhjoaaGreatImpl
import Derived.Test.YtbgibiongnhjoaaGreatSpec
import Derived.Test.YtbgibiongnhjoaaGreatTQ
namespace Go.Proofs.YtbgibiongnhjoaaGreat
open Go.ChangeShapes Go.WideShapes Go.ChangeAt Go.RowKit

theorem kinds (k : Int) (h : k < 1 ∨ 9 < k) : (k == 1) = false ∧ (k == 2) = false ∧ (k == 3) = false ∧ (k == 4) = false ∧ (k == 5) = false ∧ (k == 6) = false ∧ (k == 7) = false ∧ (k == 8) = false ∧ (k == 9) = false := by
  refine ⟨?_, ?_, ?_, ?_, ?_, ?_, ?_, ?_, ?_⟩ <;> (rw [beq_eq_false_iff_ne]; omega)

set_option maxHeartbeats 1000000 in
theorem termKids_any (k : Int) (w : World) : Calls Tryz.prog 145 #[.int .i64 k] w fun e w' => e = .returned (.int .i64 (tkidsN k)) ∧ w' = w := by
  rcases kind_cases k with rfl | rfl | rfl | rfl | rfl | rfl | rfl | rfl | rfl | h
  · go_enter Tryz.func145, Tryz.ntmps145; go_wp2; go_ret; exact ⟨rfl, rfl⟩
  · go_enter Tryz.func145, Tryz.ntmps145; go_wp2; go_ret; exact ⟨rfl, rfl⟩
  · go_enter Tryz.func145, Tryz.ntmps145; go_wp2; go_ret; exact ⟨rfl, rfl⟩
  · go_enter Tryz.func145, Tryz.ntmps145; go_wp2; go_ret; exact ⟨rfl, rfl⟩
  · go_enter Tryz.func145, Tryz.ntmps145; go_wp2; go_ret; exact ⟨rfl, rfl⟩
  · go_enter Tryz.func145, Tryz.ntmps145; go_wp2; go_ret; exact ⟨rfl, rfl⟩
  · go_enter Tryz.func145, Tryz.ntmps145; go_wp2; go_ret; exact ⟨rfl, rfl⟩
  · go_enter Tryz.func145, Tryz.ntmps145; go_wp2; go_ret; exact ⟨rfl, rfl⟩
  · go_enter Tryz.func145, Tryz.ntmps145; go_wp2; go_ret; exact ⟨rfl, rfl⟩
  have HK := hide (tkidsN_neg k h)
  obtain ⟨e1, e2, e3, e4, e5, e6, e7, e8, e9⟩ := kinds k h
  clear h
  go_enter Tryz.func145, Tryz.ntmps145; go_wp2; go_ret; exact ⟨ret_int HK.out.symm, rfl⟩
set_option maxHeartbeats 1000000 in
theorem greatestNumber_any (k : Int) (w : World) : Calls Tryz.prog 185 #[.int .i64 k] w fun e w' => e = .returned (.int .i64 (gN k)) ∧ w' = w := by
  rcases kind_cases k with rfl | rfl | rfl | rfl | rfl | rfl | rfl | rfl | rfl | h
  · go_enter Tryz.func185, Tryz.ntmps185; go_wp2; go_ret; exact ⟨rfl, rfl⟩
  · go_enter Tryz.func185, Tryz.ntmps185; go_wp2; go_ret; exact ⟨rfl, rfl⟩
  · go_enter Tryz.func185, Tryz.ntmps185; go_wp2; go_ret; exact ⟨rfl, rfl⟩
  · go_enter Tryz.func185, Tryz.ntmps185; go_wp2; go_ret; exact ⟨rfl, rfl⟩
  · go_enter Tryz.func185, Tryz.ntmps185; go_wp2; go_ret; exact ⟨rfl, rfl⟩
  · go_enter Tryz.func185, Tryz.ntmps185; go_wp2; go_ret; exact ⟨rfl, rfl⟩
  · go_enter Tryz.func185, Tryz.ntmps185; go_wp2; go_ret; exact ⟨rfl, rfl⟩
  · go_enter Tryz.func185, Tryz.ntmps185; go_wp2; go_ret; exact ⟨rfl, rfl⟩
  · go_enter Tryz.func185, Tryz.ntmps185; go_wp2; go_ret; exact ⟨rfl, rfl⟩
  have HK : Hid (gN k = 0) := by show _ = _; unfold gN; rw [if_neg (by omega), if_neg (by omega)]
  obtain ⟨e1, e2, e3, e4, e5, e6, e7, e8, e9⟩ := kinds k h
  clear h
  go_enter Tryz.func185, Tryz.ntmps185; go_wp2; go_ret; exact ⟨ret_int HK.out.symm, rfl⟩
set_option maxHeartbeats 1000000 in
theorem greatestMode_any (k : Int) (w : World) : Calls Tryz.prog 186 #[.int .i64 k] w fun e w' => e = .returned (.int .i64 (gM k)) ∧ w' = w := by
  rcases kind_cases k with rfl | rfl | rfl | rfl | rfl | rfl | rfl | rfl | rfl | h
  · go_enter Tryz.func186, Tryz.ntmps186; go_wp2; go_ret; exact ⟨rfl, rfl⟩
  · go_enter Tryz.func186, Tryz.ntmps186; go_wp2; go_ret; exact ⟨rfl, rfl⟩
  · go_enter Tryz.func186, Tryz.ntmps186; go_wp2; go_ret; exact ⟨rfl, rfl⟩
  · go_enter Tryz.func186, Tryz.ntmps186; go_wp2; go_ret; exact ⟨rfl, rfl⟩
  · go_enter Tryz.func186, Tryz.ntmps186; go_wp2; go_ret; exact ⟨rfl, rfl⟩
  · go_enter Tryz.func186, Tryz.ntmps186; go_wp2; go_ret; exact ⟨rfl, rfl⟩
  · go_enter Tryz.func186, Tryz.ntmps186; go_wp2; go_ret; exact ⟨rfl, rfl⟩
  · go_enter Tryz.func186, Tryz.ntmps186; go_wp2; go_ret; exact ⟨rfl, rfl⟩
  · go_enter Tryz.func186, Tryz.ntmps186; go_wp2; go_ret; exact ⟨rfl, rfl⟩
  have HK : Hid (gM k = 0) := by show _ = _; unfold gM; rw [if_neg (by omega)]
  obtain ⟨e1, e2, e3, e4, e5, e6, e7, e8, e9⟩ := kinds k h
  clear h
  go_enter Tryz.func186, Tryz.ntmps186; go_wp2; go_ret; exact ⟨ret_int HK.out.symm, rfl⟩

set_option maxHeartbeats 1000000 in
theorem termNameOk_any (td : Td) (la ka : Option Addr) (ln lc kn kc : Nat) (w : World) (hs : td.s.size ≤ maxLen) :
    Calls Tryz.prog 187 #[.agg #[.int .i64 td.k, .int .i64 td.n, .int .i64 td.m, .string td.s, .slice la ln lc, .slice ka kn kc]] w fun e w' => e = .returned (.bool (tnameB nameB td)) ∧ Below w.heap.size w w' := by
  obtain ⟨k, n, m, s, lv, kids⟩ := td
  dsimp only at *
  rcases kind_cases k with rfl | rfl | rfl | rfl | rfl | rfl | rfl | rfl | rfl | h
  · go_enter Tryz.func187, Tryz.ntmps187
    go_wp2_with (first
      | (go_at_call 199; refine (implName_any _ _ hs).mono ?_; rintro e w' ⟨rfl, hw'⟩)
      | (go_at_call 200; refine (implShort_any _ _ hs).mono ?_; rintro e w' ⟨rfl, rfl⟩)
      | fail)
    go_ret
    first
      | exact ⟨rfl, bel_alloc (Below.refl _ _) _⟩
      | exact ⟨rfl, (bel_alloc (Below.refl _ _) _).trans (hw'.mono (by simp))⟩
  · go_enter Tryz.func187, Tryz.ntmps187
    go_wp2_with (first
      | (go_at_call 199; refine (implName_any _ _ hs).mono ?_; rintro e w' ⟨rfl, hw'⟩)
      | (go_at_call 200; refine (implShort_any _ _ hs).mono ?_; rintro e w' ⟨rfl, rfl⟩)
      | fail)
    go_ret
    first
      | exact ⟨rfl, bel_alloc (Below.refl _ _) _⟩
      | exact ⟨rfl, (bel_alloc (Below.refl _ _) _).trans (hw'.mono (by simp))⟩
  · go_enter Tryz.func187, Tryz.ntmps187
    go_wp2_with (first
      | (go_at_call 199; refine (implName_any _ _ hs).mono ?_; rintro e w' ⟨rfl, hw'⟩)
      | (go_at_call 200; refine (implShort_any _ _ hs).mono ?_; rintro e w' ⟨rfl, rfl⟩)
      | fail)
    go_ret
    first
      | exact ⟨rfl, bel_alloc (Below.refl _ _) _⟩
      | exact ⟨rfl, (bel_alloc (Below.refl _ _) _).trans (hw'.mono (by simp))⟩
  · go_enter Tryz.func187, Tryz.ntmps187
    go_wp2_with (first
      | (go_at_call 199; refine (implName_any _ _ hs).mono ?_; rintro e w' ⟨rfl, hw'⟩)
      | (go_at_call 200; refine (implShort_any _ _ hs).mono ?_; rintro e w' ⟨rfl, rfl⟩)
      | fail)
    go_ret
    first
      | exact ⟨rfl, bel_alloc (Below.refl _ _) _⟩
      | exact ⟨rfl, (bel_alloc (Below.refl _ _) _).trans (hw'.mono (by simp))⟩
  · go_enter Tryz.func187, Tryz.ntmps187
    go_wp2_with (first
      | (go_at_call 199; refine (implName_any _ _ hs).mono ?_; rintro e w' ⟨rfl, hw'⟩)
      | (go_at_call 200; refine (implShort_any _ _ hs).mono ?_; rintro e w' ⟨rfl, rfl⟩)
      | fail)
    go_ret
    first
      | exact ⟨rfl, bel_alloc (Below.refl _ _) _⟩
      | exact ⟨rfl, (bel_alloc (Below.refl _ _) _).trans (hw'.mono (by simp))⟩
  · go_enter Tryz.func187, Tryz.ntmps187
    go_wp2_with (first
      | (go_at_call 199; refine (implName_any _ _ hs).mono ?_; rintro e w' ⟨rfl, hw'⟩)
      | (go_at_call 200; refine (implShort_any _ _ hs).mono ?_; rintro e w' ⟨rfl, rfl⟩)
      | fail)
    go_ret
    first
      | exact ⟨rfl, bel_alloc (Below.refl _ _) _⟩
      | exact ⟨rfl, (bel_alloc (Below.refl _ _) _).trans (hw'.mono (by simp))⟩
  · go_enter Tryz.func187, Tryz.ntmps187
    go_wp2_with (first
      | (go_at_call 199; refine (implName_any _ _ hs).mono ?_; rintro e w' ⟨rfl, hw'⟩)
      | (go_at_call 200; refine (implShort_any _ _ hs).mono ?_; rintro e w' ⟨rfl, rfl⟩)
      | fail)
    go_ret
    first
      | exact ⟨rfl, bel_alloc (Below.refl _ _) _⟩
      | exact ⟨rfl, (bel_alloc (Below.refl _ _) _).trans (hw'.mono (by simp))⟩
  · go_enter Tryz.func187, Tryz.ntmps187
    go_wp2_with (first
      | (go_at_call 199; refine (implName_any _ _ hs).mono ?_; rintro e w' ⟨rfl, hw'⟩)
      | (go_at_call 200; refine (implShort_any _ _ hs).mono ?_; rintro e w' ⟨rfl, rfl⟩)
      | fail)
    go_ret
    first
      | exact ⟨rfl, bel_alloc (Below.refl _ _) _⟩
      | exact ⟨rfl, (bel_alloc (Below.refl _ _) _).trans (hw'.mono (by simp))⟩
  · go_enter Tryz.func187, Tryz.ntmps187
    go_wp2_with (first
      | (go_at_call 199; refine (implName_any _ _ hs).mono ?_; rintro e w' ⟨rfl, hw'⟩)
      | (go_at_call 200; refine (implShort_any _ _ hs).mono ?_; rintro e w' ⟨rfl, rfl⟩)
      | fail)
    go_ret
    first
      | exact ⟨rfl, bel_alloc (Below.refl _ _) _⟩
      | exact ⟨rfl, (bel_alloc (Below.refl _ _) _).trans (hw'.mono (by simp))⟩
  have HK : Hid (tnameB nameB ⟨k, n, m, s, lv, kids⟩ = s.toList.isEmpty) := by
    show _ = _
    unfold tnameB
    rw [if_neg (by dsimp only; omega), if_neg (by simp [bindsB]; omega)]
  obtain ⟨e1, e2, e3, e4, e5, e6, e7, e8, e9⟩ := kinds k h
  clear h
  rw [HK.out]
  go_enter Tryz.func187, Tryz.ntmps187
  go_wp2_with fail
  go_ret
  exact ⟨rfl, bel_alloc (Below.refl _ _) _⟩
end Go.Proofs.YtbgibiongnhjoaaGreat

/- What the specification's l1Fits answers at a tree: at most 64 nodes, at most 6 parameters. For FnExactLevelPut. -/
namespace Go.Proofs.YtbgibiongnhjoaaGreat
open Go.ChangeShapes Go.WideShapes Go.ChangeAt Go.RowKit

theorem Tr.sz_cnt : ∀ t : Tr, t.sz = min 1000 t.cnt
  | .leaf _ _ => by simp [Tr.sz, Tr.cnt]
  | .one _ _ a => by simp only [Tr.sz, Tr.cnt, Tr.sz_cnt a]; omega
  | .two _ _ a b => by simp only [Tr.sz, Tr.cnt, Tr.sz_cnt a, Tr.sz_cnt b]; omega
theorem TreeAt.size {B : Nat} {w : World} {g : Nat} : ∀ {t : Tr}, TreeAt B w g t → w.cell? ⟨g, 4, none⟩ = some (.int .i64 t.sz)
  | .leaf k s, h => by rw [cell_of_row w g 4 _ _ _ h.2]; rfl
  | .one k s a, h => by obtain ⟨_, pa, h2, _⟩ := h; rw [cell_of_row w g 4 _ _ _ h2]; rfl
  | .two k s a b, h => by obtain ⟨_, pa, pb, h2, _⟩ := h; rw [cell_of_row w g 4 _ _ _ h2]; rfl
def fitsB (t : Tr) : Bool := decide (t.cnt ≤ 64 ∧ (t.names []).length ≤ 6)

set_option maxRecDepth 10000 in
set_option maxHeartbeats 2000000 in
theorem l1Fits_any (t : Tr) (g : Nat) (w : World) (h : TreeAt w.heap.size w g t) :
    Calls Tryz.prog 141 #[.pointer (some ⟨g, 0, none⟩)] w fun e w' => e = .returned (.bool (fitsB t)) ∧ Below w.heap.size w w' := by
  have HT := hide h
  have c4 := h.size
  have hsz := Tr.sz_cnt t
  have hst := World.ownsRow_lit (base := w.heap.size) (e := 9) (size := 1) w #[] 0 (Nat.le_refl _) (by unfold maxLen; omega) rfl
  have HST := hide hst
  clear hst h
  by_cases hc : t.cnt ≤ 64
  · have hle : (t.sz : Int) ≤ 64 := by omega
    have HF : Hid (decide (((t.names []).length : Int) ≤ 6) = fitsB t) := by
      show _ = _
      unfold fitsB
      rw [decide_eq_decide]
      constructor
      · intro q; exact ⟨hc, by omega⟩
      · intro q; omega
    have HC := hide hc
    clear hc hsz
    go_enter Tryz.func141, Tryz.ntmps141
    go_wp2_with fail
    refine (l1Names_any t g _ _ [] w.heap.size (HT.out.keep (bel_alloc (Below.refl _ _) _)) HST.out (by simp) (by have := HC.out; simp; omega)).mono ?_
    rintro e w1 ⟨vn1, rfl, hown1, hb1⟩
    have hbel1 : Hid (Below w.heap.size w w1) := (bel_alloc (Below.refl w.heap.size w) _).trans hb1
    obtain ⟨na1, nc1, rfl⟩ := row_form hown1
    clear hown1 hb1 HST c4 hle
    go_wp2_with fail
    go_ret
    exact ⟨ret_bool HF.out, hbel1.out⟩
  · have hle : ¬ (t.sz : Int) ≤ 64 := by omega
    have HF : Hid (false = fitsB t) := by
      show _ = _
      unfold fitsB
      rw [eq_comm, decide_eq_false_iff_not]
      exact fun q => hc q.1
    clear hc hsz
    go_enter Tryz.func141, Tryz.ntmps141
    go_wp2_with fail
    go_ret
    exact ⟨ret_bool HF.out, Below.refl _ _⟩
end Go.Proofs.YtbgibiongnhjoaaGreat

/- What the specification's small functions on terms answer: kids of a kind, binders, none, too great; and l1Trees, which reads levels. -/
namespace Go.Proofs.YtbgibiongnhjoaaGreat
open Go.ChangeShapes Go.WideShapes Go.ChangeAt Go.RowKit

set_option maxHeartbeats 1000000 in
theorem l3KidsOf_any (k : Int) (w : World) : Calls Tryz.prog 90 #[.int .i64 k] w fun e w' => e = .returned (.int .i64 (tkidsN k)) ∧ Below w.heap.size w w' := by
  rcases kind_cases k with rfl | rfl | rfl | rfl | rfl | rfl | rfl | rfl | rfl | h
  · go_enter Tryz.func90, Tryz.ntmps90; go_wp2; go_ret; exact ⟨rfl, bel_alloc (Below.refl _ _) _⟩
  · go_enter Tryz.func90, Tryz.ntmps90; go_wp2; go_ret; exact ⟨rfl, bel_alloc (Below.refl _ _) _⟩
  · go_enter Tryz.func90, Tryz.ntmps90; go_wp2; go_ret; exact ⟨rfl, bel_alloc (Below.refl _ _) _⟩
  · go_enter Tryz.func90, Tryz.ntmps90; go_wp2; go_ret; exact ⟨rfl, bel_alloc (Below.refl _ _) _⟩
  · go_enter Tryz.func90, Tryz.ntmps90; go_wp2; go_ret; exact ⟨rfl, bel_alloc (Below.refl _ _) _⟩
  · go_enter Tryz.func90, Tryz.ntmps90; go_wp2; go_ret; exact ⟨rfl, bel_alloc (Below.refl _ _) _⟩
  · go_enter Tryz.func90, Tryz.ntmps90; go_wp2; go_ret; exact ⟨rfl, bel_alloc (Below.refl _ _) _⟩
  · go_enter Tryz.func90, Tryz.ntmps90; go_wp2; go_ret; exact ⟨rfl, bel_alloc (Below.refl _ _) _⟩
  · go_enter Tryz.func90, Tryz.ntmps90; go_wp2; go_ret; exact ⟨rfl, bel_alloc (Below.refl _ _) _⟩
  have HK := hide (tkidsN_neg k h)
  by_cases h1 : k < 1
  · have d1 : decide (k < 1) = true := by simp [h1]
    go_enter Tryz.func90, Tryz.ntmps90; go_wp2_with fail; go_ret; exact ⟨ret_int HK.out.symm, Below.refl _ _⟩
  · have d1 : decide (k < 1) = false := by simp; omega
    have d2 : decide (9 < k) = true := by simp; omega
    go_enter Tryz.func90, Tryz.ntmps90; go_wp2_with fail; go_ret; exact ⟨ret_int HK.out.symm, Below.refl _ _⟩
set_option maxHeartbeats 1000000 in
theorem l3Binds_any (k : Int) (w : World) : Calls Tryz.prog 138 #[.int .i64 k] w fun e w' => e = .returned (.bool (bindsB k)) ∧ w' = w := by
  have HB : Hid (bindsB k = (decide (k = 5) || decide (k = 6) || decide (k = 7))) := rfl
  rw [HB.out]
  by_cases h5 : k = 5
  · subst h5; go_enter Tryz.func138, Tryz.ntmps138; go_wp2; go_ret; exact ⟨rfl, rfl⟩
  have e5 : (k == 5) = false := beq_eq_false_iff_ne.2 h5
  by_cases h6 : k = 6
  · subst h6; go_enter Tryz.func138, Tryz.ntmps138; go_wp2; go_ret; exact ⟨rfl, rfl⟩
  have e6 : (k == 6) = false := beq_eq_false_iff_ne.2 h6
  by_cases h7 : k = 7
  · subst h7; go_enter Tryz.func138, Tryz.ntmps138; go_wp2; go_ret; exact ⟨rfl, rfl⟩
  have e7 : (k == 7) = false := beq_eq_false_iff_ne.2 h7
  have HN : Hid ((decide (k = 5) || decide (k = 6) || decide (k = 7)) = false) := by show _ = _; simp [h5, h6, h7]
  rw [HN.out]
  clear h5 h6 h7
  go_enter Tryz.func138, Tryz.ntmps138; go_wp2; go_ret; exact ⟨rfl, rfl⟩
set_option maxHeartbeats 400000 in
theorem tnone_some (a : Addr) (w : World) : Calls Tryz.prog 48 #[.pointer (some a)] w fun e w' => e = .returned (.bool false) ∧ w' = w := by
  go_enter Tryz.func48, Tryz.ntmps48
  go_wp2
  go_ret
  exact ⟨rfl, rfl⟩
set_option maxHeartbeats 400000 in
theorem tnone_none (w : World) : Calls Tryz.prog 48 #[.pointer none] w fun e w' => e = .returned (.bool true) ∧ w' = w := by
  go_enter Tryz.func48, Tryz.ntmps48
  go_wp2
  go_ret
  exact ⟨rfl, rfl⟩
set_option maxHeartbeats 400000 in
theorem l3Great_any (g : Nat) (sz : Int) (w : World) (h : w.cell? ⟨g, 6, none⟩ = some (.int .i64 sz)) : Calls Tryz.prog 93 #[.pointer (some ⟨g, 0, none⟩)] w fun e w' => e = .returned (.bool (decide (20000 < sz))) ∧ w' = w := by
  go_enter Tryz.func93, Tryz.ntmps93
  go_wp2_with fail
  go_ret
  exact ⟨rfl, rfl⟩

/-- A row of pointers. -/
def PtrRow (w : World) (v : Value) (ps : List Nat) : Prop :=
  ∃ a cap, v = .slice a ps.length cap ∧ ps.length ≤ cap ∧ cap ≤ maxLen ∧ (0 < ps.length → ∃ b off, a = some ⟨b, off, none⟩ ∧ ∀ j (h : j < ps.length), w.cell? ⟨b, off + j, none⟩ = some (ptrV ps[j]))
theorem PtrRow.keep {w w' : World} (hb : Below w.heap.size w w') {v : Value} {ps : List Nat} (h : PtrRow w v ps) : PtrRow w' v ps := by
  obtain ⟨a, cap, hv, h1, h2, h3⟩ := h
  refine ⟨a, cap, hv, h1, h2, fun h0 => ?_⟩
  obtain ⟨b, off, ha, hc⟩ := h3 h0
  exact ⟨b, off, ha, fun j h => keep_cell hb (hc j h)⟩
theorem PtrRow.own {w : World} {base : Nat} {e : TypeId} {v : Value} {n : Nat} {ps : List Nat} (h : w.ownsRow base e 1 v n (ps.map ptrV)) (hn : n = ps.length) : PtrRow w v ps := by
  subst hn
  rcases h.2 with ⟨rfl, h0⟩ | ⟨g, cap, cur, rfl, _, hg, hnc, hcm, hcs, htake⟩
  · exact ⟨none, 0, by rw [h0], by omega, by unfold maxLen; omega, fun h => by omega⟩
  · refine ⟨_, _, rfl, hnc, hcm, fun _ => ⟨g, 0, rfl, fun j hj => ?_⟩⟩
    rw [Nat.zero_add, h.cellAt j (by omega), List.getElem?_map, List.getElem?_eq_getElem hj]; rfl
/-- Levels as trees, each one that fits. -/
def LevTrees (w : World) (ps : List Nat) (us : List Tr) : Prop := TreesAt w ps us ∧ ∀ u ∈ us, fitsB u = true
theorem TreesAt.keep {w w' : World} (hb : Below w.heap.size w w') {ps : List Nat} {us : List Tr} (h : TreesAt w ps us) : TreesAt w' ps us :=
  ⟨h.1, fun j h1 h2 => ((h.2 j h1 h2).keep hb).mono hb.size⟩
theorem LevTrees.keep {w w' : World} (hb : Below w.heap.size w w') {ps : List Nat} {us : List Tr} (h : LevTrees w ps us) : LevTrees w' ps us := ⟨h.1.keep hb, h.2⟩
end Go.Proofs.YtbgibiongnhjoaaGreat
