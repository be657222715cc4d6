/- What the small functions around the program's TermOk answer. -/
import Derived.Test.YtcagcfhnbphggaaGreatDoorTo
import Derived.Test.YtcagcfhnbphggaaGreatDoorName
import Derived.Test.YtcagcfhnbphggaaGreatDoorImpl
namespace Go.Proofs.YtcagcfhnbphggaaGreatDoor
open Go.ChangeShapes Go.WideShapes Go.ChangeAt Go.RowKit

theorem kinds (k : Int) (h : k < 1 ∨ 9 < k) : (k == 1) = false ∧ (k == 2) = false ∧ (k == 3) = false ∧ (k == 4) = false ∧ (k == 5) = false ∧ (k == 6) = false ∧ (k == 7) = false ∧ (k == 8) = false ∧ (k == 9) = false := by
  refine ⟨?_, ?_, ?_, ?_, ?_, ?_, ?_, ?_, ?_⟩ <;> (rw [beq_eq_false_iff_ne]; omega)

set_option maxHeartbeats 1000000 in
theorem termKids_any (k : Int) (w : World) : Calls Tryz.prog 33 #[.int .i64 k] w fun e w' => e = .returned (.int .i64 (tkidsN k)) ∧ w' = w := by
  rcases kind_cases k with rfl | rfl | rfl | rfl | rfl | rfl | rfl | rfl | rfl | h
  · go_enter Tryz.func33, Tryz.ntmps33; go_wp2; go_ret; exact ⟨rfl, rfl⟩
  · go_enter Tryz.func33, Tryz.ntmps33; go_wp2; go_ret; exact ⟨rfl, rfl⟩
  · go_enter Tryz.func33, Tryz.ntmps33; go_wp2; go_ret; exact ⟨rfl, rfl⟩
  · go_enter Tryz.func33, Tryz.ntmps33; go_wp2; go_ret; exact ⟨rfl, rfl⟩
  · go_enter Tryz.func33, Tryz.ntmps33; go_wp2; go_ret; exact ⟨rfl, rfl⟩
  · go_enter Tryz.func33, Tryz.ntmps33; go_wp2; go_ret; exact ⟨rfl, rfl⟩
  · go_enter Tryz.func33, Tryz.ntmps33; go_wp2; go_ret; exact ⟨rfl, rfl⟩
  · go_enter Tryz.func33, Tryz.ntmps33; go_wp2; go_ret; exact ⟨rfl, rfl⟩
  · go_enter Tryz.func33, Tryz.ntmps33; go_wp2; go_ret; exact ⟨rfl, rfl⟩
  have HK := hide (tkidsN_neg k h)
  obtain ⟨e1, e2, e3, e4, e5, e6, e7, e8, e9⟩ := kinds k h
  clear h
  go_enter Tryz.func33, Tryz.ntmps33; go_wp2; go_ret; exact ⟨ret_int HK.out.symm, rfl⟩
set_option maxHeartbeats 1000000 in
theorem greatestNumber_any (k : Int) (w : World) : Calls Tryz.prog 49 #[.int .i64 k] w fun e w' => e = .returned (.int .i64 (gN k)) ∧ w' = w := by
  rcases kind_cases k with rfl | rfl | rfl | rfl | rfl | rfl | rfl | rfl | rfl | h
  · go_enter Tryz.func49, Tryz.ntmps49; go_wp2; go_ret; exact ⟨rfl, rfl⟩
  · go_enter Tryz.func49, Tryz.ntmps49; go_wp2; go_ret; exact ⟨rfl, rfl⟩
  · go_enter Tryz.func49, Tryz.ntmps49; go_wp2; go_ret; exact ⟨rfl, rfl⟩
  · go_enter Tryz.func49, Tryz.ntmps49; go_wp2; go_ret; exact ⟨rfl, rfl⟩
  · go_enter Tryz.func49, Tryz.ntmps49; go_wp2; go_ret; exact ⟨rfl, rfl⟩
  · go_enter Tryz.func49, Tryz.ntmps49; go_wp2; go_ret; exact ⟨rfl, rfl⟩
  · go_enter Tryz.func49, Tryz.ntmps49; go_wp2; go_ret; exact ⟨rfl, rfl⟩
  · go_enter Tryz.func49, Tryz.ntmps49; go_wp2; go_ret; exact ⟨rfl, rfl⟩
  · go_enter Tryz.func49, Tryz.ntmps49; go_wp2; go_ret; exact ⟨rfl, rfl⟩
  have HK : Hid (gN k = 0) := by show _ = _; unfold gN; rw [if_neg (by omega), if_neg (by omega)]
  obtain ⟨e1, e2, e3, e4, e5, e6, e7, e8, e9⟩ := kinds k h
  clear h
  go_enter Tryz.func49, Tryz.ntmps49; go_wp2; go_ret; exact ⟨ret_int HK.out.symm, rfl⟩
set_option maxHeartbeats 1000000 in
theorem greatestMode_any (k : Int) (w : World) : Calls Tryz.prog 50 #[.int .i64 k] w fun e w' => e = .returned (.int .i64 (gM k)) ∧ w' = w := by
  rcases kind_cases k with rfl | rfl | rfl | rfl | rfl | rfl | rfl | rfl | rfl | h
  · go_enter Tryz.func50, Tryz.ntmps50; go_wp2; go_ret; exact ⟨rfl, rfl⟩
  · go_enter Tryz.func50, Tryz.ntmps50; go_wp2; go_ret; exact ⟨rfl, rfl⟩
  · go_enter Tryz.func50, Tryz.ntmps50; go_wp2; go_ret; exact ⟨rfl, rfl⟩
  · go_enter Tryz.func50, Tryz.ntmps50; go_wp2; go_ret; exact ⟨rfl, rfl⟩
  · go_enter Tryz.func50, Tryz.ntmps50; go_wp2; go_ret; exact ⟨rfl, rfl⟩
  · go_enter Tryz.func50, Tryz.ntmps50; go_wp2; go_ret; exact ⟨rfl, rfl⟩
  · go_enter Tryz.func50, Tryz.ntmps50; go_wp2; go_ret; exact ⟨rfl, rfl⟩
  · go_enter Tryz.func50, Tryz.ntmps50; go_wp2; go_ret; exact ⟨rfl, rfl⟩
  · go_enter Tryz.func50, Tryz.ntmps50; go_wp2; go_ret; exact ⟨rfl, rfl⟩
  have HK : Hid (gM k = 0) := by show _ = _; unfold gM; rw [if_neg (by omega)]
  obtain ⟨e1, e2, e3, e4, e5, e6, e7, e8, e9⟩ := kinds k h
  clear h
  go_enter Tryz.func50, Tryz.ntmps50; go_wp2; go_ret; exact ⟨ret_int HK.out.symm, rfl⟩

set_option maxHeartbeats 1000000 in
theorem termNameOk_any (td : Td) (la ka : Option Addr) (ln lc kn kc : Nat) (w : World) (hs : td.s.size ≤ maxLen) :
    Calls Tryz.prog 51 #[.agg #[.int .i64 td.k, .int .i64 td.n, .int .i64 td.m, .string td.s, .slice la ln lc, .slice ka kn kc]] w fun e w' => e = .returned (.bool (tnameB nameB td)) ∧ Below w.heap.size w w' := by
  obtain ⟨k, n, m, s, lv, kids⟩ := td
  dsimp only at *
  rcases kind_cases k with rfl | rfl | rfl | rfl | rfl | rfl | rfl | rfl | rfl | h
  · go_enter Tryz.func51, Tryz.ntmps51
    go_wp2_with (first
      | (go_at_call 69; refine (implName_any _ _ hs).mono ?_; rintro e w' ⟨rfl, hw'⟩)
      | (go_at_call 70; refine (implShort_any _ _ hs).mono ?_; rintro e w' ⟨rfl, rfl⟩)
      | fail)
    go_ret
    first
      | exact ⟨rfl, bel_alloc (Below.refl _ _) _⟩
      | exact ⟨rfl, (bel_alloc (Below.refl _ _) _).trans (hw'.mono (by simp))⟩
  · go_enter Tryz.func51, Tryz.ntmps51
    go_wp2_with (first
      | (go_at_call 69; refine (implName_any _ _ hs).mono ?_; rintro e w' ⟨rfl, hw'⟩)
      | (go_at_call 70; refine (implShort_any _ _ hs).mono ?_; rintro e w' ⟨rfl, rfl⟩)
      | fail)
    go_ret
    first
      | exact ⟨rfl, bel_alloc (Below.refl _ _) _⟩
      | exact ⟨rfl, (bel_alloc (Below.refl _ _) _).trans (hw'.mono (by simp))⟩
  · go_enter Tryz.func51, Tryz.ntmps51
    go_wp2_with (first
      | (go_at_call 69; refine (implName_any _ _ hs).mono ?_; rintro e w' ⟨rfl, hw'⟩)
      | (go_at_call 70; refine (implShort_any _ _ hs).mono ?_; rintro e w' ⟨rfl, rfl⟩)
      | fail)
    go_ret
    first
      | exact ⟨rfl, bel_alloc (Below.refl _ _) _⟩
      | exact ⟨rfl, (bel_alloc (Below.refl _ _) _).trans (hw'.mono (by simp))⟩
  · go_enter Tryz.func51, Tryz.ntmps51
    go_wp2_with (first
      | (go_at_call 69; refine (implName_any _ _ hs).mono ?_; rintro e w' ⟨rfl, hw'⟩)
      | (go_at_call 70; refine (implShort_any _ _ hs).mono ?_; rintro e w' ⟨rfl, rfl⟩)
      | fail)
    go_ret
    first
      | exact ⟨rfl, bel_alloc (Below.refl _ _) _⟩
      | exact ⟨rfl, (bel_alloc (Below.refl _ _) _).trans (hw'.mono (by simp))⟩
  · go_enter Tryz.func51, Tryz.ntmps51
    go_wp2_with (first
      | (go_at_call 69; refine (implName_any _ _ hs).mono ?_; rintro e w' ⟨rfl, hw'⟩)
      | (go_at_call 70; refine (implShort_any _ _ hs).mono ?_; rintro e w' ⟨rfl, rfl⟩)
      | fail)
    go_ret
    first
      | exact ⟨rfl, bel_alloc (Below.refl _ _) _⟩
      | exact ⟨rfl, (bel_alloc (Below.refl _ _) _).trans (hw'.mono (by simp))⟩
  · go_enter Tryz.func51, Tryz.ntmps51
    go_wp2_with (first
      | (go_at_call 69; refine (implName_any _ _ hs).mono ?_; rintro e w' ⟨rfl, hw'⟩)
      | (go_at_call 70; refine (implShort_any _ _ hs).mono ?_; rintro e w' ⟨rfl, rfl⟩)
      | fail)
    go_ret
    first
      | exact ⟨rfl, bel_alloc (Below.refl _ _) _⟩
      | exact ⟨rfl, (bel_alloc (Below.refl _ _) _).trans (hw'.mono (by simp))⟩
  · go_enter Tryz.func51, Tryz.ntmps51
    go_wp2_with (first
      | (go_at_call 69; refine (implName_any _ _ hs).mono ?_; rintro e w' ⟨rfl, hw'⟩)
      | (go_at_call 70; refine (implShort_any _ _ hs).mono ?_; rintro e w' ⟨rfl, rfl⟩)
      | fail)
    go_ret
    first
      | exact ⟨rfl, bel_alloc (Below.refl _ _) _⟩
      | exact ⟨rfl, (bel_alloc (Below.refl _ _) _).trans (hw'.mono (by simp))⟩
  · go_enter Tryz.func51, Tryz.ntmps51
    go_wp2_with (first
      | (go_at_call 69; refine (implName_any _ _ hs).mono ?_; rintro e w' ⟨rfl, hw'⟩)
      | (go_at_call 70; refine (implShort_any _ _ hs).mono ?_; rintro e w' ⟨rfl, rfl⟩)
      | fail)
    go_ret
    first
      | exact ⟨rfl, bel_alloc (Below.refl _ _) _⟩
      | exact ⟨rfl, (bel_alloc (Below.refl _ _) _).trans (hw'.mono (by simp))⟩
  · go_enter Tryz.func51, Tryz.ntmps51
    go_wp2_with (first
      | (go_at_call 69; refine (implName_any _ _ hs).mono ?_; rintro e w' ⟨rfl, hw'⟩)
      | (go_at_call 70; refine (implShort_any _ _ hs).mono ?_; rintro e w' ⟨rfl, rfl⟩)
      | fail)
    go_ret
    first
      | exact ⟨rfl, bel_alloc (Below.refl _ _) _⟩
      | exact ⟨rfl, (bel_alloc (Below.refl _ _) _).trans (hw'.mono (by simp))⟩
  have HK : Hid (tnameB nameB ⟨k, n, m, s, lv, kids⟩ = s.toList.isEmpty) := by
    show _ = _
    unfold tnameB
    rw [if_neg (by dsimp only; omega), if_neg (by simp [bindsB]; omega)]
  obtain ⟨e1, e2, e3, e4, e5, e6, e7, e8, e9⟩ := kinds k h
  clear h
  rw [HK.out]
  go_enter Tryz.func51, Tryz.ntmps51
  go_wp2_with fail
  go_ret
  exact ⟨rfl, bel_alloc (Below.refl _ _) _⟩
end Go.Proofs.YtcagcfhnbphggaaGreatDoor
