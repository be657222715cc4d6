/- What the specification's l3Fields answers: the levels as trees, and whether the fields of a node are right. -/
import Derived.Test.YtcagcfhnbphggaaGreatDoorTSpB
import Derived.Test.YtcagcfhnbphggaaGreatDoorName
import Derived.Test.YtcagcfhnbphggaaGreatDoorParts
namespace Go.Proofs.YtcagcfhnbphggaaGreatDoor
open Go.ChangeShapes Go.WideShapes Go.ChangeAt Go.RowKit

theorem Tryz.results24 : Tryz.f24.results = #[.tmp 2, .tmp 3] := by kernel_rfl

end Go.Proofs.YtcagcfhnbphggaaGreatDoor

/- What the program's termFieldsOk answers: whether a node's fields are as they should be. -/
namespace Go.Proofs.YtcagcfhnbphggaaGreatDoor
open Go.ChangeShapes Go.WideShapes Go.ChangeAt Go.RowKit

set_option maxHeartbeats 2000000 in
theorem termFieldsOk_any (td : Td) (lv kv : Value) (w : World) (hl : LevsAt w lv td.lv) (hk : IntsAt w kv td.kids) (hz : TLens td) :
    Calls Tryz.prog 34 #[.agg #[.int .i64 td.k, .int .i64 td.n, .int .i64 td.m, .string td.s, lv, kv]] w fun e w' => e = .returned (.bool (tfieldsB nameB td)) ∧ Below w.heap.size w w' := by
  have HL : Hid (∀ o w', Below (w.heap.size + 1) (w.alloc o) w' → LevsAt w' lv td.lv) := fun o w' hb => hl.keep ((bel_alloc (Below.refl _ _) o).trans (hb.mono (by simp)))
  obtain ⟨hz1, hz2⟩ := hz
  have HZ2 := hide hz2
  obtain ⟨la, lc, rfl, _, _, _⟩ := hl
  obtain ⟨ka, kc, rfl, _, _, _⟩ := hk
  clear hz2
  have HF : Hid (tfieldsB nameB td = (decide (0 ≤ td.n) && decide (td.n ≤ gN td.k) && (decide (0 ≤ td.m) && decide (td.m ≤ gM td.k)) && tnameB nameB td && tlevB td)) := rfl
  rw [HF.out]
  haveI := bel_ne (w.heap.size + 1) (w.alloc (.cells #[.int .i64 td.k, .int .i64 td.n, .int .i64 td.m, .string td.s, .slice la td.lv.length lc, .slice ka td.kids.length kc] 58))
  have c0 : ∀ p : Bel (w.heap.size + 1) (w.alloc (.cells #[.int .i64 td.k, .int .i64 td.n, .int .i64 td.m, .string td.s, .slice la td.lv.length lc, .slice ka td.kids.length kc] 58)), p.w'.cell? ⟨w.heap.size, 0, none⟩ = some (.int .i64 td.k) := fun p => p.cell (by simp) (by simp [go_sem])
  have c1 : ∀ p : Bel (w.heap.size + 1) (w.alloc (.cells #[.int .i64 td.k, .int .i64 td.n, .int .i64 td.m, .string td.s, .slice la td.lv.length lc, .slice ka td.kids.length kc] 58)), p.w'.cell? ⟨w.heap.size, 1, none⟩ = some (.int .i64 td.n) := fun p => p.cell (by simp) (by simp [go_sem])
  have c2 : ∀ p : Bel (w.heap.size + 1) (w.alloc (.cells #[.int .i64 td.k, .int .i64 td.n, .int .i64 td.m, .string td.s, .slice la td.lv.length lc, .slice ka td.kids.length kc] 58)), p.w'.cell? ⟨w.heap.size, 2, none⟩ = some (.int .i64 td.m) := fun p => p.cell (by simp) (by simp [go_sem])
  have c3 : ∀ p : Bel (w.heap.size + 1) (w.alloc (.cells #[.int .i64 td.k, .int .i64 td.n, .int .i64 td.m, .string td.s, .slice la td.lv.length lc, .slice ka td.kids.length kc] 58)), p.w'.cell? ⟨w.heap.size, 3, none⟩ = some (.string td.s) := fun p => p.cell (by simp) (by simp [go_sem])
  have c4 : ∀ p : Bel (w.heap.size + 1) (w.alloc (.cells #[.int .i64 td.k, .int .i64 td.n, .int .i64 td.m, .string td.s, .slice la td.lv.length lc, .slice ka td.kids.length kc] 58)), p.w'.cell? ⟨w.heap.size, 4, none⟩ = some (.slice la td.lv.length lc) := fun p => p.cell (by simp) (by simp [go_sem])
  have c5 : ∀ p : Bel (w.heap.size + 1) (w.alloc (.cells #[.int .i64 td.k, .int .i64 td.n, .int .i64 td.m, .string td.s, .slice la td.lv.length lc, .slice ka td.kids.length kc] 58)), p.w'.cell? ⟨w.heap.size, 5, none⟩ = some (.slice ka td.kids.length kc) := fun p => p.cell (by simp) (by simp [go_sem])
  cases d0 : decide (0 ≤ td.n)
  · repeat (first | simp only [Bool.false_and] | simp only [Bool.and_false] | simp only [Bool.true_and] | simp only [Bool.and_true])
    go_enter Tryz.func34, Tryz.ntmps34
    go_wp2_with fail
    refine wp_region_bel (w.heap.size + 1) (by kernel_rfl) (by kernel_rfl) ?_
    repeat (quiet_step (first
      | (go_at_call 49; exact calls_bel_same (greatestNumber_any _ _))
      | (go_at_call 50; exact calls_bel_same (greatestMode_any _ _))
      | (go_at_call 51; exact calls_bel (by simp) (termNameOk_any td _ _ _ _ _ _ _ hz1))
      | (go_at_call 52; exact calls_bel (by simp) (termLevelsOk_any td _ _ _ _ _ (HL.out _ _ (Bel.h _)) HZ2.out))))
    refine wpQuiet_nil ?_
    intro _ hw'
    obtain ⟨p, hw2⟩ := hw'
    subst hw2
    go_wp2_with fail
    go_ret
    exact ⟨rfl, (bel_alloc (Below.refl _ _) _).trans (p.h.mono (by omega))⟩
  cases d1 : decide (td.n ≤ gN td.k)
  · repeat (first | simp only [Bool.false_and] | simp only [Bool.and_false] | simp only [Bool.true_and] | simp only [Bool.and_true])
    go_enter Tryz.func34, Tryz.ntmps34
    go_wp2_with fail
    refine wp_region_bel (w.heap.size + 1) (by kernel_rfl) (by kernel_rfl) ?_
    repeat (quiet_step (first
      | (go_at_call 49; exact calls_bel_same (greatestNumber_any _ _))
      | (go_at_call 50; exact calls_bel_same (greatestMode_any _ _))
      | (go_at_call 51; exact calls_bel (by simp) (termNameOk_any td _ _ _ _ _ _ _ hz1))
      | (go_at_call 52; exact calls_bel (by simp) (termLevelsOk_any td _ _ _ _ _ (HL.out _ _ (Bel.h _)) HZ2.out))))
    refine wpQuiet_nil ?_
    intro _ hw'
    obtain ⟨p, hw2⟩ := hw'
    subst hw2
    go_wp2_with fail
    go_ret
    exact ⟨rfl, (bel_alloc (Below.refl _ _) _).trans (p.h.mono (by omega))⟩
  cases d2 : decide (0 ≤ td.m)
  · repeat (first | simp only [Bool.false_and] | simp only [Bool.and_false] | simp only [Bool.true_and] | simp only [Bool.and_true])
    go_enter Tryz.func34, Tryz.ntmps34
    go_wp2_with fail
    refine wp_region_bel (w.heap.size + 1) (by kernel_rfl) (by kernel_rfl) ?_
    repeat (quiet_step (first
      | (go_at_call 49; exact calls_bel_same (greatestNumber_any _ _))
      | (go_at_call 50; exact calls_bel_same (greatestMode_any _ _))
      | (go_at_call 51; exact calls_bel (by simp) (termNameOk_any td _ _ _ _ _ _ _ hz1))
      | (go_at_call 52; exact calls_bel (by simp) (termLevelsOk_any td _ _ _ _ _ (HL.out _ _ (Bel.h _)) HZ2.out))))
    refine wpQuiet_nil ?_
    intro _ hw'
    obtain ⟨p, hw2⟩ := hw'
    subst hw2
    go_wp2_with fail
    go_ret
    exact ⟨rfl, (bel_alloc (Below.refl _ _) _).trans (p.h.mono (by omega))⟩
  cases d3 : decide (td.m ≤ gM td.k)
  · repeat (first | simp only [Bool.false_and] | simp only [Bool.and_false] | simp only [Bool.true_and] | simp only [Bool.and_true])
    go_enter Tryz.func34, Tryz.ntmps34
    go_wp2_with fail
    refine wp_region_bel (w.heap.size + 1) (by kernel_rfl) (by kernel_rfl) ?_
    repeat (quiet_step (first
      | (go_at_call 49; exact calls_bel_same (greatestNumber_any _ _))
      | (go_at_call 50; exact calls_bel_same (greatestMode_any _ _))
      | (go_at_call 51; exact calls_bel (by simp) (termNameOk_any td _ _ _ _ _ _ _ hz1))
      | (go_at_call 52; exact calls_bel (by simp) (termLevelsOk_any td _ _ _ _ _ (HL.out _ _ (Bel.h _)) HZ2.out))))
    refine wpQuiet_nil ?_
    intro _ hw'
    obtain ⟨p, hw2⟩ := hw'
    subst hw2
    go_wp2_with fail
    go_ret
    exact ⟨rfl, (bel_alloc (Below.refl _ _) _).trans (p.h.mono (by omega))⟩
  cases d4 : tnameB nameB td
  · repeat (first | simp only [Bool.false_and] | simp only [Bool.and_false] | simp only [Bool.true_and] | simp only [Bool.and_true])
    go_enter Tryz.func34, Tryz.ntmps34
    go_wp2_with fail
    refine wp_region_bel (w.heap.size + 1) (by kernel_rfl) (by kernel_rfl) ?_
    repeat (quiet_step (first
      | (go_at_call 49; exact calls_bel_same (greatestNumber_any _ _))
      | (go_at_call 50; exact calls_bel_same (greatestMode_any _ _))
      | (go_at_call 51; exact calls_bel (by simp) (termNameOk_any td _ _ _ _ _ _ _ hz1))
      | (go_at_call 52; exact calls_bel (by simp) (termLevelsOk_any td _ _ _ _ _ (HL.out _ _ (Bel.h _)) HZ2.out))))
    refine wpQuiet_nil ?_
    intro _ hw'
    obtain ⟨p, hw2⟩ := hw'
    subst hw2
    go_wp2_with fail
    go_ret
    exact ⟨rfl, (bel_alloc (Below.refl _ _) _).trans (p.h.mono (by omega))⟩
  repeat (first | simp only [Bool.false_and] | simp only [Bool.and_false] | simp only [Bool.true_and] | simp only [Bool.and_true])
  go_enter Tryz.func34, Tryz.ntmps34
  go_wp2_with fail
  refine wp_region_bel (w.heap.size + 1) (by kernel_rfl) (by kernel_rfl) ?_
  repeat (quiet_step (first
    | (go_at_call 49; exact calls_bel_same (greatestNumber_any _ _))
    | (go_at_call 50; exact calls_bel_same (greatestMode_any _ _))
    | (go_at_call 51; exact calls_bel (by simp) (termNameOk_any td _ _ _ _ _ _ _ hz1))
    | (go_at_call 52; exact calls_bel (by simp) (termLevelsOk_any td _ _ _ _ _ (HL.out _ _ (Bel.h _)) HZ2.out))))
  refine wpQuiet_nil ?_
  intro _ hw'
  obtain ⟨p, hw2⟩ := hw'
  subst hw2
  go_wp2_with fail
  go_ret
  exact ⟨rfl, (bel_alloc (Below.refl _ _) _).trans (p.h.mono (by omega))⟩
end Go.Proofs.YtcagcfhnbphggaaGreatDoor
