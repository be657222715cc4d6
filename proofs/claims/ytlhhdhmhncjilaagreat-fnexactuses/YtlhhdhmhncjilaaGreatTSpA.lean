/- What the specification's small functions on terms answer: kids of a kind, binders, none, too great; and l1Trees, which reads levels. -/
import Derived.Test.YtlhhdhmhncjilaaGreatTPlain
import Derived.Test.YtlhhdhmhncjilaaGreatFits
import Derived.Test.YtlhhdhmhncjilaaGreatTQ
namespace Go.Proofs.YtlhhdhmhncjilaaGreat
open Go.ChangeShapes Go.WideShapes Go.ChangeAt Go.RowKit

set_option maxHeartbeats 1000000 in
theorem l3KidsOf_any (k : Int) (w : World) : Calls Tryz.prog 24 #[.int .i64 k] w fun e w' => e = .returned (.int .i64 (tkidsN k)) ∧ Below w.heap.size w w' := by
  rcases kind_cases k with rfl | rfl | rfl | rfl | rfl | rfl | rfl | rfl | rfl | h
  · go_enter Tryz.func24, Tryz.ntmps24; go_wp2; go_ret; exact ⟨rfl, bel_alloc (Below.refl _ _) _⟩
  · go_enter Tryz.func24, Tryz.ntmps24; go_wp2; go_ret; exact ⟨rfl, bel_alloc (Below.refl _ _) _⟩
  · go_enter Tryz.func24, Tryz.ntmps24; go_wp2; go_ret; exact ⟨rfl, bel_alloc (Below.refl _ _) _⟩
  · go_enter Tryz.func24, Tryz.ntmps24; go_wp2; go_ret; exact ⟨rfl, bel_alloc (Below.refl _ _) _⟩
  · go_enter Tryz.func24, Tryz.ntmps24; go_wp2; go_ret; exact ⟨rfl, bel_alloc (Below.refl _ _) _⟩
  · go_enter Tryz.func24, Tryz.ntmps24; go_wp2; go_ret; exact ⟨rfl, bel_alloc (Below.refl _ _) _⟩
  · go_enter Tryz.func24, Tryz.ntmps24; go_wp2; go_ret; exact ⟨rfl, bel_alloc (Below.refl _ _) _⟩
  · go_enter Tryz.func24, Tryz.ntmps24; go_wp2; go_ret; exact ⟨rfl, bel_alloc (Below.refl _ _) _⟩
  · go_enter Tryz.func24, Tryz.ntmps24; go_wp2; go_ret; exact ⟨rfl, bel_alloc (Below.refl _ _) _⟩
  have HK := hide (tkidsN_neg k h)
  by_cases h1 : k < 1
  · have d1 : decide (k < 1) = true := by simp [h1]
    go_enter Tryz.func24, Tryz.ntmps24; go_wp2_with fail; go_ret; exact ⟨ret_int HK.out.symm, Below.refl _ _⟩
  · have d1 : decide (k < 1) = false := by simp; omega
    have d2 : decide (9 < k) = true := by simp; omega
    go_enter Tryz.func24, Tryz.ntmps24; go_wp2_with fail; go_ret; exact ⟨ret_int HK.out.symm, Below.refl _ _⟩
set_option maxHeartbeats 1000000 in
theorem l3Binds_any (k : Int) (w : World) : Calls Tryz.prog 39 #[.int .i64 k] w fun e w' => e = .returned (.bool (bindsB k)) ∧ w' = w := by
  have HB : Hid (bindsB k = (decide (k = 5) || decide (k = 6) || decide (k = 7))) := rfl
  rw [HB.out]
  by_cases h5 : k = 5
  · subst h5; go_enter Tryz.func39, Tryz.ntmps39; go_wp2; go_ret; exact ⟨rfl, rfl⟩
  have e5 : (k == 5) = false := beq_eq_false_iff_ne.2 h5
  by_cases h6 : k = 6
  · subst h6; go_enter Tryz.func39, Tryz.ntmps39; go_wp2; go_ret; exact ⟨rfl, rfl⟩
  have e6 : (k == 6) = false := beq_eq_false_iff_ne.2 h6
  by_cases h7 : k = 7
  · subst h7; go_enter Tryz.func39, Tryz.ntmps39; go_wp2; go_ret; exact ⟨rfl, rfl⟩
  have e7 : (k == 7) = false := beq_eq_false_iff_ne.2 h7
  have HN : Hid ((decide (k = 5) || decide (k = 6) || decide (k = 7)) = false) := by show _ = _; simp [h5, h6, h7]
  rw [HN.out]
  clear h5 h6 h7
  go_enter Tryz.func39, Tryz.ntmps39; go_wp2; go_ret; exact ⟨rfl, rfl⟩
set_option maxHeartbeats 400000 in
theorem tnone_some (a : Addr) (w : World) : Calls Tryz.prog 14 #[.pointer (some a)] w fun e w' => e = .returned (.bool false) ∧ w' = w := by
  go_enter Tryz.func14, Tryz.ntmps14
  go_wp2
  go_ret
  exact ⟨rfl, rfl⟩
set_option maxHeartbeats 400000 in
theorem tnone_none (w : World) : Calls Tryz.prog 14 #[.pointer none] w fun e w' => e = .returned (.bool true) ∧ w' = w := by
  go_enter Tryz.func14, Tryz.ntmps14
  go_wp2
  go_ret
  exact ⟨rfl, rfl⟩
set_option maxHeartbeats 400000 in
theorem l3Great_any (g : Nat) (sz : Int) (w : World) (h : w.cell? ⟨g, 6, none⟩ = some (.int .i64 sz)) : Calls Tryz.prog 27 #[.pointer (some ⟨g, 0, none⟩)] w fun e w' => e = .returned (.bool (decide (20000 < sz))) ∧ w' = w := by
  go_enter Tryz.func27, Tryz.ntmps27
  go_wp2_with fail
  go_ret
  exact ⟨rfl, rfl⟩

/-- A row of pointers. -/
def PtrRow (w : World) (v : Value) (ps : List Nat) : Prop :=
  ∃ a cap, v = .slice a ps.length cap ∧ ps.length ≤ cap ∧ cap ≤ maxLen ∧ (0 < ps.length → ∃ b off, a = some ⟨b, off, none⟩ ∧ ∀ j (h : j < ps.length), w.cell? ⟨b, off + j, none⟩ = some (ptrV ps[j]))
theorem PtrRow.keep {w w' : World} (hb : Below w.heap.size w w') {v : Value} {ps : List Nat} (h : PtrRow w v ps) : PtrRow w' v ps := by
  obtain ⟨a, cap, hv, h1, h2, h3⟩ := h
  refine ⟨a, cap, hv, h1, h2, fun h0 => ?_⟩
  obtain ⟨b, off, ha, hc⟩ := h3 h0
  exact ⟨b, off, ha, fun j h => keep_cell hb (hc j h)⟩
theorem PtrRow.own {w : World} {base : Nat} {e : TypeId} {v : Value} {n : Nat} {ps : List Nat} (h : w.ownsRow base e 1 v n (ps.map ptrV)) (hn : n = ps.length) : PtrRow w v ps := by
  subst hn
  rcases h.2 with ⟨rfl, h0⟩ | ⟨g, cap, cur, rfl, _, hg, hnc, hcm, hcs, htake⟩
  · exact ⟨none, 0, by rw [h0], by omega, by unfold maxLen; omega, fun h => by omega⟩
  · refine ⟨_, _, rfl, hnc, hcm, fun _ => ⟨g, 0, rfl, fun j hj => ?_⟩⟩
    rw [Nat.zero_add, h.cellAt j (by omega), List.getElem?_map, List.getElem?_eq_getElem hj]; rfl
/-- Levels as trees, each one that fits. -/
def LevTrees (w : World) (ps : List Nat) (us : List Tr) : Prop := TreesAt w ps us ∧ ∀ u ∈ us, fitsB u = true
theorem TreesAt.keep {w w' : World} (hb : Below w.heap.size w w') {ps : List Nat} {us : List Tr} (h : TreesAt w ps us) : TreesAt w' ps us :=
  ⟨h.1, fun j h1 h2 => ((h.2 j h1 h2).keep hb).mono hb.size⟩
theorem LevTrees.keep {w w' : World} (hb : Below w.heap.size w w') {ps : List Nat} {us : List Tr} (h : LevTrees w ps us) : LevTrees w' ps us := ⟨h.1.keep hb, h.2⟩
end Go.Proofs.YtlhhdhmhncjilaaGreat
