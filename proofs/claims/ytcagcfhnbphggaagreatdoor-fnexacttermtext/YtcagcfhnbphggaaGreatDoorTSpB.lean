/- What the program's termLevelsOk and termFieldsOk answer. -/
import Derived.Test.YtcagcfhnbphggaaGreatDoorTImpl
import Derived.Test.YtcagcfhnbphggaaGreatDoorParts
namespace Go.Proofs.YtcagcfhnbphggaaGreatDoor
open Go.ChangeShapes Go.WideShapes Go.ChangeAt Go.RowKit

theorem all_take_succ {ls : List (List Nd)} {k : Nat} (h : k < ls.length) (ha : (ls.take k).all lvlB = true) (hb : lvlB ls[k] = true) : (ls.take (k + 1)).all lvlB = true := by
  rw [List.take_succ_eq_append_getElem h, List.all_append, ha]; simp [hb]
theorem all_not_at {ls : List (List Nd)} {k : Nat} (h : k < ls.length) (hb : lvlB ls[k] = false) : ls.all lvlB = false := by
  rw [List.all_eq_false]; exact ⟨ls[k], by simp, by simp [hb]⟩
theorem tlev_no {td : Td} (h : (td.lv.length : Int) < leastL td.k ∨ mostL td.k < (td.lv.length : Int)) : tlevB td = false := by
  unfold tlevB
  rcases h with h | h
  · rw [show decide (leastL td.k ≤ (td.lv.length : Int)) = false by simp; omega]; rfl
  · rw [show decide ((td.lv.length : Int) ≤ mostL td.k) = false by simp; omega]; simp
theorem tlev_yes {td : Td} (h1 : leastL td.k ≤ (td.lv.length : Int)) (h2 : (td.lv.length : Int) ≤ mostL td.k) : tlevB td = td.lv.all lvlB := by
  unfold tlevB; simp [h1, h2]

set_option maxHeartbeats 2000000 in
theorem termLevelsOk_any (td : Td) (lv : Value) (ka : Option Addr) (kn kc : Nat) (w : World) (hl : LevsAt w lv td.lv) (hz : ∀ l ∈ td.lv, LvLens l) :
    Calls Tryz.prog 52 #[.agg #[.int .i64 td.k, .int .i64 td.n, .int .i64 td.m, .string td.s, lv, .slice ka kn kc]] w fun e w' => e = .returned (.bool (tlevB td)) ∧ Below w.heap.size w w' := by
  have HNO := hide (tlev_no (td := td))
  have HYES := hide (tlev_yes (td := td))
  obtain ⟨k, n, m, s, ls, kids⟩ := td
  dsimp only at *
  obtain ⟨a, cap, rfl, hlc, hcm, hc⟩ := hl
  have HC : Hid (0 < ls.length → ∃ b off, a = some ⟨b, off, none⟩ ∧ ∀ i (h : i < ls.length), ∃ u, w.cell? ⟨b, off + i, none⟩ = some u ∧ NodesAt w u ls[i]) := hc
  have HZ := hide hz
  unfold maxLen at hcm
  clear hc hz
  by_cases hk2 : k = 2
  · subst hk2
    have HL1 : Hid (leastL 2 = 1) := rfl
    have HL2 : Hid (mostL 2 = 1) := rfl
    rw [HL1.out, HL2.out] at HNO HYES
    by_cases h1 : (ls.length : Int) < 1
    · have HF := hide (HNO.out (.inl h1))
      have d1 : decide ((ls.length : Int) < 1) = true := by simp; omega
      go_enter Tryz.func52, Tryz.ntmps52
      go_wp2_with fail
      go_ret
      exact ⟨ret_bool HF.out.symm, bel_alloc (Below.refl _ _) _⟩
    have d1 : decide ((ls.length : Int) < 1) = false := by simp; omega
    by_cases h2 : (1 : Int) < (ls.length : Int)
    · have HF := hide (HNO.out (.inr h2))
      have d2 : decide ((1 : Int) < (ls.length : Int)) = true := by simp; omega
      go_enter Tryz.func52, Tryz.ntmps52
      go_wp2_with fail
      go_ret
      exact ⟨ret_bool HF.out.symm, bel_alloc (Below.refl _ _) _⟩
    have d2 : decide ((1 : Int) < (ls.length : Int)) = false := by simp; omega
    have HY := hide (HYES.out (by omega) (by omega))
    rw [HY.out]
    clear HNO HYES h1 h2
    go_enter Tryz.func52, Tryz.ntmps52
    go_wp2_with fail
    go_loopw [28] (fun i wr => ∃ j : Nat, j ≤ ls.length ∧ i = .int .i64 j ∧ Hid ((ls.take j).all lvlB = true) ∧ Below w.heap.size w wr) (fun i _ => ls.length - (intOf i).toNat)
    case atStart => exact ⟨0, by omega, rfl, by simp [Hid], bel_alloc (Below.refl _ _) _⟩
    case round =>
      obtain ⟨j, hj, rfl, HA, hbel⟩ := hrel
      by_cases hlt : j < ls.length
      · obtain ⟨b, off, rfl, hc⟩ := HC.out (by omega)
        obtain ⟨u, c1, hnu⟩ := hc j hlt
        have c1' := keep_cell hbel c1
        have HNU := hide (hnu.keep hbel)
        have HSZ := hide (HZ.out ls[j] (by simp))
        have HT := hide (all_take_succ hlt HA.out)
        have HN := hide (all_not_at hlt)
        have hlt' : (j : Int) < ls.length := by omega
        clear hc c1
        generalize ls[j] = ns at *
        obtain ⟨ua, uc, rfl, _, _, _⟩ := hnu
        cases hB : lvlB ns
        · have HF : Hid (ls.all lvlB = false) := HN.out hB
          go_wp2_with (go_at_call 71; refine (implLevelOk_any _ ns _ (HNU.out.keep (bel_alloc (Below.refl _ _) _)) HSZ.out).mono ?_; rintro e w2 ⟨rfl, hb2⟩; rw [hB])
          go_ret
          exact ⟨ret_bool HF.out.symm, (bel_alloc hbel _).trans (hb2.mono (by have := hbel.size; simp; omega))⟩
        · have HF := hide (HT.out hB)
          go_wp2_with (go_at_call 71; refine (implLevelOk_any _ ns _ (HNU.out.keep (bel_alloc (Below.refl _ _) _)) HSZ.out).mono ?_; rintro e w2 ⟨rfl, hb2⟩; rw [hB])
          go_roundw
          case rel => exact ⟨j + 1, by omega, by go_num, HF, (bel_alloc hbel _).trans (hb2.mono (by have := hbel.size; simp; omega))⟩
          case measure => simp [intOf]; omega
      · have HF : Hid (ls.all lvlB = true) := by have := HA.out; rwa [List.take_of_length_le (by omega)] at this
        have hlt' : ¬ (j : Int) < ls.length := by omega
        go_wp2_with fail
        go_ret
        exact ⟨ret_bool HF.out.symm, hbel⟩
  by_cases hk3 : k = 3
  · subst hk3
    have HL1 : Hid (leastL 3 = 0) := rfl
    have HL2 : Hid (mostL 3 = 6) := rfl
    rw [HL1.out, HL2.out] at HNO HYES
    have h1 : ¬ (ls.length : Int) < 0 := by omega
    have d1 : decide ((ls.length : Int) < 0) = false := by simp
    by_cases h2 : (6 : Int) < (ls.length : Int)
    · have HF := hide (HNO.out (.inr h2))
      have d2 : decide ((6 : Int) < (ls.length : Int)) = true := by simp; omega
      go_enter Tryz.func52, Tryz.ntmps52
      go_wp2_with fail
      go_ret
      exact ⟨ret_bool HF.out.symm, bel_alloc (Below.refl _ _) _⟩
    have d2 : decide ((6 : Int) < (ls.length : Int)) = false := by simp; omega
    have HY := hide (HYES.out (by omega) (by omega))
    rw [HY.out]
    clear HNO HYES h1 h2
    go_enter Tryz.func52, Tryz.ntmps52
    go_wp2_with fail
    go_loopw [28] (fun i wr => ∃ j : Nat, j ≤ ls.length ∧ i = .int .i64 j ∧ Hid ((ls.take j).all lvlB = true) ∧ Below w.heap.size w wr) (fun i _ => ls.length - (intOf i).toNat)
    case atStart => exact ⟨0, by omega, rfl, by simp [Hid], bel_alloc (Below.refl _ _) _⟩
    case round =>
      obtain ⟨j, hj, rfl, HA, hbel⟩ := hrel
      by_cases hlt : j < ls.length
      · obtain ⟨b, off, rfl, hc⟩ := HC.out (by omega)
        obtain ⟨u, c1, hnu⟩ := hc j hlt
        have c1' := keep_cell hbel c1
        have HNU := hide (hnu.keep hbel)
        have HSZ := hide (HZ.out ls[j] (by simp))
        have HT := hide (all_take_succ hlt HA.out)
        have HN := hide (all_not_at hlt)
        have hlt' : (j : Int) < ls.length := by omega
        clear hc c1
        generalize ls[j] = ns at *
        obtain ⟨ua, uc, rfl, _, _, _⟩ := hnu
        cases hB : lvlB ns
        · have HF : Hid (ls.all lvlB = false) := HN.out hB
          go_wp2_with (go_at_call 71; refine (implLevelOk_any _ ns _ (HNU.out.keep (bel_alloc (Below.refl _ _) _)) HSZ.out).mono ?_; rintro e w2 ⟨rfl, hb2⟩; rw [hB])
          go_ret
          exact ⟨ret_bool HF.out.symm, (bel_alloc hbel _).trans (hb2.mono (by have := hbel.size; simp; omega))⟩
        · have HF := hide (HT.out hB)
          go_wp2_with (go_at_call 71; refine (implLevelOk_any _ ns _ (HNU.out.keep (bel_alloc (Below.refl _ _) _)) HSZ.out).mono ?_; rintro e w2 ⟨rfl, hb2⟩; rw [hB])
          go_roundw
          case rel => exact ⟨j + 1, by omega, by go_num, HF, (bel_alloc hbel _).trans (hb2.mono (by have := hbel.size; simp; omega))⟩
          case measure => simp [intOf]; omega
      · have HF : Hid (ls.all lvlB = true) := by have := HA.out; rwa [List.take_of_length_le (by omega)] at this
        have hlt' : ¬ (j : Int) < ls.length := by omega
        go_wp2_with fail
        go_ret
        exact ⟨ret_bool HF.out.symm, hbel⟩
  · have e2 : (k == 2) = false := beq_eq_false_iff_ne.2 hk2
    have e3 : (k == 3) = false := beq_eq_false_iff_ne.2 hk3
    have HL1 : Hid (leastL k = 0) := by show _ = _; simp [leastL, hk2]
    have HL2 : Hid (mostL k = 0) := by show _ = _; simp [mostL, hk2, hk3]
    rw [HL1.out, HL2.out] at HNO HYES
    by_cases h2 : 0 < ls.length
    · have HF := hide (HNO.out (.inr (by omega)))
      rw [HF.out]
      clear HNO HYES HC
      generalize ls.length = L at *
      go_enter Tryz.func52, Tryz.ntmps52
      go_wp2_with fail
      go_ret
      exact ⟨rfl, bel_alloc (Below.refl _ _) _⟩
    · have hnil : ls = [] := List.eq_nil_of_length_eq_zero (by omega)
      have HY := hide (HYES.out (by omega) (by omega))
      rw [HY.out]
      clear HNO HYES HC HY HZ
      subst hnil
      simp only [List.length_nil, List.all_nil]
      go_enter Tryz.func52, Tryz.ntmps52
      go_wp2_with fail
      go_loopw [28] (fun i wr => i = .int .i64 0 ∧ Below w.heap.size w wr) (fun _ _ => 0)
      case atStart => exact ⟨rfl, bel_alloc (Below.refl _ _) _⟩
      case round =>
        obtain ⟨rfl, hbel⟩ := hrel
        go_wp2_with fail
        go_ret
        exact ⟨rfl, hbel⟩
end Go.Proofs.YtcagcfhnbphggaaGreatDoor

/- What the specification's l1Trees answers: the trees of levels, or false where one is not valid. -/
namespace Go.Proofs.YtcagcfhnbphggaaGreatDoor
open Go.ChangeShapes Go.WideShapes Go.ChangeAt Go.RowKit

theorem Tryz.results42 : Tryz.f42.results = #[.tmp 2, .tmp 3] := by kernel_rfl
/-- A row of levels as trees, so many of them. -/
def LevRow (w : World) (v : Value) (n : Nat) : Prop := ∃ ps us, ps.length = n ∧ PtrRow w v ps ∧ LevTrees w ps us
theorem TreesAt.snoc {w w' : World} {ps : List Nat} {us : List Tr} (h : TreesAt w ps us) (hk : ∀ j (h1 : j < ps.length) (h2 : j < us.length), TreeAt w'.heap.size w' ps[j] us[j]) {g : Nat} {u : Tr} (hg : TreeAt w'.heap.size w' g u) : TreesAt w' (ps ++ [g]) (us ++ [u]) := by
  refine ⟨by simp [h.1], fun j h1 h2 => ?_⟩
  by_cases e : j < ps.length
  · rw [List.getElem_append_left e, List.getElem_append_left (by have := h.1; omega)]; exact hk j e (by have := h.1; omega)
  · have h3 : j = ps.length := by simp at h1; omega
    subst h3
    have h4 := h.1
    simp only [List.getElem_append_right (Nat.le_refl _), h4, Nat.sub_self, List.getElem_cons_zero]
    rw [List.getElem_append_right (by omega)]
    simpa [h4] using hg
theorem fits_of {ns : List Nd} {t : Tr} (hl : lvlB ns = true) (h2 : t.names [] = namesOf ns) (h3 : t.cnt = ns.length) : fitsB t = true := by
  unfold fitsB
  simp [lvlB] at hl
  obtain ⟨⟨_, h5⟩, h6⟩ := hl
  cases hr : runTo ns ns.length with
  | none => rw [hr] at h6; cases h6
  | some st => rw [hr] at h6; simp at h6; simp; rw [h2, h3]; exact ⟨h5, h6.2⟩

end Go.Proofs.YtcagcfhnbphggaaGreatDoor
