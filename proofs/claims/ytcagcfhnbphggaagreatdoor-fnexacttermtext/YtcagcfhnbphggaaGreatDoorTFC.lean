/- What the specification's l3Fields answers: the levels as trees, and whether the fields of a node are right. -/
import Derived.Test.YtcagcfhnbphggaaGreatDoorTFB
import Derived.Test.YtcagcfhnbphggaaGreatDoorTFn
import Derived.Test.YtcagcfhnbphggaaGreatDoorName
namespace Go.Proofs.YtcagcfhnbphggaaGreatDoor
open Go.ChangeShapes Go.WideShapes Go.ChangeAt Go.RowKit

theorem lev_mono {Q R : Nat → Prop} {w : World} {v : Value} {ls : List (List Nd)} (h : LevRowF Q w v ls) (hq : ∀ b, Q b → R b) : LevRowF R w v ls := by
  obtain ⟨ps, us, h1, h2, h3, h4⟩ := h
  exact ⟨ps, us, h1, h2.to (fun b hb _ => ⟨hq b hb, fun o u hu => hu⟩), h3, h4⟩

set_option maxRecDepth 20000 in
set_option maxHeartbeats 4000000 in
theorem l3FieldsF_any (td : Td) (lv kv : Value) (w : World) (hl : LevsAt w lv td.lv) (hk : IntsAt w kv td.kids) (hz : TLens td) (hlen : td.lv.length ≤ 1048576) (hk1 : 1 ≤ td.k) (hk9 : td.k ≤ 9) :
    Calls Tryz.prog 24 #[.agg #[.int .i64 td.k, .int .i64 td.n, .int .i64 td.m, .string td.s, lv, kv]] w fun e w' => (∃ a n cap, e = .returned (.tuple #[.slice a n cap, .bool (tfieldsB nameB td)]) ∧ (tfieldsB nameB td = true → n = td.lv.length ∧ LevRowF (fun b => w.heap.size ≤ b) w' (.slice a n cap) td.lv)) ∧ Below w.heap.size w w' := by
  obtain ⟨k, n, m, s, ls, kids⟩ := td
  dsimp only at *
  have HLV : Hid (∀ o, LevsAt (w.alloc o) lv ls) := fun o => hl.keep (bel_alloc (Below.refl _ _) o)
  obtain ⟨hz1, hz2⟩ := hz
  dsimp only at hz1
  have HZ2 := hide hz2
  obtain ⟨la, lc, rfl, _, _, _⟩ := hl
  obtain ⟨ka, kc, rfl, _, _, _⟩ := hk
  clear hz2
  go_enter Tryz.func24, Tryz.ntmps24
  go_wp2_with fail
  refine (l1TreesF_any _ ls _ (HLV.out _) HZ2.out hlen).mono ?_
  rintro e w1 ⟨⟨ra, L, rc, rfl, hrow⟩, hb⟩
  have c0 : w1.cell? ⟨w.heap.size, 0, none⟩ = some (.int .i64 k) := keep_cell hb (by simp [go_sem])
  have c1 : w1.cell? ⟨w.heap.size, 1, none⟩ = some (.int .i64 n) := keep_cell hb (by simp [go_sem])
  have c2 : w1.cell? ⟨w.heap.size, 2, none⟩ = some (.int .i64 m) := keep_cell hb (by simp [go_sem])
  have c3 : w1.cell? ⟨w.heap.size, 3, none⟩ = some (.string s) := keep_cell hb (by simp [go_sem])
  have HB := hide ((bel_alloc (Below.refl w.heap.size w) (.cells #[.int .i64 k, .int .i64 n, .int .i64 m, .string s, .slice la ls.length lc, .slice ka kids.length kc] 58)).trans (hb.mono (by simp)))
  have HROW := hide (fun h => (⟨(hrow h).1, lev_mono (hrow h).2 (fun b hb => by simp at hb; omega)⟩ : L = ls.length ∧ LevRowF (fun b => w.heap.size ≤ b) w1 (.slice ra L rc) ls))
  clear hb hrow
  cases hA : ls.all lvlB
  · have HX : Hid (tfieldsB nameB ⟨k, n, m, s, ls, kids⟩ = false) := by show _ = _; simp [tfieldsB, tlevB, hA]
    clear hA
    go_wp2_with fail
    refine bodyPost_ret (results_tmp2 Tryz.results24 _ _ _) rfl ?_
    rw [HX.out]
    exact ⟨⟨ra, L, rc, rfl, fun h => by cases h⟩, HB.out⟩
  obtain ⟨hLe, hLR⟩ := HROW.out hA
  have HLE := hide hLe
  have HLR := hide hLR
  have HA := hide hA
  clear hLe hLR hA HROW
  rcases (show k = 1 ∨ k = 2 ∨ k = 3 ∨ k = 4 ∨ k = 5 ∨ k = 6 ∨ k = 7 ∨ k = 8 ∨ k = 9 from by omega) with rfl | rfl | rfl | rfl | rfl | rfl | rfl | rfl | rfl
  · -- kind 1
    by_cases hL : L = 0
    case neg =>
      have q1 : 0 < L := by omega
      have hll : 0 < ls.length := by have := HLE.out; omega
      have HX : Hid (tfieldsB nameB ⟨1, n, m, s, ls, kids⟩ = false) := by show _ = _; unfold tfieldsB tlevB; rw [show (decide (leastL 1 ≤ (ls.length : Int)) && decide ((ls.length : Int) ≤ mostL 1)) = false from by simp [leastL, mostL]; intro h; simp [h] at hll]; simp
      clear hL
      go_wp2_with fail
      refine bodyPost_ret (results_tmp2 Tryz.results24 _ _ _) rfl ?_
      rw [HX.out]
      exact ⟨⟨ra, _, rc, rfl, fun h => by cases h⟩, HB.out⟩
    subst hL
    have hll : ls.length = 0 := HLE.out.symm
    have HTL : Hid (tlevB ⟨1, n, m, s, ls, kids⟩ = true) := by show _ = _; have h0 : ls = [] := List.eq_nil_of_length_eq_zero hll; simp [tlevB, leastL, mostL, h0]
    clear hll
    have HNB : Hid (numB ⟨1, n, m, s, ls, kids⟩ = (decide (0 ≤ n) && decide (n ≤ 20000))) := rfl
    have HMB : Hid (modeB ⟨1, n, m, s, ls, kids⟩ = (m == 0)) := by show (decide (0 ≤ m) && decide (m ≤ gM 1)) = _; rw [show gM 1 = 0 from rfl, Bool.eq_iff_iff]; simp; omega
    have HTF : Hid (tfieldsB nameB ⟨1, n, m, s, ls, kids⟩ = ((decide (0 ≤ n) && decide (n ≤ 20000)) && (m == 0) && s.toList.isEmpty)) := by show _ = _; unfold tfieldsB; rw [HTL.out, HNB.out, HMB.out, Bool.and_true]; rfl
    clear HNB HMB HTL HA
    cases dn1 : decide (0 ≤ n)
    case false =>
      have HX : Hid (tfieldsB nameB ⟨1, n, m, s, ls, kids⟩ = false) := by show _ = _; rw [HTF.out, dn1]; simp
      go_wp2_with (first
        | (go_at_call 30; refine (l3Binds_any _ _).mono ?_; rintro e w' ⟨rfl, hw⟩; have hw := hw.symm; subst hw; rw [show bindsB 1 = false from rfl])
        | (go_at_call 43; refine (specShort_any _ _ hz1).mono ?_; rintro e w' ⟨rfl, hw⟩; have hw := hw.symm; subst hw)
        | (go_at_call 44; refine (specName_any _ _ hz1).mono ?_; rintro e w2 ⟨rfl, hb2⟩)
        | fail)
      go_region
      go_wp2_with fail
      refine bodyPost_ret (results_tmp2 Tryz.results24 _ _ _) rfl ?_
      rw [HX.out]
      exact ⟨⟨ra, _, rc, rfl, fun h => by cases h⟩, by first | exact HB.out.drew | exact below_drewN HB.out _⟩
    cases dn2 : decide (n ≤ 20000)
    case false =>
      have HX : Hid (tfieldsB nameB ⟨1, n, m, s, ls, kids⟩ = false) := by show _ = _; rw [HTF.out, dn1, dn2]; simp
      go_wp2_with (first
        | (go_at_call 30; refine (l3Binds_any _ _).mono ?_; rintro e w' ⟨rfl, hw⟩; have hw := hw.symm; subst hw; rw [show bindsB 1 = false from rfl])
        | (go_at_call 43; refine (specShort_any _ _ hz1).mono ?_; rintro e w' ⟨rfl, hw⟩; have hw := hw.symm; subst hw)
        | (go_at_call 44; refine (specName_any _ _ hz1).mono ?_; rintro e w2 ⟨rfl, hb2⟩)
        | fail)
      go_region
      go_wp2_with fail
      refine bodyPost_ret (results_tmp2 Tryz.results24 _ _ _) rfl ?_
      rw [HX.out]
      exact ⟨⟨ra, _, rc, rfl, fun h => by cases h⟩, by first | exact HB.out.drew | exact below_drewN HB.out _⟩
    cases dm1 : (m == 0)
    case false =>
      have HX : Hid (tfieldsB nameB ⟨1, n, m, s, ls, kids⟩ = false) := by show _ = _; rw [HTF.out, dn1, dn2, dm1]; simp
      go_wp2_with (first
        | (go_at_call 30; refine (l3Binds_any _ _).mono ?_; rintro e w' ⟨rfl, hw⟩; have hw := hw.symm; subst hw; rw [show bindsB 1 = false from rfl])
        | (go_at_call 43; refine (specShort_any _ _ hz1).mono ?_; rintro e w' ⟨rfl, hw⟩; have hw := hw.symm; subst hw)
        | (go_at_call 44; refine (specName_any _ _ hz1).mono ?_; rintro e w2 ⟨rfl, hb2⟩)
        | fail)
      go_region
      go_wp2_with fail
      refine bodyPost_ret (results_tmp2 Tryz.results24 _ _ _) rfl ?_
      rw [HX.out]
      exact ⟨⟨ra, _, rc, rfl, fun h => by cases h⟩, by first | exact HB.out.drew | exact below_drewN HB.out _⟩
    have HX : Hid (tfieldsB nameB ⟨1, n, m, s, ls, kids⟩ = s.toList.isEmpty) := by show _ = _; rw [HTF.out, dn1, dn2, dm1]; simp
    go_wp2_with (first
      | (go_at_call 30; refine (l3Binds_any _ _).mono ?_; rintro e w' ⟨rfl, hw⟩; have hw := hw.symm; subst hw; rw [show bindsB 1 = false from rfl])
      | (go_at_call 43; refine (specShort_any _ _ hz1).mono ?_; rintro e w' ⟨rfl, hw⟩; have hw := hw.symm; subst hw)
      | (go_at_call 44; refine (specName_any _ _ hz1).mono ?_; rintro e w2 ⟨rfl, hb2⟩)
      | fail)
    go_region
    go_wp2_with fail
    refine bodyPost_ret (results_tmp2 Tryz.results24 _ _ _) rfl ?_
    rw [HX.out]
    exact ⟨⟨ra, _, rc, rfl, fun _ => ⟨HLE.out, HLR.out.keep (by first | exact (Below.refl _ _).drew | exact below_drewN (Below.refl _ _) _)⟩⟩, by first | exact HB.out.drew | exact below_drewN HB.out _⟩
  · -- kind 2
    by_cases hL : L = 1
    case neg =>
      have q1 : ((L : Int) != 1) = true := by rw [bne_iff_ne]; omega
      have hll : ¬ ls.length = 1 := by have := HLE.out; omega
      have HX : Hid (tfieldsB nameB ⟨2, n, m, s, ls, kids⟩ = false) := by show _ = _; unfold tfieldsB tlevB; rw [show (decide (leastL 2 ≤ (ls.length : Int)) && decide ((ls.length : Int) ≤ mostL 2)) = false from by simp [leastL, mostL]; omega]; simp
      go_wp2_with fail
      refine bodyPost_ret (results_tmp2 Tryz.results24 _ _ _) rfl ?_
      rw [HX.out]
      exact ⟨⟨ra, _, rc, rfl, fun h => by cases h⟩, HB.out⟩
    subst hL
    have hll : ls.length = 1 := HLE.out.symm
    have HTL : Hid (tlevB ⟨2, n, m, s, ls, kids⟩ = true) := by show _ = _; simp [tlevB, leastL, mostL, HA.out, hll]
    clear hll
    have HNB : Hid (numB ⟨2, n, m, s, ls, kids⟩ = (n == 0)) := by show (decide (0 ≤ n) && decide (n ≤ gN 2)) = _; rw [show gN 2 = 0 from rfl, Bool.eq_iff_iff]; simp; omega
    have HMB : Hid (modeB ⟨2, n, m, s, ls, kids⟩ = (m == 0)) := by show (decide (0 ≤ m) && decide (m ≤ gM 2)) = _; rw [show gM 2 = 0 from rfl, Bool.eq_iff_iff]; simp; omega
    have HTF : Hid (tfieldsB nameB ⟨2, n, m, s, ls, kids⟩ = ((n == 0) && (m == 0) && s.toList.isEmpty)) := by show _ = _; unfold tfieldsB; rw [HTL.out, HNB.out, HMB.out, Bool.and_true]; rfl
    clear HNB HMB HTL HA
    cases dn1 : (n == 0)
    case false =>
      have HX : Hid (tfieldsB nameB ⟨2, n, m, s, ls, kids⟩ = false) := by show _ = _; rw [HTF.out, dn1]; simp
      go_wp2_with (first
        | (go_at_call 30; refine (l3Binds_any _ _).mono ?_; rintro e w' ⟨rfl, hw⟩; have hw := hw.symm; subst hw; rw [show bindsB 2 = false from rfl])
        | (go_at_call 43; refine (specShort_any _ _ hz1).mono ?_; rintro e w' ⟨rfl, hw⟩; have hw := hw.symm; subst hw)
        | (go_at_call 44; refine (specName_any _ _ hz1).mono ?_; rintro e w2 ⟨rfl, hb2⟩)
        | fail)
      go_region
      go_wp2_with fail
      refine bodyPost_ret (results_tmp2 Tryz.results24 _ _ _) rfl ?_
      rw [HX.out]
      exact ⟨⟨ra, _, rc, rfl, fun h => by cases h⟩, by first | exact HB.out.drew | exact below_drewN HB.out _⟩
    cases dm1 : (m == 0)
    case false =>
      have HX : Hid (tfieldsB nameB ⟨2, n, m, s, ls, kids⟩ = false) := by show _ = _; rw [HTF.out, dn1, dm1]; simp
      go_wp2_with (first
        | (go_at_call 30; refine (l3Binds_any _ _).mono ?_; rintro e w' ⟨rfl, hw⟩; have hw := hw.symm; subst hw; rw [show bindsB 2 = false from rfl])
        | (go_at_call 43; refine (specShort_any _ _ hz1).mono ?_; rintro e w' ⟨rfl, hw⟩; have hw := hw.symm; subst hw)
        | (go_at_call 44; refine (specName_any _ _ hz1).mono ?_; rintro e w2 ⟨rfl, hb2⟩)
        | fail)
      go_region
      go_wp2_with fail
      refine bodyPost_ret (results_tmp2 Tryz.results24 _ _ _) rfl ?_
      rw [HX.out]
      exact ⟨⟨ra, _, rc, rfl, fun h => by cases h⟩, by first | exact HB.out.drew | exact below_drewN HB.out _⟩
    have HX : Hid (tfieldsB nameB ⟨2, n, m, s, ls, kids⟩ = s.toList.isEmpty) := by show _ = _; rw [HTF.out, dn1, dm1]; simp
    go_wp2_with (first
      | (go_at_call 30; refine (l3Binds_any _ _).mono ?_; rintro e w' ⟨rfl, hw⟩; have hw := hw.symm; subst hw; rw [show bindsB 2 = false from rfl])
      | (go_at_call 43; refine (specShort_any _ _ hz1).mono ?_; rintro e w' ⟨rfl, hw⟩; have hw := hw.symm; subst hw)
      | (go_at_call 44; refine (specName_any _ _ hz1).mono ?_; rintro e w2 ⟨rfl, hb2⟩)
      | fail)
    go_region
    go_wp2_with fail
    refine bodyPost_ret (results_tmp2 Tryz.results24 _ _ _) rfl ?_
    rw [HX.out]
    exact ⟨⟨ra, _, rc, rfl, fun _ => ⟨HLE.out, HLR.out.keep (by first | exact (Below.refl _ _).drew | exact below_drewN (Below.refl _ _) _)⟩⟩, by first | exact HB.out.drew | exact below_drewN HB.out _⟩
  · -- kind 3
    by_cases hL : L ≤ 6
    case neg =>
      have q1 : decide (6 < (L : Int)) = true := by simp; omega
      have hll : ¬ ls.length ≤ 6 := by have := HLE.out; omega
      have HX : Hid (tfieldsB nameB ⟨3, n, m, s, ls, kids⟩ = false) := by show _ = _; unfold tfieldsB tlevB; rw [show (decide (leastL 3 ≤ (ls.length : Int)) && decide ((ls.length : Int) ≤ mostL 3)) = false from by simp [leastL, mostL]; omega]; simp
      go_wp2_with fail
      refine bodyPost_ret (results_tmp2 Tryz.results24 _ _ _) rfl ?_
      rw [HX.out]
      exact ⟨⟨ra, _, rc, rfl, fun h => by cases h⟩, HB.out⟩
    have q1 : decide (6 < (L : Int)) = false := by simp; omega
    have HLL : Hid ((decide (leastL 3 ≤ (ls.length : Int)) && decide ((ls.length : Int) ≤ mostL 3)) = true) := by show _ = _; have := HLE.out; simp [leastL, mostL]; omega
    have HTL : Hid (tlevB ⟨3, n, m, s, ls, kids⟩ = true) := by show _ = _; unfold tlevB; dsimp only; rw [HLL.out, HA.out]; rfl
    have HNB : Hid (numB ⟨3, n, m, s, ls, kids⟩ = (n == 0)) := by show (decide (0 ≤ n) && decide (n ≤ gN 3)) = _; rw [show gN 3 = 0 from rfl, Bool.eq_iff_iff]; simp; omega
    have HMB : Hid (modeB ⟨3, n, m, s, ls, kids⟩ = (m == 0)) := by show (decide (0 ≤ m) && decide (m ≤ gM 3)) = _; rw [show gM 3 = 0 from rfl, Bool.eq_iff_iff]; simp; omega
    have HTF : Hid (tfieldsB nameB ⟨3, n, m, s, ls, kids⟩ = ((n == 0) && (m == 0) && nameB s)) := by show _ = _; unfold tfieldsB; rw [HTL.out, HNB.out, HMB.out, Bool.and_true]; rfl
    clear HNB HMB HTL HA
    cases dn1 : (n == 0)
    case false =>
      have HX : Hid (tfieldsB nameB ⟨3, n, m, s, ls, kids⟩ = false) := by show _ = _; rw [HTF.out, dn1]; simp
      go_wp2_with (first
        | (go_at_call 30; refine (l3Binds_any _ _).mono ?_; rintro e w' ⟨rfl, hw⟩; have hw := hw.symm; subst hw; rw [show bindsB 3 = false from rfl])
        | (go_at_call 43; refine (specShort_any _ _ hz1).mono ?_; rintro e w' ⟨rfl, hw⟩; have hw := hw.symm; subst hw)
        | (go_at_call 44; refine (specName_any _ _ hz1).mono ?_; rintro e w2 ⟨rfl, hb2⟩)
        | fail)
      refine bodyPost_ret (results_tmp2 Tryz.results24 _ _ _) rfl ?_
      rw [HX.out]
      exact ⟨⟨ra, _, rc, rfl, fun h => by cases h⟩, HB.out⟩
    cases dm1 : (m == 0)
    case false =>
      have HX : Hid (tfieldsB nameB ⟨3, n, m, s, ls, kids⟩ = false) := by show _ = _; rw [HTF.out, dn1, dm1]; simp
      go_wp2_with (first
        | (go_at_call 30; refine (l3Binds_any _ _).mono ?_; rintro e w' ⟨rfl, hw⟩; have hw := hw.symm; subst hw; rw [show bindsB 3 = false from rfl])
        | (go_at_call 43; refine (specShort_any _ _ hz1).mono ?_; rintro e w' ⟨rfl, hw⟩; have hw := hw.symm; subst hw)
        | (go_at_call 44; refine (specName_any _ _ hz1).mono ?_; rintro e w2 ⟨rfl, hb2⟩)
        | fail)
      refine bodyPost_ret (results_tmp2 Tryz.results24 _ _ _) rfl ?_
      rw [HX.out]
      exact ⟨⟨ra, _, rc, rfl, fun h => by cases h⟩, HB.out⟩
    have HX : Hid (tfieldsB nameB ⟨3, n, m, s, ls, kids⟩ = nameB s) := by show _ = _; rw [HTF.out, dn1, dm1]; simp
    go_wp2_with (first
      | (go_at_call 30; refine (l3Binds_any _ _).mono ?_; rintro e w' ⟨rfl, hw⟩; have hw := hw.symm; subst hw; rw [show bindsB 3 = false from rfl])
      | (go_at_call 43; refine (specShort_any _ _ hz1).mono ?_; rintro e w' ⟨rfl, hw⟩; have hw := hw.symm; subst hw)
      | (go_at_call 44; refine (specName_any _ _ hz1).mono ?_; rintro e w2 ⟨rfl, hb2⟩)
      | fail)
    refine bodyPost_ret (results_tmp2 Tryz.results24 _ _ _) rfl ?_
    rw [HX.out]
    exact ⟨⟨ra, _, rc, rfl, fun _ => ⟨HLE.out, HLR.out.keep hb2⟩⟩, HB.out.trans (hb2.mono HB.out.size)⟩
  · -- kind 4
    by_cases hL : L = 0
    case neg =>
      have q1 : 0 < L := by omega
      have hll : 0 < ls.length := by have := HLE.out; omega
      have HX : Hid (tfieldsB nameB ⟨4, n, m, s, ls, kids⟩ = false) := by show _ = _; unfold tfieldsB tlevB; rw [show (decide (leastL 4 ≤ (ls.length : Int)) && decide ((ls.length : Int) ≤ mostL 4)) = false from by simp [leastL, mostL]; intro h; simp [h] at hll]; simp
      clear hL
      go_wp2_with fail
      refine bodyPost_ret (results_tmp2 Tryz.results24 _ _ _) rfl ?_
      rw [HX.out]
      exact ⟨⟨ra, _, rc, rfl, fun h => by cases h⟩, HB.out⟩
    subst hL
    have hll : ls.length = 0 := HLE.out.symm
    have HTL : Hid (tlevB ⟨4, n, m, s, ls, kids⟩ = true) := by show _ = _; have h0 : ls = [] := List.eq_nil_of_length_eq_zero hll; simp [tlevB, leastL, mostL, h0]
    clear hll
    have HNB : Hid (numB ⟨4, n, m, s, ls, kids⟩ = (n == 0)) := by show (decide (0 ≤ n) && decide (n ≤ gN 4)) = _; rw [show gN 4 = 0 from rfl, Bool.eq_iff_iff]; simp; omega
    have HMB : Hid (modeB ⟨4, n, m, s, ls, kids⟩ = (m == 0)) := by show (decide (0 ≤ m) && decide (m ≤ gM 4)) = _; rw [show gM 4 = 0 from rfl, Bool.eq_iff_iff]; simp; omega
    have HTF : Hid (tfieldsB nameB ⟨4, n, m, s, ls, kids⟩ = ((n == 0) && (m == 0) && s.toList.isEmpty)) := by show _ = _; unfold tfieldsB; rw [HTL.out, HNB.out, HMB.out, Bool.and_true]; rfl
    clear HNB HMB HTL HA
    cases dn1 : (n == 0)
    case false =>
      have HX : Hid (tfieldsB nameB ⟨4, n, m, s, ls, kids⟩ = false) := by show _ = _; rw [HTF.out, dn1]; simp
      go_wp2_with (first
        | (go_at_call 30; refine (l3Binds_any _ _).mono ?_; rintro e w' ⟨rfl, hw⟩; have hw := hw.symm; subst hw; rw [show bindsB 4 = false from rfl])
        | (go_at_call 43; refine (specShort_any _ _ hz1).mono ?_; rintro e w' ⟨rfl, hw⟩; have hw := hw.symm; subst hw)
        | (go_at_call 44; refine (specName_any _ _ hz1).mono ?_; rintro e w2 ⟨rfl, hb2⟩)
        | fail)
      go_region
      go_wp2_with fail
      refine bodyPost_ret (results_tmp2 Tryz.results24 _ _ _) rfl ?_
      rw [HX.out]
      exact ⟨⟨ra, _, rc, rfl, fun h => by cases h⟩, by first | exact HB.out.drew | exact below_drewN HB.out _⟩
    cases dm1 : (m == 0)
    case false =>
      have HX : Hid (tfieldsB nameB ⟨4, n, m, s, ls, kids⟩ = false) := by show _ = _; rw [HTF.out, dn1, dm1]; simp
      go_wp2_with (first
        | (go_at_call 30; refine (l3Binds_any _ _).mono ?_; rintro e w' ⟨rfl, hw⟩; have hw := hw.symm; subst hw; rw [show bindsB 4 = false from rfl])
        | (go_at_call 43; refine (specShort_any _ _ hz1).mono ?_; rintro e w' ⟨rfl, hw⟩; have hw := hw.symm; subst hw)
        | (go_at_call 44; refine (specName_any _ _ hz1).mono ?_; rintro e w2 ⟨rfl, hb2⟩)
        | fail)
      go_region
      go_wp2_with fail
      refine bodyPost_ret (results_tmp2 Tryz.results24 _ _ _) rfl ?_
      rw [HX.out]
      exact ⟨⟨ra, _, rc, rfl, fun h => by cases h⟩, by first | exact HB.out.drew | exact below_drewN HB.out _⟩
    have HX : Hid (tfieldsB nameB ⟨4, n, m, s, ls, kids⟩ = s.toList.isEmpty) := by show _ = _; rw [HTF.out, dn1, dm1]; simp
    go_wp2_with (first
      | (go_at_call 30; refine (l3Binds_any _ _).mono ?_; rintro e w' ⟨rfl, hw⟩; have hw := hw.symm; subst hw; rw [show bindsB 4 = false from rfl])
      | (go_at_call 43; refine (specShort_any _ _ hz1).mono ?_; rintro e w' ⟨rfl, hw⟩; have hw := hw.symm; subst hw)
      | (go_at_call 44; refine (specName_any _ _ hz1).mono ?_; rintro e w2 ⟨rfl, hb2⟩)
      | fail)
    go_region
    go_wp2_with fail
    refine bodyPost_ret (results_tmp2 Tryz.results24 _ _ _) rfl ?_
    rw [HX.out]
    exact ⟨⟨ra, _, rc, rfl, fun _ => ⟨HLE.out, HLR.out.keep (by first | exact (Below.refl _ _).drew | exact below_drewN (Below.refl _ _) _)⟩⟩, by first | exact HB.out.drew | exact below_drewN HB.out _⟩
  · -- kind 5
    by_cases hL : L = 0
    case neg =>
      have q1 : 0 < L := by omega
      have hll : 0 < ls.length := by have := HLE.out; omega
      have HX : Hid (tfieldsB nameB ⟨5, n, m, s, ls, kids⟩ = false) := by show _ = _; unfold tfieldsB tlevB; rw [show (decide (leastL 5 ≤ (ls.length : Int)) && decide ((ls.length : Int) ≤ mostL 5)) = false from by simp [leastL, mostL]; intro h; simp [h] at hll]; simp
      clear hL
      go_wp2_with fail
      refine bodyPost_ret (results_tmp2 Tryz.results24 _ _ _) rfl ?_
      rw [HX.out]
      exact ⟨⟨ra, _, rc, rfl, fun h => by cases h⟩, HB.out⟩
    subst hL
    have hll : ls.length = 0 := HLE.out.symm
    have HTL : Hid (tlevB ⟨5, n, m, s, ls, kids⟩ = true) := by show _ = _; have h0 : ls = [] := List.eq_nil_of_length_eq_zero hll; simp [tlevB, leastL, mostL, h0]
    clear hll
    have HNB : Hid (numB ⟨5, n, m, s, ls, kids⟩ = (n == 0)) := by show (decide (0 ≤ n) && decide (n ≤ gN 5)) = _; rw [show gN 5 = 0 from rfl, Bool.eq_iff_iff]; simp; omega
    have HMB : Hid (modeB ⟨5, n, m, s, ls, kids⟩ = (decide (0 ≤ m) && decide (m ≤ 2))) := rfl
    have HTF : Hid (tfieldsB nameB ⟨5, n, m, s, ls, kids⟩ = ((n == 0) && (decide (0 ≤ m) && decide (m ≤ 2)) && shortB s)) := by show _ = _; unfold tfieldsB; rw [HTL.out, HNB.out, HMB.out, Bool.and_true]; rfl
    clear HNB HMB HTL HA
    cases dn1 : (n == 0)
    case false =>
      have HX : Hid (tfieldsB nameB ⟨5, n, m, s, ls, kids⟩ = false) := by show _ = _; rw [HTF.out, dn1]; simp
      go_wp2_with (first
        | (go_at_call 30; refine (l3Binds_any _ _).mono ?_; rintro e w' ⟨rfl, hw⟩; have hw := hw.symm; subst hw; rw [show bindsB 5 = true from rfl])
        | (go_at_call 43; refine (specShort_any _ _ hz1).mono ?_; rintro e w' ⟨rfl, hw⟩; have hw := hw.symm; subst hw)
        | (go_at_call 44; refine (specName_any _ _ hz1).mono ?_; rintro e w2 ⟨rfl, hb2⟩)
        | fail)
      refine bodyPost_ret (results_tmp2 Tryz.results24 _ _ _) rfl ?_
      rw [HX.out]
      exact ⟨⟨ra, _, rc, rfl, fun h => by cases h⟩, HB.out⟩
    cases dm1 : decide (0 ≤ m)
    case false =>
      have HX : Hid (tfieldsB nameB ⟨5, n, m, s, ls, kids⟩ = false) := by show _ = _; rw [HTF.out, dn1, dm1]; simp
      go_wp2_with (first
        | (go_at_call 30; refine (l3Binds_any _ _).mono ?_; rintro e w' ⟨rfl, hw⟩; have hw := hw.symm; subst hw; rw [show bindsB 5 = true from rfl])
        | (go_at_call 43; refine (specShort_any _ _ hz1).mono ?_; rintro e w' ⟨rfl, hw⟩; have hw := hw.symm; subst hw)
        | (go_at_call 44; refine (specName_any _ _ hz1).mono ?_; rintro e w2 ⟨rfl, hb2⟩)
        | fail)
      refine bodyPost_ret (results_tmp2 Tryz.results24 _ _ _) rfl ?_
      rw [HX.out]
      exact ⟨⟨ra, _, rc, rfl, fun h => by cases h⟩, HB.out⟩
    cases dm2 : decide (m ≤ 2)
    case false =>
      have HX : Hid (tfieldsB nameB ⟨5, n, m, s, ls, kids⟩ = false) := by show _ = _; rw [HTF.out, dn1, dm1, dm2]; simp
      go_wp2_with (first
        | (go_at_call 30; refine (l3Binds_any _ _).mono ?_; rintro e w' ⟨rfl, hw⟩; have hw := hw.symm; subst hw; rw [show bindsB 5 = true from rfl])
        | (go_at_call 43; refine (specShort_any _ _ hz1).mono ?_; rintro e w' ⟨rfl, hw⟩; have hw := hw.symm; subst hw)
        | (go_at_call 44; refine (specName_any _ _ hz1).mono ?_; rintro e w2 ⟨rfl, hb2⟩)
        | fail)
      refine bodyPost_ret (results_tmp2 Tryz.results24 _ _ _) rfl ?_
      rw [HX.out]
      exact ⟨⟨ra, _, rc, rfl, fun h => by cases h⟩, HB.out⟩
    have HX : Hid (tfieldsB nameB ⟨5, n, m, s, ls, kids⟩ = shortB s) := by show _ = _; rw [HTF.out, dn1, dm1, dm2]; simp
    go_wp2_with (first
      | (go_at_call 30; refine (l3Binds_any _ _).mono ?_; rintro e w' ⟨rfl, hw⟩; have hw := hw.symm; subst hw; rw [show bindsB 5 = true from rfl])
      | (go_at_call 43; refine (specShort_any _ _ hz1).mono ?_; rintro e w' ⟨rfl, hw⟩; have hw := hw.symm; subst hw)
      | (go_at_call 44; refine (specName_any _ _ hz1).mono ?_; rintro e w2 ⟨rfl, hb2⟩)
      | fail)
    refine bodyPost_ret (results_tmp2 Tryz.results24 _ _ _) rfl ?_
    rw [HX.out]
    exact ⟨⟨ra, _, rc, rfl, fun _ => ⟨HLE.out, HLR.out⟩⟩, HB.out⟩
  · -- kind 6
    by_cases hL : L = 0
    case neg =>
      have q1 : 0 < L := by omega
      have hll : 0 < ls.length := by have := HLE.out; omega
      have HX : Hid (tfieldsB nameB ⟨6, n, m, s, ls, kids⟩ = false) := by show _ = _; unfold tfieldsB tlevB; rw [show (decide (leastL 6 ≤ (ls.length : Int)) && decide ((ls.length : Int) ≤ mostL 6)) = false from by simp [leastL, mostL]; intro h; simp [h] at hll]; simp
      clear hL
      go_wp2_with fail
      refine bodyPost_ret (results_tmp2 Tryz.results24 _ _ _) rfl ?_
      rw [HX.out]
      exact ⟨⟨ra, _, rc, rfl, fun h => by cases h⟩, HB.out⟩
    subst hL
    have hll : ls.length = 0 := HLE.out.symm
    have HTL : Hid (tlevB ⟨6, n, m, s, ls, kids⟩ = true) := by show _ = _; have h0 : ls = [] := List.eq_nil_of_length_eq_zero hll; simp [tlevB, leastL, mostL, h0]
    clear hll
    have HNB : Hid (numB ⟨6, n, m, s, ls, kids⟩ = (n == 0)) := by show (decide (0 ≤ n) && decide (n ≤ gN 6)) = _; rw [show gN 6 = 0 from rfl, Bool.eq_iff_iff]; simp; omega
    have HMB : Hid (modeB ⟨6, n, m, s, ls, kids⟩ = (decide (0 ≤ m) && decide (m ≤ 2))) := rfl
    have HTF : Hid (tfieldsB nameB ⟨6, n, m, s, ls, kids⟩ = ((n == 0) && (decide (0 ≤ m) && decide (m ≤ 2)) && shortB s)) := by show _ = _; unfold tfieldsB; rw [HTL.out, HNB.out, HMB.out, Bool.and_true]; rfl
    clear HNB HMB HTL HA
    cases dn1 : (n == 0)
    case false =>
      have HX : Hid (tfieldsB nameB ⟨6, n, m, s, ls, kids⟩ = false) := by show _ = _; rw [HTF.out, dn1]; simp
      go_wp2_with (first
        | (go_at_call 30; refine (l3Binds_any _ _).mono ?_; rintro e w' ⟨rfl, hw⟩; have hw := hw.symm; subst hw; rw [show bindsB 6 = true from rfl])
        | (go_at_call 43; refine (specShort_any _ _ hz1).mono ?_; rintro e w' ⟨rfl, hw⟩; have hw := hw.symm; subst hw)
        | (go_at_call 44; refine (specName_any _ _ hz1).mono ?_; rintro e w2 ⟨rfl, hb2⟩)
        | fail)
      refine bodyPost_ret (results_tmp2 Tryz.results24 _ _ _) rfl ?_
      rw [HX.out]
      exact ⟨⟨ra, _, rc, rfl, fun h => by cases h⟩, HB.out⟩
    cases dm1 : decide (0 ≤ m)
    case false =>
      have HX : Hid (tfieldsB nameB ⟨6, n, m, s, ls, kids⟩ = false) := by show _ = _; rw [HTF.out, dn1, dm1]; simp
      go_wp2_with (first
        | (go_at_call 30; refine (l3Binds_any _ _).mono ?_; rintro e w' ⟨rfl, hw⟩; have hw := hw.symm; subst hw; rw [show bindsB 6 = true from rfl])
        | (go_at_call 43; refine (specShort_any _ _ hz1).mono ?_; rintro e w' ⟨rfl, hw⟩; have hw := hw.symm; subst hw)
        | (go_at_call 44; refine (specName_any _ _ hz1).mono ?_; rintro e w2 ⟨rfl, hb2⟩)
        | fail)
      refine bodyPost_ret (results_tmp2 Tryz.results24 _ _ _) rfl ?_
      rw [HX.out]
      exact ⟨⟨ra, _, rc, rfl, fun h => by cases h⟩, HB.out⟩
    cases dm2 : decide (m ≤ 2)
    case false =>
      have HX : Hid (tfieldsB nameB ⟨6, n, m, s, ls, kids⟩ = false) := by show _ = _; rw [HTF.out, dn1, dm1, dm2]; simp
      go_wp2_with (first
        | (go_at_call 30; refine (l3Binds_any _ _).mono ?_; rintro e w' ⟨rfl, hw⟩; have hw := hw.symm; subst hw; rw [show bindsB 6 = true from rfl])
        | (go_at_call 43; refine (specShort_any _ _ hz1).mono ?_; rintro e w' ⟨rfl, hw⟩; have hw := hw.symm; subst hw)
        | (go_at_call 44; refine (specName_any _ _ hz1).mono ?_; rintro e w2 ⟨rfl, hb2⟩)
        | fail)
      refine bodyPost_ret (results_tmp2 Tryz.results24 _ _ _) rfl ?_
      rw [HX.out]
      exact ⟨⟨ra, _, rc, rfl, fun h => by cases h⟩, HB.out⟩
    have HX : Hid (tfieldsB nameB ⟨6, n, m, s, ls, kids⟩ = shortB s) := by show _ = _; rw [HTF.out, dn1, dm1, dm2]; simp
    go_wp2_with (first
      | (go_at_call 30; refine (l3Binds_any _ _).mono ?_; rintro e w' ⟨rfl, hw⟩; have hw := hw.symm; subst hw; rw [show bindsB 6 = true from rfl])
      | (go_at_call 43; refine (specShort_any _ _ hz1).mono ?_; rintro e w' ⟨rfl, hw⟩; have hw := hw.symm; subst hw)
      | (go_at_call 44; refine (specName_any _ _ hz1).mono ?_; rintro e w2 ⟨rfl, hb2⟩)
      | fail)
    refine bodyPost_ret (results_tmp2 Tryz.results24 _ _ _) rfl ?_
    rw [HX.out]
    exact ⟨⟨ra, _, rc, rfl, fun _ => ⟨HLE.out, HLR.out⟩⟩, HB.out⟩
  · -- kind 7
    by_cases hL : L = 0
    case neg =>
      have q1 : 0 < L := by omega
      have hll : 0 < ls.length := by have := HLE.out; omega
      have HX : Hid (tfieldsB nameB ⟨7, n, m, s, ls, kids⟩ = false) := by show _ = _; unfold tfieldsB tlevB; rw [show (decide (leastL 7 ≤ (ls.length : Int)) && decide ((ls.length : Int) ≤ mostL 7)) = false from by simp [leastL, mostL]; intro h; simp [h] at hll]; simp
      clear hL
      go_wp2_with fail
      refine bodyPost_ret (results_tmp2 Tryz.results24 _ _ _) rfl ?_
      rw [HX.out]
      exact ⟨⟨ra, _, rc, rfl, fun h => by cases h⟩, HB.out⟩
    subst hL
    have hll : ls.length = 0 := HLE.out.symm
    have HTL : Hid (tlevB ⟨7, n, m, s, ls, kids⟩ = true) := by show _ = _; have h0 : ls = [] := List.eq_nil_of_length_eq_zero hll; simp [tlevB, leastL, mostL, h0]
    clear hll
    have HNB : Hid (numB ⟨7, n, m, s, ls, kids⟩ = (n == 0)) := by show (decide (0 ≤ n) && decide (n ≤ gN 7)) = _; rw [show gN 7 = 0 from rfl, Bool.eq_iff_iff]; simp; omega
    have HMB : Hid (modeB ⟨7, n, m, s, ls, kids⟩ = (m == 0)) := by show (decide (0 ≤ m) && decide (m ≤ gM 7)) = _; rw [show gM 7 = 0 from rfl, Bool.eq_iff_iff]; simp; omega
    have HTF : Hid (tfieldsB nameB ⟨7, n, m, s, ls, kids⟩ = ((n == 0) && (m == 0) && shortB s)) := by show _ = _; unfold tfieldsB; rw [HTL.out, HNB.out, HMB.out, Bool.and_true]; rfl
    clear HNB HMB HTL HA
    cases dn1 : (n == 0)
    case false =>
      have HX : Hid (tfieldsB nameB ⟨7, n, m, s, ls, kids⟩ = false) := by show _ = _; rw [HTF.out, dn1]; simp
      go_wp2_with (first
        | (go_at_call 30; refine (l3Binds_any _ _).mono ?_; rintro e w' ⟨rfl, hw⟩; have hw := hw.symm; subst hw; rw [show bindsB 7 = true from rfl])
        | (go_at_call 43; refine (specShort_any _ _ hz1).mono ?_; rintro e w' ⟨rfl, hw⟩; have hw := hw.symm; subst hw)
        | (go_at_call 44; refine (specName_any _ _ hz1).mono ?_; rintro e w2 ⟨rfl, hb2⟩)
        | fail)
      refine bodyPost_ret (results_tmp2 Tryz.results24 _ _ _) rfl ?_
      rw [HX.out]
      exact ⟨⟨ra, _, rc, rfl, fun h => by cases h⟩, HB.out⟩
    cases dm1 : (m == 0)
    case false =>
      have HX : Hid (tfieldsB nameB ⟨7, n, m, s, ls, kids⟩ = false) := by show _ = _; rw [HTF.out, dn1, dm1]; simp
      go_wp2_with (first
        | (go_at_call 30; refine (l3Binds_any _ _).mono ?_; rintro e w' ⟨rfl, hw⟩; have hw := hw.symm; subst hw; rw [show bindsB 7 = true from rfl])
        | (go_at_call 43; refine (specShort_any _ _ hz1).mono ?_; rintro e w' ⟨rfl, hw⟩; have hw := hw.symm; subst hw)
        | (go_at_call 44; refine (specName_any _ _ hz1).mono ?_; rintro e w2 ⟨rfl, hb2⟩)
        | fail)
      refine bodyPost_ret (results_tmp2 Tryz.results24 _ _ _) rfl ?_
      rw [HX.out]
      exact ⟨⟨ra, _, rc, rfl, fun h => by cases h⟩, HB.out⟩
    have HX : Hid (tfieldsB nameB ⟨7, n, m, s, ls, kids⟩ = shortB s) := by show _ = _; rw [HTF.out, dn1, dm1]; simp
    go_wp2_with (first
      | (go_at_call 30; refine (l3Binds_any _ _).mono ?_; rintro e w' ⟨rfl, hw⟩; have hw := hw.symm; subst hw; rw [show bindsB 7 = true from rfl])
      | (go_at_call 43; refine (specShort_any _ _ hz1).mono ?_; rintro e w' ⟨rfl, hw⟩; have hw := hw.symm; subst hw)
      | (go_at_call 44; refine (specName_any _ _ hz1).mono ?_; rintro e w2 ⟨rfl, hb2⟩)
      | fail)
    refine bodyPost_ret (results_tmp2 Tryz.results24 _ _ _) rfl ?_
    rw [HX.out]
    exact ⟨⟨ra, _, rc, rfl, fun _ => ⟨HLE.out, HLR.out⟩⟩, HB.out⟩
  · -- kind 8
    by_cases hL : L = 0
    case neg =>
      have q1 : 0 < L := by omega
      have hll : 0 < ls.length := by have := HLE.out; omega
      have HX : Hid (tfieldsB nameB ⟨8, n, m, s, ls, kids⟩ = false) := by show _ = _; unfold tfieldsB tlevB; rw [show (decide (leastL 8 ≤ (ls.length : Int)) && decide ((ls.length : Int) ≤ mostL 8)) = false from by simp [leastL, mostL]; intro h; simp [h] at hll]; simp
      clear hL
      go_wp2_with fail
      refine bodyPost_ret (results_tmp2 Tryz.results24 _ _ _) rfl ?_
      rw [HX.out]
      exact ⟨⟨ra, _, rc, rfl, fun h => by cases h⟩, HB.out⟩
    subst hL
    have hll : ls.length = 0 := HLE.out.symm
    have HTL : Hid (tlevB ⟨8, n, m, s, ls, kids⟩ = true) := by show _ = _; have h0 : ls = [] := List.eq_nil_of_length_eq_zero hll; simp [tlevB, leastL, mostL, h0]
    clear hll
    have HNB : Hid (numB ⟨8, n, m, s, ls, kids⟩ = (decide (0 ≤ n) && decide (n ≤ 20000))) := rfl
    have HMB : Hid (modeB ⟨8, n, m, s, ls, kids⟩ = (m == 0)) := by show (decide (0 ≤ m) && decide (m ≤ gM 8)) = _; rw [show gM 8 = 0 from rfl, Bool.eq_iff_iff]; simp; omega
    have HTF : Hid (tfieldsB nameB ⟨8, n, m, s, ls, kids⟩ = ((decide (0 ≤ n) && decide (n ≤ 20000)) && (m == 0) && nameB s)) := by show _ = _; unfold tfieldsB; rw [HTL.out, HNB.out, HMB.out, Bool.and_true]; rfl
    clear HNB HMB HTL HA
    cases dn1 : decide (0 ≤ n)
    case false =>
      have HX : Hid (tfieldsB nameB ⟨8, n, m, s, ls, kids⟩ = false) := by show _ = _; rw [HTF.out, dn1]; simp
      go_wp2_with (first
        | (go_at_call 30; refine (l3Binds_any _ _).mono ?_; rintro e w' ⟨rfl, hw⟩; have hw := hw.symm; subst hw; rw [show bindsB 8 = false from rfl])
        | (go_at_call 43; refine (specShort_any _ _ hz1).mono ?_; rintro e w' ⟨rfl, hw⟩; have hw := hw.symm; subst hw)
        | (go_at_call 44; refine (specName_any _ _ hz1).mono ?_; rintro e w2 ⟨rfl, hb2⟩)
        | fail)
      refine bodyPost_ret (results_tmp2 Tryz.results24 _ _ _) rfl ?_
      rw [HX.out]
      exact ⟨⟨ra, _, rc, rfl, fun h => by cases h⟩, HB.out⟩
    cases dn2 : decide (n ≤ 20000)
    case false =>
      have HX : Hid (tfieldsB nameB ⟨8, n, m, s, ls, kids⟩ = false) := by show _ = _; rw [HTF.out, dn1, dn2]; simp
      go_wp2_with (first
        | (go_at_call 30; refine (l3Binds_any _ _).mono ?_; rintro e w' ⟨rfl, hw⟩; have hw := hw.symm; subst hw; rw [show bindsB 8 = false from rfl])
        | (go_at_call 43; refine (specShort_any _ _ hz1).mono ?_; rintro e w' ⟨rfl, hw⟩; have hw := hw.symm; subst hw)
        | (go_at_call 44; refine (specName_any _ _ hz1).mono ?_; rintro e w2 ⟨rfl, hb2⟩)
        | fail)
      refine bodyPost_ret (results_tmp2 Tryz.results24 _ _ _) rfl ?_
      rw [HX.out]
      exact ⟨⟨ra, _, rc, rfl, fun h => by cases h⟩, HB.out⟩
    cases dm1 : (m == 0)
    case false =>
      have HX : Hid (tfieldsB nameB ⟨8, n, m, s, ls, kids⟩ = false) := by show _ = _; rw [HTF.out, dn1, dn2, dm1]; simp
      go_wp2_with (first
        | (go_at_call 30; refine (l3Binds_any _ _).mono ?_; rintro e w' ⟨rfl, hw⟩; have hw := hw.symm; subst hw; rw [show bindsB 8 = false from rfl])
        | (go_at_call 43; refine (specShort_any _ _ hz1).mono ?_; rintro e w' ⟨rfl, hw⟩; have hw := hw.symm; subst hw)
        | (go_at_call 44; refine (specName_any _ _ hz1).mono ?_; rintro e w2 ⟨rfl, hb2⟩)
        | fail)
      refine bodyPost_ret (results_tmp2 Tryz.results24 _ _ _) rfl ?_
      rw [HX.out]
      exact ⟨⟨ra, _, rc, rfl, fun h => by cases h⟩, HB.out⟩
    have HX : Hid (tfieldsB nameB ⟨8, n, m, s, ls, kids⟩ = nameB s) := by show _ = _; rw [HTF.out, dn1, dn2, dm1]; simp
    go_wp2_with (first
      | (go_at_call 30; refine (l3Binds_any _ _).mono ?_; rintro e w' ⟨rfl, hw⟩; have hw := hw.symm; subst hw; rw [show bindsB 8 = false from rfl])
      | (go_at_call 43; refine (specShort_any _ _ hz1).mono ?_; rintro e w' ⟨rfl, hw⟩; have hw := hw.symm; subst hw)
      | (go_at_call 44; refine (specName_any _ _ hz1).mono ?_; rintro e w2 ⟨rfl, hb2⟩)
      | fail)
    refine bodyPost_ret (results_tmp2 Tryz.results24 _ _ _) rfl ?_
    rw [HX.out]
    exact ⟨⟨ra, _, rc, rfl, fun _ => ⟨HLE.out, HLR.out.keep hb2⟩⟩, HB.out.trans (hb2.mono HB.out.size)⟩
  · -- kind 9
    by_cases hL : L = 0
    case neg =>
      have q1 : 0 < L := by omega
      have hll : 0 < ls.length := by have := HLE.out; omega
      have HX : Hid (tfieldsB nameB ⟨9, n, m, s, ls, kids⟩ = false) := by show _ = _; unfold tfieldsB tlevB; rw [show (decide (leastL 9 ≤ (ls.length : Int)) && decide ((ls.length : Int) ≤ mostL 9)) = false from by simp [leastL, mostL]; intro h; simp [h] at hll]; simp
      clear hL
      go_wp2_with fail
      refine bodyPost_ret (results_tmp2 Tryz.results24 _ _ _) rfl ?_
      rw [HX.out]
      exact ⟨⟨ra, _, rc, rfl, fun h => by cases h⟩, HB.out⟩
    subst hL
    have hll : ls.length = 0 := HLE.out.symm
    have HTL : Hid (tlevB ⟨9, n, m, s, ls, kids⟩ = true) := by show _ = _; have h0 : ls = [] := List.eq_nil_of_length_eq_zero hll; simp [tlevB, leastL, mostL, h0]
    clear hll
    have HNB : Hid (numB ⟨9, n, m, s, ls, kids⟩ = (decide (0 ≤ n) && decide (n ≤ 1000000))) := rfl
    have HMB : Hid (modeB ⟨9, n, m, s, ls, kids⟩ = (m == 0)) := by show (decide (0 ≤ m) && decide (m ≤ gM 9)) = _; rw [show gM 9 = 0 from rfl, Bool.eq_iff_iff]; simp; omega
    have HTF : Hid (tfieldsB nameB ⟨9, n, m, s, ls, kids⟩ = ((decide (0 ≤ n) && decide (n ≤ 1000000)) && (m == 0) && s.toList.isEmpty)) := by show _ = _; unfold tfieldsB; rw [HTL.out, HNB.out, HMB.out, Bool.and_true]; rfl
    clear HNB HMB HTL HA
    cases dn1 : decide (0 ≤ n)
    case false =>
      have HX : Hid (tfieldsB nameB ⟨9, n, m, s, ls, kids⟩ = false) := by show _ = _; rw [HTF.out, dn1]; simp
      go_wp2_with (first
        | (go_at_call 30; refine (l3Binds_any _ _).mono ?_; rintro e w' ⟨rfl, hw⟩; have hw := hw.symm; subst hw; rw [show bindsB 9 = false from rfl])
        | (go_at_call 43; refine (specShort_any _ _ hz1).mono ?_; rintro e w' ⟨rfl, hw⟩; have hw := hw.symm; subst hw)
        | (go_at_call 44; refine (specName_any _ _ hz1).mono ?_; rintro e w2 ⟨rfl, hb2⟩)
        | fail)
      go_region
      go_wp2_with fail
      refine bodyPost_ret (results_tmp2 Tryz.results24 _ _ _) rfl ?_
      rw [HX.out]
      exact ⟨⟨ra, _, rc, rfl, fun h => by cases h⟩, by first | exact HB.out.drew | exact below_drewN HB.out _⟩
    cases dn2 : decide (n ≤ 1000000)
    case false =>
      have HX : Hid (tfieldsB nameB ⟨9, n, m, s, ls, kids⟩ = false) := by show _ = _; rw [HTF.out, dn1, dn2]; simp
      go_wp2_with (first
        | (go_at_call 30; refine (l3Binds_any _ _).mono ?_; rintro e w' ⟨rfl, hw⟩; have hw := hw.symm; subst hw; rw [show bindsB 9 = false from rfl])
        | (go_at_call 43; refine (specShort_any _ _ hz1).mono ?_; rintro e w' ⟨rfl, hw⟩; have hw := hw.symm; subst hw)
        | (go_at_call 44; refine (specName_any _ _ hz1).mono ?_; rintro e w2 ⟨rfl, hb2⟩)
        | fail)
      go_region
      go_wp2_with fail
      refine bodyPost_ret (results_tmp2 Tryz.results24 _ _ _) rfl ?_
      rw [HX.out]
      exact ⟨⟨ra, _, rc, rfl, fun h => by cases h⟩, by first | exact HB.out.drew | exact below_drewN HB.out _⟩
    cases dm1 : (m == 0)
    case false =>
      have HX : Hid (tfieldsB nameB ⟨9, n, m, s, ls, kids⟩ = false) := by show _ = _; rw [HTF.out, dn1, dn2, dm1]; simp
      go_wp2_with (first
        | (go_at_call 30; refine (l3Binds_any _ _).mono ?_; rintro e w' ⟨rfl, hw⟩; have hw := hw.symm; subst hw; rw [show bindsB 9 = false from rfl])
        | (go_at_call 43; refine (specShort_any _ _ hz1).mono ?_; rintro e w' ⟨rfl, hw⟩; have hw := hw.symm; subst hw)
        | (go_at_call 44; refine (specName_any _ _ hz1).mono ?_; rintro e w2 ⟨rfl, hb2⟩)
        | fail)
      go_region
      go_wp2_with fail
      refine bodyPost_ret (results_tmp2 Tryz.results24 _ _ _) rfl ?_
      rw [HX.out]
      exact ⟨⟨ra, _, rc, rfl, fun h => by cases h⟩, by first | exact HB.out.drew | exact below_drewN HB.out _⟩
    have HX : Hid (tfieldsB nameB ⟨9, n, m, s, ls, kids⟩ = s.toList.isEmpty) := by show _ = _; rw [HTF.out, dn1, dn2, dm1]; simp
    go_wp2_with (first
      | (go_at_call 30; refine (l3Binds_any _ _).mono ?_; rintro e w' ⟨rfl, hw⟩; have hw := hw.symm; subst hw; rw [show bindsB 9 = false from rfl])
      | (go_at_call 43; refine (specShort_any _ _ hz1).mono ?_; rintro e w' ⟨rfl, hw⟩; have hw := hw.symm; subst hw)
      | (go_at_call 44; refine (specName_any _ _ hz1).mono ?_; rintro e w2 ⟨rfl, hb2⟩)
      | fail)
    go_region
    go_wp2_with fail
    refine bodyPost_ret (results_tmp2 Tryz.results24 _ _ _) rfl ?_
    rw [HX.out]
    exact ⟨⟨ra, _, rc, rfl, fun _ => ⟨HLE.out, HLR.out.keep (by first | exact (Below.refl _ _).drew | exact below_drewN (Below.refl _ _) _)⟩⟩, by first | exact HB.out.drew | exact below_drewN HB.out _⟩
end Go.Proofs.YtcagcfhnbphggaaGreatDoor
