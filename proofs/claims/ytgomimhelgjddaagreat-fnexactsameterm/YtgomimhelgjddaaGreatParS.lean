/- What the program's paramSums answers: the sums of a parameter within a case. -/
import Derived.Test.YtgomimhelgjddaaGreatSums
namespace Go.Proofs.YtgomimhelgjddaaGreat
open Go.ChangeShapes Go.WideShapes Go.ChangeAt Go.RowKit

/-- A case as a value: the names, and what is supposed of each. -/
def caseV (vn : Value) (val : Nat → Int) : Value := .agg #[vn, .int .i64 (val 0), .int .i64 (val 1), .int .i64 (val 2), .int .i64 (val 3), .int .i64 (val 4), .int .i64 (val 5)]
def caseO (vn : Value) (val : Nat → Int) : Obj := .cells #[vn, .int .i64 (val 0), .int .i64 (val 1), .int .i64 (val 2), .int .i64 (val 3), .int .i64 (val 4), .int .i64 (val 5)] 143
theorem case_cells (w : World) (vn : Value) (val : Nat → Int) : (w.alloc (caseO vn val)).cell? ⟨w.heap.size, 0, none⟩ = some vn ∧ ∀ i, i < 6 → (w.alloc (caseO vn val)).cell? ⟨w.heap.size, 1 + i, none⟩ = some (.int .i64 (val i)) := by
  unfold caseO
  refine ⟨by rw [World.cell?_alloc_new]; rfl, fun i hi => ?_⟩
  rw [World.cell?_alloc_new]
  have : i = 0 ∨ i = 1 ∨ i = 2 ∨ i = 3 ∨ i = 4 ∨ i = 5 := by omega
  rcases this with rfl | rfl | rfl | rfl | rfl | rfl <;> rfl
theorem parS_no {names : List ByteArray} {val : Nat → Int} {s : ByteArray} (h : atS names s < 0) : parS names val s = noS := by unfold parS; rw [if_pos (.inl h)]
theorem parS_zero {names : List ByteArray} {val : Nat → Int} {s : ByteArray} (i : Nat) (h : atS names s = i) (hv : val i = 1) : parS names val s = noS := by unfold parS; rw [if_pos (.inr (by rw [h]; exact hv))]
theorem parS_at {names : List ByteArray} {val : Nat → Int} {s : ByteArray} (i : Nat) (h : atS names s = i) (hv : val i ≠ 1) (j : Nat) : (parS names val s).at j = upd (upd noS.at 0 (if val i = 2 then 1 else 0)) (1 + i) 0 j := by
  have e : (atS names s).toNat = i := by omega
  unfold parS
  rw [if_neg (by rw [e]; rintro (c | c) <;> omega), e]
  unfold Sums.at upd noS
  dsimp only
  by_cases e0 : j = 0
  · subst e0
    rw [if_pos rfl, if_neg (show ¬ 0 = 1 + i from by omega), if_pos rfl]
  · by_cases e1 : j = 1 + i
    · rw [if_neg e0, if_pos e1, if_pos (show j - 1 = i from by omega)]
    · rw [if_neg e0, if_neg e1, if_neg (show ¬ j - 1 = i from by omega), if_neg e0, if_neg e0]

set_option maxRecDepth 10000 in
set_option maxHeartbeats 4000000 in
theorem paramSums_any (vn : Value) (names : List ByteArray) (val : Nat → Int) (s : ByteArray) (w : World) (hn : StrsAt w vn names) (h6 : names.length ≤ 6) :
    Calls Tryz.prog 142 #[caseV vn val, .string s] w fun e w' => e = .returned (parS names val s).val ∧ Below w.heap.size w w' := by
  have HN := hide hn
  obtain ⟨an, cn, rfl, _, _, _⟩ := hn
  have HC := hide (case_cells w (.slice an names.length cn) val)
  have HR : Hid (Row7 ((w.alloc (caseO (.slice an names.length cn) val)).alloc (.cells #[.int .i64 0, .int .i64 0, .int .i64 0, .int .i64 0, .int .i64 0, .int .i64 0, .int .i64 0] 146)) (w.heap.size + 1) (fun _ => 0)) := by
    have := row7_new (w.alloc (caseO (.slice an names.length cn) val)) ⟨0, fun _ => 0⟩ 146
    rw [World.size_alloc] at this
    exact this.congr (fun j _ => by unfold Sums.at; split <;> rfl)
  have HB0 : Hid (∀ o1 o2, Below w.heap.size w ((w.alloc o1).alloc o2)) := fun o1 o2 => bel_alloc (bel_alloc (Below.refl _ _) o1) o2
  have hmem := atS_mem names s
  unfold caseV
  go_enter Tryz.func142, Tryz.ntmps142
  go_wp2_with fail
  refine (noSums_any _).mono ?_
  rintro e w1 ⟨rfl, hb1⟩
  have hbel1 := bel_trans (HB0.out _ _) hb1
  have hb0 : Below (w.alloc (caseO (.slice an names.length cn) val)).heap.size (w.alloc (caseO (.slice an names.length cn) val)) w1 := bel_trans (bel_alloc (Below.refl _ _) _) hb1
  have k0 := keep_cell hb0 HC.out.1
  have HK : Hid (∀ i, i < 6 → w1.cell? ⟨w.heap.size, 1 + i, none⟩ = some (.int .i64 (val i))) := fun i hi => keep_cell hb0 (HC.out.2 i hi)
  have HR1 := hide (HR.out.keep hb1)
  have HN1 := hide (HN.out.keep hbel1)
  have hsz1 : w.heap.size + 1 < w1.heap.size := lt_cell (HR1.out.cell 0 (by omega))
  have hsz0 : w.heap.size < w1.heap.size := by omega
  have HNEW := hide (row7_new w1 noS 146)
  have HRA : Hid (∀ o, Row7 (w1.alloc o) (w.heap.size + 1) (fun _ => 0)) := fun o => HR1.out.alloc o
  have hbelA : ∀ o, Below w.heap.size w (w1.alloc o) := fun o => bel_alloc hbel1 o
  have HBA := hide hbelA
  clear hb1 hb0 HC HR HN HB0 hbel1 hbelA
  simp only [Sums.val, noS]
  have HIX : Hid (∀ o, Calls Tryz.prog 94 #[.slice an names.length cn, .string s] (w1.alloc o) fun e w' => e = .returned (.int .i64 (atS names s)) ∧ w' = w1.alloc o) := fun o => index_any _ names s _ (HN1.out.keep (bel_alloc (Below.refl _ _) o))
  clear HN1
  have HIXO : Hid (Calls Tryz.prog 94 #[.slice an names.length cn, .string s] (w1.alloc (.cells #[.int .i64 0, .int .i64 (-1), .int .i64 (-1), .int .i64 (-1), .int .i64 (-1), .int .i64 (-1), .int .i64 (-1)] 146)) fun e w' => e = .returned (.int .i64 (atS names s)) ∧ w' = w1.alloc (.cells #[.int .i64 0, .int .i64 (-1), .int .i64 (-1), .int .i64 (-1), .int .i64 (-1), .int .i64 (-1), .int .i64 (-1)] 146)) := HIX.out _
  obtain ⟨W2, hW2⟩ : ∃ W2, W2 = w1.alloc (.cells #[.int .i64 0, .int .i64 (-1), .int .i64 (-1), .int .i64 (-1), .int .i64 (-1), .int .i64 (-1), .int .i64 (-1)] 146) := ⟨_, rfl⟩
  have HSA : Hid (Row7 W2 w1.heap.size noS.at) := by rw [hW2]; exact HNEW.out
  have HRB : Hid (Row7 W2 (w.heap.size + 1) (fun _ => 0)) := by rw [hW2]; exact HRA.out _
  have HBB : Hid (Below w.heap.size w W2) := by rw [hW2]; exact HBA.out _
  have HKB : Hid (∀ i, i < 6 → W2.cell? ⟨w.heap.size, 1 + i, none⟩ = some (.int .i64 (val i))) := fun i hi => by rw [hW2]; exact keep_cell (bel_alloc (Below.refl _ _) _) (HK.out i hi)
  rw [← hW2] at HIXO
  have HW2 := hide hW2
  clear hW2 HIX HNEW HRA HBA HK HR1
  have hne : w.heap.size + 1 ≠ w1.heap.size := by omega
  have hle1 : w.heap.size ≤ w1.heap.size := by omega
  obtain ⟨s0, s1, s2, s3, s4, s5, s6⟩ := list7 _ HSA.out.cell
  simp [noS, Sums.at] at s0 s1 s2 s3 s4 s5 s6
  obtain ⟨r0, r1, r2, r3, r4, r5, r6⟩ := list7 _ HRB.out.cell
  have z := HRB.out.free
  have zs := HSA.out.free
  have HVAL : Hid ((parS names val s).val = .agg #[.int .i64 ((parS names val s).at 0), .int .i64 ((parS names val s).at 1), .int .i64 ((parS names val s).at 2), .int .i64 ((parS names val s).at 3), .int .i64 ((parS names val s).at 4), .int .i64 ((parS names val s).at 5), .int .i64 ((parS names val s).at 6)]) := rfl
  by_cases hneg : atS names s < 0
  · have HP := hide (parS_no (val := val) hneg)
    have HF := hide (row7_put HRB.out 0 (-1) (-1) (-1) (-1) (-1) (-1))
    have HB := hide (bel_put HBB.out (w.heap.size + 1) (by omega) (.int .i64 0) (.int .i64 (-1)) (.int .i64 (-1)) (.int .i64 (-1)) (.int .i64 (-1)) (.int .i64 (-1)) (.int .i64 (-1)))
    generalize atS names s = x at *
    clear HSA HRB HKB HBB
    go_wp2_with (go_at_call 94; rw [← HW2.out]; refine HIXO.out.mono ?_; rintro e w' ⟨rfl, hw⟩; have hw := hw.symm; subst hw)
    refine bodyPost_ret (res_of Tryz.results142 _ _ _ _ rfl HF.out) rfl ⟨?_, HB.out⟩
    rw [HP.out]
    simp [upd, Sums.val, noS]
  · have h0 : 0 ≤ atS names s := by omega
    rw [decide_eq_true h0] at hmem
    have hlt := (atS_lt names s hmem.symm).2
    obtain ⟨i, hi⟩ : ∃ i : Nat, atS names s = i := ⟨(atS names s).toNat, by omega⟩
    have hi6 : i < 6 := by omega
    have hk := HKB.out i hi6
    have HP1 : Hid (val i = 1 → parS names val s = noS) := fun h => parS_zero i hi h
    have HP2 : Hid (val i ≠ 1 → ∀ j, (parS names val s).at j = upd (upd noS.at 0 (if val i = 2 then 1 else 0)) (1 + i) 0 j) := fun h j => parS_at i hi h j
    rw [hi] at HIXO
    clear hneg h0 hlt hi hmem HKB
    by_cases v1 : val i = 1
    · have HP := hide (HP1.out v1)
      have HF := hide (row7_put HRB.out 0 (-1) (-1) (-1) (-1) (-1) (-1))
      have HB := hide (bel_put HBB.out (w.heap.size + 1) (by omega) (.int .i64 0) (.int .i64 (-1)) (.int .i64 (-1)) (.int .i64 (-1)) (.int .i64 (-1)) (.int .i64 (-1)) (.int .i64 (-1)))
      have q : (val i == 1) = true := beq_iff_eq.2 v1
      have hi' : (i : Int) < 6 := by omega
      generalize val i = x at *
      clear HSA HRB HBB HP1 HP2 v1
      go_wp2_with (go_at_call 94; rw [← HW2.out]; refine HIXO.out.mono ?_; rintro e w' ⟨rfl, hw⟩; have hw := hw.symm; subst hw)
      refine bodyPost_ret (res_of Tryz.results142 _ _ _ _ rfl HF.out) rfl ⟨?_, HB.out⟩
      rw [HP.out]
      simp [upd, Sums.val, noS]
    · have HAT := hide (HP2.out v1)
      have q : (val i == 1) = false := beq_eq_false_iff_ne.2 v1
      have HFR : Hid (∀ u1 u2, Row7 ((W2.setCell ⟨w1.heap.size, 0, none⟩ u1).setCell ⟨w1.heap.size, 1 + i, none⟩ u2) (w.heap.size + 1) (fun _ => 0)) := fun u1 u2 => (HRB.out.far hne u1).far hne u2
      have HFR1 : Hid (∀ u2, Row7 (W2.setCell ⟨w1.heap.size, 1 + i, none⟩ u2) (w.heap.size + 1) (fun _ => 0)) := fun u2 => HRB.out.far hne u2
      have HBF : Hid (∀ u1 u2, Below w.heap.size w ((W2.setCell ⟨w1.heap.size, 0, none⟩ u1).setCell ⟨w1.heap.size, 1 + i, none⟩ u2)) := fun u1 u2 => (HBB.out.setCell (p := ⟨_, _, _⟩) hle1 _).setCell (p := ⟨_, _, _⟩) hle1 _
      have HBF1 : Hid (∀ u2, Below w.heap.size w (W2.setCell ⟨w1.heap.size, 1 + i, none⟩ u2)) := fun u2 => HBB.out.setCell (p := ⟨_, _, _⟩) hle1 _
      clear HSA HRB HBB HP1 HP2 v1
      by_cases v2 : val i = 2
      · have q2 : (val i == 2) = true := beq_iff_eq.2 v2
        rw [if_pos v2] at HAT
        clear v2
        generalize val i = x at *
        have : i = 0 ∨ i = 1 ∨ i = 2 ∨ i = 3 ∨ i = 4 ∨ i = 5 := by omega
        clear hi6
        rcases this with rfl | rfl | rfl | rfl | rfl | rfl
        all_goals
          simp only [Nat.reduceAdd] at hk HAT HFR HFR1 HBF HBF1
          go_wp2_with (go_at_call 94; rw [← HW2.out]; refine HIXO.out.mono ?_; rintro e w' ⟨rfl, hw⟩; have hw := hw.symm; subst hw)
          refine bodyPost_ret (res_of Tryz.results142 _ _ _ _ rfl (row7_put (HFR.out _ _) _ _ _ _ _ _ _)) rfl ⟨?_, bel_put (HBF.out _ _) (w.heap.size + 1) (by omega) _ _ _ _ _ _ _⟩
          rw [HVAL.out]
          simp only [HAT.out]
          simp [upd, noS, Sums.at]
      · have q2 : (val i == 2) = false := beq_eq_false_iff_ne.2 v2
        rw [if_neg v2] at HAT
        clear v2
        generalize val i = x at *
        have : i = 0 ∨ i = 1 ∨ i = 2 ∨ i = 3 ∨ i = 4 ∨ i = 5 := by omega
        clear hi6
        rcases this with rfl | rfl | rfl | rfl | rfl | rfl
        all_goals
          simp only [Nat.reduceAdd] at hk HAT HFR HFR1 HBF HBF1
          go_wp2_with (go_at_call 94; rw [← HW2.out]; refine HIXO.out.mono ?_; rintro e w' ⟨rfl, hw⟩; have hw := hw.symm; subst hw)
          refine bodyPost_ret (res_of Tryz.results142 _ _ _ _ rfl (row7_put (HFR1.out _) _ _ _ _ _ _ _)) rfl ⟨?_, bel_put (HBF1.out _) (w.heap.size + 1) (by omega) _ _ _ _ _ _ _⟩
          rw [HVAL.out]
          simp only [HAT.out]
          simp [upd, noS, Sums.at]
end Go.Proofs.YtgomimhelgjddaaGreat
