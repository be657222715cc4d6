/- Small functions over a node of the store: isBinder, parts, asBinder, bodyPlace, binds. -/
import Derived.Test.YtlhhdhmhncjilaaGreatStA
import Derived.Test.YtlhhdhmhncjilaaGreatTImpl
import Derived.Test.YtlhhdhmhncjilaaGreatTSpA
namespace Go.Proofs.YtlhhdhmhncjilaaGreat
open Go.ChangeShapes Go.WideShapes Go.ChangeAt Go.RowKit

theorem isBinder_any (k : Int) (w : World) : Calls Tryz.prog 73 #[.int .i64 k] w fun e w' => e = .returned (.bool (bindsB k)) ∧ w' = w := by
  have HB : Hid (bindsB k = (k == 5 || k == 6 || k == 7)) := by
    show _ = _
    unfold bindsB
    by_cases h5 : k = 5
    · subst h5; rfl
    · by_cases h6 : k = 6
      · subst h6; rfl
      · by_cases h7 : k = 7
        · subst h7; rfl
        · simp [h5, h6, h7]
  by_cases h5 : k = 5
  · have q5 : (k == 5) = true := by simp [h5]
    rw [HB.out, q5]
    clear h5 HB
    go_enter Tryz.func73, Tryz.ntmps73
    go_wp2_with fail
    go_ret
    exact ⟨rfl, rfl⟩
  · have q5 : (k == 5) = false := by simp [h5]
    by_cases h6 : k = 6
    · have q6 : (k == 6) = true := by simp [h6]
      rw [HB.out, q5, q6]
      clear h5 h6 HB
      go_enter Tryz.func73, Tryz.ntmps73
      go_wp2_with fail
      go_ret
      exact ⟨rfl, rfl⟩
    · have q6 : (k == 6) = false := by simp [h6]
      rw [HB.out, q5, q6]
      clear h5 h6 HB
      go_enter Tryz.func73, Tryz.ntmps73
      go_wp2_with fail
      go_ret
      exact ⟨by simp, rfl⟩
theorem run_slice_arr (W : World) (b kn : Nat) (hk : kn ≤ 3) : (Instr.sliceAt 48 (.pointer (some ⟨b, 5, none⟩)) none (some (.int .i64 (kn : Int))) none).run Tryz.prog W = .ok (.slice (some ⟨b, 5, none⟩) kn 3) W := by
  rw [run_sliceAt_array_h W 48 ⟨b, 5, none⟩ (by kernel_rfl) .i64 _ (by omega) (by rw [show Tryz.prog.arrayLen 48 = 3 from by kernel_rfl]; omega)]
  simp [slicedAt, go_sem, Addr.add]

set_option maxRecDepth 20000 in
set_option maxHeartbeats 2000000 in
theorem parts_any (b : Nat) (k : Int) (w : World) (h : w.cell? ⟨b, 0, none⟩ = some (.int .i64 k)) (hk : 0 ≤ tkidsN k) (hk3 : tkidsN k ≤ 3) :
    Calls Tryz.prog 34 #[.pointer (some ⟨b, 0, none⟩)] w fun e w' => e = .returned (.slice (some ⟨b, 5, none⟩) (tkidsN k).toNat 3) ∧ Below w.heap.size w w' := by
  obtain ⟨kn, hkn⟩ : ∃ kn : Nat, tkidsN k = kn := ⟨(tkidsN k).toNat, by omega⟩
  have HT := hide (fun W => termKids_any k W)
  rw [hkn] at HT hk3 ⊢
  have hkn3 : kn ≤ 3 := by omega
  have hrs := fun W => run_slice_arr W b kn hkn3
  have hbl := lt_cell h
  have hc : ∀ p : Bel w.heap.size w, p.w'.cell? ⟨b, 0, none⟩ = some (.int .i64 k) := fun p => p.cell hbl h
  haveI := bel_ne w.heap.size w
  clear hkn hk hk3
  go_enter Tryz.func34, Tryz.ntmps34
  go_wp2_with fail
  refine wp_region_bel w.heap.size (by kernel_rfl) (by kernel_rfl) ?_
  repeat (quiet_step (first
    | (go_at_call 46; exact calls_bel_same (HT.out _))))
  refine wpQuiet_nil ?_
  intro _ hw'
  obtain ⟨p, hw2⟩ := hw'
  subst hw2
  go_wp2_with fail
  go_ret
  exact ⟨rfl, p.h⟩

set_option maxRecDepth 20000 in
set_option maxHeartbeats 2000000 in
theorem asBinder_any (b : Nat) (k : Int) (w : World) (h : w.cell? ⟨b, 0, none⟩ = some (.int .i64 k)) :
    Calls Tryz.prog 54 #[.pointer (some ⟨b, 0, none⟩)] w fun e w' => e = .returned (.tuple #[.agg #[.pointer (some ⟨b, 0, none⟩)], .bool (bindsB k)]) ∧ Below w.heap.size w w' := by
  have HT := hide (fun W => isBinder_any k W)
  have hbl := lt_cell h
  go_enter Tryz.func54, Tryz.ntmps54
  go_wp2_with (go_at_call 73; refine (HT.out _).mono ?_; rintro e w1 ⟨rfl, hw⟩; have hw := hw.symm; subst hw)
  refine bodyPost_ret (v := .tuple #[.agg #[.pointer (some ⟨b, 0, none⟩)], .bool (bindsB k)]) (by simp [results, Tryz.results54, go_sem]) rfl ⟨rfl, ?_⟩
  exact bel_alloc (Below.refl _ _) _
set_option maxRecDepth 20000 in
set_option maxHeartbeats 2000000 in
theorem bodyPlace_any (b : Nat) (k : Int) (w : World) (h : w.cell? ⟨b, 0, none⟩ = some (.int .i64 k)) (hk : 0 ≤ tkidsN k) (hk3 : tkidsN k ≤ 3) :
    Calls Tryz.prog 55 #[.agg #[.pointer (some ⟨b, 0, none⟩)]] w fun e w' => e = .returned (.int .i64 (tkidsN k - 1)) ∧ Below w.heap.size w w' := by
  have hbl := lt_cell h
  have HP := hide (parts_any b k (w.alloc (.cells #[.pointer (some ⟨b, 0, none⟩)] 113)) (keep_cell (bel_alloc (Below.refl w.heap.size w) _) h) hk hk3)
  have HB := hide (bel_alloc (Below.refl w.heap.size w) (.cells #[.pointer (some ⟨b, 0, none⟩)] 113))
  clear h
  obtain ⟨kn, hkn⟩ : ∃ kn : Nat, tkidsN k = kn := ⟨(tkidsN k).toNat, by omega⟩
  rw [hkn] at HP ⊢
  have hle : kn ≤ 3 := by omega
  rw [show ((kn : Int)).toNat = kn from by omega] at HP
  clear hkn hk hk3
  go_enter Tryz.func55, Tryz.ntmps55
  go_wp2_with fail
  refine HP.out.mono ?_
  rintro e w1 ⟨rfl, hb1⟩
  have HB1 := hide (bel_trans HB.out hb1)
  clear hb1 HP
  go_wp2_with fail
  go_ret
  exact ⟨by go_num, HB1.out⟩
/-- How many variables of its own a node has in a kid. -/
def bindN (k : Int) (i : Nat) : Int := if bindsB k = true ∧ (i : Int) = tkidsN k - 1 then 1 else 0
set_option maxRecDepth 20000 in
set_option maxHeartbeats 4000000 in
theorem binds_any (b : Nat) (k : Int) (i : Nat) (w : World) (h : w.cell? ⟨b, 0, none⟩ = some (.int .i64 k)) (hk : 0 ≤ tkidsN k) (hk3 : tkidsN k ≤ 3) :
    Calls Tryz.prog 35 #[.pointer (some ⟨b, 0, none⟩), .int .i64 i] w fun e w' => e = .returned (.int .i64 (bindN k i)) ∧ Below w.heap.size w w' := by
  have HA := hide (asBinder_any b k w h)
  have HBP := hide (fun W hb => bodyPlace_any b k W (keep_cell (w' := W) hb h) hk hk3)
  unfold bindN
  clear h
  cases hb : bindsB k
  · rw [hb] at HA
    rw [if_neg (by simp)]
    go_enter Tryz.func35, Tryz.ntmps35
    go_wp2_with fail
    refine HA.out.mono ?_
    rintro e w1 ⟨rfl, hb1⟩
    have HB1 := hide (bel_trans hb1 (bel_alloc (Below.refl w1.heap.size w1) (.cells #[.pointer (some ⟨b, 0, none⟩)] 113)))
    clear hb1
    go_wp2_with fail
    go_ret
    exact ⟨rfl, HB1.out⟩
  · rw [hb] at HA
    by_cases he : (i : Int) = tkidsN k - 1
    · rw [if_pos ⟨rfl, he⟩]
      have qe : ((i : Int) == tkidsN k - 1) = true := by simp [he]
      generalize tkidsN k - 1 = bp at *
      clear he
      go_enter Tryz.func35, Tryz.ntmps35
      go_wp2_with fail
      refine HA.out.mono ?_
      rintro e w1 ⟨rfl, hb1⟩
      have HB1 := hide (bel_trans hb1 (bel_alloc (Below.refl w1.heap.size w1) (.cells #[.pointer (some ⟨b, 0, none⟩)] 113)))
      have HC := hide (HBP.out _ HB1.out)
      clear hb1
      go_wp2_with (go_at_call 55; refine HC.out.mono ?_; rintro e w2 ⟨rfl, hb2⟩)
      have HB2 := hide (bel_trans HB1.out hb2)
      go_ret
      exact ⟨rfl, HB2.out⟩
    · rw [if_neg (fun h => he h.2)]
      have qe : ((i : Int) == tkidsN k - 1) = false := by simp [he]
      generalize tkidsN k - 1 = bp at *
      clear he
      go_enter Tryz.func35, Tryz.ntmps35
      go_wp2_with fail
      refine HA.out.mono ?_
      rintro e w1 ⟨rfl, hb1⟩
      have HB1 := hide (bel_trans hb1 (bel_alloc (Below.refl w1.heap.size w1) (.cells #[.pointer (some ⟨b, 0, none⟩)] 113)))
      have HC := hide (HBP.out _ HB1.out)
      clear hb1
      go_wp2_with (go_at_call 55; refine HC.out.mono ?_; rintro e w2 ⟨rfl, hb2⟩)
      have HB2 := hide (bel_trans HB1.out hb2)
      go_ret
      exact ⟨rfl, HB2.out⟩
end Go.Proofs.YtlhhdhmhncjilaaGreat
