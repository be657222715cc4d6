/- The walk of the law FnExactClosed. -/
import Derived.Test.YtlhhdhmhncjilaaGreatStI
import Derived.Test.YtlhhdhmhncjilaaGreatTEq
import Derived.Test.YtlhhdhmhncjilaaGreatTSz
import Derived.Test.YtlhhdhmhncjilaaGreatTTm
import Derived.Deep.RegionHeld3
import Derived.Deep.CutRange
import Derived.Deep.Upon
namespace Go.Proofs.YtlhhdhmhncjilaaGreat
open Go.ChangeShapes Go.WideShapes Go.ChangeAt Go.RowKit

theorem nsSum_mem {ns : List Nd} {nd : Nd} (h : nd ∈ ns) : ndSize nd ≤ nsSum ns := by
  induction ns with
  | nil => cases h
  | cons y l ih =>
    simp only [nsSum]
    rcases List.mem_cons.1 h with rfl | h2
    · omega
    · have := ih h2; omega
theorem tsmall_of {ts : List Td} (h : tmSize ts ≤ 1048576) : ∀ td ∈ ts, TSmall td := by
  intro td htd
  have h1 := sumL_mem tdSize htd
  unfold tmSize at h
  have h2 : tdSize td = td.s.size + (td.lv.length + sumL lvSize td.lv) + td.kids.length := rfl
  refine ⟨by omega, fun l hl => ?_, by omega⟩
  have h3 := sumL_mem lvSize hl
  have h4 : lvSize l = l.length + nsSum l := rfl
  refine ⟨by omega, fun nd hnd => ?_⟩
  have h5 := nsSum_mem hnd
  have h6 : ndSize nd = nd.s.size + nd.kids.length := rfl
  omega
theorem spell_of {ts : List Td} (h : tmSize ts ≤ 1048576) : ∀ td ∈ ts, (spell td.lv).length ≤ 1000000000 := by
  intro td htd
  have h1 := sumL_mem tdSize htd
  unfold tmSize at h
  have h2 : tdSize td = td.s.size + (td.lv.length + sumL lvSize td.lv) + td.kids.length := rfl
  have h3 := spell_len td.lv
  omega

set_option maxRecDepth 100000 in
set_option maxHeartbeats 8000000 in
theorem cl_walk (v : Value) (ts : List Td) (n : Int) (w : World) (hn : TNodesAt w v ts) (hz : ∀ td ∈ ts, TLens td) :
    Calls Tryz.prog 3 #[.agg #[v], .int .i64 n] w fun e w' => e = .returned (.bool true) ∧ Below w.heap.size w w' := by
  have HN := hide hn
  have HZ := hide hz
  obtain ⟨a, cap, rfl, _, _, _⟩ := hn
  clear hz
  have b0 : Hid (∀ o, Below w.heap.size w (w.alloc o)) := fun o => bel_alloc (Below.refl _ _) o
  by_cases hbig : (1048576 : Int) < (tmSize ts : Nat)
  · have HL : Hid (leftOf 1048576 (tmSize ts) = -1) := by show leftOf _ _ = _; rw [leftOf, if_pos hbig]
    clear hbig
    go_enter Tryz.func3, Tryz.ntmps3
    go_wp2_with fail
    refine (szTerm_any _ ts _ _ (HN.out.keep (b0.out _)) HZ.out (by omega) (by omega)).mono ?_
    rintro e w1 ⟨rfl, hb1⟩
    rw [HL.out]
    have hbel1 := bel_trans (b0.out _) hb1
    clear hb1
    go_wp2_with fail
    go_ret
    exact ⟨rfl, hbel1⟩
  obtain ⟨M, hM⟩ : ∃ M : Int, M = 1048576 - (tmSize ts : Nat) := ⟨_, rfl⟩
  have hM0 : 0 ≤ M := by omega
  have HL : Hid (leftOf 1048576 (tmSize ts) = M) := by show leftOf _ _ = _; rw [leftOf, if_neg hbig, hM]
  have hlen : ts.length ≤ 1048576 := Nat.le_trans (show ts.length ≤ tmSize ts by unfold tmSize; omega) (by omega)
  have HSM := hide (tsmall_of (show tmSize ts ≤ 1048576 by omega))
  have HSPL := hide (spell_of (show tmSize ts ≤ 1048576 by omega))
  have dM : decide (M < 0) = false := by simp; omega
  clear hbig hM
  have HSP := hide (fun (v : Value) (w : World) (hv : TNodesAt w v ts) => specClosed_any v ts n w hv HZ.out (fun td h => (HSM.out td h).1))
  have HIM := hide (fun (v : Value) (w : World) (hv : TNodesAt w v ts) => implClosed_any v ts n w hv HZ.out HSM.out HSPL.out)
  have HCP := hide (fun (v : Value) (w : World) (hv : TNodesAt w v ts) => toTerm_fr v ts w hv hlen HSM.out)
  generalize closedT ts n = ans at *
  have hne : (ans != ans) = false := by simp
  go_enter Tryz.func3, Tryz.ntmps3
  go_wp2_with fail
  refine (szTerm_any _ ts _ _ (HN.out.keep (b0.out _)) HZ.out (by omega) (by omega)).mono ?_
  rintro e w1 ⟨rfl, hb1⟩
  rw [HL.out]
  have cx := keep_cell (b := w.heap.size) (o := 0) (v := .slice a ts.length cap) hb1 (by simp [go_sem])
  have HB := hide (bel_trans (b0.out _) hb1)
  clear hb1 HL
  go_wp2_with fail
  refine (HCP.out _ _ (HN.out.keep HB.out)).mono ?_
  rintro e w2 ⟨g2, rfl, hn2, hg2, hb2⟩
  have cx := keep_cell hb2 cx
  have HB := hide (bel_trans HB.out hb2)
  have HN2 := hide hn2.at
  clear hb2 hn2
  go_wp2_with fail
  refine (HSP.out _ _ HN2.out).mono ?_
  rintro e w3 ⟨rfl, hb3⟩
  have cx := keep_cell hb3 cx
  have HB := hide (bel_trans HB.out hb3)
  clear hb3 HN2 HSP
  go_wp2_with fail
  refine (HCP.out _ _ (HN.out.keep HB.out)).mono ?_
  rintro e w4 ⟨g5, rfl, hn4, hg5, hb4⟩
  have cx := keep_cell hb4 cx
  have HB := hide (bel_trans HB.out hb4)
  have HX := hide hn4.at
  clear hb4 hn4 hg5
  obtain ⟨W5, hW5⟩ : ∃ W5, W5 = w4.alloc (.cells #[.slice (some ⟨g5, 0, none⟩) ts.length ts.length] 29) := ⟨_, rfl⟩
  have hbW : Below w4.heap.size w4 W5 := by rw [hW5]; exact bel_alloc (Below.refl _ _) _
  have c5 : W5.cell? ⟨w4.heap.size, 0, none⟩ = some (.slice (some ⟨g5, 0, none⟩) ts.length ts.length) := by rw [hW5]; simp [go_sem]
  have cx := keep_cell hbW cx
  have HB := hide (bel_trans HB.out hbW)
  have HX := hide (HX.out.keep hbW)
  go_upto_region 7 with fail
  rw [← hW5]
  clear hW5 hbW
  go_wp2_with fail
  refine (HIM.out _ _ HX.out).mono ?_
  rintro e w6 ⟨rfl, hb6⟩
  have cx := keep_cell hb6 cx
  have c5 := keep_cell hb6 c5
  have HB := hide (bel_trans HB.out hb6)
  have HX := hide (HX.out.keep hb6)
  clear hb6 HIM
  have hxl := lt_cell cx
  have h5l := lt_cell c5
  go_wp2_with fail
  go_region_held3 (fun w' => w'.cell? ⟨w4.heap.size, 0, none⟩ = some (.slice (some ⟨g5, 0, none⟩) ts.length ts.length) ∧ w'.cell? ⟨w.heap.size, 0, none⟩ = some (.slice a ts.length cap))
    (first
      | go_keep
      | (go_split_ands; exact ⟨keep_cell hb9 (by assumption), keep_cell hb9 (by assumption)⟩)
      | (go_split_ands; exact ⟨keep_cell hb8 (by assumption), keep_cell hb8 (by assumption)⟩)
      | fail)
    (first
      | (go_at_call 7; refine (HCP.out _ _ (by exact HN.out.keep HB.out.drew)).mono ?_; rintro e w8 ⟨g8, rfl, hn8, hg8, hb8⟩)
      | (go_at_call 9; refine (eqTerm_any _ _ ts _ (by exact HX.out.keep ((Below.refl w6.heap.size w6).drew.trans hb8)) hn8.at).mono ?_; rintro e w9 ⟨rfl, hb9⟩)
      | fail)
  have hb69 : Below w6.heap.size w6 w9 := (Below.refl w6.heap.size w6).drew.trans (hb8.trans (hb9.mono hb8.size))
  have HB9 := hide (bel_trans HB.out hb69)
  clear hn8 hb8 hb9 hg8 hb69
  go_wp2_with fail
  go_ret
  exact ⟨rfl, HB9.out⟩
end Go.Proofs.YtlhhdhmhncjilaaGreat
