/- What the draws of a command, of a file and of a text for Tokens answer. -/
import Derived.Test.YtmdcdapjjodpiaaDoorCmd
namespace Go.Proofs.YtmdcdapjjodpiaaDoor
open Go.ChangeShapes Go.WideShapes Go.ChangeAt Go.RowKit

set_option maxRecDepth 20000 in
set_option maxHeartbeats 2000000 in
theorem command_any (R base : Nat) (w : World) (h : RdQ base w R) :
    Calls Tryd.prog 19 #[.pointer (some ⟨R, 0, none⟩)] w fun e w' => StrOut base R 330000000000 w e w' := by
  have HR := hide h
  have hRl := h.lt
  clear h
  go_enter Tryd.func19, Tryd.ntmps19
  go_upto_region 2 with (first
    | (go_at_call 9; refine (next_any R base _ HR.out).mono ?_; rintro e w1 ⟨k, rfl, hk, hr1, hg1⟩; have HR1 := hide hr1; have HB1 := hide (below_of hg1 hRl.1 (by omega)); clear hr1 hg1)
    | fail)
  go_upto_region 4 with (first
    | (go_at_call 9; refine (next_any R base _ HR1.out).mono ?_; rintro e w2 ⟨v, rfl, hv, hr2, hg2⟩; have HR2 := hide hr2; have HB2 := hide (HB1.out.trans (below_of hg2 hRl.1 (by have := HR1.out.lt; omega))); clear hr2 hg2)
    | fail)
  have hsz2 : base ≤ w2.heap.size := by have := HR2.out.lt; omega
  by_cases k0 : (k : Int) % 4 = 0
  · have kb : ((k : Int) % 4 == 0) = true := by simp [k0]
    clear k0
    have hr : v % 44 < defsL.length := by show v % 44 < 44; omega
    have HW := hide (way_mem defsL_ok (List.getElem_mem hr))
    go_upto_region 9 with (first
      | (go_at_call 35; refine (l14Defs_any _).mono ?_; rintro e w4 ⟨rfl, hT⟩
         first
           | (have hc := keep_cell hT.bel (HT1.out.cell (v % 44) hr); have HR4 := hide (HR3.out.keep hT.bel); have HB4 := hide (HB3.out.trans (hT.bel.mono (Nat.le_trans hsz2 HT1.out.bel.size))); clear hT)
           | (have HT1 := hide hT; have HR3 := hide (HR2.out.keep hT.bel); have HB3 := hide (HB2.out.trans (hT.bel.mono hsz2)); clear hT))
      | (go_at_call 34; refine (fill3 _ HW.out R base _ HR4.out).mono ?_; rintro e w5 ⟨⟨s, rfl, hs⟩, hr5, hb5⟩; have HR5 := hide hr5; have HB5 := hide (HB4.out.trans hb5); clear hr5 hb5)
      | fail)
    go_wp2_with (first
      | (go_at_call 38; refine (bend_any s k hk (by omega) R base _ HR5.out).mono ?_; rintro e w6 ⟨⟨s6, rfl, hs6⟩, hr6, hb6⟩; have HR6 := hide hr6; have HB6 := hide (HB5.out.trans hb6); clear hr6 hb6)
      | fail)
    go_ret
    exact ⟨⟨_, rfl, by omega⟩, HR6.out, HB6.out⟩
  have kb : ((k : Int) % 4 == 0) = false := by simp [k0]
  clear k0
  by_cases k1 : (k : Int) % 4 = 1
  · have kc : ((k : Int) % 4 == 1) = true := by simp [k1]
    clear k1
    have hr : v % 39 < scriptsL.length := by show v % 39 < 39; omega
    have HW := hide (way_mem scriptsL_ok (List.getElem_mem hr))
    go_upto_region 9 with (first
      | (go_at_call 36; refine (l14Scripts_any _).mono ?_; rintro e w4 ⟨rfl, hT⟩
         first
           | (have hc := keep_cell hT.bel (HT1.out.cell (v % 39) hr); have HR4 := hide (HR3.out.keep hT.bel); have HB4 := hide (HB3.out.trans (hT.bel.mono (Nat.le_trans hsz2 HT1.out.bel.size))); clear hT)
           | (have HT1 := hide hT; have HR3 := hide (HR2.out.keep hT.bel); have HB3 := hide (HB2.out.trans (hT.bel.mono hsz2)); clear hT))
      | (go_at_call 34; refine (fill3 _ HW.out R base _ HR4.out).mono ?_; rintro e w5 ⟨⟨s, rfl, hs⟩, hr5, hb5⟩; have HR5 := hide hr5; have HB5 := hide (HB4.out.trans hb5); clear hr5 hb5)
      | fail)
    go_wp2_with (first
      | (go_at_call 38; refine (bend_any s k hk (by omega) R base _ HR5.out).mono ?_; rintro e w6 ⟨⟨s6, rfl, hs6⟩, hr6, hb6⟩; have HR6 := hide hr6; have HB6 := hide (HB5.out.trans hb6); clear hr6 hb6)
      | fail)
    go_ret
    exact ⟨⟨_, rfl, by omega⟩, HR6.out, HB6.out⟩
  · have kc : ((k : Int) % 4 == 1) = false := by simp [k1]
    clear k1
    have hr : v % 39 < othersL.length := by show v % 39 < 39; omega
    have HW := hide (way_mem othersL_ok (List.getElem_mem hr))
    go_upto_region 9 with (first
      | (go_at_call 37; refine (l14Others_any _).mono ?_; rintro e w4 ⟨rfl, hT⟩
         first
           | (have hc := keep_cell hT.bel (HT1.out.cell (v % 39) hr); have HR4 := hide (HR3.out.keep hT.bel); have HB4 := hide (HB3.out.trans (hT.bel.mono (Nat.le_trans hsz2 HT1.out.bel.size))); clear hT)
           | (have HT1 := hide hT; have HR3 := hide (HR2.out.keep hT.bel); have HB3 := hide (HB2.out.trans (hT.bel.mono hsz2)); clear hT))
      | (go_at_call 34; refine (fill3 _ HW.out R base _ HR4.out).mono ?_; rintro e w5 ⟨⟨s, rfl, hs⟩, hr5, hb5⟩; have HR5 := hide hr5; have HB5 := hide (HB4.out.trans hb5); clear hr5 hb5)
      | fail)
    go_wp2_with (first
      | (go_at_call 38; refine (bend_any s k hk (by omega) R base _ HR5.out).mono ?_; rintro e w6 ⟨⟨s6, rfl, hs6⟩, hr6, hb6⟩; have HR6 := hide hr6; have HB6 := hide (HB5.out.trans hb6); clear hr6 hb6)
      | fail)
    go_ret
    exact ⟨⟨_, rfl, by omega⟩, HR6.out, HB6.out⟩
end Go.Proofs.YtmdcdapjjodpiaaDoor
