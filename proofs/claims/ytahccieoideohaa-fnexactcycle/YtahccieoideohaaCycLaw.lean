/- Proved: the law FnExactCycle answers true at every number, every constraints and every list of positions that can be read as data, and all read afterwards as before. No condition. -/
import Derived.Test.YtahccieoideohaaCycImpl
import Derived.OpenShut
import Derived.ShutString
import Derived.ChangeOld
import Derived.Below
namespace Go.Proofs.Ytahccieoideohaa
open Go.ChangeShapes Go.WideShapes Go.ChangeAt Go.RowKit

theorem cyc_own : ownKnob Try.prog.godebug = none := by kernel_rfl
theorem cyc_laidOut : laidOutB Try.prog = true := by kernel_rfl

set_option maxRecDepth 100000 in
set_option maxHeartbeats 2000000 in
theorem cyc_walk (n : Int) (v u : Value) (cs : List Cn) (ls : List Int) (w : World) (hns : ConsAt w v cs) (hks : IntsAt w u ls) :
    Calls Try.prog 5 #[.int .i64 n, v, u] w fun e w' => e = .returned (.bool true) ∧ Below w.heap.size w w' := by
  have HK := hide hks
  have HN := hide hns
  obtain ⟨a1, cap1, rfl, _, _, _⟩ := hks
  obtain ⟨a, cap, rfl, _, _, _⟩ := hns
  by_cases hbig1 : (1048576 : Int) < ls.length
  · go_enter Try.func5, Try.ntmps5
    go_wp2_with fail
    go_ret
    exact ⟨rfl, Below.refl _ _⟩
  by_cases hbig : (1048576 : Int) < cs.length
  · have HL : Hid (leftOf 1048576 cs.length = -1) := by show leftOf _ _ = _; rw [leftOf, if_pos hbig]
    clear hbig
    go_enter Try.func5, Try.ntmps5
    go_wp2_with (go_at_call 9; refine (szConsS_any _ cs _ _ HN.out (by omega) (by omega)).mono ?_; rintro e w1 ⟨rfl, rfl⟩; rw [HL.out])
    go_ret
    exact ⟨rfl, Below.refl _ _⟩
  · obtain ⟨M, hM⟩ : ∃ M : Int, M = 1048576 - cs.length := ⟨_, rfl⟩
    have hM0 : 0 ≤ M := by omega
    have HL : Hid (leftOf 1048576 cs.length = M) := by show leftOf _ _ = _; rw [leftOf, if_neg hbig, hM]
    have hlen : cs.length ≤ 1048576 := by omega
    have hlen1 : ls.length ≤ 1048576 := by omega
    have dM : decide (M < 0) = false := by simp; omega
    clear hbig hM
    go_enter Try.func5, Try.ntmps5
    go_wp2_with (go_at_call 9; refine (szConsS_any _ cs _ _ HN.out (by omega) (by omega)).mono ?_; rintro e w1 ⟨rfl, rfl⟩; rw [HL.out])
    refine (toConsS_any _ cs _ HN.out hlen).mono ?_
    rintro e w1 ⟨g1, rfl, hn1, hg1, hb1⟩
    go_wp2_with fail
    refine (toIntS_any _ ls _ (HK.out.keep hb1) hlen1).mono ?_
    rintro e w2 ⟨g2, rfl, hk2, hg2, hb2⟩
    have hn2 := hn1.keep hb2
    have hbel2 := bel_trans hb1 hb2
    clear hn1 hb1 hb2
    go_wp2_with fail
    refine (specCycle_any n _ _ cs ls _ hn2 hk2 hlen1).mono ?_
    rintro e w3 ⟨rfl, hb3⟩
    have hbel3 := bel_trans hbel2 hb3
    clear hbel2 hb3 hn2 hk2
    go_wp2_with fail
    refine (toConsS_any _ cs _ (HN.out.keep hbel3) hlen).mono ?_
    rintro e w4 ⟨g4, rfl, hn4, hg4, hb4⟩
    have hbel4 := bel_trans hbel3 hb4
    clear hb4 hbel3
    go_wp2_with fail
    refine (toIntS_any _ ls _ (HK.out.keep hbel4) hlen1).mono ?_
    rintro e w5 ⟨g5, rfl, hk5, hg5, hb5⟩
    have hn5 := hn4.keep hb5
    have hbel5 := bel_trans hbel4 hb5
    clear hb5 hbel4 hn4
    go_wp2_with fail
    refine (implCycle_any n _ _ cs ls _ hn5 hk5 hlen1).mono ?_
    rintro e w6 ⟨rfl, hb6⟩
    have hk6 := hk5.keep hb6
    have hn6 := hn5.keep hb6
    have hbel6 := bel_trans hbel5 hb6
    have hself : (cycB n cs ls != cycB n cs ls) = false := by simp
    clear hb6 hbel5 hk5 hn5
    go_wp2_with fail
    refine (toConsS_any _ cs _ (HN.out.keep hbel6) hlen).mono ?_
    rintro e w7 ⟨g7, rfl, hn7, hg7, hb7⟩
    have hk7 := hk6.keep hb7
    have hn6' := hn6.keep hb7
    have hbel7 := bel_trans hbel6 hb7
    clear hb7 hbel6 hk6 hn6
    go_wp2_with fail
    refine (eqConsS_any _ _ cs _ hn6' hn7).mono ?_
    rintro e w8 ⟨rfl, hb8⟩
    have hk8 := hk7.keep hb8
    have hbel8 := bel_trans hbel7 hb8
    clear hb8 hbel7 hk7 hn6' hn7
    go_wp2_with fail
    refine (toIntS_any _ ls _ (HK.out.keep hbel8) hlen1).mono ?_
    rintro e w9 ⟨g9, rfl, hk9, hg9, hb9⟩
    have hk8' := hk8.keep hb9
    have hbel9 := bel_trans hbel8 hb9
    clear hb9 hbel8 hk8
    go_wp2_with fail
    refine (eqIntS_any _ _ ls _ hk8' hk9).mono ?_
    rintro e w10 ⟨rfl, n10, rfl⟩
    have hbel10 := below_drewN hbel9 n10
    clear hbel9 hk8' hk9
    go_wp2_with fail
    go_ret
    exact ⟨rfl, hbel10⟩

set_option maxRecDepth 100000 in
theorem cyc_lifted (os : Os) (started : os.Started) (H : Type) (enc : TypeId × Value → H) :
    ReturnsInHanded {} Try.checked os 5 .any (Rows.fnExactCycleSpec.pre6 enc Try.prog Try.f5 Rows.fnExactCycleRow.domain false) (Rows.fnExactCycleSpec.post enc Try.prog Try.f5 false true false false) := by
  refine returnsInHanded_of_change (C := Try.checked) cyc_own started (by kernel_rfl) Try.func5
    (ChangeSpec.witness6 (enc := enc) (C := Try.checked) false ⟨#[], #[.int .i64 0, .slice none 0 0, .slice none 0 0], []⟩ 8 (by kernel_rfl) (by kernel_rfl) (by kernel_rfl) (by kernel_rfl)) ?_
  intro W base args ds gs before hval0 hW hcnd _
  have hval : ∀ (j : Nat) t v, Try.f5.params[j]? = some t → args[j]? = some v → Value.okWide Try.prog W .any base t v := hval0
  have hW' := hW
  obtain ⟨p, q, hA0, hV, rfl, hfz, hnd⟩ := hW
  have hA : DataW.TrodAll enc Try.prog W 0 (fun _ => true) true Try.f5.params.toList args.toList ds p := hA0
  rw [Try.params5] at hA hval
  obtain ⟨v0, vs0, d0, ds0, p0, q0, hargs, rfl, rfl, h0, r0⟩ := trodAll_cons hA
  obtain ⟨v1, vs1, d1, ds1, p1, q1, rfl, rfl, rfl, h1, r1⟩ := trodAll_cons r0
  obtain ⟨v2, vs2, d2, ds2, p2, q2, rfl, rfl, rfl, h2, r2⟩ := trodAll_cons r1
  obtain ⟨rfl, rfl, rfl⟩ := trodAll_nil r2
  obtain rfl : args = #[v0, v1, v2] := by cases args; simp_all
  obtain ⟨rfl, rfl⟩ := trodVars_none hV
  obtain ⟨n, rfl, rfl, rfl, wn⟩ := open_int Try.underlying3 (hval 0 3 v0 rfl rfl) h0
  have k1 := h1
  have k2 := h2
  have lt1 : ∀ x ∈ p1, x.block < W.heap.size := by obtain ⟨m, hm⟩ := k1; exact DataW.trod_lt m _ _ _ hm
  have lt2 : ∀ x ∈ p2, x.block < W.heap.size := by obtain ⟨m, hm⟩ := k2; exact DataW.trod_lt m _ _ _ hm
  obtain ⟨cs, hns⟩ := open_cons (hval 1 22 v1 rfl rfl) h1
  obtain ⟨ls, hks, _⟩ := open_nums (hval 2 29 v2 rfl rfl) h2
  clear hA0 hval0
  refine (cyc_walk n v1 v2 cs ls W hns hks).mono fun e W' ⟨he, bel⟩ => ?_
  subst he
  exact ⟨_, rfl, _, _, _, [], _, [], hW', trodAll_mk1 (shut_bool Try.underlying4 _), (trodAll_cons_mk (shut_int Try.underlying3 wn) (trodAll_cons_mk (Below.trod cyc_laidOut (by kernel_rfl) (of_decide_eq_true (by kernel_rfl)) k1 bel lt1) (trodAll_cons_mk (Below.trod cyc_laidOut (by kernel_rfl) (of_decide_eq_true (by kernel_rfl)) k2 bel lt2) trodAll_mk0))), rfl, bel.frame _, fun h => by cases h⟩

theorem cyc_over : Rows.fnExactCycleRow.holds Try.pinned (OpenSpec.ofChange Rows.fnExactCycleSpec) :=
  OpenClaim.holds_of_wide 5 Try.f5 rfl rfl rfl rfl rfl rfl rfl ⟨rfl, rfl, rfl, rfl, rfl⟩ rfl rfl rfl rfl rfl (by kernel_rfl) Try.func5 (by kernel_rfl)
    (of_decide_eq_true (by kernel_rfl)) (by unfold Func.isWrapper; first | (rw [if_pos (by decide +kernel)]; kernel_rfl) | (rw [if_neg (by decide +kernel)]; exact ⟨rfl, rfl⟩))
    (fun os started H enc _ => cyc_lifted os started H enc)

theorem fnExactCycle_holds : Rows.FnExactCycleSaid :=
  cyc_over
#print axioms fnExactCycle_holds
end Go.Proofs.Ytahccieoideohaa
