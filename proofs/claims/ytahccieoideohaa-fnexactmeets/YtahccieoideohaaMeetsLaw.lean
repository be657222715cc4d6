/- Proved: the law FnExactMeets answers true at every values and every constraints that can be read as data, and both read afterwards as before. No condition. -/
import Derived.Test.YtahccieoideohaaMeetsImpl
import Derived.OpenShut
import Derived.ShutString
import Derived.ChangeOld
import Derived.Below
namespace Go.Proofs.Ytahccieoideohaa
open Go.ChangeShapes Go.WideShapes Go.ChangeAt Go.RowKit

theorem meets_own : ownKnob Try.prog.godebug = none := by kernel_rfl
theorem meets_laidOut : laidOutB Try.prog = true := by kernel_rfl

set_option maxRecDepth 100000 in
set_option maxHeartbeats 2000000 in
theorem meets_walk (u v : Value) (ks : List Int) (cs : List Cn) (w : World) (hks : IntsAt w u ks) (hns : ConsAt w v cs) (hf : Fits ks) :
    Calls Try.prog 4 #[u, v] w fun e w' => e = .returned (.bool true) ∧ Below w.heap.size w w' := by
  have HK := hide hks
  have HN := hide hns
  have HF := hide hf
  obtain ⟨a1, cap1, rfl, _, _, _⟩ := hks
  obtain ⟨a, cap, rfl, _, _, _⟩ := hns
  clear hf
  by_cases hbig1 : (1048576 : Int) < ks.length
  · go_enter Try.func4, Try.ntmps4
    go_wp2_with fail
    go_ret
    exact ⟨rfl, Below.refl _ _⟩
  by_cases hbig : (1048576 : Int) < cs.length
  · have HL : Hid (leftOf 1048576 cs.length = -1) := by show leftOf _ _ = _; rw [leftOf, if_pos hbig]
    clear hbig
    go_enter Try.func4, Try.ntmps4
    go_wp2_with (go_at_call 9; refine (szConsS_any _ cs _ _ HN.out (by omega) (by omega)).mono ?_; rintro e w1 ⟨rfl, rfl⟩; rw [HL.out])
    go_ret
    exact ⟨rfl, Below.refl _ _⟩
  · obtain ⟨M, hM⟩ : ∃ M : Int, M = 1048576 - cs.length := ⟨_, rfl⟩
    have hM0 : 0 ≤ M := by omega
    have HL : Hid (leftOf 1048576 cs.length = M) := by show leftOf _ _ = _; rw [leftOf, if_neg hbig, hM]
    have hlen : cs.length ≤ 1048576 := by omega
    have hlen1 : ks.length ≤ 1048576 := by omega
    have dM : decide (M < 0) = false := by simp; omega
    clear hbig hM
    go_enter Try.func4, Try.ntmps4
    go_wp2_with (go_at_call 9; refine (szConsS_any _ cs _ _ HN.out (by omega) (by omega)).mono ?_; rintro e w1 ⟨rfl, rfl⟩; rw [HL.out])
    refine (toIntS_any _ ks _ HK.out hlen1).mono ?_
    rintro e w1 ⟨g1, rfl, hk1, hg1, hb1⟩
    go_wp2_with fail
    refine (toConsS_any _ cs _ (HN.out.keep hb1) hlen).mono ?_
    rintro e w2 ⟨g2, rfl, hn2, hg2, hb2⟩
    have hk2 := hk1.keep hb2
    have hbel2 := bel_trans hb1 hb2
    clear hk1 hb1 hb2
    go_wp2_with fail
    refine (specMeets_any _ _ ks cs _ hk2 hn2 HF.out).mono ?_
    rintro e w3 ⟨rfl, hb3⟩
    have hbel3 := bel_trans hbel2 hb3
    clear hbel2 hb3 hn2 hk2
    go_wp2_with fail
    refine (toIntS_any _ ks _ (HK.out.keep hbel3) hlen1).mono ?_
    rintro e w4 ⟨g4, rfl, hk4, hg4, hb4⟩
    have hbel4 := bel_trans hbel3 hb4
    clear hb4 hbel3
    go_wp2_with fail
    refine (toConsS_any _ cs _ (HN.out.keep hbel4) hlen).mono ?_
    rintro e w5 ⟨g5, rfl, hn5, hg5, hb5⟩
    have hk5 := hk4.keep hb5
    have hbel5 := bel_trans hbel4 hb5
    clear hb5 hbel4 hk4
    go_wp2_with fail
    refine (implMeets_any _ _ ks cs _ hk5 hn5 HF.out).mono ?_
    rintro e w6 ⟨rfl, hb6⟩
    have hk6 := hk5.keep hb6
    have hn6 := hn5.keep hb6
    have hbel6 := bel_trans hbel5 hb6
    have hself : (meetsB ks cs != meetsB ks cs) = false := by simp
    clear hb6 hbel5 hk5 hn5
    go_wp2_with fail
    refine (toIntS_any _ ks _ (HK.out.keep hbel6) hlen1).mono ?_
    rintro e w7 ⟨g7, rfl, hk7, hg7, hb7⟩
    have hk6' := hk6.keep hb7
    have hn7 := hn6.keep hb7
    have hbel7 := bel_trans hbel6 hb7
    clear hb7 hbel6 hk6 hn6
    go_wp2_with fail
    refine (eqIntS_any _ _ ks _ hk6' hk7).mono ?_
    rintro e w8 ⟨rfl, n8, rfl⟩
    have hbel8 := below_drewN hbel7 n8
    have hn8 := hn7.keep (below_drewN (Below.refl _ _) n8)
    clear hbel7 hn7 hk6' hk7
    go_wp2_with fail
    refine (toConsS_any _ cs _ (HN.out.keep hbel8) hlen).mono ?_
    rintro e w9 ⟨g9, rfl, hn9, hg9, hb9⟩
    have hn8' := hn8.keep hb9
    have hbel9 := bel_trans hbel8 hb9
    clear hb9 hbel8 hn8
    go_wp2_with fail
    refine (eqConsS_any _ _ cs _ hn8' hn9).mono ?_
    rintro e w10 ⟨rfl, hb10⟩
    have hbel10 := bel_trans hbel9 hb10
    clear hb10 hbel9 hn8' hn9
    go_wp2_with fail
    go_ret
    exact ⟨rfl, hbel10⟩

set_option maxRecDepth 100000 in
theorem meets_lifted (os : Os) (started : os.Started) (H : Type) (enc : TypeId × Value → H) :
    ReturnsInHanded {} Try.checked os 4 .any (Rows.fnExactMeetsSpec.pre6 enc Try.prog Try.f4 Rows.fnExactMeetsRow.domain false) (Rows.fnExactMeetsSpec.post enc Try.prog Try.f4 false true false false) := by
  refine returnsInHanded_of_change (C := Try.checked) meets_own started (by kernel_rfl) Try.func4
    (ChangeSpec.witness6 (enc := enc) (C := Try.checked) false ⟨#[], #[.slice none 0 0, .slice none 0 0], []⟩ 8 (by kernel_rfl) (by kernel_rfl) (by kernel_rfl) (by kernel_rfl)) ?_
  intro W base args ds gs before hval0 hW hcnd _
  have hval : ∀ (j : Nat) t v, Try.f4.params[j]? = some t → args[j]? = some v → Value.okWide Try.prog W .any base t v := hval0
  have hW' := hW
  obtain ⟨p, q, hA0, hV, rfl, hfz, hnd⟩ := hW
  have hA : DataW.TrodAll enc Try.prog W 0 (fun _ => true) true Try.f4.params.toList args.toList ds p := hA0
  rw [Try.params4] at hA hval
  obtain ⟨v0, vs0, d0, ds0, p0, q0, hargs, rfl, rfl, h0, r0⟩ := trodAll_cons hA
  obtain ⟨v1, vs1, d1, ds1, p1, q1, rfl, rfl, rfl, h1, r1⟩ := trodAll_cons r0
  obtain ⟨rfl, rfl, rfl⟩ := trodAll_nil r1
  obtain rfl : args = #[v0, v1] := by cases args; simp_all
  obtain ⟨rfl, rfl⟩ := trodVars_none hV
  have k0 := h0
  have k1 := h1
  have lt0 : ∀ x ∈ p0, x.block < W.heap.size := by obtain ⟨m, hm⟩ := k0; exact DataW.trod_lt m _ _ _ hm
  have lt1 : ∀ x ∈ p1, x.block < W.heap.size := by obtain ⟨m, hm⟩ := k1; exact DataW.trod_lt m _ _ _ hm
  obtain ⟨ks, hks, hfit⟩ := open_nums (hval 0 29 v0 rfl rfl) h0
  obtain ⟨cs, hns⟩ := open_cons (hval 1 22 v1 rfl rfl) h1
  clear hA0 hval0
  refine (meets_walk v0 v1 ks cs W hks hns hfit).mono fun e W' ⟨he, bel⟩ => ?_
  subst he
  exact ⟨_, rfl, _, _, _, [], _, [], hW', trodAll_mk1 (shut_bool Try.underlying4 _), (trodAll_cons_mk (Below.trod meets_laidOut (by kernel_rfl) (of_decide_eq_true (by kernel_rfl)) k0 bel lt0) (trodAll_cons_mk (Below.trod meets_laidOut (by kernel_rfl) (of_decide_eq_true (by kernel_rfl)) k1 bel lt1) trodAll_mk0)), rfl, bel.frame _, fun h => by cases h⟩

theorem meets_over : Rows.fnExactMeetsRow.holds Try.pinned (OpenSpec.ofChange Rows.fnExactMeetsSpec) :=
  OpenClaim.holds_of_wide 4 Try.f4 rfl rfl rfl rfl rfl rfl rfl ⟨rfl, rfl, rfl, rfl, rfl⟩ rfl rfl rfl rfl rfl (by kernel_rfl) Try.func4 (by kernel_rfl)
    (of_decide_eq_true (by kernel_rfl)) (by unfold Func.isWrapper; first | (rw [if_pos (by decide +kernel)]; kernel_rfl) | (rw [if_neg (by decide +kernel)]; exact ⟨rfl, rfl⟩))
    (fun os started H enc _ => meets_lifted os started H enc)

theorem fnExactMeets_holds : Rows.FnExactMeetsSaid :=
  meets_over
#print axioms fnExactMeets_holds
end Go.Proofs.Ytahccieoideohaa
