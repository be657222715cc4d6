/- Proved: the law FnExactConsOk answers true at every number and every constraints that can be read as data, and both read afterwards as before. No condition. -/
import Derived.Test.YtahccieoideohaaOkImpl
import Derived.Test.YtahccieoideohaaOpen
import Derived.OpenShut
import Derived.ShutString
import Derived.ChangeOld
import Derived.Below
namespace Go.Proofs.Ytahccieoideohaa
open Go.ChangeShapes Go.WideShapes Go.ChangeAt Go.RowKit

theorem ok_own : ownKnob Try.prog.godebug = none := by kernel_rfl
theorem ok_laidOut : laidOutB Try.prog = true := by kernel_rfl

set_option maxRecDepth 100000 in
set_option maxHeartbeats 2000000 in
theorem ok_walk (n : Int) (v : Value) (cs : List Cn) (w : World) (hns : ConsAt w v cs) :
    Calls Try.prog 3 #[.int .i64 n, v] w fun e w' => e = .returned (.bool true) ∧ Below w.heap.size w w' := by
  have HN := hide hns
  obtain ⟨a, cap, rfl, _, _, _⟩ := hns
  by_cases hbig : (1048576 : Int) < cs.length
  · have HL : Hid (leftOf 1048576 cs.length = -1) := by show leftOf _ _ = _; rw [leftOf, if_pos hbig]
    clear hbig
    go_enter Try.func3, Try.ntmps3
    go_wp2_with (go_at_call 9; refine (szConsS_any _ cs _ _ HN.out (by omega) (by omega)).mono ?_; rintro e w1 ⟨rfl, rfl⟩; rw [HL.out])
    go_ret
    exact ⟨rfl, Below.refl _ _⟩
  · obtain ⟨M, hM⟩ : ∃ M : Int, M = 1048576 - cs.length := ⟨_, rfl⟩
    have hM0 : 0 ≤ M := by omega
    have HL : Hid (leftOf 1048576 cs.length = M) := by show leftOf _ _ = _; rw [leftOf, if_neg hbig, hM]
    have hlen : cs.length ≤ 1048576 := by omega
    have dM : decide (M < 0) = false := by simp; omega
    clear hbig hM
    go_enter Try.func3, Try.ntmps3
    go_wp2_with (go_at_call 9; refine (szConsS_any _ cs _ _ HN.out (by omega) (by omega)).mono ?_; rintro e w1 ⟨rfl, rfl⟩; rw [HL.out])
    refine (toConsS_any _ cs _ HN.out hlen).mono ?_
    rintro e w2 ⟨g2, rfl, hn2, hg2, hb2⟩
    go_wp2_with fail
    refine (specConsOk_any n _ cs _ hn2).mono ?_
    rintro e w3 ⟨rfl, hb3⟩
    have hbel3 := bel_trans hb2 hb3
    clear hb2 hb3 hn2
    go_wp2_with fail
    refine (toConsS_any _ cs _ (HN.out.keep hbel3) hlen).mono ?_
    rintro e w4 ⟨g4, rfl, hn4, hg4, hb4⟩
    have hbel4 := bel_trans hbel3 hb4
    clear hb4 hbel3
    go_wp2_with fail
    refine (implConsOk_any n _ cs _ hn4).mono ?_
    rintro e w5 ⟨rfl, hb5⟩
    have hbel5 := bel_trans hbel4 hb5
    have hn5 := hn4.keep hb5
    have hself : (consB n cs != consB n cs) = false := by simp
    clear hb5 hbel4 hn4
    go_wp2_with fail
    refine (toConsS_any _ cs _ (HN.out.keep hbel5) hlen).mono ?_
    rintro e w6 ⟨g6, rfl, hn6, hg6, hb6⟩
    have hbel6 := bel_trans hbel5 hb6
    have hn5' := hn5.keep hb6
    clear hb6 hbel5 hn5
    go_wp2_with fail
    refine (eqConsS_any _ _ cs _ hn5' hn6).mono ?_
    rintro e w7 ⟨rfl, hb7⟩
    have hbel7 := bel_trans hbel6 hb7
    clear hb7 hbel6 hn5' hn6
    go_wp2_with fail
    go_ret
    exact ⟨rfl, hbel7⟩

set_option maxRecDepth 100000 in
theorem ok_lifted (os : Os) (started : os.Started) (H : Type) (enc : TypeId × Value → H) :
    ReturnsInHanded {} Try.checked os 3 .any (Rows.fnExactConsOkSpec.pre6 enc Try.prog Try.f3 Rows.fnExactConsOkRow.domain false) (Rows.fnExactConsOkSpec.post enc Try.prog Try.f3 false true false false) := by
  refine returnsInHanded_of_change (C := Try.checked) ok_own started (by kernel_rfl) Try.func3
    (ChangeSpec.witness6 (enc := enc) (C := Try.checked) false ⟨#[], #[.int .i64 0, .slice none 0 0], []⟩ 8 (by kernel_rfl) (by kernel_rfl) (by kernel_rfl) (by kernel_rfl)) ?_
  intro W base args ds gs before hval0 hW hcnd _
  have hval : ∀ (j : Nat) t v, Try.f3.params[j]? = some t → args[j]? = some v → Value.okWide Try.prog W .any base t v := hval0
  have hW' := hW
  obtain ⟨p, q, hA0, hV, rfl, hfz, hnd⟩ := hW
  have hA : DataW.TrodAll enc Try.prog W 0 (fun _ => true) true Try.f3.params.toList args.toList ds p := hA0
  rw [Try.params3] at hA hval
  obtain ⟨v0, vs0, d0, ds0, p0, q0, hargs, rfl, rfl, h0, r0⟩ := trodAll_cons hA
  obtain ⟨v1, vs1, d1, ds1, p1, q1, rfl, rfl, rfl, h1, r1⟩ := trodAll_cons r0
  obtain ⟨rfl, rfl, rfl⟩ := trodAll_nil r1
  obtain rfl : args = #[v0, v1] := by cases args; simp_all
  obtain ⟨rfl, rfl⟩ := trodVars_none hV
  obtain ⟨n, rfl, rfl, rfl, wn⟩ := open_int Try.underlying3 (hval 0 3 v0 rfl rfl) h0
  have k1 := h1
  have lt1 : ∀ x ∈ p1, x.block < W.heap.size := by obtain ⟨m, hm⟩ := k1; exact DataW.trod_lt m _ _ _ hm
  obtain ⟨cs, hns⟩ := open_cons (hval 1 22 v1 rfl rfl) h1
  clear hA0 hval0
  refine (ok_walk n v1 cs W hns).mono fun e W' ⟨he, bel⟩ => ?_
  subst he
  exact ⟨_, rfl, _, _, _, [], _, [], hW', trodAll_mk1 (shut_bool Try.underlying4 _), (trodAll_cons_mk (shut_int Try.underlying3 wn) (trodAll_cons_mk (Below.trod ok_laidOut (by kernel_rfl) (of_decide_eq_true (by kernel_rfl)) k1 bel lt1) trodAll_mk0)), rfl, bel.frame _, fun h => by cases h⟩

theorem ok_over : Rows.fnExactConsOkRow.holds Try.pinned (OpenSpec.ofChange Rows.fnExactConsOkSpec) :=
  OpenClaim.holds_of_wide 3 Try.f3 rfl rfl rfl rfl rfl rfl rfl ⟨rfl, rfl, rfl, rfl, rfl⟩ rfl rfl rfl rfl rfl (by kernel_rfl) Try.func3 (by kernel_rfl)
    (of_decide_eq_true (by kernel_rfl)) (by unfold Func.isWrapper; first | (rw [if_pos (by decide +kernel)]; kernel_rfl) | (rw [if_neg (by decide +kernel)]; exact ⟨rfl, rfl⟩))
    (fun os started H enc _ => ok_lifted os started H enc)

theorem fnExactConsOk_holds : Rows.FnExactConsOkSaid :=
  ok_over
#print axioms fnExactConsOk_holds
end Go.Proofs.Ytahccieoideohaa
