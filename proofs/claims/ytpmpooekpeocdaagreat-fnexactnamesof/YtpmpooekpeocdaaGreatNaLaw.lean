/- Proved: the law FnExactNamesOf answers true at every declaration that can be read as data, and the declaration reads afterwards as before. No condition. -/
import Derived.Test.YtpmpooekpeocdaaGreatRows
import Derived.Test.YtpmpooekpeocdaaGreatNaW
import Derived.Test.YtpmpooekpeocdaaGreatDcD
import Derived.Test.YtpmpooekpeocdaaGreatLoS
import Derived.WalkKit
import Derived.ProofKit
import Derived.OpenShut
import Derived.ShutString
import Derived.ChangeOld
import Derived.Below
namespace Go.Proofs.YtpmpooekpeocdaaGreat
open Go.ChangeShapes Go.WideShapes Go.ChangeAt Go.RowKit

theorem na_own : ownKnob Tryz.prog.godebug = none := by kernel_rfl
theorem na_laidOut : laidOutB Tryz.prog = true := by kernel_rfl

set_option maxRecDepth 100000 in
theorem na_lifted (os : Os) (started : os.Started) (H : Type) (enc : TypeId × Value → H) :
    ReturnsInHanded {} Tryz.checked os 4 .any (Rows.fnExactNamesOfSpec.pre6 enc Tryz.prog Tryz.f4 Rows.fnExactNamesOfRow.domain false) (Rows.fnExactNamesOfSpec.post enc Tryz.prog Tryz.f4 false true false false) := by
  refine returnsInHanded_of_change (C := Tryz.checked) na_own started (by kernel_rfl) Tryz.func4
    (ChangeSpec.witness6 (enc := enc) (C := Tryz.checked) false ⟨#[], #[.agg #[.int .i64 0, .string ⟨#[]⟩, .slice none 0 0, .slice none 0 0, .slice none 0 0, .int .i64 0, .slice none 0 0]], []⟩ 8 (by kernel_rfl) (by kernel_rfl) (by kernel_rfl) (by kernel_rfl)) ?_
  intro W base args ds gs before hval0 hW hcnd _
  have hval : ∀ (j : Nat) t v, Tryz.f4.params[j]? = some t → args[j]? = some v → Value.okWide Tryz.prog W .any base t v := hval0
  have hW' := hW
  obtain ⟨p, q, hA0, hV, rfl, hfz, hnd⟩ := hW
  have hA : DataW.TrodAll enc Tryz.prog W 0 (fun _ => true) true Tryz.f4.params.toList args.toList ds p := hA0
  rw [Tryz.params4] at hA hval
  obtain ⟨v0, vs0, d0, ds0, p0, q0, hargs, rfl, rfl, h0, r0⟩ := trodAll_cons hA
  obtain ⟨rfl, rfl, rfl⟩ := trodAll_nil r0
  obtain rfl : args = #[v0] := by cases args; simp_all
  obtain ⟨rfl, rfl⟩ := trodVars_none hV
  have k0 := h0
  have lt0 : ∀ x ∈ p0, x.block < W.heap.size := by obtain ⟨m, hm⟩ := k0; exact DataW.trod_lt m _ _ _ hm
  obtain ⟨d, pv, tv, vv, cv, rfl, hd, hz⟩ := open_decl (hval 0 28 v0 rfl rfl) h0
  clear hA0 hval0
  refine (na_walk sortS d pv tv vv cv W hd hz).mono fun e W' ⟨he, bel⟩ => ?_
  subst he
  exact ⟨_, rfl, _, _, _, [], _, [], hW', trodAll_mk1 (shut_bool Tryz.underlying4 _), (trodAll_cons_mk (Below.trod na_laidOut (by kernel_rfl) (of_decide_eq_true (by kernel_rfl)) k0 bel lt0) trodAll_mk0), rfl, bel.frame _, fun h => by cases h⟩

theorem and_ttN {a b : Bool} (h : a = true) (h' : b = true) : (a && b) = true := by rw [h, h']; rfl
set_option maxRecDepth 20000 in
set_option maxHeartbeats 8000000 in
theorem na_closed : joinedFacts Tryz.pinned.checked.prog 4 Tryz.f4 Rows.fnExactNamesOfSpec Rows.fnExactNamesOfRow = true := by
  unfold joinedFacts
  refine and_ttN (and_ttN (and_ttN (and_ttN (and_ttN (and_ttN (and_ttN (and_ttN (and_ttN (and_ttN (and_ttN (and_ttN (and_ttN (and_ttN (and_ttN (and_ttN (and_ttN (and_ttN (and_ttN (and_ttN (and_ttN (and_ttN (and_ttN (and_ttN (and_ttN (and_ttN (and_ttN (and_ttN (and_ttN (and_ttN (and_ttN ?_ ?_) ?_) ?_) ?_) ?_) ?_) ?_) ?_) ?_) ?_) ?_) ?_) ?_) ?_) ?_) ?_) ?_) ?_) ?_) ?_) ?_) ?_) ?_) ?_) ?_) ?_) ?_) ?_) ?_) ?_) ?_
  all_goals as_aux_lemma => kernel_rfl
theorem na_inst : Tryz.f4.isInstance Tryz.pinned.checked.prog Rows.fnExactNamesOfRow.origin Rows.fnExactNamesOfRow.targs := of_decide_eq_true (by kernel_rfl)
theorem na_named : Tryz.pinned.checked.prog.funcNamed Rows.fnExactNamesOfRow.func = some 4 := by kernel_rfl
theorem na_wrap : Tryz.f4.isWrapper Tryz.pinned.checked.prog Rows.fnExactNamesOfRow.wrapper Rows.fnExactNamesOfRow.mainSum := by unfold Func.isWrapper; first | (rw [if_pos (by decide +kernel)]; kernel_rfl) | (rw [if_neg (by decide +kernel)]; exact ⟨rfl, rfl⟩)
theorem na_over : Rows.fnExactNamesOfRow.holds Tryz.pinned (OpenSpec.ofChange Rows.fnExactNamesOfSpec) :=
  OpenClaim.holds_of_wide 4 Tryz.f4 rfl rfl rfl rfl rfl rfl rfl ⟨rfl, rfl, rfl, rfl, rfl⟩ rfl rfl rfl rfl rfl na_named Tryz.func4 na_closed
    na_inst na_wrap
    (fun os started H enc _ => na_lifted os started H enc)

theorem fnExactNamesOf_holds : Rows.FnExactNamesOfSaid :=
  na_over
#print axioms fnExactNamesOf_holds
end Go.Proofs.YtpmpooekpeocdaaGreat
