/- Proved: the law FnExactLevelOk answers true at every level that can be read as data, and the level reads afterwards as before. No condition. -/
import Derived.Test.YtnifepmaijfllaaRows
import Derived.Test.YtnifepmaijfllaaSpec
import Derived.Test.YtnifepmaijfllaaImpl
import Derived.Test.YtnifepmaijfllaaEq
import Derived.Test.YtnifepmaijfllaaOpen
import Derived.WalkKit
import Derived.ProofKit
import Derived.OpenShut
import Derived.ShutString
import Derived.ChangeOld
import Derived.Below
namespace Go.Proofs.Ytnifepmaijfllaa
open Go.ChangeShapes Go.WideShapes Go.ChangeAt Go.RowKit

theorem ok_own : ownKnob Try.prog.godebug = none := by kernel_rfl
theorem ok_laidOut : laidOutB Try.prog = true := by kernel_rfl

set_option maxHeartbeats 1000000 in
theorem specLevelOk_any (v : Value) (ns : List Nd) (w : World) (hns : NodesAt w v ns) (hsz : ∀ nd ∈ ns, nd.s.size ≤ maxLen) :
    Calls Try.prog 20 #[.agg #[v]] w fun e w' => e = .returned (.bool (lvlB ns)) ∧ Below w.heap.size w w' := by
  have HN : Hid (∀ o, NodesAt (w.alloc o) v ns) := fun o => hns.keep (bel_alloc (Below.refl _ _) o)
  have HZ := hide hsz
  obtain ⟨a, cap, rfl, _, _, _⟩ := hns
  clear hsz
  go_enter Try.func20, Try.ntmps20
  go_wp2_with fail
  refine (l1Tree_any _ ns _ (HN.out _) HZ.out).mono ?_
  rintro e w1 ⟨(⟨hl, rfl⟩ | ⟨hl, g, t, rfl, _⟩), hb⟩
  · have hbel := (bel_alloc (Below.refl w.heap.size w) _).trans (hb.mono (by simp))
    go_wp2_with (go_at_call 65; refine (none_none _).mono ?_; rintro e w' ⟨rfl, rfl⟩)
    go_ret
    exact ⟨ret_bool hl.symm, hbel⟩
  · have hbel := (bel_alloc (Below.refl w.heap.size w) _).trans (hb.mono (by simp))
    go_wp2_with (go_at_call 65; refine (none_some _ _).mono ?_; rintro e w' ⟨rfl, rfl⟩)
    go_ret
    exact ⟨ret_bool hl.symm, hbel⟩

theorem kids_le {ns : List Nd} {n : Nat} (h : nsSum ns ≤ n) : ∀ nd ∈ ns, nd.kids.length ≤ n := by
  induction ns with
  | nil => simp
  | cons x ns ih =>
    intro nd hnd
    simp only [nsSum, ndSize] at h
    rcases List.mem_cons.1 hnd with rfl | h2
    · omega
    · exact ih (by omega) nd h2

set_option maxRecDepth 100000 in
set_option maxHeartbeats 2000000 in
theorem ok_walk (v : Value) (ns : List Nd) (w : World) (hns : NodesAt w v ns) (hsz : ∀ nd ∈ ns, nd.s.size ≤ maxLen) :
    Calls Try.prog 5 #[.agg #[v]] w fun e w' => e = .returned (.bool true) ∧ Below w.heap.size w w' := by
  have HN := hide hns
  have HZ := hide hsz
  obtain ⟨a, cap, rfl, _, _, _⟩ := hns
  clear hsz
  have b0 : Hid (∀ o, Below w.heap.size w (w.alloc o)) := fun o => bel_alloc (Below.refl _ _) o
  by_cases hbig : (1048576 : Int) < (ns.length + nsSum ns : Nat)
  · have HL : Hid (leftOf 1048576 (ns.length + nsSum ns) = -1) := by show leftOf _ _ = _; rw [leftOf, if_pos hbig]
    clear hbig
    go_enter Try.func5, Try.ntmps5
    go_wp2_with (go_at_call 19; refine (szLevel_any _ ns _ _ (HN.out.keep (b0.out _)) HZ.out (by omega) (by omega)).mono ?_; rintro e w1 ⟨rfl, hb⟩; rw [HL.out])
    go_ret
    exact ⟨rfl, (bel_alloc (Below.refl w.heap.size w) _).trans (hb.mono (by simp))⟩
  · obtain ⟨M, hM⟩ : ∃ M : Int, M = 1048576 - (ns.length + nsSum ns : Nat) := ⟨_, rfl⟩
    have hM0 : 0 ≤ M := by omega
    have HL : Hid (leftOf 1048576 (ns.length + nsSum ns) = M) := by show leftOf _ _ = _; rw [leftOf, if_neg hbig, hM]
    have hlen : ns.length ≤ 1048576 := by omega
    have hkl := kids_le (show nsSum ns ≤ 1048576 by omega)
    have HKL := hide hkl
    have dM : decide (M < 0) = false := by simp; omega
    clear hbig hM hkl
    go_enter Try.func5, Try.ntmps5
    go_wp2_with fail
    refine (szLevel_any _ ns _ _ (HN.out.keep (b0.out _)) HZ.out (by omega) (by omega)).mono ?_
    rintro e w1 ⟨rfl, hb1⟩
    rw [HL.out]
    obtain ⟨hc1, hf1⟩ := bcell hb1
    simp only [World.size_alloc] at hc1 hf1
    have hx1 : w1.cell? ⟨w.heap.size, 0, none⟩ = some (.slice a ns.length cap) := by rw [hc1 _ _ (by omega)]; simp [go_sem]
    have hbel1 : Below w.heap.size w w1 := (bel_alloc (Below.refl w.heap.size w) _).trans (hb1.mono (by simp))
    clear hb1 hc1 hf1
    go_wp2_with fail
    refine (toLevel_any _ ns _ (HN.out.keep hbel1) hlen HKL.out).mono ?_
    rintro e w2 ⟨g2, rfl, hn2, hg2, hb2⟩
    have hx2 := keep_cell hb2 hx1
    have hbel2 := hbel1.trans (hb2.mono hbel1.size)
    go_wp2_with fail
    refine (specLevelOk_any _ ns _ hn2.at HZ.out).mono ?_
    rintro e w3 ⟨rfl, hb3⟩
    have hx3 := keep_cell hb3 hx2
    have hbel3 := hbel2.trans (hb3.mono hbel2.size)
    clear hb2 hb3 hn2 hx1 hx2
    go_wp2_with fail
    refine (toLevel_any _ ns _ (HN.out.keep hbel3) hlen HKL.out).mono ?_
    rintro e w4 ⟨g4, rfl, hn4, hg4, hb4⟩
    have hx4 := keep_cell hb4 hx3
    have hbel4 := hbel3.trans (hb4.mono hbel3.size)
    have H4 := hide hn4.at
    clear hb4 hx3 hn4
    go_wp2_with fail
    refine (implLevelOk_any _ ns _ (H4.out.keep (bel_alloc (Below.refl _ _) _)) HZ.out).mono ?_
    rintro e w5 ⟨rfl, hb5⟩
    obtain ⟨hc5, hf5⟩ := bcell hb5
    simp only [World.size_alloc] at hc5 hf5
    have hy5 : w5.cell? ⟨w4.heap.size, 0, none⟩ = some (.slice (some ⟨g4, 0, none⟩) ns.length ns.length) := by rw [hc5 _ _ (by omega)]; simp [go_sem]
    have hbw5 : Below w4.heap.size w4 w5 := (bel_alloc (Below.refl w4.heap.size w4) _).trans (hb5.mono (by simp))
    have hx5 := keep_cell hbw5 hx4
    have hbel5 := hbel4.trans (hbw5.mono hbel4.size)
    have H5 := hide (H4.out.keep hbw5)
    have hself : (lvlB ns != lvlB ns) = false := by simp
    have HB5 := hide hbel5
    clear hb5 hc5 hf5 hx4 H4 hbw5 hbel1 hbel2 hbel3 hbel4 hbel5
    go_wp2_with fail
    go_region_held3 (fun w' => w'.cell? ⟨w4.heap.size, 0, none⟩ = some (.slice (some ⟨g4, 0, none⟩) ns.length ns.length) ∧ w'.cell? ⟨w.heap.size, 0, none⟩ = some (.slice a ns.length cap))
      (first
        | go_keep
        | (go_split_ands; exact ⟨keep_cell hb7 (by assumption), keep_cell hb7 (by assumption)⟩)
        | (go_split_ands; exact ⟨keep_cell hb6 (by assumption), keep_cell hb6 (by assumption)⟩))
      (first
        | (go_at_call 21; refine (toLevel_any _ ns _ (by exact HN.out.keep HB5.out.drew) hlen HKL.out).mono ?_; rintro e w6 ⟨g6, rfl, hn6, hg6, hb6⟩)
        | (go_at_call 23; refine (eqLevel_any _ _ ns _ (by exact H5.out.keep ((Below.refl w5.heap.size w5).drew.trans hb6)) hn6.at).mono ?_; rintro e w7 ⟨rfl, hb7⟩))
    go_wp2_with fail
    go_ret
    exact ⟨rfl, HB5.out.drew.trans ((hb6.trans (hb7.mono hb6.size)).mono HB5.out.size)⟩

set_option maxRecDepth 100000 in
theorem ok_lifted (os : Os) (started : os.Started) (H : Type) (enc : TypeId × Value → H) :
    ReturnsInHanded {} Try.checked os 5 .any (Rows.fnExactLevelOkSpec.pre6 enc Try.prog Try.f5 Rows.fnExactLevelOkRow.domain false) (Rows.fnExactLevelOkSpec.post enc Try.prog Try.f5 false true false false) := by
  refine returnsInHanded_of_change (C := Try.checked) ok_own started (by kernel_rfl) Try.func5
    (ChangeSpec.witness6 (enc := enc) (C := Try.checked) false ⟨#[], #[.agg #[.slice none 0 0]], []⟩ 8 (by kernel_rfl) (by kernel_rfl) (by kernel_rfl) (by kernel_rfl)) ?_
  intro W base args ds gs before hval0 hW hcnd _
  have hval : ∀ (j : Nat) t v, Try.f5.params[j]? = some t → args[j]? = some v → Value.okWide Try.prog W .any base t v := hval0
  have hW' := hW
  obtain ⟨p, q, hA0, hV, rfl, hfz, hnd⟩ := hW
  have hA : DataW.TrodAll enc Try.prog W 0 (fun _ => true) true Try.f5.params.toList args.toList ds p := hA0
  rw [Try.params5] at hA hval
  obtain ⟨v0, vs0, d0, ds0, p0, q0, hargs, rfl, rfl, h0, r0⟩ := trodAll_cons hA
  obtain ⟨rfl, rfl, rfl⟩ := trodAll_nil r0
  obtain rfl : args = #[v0] := by cases args; simp_all
  obtain ⟨rfl, rfl⟩ := trodVars_none hV
  have k0 := h0
  have lt0 : ∀ x ∈ p0, x.block < W.heap.size := by obtain ⟨m, hm⟩ := k0; exact DataW.trod_lt m _ _ _ hm
  obtain ⟨v, rfl, ns, hns, hsz⟩ := open_level (hval 0 25 v0 rfl rfl) h0
  clear hA0 hval0
  refine (ok_walk v ns W hns hsz).mono fun e W' ⟨he, bel⟩ => ?_
  subst he
  exact ⟨_, rfl, _, _, _, [], _, [], hW', trodAll_mk1 (shut_bool Try.underlying4 _), (trodAll_cons_mk (Below.trod ok_laidOut (by kernel_rfl) (of_decide_eq_true (by kernel_rfl)) k0 bel lt0) trodAll_mk0), rfl, bel.frame _, fun h => by cases h⟩

theorem ok_over : Rows.fnExactLevelOkRow.holds Try.pinned (OpenSpec.ofChange Rows.fnExactLevelOkSpec) :=
  OpenClaim.holds_of_wide 5 Try.f5 rfl rfl rfl rfl rfl rfl rfl ⟨rfl, rfl, rfl, rfl, rfl⟩ rfl rfl rfl rfl rfl (by kernel_rfl) Try.func5 (by kernel_rfl)
    (of_decide_eq_true (by kernel_rfl)) (by unfold Func.isWrapper; first | (rw [if_pos (by decide +kernel)]; kernel_rfl) | (rw [if_neg (by decide +kernel)]; exact ⟨rfl, rfl⟩))
    (fun os started H enc _ => ok_lifted os started H enc)

theorem fnExactLevelOk_holds : Rows.FnExactLevelOkSaid :=
  ok_over
#print axioms fnExactLevelOk_holds
end Go.Proofs.Ytnifepmaijfllaa
