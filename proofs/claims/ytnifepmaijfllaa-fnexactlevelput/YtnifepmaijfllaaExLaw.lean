/- Proved: the law FnExactLevelPut answers true at every level, names and levels that can be read as data, and all read afterwards as before. No condition. -/
import Derived.Test.YtnifepmaijfllaaRows
import Derived.Test.YtnifepmaijfllaaExB
import Derived.Test.YtnifepmaijfllaaOpen
import Derived.Test.YtnifepmaijfllaaTOpen
import Derived.WalkKit
import Derived.ProofKit
import Derived.OpenShut
import Derived.ShutString
import Derived.ChangeOld
import Derived.Below
namespace Go.Proofs.Ytnifepmaijfllaa
open Go.ChangeShapes Go.WideShapes Go.ChangeAt Go.RowKit

theorem exl_own : ownKnob Try.prog.godebug = none := by kernel_rfl
theorem exl_laidOut : laidOutB Try.prog = true := by kernel_rfl

section
open Go.Deep
variable {H : Type} {enc : TypeId × Value → H} {W : World} {base : Nat} {held : Bool}
set_option maxRecDepth 100000 in
theorem ex_names {r : Reach} {b0 : Nat} {v : Value} {d : DataW H} {p : List MemPlace} (hv : Value.okWide Try.prog W r b0 34 v) (h : DataW.Trod enc Try.prog W base (fun _ => true) held 34 v d p) : ∃ ss, StrsAt W v ss ∧ ∀ s ∈ ss, s.size ≤ maxLen := by
  obtain ⟨a0, len0, cap0, rfl⟩ := okWide_slice Try.underlying34 hv
  obtain ⟨fuel, h⟩ := h
  rcases open_strs Try.underlying34 Try.underlying9 Try.cells9 h with ⟨hcs, _⟩ | ⟨a, len, cap, m, zs, hcs, _, hl, hm, hmm, _, hcell⟩
  · simp [Value.cells] at hcs
    obtain ⟨rfl, rfl, rfl⟩ := hcs
    exact ⟨[], ⟨none, 0, rfl, by simp, by unfold maxLen; omega, fun h => by simp at h⟩, by simp⟩
  · simp [Value.cells] at hcs hmm
    obtain ⟨rfl, rfl, rfl⟩ := hcs
    refine ⟨(List.range len0).map zs, ⟨some a, cap0, by simp, by simpa using hl, hm, fun h0 => ?_⟩, ?_⟩
    · have h0' : 0 < len0 := by simpa using h0
      have h1 := (hcell 0 (by omega)).1
      obtain ⟨b, off, rfl⟩ := addr_none h1
      refine ⟨b, off, rfl, fun j hj => ?_⟩
      have hj' : j < len0 := by simpa using hj
      have h2 := (hcell j (by omega)).1
      rw [Addr.add_lit] at h2
      rw [h2]
      simp
    · intro s hs
      simp only [List.mem_map, List.mem_range] at hs
      obtain ⟨i, hi, rfl⟩ := hs
      exact (hcell i (by omega)).2
set_option maxRecDepth 100000 in
theorem ex_lvs {r : Reach} {b0 : Nat} {v : Value} {d : DataW H} {p : List MemPlace} (hv : Value.okWide Try.prog W r b0 60 v) (h : DataW.Trod enc Try.prog W base (fun _ => true) held 60 v d p) : ∃ ls, LevsAt W v ls ∧ ∀ l ∈ ls, LvLens l := by
  obtain ⟨a0, len0, cap0, rfl⟩ := okWide_slice Try.underlying60 hv
  obtain ⟨fuel, h⟩ := h
  exact open_levs (v := .slice a0 len0 cap0) (by simpa [Value.cells] using h)
end

set_option maxRecDepth 100000 in
theorem exl_lifted (os : Os) (started : os.Started) (H : Type) (enc : TypeId × Value → H) :
    ReturnsInHanded {} Try.checked os 13 .any (Rows.fnExactLevelPutSpec.pre6 enc Try.prog Try.f13 Rows.fnExactLevelPutRow.domain false) (Rows.fnExactLevelPutSpec.post enc Try.prog Try.f13 false true false false) := by
  refine returnsInHanded_of_change (C := Try.checked) exl_own started (by kernel_rfl) Try.func13
    (ChangeSpec.witness6 (enc := enc) (C := Try.checked) false ⟨#[], #[.agg #[.slice none 0 0], .slice none 0 0, .slice none 0 0], []⟩ 8 (by kernel_rfl) (by kernel_rfl) (by kernel_rfl) (by kernel_rfl)) ?_
  intro W base args ds gs before hval0 hW hcnd _
  have hval : ∀ (j : Nat) t v, Try.f13.params[j]? = some t → args[j]? = some v → Value.okWide Try.prog W .any base t v := hval0
  have hW' := hW
  obtain ⟨p, q, hA0, hV, rfl, hfz, hnd⟩ := hW
  have hA : DataW.TrodAll enc Try.prog W 0 (fun _ => true) true Try.f13.params.toList args.toList ds p := hA0
  rw [Try.params13] at hA hval
  obtain ⟨v0, vs0, d0, ds0, p0, q0, hargs, rfl, rfl, h0, r0⟩ := trodAll_cons hA
  obtain ⟨v1, vs1, d1, ds1, p1, q1, rfl, rfl, rfl, h1, r1⟩ := trodAll_cons r0
  obtain ⟨v2, vs2, d2, ds2, p2, q2, rfl, rfl, rfl, h2, r2⟩ := trodAll_cons r1
  obtain ⟨rfl, rfl, rfl⟩ := trodAll_nil r2
  obtain rfl : args = #[v0, v1, v2] := by cases args; simp_all
  obtain ⟨rfl, rfl⟩ := trodVars_none hV
  have k0 := h0
  have k1 := h1
  have k2 := h2
  have lt0 : ∀ x ∈ p0, x.block < W.heap.size := by obtain ⟨m, hm⟩ := k0; exact DataW.trod_lt m _ _ _ hm
  have lt1 : ∀ x ∈ p1, x.block < W.heap.size := by obtain ⟨m, hm⟩ := k1; exact DataW.trod_lt m _ _ _ hm
  have lt2 : ∀ x ∈ p2, x.block < W.heap.size := by obtain ⟨m, hm⟩ := k2; exact DataW.trod_lt m _ _ _ hm
  obtain ⟨v, rfl, ns, hns, hsz⟩ := open_level (hval 0 25 v0 rfl rfl) h0
  obtain ⟨names, hss, hsn⟩ := ex_names (hval 1 34 v1 rfl rfl) h1
  obtain ⟨ls, hls, hlz⟩ := ex_lvs (hval 2 60 v2 rfl rfl) h2
  clear hA0 hval0
  refine (ex_walk v v1 v2 ns names ls W hns hsz hss hsn hls hlz).mono fun e W' ⟨he, bel⟩ => ?_
  subst he
  exact ⟨_, rfl, _, _, _, [], _, [], hW', trodAll_mk1 (shut_bool Try.underlying4 _), (trodAll_cons_mk (Below.trod exl_laidOut (by kernel_rfl) (of_decide_eq_true (by kernel_rfl)) k0 bel lt0) (trodAll_cons_mk (Below.trod exl_laidOut (by kernel_rfl) (of_decide_eq_true (by kernel_rfl)) k1 bel lt1) (trodAll_cons_mk (Below.trod exl_laidOut (by kernel_rfl) (of_decide_eq_true (by kernel_rfl)) k2 bel lt2) trodAll_mk0))), rfl, bel.frame _, fun h => by cases h⟩

theorem exl_over : Rows.fnExactLevelPutRow.holds Try.pinned (OpenSpec.ofChange Rows.fnExactLevelPutSpec) :=
  OpenClaim.holds_of_wide 13 Try.f13 rfl rfl rfl rfl rfl rfl rfl ⟨rfl, rfl, rfl, rfl, rfl⟩ rfl rfl rfl rfl rfl (by kernel_rfl) Try.func13 (by kernel_rfl)
    (of_decide_eq_true (by kernel_rfl)) (by unfold Func.isWrapper; first | (rw [if_pos (by decide +kernel)]; kernel_rfl) | (rw [if_neg (by decide +kernel)]; exact ⟨rfl, rfl⟩))
    (fun os started H enc _ => exl_lifted os started H enc)

theorem fnExactLevelPut_holds : Rows.FnExactLevelPutSaid :=
  exl_over
#print axioms fnExactLevelPut_holds
end Go.Proofs.Ytnifepmaijfllaa
