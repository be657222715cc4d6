/- Proved: the law FnExactSumOf answers true at every row of bytes, and the row reads afterwards as before. No condition. -/
import Derived.Test.YtnocjdncofbgcaaSum
import Derived.OpenShut
import Derived.ShutString
import Derived.ChangeOld
import Derived.Below
namespace Go.Proofs.Ytnocjdncofbgcaa
open Go.ChangeShapes Go.WideShapes Go.ChangeAt Go.RowKit

theorem sum_own : ownKnob Try.prog.godebug = none := by kernel_rfl
theorem sum_laidOut : laidOutB Try.prog = true := by kernel_rfl
theorem addr_none {w : World} {a : Addr} {v : Value} (h : w.cell? (a.add 0) = some v) : ∃ b off, a = ⟨b, off, none⟩ := by
  obtain ⟨b, off, spot⟩ := a
  have hs := World.cell?_spot h
  simp [Addr.add] at hs
  exact ⟨b, off, by rw [hs]⟩

theorem open_bytes {H : Type} {enc : TypeId × Value → H} {W : World} {base : Nat} {held : Bool} {r : Reach} {b0 : Nat} {v : Value} {d : DataW H} {p : List MemPlace} (hv : Value.okWide Try.prog W r b0 22 v) (h : DataW.Trod enc Try.prog W base (fun _ => true) held 22 v d p) : ∃ ks, BytesAt W v ks ∧ Small ks := by
  obtain ⟨a0, len0, cap0, rfl⟩ := okWide_slice Try.underlying22 hv
  obtain ⟨fuel, h⟩ := h
  rcases open_ints Try.underlying22 Try.underlying5 (by kernel_rfl) h with ⟨hcs, _⟩ | ⟨a, len, cap, zs, hcs, _, hl, hm, hz, _, hcell, hw⟩
  · simp [Value.cells] at hcs
    obtain ⟨rfl, rfl, rfl⟩ := hcs
    exact ⟨[], ⟨none, 0, rfl, by simp, by unfold maxLen; omega, fun h => by simp at h⟩, fun n hn => by simp at hn⟩
  · simp [Value.cells] at hcs hz
    obtain ⟨rfl, rfl, rfl⟩ := hcs
    have hlen : (zs.take len0).length = len0 := by simp; omega
    refine ⟨zs.take len0, ⟨some a, cap0, by rw [hlen], by omega, hm, fun h0 => ?_⟩, fun n hn => ?_⟩
    · have h1 := hcell 0 (by omega)
      obtain ⟨b, off, rfl⟩ := addr_none h1
      refine ⟨b, off, rfl, fun j hj => ?_⟩
      have h2 := hcell j (by omega)
      rw [Addr.add_lit] at h2
      rw [h2]
      simp [List.getD, show j < zs.length from by omega]
    · have := hw n (List.mem_of_mem_take hn)
      simp [Lit.wf, IntKind.min, IntKind.max] at this
      simp [IntKind.signed, IntKind.bits] at this
      omega

set_option maxRecDepth 100000 in
set_option maxHeartbeats 2000000 in
theorem sum_walk (u : Value) (ks : List Int) (w : World) (hks : BytesAt w u ks) (hs : Small ks) :
    Calls Try.prog 3 #[u] w fun e w' => e = .returned (.bool true) ∧ Below w.heap.size w w' := by
  have HK := hide hks
  have HS := hide hs
  obtain ⟨a1, cap1, rfl, hlc, hcm, _⟩ := hks
  clear hs
  unfold maxLen at hcm
  by_cases hbig1 : (1048576 : Int) < ks.length
  · go_enter Try.func3, Try.ntmps3
    go_wp2_with fail
    go_ret
    exact ⟨rfl, Below.refl _ _⟩
  have hlen : ks.length ≤ 1048576 := by omega
  obtain ⟨S, hS⟩ : ∃ S, sumTo ks ks.length = S := ⟨_, rfl⟩
  have HE := hide hS
  clear hS
  go_enter Try.func3, Try.ntmps3
  go_wp2_with fail
  refine (toByteS_any _ ks _ HK.out hlen).mono ?_
  rintro e w1 ⟨g1, rfl, hk1, hg1, hb1⟩
  go_wp2_with fail
  refine (specSum_any _ ks _ hk1 HS.out).mono ?_
  rintro e w2 ⟨rfl, rfl⟩
  rw [HE.out]
  clear hk1
  go_wp2_with fail
  refine (toByteS_any _ ks _ (HK.out.keep hb1) hlen).mono ?_
  rintro e w3 ⟨g3, rfl, hk3, hg3, hb3⟩
  have hbel3 := bel_trans hb1 hb3
  clear hb1 hb3
  go_wp2_with fail
  refine (implSum_any _ ks _ hk3 HS.out).mono ?_
  rintro e w4 ⟨rfl, rfl⟩
  rw [HE.out]
  have hself : (S != S) = false := by simp
  go_wp2_with fail
  refine (toByteS_any _ ks _ (HK.out.keep hbel3) hlen).mono ?_
  rintro e w5 ⟨g5, rfl, hk5, hg5, hb5⟩
  have hk3' := hk3.keep hb5
  have hbel5 := bel_trans hbel3 hb5
  clear hb5 hbel3 hk3
  go_wp2_with fail
  refine (eqByteS_any _ _ ks _ hk3' hk5).mono ?_
  rintro e w6 ⟨rfl, n6, rfl⟩
  have hbel6 := below_drewN hbel5 n6
  clear hbel5 hk3' hk5
  go_wp2_with fail
  go_ret
  exact ⟨rfl, hbel6⟩

set_option maxRecDepth 100000 in
theorem sum_lifted (os : Os) (started : os.Started) (H : Type) (enc : TypeId × Value → H) :
    ReturnsInHanded {} Try.checked os 3 .any (Rows.fnExactSumOfSpec.pre6 enc Try.prog Try.f3 Rows.fnExactSumOfRow.domain false) (Rows.fnExactSumOfSpec.post enc Try.prog Try.f3 false true false false) := by
  refine returnsInHanded_of_change (C := Try.checked) sum_own started (by kernel_rfl) Try.func3
    (ChangeSpec.witness6 (enc := enc) (C := Try.checked) false ⟨#[], #[.slice none 0 0], []⟩ 8 (by kernel_rfl) (by kernel_rfl) (by kernel_rfl) (by kernel_rfl)) ?_
  intro W base args ds gs before hval0 hW hcnd _
  have hval : ∀ (j : Nat) t v, Try.f3.params[j]? = some t → args[j]? = some v → Value.okWide Try.prog W .any base t v := hval0
  have hW' := hW
  obtain ⟨p, q, hA0, hV, rfl, hfz, hnd⟩ := hW
  have hA : DataW.TrodAll enc Try.prog W 0 (fun _ => true) true Try.f3.params.toList args.toList ds p := hA0
  rw [Try.params3] at hA hval
  obtain ⟨v0, vs0, d0, ds0, p0, q0, hargs, rfl, rfl, h0, r0⟩ := trodAll_cons hA
  obtain ⟨rfl, rfl, rfl⟩ := trodAll_nil r0
  obtain rfl : args = #[v0] := by cases args; simp_all
  obtain ⟨rfl, rfl⟩ := trodVars_none hV
  have k0 := h0
  have lt0 : ∀ x ∈ p0, x.block < W.heap.size := by obtain ⟨m, hm⟩ := k0; exact DataW.trod_lt m _ _ _ hm
  obtain ⟨ks, hks, hsm⟩ := open_bytes (hval 0 22 v0 rfl rfl) h0
  clear hA0 hval0
  refine (sum_walk v0 ks W hks hsm).mono fun e W' ⟨he, bel⟩ => ?_
  subst he
  exact ⟨_, rfl, _, _, _, [], _, [], hW', trodAll_mk1 (shut_bool Try.underlying4 _), (trodAll_cons_mk (Below.trod sum_laidOut (by kernel_rfl) (of_decide_eq_true (by kernel_rfl)) k0 bel lt0) trodAll_mk0), rfl, bel.frame _, fun h => by cases h⟩

theorem sum_over : Rows.fnExactSumOfRow.holds Try.pinned (OpenSpec.ofChange Rows.fnExactSumOfSpec) :=
  OpenClaim.holds_of_wide 3 Try.f3 rfl rfl rfl rfl rfl rfl rfl ⟨rfl, rfl, rfl, rfl, rfl⟩ rfl rfl rfl rfl rfl (by kernel_rfl) Try.func3 (by kernel_rfl)
    (of_decide_eq_true (by kernel_rfl)) (by unfold Func.isWrapper; first | (rw [if_pos (by decide +kernel)]; kernel_rfl) | (rw [if_neg (by decide +kernel)]; exact ⟨rfl, rfl⟩))
    (fun os started H enc _ => sum_lifted os started H enc)

theorem fnExactSumOf_holds : Rows.FnExactSumOfSaid :=
  sum_over
#print axioms fnExactSumOf_holds
end Go.Proofs.Ytnocjdncofbgcaa
