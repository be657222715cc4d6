/- Proved: the law FnExactSolve answers true at every number and every constraints that can be read as data, and both read afterwards as before. No condition. -/
import Derived.Test.YteedainidoldoaaSwJ
import Derived.OpenShut
import Derived.ShutString
import Derived.ChangeOld
import Derived.Below
namespace Go.Proofs.Yteedainidoldoaa
open Go.ChangeShapes Go.WideShapes Go.ChangeAt Go.RowKit

theorem solve_own : ownKnob Try.prog.godebug = none := by kernel_rfl
theorem solve_laidOut : laidOutB Try.prog = true := by kernel_rfl

set_option maxRecDepth 100000 in
set_option maxHeartbeats 8000000 in
theorem solve_walk (n : Int) (v : Value) (cs : List Cn) (w : World) (hns : ConsAt w v cs) :
    Calls Try.prog 3 #[.int .i64 n, v] w fun e w' => e = .returned (.bool true) ∧ Below w.heap.size w w' := by
  have HN := hide hns
  obtain ⟨a, cap, rfl, _, _, _⟩ := hns
  by_cases hbig : (1048576 : Int) < cs.length
  · have HL : Hid (leftOf 1048576 cs.length = -1) := by show leftOf _ _ = _; rw [leftOf, if_pos hbig]
    clear hbig
    go_enter Try.func3, Try.ntmps3
    go_wp2_with (go_at_call 6; refine (szConsS_any _ cs _ _ HN.out (by omega) (by omega)).mono ?_; rintro e w1 ⟨rfl, rfl⟩; rw [HL.out])
    go_ret
    exact ⟨rfl, Below.refl _ _⟩
  · obtain ⟨M, hM⟩ : ∃ M : Int, M = 1048576 - cs.length := ⟨_, rfl⟩
    have hM0 : 0 ≤ M := by omega
    have HL : Hid (leftOf 1048576 cs.length = M) := by show leftOf _ _ = _; rw [leftOf, if_neg hbig, hM]
    have hlen : cs.length ≤ 1048576 := by omega
    have dM : decide (M < 0) = false := by simp; omega
    have HSH := hide (sol_shape n cs)
    have HSP := hide (fun v W (h : ConsAt W v cs) => specSolve2 n v cs W h)
    have HIM := hide (fun v W (h : ConsAt W v cs) => implSolve_any n v cs W h)
    clear hbig hM
    obtain ⟨⟨r1, r2, b⟩, hr⟩ : ∃ r, solS n cs = r := ⟨_, rfl⟩
    rw [hr] at HSH HSP HIM
    clear hr
    have HR1 : Hid (r1.length ≤ 31) := HSH.out.1
    have HR2 : Hid (r2.length ≤ 31) := HSH.out.2.1
    have HR12 : Hid (r1 = [] ∨ r2 = []) := HSH.out.2.2
    have hbb : (b != b) = false := by simp
    clear HSH
    go_enter Try.func3, Try.ntmps3
    go_wp2_with (go_at_call 6; refine (szConsS_any _ cs _ _ HN.out (by omega) (by omega)).mono ?_; rintro e w1 ⟨rfl, rfl⟩; rw [HL.out])
    refine (toConsS_any _ cs _ HN.out hlen).mono ?_
    rintro e w1 ⟨g1, rfl, hn1, _, hb1⟩
    go_wp2_with fail
    refine (HSP.out _ _ hn1).mono ?_
    rintro e w2 ⟨v1, v2, rfl, hs1, hs2, hb2⟩
    have HS1 : Hid (IntsAt w2 v1 r1) := hs1
    have HS2 : Hid (IntsAt w2 v2 r2) := hs2
    have HB2 := hide (bel_trans hb1 hb2)
    clear hn1 hb1 hs1 hs2 hb2
    go_wp2_with fail
    refine (toConsS_own _ cs _ (HN.out.keep HB2.out) hlen).mono ?_
    rintro e w3 ⟨xs3, rfl, hown3, hx3, hb3⟩
    obtain ⟨g3, hg3⟩ : ∃ g3, g3 = w2.heap.size := ⟨_, rfl⟩
    rw [← hg3] at hown3 ⊢
    have HX := hide (ConsIn.all hown3 rfl hx3)
    have HO3 := hide hown3
    have HG3 : Hid (g3 = w2.heap.size) := hg3
    have HB3 := hide hb3
    have HG3L : Hid (g3 < w3.heap.size) := (World.ownsRow.lt hown3 g3 rfl).2
    clear hown3 hx3 hb3 hg3
    go_wp2_with fail
    refine (HIM.out _ _ HX.out).mono ?_
    rintro e w4 ⟨u1, u2, rfl, hu1, hu2, hb4⟩
    have HU1 : Hid (OwI w3.heap.size w4 u1 r1) := hu1
    have HU2 : Hid (OwI w3.heap.size w4 u2 r2) := hu2
    have HB24 := hide (HB3.out.trans (hb4.mono HB3.out.size))
    have HX4 := hide (HX.out.keep hb4)
    have HO4 := hide (row_keep hb4 HO3.out)
    have HL4 : Hid (w3.heap.size ≤ w4.heap.size) := hb4.size
    clear hu1 hu2 hb4 HX HO3 HB3
    go_wp2_with fail
    refine (eqIntS_any _ _ r1 _ HU1.out.at (HS1.out.keep HB24.out)).mono ?_
    rintro e w5 ⟨rfl, k5, rfl⟩
    go_wp2_with fail
    have hb5 : Below w4.heap.size w4 (w4.drewN k5) := below_drewN (Below.refl _ _) _
    refine (eqIntS_any _ _ r2 _ (HU2.out.at.keep hb5) ((HS2.out.keep HB24.out).keep hb5)).mono ?_
    rintro e w6 ⟨rfl, k6, rfl⟩
    have hb6 : Below w4.heap.size w4 ((w4.drewN k5).drewN k6) := below_drewN hb5 _
    have HB6 : Hid (Below w4.heap.size w4 ((w4.drewN k5).drewN k6)) := hb6
    clear hb5 hb6
    generalize (w4.drewN k5).drewN k6 = W6 at *
    go_wp2_with fail
    refine (toConsS_any _ cs _ (HN.out.keep (bel_trans HB2.out (HB24.out.trans (HB6.out.mono HB24.out.size)))) hlen).mono ?_
    rintro e w7 ⟨g7, rfl, hn7, _, hb7⟩
    have HB7 := hide (bel_trans HB6.out hb7)
    clear hb7
    go_wp2_with fail
    refine (eqConsS_any _ _ cs _ (HX4.out.keep HB7.out) hn7).mono ?_
    rintro e w8 ⟨rfl, hb8⟩
    have HB8 := hide (bel_trans HB7.out hb8)
    clear hb8 hn7 HB7 HB6
    go_wp2_with fail
    refine (markConsS_any g3 g3 cs.length cs.length 1 xs3 _ (row_keep HB8.out HO4.out) hlen (by omega)).mono ?_
    rintro e w9 ⟨rfl, hg9⟩
    have HU19 := hide ((HU1.out.keep HB8.out).chg hg9 HG3L.out)
    have HU29 := hide ((HU2.out.keep HB8.out).chg hg9 HG3L.out)
    have HB29 : Hid (Below w2.heap.size w2 w9) := ((HB24.out.trans (HB8.out.mono HB24.out.size))).grown hg9 (Nat.le_trans HB24.out.size HB8.out.size) (fun z hz => by cases hz; exact Nat.le_of_eq HG3.out.symm)
    have HL9 : Hid (w3.heap.size ≤ w9.heap.size) := Nat.le_trans HL4.out (Nat.le_trans HB8.out.size hg9.size)
    clear hg9 HB8 HX4 HO4 HL4 HU1 HU2 HB24
    have hk9 : ¬ (((1 + 3 * cs.length : Nat) : Int) < 0) := by omega
    go_wp2_with fail
    refine (eqIntS_any _ _ r1 _ HU19.out.at (HS1.out.keep HB29.out)).mono ?_
    rintro e w10 ⟨rfl, k10, rfl⟩
    go_wp2_with fail
    have hb10 : Below w9.heap.size w9 (w9.drewN k10) := below_drewN (Below.refl _ _) _
    refine (eqIntS_any _ _ r2 _ (HU29.out.at.keep hb10) ((HS2.out.keep HB29.out).keep hb10)).mono ?_
    rintro e w11 ⟨rfl, k11, rfl⟩
    have HB11 : Hid (Below w9.heap.size w9 ((w9.drewN k10).drewN k11)) := below_drewN hb10 _
    have HU111 := hide (HU19.out.keep HB11.out)
    have HU211 := hide (HU29.out.keep HB11.out)
    have HB211 := hide (HB29.out.trans (HB11.out.mono HB29.out.size))
    have HL11 : Hid (w3.heap.size ≤ ((w9.drewN k10).drewN k11).heap.size) := Nat.le_trans HL9.out HB11.out.size
    clear hb10 HB11 HB29 HU19 HU29 HL9
    generalize (w9.drewN k10).drewN k11 = W11 at *
    go_wp2_with fail
    refine (marks_one HU111.out HU211.out HL11.out HR1.out HR12.out).mono ?_
    rintro e w12 ⟨rfl, hm1, hm2, hm3, hb12⟩
    have HM1 := hide hm1
    have HM2 := hide hm2
    have HM3 := hide hm3
    have HB12 := hide hb12
    clear hm1 hm2 hm3 hb12 HU111 HU211
    obtain ⟨q1, hq1⟩ : ∃ q1, q1 = 1 + r1.length := ⟨_, rfl⟩
    have hq1l : q1 ≤ 32 := by have := HR1.out; omega
    rw [← hq1]
    have HQ1 := hide hq1
    clear hq1
    go_wp2_with fail
    refine (marks_two (k := q1) (n1 := r1.length) HM1.out HM2.out HM3.out (Nat.le_trans HL11.out HB12.out.size) HR2.out (by omega) rfl).mono ?_
    rintro e w13 ⟨rfl, hm4, hm5, hb13⟩
    have HM4 := hide hm4
    have HM5 := hide hm5
    have HB213 : Hid (Below w2.heap.size w2 w13) := HB211.out.trans ((HB12.out.trans hb13).mono (by have := HG3.out; have := HG3L.out; omega))
    clear hm4 hm5 hb13 HM1 HM2 HM3 HB12 HB211 HL11
    obtain ⟨q2, hq2⟩ : ∃ q2, q2 = q1 + r2.length := ⟨_, rfl⟩
    have hq2l : q2 ≤ 63 := by have := HR2.out; omega
    rw [← hq2]
    have HQ2 := hide hq2
    clear hq2
    have hq10 : ¬ ((q1 : Int) < 0) := by omega
    have hq20 : ¬ ((q2 : Int) < 0) := by omega
    have hqq : ((q2 : Int) != (q2 : Int)) = false := by simp
    go_wp2_with fail
    refine (heldIntS_any u1 r1.length 1 _ HM4.out (by have := HR1.out; omega) (by omega)).mono ?_
    rintro e w14 ⟨rfl, rfl⟩
    rw [← HQ1.out]
    go_wp2_with fail
    refine (heldIntS_any u2 r2.length q1 _ HM5.out (by have := HR2.out; omega) (by omega)).mono ?_
    rintro e w15 ⟨rfl, rfl⟩
    rw [← HQ2.out]
    go_wp2_with fail
    refine (toConsS_any _ cs _ (HN.out.keep (bel_trans HB2.out HB213.out)) hlen).mono ?_
    rintro e w16 ⟨g16, rfl, hn16, _, hb16⟩
    have HM46 := hide (HM4.out.keep hb16)
    have HM56 := hide (HM5.out.keep hb16)
    have HB216 := hide (HB213.out.trans (hb16.mono HB213.out.size))
    clear hb16 HM4 HM5 HB213
    go_wp2_with fail
    refine (HIM.out _ _ hn16).mono ?_
    rintro e w17 ⟨h1, h2, rfl, hh1, hh2, hb17⟩
    have HH1 : Hid (IntsAt w17 h1 r1) := OwI.at hh1
    have HH2 : Hid (IntsAt w17 h2 r2) := OwI.at hh2
    have HM47 := hide (HM46.out.keep hb17)
    have HM57 := hide (HM56.out.keep hb17)
    have HB217 := hide (HB216.out.trans (hb17.mono HB216.out.size))
    clear hh1 hh2 hb17 HM46 HM56 HB216 hn16
    go_wp2_with fail
    refine (eqIntS_any _ _ r1 _ HH1.out (HS1.out.keep HB217.out)).mono ?_
    rintro e w18 ⟨rfl, k18, rfl⟩
    go_wp2_with fail
    have hb18 : Below w17.heap.size w17 (w17.drewN k18) := below_drewN (Below.refl _ _) _
    refine (eqIntS_any _ _ r2 _ (HH2.out.keep hb18) ((HS2.out.keep HB217.out).keep hb18)).mono ?_
    rintro e w19 ⟨rfl, k19, rfl⟩
    have HB19 : Hid (Below w17.heap.size w17 ((w17.drewN k18).drewN k19)) := below_drewN hb18 _
    have HM49 := hide (HM47.out.keep HB19.out)
    have HM59 := hide (HM57.out.keep HB19.out)
    have HBE := hide (bel_trans HB2.out (HB217.out.trans (HB19.out.mono HB217.out.size)))
    clear hb18 HM47 HM57 HB19
    generalize (w17.drewN k18).drewN k19 = W19 at *
    go_wp2_with fail
    refine (heldIntS_any u1 r1.length 1 _ HM49.out (by have := HR1.out; omega) (by omega)).mono ?_
    rintro e w20 ⟨rfl, rfl⟩
    rw [← HQ1.out]
    go_wp2_with fail
    refine (heldIntS_any u2 r2.length q1 _ HM59.out (by have := HR2.out; omega) (by omega)).mono ?_
    rintro e w21 ⟨rfl, rfl⟩
    rw [← HQ2.out]
    go_wp2_with fail
    go_ret
    exact ⟨rfl, HBE.out⟩

set_option maxRecDepth 100000 in
theorem solve_lifted (os : Os) (started : os.Started) (H : Type) (enc : TypeId × Value → H) :
    ReturnsInHanded {} Try.checked os 3 .any (Rows.fnExactSolveSpec.pre6 enc Try.prog Try.f3 Rows.fnExactSolveRow.domain false) (Rows.fnExactSolveSpec.post enc Try.prog Try.f3 false true false false) := by
  refine returnsInHanded_of_change (C := Try.checked) solve_own started (by kernel_rfl) Try.func3
    (ChangeSpec.witness6 (enc := enc) (C := Try.checked) false ⟨#[], #[.int .i64 0, .slice none 0 0], []⟩ 8 (by kernel_rfl) (by kernel_rfl) (by kernel_rfl) (by kernel_rfl)) ?_
  intro W base args ds gs before hval0 hW hcnd _
  have hval : ∀ (j : Nat) t v, Try.f3.params[j]? = some t → args[j]? = some v → Value.okWide Try.prog W .any base t v := hval0
  have hW' := hW
  obtain ⟨p, q, hA0, hV, rfl, hfz, hnd⟩ := hW
  have hA : DataW.TrodAll enc Try.prog W 0 (fun _ => true) true Try.f3.params.toList args.toList ds p := hA0
  rw [Try.params3] at hA hval
  obtain ⟨v0, vs0, d0, ds0, p0, q0, hargs, rfl, rfl, h0, r0⟩ := trodAll_cons hA
  obtain ⟨v1, vs1, d1, ds1, p1, q1, rfl, rfl, rfl, h1, r1⟩ := trodAll_cons r0
  obtain ⟨rfl, rfl, rfl⟩ := trodAll_nil r1
  obtain rfl : args = #[v0, v1] := by cases args; simp_all
  obtain ⟨rfl, rfl⟩ := trodVars_none hV
  obtain ⟨n, rfl, rfl, rfl, wn⟩ := open_int Try.underlying3 (hval 0 3 v0 rfl rfl) h0
  have k1 := h1
  have lt1 : ∀ x ∈ p1, x.block < W.heap.size := by obtain ⟨m, hm⟩ := k1; exact DataW.trod_lt m _ _ _ hm
  obtain ⟨cs, hns⟩ := open_cons (hval 1 22 v1 rfl rfl) h1
  clear hA0 hval0
  refine (solve_walk n v1 cs W hns).mono fun e W' ⟨he, bel⟩ => ?_
  subst he
  exact ⟨_, rfl, _, _, _, [], _, [], hW', trodAll_mk1 (shut_bool Try.underlying4 _), (trodAll_cons_mk (shut_int Try.underlying3 wn) (trodAll_cons_mk (Below.trod solve_laidOut (by kernel_rfl) (of_decide_eq_true (by kernel_rfl)) k1 bel lt1) trodAll_mk0)), rfl, bel.frame _, fun h => by cases h⟩

theorem solve_over : Rows.fnExactSolveRow.holds Try.pinned (OpenSpec.ofChange Rows.fnExactSolveSpec) :=
  OpenClaim.holds_of_wide 3 Try.f3 rfl rfl rfl rfl rfl rfl rfl ⟨rfl, rfl, rfl, rfl, rfl⟩ rfl rfl rfl rfl rfl (by kernel_rfl) Try.func3 (by kernel_rfl)
    (of_decide_eq_true (by kernel_rfl)) (by unfold Func.isWrapper; first | (rw [if_pos (by decide +kernel)]; kernel_rfl) | (rw [if_neg (by decide +kernel)]; exact ⟨rfl, rfl⟩))
    (fun os started H enc _ => solve_lifted os started H enc)

theorem fnExactSolve_holds : Rows.FnExactSolveSaid :=
  solve_over
#print axioms fnExactSolve_holds
end Go.Proofs.Yteedainidoldoaa
