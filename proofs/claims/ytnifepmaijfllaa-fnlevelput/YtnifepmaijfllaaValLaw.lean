/- Proved: the law FnExactLevelValue answers true at every level, names and values that can be read as data, and all read afterwards as before. No condition. -/
import Derived.Test.YtnifepmaijfllaaRows
import Derived.Test.YtnifepmaijfllaaValI
import Derived.Test.YtnifepmaijfllaaEq
import Derived.Test.YtnifepmaijfllaaOpen
import Derived.WalkKit
import Derived.ProofKit
import Derived.OpenShut
import Derived.ShutString
import Derived.ChangeOld
import Derived.Below
namespace Go.Proofs.Ytnifepmaijfllaa
open Go.ChangeShapes Go.WideShapes Go.ChangeAt Go.RowKit

theorem val_own : ownKnob Try.prog.godebug = none := by kernel_rfl
theorem val_laidOut : laidOutB Try.prog = true := by kernel_rfl

section
open Go.Deep
variable {H : Type} {enc : TypeId × Value → H} {W : World} {base : Nat} {held : Bool}
set_option maxRecDepth 100000 in
theorem open_names {r : Reach} {b0 : Nat} {v : Value} {d : DataW H} {p : List MemPlace} (hv : Value.okWide Try.prog W r b0 34 v) (h : DataW.Trod enc Try.prog W base (fun _ => true) held 34 v d p) : ∃ ss, StrsAt W v ss ∧ ∀ s ∈ ss, s.size ≤ maxLen := by
  obtain ⟨a0, len0, cap0, rfl⟩ := okWide_slice Try.underlying34 hv
  obtain ⟨fuel, h⟩ := h
  rcases open_strs Try.underlying34 Try.underlying9 Try.cells9 h with ⟨hcs, _⟩ | ⟨a, len, cap, m, zs, hcs, _, hl, hm, hmm, _, hcell⟩
  · simp [Value.cells] at hcs
    obtain ⟨rfl, rfl, rfl⟩ := hcs
    exact ⟨[], ⟨none, 0, rfl, by simp, by unfold maxLen; omega, fun h => by simp at h⟩, by simp⟩
  · simp [Value.cells] at hcs hmm
    obtain ⟨rfl, rfl, rfl⟩ := hcs
    refine ⟨(List.range len0).map zs, ⟨some a, cap0, by simp, by simpa using hl, hm, fun h0 => ?_⟩, ?_⟩
    · have h0' : 0 < len0 := by simpa using h0
      have h1 := (hcell 0 (by omega)).1
      obtain ⟨b, off, rfl⟩ := addr_none h1
      refine ⟨b, off, rfl, fun j hj => ?_⟩
      have hj' : j < len0 := by simpa using hj
      have h2 := (hcell j (by omega)).1
      rw [Addr.add_lit] at h2
      rw [h2]
      simp
    · intro s hs
      simp only [List.mem_map, List.mem_range] at hs
      obtain ⟨i, hi, rfl⟩ := hs
      exact (hcell i (by omega)).2
set_option maxRecDepth 100000 in
theorem open_vals {r : Reach} {b0 : Nat} {v : Value} {d : DataW H} {p : List MemPlace} (hv : Value.okWide Try.prog W r b0 35 v) (h : DataW.Trod enc Try.prog W base (fun _ => true) held 35 v d p) : ∃ ks, IntsAt W v ks := by
  obtain ⟨a0, len0, cap0, rfl⟩ := okWide_slice Try.underlying35 hv
  obtain ⟨fuel, h⟩ := h
  exact open_kids (kv := .slice a0 len0 cap0) (by simpa [Value.cells] using h)
end

theorem val_kids {ns : List Nd} {n : Nat} (h : nsSum ns ≤ n) : ∀ nd ∈ ns, nd.kids.length ≤ n := by
  induction ns with
  | nil => simp
  | cons x ns ih =>
    intro nd hnd
    simp only [nsSum, ndSize] at h
    rcases List.mem_cons.1 hnd with rfl | h2
    · omega
    · exact ih (by omega) nd h2
theorem val_both (v vn vv : Value) (ns : List Nd) (names : List ByteArray) (vals : List Int) (w : World) (hns : NodesAt w v ns) (hsz : ∀ nd ∈ ns, nd.s.size ≤ maxLen) (hn : StrsAt w vn names) (hv : IntsAt w vv vals) :
    Calls Try.prog 25 #[.agg #[v], vn, vv] w fun e w' => (∃ r : Int × Bool, e = .returned (.tuple #[.int .i64 r.1, .bool r.2]) ∧ ∀ (u un uv : Value) (w2 : World), NodesAt w2 u ns → StrsAt w2 un names → IntsAt w2 uv vals → Calls Try.prog 28 #[.agg #[u], un, uv] w2 fun e2 w3 => e2 = .returned (.tuple #[.int .i64 r.1, .bool r.2]) ∧ Below w2.heap.size w2 w3) ∧ Below w.heap.size w w' := by
  refine (specValue_any v vn vv ns names vals w hns hsz hn hv).mono ?_
  rintro e w1 ⟨(⟨hl, rfl⟩ | ⟨hl, t, ht, rfl⟩), hb⟩
  · exact ⟨⟨(0, false), rfl, fun u un uv w2 h h2 h3 => implValue_bad u un uv ns names vals w2 h hsz h2 h3 hl⟩, hb⟩
  · exact ⟨⟨valueR t (namesOf ns) names vals, rfl, fun u un uv w2 h h2 h3 => implValue_any u un uv ns names vals w2 h hsz h2 h3 t hl ht⟩, hb⟩

set_option maxRecDepth 100000 in
set_option maxHeartbeats 4000000 in
theorem val_walk (v vn vv : Value) (ns : List Nd) (names : List ByteArray) (vals : List Int) (w : World) (hns : NodesAt w v ns) (hsz : ∀ nd ∈ ns, nd.s.size ≤ maxLen) (hn : StrsAt w vn names) (hnz : ∀ s ∈ names, s.size ≤ maxLen) (hv : IntsAt w vv vals) :
    Calls Try.prog 6 #[.agg #[v], vn, vv] w fun e w' => e = .returned (.bool true) ∧ Below w.heap.size w w' := by
  have HN := hide hns
  have HZ := hide hsz
  have HS := hide hn
  have HSZ := hide hnz
  have HV := hide hv
  obtain ⟨a, cap, rfl, _, _, _⟩ := hns
  obtain ⟨an, cn, rfl, _, _, _⟩ := hn
  obtain ⟨av, cv, rfl, _, _, _⟩ := hv
  clear hsz hnz
  have b0 : Hid (∀ o, Below w.heap.size w (w.alloc o)) := fun o => bel_alloc (Below.refl _ _) o
  by_cases hbigv : (1048576 : Int) < vals.length
  · go_enter Try.func6, Try.ntmps6
    go_wp2_with fail
    go_ret
    exact ⟨rfl, b0.out _⟩
  by_cases hbig : (1048576 : Int) < (ns.length + nsSum ns : Nat)
  · have HL : Hid (leftOf 1048576 (ns.length + nsSum ns) = -1) := by show leftOf _ _ = _; rw [leftOf, if_pos hbig]
    clear hbig
    go_enter Try.func6, Try.ntmps6
    go_wp2_with (go_at_call 19; refine (szLevel_any _ ns _ _ (HN.out.keep (b0.out _)) HZ.out (by omega) (by omega)).mono ?_; rintro e w1 ⟨rfl, hb⟩; rw [HL.out])
    go_ret
    exact ⟨rfl, (bel_alloc (Below.refl w.heap.size w) _).trans (hb.mono (by simp))⟩
  obtain ⟨M, hM⟩ : ∃ M : Int, M = 1048576 - (ns.length + nsSum ns : Nat) := ⟨_, rfl⟩
  have hM0 : 0 ≤ M := by omega
  have hM1 : M ≤ 1048576 := by omega
  have HL : Hid (leftOf 1048576 (ns.length + nsSum ns) = M) := by show leftOf _ _ = _; rw [leftOf, if_neg hbig, hM]
  have hlen : ns.length ≤ 1048576 := by omega
  have hlenv : vals.length ≤ 1048576 := by omega
  have hkl := val_kids (show nsSum ns ≤ 1048576 by omega)
  have HKL := hide hkl
  have dM : decide (M < 0) = false := by simp; omega
  clear hbig hM hkl
  by_cases hbigs : M < (names.length + strSum names : Nat)
  · have HL2 : Hid (leftOf M (names.length + strSum names) = -1) := by show leftOf _ _ = _; rw [leftOf, if_pos hbigs]
    clear hbigs
    go_enter Try.func6, Try.ntmps6
    go_wp2_with fail
    refine (szLevel_any _ ns _ _ (HN.out.keep (b0.out _)) HZ.out (by omega) (by omega)).mono ?_
    rintro e w1 ⟨rfl, hb1⟩
    rw [HL.out]
    have hbel1 := bel_trans (b0.out _) hb1
    clear hb1
    go_wp2_with (go_at_call 24; refine (szStringS_any _ names _ _ (HS.out.keep hbel1) HSZ.out hM0 hM1).mono ?_; rintro e w2 ⟨rfl, hw⟩; have hw := hw.symm; subst hw; rw [HL2.out])
    go_ret
    exact ⟨rfl, hbel1⟩
  · obtain ⟨M2, hM2⟩ : ∃ M2 : Int, M2 = M - (names.length + strSum names : Nat) := ⟨_, rfl⟩
    have HL2 : Hid (leftOf M (names.length + strSum names) = M2) := by show leftOf _ _ = _; rw [leftOf, if_neg hbigs, hM2]
    have hlens : names.length ≤ 1048576 := by omega
    have dM2 : decide (M2 < 0) = false := by simp; omega
    clear hbigs hM2
    go_enter Try.func6, Try.ntmps6
    go_wp2_with fail
    refine (szLevel_any _ ns _ _ (HN.out.keep (b0.out _)) HZ.out (by omega) (by omega)).mono ?_
    rintro e w1 ⟨rfl, hb1⟩
    rw [HL.out]
    have hbel1 := bel_trans (b0.out _) hb1
    have hx1 := keep_cell (b := w.heap.size) (o := 0) (v := .slice a ns.length cap) hb1 (by simp [go_sem])
    clear hb1
    go_wp2_with (go_at_call 24; refine (szStringS_any _ names _ _ (HS.out.keep hbel1) HSZ.out hM0 hM1).mono ?_; rintro e w2 ⟨rfl, hw⟩; have hw := hw.symm; subst hw; rw [HL2.out])
    refine (toLevel_any _ ns _ (HN.out.keep hbel1) hlen HKL.out).mono ?_
    rintro e w2 ⟨g2, rfl, hn2, hg2, hb2⟩
    have hx2 := keep_cell hb2 hx1
    have hbel2 := bel_trans hbel1 hb2
    have hl2 := hn2.at
    clear hb2 hx1 hbel1 hn2
    go_wp2_with fail
    refine (toStringS_any _ names _ (HS.out.keep hbel2) hlens).mono ?_
    rintro e w3 ⟨g3, rfl, hs3, hg3, hb3⟩
    have hx3 := keep_cell hb3 hx2
    have hbel3 := bel_trans hbel2 hb3
    have hl3 := hl2.keep hb3
    clear hb3 hx2 hbel2 hl2
    go_wp2_with fail
    refine (toIntS_any _ vals _ (HV.out.keep hbel3) hlenv).mono ?_
    rintro e w4 ⟨g4, rfl, hv4, hg4, hb4⟩
    have hx4 := keep_cell hb4 hx3
    have hbel4 := bel_trans hbel3 hb4
    have hl4 := hl3.keep hb4
    have hs4 := hs3.keep hb4
    clear hb4 hx3 hbel3 hl3 hs3
    go_wp2_with fail
    refine (val_both _ _ _ ns names vals _ hl4 HZ.out hs4 hv4).mono ?_
    rintro e w5 ⟨⟨⟨r1, r2⟩, rfl, hi⟩, hb5⟩
    have HI := hide hi
    have hx5 := keep_cell hb5 hx4
    have hbel5 := bel_trans hbel4 hb5
    clear hb5 hx4 hbel4 hl4 hs4 hv4 hi
    go_wp2_with fail
    refine (toLevel_any _ ns _ (HN.out.keep hbel5) hlen HKL.out).mono ?_
    rintro e w6 ⟨g6, rfl, hn6, hg6, hb6⟩
    have hx6 := keep_cell hb6 hx5
    have hbel6 := bel_trans hbel5 hb6
    have H6 := hide hn6.at
    clear hb6 hx5 hbel5 hn6
    go_wp2_with fail
    refine (toStringS_any _ names _ (HS.out.keep (bel_alloc hbel6 _)) hlens).mono ?_
    rintro e w7 ⟨g7, rfl, hs7, hg7, hb7⟩
    have hy7 := keep_cell (b := w6.heap.size) (o := 0) (v := .slice (some ⟨g6, 0, none⟩) ns.length ns.length) hb7 (by simp [go_sem])
    have hbw7 : Below w6.heap.size w6 w7 := bel_trans (bel_alloc (Below.refl _ _) _) hb7
    have hx7 := keep_cell hbw7 hx6
    have hbel7 := bel_trans hbel6 hbw7
    have hl7 := H6.out.keep hbw7
    clear hb7 hbw7 hx6 hbel6 H6
    go_wp2_with fail
    refine (toIntS_any _ vals _ (HV.out.keep hbel7) hlenv).mono ?_
    rintro e w8 ⟨g8, rfl, hv8, hg8, hb8⟩
    have hx8 := keep_cell hb8 hx7
    have hy8 := keep_cell hb8 hy7
    have hbel8 := bel_trans hbel7 hb8
    have hl8 := hl7.keep hb8
    have hs8 := hs7.keep hb8
    clear hb8 hx7 hy7 hbel7 hl7 hs7
    go_wp2_with fail
    refine (HI.out _ _ _ _ hl8 hs8 hv8).mono ?_
    rintro e w9 ⟨rfl, hb9⟩
    have hx9 := keep_cell hb9 hx8
    have hy9 := keep_cell hb9 hy8
    have hbel9 := bel_trans hbel8 hb9
    have H9 := hide (hl8.keep hb9)
    have HS9 := hide (hs8.keep hb9)
    have HV9 := hide (hv8.keep hb9)
    have HB9 := hide hbel9
    have q1 : (r1 != r1) = false := by simp
    have q2 : (r2 != r2) = false := by simp
    clear hb9 hx8 hy8 hbel8 hl8 hs8 hv8 hbel9
    go_wp2_with fail
    go_region_held3 (fun w' => w'.cell? ⟨w6.heap.size, 0, none⟩ = some (.slice (some ⟨g6, 0, none⟩) ns.length ns.length) ∧ w'.cell? ⟨w.heap.size, 0, none⟩ = some (.slice a ns.length cap))
      (first
        | go_keep
        | (go_split_ands; exact ⟨keep_cell hb11 (by assumption), keep_cell hb11 (by assumption)⟩)
        | (go_split_ands; exact ⟨keep_cell hb10 (by assumption), keep_cell hb10 (by assumption)⟩)
        | fail)
      (first
        | (go_at_call 21; refine (toLevel_any _ ns _ (by exact HN.out.keep HB9.out.drew) hlen HKL.out).mono ?_; rintro e w10 ⟨g10, rfl, hn10, hg10, hb10⟩)
        | (go_at_call 23; refine (eqLevel_any _ _ ns _ (by exact H9.out.keep ((Below.refl w9.heap.size w9).drew.trans hb10)) hn10.at).mono ?_; rintro e w11 ⟨rfl, hb11⟩)
        | fail)
    have hb911 : Below w9.heap.size w9 w11 := (Below.refl w9.heap.size w9).drew.trans (hb10.trans (hb11.mono hb10.size))
    have hbel11 := bel_trans HB9.out hb911
    have hs11 := HS9.out.keep hb911
    have HV11 := hide (HV9.out.keep hb911)
    clear hn10
    go_wp2_with fail
    refine (toStringS_any _ names _ (HS.out.keep hbel11) hlens).mono ?_
    rintro e w12 ⟨g12, rfl, hs12, hg12, hb12⟩
    have hbel12 := bel_trans hbel11 hb12
    have hs11' := hs11.keep hb12
    have HV12 := hide (HV11.out.keep hb12)
    clear hb12 hbel11 hs11
    go_wp2_with fail
    refine (eqStringS_any _ _ names _ hs11' hs12).mono ?_
    rintro e w13 ⟨rfl, n13, rfl⟩
    have hbel13 := below_drewN hbel12 n13
    have hv13 := HV12.out.keep (below_drewN (Below.refl _ _) n13)
    clear hbel12 hs11' hs12
    go_wp2_with fail
    refine (toIntS_any _ vals _ (HV.out.keep hbel13) hlenv).mono ?_
    rintro e w14 ⟨g14, rfl, hv14, hg14, hb14⟩
    have hbel14 := bel_trans hbel13 hb14
    have hv13' := hv13.keep hb14
    clear hb14 hbel13 hv13
    go_wp2_with fail
    refine (eqIntS_any _ _ vals _ hv13' hv14).mono ?_
    rintro e w15 ⟨rfl, n15, rfl⟩
    have hbel15 := below_drewN hbel14 n15
    clear hbel14 hv13' hv14
    go_wp2_with fail
    go_ret
    exact ⟨rfl, hbel15⟩

set_option maxRecDepth 100000 in
theorem val_lifted (os : Os) (started : os.Started) (H : Type) (enc : TypeId × Value → H) :
    ReturnsInHanded {} Try.checked os 6 .any (Rows.fnExactLevelValueSpec.pre6 enc Try.prog Try.f6 Rows.fnExactLevelValueRow.domain false) (Rows.fnExactLevelValueSpec.post enc Try.prog Try.f6 false true false false) := by
  refine returnsInHanded_of_change (C := Try.checked) val_own started (by kernel_rfl) Try.func6
    (ChangeSpec.witness6 (enc := enc) (C := Try.checked) false ⟨#[], #[.agg #[.slice none 0 0], .slice none 0 0, .slice none 0 0], []⟩ 8 (by kernel_rfl) (by kernel_rfl) (by kernel_rfl) (by kernel_rfl)) ?_
  intro W base args ds gs before hval0 hW hcnd _
  have hval : ∀ (j : Nat) t v, Try.f6.params[j]? = some t → args[j]? = some v → Value.okWide Try.prog W .any base t v := hval0
  have hW' := hW
  obtain ⟨p, q, hA0, hV, rfl, hfz, hnd⟩ := hW
  have hA : DataW.TrodAll enc Try.prog W 0 (fun _ => true) true Try.f6.params.toList args.toList ds p := hA0
  rw [Try.params6] at hA hval
  obtain ⟨v0, vs0, d0, ds0, p0, q0, hargs, rfl, rfl, h0, r0⟩ := trodAll_cons hA
  obtain ⟨v1, vs1, d1, ds1, p1, q1, rfl, rfl, rfl, h1, r1⟩ := trodAll_cons r0
  obtain ⟨v2, vs2, d2, ds2, p2, q2, rfl, rfl, rfl, h2, r2⟩ := trodAll_cons r1
  obtain ⟨rfl, rfl, rfl⟩ := trodAll_nil r2
  obtain rfl : args = #[v0, v1, v2] := by cases args; simp_all
  obtain ⟨rfl, rfl⟩ := trodVars_none hV
  have k0 := h0
  have k1 := h1
  have k2 := h2
  have lt0 : ∀ x ∈ p0, x.block < W.heap.size := by obtain ⟨m, hm⟩ := k0; exact DataW.trod_lt m _ _ _ hm
  have lt1 : ∀ x ∈ p1, x.block < W.heap.size := by obtain ⟨m, hm⟩ := k1; exact DataW.trod_lt m _ _ _ hm
  have lt2 : ∀ x ∈ p2, x.block < W.heap.size := by obtain ⟨m, hm⟩ := k2; exact DataW.trod_lt m _ _ _ hm
  obtain ⟨v, rfl, ns, hns, hsz⟩ := open_level (hval 0 25 v0 rfl rfl) h0
  obtain ⟨names, hss, hsn⟩ := open_names (hval 1 34 v1 rfl rfl) h1
  obtain ⟨vals, hks⟩ := open_vals (hval 2 35 v2 rfl rfl) h2
  clear hA0 hval0
  refine (val_walk v v1 v2 ns names vals W hns hsz hss hsn hks).mono fun e W' ⟨he, bel⟩ => ?_
  subst he
  exact ⟨_, rfl, _, _, _, [], _, [], hW', trodAll_mk1 (shut_bool Try.underlying4 _), (trodAll_cons_mk (Below.trod val_laidOut (by kernel_rfl) (of_decide_eq_true (by kernel_rfl)) k0 bel lt0) (trodAll_cons_mk (Below.trod val_laidOut (by kernel_rfl) (of_decide_eq_true (by kernel_rfl)) k1 bel lt1) (trodAll_cons_mk (Below.trod val_laidOut (by kernel_rfl) (of_decide_eq_true (by kernel_rfl)) k2 bel lt2) trodAll_mk0))), rfl, bel.frame _, fun h => by cases h⟩

theorem val_over : Rows.fnExactLevelValueRow.holds Try.pinned (OpenSpec.ofChange Rows.fnExactLevelValueSpec) :=
  OpenClaim.holds_of_wide 6 Try.f6 rfl rfl rfl rfl rfl rfl rfl ⟨rfl, rfl, rfl, rfl, rfl⟩ rfl rfl rfl rfl rfl (by kernel_rfl) Try.func6 (by kernel_rfl)
    (of_decide_eq_true (by kernel_rfl)) (by unfold Func.isWrapper; first | (rw [if_pos (by decide +kernel)]; kernel_rfl) | (rw [if_neg (by decide +kernel)]; exact ⟨rfl, rfl⟩))
    (fun os started H enc _ => val_lifted os started H enc)

theorem fnExactLevelValue_holds : Rows.FnExactLevelValueSaid :=
  val_over
#print axioms fnExactLevelValue_holds
end Go.Proofs.Ytnifepmaijfllaa
