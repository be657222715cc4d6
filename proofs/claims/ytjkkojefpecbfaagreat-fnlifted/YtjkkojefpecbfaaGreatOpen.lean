/- FnLifted's walk. -/
import Derived.Test.YtjkkojefpecbfaaGreatDrY
import Derived.Test.YtjkkojefpecbfaaGreatSpF
import Derived.Test.YtjkkojefpecbfaaGreatApS
import Derived.Test.YtjkkojefpecbfaaGreatSmall
import Derived.Deep.Slices
import Derived.Deep.Strs
import Derived.Lib.SmallJoins
namespace Go.Proofs.YtjkkojefpecbfaaGreat
open Go.ChangeShapes Go.WideShapes Go.ChangeAt Go.RowKit

theorem lift_case {ts : List Td} {T : Tt} (h : (liftA ts T 0 1).2 = 0) : termB ts = true ∧ ∃ U, fitT (liftR 1 T 0) = some U ∧ (liftA ts T 0 1).1 = U.flat 0 := by
  unfold liftA at h ⊢
  split at h
  · rename_i hc
    rw [if_pos hc]
    refine ⟨hc.1, ?_⟩
    cases hf : fitT (liftR 1 T 0) with
    | none => rw [hf] at h; exact absurd h (by decide)
    | some U => exact ⟨U, rfl, rfl⟩
  · exact absurd h (by decide)
set_option maxRecDepth 20000 in
set_option maxHeartbeats 16000000 in
theorem fnLifted_walk (a : Option Addr) (bs : List UInt8) (cap : Nat) (w : World) (h : CodeAt w a bs) (hn : bs.length ≤ cap) (hc : cap ≤ maxLen) :
    Calls Tryz.prog 10 #[.slice a bs.length cap] w fun e w' => e = .returned (.bool true) ∧ Below w.heap.size w w' := by
  obtain ⟨ρ, hρ⟩ : ∃ ρ : Pl, ρ = ⟨bs.take 1000, 0⟩ := ⟨_, rfl⟩
  have HDR : Hid (∀ w2 : World, Below w.heap.size w w2 → Calls Tryz.prog 44 #[.slice a bs.length cap] w2 fun e w' => ∃ v1 v2, e = .returned (.tuple #[.agg #[v1], .agg #[v2]]) ∧ FrT w2.heap.size w' v1 (dp1 ρ) ∧ FrT w2.heap.size w' v2 (dp2 ρ) ∧ Below w2.heap.size w2 w' ∧ LvQ (dp1 ρ) ∧ LvQ (dp2 ρ)) := fun w2 hb => by rw [hρ]; exact drawPut_any a bs cap w2 (h.keep hb) hn hc
  obtain ⟨T, hT⟩ := tree_for (dp1 ρ)
  obtain ⟨TA, hTA⟩ := tree_for (dp2 ρ)
  have HT := hide hT
  have HTA := hide hTA
  clear h hρ hT hTA
  go_enter Tryz.func10, Tryz.ntmps10
  by_cases hbig : 1048576 < bs.length
  · have d1 : decide ((1048576 : Int) < (bs.length : Int)) = true := by simp; omega
    go_wp2_with fail
    go_ret
    exact ⟨rfl, Below.refl _ _⟩
  have d1 : decide ((1048576 : Int) < (bs.length : Int)) = false := by simp; omega
  go_wp2_with fail
  refine (HDR.out w (Below.refl _ _)).mono ?_
  rintro e w1 ⟨v1, v2, rfl, hf1, hf2, hb1, hq1, hq2⟩
  obtain ⟨a1, cap1, rfl⟩ := hf1.form
  obtain ⟨a2, cap2, rfl⟩ := hf2.form
  have HSZ := hide (szt_dp1 hq1)
  have HSA := hide (szt_dp2 hq2)
  have HSP : Hid (T.flat 0 = dp1 ρ → T.all szP) := fun e => szp_dp1 e hq1
  generalize dp1 ρ = ts at *
  generalize dp2 ρ = aa at *
  have HN1 := hide hf1.at
  have HM1 := hide hf2.at
  clear hf1 hf2 hq1 hq2
  obtain ⟨W2, hW2⟩ : ∃ W2, W2 = (w1.alloc (.cells #[.slice a1 ts.length cap1] 28)).alloc (.cells #[.slice a2 aa.length cap2] 28) := ⟨_, rfl⟩
  have hb2 : Below w1.heap.size w1 W2 := by rw [hW2]; exact bel_alloc (bel_alloc (Below.refl _ _) _) _
  have c3 : W2.cell? ⟨w1.heap.size, 0, none⟩ = some (.slice a1 ts.length cap1) := by rw [hW2]; simp [go_sem]
  have c4 : W2.cell? ⟨w1.heap.size + 1, 0, none⟩ = some (.slice a2 aa.length cap2) := by rw [hW2]; simp [go_sem]
  have HN2 := hide (HN1.out.keep hb2)
  have HM2 := hide (HM1.out.keep hb2)
  have HB2 := hide (bel_trans hb1 hb2)
  have hs1 := hb1.size
  have hs2 := hb2.size
  clear hb1 hb2 HN1 HM1
  go_upto_region 4 with fail
  rw [← hW2]
  clear hW2
  have l3 := lt_cell c3
  have l4 := lt_cell c4
  obtain ⟨A, hA⟩ : ∃ A, A = liftA ts T 0 1 := ⟨_, rfl⟩
  have HAE := hide hA
  clear hA
  have HC2 := hide (implLift_any _ ts T 0 1 W2 HN2.out (fun td hm => (HSZ.out td hm).1) (fun td hm => (HSZ.out td hm).2.1) (fun td hm => (HSZ.out td hm).2.2) HT.out)
  rw [← HAE.out] at HC2
  go_wp2_with fail
  refine HC2.out.mono ?_
  rintro e w3 ⟨⟨vu, rfl, htu⟩, hb3⟩
  obtain ⟨au, cu, rfl⟩ := htu.form
  have HU3 := hide htu.nodes
  have HN3 := hide (HN2.out.keep hb3)
  have HM3 := hide (HM2.out.keep hb3)
  have c3 := keep_cell hb3 c3
  have c4 := keep_cell hb3 c4
  have HB3 := hide (bel_trans HB2.out hb3)
  have hs3 := hb3.size
  clear htu hb3 HN2 HM2 HB2 HC2 l3 l4
  obtain ⟨W4, hW4⟩ : ∃ W4, W4 = w3.alloc (.cells #[.slice au A.1.length cu] 28) := ⟨_, rfl⟩
  have hb4 : Below w3.heap.size w3 W4 := by rw [hW4]; exact bel_alloc (Below.refl _ _) _
  have c5 : W4.cell? ⟨w3.heap.size, 0, none⟩ = some (.slice au A.1.length cu) := by rw [hW4]; simp [go_sem]
  have HU4 := hide (HU3.out.keep hb4)
  have HN4 := hide (HN3.out.keep hb4)
  have HM4 := hide (HM3.out.keep hb4)
  have c3 := keep_cell hb4 c3
  have c4 := keep_cell hb4 c4
  have HB4 := hide (bel_trans HB3.out hb4)
  have hs4 := hb4.size
  clear hb4 HU3 HN3 HM3 HB3
  go_upto_region 5 with fail
  rw [← hW4]
  clear hW4
  have HC4 := hide (specLift_any _ ts T 0 1 W4 HN4.out (fun td hm => (HSZ.out td hm).1) (fun td hm => (HSZ.out td hm).2.1.1) HT.out)
  rw [← HAE.out] at HC4
  have l3 := lt_cell c3
  have l4 := lt_cell c4
  have l5 := lt_cell c5
  go_wp2_with fail
  refine HC4.out.mono ?_
  rintro e w5 ⟨⟨vs, rfl, hts⟩, hb5⟩
  obtain ⟨asp, csp, rfl⟩ := hts.form
  have HU5 := hide (HU4.out.keep hb5)
  have HM5 := hide (HM4.out.keep hb5)
  have c4 := keep_cell hb5 c4
  have c5 := keep_cell hb5 c5
  have HB5 := hide (bel_trans HB4.out hb5)
  have hs5 := hb5.size
  clear hts hb5 HU4 HN4 HM4 HB4 HC4 l3 l4 l5 c3
  obtain ⟨W6, hW6⟩ : ∃ W6, W6 = w5.alloc (.cells #[.slice asp A.1.length csp] 28) := ⟨_, rfl⟩
  have hb6 : Below w5.heap.size w5 W6 := by rw [hW6]; exact bel_alloc (Below.refl _ _) _
  have HU6 := hide (HU5.out.keep hb6)
  have HM6 := hide (HM5.out.keep hb6)
  have c4 := keep_cell hb6 c4
  have c5 := keep_cell hb6 c5
  have HB6 := hide (bel_trans HB5.out hb6)
  have hs6 := hb6.size
  clear hb6 HU5 HM5 HB5
  go_upto_region 6 with fail
  rw [← hW6]
  clear hW6
  have l4 := lt_cell c4
  have l5 := lt_cell c5
  have HLC : Hid (A.2 = 0 → termB ts = true ∧ ∃ U, fitT (liftR 1 T 0) = some U ∧ A.1 = U.flat 0) := by show _ → _; rw [HAE.out]; exact fun e => lift_case e
  clear HAE
  obtain ⟨lt, lc⟩ := A
  dsimp only at *
  by_cases hz : lc = 0
  · obtain ⟨hv, U, hfU, hlt⟩ := HLC.out hz
    subst hz
    obtain ⟨hTe, hTn⟩ := HT.out hv
    obtain ⟨hUe, hUn, hUc, hUt⟩ := lift_valid hTn hfU
    have hTc : T.cnt ≤ 20000 := by rw [← T.flat_len 0, hTe]; exact len_of hv
    have HSU : Hid (∀ td ∈ lt, SzT td) := by show ∀ td ∈ lt, SzT td; rw [hlt, hUe]; exact szt_flat (lift_all var_sz 1 T 0 (HSP.out hTe))
    have HUU : Hid (usesT lt 0 = 0) := by show _ = _; rw [hlt]; exact uses_none hTn hUe hUt
    have HPU : Hid (termB aa = true → putA lt aa U TA = (ts, 0)) := fun ha => by rw [hlt]; exact lift_put hTn hTe hTc hUe hUt ha
    have HTU : Hid (TreeFor lt U) := fun _ => ⟨hlt.symm, hUn⟩
    have HC6 := hide (specTermOk_any _ aa W6 HM6.out (fun td hm => (HSA.out td hm).1) (fun td hm => (HSA.out td hm).2.1.1))
    clear hv hfU hlt hTe hTn hUe hUn hUc hUt hTc HLC HT HSP
    cases hva : termB aa with
    | false =>
      rw [hva] at HC6
      go_wp2_with fail
      refine HC6.out.mono ?_
      rintro e w7 ⟨rfl, hb7⟩
      have HB7 := hide (bel_trans HB6.out hb7)
      clear hb7
      go_wp2_with fail
      go_ret
      exact ⟨rfl, HB7.out⟩
    | true =>
      rw [hva] at HC6
      have HP := hide (HPU.out hva)
      go_wp2_with fail
      refine HC6.out.mono ?_
      rintro e w7 ⟨rfl, hb7⟩
      have HB7 := hide (bel_trans HB6.out hb7)
      have HU7 := hide (HU6.out.keep hb7)
      have HM7 := hide (HM6.out.keep hb7)
      have c4 := keep_cell hb7 c4
      have c5 := keep_cell hb7 c5
      have l4 := lt_cell c4
      have l5 := lt_cell c5
      have hs7 := hb7.size
      have HC7 := hide (implPut_any _ _ lt aa U TA w7 HU7.out HM7.out (fun td hm => (HSU.out td hm).1) (fun td hm => (HSA.out td hm).1) (fun td hm => (HSU.out td hm).2.1) (fun td hm => (HSA.out td hm).2.1) (fun td hm => (HSU.out td hm).2.2) (fun td hm => (HSA.out td hm).2.2) HTU.out HTA.out)
      rw [HP.out] at HC7
      clear hb7 HC6 HU6 HM6 HB6 HPU HP hva
      go_wp2_with fail
      refine HC7.out.mono ?_
      rintro e w8 ⟨⟨vd, rfl, htd⟩, hb8⟩
      obtain ⟨ad, cd, rfl⟩ := htd.form
      have HD8 := hide htd.nodes
      have HU8 := hide (HU7.out.keep hb8)
      have c5 := keep_cell hb8 c5
      have HB8 := hide (bel_trans HB7.out hb8)
      have hs8 := hb8.size
      clear htd hb8 HC7 HU7 HM7 HB7 l4 l5 c4
      obtain ⟨W9, hW9⟩ : ∃ W9, W9 = w8.alloc (.cells #[.slice ad ts.length cd] 28) := ⟨_, rfl⟩
      have hb9 : Below w8.heap.size w8 W9 := by rw [hW9]; exact bel_alloc (Below.refl _ _) _
      have c9 : W9.cell? ⟨w8.heap.size, 0, none⟩ = some (.slice ad ts.length cd) := by rw [hW9]; simp [go_sem]
      have HD9 := hide (HD8.out.keep hb9)
      have HU9 := hide (HU8.out.keep hb9)
      have c5 := keep_cell hb9 c5
      have HB9 := hide (bel_trans HB8.out hb9)
      have hs9 := hb9.size
      clear hb9 HD8 HU8 HB8
      go_upto_region 9 with fail
      rw [← hW9]
      clear hW9
      go_wp2_with fail
      refine (HDR.out W9 HB9.out).mono ?_
      rintro e w10 ⟨v10, v11, rfl, hf10, hf11, hb10, hq10, hq11⟩
      obtain ⟨a10, cap10, rfl⟩ := hf10.form
      obtain ⟨a11, cap11, rfl⟩ := hf11.form
      have HE10 := hide hf10.at
      have HD10 := hide (HD9.out.keep hb10)
      have HU10 := hide (HU9.out.keep hb10)
      have c5 := keep_cell hb10 c5
      have c9 := keep_cell hb10 c9
      have HB10 := hide (bel_trans HB9.out hb10)
      have hs10 := hb10.size
      clear hf10 hf11 hb10 hq10 hq11 HD9 HU9 HB9
      obtain ⟨W11, hW11⟩ : ∃ W11, W11 = (w10.alloc (.cells #[.slice a10 ts.length cap10] 28)).alloc (.cells #[.slice a11 aa.length cap11] 28) := ⟨_, rfl⟩
      have hb11 : Below w10.heap.size w10 W11 := by rw [hW11]; exact bel_alloc (bel_alloc (Below.refl _ _) _) _
      have c11 : W11.cell? ⟨w10.heap.size, 0, none⟩ = some (.slice a10 ts.length cap10) := by rw [hW11]; simp [go_sem]
      have HE11 := hide (HE10.out.keep hb11)
      have HD11 := hide (HD10.out.keep hb11)
      have HU11 := hide (HU10.out.keep hb11)
      have c5 := keep_cell hb11 c5
      have c9 := keep_cell hb11 c9
      have HB11 := hide (bel_trans HB10.out hb11)
      have hs11 := hb11.size
      clear hb11 HE10 HD10 HU10 HB10
      go_upto_region 10 with fail
      rw [← hW11]
      clear hW11
      have l5 := lt_cell c5
      have l9 := lt_cell c9
      have l11 := lt_cell c11
      go_wp2_with fail
      refine (eqTerm_any _ _ ts W11 HD11.out HE11.out).mono ?_
      rintro e w12 ⟨rfl, hb12⟩
      have c5 := keep_cell hb12 c5
      have l5 := lt_cell c5
      have HB12 := hide (bel_trans HB11.out hb12)
      have HC12 := hide (implUses_any _ lt 0 w12 (HU11.out.keep hb12) (fun td hm => (HSU.out td hm).1) (fun td hm => (HSU.out td hm).2.1) (fun td hm => (HSU.out td hm).2.2))
      rw [HUU.out] at HC12
      clear hb12 HE11 HD11 HU11 HB11
      go_wp2_with fail
      refine HC12.out.mono ?_
      rintro e w13 ⟨rfl, hb13⟩
      have HB13 := hide (bel_trans HB12.out hb13)
      clear hb13
      go_wp2_with fail
      go_ret
      exact ⟨rfl, HB13.out⟩
  · have dz : (lc == 0) = false := beq_eq_false_iff_ne.2 hz
    have hz2 : ¬ lc = 0 := hz
    clear HLC
    go_wp2_with fail
    go_ret
    exact ⟨rfl, HB6.out⟩
end Go.Proofs.YtjkkojefpecbfaaGreat

/- How a level that comes in as an argument is read: whatever was read as one lies in memory as a row of nodes. -/
namespace Go.Proofs.YtjkkojefpecbfaaGreat
open Go.ChangeShapes Go.WideShapes Go.ChangeAt Go.RowKit Go.Deep

section
variable {H : Type} {enc : TypeId × Value → H} {W : World} {base : Nat} {held : Bool}

theorem addr_none {w : World} {a : Addr} {v : Value} (h : w.cell? (a.add 0) = some v) : ∃ b off, a = ⟨b, off, none⟩ := by
  obtain ⟨b, off, spot⟩ := a
  have hs := World.cell?_spot h
  simp [Addr.add] at hs
  exact ⟨b, off, by rw [hs]⟩
end
end Go.Proofs.YtjkkojefpecbfaaGreat
