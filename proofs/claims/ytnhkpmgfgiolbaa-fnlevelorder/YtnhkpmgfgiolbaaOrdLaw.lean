/- Proved: the law FnLevelOrder answers true at all bytes that can be read as data, and they read afterwards as before. No condition. -/
import Derived.Test.YtnhkpmgfgiolbaaRows
import Derived.Test.YtnhkpmgfgiolbaaOrder
import Derived.Test.YtnhkpmgfgiolbaaDrLeq
import Derived.Test.YtnhkpmgfgiolbaaLwN
import Derived.Test.YtnhkpmgfgiolbaaLeqLaw
import Derived.Test.YtnhkpmgfgiolbaaValLaw
import Derived.Test.YtnhkpmgfgiolbaaOkLaw
import Derived.WalkKit
import Derived.ProofKit
import Derived.OpenShut
import Derived.ShutString
import Derived.ChangeOld
import Derived.Below
namespace Go.Proofs.Ytnhkpmgfgiolbaa
open Go.ChangeShapes Go.WideShapes Go.ChangeAt Go.RowKit

theorem ord_own : ownKnob Try.prog.godebug = none := by kernel_rfl
theorem ord_laidOut : laidOutB Try.prog = true := by kernel_rfl
theorem ok_join {ns1 ns2 ns3 : List Nd} {t1 t2 : Tr} (h1 : OkTree ns1 t1) (h2 : OkTree ns2 t2) (h3 : ns3 = (Tr.two 3 ⟨#[]⟩ t1 t2).flat 0) (hl : lvlB ns3 = true) : OkTree ns3 (.two 3 ⟨#[]⟩ t1 t2) := by
  obtain ⟨b1, b2⟩ := lvl_bounds hl
  have hok : (Tr.two 3 ⟨#[]⟩ t1 t2).ok := ⟨.inl rfl, empty_ok 3 (by decide), h1.2.1, h2.2.1⟩
  refine ⟨h3, hok, ?_, ?_, b1, b2⟩
  · rw [Tr.names_flat _ 0 [] hok, h3]; rfl
  · rw [h3, Tr.flat_len]
theorem CodeAt.keep {w w' : World} {a : Option Addr} {n : Nat} (h : CodeAt w a n) (hb : Below w.heap.size w w') : CodeAt w' a n := fun h0 => by
  obtain ⟨b, off, h1, h2⟩ := h h0
  refine ⟨b, off, h1, fun j hj => ?_⟩
  obtain ⟨q, h3, h4⟩ := h2 j hj
  exact ⟨q, keep_cell hb h3, h4⟩
/-- The numbers of two levels one of which is below the other. -/
theorem value_le {ns1 ns2 : List Nd} {t1 t2 : Tr} (h1 : OkTree ns1 t1) (h2 : OkTree ns2 t2) (h : casesLeq (namesOf ns1) t1.it t2.it = true) {names : List ByteArray} {vals : List Int} (hv : ∀ x ∈ vals, 0 ≤ x) (p : (valueR t1 (namesOf ns1) names vals).2 = true) (q : (valueR t2 (namesOf ns2) names vals).2 = true) : (valueR t1 (namesOf ns1) names vals).1 ≤ (valueR t2 (namesOf ns2) names vals).1 := by
  unfold valueR at *
  split at p
  · split at q
    · rename_i c1 c2
      rw [if_pos c1, if_pos c2]
      exact leq_all h1 h2 h _ (fun s => by
        unfold valAt
        rw [List.getD_eq_getElem?_getD]
        cases e : vals[(atS names s).toNat]? with
        | none => simp
        | some x => exact hv x (List.mem_of_getElem? e))
    · cases q
  · cases p
theorem value_snd {t t' : Tr} {own names : List ByteArray} {vals : List Int} : (valueR t own names vals).2 = (valueR t' own names vals).2 := by
  unfold valueR; split <;> rfl
theorem strs11 {w : World} {g : Nat} (h : ∀ j (hj : j < names11.length), w.cell? ⟨g, j, none⟩ = some (.string names11[j])) : StrsAt w (.slice (some ⟨g, 0, none⟩) 11 11) names11 :=
  ⟨some ⟨g, 0, none⟩, 11, rfl, by decide, by unfold maxLen; omega, fun _ => ⟨g, 0, rfl, fun j hj => by rw [Nat.zero_add]; exact h j hj⟩⟩

set_option maxRecDepth 100000 in
set_option maxHeartbeats 8000000 in
theorem ord_walk (a : Option Addr) (n cap : Nat) (w : World) (h : CodeAt w a n) (hn : n ≤ cap) (hc : cap ≤ maxLen) :
    Calls Try.prog 10 #[.slice a n cap] w fun e w' => e = .returned (.bool true) ∧ Below w.heap.size w w' := by
  have HC := hide h
  clear h
  by_cases hbig : 1048576 < n
  · have d0 : decide ((1048576 : Int) < (n : Int)) = true := by simp; omega
    have hm := hc
    unfold maxLen at hm
    go_enter Try.func10, Try.ntmps10
    go_wp2_with fail
    go_ret
    exact ⟨rfl, Below.refl _ _⟩
  have d0 : decide ((1048576 : Int) < (n : Int)) = false := by simp; omega
  have HCM := hide hc
  unfold maxLen at hc
  go_enter Try.func10, Try.ntmps10
  go_wp2_with fail
  refine (drawLeq_any a n cap _ HC.out hn HCM.out).mono ?_
  rintro e w1 ⟨ga, ca, na, gb, cb, nb, rfl, hla, hlb, hb1⟩
  obtain ⟨W2, hW2⟩ : ∃ W2, W2 = (w1.alloc (.cells #[.slice (some ⟨ga, 0, none⟩) na.length ca] 30)).alloc (.cells #[.slice (some ⟨gb, 0, none⟩) nb.length cb] 30) := ⟨_, rfl⟩
  have hbA : Below w1.heap.size w1 W2 := by rw [hW2]; exact bel_alloc (bel_alloc (Below.refl _ _) _) _
  have HA := hide (hla.keep hbA).nodes
  have HB := hide (hlb.keep hbA).nodes
  have HZA := hide hla.sz
  have HZB := hide hlb.sz
  have HBW := hide (bel_trans hb1 hbA)
  have xa : W2.cell? ⟨w1.heap.size, 0, none⟩ = some (.slice (some ⟨ga, 0, none⟩) na.length ca) := by rw [hW2]; simp [go_sem]
  have xb : W2.cell? ⟨w1.heap.size + 1, 0, none⟩ = some (.slice (some ⟨gb, 0, none⟩) nb.length cb) := by rw [hW2]; simp [go_sem]
  clear hla hlb hb1 hbA
  obtain ⟨la, hla⟩ : ∃ la, la = w1.heap.size := ⟨_, rfl⟩
  go_upto_region 4 with fail
  rw [← hW2]
  rw [← hla] at xa xb ⊢
  clear hW2 hla
  go_wp2_with fail
  refine (specLeq_any _ _ na nb _ HA.out HB.out HZA.out HZB.out).mono ?_
  rintro e w3 ⟨hres, hb3⟩
  have xa := keep_cell hb3 xa
  have xb := keep_cell hb3 xb
  have HA := hide (HA.out.keep hb3)
  have HB := hide (HB.out.keep hb3)
  have HBW := hide (bel_trans HBW.out hb3)
  clear hb3
  rcases hres with ⟨hbad, rfl⟩ | ⟨hl1, hl2, t1, t2, ht1, ht2, rfl⟩
  · have HBAD := hide hbad
    go_wp2_with fail
    refine (implLevelLeq_bad _ _ na nb _ HA.out HB.out HZA.out HZB.out HBAD.out).mono ?_
    rintro e w4 ⟨rfl, hb4⟩
    have xa := keep_cell hb4 xa
    have xb := keep_cell hb4 xb
    have HA := hide (HA.out.keep hb4)
    have HB := hide (HB.out.keep hb4)
    have HBW := hide (bel_trans HBW.out hb4)
    clear hb4
    go_wp2_with fail
    refine (specLevelOk_any _ na _ HA.out HZA.out).mono ?_
    rintro e w5 ⟨rfl, hb5⟩
    have xb := keep_cell hb5 xb
    have HB := hide (HB.out.keep hb5)
    have HBW := hide (bel_trans HBW.out hb5)
    clear hb5
    cases hla : lvlB na with
    | false =>
      clear hbad
      go_wp2_with fail
      go_ret
      exact ⟨rfl, HBW.out⟩
    | true =>
      have hlb : lvlB nb = false := by
        rcases hbad with h | h
        · rw [hla] at h; cases h
        · exact h
      have HLB := hide hlb
      clear hbad hlb hla
      go_wp2_with fail
      refine (specLevelOk_any _ nb _ HB.out HZB.out).mono ?_
      rintro e w6 ⟨rfl, hb6⟩
      have HBW := hide (bel_trans HBW.out hb6)
      rw [HLB.out]
      clear hb6
      go_wp2_with fail
      go_ret
      exact ⟨rfl, HBW.out⟩
  rw [← leq_same ht1 ht2]
  have HT1 := hide ht1
  have HT2 := hide ht2
  have HL1 := hide hl1
  have HL2 := hide hl2
  obtain ⟨R, hR⟩ : ∃ R, casesLeq (namesOf na) t1.it t2.it = R := ⟨_, rfl⟩
  have HR := hide hR
  rw [hR]
  clear hR ht1 ht2 hl1 hl2
  go_wp2_with fail
  refine (implLevelLeq_any _ _ na nb t1 t2 _ HA.out HB.out HZA.out HZB.out HL1.out HL2.out HT1.out HT2.out).mono ?_
  rintro e w4 ⟨rfl, hb4⟩
  rw [HR.out]
  have xa := keep_cell hb4 xa
  have xb := keep_cell hb4 xb
  have HA := hide (HA.out.keep hb4)
  have HB := hide (HB.out.keep hb4)
  have HBW := hide (bel_trans HBW.out hb4)
  have hself : (R != R) = false := by simp
  clear hb4
  go_wp2_with fail
  refine (specLevelOk_any _ na _ HA.out HZA.out).mono ?_
  rintro e w5 ⟨rfl, hb5⟩
  rw [HL1.out]
  have xa := keep_cell hb5 xa
  have xb := keep_cell hb5 xb
  have HA := hide (HA.out.keep hb5)
  have HB := hide (HB.out.keep hb5)
  have HBW := hide (bel_trans HBW.out hb5)
  clear hb5
  go_wp2_with fail
  refine (specLevelOk_any _ nb _ HB.out HZB.out).mono ?_
  rintro e w6 ⟨rfl, hb6⟩
  rw [HL2.out]
  have xa := keep_cell hb6 xa
  have xb := keep_cell hb6 xb
  have HA := hide (HA.out.keep hb6)
  have HB := hide (HB.out.keep hb6)
  have HBW := hide (bel_trans HBW.out hb6)
  clear hb6 hself
  have hna : na = t1.flat 0 := HT1.out.1
  have hnb : nb = t2.flat 0 := HT2.out.1
  have hc1 : t1.cnt = na.length := HT1.out.2.2.2.1
  have hc2 : t2.cnt = nb.length := HT2.out.2.2.2.1
  have hb1 := HT1.out.2.2.2.2.1
  have hb2 := HT2.out.2.2.2.2.1
  have hp1 := t1.cnt_pos
  have hp2 := t2.cnt_pos
  have HKA : Hid (∀ nd ∈ na, nd.kids.length ≤ 2) := by show ∀ nd ∈ na, _; rw [hna]; exact t1.flat_kids 0
  have HKB : Hid (∀ nd ∈ nb, nd.kids.length ≤ 2) := by show ∀ nd ∈ nb, _; rw [hnb]; exact t2.flat_kids 0
  have HRB : Hid (∀ nd ∈ nb, ∀ k ∈ nd.kids, 0 ≤ k ∧ k < 1000) := by
    show ∀ nd ∈ nb, _
    intro nd hnd k hk
    rw [hnb] at hnd
    have := flat_rng t2 0 nd hnd k hk
    omega
  have HJ : Hid (na ++ nb.map (shiftN na.length) ++ [⟨3, ⟨#[]⟩, [((na.length - 1 : Nat) : Int), ((na.length + nb.length - 1 : Nat) : Int)]⟩] = (Tr.two 3 ⟨#[]⟩ t1 t2).flat 0) := by
    show _ = _
    rw [join_flat, ← hna, ← hnb, hc1, hc2]
  have HSZ : Hid (∀ nd ∈ na ++ nb.map (shiftN na.length) ++ [⟨3, ⟨#[]⟩, [((na.length - 1 : Nat) : Int), ((na.length + nb.length - 1 : Nat) : Int)]⟩], nd.s.size ≤ maxLen) := by
    show ∀ nd ∈ _, _
    intro nd hnd
    simp only [List.mem_append, List.mem_map, List.mem_singleton] at hnd
    rcases hnd with (h | ⟨x, hx, rfl⟩) | h
    · exact HZA.out nd h
    · exact HZB.out x hx
    · subst h; show (0 : Nat) ≤ maxLen; unfold maxLen; omega
  have hlen3 : (na ++ nb.map (shiftN na.length) ++ [⟨3, ⟨#[]⟩, [((na.length - 1 : Nat) : Int), ((na.length + nb.length - 1 : Nat) : Int)]⟩] : List Nd).length = na.length + nb.length + 1 := by simp; omega
  have HP1 := hide (show 0 < na.length by omega)
  have HP2 := hide (show 0 < nb.length by omega)
  have HLE1 := hide hb1
  have HLE2 := hide hb2
  have HLEN3 := hide hlen3
  clear hna hnb hc1 hc2 hb1 hb2 hp1 hp2 hlen3
  go_wp2_with fail
  refine (lwNode_any _ _ na nb _ HA.out HB.out HLE1.out HLE2.out HP1.out HP2.out HKA.out HKB.out HRB.out).mono ?_
  rintro e w7 ⟨g7, cap7, rfl, hn7, hb7⟩
  have HN7 := hide hn7.nodes
  generalize na ++ nb.map (shiftN na.length) ++ [⟨3, ⟨#[]⟩, [((na.length - 1 : Nat) : Int), ((na.length + nb.length - 1 : Nat) : Int)]⟩] = n3 at *
  have xa := keep_cell hb7 xa
  have xb := keep_cell hb7 xb
  have HA := hide (HA.out.keep hb7)
  have HB := hide (HB.out.keep hb7)
  have HBW := hide (bel_trans HBW.out hb7)
  rw [← HLEN3.out]
  clear hb7 hn7
  obtain ⟨W8, hW8⟩ : ∃ W8, W8 = w7.alloc (.cells #[.slice (some ⟨g7, 0, none⟩) n3.length cap7] 30) := ⟨_, rfl⟩
  have hb8 : Below w7.heap.size w7 W8 := by rw [hW8]; exact bel_alloc (Below.refl _ _) _
  have xa := keep_cell hb8 xa
  have xb := keep_cell hb8 xb
  have HA := hide (HA.out.keep hb8)
  have HB := hide (HB.out.keep hb8)
  have HN := hide (HN7.out.keep hb8)
  have HBW := hide (bel_trans HBW.out hb8)
  have xt : W8.cell? ⟨w7.heap.size, 0, none⟩ = some (.slice (some ⟨g7, 0, none⟩) n3.length cap7) := by rw [hW8]; simp [go_sem]
  clear hb8 HN7
  go_upto_region 10 with fail
  rw [← hW8]
  clear hW8
  obtain ⟨lt, hlt⟩ : ∃ lt, lt = w7.heap.size := ⟨_, rfl⟩
  rw [← hlt] at xt ⊢
  clear hlt
  go_cut [59] from 46 to 58 (fun u wx => u = .bool false ∧ Hid (Below W8.heap.size W8 wx))
  case first =>
    go_wp2_with fail
    refine (specLevelOk_any _ n3 _ HN.out HSZ.out).mono ?_
    rintro e w9 ⟨rfl, hb9⟩
    cases hl3 : lvlB n3 with
    | false =>
      have HB9 := hide hb9
      clear hb9
      go_wp2_with fail
      go_meet
      exact ⟨rfl, HB9.out⟩
    | true =>
      have HL3 := hide hl3
      have HT3 := hide (ok_join HT1.out HT2.out HJ.out hl3)
      have xa := keep_cell hb9 xa
      have xb := keep_cell hb9 xb
      have xt := keep_cell hb9 xt
      have HA := hide (HA.out.keep hb9)
      have HB := hide (HB.out.keep hb9)
      have HN := hide (HN.out.keep hb9)
      have HB9 := hide hb9
      have HOJ := hide (show (Tr.two 3 ⟨#[]⟩ t1 t2).ok from HT3.out.2.1)
      have HC1 := hide (leq_join HT1.out HT3.out HJ.out HOJ.out (.inl rfl))
      have HC2 := hide (leq_join HT2.out HT3.out HJ.out HOJ.out (.inr rfl))
      clear hb9 hl3
      go_wp2_with fail
      refine (implLevelLeq_any _ _ na n3 t1 (.two 3 ⟨#[]⟩ t1 t2) _ HA.out HN.out HZA.out HSZ.out HL1.out HL3.out HT1.out HT3.out).mono ?_
      rintro e w10 ⟨rfl, hb10⟩
      rw [HC1.out]
      have xb := keep_cell hb10 xb
      have xt := keep_cell hb10 xt
      have HB := hide (HB.out.keep hb10)
      have HN := hide (HN.out.keep hb10)
      have HB9 := hide (bel_trans HB9.out hb10)
      clear hb10
      go_wp2_with fail
      refine (implLevelLeq_any _ _ nb n3 t2 (.two 3 ⟨#[]⟩ t1 t2) _ HB.out HN.out HZB.out HSZ.out HL2.out HL3.out HT2.out HT3.out).mono ?_
      rintro e w11 ⟨rfl, hb11⟩
      rw [HC2.out]
      have HB9 := hide (bel_trans HB9.out hb11)
      clear hb11
      go_wp2_with fail
      go_meet
      exact ⟨rfl, HB9.out⟩
  case rest =>
    obtain ⟨rfl, HBC⟩ := hcut
    have xa := keep_cell HBC.out xa
    have xb := keep_cell HBC.out xb
    have HA := hide (HA.out.keep HBC.out)
    have HB := hide (HB.out.keep HBC.out)
    have HBW := hide (bel_trans HBW.out HBC.out)
    have HCC := hide (HC.out.keep HBW.out)
    clear HBC xt HN
    go_wp2_with fail
    refine (lwValues_any a n cap _ HCC.out hn (by omega)).mono ?_
    rintro e w12 ⟨g12, gv, cv, vs, rfl, hvl, hvr, hcn, hov, hb12⟩
    have xa := keep_cell hb12 xa
    have xb := keep_cell hb12 xb
    have HA := hide (HA.out.keep hb12)
    have HB := hide (HB.out.keep hb12)
    have HBW := hide (bel_trans HBW.out hb12)
    have HSN := hide (strs11 hcn)
    have HIV := hide (show IntsAt w12 (.slice (some ⟨gv, 0, none⟩) vs.length cv) vs from (show KidRow _ w12 (.slice (some ⟨gv, 0, none⟩) vs.length cv) vs from hov).ints)
    have HVR := hide (show ∀ x ∈ vs, 0 ≤ x from fun x hx => (hvr x hx).1)
    clear hb12 hcn hov hvr hvl
    obtain ⟨r1, hr1⟩ : ∃ r, valueR t1 (namesOf na) names11 vs = r := ⟨_, rfl⟩
    obtain ⟨r2, hr2⟩ : ∃ r, valueR t2 (namesOf nb) names11 vs = r := ⟨_, rfl⟩
    have HR1 := hide hr1
    have HR2 := hide hr2
    have HLE : Hid (R = true → r1.2 = true → r2.2 = true → r1.1 ≤ r2.1) := by
      show R = true → _
      intro h p q
      rw [← hr1, ← hr2] at *
      exact value_le HT1.out HT2.out (HR.out.trans h) HVR.out p q
    clear hr1 hr2
    go_wp2_with fail
    refine (implValue_any _ _ _ na names11 vs _ HA.out HZA.out HSN.out HIV.out t1 HL1.out HT1.out).mono ?_
    rintro e w13 ⟨rfl, hb13⟩
    rw [HR1.out]
    have xa := keep_cell hb13 xa
    have xb := keep_cell hb13 xb
    have HA := hide (HA.out.keep hb13)
    have HB := hide (HB.out.keep hb13)
    have HSN := hide (HSN.out.keep hb13)
    have HIV := hide (HIV.out.keep hb13)
    have HBW := hide (bel_trans HBW.out hb13)
    clear hb13
    unfold pairV
    go_wp2_with fail
    refine (implValue_any _ _ _ nb names11 vs _ HB.out HZB.out HSN.out HIV.out t2 HL2.out HT2.out).mono ?_
    rintro e w14 ⟨rfl, hb14⟩
    rw [HR2.out]
    have xa := keep_cell hb14 xa
    have xb := keep_cell hb14 xb
    have HA := hide (HA.out.keep hb14)
    have HB := hide (HB.out.keep hb14)
    have HSN := hide (HSN.out.keep hb14)
    have HIV := hide (HIV.out.keep hb14)
    have HBW := hide (bel_trans HBW.out hb14)
    clear hb14
    unfold pairV
    go_wp2_with fail
    refine (specValue_any _ _ _ na names11 vs _ HA.out HZA.out HSN.out HIV.out).mono ?_
    rintro e w15 ⟨hres, hb15⟩
    obtain ⟨z1, hz1, hz2⟩ : ∃ z : Int, e = .returned (.tuple #[.int .i64 z, .bool r1.2]) ∧ True := by
      rcases hres with ⟨hf, _⟩ | ⟨_, t', _, rfl⟩
      · rw [HL1.out] at hf; cases hf
      · exact ⟨(valueR t' (namesOf na) names11 vs).1, by rw [← HR1.out, value_snd (t := t1) (t' := t')]; rfl, trivial⟩
    subst hz1
    have xb := keep_cell hb15 xb
    have HB := hide (HB.out.keep hb15)
    have HSN := hide (HSN.out.keep hb15)
    have HIV := hide (HIV.out.keep hb15)
    have HBW := hide (bel_trans HBW.out hb15)
    clear hb15 hres hz2
    go_wp2_with fail
    refine (specValue_any _ _ _ nb names11 vs _ HB.out HZB.out HSN.out HIV.out).mono ?_
    rintro e w16 ⟨hres, hb16⟩
    obtain ⟨z2, hz3, hz4⟩ : ∃ z : Int, e = .returned (.tuple #[.int .i64 z, .bool r2.2]) ∧ True := by
      rcases hres with ⟨hf, _⟩ | ⟨_, t', _, rfl⟩
      · rw [HL2.out] at hf; cases hf
      · exact ⟨(valueR t' (namesOf nb) names11 vs).1, by rw [← HR2.out, value_snd (t := t2) (t' := t')]; rfl, trivial⟩
    subst hz3
    have HBW := hide (bel_trans HBW.out hb16)
    clear hb16 hres hz4
    obtain ⟨x1, p1⟩ := r1
    obtain ⟨x2, p2⟩ := r2
    simp only at HLE ⊢
    cases R with
    | false =>
      cases p1 <;> cases p2 <;> (go_wp2_with fail; go_ret; exact ⟨rfl, HBW.out⟩)
    | true =>
      cases p1 with
      | false => cases p2 <;> (go_wp2_with fail; go_ret; exact ⟨rfl, HBW.out⟩)
      | true =>
        cases p2 with
        | false => go_wp2_with fail; go_ret; exact ⟨rfl, HBW.out⟩
        | true =>
          have hle : decide (x1 ≤ x2) = true := decide_eq_true (HLE.out rfl rfl rfl)
          go_wp2_with fail
          go_ret
          exact ⟨rfl, HBW.out⟩

section
open Go.Deep
variable {H : Type} {enc : TypeId × Value → H} {W : World} {base : Nat} {held : Bool}
set_option maxRecDepth 100000 in
theorem open_code {r : Reach} {b0 : Nat} {v : Value} {d : DataW H} {p : List MemPlace} (hv : Value.okWide Try.prog W r b0 46 v) (h : DataW.Trod enc Try.prog W base (fun _ => true) held 46 v d p) : ∃ a n cap, v = .slice a n cap ∧ n ≤ cap ∧ cap ≤ maxLen ∧ CodeAt W a n := by
  obtain ⟨a0, len0, cap0, rfl⟩ := okWide_slice Try.underlying46 hv
  obtain ⟨fuel, h⟩ := h
  have h' : DataW.trod enc Try.prog W base (fun _ => true) held fuel 46 [.slice a0 len0 cap0] = some (d, p) := by simpa [Value.cells] using h
  rcases open_ints Try.underlying46 Try.underlying5 (by kernel_rfl) h' with ⟨hcs, _⟩ | ⟨a, len, cap, zs, hcs, _, hl, hm, hz, _, hcell, hwf⟩
  · simp at hcs
    obtain ⟨rfl, rfl, rfl⟩ := hcs
    exact ⟨none, 0, 0, rfl, Nat.le_refl _, by unfold maxLen; omega, fun h => by omega⟩
  · simp at hcs hz
    obtain ⟨rfl, rfl, rfl⟩ := hcs
    refine ⟨some a, len0, cap0, rfl, by omega, hm, fun h0 => ?_⟩
    have h1 := hcell 0 (by omega)
    obtain ⟨b, off, rfl⟩ := addr_none h1
    refine ⟨b, off, rfl, fun j hj => ?_⟩
    have h2 := hcell j (by omega)
    rw [Addr.add_lit] at h2
    have hjz : j < zs.length := by omega
    have h3 := hwf zs[j] (List.getElem_mem hjz)
    have h4 : IntKind.u8.min = 0 := by decide
    have h5 : IntKind.u8.max = 255 := by decide
    simp only [Lit.wf, Bool.and_eq_true, decide_eq_true_eq] at h3
    refine ⟨zs[j], ?_, ?_⟩
    · rw [h2]; simp [List.getD, hjz]
    · omega
end

set_option maxRecDepth 100000 in
theorem ord_lifted (os : Os) (started : os.Started) (H : Type) (enc : TypeId × Value → H) :
    ReturnsInHanded {} Try.checked os 10 .any (Rows.fnLevelOrderSpec.pre6 enc Try.prog Try.f10 Rows.fnLevelOrderRow.domain false) (Rows.fnLevelOrderSpec.post enc Try.prog Try.f10 false true false false) := by
  refine returnsInHanded_of_change (C := Try.checked) ord_own started (by kernel_rfl) Try.func10
    (ChangeSpec.witness6 (enc := enc) (C := Try.checked) false ⟨#[], #[.slice none 0 0], []⟩ 8 (by kernel_rfl) (by kernel_rfl) (by kernel_rfl) (by kernel_rfl)) ?_
  intro W base args ds gs before hval0 hW hcnd _
  have hval : ∀ (j : Nat) t v, Try.f10.params[j]? = some t → args[j]? = some v → Value.okWide Try.prog W .any base t v := hval0
  have hW' := hW
  obtain ⟨p, q, hA0, hV, rfl, hfz, hnd⟩ := hW
  have hA : DataW.TrodAll enc Try.prog W 0 (fun _ => true) true Try.f10.params.toList args.toList ds p := hA0
  rw [Try.params10] at hA hval
  obtain ⟨v0, vs0, d0, ds0, p0, q0, hargs, rfl, rfl, h0, r0⟩ := trodAll_cons hA
  obtain ⟨rfl, rfl, rfl⟩ := trodAll_nil r0
  obtain rfl : args = #[v0] := by cases args; simp_all
  obtain ⟨rfl, rfl⟩ := trodVars_none hV
  have k0 := h0
  have lt0 : ∀ x ∈ p0, x.block < W.heap.size := by obtain ⟨m, hm⟩ := k0; exact DataW.trod_lt m _ _ _ hm
  obtain ⟨a, n, cap, rfl, hn, hc, hcode⟩ := open_code (hval 0 46 v0 rfl rfl) h0
  clear hA0 hval0
  refine (ord_walk a n cap W hcode hn hc).mono fun e W' ⟨he, bel⟩ => ?_
  subst he
  exact ⟨_, rfl, _, _, _, [], _, [], hW', trodAll_mk1 (shut_bool Try.underlying4 _), (trodAll_cons_mk (Below.trod ord_laidOut (by kernel_rfl) (of_decide_eq_true (by kernel_rfl)) k0 bel lt0) trodAll_mk0), rfl, bel.frame _, fun h => by cases h⟩

theorem ord_over : Rows.fnLevelOrderRow.holds Try.pinned (OpenSpec.ofChange Rows.fnLevelOrderSpec) :=
  OpenClaim.holds_of_wide 10 Try.f10 rfl rfl rfl rfl rfl rfl rfl ⟨rfl, rfl, rfl, rfl, rfl⟩ rfl rfl rfl rfl rfl (by kernel_rfl) Try.func10 (by kernel_rfl)
    (of_decide_eq_true (by kernel_rfl)) (by unfold Func.isWrapper; first | (rw [if_pos (by decide +kernel)]; kernel_rfl) | (rw [if_neg (by decide +kernel)]; exact ⟨rfl, rfl⟩))
    (fun os started H enc _ => ord_lifted os started H enc)

theorem fnLevelOrder_holds : Rows.FnLevelOrderSaid :=
  ord_over
#print axioms fnLevelOrder_holds
end Go.Proofs.Ytnhkpmgfgiolbaa
