/- As in FoC, for a store whose levels may be the program's own. -/
import Derived.Test.YtbgibiongnhjoaaGreatFoB
import Derived.Test.YtbgibiongnhjoaaGreatFoBx
import Derived.Test.YtbgibiongnhjoaaGreatStEx
import Derived.Test.YtbgibiongnhjoaaGreatTeB
namespace Go.Proofs.YtbgibiongnhjoaaGreat
open Go.ChangeShapes Go.WideShapes Go.ChangeAt Go.RowKit

/-- What the function that fold asks first answers. -/
def KnowOut2 {S : Type} (base Sb mb gb : Nat) (C : Nat → Prop) (Inv : S → World → Prop) (L : List (Nk × Nat × Nat)) (r : Option (Option Tt) × S) (w : World) (e : Ending) (w' : World) : Prop :=
  ∃ (clock' : Nat) (L' : List (Nk × Nat × Nat)) (Z' : Nat → Zs) (H' : Nat → Bool), St2 base w' Sb mb gb clock' L' Z' H' ∧ (∀ x ∈ L, x ∈ L') ∧ KeptX C w w' ∧ Inv r.2 w' ∧ ((r.1 = none ∧ ∃ p, e = .returned (.tuple #[.pointer p, .bool false])) ∨ (∃ r0 b', r.1 = some r0 ∧ e = .returned (.tuple #[.pointer (some ⟨b', 0, none⟩), .bool true]) ∧ Res gb L' r0 b'))
/-- What is asked of that function. -/
def KnowOk2 {S : Type} (base Sb mb gb : Nat) (C : Nat → Prop) (bl : List Nat) (aa : List (Tt × Nat)) (Pre : Tt → S → Prop) (Inv : S → World → Prop) (know : Tt → Int → S → Option (Option Tt) × S) (gf : Nat) (x0 x1 x2 : Value) (U : Int) : Prop :=
  ∀ (T : Tt) (b : Nat) (u : Int) (s : S) (w : World) (clock : Nat) (L : List (Nk × Nat × Nat)) (Z : Nat → Zs) (H : Nat → Bool), St2 base w Sb mb gb clock L Z H → base ≤ w.heap.size → IsT L T b → T.all nodeP → 0 ≤ u → u + T.cnt ≤ U → (∀ p ∈ aa, IsT L p.1 p.2) → Pre T s → Inv s w → (∀ x ∈ bl, x < w.heap.size) → (∀ k, C k → k < w.heap.size) →
    Calls Tryz.prog gf #[.pointer (some ⟨b, 0, none⟩), .int .i64 u, x0, x1, x2] w (KnowOut2 base Sb mb gb C Inv L (know T u s) w)
/-- What fold answers. -/
def FoldOut2 {S : Type} (base Sb mb gb : Nat) (C : Nat → Prop) (Inv : S → World → Prop) (L : List (Nk × Nat × Nat)) (r : Option Tt × S) (w : World) (e : Ending) (w' : World) : Prop :=
  ∃ (b' clock' : Nat) (L' : List (Nk × Nat × Nat)) (Z' : Nat → Zs) (H' : Nat → Bool), e = .returned (.pointer (some ⟨b', 0, none⟩)) ∧ St2 base w' Sb mb gb clock' L' Z' H' ∧ (∀ x ∈ L, x ∈ L') ∧ KeptX C w w' ∧ Inv r.2 w' ∧ Res gb L' r.1 b'

set_option maxRecDepth 20000 in
set_option maxHeartbeats 8000000 in
theorem fold_ptr2 {S : Type} (base Sb mb gb : Nat) (C : Nat → Prop) (bl : List Nat) (aa : List (Tt × Nat)) (Pre : Tt → S → Prop) (Inv : S → World → Prop) (know : Tt → Int → S → Option (Option Tt) × S) (gf : Nat) (x0 x1 x2 : Value) (U : Int)
    (heg : ∀ args w, (callFunc gf args).run Tryz.prog w = .ok (.enter gf args) w) (hC : C mb) (hCl : ∀ k, C k → base ≤ k) (hInv : ∀ s w w', Inv s w → (∀ b ∈ bl, w'.heap[b]? = w.heap[b]?) → Inv s w') (hPre : ∀ T u s s1 j (h : j < T.kids.length), Pre T s → know T u s = (none, s1) → Pre T.kids[j] (chgJ know T u s1 j).2) (HK : Hid (KnowOk2 base Sb mb gb C bl aa Pre Inv know gf x0 x1 x2 U)) (hU : U ≤ 100000) (hmb : ∀ x ∈ bl, x ≠ mb) :
    ∀ (n : Nat) (T : Tt) (b : Nat) (u : Int) (s : S) (w : World) (clock : Nat) (L : List (Nk × Nat × Nat)) (Z : Nat → Zs) (H : Nat → Bool), T.cnt ≤ n → St2 base w Sb mb gb clock L Z H → base ≤ w.heap.size → IsT L T b → T.all nodeP → 0 ≤ u → u + T.cnt ≤ U → (∀ p ∈ aa, IsT L p.1 p.2) → Pre T s → Inv s w → (∀ x ∈ bl, x < w.heap.size) → (∀ k, C k → k < w.heap.size) →
      Calls Tryz.prog 154 #[.pointer (some ⟨b, 0, none⟩), .int .i64 u, .func (.func gf) #[] #[x0, x1, x2], .func (.func 155) #[.pointer (some ⟨Sb, 0, none⟩)] #[]] w (FoldOut2 base Sb mb gb C Inv L (chgS know T u s) w) := by
  intro n
  induction n with
  | zero => intro T _ _ _ _ _ _ _ _ h; have := T.cnt_pos; omega
  | succ n ih =>
  intro T b u s w clock L Z H hn hs hbase hT hP hu0 hu1 hA hpr hI hbl hCs
  have HPRE := hide hPre
  have HA := hide hA
  have HPR := hide hpr
  have IH := hide ih
  have HMB := hide hmb
  have HC := hide hC
  have HCL := hide hCl
  have HIN := hide hInv
  have HKN := hide (HK.out T b u s w clock L Z H hs hbase hT hP hu0 hu1 hA hpr hI hbl hCs)
  have HBL := hide hbl
  have HCS := hide hCs
  have HP := hide hP
  have HT := hide hT
  have HBS := hide hbase
  have HCN := hide hn
  have hcp := T.cnt_pos
  clear ih hs hI hbl hCs hP hT hbase hC hCl hInv hn hPre hA hpr
  rcases hkr : know T u s with ⟨r, s1⟩
  rw [hkr] at HKN
  cases r with
  | some r0 =>
    have HE := hide (chg_known know T u s hkr)
    rw [HE.out]
    clear hkr
    go_enter Tryz.func154, Tryz.ntmps154
    go_wp2_with fail
    refine HKN.out.mono ?_
    rintro e w1 ⟨clock1, L1, Z1, H1, hs1, hL1, hk1, hi1, (⟨h, _⟩ | ⟨r1, b', h, rfl, hr1⟩)⟩
    · cases h
    · have h := Option.some.inj h
      subst h
      have HR := hide hr1
      have HS1 := hide hs1
      have HL1 := hide hL1
      have HK1 := hide hk1
      have HI1 := hide hi1
      clear hr1 hs1 hL1 hk1 hi1
      go_wp2_with fail
      go_ret
      exact ⟨b', clock1, L1, Z1, H1, rfl, HS1.out, HL1.out, HK1.out, HI1.out, HR.out⟩
  | none =>
    have HE := hide (chg_new know T u s hkr)
    have HKR := hide (fun j h => HPRE.out T u s s1 j h HPR.out hkr)
    rw [HE.out]
    clear hkr
    go_enter Tryz.func154, Tryz.ntmps154
    go_wp2_with fail
    refine HKN.out.mono ?_
    rintro e w1 ⟨clock1, L1, Z1, H1, hs1, hL1, hk1, hi1, (⟨_, pp, rfl⟩ | ⟨r1, b', h, _⟩)⟩
    case inr => cases h
    have hk3 := kids_le T
    obtain ⟨qs, c, hql, hqm, hqk⟩ := ist_open HT.out
    have hq3 : qs.length ≤ 3 := by omega
    have HQM := hide (hL1 _ hqm)
    have HQK := hide (fun j h1 h2 => (hqk j h1 h2).more hL1)
    have HQL := hide hql
    clear hqm hqk
    obtain ⟨W2, hW2⟩ : ∃ W2, W2 = w1.alloc (.cells #[.pointer none, .pointer none, .pointer none] 127) := ⟨_, rfl⟩
    have hb2 : Below w1.heap.size w1 W2 := by rw [hW2]; exact bel_alloc (Below.refl _ _) _
    have hbase1 : base ≤ w1.heap.size := Nat.le_trans HBS.out hk1.size
    have HS2 := hide (hs1.keep hb2 hbase1)
    have HK2 := hide (hk1.trans (KeptX.of hb2))
    have HI2 := hide (HIN.out _ _ W2 hi1 (fun x hx => hb2.block x (Nat.lt_of_lt_of_le (HBL.out x hx) hk1.size)))
    have HKB : Hid (K3P W2 w1.heap.size (kp3 [])) := by
      show K3P _ _ _
      rw [hW2]
      exact ⟨rfl, .inr ⟨w1.heap.size, 1, _, rfl, Nat.zero_le _, heap_alloc_new w1 _, Nat.le_refl _, by decide, rfl, rfl⟩⟩
    have HKG := hide hk1.size
    have HL1 := hide hL1
    clear hs1 hk1 hi1 hb2 HKN hL1 hbase1
    obtain ⟨lv, ls, nb2, _⟩ := (HS2.out.ents _ HQM.out).node
    have nb2 : NbAt W2 b (tmL (keyP T.hd qs) lv (Z1 b) (H1 b)) := nb2
    have a0 : W2.cell? ⟨b, 0, none⟩ = some (.int .i64 T.hd.k) := by rw [nb2.cell 0 (by omega)]; rfl
    have har : tkidsN T.hd.k = qs.length := ent_arity2 (HS2.out.ents _ HQM.out) hq3
    have hk0 : 0 ≤ tkidsN T.hd.k := by omega
    have hk3' : tkidsN T.hd.k ≤ 3 := by omega
    have hkn : (tkidsN T.hd.k).toNat = T.kids.length := by omega
    have HPA := hide (parts_any b T.hd.k W2 a0 hk0 hk3')
    rw [hkn] at HPA
    have HBI := hide (fun (W : World) (j : Nat) (h : W.cell? ⟨b, 0, none⟩ = some (.int .i64 T.hd.k)) => binds_any b T.hd.k j W h hk0 hk3')
    have HBD := hide (fun q : Nat => show 0 ≤ bindN T.hd.k q ∧ bindN T.hd.k q ≤ 1 by unfold bindN; split <;> omega)
    have hbl2 := lt_cell a0
    clear nb2 hk0 hk3' hkn har
    go_upto_region 5 with fail
    rw [← hW2]
    clear hW2
    generalize w1.heap.size = kb at *
    clear w1
    go_wp2_with fail
    refine HPA.out.mono ?_
    rintro e w3 ⟨rfl, hb3⟩
    have HK3 := hide (HK2.out.trans (KeptX.of hb3))
    have HS3 := hide (HS2.out.keep hb3 (Nat.le_trans HBS.out HK2.out.size))
    have HI3 := hide (HIN.out _ _ w3 HI2.out (fun x hx => hb3.block x (Nat.lt_of_lt_of_le (HBL.out x hx) HK2.out.size)))
    have HB3 : Hid (K3P w3 kb (kp3 [])) := row_keep hb3 HKB.out
    clear hb3 HPA HKB HK2 HS2 HI2 a0 hbl2
    go_wp2_with fail
    go_loopw [26] (fun ii wr => ∃ (j : Nat) (ps : List Nat) (clock' : Nat) (L' : List (Nk × Nat × Nat)) (Z' : Nat → Zs) (H' : Nat → Bool), j ≤ T.kids.length ∧ ii = .int .i64 j ∧ Hid (ps.length = j) ∧ Hid (K3P wr kb (kp3 ps)) ∧ Hid (St2 base wr Sb mb gb clock' L' Z' H') ∧ Hid (∀ x ∈ L1, x ∈ L') ∧ Hid (KeptX C w wr) ∧ Hid (Inv (chgJ know T u s1 j).2 wr) ∧ Hid (∀ i (h1 : i < (chgJ know T u s1 j).1.length) (h2 : i < ps.length), Res gb L' (chgJ know T u s1 j).1[i] ps[i])) (fun ii _ => T.kids.length - (intOf ii).toNat)
    case atStart => exact ⟨0, [], clock1, L1, Z1, H1, by omega, rfl, rfl, HB3, HS3, fun x h => h, HK3, HI3, fun i h => by simp [chgJ] at h⟩
    case round =>
      clear HB3 HS3 HK3 HI3
      obtain ⟨j, ps, clock', L', Z', H', hj, rfl, HPL, HKJ, HSJ, HLJ, HXJ, HIJ, HRJ⟩ := hrel
      have hkl := HKJ.out.lt
      have hwsz := HXJ.out.size
      obtain ⟨lv', ls', nbj, _⟩ := (HSJ.out.ents _ (HLJ.out _ HQM.out)).node
      have nbj : NbAt wr b (tmL (keyP T.hd qs) lv' (Z' b) (H' b)) := nbj
      have d0 : wr.cell? ⟨b, 0, none⟩ = some (.int .i64 T.hd.k) := by rw [nbj.cell 0 (by omega)]; rfl
      by_cases hlt : j < T.kids.length
      · have hlt' : (j : Int) < T.kids.length := by omega
        have HQ1 := hide (show j + 1 ≤ T.kids.length from hlt)
        have hjq : j < qs.length := by omega
        have d5 := nb_kid nbj j (by omega)
        rw [keyP_kid _ _ hq3, List.getElem?_eq_getElem hjq] at d5
        simp only [pv] at d5
        have hAr := lt_cell d5
        have hck := kid_cnt T j hlt
        have hcn := HCN.out
        obtain ⟨bn0, bn1⟩ := HBD.out j
        have HCB := hide (HBI.out wr j d0)
        have HKK := hide (HQK.out j hjq hlt)
        have HCF : Hid (∀ (W : World), Below wr.heap.size wr W → Calls Tryz.prog 154 #[.pointer (some ⟨qs[j], 0, none⟩), .int .i64 (u + bindN T.hd.k j), .func (.func gf) #[] #[x0, x1, x2], .func (.func 155) #[.pointer (some ⟨Sb, 0, none⟩)] #[]] W (FoldOut2 base Sb mb gb C Inv L' (chgS know T.kids[j] (u + bindN T.hd.k j) (chgJ know T u s1 j).2) W)) := fun W hW => by
          have hsz := HXJ.out.size
          exact IH.out T.kids[j] qs[j] (u + bindN T.hd.k j) (chgJ know T u s1 j).2 W clock' L' Z' H' (by omega) (HSJ.out.keep hW (by have := HBS.out; omega)) (by have := HBS.out; have := hW.size; omega) (HKK.out.more HLJ.out) (kid_all' T HP.out j hlt) (by omega) (by omega) (fun p hp => ((HA.out p hp).more HL1.out).more HLJ.out) (HKR.out j hlt) (HIN.out _ _ W HIJ.out (fun x hx => hW.block x (by have := HBL.out x hx; omega))) (fun x hx => by have := HBL.out x hx; have := hW.size; omega) (fun k hk => by have := HCS.out k hk; have := hW.size; omega)
        have HNX : Hid (chgJ know T u s1 (j + 1) = ((chgJ know T u s1 j).1 ++ [(chgS know T.kids[j] (u + bindN T.hd.k j) (chgJ know T u s1 j).2).1], (chgS know T.kids[j] (u + bindN T.hd.k j) (chgJ know T u s1 j).2).2)) := by
          show _ = _
          conv => lhs; unfold chgJ
          rw [List.getElem?_eq_getElem hlt]
          rfl
        have HJL := hide (chgJ_len know T u s1 j hj)
        generalize chgS know T.kids[j] (u + bindN T.hd.k j) (chgJ know T u s1 j).2 = cr at *
        generalize qs[j] = P1 at *
        generalize bindN T.hd.k j = bn at *
        have hw1 : IntKind.i64.wrap (u + bn) = u + bn := by rw [IntKind.wrap_i64]; omega
        have hj3 : j < 3 := by omega
        clear nbj hck hcn HKK HQK hjq
        go_wp2_with fail
        refine HCB.out.mono ?_
        rintro e w4 ⟨rfl, hb4⟩
        have HCF4 := hide (HCF.out w4 hb4)
        have HX4 := hide (HXJ.out.trans (KeptX.of hb4))
        have HK4 : Hid (K3P w4 kb (kp3 ps)) := row_keep hb4 HKJ.out
        have HW4 := hide hb4.size
        clear hb4 HCB HKJ HXJ HSJ HIJ d0 d5 hAr HCF
        go_wp2_with fail
        refine HCF4.out.mono ?_
        rintro e w5 ⟨p', clock5, L5, Z5, H5, rfl, hs5, hL5, hk5, hi5, hr5⟩
        have hkb4 : kb < w4.heap.size := HK4.out.lt
        have hkC : ¬ C kb := fun h => by have := HCS.out kb h; have := HKG.out; omega
        have hsz5 := hk5.size
        have hK5 : K3P w5 kb (kp3 ps) := k3_same HK4.out (hk5.block kb hkb4 hkC)
        have hd3 : ∃ ov, w5.cell? ⟨kb, j, none⟩ = some ov := by
          rw [hK5.cell j hj3]
          exact ⟨_, List.getElem?_eq_getElem (by show j < 3; omega)⟩
        obtain ⟨ov, d3⟩ := hd3
        have f3 := hK5.frozen j
        have hl5 := lt_cell d3
        obtain ⟨W6, hW6⟩ : ∃ W6, W6 = w5.setCell ⟨kb, j, none⟩ (.pointer (some ⟨p', 0, none⟩)) := ⟨_, rfl⟩
        have hNK : K3P W6 kb (kp3 (ps ++ [p'])) := by
          have e := hK5.set j (.pointer (some ⟨p', 0, none⟩))
          rw [← hW6] at e
          rw [← kp3_set ps p' (by have := HPL.out; omega), HPL.out]
          exact e
        have hg6 : w5.grownBy W6 (some kb) := by rw [hW6]; exact grown_set w5 ⟨kb, j, none⟩ _
        obtain ⟨cs5, hcs5⟩ := k3_heap hK5
        have hbs5 : base ≤ w5.heap.size := by have := HBS.out; have := HW4.out; omega
        have HS6 := hide (hs5.other hcs5 (by decide) (by decide) (by decide) hg6 (by have := HBS.out; have := HKG.out; omega) hbs5)
        have HX6 : Hid (KeptX C w W6) := by
          show KeptX C w W6
          have h := HX4.out.trans hk5
          exact ⟨hg6.os.trans h.os, hg6.tape.trans h.tape, hg6.output.trans h.output, Nat.le_trans h.size hg6.size, fun k hk hc => by rw [hg6.block k (by have := h.size; omega) (fun e => by have := Option.some.inj e; have := HKG.out; omega)]; exact h.block k hk hc⟩
        have HI6 : Hid (Inv (chgJ know T u s1 (j + 1)).2 W6) := by
          show Inv _ W6
          rw [HNX.out]
          exact HIN.out _ _ W6 hi5 (fun x hx => hg6.block x (by have := HBL.out x hx; have := HW4.out; omega) (fun e => by have := Option.some.inj e; have := HBL.out x hx; have := HKG.out; omega))
        have HR6 : Hid (∀ i (h1 : i < (chgJ know T u s1 (j + 1)).1.length) (h2 : i < (ps ++ [p']).length), Res gb L5 (chgJ know T u s1 (j + 1)).1[i] (ps ++ [p'])[i]) := by
          show ∀ i, _
          rw [HNX.out]
          intro i h1 h2
          have hjl := HJL.out
          have hpl := HPL.out
          by_cases e : i < j
          · have e1 : ((chgJ know T u s1 j).1 ++ [cr.1])[i] = (chgJ know T u s1 j).1[i]'(by omega) := List.getElem_append_left (by omega)
            have e2 : (ps ++ [p'])[i] = ps[i]'(by omega) := List.getElem_append_left (by omega)
            show Res gb L5 ((chgJ know T u s1 j).1 ++ [cr.1])[i] _
            rw [e1, e2]
            exact (HRJ.out i (by omega) (by omega)).more hL5
          · have ei : i = j := by simp at h2; omega
            subst ei
            have e1 : ((chgJ know T u s1 i).1 ++ [cr.1])[i] = cr.1 := by simp [hjl]
            have e2 : (ps ++ [p'])[i] = p' := by simp [hpl]
            show Res gb L5 ((chgJ know T u s1 i).1 ++ [cr.1])[i] _
            rw [e1, e2]
            exact hr5
        have HL6 : Hid (∀ x ∈ L1, x ∈ L5) := fun x hx => hL5 x (HLJ.out x hx)
        have HP6 : Hid ((ps ++ [p']).length = j + 1) := by show _ = _; rw [List.length_append, HPL.out]; rfl
        have HNK := hide hNK
        clear hs5 hL5 hk5 hi5 hr5 hK5 hNK hg6 hcs5 HK4 HX4 HCF4 HRJ HLJ hbs5 hkC hkb4
        go_wp2_with fail
        rw [← hW6]
        clear hW6
        go_roundw
        case rel => exact ⟨j + 1, ps ++ [p'], clock5, L5, Z5, H5, HQ1.out, by go_num, HP6, HNK, HS6, HL6, HX6, HI6, HR6⟩
        case measure => have := HQ1.out; simp [intOf]; omega
      · have hlt' : ¬ (j : Int) < T.kids.length := by omega
        have e : j = T.kids.length := by omega
        subst e
        have b0 : wr.cell? ⟨kb, 0, none⟩ = some (pv ps[0]?) := by rw [HKJ.out.cell 0 (by omega)]; rfl
        have b1 : wr.cell? ⟨kb, 1, none⟩ = some (pv ps[1]?) := by rw [HKJ.out.cell 1 (by omega)]; rfl
        have b2 : wr.cell? ⟨kb, 2, none⟩ = some (pv ps[2]?) := by rw [HKJ.out.cell 2 (by omega)]; rfl
        have HW := hide (withKids_any2 base Sb mb gb clock' L' Z' H' T b (chgJ know T u s1 T.kids.length).1 ps wr HSJ.out (by have := HBS.out; omega) ((HT.out.more (fun x hx => HLJ.out _ (HL1.out x hx)))) HP.out (chgJ_len know T u s1 _ hj) HPL.out HRJ.out)
        have HFN : Hid (∀ w', KeptX C wr w' → Inv (chgJ know T u s1 T.kids.length).2 wr → wr.grownBy w' (some mb) → Inv (chgJ know T u s1 T.kids.length).2 w') := fun w' _ hi hg => HIN.out _ _ w' hi (fun x hx => hg.block x (by have := HBL.out x hx; omega) (fun e => by
          have e := Option.some.inj e
          exact HMB.out x hx (by rw [e])))
        generalize pv ps[0]? = v0 at *
        generalize pv ps[1]? = v1 at *
        generalize pv ps[2]? = v2 at *
        clear nbj d0 HKJ
        go_wp2_with fail
        refine HW.out.mono ?_
        rintro e w6 ⟨b', clock6, L6, Z6, H6, rfl, hs6, hL6, hr6, hg6⟩
        have HS6 := hide hs6
        have HL6 := hide hL6
        have HR6 := hide hr6
        have hx6 : KeptX C wr w6 := KeptX.grown hg6 (fun k hk => by rw [← Option.some.inj hk]; exact HC.out)
        have HI6 := hide (HFN.out w6 hx6 HIJ.out hg6)
        have HX6 := hide (HXJ.out.trans hx6)
        clear hs6 hL6 hr6 hg6 hx6
        go_wp2_with fail
        go_ret
        exact ⟨b', clock6, L6, Z6, H6, rfl, HS6.out, fun x hx => HL6.out x (HLJ.out x (HL1.out x hx)), HX6.out, HI6.out, HR6.out⟩
end Go.Proofs.YtbgibiongnhjoaaGreat

/- As in FoE, for a store whose levels may be the program's own. -/
namespace Go.Proofs.YtbgibiongnhjoaaGreat
open Go.ChangeShapes Go.WideShapes Go.ChangeAt Go.RowKit

set_option maxRecDepth 20000 in
set_option maxHeartbeats 4000000 in
theorem change_any2 {S : Type} (base Sb mb gb : Nat) (C : Nat → Prop) (bl : List Nat) (aa : List (Tt × Nat)) (Pre : Tt → S → Prop) (Inv : S → World → Prop) (know : Tt → Int → S → Option (Option Tt) × S) (gf : Nat) (x0 x1 x2 : Value) (U : Int)
    (heg : ∀ args w, (callFunc gf args).run Tryz.prog w = .ok (.enter gf args) w) (hC : C mb) (hCl : ∀ k, C k → base ≤ k) (hInv : ∀ s w w', Inv s w → (∀ b ∈ bl, w'.heap[b]? = w.heap[b]?) → Inv s w') (hPre : ∀ T u s s1 j (h : j < T.kids.length), Pre T s → know T u s = (none, s1) → Pre T.kids[j] (chgJ know T u s1 j).2) (HK : Hid (KnowOk2 base Sb mb gb C bl aa Pre Inv know gf x0 x1 x2 U)) (hU : U ≤ 100000) (hmb : ∀ x ∈ bl, x ≠ mb)
    (T : Tt) (b : Nat) (s : S) (w : World) (clock : Nat) (L : List (Nk × Nat × Nat)) (Z : Nat → Zs) (H : Nat → Bool) (hs : St2 base w Sb mb gb clock L Z H) (hbase : base ≤ w.heap.size) (hT : IsT L T b) (hP : T.all nodeP) (hu : T.cnt ≤ U) (hA : ∀ p ∈ aa, IsT L p.1 p.2) (hpr : Pre T s) (hI : Inv s w) (hbl : ∀ x ∈ bl, x < w.heap.size) (hCs : ∀ k, C k → k < w.heap.size) :
    Calls Tryz.prog 110 #[.pointer (some ⟨Sb, 0, none⟩), .pointer (some ⟨b, 0, none⟩), .func (.func gf) #[] #[x0, x1, x2]] w (FoldOut2 base Sb mb gb C Inv L (chgS know T 0 s) w) := by
  have hmf : ∀ (fn : Fn) (first cap : Array Value) (w : World), (Instr.makeFunc fn first cap).run Tryz.prog w = .ok (.func fn first cap) w := fun _ _ _ _ => rfl
  have HF := hide (fold_ptr2 base Sb mb gb C bl aa Pre Inv know gf x0 x1 x2 U heg hC hCl hInv hPre HK hU hmb T.cnt T b 0 s w clock L Z H (Nat.le_refl _) hs hbase hT hP (Int.le_refl _) (by omega) hA hpr hI hbl hCs)
  generalize chgS know T 0 s = r at *
  clear heg hC hCl hInv HK hmb hs hT hP hI hbl hCs hA hpr hPre
  go_enter Tryz.func110, Tryz.ntmps110
  go_wp2_with fail
  refine HF.out.mono ?_
  rintro e w1 ⟨b', clock', L', Z', H', rfl, h1, h2, h3, h4, h5⟩
  have H1 := hide h1
  have H2 := hide h2
  have H3 := hide h3
  have H4 := hide h4
  have H5 := hide h5
  clear h1 h2 h3 h4 h5
  go_wp2_with fail
  go_ret
  exact ⟨b', clock', L', Z', H', rfl, H1.out, H2.out, H3.out, H4.out, H5.out⟩
end Go.Proofs.YtbgibiongnhjoaaGreat

/- What withLevels answers: a node of the store with other levels, which may be the program's own. -/
namespace Go.Proofs.YtbgibiongnhjoaaGreat
open Go.ChangeShapes Go.WideShapes Go.ChangeAt Go.RowKit

theorem row_kp {base lo : Nat} {w w' : World} {e s : Nat} {v : Value} {n : Nat} {xs : List Value} (h : w.ownsRow lo e s v n xs) (hk : Kp base w w') (he : lvT e = true) : w'.ownsRow lo e s v n xs := by
  refine ⟨h.1, ?_⟩
  rcases h.2 with h1 | ⟨g, cap, cur, h1, h2, h3, h4⟩
  · exact .inl h1
  · exact .inr ⟨g, cap, cur, h1, h2, by rw [hk.2 g cur e (0, 0) h3 he]; exact h3, h4⟩
theorem NdR.kp {base lo hi : Nat} {w w' : World} {v : Value} {ns : List Nd} (h : NdR lo hi w v ns) (hk : Kp base w w') : NdR lo hi w' v ns := by
  obtain ⟨xs, h1, h0, h2, h3⟩ := h
  refine ⟨xs, row_kp h1 hk rfl, h0, fun i hi => ?_, h3⟩
  obtain ⟨a, b, kv, c, d, e⟩ := h2 i hi
  exact ⟨a, b, kv, c, row_kp d hk rfl, e⟩
/-- Levels of the program's own stay where the rows that levels are kept in stay. -/
theorem LsV.kp {base lo hi : Nat} {w w' : World} {v : Value} {ls : List (List Nd)} (h : LsV lo hi w v ls) (hk : Kp base w w') : LevsAt w' v ls := by
  obtain ⟨xs, s, t, h1, h2, h3, h4⟩ := h
  have h' : LsV lo hi w' v ls := ⟨xs, s, t, row_kp h1 hk rfl, h2, h3, fun i hi => by
    obtain ⟨u, a, b⟩ := h4 i hi
    exact ⟨u, a, b.kp hk⟩⟩
  exact h'.levs
theorem flatMap_le {α β : Type} (f : α → List β) (c : Nat) : ∀ (l : List α), (∀ x ∈ l, (f x).length ≤ c) → (l.flatMap f).length ≤ l.length * c
  | [], _ => by simp
  | x :: l, h => by
    have h1 := h x (by simp)
    have h2 := flatMap_le f c l (fun y hy => h y (by simp [hy]))
    rw [List.flatMap_cons, List.length_append, List.length_cons, Nat.add_mul]
    omega
theorem name_le {nd : Nd} (h : fieldsB nd = true) : nd.s.data.toList.length ≤ 40 := by
  unfold fieldsB at h
  split at h
  · simp only [paramB, shortB, Bool.and_eq_true, decide_eq_true_eq] at h
    have := h.1.1.1.1.2
    show nd.s.data.toList.length ≤ 40
    rw [Array.length_toList]
    exact this
  · have e := empty_of h
    rw [e]
    simp
theorem spell_le6 {ls : List (List Nd)} (h : ∀ l ∈ ls, lvlB l = true) : (spell ls).length ≤ ls.length * 2624 :=
  flatMap_le spN 2624 ls (fun l hl => by
    have h1 := (lvl_small (h l hl)).1
    have h2 := flatMap_le (fun nd : Nd => UInt8.ofNat nd.k.toNat :: nd.s.data.toList) 41 l (fun nd hnd => by
      have h3 := name_le ((lvG (h l hl)).nd nd hnd).2.2
      simp only [List.length_cons]
      omega)
    have h2 : (spN l).length ≤ l.length * 41 := h2
    have h4 : l.length * 41 ≤ 64 * 41 := Nat.mul_le_mul_right 41 h1
    omega)
theorem hp_key (h : Hd) (ls : List (List Nd)) (h0 : (0 : Int) = tkidsN h.k) (L : List (Nk × Nat × Nat)) : KeySt L (keyP ⟨h.k, h.n, h.m, h.s, ls⟩ []) :=
  ⟨by show 0 ≤ tkidsN h.k; omega, fun j hj => by have : (j : Int) < tkidsN h.k := hj; omega, fun j _ => by rw [keyP_kid _ _ (by simp)]; rfl⟩
theorem kidZ_leaf (Z : Nat → Zs) (h : Hd) (ls : List (List Nd)) (h0 : (0 : Int) = tkidsN h.k) : kidZ Z (keyP ⟨h.k, h.n, h.m, h.s, ls⟩ []) = [] := by
  unfold kidZ
  rw [show (tkidsN (keyP ⟨h.k, h.n, h.m, h.s, ls⟩ []).k).toNat = 0 by show (tkidsN h.k).toNat = 0; omega]
  rfl
set_option maxRecDepth 20000 in
set_option maxHeartbeats 8000000 in
theorem withLevels_any (base Sb mb gb clock : Nat) (L : List (Nk × Nat × Nat)) (Z : Nat → Zs) (H : Nat → Bool) (h : Hd) (b : Nat) (lv : Value) (ls : List (List Nd)) (w : World) (hs : St2 base w Sb mb gb clock L Z H) (hbase : base ≤ w.heap.size) (hT : IsT L (.t0 h) b) (hP : nodeP h 0) (hlv : ∀ w', Kp base w w' → LevsAt w' lv ls) (hok : ∀ l ∈ ls, lvlB l = true) (h6 : ls.length ≤ 6) :
    Calls Tryz.prog 124 #[.pointer (some ⟨Sb, 0, none⟩), .pointer (some ⟨b, 0, none⟩), lv] w (WithOut2 base Sb mb gb L (some (.t0 ⟨h.k, h.n, h.m, h.s, ls⟩)) w) := by
  obtain ⟨c, hm⟩ := hT
  obtain ⟨lv0, ls0, nb, _⟩ := (hs.ents _ hm).node
  have nb : NbAt w b (tmL (keyH h none none none) lv0 (Z b) (H b)) := nb
  obtain ⟨la, lc, rfl, _, _, _⟩ := hlv w (Kp.of (Below.refl _ _) hbase)
  have hbl := nb.lt
  have a0 : w.cell? ⟨b, 0, none⟩ = some (.int .i64 h.k) := by rw [nb.cell 0 (by omega)]; rfl
  have a1 : w.cell? ⟨b, 1, none⟩ = some (.int .i64 h.n) := by rw [nb.cell 1 (by omega)]; rfl
  have a2 : w.cell? ⟨b, 2, none⟩ = some (.int .i64 h.m) := by rw [nb.cell 2 (by omega)]; rfl
  have a3 : w.cell? ⟨b, 3, none⟩ = some (.string h.s) := by rw [nb.cell 3 (by omega)]; rfl
  have a4 : w.cell? ⟨b, 4, none⟩ = some (.string ⟨(spell h.lv).toArray⟩) := by rw [nb.cell 4 (by omega)]; rfl
  have a5 : w.cell? ⟨b, 5, none⟩ = some (.pointer none) := by rw [nb.cell 5 (by omega)]; rfl
  have a6 : w.cell? ⟨b, 6, none⟩ = some (.pointer none) := by rw [nb.cell 6 (by omega)]; rfl
  have a7 : w.cell? ⟨b, 7, none⟩ = some (.pointer none) := by rw [nb.cell 7 (by omega)]; rfl
  obtain ⟨W, hW⟩ : ∃ W, W = w.alloc (.cells #[.int .i64 h.k, .int .i64 h.n, .int .i64 h.m, .string h.s, .string ⟨(spell h.lv).toArray⟩, .pointer none, .pointer none, .pointer none] 129) := ⟨_, rfl⟩
  have hbW : Below w.heap.size w W := by rw [hW]; exact bel_alloc (Below.refl _ _) _
  have HR : Hid (W.heap[w.heap.size]? = some (.cells #[.int .i64 h.k, .int .i64 h.n, .int .i64 h.m, .string h.s, .string ⟨(spell h.lv).toArray⟩, .pointer none, .pointer none, .pointer none] 129 (0, 0))) := by show _ = _; rw [hW]; exact heap_alloc_new w _
  have HBW := hide hbW
  have hWl : w.heap.size < W.heap.size := by rw [hW]; simp
  have HSP := hide (fun (V : World) (hb : Below w.heap.size w V) => spelling_any (.slice la ls.length lc) ls V (hlv V (Kp.of hb hbase)) (fun l hl => lvl_kinds (hok l hl)) (by have := spell_le6 hok; omega))
  have HN := hide (fun (V : World) (hb : Below w.heap.size w V) => node_any2 base Sb mb gb clock L Z H (keyP ⟨h.k, h.n, h.m, h.s, ls⟩ []) (.slice la ls.length lc) ls V (hs.keep hb hbase) (Nat.le_trans hbase hb.size) (hp_key h ls hP.1 L) (fun w' hk => hlv w' ((Kp.of hb hbase).trans hk)) ⟨rfl, hok⟩ (by omega) (fun l hl => by have := (lvl_small (hok l hl)).1; omega) (fun e => num_of (td := h.td []) hP.2 e) (by rw [kidZ_leaf Z h ls hP.1, zmk_sz]; simp [sumZ]))
  have HN : Hid (∀ (V : World), Below w.heap.size w V → Calls Tryz.prog 98 #[.pointer (some ⟨Sb, 0, none⟩), .agg #[.int .i64 h.k, .int .i64 h.n, .int .i64 h.m, .string h.s, .string ⟨(spell ls).toArray⟩, .pointer none, .pointer none, .pointer none], .slice la ls.length lc] V (NodeOut2 base Sb mb gb L Z H (keyP ⟨h.k, h.n, h.m, h.s, ls⟩ []) V)) := HN.out
  clear nb hs hbase hm hP hlv hok hbW
  go_enter Tryz.func124, Tryz.ntmps124
  go_upto_region 2 with fail
  rw [← hW]
  clear hW a0 a1 a2 a3 a4 a5 a6 a7
  go_wp2_with fail
  refine (HSP.out W HBW.out).mono ?_
  rintro e w2 ⟨rfl, hb2⟩
  have hB2 := bel_trans HBW.out hb2
  have hR2 : w2.heap[w.heap.size]? = some (.cells #[.int .i64 h.k, .int .i64 h.n, .int .i64 h.m, .string h.s, .string ⟨(spell h.lv).toArray⟩, .pointer none, .pointer none, .pointer none] 129 (0, 0)) := by rw [hb2.block _ hWl]; exact HR.out
  have c4 : w2.cell? ⟨w.heap.size, 4, none⟩ = some (.string ⟨(spell h.lv).toArray⟩) := by rw [Lib.cell_of_heap hR2]; rfl
  have f4 : w2.frozen? ⟨w.heap.size, 4, none⟩ = false := Lib.frozen_of_heap hR2 4
  have hwl := lt_cell c4
  obtain ⟨W3, hW3⟩ : ∃ W3, W3 = w2.setCell ⟨w.heap.size, 4, none⟩ (.string ⟨(spell ls).toArray⟩) := ⟨_, rfl⟩
  have hB3 : Below w.heap.size w W3 := by rw [hW3]; exact hB2.setCell (p := ⟨_, _, _⟩) (Nat.le_refl _) _
  have HN3 := hide (HN.out W3 hB3)
  have HB3 := hide hB3
  have hR3 : W3.heap[w.heap.size]? = some (.cells #[.int .i64 h.k, .int .i64 h.n, .int .i64 h.m, .string h.s, .string ⟨(spell ls).toArray⟩, .pointer none, .pointer none, .pointer none] 129 (0, 0)) := by
    rw [hW3]
    unfold World.setCell
    simp [Array.getElem?_modify, hR2]
  have k0 : W3.cell? ⟨w.heap.size, 0, none⟩ = some (.int .i64 h.k) := by rw [Lib.cell_of_heap hR3]; rfl
  have k1 : W3.cell? ⟨w.heap.size, 1, none⟩ = some (.int .i64 h.n) := by rw [Lib.cell_of_heap hR3]; rfl
  have k2 : W3.cell? ⟨w.heap.size, 2, none⟩ = some (.int .i64 h.m) := by rw [Lib.cell_of_heap hR3]; rfl
  have k3 : W3.cell? ⟨w.heap.size, 3, none⟩ = some (.string h.s) := by rw [Lib.cell_of_heap hR3]; rfl
  have k4 : W3.cell? ⟨w.heap.size, 4, none⟩ = some (.string ⟨(spell ls).toArray⟩) := by rw [Lib.cell_of_heap hR3]; rfl
  have k5 : W3.cell? ⟨w.heap.size, 5, none⟩ = some (.pointer none) := by rw [Lib.cell_of_heap hR3]; rfl
  have k6 : W3.cell? ⟨w.heap.size, 6, none⟩ = some (.pointer none) := by rw [Lib.cell_of_heap hR3]; rfl
  have k7 : W3.cell? ⟨w.heap.size, 7, none⟩ = some (.pointer none) := by rw [Lib.cell_of_heap hR3]; rfl
  have hwl3 := lt_cell k0
  clear hB2 hB3 hR2 hR3 hb2 HR
  go_upto_region 3 with fail
  rw [← hW3]
  clear hW3 c4 f4
  go_wp2_with fail
  refine HN3.out.mono ?_
  rintro e w' ⟨b', clock', L', Z', H', rfl, h1, ⟨c, h2⟩, h4, h5⟩
  have H1 := hide h1
  have H2 := hide h2
  have H4 := hide h4
  have H5 := hide (((grown_of HB3.out).but (some mb)).trans h5)
  clear h1 h2 h4 h5
  go_wp2_with fail
  go_ret
  exact ⟨b', clock', L', Z', H', rfl, H1.out, fun x hx => (H4.out x hx).1, ⟨c, H2.out⟩, H5.out⟩
end Go.Proofs.YtbgibiongnhjoaaGreat
