/- What termOf and sizedTerm answer: a term of the call's own. -/
import Derived.Test.YtjkkojefpecbfaaGreatTeD
import Derived.Test.YtjkkojefpecbfaaGreatFoB
namespace Go.Proofs.YtjkkojefpecbfaaGreat
open Go.ChangeShapes Go.WideShapes Go.ChangeAt Go.RowKit

set_option maxRecDepth 20000 in
set_option maxHeartbeats 8000000 in
theorem termOf_any (base Sb mb gb clock : Nat) (L : List (Nk × Nat × Nat)) (Z : Nat → Zs) (H : Nat → Bool) (w : World) (hs : St base w Sb mb gb clock L Z H) (hbase : base ≤ w.heap.size) (T : Tt) (b : Nat) (hT : IsT L T b) (hP : T.all levP) :
    Calls Tryz.prog 55 #[.pointer (some ⟨b, 0, none⟩)] w fun e w' => ∃ g cap, e = .returned (.agg #[.slice (some ⟨g, 0, none⟩) T.cnt cap]) ∧ TmV w.heap.size w'.heap.size w' (.slice (some ⟨g, 0, none⟩) T.cnt cap) (T.flat 0) ∧ Below w.heap.size w w' := by
  have hmf : ∀ (fn : Fn) (first cap : Array Value) (w : World), (Instr.makeFunc fn first cap).run Tryz.prog w = .ok (.func fn first cap) w := fun _ _ _ _ => rfl
  obtain ⟨i67, hi67, hz67, hs67, hb67⟩ := info_parts Tryz.info67
  have hcnt := (ist_lt hs hT).1
  have hz := ist_z hs T.cnt T b (Nat.le_refl _) hT
  obtain ⟨qs, c, hql, hqm, _⟩ := ist_open hT
  obtain ⟨lv, ls, nbt, _⟩ := (hs.ents _ hqm).node
  have nbt : NbAt w b (tmL (keyP T.hd qs) lv (Z b) (H b)) := nbt
  rw [hz] at nbt
  have a9 : w.cell? ⟨b, 9, none⟩ = some (.int .i64 T.cnt) := by rw [nbt.cell 9 (by omega)]; show some (Value.int .i64 T.z.sz) = _; rw [T.z_sz]
  have hbl := lt_cell a9
  have HF := hide (fun (nb : Nat) (hnb : w.heap.size ≤ nb) (W : World) (hW : Below w.heap.size w W) (ht : TmAt w.heap.size nb W []) => foldT_all base Sb mb gb clock L Z H w hs hbase nb w.heap.size (Nat.le_refl _) hnb T.cnt T b 0 W [] (Nat.le_refl _) hT hP (Int.le_refl _) (by omega) hW ht (by simp; omega))
  have hfl : (T.flat 0).length = T.cnt := T.flat_len 0
  have HFL := hide hfl
  obtain ⟨W1, hW1⟩ : ∃ W1, W1 = w.alloc (.cells #[.slice none 0 0] 28) := ⟨_, rfl⟩
  have hb1 : Below w.heap.size w W1 := by rw [hW1]; exact bel_alloc (Below.refl _ _) _
  have hr1 : W1.heap[w.heap.size]? = some (.cells #[.slice none 0 0] 28 (0, 0)) := by rw [hW1]; exact heap_alloc_new w _
  have a9 := keep_cell hb1 a9
  have hbl := lt_cell a9
  have HB1 := hide hb1
  have HR1 := hide hr1
  have hs1 : w.heap.size < W1.heap.size := (Array.getElem?_eq_some_iff.1 hr1).1
  clear hs hbase hT hP hz hql hqm nbt hb1 hr1 hfl
  go_enter Tryz.func55, Tryz.ntmps55
  go_upto_region 1 with fail
  rw [← hW1]
  clear hW1
  go_wp2_with (first
    | (at_make
       refine wpList_make_own _ rfl _ _ 26 rfl w.heap.size 67 i67 (.agg #[.int .i64 0, .int .i64 0, .int .i64 0, .string ⟨#[]⟩, .slice none 0 0, .slice none 0 0]) 6 Tryz.underlying26 hi67 hz67 hs67 .i64 .i64 (T.cnt : Int) T.cnt rfl rfl (by simp) (by rw [hb67]; omega) (by unfold maxLen; omega) HB1.out.size ?_
       intro w2 hown2 hgrow2
       have hb2 : Below W1.heap.size W1 w2 := (Below.refl _ _).grown hgrow2 (Nat.le_refl _) (fun k hk => by cases hk)
       have hb3 : Below w2.heap.size w2 (w2.alloc (.cells #[.slice (some ⟨W1.heap.size, 0, none⟩) 0 T.cnt] 26)) := bel_alloc (Below.refl _ _) _
       have hh3 : (w2.alloc (.cells #[.slice (some ⟨W1.heap.size, 0, none⟩) 0 T.cnt] 26)).heap[w2.heap.size]? = some (.cells #[.slice (some ⟨W1.heap.size, 0, none⟩) 0 T.cnt] 26 (0, 0)) := heap_alloc_new w2 _
       have HB3 := hide (bel_trans (bel_trans HB1.out hb2) hb3)
       have HR3 : Hid ((w2.alloc (.cells #[.slice (some ⟨W1.heap.size, 0, none⟩) 0 T.cnt] 26)).heap[w.heap.size]? = some (.cells #[.slice none 0 0] 28 (0, 0))) := by
         show _ = _
         rw [hb3.block _ (Nat.lt_of_lt_of_le hs1 hb2.size), hb2.block _ hs1]; exact HR1.out
       have hsz2 := hb2.size
       have HTM : Hid (TmAt w.heap.size w2.heap.size (w2.alloc (.cells #[.slice (some ⟨W1.heap.size, 0, none⟩) 0 T.cnt] 26)) []) := by
         refine ⟨HB3.out.size, W1.heap.size, T.cnt, hh3, [], fun _ => 0, fun _ => 0, row_keep hb3 hown2, ⟨fun i h => by simp at h, fun i j _ h => by simp at h⟩, fun q hq => ⟨?_, fun i h => by simp at h⟩, fun i h => by simp at h⟩
         have e : q = W1.heap.size := by simp [Value.ownBlock] at hq; omega
         subst e
         have := (World.ownsRow.lt hown2 W1.heap.size rfl).2
         have := hb3.size
         omega
       obtain ⟨W3, hW3⟩ : ∃ W3, W3 = w2.alloc (.cells #[.slice (some ⟨W1.heap.size, 0, none⟩) 0 T.cnt] 26) := ⟨_, rfl⟩
       rw [← hW3] at HB3 HR3 HTM
       have hs3 : W3.heap.size = w2.heap.size + 1 := by rw [hW3]; simp
       have hnbl : w2.heap.size < W3.heap.size := by omega
       have HS3 := hide hs3
       clear hown2 hgrow2 hb2 hb3 hh3 hs3)
    | fail)
  rw [← hW3]
  have HC := hide (HF.out w2.heap.size (by have := HB1.out.size; omega) W3 HB3.out HTM.out)
  rw [show (([] : List Td).length + T.cnt : Nat) = T.cnt by simp] at HC
  clear hW3 HF HTM a9 hbl
  generalize hnb : w2.heap.size = nb at *
  have hnw : w.heap.size < nb := by omega
  clear hnb
  refine HC.out.mono ?_
  rintro e w4 ⟨rfl, ⟨hlo4, R, cap, h1, h2⟩, hk4⟩
  have hfl : ([] ++ T.flat ([] : List Td).length : List Td) = T.flat 0 := rfl
  rw [hfl, HFL.out] at h1
  rw [hfl, HFL.out] at h2
  have hr4 : w4.heap[w.heap.size]? = some (.cells #[.slice none 0 0] 28 (0, 0)) := by
    rw [hk4.block _ (by have := HB3.out.size; omega) (by omega) (.inr (fun cs f h => by
      rw [HR3.out] at h
      have h2 := Option.some.inj h
      injection h2 with _ h3 _
      cases h3))]
    exact HR3.out
  have c4 : w4.cell? ⟨nb, 0, none⟩ = some (.slice (some ⟨R, 0, none⟩) T.cnt cap) := by rw [Lib.cell_of_heap h1]; rfl
  have d4 : w4.cell? ⟨w.heap.size, 0, none⟩ = some (.slice none 0 0) := by rw [Lib.cell_of_heap hr4]; rfl
  have f4 : w4.frozen? ⟨w.heap.size, 0, none⟩ = false := Lib.frozen_of_heap hr4 0
  have l4 := lt_cell c4
  have l5 := lt_cell d4
  have HB4 := hide (hk4.below HB3.out HB3.out.size (Nat.le_refl _) (by omega))
  have HV4 := hide h2
  have HR4 := hide hr4
  clear h1 h2 hk4 hr4 hfl HC
  go_wp2_with fail
  refine bodyPost_ret (v := .agg #[.slice (some ⟨R, 0, none⟩) T.cnt cap]) (by simp [results, Tryz.results55, go_sem, d4]) rfl ⟨R, cap, rfl, ?_, ?_⟩
  · rw [size_set]
    exact tmV_off' HV4.out HR4.out (by decide) (fun k hk => Below.heap_setCell w4 _ _ k hk)
  · exact HB4.out.setCell (p := ⟨_, _, _⟩) (by show _ ≤ w.heap.size; omega) _
end Go.Proofs.YtjkkojefpecbfaaGreat

/- What fold answers over nodes, with a function that knows some nodes at once and withKids for the others. -/
namespace Go.Proofs.YtjkkojefpecbfaaGreat
open Go.ChangeShapes Go.WideShapes Go.ChangeAt Go.RowKit

/-- What the function that fold asks first answers. -/
def KnowOut {S : Type} (base Sb mb gb : Nat) (C : Nat → Prop) (Inv : S → World → Prop) (L : List (Nk × Nat × Nat)) (r : Option (Option Tt) × S) (w : World) (e : Ending) (w' : World) : Prop :=
  ∃ (clock' : Nat) (L' : List (Nk × Nat × Nat)) (Z' : Nat → Zs) (H' : Nat → Bool), St base w' Sb mb gb clock' L' Z' H' ∧ (∀ x ∈ L, x ∈ L') ∧ KeptX C w w' ∧ Inv r.2 w' ∧ ((r.1 = none ∧ ∃ p, e = .returned (.tuple #[.pointer p, .bool false])) ∨ (∃ r0 b', r.1 = some r0 ∧ e = .returned (.tuple #[.pointer (some ⟨b', 0, none⟩), .bool true]) ∧ Res gb L' r0 b'))
/-- What is asked of that function. -/
def KnowOk {S : Type} (base Sb mb gb : Nat) (C : Nat → Prop) (bl : List Nat) (aa : List (Tt × Nat)) (Pre : Tt → S → Prop) (Inv : S → World → Prop) (know : Tt → Int → S → Option (Option Tt) × S) (gf : Nat) (x0 x1 x2 : Value) (U : Int) : Prop :=
  ∀ (T : Tt) (b : Nat) (u : Int) (s : S) (w : World) (clock : Nat) (L : List (Nk × Nat × Nat)) (Z : Nat → Zs) (H : Nat → Bool), St base w Sb mb gb clock L Z H → base ≤ w.heap.size → IsT L T b → T.all nodeP → 0 ≤ u → u + T.cnt ≤ U → (∀ p ∈ aa, IsT L p.1 p.2) → Pre T s → Inv s w → (∀ x ∈ bl, x < w.heap.size) → (∀ k, C k → k < w.heap.size) →
    Calls Tryz.prog gf #[.pointer (some ⟨b, 0, none⟩), .int .i64 u, x0, x1, x2] w (KnowOut base Sb mb gb C Inv L (know T u s) w)
/-- What fold answers. -/
def FoldOut {S : Type} (base Sb mb gb : Nat) (C : Nat → Prop) (Inv : S → World → Prop) (L : List (Nk × Nat × Nat)) (r : Option Tt × S) (w : World) (e : Ending) (w' : World) : Prop :=
  ∃ (b' clock' : Nat) (L' : List (Nk × Nat × Nat)) (Z' : Nat → Zs) (H' : Nat → Bool), e = .returned (.pointer (some ⟨b', 0, none⟩)) ∧ St base w' Sb mb gb clock' L' Z' H' ∧ (∀ x ∈ L, x ∈ L') ∧ KeptX C w w' ∧ Inv r.2 w' ∧ Res gb L' r.1 b'

set_option maxRecDepth 20000 in
set_option maxHeartbeats 8000000 in
theorem fold_ptr {S : Type} (base Sb mb gb : Nat) (C : Nat → Prop) (bl : List Nat) (aa : List (Tt × Nat)) (Pre : Tt → S → Prop) (Inv : S → World → Prop) (know : Tt → Int → S → Option (Option Tt) × S) (gf : Nat) (x0 x1 x2 : Value) (U : Int)
    (heg : ∀ args w, (callFunc gf args).run Tryz.prog w = .ok (.enter gf args) w) (hC : C mb) (hCl : ∀ k, C k → base ≤ k) (hInv : ∀ s w w', Inv s w → (∀ b ∈ bl, w'.heap[b]? = w.heap[b]?) → Inv s w') (hPre : ∀ T u s s1 j (h : j < T.kids.length), Pre T s → know T u s = (none, s1) → Pre T.kids[j] (chgJ know T u s1 j).2) (HK : Hid (KnowOk base Sb mb gb C bl aa Pre Inv know gf x0 x1 x2 U)) (hU : U ≤ 100000) (hmb : ∀ x ∈ bl, x ≠ mb) :
    ∀ (n : Nat) (T : Tt) (b : Nat) (u : Int) (s : S) (w : World) (clock : Nat) (L : List (Nk × Nat × Nat)) (Z : Nat → Zs) (H : Nat → Bool), T.cnt ≤ n → St base w Sb mb gb clock L Z H → base ≤ w.heap.size → IsT L T b → T.all nodeP → 0 ≤ u → u + T.cnt ≤ U → (∀ p ∈ aa, IsT L p.1 p.2) → Pre T s → Inv s w → (∀ x ∈ bl, x < w.heap.size) → (∀ k, C k → k < w.heap.size) →
      Calls Tryz.prog 154 #[.pointer (some ⟨b, 0, none⟩), .int .i64 u, .func (.func gf) #[] #[x0, x1, x2], .func (.func 155) #[.pointer (some ⟨Sb, 0, none⟩)] #[]] w (FoldOut base Sb mb gb C Inv L (chgS know T u s) w) := by
  intro n
  induction n with
  | zero => intro T _ _ _ _ _ _ _ _ h; have := T.cnt_pos; omega
  | succ n ih =>
  intro T b u s w clock L Z H hn hs hbase hT hP hu0 hu1 hA hpr hI hbl hCs
  have HPRE := hide hPre
  have HA := hide hA
  have HPR := hide hpr
  have IH := hide ih
  have HMB := hide hmb
  have HC := hide hC
  have HCL := hide hCl
  have HIN := hide hInv
  have HKN := hide (HK.out T b u s w clock L Z H hs hbase hT hP hu0 hu1 hA hpr hI hbl hCs)
  have HBL := hide hbl
  have HCS := hide hCs
  have HP := hide hP
  have HT := hide hT
  have HBS := hide hbase
  have HCN := hide hn
  have hcp := T.cnt_pos
  clear ih hs hI hbl hCs hP hT hbase hC hCl hInv hn hPre hA hpr
  rcases hkr : know T u s with ⟨r, s1⟩
  rw [hkr] at HKN
  cases r with
  | some r0 =>
    have HE := hide (chg_known know T u s hkr)
    rw [HE.out]
    clear hkr
    go_enter Tryz.func154, Tryz.ntmps154
    go_wp2_with fail
    refine HKN.out.mono ?_
    rintro e w1 ⟨clock1, L1, Z1, H1, hs1, hL1, hk1, hi1, (⟨h, _⟩ | ⟨r1, b', h, rfl, hr1⟩)⟩
    · cases h
    · have h := Option.some.inj h
      subst h
      have HR := hide hr1
      have HS1 := hide hs1
      have HL1 := hide hL1
      have HK1 := hide hk1
      have HI1 := hide hi1
      clear hr1 hs1 hL1 hk1 hi1
      go_wp2_with fail
      go_ret
      exact ⟨b', clock1, L1, Z1, H1, rfl, HS1.out, HL1.out, HK1.out, HI1.out, HR.out⟩
  | none =>
    have HE := hide (chg_new know T u s hkr)
    have HKR := hide (fun j h => HPRE.out T u s s1 j h HPR.out hkr)
    rw [HE.out]
    clear hkr
    go_enter Tryz.func154, Tryz.ntmps154
    go_wp2_with fail
    refine HKN.out.mono ?_
    rintro e w1 ⟨clock1, L1, Z1, H1, hs1, hL1, hk1, hi1, (⟨_, pp, rfl⟩ | ⟨r1, b', h, _⟩)⟩
    case inr => cases h
    have hk3 := kids_le T
    obtain ⟨qs, c, hql, hqm, hqk⟩ := ist_open HT.out
    have hq3 : qs.length ≤ 3 := by omega
    have HQM := hide (hL1 _ hqm)
    have HQK := hide (fun j h1 h2 => (hqk j h1 h2).more hL1)
    have HQL := hide hql
    clear hqm hqk
    obtain ⟨W2, hW2⟩ : ∃ W2, W2 = w1.alloc (.cells #[.pointer none, .pointer none, .pointer none] 127) := ⟨_, rfl⟩
    have hb2 : Below w1.heap.size w1 W2 := by rw [hW2]; exact bel_alloc (Below.refl _ _) _
    have hbase1 : base ≤ w1.heap.size := Nat.le_trans HBS.out hk1.size
    have HS2 := hide (hs1.keep hb2 hbase1)
    have HK2 := hide (hk1.trans (KeptX.of hb2))
    have HI2 := hide (HIN.out _ _ W2 hi1 (fun x hx => hb2.block x (Nat.lt_of_lt_of_le (HBL.out x hx) hk1.size)))
    have HKB : Hid (K3P W2 w1.heap.size (kp3 [])) := by
      show K3P _ _ _
      rw [hW2]
      exact ⟨rfl, .inr ⟨w1.heap.size, 1, _, rfl, Nat.zero_le _, heap_alloc_new w1 _, Nat.le_refl _, by decide, rfl, rfl⟩⟩
    have HKG := hide hk1.size
    have HL1 := hide hL1
    clear hs1 hk1 hi1 hb2 HKN hL1 hbase1
    obtain ⟨lv, ls, nb2, _⟩ := (HS2.out.ents _ HQM.out).node
    have nb2 : NbAt W2 b (tmL (keyP T.hd qs) lv (Z1 b) (H1 b)) := nb2
    have a0 : W2.cell? ⟨b, 0, none⟩ = some (.int .i64 T.hd.k) := by rw [nb2.cell 0 (by omega)]; rfl
    have har : tkidsN T.hd.k = qs.length := ent_arity (HS2.out.ents _ HQM.out) hq3
    have hk0 : 0 ≤ tkidsN T.hd.k := by omega
    have hk3' : tkidsN T.hd.k ≤ 3 := by omega
    have hkn : (tkidsN T.hd.k).toNat = T.kids.length := by omega
    have HPA := hide (parts_any b T.hd.k W2 a0 hk0 hk3')
    rw [hkn] at HPA
    have HBI := hide (fun (W : World) (j : Nat) (h : W.cell? ⟨b, 0, none⟩ = some (.int .i64 T.hd.k)) => binds_any b T.hd.k j W h hk0 hk3')
    have HBD := hide (fun q : Nat => show 0 ≤ bindN T.hd.k q ∧ bindN T.hd.k q ≤ 1 by unfold bindN; split <;> omega)
    have hbl2 := lt_cell a0
    clear nb2 hk0 hk3' hkn har
    go_upto_region 5 with fail
    rw [← hW2]
    clear hW2
    generalize w1.heap.size = kb at *
    clear w1
    go_wp2_with fail
    refine HPA.out.mono ?_
    rintro e w3 ⟨rfl, hb3⟩
    have HK3 := hide (HK2.out.trans (KeptX.of hb3))
    have HS3 := hide (HS2.out.keep hb3 (Nat.le_trans HBS.out HK2.out.size))
    have HI3 := hide (HIN.out _ _ w3 HI2.out (fun x hx => hb3.block x (Nat.lt_of_lt_of_le (HBL.out x hx) HK2.out.size)))
    have HB3 : Hid (K3P w3 kb (kp3 [])) := row_keep hb3 HKB.out
    clear hb3 HPA HKB HK2 HS2 HI2 a0 hbl2
    go_wp2_with fail
    go_loopw [26] (fun ii wr => ∃ (j : Nat) (ps : List Nat) (clock' : Nat) (L' : List (Nk × Nat × Nat)) (Z' : Nat → Zs) (H' : Nat → Bool), j ≤ T.kids.length ∧ ii = .int .i64 j ∧ Hid (ps.length = j) ∧ Hid (K3P wr kb (kp3 ps)) ∧ Hid (St base wr Sb mb gb clock' L' Z' H') ∧ Hid (∀ x ∈ L1, x ∈ L') ∧ Hid (KeptX C w wr) ∧ Hid (Inv (chgJ know T u s1 j).2 wr) ∧ Hid (∀ i (h1 : i < (chgJ know T u s1 j).1.length) (h2 : i < ps.length), Res gb L' (chgJ know T u s1 j).1[i] ps[i])) (fun ii _ => T.kids.length - (intOf ii).toNat)
    case atStart => exact ⟨0, [], clock1, L1, Z1, H1, by omega, rfl, rfl, HB3, HS3, fun x h => h, HK3, HI3, fun i h => by simp [chgJ] at h⟩
    case round =>
      clear HB3 HS3 HK3 HI3
      obtain ⟨j, ps, clock', L', Z', H', hj, rfl, HPL, HKJ, HSJ, HLJ, HXJ, HIJ, HRJ⟩ := hrel
      have hkl := HKJ.out.lt
      have hwsz := HXJ.out.size
      obtain ⟨lv', ls', nbj, _⟩ := (HSJ.out.ents _ (HLJ.out _ HQM.out)).node
      have nbj : NbAt wr b (tmL (keyP T.hd qs) lv' (Z' b) (H' b)) := nbj
      have d0 : wr.cell? ⟨b, 0, none⟩ = some (.int .i64 T.hd.k) := by rw [nbj.cell 0 (by omega)]; rfl
      by_cases hlt : j < T.kids.length
      · have hlt' : (j : Int) < T.kids.length := by omega
        have HQ1 := hide (show j + 1 ≤ T.kids.length from hlt)
        have hjq : j < qs.length := by omega
        have d5 := nb_kid nbj j (by omega)
        rw [keyP_kid _ _ hq3, List.getElem?_eq_getElem hjq] at d5
        simp only [pv] at d5
        have hAr := lt_cell d5
        have hck := kid_cnt T j hlt
        have hcn := HCN.out
        obtain ⟨bn0, bn1⟩ := HBD.out j
        have HCB := hide (HBI.out wr j d0)
        have HKK := hide (HQK.out j hjq hlt)
        have HCF : Hid (∀ (W : World), Below wr.heap.size wr W → Calls Tryz.prog 154 #[.pointer (some ⟨qs[j], 0, none⟩), .int .i64 (u + bindN T.hd.k j), .func (.func gf) #[] #[x0, x1, x2], .func (.func 155) #[.pointer (some ⟨Sb, 0, none⟩)] #[]] W (FoldOut base Sb mb gb C Inv L' (chgS know T.kids[j] (u + bindN T.hd.k j) (chgJ know T u s1 j).2) W)) := fun W hW => by
          have hsz := HXJ.out.size
          exact IH.out T.kids[j] qs[j] (u + bindN T.hd.k j) (chgJ know T u s1 j).2 W clock' L' Z' H' (by omega) (HSJ.out.keep hW (by have := HBS.out; omega)) (by have := HBS.out; have := hW.size; omega) (HKK.out.more HLJ.out) (kid_all' T HP.out j hlt) (by omega) (by omega) (fun p hp => ((HA.out p hp).more HL1.out).more HLJ.out) (HKR.out j hlt) (HIN.out _ _ W HIJ.out (fun x hx => hW.block x (by have := HBL.out x hx; omega))) (fun x hx => by have := HBL.out x hx; have := hW.size; omega) (fun k hk => by have := HCS.out k hk; have := hW.size; omega)
        have HNX : Hid (chgJ know T u s1 (j + 1) = ((chgJ know T u s1 j).1 ++ [(chgS know T.kids[j] (u + bindN T.hd.k j) (chgJ know T u s1 j).2).1], (chgS know T.kids[j] (u + bindN T.hd.k j) (chgJ know T u s1 j).2).2)) := by
          show _ = _
          conv => lhs; unfold chgJ
          rw [List.getElem?_eq_getElem hlt]
          rfl
        have HJL := hide (chgJ_len know T u s1 j hj)
        generalize chgS know T.kids[j] (u + bindN T.hd.k j) (chgJ know T u s1 j).2 = cr at *
        generalize qs[j] = P1 at *
        generalize bindN T.hd.k j = bn at *
        have hw1 : IntKind.i64.wrap (u + bn) = u + bn := by rw [IntKind.wrap_i64]; omega
        have hj3 : j < 3 := by omega
        clear nbj hck hcn HKK HQK hjq
        go_wp2_with fail
        refine HCB.out.mono ?_
        rintro e w4 ⟨rfl, hb4⟩
        have HCF4 := hide (HCF.out w4 hb4)
        have HX4 := hide (HXJ.out.trans (KeptX.of hb4))
        have HK4 : Hid (K3P w4 kb (kp3 ps)) := row_keep hb4 HKJ.out
        have HW4 := hide hb4.size
        clear hb4 HCB HKJ HXJ HSJ HIJ d0 d5 hAr HCF
        go_wp2_with fail
        refine HCF4.out.mono ?_
        rintro e w5 ⟨p', clock5, L5, Z5, H5, rfl, hs5, hL5, hk5, hi5, hr5⟩
        have hkb4 : kb < w4.heap.size := HK4.out.lt
        have hkC : ¬ C kb := fun h => by have := HCS.out kb h; have := HKG.out; omega
        have hsz5 := hk5.size
        have hK5 : K3P w5 kb (kp3 ps) := k3_same HK4.out (hk5.block kb hkb4 hkC)
        have hd3 : ∃ ov, w5.cell? ⟨kb, j, none⟩ = some ov := by
          rw [hK5.cell j hj3]
          exact ⟨_, List.getElem?_eq_getElem (by show j < 3; omega)⟩
        obtain ⟨ov, d3⟩ := hd3
        have f3 := hK5.frozen j
        have hl5 := lt_cell d3
        obtain ⟨W6, hW6⟩ : ∃ W6, W6 = w5.setCell ⟨kb, j, none⟩ (.pointer (some ⟨p', 0, none⟩)) := ⟨_, rfl⟩
        have hNK : K3P W6 kb (kp3 (ps ++ [p'])) := by
          have e := hK5.set j (.pointer (some ⟨p', 0, none⟩))
          rw [← hW6] at e
          rw [← kp3_set ps p' (by have := HPL.out; omega), HPL.out]
          exact e
        have hg6 : w5.grownBy W6 (some kb) := by rw [hW6]; exact grown_set w5 ⟨kb, j, none⟩ _
        obtain ⟨cs5, hcs5⟩ := k3_heap hK5
        have hbs5 : base ≤ w5.heap.size := by have := HBS.out; have := HW4.out; omega
        have HS6 := hide (hs5.other hcs5 (by decide) (by decide) hg6 (by have := HBS.out; have := HKG.out; omega) hbs5)
        have HX6 : Hid (KeptX C w W6) := by
          show KeptX C w W6
          have h := HX4.out.trans hk5
          exact ⟨hg6.os.trans h.os, hg6.tape.trans h.tape, hg6.output.trans h.output, Nat.le_trans h.size hg6.size, fun k hk hc => by rw [hg6.block k (by have := h.size; omega) (fun e => by have := Option.some.inj e; have := HKG.out; omega)]; exact h.block k hk hc⟩
        have HI6 : Hid (Inv (chgJ know T u s1 (j + 1)).2 W6) := by
          show Inv _ W6
          rw [HNX.out]
          exact HIN.out _ _ W6 hi5 (fun x hx => hg6.block x (by have := HBL.out x hx; have := HW4.out; omega) (fun e => by have := Option.some.inj e; have := HBL.out x hx; have := HKG.out; omega))
        have HR6 : Hid (∀ i (h1 : i < (chgJ know T u s1 (j + 1)).1.length) (h2 : i < (ps ++ [p']).length), Res gb L5 (chgJ know T u s1 (j + 1)).1[i] (ps ++ [p'])[i]) := by
          show ∀ i, _
          rw [HNX.out]
          intro i h1 h2
          have hjl := HJL.out
          have hpl := HPL.out
          by_cases e : i < j
          · have e1 : ((chgJ know T u s1 j).1 ++ [cr.1])[i] = (chgJ know T u s1 j).1[i]'(by omega) := List.getElem_append_left (by omega)
            have e2 : (ps ++ [p'])[i] = ps[i]'(by omega) := List.getElem_append_left (by omega)
            show Res gb L5 ((chgJ know T u s1 j).1 ++ [cr.1])[i] _
            rw [e1, e2]
            exact (HRJ.out i (by omega) (by omega)).more hL5
          · have ei : i = j := by simp at h2; omega
            subst ei
            have e1 : ((chgJ know T u s1 i).1 ++ [cr.1])[i] = cr.1 := by simp [hjl]
            have e2 : (ps ++ [p'])[i] = p' := by simp [hpl]
            show Res gb L5 ((chgJ know T u s1 i).1 ++ [cr.1])[i] _
            rw [e1, e2]
            exact hr5
        have HL6 : Hid (∀ x ∈ L1, x ∈ L5) := fun x hx => hL5 x (HLJ.out x hx)
        have HP6 : Hid ((ps ++ [p']).length = j + 1) := by show _ = _; rw [List.length_append, HPL.out]; rfl
        have HNK := hide hNK
        clear hs5 hL5 hk5 hi5 hr5 hK5 hNK hg6 hcs5 HK4 HX4 HCF4 HRJ HLJ hbs5 hkC hkb4
        go_wp2_with fail
        rw [← hW6]
        clear hW6
        go_roundw
        case rel => exact ⟨j + 1, ps ++ [p'], clock5, L5, Z5, H5, HQ1.out, by go_num, HP6, HNK, HS6, HL6, HX6, HI6, HR6⟩
        case measure => have := HQ1.out; simp [intOf]; omega
      · have hlt' : ¬ (j : Int) < T.kids.length := by omega
        have e : j = T.kids.length := by omega
        subst e
        have b0 : wr.cell? ⟨kb, 0, none⟩ = some (pv ps[0]?) := by rw [HKJ.out.cell 0 (by omega)]; rfl
        have b1 : wr.cell? ⟨kb, 1, none⟩ = some (pv ps[1]?) := by rw [HKJ.out.cell 1 (by omega)]; rfl
        have b2 : wr.cell? ⟨kb, 2, none⟩ = some (pv ps[2]?) := by rw [HKJ.out.cell 2 (by omega)]; rfl
        have HW := hide (withKids_any base Sb mb gb clock' L' Z' H' T b (chgJ know T u s1 T.kids.length).1 ps wr HSJ.out (by have := HBS.out; omega) ((HT.out.more (fun x hx => HLJ.out _ (HL1.out x hx)))) HP.out (chgJ_len know T u s1 _ hj) HPL.out HRJ.out)
        have HFN : Hid (∀ w', KeptX C wr w' → Inv (chgJ know T u s1 T.kids.length).2 wr → wr.grownBy w' (some mb) → Inv (chgJ know T u s1 T.kids.length).2 w') := fun w' _ hi hg => HIN.out _ _ w' hi (fun x hx => hg.block x (by have := HBL.out x hx; omega) (fun e => by
          have e := Option.some.inj e
          exact HMB.out x hx (by rw [e])))
        generalize pv ps[0]? = v0 at *
        generalize pv ps[1]? = v1 at *
        generalize pv ps[2]? = v2 at *
        clear nbj d0 HKJ
        go_wp2_with fail
        refine HW.out.mono ?_
        rintro e w6 ⟨b', clock6, L6, Z6, H6, rfl, hs6, hL6, hr6, hg6⟩
        have HS6 := hide hs6
        have HL6 := hide hL6
        have HR6 := hide hr6
        have hx6 : KeptX C wr w6 := KeptX.grown hg6 (fun k hk => by rw [← Option.some.inj hk]; exact HC.out)
        have HI6 := hide (HFN.out w6 hx6 HIJ.out hg6)
        have HX6 := hide (HXJ.out.trans hx6)
        clear hs6 hL6 hr6 hg6 hx6
        go_wp2_with fail
        go_ret
        exact ⟨b', clock6, L6, Z6, H6, rfl, HS6.out, fun x hx => HL6.out x (HLJ.out x (HL1.out x hx)), HX6.out, HI6.out, HR6.out⟩
end Go.Proofs.YtjkkojefpecbfaaGreat
