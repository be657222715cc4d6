/- What the program's readDeclTerm answers. -/
import Derived.Test.YtpmpooekpeocdaaGreatStrT
import Derived.Test.YtpmpooekpeocdaaGreatLoF
import Derived.Test.YtpmpooekpeocdaaGreatStH
import Derived.Test.YtpmpooekpeocdaaGreatDcE
import Derived.Test.YtpmpooekpeocdaaGreatLoC
namespace Go.Proofs.YtpmpooekpeocdaaGreat
open Go.ChangeShapes Go.WideShapes Go.ChangeAt Go.RowKit

/-- What readDeclTerm answers, and what is then in the store. -/
def RdD (base Sb mb gb : Nat) (L0 : List (Nk × Nat × Nat)) (Z0 : Nat → Zs) (ts : List Td) (ps : List ByteArray) (e : Ending) (w' : World) : Prop :=
  ∃ q clock L Z H, e = .returned (.tuple #[.pointer q, .bool (plainB ts ps)]) ∧ St base w' Sb mb gb clock L Z H ∧ (∀ x ∈ L0, x ∈ L ∧ Z x.2.1 = Z0 x.2.1) ∧ (plainB ts ps = true → ∃ pt, q = some ⟨pt (ts.length - 1), 0, none⟩ ∧ Rd ts pt L Z ts.length)
theorem all_any (l : List ByteArray) (ps : List ByteArray) : l.all (hasB ps) = !(l.any (fun s => !hasB ps s)) := by
  induction l with
  | nil => rfl
  | cons a l ih => rw [List.all_cons, List.any_cons, ih]; cases hasB ps a <;> simp
theorem plain_bad {ts : List Td} {ps : List ByteArray} (h : termB ts = false) : plainB ts ps = false := by unfold plainB; rw [h]; rfl
theorem plain_lo {ts : List Td} {ps : List ByteArray} (h : 0 < (rootZ ts).lo) : plainB ts ps = false := by unfold plainB; rw [show decide ((rootZ ts).lo ≤ 0) = false by simp; omega]; simp
theorem plain_ho {ts : List Td} {ps : List ByteArray} (h : (rootZ ts).ho = true) : plainB ts ps = false := by unfold plainB; rw [h]; simp
theorem plain_ok {ts : List Td} {ps : List ByteArray} (h : termB ts = true) (h1 : (rootZ ts).lo ≤ 0) (h2 : (rootZ ts).ho = false) : plainB ts ps = (levsA ts).all (hasB ps) := by unfold plainB; rw [h, h2, show decide ((rootZ ts).lo ≤ 0) = true by simp; omega]; simp
set_option maxRecDepth 20000 in
set_option maxHeartbeats 4000000 in
theorem readDeclTerm_any (S : SortS) (v pv : Value) (ts : List Td) (ps : List ByteArray) (w0 w : World) (Sb mb gb clock0 : Nat) (L0 : List (Nk × Nat × Nat)) (Z0 : Nat → Zs) (H0 : Nat → Bool) (hns : TNodesAt w0 v ts) (hsz : ∀ td ∈ ts, TLens td) (hsm : ∀ td ∈ ts, TSmall td) (hsp : ∀ td ∈ ts, (spell td.lv).length ≤ 1000000000) (hps : StrsAt w0 pv ps) (hb : Below w0.heap.size w0 w) (hs : St w0.heap.size w Sb mb gb clock0 L0 Z0 H0) :
    Calls Tryz.prog 80 #[.pointer (some ⟨Sb, 0, none⟩), .agg #[v], pv] w fun e w' => RdD w0.heap.size Sb mb gb L0 Z0 ts ps e w' ∧ Below w0.heap.size w0 w' ∧ KeptX (fun k => k = mb) w w' := by
  obtain ⟨W, hW⟩ : ∃ W, W = (w.alloc (.cells #[v] 33)).alloc (.cells #[pv] 22) := ⟨_, rfl⟩
  have hbw : Below w.heap.size w W := by rw [hW]; exact bel_alloc (bel_alloc (Below.refl _ _) _) _
  have hbW : Below w0.heap.size w0 W := hb.trans (hbw.mono hb.size)
  have hsW := hs.keep hbw hb.size
  have hmb : mb < w.heap.size := (Array.getElem?_eq_some_iff.1 hs.mp).1
  have c0 : W.cell? ⟨w.heap.size, 0, none⟩ = some v := by rw [hW]; simp [go_sem]
  have c1 : W.cell? ⟨w.heap.size + 1, 0, none⟩ = some pv := by rw [hW]; simp [go_sem]
  have HC := hide (read_keep v ts w0 W Sb mb gb clock0 L0 Z0 H0 hns hsz hsm hsp hbW hsW)
  have HK0 := hide (KeptX.of (C := fun k => k = mb) hbw)
  have HMB := hide hmb
  have HN0 := hide hns
  have HP0 := hide hps
  have HSZ := hide hsz
  have HB0 := hide hb
  have l0 := lt_cell c0
  have l1 := lt_cell c1
  obtain ⟨a, cap, rfl, q1, q2, q3⟩ := hns
  obtain ⟨pa, pc, rfl, q4, q5, q6⟩ := hps
  clear q1 q2 q3 q4 q5 q6 hsz hsm hsp hb hs hbw hbW hsW hmb
  go_enter Tryz.func80, Tryz.ntmps80
  go_upto_region 1 with fail
  rw [← hW]
  clear hW
  go_wp2_with fail
  refine HC.out.mono ?_
  rintro e w1 ⟨he, hb1, hk1⟩
  have HB1 := hide hb1
  have HK1 := hide (HK0.out.trans hk1)
  have c0 := hk1.cell (by show ¬ w.heap.size = mb; have := HMB.out; omega) c0
  have c1 := hk1.cell (by show ¬ w.heap.size + 1 = mb; have := HMB.out; omega) c1
  have l0 := lt_cell c0
  have l1 := lt_cell c1
  clear hb1 hk1 HC HK0
  rcases he with ⟨ht, rfl, hs1⟩ | ⟨ht, pt, clock, L, Z, H, rfl, hs1, hr1, hL1⟩
  · have HE : Hid (plainB ts ps = false) := plain_bad ht
    have HS1 := hide hs1
    clear ht hs1
    go_wp2_with fail
    refine bodyPost_ret (v := .tuple #[.pointer none, .bool false]) (by simp [results, Tryz.results80, go_sem]) rfl ?_
    exact ⟨⟨none, _, _, _, _, by rw [HE.out] <;> rfl, HS1.out, fun x hx => ⟨hx, rfl⟩, fun q => absurd q (by rw [HE.out]; simp)⟩, HB1.out, HK1.out⟩
  · have hl : 1 ≤ ts.length := (root_sz ht).1
    obtain ⟨⟨c, hc⟩, hz⟩ := hr1 (ts.length - 1) (by omega) (by omega)
    obtain ⟨T, hT, hP, hq0⟩ := tree_of ht
    clear hq0
    have hI := rd_root hr1 hT
    have hpar := ist_par hs1 T.cnt T _ (Nat.le_refl _) hI hP
    have HNIL : Hid (H (pt (ts.length - 1)) = false → levsA ts = []) := fun q => levsA_nil ht hT (by rw [← hpar]; exact q)
    obtain ⟨lv, ls, hn, hq⟩ := (hs1.ents _ hc).node
    clear hq
    have d10 : w1.cell? ⟨pt (ts.length - 1), 10, none⟩ = some (.int .i64 (Z (pt (ts.length - 1))).lo) := by rw [hn.cell 10 (by omega)]; rfl
    have d11 : w1.cell? ⟨pt (ts.length - 1), 11, none⟩ = some (.bool (Z (pt (ts.length - 1))).ho) := by rw [hn.cell 11 (by omega)]; rfl
    have d12 : w1.cell? ⟨pt (ts.length - 1), 12, none⟩ = some (.bool (H (pt (ts.length - 1)))) := by rw [hn.cell 12 (by omega)]; rfl
    rw [hz] at d10 d11
    have HT := hide ht
    have HS1 := hide hs1
    have HR1 := hide hr1
    have HL1 := hide hL1
    have e10 : w1.cell? ⟨pt (ts.length - 1), 10, none⟩ = some (.int .i64 (rootZ ts).lo) := d10
    have e11 : w1.cell? ⟨pt (ts.length - 1), 11, none⟩ = some (.bool (rootZ ts).ho) := d11
    clear ht hs1 hr1 hL1 hn hz hc hI hpar d10 d11 hP hT
    obtain ⟨pb, hpb⟩ : ∃ pb, pb = pt (ts.length - 1) := ⟨_, rfl⟩
    rw [← hpb] at e10 e11 d12 HNIL ⊢
    have HPB := hide hpb
    clear hpb
    have lp := lt_cell e10
    have HLO := hide (fun h => plain_lo (ts := ts) (ps := ps) h)
    have HHO := hide (fun h => plain_ho (ts := ts) (ps := ps) h)
    have HOK := hide (fun h1 h2 => plain_ok (ts := ts) (ps := ps) HT.out h1 h2)
    generalize rootZ ts = z at *
    by_cases hlo : 0 < z.lo
    · have HE : Hid (plainB ts ps = false) := HLO.out hlo
      have dlo : decide ((0 : Int) < z.lo) = true := by simp; omega
      go_wp2_with fail
      refine bodyPost_ret (v := .tuple #[.pointer none, .bool false]) (by simp [results, Tryz.results80, go_sem]) rfl ?_
      exact ⟨⟨none, _, _, _, _, by rw [HE.out] <;> rfl, HS1.out, HL1.out, fun q => absurd q (by rw [HE.out]; simp)⟩, HB1.out, HK1.out⟩
    have dlo : decide ((0 : Int) < z.lo) = false := by simp; omega
    cases hho : z.ho with
    | true =>
      have HE : Hid (plainB ts ps = false) := HHO.out hho
      rw [hho] at e11
      go_wp2_with fail
      refine bodyPost_ret (v := .tuple #[.pointer none, .bool false]) (by simp [results, Tryz.results80, go_sem]) rfl ?_
      exact ⟨⟨none, _, _, _, _, by rw [HE.out] <;> rfl, HS1.out, HL1.out, fun q => absurd q (by rw [HE.out]; simp)⟩, HB1.out, HK1.out⟩
    | false =>
      rw [hho] at e11
      have HE : Hid (plainB ts ps = (levsA ts).all (hasB ps)) := HOK.out (by omega) hho
      clear HOK HHO HLO
      cases hH : H pb with
      | false =>
        rw [hH] at d12
        have HE2 : Hid (plainB ts ps = true) := by show _ = _; rw [HE.out, HNIL.out hH]; rfl
        go_wp2_with fail
        refine bodyPost_ret (v := .tuple #[.pointer (some ⟨pb, 0, none⟩), .bool true]) (by simp [results, Tryz.results80, go_sem]) rfl ?_
        exact ⟨⟨_, _, _, _, _, by rw [HE2.out] <;> rfl, HS1.out, HL1.out, fun _ => ⟨pt, by rw [← HPB.out], HR1.out⟩⟩, HB1.out, HK1.out⟩
      | true =>
        rw [hH] at d12
        have HLV := hide (implLevs_any S _ ts w1 (HN0.out.keep HB1.out) HSZ.out)
        go_wp2_with fail
        refine HLV.out.mono ?_
        rintro e w2 ⟨⟨v2, rfl, ho⟩, hb2⟩
        have HB2 : Hid (Below w0.heap.size w0 w2) := HB1.out.trans (hb2.mono HB1.out.size)
        have HK2 : Hid (KeptX (fun k => k = mb) w w2) := HK1.out.trans (KeptX.of hb2)
        have HS2 := hide (HS1.out.keep hb2 HB1.out.size)
        have c1 := keep_cell hb2 c1
        have HCO := hide (conS_any v2 (levsA ts) (w.heap.size + 1) _ ps w2 ho.strs c1 (HP0.out.keep HB2.out))
        clear ho hb2
        go_wp2_with fail
        refine HCO.out.mono ?_
        rintro e w3 ⟨rfl, rfl⟩
        have HE3 : Hid (plainB ts ps = !((levsA ts).any (fun s => !hasB ps s))) := by show _ = _; rw [HE.out, all_any]
        go_wp2_with fail
        refine bodyPost_ret (v := .tuple #[.pointer (some ⟨pb, 0, none⟩), .bool (!((levsA ts).any (fun s => !hasB ps s)))]) (by simp [results, Tryz.results80, go_sem]) rfl ?_
        exact ⟨⟨_, _, _, _, _, by rw [HE3.out] <;> rfl, HS2.out, HL1.out, fun _ => ⟨pt, by rw [← HPB.out], HR1.out⟩⟩, HB2.out, HK2.out⟩
end Go.Proofs.YtpmpooekpeocdaaGreat

/- What the program's ctorNamesOk and declFieldsOk answer. -/
namespace Go.Proofs.YtpmpooekpeocdaaGreat
open Go.ChangeShapes Go.WideShapes Go.ChangeAt Go.RowKit

/-- The names that are taken ahead of a constructor. -/
def takenN (s : ByteArray) (cs : List Ct) (j : Nat) : List ByteArray := [s, recName s] ++ (cs.take j).map Ct.s
theorem takenN_succ (s : ByteArray) (cs : List Ct) (j : Nat) (h : j < cs.length) : takenN s cs (j + 1) = takenN s cs j ++ [cs[j].s] := by
  unfold takenN
  rw [List.take_succ_eq_append_getElem h, List.map_append, List.append_assoc]
  rfl
theorem takenN_len (s : ByteArray) (cs : List Ct) (j : Nat) (h : j ≤ cs.length) : (takenN s cs j).length = 2 + j := by
  unfold takenN
  simp
  omega
theorem ctn_at (s : ByteArray) (cs : List Ct) (j : Nat) (h : j < cs.length) : ctnB (takenN s cs j) (cs.drop j) = (nameB cs[j].s && !hasB (takenN s cs j) cs[j].s && ctnB (takenN s cs (j + 1)) (cs.drop (j + 1))) := by
  rw [List.drop_eq_getElem_cons h, takenN_succ s cs j h]
  rfl
set_option maxRecDepth 20000 in
set_option maxHeartbeats 4000000 in
theorem ctorNamesOk_any (d : Dc) (pv tv vv cv : Value) (w : World) (hz : DcLens d) (hd : DeclAt w pv tv vv cv d) (hs36 : d.s.size ≤ 36) :
    Calls Tryz.prog 112 #[declV d pv tv vv cv] w fun e w' => e = .returned (.bool (decide (d.cs.length ≤ 20) && ctnB [d.s, recName d.s] d.cs)) ∧ Below w.heap.size w w' := by
  obtain ⟨i9, hi9, hz9, hs9, hb9⟩ := info_parts Tryz.info9
  have HZ := hide hz
  have HD := hide hd
  obtain ⟨pa, pc, hpv⟩ : ∃ a c, pv = .slice a d.ps.length c := by obtain ⟨a, c, h, _⟩ := hd.ps; exact ⟨a, c, h⟩
  obtain ⟨ta, tc, htv⟩ := hd.t.form
  obtain ⟨va, vc, hvv⟩ := hd.v.form
  obtain ⟨ca, cc, hcv⟩ := hd.cs.form
  subst hpv htv hvv hcv
  obtain ⟨A, hA⟩ : ∃ A, A = (decide (d.cs.length ≤ 20) && ctnB [d.s, recName d.s] d.cs) := ⟨_, rfl⟩
  rw [← hA]
  have HA := hide hA
  clear hA hz hd
  obtain ⟨W, hW⟩ : ∃ W, W = w.alloc (.cells #[.int .i64 d.k, .string d.s, .slice pa d.ps.length pc, .slice ta d.t.length tc, .slice va d.v.length vc, .int .i64 d.f, .slice ca d.cs.length cc] 36) := ⟨_, rfl⟩
  have hbW : Below w.heap.size w W := by rw [hW]; exact bel_alloc (Below.refl _ _) _
  have c1 : W.cell? ⟨w.heap.size, 1, none⟩ = some (.string d.s) := by rw [hW]; simp [go_sem]
  have c6 : W.cell? ⟨w.heap.size, 6, none⟩ = some (.slice ca d.cs.length cc) := by rw [hW]; simp [go_sem]
  have l1 := lt_cell c1
  have HBW := hide hbW
  unfold declV
  go_enter Tryz.func112, Tryz.ntmps112
  go_upto_region 1 with fail
  rw [← hW]
  clear hW hbW
  by_cases h20 : 20 < d.cs.length
  · have d20 : decide ((20 : Int) < (d.cs.length : Int)) = true := by simp; omega
    have hA : A = false := by rw [HA.out, show decide (d.cs.length ≤ 20) = false by simp; omega]; rfl
    subst hA
    go_wp2_with fail
    go_ret
    exact ⟨rfl, HBW.out⟩
  have d20 : decide ((20 : Int) < (d.cs.length : Int)) = false := by simp; omega
  have HA2 : Hid (A = ctnB (takenN d.s d.cs 0) (d.cs.drop 0)) := by show _ = _; rw [HA.out, show decide (d.cs.length ≤ 20) = true by simp; omega]; rfl
  have h4s : (⟨#[46, 114, 101, 99]⟩ : ByteArray).size = 4 := by decide
  have hadd : ∀ w : World, (Op.stringOp .add d.s ⟨#[46, 114, 101, 99]⟩).run Tryz.prog w = .ok (.string (recName d.s)) w := fun w => run_string_add_sum w _ _ (by omega)
  clear h4s
  obtain ⟨rn, hrn⟩ : ∃ rn, rn = recName d.s := ⟨_, rfl⟩
  rw [← hrn] at hadd
  have HRN := hide hrn
  clear hrn
  obtain ⟨W2, hW2⟩ : ∃ W2, W2 = W.alloc (.cells #[.string d.s, .string rn] 9) := ⟨_, rfl⟩
  have hb2 : Below W.heap.size W W2 := by rw [hW2]; exact bel_alloc (Below.refl _ _) _
  have hs2 := hb2.size
  have HO2 : Hid (W2.ownsRow w.heap.size 9 1 (.slice (some ⟨W.heap.size, 0, none⟩) (2 + 0) 2) (2 + 0) ((takenN d.s d.cs 0).map Value.string)) := by
    show World.ownsRow _ _ _ _ _ _ _
    rw [hW2]
    refine ⟨rfl, .inr ⟨W.heap.size, 2, #[.string d.s, .string rn], rfl, by have := HBW.out.size; omega, heap_alloc_new W _, Nat.le_refl _, by unfold maxLen; omega, rfl, ?_⟩⟩
    rw [HRN.out]
    rfl
  have HB2 : Hid (Below w.heap.size w W2) := HBW.out.trans (hb2.mono HBW.out.size)
  have c6 := keep_cell hb2 c6
  have l6 := lt_cell c6
  go_upto_region 4 with fail
  first | rw [← hW2] | skip
  clear hW2 hb2 c1 l1
  go_wp2_with fail
  go_loopw [3, 19] (fun t i wr => ∃ (j g cap : Nat), j ≤ d.cs.length ∧ i = .int .i64 j ∧ t = .slice (some ⟨g, 0, none⟩) (2 + j) cap ∧ Hid (wr.ownsRow w.heap.size 9 1 (.slice (some ⟨g, 0, none⟩) (2 + j) cap) (2 + j) ((takenN d.s d.cs j).map Value.string)) ∧ Hid (A = ctnB (takenN d.s d.cs j) (d.cs.drop j)) ∧ Hid (Below w.heap.size w wr) ∧ Hid (W2.heap.size ≤ wr.heap.size)) (fun _ i _ => d.cs.length - (intOf i).toNat)
  case atStart => exact ⟨0, _, _, by omega, rfl, rfl, HO2, HA2, HB2, Nat.le_refl _⟩
  case round =>
    clear HO2 HB2 c6 l6
    obtain ⟨j, g, cap, hj, rfl, rfl, HO, HAJ, HBJ, HSJ⟩ := hrel
    by_cases hlt : j < d.cs.length
    · have hlt' : (j : Int) < d.cs.length := by omega
      obtain ⟨a', cap', e', _, _, hc0⟩ := HD.out.cs.keep HBJ.out
      obtain ⟨b, off, ha, hc⟩ := hc0 (by omega)
      have ea : ca = some ⟨b, off, none⟩ := by rw [← ha]; injection e'
      subst ea
      obtain ⟨q1, tv, q2, htv⟩ := hc j hlt
      obtain ⟨ta', tc', rfl⟩ := htv.form
      have HN := hide (ctn_at d.s d.cs j hlt)
      have HTS := hide (takenN_succ d.s d.cs j hlt)
      have HTL := hide (takenN_len d.s d.cs j hj)
      have HCZ := hide (HZ.out.cs d.cs[j] (List.getElem_mem hlt)).1
      clear hc hc0 e' ha htv
      generalize d.cs[j] = c at *
      obtain ⟨W3, hW3⟩ : ∃ W3, W3 = wr.alloc (.cells #[.string c.s, .slice ta' c.t.length tc'] 73) := ⟨_, rfl⟩
      have hb3 : Below wr.heap.size wr W3 := by rw [hW3]; exact bel_alloc (Below.refl _ _) _
      have x0 : W3.cell? ⟨wr.heap.size, 0, none⟩ = some (.string c.s) := by rw [hW3]; simp [go_sem]
      have lx := lt_cell x0
      have HO3 := hide (row_keep hb3 HO.out)
      have HB3 : Hid (Below w.heap.size w W3) := HBJ.out.trans (hb3.mono HBJ.out.size)
      have hs3 := hb3.size
      go_upto_region 7 with fail
      rw [← hW3]
      clear hW3 hb3 q1 q2
      have HC1 := hide (implName_any c.s W3 HCZ.out)
      cases hp : nameB c.s with
      | false =>
        rw [hp] at HC1
        have hA : A = false := by rw [HAJ.out, HN.out, hp]; rfl
        subst hA
        go_wp2_with fail
        refine HC1.out.mono ?_
        rintro e w4 ⟨rfl, hb4⟩
        have HB4 : Hid (Below w.heap.size w w4) := HB3.out.trans (hb4.mono HB3.out.size)
        clear hb4
        go_wp2_with fail
        go_ret
        exact ⟨rfl, HB4.out⟩
      | true =>
        rw [hp] at HC1
        go_wp2_with fail
        refine HC1.out.mono ?_
        rintro e w4 ⟨rfl, hb4⟩
        have HB4 : Hid (Below w.heap.size w w4) := HB3.out.trans (hb4.mono HB3.out.size)
        have x0 := keep_cell hb4 x0
        have lx := lt_cell x0
        have HO4 := hide (row_keep hb4 HO3.out)
        have hs4 := hb4.size
        have HS4 : Hid (StrsAt w4 (.slice (some ⟨g, 0, none⟩) (2 + j) cap) (takenN d.s d.cs j)) := by
          show StrsAt _ _ _
          exact row_strs (e := 9) (base := w.heap.size) (by rw [HTL.out]; exact HO4.out)
        have HC2 := hide (contains_any _ _ c.s w4 HS4.out)
        clear hb4 HC1 HO3 HB3
        cases hq : hasB (takenN d.s d.cs j) c.s with
        | true =>
          rw [hq] at HC2
          have hA : A = false := by rw [HAJ.out, HN.out, hp, hq]; rfl
          subst hA
          go_wp2_with fail
          refine HC2.out.mono ?_
          rintro e w5 ⟨rfl, rfl⟩
          go_wp2_with fail
          go_ret
          exact ⟨rfl, HB4.out⟩
        | false =>
          rw [hq] at HC2
          have HA5 : Hid (A = ctnB (takenN d.s d.cs (j + 1)) (d.cs.drop (j + 1))) := by show _ = _; rw [HAJ.out, HN.out, hp, hq]; rfl
          go_wp2_with fail
          refine HC2.out.mono ?_
          rintro e w5 ⟨rfl, rfl⟩
          clear HC2 HN HAJ HS4
          obtain ⟨W6, hW6⟩ : ∃ W6, W6 = w5.alloc (.cells #[.string c.s] 9) := ⟨_, rfl⟩
          have hb6 : Below w5.heap.size w5 W6 := by rw [hW6]; exact bel_alloc (Below.refl _ _) _
          have hh6 : W6.heap[w5.heap.size]? = some (.cells #[.string c.s] 9 (0, 0)) := by rw [hW6]; exact heap_alloc_new w5 _
          have HO6 := hide (row_keep hb6 HO4.out)
          have hs6 : W6.heap.size = w5.heap.size + 1 := by rw [hW6]; simp
          have HS6E := hide hs6
          have HB6 : Hid (Below w.heap.size w W6) := HB4.out.trans (hb6.mono HB4.out.size)
          have hgl : w.heap.size ≤ g ∧ g < W6.heap.size := HO6.out.lt g rfl
          have hws := HB6.out.size
          clear hb6
          clear hs6
          go_wp2_with (at_builtin; rw [← hW6]; refine wpList_append_lies _ rfl _ _ 22 rfl w.heap.size 9 i9 (.string ⟨#[]⟩) 1 16 Tryz.underlying22 hi9 hz9 hs9 hb9 rfl (by omega) (.slice (some ⟨g, 0, none⟩) (2 + j) cap) (2 + j) ((takenN d.s d.cs j).map Value.string) rfl HO6.out ⟨w5.heap.size, 0, none⟩ 1 1 [.string c.s] rfl rfl (World.news_of_block (cs := #[.string c.s]) (t := 9) (fr := (0, 0)) hh6) (by intro u hu; simp at hu; subst hu; rfl) (by omega) (by unfold maxLen; omega) (by omega) (by omega) W6.heap.size rfl ?_)
          intro g7 cap7 w7 hown7 hgrow7 hat7 hlt7
          rw [← hW6] at hgrow7
          have HB7 : Hid (Below w.heap.size w w7) := HB6.out.grown hgrow7 hws (fun k hk => (World.ownsRow.lt HO6.out k hk).1)
          have HO7 : Hid (w7.ownsRow w.heap.size 9 1 (.slice (some ⟨g7, 0, none⟩) (2 + (j + 1)) cap7) (2 + (j + 1)) ((takenN d.s d.cs (j + 1)).map Value.string)) := by show World.ownsRow _ _ _ _ _ _ _; rw [HTS.out, List.map_append]; exact hown7
          have hs7 := hgrow7.size
          have HS7 : Hid (W2.heap.size ≤ w7.heap.size) := by show _ ≤ _; have := HSJ.out; have := HS6E.out; omega
          clear hown7 hgrow7 hat7 hlt7 hW6 hs7 hh6 HO6 HO4 HB6 HB4 hgl hws HO HBJ HSJ x0 lx
          go_wp2_with fail
          go_roundw
          case rel => exact ⟨j + 1, g7, cap7, hlt, by go_num, by first | rfl | (congr 1; omega), HO7, HA5, HB7, HS7⟩
          case measure => simp [intOf]; omega
    · have hA : A = true := by
        rw [HAJ.out, List.drop_eq_nil_of_le (by omega)]
        rfl
      subst hA
      go_wp2_with fail
      go_ret
      exact ⟨rfl, HBJ.out⟩
end Go.Proofs.YtpmpooekpeocdaaGreat
