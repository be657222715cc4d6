/- What the specification's l3PutAt answers. -/
import Derived.Test.YtjkkojefpecbfaaGreatSpC
import Derived.Test.YtjkkojefpecbfaaGreatPuP
namespace Go.Proofs.YtjkkojefpecbfaaGreat
open Go.ChangeShapes Go.WideShapes Go.ChangeAt Go.RowKit

theorem putR_id (A T : Tt) (u : Int) (h : T.z.lo ≤ u) : putR A T u = T := by
  cases T <;> (unfold putR; rw [if_pos h])
theorem putR_at (A T : Tt) (u : Int) (h : ¬ T.z.lo ≤ u) (h1 : T.hd.k = 1) (h2 : T.hd.n = u) (h0 : T.kids = []) : putR A T u = liftR u A 0 := by
  cases T with
  | t0 hd => unfold putR; rw [if_neg h, if_pos (show hd.k = 1 from h1), if_pos (show hd.n = u from h2)]
  | t1 hd a => simp [Tt.kids] at h0
  | t2 hd a b => simp [Tt.kids] at h0
  | t3 hd a b c => simp [Tt.kids] at h0
theorem putR_var (A T : Tt) (u : Int) (h : ¬ T.z.lo ≤ u) (h1 : T.hd.k = 1) (h2 : T.hd.n ≠ u) (h0 : T.kids = []) : putR A T u = varT (T.hd.n - 1) := by
  cases T with
  | t0 hd => unfold putR; rw [if_neg h, if_pos (show hd.k = 1 from h1), if_neg (show ¬ hd.n = u from h2)]; rfl
  | t1 hd a => simp [Tt.kids] at h0
  | t2 hd a b => simp [Tt.kids] at h0
  | t3 hd a b c => simp [Tt.kids] at h0
theorem putR_kids (A T : Tt) (u : Int) (h : ¬ T.z.lo ≤ u) (h1 : T.hd.k ≠ 1) : putR A T u = Tt.mk T.hd (kidsF (fun t i => putR A t (u + bindN T.hd.k i)) T T.kids.length) := by
  cases T with
  | t0 hd => unfold putR; rw [if_neg h, if_neg (show ¬ hd.k = 1 from h1)]; rfl
  | t1 hd a => conv => lhs; unfold putR
               rw [if_neg h]; rfl
  | t2 hd a b => conv => lhs; unfold putR
                 rw [if_neg h]; rfl
  | t3 hd a b c => conv => lhs; unfold putR
                   rw [if_neg h]; rfl
theorem bind_le (k : Int) (i : Nat) : 0 ≤ bindN k i ∧ bindN k i ≤ 1 := by unfold bindN; split <;> omega
theorem put_num (A : Tt) (hA : A.all nodeP) : ∀ (T : Tt) (u : Int), T.all nodeP → 0 ≤ u → u + T.cnt ≤ 50000 → (putR A T u).all numP
  | .t0 h, u, hp, hu, hu2 => by
    unfold putR
    split
    · exact node_num h 0 hp
    · rename_i hlo
      split
      · rename_i h1
        have h2 : 0 ≤ h.n ∧ h.n ≤ 20000 := num_of (td := h.td []) hp.2 h1
        have h3 := lo_one (T := .t0 h) (node_var h 0 hp) h1
        have h3 : (Tt.t0 h).z.lo = h.n + 1 := h3
        split
        · simp only [Tt.cnt] at hu2
          exact lift_num u (by omega) A 0 hA
        · exact fun _ => ⟨by show 0 ≤ h.n - 1; omega, by show h.n - 1 ≤ 1000000; omega⟩
      · exact node_num h 0 hp
  | .t1 h a, u, hp, hu, hu2 => by
    simp only [Tt.cnt] at hu2
    have b0 := bind_le h.k 0
    unfold putR
    split
    · exact ⟨node_num h 1 hp.1, all_mono node_num hp.2⟩
    · exact ⟨node_num h 1 hp.1, put_num A hA a _ hp.2 (by omega) (by omega)⟩
  | .t2 h a b, u, hp, hu, hu2 => by
    simp only [Tt.cnt] at hu2
    have b0 := bind_le h.k 0
    have b1 := bind_le h.k 1
    have := a.cnt_pos
    have := b.cnt_pos
    unfold putR
    split
    · exact ⟨node_num h 2 hp.1, all_mono node_num hp.2.1, all_mono node_num hp.2.2⟩
    · exact ⟨node_num h 2 hp.1, put_num A hA a _ hp.2.1 (by omega) (by omega), put_num A hA b _ hp.2.2 (by omega) (by omega)⟩
  | .t3 h a b c, u, hp, hu, hu2 => by
    simp only [Tt.cnt] at hu2
    have b0 := bind_le h.k 0
    have b1 := bind_le h.k 1
    have b2 := bind_le h.k 2
    have := a.cnt_pos
    have := b.cnt_pos
    have := c.cnt_pos
    unfold putR
    split
    · exact ⟨node_num h 3 hp.1, all_mono node_num hp.2.1, all_mono node_num hp.2.2.1, all_mono node_num hp.2.2.2⟩
    · exact ⟨node_num h 3 hp.1, put_num A hA a _ hp.2.1 (by omega) (by omega), put_num A hA b _ hp.2.2.1 (by omega) (by omega), put_num A hA c _ hp.2.2.2 (by omega) (by omega)⟩

set_option maxRecDepth 20000 in
set_option maxHeartbeats 8000000 in
theorem l3PutAt_all (A : Tt) (pa : Nat) (hPA : A.all nodeP) (hcA : A.cnt ≤ 20000) (B : Nat) : ∀ (n : Nat) (T : Tt) (p : Nat) (f : Int) (w : World), T.cnt ≤ n → SpG (fun b => b < B) w T p → SpG (fun b => b < B) w A pa → B ≤ w.heap.size → T.all nodeP → T.cnt ≤ 20000 → 0 ≤ f → f + T.cnt ≤ 50000 →
    Calls Tryz.prog 113 #[.pointer (some ⟨p, 0, none⟩), .int .i64 f, .pointer (some ⟨pa, 0, none⟩)] w fun e w' => ∃ p', e = .returned (ptrV p') ∧ SpG (fun b => b < B ∨ w.heap.size ≤ b) w' (putR A T f) p' ∧ Below w.heap.size w w' := by
  intro n
  induction n with
  | zero => intro T _ _ _ h; have := T.cnt_pos; omega
  | succ n ih =>
  intro T p f w hn hS hSA hBw hP hc hf0 hf1
  have HSA := hide hSA
  have HPA := hide hPA
  obtain ⟨ip, hip, hzp, hsp, hbp⟩ := info_parts Tryz.info72
  have IH := hide ih
  have HS := hide hS
  have HP := hide hP
  have HCN := hide hn
  have hcp := T.cnt_pos
  have hk3 := kids_le T
  have hz := zG_eq T (all_mono node_var hP) hc
  obtain ⟨qs, hql, ⟨lvv, kdv, tn, hkr, _⟩, hqk⟩ := spg_open hS
  have tn : TnAt 0 w p (tnL T.hd.k T.hd.n T.hd.m T.hd.s lvv kdv T.zG) := tn
  rw [hz] at tn
  have HQK := hide hqk
  have HQL := hide hql
  obtain ⟨ka, kc, rfl, hkc1, hkc2, hkc3⟩ := hkr
  have hQ0 : qs.length = T.kids.length := hql
  have a0 : w.cell? ⟨p, 0, none⟩ = some (.int .i64 T.hd.k) := by rw [World.ownsRow.cellAt tn 0 (by omega)]; rfl
  have a1 : w.cell? ⟨p, 1, none⟩ = some (.int .i64 T.hd.n) := by rw [World.ownsRow.cellAt tn 1 (by omega)]; rfl
  have a5 : w.cell? ⟨p, 5, none⟩ = some (.slice ka T.kids.length kc) := by rw [World.ownsRow.cellAt tn 5 (by omega), ← hQ0]; rfl
  have a7 : w.cell? ⟨p, 7, none⟩ = some (.int .i64 T.z.lo) := by rw [World.ownsRow.cellAt tn 7 (by omega)]; rfl
  have hpl := lt_cell a0
  have hhp := hd_all T hP
  have hnum : T.hd.k = 1 → 0 ≤ T.hd.n ∧ T.hd.n ≤ 20000 := fun e => num_of (td := T.hd.td []) hhp.2 e
  have hkz : T.hd.k = 1 → T.kids = [] := fun e => by
    have h1 := hhp.1
    rw [e] at h1
    have : tkidsN 1 = 0 := by decide
    exact List.eq_nil_of_length_eq_zero (by omega)
  have HAR : Hid ((T.kids.length : Int) = tkidsN T.hd.k) := hhp.1
  have HNM := hide (node_num T.hd _ hhp)
  have HKZ := hide hkz
  have HNU := hide hnum
  have HKC : Hid (0 < T.kids.length → ∃ b off, ka = some ⟨b, off, none⟩ ∧ b < B ∧ ∀ j (h : j < qs.length), w.cell? ⟨b, off + j, none⟩ = some (ptrV qs[j])) := fun h => hkc3 (by omega)
  obtain ⟨R, hR⟩ : ∃ R, R = putR A T f := ⟨_, rfl⟩
  rw [← hR]
  have HRR := hide hR
  have hsame : SpG (fun b => b < B ∨ w.heap.size ≤ b) w T p := hS.weak (fun b _ h => .inl h)
  have HSM := hide hsame
  rw [hQ0] at hkc1
  have HLO := hide (lo_one (all_mono node_var hP))
  clear ih hS hSA hPA hP hn hz tn hqk hql hkc3 hhp hkz hR hsame hnum hQ0
  by_cases h1 : T.z.lo ≤ f
  · have HE : Hid (R = T) := by show _ = _; rw [HRR.out]; exact putR_id A T f h1
    have d1 : decide (T.z.lo ≤ f) = true := by simp [h1]
    clear h1
    go_enter Tryz.func113, Tryz.ntmps113
    go_wp2_with fail
    go_ret
    exact ⟨p, rfl, by rw [HE.out]; exact HSM.out, Below.refl _ _⟩
  have d1 : decide (T.z.lo ≤ f) = false := by simp; omega
  by_cases h3 : T.hd.k = 1
  · have d3 : (T.hd.k == 1) = true := by simp [h3]
    obtain ⟨n0, n1⟩ := HNU.out h3
    have hlo := HLO.out h3
    by_cases h4 : T.hd.n = f
    · have HE : Hid (R = liftR f A 0) := by show _ = _; rw [HRR.out]; exact putR_at A T f h1 h3 h4 (HKZ.out h3)
      have d4 : (T.hd.n == f) = true := by simp [h4]
      have HL := hide (l3Lift_all f (by omega) B A.cnt A pa 0 w (Nat.le_refl _) HSA.out hBw HPA.out hcA (by omega) (by omega))
      clear h1 h3 h4 hlo
      go_enter Tryz.func113, Tryz.ntmps113
      go_wp2_with fail
      refine HL.out.mono ?_
      rintro e w1 ⟨p1, rfl, g1, g2⟩
      have H1 := hide g1
      have H2 := hide g2
      clear g1 g2
      unfold ptrV
      go_wp2_with fail
      go_ret
      exact ⟨p1, rfl, by rw [HE.out]; exact H1.out, H2.out⟩
    · have HE : Hid (R = varT (T.hd.n - 1)) := by show _ = _; rw [HRR.out]; exact putR_var A T f h1 h3 h4 (HKZ.out h3)
      have d4 : (T.hd.n == f) = false := by simp [h4]
      have hw : IntKind.i64.wrap (T.hd.n - 1) = T.hd.n - 1 := by rw [IntKind.wrap_i64]; omega
      have HV := hide (l3Var_any (fun b => b < B ∨ w.heap.size ≤ b) (T.hd.n - 1) w (by omega))
      clear h1 h3 h4 hlo
      go_enter Tryz.func113, Tryz.ntmps113
      go_wp2_with fail
      refine HV.out.mono ?_
      rintro e w1 ⟨p1, rfl, g1, g2⟩
      have H1 := hide g1
      have H2 := hide g2
      clear g1 g2
      unfold ptrV
      go_wp2_with fail
      go_ret
      exact ⟨p1, rfl, by rw [HE.out]; exact H1.out, H2.out⟩
  have d3 : (T.hd.k == 1) = false := by simp [h3]
  have HE : Hid (R = Tt.mk T.hd (kidsF (fun t i => putR A t (f + bindN T.hd.k i)) T T.kids.length)) := by show _ = _; rw [HRR.out]; exact putR_kids A T f h1 h3
  have H3 := hide h3
  clear h1 h3 HRR HSM HKZ HNU HLO
  obtain ⟨F, hF⟩ : ∃ F : Tt → Nat → Tt, F = fun t i => putR A t (f + bindN T.hd.k i) := ⟨_, rfl⟩
  rw [← hF] at HE
  have HFE := hide hF
  have HFN : Hid (∀ i (h : i < T.kids.length), (F T.kids[i] i).all numP) := fun i h => by rw [hF]; have := kid_cnt T i h; have := bind_le T.hd.k i; exact put_num A HPA.out _ _ (kid_all' T HP.out i h) (by omega) (by omega)
  clear hF
  obtain ⟨W1, hW1⟩ : ∃ W1, W1 = w.alloc (.cells #[] 72) := ⟨_, rfl⟩
  have hb1 : Below w.heap.size w W1 := by rw [hW1]; exact bel_alloc (Below.refl _ _) _
  have HO1 : Hid (W1.ownsRow w.heap.size 72 1 (.slice (some ⟨w.heap.size, 0, none⟩) 0 0) 0 (([] : List Nat).map ptrV)) := by
    show World.ownsRow _ _ _ _ _ _ _
    rw [hW1]
    exact ⟨rfl, .inr ⟨w.heap.size, 0, #[], rfl, Nat.le_refl _, heap_alloc_new w _, Nat.le_refl _, by unfold maxLen; omega, rfl, rfl⟩⟩
  have HB1 := hide hb1
  clear hb1
  go_enter Tryz.func113, Tryz.ntmps113
  go_upto_region 8 with fail
  first | rw [← hW1] | skip
  go_wp2_with fail
  first | rw [← hW1] | skip
  go_loopw [7, 8] (fun r i wr => ∃ (j g cp : Nat) (ps : List Nat), j ≤ T.kids.length ∧ i = .int .i64 j ∧ r = .slice (some ⟨g, 0, none⟩) j cp ∧ Hid (ps.length = j) ∧ Hid (wr.ownsRow w.heap.size 72 1 (.slice (some ⟨g, 0, none⟩) j cp) j (ps.map ptrV)) ∧ Hid (∀ i (h1 : i < ps.length) (h2 : i < (kidsF F T j).length), SpG (fun b => (b < B ∨ w.heap.size ≤ b) ∧ b ≠ g) wr (kidsF F T j)[i] ps[i]) ∧ Hid (Below w.heap.size w wr)) (fun _ i _ => T.kids.length - (intOf i).toNat)
  case atStart => exact ⟨0, w.heap.size, 0, [], by omega, rfl, rfl, rfl, HO1, fun i h => by simp at h, HB1⟩
  case round =>
    clear HO1 HB1 hW1
    obtain ⟨j, g, cp, ps, hj, rfl, rfl, HPL, HO, HSJ, HBJ⟩ := hrel
    have hwsz := HBJ.out.size
    have b0 := keep_cell HBJ.out a0
    have b5 := keep_cell HBJ.out a5
    have hpr := lt_cell b0
    by_cases hlt : j < T.kids.length
    · have hlt' : (j : Int) < T.kids.length := by omega
      have HQ1 := hide (show j + 1 ≤ T.kids.length from hlt)
      have hjq : j < qs.length := by have := HQL.out; omega
      obtain ⟨kb, off, rfl, hkB, hkcell⟩ := HKC.out (by omega)
      have bk := keep_cell HBJ.out (hkcell j hjq)
      unfold ptrV at bk
      have hkb := lt_cell bk
      have hck := kid_cnt T j hlt
      have hcn := HCN.out
      have hbd : 0 ≤ bindN T.hd.k j ∧ bindN T.hd.k j ≤ 1 := by unfold bindN; split <;> omega
      have HU := hide (fun (X : World) (hX : Below wr.heap.size wr X) => l3Under_any p T.hd.k (some ⟨kb, off, none⟩) T.kids.length kc j X (keep_cell hX b0) (keep_cell hX b5) HAR.out)
      have HKS := hide (HQK.out j hjq hlt)
      have HF : Hid (∀ (X : World), Below wr.heap.size wr X → Calls Tryz.prog 113 #[.pointer (some ⟨qs[j], 0, none⟩), .int .i64 (f + bindN T.hd.k j), .pointer (some ⟨pa, 0, none⟩)] X fun e w' => ∃ p', e = .returned (ptrV p') ∧ SpG (fun b => b < B ∨ X.heap.size ≤ b) w' (F T.kids[j] j) p' ∧ Below X.heap.size X w') := fun X hX => by
        rw [HFE.out]
        exact IH.out T.kids[j] qs[j] (f + bindN T.hd.k j) X (by omega) (HKS.out.keep (bel_trans HBJ.out hX)) (HSA.out.keep (bel_trans HBJ.out hX)) (by have := hX.size; omega) (kid_all' T HP.out j hlt) (by omega) (by omega) (by omega)
      have hkbw : kb < w.heap.size := lt_cell (hkcell j hjq)
      have HG := hide (fun (wx : World) (h : Below w.heap.size wr wx) => And.intro (heap_cell (h.block p hpl) b5) (heap_cell (h.block kb hkbw) bk))
      have HTK := hide (kidsF_snoc F T j hlt)
      generalize F T.kids[j] j = K1 at *
      generalize qs[j] = P1 at *
      generalize bindN T.hd.k j = bn at *
      have hw1 : IntKind.i64.wrap (f + bn) = f + bn := by rw [IntKind.wrap_i64]; omega
      have hS0 : (fun w' : World => Below w.heap.size wr w') wr.drew := (Below.refl _ _).drew
      clear hck hcn bk hkcell HKS HKC hbd
      go_wp2_with fail
      refine anyE_region (L := 17) (S := fun w' : World => Below w.heap.size wr w') (by kernel_rfl) ?_
      refine anyE_take 0 (v := ?v1) rfl (by kernel_rfl) (by kernel_rfl) (by kernel_rfl) (by kernel_rfl) (fun _ _ _ h => h) (by rfl) ?hy1 hS0 ?rest1
      case hy1 =>
        intro wx hx
        obtain ⟨m5, mk⟩ := HG.out wx hx
        go_simp
        try rfl
      case rest1 =>
      intro K hK
      go_simp
      refine hK.out _ ?_
      clear hK K
      refine anyE_take 1 (v := ?v2) rfl (by kernel_rfl) (by kernel_rfl) (by kernel_rfl) (by kernel_rfl) (fun _ _ _ h => h) (by rfl) ?hy2 hS0 ?rest2
      case hy2 =>
        intro wx hx
        obtain ⟨m5, mk⟩ := HG.out wx hx
        go_simp
        try rfl
      case rest2 =>
      intro K hK
      go_simp
      refine hK.out _ ?_
      clear hK K
      refine anyE_take 2 (v := ?v3) rfl (by kernel_rfl) (by kernel_rfl) (by kernel_rfl) (by kernel_rfl) (fun _ _ _ h => h) (by rfl) ?hy3 hS0 ?rest3
      case hy3 =>
        intro wx hx
        obtain ⟨m5, mk⟩ := HG.out wx hx
        go_simp
        try rfl
      case rest3 =>
      intro K hK
      go_simp
      refine hK.out _ ?_
      clear hK K
      refine anyE_take 3 (v := ?v4) rfl (by kernel_rfl) (by kernel_rfl) (by kernel_rfl) (by kernel_rfl) (fun _ _ _ h => h) (by rfl) ?hy4 hS0 ?rest4
      case hy4 =>
        intro wx hx
        obtain ⟨m5, mk⟩ := HG.out wx hx
        go_simp
        try rfl
      case rest4 =>
      intro K hK
      go_simp
      refine hK.out _ ?_
      clear hK K
      refine anyE_take 4 (v := ?v5) rfl (by kernel_rfl) (by kernel_rfl) (by kernel_rfl) (by kernel_rfl) (fun _ _ _ h => h) (by rfl) ?hy5 hS0 ?rest5
      case hy5 =>
        intro wx hx
        obtain ⟨m5, mk⟩ := HG.out wx hx
        go_simp
        try rfl
      case rest5 =>
      intro K hK
      go_simp
      refine hK.out _ ?_
      clear hK K
      refine anyE_take 5 (v := ?v6) rfl (by kernel_rfl) (by kernel_rfl) (by kernel_rfl) (by kernel_rfl) (fun _ _ _ h => h) (by rfl) ?hy6 hS0 ?rest6
      case hy6 =>
        intro wx hx
        obtain ⟨m5, mk⟩ := HG.out wx hx
        go_simp
        try rfl
      case rest6 =>
      intro K hK
      go_simp
      refine hK.out _ ?_
      clear hK K
      refine anyE_take 6 (v := ?v7) rfl (by kernel_rfl) (by kernel_rfl) (by kernel_rfl) (by kernel_rfl) (fun _ _ _ h => h) (by rfl) ?hy7 hS0 ?rest7
      case hy7 =>
        intro wx hx
        obtain ⟨m5, mk⟩ := HG.out wx hx
        go_simp
        try rfl
      case rest7 =>
      intro K hK
      go_simp
      refine hK.out _ ?_
      clear hK K
      refine anyE_take 7 (v := ?v8) rfl (by kernel_rfl) (by kernel_rfl) (by kernel_rfl) (by kernel_rfl) (fun _ _ _ h => h) (by rfl) ?hy8 hS0 ?rest8
      case hy8 =>
        intro wx hx
        obtain ⟨m5, mk⟩ := HG.out wx hx
        go_simp
        try rfl
      case rest8 =>
      intro K hK
      go_simp
      refine hK.out _ ?_
      clear hK K
      refine anyE_take 8 (v := ?v9) rfl (by kernel_rfl) (by kernel_rfl) (by kernel_rfl) (by kernel_rfl) (fun _ _ _ h => h) (by rfl) ?hy9 hS0 ?rest9
      case hy9 =>
        intro wx hx
        obtain ⟨m5, mk⟩ := HG.out wx hx
        go_simp
        try rfl
      case rest9 =>
      intro K hK
      go_simp
      refine hK.out _ ?_
      clear hK K
      refine anyE_take 9 (v := ?v10) rfl (by kernel_rfl) (by kernel_rfl) (by kernel_rfl) (by kernel_rfl) (fun _ _ _ h => h) (by rfl) ?hy10 hS0 ?rest10
      case hy10 =>
        intro wx hx
        obtain ⟨m5, mk⟩ := HG.out wx hx
        go_simp
        try rfl
      case rest10 =>
      intro K hK
      go_simp
      refine hK.out _ ?_
      clear hK K
      refine anyE_take 10 (v := ?v11) rfl (by kernel_rfl) (by kernel_rfl) (by kernel_rfl) (by kernel_rfl) (fun _ _ _ h => h) (by rfl) ?hy11 hS0 ?rest11
      case hy11 =>
        intro wx hx
        obtain ⟨m5, mk⟩ := HG.out wx hx
        go_simp
        try rfl
      case rest11 =>
      intro K hK
      go_simp
      refine hK.out _ ?_
      clear hK K
      refine anyE_take 13 (v := ?v12) rfl (by kernel_rfl) (by kernel_rfl) (by kernel_rfl) (by kernel_rfl) (fun _ _ _ h => h) (by rfl) ?hy12 hS0 ?rest12
      case hy12 =>
        intro wx hx
        obtain ⟨m5, mk⟩ := HG.out wx hx
        go_simp
        try rfl
      case rest12 =>
      intro K hK
      go_simp
      refine hK.out _ ?_
      clear hK K
      refine anyE_one 11 (by kernel_rfl) rfl (fun K hK => ?_)
      go_simp
      refine (HU.out wr.drew (Below.refl _ _).drew).mono ?_
      rintro e w2 ⟨rfl, hb2⟩
      have hB2 : Below wr.heap.size wr w2 := (Below.refl wr.heap.size wr).drew.trans hb2
      refine hK.out _ _ (fun _ => hB2.mono hwsz) ?_
      clear hK K hb2 hS0
      refine anyE_take 12 (v := ?v13) rfl (by kernel_rfl) (by kernel_rfl) (by kernel_rfl) (by kernel_rfl) (fun _ _ _ h => h) (by rfl) ?hy13 (hB2.mono hwsz) ?rest13
      case hy13 =>
        intro wx hx
        obtain ⟨m5, mk⟩ := HG.out wx hx
        go_simp
        try rfl
      case rest13 =>
      intro K hK
      go_simp
      refine hK.out _ ?_
      clear hK K
      refine anyE_one 14 (by kernel_rfl) rfl (fun K hK => ?_)
      go_simp
      refine (HF.out w2 hB2).mono ?_
      rintro e w3 ⟨p3, rfl, hsp3, hb3⟩
      have hB3 : Below wr.heap.size wr w3 := bel_trans hB2 hb3
      refine hK.out _ _ (fun _ => hB3.mono hwsz) ?_
      clear hK K
      have hsz2 := hB2.size
      have HSP3 := hide hsp3
      have hsz3 := hb3.size
      clear hsp3 hb3 hB2
      refine anyE_one 15 (by kernel_rfl) rfl (fun K hK => ?_)
      unfold ptrV
      go_simp
      obtain ⟨W4, hW4⟩ : ∃ W4, W4 = w3.alloc (.cells #[.pointer (some ⟨p3, 0, none⟩)] 72) := ⟨_, rfl⟩
      rw [← hW4]
      have hb4 : Below w3.heap.size w3 W4 := by rw [hW4]; exact bel_alloc (Below.refl _ _) _
      have hh4 : W4.heap[w3.heap.size]? = some (.cells #[.pointer (some ⟨p3, 0, none⟩)] 72 (0, 0)) := by rw [hW4]; exact heap_alloc_new w3 _
      have hB4 : Below wr.heap.size wr W4 := bel_trans hB3 hb4
      refine hK.out _ _ (fun _ => hB4.mono hwsz) ?_
      clear hK K
      have hs4 : W4.heap.size = w3.heap.size + 1 := by rw [hW4]; simp
      have HSP4 := hide (HSP3.out.keep hb4)
      have HOW4 := hide (row_keep hB4 HO.out)
      have HB4 := hide hB4
      have HS4 := hide hs4
      clear hb4 hW4 HSP3 hB3
      refine anyE_one 16 (by kernel_rfl) rfl (fun K hK => ?_)
      refine step_append_lies _ rfl _ _ 75 rfl w.heap.size 72 ip (.pointer none) 1 8 Tryz.underlying75 hip hzp hsp hbp rfl (by omega) (.slice (some ⟨g, 0, none⟩) j cp) j (ps.map ptrV) rfl HOW4.out ⟨w3.heap.size, 0, none⟩ 1 1 [.pointer (some ⟨p3, 0, none⟩)] rfl rfl (World.news_of_block (cs := #[.pointer (some ⟨p3, 0, none⟩)]) (t := 72) (fr := (0, 0)) hh4) (by intro u hu; simp at hu; rcases hu with rfl; rfl) (by omega) (by unfold maxLen; omega) (by omega) (by have := HBJ.out.size; omega) W4.heap.size rfl ?_
      intro g4 cap4 w4 hown4 hgrow4 hat4 hlt4
      obtain ⟨hglo, hglt⟩ := World.ownsRow.lt HO.out g rfl
      have hgl4 : g < W4.heap.size := by have := HB4.out.size; omega
      have hg4 : g = g4 ∨ g4 = W4.heap.size := by
        rcases hat4 with h | h
        · exact .inl (Option.some.inj h)
        · exact .inr h
      have hBw4 : Below w.heap.size wr w4 := (HB4.out.mono hwsz).grown hgrow4 (by have := HB4.out.size; omega) (fun k hk => by
        simp [Value.ownBlock] at hk
        omega)
      refine hK.out _ _ (fun _ => hBw4) ?_
      clear hK K
      have HO5 : Hid (w4.ownsRow w.heap.size 72 1 (.slice (some ⟨g4, 0, none⟩) (j + 1) cap4) (j + 1) ((ps ++ [p3]).map ptrV)) := by
        show World.ownsRow _ _ _ _ _ _ _
        rw [List.map_append]
        exact hown4
      have HP5 : Hid ((ps ++ [p3]).length = j + 1) := by show _ = _; rw [List.length_append, HPL.out]; rfl
      have HB5 : Hid (Below w.heap.size w w4) := HBJ.out.trans hBw4
      have HS5 : Hid (∀ i (h1 : i < (ps ++ [p3]).length) (h2 : i < (kidsF F T (j + 1)).length), SpG (fun b => (b < B ∨ w.heap.size ≤ b) ∧ b ≠ g4) w4 (kidsF F T (j + 1))[i] (ps ++ [p3])[i]) := by
        show ∀ i, _
        rw [HTK.out]
        intro i h1 h2
        have hpl' := HPL.out
        have hkl' := kidsF_len F T j
        have hW4s := HB4.out.size
        by_cases e : i < j
        · have e1 : (kidsF F T j ++ [K1])[i] = (kidsF F T j)[i]'(by omega) := List.getElem_append_left (by omega)
          have e2 : (ps ++ [p3])[i] = ps[i]'(by omega) := List.getElem_append_left (by omega)
          rw [e1, e2]
          exact ((HSJ.out i (by omega) (by omega)).keep HB4.out).row HOW4.out hgrow4 (fun b hb hl => ⟨hb.2, hb.1, by rcases hg4 with h | h <;> omega⟩)
        · have ei : i = j := by simp at h1; omega
          subst ei
          have e1 : (kidsF F T i ++ [K1])[i] = K1 := by simp [hkl']
          have e2 : (ps ++ [p3])[i] = p3 := by simp [hpl']
          rw [e1, e2]
          exact HSP4.out.row HOW4.out hgrow4 (fun b hb hl => by
            have hne : b ≠ g := by rcases hb with h | h <;> omega
            exact ⟨hne, by rcases hb with h | h; exact .inl h; exact .inr (by omega), by rcases hg4 with h | h <;> omega⟩)
      clear hgrow4 hown4 hat4 hlt4 HSP4 HOW4 hh4 hBw4
      refine anyE_one 17 (by kernel_rfl) rfl (fun K hK => ?_)
      go_simp
      refine hK.out _ _ (fun h => absurd rfl h) ?_
      clear hK K
      refine anyE_done (by kernel_rfl) ?_ _
      go_wp2_with fail
      go_roundw
      case rel => exact ⟨j + 1, g4, cap4, ps ++ [p3], HQ1.out, by go_num, rfl, HP5, HO5, HS5, HB5⟩
      case measure => have := HQ1.out; simp [intOf]; omega
    · have hlt' : ¬ (j : Int) < T.kids.length := by omega
      have e : j = T.kids.length := by omega
      subst e
      have HW := hide (l3With_any (fun b => b < B ∨ w.heap.size ≤ b) T p (kidsF F T T.kids.length) ps (.slice (some ⟨g, 0, none⟩) T.kids.length cp) wr ((HS.out.keep HBJ.out).weak (fun b _ h => .inl h)) HNM.out (by rw [kidsF_len]; exact HPL.out) (by rw [kidsF_len]; exact hk3) ((PtrRowQ.own HO.out HPL.out.symm).to (fun b hb _ => ⟨.inr hb, fun _ _ h => h⟩)) (fun i q1 q2 => (HSJ.out i q1 q2).weak (fun b _ hb => hb.1)) (kidsF_mem HFN.out) (fun e => absurd e H3.out))
      rw [← HE.out] at HW
      clear b0 HO HSJ
      go_wp2_with fail
      refine HW.out.mono ?_
      rintro e w2 ⟨p2, rfl, g1, g2⟩
      have G1 := hide g1
      have G2 := hide (bel_trans HBJ.out g2)
      clear g1 g2
      unfold ptrV
      go_wp2_with fail
      go_ret
      exact ⟨p2, rfl, G1.out, G2.out⟩
theorem l3Put_any (A : Tt) (pa : Nat) (hPA : A.all nodeP) (hcA : A.cnt ≤ 20000) (B : Nat) (T : Tt) (p : Nat) (w : World) (hS : SpG (fun b => b < B) w T p) (hSA : SpG (fun b => b < B) w A pa) (hB : B ≤ w.heap.size) (hP : T.all nodeP) (hc : T.cnt ≤ 20000) :
    Calls Tryz.prog 66 #[.pointer (some ⟨p, 0, none⟩), .pointer (some ⟨pa, 0, none⟩)] w fun e w' => ∃ p', e = .returned (ptrV p') ∧ SpG (fun b => b < B ∨ w.heap.size ≤ b) w' (putR A T 0) p' ∧ Below w.heap.size w w' := by
  have HC := hide (l3PutAt_all A pa hPA hcA B T.cnt T p 0 w (Nat.le_refl _) hS hSA hB hP hc (by omega) (by omega))
  clear hPA hS hSA hP
  go_enter Tryz.func66, Tryz.ntmps66
  go_wp2_with fail
  refine HC.out.mono ?_
  rintro e w1 ⟨p1, rfl, g1, g2⟩
  have H1 := hide g1
  have H2 := hide g2
  clear g1 g2
  unfold ptrV
  go_wp2_with fail
  go_ret
  exact ⟨p1, rfl, H1.out, H2.out⟩
end Go.Proofs.YtjkkojefpecbfaaGreat
