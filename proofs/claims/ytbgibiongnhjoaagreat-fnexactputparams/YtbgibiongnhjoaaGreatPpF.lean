/- What the specification's l3Params answers at every tree. -/
import Derived.Test.YtbgibiongnhjoaaGreatPpE
namespace Go.Proofs.YtbgibiongnhjoaaGreat
open Go.ChangeShapes Go.WideShapes Go.ChangeAt Go.RowKit

theorem levrow_none (Q : Nat → Prop) (w : World) (a : Option Addr) : LevRowF Q w (.slice a 0 0) [] := ⟨[], [], rfl, ⟨a, 0, rfl, Nat.le_refl _, by unfold maxLen; omega, fun h => by simp at h⟩, ⟨⟨rfl, fun j h => by simp at h⟩, fun u hu => by simp at hu⟩, rfl, fun q h => by simp at h⟩
theorem sumZ_le3 (zs : List Zs) (h3 : zs.length ≤ 3) (h : ∀ z ∈ zs, z.sz ≤ 20001) : 1 + sumZ zs ≤ 1000000 := by
  match zs, h3, h with
  | [], _, _ => simp [sumZ]
  | [a], _, h => have := h a (by simp); simp [sumZ]; omega
  | [a, b], _, h => have := h a (by simp); have := h b (by simp); simp [sumZ]; omega
  | [a, b, c], _, h => have := h a (by simp); have := h b (by simp); have := h c (by simp); simp [sumZ]; omega
set_option maxRecDepth 20000 in
set_option maxHeartbeats 8000000 in
theorem params_node (names : List ByteArray) (ts : List Tr) (qs0 : List Nat) (vn vl : Value) (B : Nat) (T : Tt) (hne : names ≠ []) (hlv : T.hd.lv = []) (ih : ∀ j (h : j < T.kids.length), ParIH names ts qs0 vn vl B T.kids[j]) : ParIH names ts qs0 vn vl B T := by
  intro p w hS hBw hV hP
  obtain ⟨ip, hip, hzp, hsp, hbp⟩ := info_parts Tryz.info72
  have IH := hide ih
  have HP := hide hP
  have hk3 := kids_le T
  obtain ⟨qs, hql, ⟨lvv, kdv, tn, hkr, hlr⟩, hqk⟩ := spg_open hS
  have tn : TnAt 0 w p (tnL T.hd.k T.hd.n T.hd.m T.hd.s lvv kdv T.zG) := tn
  have hlr : LevRowF (fun b => b < B) w lvv T.hd.lv := hlr
  rw [hlv] at hlr
  obtain ⟨la, lc, rfl⟩ : ∃ la lc, lvv = .slice la 0 lc := by obtain ⟨ps, us, e1, ⟨a, cap, rfl, _⟩, _⟩ := hlr; exact ⟨a, cap, by simp at e1; rw [e1]; rfl⟩
  have HQK := hide hqk
  have HQL := hide hql
  obtain ⟨ka, kc, rfl, hkc1, hkc2, hkc3⟩ := hkr
  have hQ0 : qs.length = T.kids.length := hql
  have a0 : w.cell? ⟨p, 0, none⟩ = some (.int .i64 T.hd.k) := by rw [World.ownsRow.cellAt tn 0 (by omega)]; rfl
  have a1 : w.cell? ⟨p, 1, none⟩ = some (.int .i64 T.hd.n) := by rw [World.ownsRow.cellAt tn 1 (by omega)]; rfl
  have a2 : w.cell? ⟨p, 2, none⟩ = some (.int .i64 T.hd.m) := by rw [World.ownsRow.cellAt tn 2 (by omega)]; rfl
  have a3 : w.cell? ⟨p, 3, none⟩ = some (.string T.hd.s) := by rw [World.ownsRow.cellAt tn 3 (by omega)]; rfl
  have a4 : w.cell? ⟨p, 4, none⟩ = some (.slice la 0 lc) := by rw [World.ownsRow.cellAt tn 4 (by omega)]; rfl
  have a5 : w.cell? ⟨p, 5, none⟩ = some (.slice ka T.kids.length kc) := by rw [World.ownsRow.cellAt tn 5 (by omega), ← hQ0]; rfl
  have hpl := lt_cell a0
  have hhp := hd_all T hP
  have hkz : T.hd.k = 1 → T.kids.length = 0 := fun e => by
    have h1 := hhp.1
    rw [e] at h1
    have : tkidsN 1 = 0 := by decide
    omega
  have HNM := hide (node_num T.hd _ hhp)
  have HKZ := hide hkz
  have HLV := hide hlv
  have HKC : Hid (0 < T.kids.length → ∃ b off, ka = some ⟨b, off, none⟩ ∧ b < B ∧ ∀ j (h : j < qs.length), w.cell? ⟨b, off + j, none⟩ = some (ptrV qs[j])) := fun h => hkc3 (by omega)
  have hnl : 0 < names.length := List.length_pos_iff.2 hne
  have dn : ((names.length : Int) == 0) = false := by rw [beq_eq_false_iff_ne]; omega
  have HV := hide hV
  obtain ⟨na, nc, rfl, _, _, _⟩ := hV.n
  obtain ⟨va, vc, rfl, _, _, _⟩ := hV.l
  obtain ⟨W1, hW1⟩ : ∃ W1, W1 = w.alloc (.cells #[] 164) := ⟨_, rfl⟩
  have HB1 : Hid (Below w.heap.size w W1) := by show Below _ _ _; rw [hW1]; exact bel_alloc (Below.refl _ _) _
  have hs1 : W1.heap.size = w.heap.size + 1 := by rw [hW1]; simp
  have HS1 := hide hs1
  obtain ⟨W2, hW2⟩ : ∃ W2, W2 = W1.alloc (.cells #[] 72) := ⟨_, rfl⟩
  have HB2 : Hid (Below w.heap.size w W2) := by show Below _ _ _; rw [hW2]; exact bel_alloc HB1.out _
  have HO2 : Hid (W2.ownsRow w.heap.size 72 1 (.slice (some ⟨W1.heap.size, 0, none⟩) 0 0) 0 (([] : List Nat).map ptrV)) := by
    show World.ownsRow _ _ _ _ _ _ _
    rw [hW2]
    exact ⟨rfl, .inr ⟨W1.heap.size, 0, #[], rfl, by omega, heap_alloc_new W1 _, Nat.le_refl _, by unfold maxLen; omega, rfl, rfl⟩⟩
  rw [hQ0] at hkc1
  have b4 := keep_cell HB1.out a4
  have hb4 := lt_cell b4
  clear ih hS hP tn hqk hql hkc3 hhp hkz hV hlr hlv hnl hQ0 hs1 hkc2
  go_enter Tryz.func70, Tryz.ntmps70
  go_upto_region 5 with fail
  first | rw [← hW1] | skip
  go_wp2_with fail
  first | rw [← hW1] | skip
  go_loopw [7, 8] (fun r i wq => i = .int .i64 0 ∧ r = .slice (some ⟨w.heap.size, 0, none⟩) 0 0 ∧ wq = W1) (fun _ _ _ => 0)
  case atStart => exact ⟨rfl, rfl, rfl⟩
  case round =>
    obtain ⟨rfl, rfl, hq⟩ := hrel
    have hq := hq.symm
    subst hq
    clear hW1
    go_upto_region 10 with fail
    first | rw [← hW2] | skip
    go_wp2_with fail
    first | rw [← hW2] | skip
    go_loopw [9, 10] (fun r i wr => ∃ (j g cp : Nat) (ps : List Nat) (zs : List Zs), j ≤ T.kids.length ∧ i = .int .i64 j ∧ r = .slice (some ⟨g, 0, none⟩) j cp ∧ Hid (ps.length = j) ∧ Hid (zs.length = j) ∧ Hid (wr.ownsRow w.heap.size 72 1 (.slice (some ⟨g, 0, none⟩) j cp) j (ps.map ptrV)) ∧ Hid (∀ i (h1 : i < ps.length) (h2 : i < zs.length) (h3 : i < T.kids.length), ParZ (fun b => (b < B ∨ w.heap.size ≤ b) ∧ b ≠ g) names ts wr T.kids[i] ps[i] zs[i]) ∧ Hid (Below w.heap.size w wr)) (fun _ i _ => T.kids.length - (intOf i).toNat)
    case atStart => exact ⟨0, W1.heap.size, 0, [], [], by omega, rfl, rfl, rfl, rfl, HO2, fun i h => by simp at h, HB2⟩
    case round =>
      clear HO2 HB2 hW2 b4 hb4
      obtain ⟨j, g, cp, ps, zs, hj, rfl, rfl, HPL, HZL, HO, HSJ, HBJ⟩ := hrel
      have hwsz := HBJ.out.size
      have b5 := keep_cell HBJ.out a5
      have hpr := lt_cell b5
      by_cases hlt : j < T.kids.length
      · have hlt' : (j : Int) < T.kids.length := by omega
        have HQ1 := hide (show j + 1 ≤ T.kids.length from hlt)
        have HLT := hide hlt
        have hjq : j < qs.length := by have := HQL.out; omega
        obtain ⟨kb, off, rfl, hkB, hkcell⟩ := HKC.out (by omega)
        have bk := keep_cell HBJ.out (hkcell j hjq)
        unfold ptrV at bk
        have hkb := lt_cell bk
        have HF := hide (IH.out j hlt qs[j] wr ((HQK.out j hjq hlt).keep HBJ.out) (by omega) (HV.out.keep HBJ.out) (kid_all' T HP.out j hlt))
        generalize qs[j] = P1 at *
        clear hkcell
        go_wp2_with fail
        refine HF.out.mono ?_
        rintro e w3 ⟨p3, z3, rfl, hz3, hb3⟩
        unfold ptrV
        have HZ3 := hide hz3
        have hsz3 := hb3.size
        obtain ⟨W4, hW4⟩ : ∃ W4, W4 = w3.alloc (.cells #[.pointer (some ⟨p3, 0, none⟩)] 72) := ⟨_, rfl⟩
        have hb4 : Below w3.heap.size w3 W4 := by rw [hW4]; exact bel_alloc (Below.refl _ _) _
        have hh4 : W4.heap[w3.heap.size]? = some (.cells #[.pointer (some ⟨p3, 0, none⟩)] 72 (0, 0)) := by rw [hW4]; exact heap_alloc_new w3 _
        have hB4 : Below wr.heap.size wr W4 := bel_trans hb3 hb4
        have hs4 : W4.heap.size = w3.heap.size + 1 := by rw [hW4]; simp
        have HZ4 := hide (HZ3.out.keep hb4)
        have HOW4 := hide (row_keep hB4 HO.out)
        have HB4 := hide hB4
        have HS4 := hide hs4
        clear hb4 hb3 hz3 HF hB4 bk hkb b5 hpr HZ3
        go_wp2_with (first
          | (at_builtin
             rw [← hW4]
             refine wpList_append_lies _ rfl _ _ 75 rfl w.heap.size 72 ip (.pointer none) 1 8 Tryz.underlying75 hip hzp hsp hbp rfl (by omega) (.slice (some ⟨g, 0, none⟩) j cp) j (ps.map ptrV) rfl HOW4.out ⟨w3.heap.size, 0, none⟩ 1 1 [.pointer (some ⟨p3, 0, none⟩)] rfl rfl (World.news_of_block (cs := #[.pointer (some ⟨p3, 0, none⟩)]) (t := 72) (fr := (0, 0)) hh4) (by intro u hu; simp at hu; rcases hu with rfl; rfl) (by omega) (by unfold maxLen; omega) (by omega) (by omega) W4.heap.size rfl ?_)
          | fail)
        intro g4 cap4 w4 hown4 hgrow4 hat4 hlt4
        rw [← hW4] at hgrow4
        obtain ⟨hglo, hglt⟩ := World.ownsRow.lt HO.out g rfl
        have hgl4 : g < W4.heap.size := by have := HB4.out.size; omega
        have hg4 : g = g4 ∨ g4 = W4.heap.size := by
          rcases hat4 with h | h
          · exact .inl (Option.some.inj h)
          · exact .inr (by have := HS4.out; omega)
        have hBw4 : Below w.heap.size wr w4 := (HB4.out.mono hwsz).grown hgrow4 (by have := HB4.out.size; omega) (fun k hk => by
          simp [Value.ownBlock] at hk
          omega)
        have HO5 : Hid (w4.ownsRow w.heap.size 72 1 (.slice (some ⟨g4, 0, none⟩) (j + 1) cap4) (j + 1) ((ps ++ [p3]).map ptrV)) := by
          show World.ownsRow _ _ _ _ _ _ _
          rw [List.map_append]
          exact hown4
        have HP5 : Hid ((ps ++ [p3]).length = j + 1) := by show _ = _; rw [List.length_append, HPL.out]; rfl
        have HZ5 : Hid ((zs ++ [z3]).length = j + 1) := by show _ = _; rw [List.length_append, HZL.out]; rfl
        have HB5 : Hid (Below w.heap.size w w4) := HBJ.out.trans hBw4
        have HS5 : Hid (∀ i (h1 : i < (ps ++ [p3]).length) (h2 : i < (zs ++ [z3]).length) (h3 : i < T.kids.length), ParZ (fun b => (b < B ∨ w.heap.size ≤ b) ∧ b ≠ g4) names ts w4 T.kids[i] (ps ++ [p3])[i] (zs ++ [z3])[i]) := by
          intro i h1 h2 h3
          have hpl' := HPL.out
          have hzl' := HZL.out
          have hW4s := HB4.out.size
          by_cases e : i < j
          · have e1 : (zs ++ [z3])[i] = zs[i]'(by omega) := List.getElem_append_left (by omega)
            have e2 : (ps ++ [p3])[i] = ps[i]'(by omega) := List.getElem_append_left (by omega)
            rw [e1, e2]
            exact ((HSJ.out i (by omega) (by omega) h3).keep HB4.out).to (Carry.grown HOW4.out (by decide) (by decide) hgrow4 (fun b hb hl => ⟨hb.2, hb.1, by rcases hg4 with h | h <;> omega⟩))
          · have ei : i = j := by simp at h1; omega
            subst ei
            have e1 : (zs ++ [z3])[i] = z3 := by simp [hzl']
            have e2 : (ps ++ [p3])[i] = p3 := by simp [hpl']
            rw [e1, e2]
            exact HZ4.out.to (Carry.grown HOW4.out (by decide) (by decide) hgrow4 (fun b hb hl => by
              have hne : b ≠ g := by rcases hb with h | h <;> omega
              exact ⟨hne, by rcases hb with h | h; exact .inl h; exact .inr (by omega), by rcases hg4 with h | h <;> omega⟩))
        clear hgrow4 hown4 hat4 hlt4 HZ4 HOW4 hh4 hBw4 hW4
        go_wp2_with fail
        go_roundw
        case rel => exact ⟨j + 1, g4, cap4, ps ++ [p3], zs ++ [z3], HQ1.out, by go_num, rfl, HP5, HZ5, HO5, HS5, HB5⟩
        case measure => have := HQ1.out; simp [intOf]; omega
      · have hlt' : ¬ (j : Int) < T.kids.length := by omega
        have e : j = T.kids.length := by omega
        subst e
        have d0 := keep_cell HBJ.out a0
        have d1 := keep_cell HBJ.out a1
        have d2 := keep_cell HBJ.out a2
        have d3 := keep_cell HBJ.out a3
        have HKR : Hid (PtrRowQ (fun b => w.heap.size ≤ b) wr (.slice (some ⟨g, 0, none⟩) T.kids.length cp) ps) := PtrRowQ.own HO.out HPL.out.symm
        have HZK : Hid (∀ z ∈ zs, ZOkG z ∧ z.sz ≤ 20001) := fun z hz => by
          obtain ⟨i, hi, rfl⟩ := List.getElem_of_mem hz
          have hpl' := HPL.out
          have hzl' := HZL.out
          exact (HSJ.out i (by omega) hi (by omega)).2.1
        have HMK := hide (fun (V : World) (hb : Below wr.heap.size wr V) => l3MakeG_any T.hd.k T.hd.n T.hd.m T.hd.s (.slice (some ⟨w.heap.size, 0, none⟩) 0 0) (.slice (some ⟨g, 0, none⟩) T.kids.length cp) 0 ps zs V (levrow_none (fun _ => True) V _).row ((HKR.out.to (R := fun _ => True) (fun b _ _ => ⟨trivial, fun o u hu => keep_cell hb hu⟩)).row) (by rw [HZL.out, HPL.out]) (fun i h1 h2 => ((HSJ.out i h1 h2 (by have := HPL.out; omega)).keep hb).1) (fun z hz => (HZK.out z hz).1) (sumZ_le3 zs (by rw [HZL.out]; exact hk3) (fun z hz => (HZK.out z hz).2)) HNM.out (fun e => List.eq_nil_of_length_eq_zero (by rw [HPL.out]; exact HKZ.out e)))
        have HG := hide (fun (wx : World) (hx : Below wr.heap.size wr wx) => And.intro (keep_cell hx d0) (And.intro (keep_cell hx d1) (And.intro (keep_cell hx d2) (keep_cell hx d3))))
        have hS0 : (fun w' : World => Below wr.heap.size wr w') wr.drew := (Below.refl _ _).drew
        have hd := lt_cell d0
        clear d0 d1 d2 d3 HKC
        go_wp2_with fail
        refine anyE_region (L := 19) (S := fun w' : World => Below wr.heap.size wr w') (by kernel_rfl) ?_
        refine anyE_take 0 (v := ?v1) rfl (by kernel_rfl) (by kernel_rfl) (by kernel_rfl) (by kernel_rfl) (fun _ _ _ h => h) (by rfl) ?hy1 hS0 ?rest1
        case hy1 =>
          intro wx hx
          obtain ⟨m0, m1, m2, m3⟩ := HG.out wx hx
          go_simp
          try rfl
        case rest1 =>
        intro K hK
        go_simp
        refine hK.out _ ?_
        clear hK K
        refine anyE_take 1 (v := ?v2) rfl (by kernel_rfl) (by kernel_rfl) (by kernel_rfl) (by kernel_rfl) (fun _ _ _ h => h) (by rfl) ?hy2 hS0 ?rest2
        case hy2 =>
          intro wx hx
          obtain ⟨m0, m1, m2, m3⟩ := HG.out wx hx
          go_simp
          try rfl
        case rest2 =>
        intro K hK
        go_simp
        refine hK.out _ ?_
        clear hK K
        refine anyE_take 2 (v := ?v3) rfl (by kernel_rfl) (by kernel_rfl) (by kernel_rfl) (by kernel_rfl) (fun _ _ _ h => h) (by rfl) ?hy3 hS0 ?rest3
        case hy3 =>
          intro wx hx
          obtain ⟨m0, m1, m2, m3⟩ := HG.out wx hx
          go_simp
          try rfl
        case rest3 =>
        intro K hK
        go_simp
        refine hK.out _ ?_
        clear hK K
        refine anyE_take 3 (v := ?v4) rfl (by kernel_rfl) (by kernel_rfl) (by kernel_rfl) (by kernel_rfl) (fun _ _ _ h => h) (by rfl) ?hy4 hS0 ?rest4
        case hy4 =>
          intro wx hx
          obtain ⟨m0, m1, m2, m3⟩ := HG.out wx hx
          go_simp
          try rfl
        case rest4 =>
        intro K hK
        go_simp
        refine hK.out _ ?_
        clear hK K
        refine anyE_take 4 (v := ?v5) rfl (by kernel_rfl) (by kernel_rfl) (by kernel_rfl) (by kernel_rfl) (fun _ _ _ h => h) (by rfl) ?hy5 hS0 ?rest5
        case hy5 =>
          intro wx hx
          obtain ⟨m0, m1, m2, m3⟩ := HG.out wx hx
          go_simp
          try rfl
        case rest5 =>
        intro K hK
        go_simp
        refine hK.out _ ?_
        clear hK K
        refine anyE_take 5 (v := ?v6) rfl (by kernel_rfl) (by kernel_rfl) (by kernel_rfl) (by kernel_rfl) (fun _ _ _ h => h) (by rfl) ?hy6 hS0 ?rest6
        case hy6 =>
          intro wx hx
          obtain ⟨m0, m1, m2, m3⟩ := HG.out wx hx
          go_simp
          try rfl
        case rest6 =>
        intro K hK
        go_simp
        refine hK.out _ ?_
        clear hK K
        refine anyE_take 6 (v := ?v7) rfl (by kernel_rfl) (by kernel_rfl) (by kernel_rfl) (by kernel_rfl) (fun _ _ _ h => h) (by rfl) ?hy7 hS0 ?rest7
        case hy7 =>
          intro wx hx
          obtain ⟨m0, m1, m2, m3⟩ := HG.out wx hx
          go_simp
          try rfl
        case rest7 =>
        intro K hK
        go_simp
        refine hK.out _ ?_
        clear hK K
        refine anyE_take 7 (v := ?v8) rfl (by kernel_rfl) (by kernel_rfl) (by kernel_rfl) (by kernel_rfl) (fun _ _ _ h => h) (by rfl) ?hy8 hS0 ?rest8
        case hy8 =>
          intro wx hx
          obtain ⟨m0, m1, m2, m3⟩ := HG.out wx hx
          go_simp
          try rfl
        case rest8 =>
        intro K hK
        go_simp
        refine hK.out _ ?_
        clear hK K
        refine anyE_take 8 (v := ?v9) rfl (by kernel_rfl) (by kernel_rfl) (by kernel_rfl) (by kernel_rfl) (fun _ _ _ h => h) (by rfl) ?hy9 hS0 ?rest9
        case hy9 =>
          intro wx hx
          obtain ⟨m0, m1, m2, m3⟩ := HG.out wx hx
          go_simp
          try rfl
        case rest9 =>
        intro K hK
        go_simp
        refine hK.out _ ?_
        clear hK K
        refine anyE_take 9 (v := ?v10) rfl (by kernel_rfl) (by kernel_rfl) (by kernel_rfl) (by kernel_rfl) (fun _ _ _ h => h) (by rfl) ?hy10 hS0 ?rest10
        case hy10 =>
          intro wx hx
          obtain ⟨m0, m1, m2, m3⟩ := HG.out wx hx
          go_simp
          try rfl
        case rest10 =>
        intro K hK
        go_simp
        refine hK.out _ ?_
        clear hK K
        refine anyE_take 10 (v := ?v11) rfl (by kernel_rfl) (by kernel_rfl) (by kernel_rfl) (by kernel_rfl) (fun _ _ _ h => h) (by rfl) ?hy11 hS0 ?rest11
        case hy11 =>
          intro wx hx
          obtain ⟨m0, m1, m2, m3⟩ := HG.out wx hx
          go_simp
          try rfl
        case rest11 =>
        intro K hK
        go_simp
        refine hK.out _ ?_
        clear hK K
        refine anyE_take 11 (v := ?v12) rfl (by kernel_rfl) (by kernel_rfl) (by kernel_rfl) (by kernel_rfl) (fun _ _ _ h => h) (by rfl) ?hy12 hS0 ?rest12
        case hy12 =>
          intro wx hx
          obtain ⟨m0, m1, m2, m3⟩ := HG.out wx hx
          go_simp
          try rfl
        case rest12 =>
        intro K hK
        go_simp
        refine hK.out _ ?_
        clear hK K
        refine anyE_take 12 (v := ?v13) rfl (by kernel_rfl) (by kernel_rfl) (by kernel_rfl) (by kernel_rfl) (fun _ _ _ h => h) (by rfl) ?hy13 hS0 ?rest13
        case hy13 =>
          intro wx hx
          obtain ⟨m0, m1, m2, m3⟩ := HG.out wx hx
          go_simp
          try rfl
        case rest13 =>
        intro K hK
        go_simp
        refine hK.out _ ?_
        clear hK K
        refine anyE_take 13 (v := ?v14) rfl (by kernel_rfl) (by kernel_rfl) (by kernel_rfl) (by kernel_rfl) (fun _ _ _ h => h) (by rfl) ?hy14 hS0 ?rest14
        case hy14 =>
          intro wx hx
          obtain ⟨m0, m1, m2, m3⟩ := HG.out wx hx
          go_simp
          try rfl
        case rest14 =>
        intro K hK
        go_simp
        refine hK.out _ ?_
        clear hK K
        refine anyE_take 14 (v := ?v15) rfl (by kernel_rfl) (by kernel_rfl) (by kernel_rfl) (by kernel_rfl) (fun _ _ _ h => h) (by rfl) ?hy15 hS0 ?rest15
        case hy15 =>
          intro wx hx
          obtain ⟨m0, m1, m2, m3⟩ := HG.out wx hx
          go_simp
          try rfl
        case rest15 =>
        intro K hK
        go_simp
        refine hK.out _ ?_
        clear hK K
        refine anyE_take 15 (v := ?v16) rfl (by kernel_rfl) (by kernel_rfl) (by kernel_rfl) (by kernel_rfl) (fun _ _ _ h => h) (by rfl) ?hy16 hS0 ?rest16
        case hy16 =>
          intro wx hx
          obtain ⟨m0, m1, m2, m3⟩ := HG.out wx hx
          go_simp
          try rfl
        case rest16 =>
        intro K hK
        go_simp
        refine hK.out _ ?_
        clear hK K
        refine anyE_take 16 (v := ?v17) rfl (by kernel_rfl) (by kernel_rfl) (by kernel_rfl) (by kernel_rfl) (fun _ _ _ h => h) (by rfl) ?hy17 hS0 ?rest17
        case hy17 =>
          intro wx hx
          obtain ⟨m0, m1, m2, m3⟩ := HG.out wx hx
          go_simp
          try rfl
        case rest17 =>
        intro K hK
        go_simp
        refine hK.out _ ?_
        clear hK K
        refine anyE_take 17 (v := ?v18) rfl (by kernel_rfl) (by kernel_rfl) (by kernel_rfl) (by kernel_rfl) (fun _ _ _ h => h) (by rfl) ?hy18 hS0 ?rest18
        case hy18 =>
          intro wx hx
          obtain ⟨m0, m1, m2, m3⟩ := HG.out wx hx
          go_simp
          try rfl
        case rest18 =>
        intro K hK
        go_simp
        refine hK.out _ ?_
        clear hK K
        refine anyE_one 18 (by kernel_rfl) rfl (fun K hK => ?_)
        go_simp
        refine (HMK.out wr.drew ((Below.refl _ _).drew)).mono ?_
        rintro e w9 ⟨rfl, g1, g2⟩
        have g3 : Below wr.heap.size wr w9 := (Below.refl wr.heap.size wr).drew.trans g2
        have G1 := hide g1
        have G3 := hide g3
        clear g1 g2
        refine hK.out _ _ (fun _ => g3) ?_
        clear hK K g3
        refine anyE_one 19 (by kernel_rfl) rfl (fun K hK => ?_)
        go_simp
        refine hK.out _ _ (fun h => absurd rfl h) ?_
        clear hK K
        refine anyE_done (by kernel_rfl) ?_ _
        go_wp2_with fail
        go_ret
        refine ⟨wr.heap.size, _, rfl, par_node HP.out HLV.out (G1.out.base (Nat.zero_le _)) (HKR.out.to (R := fun b => b < B ∨ w.heap.size ≤ b) (fun b hb _ => ⟨.inr hb, fun o u hu => keep_cell G3.out hu⟩)) (levrow_none _ _ _) HPL.out HZL.out (fun i h1 h2 h3 => ((HSJ.out i h1 h2 h3).keep G3.out).to ⟨fun _ _ h => h, fun b hb _ => ⟨hb.1, fun _ _ h => h⟩, fun _ _ h => h⟩), bel_trans HBJ.out G3.out⟩
theorem l3Params_all (names : List ByteArray) (ts : List Tr) (hts : ∀ t ∈ ts, t.ok) (qs0 : List Nat) (vn vl : Value) (B : Nat) : ∀ (n : Nat) (T : Tt), T.cnt ≤ n → ParIH names ts qs0 vn vl B T := by
  intro n
  induction n with
  | zero => intro T h; have := T.cnt_pos; omega
  | succ n ih =>
    intro T hn
    by_cases he : names = []
    · subst he
      intro p w hS hBw hV hP
      have HS := hide hS
      have HP := hide hP
      obtain ⟨na, nc, rfl, _, _, _⟩ := hV.n
      obtain ⟨va, vc, rfl, _, _, _⟩ := hV.l
      clear hS hP hV hn ih
      simp only [List.length_nil] at *
      go_enter Tryz.func70, Tryz.ntmps70
      go_wp2_with fail
      go_ret
      exact ⟨p, T.zG, rfl, par_same (HS.out.weak (fun b _ h => .inl h)) HP.out (par_nil ts T HP.out), Below.refl _ _⟩
    · by_cases hl : T.hd.lv = []
      · exact params_node names ts qs0 vn vl B T he hl (fun j h => ih _ (by have := kid_cnt T j h; omega))
      · intro p w hS hBw hV hP
        have hk : T.kids.length = 0 := Classical.byContradiction (fun q => hl (kids_nolv (hd_all T hP) (by omega)))
        cases T with
        | t0 h => exact params_leaf names ts hts qs0 vn vl B h he hl p w hS hBw hV hP
        | t1 h a => simp [Tt.kids] at hk
        | t2 h a b => simp [Tt.kids] at hk
        | t3 h a b c => simp [Tt.kids] at hk
end Go.Proofs.YtbgibiongnhjoaaGreat
