/- The program's writing of a term, at every place. -/
import Derived.Test.YtcagcfhnbphggaaGreatDoorTtB
namespace Go.Proofs.YtcagcfhnbphggaaGreatDoor
open Go.ChangeShapes Go.WideShapes Go.ChangeAt Go.RowKit

set_option maxRecDepth 20000 in
set_option maxHeartbeats 8000000 in
theorem write_step {w0 : World} {nv : Value} {ts : List Td} (C : Ctx w0 nv ts) (f : Nat) (hf : f ≤ 20001) (p : Nat) (hp : p < ts.length) (ih : ∀ c, c < p → WrAt w0 nv ts f c) : WrAt w0 nv ts (f + 1) p := by
  intro B wb bs w h h0 hb0 hl
  have hwl := h.wlt
  have HB0 := hide hb0
  have HW := hide h
  obtain ⟨⟨tv, hblk, hown⟩, hlt, hsz⟩ := h
  obtain ⟨ta, tc, rfl⟩ := own_form hown
  have k1 : w.cell? ⟨wb, 1, none⟩ = some (.slice ta bs.length tc) := by rw [cell_of_row _ _ _ _ _ _ hblk]; rfl
  by_cases hbig : 400000 < bs.length
  · have HN0 : Hid (wrT ts (f + 1) p bs = bs) := by
      show _ = _
      unfold wrT
      rw [if_pos hbig]
    have hbig' : (400000 : Int) < (bs.length : Int) := by omega
    rw [HN0.out]
    clear hblk hown
    go_enter Tryz.func35, Tryz.ntmps35
    go_wp2_with fail
    exact bodyPost_ret (results_none Tryz.results35 _ _ _) rfl ⟨⟨_, rfl⟩, HW.out, FrW.refl _ _⟩
  have hbig' : ¬ (400000 : Int) < (bs.length : Int) := by omega
  have e : ts.getD p ⟨0, 0, 0, ⟨#[]⟩, [], []⟩ = ts[p] := by rw [List.getD_eq_getElem?_getD, List.getElem?_eq_getElem hp]; rfl
  have HN0 : Hid (wrT ts (f + 1) p bs = nodeT ts[p] (wrT ts f) bs) := by
    show _ = _
    conv => lhs; unfold wrT
    rw [if_neg hbig, e]
  rw [HN0.out]
  clear e HN0
  have hn := C.ok p hp
  have hmem : ts[p] ∈ ts := List.getElem_mem hp
  have HIH := hide (show ∀ c ∈ ts[p].kids, 0 ≤ c ∧ WrAt w0 nv ts f c.toNat from fun c hc => ⟨(C.kin p hp c hc).1, ih _ (by have := C.kin p hp c hc; omega)⟩)
  have k0 : w.cell? ⟨wb, 0, none⟩ = some nv := by rw [cell_of_row _ _ _ _ _ _ hblk]; rfl
  obtain ⟨na, nc, env, hnl, hnm, hnx⟩ := C.nodes
  obtain ⟨nb, no, rfl, hny⟩ := hnx (by omega)
  subst env
  obtain ⟨d0, d1, d2, d3, lvv, d4, hlv, kdv, d5, hkd⟩ := hny p hp
  clear hnx hny
  have d0 := keep_cell hb0 d0
  have d1 := keep_cell hb0 d1
  have d2 := keep_cell hb0 d2
  have d3 := keep_cell hb0 d3
  have d4 := keep_cell hb0 d4
  have d5 := keep_cell hb0 d5
  have HLV := hide hlv
  have HKD := hide hkd
  obtain ⟨la, lc, rfl, hll, hlm, _⟩ := hlv
  obtain ⟨ka, kc, rfl, _, _, _⟩ := hkd
  generalize ts[p] = td at *
  have hpi : (p : Int) < (ts.length : Int) := by omega
  unfold maxLen at hnm hlm
  obtain ⟨o, ho⟩ : ∃ o, o = Obj.cells #[.int .i64 td.k, .int .i64 td.n, .int .i64 td.m, .string td.s, .slice la td.lv.length lc, .slice ka td.kids.length kc] 58 := ⟨_, rfl⟩
  have HW2 : Hid (IsW B wb _ bs (w.alloc o)) := HW.out.keep (bel_alloc (Below.refl _ _) _)
  have HE2 : Hid (Else wb o w.heap.size (w.alloc o)) := else_new hwl (fun c fz e => by rw [ho] at e; cases e)
  have HF2 : Hid (FrW wb w (w.alloc o)) := .keep (bel_alloc (Below.refl _ _) _) (by omega)
  have HO := hide ho
  clear hblk hown hbig HW
  go_enter Tryz.func35, Tryz.ntmps35
  go_upto_region 2 with fail
  rw [← ho]
  clear ho k0 k1 d0 d1 d2 d3 d4 d5
  have hzz : w.heap.size < (w.alloc o).heap.size := by simp
  generalize hw2 : w.alloc o = w2 at *
  clear hw2
  have HB2 := hide (HB0.out.trans (HF2.out.bel.mono h0))
  have HPT := hide (C.tab.keep HB2.out)
  have e0 : w2.cell? ⟨w.heap.size, 0, none⟩ = some (.int .i64 td.k) := by rw [cell_of_row _ _ _ _ _ _ (by rw [HE2.out.1, HO.out])]; rfl
  have e1 : w2.cell? ⟨w.heap.size, 1, none⟩ = some (.int .i64 td.n) := by rw [cell_of_row _ _ _ _ _ _ (by rw [HE2.out.1, HO.out])]; rfl
  have e2 : w2.cell? ⟨w.heap.size, 2, none⟩ = some (.int .i64 td.m) := by rw [cell_of_row _ _ _ _ _ _ (by rw [HE2.out.1, HO.out])]; rfl
  have e3 : w2.cell? ⟨w.heap.size, 3, none⟩ = some (.string td.s) := by rw [cell_of_row _ _ _ _ _ _ (by rw [HE2.out.1, HO.out])]; rfl
  have e4 : w2.cell? ⟨w.heap.size, 4, none⟩ = some (.slice la td.lv.length lc) := by rw [cell_of_row _ _ _ _ _ _ (by rw [HE2.out.1, HO.out])]; rfl
  have e5 : w2.cell? ⟨w.heap.size, 5, none⟩ = some (.slice ka td.kids.length kc) := by rw [cell_of_row _ _ _ _ _ _ (by rw [HE2.out.1, HO.out])]; rfl
  have HIT : Hid (∀ W, Tabs W → Calls Tryz.prog 54 #[.int .i64 td.n] W fun e w' => e = .returned (.string (bA (dD td.n))) ∧ Below W.heap.size W w') := by
    show ∀ W, _
    intro W hT
    have h1 := itoaN_any td.n.toNat (by have := hn.num; omega) W hT.tab
    rw [Int.toNat_of_nonneg hn.num.1] at h1
    exact h1
  have hdl := dD_len (n := td.n) (by have := hn.num; omega)
  have hkk := hn.kind
  rcases (show td.k = 1 ∨ td.k = 9 ∨ td.k = 2 ∨ td.k = 3 ∨ (4 ≤ td.k ∧ td.k ≤ 8) by omega) with hk | hk | hk | hk | hk
  · have HKE := hide hk
    have q1 : (td.k == 1) = true := by rw [hk]; decide
    have q9 : (td.k == 9) = false := by rw [hk]; decide
    clear hk hkk
    have HN1 : Hid (nodeT td (wrT ts f) bs = bs ++ 35 :: dD td.n) := by
      show _ = _
      unfold nodeT
      rw [if_pos HKE.out]
    have HCA : Hid (catB [⟨#[35]⟩, bA (dD td.n)] = 35 :: dD td.n) := by
      show _ = _
      rw [cat2]
      simp [bA]
    go_wp2_with (first
      | (go_at_call 54; refine (HIT.out _ HPT.out).mono ?_; rintro e w7 ⟨rfl, hb7⟩; have HB7 := hide hb7; have HW7 := hide (HW2.out.keep hb7); clear hb7)
      | (go_at_call 53; refine (put_any B wb _ _ _ [⟨#[35]⟩, bA (dD td.n)] _ (HW7.out.keep (bel_alloc (Below.refl _ _) _)) (else_new HW7.out.wlt (fun c fz e => by cases e)) (by rw [HCA.out, List.length_cons]; omega) (by simp)).mono ?_; rintro e w8 ⟨⟨v8, rfl⟩, hw8, hf8⟩; rw [HCA.out] at hw8; have HW8 := hide hw8; have HF8 : Hid (FrW wb w w8) := (HF2.out.trans ((FrW.keep HB7.out (Nat.le_of_lt HW2.out.wlt)).trans (.keep (bel_alloc (Below.refl _ _) _) (Nat.le_of_lt HW7.out.wlt)))).trans hf8; clear hw8 hf8)
      | fail)
    exact bodyPost_end (results_none Tryz.results35 _ _ _) rfl ⟨⟨_, rfl⟩, (by show IsW _ _ _ _ _; rw [HN1.out]; exact HW8.out), HF8.out⟩
  · have HKE := hide hk
    have q1 : (td.k == 1) = false := by rw [hk]; decide
    have q9 : (td.k == 9) = true := by rw [hk]; decide
    clear hk hkk
    have HN1 : Hid (nodeT td (wrT ts f) bs = bs ++ 63 :: dD td.n) := by
      show _ = _
      unfold nodeT
      rw [if_neg (by rw [HKE.out]; decide), if_pos HKE.out]
    have HCA : Hid (catB [⟨#[63]⟩, bA (dD td.n)] = 63 :: dD td.n) := by
      show _ = _
      rw [cat2]
      simp [bA]
    go_wp2_with (first
      | (go_at_call 54; refine (HIT.out _ HPT.out).mono ?_; rintro e w7 ⟨rfl, hb7⟩; have HB7 := hide hb7; have HW7 := hide (HW2.out.keep hb7); clear hb7)
      | (go_at_call 53; refine (put_any B wb _ _ _ [⟨#[63]⟩, bA (dD td.n)] _ (HW7.out.keep (bel_alloc (Below.refl _ _) _)) (else_new HW7.out.wlt (fun c fz e => by cases e)) (by rw [HCA.out, List.length_cons]; omega) (by simp)).mono ?_; rintro e w8 ⟨⟨v8, rfl⟩, hw8, hf8⟩; rw [HCA.out] at hw8; have HW8 := hide hw8; have HF8 : Hid (FrW wb w w8) := (HF2.out.trans ((FrW.keep HB7.out (Nat.le_of_lt HW2.out.wlt)).trans (.keep (bel_alloc (Below.refl _ _) _) (Nat.le_of_lt HW7.out.wlt)))).trans hf8; clear hw8 hf8)
      | fail)
    exact bodyPost_end (results_none Tryz.results35 _ _ _) rfl ⟨⟨_, rfl⟩, (by show IsW _ _ _ _ _; rw [HN1.out]; exact HW8.out), HF8.out⟩
  · have HKE := hide hk
    have q1 : (td.k == 1) = false := by rw [hk]; decide
    have q9 : (td.k == 9) = false := by rw [hk]; decide
    have q2 : (td.k == 2) = true := by rw [hk]; decide
    have hl1 := hn.uni hk
    obtain ⟨a', c', e', _, _, hx⟩ := HLV.out.keep HB2.out
    obtain ⟨rfl, rfl⟩ : la = a' ∧ lc = c' := by simp at e'; exact e'
    obtain ⟨b, off, rfl, hc⟩ := hx (by omega)
    obtain ⟨u, cu, hu⟩ := hc 0 (by omega)
    rw [Nat.add_zero] at cu
    have hm0 : td.lv[0]'(by omega) ∈ td.lv := List.getElem_mem _
    have HLL := hide (hn.lev _ hm0)
    have HLZ := hide ((C.lens td hmem).2 _ hm0)
    have HLX := hide (C.lvs td hmem _ hm0)
    have HSL := hide (txtL_size HLL.out)
    have HN1 : Hid (nodeT td (wrT ts f) bs = bs ++ (42 : UInt8) :: (txtL (td.lv[0]'(by omega))).data.toList) := by
      show _ = _
      unfold nodeT
      rw [if_neg (by rw [hk]; decide), if_neg (by rw [hk]; decide), if_pos hk]
      rw [List.getD_eq_getElem?_getD, List.getElem?_eq_getElem (show 0 < td.lv.length by omega)]
      rfl
    clear hk hkk hc hx e' hm0
    generalize td.lv[0]'(by omega) = l at *
    have HU := hide hu
    obtain ⟨ua, uc, rfl, _, _, _⟩ := hu
    have hl2 : (0 : Int) < (td.lv.length : Int) := by omega
    have hl3 : 0 < td.lv.length := by omega
    have HCA : Hid (catB [⟨#[42]⟩, txtL l] = 42 :: (txtL l).data.toList) := by
      show _ = _
      rw [cat2]
      rfl
    go_wp2_with (first
      | (go_at_call 55; refine (lev_any _ l _ HU.out HLL.out HLZ.out HLX.out).mono ?_; rintro e w7 ⟨rfl, hb7⟩; have HB7 := hide hb7; have HW7 := hide (HW2.out.keep hb7); clear hb7)
      | (go_at_call 53; refine (put_any B wb _ _ _ [⟨#[42]⟩, txtL l] _ (HW7.out.keep (bel_alloc (Below.refl _ _) _)) (else_new HW7.out.wlt (fun c fz e => by cases e)) (by rw [HCA.out, List.length_cons]; have := HSL.out; omega) (by simp)).mono ?_; rintro e w8 ⟨⟨v8, rfl⟩, hw8, hf8⟩; rw [HCA.out] at hw8; have HW8 := hide hw8; have HF8 : Hid (FrW wb w w8) := (HF2.out.trans ((FrW.keep HB7.out (Nat.le_of_lt HW2.out.wlt)).trans (.keep (bel_alloc (Below.refl _ _) _) (Nat.le_of_lt HW7.out.wlt)))).trans hf8; clear hw8 hf8)
      | fail)
    exact bodyPost_end (results_none Tryz.results35 _ _ _) rfl ⟨⟨_, rfl⟩, (by show IsW _ _ _ _ _; rw [HN1.out]; exact HW8.out), HF8.out⟩
  · have q1 : (td.k == 1) = false := by rw [hk]; decide
    have q9 : (td.k == 9) = false := by rw [hk]; decide
    have q2 : (td.k == 2) = false := by rw [hk]; decide
    have q3 : (td.k == 3) = true := by rw [hk]; decide
    have HN1 : Hid (nodeT td (wrT ts f) bs = bs ++ constT td) := by
      show _ = _
      unfold nodeT
      rw [if_neg (by rw [hk]; decide), if_neg (by rw [hk]; decide), if_neg (by rw [hk]; decide), if_pos hk]
    have HCO := hide (const_any C td hmem hn B wb bs _ (.slice ka td.kids.length kc) w2 HW2.out h0 HB2.out HLV.out (by omega))
    clear hk hkk
    go_wp2_with (first
      | (go_at_call 56; refine HCO.out.mono ?_; rintro e w8 ⟨⟨v8, rfl⟩, hw8, hf8⟩; have HW8 := hide hw8; have HF8 := hide (HF2.out.trans hf8); clear hw8 hf8)
      | fail)
    exact bodyPost_end (results_none Tryz.results35 _ _ _) rfl ⟨⟨_, rfl⟩, (by show IsW _ _ _ _ _; rw [HN1.out]; exact HW8.out), HF8.out⟩
  · have q1 : (td.k == 1) = false := by simp; omega
    have q9 : (td.k == 9) = false := by simp; omega
    have q2 : (td.k == 2) = false := by simp; omega
    have q3 : (td.k == 3) = false := by simp; omega
    have HN1 : Hid (nodeT td (wrT ts f) bs = kidsT (wrT ts f) td.kids td.kids.length (bs ++ headT td) ++ [93]) := by
      show _ = _
      unfold nodeT
      rw [if_neg (by omega), if_neg (by omega), if_neg (by omega), if_neg (by omega)]
    have HCO := hide (brk_any C td hn hk f hf HIH.out B wb bs _ _ w2 HW2.out h0 HB2.out HKD.out HLV.out (by omega))
    clear hkk
    go_wp2_with (first
      | (go_at_call 57; refine HCO.out.mono ?_; rintro e w8 ⟨⟨v8, rfl⟩, hw8, hf8⟩; have HW8 := hide hw8; have HF8 := hide (HF2.out.trans hf8); clear hw8 hf8)
      | fail)
    exact bodyPost_end (results_none Tryz.results35 _ _ _) rfl ⟨⟨_, rfl⟩, (by show IsW _ _ _ _ _; rw [HN1.out]; exact HW8.out), HF8.out⟩
theorem write_all {w0 : World} {nv : Value} {ts : List Td} (C : Ctx w0 nv ts) : ∀ f p, f ≤ 20001 → p < ts.length → p < f → WrAt w0 nv ts f p
  | 0, p, _, _, h => by omega
  | f + 1, p, hf, hp, h => write_step C f (by omega) p hp (fun c hc => write_all C f c (by omega) (by omega) (by omega))
end Go.Proofs.YtcagcfhnbphggaaGreatDoor
