/- The program's writing of a constant. -/
import Derived.Test.YtcagcfhnbphggaaGreatDoorTtF
import Derived.Deep.CutRange
namespace Go.Proofs.YtcagcfhnbphggaaGreatDoor
open Go.ChangeShapes Go.WideShapes Go.ChangeAt Go.RowKit

/-- What is known while a term is written. -/
structure Ctx (w0 : World) (nv : Value) (ts : List Td) : Prop where
  nodes : TNodesAt w0 nv ts
  ok : ∀ i (hi : i < ts.length), NodeOk ts[i]
  kin : ∀ i (hi : i < ts.length), ∀ c ∈ ts[i].kids, 0 ≤ c ∧ c < (i : Int)
  lvs : ∀ td ∈ ts, ∀ l ∈ td.lv, ∃ t, LvTree l t
  tab : Tabs w0
  len : ts.length ≤ 20000
  lens : ∀ td ∈ ts, TLens td
theorem lev_any (u : Value) (l : List Nd) (w : World) (hn : NodesAt w u l) (hl : lvlB l = true) (hz : LvLens l) (ht : ∃ t, LvTree l t) :
    Calls Tryz.prog 55 #[.agg #[u]] w fun e w' => e = .returned (.string (txtL l)) ∧ Below w.heap.size w w' := by
  obtain ⟨t, ht⟩ := ht
  have hc : l.length ≤ 64 := by
    unfold lvlB at hl
    rw [Bool.and_eq_true, Bool.and_eq_true, decide_eq_true_eq, decide_eq_true_eq] at hl
    exact hl.1.2
  rw [txtL_eq ht]
  exact implText_any u l w hn hz t hl ht.1 ht.2.1 hc
theorem levs_below {w0 w : World} {v : Value} {ls : List (List Nd)} (h : LevsAt w0 v ls) (hb : Below w0.heap.size w0 w) : LevsAt w v ls := h.keep hb
theorem else_new {wb : Nat} {o : Obj} {w : World} (hw : wb < w.heap.size) (ho : ∀ c fz, o ≠ .cells c 5 fz) : Else wb o w.heap.size (w.alloc o) :=
  ⟨heap_alloc_new _ _, by omega, ho⟩
theorem cat1 (s : ByteArray) : catB [s] = s.data.toList := by simp [catB]
theorem cat2 (s t : ByteArray) : catB [s, t] = s.data.toList ++ t.data.toList := by simp [catB]
set_option maxRecDepth 20000 in
set_option maxHeartbeats 8000000 in
theorem const_any {w0 : World} {nv : Value} {ts : List Td} (C : Ctx w0 nv ts) (td : Td) (htd : td ∈ ts) (hn : NodeOk td) (B wb : Nat) (bs : List UInt8) (lvv kdv : Value) (w : World) (h : IsW B wb nv bs w) (h0 : w0.heap.size ≤ wb) (hb0 : Below w0.heap.size w0 w) (hlv : LevsAt w0 lvv td.lv) (hl : bs.length ≤ 900000) :
    Calls Tryz.prog 56 #[.pointer (some ⟨wb, 0, none⟩), .agg #[.int .i64 td.k, .int .i64 td.n, .int .i64 td.m, .string td.s, lvv, kdv]] w fun e w' => (∃ v, e = .returned v) ∧ IsW B wb nv (bs ++ constT td) w' ∧ FrW wb w w' := by
  have hwl := h.wlt
  have hs40 : td.s.data.toList.length ≤ 40 := by rw [Array.length_toList]; exact hn.str
  have hlv6 := hn.lvs
  have HLT := hide (lvsT_len hn.lev)
  have HLV := hide hlv
  have HB0 := hide hb0
  have H0 := hide h
  obtain ⟨la, lc, rfl, _, hlm, _⟩ := hlv
  unfold maxLen at hlm
  obtain ⟨o, ho⟩ : ∃ o, o = Obj.cells #[.int .i64 td.k, .int .i64 td.n, .int .i64 td.m, .string td.s, .slice la td.lv.length lc, kdv] 58 := ⟨_, rfl⟩
  have HW1 : Hid (IsW B wb nv bs (w.alloc o)) := h.keep (bel_alloc (Below.refl _ _) _)
  have HE1 : Hid (Else wb o w.heap.size (w.alloc o)) := else_new hwl (fun c fz e => by rw [ho] at e; cases e)
  have HF1 : Hid (FrW wb w (w.alloc o)) := .keep (bel_alloc (Below.refl _ _) _) (by omega)
  have HO := hide ho
  clear h hb0
  go_enter Tryz.func56, Tryz.ntmps56
  go_upto_region 1 with fail
  rw [← ho]
  clear ho
  generalize hw1 : w.alloc o = w1 at *
  have hz1 : w.heap.size < w1.heap.size := by rw [← hw1]; simp
  have e3 : w1.cell? ⟨w.heap.size, 3, none⟩ = some (.string td.s) := by rw [cell_of_row _ _ _ _ _ _ (by rw [HE1.out.1, HO.out])]; rfl
  clear hw1
  go_upto_region 2 with (first
    | (go_at_call 53; refine (put_any B wb _ nv bs [td.s] _ (HW1.out.keep (bel_alloc (Below.refl _ _) _)) (else_new HW1.out.wlt (fun c fz e => by cases e)) (by rw [cat1]; omega) (by simp)).mono ?_; rintro e w2 ⟨⟨v2, rfl⟩, hw2, hf2⟩)
    | fail)
  rw [cat1] at hw2
  have HW2 := hide hw2
  have HF2 := hide ((HF1.out.trans (FrW.keep (bel_alloc (Below.refl _ _) _) (Nat.le_of_lt HW1.out.wlt))).trans hf2)
  have HE2 := hide ((HE1.out.keep (bel_alloc (Below.refl _ _) _)).fr hf2)
  have e4 : w2.cell? ⟨w.heap.size, 4, none⟩ = some (.slice la td.lv.length lc) := by
    rw [cell_of_row _ _ _ _ _ _ (by rw [HE2.out.1, HO.out])]
    rfl
  clear hw2 hf2 e3 HW1 HE1 HF1
  go_wp2_with fail
  go_loopw [15] (fun iv wr => ∃ j : Nat, iv = .int .i64 j ∧ j ≤ td.lv.length ∧ Hid (IsW B wb nv (bs ++ (td.s.data.toList ++ lvsT td.lv j)) wr) ∧ Hid (FrW wb w wr) ∧ Hid (Else wb o w.heap.size wr)) (fun iv _ => td.lv.length - (intOf iv).toNat)
  case atStart => exact ⟨0, rfl, by omega, by show IsW _ _ _ _ _; simpa [lvsT] using HW2.out, HF2, HE2⟩
  case round =>
    clear HW2 HF2 HE2 e4
    obtain ⟨j, rfl, hj, HW, HF, HE⟩ := hrel
    have HBR := hide (HB0.out.trans (HF.out.bel.mono h0))
    have e4 : wr.cell? ⟨w.heap.size, 4, none⟩ = some (.slice la td.lv.length lc) := by
      rw [cell_of_row _ _ _ _ _ _ (by rw [HE.out.1, HO.out])]
      rfl
    by_cases hlt : j < td.lv.length
    · have hlt' : (j : Int) < (td.lv.length : Int) := by omega
      obtain ⟨a', c', e', _, _, hx⟩ := levs_below HLV.out HBR.out
      obtain ⟨rfl, rfl⟩ : la = a' ∧ lc = c' := by simp at e'; exact e'
      obtain ⟨b, off, rfl, hc⟩ := hx (by omega)
      obtain ⟨u, cu, hu⟩ := hc j hlt
      have hmem : td.lv[j] ∈ td.lv := List.getElem_mem hlt
      have HLL := hide (hn.lev _ hmem)
      have HLZ := hide ((C.lens td htd).2 _ hmem)
      have HLX := hide (C.lvs td htd _ hmem)
      have HSN : Hid (lvsT td.lv (j + 1) = lvsT td.lv j ++ ((if j = 0 then 123 else 44) :: (txtL td.lv[j]).data.toList)) := by
        show _ = _
        conv => lhs; unfold lvsT
        rw [List.getD_eq_getElem?_getD, List.getElem?_eq_getElem hlt]
        rfl
      have HSL : Hid (bs.length + (td.s.data.toList.length + (lvsT td.lv j).length) ≤ 990000 ∧ (txtL td.lv[j]).data.toList.length ≤ 3840) := ⟨by have := HLT.out j hj; omega, txtL_size HLL.out⟩
      clear hc hx e' hmem
      generalize td.lv[j] = l at *
      have HU := hide hu
      obtain ⟨ua, uc, rfl, _, _, _⟩ := hu
      by_cases hj0 : j = 0
      · have hj0' : ((j : Int) == 0) = true := by simp [hj0]
        have HJ0 := hide hj0
        clear hj0
        have HEQ : Hid (bs ++ (td.s.data.toList ++ lvsT td.lv j) ++ catB [⟨#[123]⟩, txtL l] = bs ++ (td.s.data.toList ++ lvsT td.lv (j + 1))) := by
          show _ = _
          rw [cat2, HSN.out]
          rw [if_pos HJ0.out]
          simp
        go_wp2_with (first
          | (go_at_call 55; refine (lev_any _ l _ (HU.out.keep (bel_alloc (Below.refl _ _) _)) HLL.out HLZ.out HLX.out).mono ?_; rintro e w3 ⟨rfl, hb3⟩; have HB3 := hide (bel_trans (bel_alloc (Below.refl _ _) _) hb3); have HW3 := hide (HW.out.keep HB3.out); clear hb3)
          | (go_at_call 53; refine (put_any B wb _ nv _ [⟨#[123]⟩, txtL l] _ (HW3.out.keep (bel_alloc (Below.refl _ _) _)) (else_new HW3.out.wlt (fun c fz e => by cases e)) (by rw [cat2]; simp only [List.length_append]; have := HSL.out; show _ + (1 + _) ≤ _; omega) (by simp)).mono ?_; rintro e w4 ⟨⟨v4, rfl⟩, hw4, hf4⟩; rw [HEQ.out] at hw4; have HW4 := hide hw4; have HF4 : Hid (FrW wb wr w4) := ((FrW.keep HB3.out (Nat.le_of_lt HW.out.wlt)).trans (.keep (bel_alloc (Below.refl _ _) _) (Nat.le_of_lt HW3.out.wlt))).trans hf4; clear hw4 hf4)
          | fail)
        go_roundw
        case rel => exact ⟨j + 1, by go_num, by omega, HW4, HF.out.trans HF4.out, HE.out.fr HF4.out⟩
        case measure => simp [intOf]; omega
      · have hj0' : ((j : Int) == 0) = false := by simp [hj0]
        have HEQ : Hid (bs ++ (td.s.data.toList ++ lvsT td.lv j) ++ catB [⟨#[44]⟩, txtL l] = bs ++ (td.s.data.toList ++ lvsT td.lv (j + 1))) := by
          show _ = _
          rw [cat2, HSN.out]
          rw [if_neg hj0]
          simp
        go_wp2_with (first
          | (go_at_call 55; refine (lev_any _ l _ (HU.out.keep (bel_alloc (Below.refl _ _) _)) HLL.out HLZ.out HLX.out).mono ?_; rintro e w3 ⟨rfl, hb3⟩; have HB3 := hide (bel_trans (bel_alloc (Below.refl _ _) _) hb3); have HW3 := hide (HW.out.keep HB3.out); clear hb3)
          | (go_at_call 53; refine (put_any B wb _ nv _ [⟨#[44]⟩, txtL l] _ (HW3.out.keep (bel_alloc (Below.refl _ _) _)) (else_new HW3.out.wlt (fun c fz e => by cases e)) (by rw [cat2]; simp only [List.length_append]; have := HSL.out; show _ + (1 + _) ≤ _; omega) (by simp)).mono ?_; rintro e w4 ⟨⟨v4, rfl⟩, hw4, hf4⟩; rw [HEQ.out] at hw4; have HW4 := hide hw4; have HF4 : Hid (FrW wb wr w4) := ((FrW.keep HB3.out (Nat.le_of_lt HW.out.wlt)).trans (.keep (bel_alloc (Below.refl _ _) _) (Nat.le_of_lt HW3.out.wlt))).trans hf4; clear hw4 hf4)
          | fail)
        go_roundw
        case rel => exact ⟨j + 1, by go_num, by omega, HW4, HF.out.trans HF4.out, HE.out.fr HF4.out⟩
        case measure => simp [intOf]; omega
    · have hjl : j = td.lv.length := by omega
      subst hjl
      by_cases hz : td.lv.length = 0
      · have hz' : ¬ (0 : Int) < (td.lv.length : Int) := by omega
        have hz2 : ¬ 0 < td.lv.length := by omega
        go_wp2_with fail
        refine bodyPost_end (results_none Tryz.results56 _ _ _) rfl ⟨⟨_, rfl⟩, ?_, HF.out⟩
        unfold constT
        rw [if_pos hz, List.append_nil]
        exact HW.out
      · have hz' : (0 : Int) < (td.lv.length : Int) := by omega
        have hz2 : 0 < td.lv.length := by omega
        have HLE := hide (HLT.out td.lv.length (Nat.le_refl _))
        go_wp2_with (first
          | (go_at_call 53; refine (put_any B wb _ nv _ [⟨#[125]⟩] _ (HW.out.keep (bel_alloc (Below.refl _ _) _)) (else_new HW.out.wlt (fun c fz e => by cases e)) (by rw [cat1]; simp only [List.length_append]; have := HLE.out; show _ + 1 ≤ _; omega) (by simp)).mono ?_; rintro e w4 ⟨⟨v4, rfl⟩, hw4, hf4⟩; rw [cat1] at hw4; have HW4 := hide hw4; have HF4 : Hid (FrW wb wr w4) := (FrW.keep (bel_alloc (Below.refl _ _) _) (Nat.le_of_lt HW.out.wlt)).trans hf4; clear hw4 hf4)
          | fail)
        refine bodyPost_end (results_none Tryz.results56 _ _ _) rfl ⟨⟨_, rfl⟩, ?_, HF.out.trans HF4.out⟩
        have h9 := HW4.out
        unfold constT
        rw [if_neg hz]
        simpa using h9
end Go.Proofs.YtcagcfhnbphggaaGreatDoor
