/- What the specification's l3Spine answers. -/
import Derived.Test.YtbgibiongnhjoaaGreatSiB
import Derived.Test.YtbgibiongnhjoaaGreatLwA
namespace Go.Proofs.YtbgibiongnhjoaaGreat
open Go.ChangeShapes Go.WideShapes Go.ChangeAt Go.RowKit

/-- What l3Spine answers. -/
def SpsOut (Q : Nat → Prop) (w : World) (B : Nat) (T : Tt) (e : Ending) (w' : World) : Prop :=
  ∃ (p : Nat) (v : Value) (ps : List Nat), e = .returned (.tuple #[.pointer (some ⟨p, 0, none⟩), v]) ∧ SpG Q w (spineT T).1 p ∧ ps.length = (spineT T).2.length ∧ w'.ownsRow B 72 1 v (spineT T).2.length (ps.map ptrV) ∧ ∀ i (h1 : i < ps.length) (h2 : i < (spineT T).2.length), SpG Q w (spineT T).2[i] ps[i]
set_option maxRecDepth 20000 in
set_option maxHeartbeats 8000000 in
theorem l3Spine_any (Q : Nat → Prop) (T : Tt) (p : Nat) (w0 w : World) (hb0 : Below w0.heap.size w0 w) (hS : SpG Q w0 T p) (hP : T.all nodeP) (hc : T.cnt ≤ 20000) :
    Calls Tryz.prog 49 #[.pointer (some ⟨p, 0, none⟩)] w fun e w' => SpsOut Q w0 w.heap.size T e w' ∧ Below w.heap.size w w' := by
  obtain ⟨ip, hip, hzp, hsp1, hbp⟩ := info_parts Tryz.info72
  have HB0 := hide hb0
  have HS := hide hS
  clear hb0
  have HP := hide hP
  obtain ⟨W1, hW1⟩ : ∃ W1, W1 = w.alloc (.cells #[] 72) := ⟨_, rfl⟩
  have hb1 : Below w.heap.size w W1 := by rw [hW1]; exact bel_alloc (Below.refl _ _) _
  have HO1 : Hid (W1.ownsRow w.heap.size 72 1 (.slice (some ⟨w.heap.size, 0, none⟩) 0 0) 0 (([] : List Nat).map ptrV)) := by
    show World.ownsRow _ _ _ _ _ _ _
    rw [hW1]
    exact ⟨rfl, .inr ⟨w.heap.size, 0, #[], rfl, Nat.le_refl _, heap_alloc_new w _, Nat.le_refl _, by unfold maxLen; omega, rfl, rfl⟩⟩
  have HB1 := hide hb1
  clear hS hP hb1
  go_enter Tryz.func49, Tryz.ntmps49
  go_wp2_with fail
  first | rw [← hW1] | skip
  go_loopg [0, 4] T.cnt (fun k nv av wr => ∃ (C : Tt) (p : Nat) (acc : List Tt) (ps : List Nat) (g cp : Nat), nv = .pointer (some ⟨p, 0, none⟩) ∧ av = .slice (some ⟨g, 0, none⟩) acc.length cp ∧ acc.length + C.cnt ≤ T.cnt ∧ C.cnt = k ∧ Hid (SpG Q w0 C p) ∧ Hid (C.all nodeP) ∧ Hid (spineT T = ((spineT C).1, (spineT C).2 ++ acc.reverse)) ∧ Hid (ps.length = acc.length) ∧ Hid (wr.ownsRow w.heap.size 72 1 (.slice (some ⟨g, 0, none⟩) acc.length cp) acc.length (ps.map ptrV)) ∧ Hid (∀ i (h1 : i < ps.length) (h2 : i < acc.length), SpG Q w0 acc[i] ps[i]) ∧ Hid (Below w.heap.size w wr))
  case atStart => exact ⟨T, p, [], [], w.heap.size, 0, rfl, rfl, by simp, rfl, HS, HP, by show _ = _; simp, rfl, HO1, fun i h => by simp at h, HB1⟩
  case round =>
    clear HO1 HB1 hW1
    obtain ⟨C, p, acc, ps, g, cp, rfl, rfl, hac, rfl, HIC, HPC, HSP, HPL, HO, HIX, HBJ⟩ := hrel
    have hwsz := HBJ.out.size
    obtain ⟨qs, hql, ⟨lvv, kdv, tn, hkr, _⟩, hqk⟩ := spg_open HIC.out
    have tn : TnAt 0 w0 p (tnL C.hd.k C.hd.n C.hd.m C.hd.s lvv kdv C.zG) := tn
    obtain ⟨ka, kc, rfl, hkc1, hkc2, hkc3⟩ := hkr
    have a0 : w0.cell? ⟨p, 0, none⟩ = some (.int .i64 C.hd.k) := by rw [World.ownsRow.cellAt tn 0 (by omega)]; rfl
    have a5 : w0.cell? ⟨p, 5, none⟩ = some (.slice ka qs.length kc) := by rw [World.ownsRow.cellAt tn 5 (by omega)]; rfl
    have b0 := keep_cell (bel_trans HB0.out HBJ.out) a0
    have b5 := keep_cell (bel_trans HB0.out HBJ.out) a5
    have hAl := lt_cell b0
    have hpw := lt_cell a0
    by_cases h4 : C.hd.k = 4
    · obtain ⟨hd, a, x, rfl, hk4, hPa, hPx⟩ := app_two HPC.out h4
      obtain ⟨p0, p1, rfl⟩ : ∃ p0 p1, qs = [p0, p1] := by
        match qs, hql with
        | [p0, p1], _ => exact ⟨p0, p1, rfl⟩
      obtain ⟨kb, off, rfl, _, hkcell⟩ := hkc3 (by simp)
      have k0 : w0.cell? ⟨kb, off, none⟩ = some (.pointer (some ⟨p0, 0, none⟩)) := hkcell 0 (by simp)
      have k1 : w0.cell? ⟨kb, off + 1, none⟩ = some (.pointer (some ⟨p1, 0, none⟩)) := hkcell 1 (by simp)
      have hkw := lt_cell k0
      have k1r := keep_cell (bel_trans HB0.out HBJ.out) k1
      have hkl := lt_cell k1r
      have HI0 : Hid (SpG Q w0 a p0) := hqk 0 (by simp) (by simp [Tt.kids])
      have HI1 : Hid (SpG Q w0 x p1) := hqk 1 (by simp) (by simp [Tt.kids])
      have HPa := hide hPa
      have q4 : ((Tt.t2 hd a x).hd.k == 4) = true := by simp [h4]
      have hcx := x.cnt_pos
      simp only [Tt.cnt] at hac
      have HCA : Hid (a.cnt ≤ T.cnt - (acc.length + 1)) := by show _ ≤ _; omega
      have HCK2 : Hid (a.cnt < (Tt.t2 hd a x).cnt) := by show a.cnt < a.cnt + x.cnt + 1; omega
      have HSP2 : Hid (spineT T = ((spineT a).1, (spineT a).2 ++ (acc ++ [x]).reverse)) := by
        show _ = _
        rw [HSP.out, spine_go hd a x hk4]
        simp
      obtain ⟨W5, hW5⟩ : ∃ W5, W5 = wr.alloc (.cells #[.pointer (some ⟨p1, 0, none⟩)] 72) := ⟨_, rfl⟩
      have hb5 : Below wr.heap.size wr W5 := by rw [hW5]; exact bel_alloc (Below.refl _ _) _
      have hh5 : W5.heap[wr.heap.size]? = some (.cells #[.pointer (some ⟨p1, 0, none⟩)] 72 (0, 0)) := by rw [hW5]; exact heap_alloc_new wr _
      have HO5 := hide (row_keep hb5 HO.out)
      have hs5 : W5.heap.size = wr.heap.size + 1 := by rw [hW5]; simp
      have HB5 := hide (bel_trans HBJ.out hb5)
      have HA5 := hide a5
      have HK0 := hide k0
      clear hqk tn h4 hPa hPx hql hb5 HSP hkc3 hkcell a0 a5 k0 k1 hkc1 hkc2
      go_wp2_with (first
        | (at_builtin
           rw [← hW5]
           refine wpList_append_lies _ rfl _ _ 75 rfl w.heap.size 72 ip (.pointer none) 1 8 Tryz.underlying75 hip hzp hsp1 hbp rfl (by omega) (.slice (some ⟨g, 0, none⟩) acc.length cp) acc.length (ps.map ptrV) rfl HO5.out ⟨wr.heap.size, 0, none⟩ 1 1 [.pointer (some ⟨p1, 0, none⟩)] rfl rfl (World.news_of_block (cs := #[.pointer (some ⟨p1, 0, none⟩)]) (t := 72) (fr := (0, 0)) hh5) (by intro u hu; simp at hu; rcases hu with rfl; rfl) (by omega) (by unfold maxLen; omega) (by omega) (by omega) W5.heap.size rfl ?_)
        | fail)
      intro g6 cap6 w6 hown6 hgrow6 hat6 hlt6
      rw [← hW5] at hgrow6
      have HB6 : Hid (Below w.heap.size w w6) := HB5.out.grown hgrow6 (by omega) (fun k hk => (World.ownsRow.lt HO5.out k hk).1)
      have e5 := keep_cell (bel_trans HB0.out HB6.out) HA5.out
      have ek := keep_cell (bel_trans HB0.out HB6.out) HK0.out
      have le5 := lt_cell e5
      have lek := lt_cell ek
      have HO6 : Hid (w6.ownsRow w.heap.size 72 1 (.slice (some ⟨g6, 0, none⟩) (acc ++ [x]).length cap6) (acc ++ [x]).length ((ps ++ [p1]).map ptrV)) := by
        show World.ownsRow _ _ _ _ _ _ _
        rw [List.map_append, List.length_append]
        exact hown6
      have HPL6 : Hid ((ps ++ [p1]).length = (acc ++ [x]).length) := by show _ = _; rw [List.length_append, List.length_append, HPL.out]; rfl
      have HIX6 : Hid (∀ i (h1 : i < (ps ++ [p1]).length) (h2 : i < (acc ++ [x]).length), SpG Q w0 (acc ++ [x])[i] (ps ++ [p1])[i]) := fun i h1 h2 => by
        have hpl := HPL.out
        by_cases e : i < acc.length
        · have e1 : (acc ++ [x])[i] = acc[i] := List.getElem_append_left e
          have e2 : (ps ++ [p1])[i] = ps[i]'(by omega) := List.getElem_append_left (by omega)
          rw [e1, e2]
          exact HIX.out i (by omega) e
        · have ei : i = acc.length := by simp at h2; omega
          subst ei
          have e1 : (acc ++ [x])[acc.length] = x := by simp
          have e2 : (ps ++ [p1])[acc.length] = p1 := by simp [hpl]
          rw [e1, e2]
          exact HI1.out
      have hlenv : (acc ++ [x]).length = acc.length + 1 := by simp
      have HLN := hide hlenv
      clear hown6 hgrow6 hat6 hlt6 HO5 HB5 hh5 hW5 HIX b0 b5 k1r hlenv
      go_wp2_with fail
      go_roundg a.cnt
      case rel => exact ⟨a, p0, acc ++ [x], ps ++ [p1], g6, cap6, rfl, by rw [HLN.out], by have := HCA.out; rw [HLN.out]; omega, rfl, HI0, HPa, HSP2, HPL6, HO6, HIX6, HB6⟩
      case measure => exact HCK2.out
    · have q4 : (C.hd.k == 4) = false := by simp [h4]
      have HSC : Hid (spineT T = (C, acc.reverse)) := by show _ = _; rw [HSP.out, spine_stop C h4]; simp
      obtain ⟨W2, hW2⟩ : ∃ W2, W2 = wr.alloc (.cells #[] 72) := ⟨_, rfl⟩
      have hb2 : Below wr.heap.size wr W2 := by rw [hW2]; exact bel_alloc (Below.refl _ _) _
      have HO2 : Hid (W2.ownsRow wr.heap.size 72 1 (.slice (some ⟨wr.heap.size, 0, none⟩) 0 0) 0 ((ps.reverse.take 0).map ptrV)) := by
        show World.ownsRow _ _ _ _ _ _ _
        rw [hW2]
        exact ⟨rfl, .inr ⟨wr.heap.size, 0, #[], rfl, Nat.le_refl _, heap_alloc_new wr _, Nat.le_refl _, by unfold maxLen; omega, rfl, rfl⟩⟩
      have HB2 := hide hb2
      have hacc : acc.length ≤ 20000 := by omega
      have HPLa := HPL
      clear hqk tn h4 hql hkc3 hb2 HSP hkc1 hkc2 hac
      obtain ⟨wo, hwo⟩ : ∃ x, x = wr := ⟨_, rfl⟩
      have hinit : wrap64 ((acc.length : Int) - 1) = (acc.length : Int) - 1 := by unfold wrap64; omega
      go_wp2_with fail
      first | rw [← hW2] | skip
      go_loopw [5, 6] (fun r i wq => ∃ (j g2 cp2 : Nat), j ≤ acc.length ∧ i = .int .i64 ((acc.length : Int) - 1 - (j : Int)) ∧ r = .slice (some ⟨g2, 0, none⟩) j cp2 ∧ Hid (wq.ownsRow wo.heap.size 72 1 (.slice (some ⟨g2, 0, none⟩) j cp2) j ((ps.reverse.take j).map ptrV)) ∧ Hid (Below wo.heap.size wo wq)) (fun _ i _ => (intOf i + 1).toNat)
      case atStart => subst hwo; exact ⟨0, wo.heap.size, 0, by omega, by simp, rfl, HO2, HB2⟩
      case round =>
        clear HO2 HB2 hW2
        obtain ⟨j, g2, cp2, hj, rfl, rfl, HO2, HB2⟩ := hrel
        have hsz2 := HB2.out.size
        have hpl := HPL.out
        by_cases hlt : j < acc.length
        · obtain ⟨m, hm⟩ : ∃ m : Nat, m = acc.length - 1 - j := ⟨_, rfl⟩
          have hme : (acc.length : Int) - 1 - (j : Int) = (m : Int) := by omega
          have hml : m < acc.length := by omega
          have hge : decide ((0 : Int) ≤ (m : Int)) = true := by simp
          have HQ1 := hide (show j + 1 ≤ acc.length from hlt)
          have HNX : Hid ((acc.length : Int) - 1 - ((j + 1 : Nat) : Int) = (m : Int) - 1) := by show _ = _; omega
          subst hwo
          have hrw := row_keep HB2.out HO.out
          have d1 := hrw.cellAt m (by simp; omega)
          have hmp : m < ps.length := by omega
          rw [List.getElem?_map, List.getElem?_eq_getElem hmp] at d1
          simp only [Option.map_some, ptrV] at d1
          have hl1 := lt_cell d1
          have HTK : Hid (ps.reverse.take (j + 1) = ps.reverse.take j ++ [ps[m]]) := by
            show _ = _
            rw [List.take_succ_eq_append_getElem (by simp; omega), List.getElem_reverse]
            have e : ps.length - 1 - j = m := by omega
            simp only [e]
          generalize ps[m] = pm at *
          obtain ⟨W5, hW5⟩ : ∃ W5, W5 = wr.alloc (.cells #[.pointer (some ⟨pm, 0, none⟩)] 72) := ⟨_, rfl⟩
          have hb5 : Below wr.heap.size wr W5 := by rw [hW5]; exact bel_alloc (Below.refl _ _) _
          have hh5 : W5.heap[wr.heap.size]? = some (.cells #[.pointer (some ⟨pm, 0, none⟩)] 72 (0, 0)) := by rw [hW5]; exact heap_alloc_new wr _
          have HO5 := hide (row_keep hb5 HO2.out)
          have hs5 : W5.heap.size = wr.heap.size + 1 := by rw [hW5]; simp
          have HB5 := hide (bel_trans HB2.out hb5)
          rw [hme]
          have hmb : m < 100000 := by omega
          clear hrw hb5 hmp hm hme
          go_wp2_with (first
            | (at_builtin
               rw [← hW5]
               refine wpList_append_lies _ rfl _ _ 75 rfl wo.heap.size 72 ip (.pointer none) 1 8 Tryz.underlying75 hip hzp hsp1 hbp rfl (by omega) (.slice (some ⟨g2, 0, none⟩) j cp2) j ((ps.reverse.take j).map ptrV) rfl HO5.out ⟨wr.heap.size, 0, none⟩ 1 1 [.pointer (some ⟨pm, 0, none⟩)] rfl rfl (World.news_of_block (cs := #[.pointer (some ⟨pm, 0, none⟩)]) (t := 72) (fr := (0, 0)) hh5) (by intro u hu; simp at hu; rcases hu with rfl; rfl) (by omega) (by unfold maxLen; omega) (by omega) (by omega) W5.heap.size rfl ?_)
            | fail)
          intro g6 cap6 w6 hown6 hgrow6 hat6 hlt6
          rw [← hW5] at hgrow6
          have HB6 : Hid (Below wo.heap.size wo w6) := HB5.out.grown hgrow6 (by omega) (fun k hk => (World.ownsRow.lt HO5.out k hk).1)
          have HO6 : Hid (w6.ownsRow wo.heap.size 72 1 (.slice (some ⟨g6, 0, none⟩) (j + 1) cap6) (j + 1) ((ps.reverse.take (j + 1)).map ptrV)) := by
            show World.ownsRow _ _ _ _ _ _ _
            rw [HTK.out, List.map_append]
            have h := hown6
            rw [← List.map_reverse, ← List.map_take] at h
            exact h
          clear hown6 hgrow6 hat6 hlt6 HO5 HB5 hh5 hW5 d1 hl1
          go_wp2_with fail
          go_roundw
          case rel => exact ⟨j + 1, g6, cap6, HQ1.out, by rw [HNX.out], rfl, HO6, HB6⟩
          case measure => simp [intOf]
        · have e : j = acc.length := by omega
          subst e
          have hme : (acc.length : Int) - 1 - (acc.length : Int) = -1 := by omega
          rw [hme]
          subst hwo
          clear hme
          go_wp2_with fail
          refine bodyPost_ret (v := .tuple #[.pointer (some ⟨p, 0, none⟩), .slice (some ⟨g2, 0, none⟩) acc.length cp2]) (by simp [results, Tryz.results49, go_sem]) rfl ⟨⟨p, .slice (some ⟨g2, 0, none⟩) acc.length cp2, ps.reverse, rfl, ?_, ?_, ?_, ?_⟩, bel_trans HBJ.out HB2.out⟩
          · rw [HSC.out]; exact HIC.out
          · rw [HSC.out]; simp; exact HPL.out
          · rw [HSC.out]
            have h := HO2.out
            rw [List.take_of_length_le (by simp; omega)] at h
            have h := row_mono h hwsz
            simpa using h
          · rw [HSC.out]
            intro i h1 h2
            simp only [List.length_reverse] at h1 h2
            rw [List.getElem_reverse, List.getElem_reverse]
            have h := HIX.out (acc.length - 1 - i) (by omega) (by omega)
            have e : ps.length - 1 - i = acc.length - 1 - i := by omega
            simp only [e]
            exact h
end Go.Proofs.YtbgibiongnhjoaaGreat
