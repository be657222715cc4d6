/- sizedLevel for trees of up to a thousand million nodes (a text of 3000 bytes may ask for so many). -/
import Derived.Test.YtlmhpdmgjfankaaDoorSzL
namespace Go.Proofs.YtlmhpdmgjfankaaDoor
open Go.ChangeShapes Go.WideShapes Go.ChangeAt Go.RowKit

set_option maxHeartbeats 1000000 in
theorem size9_succ (n : Nat) (x : It) (hc : (It.succ n x).cnt ≤ 1000000000) (ih : SizeAt x) : SizeAt (.succ n x) := by
  intro w
  have hm := It.size_m x
  have he := It.size_e x
  simp only [It.cnt] at hc
  have IH := hide ih
  unfold SizeAt at IH
  simp only [It.szf, It.pay, It.cnt]
  rw [It.val_pay x]
  generalize x.szf = f at *
  generalize x.tid = T at *
  generalize x.pay = v at *
  generalize x.cnt = y at *
  have hwr : IntKind.i64.wrap ((n : Int) + y) = (n : Int) + y := by rw [IntKind.wrap_i64]; omega
  have HE : Hid (Ending.returned (.int .i64 ((n : Int) + y)) = .returned (.int .i64 ((n + y : Nat) : Int))) := by show _ = _; simp
  clear ih
  go_enter Tryd.func103, Tryd.ntmps103
  go_wp2_with fail
  go_region_held3 (fun w' => w'.cell? ⟨w.heap.size, 0, none⟩ = some (.int .i64 n) ∧ w'.cell? ⟨w.heap.size, 1, none⟩ = some (.iface T v))
    (first
      | go_keep
      | (go_split_ands; exact ⟨keep_cell hb1 (by assumption), keep_cell hb1 (by assumption)⟩)
      | fail)
    (first
      | (refine (IH.out _).mono ?_; rintro e w1 ⟨rfl, hb1⟩)
      | fail)
  all_goals
    go_wp2_with fail
    go_ret
    exact ⟨HE.out, (bel_alloc (Below.refl _ _) _).drew.trans (hb1.mono (by simp))⟩
set_option maxHeartbeats 2000000 in
theorem size9_max (a b : It) (hc : (It.max a b).cnt ≤ 1000000000) (iha : SizeAt a) (ihb : SizeAt b) : SizeAt (.max a b) := by
  intro w
  have hma := It.size_m a
  have hea := It.size_e a
  have hmb := It.size_m b
  have heb := It.size_e b
  simp only [It.cnt] at hc
  have IHA := hide iha
  have IHB := hide ihb
  unfold SizeAt at IHA IHB
  simp only [It.szf, It.pay, It.cnt]
  rw [It.val_pay a, It.val_pay b]
  generalize a.szf = fa at *
  generalize a.tid = Ta at *
  generalize a.pay = va at *
  generalize a.cnt = x at *
  generalize b.szf = fb at *
  generalize b.tid = Tb at *
  generalize b.pay = vb at *
  generalize b.cnt = y at *
  have hwr : IntKind.i64.wrap ((x : Int) + y) = (x : Int) + y := by rw [IntKind.wrap_i64]; omega
  have hwr2 : IntKind.i64.wrap ((x : Int) + y + 1) = (x : Int) + y + 1 := by rw [IntKind.wrap_i64]; omega
  have HE : Hid (Ending.returned (.int .i64 ((x : Int) + y + 1)) = .returned (.int .i64 ((x + y + 1 : Nat) : Int))) := by show _ = _; simp
  clear iha ihb
  go_enter Tryd.func107, Tryd.ntmps107
  go_wp2_with fail
  go_region_held3 (fun w' => w'.cell? ⟨w.heap.size, 0, none⟩ = some (.iface Ta va) ∧ w'.cell? ⟨w.heap.size, 1, none⟩ = some (.iface Tb vb))
    (first
      | go_keep
      | (go_split_ands; exact ⟨keep_cell hb2 (by assumption), keep_cell hb2 (by assumption)⟩)
      | (go_split_ands; exact ⟨keep_cell hb1 (by assumption), keep_cell hb1 (by assumption)⟩)
      | fail)
    (first
      | (refine (IHA.out _).mono ?_; rintro e w1 ⟨rfl, hb1⟩)
      | (refine (IHB.out _).mono ?_; rintro e w2 ⟨rfl, hb2⟩)
      | fail)
  all_goals
    go_wp2_with fail
    go_ret
    exact ⟨HE.out, bel_trans ((bel_alloc (Below.refl _ _) _).drew.trans (hb1.mono (by simp))) hb2⟩
set_option maxHeartbeats 2000000 in
theorem size9_imax (a b : It) (hc : (It.imax a b).cnt ≤ 1000000000) (iha : SizeAt a) (ihb : SizeAt b) : SizeAt (.imax a b) := by
  intro w
  have hma := It.size_m a
  have hea := It.size_e a
  have hmb := It.size_m b
  have heb := It.size_e b
  simp only [It.cnt] at hc
  have IHA := hide iha
  have IHB := hide ihb
  unfold SizeAt at IHA IHB
  simp only [It.szf, It.pay, It.cnt]
  rw [It.val_pay a, It.val_pay b]
  generalize a.szf = fa at *
  generalize a.tid = Ta at *
  generalize a.pay = va at *
  generalize a.cnt = x at *
  generalize b.szf = fb at *
  generalize b.tid = Tb at *
  generalize b.pay = vb at *
  generalize b.cnt = y at *
  have hwr : IntKind.i64.wrap ((x : Int) + y) = (x : Int) + y := by rw [IntKind.wrap_i64]; omega
  have hwr2 : IntKind.i64.wrap ((x : Int) + y + 1) = (x : Int) + y + 1 := by rw [IntKind.wrap_i64]; omega
  have HE : Hid (Ending.returned (.int .i64 ((x : Int) + y + 1)) = .returned (.int .i64 ((x + y + 1 : Nat) : Int))) := by show _ = _; simp
  clear iha ihb
  go_enter Tryd.func110, Tryd.ntmps110
  go_wp2_with fail
  go_region_held3 (fun w' => w'.cell? ⟨w.heap.size, 0, none⟩ = some (.iface Ta va) ∧ w'.cell? ⟨w.heap.size, 1, none⟩ = some (.iface Tb vb))
    (first
      | go_keep
      | (go_split_ands; exact ⟨keep_cell hb2 (by assumption), keep_cell hb2 (by assumption)⟩)
      | (go_split_ands; exact ⟨keep_cell hb1 (by assumption), keep_cell hb1 (by assumption)⟩)
      | fail)
    (first
      | (refine (IHA.out _).mono ?_; rintro e w1 ⟨rfl, hb1⟩)
      | (refine (IHB.out _).mono ?_; rintro e w2 ⟨rfl, hb2⟩)
      | fail)
  all_goals
    go_wp2_with fail
    go_ret
    exact ⟨HE.out, bel_trans ((bel_alloc (Below.refl _ _) _).drew.trans (hb1.mono (by simp))) hb2⟩
theorem size9_all : ∀ x : It, x.cnt ≤ 1000000000 → SizeAt x
  | .zero, _ => size_zero
  | .succ n x, h => size9_succ n x h (size9_all x (by simp only [It.cnt] at h; omega))
  | .max a b, h => size9_max a b h (size9_all a (by simp only [It.cnt] at h; omega)) (size9_all b (by simp only [It.cnt] at h; omega))
  | .imax a b, h => size9_imax a b h (size9_all a (by simp only [It.cnt] at h; omega)) (size9_all b (by simp only [It.cnt] at h; omega))
  | .param s, _ => size_param s
set_option maxRecDepth 20000 in
set_option maxHeartbeats 2000000 in
theorem sizedLevel9_any (t : Tr) (w : World) (hok : t.ok) (hc : t.cnt ≤ 1000000000) :
    Calls Tryd.prog 26 #[.iface t.it.tid t.it.pay] w fun e w' => LvOut w.heap.size w' e (sizedR t) 3 ∧ Below w.heap.size w w' := by
  have hm := It.size_m t.it
  have he := It.size_e t.it
  have hcnt := it_cnt t hok
  have HSZ := hide (size9_all t.it (by omega))
  have HLT := hide (levelOfTree_any t.it)
  have HFL := hide (it_flat t 0 hok)
  have HLV := hide (lvl_flat t hok)
  have HSM := hide (flat_le t 0 hok)
  have HTL := hide (Tr.flat_len t 0)
  unfold SizeAt at HSZ
  rw [hcnt] at HSZ HLT
  rw [HFL.out] at HLT
  generalize t.it.szf = f at *
  generalize t.it.tid = T at *
  generalize t.it.pay = v at *
  clear hcnt
  obtain ⟨W, hW⟩ : ∃ W, W = w.alloc (.cells #[.slice none 0 0] 29) := ⟨_, rfl⟩
  have HB := hide (show Below w.heap.size w W by rw [hW]; exact bel_alloc (Below.refl _ _) _)
  have hsW : W.heap.size = w.heap.size + 1 := by rw [hW]; simp
  have x0 : W.cell? ⟨w.heap.size, 0, none⟩ = some (.slice none 0 0) := by rw [hW]; simp [go_sem]
  have xf : W.frozen? ⟨w.heap.size, 0, none⟩ = false := by rw [hW]; simp [go_sem]
  have HXB := hide (show W.heap[w.heap.size]? = some (.cells #[.slice none 0 0] 29 (0, 0)) by rw [hW]; exact heap_alloc_new w _)
  go_enter Tryd.func26, Tryd.ntmps26
  go_wp2_with fail
  rw [← hW]
  clear hW
  refine (HSZ.out W).mono ?_
  rintro e w2 ⟨rfl, hb2⟩
  have x0 := keep_cell hb2 x0
  have xf : w2.frozen? ⟨w.heap.size, 0, none⟩ = false := (hb2.frozen (p := ⟨w.heap.size, 0, none⟩) (by show w.heap.size < _; omega)).trans xf
  have HXB2 := hide ((hb2.block w.heap.size (by omega)).trans HXB.out)
  have HB2 := hide (HB.out.trans (hb2.mono (by omega)))
  have hs2 := hb2.size
  clear hb2 HSZ
  by_cases hbig : t.cnt ≤ 64
  · have hle : (t.cnt : Int) ≤ 64 := by omega
    go_wp2_with fail
    refine (HLT.out w2 (by omega)).mono ?_
    rintro e w3 ⟨g3, cap3, rfl, hn3, hb3⟩
    have x0 := keep_cell hb3 x0
    have xf : w3.frozen? ⟨w.heap.size, 0, none⟩ = false := (hb3.frozen (p := ⟨w.heap.size, 0, none⟩) (by show w.heap.size < _; omega)).trans xf
    have HXB3 := hide ((hb3.block w.heap.size (by omega)).trans HXB2.out)
    have HB3 := hide (HB2.out.trans (hb3.mono (by omega)))
    have hs3 := hb3.size
    have HN3 := hide hn3
    have HND := hide (hn3.nodes HTL.out)
    obtain ⟨W4, hW4⟩ : ∃ W4, W4 = w3.alloc (.cells #[.slice (some ⟨g3, 0, none⟩) t.cnt cap3] 29) := ⟨_, rfl⟩
    have HB4 := hide (show Below w3.heap.size w3 W4 by rw [hW4]; exact bel_alloc (Below.refl _ _) _)
    have y0 : W4.cell? ⟨w3.heap.size, 0, none⟩ = some (.slice (some ⟨g3, 0, none⟩) t.cnt cap3) := by rw [hW4]; simp [go_sem]
    have hs4 : w3.heap.size < W4.heap.size := by rw [hW4]; simp
    have hgl : g3 ≠ w.heap.size := by have := (hn3.row_lt g3 rfl).1; omega
    clear hb3 hn3 HLT
    go_wp2_with fail
    rw [← hW4]
    clear hW4
    have x0 := keep_cell HB4.out x0
    have xf : W4.frozen? ⟨w.heap.size, 0, none⟩ = false := (HB4.out.frozen (p := ⟨w.heap.size, 0, none⟩) (by show w.heap.size < _; omega)).trans xf
    have HXB4 := hide ((HB4.out.block w.heap.size (by omega)).trans HXB3.out)
    refine (implLevelOk_any _ (t.flat 0) W4 (HND.out.keep HB4.out) HSM.out).mono ?_
    rintro e w5 ⟨rfl, hb5⟩
    rw [HLV.out]
    have x0 := keep_cell hb5 x0
    have xf : w5.frozen? ⟨w.heap.size, 0, none⟩ = false := (hb5.frozen (p := ⟨w.heap.size, 0, none⟩) (by show w.heap.size < _; omega)).trans xf
    have HXB5 := hide ((hb5.block w.heap.size (by omega)).trans HXB4.out)
    have y0 := keep_cell hb5 y0
    have HB5 := hide ((HB3.out.trans (HB4.out.mono (by omega))).trans (hb5.mono (by omega)))
    have HN5 := hide ((HN3.out.keep HB4.out).keep hb5)
    have hne : ¬ w3.heap.size = w.heap.size := by omega
    clear hb5
    cases hfit : fitsB t
    · have HF : Hid (sizedR t = none) := by show _ = _; unfold sizedR; rw [hfit]; rfl
      go_wp2_with fail
      refine bodyPost_ret (v := .tuple #[.agg #[.slice none 0 0], .int .i64 3]) (by simp [results, go_sem, x0]) rfl ⟨by rw [HF.out]; exact rfl, HB5.out.setCell (p := ⟨_, _, _⟩) (Nat.le_refl _) _⟩
    · have HF : Hid (sizedR t = some t) := by show _ = _; unfold sizedR; rw [hfit]; rfl
      have HN6 := hide (HN5.out.set (l := w.heap.size) (o := 0) (by decide) (by decide) HXB5.out (.slice (some ⟨g3, 0, none⟩) t.cnt cap3))
      have hbase : w.heap.size ≤ w2.heap.size := by omega
      go_wp2_with fail
      refine bodyPost_ret (v := .tuple #[.agg #[.slice (some ⟨g3, 0, none⟩) t.cnt cap3], .int .i64 0]) (by simp [results, go_sem, x0]) rfl ⟨?_, HB5.out.setCell (p := ⟨_, _, _⟩) (Nat.le_refl _) _⟩
      rw [HF.out]
      exact ⟨g3, cap3, rfl, HN6.out.mono hbase⟩
  · have hle : ¬ (t.cnt : Int) ≤ 64 := by omega
    have HF : Hid (sizedR t = none) := by
      show _ = _
      unfold sizedR fitsB
      rw [if_neg]
      simp; omega
    go_wp2_with fail
    refine bodyPost_ret (v := .tuple #[.agg #[.slice none 0 0], .int .i64 3]) (by simp [results, go_sem, x0]) rfl ⟨by rw [HF.out]; exact rfl, HB2.out.setCell (p := ⟨_, _, _⟩) (Nat.le_refl _) _⟩
end Go.Proofs.YtlmhpdmgjfankaaDoor
