/- What the program's readLevelBase answers, where readLevel answers as the plain reader. -/
import Derived.Test.YtlmhpdmgjfankaaDoorPaL
namespace Go.Proofs.YtlmhpdmgjfankaaDoor
open Go.ChangeShapes Go.WideShapes Go.ChangeAt Go.RowKit

theorem e112 (args : Array Value) (W : World) : (callFunc 53 args).run Tryd.prog W = .ok (.enter 53 args) W := by kernel_rfl
theorem e60 (args : Array Value) (W : World) : (callFunc 66 args).run Tryd.prog W = .ok (.enter 66 args) W := by kernel_rfl
theorem dig_fn (c : UInt8) (w : World) : Calls Tryd.prog 53 #[.int .u8 (c.toNat : Int)] w fun e w' => e = .returned (.bool (digU c)) ∧ w' = w := by
  have := isDigit_any (c.toNat : Int) w
  rw [dig_eq] at this
  exact this
theorem goes_fn (c : UInt8) (w : World) : Calls Tryd.prog 66 #[.int .u8 (c.toNat : Int)] w fun e w' => e = .returned (.bool (goesU c)) ∧ w' = w := goesOnName_any (c.toNat : Int) w
theorem tw_nil {l : Bs} {pr : UInt8 → Bool} (h : l.takeWhile pr = []) : l.dropWhile pr = l := by
  have := List.takeWhile_append_dropWhile (p := pr) (l := l)
  rw [h] at this
  simpa using this

set_option maxRecDepth 20000 in
set_option maxHeartbeats 8000000 in
theorem base_any (bt ba bf : Nat) (s : ByteArray) (hs : s.size ≤ 3000) (L : Nat) (ih : LevAt bt ba bf s L) (w : World) (p : Nat) (hL : (s.data.toList.drop p).length ≤ L) (h : RdI bt ba bf s p w) :
    Calls Tryd.prog 51 #[rV bt ba bf] w fun e w' => ROut bt ba bf s (pB pRF (s.data.toList.drop p)) e w' ∧ w.grownBy w' (some ba) := by
  obtain ⟨res, hres0⟩ : ∃ res, res = pB pRF (s.data.toList.drop p) := ⟨_, rfl⟩
  rw [← hres0]
  have HRS := hide hres0
  clear hres0
  obtain ⟨W, hW⟩ : ∃ W, W = w.alloc (.cells #[rF1 ba bt, rF2 bt ba bf, rF3 bt ba bf] 56) := ⟨_, rfl⟩
  have HG0 := hide (show w.grownBy W (some ba) by rw [hW]; exact (grown_of (bel_alloc (Below.refl _ _) _)).but _)
  have HR0 := hide (show RdI bt ba bf s p W by rw [hW]; exact h.keep (bel_alloc (Below.refl _ _) _))
  have HX0 := hide (show BoxI bt ba bf w.heap.size W by rw [hW]; exact BoxI.new h.lt)
  obtain ⟨b0, hb0⟩ : ∃ b0, b0 = w.heap.size := ⟨_, rfl⟩
  rw [← hb0] at HX0
  have HSP := hide (span_any 53 digU dig_fn e112 bt ba bf s p W HR0.out hs)
  have HPA := hide (fun w p h1 h2 => pair_any bt ba bf s hs L ih w p h1 h2)
  unfold rV at HPA
  unfold rF1 rF2 rF3 at HPA
  clear h ih
  unfold rV
  unfold rF1 rF2 rF3 at *
  go_enter Tryd.func51, Tryd.ntmps51
  go_upto_region 1 with fail
  rw [← hW]
  rw [← hb0]
  clear hW hb0
  obtain ⟨x0, x1, x2, hne0⟩ := HX0.out
  unfold rF1 at x0
  unfold rF2 at x1
  unfold rF3 at x2
  go_wp2_with fail
  refine HSP.out.mono ?_
  rintro e w1 ⟨⟨q1, hq1, rfl, hdr1, h1⟩, hg1⟩
  have HX1 := hide (HX0.out.go hg1)
  have HG1 := hide (HG0.out.trans hg1)
  obtain ⟨ds, hds⟩ : ∃ ds : ByteArray, ds = ⟨((s.data.toList.drop p).takeWhile digU).toArray⟩ := ⟨_, rfl⟩
  have hdl : ds.data.toList = (s.data.toList.drop p).takeWhile digU := by rw [hds]
  have hdt : ds.toList = (s.data.toList.drop p).takeWhile digU := by rw [hds, tl_mk]
  rw [← hds]
  have hdz : ds.size ≤ 3000 := by
    have e1 : ds.size = ds.data.toList.length := by simp
    rw [e1, hdl]
    have h1 := (List.takeWhile_sublist (l := s.data.toList.drop p) digU).length_le
    have h2 : (s.data.toList.drop p).length ≤ s.size := by simp
    omega
  clear x0 x1 x2 hg1 HSP HR0 HG0 HX0 hds
  by_cases hd0 : (s.data.toList.drop p).takeWhile digU = []
  · have q0 : ds.toList.isEmpty = true := by rw [hdt, hd0]; rfl
    have hdd := tw_nil hd0
    rw [hdr1] at hdd
    have HSP2 := hide (span_any 66 goesU goes_fn e60 bt ba bf s q1 w1 h1 hs)
    unfold SpanOut at HSP2
    rw [hdd] at HSP2
    obtain ⟨x0, x1, x2, hne1⟩ := HX1.out
    unfold rF1 at x0
    unfold rF2 at x1
    unfold rF3 at x2
    clear h1 hdr1 hdl hdt hdz hdd
    go_wp2_with fail
    refine HSP2.out.mono ?_
    rintro e w2 ⟨⟨q2, hq2, rfl, hdr2, h2⟩, hg2⟩
    have HX2 := hide (HX1.out.go hg2)
    have HG2 := hide (HG1.out.trans hg2)
    obtain ⟨nm, hnm⟩ : ∃ nm : ByteArray, nm = ⟨((s.data.toList.drop p).takeWhile goesU).toArray⟩ := ⟨_, rfl⟩
    have hnl : nm.toList = (s.data.toList.drop p).takeWhile goesU := by rw [hnm, tl_mk]
    have HRES : Hid (res = if nm.toList = [109, 97, 120] then (pPair pRF (s.data.toList.drop q2)).map fun q => (.max q.1 q.2.1, q.2.2)
      else if nm.toList = [105, 109, 97, 120] then (pPair pRF (s.data.toList.drop q2)).map fun q => (.imax q.1 q.2.1, q.2.2)
      else if shortB nm then some (.param nm, s.data.toList.drop q2) else none) := by
      show _ = _
      rw [HRS.out]
      unfold pB
      rw [if_neg (by rw [hd0]; simp), hdr2, hnl, hnm]
    rw [← hnm]
    have hnz : nm.size ≤ 3000 := by
      have e1 : nm.size = nm.data.toList.length := by simp
      have e2 : nm.data.toList = (s.data.toList.drop p).takeWhile goesU := by rw [hnm]
      rw [e1, e2]
      have h1 := (List.takeWhile_sublist (l := s.data.toList.drop p) goesU).length_le
      have h2 : (s.data.toList.drop p).length ≤ s.size := by simp
      omega
    have hL2 : (s.data.toList.drop q2).length ≤ L := by
      rw [← hdr2]
      exact Nat.le_trans (List.dropWhile_suffix goesU).length_le hL
    have HPB := hide (HPA.out w2 q2 hL2 h2)
    have H2 := hide h2
    clear x0 x1 x2 hg2 HX1 HG1 HSP2 HPA hnm hdr2 hnl h2 hL2
    by_cases hm : nm.toList = [109, 97, 120]
    · have HR1 : Hid (res = (pPair pRF (s.data.toList.drop q2)).map fun q => (.max q.1 q.2.1, q.2.2)) := by show _ = _; rw [HRES.out, if_pos hm]
      clear HRES HRS
      have n1 : (nm.toList == [109, 97, 120]) = true := by rw [hm]; rfl
      obtain ⟨x0, x1, x2, hne2⟩ := HX2.out
      unfold rF1 at x0
      unfold rF2 at x1
      unfold rF3 at x2
      go_wp2_with fail
      refine HPB.out.mono ?_
      rintro e w3 ⟨hout, hg3⟩
      have HG3 := hide (HG2.out.trans hg3)
      clear x0 x1 x2 hg3 HX2 HG2 HPB
      cases hpp : pPair pRF (s.data.toList.drop q2) with
      | none =>
        rw [hpp] at hout
        obtain ⟨va, vb, q3, hva, hvb, rfl, h3⟩ := hout
        have HP : Hid (res = none) := by show _ = _; rw [HR1.out, hpp]; rfl
        have H3 := hide h3
        clear h3 hpp HR1
        rcases hva with rfl | ⟨Ta, ua, rfl⟩
        · rcases hvb with rfl | ⟨Tb, ub, rfl⟩
          · go_wp2_with fail
            refine bodyPost_ret (results_tmp2 Tryd.results51 _ _ _) rfl ⟨by rw [HP.out]; exact ⟨_, q3, .inr ⟨_, _, rfl⟩, rfl, H3.out⟩, HG3.out⟩
          · go_wp2_with fail
            refine bodyPost_ret (results_tmp2 Tryd.results51 _ _ _) rfl ⟨by rw [HP.out]; exact ⟨_, q3, .inr ⟨_, _, rfl⟩, rfl, H3.out⟩, HG3.out⟩
        · rcases hvb with rfl | ⟨Tb, ub, rfl⟩
          · go_wp2_with fail
            refine bodyPost_ret (results_tmp2 Tryd.results51 _ _ _) rfl ⟨by rw [HP.out]; exact ⟨_, q3, .inr ⟨_, _, rfl⟩, rfl, H3.out⟩, HG3.out⟩
          · go_wp2_with fail
            refine bodyPost_ret (results_tmp2 Tryd.results51 _ _ _) rfl ⟨by rw [HP.out]; exact ⟨_, q3, .inr ⟨_, _, rfl⟩, rfl, H3.out⟩, HG3.out⟩
      | some z =>
        obtain ⟨x, y, r⟩ := z
        rw [hpp] at hout
        obtain ⟨q3, rfl, h3, hq3⟩ := hout
        have HP : Hid (res = some (.max x y, r)) := by show _ = _; rw [HR1.out, hpp]; rfl
        have H3 := hide h3
        have HQ3 := hide hq3
        obtain ⟨Tx, vx, hvx⟩ := x.val_iface
        obtain ⟨Ty, vy, hvy⟩ := y.val_iface
        have HV : Hid ((It.max x y).val = .iface 85 (.agg #[.iface Tx vx, .iface Ty vy])) := by show _ = _; rw [← hvx, ← hvy]; rfl
        rw [hvx, hvy]
        clear h3 hpp HR1 hq3 hvx hvy
        go_wp2_with fail
        refine bodyPost_ret (results_tmp2 Tryd.results51 _ _ _) rfl ⟨by rw [HP.out]; exact ⟨q3, by rw [HV.out]; rfl, H3.out, HQ3.out⟩, HG3.out⟩
    · have n1 : (nm.toList == [109, 97, 120]) = false := beq_eq_false_iff_ne.2 hm
      by_cases hi : nm.toList = [105, 109, 97, 120]
      · have HR1 : Hid (res = (pPair pRF (s.data.toList.drop q2)).map fun q => (.imax q.1 q.2.1, q.2.2)) := by show _ = _; rw [HRES.out, if_neg hm, if_pos hi]
        clear HRES HRS
        have n2 : (nm.toList == [105, 109, 97, 120]) = true := by rw [hi]; rfl
        obtain ⟨x0, x1, x2, hne2⟩ := HX2.out
        unfold rF1 at x0
        unfold rF2 at x1
        unfold rF3 at x2
        go_wp2_with fail
        refine HPB.out.mono ?_
        rintro e w3 ⟨hout, hg3⟩
        have HG3 := hide (HG2.out.trans hg3)
        clear x0 x1 x2 hg3 HX2 HG2 HPB
        cases hpp : pPair pRF (s.data.toList.drop q2) with
        | none =>
          rw [hpp] at hout
          obtain ⟨va, vb, q3, hva, hvb, rfl, h3⟩ := hout
          have HP : Hid (res = none) := by show _ = _; rw [HR1.out, hpp]; rfl
          have H3 := hide h3
          clear h3 hpp HR1
          rcases hva with rfl | ⟨Ta, ua, rfl⟩
          · rcases hvb with rfl | ⟨Tb, ub, rfl⟩
            · go_wp2_with fail
              refine bodyPost_ret (results_tmp2 Tryd.results51 _ _ _) rfl ⟨by rw [HP.out]; exact ⟨_, q3, .inr ⟨_, _, rfl⟩, rfl, H3.out⟩, HG3.out⟩
            · go_wp2_with fail
              refine bodyPost_ret (results_tmp2 Tryd.results51 _ _ _) rfl ⟨by rw [HP.out]; exact ⟨_, q3, .inr ⟨_, _, rfl⟩, rfl, H3.out⟩, HG3.out⟩
          · rcases hvb with rfl | ⟨Tb, ub, rfl⟩
            · go_wp2_with fail
              refine bodyPost_ret (results_tmp2 Tryd.results51 _ _ _) rfl ⟨by rw [HP.out]; exact ⟨_, q3, .inr ⟨_, _, rfl⟩, rfl, H3.out⟩, HG3.out⟩
            · go_wp2_with fail
              refine bodyPost_ret (results_tmp2 Tryd.results51 _ _ _) rfl ⟨by rw [HP.out]; exact ⟨_, q3, .inr ⟨_, _, rfl⟩, rfl, H3.out⟩, HG3.out⟩
        | some z =>
          obtain ⟨x, y, r⟩ := z
          rw [hpp] at hout
          obtain ⟨q3, rfl, h3, hq3⟩ := hout
          have HP : Hid (res = some (.imax x y, r)) := by show _ = _; rw [HR1.out, hpp]; rfl
          have H3 := hide h3
          have HQ3 := hide hq3
          obtain ⟨Tx, vx, hvx⟩ := x.val_iface
          obtain ⟨Ty, vy, hvy⟩ := y.val_iface
          have HV : Hid ((It.imax x y).val = .iface 86 (.agg #[.iface Tx vx, .iface Ty vy])) := by show _ = _; rw [← hvx, ← hvy]; rfl
          rw [hvx, hvy]
          clear h3 hpp HR1 hq3 hvx hvy
          go_wp2_with fail
          refine bodyPost_ret (results_tmp2 Tryd.results51 _ _ _) rfl ⟨by rw [HP.out]; exact ⟨q3, by rw [HV.out]; rfl, H3.out, HQ3.out⟩, HG3.out⟩
      · have n2 : (nm.toList == [105, 109, 97, 120]) = false := beq_eq_false_iff_ne.2 hi
        have HR1 : Hid (res = if shortB nm then some (.param nm, s.data.toList.drop q2) else none) := by show _ = _; rw [HRES.out, if_neg hm, if_neg hi]
        have HSO := hide (implShort_any nm w2 (by unfold maxLen; omega))
        clear HRES HRS hm hi HPB
        obtain ⟨x0, x1, x2, hne2⟩ := HX2.out
        unfold rF1 at x0
        unfold rF2 at x1
        unfold rF3 at x2
        go_wp2_with fail
        refine HSO.out.mono ?_
        rintro e w3 ⟨rfl, hw⟩
        have hw := hw.symm
        subst hw
        go_wp2_with fail
        refine bodyPost_ret (results_tmp2 Tryd.results51 _ _ _) rfl ⟨?_, HG2.out⟩
        rw [HR1.out]
        cases hsb : shortB nm
        · exact ⟨_, q2, .inr ⟨_, _, rfl⟩, rfl, H2.out⟩
        · exact ⟨q2, rfl, H2.out, rfl⟩
  · have q0 : ds.toList.isEmpty = false := by rw [hdt]; cases hl : (s.data.toList.drop p).takeWhile digU with
      | nil => exact absurd hl hd0
      | cons c r => rfl
    have HDC := hide (decimal_any ds w1 (by omega))
    rw [hdl] at HDC
    unfold numR at HDC
    have HRES : Hid (res = if okNum ((s.data.toList.drop p).takeWhile digU) then some (sA0 (numU ((s.data.toList.drop p).takeWhile digU)) .zero, s.data.toList.drop q1) else none) := by
      show _ = _
      rw [HRS.out]
      unfold pB
      rw [if_pos hd0, hdr1]
    have HNL : Hid (okNum ((s.data.toList.drop p).takeWhile digU) = true → numU ((s.data.toList.drop p).takeWhile digU) ≤ 9999) := fun h => num_le h
    generalize okNum ((s.data.toList.drop p).takeWhile digU) = ok at *
    generalize numU ((s.data.toList.drop p).takeWhile digU) = nn at *
    have H1 := hide h1
    clear h1 hdr1 hdl hdt hdz hd0 HX1
    cases ok
    · have HP : Hid (res = none) := by show _ = _; rw [HRES.out]; rfl
      simp only [Bool.false_eq_true, if_false] at HDC
      have HSA := hide (show Calls Tryd.prog 39 #[.iface 82 (.agg #[]), .int .i64 0] w1 fun e w' => e = .returned (.iface 82 (.agg #[])) ∧ Below w1.heap.size w1 w' from succA0_any 0 .zero w1 (by simp [It.cnt]))
      go_wp2_with fail
      refine HDC.out.mono ?_
      rintro e w2 ⟨rfl, hw⟩
      have hw := hw.symm
      subst hw
      go_wp2_with fail
      refine HSA.out.mono ?_
      rintro e w3 ⟨rfl, hb3⟩
      have HB3 := hide hb3
      clear hb3
      go_wp2_with fail
      refine bodyPost_ret (results_tmp2 Tryd.results51 _ _ _) rfl ⟨by rw [HP.out]; exact ⟨_, q1, .inr ⟨_, _, rfl⟩, rfl, H1.out.keep HB3.out⟩, HG1.out.trans ((grown_of HB3.out).but _)⟩
    · have HP : Hid (res = some (sA0 nn .zero, s.data.toList.drop q1)) := by show _ = _; rw [HRES.out]; rfl
      have hnn := HNL.out rfl
      simp only [if_true] at HDC
      obtain ⟨Tx, vx, hvx⟩ := (sA0 nn .zero).val_iface
      have HVX := hide hvx
      have HSA := hide (show Calls Tryd.prog 39 #[.iface 82 (.agg #[]), .int .i64 nn] w1 fun e w' => e = .returned (sA0 nn .zero).val ∧ Below w1.heap.size w1 w' from succA0_any nn .zero w1 (by simp [It.cnt]; omega))
      rw [hvx] at HSA
      clear hvx
      go_wp2_with fail
      refine HDC.out.mono ?_
      rintro e w2 ⟨rfl, hw⟩
      have hw := hw.symm
      subst hw
      go_wp2_with fail
      refine HSA.out.mono ?_
      rintro e w3 ⟨rfl, hb3⟩
      have HB3 := hide hb3
      clear hb3
      go_wp2_with fail
      refine bodyPost_ret (results_tmp2 Tryd.results51 _ _ _) rfl ⟨by rw [HP.out]; exact ⟨q1, by rw [HVX.out]; rfl, H1.out.keep HB3.out, rfl⟩, HG1.out.trans ((grown_of HB3.out).but _)⟩
end Go.Proofs.YtlmhpdmgjfankaaDoor

/- What the program's readLevel answers: what the plain reader answers. -/
namespace Go.Proofs.YtlmhpdmgjfankaaDoor
open Go.ChangeShapes Go.WideShapes Go.ChangeAt Go.RowKit

theorem pBF (s : Bs) : pB pRF s = pB (pR s.length) s := by
  have hp : ∀ q : Bs, q.length ≤ s.length → pPair pRF q = pPair (pR s.length) q := by
    intro q hq
    cases q with
    | nil => rfl
    | cons c r =>
      simp only [pPair, pRF]
      simp only [List.length_cons] at hq
      by_cases hc : c = 40
      · rw [if_pos hc, if_pos hc, pR_fuel (r.length + 1) s.length r (by omega) (by omega)]
        cases hr : pR s.length r with
        | none => rfl
        | some z =>
          obtain ⟨a, r2⟩ := z
          cases r2 with
          | nil => rfl
          | cons c2 r2 =>
            have hl := (pR_len hr).1
            simp only [List.length_cons] at hl
            simp only []
            rw [pR_fuel (r2.length + 1) s.length r2 (by omega) (by omega)]
      · rw [if_neg hc, if_neg hc]
  unfold pB
  rw [hp _ (List.dropWhile_sublist goesU).length_le]
theorem pBF_cnt {s : Bs} {y : It} {r : Bs} (h : pB pRF s = some (y, r)) : y.cnt + 10000 * r.length ≤ 10000 * s.length ∧ r.length < s.length := by
  rw [pBF] at h
  exact pB_cnt h
theorem sA0_cnt (n : Nat) (x : It) : (sA0 n x).cnt = x.cnt + n := by
  unfold sA0
  split
  · omega
  · exact cnt_aroundN n x
/-- What holds at the head of the loop of readLevel. -/
def LoopI (res : Option (It × Bs)) (r : Bs) (v : Value) (ok : Bool) : Prop :=
  (ok = true ∧ ∃ x m, v = x.val ∧ r.length < m ∧ res = pPlus m x r ∧ x.cnt + 10000 * r.length ≤ 100000000) ∨ (ok = false ∧ IfV v ∧ res = none)

set_option maxRecDepth 20000 in
set_option maxHeartbeats 8000000 in
theorem lev_step (bt ba bf : Nat) (s : ByteArray) (hs : s.size ≤ 3000) (L : Nat) (ih : LevAt bt ba bf s L) (w : World) (p : Nat) (hL : (s.data.toList.drop p).length ≤ L) (h : RdI bt ba bf s p w) :
    Calls Tryd.prog 25 #[rV bt ba bf] w fun e w' => ROut bt ba bf s (pRF (s.data.toList.drop p)) e w' ∧ w.grownBy w' (some ba) := by
  obtain ⟨res, hres0⟩ : ∃ res, res = pRF (s.data.toList.drop p) := ⟨_, rfl⟩
  rw [← hres0]
  have HRS := hide hres0
  clear hres0
  obtain ⟨W, hW⟩ : ∃ W, W = w.alloc (.cells #[rF1 ba bt, rF2 bt ba bf, rF3 bt ba bf] 56) := ⟨_, rfl⟩
  have HG0 := hide (show w.grownBy W (some ba) by rw [hW]; exact (grown_of (bel_alloc (Below.refl _ _) _)).but _)
  have HR0 := hide (show RdI bt ba bf s p W by rw [hW]; exact h.keep (bel_alloc (Below.refl _ _) _))
  have HX0 := hide (show BoxI bt ba bf w.heap.size W by rw [hW]; exact BoxI.new h.lt)
  obtain ⟨b0, hb0⟩ : ∃ b0, b0 = w.heap.size := ⟨_, rfl⟩
  rw [← hb0] at HX0
  have HBA := hide (base_any bt ba bf s hs L ih W p hL HR0.out)
  unfold rV rF1 rF2 rF3 at HBA
  clear h ih
  unfold rV
  unfold rF1 rF2 rF3 at *
  go_enter Tryd.func25, Tryd.ntmps25
  go_upto_region 1 with fail
  rw [← hW]
  rw [← hb0]
  clear hW hb0
  obtain ⟨x0, x1, x2, hne0⟩ := HX0.out
  unfold rF1 at x0
  unfold rF2 at x1
  unfold rF3 at x2
  go_wp2_with fail
  refine HBA.out.mono ?_
  rintro e w1 ⟨hout, hg1⟩
  have HX1 := hide (HX0.out.go hg1)
  have HG1 := hide (HG0.out.trans hg1)
  have HO : Hid (∃ v ok q1, e = .returned (.tuple #[v, .bool ok]) ∧ RdI bt ba bf s q1 w1 ∧ LoopI res (s.data.toList.drop q1) v ok) := by
    show _
    have hr := HRS.out
    rw [pRF_eq] at hr
    cases hpb : pB pRF (s.data.toList.drop p) with
    | none =>
      rw [hpb] at hr hout
      obtain ⟨v, q, hv, he, h1⟩ := hout
      exact ⟨v, false, q, he, h1, .inr ⟨rfl, hv, hr⟩⟩
    | some z =>
      obtain ⟨x, r⟩ := z
      rw [hpb] at hr hout
      obtain ⟨q, he, h1, hq⟩ := hout
      have hc := (pBF_cnt hpb).1
      have hl : (s.data.toList.drop p).length ≤ s.size := by simp
      exact ⟨x.val, true, q, he, h1, .inl ⟨rfl, x, r.length + 1, rfl, by rw [hq]; omega, by rw [hq]; exact hr, by rw [hq]; omega⟩⟩
  obtain ⟨v1, ok1, q1, he, h1, hlp⟩ := HO.out
  subst he
  have H1 := hide h1
  have HLP := hide hlp
  clear x0 x1 x2 hg1 HX0 HG0 HBA HRS HR0 HO hout h1 hlp
  go_upto_region 2 with fail
  go_loopw [4, 5] (fun v k wr => ∃ (ok : Bool) (q : Nat), k = .bool ok ∧ Hid (RdI bt ba bf s q wr) ∧ Hid (LoopI res (s.data.toList.drop q) v ok) ∧ Hid (BoxI bt ba bf b0 wr) ∧ Hid (w.grownBy wr (some ba))) (fun _ _ wr => s.size - placeOf ba wr)
  case atStart => exact ⟨ok1, q1, rfl, H1, HLP, HX1, HG1⟩
  case round =>
    obtain ⟨ok, q, rfl, HR, HLI, HX, HG⟩ := hrel
    rcases HLI.out with ⟨rfl, x, m, rfl, hm, hres, hcnt⟩ | ⟨rfl, hv, hres⟩
    · obtain ⟨Tx, vx, hvx⟩ := x.val_iface
      have HVX := hide hvx
      have HT := hide (take_any 43 43 rfl bt ba bf s q wr HR.out hs)
      have HRES := hide hres
      have hplq := place_eq HR.out.cells.2.1
      have HPL := hide hplq
      have hle := HR.out.le
      obtain ⟨x0, x1, x2, hne⟩ := HX.out
      unfold rF1 at x0
      unfold rF2 at x1
      unfold rF3 at x2
      rw [hvx]
      clear hres hvx hplq HLI HLP HX1 HG1 H1
      go_wp2_with fail
      refine HT.out.mono ?_
      rintro e w2 ⟨hout, hg2⟩
      have HX2 := hide (HX.out.go hg2)
      have HG2 := hide (HG.out.trans hg2)
      clear x0 x1 x2 hg2 HX HG HT
      rcases hout with ⟨r, hr, rfl, h2⟩ | ⟨hno, rfl, h2⟩
      · have hr1 := drop_next hr
        have HSP := hide (span_any 53 digU dig_fn e112 bt ba bf s (q + 1) w2 h2 hs)
        unfold SpanOut at HSP
        rw [hr1] at HSP
        obtain ⟨m', rfl⟩ : ∃ m', m = m' + 1 := ⟨m - 1, by omega⟩
        have hlr : r.length + (q + 1) = s.size := by
          have e1 : (s.data.toList.drop (q + 1)).length = r.length := by rw [hr1]
          have e2 : (s.data.toList.drop q).length = r.length + 1 := by rw [hr]; rfl
          have e3 : s.data.toList.length = s.size := by simp
          rw [List.length_drop] at e1 e2
          omega
        have HRES2 : Hid (res = if okNum (r.takeWhile digU) then pPlus m' (sA0 (numU (r.takeWhile digU)) x) (r.dropWhile digU) else none) := by
          show _ = _
          rw [HRES.out, hr]
          simp only [pPlus, if_true]
        rw [hr] at hm hcnt
        simp only [List.length_cons] at hm hcnt
        clear hr hr1 h2 HRES
        obtain ⟨x0, x1, x2, hne2⟩ := HX2.out
        unfold rF1 at x0
        unfold rF2 at x1
        unfold rF3 at x2
        go_wp2_with fail
        refine HSP.out.mono ?_
        rintro e w3 ⟨⟨q3, hq3, rfl, hdr3, h3⟩, hg3⟩
        have HX3 := hide (HX2.out.go hg3)
        have HG3 := hide (HG2.out.trans hg3)
        obtain ⟨ds, hds⟩ : ∃ ds : ByteArray, ds = ⟨(r.takeWhile digU).toArray⟩ := ⟨_, rfl⟩
        have hdl : ds.data.toList = r.takeWhile digU := by rw [hds]
        rw [← hds]
        have hdz : ds.size ≤ 3000 := by
          have e1 : ds.size = ds.data.toList.length := by simp
          rw [e1, hdl]
          have h1 := (List.takeWhile_sublist (l := r) digU).length_le
          omega
        have hql : (s.data.toList.drop q3).length ≤ r.length := by
          rw [← hdr3]
          exact (List.dropWhile_suffix digU).length_le
        have hqq : q < q3 := by
          rw [List.length_drop] at hql
          have e3 : s.data.toList.length = s.size := by simp
          omega
        have HDC := hide (decimal_any ds w3 (by omega))
        rw [hdl] at HDC
        unfold numR at HDC
        rw [hdr3] at HRES2
        have HNL : Hid (okNum (r.takeWhile digU) = true → numU (r.takeWhile digU) ≤ 9999) := fun h => num_le h
        clear x0 x1 x2 hg3 HX2 HG2 HSP hds hdl hdz hdr3
        generalize okNum (r.takeWhile digU) = okn at *
        generalize numU (r.takeWhile digU) = nn at *
        have HPL3 := hide (place_eq h3.cells.2.1)
        have H3 := hide h3
        clear h3
        cases okn
        · have HP : Hid (res = none) := by show _ = _; rw [HRES2.out]; rfl
          simp only [Bool.false_eq_true, if_false] at HDC
          have HSA := hide (show Calls Tryd.prog 39 #[x.val, .int .i64 0] w3 fun e w' => e = .returned x.val ∧ Below w3.heap.size w3 w' from succA0_any 0 x w3 (by omega))
          rw [HVX.out] at HSA
          go_wp2_with fail
          refine HDC.out.mono ?_
          rintro e w4 ⟨rfl, hw⟩
          have hw := hw.symm
          subst hw
          go_wp2_with fail
          refine HSA.out.mono ?_
          rintro e w5 ⟨rfl, hb5⟩
          have HR5 := hide (H3.out.keep hb5)
          have HG5 := hide ((grown_of hb5).but (some ba))
          have HPL5 := hide (place_eq HR5.out.cells.2.1)
          clear hb5
          go_wp2_with fail
          go_roundw
          case rel => exact ⟨false, q3, rfl, HR5, .inr ⟨rfl, .inr ⟨_, _, rfl⟩, HP.out⟩, HX3.out.go HG5.out, HG3.out.trans HG5.out⟩
          case measure => rw [HPL.out, HPL5.out]; omega
        · have hnn := HNL.out rfl
          simp only [if_true] at HDC
          have HP : Hid (res = pPlus m' (sA0 nn x) (s.data.toList.drop q3)) := by show _ = _; rw [HRES2.out]; rfl
          have HSA := hide (succA0_any nn x w3 (by omega))
          obtain ⟨Ty, vy, hvy⟩ := (sA0 nn x).val_iface
          have HVY := hide hvy
          rw [HVX.out, hvy] at HSA
          clear hvy
          go_wp2_with fail
          refine HDC.out.mono ?_
          rintro e w4 ⟨rfl, hw⟩
          have hw := hw.symm
          subst hw
          go_wp2_with fail
          refine HSA.out.mono ?_
          rintro e w5 ⟨rfl, hb5⟩
          have HR5 := hide (H3.out.keep hb5)
          have HG5 := hide ((grown_of hb5).but (some ba))
          have HPL5 := hide (place_eq HR5.out.cells.2.1)
          clear hb5
          go_wp2_with fail
          go_roundw
          case rel => exact ⟨true, q3, rfl, HR5, .inl ⟨rfl, sA0 nn x, m', HVY.out.symm, by omega, HP.out, by rw [sA0_cnt]; omega⟩, HX3.out.go HG5.out, HG3.out.trans HG5.out⟩
          case measure => rw [HPL.out, HPL5.out]; omega
      · have HP : Hid (res = some (x, s.data.toList.drop q)) := by
          show _ = _
          rw [HRES.out]
          obtain ⟨m', rfl⟩ : ∃ m', m = m' + 1 := ⟨m - 1, by omega⟩
          cases hd : s.data.toList.drop q with
          | nil => rfl
          | cons c r =>
            simp only [pPlus]
            rw [if_neg (fun e => hno r (by rw [hd, e]))]
        have H2 := hide h2
        clear hno h2
        go_wp2_with fail
        refine bodyPost_ret (results_tmp2 Tryd.results25 _ _ _) rfl ⟨by rw [HP.out]; exact ⟨q, by rw [HVX.out]; rfl, H2.out, rfl⟩, HG2.out⟩
    · have HP := hide hres
      have HV := hide hv
      clear hres hv
      go_wp2_with fail
      refine bodyPost_ret (results_tmp2 Tryd.results25 _ _ _) rfl ⟨by rw [HP.out]; exact ⟨_, q, HV.out, rfl, HR.out⟩, HG.out⟩
/-- What the program's readLevel answers. -/
theorem lev_any (bt ba bf : Nat) (s : ByteArray) (hs : s.size ≤ 3000) : ∀ L : Nat, LevAt bt ba bf s L
  | 0 => fun _ _ h _ => absurd h (Nat.not_lt_zero _)
  | L + 1 => fun w p h hr => lev_step bt ba bf s hs L (lev_any bt ba bf s hs L) w p (Nat.le_of_lt_succ h) hr
end Go.Proofs.YtlmhpdmgjfankaaDoor

/- The program's readerOf: a reader at the first place of a text. -/
namespace Go.Proofs.YtlmhpdmgjfankaaDoor
open Go.ChangeShapes Go.WideShapes Go.ChangeAt Go.RowKit

theorem run_store_fn (P : Program) (w : World) (a : Addr) (m : Mode) (fn : Fn) (x y : Array Value) : (store a (.func fn x y) m).run P w = stored P w a (.func fn x y) m := run_store P w a _ m rfl
theorem four_blocks (w : World) (o0 o1 o2 o3 : Obj) :
    ((((w.alloc o0).alloc o1).alloc o2).alloc o3).heap[w.heap.size]? = some o0 ∧ ((((w.alloc o0).alloc o1).alloc o2).alloc o3).heap[w.heap.size + 1]? = some o1 ∧ ((((w.alloc o0).alloc o1).alloc o2).alloc o3).heap[w.heap.size + 1 + 1]? = some o2 ∧ ((((w.alloc o0).alloc o1).alloc o2).alloc o3).heap[w.heap.size + 1 + 1 + 1]? = some o3 ∧ Below w.heap.size w ((((w.alloc o0).alloc o1).alloc o2).alloc o3) := by
  have h0 := heap_alloc_new w o0
  have h1 := heap_alloc_new (w.alloc o0) o1
  have h2 := heap_alloc_new ((w.alloc o0).alloc o1) o2
  have h3 := heap_alloc_new (((w.alloc o0).alloc o1).alloc o2) o3
  refine ⟨((bel_alloc (bel_alloc (bel_alloc (Below.refl _ (w.alloc o0)) _) _) _).block _ (by simp)).trans h0, ((bel_alloc (bel_alloc (Below.refl _ ((w.alloc o0).alloc o1)) _) _).block _ (by simp)).trans (by simpa using h1), ((bel_alloc (Below.refl _ (((w.alloc o0).alloc o1).alloc o2)) _).block _ (by simp)).trans (by simpa using h2), by simpa using h3, bel_alloc (bel_alloc (bel_alloc (bel_alloc (Below.refl _ _) _) _) _) _⟩

attribute [local go_sem] run_store_fn
set_option maxRecDepth 20000 in
set_option maxHeartbeats 8000000 in
theorem readerOf_any (s : ByteArray) (w : World) : Calls Tryd.prog 24 #[.string s] w fun e w' => ∃ bt ba bf, e = .returned (rV bt ba bf) ∧ RdI bt ba bf s 0 w' ∧ Below w.heap.size w w' ∧ w.heap.size ≤ ba := by
  go_enter Tryd.func24, Tryd.ntmps24
  go_wp2_with fail
  have hb := four_blocks w (.cells #[.string s] 9) (.cells #[rF1 (w.heap.size + 1 + 1) w.heap.size, rF2 w.heap.size (w.heap.size + 1 + 1) (w.heap.size + 1 + 1 + 1), rF3 w.heap.size (w.heap.size + 1 + 1) (w.heap.size + 1 + 1 + 1)] 56) (.cells #[.int .i64 0] 3) (.cells #[rF1 (w.heap.size + 1 + 1) w.heap.size] 42)
  refine bodyPost_ret (v := rV w.heap.size (w.heap.size + 1 + 1) (w.heap.size + 1 + 1 + 1)) (by unfold rV rF1 rF2 rF3; simp [results, go_sem]) rfl ⟨_, _, _, rfl, ⟨hb.1, hb.2.2.1, hb.2.2.2.1, Nat.zero_le _, by omega, by omega⟩, hb.2.2.2.2, by omega⟩
end Go.Proofs.YtlmhpdmgjfankaaDoor
