/- The law of the least numbers, walked. -/
import Derived.Test.YteedainidoldoaaSxE
namespace Go.Proofs.Yteedainidoldoaa
open Go.ChangeShapes Go.WideShapes Go.ChangeAt Go.RowKit

theorem set_less {n : Int} {cs : List Cn} {r1 r2 : List Int} (h : solS n cs = (r1, r2, true)) {j : Nat} (hj : j < r1.length) : meetsB (r1.set j (r1[j] - 1)) cs = false := by
  cases hm : meetsB (r1.set j (r1[j] - 1)) cs with
  | false => rfl
  | true =>
    have h1 := (sol_true h).2.2.2.2.2 _ (by simp) hm j hj
    simp [List.getD, hj] at h1
    omega
theorem fits_in {M : Int} {ks : List Int} (h : In0 M ks) (hM : M ≤ 1000000000) : Fits ks := fun k hk => by
  have := h k hk
  omega
theorem fits_set {ks : List Int} (h : Fits ks) (j : Nat) (v : Int) (h1 : -9223372036854775808 ≤ v) (h2 : v ≤ 9223372036854775807) : Fits (ks.set j v) := fun k hk => by
  rcases List.mem_or_eq_of_mem_set hk with h3 | rfl
  · exact h k h3
  · exact ⟨h1, h2⟩
theorem small_set {os : List Int} (h : In0 6 os) {x : Int} (h0 : 0 ≤ x) (h1 : x ≤ 6) : In0 6 (os ++ [x]) := fun k hk => by
  rcases List.mem_append.1 hk with h2 | h2
  · exact h k h2
  · simp at h2
    omega
set_option maxRecDepth 100000 in
set_option maxHeartbeats 8000000 in
theorem least_walk (a : Option Addr) (n cap : Nat) (w : World) (h : CodeAt w a n) (hn : n ≤ cap) (hc : cap ≤ maxLen) :
    Calls Try.prog 4 #[.slice a n cap] w fun e w' => e = .returned (.bool true) ∧ Below w.heap.size w w' := by
  obtain ⟨i42, hi42, hz42, hs42, hb42⟩ := info_parts Try.info42
  obtain ⟨i3, hi3, hz3, hs3, hb3⟩ := info_parts Try.info3
  have HC := hide h
  have HDR := hide (drawSolve_any a n cap w h hn hc)
  unfold maxLen at hc
  clear h
  by_cases hbig : 1048576 < n
  · have d1 : decide (1048576 < (n : Int)) = true := by simp; omega
    go_enter Try.func4, Try.ntmps4
    go_wp2_with fail
    go_ret
    exact ⟨rfl, Below.refl _ _⟩
  have d1 : decide (1048576 < (n : Int)) = false := by simp; omega
  go_enter Try.func4, Try.ntmps4
  go_wp2_with fail
  refine HDR.out.mono ?_
  rintro e w1 ⟨k, v, cs, rfl, hcs, hl1, hl12, hb1⟩
  have HB1 := hide hb1
  have HCS := hide hcs
  have HSP := hide (fun v W (h : ConsAt W v cs) => specSolve2 k v cs W h)
  have HIM := hide (fun v W (h : ConsAt W v cs) => implSolve_any k v cs W h)
  obtain ⟨⟨r1, r2, b⟩, hr⟩ : ∃ r, solS k cs = r := ⟨_, rfl⟩
  rw [hr] at HSP HIM
  have HS := hide hr
  clear hr hb1 HDR
  obtain ⟨av, cv, rfl, hvc, hvm, hvx⟩ := hcs
  obtain ⟨bv, ov, rfl, hvy⟩ := hvx (by omega)
  have HVX := hide hvy
  unfold maxLen at hvm
  clear hvx hvy
  go_wp2_with fail
  refine (HSP.out _ _ HCS.out).mono ?_
  rintro e w2 ⟨v1, v2, rfl, hs1, hs2, hb2⟩
  have HB2 := hide hb2
  have HCS2 := hide (HCS.out.keep hb2)
  have HF2 := hide (flatC_cells (w := w2.alloc (.cells #[] 42)) (b := bv) (off := ov) (cs := cs) (fun i hi => ((HVX.out i hi).keep hb2).keep (bel_alloc (Below.refl _ _) _)))
  have HO2 : Hid ((w2.alloc (.cells #[] 42)).ownsRow w2.heap.size 42 3 (.slice (some ⟨w2.heap.size, 0, none⟩) 0 0) 0 []) := ⟨rfl, .inr ⟨w2.heap.size, 0, #[], rfl, Nat.le_refl _, heap_alloc_new _ _, Nat.le_refl _, Nat.zero_le _, rfl, rfl⟩⟩
  have HBA : Hid (Below w2.heap.size w2 (w2.alloc (.cells #[] 42))) := bel_alloc (Below.refl _ _) _
  clear hs1 hs2 hb2
  go_wp2_with (first
    | (at_builtin; refine wpList_append_lies _ rfl _ _ 27 rfl w2.heap.size 42 i42 (.agg #[.int .i64 0, .int .i64 0, .int .i64 0]) 3 24 Try.underlying27 hi42 hz42 hs42 hb42 rfl (by omega) (.slice (some ⟨w2.heap.size, 0, none⟩) 0 0) 0 [] rfl HO2.out ⟨bv, ov, none⟩ cs.length cv (flatC cs) rfl (flatC_len cs) HF2.out (flatC_one cs) (by omega) (by unfold maxLen; omega) (by omega) HBA.out.size _ rfl ?_)
    | fail)
  intro g3 c3 w3 hown3 hgrow3 hat3 hlt3
  have HX3 : Hid (ConsAt w3 (.slice (some ⟨g3, 0, none⟩) cs.length c3) cs) := ConsIn.all hown3 rfl (flatC_in cs)
  have HB3 : Hid (Below w1.heap.size w1 w3) := HB2.out.trans ((HBA.out.grown hgrow3 (by have := HBA.out.size; omega) (fun z hz => by cases hz; exact Nat.le_refl _)).mono HB2.out.size)
  clear hown3 hgrow3 hat3 hlt3 HF2 HO2 HBA HCS2 HVX HB2
  go_wp2_with fail
  refine (HIM.out _ _ HX3.out).mono ?_
  rintro e w4 ⟨u1, u2, rfl, hu1, hu2, hb4⟩
  have HU4 : Hid (IntsAt w4 u1 r1) := OwI.at hu1
  have HB4 := hide (bel_trans HB3.out hb4)
  have HC4 := hide (HCS.out.keep HB4.out)
  clear hu1 hu2 hb4 HX3 HB3 HSP HIM
  cases b with
  | false =>
    go_wp2_with fail
    go_ret
    exact ⟨rfl, bel_trans HB1.out HB4.out⟩
  | true =>
    obtain ⟨hok, rfl, hin, hmt, hr2, hle⟩ := sol_true HS.out
    have HM : Hid (meetsB r1 cs = true) := hmt
    have HIN := hide hin
    have HFT := hide (fits_in hin (by omega))
    have HLE := hide hle
    have hl30 : r1.length ≤ 30 := by have := (consB_yes hok).1; omega
    clear hok hin hmt hr2 hle
    have HU4' := HU4.out
    obtain ⟨ua, uc, rfl, huc, hum, hux⟩ := HU4'
    have HUX := hide hux
    unfold maxLen at hum
    clear hux
    have hself : ((r1.length : Int) != (r1.length : Int)) = false := by simp
    go_wp2_with (first
      | (go_at_call 16; refine (implMeets_any _ _ r1 cs _ HU4.out HC4.out HFT.out).mono ?_; rintro e w5 ⟨rfl, hb5⟩; rw [HM.out]; have HB5 := hide (bel_trans HB4.out hb5); have HU5 := hide (HU4.out.keep hb5); have HC5 := hide (HC4.out.keep hb5); clear hb5)
      | (go_at_call 17; refine (specMeets_any _ _ r1 cs _ HU5.out HC5.out HFT.out).mono ?_; rintro e w6 ⟨rfl, hb6⟩; rw [HM.out]; have HB6 := hide (bel_trans HB5.out hb6); have HU6 := hide (HU5.out.keep hb6); have HC6 := hide (HC5.out.keep hb6); clear hb6)
      | fail)
    clear HU4 HC4 HU5 HC5 HB4 HB5 HM
    have HSL := hide (fun j (hj : j < r1.length) => set_less HS.out hj)
    have HU6c : Hid (∀ W, Below w6.heap.size w6 W → 0 < r1.length → ∃ b off, ua = some ⟨b, off, none⟩ ∧ ∀ j (h : j < r1.length), W.cell? ⟨b, off + j, none⟩ = some (.int .i64 r1[j])) := by
      show ∀ W, _
      intro W hW h0
      obtain ⟨a', c', e', _, _, hx⟩ := HU6.out.keep hW
      cases e'
      exact hx h0
    go_loopw [11] (fun iv wr => ∃ j : Nat, j ≤ r1.length ∧ iv = .int .i64 j ∧ Hid (Below w6.heap.size w6 wr)) (fun iv _ => r1.length - (intOf iv).toNat)
    case atStart => exact ⟨0, by omega, rfl, Below.refl _ _⟩
    case round =>
      obtain ⟨j, hj, rfl, HB⟩ := hrel
      by_cases hlt : j < r1.length
      · have hlt' : (j : Int) < (r1.length : Int) := by omega
        obtain ⟨ub, uo, rfl, hux⟩ := HU6c.out wr HB.out (by omega)
        have HF := hide (ints_cells (w := wr.alloc (.cells #[] 3)) (b := ub) (off := uo) (ks := r1) (fun i hi => keep_cell (bel_alloc (Below.refl _ _) _) (hux i hi)))
        have HO : Hid ((wr.alloc (.cells #[] 3)).ownsRow wr.heap.size 3 1 (.slice (some ⟨wr.heap.size, 0, none⟩) 0 0) 0 []) := ⟨rfl, .inr ⟨wr.heap.size, 0, #[], rfl, Nat.le_refl _, heap_alloc_new _ _, Nat.le_refl _, Nat.zero_le _, rfl, rfl⟩⟩
        have HBA : Hid (Below wr.heap.size wr (wr.alloc (.cells #[] 3))) := bel_alloc (Below.refl _ _) _
        have hq0 := (HIN.out r1[j] (List.getElem_mem hlt)).1
        have hq1 := (HIN.out r1[j] (List.getElem_mem hlt)).2
        have HMF := hide (HSL.out j hlt)
        have HFS := hide (fits_set HFT.out j (r1[j] - 1) (by omega) (by omega))
        clear hux
        go_upto_region 14 with (first
          | (at_builtin; refine wpList_append_lies _ rfl _ _ 24 rfl wr.heap.size 3 i3 (.int .i64 0) 1 8 Try.underlying24 hi3 hz3 hs3 hb3 rfl (by omega) (.slice (some ⟨wr.heap.size, 0, none⟩) 0 0) 0 [] rfl HO.out ⟨ub, uo, none⟩ r1.length uc (r1.map (Value.int .i64)) rfl (by simp) HF.out (ints_one r1) (by omega) (by unfold maxLen; omega) (by omega) HBA.out.size _ rfl ?_; intro g7 c7 w7 hown7 hgrow7 hat7 hlt7)
          | fail)
        rw [Nat.zero_add] at hown7
        simp only [List.nil_append] at hown7
        have HOWN := hide hown7
        have HB7 : Hid (Below wr.heap.size wr w7) := HBA.out.grown hgrow7 (by have := HBA.out.size; omega) (fun z hz => by cases hz; exact Nat.le_refl _)
        have hg7 := (World.ownsRow.lt hown7 g7 rfl).1
        have d7 : w7.cell? ⟨g7, j, none⟩ = some (.int .i64 r1[j]) := by
          rw [hown7.cellAt j (by simpa using hlt)]
          rw [List.getElem?_map, List.getElem?_eq_getElem hlt]
          rfl
        have f7 := hown7.frozenAt j
        have HST : Hid (IntsAt (w7.setCell ⟨g7, j, none⟩ (.int .i64 (r1[j] - 1))) (.slice (some ⟨g7, 0, none⟩) r1.length c7) (r1.set j (r1[j] - 1))) := by
          show IntsAt _ _ _
          have h8 := (hown7.stored j (.int .i64 (r1[j] - 1))).1
          rw [← List.map_set] at h8
          exact row_ints0 h8 (by simp)
        have HB8 : Hid (Below wr.heap.size wr (w7.setCell ⟨g7, j, none⟩ (.int .i64 (r1[j] - 1)))) := HB7.out.setCell (p := ⟨_, _, _⟩) hg7 _
        have HC8 := hide ((HC6.out.keep HB.out).keep HB8.out)
        clear hown7 hgrow7 hat7 hlt7 HF HO HBA HB7 HOWN
        generalize r1[j] = qv at *
        go_wp2_with (first
          | (go_at_call 16; refine (implMeets_any _ _ _ cs _ HST.out HC8.out HFS.out).mono ?_; rintro e w9 ⟨rfl, hb9⟩; rw [HMF.out]; have HB9 : Hid (Below w6.heap.size w6 w9) := HB.out.trans ((bel_trans HB8.out hb9).mono HB.out.size); clear hb9)
          | fail)
        go_roundw
        case rel => exact ⟨j + 1, by omega, by go_num, HB9⟩
        case measure => simp [intOf]; omega
      · have hjl : j = r1.length := by omega
        subst hjl
        go_wp2_with fail
        clear hj HSL
        have HBw : Hid (Below w.heap.size w wr) := bel_trans HB1.out ((HB6.out.trans (HB.out.mono HB6.out.size)))
        have HU := hide (HU6.out.keep HB.out)
        have HCC := hide (HC6.out.keep HB.out)
        have HCD := hide (HC.out.keep HBw.out)
        clear HU6 HC6 HB HU6c HB6 HB1 HC HCS
        generalize wr = wo at *
        go_loopw [13, 14] (fun ov iv wr => ∃ (j : Nat) (v : Value) (os : List Int), iv = .int .i64 j ∧ v = ov ∧ j ≤ r1.length ∧ Hid (os.length = j) ∧ Hid (OwI wo.heap.size wr v os) ∧ Hid (In0 6 os) ∧ Hid (Below wo.heap.size wo wr)) (fun _ iv _ => r1.length - (intOf iv).toNat)
        case atStart => exact ⟨0, _, [], rfl, rfl, by omega, rfl, ⟨rfl, .inr ⟨wo.heap.size, 0, #[], rfl, Nat.le_refl _, heap_alloc_new _ _, Nat.le_refl _, Nat.zero_le _, rfl, rfl⟩⟩, fun k hk => by simp at hk, bel_alloc (Below.refl _ _) _⟩
        case round =>
          obtain ⟨j, v, os, rfl, rfl, hj, HJ, HV, HI, HB⟩ := hrel
          by_cases hlt : j < r1.length
          · have hlt' : (j : Int) < (r1.length : Int) := by omega
            go_upto_if 95 with fail
            go_cut [15] from 87 to 105 (fun s wx => ∃ x : Int, s = .int .i64 x ∧ 0 ≤ x ∧ x ≤ 6 ∧ wr = wx)
            case first =>
              by_cases hcn : j < n
              · have hcn' : (j : Int) < (n : Int) := by omega
                obtain ⟨qb, qo, rfl, hq⟩ := (HCD.out.keep HB.out) (by omega)
                obtain ⟨q, hq1, hq2, hq3⟩ := hq j hcn
                have hwq : IntKind.i64.wrap q = q := by rw [IntKind.wrap_i64]; omega
                clear hq
                go_wp2_with fail
                go_meet
                exact ⟨_, rfl, by omega, by omega, rfl⟩
              · have hcn' : ¬ (j : Int) < (n : Int) := by omega
                go_wp2_with fail
                go_meet
                exact ⟨0, rfl, by omega, by omega, rfl⟩
            case rest =>
              obtain ⟨x, rfl, hx0, hx1, rfl⟩ := hcut
              have hss := HB.out.size
              go_wp2_with (first
                | (at_builtin; refine wpList_append_lies _ rfl _ _ 24 rfl wo.heap.size 3 i3 (.int .i64 0) 1 8 Try.underlying24 hi3 hz3 hs3 hb3 rfl (by omega) v j (os.map (Value.int .i64)) rfl (by have h := HV.out; unfold OwI at h; rw [HJ.out] at h; exact h.alloc _) ⟨wr.heap.size, 0, none⟩ 1 1 [.int .i64 x] rfl rfl (cell_one_new _ _ _) (by intro u hu; simp at hu; rcases hu with rfl; rfl) (by omega) (by unfold maxLen; omega) (by omega) (by simp; omega) _ rfl ?_)
                | fail)
              intro g7 c7 w7 hown7 hgrow7 hat7 hlt7
              have HV7 : Hid (OwI wo.heap.size w7 (.slice (some ⟨g7, 0, none⟩) (j + 1) c7) (os ++ [x])) := by
                show World.ownsRow _ _ _ _ _ _ _
                rw [List.length_append, HJ.out, List.map_append]
                exact hown7
              have HB7 : Hid (Below wo.heap.size wo w7) := (HB.out.alloc HB.out.size _).grown hgrow7 (by simp; omega) (fun z hz => (World.ownsRow.lt HV.out z hz).1)
              have HJ7 : Hid ((os ++ [x]).length = j + 1) := by show _ = _; rw [List.length_append, HJ.out]; rfl
              have HI7 := hide (small_set HI.out hx0 hx1)
              clear hown7 hgrow7 hat7 hlt7 HV HB HJ HI
              go_wp2_with fail
              go_roundw
              case rel => exact ⟨j + 1, _, _, by go_num, rfl, by omega, HJ7, HV7, HI7, HB7⟩
              case measure => simp [intOf]; omega
          · have hjl : j = r1.length := by omega
            have HLE2 : Hid (meetsB os cs = true → ∀ i (h : i < r1.length), r1[i] ≤ os.getD i 0) := fun hm i hi => by
              have := HLE.out os (by rw [HJ.out]; exact hjl) hm i hi
              rw [List.getD_eq_getElem?_getD, List.getElem?_eq_getElem hi] at this
              exact this
            subst hjl
            have HFO := hide (fits_in HI.out (by omega))
            have HUr := hide (HU.out.keep HB.out)
            have HCr := hide (HCC.out.keep HB.out)
            have HIO := hide (OwI.at HV.out)
            obtain ⟨va, vc, rfl⟩ : ∃ va vc, v = .slice va r1.length vc := by
              obtain ⟨va, vc, e, _, _, _⟩ := HIO.out
              rw [HJ.out] at e
              exact ⟨va, vc, e⟩
            clear hj HU HCC HCD HV
            go_wp2_with (first
              | (go_at_call 17; refine (specMeets_any _ _ os cs _ HIO.out HCr.out HFO.out).mono ?_; rintro e w7 ⟨rfl, hb7⟩; have HB7 := hide (bel_trans HB.out hb7); have HI7 := hide (HIO.out.keep hb7); have HU7 := hide (HUr.out.keep hb7); clear hb7 HIO HUr HB HCr; generalize meetsB os cs = mb at *)
              | fail)
            · have hmb : mb = true := by assumption
              have HL := hide (HLE2.out hmb)
              clear HLE2
              subst hmb
              go_loopw [16] (fun iv wr => ∃ j : Nat, j ≤ r1.length ∧ iv = .int .i64 j ∧ Hid (Below w7.heap.size w7 wr)) (fun iv _ => r1.length - (intOf iv).toNat)
              case atStart => exact ⟨0, by omega, rfl, Below.refl _ _⟩
              case round =>
                obtain ⟨j, hj, rfl, HB⟩ := hrel
                by_cases hlt : j < r1.length
                · have hlt' : (j : Int) < (r1.length : Int) := by omega
                  have hlo : j < os.length := by rw [HJ.out]; exact hlt
                  obtain ⟨a1, b1, e1, _, _, hx1⟩ := HI7.out.keep HB.out
                  obtain ⟨a2, b2, e2, _, _, hx2⟩ := HU7.out.keep HB.out
                  obtain ⟨xb, xo, rfl, hy1⟩ := hx1 (by omega)
                  obtain ⟨yb, yo, rfl, hy2⟩ := hx2 (by omega)
                  obtain ⟨rfl, _, _⟩ : va = some ⟨xb, xo, none⟩ ∧ True ∧ True := by simp at e1; exact ⟨e1.1, trivial, trivial⟩
                  obtain ⟨rfl, _, _⟩ : ua = some ⟨yb, yo, none⟩ ∧ True ∧ True := by simp at e2; exact ⟨e2.1, trivial, trivial⟩
                  have d1 := hy1 j hlo
                  have d2 := hy2 j hlt
                  have hge := HL.out j hlt
                  rw [List.getD_eq_getElem?_getD, List.getElem?_eq_getElem hlo, Option.getD_some] at hge
                  clear hx1 hx2 hy1 hy2 e1 e2
                  generalize os[j] = p at *
                  generalize r1[j] = q at *
                  have hge' : ¬ p < q := by omega
                  go_wp2_with fail
                  go_region
                  go_wp2_with fail
                  go_roundw
                  case rel => exact ⟨j + 1, by omega, by go_num, HB.out.drew⟩
                  case measure => simp [intOf]; omega
                · have hjl : j = r1.length := by omega
                  subst hjl
                  go_wp2_with fail
                  go_ret
                  exact ⟨rfl, bel_trans HBw.out (bel_trans HB7.out HB.out)⟩
            · go_ret
              exact ⟨rfl, bel_trans HBw.out HB7.out⟩
end Go.Proofs.Yteedainidoldoaa
