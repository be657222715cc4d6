/- The law FnSpaced, walked. -/
import Derived.Test.YtmdcdapjjodpiaaDoorWla
namespace Go.Proofs.YtmdcdapjjodpiaaDoor
open Go.ChangeShapes Go.WideShapes Go.ChangeAt Go.RowKit

set_option maxRecDepth 20000 in
set_option maxHeartbeats 3000000 in
theorem sp_walk (v : Value) (T0 : ByteArray) (w : World) (h : BytesV w v T0) (htab : Tabs w) :
    Calls Tryd.prog 3 #[v] w fun e w' => e = .returned (.bool true) ∧ Below w.heap.size w w' := by
  have HV := hide h
  have HT := hide htab
  obtain ⟨i0, hi0, hz0, hz1, hz2⟩ := info_parts Tryd.info5
  obtain ⟨a, cap, rfl, hcap, hcm, hb⟩ := h
  unfold maxLen at hcm
  clear hb htab
  by_cases hbig : (1048576 : Int) < T0.size
  · go_enter Tryd.func3, Tryd.ntmps3
    go_wp2_with fail
    go_ret
    exact ⟨rfl, Below.refl _ _⟩
  go_enter Tryd.func3, Tryd.ntmps3
  go_upto_region 4 with (first
    | (go_at_call 4; refine (drawTokens_any _ T0 _ HV.out).mono ?_; rintro e w1 ⟨v1, T, rfl, ht1, ⟨b1, c1, rfl⟩, hTz, hb1⟩; have HV1 := hide ht1; have HB1 := hide hb1; clear ht1 hb1)
    | fail)
  obtain ⟨R, hR⟩ : ∃ R, R = tokens T := ⟨_, rfl⟩
  have htl := tokens_len T
  have hts := tokens_size T
  rw [← hR] at htl hts
  obtain ⟨ts, cd, of⟩ := R
  have htl : ts.length ≤ 20000 := htl
  have HTS : Hid (∀ tk ∈ ts, tk.s.size ≤ 20000 ∧ tk.n ≤ 999) := hts
  have HRE := hide hR.symm
  clear hR hts
  go_upto_region 5 with (first
    | (go_at_call 5; refine (specTokens_any _ T _ HV1.out).mono ?_; rw [HRE.out]; rintro e w2 ⟨v2, rfl, hr2, hb2⟩; have HR2 := hide (show TkRow _ w2 v2 ts from hr2); have HB2 := hide hb2; have HW2 := hide (bel_trans HB1.out hb2); clear hr2 hb2)
    | fail)
  have bcd : ((cd : Int) != (cd : Int)) = false := by simp
  have HO3 : Hid ((w2.alloc (.cells #[] 5)).ownsRow w2.heap.size 5 1 (.slice (some ⟨w2.heap.size, 0, none⟩) 0 0) 0 []) := World.ownsRow_made _ _ _ (Nat.le_refl _) (by unfold maxLen; omega) rfl
  have HB3 : Hid (Below w2.heap.size w2 (w2.alloc (.cells #[] 5))) := bel_alloc (Below.refl _ _) _
  have HV3 := hide ((HV1.out.keep HB2.out).keep HB3.out)
  obtain ⟨aa, cc, hva, hc1, hc2, hbb⟩ := HV3.out
  simp only [Value.slice.injEq, true_and] at hva
  obtain ⟨rfl, rfl⟩ := hva
  have hnews : ∀ j u, (bC T.data.toList)[j]? = some u → (w2.alloc (.cells #[] 5)).cell? ((⟨b1, 0, none⟩ : Addr).add j) = some u := by
    intro j u hu
    have hj : j < T.size := by
      have := (List.getElem?_eq_some_iff.1 hu).1
      unfold bC at this
      rw [List.length_map, Array.length_toList] at this
      exact this
    obtain ⟨b9, o9, hb9, hc9⟩ := hbb (by omega)
    simp only [Option.some.injEq, Addr.mk.injEq] at hb9
    obtain ⟨rfl, rfl, _⟩ := hb9
    rw [bC_get _ j (by simpa using hj), get_data T j hj] at hu
    rw [Addr.add_lit, hc9 j hj]
    exact hu
  have HNEWS := hide hnews
  clear hnews hbb
  go_upto_region 6 with (first
    | (at_builtin; refine wpList_append_own _ rfl _ _ 22 rfl w2.heap.size 5 i0 (.int .u8 0) 1 1 Tryd.underlying22 hi0 hz0 hz1 hz2 rfl (by decide) _ 0 [] rfl HO3.out ⟨b1, 0, none⟩ T.size c1 (bC T.data.toList) rfl (by unfold bC; rw [List.length_map, Array.length_toList, Nat.mul_one]; rfl) HNEWS.out ?c1 (by unfold maxLen; omega) (by omega) (by simp) ?_)
    | fail)
  case c1 => intro u hu; unfold bC at hu; obtain ⟨c, _, rfl⟩ := List.mem_map.1 hu; rfl
  intro v5 w5 hown5 hgrow5 _
  have HV5 := hide (own_bytesV (T := T) hown5)
  have HB5 := hide (HB3.out.grown hgrow5 (by simp) (fun k hk => (HO3.out.lt k hk).1))
  have HW5 := hide (bel_trans HW2.out HB5.out)
  clear hown5 hgrow5
  go_upto_region 6 with (first
    | (go_at_call 6; refine (implTokens_any _ T _ HV5.out (HT.out.keep HW5.out)).mono ?_; rw [HRE.out]; rintro e w6 ⟨v6, rfl, hr6, hb6⟩; have HR6 := hide (show TkRow _ w6 v6 ts from hr6); have HC6 := hide (bel_trans HB5.out hb6); have HW6 := hide (bel_trans HW5.out hb6); clear hr6 hb6)
    | fail)
  have HA6 := hide (show TokensAt w6 v2 ts from (TkRow.at HR2.out).keep HC6.out)
  go_upto_region 8 with (first
    | (go_at_call 7; refine (eqTokenS_any _ _ ts _ (TkRow.at HR6.out) HA6.out htl).mono ?_; rintro e w7 ⟨rfl, hb7⟩; have HC7 := hide (bel_trans HC6.out hb7); have HW7 := hide (bel_trans HW6.out hb7); clear hb7)
    | fail)
  have HA7 := hide (show TokensAt w7 v2 ts from (TkRow.at HR2.out).keep HC7.out)
  obtain ⟨a2, cap2, rfl, _⟩ := HA7.out
  have HO8 : Hid ((w7.alloc (.cells #[] 5)).ownsRow w7.heap.size 5 1 (.slice (some ⟨w7.heap.size, 0, none⟩) 0 0) 0 []) := World.ownsRow_made _ _ _ (Nat.le_refl _) (by unfold maxLen; omega) rfl
  have HB8 : Hid (Below w7.heap.size w7 (w7.alloc (.cells #[] 5))) := bel_alloc (Below.refl _ _) _
  clear hc1 hc2 HNEWS HO3 HB3 HV3
  go_wp2_with fail
  go_loopw [10, 11] (fun lv iv wr => ∃ j : Nat, j ≤ ts.length ∧ iv = .int .i64 j ∧ Hid (wr.ownsRow w7.heap.size 5 1 lv (lineB (ts.take j)).length (bC (lineB (ts.take j)))) ∧ Hid (Below w7.heap.size w7 wr)) (fun _ iv _ => ts.length - (intOf iv).toNat)
  case atStart => exact ⟨0, by omega, rfl, HO8.out, HB8.out⟩
  case round =>
    obtain ⟨j, hj, rfl, HO, HB⟩ := hrel
    by_cases hlt : j < ts.length
    · have hlt' : (j : Int) < ts.length := by omega
      obtain ⟨b2, z2, e2, c2⟩ := HA7.out.keep HB.out
      simp only [Value.slice.injEq, true_and] at e2
      obtain ⟨rfl, rfl⟩ := e2
      obtain ⟨g2, rfl, d2⟩ := c2 (by omega)
      obtain ⟨x0, x1, x2, x3⟩ := d2 j hlt
      clear c2 d2
      obtain ⟨tk, htk⟩ : ∃ tk, tk = ts[j] := ⟨_, rfl⟩
      obtain ⟨hs20, hn9⟩ := HTS.out tk (by rw [htk]; exact List.getElem_mem hlt)
      have HTK := hide htk
      have HPZ := hide (piece_size hs20)
      rw [← htk] at x0 x1 x2 x3
      obtain ⟨K, S, N, P⟩ := tk
      dsimp only at x0 x1 x2 x3 hs20 hn9
      clear htk x3
      go_upto_if 62 with fail
      go_cut [12] from 46 to 94 (fun u wx => u = .string (pieceB ⟨K, S, N, P⟩) ∧ Hid (Below wr.heap.size wr wx))
      case first =>
        by_cases k2 : K = 2
        · have k2b : ((K : Int) == 2) = true := by simp [k2]
          have HP : Hid (pieceB ⟨K, S, N, P⟩ = dig3 N) := by show _ = _; unfold pieceB; rw [if_pos k2]
          clear k2
          go_upto_region 14 with fail
          have hcv := dig_raw hn9 wr
          go_region_with (fail)
          all_goals
            go_wp2_with fail
            go_meet
            exact ⟨by rw [HP.out], (bel_alloc (Below.refl _ _) _).drew⟩
        · have k2b : ((K : Int) == 2) = false := by simp; omega
          have HP : Hid (pieceB ⟨K, S, N, P⟩ = S) := by show _ = _; unfold pieceB; rw [if_neg k2]
          clear k2
          go_wp2_with fail
          go_meet
          exact ⟨by rw [HP.out], Below.refl _ _⟩
      case rest =>
        obtain ⟨rfl, HX⟩ := hcut
        obtain ⟨S2, hS2⟩ : ∃ S2, S2 = pieceB ⟨K, S, N, P⟩ ++ (⟨#[32]⟩ : ByteArray) := ⟨_, rfl⟩
        have hSz : S2.size = (pieceB ⟨K, S, N, P⟩).size + 1 := by rw [hS2, ByteArray.size_append]; rfl
        have hSd : S2.data.toList = (pieceB ⟨K, S, N, P⟩).data.toList ++ [32] := by rw [hS2, ByteArray.data_append, Array.toList_append]
        have hp20 := HPZ.out

        have z1 := strAdd (pieceB ⟨K, S, N, P⟩) ⟨#[32]⟩ (by show _ + 1 ≤ _; omega)
        rw [← hS2] at z1
        have hcs := conv_str S2
        have hSN : (bC S2.data.toList).length = S2.size * 1 := by unfold bC; rw [List.length_map, Array.length_toList, Nat.mul_one]; rfl
        have HO9 := hide (row_keep (Go.Joins.below_bytesWorld wc.heap.size wc 5 S2 (Nat.le_refl _)) (row_keep HX.out HO.out))
        have HB9 := hide (bel_trans (bel_trans HB.out HX.out) (Go.Joins.below_bytesWorld wc.heap.size wc 5 S2 (Nat.le_refl _)))
        have hlz := HB9.out.size
        have hlen : (lineB (ts.take j)).length ≤ 20000 * 20001 := by
          have h1 := lineB_len (ts := ts.take j) (fun x hx => (HTS.out x (List.mem_of_mem_take hx)).1)
          have h2 : (ts.take j).length ≤ 20000 := by rw [List.length_take]; omega
          exact Nat.le_trans h1 (Nat.mul_le_mul_right _ h2)
        have HNW : Hid (∀ q u, (bC S2.data.toList)[q]? = some u → (Lib.bytesWorld wc 5 S2).cell? ((⟨wc.heap.size, 0, none⟩ : Addr).add q) = some u) := by
          intro q u hu
          have hq : q < S2.size := by
            have := (List.getElem?_eq_some_iff.1 hu).1
            rw [hSN] at this
            omega
          rw [bC_get _ q (by simpa using hq), get_data S2 q hq] at hu
          rw [Addr.add_lit, conv_bytes S2 wc q hq]
          exact hu
        have HSD := hide hSd
        have HSZ := hide hSz
        have hS3 : S2.size ≤ 20001 := by omega
        clear hS2 hSd hSz
        go_wp2_with (first
          | (at_builtin; refine wpList_append_own _ rfl _ _ 22 rfl w7.heap.size 5 i0 (.int .u8 0) 1 1 Tryd.underlying22 hi0 hz0 hz1 hz2 rfl (by decide) _ _ _ rfl HO9.out ⟨wc.heap.size, 0, none⟩ S2.size (grownCap wc S2.size 0 5) (bC S2.data.toList) rfl hSN HNW.out ?c1 (by unfold maxLen; omega) (by omega) hlz ?_)
          | fail)
        case c1 => intro u hu; unfold bC at hu; obtain ⟨c, _, rfl⟩ := List.mem_map.1 hu; rfl
        intro v9 w9 hown9 hgrow9 _
        have hnew : lineB (ts.take (j + 1)) = lineB (ts.take j) ++ S2.data.toList := by
          rw [← List.take_append_getElem hlt, ← HTK.out, lineB_snoc, HSD.out]
        have HO10 : Hid (w9.ownsRow w7.heap.size 5 1 v9 (lineB (ts.take (j + 1))).length (bC (lineB (ts.take (j + 1))))) := by
          have e1 : (lineB (ts.take (j + 1))).length = (lineB (ts.take j)).length + S2.size := by rw [hnew, List.length_append]; rfl
          have e2 : bC (lineB (ts.take (j + 1))) = bC (lineB (ts.take j)) ++ bC S2.data.toList := by rw [hnew]; unfold bC; rw [List.map_append]
          show w9.ownsRow w7.heap.size 5 1 v9 _ _
          rw [e1, e2]
          exact hown9
        have HB10 := hide (HB9.out.grown hgrow9 hlz (fun k hk => (HO9.out.lt k hk).1))
        clear hown9 hgrow9 hnew
        go_wp2_with fail
        go_roundw
        case rel => exact ⟨j + 1, by omega, by go_num, HO10.out, HB10.out⟩
        case measure => simp [intOf]; omega
    · have hlt' : ¬ (j : Int) < ts.length := by omega
      have hje : j = ts.length := by omega
      subst hje
      rw [List.take_of_length_le (Nat.le_refl _)] at HO
      have HOL := HO
      obtain ⟨a3, cap3, rfl, h31, h32, _⟩ := own_cells HO.out
      have HWr := hide (bel_trans HW7.out HB.out)
      by_cases hc : cd = 0
      · by_cases hbl : (20000 : Int) < (lineB ts).length
        · have hc2 : ((cd : Int) != 0) = false := by simp [hc]
          clear hc
          go_wp2_with fail
          go_ret
          exact ⟨rfl, HWr.out⟩
        · have hc2 : ((cd : Int) != 0) = false := by simp [hc]
          clear hc
          obtain ⟨ts', ht1, ht2, ht3⟩ := line_tokens T ts (by rw [HRE.out]) (by omega)
          have HT1 := hide ht1
          have HAL := hide ht3
          clear ht1 ht3
          have HVL : Hid (BytesV wr (.slice a3 (lineB ts).length cap3) ⟨(lineB ts).toArray⟩) := own_bytesV (T := ⟨(lineB ts).toArray⟩) HOL.out
          go_upto_region 19 with (first
            | (go_at_call 6; refine (implTokens_any _ ⟨(lineB ts).toArray⟩ _ HVL.out (HT.out.keep HWr.out)).mono ?_; rw [HT1.out]; rintro e w9 ⟨v9, rfl, hr9, hb9⟩; have HR9 := hide (show TokensAt w9 v9 ts' from TkRow.at hr9); have HB9 := hide hb9; have HW9 := hide (bel_trans HWr.out hb9); clear hr9 hb9)
            | fail)
          have HA9 := hide ((HA7.out.keep HB.out).keep HB9.out)
          obtain ⟨a4, cap4, hv4, _⟩ := HR9.out
          rw [ht2] at hv4
          subst hv4
          have hll : ((ts.length : Int) != (ts.length : Int)) = false := by simp
          go_wp2_with fail
          go_loopw [16] (fun iv ws => ∃ k : Nat, k ≤ ts.length ∧ iv = .int .i64 k ∧ Hid (Below w9.heap.size w9 ws)) (fun iv _ => ts.length - (intOf iv).toNat)
          case atStart => exact ⟨0, by omega, rfl, Below.refl _ _⟩
          case round =>
            obtain ⟨k, hk, rfl, HBk⟩ := hrel
            by_cases hkl : k < ts.length
            · have hkl' : (k : Int) < ts.length := by omega
              obtain ⟨b5, z5, e5, c5⟩ := HR9.out.keep HBk.out
              obtain ⟨b6, z6, e6, c6⟩ := HA9.out.keep HBk.out
              simp only [Value.slice.injEq, true_and] at e6
              rw [ht2] at e5
              simp only [Value.slice.injEq, true_and] at e5
              obtain ⟨rfl, rfl⟩ := e5
              obtain ⟨rfl, rfl⟩ := e6
              obtain ⟨g5, rfl, d5⟩ := c5 (by omega)
              obtain ⟨g6, rfl, d6⟩ := c6 (by omega)
              obtain ⟨x0, x1, x2, x3⟩ := d5 k (by omega)
              obtain ⟨y0, y1, y2, y3⟩ := d6 k hkl
              obtain ⟨l0, l1, l2⟩ := HAL.out k hkl (by omega)
              rw [l0] at x0
              rw [l1] at x1
              rw [l2] at x2
              clear c5 c6 d5 d6 x3 y3 l0 l1 l2
              generalize (ts[k].k : Int) = K at *
              generalize ts[k].s = S at *
              generalize (ts[k].n : Int) = N at *
              go_upto_region 24 with fail
              go_quiet (fail)
              go_wp2_with fail
              go_roundw
              case rel => exact ⟨k + 1, by omega, by go_num, below_drewN HBk.out _⟩
              case measure => simp [intOf]; omega
            · have hkl' : ¬ (k : Int) < ts.length := by omega
              go_wp2_with fail
              go_ret
              exact ⟨rfl, bel_trans HW9.out HBk.out⟩
      · have hc2 : ((cd : Int) != 0) = true := by simp; omega
        clear hc
        go_wp2_with fail
        go_ret
        exact ⟨rfl, HWr.out⟩
end Go.Proofs.YtmdcdapjjodpiaaDoor
