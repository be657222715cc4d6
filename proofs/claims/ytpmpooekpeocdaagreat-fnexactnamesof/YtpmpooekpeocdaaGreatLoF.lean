/- The program's LevelsOf, upon what the library's Sort and Compact at []string answer (SortS: to be had from the shelf). -/
import Derived.Test.YtpmpooekpeocdaaGreatStrT
import Derived.Test.YtpmpooekpeocdaaGreatTSpD
import Derived.Sort.OwnSorted
namespace Go.Proofs.YtpmpooekpeocdaaGreat
open Go.ChangeShapes Go.WideShapes Go.ChangeAt Go.RowKit Go.Sort

/-- What is wanted of slices.Sort and slices.Compact at []string. -/
structure SortS : Prop where
  sortN : ∀ (p : Option Addr) (cap : Nat) (w : World), Calls Tryz.prog 155 #[.slice p 0 cap] w fun e w' => e = .returned (.tuple #[]) ∧ w' = w
  sort : ∀ (blk off cap : Nat) (zs : List (List UInt8)) (w : World), Holds encStr w blk off zs.toArray → blk < w.heap.size → zs.length < 4611686018427387904 →
    Calls Tryz.prog 155 #[.slice (some ⟨blk, off, none⟩) zs.length cap] w fun e w' => e = .returned (.tuple #[]) ∧ ∃ n os, w' = grow (putRow encStr (Sort.ahead w n) blk off (zs.mergeSort fun x y => decide (x ≤ y)).toArray) os
  compN : ∀ (p : Option Addr) (cap : Nat) (w : World), Calls Tryz.prog 156 #[.slice p 0 cap] w fun e w' => e = .returned (.slice p 0 cap) ∧ w' = w
  comp : ∀ (blk off cap : Nat) (zs : List (List UInt8)) (w : World), Holds encStr w blk off zs.toArray → zs.length ≤ 9223372036854775807 → zs.length ≤ cap →
    Calls Tryz.prog 156 #[.slice (some ⟨blk, off, none⟩) zs.length cap] w fun e w' => e = .returned (.slice (some ⟨blk, off, none⟩) (Lib.compact zs).length cap) ∧ ∃ q, w' = putRow encStr (Sort.ahead w q) blk off (Lib.compact zs ++ List.replicate (zs.length - (Lib.compact zs).length) []).toArray

theorem enc_kk (l : List ByteArray) : (l.map kk).map encStr = l.map Value.string := by
  rw [List.map_map]
  exact List.map_congr_left (fun a _ => congrArg Value.string (bb_kk a))
theorem sortOwnS (S : SortS) (base : Nat) (v : Value) (m : List (List UInt8)) (w : World) (h : w.ownsRow base 9 1 v m.length (m.map encStr)) (hl : m.length < 1000000) :
    Calls Tryz.prog 155 #[v] w fun e w' => e = .returned (.tuple #[]) ∧ w'.ownsRow base 9 1 v m.length ((m.mergeSort fun x y => decide (x ≤ y)).map encStr) ∧ w.grownBy w' v.ownBlock := by
  rcases h.2 with ⟨h', hx⟩ | ⟨g, cap, cur, rfl, hb, hg, hnc, hcm, hcs, htake⟩
  · have h0 : m = [] := by
      obtain ⟨h1, _⟩ := h
      first
        | simpa using hx
        | (subst h'; simpa using hx)
    subst h0
    subst h'
    refine (S.sortN _ _ _).mono ?_
    rintro e w' ⟨rfl, rfl⟩
    exact ⟨rfl, by simpa using h, grown_of (Below.refl _ _)⟩
  · refine (S.sort g 0 cap m w (holds_of_block hg (by simpa using htake)) (Array.getElem?_eq_some_iff.1 hg).1 (by omega)).mono ?_
    rintro e w' ⟨rfl, n, os, rfl⟩
    exact ⟨rfl, ownsRow_sorted (by simp) hb hg hnc hcm hcs, grownBy_sorted _⟩
theorem compactL_len (m : List (List UInt8)) : (Lib.compact m).length ≤ m.length := by
  unfold Lib.compact Lib.compactUpTo
  rw [List.length_map]
  exact Nat.le_trans (List.length_filter_le _ _) (by simp)
theorem compOwnS (S : SortS) (base : Nat) (v : Value) (m : List (List UInt8)) (w : World) (h : w.ownsRow base 9 1 v m.length (m.map encStr)) (hl : m.length < 1000000) :
    Calls Tryz.prog 156 #[v] w fun e w' => ∃ v', e = .returned v' ∧ w'.ownsRow base 9 1 v' (Lib.compact m).length ((Lib.compact m).map encStr) ∧ w.grownBy w' v.ownBlock := by
  rcases h.2 with ⟨h', hx⟩ | ⟨g, cap, cur, rfl, hb, hg, hnc, hcm, hcs, htake⟩
  · have h0 : m = [] := by simpa using hx
    subst h0
    subst h'
    refine (S.compN _ _ _).mono ?_
    rintro e w' ⟨rfl, rfl⟩
    exact ⟨_, rfl, by have h := World.ownsRow_nil w' base 9 1; simpa [Lib.compact, Lib.compactUpTo] using h, grown_of (Below.refl _ _)⟩
  · refine (S.comp g 0 cap m w (holds_of_block hg (by simpa using htake)) (by omega) hnc).mono ?_
    rintro e w' ⟨rfl, q, rfl⟩
    have hcl := compactL_len m
    generalize hc : Lib.compact m = c at *
    have hlen : (c ++ List.replicate (m.length - c.length) []).length = m.length := by simp; omega
    have e1 : putRow encStr (Sort.ahead w q) g 0 (c ++ List.replicate (m.length - c.length) []).toArray = grow (putRow encStr (Sort.ahead w q) g 0 (c ++ List.replicate (m.length - c.length) []).toArray) #[] := by
      simp [grow]; rfl
    rw [e1]
    have ho := ownsRow_sorted (w := w) (base := base) (g := g) (cap := cap) (n := q) (e := 9) (os := #[]) (cur := cur) (ss := m) (ts := c ++ List.replicate (m.length - c.length) []) hlen hb hg hnc hcm hcs
    have hc2 := ownsRow_cut ho c.length (by omega)
    refine ⟨_, rfl, ?_, grownBy_sorted _⟩
    rw [List.map_append, List.take_left' (by simp)] at hc2
    exact hc2
theorem levsN_take (ts : List Td) (k : Nat) (h : k < ts.length) : levsN (ts.take (k + 1)) = levsN (ts.take k) ++ lvN ts[k] := flatS_take lvN ts k h

set_option maxRecDepth 20000 in
set_option maxHeartbeats 8000000 in
theorem implLevs_any (S : SortS) (v : Value) (ts : List Td) (w : World) (hns : TNodesAt w v ts) (hsz : ∀ td ∈ ts, TLens td) :
    Calls Tryz.prog 115 #[.agg #[v]] w fun e w' => (∃ v', e = .returned v' ∧ OwnS w.heap.size w' v' (levsA ts)) ∧ Below w.heap.size w w' := by
  obtain ⟨i3, hi3, hz3, hs3, hb3⟩ := info_parts Tryz.info9
  have HN := hide hns
  obtain ⟨a, cap, rfl, hl, hm, hc⟩ := hns
  unfold maxLen at hm
  have H : Hid (0 < ts.length → ∃ b off, a = some ⟨b, off, none⟩ ∧ ∀ i (h : i < ts.length), TNodeAt w b (off + i * 6) ts[i]) := hc
  obtain ⟨W, hW⟩ : ∃ W, W = w.alloc (.cells #[.slice a ts.length cap] 33) := ⟨_, rfl⟩
  have HBW := hide (show Below w.heap.size w W by rw [hW]; exact bel_alloc (Below.refl _ _) _)
  have hbox : W.cell? ⟨w.heap.size, 0, none⟩ = some (.slice a ts.length cap) := by rw [hW]; simp [go_sem]
  have HT := hide (implTermOk_any _ ts W (HN.out.keep HBW.out) hsz)
  clear hc hsz
  go_enter Tryz.func115, Tryz.ntmps115
  go_wp2_with fail
  rw [← hW]
  clear hW
  refine HT.out.mono ?_
  rintro e w1 ⟨rfl, hb1⟩
  have hbox1 := keep_cell hb1 hbox
  have HB1 := hide (bel_trans HBW.out hb1)
  clear HT hbox hb1
  cases ht : termB ts
  · have HF : Hid (levsA ts = []) := by show _ = _; unfold levsA; rw [if_neg (by rw [ht]; decide)]
    clear ht
    go_wp2_with fail
    go_ret
    exact ⟨⟨_, rfl, by rw [HF.out]; exact World.ownsRow_nil _ _ _ _⟩, HB1.out⟩
  have HF : Hid (levsA ts = levsT ts) := by show _ = _; unfold levsA; rw [if_pos ht]
  have HSMALL := hide (lo_lv_small ht)
  have HLN := hide (lvN_le ht)
  have HCH := hide (compact_levs ht)
  have hlen : ts.length ≤ 20000 := by unfold termB termB' at ht; simp at ht; exact ht.1
  clear ht
  go_wp2_with fail
  go_loopw [3, 14] (fun o ii wr => ∃ (k : Nat) (m : List ByteArray), k ≤ ts.length ∧ ii = .int .i64 k ∧ m.length ≤ 36 * k ∧ Hid (m = levsN (ts.take k)) ∧ Hid (OwnS w.heap.size wr o m) ∧ Hid (Below w.heap.size w wr)) (fun _ ii _ => ts.length - (intOf ii).toNat)
  case atStart => exact ⟨0, [], by omega, rfl, by simp, hide (by simp [levsN]), World.ownsRow_nil _ _ _ _, HB1.out⟩
  case round =>
    obtain ⟨k, m, hk, rfl, hmk, HM, HO, HB⟩ := hrel
    have hbs := HB.out.size
    obtain ⟨oa, oc, hov⟩ := row_form HO.out
    subst hov
    by_cases hlt : k < ts.length
    · obtain ⟨b, off, rfl, hc⟩ := H.out (by omega)
      obtain ⟨c1, c2, c3, c4, lv, c5, hlv0, kv, c6, hkv0⟩ := hc k hlt
      have c1 := keep_cell HB.out c1
      have c2 := keep_cell HB.out c2
      have c3 := keep_cell HB.out c3
      have c4 := keep_cell HB.out c4
      have c5 := keep_cell HB.out c5
      have c6 := keep_cell HB.out c6
      have HLV := hide hlv0
      obtain ⟨ka, kc, rfl, _, _, _⟩ := hkv0
      obtain ⟨la, lc, rfl, hll, hlm, hlc⟩ := hlv0
      have HLC := hide hlc
      unfold maxLen at hlm
      have HNX := hide (levsN_take ts k hlt)
      have HQ1 := hide (show k + 1 ≤ ts.length from hlt)
      have hsm := HSMALL.out ts[k] (List.getElem_mem hlt)
      have hln := HLN.out ts[k] (List.getElem_mem hlt)
      clear hc H hlc
      generalize ts[k] = td at *
      obtain ⟨hlv6, hnm⟩ := hsm
      have HNM := hide hnm
      clear hnm
      have hlt' : (k : Int) < ts.length := by omega
      obtain ⟨W2, hW2⟩ : ∃ W2, W2 = wr.alloc (.cells #[.int .i64 td.k, .int .i64 td.n, .int .i64 td.m, .string td.s, .slice la td.lv.length lc, .slice ka td.kids.length kc] 166) := ⟨_, rfl⟩
      have hbg : Hid (Below wr.heap.size wr W2) := by show Below _ _ _; rw [hW2]; exact bel_alloc (Below.refl _ _) _
      have d4 : W2.cell? ⟨wr.heap.size, 4, none⟩ = some (.slice la td.lv.length lc) := by rw [hW2]; simp [go_sem]
      have HB2 := hide (bel_trans HB.out hbg.out)
      have HO2 := hide (HO.out.keep hbg.out)
      go_upto_region 7 with fail
      rw [← hW2]
      clear hW2 hbg c1 c2 c3 c4 c5 c6 HO HB hbs
      go_wp2_with fail
      go_loopw [3, 21] (fun o ii wr2 => ∃ (q : Nat) (m2 : List ByteArray), q ≤ td.lv.length ∧ ii = .int .i64 q ∧ m2.length ≤ m.length + 6 * q ∧ Hid (m2 = m ++ (td.lv.take q).flatMap namesOf) ∧ Hid (OwnS w.heap.size wr2 o m2) ∧ Hid (Below w.heap.size w wr2)) (fun _ ii _ => td.lv.length - (intOf ii).toNat)
      case atStart => exact ⟨0, m, by omega, rfl, by omega, hide (by simp), HO2, HB2⟩
      case round =>
        clear HO2 HB2 d4
        rename World => W3
        obtain ⟨q, m2, hq, rfl, hm2, HM2, HO3, HB3⟩ := hrel
        have hbs3 := HB3.out.size
        obtain ⟨oa3, oc3, hov⟩ := row_form HO3.out
        subst hov
        by_cases hql : q < td.lv.length
        · have hql' : (q : Int) < td.lv.length := by omega
          obtain ⟨lb, lo, rfl, hlc⟩ := HLC.out (by omega)
          obtain ⟨u, d1, hu⟩ := hlc q hql
          have d1 := keep_cell HB3.out d1
          have HU := hide (hu.keep HB3.out)
          obtain ⟨ua, uc, rfl, _, _, _⟩ := hu
          obtain ⟨hl64, hn6⟩ := HNM.out td.lv[q] (List.getElem_mem hql)
          have HM3 : Hid (m2 ++ namesOf td.lv[q] = m ++ (td.lv.take (q + 1)).flatMap namesOf) := by show _ = _; rw [flatS_take namesOf td.lv q hql, HM2.out, List.append_assoc]
          have HQ2 := hide (show q + 1 ≤ td.lv.length from hql)
          clear hlc HM2
          generalize td.lv[q] = l at *
          obtain ⟨W4, hW4⟩ : ∃ W4, W4 = W3.alloc (.cells #[.slice ua l.length uc] 200) := ⟨_, rfl⟩
          have hb34 : Below W3.heap.size W3 W4 := by rw [hW4]; exact bel_alloc (Below.refl _ _) _
          have HB4 := hide (bel_trans HB3.out hb34)
          have HO4 := hide (HO3.out.keep hb34)
          have HLP := hide (levelParams_any (.slice ua l.length uc) l W4 (HU.out.keep hb34) hl64)
          have d7 : W4.cell? ⟨W3.heap.size, 0, none⟩ = some (.slice ua l.length uc) := by rw [hW4]; simp [go_sem]
          obtain ⟨nm, hnm⟩ : ∃ nm, nm = namesOf l := ⟨_, rfl⟩
          rw [← hnm] at HLP HM3 hn6
          clear hnm hb34
          go_upto_region 10 with fail
          rw [← hW4]
          clear hW4
          by_cases h0 : nm.length = 0
          · have HNIL := hide (List.eq_nil_of_length_eq_zero h0)
            have HCAP := hide (show m2.length ≤ oc3 from by
              rcases HO4.out.2 with ⟨e1, e2⟩ | ⟨g, cp, cu, e1, _, _, e3, _⟩
              · injection e1 with _ e4 e5; omega
              · injection e1 with _ e4 e5; omega)
            have HZ0 := hide h0
            clear h0
            go_wp2_with fail
            refine HLP.out.mono ?_
            rintro e w5 ⟨v5, rfl, hs5, hb5⟩
            obtain ⟨a5, c5, rfl, _, _, _⟩ := hs5
            have HB5 := hide (bel_trans HB4.out hb5)
            have HO5 := hide (HO4.out.keep hb5)
            clear hb5
            rw [HZ0.out]
            go_wp2_with (at_builtin; refine wpList_append_none rfl _ _ 22 rfl 9 i3 Tryz.underlying22 hi3 oa3 m2.length oc3 HCAP.out a5 c5 rfl rfl ?_)
            have HM4 : Hid (m2 = m ++ (td.lv.take (q + 1)).flatMap namesOf) := by show _ = _; rw [← HM3.out, HNIL.out, List.append_nil]
            go_wp2_with fail
            go_roundw
            case rel => exact ⟨q + 1, m2, HQ2.out, by go_num, by omega, HM4, HO5, HB5⟩
            case measure => have := HQ2.out; simp [intOf]; omega
          · go_wp2_with fail
            refine HLP.out.mono ?_
            rintro e w5 ⟨v5, rfl, hs5, hb5⟩
            obtain ⟨a5, c5, rfl, h51, h52, h53⟩ := hs5
            obtain ⟨b5, o5, rfl, h54⟩ := h53 (by omega)
            have HN5 := hide (news_strs (l := nm) h54)
            have HB5 := hide (bel_trans HB4.out hb5)
            have HO5 := hide (HO4.out.keep hb5)
            have hbs5 := HB5.out.size
            clear hb5 h53 h54
            go_wp2_with (at_builtin; refine wpList_append_lies _ rfl _ _ 22 rfl w.heap.size 9 i3 (.string ⟨#[]⟩) 1 16 Tryz.underlying22 hi3 hz3 hs3 hb3 rfl (by omega) (.slice oa3 m2.length oc3) m2.length _ rfl HO5.out ⟨b5, o5, none⟩ nm.length c5 (nm.map Value.string) rfl (by simp) HN5.out (news_oneS _) (by omega) (by unfold maxLen; omega) (by omega) (by omega) _ rfl ?_)
            intro g6 cap6 w6 hown6 hgrow6 hat6 hlt6
            have HB6 := hide ((HB5.out).grown hgrow6 (by omega) (fun k hk => (World.ownsRow.lt HO5.out k hk).1))
            have HO6 : Hid (OwnS w.heap.size w6 (.slice (some ⟨g6, 0, none⟩) (m2.length + nm.length) cap6) (m2 ++ nm)) := by
              have h := hown6
              show OwnS _ _ _ _
              unfold OwnS
              rw [List.length_append, List.map_append]
              exact h
            clear hown6 hgrow6 hat6
            go_wp2_with fail
            go_roundw
            case rel => exact ⟨q + 1, m2 ++ nm, HQ2.out, by go_num, by simp; omega, HM3, HO6, HB6⟩
            case measure => have := HQ2.out; simp [intOf]; omega
        · have hql' : ¬ (q : Int) < td.lv.length := by omega
          have HE : Hid (m2 = levsN (ts.take (k + 1))) := by show _ = _; rw [HM2.out, List.take_of_length_le (by omega), HNX.out, HM.out]; rfl
          go_wp2_with fail
          go_roundw
          case rel => exact ⟨k + 1, m2, HQ1.out, by go_num, by omega, HE, HO3, HB3⟩
          case measure => have := HQ1.out; simp [intOf]; omega
    · have hlt' : ¬ (k : Int) < ts.length := by omega
      have HE : Hid (m = levsN ts) := by show _ = _; rw [HM.out, List.take_of_length_le (by omega)]
      have HML : Hid ((m.map kk).length < 1000000) := by show _ < _; rw [List.length_map]; omega
      have HOK : Hid (wr.ownsRow w.heap.size 9 1 (.slice oa m.length oc) (m.map kk).length ((m.map kk).map encStr)) := by show wr.ownsRow _ _ _ _ _ _; rw [enc_kk, List.length_map]; exact HO.out
      have HS1 := hide (sortOwnS S w.heap.size _ (m.map kk) wr HOK.out HML.out)
      obtain ⟨zs, hzs⟩ : ∃ zs, zs = (m.map kk).mergeSort fun x y => decide (x ≤ y) := ⟨_, rfl⟩
      have HSL : Hid (zs.length = (m.map kk).length) := by show _ = _; rw [hzs]; simp
      have HCM : Hid (Lib.compact zs = (levsT ts).map kk) := by show _ = _; rw [hzs, HE.out]; exact HCH.out
      rw [← hzs] at HS1
      clear hzs
      go_wp2_with (go_at_call 155; refine HS1.out.mono ?_; rintro e w3 ⟨rfl, ho3, hg3⟩)
      have HB3 := hide ((HB.out).grown hg3 (by omega) (fun k hk => (World.ownsRow.lt HO.out k hk).1))
      have HO3 : Hid (w3.ownsRow w.heap.size 9 1 (.slice oa m.length oc) zs.length (zs.map encStr)) := by show w3.ownsRow _ _ _ _ _ _; rw [HSL.out]; exact ho3
      have HS2 := hide (compOwnS S w.heap.size _ zs w3 HO3.out (by rw [HSL.out]; exact HML.out))
      have hb3s := HB3.out.size
      clear ho3 hg3 HS1
      go_wp2_with (go_at_call 156; refine HS2.out.mono ?_; rintro e w4 ⟨v4, rfl, hi4, hg4⟩)
      have HB4 := hide ((HB3.out).grown hg4 (by omega) (fun k hk => (World.ownsRow.lt HO3.out k hk).1))
      have HI4 : Hid (OwnS w.heap.size w4 v4 (levsT ts)) := by
        show OwnS _ _ _ _
        unfold OwnS
        have h := hi4
        rw [HCM.out, enc_kk, List.length_map] at h
        exact h
      obtain ⟨a4, c4, rfl⟩ := row_form hi4
      clear hg4 HS2
      go_wp2_with fail
      go_ret
      exact ⟨⟨_, rfl, by rw [HF.out]; exact HI4.out⟩, HB4.out⟩
end Go.Proofs.YtpmpooekpeocdaaGreat
