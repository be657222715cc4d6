/- A sorted row, compacted: a rising row with the same members. Plain facts. -/
import Derived.Test.YtdbepifdmcjjpaaGreatHoE
import Derived.Lib.SlicesCompact
import Derived.Test.YtdbepifdmcjjpaaGreatTOk
import Derived.Sort.OwnSortedInts
namespace Go.Proofs.YtdbepifdmcjjpaaGreat

theorem compact_upto (l : List Int) (hs : l.Pairwise (fun a b => a ≤ b)) : ∀ m, m ≤ l.length → Rising (Lib.compactUpTo l.toArray m) ∧ (∀ x, x ∈ Lib.compactUpTo l.toArray m ↔ x ∈ l.take m)
  | 0, _ => by simp [Lib.compactUpTo, Rising]
  | m + 1, hm => by
    obtain ⟨h1, h2⟩ := compact_upto l hs m (by omega)
    have hml : m < l.length := by omega
    have hd : l.toArray[m]! = l[m] := by simp [hml]
    have hle : ∀ j (h : j < l.length), j ≤ m → l[j] ≤ l[m] := by
      intro j h hj
      rcases Nat.lt_or_eq_of_le hj with h3 | h3
      · exact List.pairwise_iff_getElem.1 hs j m h (by omega) h3
      · subst h3; exact Int.le_refl _
    rw [Lib.compactUpTo_succ, hd]
    have ht : l.take (m + 1) = l.take m ++ [l[m]] := List.take_succ_eq_append_getElem (by omega)
    by_cases hk : Lib.keeps l.toArray m = true
    · rw [if_pos hk]
      refine ⟨List.pairwise_append.2 ⟨h1, by simp, fun a ha b hb => ?_⟩, fun x => ?_⟩
      · rw [List.mem_singleton] at hb
        subst hb
        obtain ⟨j, hj, e⟩ := List.mem_iff_getElem.1 ((h2 a).1 ha)
        simp only [List.length_take] at hj
        rw [List.getElem_take] at e
        have hjm : j ≤ m - 1 := by omega
        have hm1 : m - 1 < l.length := by omega
        have h3 : a ≤ l[m - 1] := by
          rw [← e]
          rcases Nat.lt_or_eq_of_le hjm with h3 | h3
          · exact List.pairwise_iff_getElem.1 hs j (m - 1) (by omega) hm1 h3
          · subst h3; exact Int.le_refl _
        have h4 := hle (m - 1) hm1 (by omega)
        have h5 : l[m - 1] ≠ l[m] := by
          unfold Lib.keeps at hk
          have : m ≠ 0 := by omega
          simp [this, hml, hm1] at hk
          first | exact hk | exact fun h => hk h.symm
        omega
      · rw [List.mem_append, h2 x, ht, List.mem_append]
    · rw [if_neg hk, List.append_nil]
      refine ⟨h1, fun x => ?_⟩
      rw [h2 x, ht, List.mem_append]
      constructor
      · intro h; exact .inl h
      · rintro (h | h)
        · exact h
        · rw [List.mem_singleton] at h
          have h0 : m ≠ 0 := by
            intro h0; subst h0; exact hk (by simp [Lib.keeps])
          have hm1 : m - 1 < l.length := by omega
          have h5 : l[m - 1] = l[m] := by
            unfold Lib.keeps at hk
            simp [h0, hml, hm1] at hk
            first | exact hk | exact hk.symm
          rw [h, ← h5]
          exact List.mem_iff_getElem.2 ⟨m - 1, by simp; omega, by simp⟩
/-- The sorted row of the nodes' holes, compacted, is the rising row. -/
theorem compact_holes {ts : List Td} (ht : termB ts = true) : Lib.compact ((holesN ts).mergeSort fun x y => decide (x ≤ y)) = holesT ts := by
  have hs : ((holesN ts).mergeSort fun x y => decide (x ≤ y)).Pairwise (fun a b => a ≤ b) := by
    have h := List.pairwise_mergeSort (le := fun (x y : Int) => decide (x ≤ y)) (fun a b c => by simp; omega) (fun a b => by simp; omega) (holesN ts)
    exact h.imp (by simp)
  obtain ⟨h1, h2⟩ := compact_upto _ hs _ (Nat.le_refl _)
  refine rising_ext _ _ h1 (holesT_rising ts) (fun x => ?_)
  unfold Lib.compact
  rw [h2 x, List.take_length, holesT_mem ht, (List.mergeSort_perm _ _).mem_iff]
end Go.Proofs.YtdbepifdmcjjpaaGreat

/- The program's HolesOf, upon what the library's Sort and Compact at []int answer (SortC: to be had from the shelf). -/
namespace Go.Proofs.YtdbepifdmcjjpaaGreat
open Go.ChangeShapes Go.WideShapes Go.ChangeAt Go.RowKit Go.Sort

/-- What is wanted of slices.Sort and slices.Compact. -/
structure SortC : Prop where
  sortN : ∀ (p : Option Addr) (cap : Nat) (w : World), Calls Tryz.prog 28 #[.slice p 0 cap] w fun e w' => e = .returned (.tuple #[]) ∧ w' = w
  sort : ∀ (blk off cap : Nat) (zs : List Int) (w : World), Holds (Value.int .i64) w blk off zs.toArray → blk < w.heap.size → zs.length < 4611686018427387904 →
    Calls Tryz.prog 28 #[.slice (some ⟨blk, off, none⟩) zs.length cap] w fun e w' => e = .returned (.tuple #[]) ∧ ∃ n os, w' = grow (putRow (Value.int .i64) (Sort.ahead w n) blk off (zs.mergeSort fun x y => decide (x ≤ y)).toArray) os
  compN : ∀ (p : Option Addr) (cap : Nat) (w : World), Calls Tryz.prog 29 #[.slice p 0 cap] w fun e w' => e = .returned (.slice p 0 cap) ∧ w' = w
  comp : ∀ (blk off cap : Nat) (zs : List Int) (w : World), Holds (Value.int .i64) w blk off zs.toArray → zs.length ≤ 9223372036854775807 → zs.length ≤ cap →
    Calls Tryz.prog 29 #[.slice (some ⟨blk, off, none⟩) zs.length cap] w fun e w' => e = .returned (.slice (some ⟨blk, off, none⟩) (Lib.compact zs).length cap) ∧ ∃ q, w' = putRow (Value.int .i64) (Sort.ahead w q) blk off (Lib.compact zs ++ List.replicate (zs.length - (Lib.compact zs).length) 0).toArray

theorem sortOwn (S : SortC) (base : Nat) (v : Value) (m : List Int) (w : World) (h : w.ownsRow base 3 1 v m.length (m.map (Value.int .i64))) (hl : m.length < 1000000) :
    Calls Tryz.prog 28 #[v] w fun e w' => e = .returned (.tuple #[]) ∧ w'.ownsRow base 3 1 v m.length ((m.mergeSort fun x y => decide (x ≤ y)).map (Value.int .i64)) ∧ w.grownBy w' v.ownBlock := by
  rcases h.2 with ⟨h', hx⟩ | ⟨g, cap, cur, rfl, hb, hg, hnc, hcm, hcs, htake⟩
  · have h0 : m = [] := by
      obtain ⟨h1, _⟩ := h
      first
        | simpa using hx
        | (subst h'; simpa using hx)
    subst h0
    subst h'
    refine (S.sortN _ _ _).mono ?_
    rintro e w' ⟨rfl, rfl⟩
    exact ⟨rfl, by simpa using h, grown_of (Below.refl _ _)⟩
  · refine (S.sort g 0 cap m w (holds_of_blockI hg (by simpa using htake)) (Array.getElem?_eq_some_iff.1 hg).1 (by omega)).mono ?_
    rintro e w' ⟨rfl, n, os, rfl⟩
    exact ⟨rfl, ownsRow_sortedI (by simp) hb hg hnc hcm hcs, grownBy_sortedI _⟩
theorem compact_len (m : List Int) : (Lib.compact m).length ≤ m.length := by
  unfold Lib.compact Lib.compactUpTo
  rw [List.length_map]
  exact Nat.le_trans (List.length_filter_le _ _) (by simp)
theorem compOwn (S : SortC) (base : Nat) (v : Value) (m : List Int) (w : World) (h : w.ownsRow base 3 1 v m.length (m.map (Value.int .i64))) (hl : m.length < 1000000) :
    Calls Tryz.prog 29 #[v] w fun e w' => ∃ v', e = .returned v' ∧ OwnN base w' v' (Lib.compact m) ∧ w.grownBy w' v.ownBlock := by
  rcases h.2 with ⟨h', hx⟩ | ⟨g, cap, cur, rfl, hb, hg, hnc, hcm, hcs, htake⟩
  · have h0 : m = [] := by simpa using hx
    subst h0
    subst h'
    refine (S.compN _ _ _).mono ?_
    rintro e w' ⟨rfl, rfl⟩
    exact ⟨_, rfl, by have h := World.ownsRow_nil w' base 3 1; simpa [OwnN, Lib.compact, Lib.compactUpTo] using h, grown_of (Below.refl _ _)⟩
  · refine (S.comp g 0 cap m w (holds_of_blockI hg (by simpa using htake)) (by omega) hnc).mono ?_
    rintro e w' ⟨rfl, q, rfl⟩
    have hcl := compact_len m
    generalize hc : Lib.compact m = c at *
    have hlen : (c ++ List.replicate (m.length - c.length) 0).length = m.length := by simp; omega
    have e1 : putRow (Value.int .i64) (Sort.ahead w q) g 0 (c ++ List.replicate (m.length - c.length) 0).toArray = grow (putRow (Value.int .i64) (Sort.ahead w q) g 0 (c ++ List.replicate (m.length - c.length) 0).toArray) #[] := by
      simp [grow]; rfl
    rw [e1]
    have ho := ownsRow_sortedI (w := w) (base := base) (g := g) (cap := cap) (n := q) (e := 3) (os := #[]) (cur := cur) (ss := m) (ts := c ++ List.replicate (m.length - c.length) 0) hlen hb hg hnc hcm hcs
    have hc2 := ownsRow_cut ho c.length (by omega)
    refine ⟨_, rfl, ?_, grownBy_sortedI _⟩
    unfold OwnN
    rw [List.map_append, List.take_left' (by simp)] at hc2
    exact hc2

theorem holesN_take (ts : List Td) (k : Nat) (h : k < ts.length) : holesN (ts.take (k + 1)) = holesN (ts.take k) ++ (if ts[k].k = 9 then [ts[k].n] else []) := by
  unfold holesN
  rw [List.take_succ_eq_append_getElem h, List.filter_append, List.map_append]
  congr 1
  by_cases h9 : ts[k].k = 9 <;> simp [h9]
theorem holesN_len (ts : List Td) : (holesN ts).length ≤ ts.length := by
  unfold holesN
  rw [List.length_map]; exact List.length_filter_le _ _

set_option maxRecDepth 20000 in
set_option maxHeartbeats 4000000 in
theorem implHoles_any (S : SortC) (v : Value) (ts : List Td) (w : World) (hns : TNodesAt w v ts) (hsz : ∀ td ∈ ts, TLens td) :
    Calls Tryz.prog 9 #[.agg #[v]] w fun e w' => HoOut w.heap.size ts e w' ∧ Below w.heap.size w w' := by
  obtain ⟨i3, hi3, hz3, hs3, hb3⟩ := info_parts Tryz.info3
  have HN := hide hns
  obtain ⟨a, cap, rfl, hl, hm, hc⟩ := hns
  unfold maxLen at hm
  have H : Hid (0 < ts.length → ∃ b off, a = some ⟨b, off, none⟩ ∧ ∀ i (h : i < ts.length), TNodeAt w b (off + i * 6) ts[i]) := hc
  obtain ⟨W, hW⟩ : ∃ W, W = w.alloc (.cells #[.slice a ts.length cap] 30) := ⟨_, rfl⟩
  have HBW := hide (show Below w.heap.size w W by rw [hW]; exact bel_alloc (Below.refl _ _) _)
  have hbox : W.cell? ⟨w.heap.size, 0, none⟩ = some (.slice a ts.length cap) := by rw [hW]; simp [go_sem]
  have HT := hide (implTermOk_any _ ts W (HN.out.keep HBW.out) hsz)
  have HZ := hide (show w.heap.size < W.heap.size by rw [hW]; simp)
  clear hc hsz
  go_enter Tryz.func9, Tryz.ntmps9
  go_wp2_with fail
  rw [← hW]
  clear hW
  refine HT.out.mono ?_
  rintro e w1 ⟨rfl, hb1⟩
  have hbox1 := keep_cell hb1 hbox
  have HB1 := hide (bel_trans HBW.out hb1)
  clear HT hbox hb1
  cases ht : termB ts
  · have HF := hide ht
    clear ht
    go_wp2_with fail
    go_ret
    exact ⟨⟨_, rfl, .inl ⟨HF.out, World.ownsRow_nil _ _ _ _⟩⟩, HB1.out⟩
  have HF := hide ht
  have hlen : ts.length ≤ 20000 := by unfold termB termB' at ht; simp at ht; exact ht.1
  clear ht
  have HXM : Hid ((holesN ts).length < 1000000) := by have := holesN_len ts; show _ < _; omega
  go_wp2_with fail
  go_loopw [3, 12] (fun o ii wr => ∃ (k : Nat) (m : List Int), k ≤ ts.length ∧ ii = .int .i64 k ∧ m.length ≤ k ∧ Hid (m = holesN (ts.take k)) ∧ Hid (wr.ownsRow w.heap.size 3 1 o m.length (m.map (Value.int .i64))) ∧ Hid (Below w.heap.size w wr)) (fun _ ii _ => ts.length - (intOf ii).toNat)
  case atStart => exact ⟨0, [], by omega, rfl, by simp, hide (by simp [holesN]), World.ownsRow_nil _ _ _ _, HB1.out⟩
  case round =>
    obtain ⟨k, m, hk, rfl, hmk, HM, HO, HB⟩ := hrel
    have hbs := HB.out.size
    obtain ⟨oa, oc, hov⟩ := row_form HO.out
    subst hov
    by_cases hlt : k < ts.length
    · obtain ⟨b, off, rfl, hc⟩ := H.out (by omega)
      obtain ⟨c1, c2, c3, c4, lv, c5, hlv0, kv, c6, hkv0⟩ := hc k hlt
      have c1 := keep_cell HB.out c1
      have c2 := keep_cell HB.out c2
      have c3 := keep_cell HB.out c3
      have c4 := keep_cell HB.out c4
      have c5 := keep_cell HB.out c5
      have c6 := keep_cell HB.out c6
      obtain ⟨ka, kc, rfl, _, _, _⟩ := hkv0
      obtain ⟨la, lc, rfl, _, _, _⟩ := hlv0
      have HNX := hide (holesN_take ts k hlt)
      have HQ1 := hide (show k + 1 ≤ ts.length from hlt)
      clear hc H
      generalize ts[k] = td at *
      have hlt' : (k : Int) < ts.length := by omega
      have hbg : Hid (Below wr.heap.size wr (wr.alloc (.cells #[.int .i64 td.k, .int .i64 td.n, .int .i64 td.m, .string td.s, .slice la td.lv.length lc, .slice ka td.kids.length kc] 51))) := bel_alloc (Below.refl _ _) _
      have HB2 := hide (bel_trans HB.out hbg.out)
      have HO2 := hide (row_keep hbg.out HO.out)
      by_cases h9 : td.k = 9
      · have q9 : (td.k == 9) = true := by simp [h9]
        have HE : Hid (m ++ [td.n] = holesN (ts.take (k + 1))) := by show _ = _; rw [HNX.out, if_pos h9, HM.out]
        have HO3 := hide (HO2.out.alloc (.cells #[.int .i64 td.n] 3))
        have HB3 := hide (bel_alloc HB2.out (.cells #[.int .i64 td.n] 3))
        have HCN := hide (cell_one_new (wr.alloc (.cells #[.int .i64 td.k, .int .i64 td.n, .int .i64 td.m, .string td.s, .slice la td.lv.length lc, .slice ka td.kids.length kc] 51)) (.int .i64 td.n) 3)
        clear HNX h9 HM
        have HCM : Hid (∀ (j : Nat) (u : Value), [Value.int .i64 td.n][j]? = some u → ((wr.alloc (.cells #[.int .i64 td.k, .int .i64 td.n, .int .i64 td.m, .string td.s, .slice la td.lv.length lc, .slice ka td.kids.length kc] 51)).alloc (.cells #[.int .i64 td.n] 3)).cell? ((⟨wr.heap.size + 1, 0, none⟩ : Addr).add j) = some u) := fun j u h => by
          have h2 := HCN.out j u h
          rw [show (wr.alloc (.cells #[.int .i64 td.k, .int .i64 td.n, .int .i64 td.m, .string td.s, .slice la td.lv.length lc, .slice ka td.kids.length kc] 51)).heap.size = wr.heap.size + 1 from by simp] at h2
          exact h2
        go_wp2_with (at_builtin; refine wpList_append_lies _ rfl _ _ 26 rfl w.heap.size 3 i3 (.int .i64 0) 1 8 Tryz.underlying26 hi3 hz3 hs3 hb3 rfl (by omega) (.slice oa m.length oc) m.length _ rfl HO3.out ⟨wr.heap.size + 1, 0, none⟩ 1 1 [.int .i64 td.n] rfl rfl HCM.out (by intro u hu; simp at hu; subst hu; rfl) (by omega) (by unfold maxLen; omega) (by omega) (by simp; omega) _ rfl ?_)
        intro g4 cap4 w4 hown4 hgrow4 hat4 hlt4
        have HB5 := hide ((HB3.out).grown hgrow4 (by simp; omega) (fun k hk => (World.ownsRow.lt HO3.out k hk).1))
        have HO5 : Hid (w4.ownsRow w.heap.size 3 1 (.slice (some ⟨g4, 0, none⟩) (m.length + 1) cap4) (m ++ [td.n]).length ((m ++ [td.n]).map (Value.int .i64))) := by
          have h := hown4
          show w4.ownsRow _ _ _ _ _ _
          rw [show (m ++ [td.n]).length = m.length + 1 from by simp, List.map_append]
          exact h
        clear hown4 hgrow4 hat4
        go_wp2_with fail
        go_roundw
        case rel => exact ⟨k + 1, m ++ [td.n], HQ1.out, by go_num, by simp; omega, HE, HO5, HB5⟩
        case measure => have := HQ1.out; simp [intOf]; omega
      · have q9 : (td.k == 9) = false := by simp [h9]
        have HE : Hid (m = holesN (ts.take (k + 1))) := by show _ = _; rw [HNX.out, if_neg h9, HM.out]; simp
        clear HNX h9 HM
        go_wp2_with fail
        go_roundw
        case rel => exact ⟨k + 1, m, HQ1.out, by go_num, by omega, HE, HO2, HB2⟩
        case measure => have := HQ1.out; simp [intOf]; omega
    · have hlt' : ¬ (k : Int) < ts.length := by omega
      have HE : Hid (m = holesN ts) := by show _ = _; rw [HM.out, List.take_of_length_le (by omega)]
      have HML : Hid (m.length < 1000000) := by show _ < _; omega
      have HS1 := hide (sortOwn S w.heap.size _ m wr HO.out HML.out)
      have HSL : Hid ((m.mergeSort fun x y => decide (x ≤ y)).length = m.length) := by show _ = _; simp
      have HCH := hide (compact_holes HF.out)
      have HCM : Hid (Lib.compact (m.mergeSort fun x y => decide (x ≤ y)) = holesT ts) := by show _ = _; rw [HE.out]; exact HCH.out
      go_wp2_with (go_at_call 28; refine HS1.out.mono ?_; rintro e w3 ⟨rfl, ho3, hg3⟩)
      have HB3 := hide ((HB.out).grown hg3 (by omega) (fun k hk => (World.ownsRow.lt HO.out k hk).1))
      have HO3 : Hid (w3.ownsRow w.heap.size 3 1 (.slice oa m.length oc) (m.mergeSort fun x y => decide (x ≤ y)).length ((m.mergeSort fun x y => decide (x ≤ y)).map (Value.int .i64))) := by show w3.ownsRow _ _ _ _ _ _; rw [HSL.out]; exact ho3
      have HS2 := hide (compOwn S w.heap.size _ (m.mergeSort fun x y => decide (x ≤ y)) w3 HO3.out (by rw [HSL.out]; exact HML.out))
      have hb3s := HB3.out.size
      clear ho3 hg3 HS1
      go_wp2_with (go_at_call 29; refine HS2.out.mono ?_; rintro e w4 ⟨v4, rfl, hi4, hg4⟩)
      have HB4 := hide ((HB3.out).grown hg4 (by omega) (fun k hk => (World.ownsRow.lt HO3.out k hk).1))
      have HI4 : Hid (OwnN w.heap.size w4 v4 (holesT ts)) := by show OwnN _ _ _ _; rw [← HCM.out]; exact hi4
      obtain ⟨a4, c4, rfl⟩ := row_form hi4
      clear hg4 HS2
      go_wp2_with fail
      go_ret
      exact ⟨⟨_, rfl, .inr ⟨HF.out, HI4.out⟩⟩, HB4.out⟩
end Go.Proofs.YtdbepifdmcjjpaaGreat
