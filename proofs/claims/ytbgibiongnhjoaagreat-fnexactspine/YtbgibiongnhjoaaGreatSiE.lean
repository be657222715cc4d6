/- What the specification's Spine answers. -/
import Derived.Test.YtbgibiongnhjoaaGreatSiC
import Derived.Test.YtbgibiongnhjoaaGreatSiD
namespace Go.Proofs.YtbgibiongnhjoaaGreat
open Go.ChangeShapes Go.WideShapes Go.ChangeAt Go.RowKit

/-- A head and arguments that the specification answers. -/
def SNOut (B : Nat) (w' : World) (e : Ending) (r : List Td × List (List Td)) : Prop :=
  ∃ v v2 mid, e = .returned (.tuple #[.agg #[v], v2]) ∧ B ≤ mid ∧ mid ≤ w'.heap.size ∧ TsG FrR B mid w' v2 r.2 ∧ FrR mid w'.heap.size w' v r.1
theorem frr_nil (lo hi : Nat) (w : World) : FrR lo hi w (.slice none 0 0) [] := fun _ _ => ⟨none, 0, rfl, Nat.le_refl _, by unfold maxLen; omega, fun h => by simp at h⟩
theorem tsG_empty (E : Nat → Nat → World → Value → List Td → Prop) {lo hi g : Nat} {w : World} (h : w.heap[g]? = some (.cells #[] 28 (0, 0))) (h1 : lo ≤ g) (h2 : g < hi) : TsG E lo hi w (.slice (some ⟨g, 0, none⟩) 0 0) [] :=
  ⟨[], fun _ => 0, fun _ => 0, ⟨rfl, .inr ⟨g, 0, #[], rfl, h1, h, Nat.le_refl _, by unfold maxLen; omega, rfl, rfl⟩⟩, ⟨fun i h => by simp at h, fun i j _ h => by simp at h⟩, fun b hb => by
    have e : b = g := by simp [Value.ownBlock] at hb; omega
    subst e
    exact ⟨h2, fun i h => by simp at h⟩, fun i h => by simp at h⟩
set_option maxRecDepth 20000 in
set_option maxHeartbeats 8000000 in
theorem specSpine_any (v : Value) (ts : List Td) (T : Tt) (w : World) (hns : TNodesAt w v ts) (hsz : ∀ td ∈ ts, TLens td) (hlv : ∀ td ∈ ts, td.lv.length ≤ 1048576) (hT : TreeFor ts T) :
    Calls Tryz.prog 13 #[.agg #[v]] w fun e w' => SNOut w.heap.size w' e (spinA ts T) ∧ Below w.heap.size w w' := by
  obtain ⟨i28, hi28, hz28, hs28, hb28⟩ := info_parts Tryz.info28
  obtain ⟨A, hA⟩ : ∃ A, A = spinA ts T := ⟨_, rfl⟩
  rw [← hA]
  have HAA := hide hA
  clear hA
  obtain ⟨W, hW⟩ : ∃ W, W = (w.alloc (.cells #[v] 28)).alloc (.cells #[.slice none 0 0] 28) := ⟨_, rfl⟩
  have hbW : Below w.heap.size w W := by rw [hW]; exact bel_alloc (bel_alloc (Below.refl w.heap.size w) _) _
  have HT := hide (l3TreeF_any v ts W (hns.keep hbW) hsz hlv)
  have HBW := hide hbW
  have HTT := hide hT
  obtain ⟨a, cap, rfl, _, _, _⟩ := hns
  have c0 : W.cell? ⟨w.heap.size, 0, none⟩ = some (.slice a ts.length cap) := by rw [hW]; simp [go_sem]
  have HR : Hid (W.heap[w.heap.size + 1]? = some (.cells #[.slice none 0 0] 28 (0, 0))) := by show _ = _; rw [hW]; exact heap_alloc_at _ _ (by simp)
  have l0 := lt_cell c0
  clear hsz hlv hbW hT
  go_enter Tryz.func13, Tryz.ntmps13
  go_upto_region 1 with fail
  rw [← hW]
  clear hW
  go_wp2_with fail
  refine HT.out.mono ?_
  rintro e w3 ⟨he, hb3⟩
  have hrl : w.heap.size + 1 < W.heap.size := (Array.getElem?_eq_some_iff.1 HR.out).1
  have hWs := HBW.out.size
  have hb3s := hb3.size
  have HRW : Hid (∀ w4 : World, Below W.heap.size W w4 → w4.heap[w.heap.size + 1]? = some (.cells #[.slice none 0 0] 28 (0, 0))) := fun w4 h4 => by rw [h4.block _ hrl]; exact HR.out
  obtain ⟨W4, hW4⟩ : ∃ W4, W4 = w3.alloc (.cells #[] 28) := ⟨_, rfl⟩
  have hb4 : Below w3.heap.size w3 W4 := by rw [hW4]; exact bel_alloc (Below.refl _ _) _
  have hh4 : W4.heap[w3.heap.size]? = some (.cells #[] 28 (0, 0)) := by rw [hW4]; exact heap_alloc_new w3 _
  have l4 : w3.heap.size < W4.heap.size := (Array.getElem?_eq_some_iff.1 hh4).1
  have HB4 := hide (bel_trans hb3 hb4)
  have HB3 := hide hb3
  have HH4 := hide hh4
  have c4 : W4.cell? ⟨w.heap.size + 1, 0, none⟩ = some (.slice none 0 0) := by rw [Lib.cell_of_heap (HRW.out W4 HB4.out)]; rfl
  have f4 : W4.frozen? ⟨w.heap.size + 1, 0, none⟩ = false := Lib.frozen_of_heap (HRW.out W4 HB4.out) 0
  have lc4 := lt_cell c4
  clear hb3 c0 l0 HT hh4
  rcases he with ⟨ht, rfl⟩ | ⟨ht, hkin, pt, Q, rfl, hf3, _⟩
  · have HE : Hid (A = ([], [])) := by show _ = _; rw [HAA.out]; unfold spinA; rw [if_neg (by simp [ht])]
    have HN := hide (tnone_none W4)
    clear ht hb4
    go_upto_region 3 with fail
    first | rw [← hW4] | skip
    clear hW4
    go_wp2_with (go_at_call 48; refine HN.out.mono ?_; rintro e w5 ⟨rfl, hw⟩; have hw := hw.symm; subst hw)
    refine bodyPost_ret (v := .tuple #[.agg #[.slice none 0 0], .slice (some ⟨w3.heap.size, 0, none⟩) 0 0]) (by simp [results, Tryz.results13, go_sem, c4]) rfl ⟨?_, ?_⟩
    · rw [HE.out]
      refine ⟨_, _, W4.heap.size, rfl, by omega, by rw [size_set]; exact Nat.le_refl _, tsG_empty FrR ?_ (by omega) l4, frr_nil _ _ _⟩
      rw [Below.heap_setCell _ _ _ _ (by show w3.heap.size ≠ w.heap.size + 1; omega)]
      exact HH4.out
    · exact (bel_trans HBW.out HB4.out).setCell (p := ⟨_, _, _⟩) (by show _ ≤ w.heap.size + 1; omega) _
  · obtain ⟨hsp, hcnt⟩ := tree_root ht hkin hf3 HTT.out
    have HP := hide (HTT.out ht).2
    generalize pt (ts.length - 1) = rb at *
    have HE : Hid (A = ((spineT T).1.flat 0, (spineT T).2.map (fun x => x.flat 0))) := by show _ = _; rw [HAA.out]; unfold spinA; rw [if_pos ht]
    have HN := hide (tnone_some ⟨rb, 0, none⟩ W4)
    have HSPN := hide (l3Spine_any _ T rb w3 W4 hb4 hsp HP.out hcnt)
    have HB34 := hide hb4
    clear hb4 hsp ht hkin hf3
    go_upto_region 3 with fail
    first | rw [← hW4] | skip
    clear hW4
    go_wp2_with (first
      | (go_at_call 48; refine HN.out.mono ?_; rintro e w5 ⟨rfl, hw⟩; have hw := hw.symm; subst hw)
      | fail)
    refine HSPN.out.mono ?_
    rintro e w5 ⟨⟨b5, v5, ps, rfl, hI5, hpl, hrow, hix⟩, hb5⟩
    have HB5 := hide hb5
    have hb5s := hb5.size
    have HI5 := hide hI5
    have HPL := hide hpl
    have HROW := hide hrow
    have HIX := hide hix
    have HH5 : Hid (w5.heap[w3.heap.size]? = some (.cells #[] 28 (0, 0))) := by show _ = _; rw [hb5.block _ l4]; exact HH4.out
    obtain ⟨h1a, h1b⟩ := spine_all T HP.out
    obtain ⟨h2a, h2b, h2c⟩ := spine_cnt T
    have HPH := hide h1a
    have HPX := hide h1b
    have HCX := hide h2c
    have hlen : (spineT T).2.length ≤ 20000 := by omega
    have hch : (spineT T).1.cnt ≤ 20000 := by omega
    obtain ⟨va, vc, rfl⟩ := row_form hrow
    obtain ⟨hdT, xs, hSp⟩ : ∃ hdT xs, spineT T = (hdT, xs) := ⟨_, _, rfl⟩
    rw [hSp] at HI5 HPL HROW HIX HPH HPX HCX HE hlen hch
    simp only at HI5 HPL HROW HIX HPH HPX HCX HE hlen hch
    have hv : Value.slice va (spineT T).2.length vc = Value.slice va xs.length vc := by rw [hSp]
    rw [hv]
    clear hI5 hpl hrow hix hb5 h1a h1b h2a h2b h2c HSPN hSp hv HH4 c4 f4 lc4
    have H0 : Hid (TsG FrR w3.heap.size w5.heap.size w5 (.slice (some ⟨w3.heap.size, 0, none⟩) 0 0) ((xs.map (fun x => x.flat 0)).take 0)) := tsG_empty FrR HH5.out (Nat.le_refl _) (by omega)
    clear HH5
    go_wp2_with fail
    go_loopw [5, 8] (fun r i wr => ∃ (j cp : Nat) (ad : Option Addr), j ≤ xs.length ∧ i = .int .i64 j ∧ r = .slice ad j cp ∧ Hid (TsG FrR w3.heap.size wr.heap.size wr (.slice ad j cp) ((xs.map (fun x => x.flat 0)).take j)) ∧ Hid (w5.heap.size ≤ wr.heap.size) ∧ Hid (∀ b : Nat, b < w5.heap.size → b ≠ w3.heap.size → wr.heap[b]? = w5.heap[b]?) ∧ Hid (Below w3.heap.size w3 wr) ∧ Hid (∀ g, ad = some g → g.block = w3.heap.size ∨ w5.heap.size ≤ g.block)) (fun _ i _ => xs.length - (intOf i).toNat)
    case atStart => exact ⟨0, 0, some ⟨w3.heap.size, 0, none⟩, by omega, rfl, rfl, H0, Nat.le_refl _, fun _ _ _ => rfl, bel_trans HB34.out HB5.out, fun g hg => .inl (by have := Option.some.inj hg; rw [← this])⟩
    case round =>
      clear H0
      obtain ⟨j, cp, ad, hj, rfl, rfl, HLJ, HSZ, HFR, HBJ, HAD⟩ := hrel
      have hwsz := HSZ.out
      have hb3J := HBJ.out.size
      by_cases hlt : j < xs.length
      · have hlt' : (j : Int) < xs.length := by omega
        have HQ1 := hide (show j + 1 ≤ xs.length from hlt)
        have hjp : j < ps.length := by have := HPL.out; omega
        have hrw : wr.ownsRow W4.heap.size 72 1 (.slice va xs.length vc) xs.length (ps.map ptrV) := row_same HROW.out (fun g hg => HFR.out g (World.ownsRow.lt HROW.out g hg).2 (by have := (World.ownsRow.lt HROW.out g hg).1; omega))
        obtain ⟨Rb, rfl⟩ := own_some hrw (by omega)
        have d1 := hrw.cellAt j (by have := HPL.out; simp; omega)
        rw [List.getElem?_map, List.getElem?_eq_getElem hjp] at d1
        simp only [Option.map_some, ptrV] at d1
        have hl1 := lt_cell d1
        have hxm := List.getElem_mem hlt
        have HTO := hide (l3Term_any _ xs[j] ps[j] wr ((HIX.out j hjp hlt).keep HBJ.out) (all_mono node_lev (HPX.out _ hxm)) (by have := HCX.out _ hxm; omega))
        have HTK : Hid ((xs.map (fun x => x.flat 0)).take (j + 1) = (xs.map (fun x => x.flat 0)).take j ++ [xs[j].flat 0]) := by
          show _ = _
          rw [List.take_succ_eq_append_getElem (by simpa using hlt), List.getElem_map]
          rfl
        have HTL : Hid (((xs.map (fun x => x.flat 0)).take j).length = j) := by show _ = _; rw [List.length_take, List.length_map]; omega
        generalize ps[j] = pj at *
        generalize xs[j] = xj at *
        clear hrw hjp hxm
        go_wp2_with fail
        refine HTO.out.mono ?_
        rintro e w6 ⟨v6, rfl, hv6, hb6⟩
        obtain ⟨ua, uc, rfl⟩ := hv6.form
        obtain ⟨W6, hW6⟩ : ∃ W6, W6 = w6.alloc (.cells #[.slice ua (xj.flat 0).length uc] 28) := ⟨_, rfl⟩
        have hb7 : Below w6.heap.size w6 W6 := by rw [hW6]; exact bel_alloc (Below.refl _ _) _
        have hh6 : W6.heap[w6.heap.size]? = some (.cells #[.slice ua (xj.flat 0).length uc] 28 (0, 0)) := by rw [hW6]; exact heap_alloc_new w6 _
        have HV6 : Hid (FrR wr.heap.size W6.heap.size W6 (.slice ua (xj.flat 0).length uc) (xj.flat 0)) := (hv6.range.same (fun b _ q => hb7.block b q)).mono (Nat.le_refl _) hb7.size
        have hs6 := hb6.size
        have hs7 := hb7.size
        have HB6 := hide (bel_trans hb6 hb7)
        have hsz6 : W6.heap.size = w6.heap.size + 1 := by rw [hW6]; simp
        obtain ⟨xs', s, t, ho, hrg, hown, hnd⟩ := HLJ.out
        rw [HTL.out] at ho
        have HHO := hide ho
        have HOW6 := hide (row_keep HB6.out ho)
        have HRG := hide hrg
        have HHN := hide hown
        have HND := hide hnd
        clear ho hrg hown hnd hv6 hb6 hb7 HTO d1 hl1
        go_wp2_with (first
          | (at_builtin
             rw [← hW6]
             refine wpList_append_lies _ rfl _ _ 29 rfl w3.heap.size 28 i28 (.agg #[.slice none 0 0]) 1 24 Tryz.underlying29 hi28 hz28 hs28 hb28 rfl (by omega) (.slice ad j cp) j xs' rfl HOW6.out ⟨w6.heap.size, 0, none⟩ 1 1 [.slice ua (xj.flat 0).length uc] rfl rfl (World.news_of_block (cs := #[.slice ua (xj.flat 0).length uc]) (t := 28) (fr := (0, 0)) hh6) (by intro u hu; simp at hu; rcases hu with rfl; rfl) (by omega) (by unfold maxLen; omega) (by omega) (by omega) W6.heap.size rfl ?_)
          | fail)
        intro g7 cap7 w7 hown7 hgrow7 hat7 hlt7
        rw [← hW6] at hgrow7
        have hend := TsG.snoc same_frR (ls := (xs.map (fun x => x.flat 0)).take j) (l := xj.flat 0) (by omega) HB6.out (by rw [HTL.out]; exact HHO.out) HRG.out HHN.out HND.out (Nat.le_refl _) HV6.out (by omega) hgrow7 (by rcases hat7 with h | h; exact .inl h; exact .inr (by omega)) hlt7 (by rw [HTL.out]; exact hown7)
        rw [HTL.out, ← HTK.out] at hend
        have HE7 := hide hend
        have HB7 : Hid (Below w3.heap.size w3 w7) := (HBJ.out.trans (HB6.out.mono hb3J)).grown hgrow7 (by omega) (fun k hk => (World.ownsRow.lt HHO.out k hk).1)
        have hob : ∀ k, (Value.slice ad j cp).ownBlock = some k → k = w3.heap.size ∨ w5.heap.size ≤ k := fun k hk => by
          cases ad with
          | none => simp [Value.ownBlock] at hk
          | some ga =>
            have e : ga.block = k := by simpa [Value.ownBlock] using hk
            have := HAD.out ga rfl
            omega
        have HSZ7 : Hid (w5.heap.size ≤ w7.heap.size) := by show _ ≤ _; have := hgrow7.size; omega
        have HFR7 : Hid (∀ b : Nat, b < w5.heap.size → b ≠ w3.heap.size → w7.heap[b]? = w5.heap[b]?) := fun b q1 q2 => by
          rw [hgrow7.block b (by omega) (fun e => by have := hob b e.symm; omega), HB6.out.block b (by omega)]
          exact HFR.out b q1 q2
        have HAD7 : Hid (∀ g, (some (⟨g7, 0, none⟩ : Addr)) = some g → g.block = w3.heap.size ∨ w5.heap.size ≤ g.block) := fun g hg => by
          have e := Option.some.inj hg
          rw [← e]
          show g7 = _ ∨ _ ≤ g7
          rcases hat7 with h | h
          · exact hob g7 h
          · exact .inr (by omega)
        clear hend hown7 hgrow7 hat7 hlt7 HOW6 HRG HHN HND HV6 hW6 hh6 hob
        go_wp2_with fail
        go_roundw
        case rel => exact ⟨j + 1, cap7, some ⟨g7, 0, none⟩, HQ1.out, by go_num, rfl, HE7, HSZ7, HFR7, HB7, HAD7⟩
        case measure => have := HQ1.out; simp [intOf]; omega
      · have hlt' : ¬ (j : Int) < xs.length := by omega
        have e : j = xs.length := by omega
        subst e
        have HLL : Hid (TsG FrR w3.heap.size wr.heap.size wr (.slice ad xs.length cp) (xs.map (fun x => x.flat 0))) := by
          have h := HLJ.out
          rw [List.take_of_length_le (by simp)] at h
          exact h
        have HTO := hide (l3Term_any _ hdT b5 wr (HI5.out.keep HBJ.out) (all_mono node_lev HPH.out) hch)
        clear HLJ
        go_wp2_with fail
        refine HTO.out.mono ?_
        rintro e w6 ⟨v6, rfl, hv6, hb6⟩
        obtain ⟨ua, uc, rfl⟩ := hv6.form
        have hs6 := hb6.size
        have hbb : Below W.heap.size W w6 := (HB3.out.trans (HBJ.out.mono hb3s)).trans (hb6.mono (by omega))
        have HBB := hide hbb
        have c6 : w6.cell? ⟨w.heap.size + 1, 0, none⟩ = some (.slice none 0 0) := by rw [Lib.cell_of_heap (HRW.out w6 hbb)]; rfl
        have f6 : w6.frozen? ⟨w.heap.size + 1, 0, none⟩ = false := Lib.frozen_of_heap (HRW.out w6 hbb) 0
        have l6 := lt_cell c6
        have HV6 := hide hv6.range
        have HL6 : Hid (TsG FrR w3.heap.size wr.heap.size w6 (.slice ad xs.length cp) (xs.map (fun x => x.flat 0))) := HLL.out.same same_frR (fun b _ q => hb6.block b q)
        clear hv6 hb6 hbb HTO HLL
        go_wp2_with fail
        refine bodyPost_ret (v := .tuple #[.agg #[.slice ua (hdT.flat 0).length uc], .slice ad xs.length cp]) (by simp [results, Tryz.results13, go_sem, c6]) rfl ⟨?_, ?_⟩
        · rw [HE.out]
          refine ⟨_, _, wr.heap.size, rfl, by omega, by rw [size_set]; omega, ?_, ?_⟩
          · exact (HL6.out.same same_frR (fun b q1 q2 => Below.heap_setCell w6 _ _ b (by show b ≠ w.heap.size + 1; omega))).mono (by omega) (Nat.le_refl _)
          · rw [size_set]
            exact HV6.out.same (fun b q1 q2 => Below.heap_setCell w6 _ _ b (by show b ≠ w.heap.size + 1; omega))
        · exact (bel_trans HBW.out HBB.out).setCell (p := ⟨_, _, _⟩) (by show _ ≤ w.heap.size + 1; omega) _
end Go.Proofs.YtbgibiongnhjoaaGreat
