/- What the program's Spine answers. -/
import Derived.Test.YtbgibiongnhjoaaGreatSiB
import Derived.Deep.RegionHeld3
namespace Go.Proofs.YtbgibiongnhjoaaGreat
open Go.ChangeShapes Go.WideShapes Go.ChangeAt Go.RowKit

/-- What Spine answers: the head's nodes and those of the arguments. -/
def spinA (ts : List Td) (T : Tt) : List Td × List (List Td) := if termB ts = true then ((spineT T).1.flat 0, (spineT T).2.map (fun x => x.flat 0)) else ([], [])
/-- A head and arguments of the call's own, each in blocks of its own. -/
def NOut (B : Nat) (w' : World) (e : Ending) (r : List Td × List (List Td)) : Prop :=
  ∃ v v2 mid, e = .returned (.tuple #[.agg #[v], v2]) ∧ B ≤ mid ∧ mid ≤ w'.heap.size ∧ TsG TmV B mid w' v2 r.2 ∧ TmV mid w'.heap.size w' v r.1
set_option maxRecDepth 20000 in
set_option maxHeartbeats 8000000 in
theorem implSpine_any (v : Value) (ts : List Td) (T : Tt) (w : World) (hns : TNodesAt w v ts) (hsz : ∀ td ∈ ts, TLens td) (hsm : ∀ td ∈ ts, TSmall td) (hsp : ∀ td ∈ ts, (spell td.lv).length ≤ 1000000000) (hT : TreeFor ts T) :
    Calls Tryz.prog 15 #[.agg #[v]] w fun e w' => NOut w.heap.size w' e (spinA ts T) ∧ Below w.heap.size w w' := by
  obtain ⟨i28, hi28, hz28, hs28, hb28⟩ := info_parts Tryz.info28
  obtain ⟨A, hA⟩ : ∃ A, A = spinA ts T := ⟨_, rfl⟩
  rw [← hA]
  have HAA := hide hA
  clear hA
  obtain ⟨W, hW⟩ : ∃ W, W = (w.alloc (.cells #[v] 28)).alloc (.cells #[.slice none 0 0] 28) := ⟨_, rfl⟩
  have hbW : Below w.heap.size w W := by rw [hW]; exact bel_alloc (bel_alloc (Below.refl w.heap.size w) _) _
  have HRD := hide (fun (W0 w2 : World) (hb0 : Below W.heap.size W W0) (Sb mb gb : Nat) (Z0 : Nat → Zs) (H0 : Nat → Bool) => read_more v ts W0 w2 Sb mb gb 0 [] Z0 H0 ((hns.keep hbW).keep hb0) hsz hsm hsp)
  have HBW := hide hbW
  have HTT := hide hT
  obtain ⟨a, cap, rfl, _, _, _⟩ := hns
  have c0 : W.cell? ⟨w.heap.size, 0, none⟩ = some (.slice a ts.length cap) := by rw [hW]; simp [go_sem]
  have HR : Hid (W.heap[w.heap.size + 1]? = some (.cells #[.slice none 0 0] 28 (0, 0))) := by show _ = _; rw [hW]; exact heap_alloc_at _ _ (by simp)
  have hrl : w.heap.size + 1 < W.heap.size := (Array.getElem?_eq_some_iff.1 HR.out).1
  have HRW : Hid (∀ w4 : World, Below W.heap.size W w4 → w4.heap[w.heap.size + 1]? = some (.cells #[.slice none 0 0] 28 (0, 0))) := fun w4 h4 => by rw [h4.block _ hrl]; exact HR.out
  have hbD : Below W.heap.size W W.drew := (Below.refl _ _).drew
  have HNS := hide (newStore_any W.drew)
  have HBD := hide hbD
  have hWs := HBW.out.size
  clear hsz hsm hsp hbW hT
  by_cases htB : termB ts = true
  case neg =>
    have htB : termB ts = false := by simpa using htB
    have HE : Hid (A = ([], [])) := by show _ = _; rw [HAA.out]; unfold spinA; rw [if_neg (by simp [htB])]
    have HRD2 : Hid (∀ (w2 : World) (Sb mb gb : Nat) (Z0 : Nat → Zs) (H0 : Nat → Bool), Below W.drew.heap.size W.drew w2 → St W.drew.heap.size w2 Sb mb gb 0 [] Z0 H0 → Calls Tryz.prog 53 #[.pointer (some ⟨Sb, 0, none⟩), .agg #[.slice a ts.length cap]] w2 fun e w' => e = .returned (.tuple #[.pointer none, .bool false]) ∧ Below W.heap.size W w') := fun w2 Sb mb gb Z0 H0 h1 h2 => (HRD.out W.drew w2 HBD.out Sb mb gb Z0 H0 h1 h2).mono fun e w' ⟨h3, h4⟩ => by
      rcases h3 with ⟨_, h5, _⟩ | ⟨h5, _⟩
      · exact ⟨h5, HBD.out.trans h4⟩
      · rw [htB] at h5; cases h5
    clear htB HRD
    go_enter Tryz.func15, Tryz.ntmps15
    go_upto_region 1 with fail
    rw [← hW]
    clear hW
    go_wp2_with fail
    go_region_held3 (fun w' => w'.cell? ⟨w.heap.size, 0, none⟩ = some (.slice a ts.length cap))
      (first
        | go_keep
        | exact keep_cell hb3 (by assumption)
        | exact keep_cell hb2 (by assumption)
        | fail)
      (first
        | (go_at_call 52; refine HNS.out.mono ?_; rintro e w2 ⟨⟨Sb, mb, gb, rfl, hs2⟩, hb2⟩)
        | (go_at_call 53; refine (HRD2.out w2 Sb mb gb _ _ hb2 hs2).mono ?_; rintro e w3 ⟨rfl, hb3⟩)
        | fail)
    have HB3 := hide hb3
    have c4 : w3.cell? ⟨w.heap.size + 1, 0, none⟩ = some (.slice none 0 0) := by rw [Lib.cell_of_heap (HRW.out w3 hb3)]; rfl
    have f4 : w3.frozen? ⟨w.heap.size + 1, 0, none⟩ = false := Lib.frozen_of_heap (HRW.out w3 hb3) 0
    have l4 := lt_cell c4
    clear hb3 hb2 hs2
    go_wp2_with fail
    refine bodyPost_ret (v := .tuple #[.agg #[.slice none 0 0], .slice none 0 0]) (by simp [results, Tryz.results15, go_sem, c4]) rfl ⟨?_, ?_⟩
    · rw [HE.out]
      have hs := HB3.out.size
      exact ⟨_, _, w.heap.size, rfl, Nat.le_refl _, by rw [size_set]; omega, tsG_nil _ _ _ _, tmV_nil _ _ _⟩
    · exact (bel_trans HBW.out HB3.out).setCell (p := ⟨_, _, _⟩) (by show _ ≤ w.heap.size + 1; omega) _
  case pos =>
    have HRD2 : Hid (∀ (w2 : World) (Sb mb gb : Nat) (Z0 : Nat → Zs) (H0 : Nat → Bool), Below W.drew.heap.size W.drew w2 → St W.drew.heap.size w2 Sb mb gb 0 [] Z0 H0 → Calls Tryz.prog 53 #[.pointer (some ⟨Sb, 0, none⟩), .agg #[.slice a ts.length cap]] w2 fun e w' => ∃ rb, e = .returned (.tuple #[.pointer (some ⟨rb, 0, none⟩), .bool true]) ∧ (∃ clock L Z H, St W.heap.size w' Sb mb gb clock L Z H ∧ IsT L T rb) ∧ Below W.heap.size W w') := fun w2 Sb mb gb Z0 H0 h1 h2 => (HRD.out W.drew w2 HBD.out Sb mb gb Z0 H0 h1 h2).mono fun e w' ⟨h3, h4⟩ => by
      rcases h3 with ⟨h5, _⟩ | ⟨_, pt, clock, L, Z, H, h5, h6, h7, _⟩
      · rw [htB] at h5; cases h5
      · exact ⟨_, h5, ⟨clock, L, Z, H, h6, rd_root h7 (HTT.out htB).1⟩, HBD.out.trans h4⟩
    have HP := hide (HTT.out htB).2
    have HE : Hid (A = ((spineT T).1.flat 0, (spineT T).2.map (fun x => x.flat 0))) := by show _ = _; rw [HAA.out]; unfold spinA; rw [if_pos htB]
    clear htB HRD
    go_enter Tryz.func15, Tryz.ntmps15
    go_upto_region 1 with fail
    rw [← hW]
    clear hW
    go_wp2_with fail
    go_region_held3 (fun w' => w'.cell? ⟨w.heap.size, 0, none⟩ = some (.slice a ts.length cap))
      (first
        | go_keep
        | exact keep_cell hb3 (by assumption)
        | exact keep_cell hb2 (by assumption)
        | fail)
      (first
        | (go_at_call 52; refine HNS.out.mono ?_; rintro e w2 ⟨⟨Sb, mb, gb, rfl, hs2⟩, hb2⟩)
        | (go_at_call 53; refine (HRD2.out w2 Sb mb gb _ _ hb2 hs2).mono ?_; rintro e w3 ⟨rb, rfl, hst, hb3⟩)
        | fail)
    have HB3 := hide hb3
    obtain ⟨clock, L, Z, H, hs3, hI3⟩ := hst
    have hb3s := hb3.size
    have HSPN := hide (spine_any W.heap.size Sb mb gb clock L Z H T rb w3 hs3 hb3s hI3 HP.out)
    have HST := hide hs3
    have hcT := (ist_lt hs3 hI3).1
    clear hb3 hb2 hs2 hs3 hI3 c0
    go_wp2_with fail
    refine HSPN.out.mono ?_
    rintro e w4 ⟨⟨b4, v4, ps, rfl, hI4, hpl, hrow, hix⟩, hb4⟩
    have HB4 := hide hb4
    have hb4s := hb4.size
    have HI4 := hide hI4
    have HPL := hide hpl
    have HROW := hide hrow
    have HIX := hide hix
    have HS4 := hide (HST.out.keep hb4 hb3s)
    obtain ⟨h1a, h1b⟩ := spine_all T HP.out
    obtain ⟨h2a, h2b, h2c⟩ := spine_cnt T
    have HPH := hide h1a
    have HPX := hide h1b
    have hlen : (spineT T).2.length ≤ 20000 := by omega
    obtain ⟨va, vc, rfl⟩ := row_form hrow
    obtain ⟨hdT, xs, hSp⟩ : ∃ hdT xs, spineT T = (hdT, xs) := ⟨_, _, rfl⟩
    rw [hSp] at HI4 HPL HROW HIX HPH HPX HE hlen
    simp only at HI4 HPL HROW HIX HPH HPX HE hlen
    have hv : Value.slice va (spineT T).2.length vc = Value.slice va xs.length vc := by rw [hSp]
    rw [hv]
    clear hI4 hpl hrow hix hb4 h1a h1b h2a h2b h2c HSPN HST hSp hv
    have H0 : Hid (TsG TmV w4.heap.size w4.heap.size w4 (.slice none 0 0) ((xs.map (fun x => x.flat 0)).take 0)) := tsG_nil _ _ _ _
    go_wp2_with fail
    go_loopw [8, 27] (fun r i wr => ∃ (j cp : Nat) (ad : Option Addr), j ≤ xs.length ∧ i = .int .i64 j ∧ r = .slice ad j cp ∧ Hid (TsG TmV w4.heap.size wr.heap.size wr (.slice ad j cp) ((xs.map (fun x => x.flat 0)).take j)) ∧ Hid (Below w4.heap.size w4 wr)) (fun _ i _ => xs.length - (intOf i).toNat)
    case atStart => exact ⟨0, 0, none, by omega, rfl, rfl, H0, Below.refl _ _⟩
    case round =>
      clear H0
      obtain ⟨j, cp, ad, hj, rfl, rfl, HLJ, HBJ⟩ := hrel
      have hwsz := HBJ.out.size
      by_cases hlt : j < xs.length
      · have hlt' : (j : Int) < xs.length := by omega
        have HQ1 := hide (show j + 1 ≤ xs.length from hlt)
        have hjp : j < ps.length := by have := HPL.out; omega
        have hrw := row_keep HBJ.out HROW.out
        obtain ⟨Rb, rfl⟩ := own_some hrw (by omega)
        have d1 := hrw.cellAt j (by have := HPL.out; simp; omega)
        rw [List.getElem?_map, List.getElem?_eq_getElem hjp] at d1
        simp only [Option.map_some, ptrV] at d1
        have hl1 := lt_cell d1
        have HTO := hide (termOf_any W.heap.size Sb mb gb clock L Z H wr (HS4.out.keep HBJ.out (by omega)) (by omega) xs[j] ps[j] (HIX.out j hjp hlt) (all_mono node_lev (HPX.out _ (List.getElem_mem hlt))))
        have HTK : Hid ((xs.map (fun x => x.flat 0)).take (j + 1) = (xs.map (fun x => x.flat 0)).take j ++ [xs[j].flat 0]) := by
          show _ = _
          rw [List.take_succ_eq_append_getElem (by simpa using hlt), List.getElem_map]
          rfl
        have HTL : Hid (((xs.map (fun x => x.flat 0)).take j).length = j) := by show _ = _; rw [List.length_take, List.length_map]; omega
        generalize ps[j] = pj at *
        generalize xs[j] = xj at *
        clear hrw hjp
        go_wp2_with fail
        refine HTO.out.mono ?_
        rintro e w5 ⟨g5, cap5, rfl, hv5, hb5⟩
        obtain ⟨W6, hW6⟩ : ∃ W6, W6 = w5.alloc (.cells #[.slice (some ⟨g5, 0, none⟩) xj.cnt cap5] 28) := ⟨_, rfl⟩
        have hb6 : Below w5.heap.size w5 W6 := by rw [hW6]; exact bel_alloc (Below.refl _ _) _
        have hh6 : W6.heap[w5.heap.size]? = some (.cells #[.slice (some ⟨g5, 0, none⟩) xj.cnt cap5] 28 (0, 0)) := by rw [hW6]; exact heap_alloc_new w5 _
        have HV6 : Hid (TmV wr.heap.size W6.heap.size W6 (.slice (some ⟨g5, 0, none⟩) xj.cnt cap5) (xj.flat 0)) := (hv5.keep hb6 (Nat.le_refl _)).mono (Nat.le_refl _) hb6.size
        have hs5 := hb5.size
        have hs6 := hb6.size
        have HB6 := hide (bel_trans hb5 hb6)
        have hsz6 : W6.heap.size = w5.heap.size + 1 := by rw [hW6]; simp
        obtain ⟨xs', s, t, ho, hrg, hown, hnd⟩ := HLJ.out
        rw [HTL.out] at ho
        have HHO := hide ho
        have HOW6 := hide (row_keep HB6.out ho)
        have HRG := hide hrg
        have HHN := hide hown
        have HND := hide hnd
        clear ho hrg hown hnd hv5 hb5 hb6 HTO d1 hl1
        go_wp2_with (first
          | (at_builtin
             rw [← hW6]
             refine wpList_append_lies _ rfl _ _ 29 rfl w4.heap.size 28 i28 (.agg #[.slice none 0 0]) 1 24 Tryz.underlying29 hi28 hz28 hs28 hb28 rfl (by omega) (.slice ad j cp) j xs' rfl HOW6.out ⟨w5.heap.size, 0, none⟩ 1 1 [.slice (some ⟨g5, 0, none⟩) xj.cnt cap5] rfl rfl (World.news_of_block (cs := #[.slice (some ⟨g5, 0, none⟩) xj.cnt cap5]) (t := 28) (fr := (0, 0)) hh6) (by intro u hu; simp at hu; rcases hu with rfl; rfl) (by omega) (by unfold maxLen; omega) (by omega) (by omega) W6.heap.size rfl ?_)
          | fail)
        intro g7 cap7 w7 hown7 hgrow7 hat7 hlt7
        rw [← hW6] at hgrow7
        have hend := TsG.snoc same_tmV (ls := (xs.map (fun x => x.flat 0)).take j) (l := xj.flat 0) (by omega) HB6.out (by rw [HTL.out]; exact HHO.out) HRG.out HHN.out HND.out (Nat.le_refl _) HV6.out (by omega) hgrow7 (by rcases hat7 with h | h; exact .inl h; exact .inr (by omega)) hlt7 (by rw [HTL.out]; exact hown7)
        rw [HTL.out, ← HTK.out] at hend
        have HE7 := hide hend
        have HB7 : Hid (Below w4.heap.size w4 w7) := (HBJ.out.trans (HB6.out.mono hwsz)).grown hgrow7 (by omega) (fun k hk => (World.ownsRow.lt HHO.out k hk).1)
        clear hend hown7 hgrow7 hat7 hlt7 HOW6 HRG HHN HND HV6 hW6 hh6
        go_wp2_with fail
        go_roundw
        case rel => exact ⟨j + 1, cap7, some ⟨g7, 0, none⟩, HQ1.out, by go_num, rfl, HE7, HB7⟩
        case measure => have := HQ1.out; simp [intOf]; omega
      · have hlt' : ¬ (j : Int) < xs.length := by omega
        have e : j = xs.length := by omega
        subst e
        have HLL : Hid (TsG TmV w4.heap.size wr.heap.size wr (.slice ad xs.length cp) (xs.map (fun x => x.flat 0))) := by
          have h := HLJ.out
          rw [List.take_of_length_le (by simp)] at h
          exact h
        have HTO := hide (termOf_any W.heap.size Sb mb gb clock L Z H wr (HS4.out.keep HBJ.out (by omega)) (by omega) hdT b4 HI4.out (all_mono node_lev HPH.out))
        have HFL : Hid (hdT.cnt = (hdT.flat 0).length) := (hdT.flat_len 0).symm
        clear HLJ
        go_wp2_with fail
        refine HTO.out.mono ?_
        rintro e w5 ⟨g5, cap5, rfl, hv5, hb5⟩
        have hs5 := hb5.size
        have hbb : Below W.heap.size W w5 := bel_trans (bel_trans (bel_trans HB3.out HB4.out) HBJ.out) hb5
        have HBB := hide hbb
        have c6 : w5.cell? ⟨w.heap.size + 1, 0, none⟩ = some (.slice none 0 0) := by rw [Lib.cell_of_heap (HRW.out w5 hbb)]; rfl
        have f6 : w5.frozen? ⟨w.heap.size + 1, 0, none⟩ = false := Lib.frozen_of_heap (HRW.out w5 hbb) 0
        have l6 := lt_cell c6
        have HV5 := hide hv5
        have HL5 : Hid (TsG TmV w4.heap.size wr.heap.size w5 (.slice ad xs.length cp) (xs.map (fun x => x.flat 0))) := HLL.out.same same_tmV (fun b _ q => hb5.block b q)
        clear hv5 hb5 hbb HTO HLL
        go_wp2_with fail
        refine bodyPost_ret (v := .tuple #[.agg #[.slice (some ⟨g5, 0, none⟩) hdT.cnt cap5], .slice ad xs.length cp]) (by simp [results, Tryz.results15, go_sem, c6]) rfl ⟨?_, ?_⟩
        · rw [HE.out]
          refine ⟨_, _, wr.heap.size, rfl, by omega, by rw [size_set]; omega, ?_, ?_⟩
          · exact (HL5.out.same same_tmV (fun b q1 q2 => Below.heap_setCell w5 _ _ b (by show b ≠ w.heap.size + 1; omega))).mono (by omega) (Nat.le_refl _)
          · rw [size_set]
            exact HV5.out.same (fun b q1 q2 => Below.heap_setCell w5 _ _ b (by show b ≠ w.heap.size + 1; omega))
        · exact (bel_trans HBW.out HBB.out).setCell (p := ⟨_, _, _⟩) (by show _ ≤ w.heap.size + 1; omega) _
end Go.Proofs.YtbgibiongnhjoaaGreat
