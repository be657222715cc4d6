/- What the function that putParams hands to change answers. -/
import Derived.Test.YtbgibiongnhjoaaGreatPpB
import Derived.Test.YtbgibiongnhjoaaGreatPpT
import Derived.Test.YtbgibiongnhjoaaGreatTMkG
import Derived.Test.YtbgibiongnhjoaaGreatTrI
import Derived.Test.YtbgibiongnhjoaaGreatFoA
namespace Go.Proofs.YtbgibiongnhjoaaGreat
open Go.ChangeShapes Go.WideShapes Go.ChangeAt Go.RowKit

theorem hpP_congr (p : Bool) (f g : Nat → Bool) : ∀ n : Nat, (∀ i, i < n → f i = g i) → hpP p f n = hpP p g n
  | 0, _ => rfl
  | n + 1, h => by
    show (hpP p f n || f n) = (hpP p g n || g n)
    rw [hpP_congr p f g n (fun i hi => h i (by omega)), h n (by omega)]
theorem hp_kids (T : Tt) : T.hp = hpP (parL T.hd.lv) (fun j => ((T.kids[j]?).map Tt.hp).getD false) T.kids.length := by cases T <;> rfl
/-- What a node of the store keeps of the parameters in its tree. -/
theorem ist_hp {base : Nat} {w : World} {Sb mb gb clock : Nat} {L : List (Nk × Nat × Nat)} {Z : Nat → Zs} {H : Nat → Bool} (hs : St2 base w Sb mb gb clock L Z H) : ∀ (n : Nat) (T : Tt) (b : Nat), T.cnt ≤ n → IsT L T b → T.all nodeP → H b = T.hp
  | 0, T, _, h, _, _ => by have := T.cnt_pos; omega
  | n + 1, T, b, hn, h, hP => by
    obtain ⟨ps, c, hl, hm, hk⟩ := ist_open h
    have he := hs.ents _ hm
    have h3 : ps.length ≤ 3 := by have := kids_le T; omega
    have ha := ent_arity2 he h3
    have e : (tkidsN T.hd.k).toNat = T.kids.length := by omega
    obtain ⟨lv, _, _, hH⟩ := ent_levs2 he (lev_of (hd_all T hP).2)
    have hH : H b = hpP (parL T.hd.lv) (fun j => H (((keyP T.hd ps).kid j).getD 0)) (tkidsN T.hd.k).toNat := hH
    rw [hH, e, hp_kids T]
    refine hpP_congr _ _ _ _ (fun j hj => ?_)
    have hjp : j < ps.length := by omega
    rw [keyP_kid _ _ h3, List.getElem?_eq_getElem hjp, List.getElem?_eq_getElem hj]
    exact ist_hp hs n _ _ (by have := kid_cnt T j hj; omega) (hk j hjp hj) (kid_all' T hP j hj)
/-- What putParams' function keeps at hand. -/
def ParInv (base Sb cn cl cs : Nat) (vn vl : Value) (names : List ByteArray) (ls : List (List Nd)) (_ : Unit) (w : World) : Prop :=
  w.cell? ⟨cn, 0, none⟩ = some vn ∧ w.cell? ⟨cl, 0, none⟩ = some vl ∧ w.cell? ⟨cs, 0, none⟩ = some (.pointer (some ⟨Sb, 0, none⟩)) ∧ ∀ w' : World, (∀ b : Nat, b < base → w'.heap[b]? = w.heap[b]?) → StrsAt w' vn names ∧ LevsAt w' vl ls
theorem ParInv.same {base Sb cn cl cs : Nat} {vn vl : Value} {names : List ByteArray} {ls : List (List Nd)} (s : Unit) (w w' : World) (h : ParInv base Sb cn cl cs vn vl names ls s w) (hh : ∀ b ∈ List.range base ++ [cn, cl, cs], w'.heap[b]? = w.heap[b]?) : ParInv base Sb cn cl cs vn vl names ls s w' :=
  ⟨heap_cell (hh cn (by simp)) h.1, heap_cell (hh cl (by simp)) h.2.1, heap_cell (hh cs (by simp)) h.2.2.1, fun w2 h2 => h.2.2.2 w2 (fun b hb => (h2 b hb).trans (hh b (by simp [hb])))⟩
theorem all_take' (f : List Nd → Bool) (l : List (List Nd)) (j : Nat) (h : j < l.length) : (l.take (j + 1)).all f = ((l.take j).all f && f l[j]) := by
  rw [List.take_succ_eq_append_getElem h, List.all_append]; simp
set_option maxRecDepth 20000 in
set_option maxHeartbeats 8000000 in
theorem parF_ok (base Sb mb gb cn cl cs : Nat) (vn vl : Value) (names : List ByteArray) (ls : List (List Nd)) (U : Int) (hlen : names.length = ls.length) (hall : ls.all lvlB = true) (hne : ∀ x ∈ List.range base ++ [cn, cl, cs], x ≠ mb) : KnowOk2 base Sb mb gb (fun k => k = mb) (List.range base ++ [cn, cl, cs]) [] (fun _ _ => True) (ParInv base Sb cn cl cs vn vl names ls) (knowQ names (ls.map treeOf)) 122 (.pointer (some ⟨cn, 0, none⟩)) (.pointer (some ⟨cl, 0, none⟩)) (.pointer (some ⟨cs, 0, none⟩)) U := by
  intro T b u s w clock L Z H hs hbase hT hP hu0 hu1 _ _ hI hbl hCs
  obtain ⟨i111, hi111, hz111, hs111, hb111⟩ := info_parts Tryz.info111
  obtain ⟨i0, i1, i2, i3⟩ := hI
  have hH := ist_hp hs T.cnt T b (Nat.le_refl _) hT hP
  obtain ⟨ps, c, hpl, hm, hkk⟩ := ist_open hT
  clear hkk
  obtain ⟨lv, nb0, hlv, hH0⟩ := ent_levs2 (hs.ents _ hm) (lev_of (hd_all T hP).2)
  have nb : NbAt w b (tmL (keyP T.hd ps) lv (Z b) (H b)) := nb0
  rw [hH] at nb
  clear nb0 hH0
  have hlvw := hlv w (Kp.of (Below.refl _ _) hbase)
  obtain ⟨la, lc, rfl, hlc1, hlc2, hlcell⟩ := hlvw
  have a8 : w.cell? ⟨b, 8, none⟩ = some (.slice la T.hd.lv.length lc) := by rw [nb.cell 8 (by omega)]; rfl
  have a12 : w.cell? ⟨b, 12, none⟩ = some (.bool T.hp) := by rw [nb.cell 12 (by omega)]; rfl
  have hAl := lt_cell a8
  have hnl := lt_cell i0
  have hcl := lt_cell i1
  have hsl := lt_cell i2
  have HNE := hide hne
  have HTT := hide hT
  have HS := hide hs
  have HBS := hide hbase
  have HI : Hid (ParInv base Sb cn cl cs vn vl names ls () w) := ⟨i0, i1, i2, i3⟩
  have HPP := hide hP
  have HBL : Hid (∀ x ∈ List.range base ++ [cn, cl, cs], x < w.heap.size) := hbl
  have HCL : Hid (0 < T.hd.lv.length → ∃ b off, la = some ⟨b, off, none⟩ ∧ ∀ i (h : i < T.hd.lv.length), ∃ u, w.cell? ⟨b, off + i, none⟩ = some u ∧ NodesAt w u T.hd.lv[i]) := hlcell
  have HIK : Hid (∀ V : World, Below w.heap.size w V → ParInv base Sb cn cl cs vn vl names ls () V) := fun V hb => HI.out.same _ _ _ (fun x hx => hb.block x (HBL.out x hx))
  have h6 := (lv_small (hd_all T hP)).1
  unfold maxLen at hlc2
  clear hm nb hlcell hlv hne hT hs hbase hbl hCs hP hH hpl
  cases hh : T.hp with
  | false =>
    have HE : Hid (knowQ names (ls.map treeOf) T u s = (some (some T), s)) := by show _ = _; unfold knowQ; rw [if_pos hh]
    rw [HE.out]
    rw [hh] at a12
    clear hh
    go_enter Tryz.func122, Tryz.ntmps122
    go_wp2_with fail
    refine bodyPost_ret (v := .tuple #[.pointer (some ⟨b, 0, none⟩), .bool true]) (by simp [results, Tryz.results122, go_sem]) rfl ?_
    exact ⟨clock, L, Z, H, HS.out, fun x hx => hx, KeptX.of (Below.refl _ _), HI.out, .inr ⟨some T, b, rfl, rfl, HTT.out⟩⟩
  | true =>
    rw [hh] at a12
    by_cases hl0 : T.hd.lv = []
    · have HE : Hid (knowQ names (ls.map treeOf) T u s = (none, s)) := by show _ = _; unfold knowQ; rw [if_neg (by rw [hh]; decide), if_pos hl0]
      rw [HE.out]
      rw [hl0] at a8
      simp only [List.length_nil] at a8
      clear hh hl0
      go_enter Tryz.func122, Tryz.ntmps122
      go_wp2_with fail
      refine bodyPost_ret (v := .tuple #[.pointer none, .bool false]) (by simp [results, Tryz.results122, go_sem]) rfl ?_
      exact ⟨clock, L, Z, H, HS.out, fun x hx => hx, KeptX.of (Below.refl _ _), HI.out, .inl ⟨rfl, none, rfl⟩⟩
    · have HE : Hid (knowQ names (ls.map treeOf) T u s = (some (if T.hd.lv.all (fitL names (ls.map treeOf)) = true then some (.t0 (T.hd.par names (ls.map treeOf))) else none), s)) := by show _ = _; unfold knowQ; rw [if_neg (by rw [hh]; decide), if_neg hl0]
      rw [HE.out]
      have hk0 : T.kids.length = 0 := Classical.byContradiction (fun q => hl0 (kids_nolv (hd_all T HPP.out) (by omega)))
      obtain ⟨hq, rfl⟩ : ∃ h, T = .t0 h := by
        cases T with
        | t0 h => exact ⟨h, rfl⟩
        | t1 h a => simp [Tt.kids] at hk0
        | t2 h a b => simp [Tt.kids] at hk0
        | t3 h a b c => simp [Tt.kids] at hk0
      have hlp : 0 < hq.lv.length := List.length_pos_iff.2 hl0
      have d0 : ((hq.lv.length : Int) == 0) = false := by rw [beq_eq_false_iff_ne]; omega
      have HPH : Hid (nodeP hq 0) := HPP.out
      replace a8 : w.cell? ⟨b, 8, none⟩ = some (.slice la hq.lv.length lc) := a8
      replace HCL : Hid (0 < hq.lv.length → ∃ b off, la = some ⟨b, off, none⟩ ∧ ∀ i (q : i < hq.lv.length), ∃ u, w.cell? ⟨b, off + i, none⟩ = some u ∧ NodesAt w u hq.lv[i]) := HCL.out
      replace hlc1 : hq.lv.length ≤ lc := hlc1
      replace h6 : hq.lv.length ≤ 6 := h6
      have HPN := hide (fun (l : List Nd) (V : World) (uv : Value) (hb : Below w.heap.size w V) (hu : NodesAt V uv l) (hv : lvlB l = true) => putNamed_any uv vn vl l names ls (treeOf l) (ls.map treeOf) V hu ((HIK.out V hb).2.2.2 V (fun _ _ => rfl)).1 ((HIK.out V hb).2.2.2 V (fun _ _ => rfl)).2 hlen (treeOf_ok hv) (trees_ok hall))
      have HWL := hide (fun (V : World) (lvv : Value) (hb : Below w.heap.size w V) (hv : LsV w.heap.size V.heap.size V lvv (hq.lv.map (putL names (ls.map treeOf)))) (hf : hq.lv.all (fitL names (ls.map treeOf)) = true) => withLevels_any base Sb mb gb clock L Z H hq b lvv (hq.lv.map (putL names (ls.map treeOf))) V (HS.out.keep hb HBS.out) (Nat.le_trans HBS.out hb.size) HTT.out HPH.out (fun w' hk => hv.kp hk) (fun l hl => by
        rw [List.mem_map] at hl
        obtain ⟨m, hm, rfl⟩ := hl
        rw [fitL_ok (trees_ok hall).ok (lev_of HPH.out.2 m hm)]
        exact List.all_eq_true.1 hf m hm) (by rw [List.length_map]; exact h6))
      obtain ⟨tt, htt⟩ : ∃ tt, tt = ls.map treeOf := ⟨_, rfl⟩
      rw [← htt] at HPN HWL
      have HPR : Hid (Tt.t0 (hq.par names tt) = .t0 ⟨hq.k, hq.n, hq.m, hq.s, hq.lv.map (putL names tt)⟩) := rfl
      have hR0 : (if (Tt.t0 hq).hd.lv.all (fitL names (ls.map treeOf)) = true then some (Tt.t0 ((Tt.t0 hq).hd.par names (ls.map treeOf))) else none) = (if hq.lv.all (fitL names tt) = true then some (.t0 ⟨hq.k, hq.n, hq.m, hq.s, hq.lv.map (putL names tt)⟩) else none) := by rw [htt]; rfl
      rw [hR0]
      obtain ⟨R, hR⟩ : ∃ R : Option Tt, R = (if hq.lv.all (fitL names tt) = true then some (.t0 ⟨hq.k, hq.n, hq.m, hq.s, hq.lv.map (putL names tt)⟩) else none) := ⟨_, rfl⟩
      rw [← hR]
      have HRR := hide hR
      clear hR HE HPR
      obtain ⟨na, nn, nc, rfl⟩ : ∃ na nn nc, vn = .slice na nn nc := by obtain ⟨x, y, e, _⟩ := (HI.out.2.2.2 w (fun _ _ => rfl)).1; exact ⟨_, _, _, e⟩
      obtain ⟨va, vvn, vc, rfl⟩ : ∃ na nn nc, vl = .slice na nn nc := by obtain ⟨x, y, e, _⟩ := (HI.out.2.2.2 w (fun _ _ => rfl)).2; exact ⟨_, _, _, e⟩
      have HST := hide (fun (V : World) (hb : Below w.heap.size w V) => (HS.out.keep hb HBS.out).cell.2)
      have H0 : Hid (LsV w.heap.size w.heap.size w (.slice none 0 0) ((hq.lv.map (putL names tt)).take 0)) := lsV_nil _ _ _
      clear hh hl0 hk0 hlp hR0 htt hlen hall i3
      go_enter Tryz.func122, Tryz.ntmps122
      go_wp2_with fail
      go_loopw [9, 31] (fun r i wr => ∃ (j cp : Nat) (ad : Option Addr), j ≤ hq.lv.length ∧ i = .int .i64 j ∧ r = .slice ad j cp ∧ Hid (LsV w.heap.size wr.heap.size wr (.slice ad j cp) ((hq.lv.map (putL names tt)).take j)) ∧ Hid ((hq.lv.take j).all (fitL names tt) = true) ∧ Hid (Below w.heap.size w wr)) (fun _ i _ => hq.lv.length - (intOf i).toNat)
      case atStart => exact ⟨0, 0, none, by omega, rfl, rfl, H0, by show _ = _; simp, Below.refl _ _⟩
      case round =>
        clear H0
        obtain ⟨j, cp, ad, hj, rfl, rfl, HLJ, HAJ, HBJ⟩ := hrel
        have hwsz := HBJ.out.size
        by_cases hlt : j < hq.lv.length
        · have hlt' : (j : Int) < hq.lv.length := by omega
          have HQ1 := hide (show j + 1 ≤ hq.lv.length from hlt)
          obtain ⟨lb, off, rfl, hcell⟩ := HCL.out (by omega)
          obtain ⟨u0, d1, hu0⟩ := hcell j hlt
          have d1 := keep_cell HBJ.out d1
          have hbl := lt_cell d1
          have HVL := hide (lev_of HPH.out.2 hq.lv[j] (List.getElem_mem hlt))
          have HTK : Hid ((hq.lv.map (putL names tt)).take (j + 1) = (hq.lv.map (putL names tt)).take j ++ [putL names tt hq.lv[j]]) := by
            show _ = _
            rw [List.take_succ_eq_append_getElem (by simp [hlt]), List.getElem_map]
            rfl
          have HAK := hide (all_take' (fitL names tt) hq.lv j hlt)
          have HNA := hide (fun (q : fitL names tt hq.lv[j] = false) => (show hq.lv.all (fitL names tt) = false from List.all_eq_false.2 ⟨hq.lv[j], List.getElem_mem hlt, by rw [q]; decide⟩))
          have HTL : Hid (((hq.lv.map (putL names tt)).take j).length = j) := by show _ = _; simp; omega
          generalize hq.lv[j] = l at *
          have HU0 := hide (hu0.keep HBJ.out)
          obtain ⟨ua, uc, rfl, _, _, _⟩ := hu0
          obtain ⟨W1, hW1⟩ : ∃ W1, W1 = wr.alloc (.cells #[.slice ua l.length uc] 111) := ⟨_, rfl⟩
          have hbW : Below wr.heap.size wr W1 := by rw [hW1]; exact bel_alloc (Below.refl _ _) _
          have c1 : W1.cell? ⟨wr.heap.size, 0, none⟩ = some (.slice ua l.length uc) := by rw [hW1]; simp [go_sem]
          have hcl1 := lt_cell c1
          have hBW1 := HBJ.out.trans (hbW.mono hwsz)
          have j0 := keep_cell hBW1 i0
          have j1 := keep_cell hBW1 i1
          have hj0 := lt_cell j0
          have hj1 := lt_cell j1
          have HCP := hide (HPN.out l W1 (.slice ua l.length uc) hBW1 (HU0.out.keep hbW) HVL.out)
          have HBW := hide hbW
          clear hcell hbW hBW1
          go_upto_region 9 with fail
          rw [← hW1]
          clear hW1 d1 hbl
          go_wp2_with fail
          refine HCP.out.mono ?_
          rintro e w2 ⟨hout, hb2⟩
          have HB2 := hide (bel_trans HBW.out hb2)
          have hs2 := hb2.size
          have hWs := HBW.out.size
          clear j0 j1 hj0 hj1 c1 hcl1 HCP
          cases hfit : fitsB ((treeOf l).put names tt) with
          | false =>
            unfold sizedR at hout
            rw [if_neg (by rw [hfit]; decide)] at hout
            have hout : e = .returned (.tuple #[.agg #[.slice none 0 0], .int .i64 3]) := hout
            subst hout
            have HF := hide (HNA.out hfit)
            obtain ⟨W3, hW3⟩ : ∃ W3, W3 = w2.alloc (.cells #[.slice none 0 0] 111) := ⟨_, rfl⟩
            have hb3 : Below w2.heap.size w2 W3 := by rw [hW3]; exact bel_alloc (Below.refl _ _) _
            have HB3 := hide (HBJ.out.trans ((bel_trans HB2.out hb3).mono hwsz))
            have s0 := keep_cell HB3.out i2
            have s1 := HST.out W3 HB3.out
            have hs0 := lt_cell s0
            have hs1 := lt_cell s1
            clear hb3 hb2 hfit
            go_upto_region 10 with fail
            rw [← hW3]
            clear hW3
            go_wp2_with fail
            refine bodyPost_ret (v := .tuple #[.pointer (some ⟨gb, 0, none⟩), .bool true]) (by simp [results, Tryz.results122, go_sem]) rfl ?_
            rw [HRR.out, HF.out]
            exact ⟨clock, L, Z, H, HS.out.keep HB3.out HBS.out, fun x hx => hx, KeptX.of HB3.out, HIK.out _ HB3.out, .inr ⟨none, gb, rfl, rfl, rfl⟩⟩
          | true =>
            unfold sizedR at hout
            rw [if_pos hfit] at hout
            obtain ⟨g2, cap2, rfl, hnd2⟩ := hout
            have hcl2 : ((treeOf l).put names tt).cnt = (putL names tt l).length := (Tr.flat_len _ 0).symm
            rw [hcl2] at hnd2 ⊢
            have hnd2 : NdW W1.heap.size w2 (.slice (some ⟨g2, 0, none⟩) (putL names tt l).length cap2) (putL names tt l) := hnd2
            have HFT : Hid (fitL names tt l = true) := hfit
            generalize putL names tt l = pl at *
            obtain ⟨W3, hW3⟩ : ∃ W3, W3 = w2.alloc (.cells #[.slice (some ⟨g2, 0, none⟩) pl.length cap2] 111) := ⟨_, rfl⟩
            have hb3 : Below w2.heap.size w2 W3 := by rw [hW3]; exact bel_alloc (Below.refl _ _) _
            have HN3 : Hid (NdR W1.heap.size W3.heap.size W3 (.slice (some ⟨g2, 0, none⟩) pl.length cap2) pl) := ((hnd2.toR).keep hb3 (Nat.le_refl _)).widen hb3.size
            have hs3 := hb3.size
            have c3 : W3.cell? ⟨w2.heap.size, 0, none⟩ = some (.slice (some ⟨g2, 0, none⟩) pl.length cap2) := by rw [hW3]; simp [go_sem]
            have hc3 := lt_cell c3
            have hsz3 : W3.heap.size = w2.heap.size + 1 := by rw [hW3]; simp
            have HSZ3 := hide hsz3
            obtain ⟨W4, hW4⟩ : ∃ W4, W4 = W3.alloc (.cells #[.slice (some ⟨g2, 0, none⟩) pl.length cap2] 111) := ⟨_, rfl⟩
            have hb4 : Below W3.heap.size W3 W4 := by rw [hW4]; exact bel_alloc (Below.refl _ _) _
            have hh4 : W4.heap[W3.heap.size]? = some (.cells #[.slice (some ⟨g2, 0, none⟩) pl.length cap2] 111 (0, 0)) := by rw [hW4]; exact heap_alloc_new W3 _
            have HN4 : Hid (NdR W1.heap.size W4.heap.size W4 (.slice (some ⟨g2, 0, none⟩) pl.length cap2) pl) := (HN3.out.keep hb4 (Nat.le_refl _)).widen hb4.size
            have HB4 := hide (bel_trans (bel_trans HB2.out hb3) hb4)
            have hsz4 : W4.heap.size = W3.heap.size + 1 := by rw [hW4]; simp
            have HSZ4 := hide hsz4
            have hs4 := hb4.size
            obtain ⟨xs, ss, tq, ho, hrg, hown, hnd⟩ := HLJ.out
            rw [HTL.out] at ho
            have HHO := hide ho
            have HOW4 := hide (row_keep HB4.out ho)
            have HRG := hide hrg
            have HHN := hide hown
            have HND := hide hnd
            clear ho hrg hown hnd hnd2 hb3 hb4 hb2 HN3 hfit hcl2 hsz3 hsz4
            go_upto_region 10 with fail
            rw [← hW3]
            clear hW3
            go_wp2_with (first
              | (at_builtin
                 rw [← hW4]
                 refine wpList_append_lies _ rfl _ _ 54 rfl w.heap.size 111 i111 (.agg #[.slice none 0 0]) 1 24 Tryz.underlying54 hi111 hz111 hs111 hb111 rfl (by omega) (.slice ad j cp) j xs rfl HOW4.out ⟨W3.heap.size, 0, none⟩ 1 1 [.slice (some ⟨g2, 0, none⟩) pl.length cap2] rfl rfl (World.news_of_block (cs := #[.slice (some ⟨g2, 0, none⟩) pl.length cap2]) (t := 111) (fr := (0, 0)) hh4) (by intro u hu; simp at hu; rcases hu with rfl; rfl) (by omega) (by unfold maxLen; omega) (by omega) (by omega) W4.heap.size rfl ?_)
              | fail)
            intro g5 cap5 w5 hown5 hgrow5 hat5 hlt5
            rw [← hW4] at hgrow5
            have hsz3 := HSZ3.out
            have hsz4 := HSZ4.out
            have hend := LsV.snoc (ls := (hq.lv.map (putL names tt)).take j) (l := pl) (by omega) HB4.out (by rw [HTL.out]; exact HHO.out) HRG.out HHN.out HND.out (by omega) HN4.out (by omega) hgrow5 (by rcases hat5 with q | q; exact .inl q; exact .inr (by omega)) hlt5 (by rw [HTL.out]; exact hown5)
            rw [HTL.out, ← HTK.out] at hend
            have HEN := hide hend
            have HB5 : Hid (Below w.heap.size w w5) := (HBJ.out.trans (HB4.out.mono hwsz)).grown hgrow5 (by omega) (fun k hk => (World.ownsRow.lt HHO.out k hk).1)
            have HA5 : Hid ((hq.lv.take (j + 1)).all (fitL names tt) = true) := by show _ = _; rw [HAK.out, HAJ.out, HFT.out]; rfl
            clear hend hown5 hgrow5 hat5 hlt5 HOW4 HRG HHN HND HN4 hW4 hh4 hsz3 hsz4 c3 hc3
            go_wp2_with fail
            go_roundw
            case rel => exact ⟨j + 1, cap5, some ⟨g5, 0, none⟩, HQ1.out, by go_num, rfl, HEN, HA5, HB5⟩
            case measure => have := HQ1.out; simp [intOf]; omega
        · have hlt' : ¬ (j : Int) < hq.lv.length := by omega
          have e : j = hq.lv.length := by omega
          subst e
          have hEL := HLJ.out
          rw [List.take_of_length_le (by simp)] at hEL
          have hA := HAJ.out
          rw [List.take_length] at hA
          have HA := hide hA
          have HW2 := hide (HWL.out wr (.slice ad hq.lv.length cp) HBJ.out hEL hA)
          have s0 := keep_cell HBJ.out i2
          have hs0 := lt_cell s0
          clear hEL hA HLJ HAJ
          go_wp2_with fail
          refine HW2.out.mono ?_
          rintro e w2 ⟨b', clock', L', Z', H', rfl, g1, g2, g3, g4⟩
          have G1 := hide g1
          have G2 := hide g2
          have G3 := hide g3
          have hk4 : KeptX (fun k => k = mb) wr w2 := KeptX.grown g4 (fun x hx => (Option.some.inj hx).symm)
          have G4 := hide ((KeptX.of HBJ.out).trans hk4)
          have GI : Hid (ParInv base Sb cn cl cs (.slice na nn nc) (.slice va vvn vc) names ls () w2) := (HIK.out wr HBJ.out).same _ _ _ (fun x hx => hk4.block x (by have := HBL.out x hx; omega) (HNE.out x hx))
          clear g1 g2 g3 g4 hk4 s0 hs0
          go_wp2_with fail
          refine bodyPost_ret (v := .tuple #[.pointer (some ⟨b', 0, none⟩), .bool true]) (by simp [results, Tryz.results122, go_sem]) rfl ?_
          rw [HRR.out, HA.out, if_pos rfl]
          exact ⟨clock', L', Z', H', G1.out, G2.out, G4.out, GI.out, .inr ⟨_, b', rfl, rfl, G3.out⟩⟩
end Go.Proofs.YtbgibiongnhjoaaGreat

/- What the specification's l3Make answers at a leaf whose levels may be too great. -/
namespace Go.Proofs.YtbgibiongnhjoaaGreat
open Go.ChangeShapes Go.WideShapes Go.ChangeAt Go.RowKit

/-- The size that a leaf keeps: too great where a level is. -/
def fitZ (us : List Tr) : Int := if us.all fitsB = true then 1 else 20001
theorem fitZ_snoc (us : List Tr) (j : Nat) (h : j < us.length) : fitZ (us.take (j + 1)) = if fitsB us[j] = true then fitZ (us.take j) else 20001 := by
  unfold fitZ
  rw [List.take_succ_eq_append_getElem h, List.all_append]
  cases h1 : fitsB us[j] <;> cases h2 : (us.take j).all fitsB <;> simp [h1]
theorem fitZ_cases (us : List Tr) : fitZ us = 1 ∨ fitZ us = 20001 := by
  unfold fitZ
  split
  · exact .inl rfl
  · exact .inr rfl
set_option maxRecDepth 20000 in
set_option maxHeartbeats 4000000 in
theorem l3MakeL_any (k n m : Int) (s : ByteArray) (lvv kdv : Value) (lps : List Nat) (us : List Tr) (w : World) (hlr : PtrRow w lvv lps) (hlt : TreesAt w lps us) (hk : PtrRow w kdv []) (hk1 : k ≠ 1) (hk9 : k ≠ 9) :
    Calls Tryz.prog 92 #[.int .i64 k, .int .i64 n, .int .i64 m, .string s, lvv, kdv] w fun e w' => e = .returned (ptrV w.heap.size) ∧ TnAt w.heap.size w' w.heap.size (tnL k n m s lvv kdv ⟨fitZ us, 0, false⟩) ∧ Below w.heap.size w w' := by
  have HLT := hide hlt
  obtain ⟨la, lc, rfl, hlc1, hlc2, hlcell⟩ := hlr
  have HLC : Hid (0 < lps.length → ∃ b off, la = some ⟨b, off, none⟩ ∧ ∀ j (h : j < lps.length), w.cell? ⟨b, off + j, none⟩ = some (ptrV lps[j])) := hlcell
  obtain ⟨ka, kc, rfl, hkc1, hkc2, _⟩ := hk
  unfold maxLen at hlc2 hkc2
  have HUL := hide hlt.1
  simp only [List.length_nil] at *
  have e1 : (k == 1) = false := beq_eq_false_iff_ne.2 hk1
  have e9 : (k == 9) = false := beq_eq_false_iff_ne.2 hk9
  have HT0 := hide (tn_new w k n m s (.slice la lps.length lc) (.slice ka 0 kc) ⟨1, 0, false⟩)
  have HB0 := hide (bel_alloc (Below.refl w.heap.size w) (.cells #[.int .i64 k, .int .i64 n, .int .i64 m, .string s, .slice la lps.length lc, .slice ka 0 kc, .int .i64 1, .int .i64 0, .bool false] 143))
  clear hlt hlcell hk1 hk9
  go_enter Tryz.func92, Tryz.ntmps92
  go_wp2_with fail
  go_loopw [14] (fun i wr => ∃ (j : Nat), j ≤ lps.length ∧ i = .int .i64 j ∧ Hid (TnAt w.heap.size wr w.heap.size (tnL k n m s (.slice la lps.length lc) (.slice ka 0 kc) ⟨fitZ (us.take j), 0, false⟩)) ∧ Hid (Below w.heap.size w wr)) (fun i _ => lps.length - (intOf i).toNat)
  case atStart => exact ⟨0, by omega, rfl, HT0.out, HB0.out⟩
  case round =>
    obtain ⟨j, hj, rfl, HT, HBL⟩ := hrel
    clear HT0 HB0
    by_cases hlt : j < lps.length
    · obtain ⟨b, off, rfl, hc⟩ := HLC.out (by omega)
      have c1 := keep_cell HBL.out (hc j hlt)
      simp only [ptrV] at c1
      have hju : j < us.length := by have := HUL.out; omega
      have HTR := hide ((HLT.out.keep HBL.out).2 j hlt hju)
      have HSN := hide (fitZ_snoc us j hju)
      have HQ1 := hide (show j + 1 ≤ lps.length from hlt)
      have hlt' : (j : Int) < lps.length := by omega
      have hbl := lt_cell c1
      clear hc
      generalize us[j] = u at *
      have HFI := hide (l1Fits_any u _ _ HTR.out)
      cases hf : fitsB u
      · rw [hf] at HFI HSN
        go_wp2_with fail
        refine HFI.out.mono ?_
        rintro e w2 ⟨rfl, hb2⟩
        have HT2 := HT.out.keep hb2
        obtain ⟨x6, x7, x8, xf⟩ := tn_cells HT2
        dsimp only at x6 x7 x8
        have hsz1 := (World.ownsRow.lt HT2 w.heap.size rfl).2
        have HT3 := hide (tn_set6 HT2 20001)
        have HB3 := hide (bel_set (HBL.out.trans (hb2.mono HBL.out.size)) 6 (.int .i64 20001))
        clear HT2 hb2
        go_wp2_with fail
        go_roundw
        case rel => exact ⟨j + 1, HQ1.out, by go_num, by show TnAt _ _ _ _; rw [HSN.out]; exact HT3.out, HB3⟩
        case measure => simp [intOf]; omega
      · rw [hf] at HFI HSN
        go_wp2_with fail
        refine HFI.out.mono ?_
        rintro e w2 ⟨rfl, hb2⟩
        go_wp2_with fail
        go_roundw
        case rel => exact ⟨j + 1, by omega, by go_num, by show TnAt _ _ _ _; rw [HSN.out]; exact HT.out.keep hb2, HBL.out.trans (hb2.mono HBL.out.size)⟩
        case measure => simp [intOf]; omega
    · have hlt' : ¬ (j : Int) < lps.length := by omega
      have e : j = us.length := by have := HUL.out; omega
      have HT := HT.out
      rw [e, List.take_length] at HT
      have HT := hide HT
      obtain ⟨x6, x7, x8, xf⟩ := tn_cells HT.out
      dsimp only at x6 x7 x8
      have HT1 := hide (tn_set8 HT.out false)
      have HB1 := hide (bel_set HBL.out 8 (.bool false))
      have hsz1 := (World.ownsRow.lt HT.out w.heap.size rfl).2
      clear HLC HLT
      rcases fitZ_cases us with hz | hz
      · rw [hz] at x6 HT1
        have HZ := hide hz
        clear hz
        go_wp2_with fail
        go_loopw [15] (fun i wr2 => i = .int .i64 0 ∧ Hid (TnAt w.heap.size wr2 w.heap.size (tnL k n m s (.slice la lps.length lc) (.slice ka 0 kc) ⟨1, 0, false⟩)) ∧ Hid (Below w.heap.size w wr2)) (fun _ _ => 0)
        case atStart => exact ⟨rfl, HT1.out, HB1.out⟩
        case round =>
          obtain ⟨rfl, HT2, HB2⟩ := hrel
          clear HT1 HB1 HT HBL x6 x7 x8 xf hsz1
          obtain ⟨x6, x7, x8, xf⟩ := tn_cells HT2.out
          dsimp only at x6 x7 x8
          go_wp2_with fail
          go_ret
          exact ⟨rfl, by rw [HZ.out]; exact HT2.out, HB2.out⟩
      · rw [hz] at x6 HT1
        have HZ := hide hz
        clear hz
        go_wp2_with fail
        go_loopw [15] (fun i wr2 => i = .int .i64 0 ∧ Hid (TnAt w.heap.size wr2 w.heap.size (tnL k n m s (.slice la lps.length lc) (.slice ka 0 kc) ⟨20001, 0, false⟩)) ∧ Hid (Below w.heap.size w wr2)) (fun _ _ => 0)
        case atStart => exact ⟨rfl, HT1.out, HB1.out⟩
        case round =>
          obtain ⟨rfl, HT2, HB2⟩ := hrel
          clear HT1 HB1 HT HBL x6 x7 x8 xf hsz1
          obtain ⟨x6, x7, x8, xf⟩ := tn_cells HT2.out
          dsimp only at x6 x7 x8
          have hsz2 := (World.ownsRow.lt HT2.out w.heap.size rfl).2
          go_wp2_with fail
          go_ret
          exact ⟨rfl, by rw [HZ.out]; exact tn_set6 HT2.out 20001, bel_set HB2.out 6 _⟩
end Go.Proofs.YtbgibiongnhjoaaGreat

/- The specification's trees, maybe too great: nodes that stand for trees; l3Under, l3With, l3Var. -/
namespace Go.Proofs.YtbgibiongnhjoaaGreat
open Go.ChangeShapes Go.WideShapes Go.ChangeAt Go.RowKit

/-- A node of the specification's stands for a tree, which may be too great; its rows lie in blocks that Q lets by. -/
def SpG (Q : Nat → Prop) (w : World) : Tt → Nat → Prop
  | .t0 h, p => FnAt Q w p (h.td []) [] (Tt.t0 h).zG
  | .t1 h a, p => ∃ pa, SpG Q w a pa ∧ FnAt Q w p (h.td []) [pa] (Tt.t1 h a).zG
  | .t2 h a b, p => ∃ pa pb, SpG Q w a pa ∧ SpG Q w b pb ∧ FnAt Q w p (h.td []) [pa, pb] (Tt.t2 h a b).zG
  | .t3 h a b c, p => ∃ pa pb pc, SpG Q w a pa ∧ SpG Q w b pb ∧ SpG Q w c pc ∧ FnAt Q w p (h.td []) [pa, pb, pc] (Tt.t3 h a b c).zG
theorem SpG.to {Q R : Nat → Prop} {w w' : World} (hc : Carry Q R w w') : ∀ {T : Tt} {p : Nat}, SpG Q w T p → SpG R w' T p
  | .t0 _, _, h => FnAt.to h hc
  | .t1 _ _, _, ⟨pa, h1, h⟩ => ⟨pa, h1.to hc, FnAt.to h hc⟩
  | .t2 _ _ _, _, ⟨pa, pb, h1, h2, h⟩ => ⟨pa, pb, h1.to hc, h2.to hc, FnAt.to h hc⟩
  | .t3 _ _ _ _, _, ⟨pa, pb, pc, h1, h2, h3, h⟩ => ⟨pa, pb, pc, h1.to hc, h2.to hc, h3.to hc, FnAt.to h hc⟩
theorem SpG.keep {Q : Nat → Prop} {w w' : World} {T : Tt} {p : Nat} (h : SpG Q w T p) (hb : Below w.heap.size w w') : SpG Q w' T p := h.to (Carry.below hb)
theorem SpG.weak {Q R : Nat → Prop} {w : World} {T : Tt} {p : Nat} (h : SpG Q w T p) (hq : ∀ b, b < w.heap.size → Q b → R b) : SpG R w T p :=
  h.to ⟨fun _ _ h => h, fun b hb hl => ⟨hq b hl hb, fun _ _ h => h⟩, fun _ _ h => h⟩
/-- A tree that is not too great. -/
theorem SpT.toG {Q : Nat → Prop} {w : World} : ∀ {T : Tt} {p : Nat}, T.all varP → T.cnt ≤ 20000 → SpT Q w T p → SpG Q w T p
  | .t0 h, p, hp, hc, hs => by
    have e := zG_eq (.t0 h) hp hc
    show FnAt Q w p (h.td []) [] (Tt.t0 h).zG
    rw [e]; exact hs
  | .t1 h a, p, hp, hc, ⟨pa, h1, hs⟩ => by
    have e := zG_eq (.t1 h a) hp hc
    simp only [Tt.cnt] at hc
    refine ⟨pa, h1.toG hp.2 (by omega), ?_⟩
    rw [e]; exact hs
  | .t2 h a b, p, hp, hc, ⟨pa, pb, h1, h2, hs⟩ => by
    have e := zG_eq (.t2 h a b) hp hc
    simp only [Tt.cnt] at hc
    refine ⟨pa, pb, h1.toG hp.2.1 (by omega), h2.toG hp.2.2 (by omega), ?_⟩
    rw [e]; exact hs
  | .t3 h a b c, p, hp, hc, ⟨pa, pb, pc, h1, h2, h3, hs⟩ => by
    have e := zG_eq (.t3 h a b c) hp hc
    simp only [Tt.cnt] at hc
    refine ⟨pa, pb, pc, h1.toG hp.2.1 (by omega), h2.toG hp.2.2.1 (by omega), h3.toG hp.2.2.2 (by omega), ?_⟩
    rw [e]; exact hs
theorem spg_open {Q : Nat → Prop} {w : World} {T : Tt} {p : Nat} (h : SpG Q w T p) : ∃ ps : List Nat, ps.length = T.kids.length ∧ FnAt Q w p (T.hd.td []) ps T.zG ∧ ∀ j (h1 : j < ps.length) (h2 : j < T.kids.length), SpG Q w T.kids[j] ps[j] := by
  cases T with
  | t0 hd => exact ⟨[], rfl, h, fun j h1 => by simp at h1⟩
  | t1 hd x =>
    obtain ⟨p, h1, h⟩ := h
    refine ⟨[p], rfl, h, fun j h2 h3 => ?_⟩
    have e : j = 0 := by simp at h2; omega
    subst e; exact h1
  | t2 hd x y =>
    obtain ⟨p, q, h1, h2, h⟩ := h
    refine ⟨[p, q], rfl, h, fun j h3 h4 => ?_⟩
    rcases (show j = 0 ∨ j = 1 by simp at h3; omega) with rfl | rfl
    · exact h1
    · exact h2
  | t3 hd x y z =>
    obtain ⟨p, q, r, h1, h2, h3, h⟩ := h
    refine ⟨[p, q, r], rfl, h, fun j h4 h5 => ?_⟩
    rcases (show j = 0 ∨ j = 1 ∨ j = 2 by simp at h4; omega) with rfl | rfl | rfl
    · exact h1
    · exact h2
    · exact h3
theorem mk_zG (h : Hd) (ts : List Tt) (h3 : ts.length ≤ 3) : (Tt.mk h ts).zG = zmkG h.k h.n (ts.map Tt.zG) := by
  match ts, h3 with
  | [], _ => rfl
  | [a], _ => rfl
  | [a, b], _ => rfl
  | [a, b, c], _ => rfl
theorem spg_mk {Q : Nat → Prop} {w : World} {h : Hd} {ts : List Tt} {ps : List Nat} {p : Nat} (h3 : ts.length ≤ 3) (hl : ps.length = ts.length) (hf : FnAt Q w p (h.td []) ps (Tt.mk h ts).zG) (hk : ∀ j (h1 : j < ps.length) (h2 : j < ts.length), SpG Q w ts[j] ps[j]) : SpG Q w (Tt.mk h ts) p := by
  match ts, ps, hl, h3 with
  | [], [], _, _ => exact hf
  | [a], [p], _, _ => exact ⟨p, hk 0 (by simp) (by simp), hf⟩
  | [a, a'], [p, p'], _, _ => exact ⟨p, p', hk 0 (by simp) (by simp), hk 1 (by simp) (by simp), hf⟩
  | [a, a', a''], [p, p', p''], _, _ => exact ⟨p, p', p'', hk 0 (by simp) (by simp), hk 1 (by simp) (by simp), hk 2 (by simp) (by simp), hf⟩
theorem spg_sz {Q : Nat → Prop} {w : World} {T : Tt} {p : Nat} (h : SpG Q w T p) : SzAt w p T.zG := by
  obtain ⟨ps, _, hf, _⟩ := spg_open h
  exact hf.sz
/-- Numbers of variables that are in range. -/
def numP (h : Hd) (_ : Nat) : Prop := h.k = 1 → 0 ≤ h.n ∧ h.n ≤ 1000000
theorem node_num (h : Hd) (c : Nat) (hp : nodeP h c) : numP h c := fun e => by
  have := num_of (td := h.td []) hp.2 e
  have h1 : 0 ≤ h.n ∧ h.n ≤ 20000 := this
  omega
theorem zsat_ok {z : Zs} (h : ZOkG z) : ZOkG (zsat z) := by
  unfold zsat
  refine ⟨?_, h.2⟩
  show 1 ≤ (if 20000 < z.sz then (20001 : Int) else z.sz)
  split
  · omega
  · exact h.1
theorem zmkG_ok (k n : Int) (zs : List Zs) (h : ∀ z ∈ zs, ZOkG z) (hn : k = 1 → 0 ≤ n ∧ n ≤ 1000000) : ZOkG (zmkG k n zs) := by
  unfold zmkG
  apply zsat_ok
  split
  · rename_i h1
    have := hn h1.1
    exact ⟨by show (1 : Int) ≤ 20001; omega, by show 0 ≤ n + 1; omega, by show n + 1 ≤ 1000001; omega⟩
  · have h1 := loP_boundsG k n zs h hn zs.length
    refine ⟨?_, h1.1, h1.2⟩
    show 1 ≤ 1 + sumZ zs
    have := sumZ_nonneg zs (fun z hz => (h z hz).1)
    omega
theorem zG_ok : ∀ T : Tt, T.all numP → ZOkG T.zG
  | .t0 h, hp => zmkG_ok _ _ _ (fun z hz => by simp at hz) hp
  | .t1 h a, hp => zmkG_ok _ _ _ (fun z hz => by simp at hz; subst hz; exact zG_ok a hp.2) hp.1
  | .t2 h a b, hp => zmkG_ok _ _ _ (fun z hz => by
      simp at hz
      rcases hz with rfl | rfl
      · exact zG_ok a hp.2.1
      · exact zG_ok b hp.2.2) hp.1
  | .t3 h a b c, hp => zmkG_ok _ _ _ (fun z hz => by
      simp at hz
      rcases hz with rfl | rfl | rfl
      · exact zG_ok a hp.2.1
      · exact zG_ok b hp.2.2.1
      · exact zG_ok c hp.2.2.2) hp.1
end Go.Proofs.YtbgibiongnhjoaaGreat
