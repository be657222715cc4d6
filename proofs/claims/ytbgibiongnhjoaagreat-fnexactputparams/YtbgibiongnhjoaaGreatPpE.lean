/- What the specification's l3Params answers: the tree with levels put for parameters, or one that is too great. -/
import Derived.Test.YtbgibiongnhjoaaGreatStEx
import Derived.Test.YtbgibiongnhjoaaGreatSpA
import Derived.Test.YtbgibiongnhjoaaGreatFoB
import Derived.Deep.AppendLies
import Derived.Test.YtbgibiongnhjoaaGreatTQ
namespace Go.Proofs.YtbgibiongnhjoaaGreat
open Go.ChangeShapes Go.WideShapes Go.ChangeAt Go.RowKit

/-- What is known of a node that l3Params answers for a tree. -/
def ParZ (Q : Nat → Prop) (names : List ByteArray) (ts : List Tr) (w : World) (T : Tt) (p : Nat) (z : Zs) : Prop :=
  SzAt w p z ∧ (ZOkG z ∧ z.sz ≤ 20001) ∧ (parG names ts T = true → SpG Q w (parR names ts T) p ∧ z = (parR names ts T).zG) ∧ (parG names ts T = false → z.sz = 20001)
theorem ParZ.to {Q R : Nat → Prop} {names : List ByteArray} {ts : List Tr} {w w' : World} {T : Tt} {p : Nat} {z : Zs} (h : ParZ Q names ts w T p z) (hc : Carry Q R w w') : ParZ R names ts w' T p z := by
  obtain ⟨⟨k, n, m, s, lv, kv, h1⟩, h2, h3, h4⟩ := h
  exact ⟨⟨k, n, m, s, lv, kv, hc.node _ _ h1⟩, h2, fun e => ⟨(h3 e).1.to hc, (h3 e).2⟩, h4⟩
theorem ParZ.keep {Q : Nat → Prop} {names : List ByteArray} {ts : List Tr} {w w' : World} {T : Tt} {p : Nat} {z : Zs} (h : ParZ Q names ts w T p z) (hb : Below w.heap.size w w') : ParZ Q names ts w' T p z := h.to (Carry.below hb)
theorem parG_kids (names : List ByteArray) (ts : List Tr) (T : Tt) : parG names ts T = (T.hd.lv.all (fitL names ts) && T.kids.all (parG names ts)) := by
  cases T <;> simp [parG, Tt.hd, Tt.kids, Bool.and_assoc]
theorem parR_mk (names : List ByteArray) (ts : List Tr) (T : Tt) : parR names ts T = Tt.mk (T.hd.par names ts) (T.kids.map (parR names ts)) := by
  cases T <;> rfl
theorem zsat_le (z : Zs) : (zsat z).sz ≤ 20001 := by
  unfold zsat
  show (if 20000 < z.sz then (20001 : Int) else z.sz) ≤ 20001
  split <;> omega
theorem zG_top (T : Tt) : T.zG.sz ≤ 20001 := by
  cases T <;> exact zsat_le _
/-- A tree that stays. -/
theorem par_same {Q : Nat → Prop} {names : List ByteArray} {ts : List Tr} {w : World} {T : Tt} {p : Nat} (h : SpG Q w T p) (hP : T.all nodeP) (e : parR names ts T = T ∧ parG names ts T = true) : ParZ Q names ts w T p T.zG :=
  ⟨spg_sz h, ⟨zG_ok T (all_mono node_num hP), zG_top T⟩, fun _ => by rw [e.1]; exact ⟨h, rfl⟩, fun q => by rw [e.2] at q; cases q⟩
/-- A node made anew of its kids. -/
theorem par_node {Q : Nat → Prop} {names : List ByteArray} {ts : List Tr} {w : World} {T : Tt} {p : Nat} {lvv kdv : Value} {ps : List Nat} {zs : List Zs} (hP : T.all nodeP) (hl : T.hd.lv = []) (tn : TnAt 0 w p (tnL T.hd.k T.hd.n T.hd.m T.hd.s lvv kdv (zmkG T.hd.k T.hd.n zs))) (hk : PtrRowQ Q w kdv ps) (hv : LevRowF Q w lvv []) (hpl : ps.length = T.kids.length) (hzl : zs.length = T.kids.length)
    (hs : ∀ j (h1 : j < ps.length) (h2 : j < zs.length) (h3 : j < T.kids.length), ParZ Q names ts w T.kids[j] ps[j] zs[j]) : ParZ Q names ts w T p (zmkG T.hd.k T.hd.n zs) := by
  have hhp := hd_all T hP
  have hok : ∀ z ∈ zs, ZOkG z := fun z hz => by
    obtain ⟨j, hj, rfl⟩ := List.getElem_of_mem hz
    exact (hs j (by omega) hj (by omega)).2.1.1
  obtain ⟨q1, q2⟩ := head_nolv (names := names) (ts := ts) hl
  refine ⟨⟨_, _, _, _, _, _, tn⟩, ⟨zmkG_ok _ _ _ hok (node_num T.hd _ hhp), zsat_le _⟩, fun e => ?_, fun e => ?_⟩
  · rw [parG_kids, q2, Bool.true_and, List.all_eq_true] at e
    have hz : zs = (T.kids.map (parR names ts)).map Tt.zG := by
      refine List.ext_getElem (by simp; omega) (fun j h1 h2 => ?_)
      have h3 : j < T.kids.length := by simpa using h2
      rw [((hs j (by omega) h1 h3).2.2.1 (e _ (List.getElem_mem h3))).2]
      simp
    have h3 := kids_le T
    have hzG : zmkG T.hd.k T.hd.n zs = (Tt.mk T.hd (T.kids.map (parR names ts))).zG := by
      rw [mk_zG _ _ (by simp; omega), ← hz]
    rw [parR_mk, q1]
    refine ⟨spg_mk (by simp; omega) (by simp; omega) ⟨lvv, kdv, by rw [← hzG]; exact tn, hk, by show LevRowF Q w lvv T.hd.lv; rw [hl]; exact hv⟩ (fun j h1 h2 => ?_), hzG⟩
    have h4 : j < T.kids.length := by simpa using h2
    have := ((hs j h1 (by omega) h4).2.2.1 (e _ (List.getElem_mem h4))).1
    simpa using this
  · rw [parG_kids, q2, Bool.true_and, List.all_eq_false] at e
    obtain ⟨x, hx, hb⟩ := e
    obtain ⟨j, hj, rfl⟩ := List.getElem_of_mem hx
    have hk1 : T.hd.k ≠ 1 := fun e => by
      have h1 := hhp.1
      rw [e] at h1
      have : tkidsN 1 = 0 := by decide
      omega
    have hbj := (hs j (by omega) (by omega) hj).2.2.2 (by simpa using hb)
    have hge := sumZ_ge zs (fun z hz => (hok z hz).1) j (by omega)
    rw [zmkG_sz _ _ _ hk1, if_pos (by omega)]
theorem lvrel_tree {ls : List (List Nd)} {us : List Tr} (h : LvRel ls us ls.length) (hv : ∀ l ∈ ls, lvlB l = true) : us = ls.map treeOf := by
  refine List.ext_getElem (by simp [h.1]) (fun i h1 h2 => ?_)
  have h3 : i < ls.length := by have := h.1; omega
  have h4 := h.2 i h3 h1
  have h5 := treeOf_ok (hv _ (List.getElem_mem h3))
  rw [List.getElem_map]
  exact Tr.flat_inj _ _ 0 (h4.1.symm.trans h5.1)
/-- The trees of a row of levels with levels put. -/
noncomputable def putT (names : List ByteArray) (ts : List Tr) (ls : List (List Nd)) : List Tr := ls.map (fun l => (treeOf l).put names ts)
/-- A leaf made anew with other levels. -/
theorem par_leaf {Q : Nat → Prop} {names : List ByteArray} {ts : List Tr} (hts : ∀ t ∈ ts, t.ok) {w : World} {h : Hd} {p : Nat} {lvv kdv : Value} {lps : List Nat} (hP : nodeP h 0) (h1 : h.k ≠ 1) (h9 : h.k ≠ 9) (tn : TnAt 0 w p (tnL h.k h.n h.m h.s lvv kdv ⟨fitZ (putT names ts h.lv), 0, false⟩)) (hk : PtrRowQ Q w kdv []) (hv : PtrRowQ Q w lvv lps) (ht : TreesAt w lps (putT names ts h.lv)) : ParZ Q names ts w (.t0 h) p ⟨fitZ (putT names ts h.lv), 0, false⟩ := by
  have hall : parG names ts (.t0 h) = (putT names ts h.lv).all fitsB := by
    show h.lv.all (fitL names ts) = _
    unfold putT
    rw [List.all_map]
    rfl
  have hc := fitZ_cases (putT names ts h.lv)
  refine ⟨⟨_, _, _, _, _, _, tn⟩, ⟨⟨by show 1 ≤ fitZ _; omega, by show (0 : Int) ≤ 0; omega, by show (0 : Int) ≤ 1000001; omega⟩, by show fitZ _ ≤ 20001; omega⟩, fun e => ?_, fun e => ?_⟩
  · rw [hall] at e
    have hz : fitZ (putT names ts h.lv) = 1 := by unfold fitZ; rw [if_pos e]
    have hzG : (⟨fitZ (putT names ts h.lv), 0, false⟩ : Zs) = (parR names ts (.t0 h)).zG := by
      rw [hz]
      show _ = zmkG h.k h.n []
      unfold zmkG
      rw [if_neg (fun q => h1 q.1)]
      simp [zsat, zmk, sumZ, loP, hoP, h1, h9]
    refine ⟨?_, hzG⟩
    show FnAt Q w p ((h.par names ts).td []) [] (parR names ts (.t0 h)).zG
    rw [← hzG]
    have hlen : lps.length = h.lv.length := by rw [ht.1]; simp [putT]
    refine ⟨lvv, kdv, tn, hk, lps, putT names ts h.lv, ?_, hv, ⟨ht, fun u hu => List.all_eq_true.1 e u hu⟩, ?_, ?_⟩
    · show lps.length = (h.lv.map (putL names ts)).length
      simp [hlen]
    · show (putT names ts h.lv).length = (h.lv.map (putL names ts)).length
      simp [putT]
    · intro q q1 q2
      have q3 : q < h.lv.length := by
        have : q < (h.lv.map (putL names ts)).length := q1
        simpa using this
      have ok := putT_ok names ts hts _ (treeOf_ok (lev_of hP.2 _ (List.getElem_mem q3))).2.1
      have e1 : ((h.par names ts).td []).lv[q] = putL names ts h.lv[q] := by
        show (h.lv.map (putL names ts))[q]'(by simp [q3]) = _
        simp
      have e2 : (putT names ts h.lv)[q] = (treeOf h.lv[q]).put names ts := by simp [putT]
      rw [e1, e2]
      exact ⟨rfl, ok, Tr.names_flat _ 0 [] ok, (Tr.flat_len _ 0).symm⟩
  · rw [hall] at e
    show fitZ _ = 20001
    unfold fitZ
    rw [if_neg (by rw [e]; decide)]
/-- What is asked of l3Params up to a number of nodes. -/
def ParIH (names : List ByteArray) (ts : List Tr) (qs0 : List Nat) (vn vl : Value) (B : Nat) (T : Tt) : Prop :=
  ∀ (p : Nat) (w : World), SpG (fun b => b < B) w T p → B ≤ w.heap.size → PutV w vn vl names qs0 ts → T.all nodeP →
    Calls Tryz.prog 70 #[.pointer (some ⟨p, 0, none⟩), vn, vl] w fun e w' => ∃ p' z, e = .returned (ptrV p') ∧ ParZ (fun b => b < B ∨ w.heap.size ≤ b) names ts w' T p' z ∧ Below w.heap.size w w'
set_option maxRecDepth 20000 in
set_option maxHeartbeats 8000000 in
theorem params_leaf (names : List ByteArray) (ts : List Tr) (hts : ∀ t ∈ ts, t.ok) (qs0 : List Nat) (vn vl : Value) (B : Nat) (h : Hd) (hne : names ≠ []) (hlv : h.lv ≠ []) : ParIH names ts qs0 vn vl B (.t0 h) := by
  intro p w hS hBw hV hP
  obtain ⟨i82, hi82, hz82, hs82, hb82⟩ := info_parts Tryz.info164
  have hS : FnAt (fun b => b < B) w p (h.td []) [] (Tt.t0 h).zG := hS
  have hP : nodeP h 0 := hP
  obtain ⟨lvv, kdv, tn, hkr, lps, us, hll, hlr, hlt, hrel⟩ := hS
  have tn : TnAt 0 w p (tnL h.k h.n h.m h.s lvv kdv (Tt.t0 h).zG) := tn
  have hlen : lps.length = h.lv.length := hll
  have hus : us = h.lv.map treeOf := lvrel_tree hrel (lev_of hP.2)
  have hl6 := (lv_small hP).1
  obtain ⟨ka, kc, rfl, hkc1, hkc2, _⟩ := hkr
  obtain ⟨la, lc, rfl, hlc1, hlc2, hlcell⟩ := hlr
  have HLC : Hid (0 < lps.length → ∃ b off, la = some ⟨b, off, none⟩ ∧ b < B ∧ ∀ j (q : j < lps.length), w.cell? ⟨b, off + j, none⟩ = some (ptrV lps[j])) := hlcell
  have hk2 : h.k ≠ 1 ∧ h.k ≠ 9 := by
    have h2 := hP.2
    simp only [tfieldsB, tlevB, Bool.and_eq_true, decide_eq_true_eq] at h2
    have h3 : ((h.td []).lv.length : Int) ≤ mostL (h.td []).k := h2.2.1.2
    have h3 : (h.lv.length : Int) ≤ mostL h.k := h3
    have h4 : h.lv.length ≠ 0 := fun e => hlv (List.eq_nil_of_length_eq_zero e)
    refine ⟨fun e => ?_, fun e => ?_⟩
    · rw [e] at h3
      have : mostL 1 = 0 := by decide
      omega
    · rw [e] at h3
      have : mostL 9 = 0 := by decide
      omega
  have a0 : w.cell? ⟨p, 0, none⟩ = some (.int .i64 h.k) := by rw [World.ownsRow.cellAt tn 0 (by omega)]; rfl
  have a1 : w.cell? ⟨p, 1, none⟩ = some (.int .i64 h.n) := by rw [World.ownsRow.cellAt tn 1 (by omega)]; rfl
  have a2 : w.cell? ⟨p, 2, none⟩ = some (.int .i64 h.m) := by rw [World.ownsRow.cellAt tn 2 (by omega)]; rfl
  have a3 : w.cell? ⟨p, 3, none⟩ = some (.string h.s) := by rw [World.ownsRow.cellAt tn 3 (by omega)]; rfl
  have a4 : w.cell? ⟨p, 4, none⟩ = some (.slice la lps.length lc) := by rw [World.ownsRow.cellAt tn 4 (by omega)]; rfl
  have a5 : w.cell? ⟨p, 5, none⟩ = some (.slice ka 0 kc) := by rw [World.ownsRow.cellAt tn 5 (by omega)]; rfl
  have hpl := lt_cell a0
  have hnl : 0 < names.length := List.length_pos_iff.2 hne
  have dn : ((names.length : Int) == 0) = false := by rw [beq_eq_false_iff_ne]; omega
  have HTR := hide hlt.1
  have HLEN := hide hlen
  have HUS := hide hus
  have HV := hide hV
  have HPN := hide hP
  have HK2 := hide hk2
  have HNE := hide hnl
  obtain ⟨na, nc, rfl, _, _, _⟩ := hV.n
  obtain ⟨va, vc, rfl, _, _, _⟩ := hV.l
  have hln : lps.length ≤ 6 := by omega
  obtain ⟨W1, hW1⟩ : ∃ W1, W1 = w.alloc (.cells #[] 164) := ⟨_, rfl⟩
  have HB1 : Hid (Below w.heap.size w W1) := by show Below _ _ _; rw [hW1]; exact bel_alloc (Below.refl _ _) _
  have HO1 : Hid (W1.ownsRow w.heap.size 164 1 (.slice (some ⟨w.heap.size, 0, none⟩) 0 0) 0 (([] : List Nat).map ptrV)) := by
    show World.ownsRow _ _ _ _ _ _ _
    rw [hW1]
    exact ⟨rfl, .inr ⟨w.heap.size, 0, #[], rfl, Nat.le_refl _, heap_alloc_new w _, Nat.le_refl _, by unfold maxLen; omega, rfl, rfl⟩⟩
  clear tn hll hlcell hlt hrel hlen hus hV hP hk2 hkc2 hlc2 hnl hl6
  go_enter Tryz.func70, Tryz.ntmps70
  go_upto_region 5 with fail
  first | rw [← hW1] | skip
  go_wp2_with fail
  first | rw [← hW1] | skip
  go_loopw [7, 8] (fun r i wr => ∃ (j g cp : Nat) (ps : List Nat), j ≤ lps.length ∧ i = .int .i64 j ∧ r = .slice (some ⟨g, 0, none⟩) j cp ∧ Hid (ps.length = j) ∧ Hid (wr.ownsRow w.heap.size 164 1 (.slice (some ⟨g, 0, none⟩) j cp) j (ps.map ptrV)) ∧ Hid (TreesAt wr ps (putT names ts (h.lv.take j))) ∧ Hid (Below w.heap.size w wr)) (fun _ i _ => lps.length - (intOf i).toNat)
  case atStart => exact ⟨0, w.heap.size, 0, [], by omega, rfl, rfl, rfl, HO1, ⟨rfl, fun j q => by simp at q⟩, HB1⟩
  case round =>
    clear HO1 HB1 hW1
    obtain ⟨j, g, cp, ps, hj, rfl, rfl, HPL, HO, HTJ, HBJ⟩ := hrel
    have hwsz := HBJ.out.size
    have b4 := keep_cell HBJ.out a4
    have hpr := lt_cell b4
    by_cases hlt : j < lps.length
    · have hlt' : (j : Int) < lps.length := by omega
      have HQ1 := hide (show j + 1 ≤ lps.length from hlt)
      obtain ⟨lb, off, rfl, hlB, hcell⟩ := HLC.out (by omega)
      have bk := keep_cell HBJ.out (hcell j hlt)
      unfold ptrV at bk
      have hkb := lt_cell bk
      have hjl : j < h.lv.length := by have := HLEN.out; omega
      have hju : j < us.length := by rw [HUS.out]; simp [hjl]
      have HT0 := hide (((HTR.out.2 j hlt hju).keep HBJ.out).mono HBJ.out.size)
      have hue : us[j] = treeOf h.lv[j] := by simp [HUS.out]
      rw [hue] at HT0
      have HPU := hide (l1Put_any (treeOf h.lv[j]) lps[j] wr _ _ names qs0 ts HT0.out (treeOf_ok (lev_of HPN.out.2 _ (List.getElem_mem hjl))).2.1 (HV.out.keep HBJ.out))
      have HTK : Hid (putT names ts (h.lv.take (j + 1)) = putT names ts (h.lv.take j) ++ [(treeOf h.lv[j]).put names ts]) := by
        show _ = _
        unfold putT
        rw [List.take_succ_eq_append_getElem hjl, List.map_append]
        rfl
      generalize (treeOf h.lv[j]).put names ts = u1 at *
      generalize lps[j] = P1 at *
      clear hcell hue HT0 hju hjl
      go_wp2_with fail
      refine HPU.out.mono ?_
      rintro e w2 ⟨gp, rfl, ht2, hb2⟩
      have HO2 := hide (row_keep hb2 HO.out)
      have HT2 := hide (HTJ.out.keep hb2)
      have HTR2 := hide ht2
      have HB2 := hide (HBJ.out.trans (hb2.mono hwsz))
      have hsz2 := hb2.size
      clear ht2 hb2 HPU bk hkb b4 hpr
      go_wp2_with (first
        | (at_builtin; refine wpList_append_lies _ rfl _ _ 105 rfl w.heap.size 164 i82 (.pointer none) 1 8 Tryz.underlying105 hi82 hz82 hs82 hb82 rfl (by omega) (.slice (some ⟨g, 0, none⟩) j cp) j (ps.map ptrV) rfl (HO2.out.alloc _) ⟨w2.heap.size, 0, none⟩ 1 1 [.pointer (some ⟨gp, 0, none⟩)] rfl rfl ?c1 ?c2 (by omega) ?c3 ?c4 ?c5 (w2.heap.size + 1) (by simp) ?_)
        | fail)
      case c1 => exact cell_one_new _ _ _
      case c2 => first | rfl | (intro u hu; simp at hu; subst hu; rfl)
      case c3 => unfold maxLen; omega
      case c4 => omega
      case c5 => simp; omega
      intro g4 cap4 w4 hown4 hgrow4 hat4 hlt4
      have htag := row_tag (HO2.out.alloc (.cells #[.pointer (some ⟨gp, 0, none⟩)] 164))
      have hsz4 := hgrow4.size
      have KT : ∀ (p : Nat) (t' : Tr), TreeAt w2.heap.size w2 p t' → TreeAt w4.heap.size w4 p t' := fun p t' ht' =>
        (((ht'.keep ((Below.refl w2.heap.size w2).alloc (Nat.le_refl _) _)).grown hgrow4 (fun k hk => by simp [Value.ownBlock] at hk; subst hk; obtain ⟨cs, hcs⟩ := htag; exact ⟨cs, 164, by decide, hcs⟩)).mono (by simp at hsz4; omega))
      have HTN : Hid (TreesAt w4 (ps ++ [gp]) (putT names ts (h.lv.take (j + 1)))) := by
        show TreesAt _ _ _
        rw [HTK.out]
        exact HT2.out.snoc (fun q h1 h2 => KT _ _ (HT2.out.2 q h1 h2)) (KT _ _ HTR2.out)
      have HON := hide (show w4.ownsRow w.heap.size 164 1 (.slice (some ⟨g4, 0, none⟩) (j + 1) cap4) (j + 1) ((ps ++ [gp]).map ptrV) by rw [List.map_append]; exact hown4)
      have HBN := hide ((HB2.out.alloc (by omega) _).grown hgrow4 (by simp; omega) (fun k hk => by simp [Value.ownBlock] at hk; subst hk; exact (HO2.out.lt g rfl).1))
      have HPN2 : Hid ((ps ++ [gp]).length = j + 1) := by show _ = _; rw [List.length_append, HPL.out]; rfl
      clear hown4 hgrow4 hat4 hlt4 htag KT
      go_wp2_with fail
      go_roundw
      case rel => exact ⟨j + 1, g4, cap4, ps ++ [gp], HQ1.out, by go_num, rfl, HPN2, HON, HTN, HBN⟩
      case measure => have := HQ1.out; simp [intOf]; omega
    · have hlt' : ¬ (j : Int) < lps.length := by omega
      have e : j = h.lv.length := by have := HLEN.out; omega
      have HTE := HTJ.out
      rw [e, List.take_length] at HTE
      have HTE := hide HTE
      clear HTJ e
      obtain ⟨W2, hW2⟩ : ∃ W2, W2 = wr.alloc (.cells #[] 72) := ⟨_, rfl⟩
      have hb2 : Below wr.heap.size wr W2 := by rw [hW2]; exact bel_alloc (Below.refl _ _) _
      have HT2 := hide (HTE.out.keep hb2)
      have HO2 := hide (row_keep hb2 HO.out)
      have HB2 := hide (bel_trans HBJ.out hb2)
      have HK2R : Hid (PtrRowQ (fun b => w.heap.size ≤ b) W2 (.slice (some ⟨wr.heap.size, 0, none⟩) 0 0) []) := ⟨_, 0, rfl, Nat.le_refl _, by unfold maxLen; omega, fun q => by simp at q⟩
      have hsz2 : W2.heap.size = wr.heap.size + 1 := by rw [hW2]; simp
      have HSZ2 := hide hsz2
      clear hb2 hsz2 HTE HO
      go_upto_region 10 with fail
      first | rw [← hW2] | skip
      go_wp2_with fail
      first | rw [← hW2] | skip
      clear hW2 b4 hpr
      go_loopw [9, 10] (fun r i wq => i = .int .i64 0 ∧ r = .slice (some ⟨wr.heap.size, 0, none⟩) 0 0 ∧ wq = W2) (fun _ _ _ => 0)
      case atStart => exact ⟨rfl, rfl, rfl⟩
      case round =>
        obtain ⟨rfl, rfl, hq⟩ := hrel
        have hq := hq.symm
        subst hq
        have d0 := keep_cell HB2.out a0
        have d1 := keep_cell HB2.out a1
        have d2 := keep_cell HB2.out a2
        have d3 := keep_cell HB2.out a3
        have d5 := keep_cell HB2.out a5
        have hd := lt_cell d0
        have HLR2 : Hid (PtrRowQ (fun b => w.heap.size ≤ b) W2 (.slice (some ⟨g, 0, none⟩) j cp) ps) := PtrRowQ.own HO2.out HPL.out.symm
        have HMK := hide (fun (V : World) (hb : Below W2.heap.size W2 V) => l3MakeL_any h.k h.n h.m h.s (.slice (some ⟨g, 0, none⟩) j cp) (.slice (some ⟨wr.heap.size, 0, none⟩) 0 0) ps (putT names ts h.lv) V ((HLR2.out.to (R := fun _ => True) (fun b _ _ => ⟨trivial, fun o u hu => keep_cell hb hu⟩)).row) (HT2.out.keep hb) ((HK2R.out.to (R := fun _ => True) (fun b _ _ => ⟨trivial, fun o u hu => keep_cell hb hu⟩)).row) HK2.out.1 HK2.out.2)
        have HG := hide (fun (wx : World) (hx : Below W2.heap.size W2 wx) => And.intro (keep_cell hx d0) (And.intro (keep_cell hx d1) (And.intro (keep_cell hx d2) (keep_cell hx d3))))
        have hS0 : (fun w' : World => Below W2.heap.size W2 w') W2.drew := (Below.refl _ _).drew
        clear d0 d1 d2 d3 HLC HTR
        go_wp2_with fail
        refine anyE_region (L := 19) (S := fun w' : World => Below W2.heap.size W2 w') (by kernel_rfl) ?_
        refine anyE_take 0 (v := ?v1) rfl (by kernel_rfl) (by kernel_rfl) (by kernel_rfl) (by kernel_rfl) (fun _ _ _ h => h) (by rfl) ?hy1 hS0 ?rest1
        case hy1 =>
          intro wx hx
          obtain ⟨m0, m1, m2, m3⟩ := HG.out wx hx
          go_simp
          try rfl
        case rest1 =>
        intro K hK
        go_simp
        refine hK.out _ ?_
        clear hK K
        refine anyE_take 1 (v := ?v2) rfl (by kernel_rfl) (by kernel_rfl) (by kernel_rfl) (by kernel_rfl) (fun _ _ _ h => h) (by rfl) ?hy2 hS0 ?rest2
        case hy2 =>
          intro wx hx
          obtain ⟨m0, m1, m2, m3⟩ := HG.out wx hx
          go_simp
          try rfl
        case rest2 =>
        intro K hK
        go_simp
        refine hK.out _ ?_
        clear hK K
        refine anyE_take 2 (v := ?v3) rfl (by kernel_rfl) (by kernel_rfl) (by kernel_rfl) (by kernel_rfl) (fun _ _ _ h => h) (by rfl) ?hy3 hS0 ?rest3
        case hy3 =>
          intro wx hx
          obtain ⟨m0, m1, m2, m3⟩ := HG.out wx hx
          go_simp
          try rfl
        case rest3 =>
        intro K hK
        go_simp
        refine hK.out _ ?_
        clear hK K
        refine anyE_take 3 (v := ?v4) rfl (by kernel_rfl) (by kernel_rfl) (by kernel_rfl) (by kernel_rfl) (fun _ _ _ h => h) (by rfl) ?hy4 hS0 ?rest4
        case hy4 =>
          intro wx hx
          obtain ⟨m0, m1, m2, m3⟩ := HG.out wx hx
          go_simp
          try rfl
        case rest4 =>
        intro K hK
        go_simp
        refine hK.out _ ?_
        clear hK K
        refine anyE_take 4 (v := ?v5) rfl (by kernel_rfl) (by kernel_rfl) (by kernel_rfl) (by kernel_rfl) (fun _ _ _ h => h) (by rfl) ?hy5 hS0 ?rest5
        case hy5 =>
          intro wx hx
          obtain ⟨m0, m1, m2, m3⟩ := HG.out wx hx
          go_simp
          try rfl
        case rest5 =>
        intro K hK
        go_simp
        refine hK.out _ ?_
        clear hK K
        refine anyE_take 5 (v := ?v6) rfl (by kernel_rfl) (by kernel_rfl) (by kernel_rfl) (by kernel_rfl) (fun _ _ _ h => h) (by rfl) ?hy6 hS0 ?rest6
        case hy6 =>
          intro wx hx
          obtain ⟨m0, m1, m2, m3⟩ := HG.out wx hx
          go_simp
          try rfl
        case rest6 =>
        intro K hK
        go_simp
        refine hK.out _ ?_
        clear hK K
        refine anyE_take 6 (v := ?v7) rfl (by kernel_rfl) (by kernel_rfl) (by kernel_rfl) (by kernel_rfl) (fun _ _ _ h => h) (by rfl) ?hy7 hS0 ?rest7
        case hy7 =>
          intro wx hx
          obtain ⟨m0, m1, m2, m3⟩ := HG.out wx hx
          go_simp
          try rfl
        case rest7 =>
        intro K hK
        go_simp
        refine hK.out _ ?_
        clear hK K
        refine anyE_take 7 (v := ?v8) rfl (by kernel_rfl) (by kernel_rfl) (by kernel_rfl) (by kernel_rfl) (fun _ _ _ h => h) (by rfl) ?hy8 hS0 ?rest8
        case hy8 =>
          intro wx hx
          obtain ⟨m0, m1, m2, m3⟩ := HG.out wx hx
          go_simp
          try rfl
        case rest8 =>
        intro K hK
        go_simp
        refine hK.out _ ?_
        clear hK K
        refine anyE_take 8 (v := ?v9) rfl (by kernel_rfl) (by kernel_rfl) (by kernel_rfl) (by kernel_rfl) (fun _ _ _ h => h) (by rfl) ?hy9 hS0 ?rest9
        case hy9 =>
          intro wx hx
          obtain ⟨m0, m1, m2, m3⟩ := HG.out wx hx
          go_simp
          try rfl
        case rest9 =>
        intro K hK
        go_simp
        refine hK.out _ ?_
        clear hK K
        refine anyE_take 9 (v := ?v10) rfl (by kernel_rfl) (by kernel_rfl) (by kernel_rfl) (by kernel_rfl) (fun _ _ _ h => h) (by rfl) ?hy10 hS0 ?rest10
        case hy10 =>
          intro wx hx
          obtain ⟨m0, m1, m2, m3⟩ := HG.out wx hx
          go_simp
          try rfl
        case rest10 =>
        intro K hK
        go_simp
        refine hK.out _ ?_
        clear hK K
        refine anyE_take 10 (v := ?v11) rfl (by kernel_rfl) (by kernel_rfl) (by kernel_rfl) (by kernel_rfl) (fun _ _ _ h => h) (by rfl) ?hy11 hS0 ?rest11
        case hy11 =>
          intro wx hx
          obtain ⟨m0, m1, m2, m3⟩ := HG.out wx hx
          go_simp
          try rfl
        case rest11 =>
        intro K hK
        go_simp
        refine hK.out _ ?_
        clear hK K
        refine anyE_take 11 (v := ?v12) rfl (by kernel_rfl) (by kernel_rfl) (by kernel_rfl) (by kernel_rfl) (fun _ _ _ h => h) (by rfl) ?hy12 hS0 ?rest12
        case hy12 =>
          intro wx hx
          obtain ⟨m0, m1, m2, m3⟩ := HG.out wx hx
          go_simp
          try rfl
        case rest12 =>
        intro K hK
        go_simp
        refine hK.out _ ?_
        clear hK K
        refine anyE_take 12 (v := ?v13) rfl (by kernel_rfl) (by kernel_rfl) (by kernel_rfl) (by kernel_rfl) (fun _ _ _ h => h) (by rfl) ?hy13 hS0 ?rest13
        case hy13 =>
          intro wx hx
          obtain ⟨m0, m1, m2, m3⟩ := HG.out wx hx
          go_simp
          try rfl
        case rest13 =>
        intro K hK
        go_simp
        refine hK.out _ ?_
        clear hK K
        refine anyE_take 13 (v := ?v14) rfl (by kernel_rfl) (by kernel_rfl) (by kernel_rfl) (by kernel_rfl) (fun _ _ _ h => h) (by rfl) ?hy14 hS0 ?rest14
        case hy14 =>
          intro wx hx
          obtain ⟨m0, m1, m2, m3⟩ := HG.out wx hx
          go_simp
          try rfl
        case rest14 =>
        intro K hK
        go_simp
        refine hK.out _ ?_
        clear hK K
        refine anyE_take 14 (v := ?v15) rfl (by kernel_rfl) (by kernel_rfl) (by kernel_rfl) (by kernel_rfl) (fun _ _ _ h => h) (by rfl) ?hy15 hS0 ?rest15
        case hy15 =>
          intro wx hx
          obtain ⟨m0, m1, m2, m3⟩ := HG.out wx hx
          go_simp
          try rfl
        case rest15 =>
        intro K hK
        go_simp
        refine hK.out _ ?_
        clear hK K
        refine anyE_take 15 (v := ?v16) rfl (by kernel_rfl) (by kernel_rfl) (by kernel_rfl) (by kernel_rfl) (fun _ _ _ h => h) (by rfl) ?hy16 hS0 ?rest16
        case hy16 =>
          intro wx hx
          obtain ⟨m0, m1, m2, m3⟩ := HG.out wx hx
          go_simp
          try rfl
        case rest16 =>
        intro K hK
        go_simp
        refine hK.out _ ?_
        clear hK K
        refine anyE_take 16 (v := ?v17) rfl (by kernel_rfl) (by kernel_rfl) (by kernel_rfl) (by kernel_rfl) (fun _ _ _ h => h) (by rfl) ?hy17 hS0 ?rest17
        case hy17 =>
          intro wx hx
          obtain ⟨m0, m1, m2, m3⟩ := HG.out wx hx
          go_simp
          try rfl
        case rest17 =>
        intro K hK
        go_simp
        refine hK.out _ ?_
        clear hK K
        refine anyE_take 17 (v := ?v18) rfl (by kernel_rfl) (by kernel_rfl) (by kernel_rfl) (by kernel_rfl) (fun _ _ _ h => h) (by rfl) ?hy18 hS0 ?rest18
        case hy18 =>
          intro wx hx
          obtain ⟨m0, m1, m2, m3⟩ := HG.out wx hx
          go_simp
          try rfl
        case rest18 =>
        intro K hK
        go_simp
        refine hK.out _ ?_
        clear hK K
        refine anyE_one 18 (by kernel_rfl) rfl (fun K hK => ?_)
        go_simp
        refine (HMK.out W2.drew ((Below.refl _ _).drew)).mono ?_
        rintro e w9 ⟨rfl, g1, g2⟩
        have g3 : Below W2.heap.size W2 w9 := (Below.refl W2.heap.size W2).drew.trans g2
        have G1 := hide g1
        have G3 := hide g3
        clear g1 g2
        refine hK.out _ _ (fun _ => g3) ?_
        clear hK K g3
        refine anyE_one 19 (by kernel_rfl) rfl (fun K hK => ?_)
        go_simp
        refine hK.out _ _ (fun h => absurd rfl h) ?_
        clear hK K
        refine anyE_done (by kernel_rfl) ?_ _
        go_wp2_with fail
        go_ret
        have hp : W2.heap.size = W2.drew.heap.size := rfl
        refine ⟨W2.heap.size, _, rfl, par_leaf hts HPN.out HK2.out.1 HK2.out.2 (G1.out.base (Nat.zero_le _)) ((HK2R.out.to (R := fun b => b < B ∨ w.heap.size ≤ b) (fun b hb _ => ⟨.inr hb, fun o u hu => keep_cell G3.out hu⟩))) ((HLR2.out.to (R := fun b => b < B ∨ w.heap.size ≤ b) (fun b hb _ => ⟨.inr hb, fun o u hu => keep_cell G3.out hu⟩))) (HT2.out.keep G3.out), bel_trans HB2.out G3.out⟩
end Go.Proofs.YtbgibiongnhjoaaGreat
