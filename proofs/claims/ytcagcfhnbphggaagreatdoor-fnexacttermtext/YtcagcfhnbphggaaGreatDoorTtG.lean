/- The specification's writing of nodes without kids. -/
import Derived.Test.YtcagcfhnbphggaaGreatDoorTtC
import Derived.Test.YtcagcfhnbphggaaGreatDoorTxS
import Derived.Lib.ConvBytes
import Derived.Lib.SmallJoins
import Derived.Test.YtcagcfhnbphggaaGreatDoorLwH
namespace Go.Proofs.YtcagcfhnbphggaaGreatDoor
open Go.ChangeShapes Go.WideShapes Go.ChangeAt Go.RowKit

/-- What is known of the specification's tree. -/
structure SCx (w1 : World) (Q : Nat → Prop) (pt : Nat → Nat) (ts : List Td) : Prop where
  fst : Forest Q w1 pt ts ts.length
  ok : ∀ i (hi : i < ts.length), NodeOk ts[i]
  kin : ∀ i (hi : i < ts.length), ∀ c ∈ ts[i].kids, 0 ≤ c ∧ c < (i : Int)
  len : ts.length ≤ 20000
/-- A node's cells. -/
theorem fn_cells {Q : Nat → Prop} {w : World} {p : Nat} {td : Td} {kp : List Nat} {z : Zs} (h : FnAt Q w p td kp z) : ∃ lvv kdv, w.cell? ⟨p, 0, none⟩ = some (.int .i64 td.k) ∧ w.cell? ⟨p, 1, none⟩ = some (.int .i64 td.n) ∧ w.cell? ⟨p, 2, none⟩ = some (.int .i64 td.m) ∧ w.cell? ⟨p, 3, none⟩ = some (.string td.s) ∧ w.cell? ⟨p, 4, none⟩ = some lvv ∧ w.cell? ⟨p, 5, none⟩ = some kdv ∧ PtrRowQ Q w kdv kp ∧ LevRowF Q w lvv td.lv := by
  obtain ⟨lvv, kdv, h1, h2, h3⟩ := h
  have hc := fun j (hj : j < 9) => World.ownsRow.cellAt h1 j (by omega)
  refine ⟨lvv, kdv, ?_, ?_, ?_, ?_, ?_, ?_, h2, h3⟩
  · rw [hc 0 (by omega)]; rfl
  · rw [hc 1 (by omega)]; rfl
  · rw [hc 2 (by omega)]; rfl
  · rw [hc 3 (by omega)]; rfl
  · rw [hc 4 (by omega)]; rfl
  · rw [hc 5 (by omega)]; rfl
theorem strAdd (A B : ByteArray) (h : A.size + B.size ≤ 1000000000) (w : World) : (Op.stringOp .add A B).run Tryz.prog w = .ok (.string (A ++ B)) w := run_string_add_sum w _ _ (by omega)
theorem conv_any (S : ByteArray) (W : World) : (convert 9 26 (.string S)).run Tryz.prog W = .ok (.slice (some ⟨W.heap.size, 0, none⟩) S.size (grownCap W S.size 0 5)) (Lib.bytesWorld W 5 S) := Lib.run_convert_string_bytes W 9 26 5 S Tryz.underlying9 Tryz.underlying26 Tryz.underlying5
theorem conv_cells (S : ByteArray) (W : World) : ∀ j u, (bC S.data.toList)[j]? = some u → (Lib.bytesWorld W 5 S).cell? ((⟨W.heap.size, 0, none⟩ : Addr).add j) = some u := by
  intro j u hu
  have hj : j < S.size := by
    have := (List.getElem?_eq_some_iff.1 hu).1
    rw [bC_len, Array.length_toList] at this
    exact this
  rw [Addr.add_lit, Nat.zero_add, Lib.bytesWorld_cell W 5 S j hj]
  unfold bC at hu
  rw [List.getElem?_map, List.getElem?_eq_getElem (by rw [Array.length_toList]; exact hj)] at hu
  cases hu
  simp [List.getD, hj]
theorem bC_one (l : List UInt8) : ∀ u ∈ bC l, u.oneCell' = true := by
  intro u hu
  obtain ⟨b, _, rfl⟩ := List.mem_map.1 hu
  rfl
theorem bC_size (S : ByteArray) : (bC S.data.toList).length = S.size * 1 := by rw [bC_len, Array.length_toList, Nat.mul_one]; rfl
/-- What writing at a place is known to do. -/
def SpOut (B : Nat) (bs : List UInt8) (w : World) (e : Ending) (w' : World) : Prop := ∃ v', e = .returned v' ∧ w'.ownsRow B 5 1 v' bs.length (bC bs) ∧ Below B w w'
def SpAt (w1 : World) (pt : Nat → Nat) (ts : List Td) (f p : Nat) : Prop := ∀ (bs : List UInt8) (v : Value) (w : World), Below w1.heap.size w1 w → w.ownsRow w1.heap.size 5 1 v bs.length (bC bs) → bs.length ≤ 600000 →
  Calls Tryz.prog 16 #[.pointer (some ⟨pt p, 0, none⟩), v] w (SpOut w1.heap.size (wrT ts f p bs) w)
theorem app_own {B : Nat} {w w2 w' : World} {v v' : Value} {bs : List UInt8} {S : ByteArray} (hb : Below w.heap.size w w2) (hB : B ≤ w.heap.size) (hown : w.ownsRow B 5 1 v bs.length (bC bs)) (h : w'.ownsRow B 5 1 v' (bs.length + S.size) (bC bs ++ bC S.data.toList)) (hg : w2.grownBy w' v.ownBlock) : w'.ownsRow B 5 1 v' (bs ++ S.data.toList).length (bC (bs ++ S.data.toList)) ∧ Below B w w' := by
  refine ⟨?_, (hb.mono hB).grown hg (Nat.le_trans hB hb.size) (fun g hg => (World.ownsRow.lt hown g hg).1)⟩
  rw [List.length_append, bC_app, Array.length_toList]
  exact h
set_option maxRecDepth 20000 in
set_option maxHeartbeats 8000000 in
theorem sp_big {w1 : World} {p : Nat} (bs : List UInt8) (v : Value) (w : World) (hown : w.ownsRow w1.heap.size 5 1 v bs.length (bC bs)) (hbig : 400000 < bs.length) :
    Calls Tryz.prog 16 #[.pointer (some ⟨p, 0, none⟩), v] w (SpOut w1.heap.size bs w) := by
  have HO := hide hown
  obtain ⟨a, cap, rfl⟩ := own_form hown
  have hbig' : (400000 : Int) < (bs.length : Int) := by omega
  clear hown
  go_enter Tryz.func16, Tryz.ntmps16
  go_wp2_with fail
  go_ret
  exact ⟨_, rfl, HO.out, Below.refl _ _⟩
set_option maxRecDepth 20000 in
set_option maxHeartbeats 8000000 in
theorem sp_num {w1 : World} {p : Nat} {td : Td} {Q : Nat → Prop} {kp : List Nat} {z : Zs} (hf : FnAt Q w1 p td kp z) (hn : NodeOk td) (ch : UInt8) (hk : (td.k = 1 ∧ ch = 35) ∨ (td.k = 9 ∧ ch = 63)) (bs : List UInt8) (v : Value) (w : World) (hb1 : Below w1.heap.size w1 w) (hown : w.ownsRow w1.heap.size 5 1 v bs.length (bC bs)) (hl : bs.length ≤ 400000) :
    Calls Tryz.prog 16 #[.pointer (some ⟨p, 0, none⟩), v] w (SpOut w1.heap.size (bs ++ ch :: dD td.n) w) := by
  obtain ⟨i5, hi5, hz5, hs5, hb5⟩ := info_parts Tryz.info5
  have HO := hide hown
  obtain ⟨a, cap, rfl⟩ := own_form hown
  have hbig' : ¬ (400000 : Int) < (bs.length : Int) := by omega
  obtain ⟨lvv, kdv, c0, c1, c2, c3, c4, c5, _, _⟩ := fn_cells hf
  have c0 := keep_cell hb1 c0
  have c1 := keep_cell hb1 c1
  have hsz := hb1.size
  have HD : Hid (∀ W, Calls Tryz.prog 27 #[.int .i64 td.n] W fun e w' => e = .returned (.string (bA (dD td.n))) ∧ Below W.heap.size W w') := by
    show ∀ W, _
    intro W
    have h1 := l1Dec_all td.n.toNat (by have := hn.num; omega) W
    rw [Int.toNat_of_nonneg hn.num.1] at h1
    exact h1
  have hX : (bA (dD td.n)).size ≤ 8 := dD_len (n := td.n) (by have := hn.num; omega)
  have HX : Hid ((bA (dD td.n)).data.toList = dD td.n) := rfl
  generalize bA (dD td.n) = X at *
  clear hown c2 c3 c4 c5
  rcases hk with ⟨hk, rfl⟩ | ⟨hk, rfl⟩
  · have q1 : (td.k == 1) = true := by rw [hk]; decide
    have z1 := strAdd ⟨#[35]⟩ X (by show 1 + X.size ≤ _; omega)
    obtain ⟨S, hS⟩ : ∃ S : ByteArray, S = ⟨#[35]⟩ ++ X := ⟨_, rfl⟩
    have HS : Hid (S.data.toList = 35 :: dD td.n) := by
      show _ = _
      rw [hS, ← HX.out]
      simp
    have hSz : S.size ≤ 9 := by rw [hS, ByteArray.size_append]; show 1 + X.size ≤ 9; omega
    rw [← hS] at z1
    have HCV := conv_any S
    clear hk hS
    go_enter Tryz.func16, Tryz.ntmps16
    go_wp2_with (first
      | (go_at_call 27; refine (HD.out _).mono ?_; rintro e w3 ⟨rfl, hb3⟩; have HB3 := hide hb3; have hs3 := hb3.size; clear hb3)
      | (at_builtin
         refine wpList_append_own _ rfl _ _ 26 rfl w1.heap.size 5 i5 (.int .u8 0) 1 1 Tryz.underlying26 hi5 hz5 hs5 hb5 rfl (by omega) (.slice a bs.length cap) bs.length (bC bs) rfl (row_keep (bel_trans HB3.out (Go.Joins.below_bytesWorld _ _ 5 S (Nat.le_refl _))) HO.out) ⟨w3.heap.size, 0, none⟩ S.size _ (bC S.data.toList) rfl (bC_size S) (conv_cells S w3) (bC_one _) (by unfold maxLen; omega) (by omega) (by rw [Lib.bytesWorld_size]; omega) ?_
         intro v7 w7 hown7 hgrow7 _)
      | fail)
    go_ret
    obtain ⟨r1, r2⟩ := app_own (bel_trans HB3.out (Go.Joins.below_bytesWorld _ _ 5 S (Nat.le_refl _))) hsz HO.out hown7 hgrow7
    rw [HS.out] at r1
    exact ⟨_, rfl, r1, r2⟩
  · have q1 : (td.k == 1) = false := by rw [hk]; decide
    have q9 : (td.k == 9) = true := by rw [hk]; decide
    have z1 := strAdd ⟨#[63]⟩ X (by show 1 + X.size ≤ _; omega)
    obtain ⟨S, hS⟩ : ∃ S : ByteArray, S = ⟨#[63]⟩ ++ X := ⟨_, rfl⟩
    have HS : Hid (S.data.toList = 63 :: dD td.n) := by
      show _ = _
      rw [hS, ← HX.out]
      simp
    have hSz : S.size ≤ 9 := by rw [hS, ByteArray.size_append]; show 1 + X.size ≤ 9; omega
    rw [← hS] at z1
    have HCV := conv_any S
    clear hk hS
    go_enter Tryz.func16, Tryz.ntmps16
    go_wp2_with (first
      | (go_at_call 27; refine (HD.out _).mono ?_; rintro e w3 ⟨rfl, hb3⟩; have HB3 := hide hb3; have hs3 := hb3.size; clear hb3)
      | (at_builtin
         refine wpList_append_own _ rfl _ _ 26 rfl w1.heap.size 5 i5 (.int .u8 0) 1 1 Tryz.underlying26 hi5 hz5 hs5 hb5 rfl (by omega) (.slice a bs.length cap) bs.length (bC bs) rfl (row_keep (bel_trans HB3.out (Go.Joins.below_bytesWorld _ _ 5 S (Nat.le_refl _))) HO.out) ⟨w3.heap.size, 0, none⟩ S.size _ (bC S.data.toList) rfl (bC_size S) (conv_cells S w3) (bC_one _) (by unfold maxLen; omega) (by omega) (by rw [Lib.bytesWorld_size]; omega) ?_
         intro v7 w7 hown7 hgrow7 _)
      | fail)
    go_ret
    obtain ⟨r1, r2⟩ := app_own (bel_trans HB3.out (Go.Joins.below_bytesWorld _ _ 5 S (Nat.le_refl _))) hsz HO.out hown7 hgrow7
    rw [HS.out] at r1
    exact ⟨_, rfl, r1, r2⟩
/-- A level of a node: its tree. -/
theorem lev_tree {Q : Nat → Prop} {w : World} {v : Value} {ls : List (List Nd)} (h : LevRowF Q w v ls) : ∃ a cap, v = .slice a ls.length cap ∧ ls.length ≤ cap ∧ cap ≤ maxLen ∧ ∀ i (hi : i < ls.length), ∃ b off g t, a = some ⟨b, off, none⟩ ∧ w.cell? ⟨b, off + i, none⟩ = some (.pointer (some ⟨g, 0, none⟩)) ∧ TreeAt w.heap.size w g t ∧ LvTree ls[i] t := by
  obtain ⟨ps, us, h1, ⟨a, cap, h2, h3, h4, h5⟩, h6, h7⟩ := h
  refine ⟨a, cap, by rw [h2, h1], by omega, h4, fun i hi => ?_⟩
  obtain ⟨b, off, h8, _, h9⟩ := h5 (by omega)
  have hu : us.length = ls.length := h7.1
  exact ⟨b, off, ps[i]'(by omega), us[i]'(by omega), h8, h9 i (by omega), h6.1.2 i (by omega) (by omega), h7.2 i hi (by omega)⟩
theorem ltext_any (l : List Nd) (t : Tr) (g : Nat) (w : World) (ht : TreeAt w.heap.size w g t) (hl : LvTree l t) (hv : lvlB l = true) : Calls Tryz.prog 28 #[.pointer (some ⟨g, 0, none⟩)] w fun e w' => e = .returned (.string (txtL l)) ∧ Below w.heap.size w w' := by
  have hc : l.length ≤ 64 := by
    unfold lvlB at hv
    rw [Bool.and_eq_true, Bool.and_eq_true, decide_eq_true_eq, decide_eq_true_eq] at hv
    exact hv.1.2
  rw [txtL_eq hl]
  exact stext_any t.cnt t (Nat.le_refl _) hl.2.1 (by have := hl.2.2.2; omega) g w ht
set_option maxRecDepth 20000 in
set_option maxHeartbeats 8000000 in
theorem sp_sort {w1 : World} {p : Nat} {td : Td} {Q : Nat → Prop} {kp : List Nat} {z : Zs} (hf : FnAt Q w1 p td kp z) (hn : NodeOk td) (hk : td.k = 2) (bs : List UInt8) (v : Value) (w : World) (hb1 : Below w1.heap.size w1 w) (hown : w.ownsRow w1.heap.size 5 1 v bs.length (bC bs)) (hl : bs.length ≤ 400000) :
    Calls Tryz.prog 16 #[.pointer (some ⟨p, 0, none⟩), v] w (SpOut w1.heap.size (bs ++ 42 :: (txtL (td.lv.getD 0 [])).data.toList) w) := by
  obtain ⟨i5, hi5, hz5, hs5, hb5⟩ := info_parts Tryz.info5
  have HO := hide hown
  obtain ⟨a, cap, rfl⟩ := own_form hown
  have hbig' : ¬ (400000 : Int) < (bs.length : Int) := by omega
  obtain ⟨lvv, kdv, c0, c1, c2, c3, c4, c5, _, hlr⟩ := fn_cells hf
  have c0 := keep_cell hb1 c0
  have c4 := keep_cell hb1 c4
  have hsz := hb1.size
  have hl1 := hn.uni hk
  obtain ⟨la, lc, rfl, _, hlm, hlt⟩ := lev_tree hlr
  obtain ⟨lb, lo, g, t, rfl, cg, ht, hlv⟩ := hlt 0 (by omega)
  rw [Nat.add_zero] at cg
  have cg := keep_cell hb1 cg
  have hm0 : td.lv[0]'(by omega) ∈ td.lv := List.getElem_mem _
  have HLL := hide (hn.lev _ hm0)
  have HSL := hide (txtL_size HLL.out)
  have HT := hide ((ht.keep hb1).mono hsz)
  rw [show td.lv.getD 0 [] = td.lv[0]'(by omega) by rw [List.getD_eq_getElem?_getD, List.getElem?_eq_getElem (show 0 < td.lv.length by omega)]; rfl]
  have HLV := hide hlv
  have HTX := hide (ltext_any _ t g w HT.out HLV.out HLL.out)
  have hl2 : (0 : Int) < (td.lv.length : Int) := by omega
  have hl3 : 0 < td.lv.length := by omega
  have q1 : (td.k == 1) = false := by rw [hk]; decide
  have q9 : (td.k == 9) = false := by rw [hk]; decide
  have q2 : (td.k == 2) = true := by rw [hk]; decide
  unfold maxLen at hlm
  clear hown c1 c2 c3 c5 hk hlv ht hlt hlr hm0
  have hX : (txtL (td.lv[0]'(by omega))).size ≤ 3840 := by have := HSL.out; rw [Array.length_toList] at this; exact this
  obtain ⟨X, hXe⟩ : ∃ X, X = txtL (td.lv[0]'(by omega)) := ⟨_, rfl⟩
  rw [← hXe] at HTX hX ⊢
  clear hXe HLV HLL HSL HT
  have z1 := strAdd ⟨#[42]⟩ X (by show 1 + X.size ≤ _; omega)
  obtain ⟨S, hS⟩ : ∃ S : ByteArray, S = ⟨#[42]⟩ ++ X := ⟨_, rfl⟩
  have HS : Hid (S.data.toList = 42 :: X.data.toList) := by
    show _ = _
    rw [hS]
    simp
  have hSz : S.size ≤ 4000 := by rw [hS, ByteArray.size_append]; show 1 + X.size ≤ 4000; omega
  rw [← hS] at z1
  have HCV := conv_any S
  clear hS
  go_enter Tryz.func16, Tryz.ntmps16
  go_wp2_with (first
    | (go_at_call 28; refine HTX.out.mono ?_; rintro e w3 ⟨rfl, hb3⟩; have HB3 := hide hb3; have hs3 := hb3.size; clear hb3)
    | (at_builtin
       refine wpList_append_own _ rfl _ _ 26 rfl w1.heap.size 5 i5 (.int .u8 0) 1 1 Tryz.underlying26 hi5 hz5 hs5 hb5 rfl (by omega) (.slice a bs.length cap) bs.length (bC bs) rfl (row_keep (bel_trans HB3.out (Go.Joins.below_bytesWorld _ _ 5 S (Nat.le_refl _))) HO.out) ⟨w3.heap.size, 0, none⟩ S.size _ (bC S.data.toList) rfl (bC_size S) (conv_cells S w3) (bC_one _) (by unfold maxLen; omega) (by omega) (by rw [Lib.bytesWorld_size]; omega) ?_
       intro v7 w7 hown7 hgrow7 _)
    | fail)
  go_ret
  obtain ⟨r1, r2⟩ := app_own (bel_trans HB3.out (Go.Joins.below_bytesWorld _ _ 5 S (Nat.le_refl _))) hsz HO.out hown7 hgrow7
  rw [HS.out] at r1
  exact ⟨_, rfl, r1, r2⟩
end Go.Proofs.YtcagcfhnbphggaaGreatDoor

/- An operation of a region is taken first where what is asked of the world holds behind each. -/
namespace Go.Proofs.YtcagcfhnbphggaaGreatDoor
open Go.ChangeShapes Go.WideShapes Go.ChangeAt Go.RowKit
section
variable {P : Program} {ops : Array Oper} {Q : Exit → Act → World → Prop} {md : Region.Mode} {S : World → Prop} {L : Nat}
/-- Operation L waits for operation i, or there is no operation L. -/
def waits2 (md : Region.Mode) (ops : Array Oper) (L i : Nat) : Bool := waitsB md ops L i || decide (ops.size ≤ L)
theorem anyE_first2 {i : Nat} {oi : Oper} {v : Value} (hi : ops[i]? = some oi) (hs : Region.noSelect ops = true) (hL : waits2 md ops L i = true) (hQ : ∀ c a w, Q (.panic c) (a.put oi.dst v) w → Q (.panic c) a w) :
    ∀ (fuel : Nat) (listed : Array Bool) (a : Act) (w : World),
      (∀ j oj, ops[j]? = some oj → j ≠ i → listed.getD j true = false → (∀ e ∈ oj.after, Region.binds md e = true → e.on ≠ i) → oi.apart ops oj = true) →
      i ∈ Region.ready md ops listed → YieldsIf P ops S oi v a → S w →
      wpAnyE P md ops Q S L fuel (listed.setIfInBounds i true) (a.put oi.dst v) w → wpAnyE P md ops Q S L (fuel + 1) listed a w := by
  unfold waits2 at hL
  rw [Bool.or_eq_true] at hL
  rcases hL with hL | hL
  · exact anyE_first hi hs hL hQ
  have hL := of_decide_eq_true hL
  intro fuel
  induction fuel with
  | zero =>
    intro listed a w _ hr hy hS H
    refine ⟨fun h => (by rw [h] at hr; cases hr), fun j hj => ?_⟩
    by_cases hji : j = i
    · subst hji; exact hy.wpOp hi hS ⟨fun _ => hS, H⟩
    · have h := ready_mono hj hji
      rw [H.1] at h
      cases h
  | succ fuel ih =>
    intro listed a w hfree hr hy hS H
    refine ⟨fun h => (by rw [h] at hr; cases hr), fun j hj => ?_⟩
    by_cases hji : j = i
    · subst hji; exact hy.wpOp hi hS ⟨fun _ => hS, H⟩
    · obtain ⟨hjun, oj, hoj, _⟩ := mem_ready.1 hj
      have hjL : j ≠ L := by
        intro e
        subst e
        have := (Array.getElem?_eq_some_iff.1 hoj).1
        omega
      have h2 := wpOp_putIf hoj (hfree j oj hoj hji hjun (unlisted hr hj hoj)) (fun cs b => Region.noSelect_spec hs i oi cs b hi) (fun cs b => Region.noSelect_spec hs j oj cs b hoj) hQ hy (H.2 j (ready_mono hj hji))
      refine wpOp_mono (fun a' w' h3 => ⟨h3.2.1, ih (listed.setIfInBounds j true) a' w' (fun k ok hk hki hun hno => hfree k ok hk hki ?_ hno) (ready_mono hr (Ne.symm hji)) h3.1 (h3.2.1 hjL) ?_⟩) h2
      · by_cases hjk : j = k
        · subst hjk; exact hjun
        · rw [getD_set_ne true hjk] at hun; exact hun
      · rw [Array.setIfInBounds_comm _ _ hji]
        exact h3.2.2
/-- Operation i is taken first. -/
theorem anyE_take2 (i : Nat) {oi : Oper} {v : Value} {fuel : Nat} {listed : Array Bool} {a : Act} {w : World} (hi : ops[i]? = some oi) (hs : Region.noSelect ops = true) (hL : waits2 md ops L i = true) (hf : Region.free md ops listed i = true) (hr : (Region.ready md ops listed).contains i = true)
    (hQ : ∀ c a w, Q (.panic c) (a.put oi.dst v) w → Q (.panic c) a w) (hw : Region.wanted oi (yielded ops a.tmps) = true) (hy : ∀ w, S w → (execOp a.eval oi).run P w = .ok (.value v) w) (hS : S w)
    (h : ∀ K : Act → Prop, Hid (∀ a, wpAnyE P md ops Q S L fuel (listed.setIfInBounds i true) a w → K a) → K (a.put oi.dst v)) : wpAnyE P md ops Q S L (fuel + 1) listed a w :=
  anyE_first2 hi hs hL hQ fuel listed a w (Region.free_spec hi hf) (by simpa using hr) (.inl ⟨hw, hy⟩) hS (h _ (fun _ h => h))
end
end Go.Proofs.YtcagcfhnbphggaaGreatDoor
