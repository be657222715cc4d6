/- What FnLifted and FnHolePut ask of the drawn trees. No program is walked here. -/
import Derived.Test.YtjkkojefpecbfaaGreatPuQ
import Derived.Test.YtjkkojefpecbfaaGreatTeD
import Derived.Test.YtjkkojefpecbfaaGreatApI
import Derived.Test.YtjkkojefpecbfaaGreatPuD
import Derived.Test.YtjkkojefpecbfaaGreatPhB
import Derived.Test.YtjkkojefpecbfaaGreatLib
import Derived.Test.YtjkkojefpecbfaaGreatTeA
import Derived.Test.YtjkkojefpecbfaaGreatTree
import Derived.Test.YtjkkojefpecbfaaGreatDrK
import Derived.Test.YtjkkojefpecbfaaGreatMkC
import Derived.Test.YtjkkojefpecbfaaGreatDrA
namespace Go.Proofs.YtjkkojefpecbfaaGreat
open Go.ChangeShapes Go.WideShapes Go.ChangeAt Go.RowKit

theorem var_node {n : Int} (h0 : 0 ≤ n) (h1 : n ≤ 20000) : nodeP ⟨1, n, 0, ⟨#[]⟩, []⟩ 0 := by
  refine ⟨by show ((0 : Nat) : Int) = tkidsN 1; decide, ?_⟩
  have h := var0_node.2
  simp only [tfieldsB, Bool.and_eq_true] at h ⊢
  refine ⟨⟨⟨?_, h.1.1.2⟩, h.1.2⟩, h.2⟩
  have e : gN 1 = 20000 := by decide
  show (decide (0 ≤ n) && decide (n ≤ gN 1)) = true
  rw [e]
  simp [h0, h1]
theorem var_sz : VarOk szP := fun _ => ⟨by show (⟨#[]⟩ : ByteArray).size ≤ 1000; decide, by show ([] : List (List Nd)).length ≤ 3; decide, fun l hl => by simp at hl, fun l hl => by simp at hl⟩
theorem hole_node {m : Int} (h0 : 0 ≤ m) (h1 : m ≤ 1000000) : nodeP ⟨9, m, 0, ⟨#[]⟩, []⟩ 0 := by
  refine ⟨by show ((0 : Nat) : Int) = tkidsN 9; decide, ?_⟩
  have h : tfieldsB nameB ((⟨9, 0, 0, ⟨#[]⟩, []⟩ : Hd).td []) = true := by decide +kernel
  simp only [tfieldsB, Bool.and_eq_true] at h ⊢
  refine ⟨⟨⟨?_, h.1.1.2⟩, h.1.2⟩, h.2⟩
  have e : gN 9 = 1000000 := by decide
  show (decide (0 ≤ m) && decide (m ≤ gN 9)) = true
  rw [e]
  simp [h0, h1]
/-- A hole put for a variable. -/
theorem put_hole_ok {m : Int} (h0 : 0 ≤ m) (h1 : m ≤ 1000000) : ∀ (T : Tt) (u : Int), T.all nodeP → 0 ≤ u → (putR (holeT m) T u).all nodeP ∧ (putR (holeT m) T u).cnt = T.cnt
  | .t0 h, u, hp, hu => by
    by_cases hl : (Tt.t0 h).z.lo ≤ u
    · rw [put_same _ hl]; exact ⟨hp, rfl⟩
    · have e : h.k = 1 := Classical.byContradiction (fun q => hl (by rw [lo_t0, if_neg q]; exact hu))
      rw [lo_t0, if_pos e] at hl
      unfold putR
      rw [if_neg (by rw [lo_t0, if_pos e]; exact hl), if_pos e]
      by_cases en : h.n = u
      · rw [if_pos en, lift_hole]
        exact ⟨hole_node h0 h1, rfl⟩
      · rw [if_neg en]
        have hv := (node_var h 0 hp).1 e
        exact ⟨var_node (by omega) (by have := hv.1; omega), rfl⟩
  | .t1 h a, u, hp, hu => by
    by_cases hl : (Tt.t1 h a).z.lo ≤ u
    · rw [put_same _ hl]; exact ⟨hp, rfl⟩
    · have ea := put_hole_ok h0 h1 a (u + bindN h.k 0) hp.2 (by have := bindN_le h.k 0; omega)
      unfold putR
      rw [if_neg hl]
      exact ⟨⟨hp.1, ea.1⟩, by simp only [Tt.cnt, ea.2]⟩
  | .t2 h a b, u, hp, hu => by
    by_cases hl : (Tt.t2 h a b).z.lo ≤ u
    · rw [put_same _ hl]; exact ⟨hp, rfl⟩
    · have ea := put_hole_ok h0 h1 a (u + bindN h.k 0) hp.2.1 (by have := bindN_le h.k 0; omega)
      have eb := put_hole_ok h0 h1 b (u + bindN h.k 1) hp.2.2 (by have := bindN_le h.k 1; omega)
      unfold putR
      rw [if_neg hl]
      exact ⟨⟨hp.1, ea.1, eb.1⟩, by simp only [Tt.cnt, ea.2, eb.2]⟩
  | .t3 h a b c, u, hp, hu => by
    by_cases hl : (Tt.t3 h a b c).z.lo ≤ u
    · rw [put_same _ hl]; exact ⟨hp, rfl⟩
    · have ea := put_hole_ok h0 h1 a (u + bindN h.k 0) hp.2.1 (by have := bindN_le h.k 0; omega)
      have eb := put_hole_ok h0 h1 b (u + bindN h.k 1) hp.2.2.1 (by have := bindN_le h.k 1; omega)
      have ec := put_hole_ok h0 h1 c (u + bindN h.k 2) hp.2.2.2 (by have := bindN_le h.k 2; omega)
      unfold putR
      rw [if_neg hl]
      exact ⟨⟨hp.1, ea.1, eb.1, ec.1⟩, by simp only [Tt.cnt, ea.2, eb.2, ec.2]⟩
/-- The hole 77 as a term's nodes. -/
def hole77 : List Td := [⟨9, 77, 0, ⟨#[]⟩, [], []⟩]
theorem hole77_flat : (holeT 77).flat 0 = hole77 := rfl
theorem hole77_all : (holeT 77).all nodeP := hole_node (m := 77) (by omega) (by omega)
theorem hole77_term : termB hole77 = true := flat_term (T := holeT 77) hole77_all (by simp [holeT, Tt.cnt])
theorem hole77_for : TreeFor hole77 (holeT 77) := fun _ => ⟨hole77_flat, hole77_all⟩
/-- The first putting: the hole for the variable. -/
theorem first_put {T : Tt} {ts : List Td} (hT : T.all nodeP) (hc : T.cnt ≤ 20000) (hv : termB ts = true) : putA ts hole77 T (holeT 77) = ((putR (holeT 77) T 0).flat 0, 0) ∧ (putR (holeT 77) T 0).all nodeP ∧ termB ((putR (holeT 77) T 0).flat 0) = true := by
  obtain ⟨h1, h2⟩ := put_hole_ok (m := 77) (by omega) (by omega) T 0 hT (by omega)
  refine ⟨?_, h1, flat_term h1 (by omega)⟩
  unfold putA
  rw [if_pos ⟨hv, hole77_term⟩, fit_self (all_mono node_var h1) (by omega)]
  rfl
theorem second_put {T TA : Tt} {ts aa : List Td} (hT : T.all nodeP) (hn : T.all (noH 77)) (hv : termB ts = true) (ha : termB aa = true) (ht : termB ((putR (holeT 77) T 0).flat 0) = true) : holeA ((putR (holeT 77) T 0).flat 0) aa (putR (holeT 77) T 0) TA 77 = putA ts aa T TA := by
  unfold holeA putA
  rw [if_pos ⟨ht, ha⟩, if_pos ⟨hv, ha⟩, fill_put TA 77 T 0 hT hn (by omega)]
/-- A long term. -/
def longT : Nat → Tt
  | 0 => varT 0
  | j + 1 => .t2 appH (longT j) (varT (((2 * j + 1) % 3 : Nat) : Int))
theorem longT_cnt : ∀ j, (longT j).cnt = 2 * j + 1
  | 0 => rfl
  | j + 1 => by simp only [longT, Tt.cnt, longT_cnt j, varT]; omega
theorem longT_all {P : Hd → Nat → Prop} (hv : ∀ n : Int, 0 ≤ n → n ≤ 2 → P ⟨1, n, 0, ⟨#[]⟩, []⟩ 0) (ha : P appH 2) : ∀ j, (longT j).all P
  | 0 => hv 0 (by omega) (by omega)
  | j + 1 => ⟨ha, longT_all hv ha j, hv _ (by omega) (by have := Nat.mod_lt (2 * j + 1) (show 0 < 3 by omega); omega)⟩
theorem longT_node (j : Nat) : (longT j).all nodeP := longT_all (fun n h0 h1 => var_node h0 (by omega)) app_node j
theorem longT_sz (j : Nat) (hj : j ≤ 5000) : (longT j).zG.sz = ((2 * j + 1 : Nat) : Int) := by
  rw [zG_eq _ (all_mono node_var (longT_node j)) (by rw [longT_cnt]; omega), Tt.z_sz, longT_cnt]
theorem app_sz : szP appH 2 := ⟨by show (⟨#[]⟩ : ByteArray).size ≤ 1000; decide, by show ([] : List (List Nd)).length ≤ 3; decide, fun l hl => by simp [appH] at hl, fun l hl => by simp [appH] at hl⟩
theorem app_lev : levP appH 2 := ⟨fun l hl => by simp [appH] at hl, by simp [appH]⟩
theorem var_levL : VarOk levP := fun _ => ⟨fun l hl => by simp at hl, by simp⟩
def halves : List Nat := [4998, 4999, 4999, 5000]
/-- The nodes that DrawPut draws. -/
def dp1 (ρ : Pl) : List Td := if ρ.v = 255 then (Tt.t2 appH (varT 0) (varT 0)).flat 0 else anyT ρ.n
def dp2 (ρ : Pl) : List Td := if ρ.v = 255 then (longT (halves.getD ((anyTP ρ.n).v % 4) 0)).flat 0 else anyT (anyTP ρ.n)
theorem szt_any {ρ : Pl} (hq : LvQ (anyT ρ)) : ∀ td ∈ anyT ρ, SzT td := fun td hm => sz_of (few_any ρ td hm) (hq td hm) (lve_any ρ td hm)
theorem two_sz : (Tt.t2 appH (varT 0) (varT 0)).all szP := ⟨app_sz, var_sz 0, var_sz 0⟩
theorem szt_dp1 {ρ : Pl} (hq : LvQ (dp1 ρ)) : ∀ td ∈ dp1 ρ, SzT td := by
  unfold dp1 at hq ⊢
  split
  · exact szt_flat two_sz
  · rename_i h
    rw [if_neg h] at hq
    exact szt_any hq
theorem szt_dp2 {ρ : Pl} (hq : LvQ (dp2 ρ)) : ∀ td ∈ dp2 ρ, SzT td := by
  unfold dp2 at hq ⊢
  split
  · exact szt_flat (longT_all (fun n _ _ => var_sz n) app_sz _)
  · rename_i h
    rw [if_neg h] at hq
    exact szt_any hq
/-- What is known of each head of a valid drawn tree. -/
theorem szp_any {ρ : Pl} {T : Tt} (hT : T.flat 0 = anyT ρ) (hq : LvQ (anyT ρ)) : T.all szP := all_flat T 0 (fun td hm => by
  rw [hT] at hm
  obtain ⟨h1, h2, h3⟩ := few_any ρ td hm
  exact ⟨h1, h2, hq td hm, lve_any ρ td hm⟩)
theorem szp_dp1 {ρ : Pl} {T : Tt} (hT : T.flat 0 = dp1 ρ) (hq : LvQ (dp1 ρ)) : T.all szP := by
  unfold dp1 at hT hq
  split at hT
  · have hz : ∀ td ∈ (Tt.t2 appH (varT 0) (varT 0)).flat 0, szP td.hd td.kids.length := fun td hm => (flat_mem _ 0 two_sz td hm).2
    exact all_flat T 0 (fun td hm => hz td (by rw [← hT]; exact hm))
  · rename_i h
    rw [if_neg h] at hq
    exact szp_any hT hq
/-- No drawn node has the number 77. -/
def noN (h : Hd) (_ : Nat) : Prop := h.n ≠ 77
theorem varD_no (free k : Nat) (hk : k < 256) : (varD free k).all noN := by
  unfold varD
  have h1 : k / 12 % free ≤ k / 12 := Nat.mod_le _ _
  have h2 : k / 12 % 5 < 5 := Nat.mod_lt _ (by omega)
  split
  · show ((k / 12 % free : Nat) : Int) ≠ 77; omega
  · show ((k / 12 % 5 : Nat) : Int) ≠ 77; omega
theorem d3_no : ∀ (d deep free : Nat) (ρ : Pl), (d3 d deep free ρ).1.all noN
  | 0, deep, free, ρ => by
    simp only [d3]
    exact varD_no free ρ.v ρ.v_lt
  | d + 1, deep, free, ρ => by
    have ih := d3_no d
    have z : ¬ (0 : Int) = 77 := by decide
    simp only [d3]
    split
    · exact varD_no free ρ.v ρ.v_lt
    · split
      · exact z
      · split
        · exact z
        · split
          · exact ⟨z, ih _ _ _, ih _ _ _⟩
          · split
            · exact ⟨z, ih _ _ _, ih _ _ _, ih _ _ _⟩
            · split
              · exact ⟨by show ¬ ((ρ.v / 12 % 3 : Nat) : Int) = 77; have := Nat.mod_lt (ρ.v / 12) (show 0 < 3 by omega); omega, ih _ _ _⟩
              · split
                · show ¬ ((ρ.v / 12 % 4 : Nat) : Int) = 77
                  have := Nat.mod_lt (ρ.v / 12) (show 0 < 4 by omega); omega
                · exact ⟨z, ih _ _ _, ih _ _ _⟩
theorem nums6_no (i : Nat) : nums6.getD i 0 ≠ 77 := by
  by_cases e : i < nums6.length
  · simp only [List.getD_eq_getElem?_getD, List.getElem?_eq_getElem e, Option.getD_some]
    exact (show ∀ x ∈ nums6, x ≠ 77 by decide) _ (List.getElem_mem e)
  · simp only [List.getD_eq_getElem?_getD, List.getElem?_eq_none (Nat.le_of_not_lt e), Option.getD_none]
    decide
theorem spoilN_no {td : Td} (h : td.n ≠ 77) (p v : Nat) (σ : Pl) : (spoilN td p v σ).n ≠ 77 := by
  unfold spoilN
  split
  · exact h
  · split
    · exact nums6_no _
    · split
      · exact h
      · split
        · exact h
        · split
          · exact h
          · split
            · exact h
            · split
              · exact h
              · exact h
theorem any_no (ρ : Pl) : ∀ td ∈ anyT ρ, td.n ≠ 77 := fun td hm => by
  have hw : ∀ td ∈ (d3 8 0 (ρ.v % 4) ρ.n).1.flat 0, td.n ≠ 77 := fun td hm => (flat_mem _ 0 (d3_no 8 0 (ρ.v % 4) ρ.n) td hm).2
  unfold anyT at hm
  split at hm
  · exact hw td hm
  · unfold spoilT at hm
    rcases List.mem_or_eq_of_mem_set hm with h | rfl
    · exact hw td h
    · refine spoilN_no ?_ _ _ _
      have hl : 0 < ((d3 8 0 (ρ.v % 4) ρ.n).1.flat 0).length := by rw [Tt.flat_len]; exact Tt.cnt_pos _
      have hi := Nat.mod_lt (d3 8 0 (ρ.v % 4) ρ.n).2.v hl
      simp only [List.getD_eq_getElem?_getD, List.getElem?_eq_getElem hi, Option.getD_some]
      exact hw _ (List.getElem_mem hi)
theorem dp1_no {ρ : Pl} {T : Tt} (hT : T.flat 0 = dp1 ρ) : T.all (noH 77) := all_flat T 0 (fun td hm h => by
  rw [hT] at hm
  unfold dp1 at hm
  split at hm
  · have hz : (Tt.t2 appH (varT 0) (varT 0)).all noN := ⟨by show ¬ (0 : Int) = 77; decide, by show ¬ (0 : Int) = 77; decide, by show ¬ (0 : Int) = 77; decide⟩
    exact (flat_mem _ 0 hz td hm).2 h.2
  · exact any_no _ td hm h.2)
end Go.Proofs.YtjkkojefpecbfaaGreat

/- What the comparing of two terms (eqTerm and what it calls) answers at two terms with the same nodes: true; nothing that was there is written. -/
namespace Go.Proofs.YtjkkojefpecbfaaGreat
open Go.ChangeShapes Go.WideShapes Go.ChangeAt Go.RowKit

set_option maxHeartbeats 1000000 in
theorem eqLevelS_any (v1 v2 : Value) (ls : List (List Nd)) (w : World) (h1 : LevsAt w v1 ls) (h2 : LevsAt w v2 ls) :
    Calls Tryz.prog 37 #[v1, v2] w fun e w' => e = .returned (.bool true) ∧ Below w.heap.size w w' := by
  obtain ⟨a1, cap1, rfl, hl1, hm1, hc1⟩ := h1
  obtain ⟨a2, cap2, rfl, hl2, hm2, hc2⟩ := h2
  unfold maxLen at hm1 hm2
  have H1 : Hid (0 < ls.length → ∃ b off, a1 = some ⟨b, off, none⟩ ∧ ∀ i (h : i < ls.length), ∃ u, w.cell? ⟨b, off + i, none⟩ = some u ∧ NodesAt w u ls[i]) := hc1
  have H2 : Hid (0 < ls.length → ∃ b off, a2 = some ⟨b, off, none⟩ ∧ ∀ i (h : i < ls.length), ∃ u, w.cell? ⟨b, off + i, none⟩ = some u ∧ NodesAt w u ls[i]) := hc2
  clear hc1 hc2
  go_enter Tryz.func37, Tryz.ntmps37
  go_wp2_with fail
  go_loopw [5] (fun i wr => ∃ (k : Nat), k ≤ ls.length ∧ i = .int .i64 k ∧ Below w.heap.size w wr) (fun i _ => ls.length - (intOf i).toNat)
  case atStart => exact ⟨0, by omega, rfl, Below.refl _ _⟩
  case round =>
    obtain ⟨k, hk, rfl, hbel⟩ := hrel
    by_cases hlt : k < ls.length
    · obtain ⟨b1, o1, rfl, c1⟩ := H1.out (by omega)
      obtain ⟨b2, o2, rfl, c2⟩ := H2.out (by omega)
      obtain ⟨u1, p1, p2⟩ := c1 k hlt
      obtain ⟨u2, q1, q2⟩ := c2 k hlt
      have p1' := keep_cell hbel p1
      have q1' := keep_cell hbel q1
      have P2 := hide (p2.keep hbel)
      have Q2 := hide (q2.keep hbel)
      have hlt' : (k : Int) < ls.length := by omega
      clear c1 c2 H1 H2 p1 q1
      generalize ls[k] = ns at *
      obtain ⟨ua, uc, rfl, _, _, _⟩ := p2
      obtain ⟨va, vc, rfl, _, _, _⟩ := q2
      go_wp2_with fail
      go_region_with (go_at_call 74; refine (eqLevel_any _ _ ns _ ?_ ?_).mono ?_; exact P2.out.keep (below_drewN (Below.refl _ _) _); exact Q2.out.keep (below_drewN (Below.refl _ _) _); rintro e w1 ⟨rfl, hb⟩)
      all_goals
        go_wp2_with fail
        go_roundw
        case rel => exact ⟨k + 1, by omega, by go_num, hbel.drew.trans (hb.mono hbel.size)⟩
        case measure => simp [intOf]; omega
    · go_wp2_with fail
      go_ret
      exact ⟨rfl, hbel⟩

set_option maxHeartbeats 1000000 in
theorem eqNode_any (td : Td) (l1 k1 l2 k2 : Value) (w : World) (hl1 : LevsAt w l1 td.lv) (hl2 : LevsAt w l2 td.lv) (h1 : IntsAt w k1 td.kids) (h2 : IntsAt w k2 td.kids) :
    Calls Tryz.prog 104 #[.agg #[.int .i64 td.k, .int .i64 td.n, .int .i64 td.m, .string td.s, l1, k1], .agg #[.int .i64 td.k, .int .i64 td.n, .int .i64 td.m, .string td.s, l2, k2]] w fun e w' => e = .returned (.bool true) ∧ Below w.heap.size w w' := by
  have b2 : ∀ o1 o2, Below w.heap.size w ((w.alloc o1).alloc o2) := fun o1 o2 => (((Below.refl w.heap.size w).alloc (Nat.le_refl _) o1).alloc (by simp) o2)
  have H1 : Hid (∀ o1 o2, IntsAt ((w.alloc o1).alloc o2) k1 td.kids) := fun o1 o2 => h1.keep (b2 o1 o2)
  have H2 : Hid (∀ o1 o2, IntsAt ((w.alloc o1).alloc o2) k2 td.kids) := fun o1 o2 => h2.keep (b2 o1 o2)
  have L1 : Hid (∀ o1 o2, LevsAt ((w.alloc o1).alloc o2) l1 td.lv) := fun o1 o2 => hl1.keep (b2 o1 o2)
  have L2 : Hid (∀ o1 o2, LevsAt ((w.alloc o1).alloc o2) l2 td.lv) := fun o1 o2 => hl2.keep (b2 o1 o2)
  have HB2 := hide b2
  obtain ⟨a1, cap1, rfl, _, _, _⟩ := h1
  obtain ⟨a2, cap2, rfl, _, _, _⟩ := h2
  obtain ⟨la1, lc1, rfl, _, _, _⟩ := hl1
  obtain ⟨la2, lc2, rfl, _, _, _⟩ := hl2
  clear b2
  go_enter Tryz.func104, Tryz.ntmps104
  go_wp2_with fail
  refine (eqLevelS_any _ _ td.lv _ (L1.out _ _) (L2.out _ _)).mono ?_
  rintro e w1 ⟨rfl, hb⟩
  have x1 : w1.cell? ⟨w.heap.size, 5, none⟩ = some (.slice a1 td.kids.length cap1) := keep_cell hb (by simp [go_sem])
  have x2 : w1.cell? ⟨w.heap.size + 1, 5, none⟩ = some (.slice a2 td.kids.length cap2) := keep_cell hb (by simp [go_sem])
  have HB := hide hb
  clear hb
  go_wp2_with (go_at_call 152; refine (eqIntS_any _ _ td.kids _ ((H1.out _ _).keep HB.out) ((H2.out _ _).keep HB.out)).mono ?_; rintro e w2 ⟨rfl, n, rfl⟩)
  go_ret
  exact ⟨rfl, below_drewN ((HB2.out _ _).trans (HB.out.mono (by simp; omega))) n⟩

set_option maxHeartbeats 1000000 in
theorem eqNodeS_any (v1 v2 : Value) (ts : List Td) (w : World) (h1 : TNodesAt w v1 ts) (h2 : TNodesAt w v2 ts) :
    Calls Tryz.prog 56 #[v1, v2] w fun e w' => e = .returned (.bool true) ∧ Below w.heap.size w w' := by
  obtain ⟨a1, cap1, rfl, hl1, hm1, hc1⟩ := h1
  obtain ⟨a2, cap2, rfl, hl2, hm2, hc2⟩ := h2
  unfold maxLen at hm1 hm2
  have H1 : Hid (0 < ts.length → ∃ b off, a1 = some ⟨b, off, none⟩ ∧ ∀ i (h : i < ts.length), TNodeAt w b (off + i * 6) ts[i]) := hc1
  have H2 : Hid (0 < ts.length → ∃ b off, a2 = some ⟨b, off, none⟩ ∧ ∀ i (h : i < ts.length), TNodeAt w b (off + i * 6) ts[i]) := hc2
  clear hc1 hc2
  go_enter Tryz.func56, Tryz.ntmps56
  go_wp2_with fail
  go_loopw [5] (fun i wr => ∃ (k : Nat), k ≤ ts.length ∧ i = .int .i64 k ∧ Below w.heap.size w wr) (fun i _ => ts.length - (intOf i).toNat)
  case atStart => exact ⟨0, by omega, rfl, Below.refl _ _⟩
  case round =>
    obtain ⟨k, hk, rfl, hbel⟩ := hrel
    by_cases hlt : k < ts.length
    · obtain ⟨b1, o1, rfl, c1⟩ := H1.out (by omega)
      obtain ⟨b2, o2, rfl, c2⟩ := H2.out (by omega)
      have n1 := (c1 k hlt).keep hbel
      have n2 := (c2 k hlt).keep hbel
      have hlt' : (k : Int) < ts.length := by omega
      clear c1 c2 H1 H2
      generalize ts[k] = td at *
      obtain ⟨p1, p2, p3, p4, l1, p5, hl1', k1, p6, hk1⟩ := n1
      obtain ⟨q1, q2, q3, q4, l2, q5, hl2', k2, q6, hk2⟩ := n2
      have L1 := hide hl1'
      have L2 := hide hl2'
      have K1 := hide hk1
      have K2 := hide hk2
      obtain ⟨la1, lc1, rfl, _, _, _⟩ := hl1'
      obtain ⟨la2, lc2, rfl, _, _, _⟩ := hl2'
      obtain ⟨ka1, kc1, rfl, _, _, _⟩ := hk1
      obtain ⟨ka2, kc2, rfl, _, _, _⟩ := hk2
      go_wp2_with fail
      go_region_with (go_at_call 104; refine (eqNode_any td _ _ _ _ _ ?_ ?_ ?_ ?_).mono ?_; exact L1.out.keep (below_drewN (Below.refl _ _) _); exact L2.out.keep (below_drewN (Below.refl _ _) _); exact K1.out.keep (below_drewN (Below.refl _ _) _); exact K2.out.keep (below_drewN (Below.refl _ _) _); rintro e w1 ⟨rfl, hb⟩)
      all_goals
        go_wp2_with fail
        go_roundw
        case rel => exact ⟨k + 1, by omega, by go_num, hbel.drew.trans (hb.mono hbel.size)⟩
        case measure => simp [intOf]; omega
    · go_wp2_with fail
      go_ret
      exact ⟨rfl, hbel⟩

set_option maxHeartbeats 1000000 in
theorem eqTerm_any (v1 v2 : Value) (ts : List Td) (w : World) (h1 : TNodesAt w v1 ts) (h2 : TNodesAt w v2 ts) :
    Calls Tryz.prog 16 #[.agg #[v1], .agg #[v2]] w fun e w' => e = .returned (.bool true) ∧ Below w.heap.size w w' := by
  have H1 : Hid (∀ o1 o2, TNodesAt ((w.alloc o1).alloc o2) v1 ts) := fun o1 o2 => h1.keep (((Below.refl w.heap.size w).alloc (Nat.le_refl _) o1).alloc (by simp) o2)
  have H2 : Hid (∀ o1 o2, TNodesAt ((w.alloc o1).alloc o2) v2 ts) := fun o1 o2 => h2.keep (((Below.refl w.heap.size w).alloc (Nat.le_refl _) o1).alloc (by simp) o2)
  obtain ⟨a1, cap1, rfl, _, _, _⟩ := h1
  obtain ⟨a2, cap2, rfl, _, _, _⟩ := h2
  go_enter Tryz.func16, Tryz.ntmps16
  go_wp2_with (go_at_call 56; refine (eqNodeS_any _ _ ts _ (H1.out _ _) (H2.out _ _)).mono ?_; rintro e w1 ⟨rfl, hb⟩)
  go_ret
  exact ⟨rfl, (((Below.refl w.heap.size w).alloc (Nat.le_refl _) _).alloc (by simp) _).trans (hb.mono (by simp; omega))⟩
end Go.Proofs.YtjkkojefpecbfaaGreat

/- What the program's Apply answers. -/
namespace Go.Proofs.YtjkkojefpecbfaaGreat
open Go.ChangeShapes Go.WideShapes Go.ChangeAt Go.RowKit

theorem apps_all {P : Hd → Nat → Prop} (hp : P appH 2) : ∀ (xs : List Tt) (f : Tt), f.all P → (∀ a ∈ xs, a.all P) → (appsR f xs).all P
  | [], f, hf, _ => hf
  | a :: xs, f, hf, h => apps_all hp xs (.t2 appH f a) ⟨hp, hf, h a (by simp)⟩ (fun x hx => h x (by simp [hx]))
end Go.Proofs.YtjkkojefpecbfaaGreat

/- What the specification's l3App, l3Apps, l3Trees and Apply answer. -/
namespace Go.Proofs.YtjkkojefpecbfaaGreat
open Go.ChangeShapes Go.WideShapes Go.ChangeAt Go.RowKit

set_option maxRecDepth 20000 in
set_option maxHeartbeats 2000000 in
theorem l3App_any (F A : Tt) (pf pa : Nat) (w : World) (hF : SpG (fun _ => True) w F pf) (hA : SpG (fun _ => True) w A pa) (nF : F.all numP) (nA : A.all numP) :
    Calls Tryz.prog 82 #[.pointer (some ⟨pf, 0, none⟩), .pointer (some ⟨pa, 0, none⟩)] w fun e w' => ∃ p, e = .returned (ptrV p) ∧ SpG (fun _ => True) w' (.t2 appH F A) p ∧ Below w.heap.size w w' := by
  obtain ⟨W, hW⟩ : ∃ W, W = w.alloc (.cells #[.pointer (some ⟨pf, 0, none⟩), .pointer (some ⟨pa, 0, none⟩)] 72) := ⟨_, rfl⟩
  have hbW : Below w.heap.size w W := by rw [hW]; exact bel_alloc (Below.refl _ _) _
  have hrow : W.ownsRow w.heap.size 72 1 (.slice (some ⟨w.heap.size, 0, none⟩) 2 2) 2 ([pf, pa].map ptrV) := by
    rw [hW]
    exact ⟨rfl, .inr ⟨w.heap.size, 2, _, rfl, Nat.le_refl _, heap_alloc_new w _, Nat.le_refl _, by decide, rfl, rfl⟩⟩
  have HM := hide (make_tree (Q := fun _ => True) (R := fun _ => True) (h := appH) (ts := [F, A]) (ps := [pf, pa]) (lvv := .slice none 0 0) (kdv := .slice (some ⟨w.heap.size, 0, none⟩) 2 2) (w := W) rfl (by simp) (levrow_nil _ W) ((PtrRowQ.own hrow rfl).to (fun b _ _ => ⟨trivial, fun _ _ h => h⟩)) (fun j h1 h2 => by
    rcases (show j = 0 ∨ j = 1 by simp at h1; omega) with rfl | rfl
    · exact hF.keep hbW
    · exact hA.keep hbW) (fun t ht => by
    simp only [List.mem_cons, List.not_mem_nil, or_false] at ht
    rcases ht with rfl | rfl
    · exact nF
    · exact nA) (fun h => by simp [appH] at h) (fun h => by simp [appH] at h) rfl)
  have HM : Hid (Calls Tryz.prog 92 #[.int .i64 4, .int .i64 0, .int .i64 0, .string ⟨#[]⟩, .slice none 0 0, .slice (some ⟨w.heap.size, 0, none⟩) 2 2] W fun e w' => e = .returned (ptrV W.heap.size) ∧ SpG (fun _ => True) w' (.t2 appH F A) W.heap.size ∧ Below W.heap.size W w') := HM.out
  have HBW := hide hbW
  have HBS := hide hbW.size
  clear hF hA nF nA hrow hbW
  go_enter Tryz.func82, Tryz.ntmps82
  go_wp2_with fail
  first | rw [← hW] | skip
  clear hW
  generalize hsz : W.heap.size = sz at *
  clear hsz
  refine HM.out.mono ?_
  rintro e w1 ⟨rfl, h1, h2⟩
  have H1 := hide h1
  have H2 := hide (HBW.out.trans (h2.mono HBS.out))
  clear h1 h2
  unfold ptrV
  go_wp2_with fail
  go_ret
  exact ⟨_, rfl, H1.out, H2.out⟩
theorem appsR_snoc (f : Tt) (xs : List Tt) (j : Nat) (h : j < xs.length) : appsR f (xs.take (j + 1)) = .t2 appH (appsR f (xs.take j)) xs[j] := by
  unfold appsR
  rw [List.take_succ_eq_append_getElem h, List.foldl_append]
  rfl
theorem app_num : numP appH 2 := fun h => by simp [appH] at h
set_option maxRecDepth 20000 in
set_option maxHeartbeats 4000000 in
theorem l3Apps_any (lo : Nat) (F : Tt) (pf : Nat) (xs : List Tt) (ps : List Nat) (v : Value) (w : World) (hF : SpG (fun _ => True) w F pf) (nF : F.all numP) (hl : ps.length = xs.length) (hx : ∀ i (h1 : i < ps.length) (h2 : i < xs.length), SpG (fun _ => True) w xs[i] ps[i]) (nX : ∀ x ∈ xs, x.all numP) (hrow : w.ownsRow lo 72 1 v xs.length (ps.map ptrV)) (hxl : xs.length ≤ 1048576) :
    Calls Tryz.prog 61 #[.pointer (some ⟨pf, 0, none⟩), v] w fun e w' => ∃ p, e = .returned (ptrV p) ∧ SpG (fun _ => True) w' (appsR F xs) p ∧ Below w.heap.size w w' := by
  obtain ⟨R, hR⟩ : ∃ R, R = appsR F xs := ⟨_, rfl⟩
  rw [← hR]
  have HRR := hide hR
  obtain ⟨a, cap, rfl⟩ := row_form hrow
  have H0 : Hid (SpG (fun _ => True) w (appsR F (xs.take 0)) pf) := hF
  have HNF := hide nF
  have HNX := hide nX
  have HX := hide hx
  have HL := hide hl
  have HROW := hide hrow
  clear hF nF nX hx hl hrow hR
  go_enter Tryz.func61, Tryz.ntmps61
  go_wp2_with fail
  go_loopw [0, 5] (fun fv i wr => ∃ (j p' : Nat), j ≤ xs.length ∧ i = .int .i64 j ∧ fv = .pointer (some ⟨p', 0, none⟩) ∧ Hid (SpG (fun _ => True) wr (appsR F (xs.take j)) p') ∧ Hid (Below w.heap.size w wr)) (fun _ i _ => xs.length - (intOf i).toNat)
  case atStart => exact ⟨0, pf, by omega, rfl, rfl, H0, Below.refl _ _⟩
  case round =>
    clear H0
    obtain ⟨j, p', hj, rfl, rfl, HSJ, HBJ⟩ := hrel
    by_cases hlt : j < xs.length
    · have hlt' : (j : Int) < xs.length := by omega
      have HQ1 := hide (show j + 1 ≤ xs.length from hlt)
      have hjp : j < ps.length := by have := HL.out; omega
      have hrw := row_keep HBJ.out HROW.out
      obtain ⟨Rb, rfl⟩ := own_some hrw (by omega)
      have d1 := hrw.cellAt j (by have := HL.out; simp; omega)
      rw [List.getElem?_map, List.getElem?_eq_getElem hjp] at d1
      simp only [Option.map_some, ptrV] at d1
      have hl1 := lt_cell d1
      have HN := hide (l3App_any (appsR F (xs.take j)) xs[j] p' ps[j] wr HSJ.out ((HX.out j hjp hlt).keep HBJ.out) (apps_all app_num _ _ HNF.out (fun x hx => HNX.out x (List.mem_of_mem_take hx))) (HNX.out _ (List.getElem_mem hlt)))
      have HN : Hid (Calls Tryz.prog 82 #[.pointer (some ⟨p', 0, none⟩), .pointer (some ⟨ps[j], 0, none⟩)] wr fun e w' => ∃ p, e = .returned (ptrV p) ∧ SpG (fun _ => True) w' (appsR F (xs.take (j + 1))) p ∧ Below wr.heap.size wr w') := by
        show Calls _ _ _ _ _
        rw [appsR_snoc F xs j hlt]
        exact HN.out
      generalize ps[j] = pj at *
      clear hrw hjp
      go_wp2_with fail
      refine HN.out.mono ?_
      rintro e w1 ⟨p1, rfl, g1, g2⟩
      have G1 := hide g1
      have G2 := hide (bel_trans HBJ.out g2)
      clear g1 g2 HN d1 hl1
      unfold ptrV
      go_wp2_with fail
      go_roundw
      case rel => exact ⟨j + 1, p1, HQ1.out, by go_num, rfl, G1, G2⟩
      case measure => have := HQ1.out; simp [intOf]; omega
    · have hlt' : ¬ (j : Int) < xs.length := by omega
      have e : j = xs.length := by omega
      subst e
      have HRE : Hid (SpG (fun _ => True) wr R p') := by show SpG _ _ _ _; rw [HRR.out]; have h := HSJ.out; rwa [List.take_length] at h
      go_wp2_with fail
      go_ret
      exact ⟨p', rfl, HRE.out, HBJ.out⟩
end Go.Proofs.YtjkkojefpecbfaaGreat
