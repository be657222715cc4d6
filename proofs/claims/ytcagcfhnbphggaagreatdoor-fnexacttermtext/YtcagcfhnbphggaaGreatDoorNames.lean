/- What the specification's l1Names answers at a tree: the parameters of the tree, each once, behind those that were handed in. -/
import Derived.Test.YtcagcfhnbphggaaGreatDoorTree
namespace Go.Proofs.YtcagcfhnbphggaaGreatDoor
open Go.ChangeShapes Go.WideShapes Go.ChangeAt Go.RowKit

def addS (ss : List ByteArray) (k : Int) (s : ByteArray) : List ByteArray := if k = 5 ∧ hasB ss s = false then ss ++ [s] else ss
def Tr.names : List ByteArray → Tr → List ByteArray
  | ss, .leaf k s => addS ss k s
  | ss, .one k s a => a.names (addS ss k s)
  | ss, .two k s a b => b.names (a.names (addS ss k s))
def Tr.cnt : Tr → Nat
  | .leaf _ _ => 1
  | .one _ _ a => 1 + a.cnt
  | .two _ _ a b => 1 + a.cnt + b.cnt
theorem addS_len (ss : List ByteArray) (k : Int) (s : ByteArray) : (addS ss k s).length ≤ ss.length + 1 := by
  unfold addS; split <;> simp
theorem Tr.names_len : ∀ (t : Tr) (ss : List ByteArray), (t.names ss).length ≤ ss.length + t.cnt
  | .leaf k s, ss => addS_len ss k s
  | .one k s a, ss => by have := Tr.names_len a (addS ss k s); have := addS_len ss k s; simp only [Tr.names, Tr.cnt]; omega
  | .two k s a b, ss => by have := Tr.names_len b (a.names (addS ss k s)); have := Tr.names_len a (addS ss k s); have := addS_len ss k s; simp only [Tr.names, Tr.cnt]; omega

theorem Tryz.info9 : (Tryz.prog.info? 9).map (fun i => (i.zero, i.size, i.bytes)) = some (some (.string ⟨#[]⟩), 1, 16) := by kernel_rfl

theorem row_strs {w : World} {base : Nat} {e : TypeId} {v : Value} {ss : List ByteArray} (h : w.ownsRow base e 1 v ss.length (ss.map Value.string)) : StrsAt w v ss := by
  rcases h.2 with ⟨rfl, h0⟩ | ⟨g, cap, cur, rfl, _, hg, hnc, hcm, hcs, htake⟩
  · exact ⟨none, 0, by rw [h0], by omega, by unfold maxLen; omega, fun h => by omega⟩
  · exact ⟨_, cap, rfl, hnc, hcm, fun _ => ⟨g, 0, rfl, fun j hj => by rw [Nat.zero_add, h.cellAt j (by omega)]; simp [hj]⟩⟩

theorem node_cells {w : World} {g : Nat} {k : Int} {s : ByteArray} {a b : Value} {n : Nat} (h : w.heap[g]? = some (nodeV k s a b n)) :
    w.cell? ⟨g, 0, none⟩ = some (.int .i64 k) ∧ w.cell? ⟨g, 1, none⟩ = some (.string s) ∧ w.cell? ⟨g, 2, none⟩ = some a ∧ w.cell? ⟨g, 3, none⟩ = some b := by
  refine ⟨?_, ?_, ?_, ?_⟩
  · rw [cell_of_row w g 0 _ _ _ h]; rfl
  · rw [cell_of_row w g 1 _ _ _ h]; rfl
  · rw [cell_of_row w g 2 _ _ _ h]; rfl
  · rw [cell_of_row w g 3 _ _ _ h]; rfl
set_option maxHeartbeats 2000000 in
theorem names_leaf (k : Int) (s : ByteArray) (g : Nat) (w : World) (v : Value) (ss : List ByteArray) (base : Nat) (ht : TreeAt base w g (.leaf k s)) (hown : w.ownsRow base 9 1 v ss.length (ss.map Value.string)) (hbase : base ≤ w.heap.size) (hlen : ss.length + (Tr.leaf k s).cnt ≤ 1000) :
    Calls Tryz.prog 67 #[.pointer (some ⟨g, 0, none⟩), v] w fun e w' => ∃ v', e = .returned v' ∧ w'.ownsRow base 9 1 v' ((Tr.leaf k s).names ss).length (((Tr.leaf k s).names ss).map Value.string) ∧ Below base w w' := by
  obtain ⟨i0, hi, hz0, hz1, hz2⟩ := info_parts Tryz.info9
  obtain ⟨hg, hh⟩ := ht
  obtain ⟨c0, c1, c2, c3⟩ := node_cells hh
  clear hh
  have hstr := row_strs hown
  simp only [Tr.cnt] at hlen
  simp only [Tr.names]
  by_cases h5 : k = 5
  · have hq : (k == 5) = true := beq_iff_eq.2 h5
    cases hb : hasB ss s
    · obtain ⟨ss2, HA⟩ : ∃ ss2, Hid (ss2 = ss ++ [s]) := ⟨_, rfl⟩
      have hs2 : addS ss k s = ss2 := by rw [HA.out, addS, if_pos ⟨h5, hb⟩]
      have hl2 : ss2.length = ss.length + 1 := by rw [HA.out]; simp
      rw [hs2]
      clear h5 hs2
      have HL2 := hide hl2
      clear hl2
      go_enter Tryz.func67, Tryz.ntmps67
      go_wp2_with (first | (go_at_call 81; refine (l1In_any _ ss s _ hstr).mono ?_; rintro e w' ⟨rfl, hw⟩; subst hw; rw [hb]) | (at_builtin; refine wpList_append_own _ rfl _ _ 70 rfl base 9 i0 (.string ⟨#[]⟩) 1 16 Tryz.underlying70 hi hz0 hz1 hz2 rfl (by decide) _ _ _ rfl (hown.alloc _) ⟨_, 0, none⟩ 1 1 [.string s] rfl rfl ?c1 ?c2 ?c3 ?c4 ?c5 ?_))
      case c1 => exact cell_one_new _ _ _
      case c2 => first | rfl | (intro u hu; simp at hu; subst hu; rfl)
      case c3 => unfold maxLen; omega
      case c4 => omega
      case c5 => simp; omega
      intro v2 w2 hown2 hgrow2 _
      have hbel2 := ((Below.refl base _).alloc hbase _).grown hgrow2 (by simp; omega) (fun j hj => (hown.lt j hj).1)
      have hrow2 : w2.ownsRow base 9 1 v2 ss2.length (ss2.map Value.string) := by rw [HA.out]; simpa using hown2
      have d0 := hbel2.cell (p := ⟨g, 0, none⟩) hg
      have d2 := hbel2.cell (p := ⟨g, 2, none⟩) hg
      have d3 := hbel2.cell (p := ⟨g, 3, none⟩) hg
      rw [c0] at d0
      rw [c2] at d2
      rw [c3] at d3
      clear hown2 hgrow2
      go_wp2_with (go_at_call 63; refine (none_none _).mono ?_; rintro e w' ⟨rfl, rfl⟩)
      go_ret
      exact ⟨_, rfl, hrow2, hbel2⟩
    · clear hq
      have hq : (k == 5) = true := beq_iff_eq.2 h5
      have hs2 : addS ss k s = ss := by rw [addS, if_neg (by simp [hb])]
      rw [hs2]
      clear hs2
      have hbel2 : Below base w w := Below.refl _ _
      have HB2 := hide hbel2
      clear hbel2
      go_enter Tryz.func67, Tryz.ntmps67
      go_wp2_with (first | (go_at_call 81; refine (l1In_any _ ss s _ hstr).mono ?_; rintro e w' ⟨rfl, hw⟩; subst hw; rw [hb]) | (go_at_call 63; refine (none_none _).mono ?_; rintro e w' ⟨rfl, rfl⟩))
      go_ret
      exact ⟨_, rfl, hown, HB2.out⟩
  · have hq : (k == 5) = false := beq_eq_false_iff_ne.2 h5
    have hs2 : addS ss k s = ss := by rw [addS, if_neg (by simp [h5])]
    rw [hs2]
    clear hs2
    have hbel2 : Below base w w := Below.refl _ _
    have HB2 := hide hbel2
    clear hbel2
    go_enter Tryz.func67, Tryz.ntmps67
    go_wp2_with (go_at_call 63; refine (none_none _).mono ?_; rintro e w' ⟨rfl, rfl⟩)
    go_ret
    exact ⟨_, rfl, hown, HB2.out⟩

set_option maxHeartbeats 2000000 in
theorem names_one (k : Int) (s : ByteArray) (a : Tr) (iha : Hid (∀ (g : Nat) (w : World) (v : Value) (ss : List ByteArray) (base : Nat), TreeAt base w g a → w.ownsRow base 9 1 v ss.length (ss.map Value.string) → base ≤ w.heap.size → ss.length + (a).cnt ≤ 1000 → Calls Tryz.prog 67 #[.pointer (some ⟨g, 0, none⟩), v] w fun e w' => ∃ v', e = .returned v' ∧ w'.ownsRow base 9 1 v' ((a).names ss).length (((a).names ss).map Value.string) ∧ Below base w w')) (g : Nat) (w : World) (v : Value) (ss : List ByteArray) (base : Nat) (ht : TreeAt base w g (.one k s a)) (hown : w.ownsRow base 9 1 v ss.length (ss.map Value.string)) (hbase : base ≤ w.heap.size) (hlen : ss.length + (Tr.one k s a).cnt ≤ 1000) :
    Calls Tryz.prog 67 #[.pointer (some ⟨g, 0, none⟩), v] w fun e w' => ∃ v', e = .returned v' ∧ w'.ownsRow base 9 1 v' ((Tr.one k s a).names ss).length (((Tr.one k s a).names ss).map Value.string) ∧ Below base w w' := by
  obtain ⟨i0, hi, hz0, hz1, hz2⟩ := info_parts Tryz.info9
  obtain ⟨hg, pa, hh, hta⟩ := ht
  obtain ⟨c0, c1, c2, c3⟩ := node_cells hh
  clear hh
  have hstr := row_strs hown
  simp only [Tr.cnt] at hlen
  simp only [Tr.names]
  by_cases h5 : k = 5
  · have hq : (k == 5) = true := beq_iff_eq.2 h5
    cases hb : hasB ss s
    · obtain ⟨ss2, HA⟩ : ∃ ss2, Hid (ss2 = ss ++ [s]) := ⟨_, rfl⟩
      have hs2 : addS ss k s = ss2 := by rw [HA.out, addS, if_pos ⟨h5, hb⟩]
      have hl2 : ss2.length = ss.length + 1 := by rw [HA.out]; simp
      rw [hs2]
      clear h5 hs2
      have HL2 := hide hl2
      clear hl2
      go_enter Tryz.func67, Tryz.ntmps67
      go_wp2_with (first | (go_at_call 81; refine (l1In_any _ ss s _ hstr).mono ?_; rintro e w' ⟨rfl, hw⟩; subst hw; rw [hb]) | (at_builtin; refine wpList_append_own _ rfl _ _ 70 rfl base 9 i0 (.string ⟨#[]⟩) 1 16 Tryz.underlying70 hi hz0 hz1 hz2 rfl (by decide) _ _ _ rfl (hown.alloc _) ⟨_, 0, none⟩ 1 1 [.string s] rfl rfl ?c1 ?c2 ?c3 ?c4 ?c5 ?_))
      case c1 => exact cell_one_new _ _ _
      case c2 => first | rfl | (intro u hu; simp at hu; subst hu; rfl)
      case c3 => unfold maxLen; omega
      case c4 => omega
      case c5 => simp; omega
      intro v2 w2 hown2 hgrow2 _
      have hbel2 := ((Below.refl base _).alloc hbase _).grown hgrow2 (by simp; omega) (fun j hj => (hown.lt j hj).1)
      have hrow2 : w2.ownsRow base 9 1 v2 ss2.length (ss2.map Value.string) := by rw [HA.out]; simpa using hown2
      have d0 := hbel2.cell (p := ⟨g, 0, none⟩) hg
      have d2 := hbel2.cell (p := ⟨g, 2, none⟩) hg
      have d3 := hbel2.cell (p := ⟨g, 3, none⟩) hg
      rw [c0] at d0
      rw [c2] at d2
      rw [c3] at d3
      clear hown2 hgrow2
      have hl2 : ss2.length + a.cnt ≤ 1000 := by have := HL2.out; omega
      go_wp2_with (first | (go_at_call_of 63 (some (Addr.mk pa 0 none)); refine (none_some _ _).mono ?_; rintro e w' ⟨rfl, rfl⟩) | (go_at_call 63; refine (none_none _).mono ?_; rintro e w' ⟨rfl, rfl⟩))
      refine (iha.out pa _ _ ss2 base (hta.keep hbel2) hrow2 (by have := (hbel2).size; omega) hl2).mono ?_
      rintro e w3 ⟨v3, rfl, hown3, hb3⟩
      have hbw := (hbel2).trans hb3
      have q3 := hbw.cell (p := ⟨g, 3, none⟩) hg
      rw [c3] at q3
      clear hb3
      go_wp2_with (go_at_call 63; refine (none_none _).mono ?_; rintro e w' ⟨rfl, rfl⟩)
      go_ret
      exact ⟨_, rfl, hown3, hbw⟩
    · clear hq
      have hq : (k == 5) = true := beq_iff_eq.2 h5
      have hs2 : addS ss k s = ss := by rw [addS, if_neg (by simp [hb])]
      rw [hs2]
      clear hs2
      have hbel2 : Below base w w := Below.refl _ _
      have hl2 : ss.length + a.cnt ≤ 1000 := by omega
      have HB2 := hide hbel2
      clear hbel2
      go_enter Tryz.func67, Tryz.ntmps67
      go_wp2_with (first | (go_at_call 81; refine (l1In_any _ ss s _ hstr).mono ?_; rintro e w' ⟨rfl, hw⟩; subst hw; rw [hb]) | (go_at_call_of 63 (some (Addr.mk pa 0 none)); refine (none_some _ _).mono ?_; rintro e w' ⟨rfl, rfl⟩) | (go_at_call 63; refine (none_none _).mono ?_; rintro e w' ⟨rfl, rfl⟩))
      refine (iha.out pa _ _ ss base (hta.keep HB2.out) hown (by have := (HB2.out).size; omega) hl2).mono ?_
      rintro e w3 ⟨v3, rfl, hown3, hb3⟩
      have hbw := (HB2.out).trans hb3
      have q3 := hbw.cell (p := ⟨g, 3, none⟩) hg
      rw [c3] at q3
      clear hb3
      go_wp2_with (go_at_call 63; refine (none_none _).mono ?_; rintro e w' ⟨rfl, rfl⟩)
      go_ret
      exact ⟨_, rfl, hown3, hbw⟩
  · have hq : (k == 5) = false := beq_eq_false_iff_ne.2 h5
    have hs2 : addS ss k s = ss := by rw [addS, if_neg (by simp [h5])]
    rw [hs2]
    clear hs2
    have hbel2 : Below base w w := Below.refl _ _
    have hl2 : ss.length + a.cnt ≤ 1000 := by omega
    have HB2 := hide hbel2
    clear hbel2
    go_enter Tryz.func67, Tryz.ntmps67
    go_wp2_with (first | (go_at_call_of 63 (some (Addr.mk pa 0 none)); refine (none_some _ _).mono ?_; rintro e w' ⟨rfl, rfl⟩) | (go_at_call 63; refine (none_none _).mono ?_; rintro e w' ⟨rfl, rfl⟩))
    refine (iha.out pa _ _ ss base (hta.keep HB2.out) hown (by have := (HB2.out).size; omega) hl2).mono ?_
    rintro e w3 ⟨v3, rfl, hown3, hb3⟩
    have hbw := (HB2.out).trans hb3
    have q3 := hbw.cell (p := ⟨g, 3, none⟩) hg
    rw [c3] at q3
    clear hb3
    go_wp2_with (go_at_call 63; refine (none_none _).mono ?_; rintro e w' ⟨rfl, rfl⟩)
    go_ret
    exact ⟨_, rfl, hown3, hbw⟩

set_option maxHeartbeats 2000000 in
theorem names_two (k : Int) (s : ByteArray) (a b : Tr) (iha : Hid (∀ (g : Nat) (w : World) (v : Value) (ss : List ByteArray) (base : Nat), TreeAt base w g a → w.ownsRow base 9 1 v ss.length (ss.map Value.string) → base ≤ w.heap.size → ss.length + (a).cnt ≤ 1000 → Calls Tryz.prog 67 #[.pointer (some ⟨g, 0, none⟩), v] w fun e w' => ∃ v', e = .returned v' ∧ w'.ownsRow base 9 1 v' ((a).names ss).length (((a).names ss).map Value.string) ∧ Below base w w')) (ihb : Hid (∀ (g : Nat) (w : World) (v : Value) (ss : List ByteArray) (base : Nat), TreeAt base w g b → w.ownsRow base 9 1 v ss.length (ss.map Value.string) → base ≤ w.heap.size → ss.length + (b).cnt ≤ 1000 → Calls Tryz.prog 67 #[.pointer (some ⟨g, 0, none⟩), v] w fun e w' => ∃ v', e = .returned v' ∧ w'.ownsRow base 9 1 v' ((b).names ss).length (((b).names ss).map Value.string) ∧ Below base w w')) (g : Nat) (w : World) (v : Value) (ss : List ByteArray) (base : Nat) (ht : TreeAt base w g (.two k s a b)) (hown : w.ownsRow base 9 1 v ss.length (ss.map Value.string)) (hbase : base ≤ w.heap.size) (hlen : ss.length + (Tr.two k s a b).cnt ≤ 1000) :
    Calls Tryz.prog 67 #[.pointer (some ⟨g, 0, none⟩), v] w fun e w' => ∃ v', e = .returned v' ∧ w'.ownsRow base 9 1 v' ((Tr.two k s a b).names ss).length (((Tr.two k s a b).names ss).map Value.string) ∧ Below base w w' := by
  obtain ⟨i0, hi, hz0, hz1, hz2⟩ := info_parts Tryz.info9
  obtain ⟨hg, pa, pb, hh, hta, htb⟩ := ht
  obtain ⟨c0, c1, c2, c3⟩ := node_cells hh
  clear hh
  have hstr := row_strs hown
  simp only [Tr.cnt] at hlen
  simp only [Tr.names]
  by_cases h5 : k = 5
  · have hq : (k == 5) = true := beq_iff_eq.2 h5
    cases hb : hasB ss s
    · obtain ⟨ss2, HA⟩ : ∃ ss2, Hid (ss2 = ss ++ [s]) := ⟨_, rfl⟩
      have hs2 : addS ss k s = ss2 := by rw [HA.out, addS, if_pos ⟨h5, hb⟩]
      have hl2 : ss2.length = ss.length + 1 := by rw [HA.out]; simp
      rw [hs2]
      clear h5 hs2
      have HL2 := hide hl2
      clear hl2
      go_enter Tryz.func67, Tryz.ntmps67
      go_wp2_with (first | (go_at_call 81; refine (l1In_any _ ss s _ hstr).mono ?_; rintro e w' ⟨rfl, hw⟩; subst hw; rw [hb]) | (at_builtin; refine wpList_append_own _ rfl _ _ 70 rfl base 9 i0 (.string ⟨#[]⟩) 1 16 Tryz.underlying70 hi hz0 hz1 hz2 rfl (by decide) _ _ _ rfl (hown.alloc _) ⟨_, 0, none⟩ 1 1 [.string s] rfl rfl ?c1 ?c2 ?c3 ?c4 ?c5 ?_))
      case c1 => exact cell_one_new _ _ _
      case c2 => first | rfl | (intro u hu; simp at hu; subst hu; rfl)
      case c3 => unfold maxLen; omega
      case c4 => omega
      case c5 => simp; omega
      intro v2 w2 hown2 hgrow2 _
      have hbel2 := ((Below.refl base _).alloc hbase _).grown hgrow2 (by simp; omega) (fun j hj => (hown.lt j hj).1)
      have hrow2 : w2.ownsRow base 9 1 v2 ss2.length (ss2.map Value.string) := by rw [HA.out]; simpa using hown2
      have d0 := hbel2.cell (p := ⟨g, 0, none⟩) hg
      have d2 := hbel2.cell (p := ⟨g, 2, none⟩) hg
      have d3 := hbel2.cell (p := ⟨g, 3, none⟩) hg
      rw [c0] at d0
      rw [c2] at d2
      rw [c3] at d3
      clear hown2 hgrow2
      have hl2 : ss2.length + a.cnt + b.cnt ≤ 1000 := by have := HL2.out; omega
      go_wp2_with (go_at_call_of 63 (some (Addr.mk pa 0 none)); refine (none_some _ _).mono ?_; rintro e w' ⟨rfl, rfl⟩)
      refine (iha.out pa _ _ ss2 base (hta.keep hbel2) hrow2 (by have := (hbel2).size; omega) (by omega)).mono ?_
      rintro e w3 ⟨v3, rfl, hown3, hb3⟩
      have hbw := (hbel2).trans hb3
      have q0 := hbw.cell (p := ⟨g, 3, none⟩) hg
      rw [c3] at q0
      clear hb3
      go_wp2_with (go_at_call_of 63 (some (Addr.mk pb 0 none)); refine (none_some _ _).mono ?_; rintro e w' ⟨rfl, rfl⟩)
      refine (ihb.out pb _ _ (a.names ss2) base (htb.keep hbw) hown3 (by have := hbw.size; omega) (by have := a.names_len ss2; omega)).mono ?_
      rintro e w4 ⟨v4, rfl, hown4, hb4⟩
      have hbw4 := hbw.trans hb4
      go_wp2_with fail
      go_ret
      exact ⟨_, rfl, hown4, hbw4⟩
    · clear hq
      have hq : (k == 5) = true := beq_iff_eq.2 h5
      have hs2 : addS ss k s = ss := by rw [addS, if_neg (by simp [hb])]
      rw [hs2]
      clear hs2
      have hbel2 : Below base w w := Below.refl _ _
      have hl2 : ss.length + a.cnt + b.cnt ≤ 1000 := by omega
      have HB2 := hide hbel2
      clear hbel2
      go_enter Tryz.func67, Tryz.ntmps67
      go_wp2_with (first | (go_at_call 81; refine (l1In_any _ ss s _ hstr).mono ?_; rintro e w' ⟨rfl, hw⟩; subst hw; rw [hb]) | (go_at_call_of 63 (some (Addr.mk pa 0 none)); refine (none_some _ _).mono ?_; rintro e w' ⟨rfl, rfl⟩))
      refine (iha.out pa _ _ ss base (hta.keep HB2.out) hown (by have := (HB2.out).size; omega) (by omega)).mono ?_
      rintro e w3 ⟨v3, rfl, hown3, hb3⟩
      have hbw := (HB2.out).trans hb3
      have q0 := hbw.cell (p := ⟨g, 3, none⟩) hg
      rw [c3] at q0
      clear hb3
      go_wp2_with (go_at_call_of 63 (some (Addr.mk pb 0 none)); refine (none_some _ _).mono ?_; rintro e w' ⟨rfl, rfl⟩)
      refine (ihb.out pb _ _ (a.names ss) base (htb.keep hbw) hown3 (by have := hbw.size; omega) (by have := a.names_len ss; omega)).mono ?_
      rintro e w4 ⟨v4, rfl, hown4, hb4⟩
      have hbw4 := hbw.trans hb4
      go_wp2_with fail
      go_ret
      exact ⟨_, rfl, hown4, hbw4⟩
  · have hq : (k == 5) = false := beq_eq_false_iff_ne.2 h5
    have hs2 : addS ss k s = ss := by rw [addS, if_neg (by simp [h5])]
    rw [hs2]
    clear hs2
    have hbel2 : Below base w w := Below.refl _ _
    have hl2 : ss.length + a.cnt + b.cnt ≤ 1000 := by omega
    have HB2 := hide hbel2
    clear hbel2
    go_enter Tryz.func67, Tryz.ntmps67
    go_wp2_with (go_at_call_of 63 (some (Addr.mk pa 0 none)); refine (none_some _ _).mono ?_; rintro e w' ⟨rfl, rfl⟩)
    refine (iha.out pa _ _ ss base (hta.keep HB2.out) hown (by have := (HB2.out).size; omega) (by omega)).mono ?_
    rintro e w3 ⟨v3, rfl, hown3, hb3⟩
    have hbw := (HB2.out).trans hb3
    have q0 := hbw.cell (p := ⟨g, 3, none⟩) hg
    rw [c3] at q0
    clear hb3
    go_wp2_with (go_at_call_of 63 (some (Addr.mk pb 0 none)); refine (none_some _ _).mono ?_; rintro e w' ⟨rfl, rfl⟩)
    refine (ihb.out pb _ _ (a.names ss) base (htb.keep hbw) hown3 (by have := hbw.size; omega) (by have := a.names_len ss; omega)).mono ?_
    rintro e w4 ⟨v4, rfl, hown4, hb4⟩
    have hbw4 := hbw.trans hb4
    go_wp2_with fail
    go_ret
    exact ⟨_, rfl, hown4, hbw4⟩

theorem l1Names_any : ∀ (t : Tr) (g : Nat) (w : World) (v : Value) (ss : List ByteArray) (base : Nat), TreeAt base w g t → w.ownsRow base 9 1 v ss.length (ss.map Value.string) → base ≤ w.heap.size → ss.length + t.cnt ≤ 1000 → Calls Tryz.prog 67 #[.pointer (some ⟨g, 0, none⟩), v] w fun e w' => ∃ v', e = .returned v' ∧ w'.ownsRow base 9 1 v' (t.names ss).length ((t.names ss).map Value.string) ∧ Below base w w'
  | .leaf k s, g, w, v, ss, base, h1, h2, h3, h4 => names_leaf k s g w v ss base h1 h2 h3 h4
  | .one k s a, g, w, v, ss, base, h1, h2, h3, h4 => names_one k s a (hide (l1Names_any a)) g w v ss base h1 h2 h3 h4
  | .two k s a b, g, w, v, ss, base, h1, h2, h3, h4 => names_two k s a b (hide (l1Names_any a)) (hide (l1Names_any b)) g w v ss base h1 h2 h3 h4
end Go.Proofs.YtcagcfhnbphggaaGreatDoor
