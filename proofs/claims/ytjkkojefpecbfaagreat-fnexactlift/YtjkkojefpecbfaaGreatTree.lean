/- What the small functions around the program's TermOk answer. -/
import Derived.Test.YtjkkojefpecbfaaGreatLib
import Derived.Test.YtjkkojefpecbfaaGreatName
import Derived.Test.YtjkkojefpecbfaaGreatImpl
import Derived.Test.YtjkkojefpecbfaaGreatStA
import Derived.Deep.RegionHeld3
import Derived.Deep.AppendLies
namespace Go.Proofs.YtjkkojefpecbfaaGreat
open Go.ChangeShapes Go.WideShapes Go.ChangeAt Go.RowKit

theorem kinds (k : Int) (h : k < 1 ∨ 9 < k) : (k == 1) = false ∧ (k == 2) = false ∧ (k == 3) = false ∧ (k == 4) = false ∧ (k == 5) = false ∧ (k == 6) = false ∧ (k == 7) = false ∧ (k == 8) = false ∧ (k == 9) = false := by
  refine ⟨?_, ?_, ?_, ?_, ?_, ?_, ?_, ?_, ?_⟩ <;> (rw [beq_eq_false_iff_ne]; omega)

set_option maxHeartbeats 1000000 in
theorem termKids_any (k : Int) (w : World) : Calls Tryz.prog 145 #[.int .i64 k] w fun e w' => e = .returned (.int .i64 (tkidsN k)) ∧ w' = w := by
  rcases kind_cases k with rfl | rfl | rfl | rfl | rfl | rfl | rfl | rfl | rfl | h
  · go_enter Tryz.func145, Tryz.ntmps145; go_wp2; go_ret; exact ⟨rfl, rfl⟩
  · go_enter Tryz.func145, Tryz.ntmps145; go_wp2; go_ret; exact ⟨rfl, rfl⟩
  · go_enter Tryz.func145, Tryz.ntmps145; go_wp2; go_ret; exact ⟨rfl, rfl⟩
  · go_enter Tryz.func145, Tryz.ntmps145; go_wp2; go_ret; exact ⟨rfl, rfl⟩
  · go_enter Tryz.func145, Tryz.ntmps145; go_wp2; go_ret; exact ⟨rfl, rfl⟩
  · go_enter Tryz.func145, Tryz.ntmps145; go_wp2; go_ret; exact ⟨rfl, rfl⟩
  · go_enter Tryz.func145, Tryz.ntmps145; go_wp2; go_ret; exact ⟨rfl, rfl⟩
  · go_enter Tryz.func145, Tryz.ntmps145; go_wp2; go_ret; exact ⟨rfl, rfl⟩
  · go_enter Tryz.func145, Tryz.ntmps145; go_wp2; go_ret; exact ⟨rfl, rfl⟩
  have HK := hide (tkidsN_neg k h)
  obtain ⟨e1, e2, e3, e4, e5, e6, e7, e8, e9⟩ := kinds k h
  clear h
  go_enter Tryz.func145, Tryz.ntmps145; go_wp2; go_ret; exact ⟨ret_int HK.out.symm, rfl⟩
set_option maxHeartbeats 1000000 in
theorem greatestNumber_any (k : Int) (w : World) : Calls Tryz.prog 185 #[.int .i64 k] w fun e w' => e = .returned (.int .i64 (gN k)) ∧ w' = w := by
  rcases kind_cases k with rfl | rfl | rfl | rfl | rfl | rfl | rfl | rfl | rfl | h
  · go_enter Tryz.func185, Tryz.ntmps185; go_wp2; go_ret; exact ⟨rfl, rfl⟩
  · go_enter Tryz.func185, Tryz.ntmps185; go_wp2; go_ret; exact ⟨rfl, rfl⟩
  · go_enter Tryz.func185, Tryz.ntmps185; go_wp2; go_ret; exact ⟨rfl, rfl⟩
  · go_enter Tryz.func185, Tryz.ntmps185; go_wp2; go_ret; exact ⟨rfl, rfl⟩
  · go_enter Tryz.func185, Tryz.ntmps185; go_wp2; go_ret; exact ⟨rfl, rfl⟩
  · go_enter Tryz.func185, Tryz.ntmps185; go_wp2; go_ret; exact ⟨rfl, rfl⟩
  · go_enter Tryz.func185, Tryz.ntmps185; go_wp2; go_ret; exact ⟨rfl, rfl⟩
  · go_enter Tryz.func185, Tryz.ntmps185; go_wp2; go_ret; exact ⟨rfl, rfl⟩
  · go_enter Tryz.func185, Tryz.ntmps185; go_wp2; go_ret; exact ⟨rfl, rfl⟩
  have HK : Hid (gN k = 0) := by show _ = _; unfold gN; rw [if_neg (by omega), if_neg (by omega)]
  obtain ⟨e1, e2, e3, e4, e5, e6, e7, e8, e9⟩ := kinds k h
  clear h
  go_enter Tryz.func185, Tryz.ntmps185; go_wp2; go_ret; exact ⟨ret_int HK.out.symm, rfl⟩
set_option maxHeartbeats 1000000 in
theorem greatestMode_any (k : Int) (w : World) : Calls Tryz.prog 186 #[.int .i64 k] w fun e w' => e = .returned (.int .i64 (gM k)) ∧ w' = w := by
  rcases kind_cases k with rfl | rfl | rfl | rfl | rfl | rfl | rfl | rfl | rfl | h
  · go_enter Tryz.func186, Tryz.ntmps186; go_wp2; go_ret; exact ⟨rfl, rfl⟩
  · go_enter Tryz.func186, Tryz.ntmps186; go_wp2; go_ret; exact ⟨rfl, rfl⟩
  · go_enter Tryz.func186, Tryz.ntmps186; go_wp2; go_ret; exact ⟨rfl, rfl⟩
  · go_enter Tryz.func186, Tryz.ntmps186; go_wp2; go_ret; exact ⟨rfl, rfl⟩
  · go_enter Tryz.func186, Tryz.ntmps186; go_wp2; go_ret; exact ⟨rfl, rfl⟩
  · go_enter Tryz.func186, Tryz.ntmps186; go_wp2; go_ret; exact ⟨rfl, rfl⟩
  · go_enter Tryz.func186, Tryz.ntmps186; go_wp2; go_ret; exact ⟨rfl, rfl⟩
  · go_enter Tryz.func186, Tryz.ntmps186; go_wp2; go_ret; exact ⟨rfl, rfl⟩
  · go_enter Tryz.func186, Tryz.ntmps186; go_wp2; go_ret; exact ⟨rfl, rfl⟩
  have HK : Hid (gM k = 0) := by show _ = _; unfold gM; rw [if_neg (by omega)]
  obtain ⟨e1, e2, e3, e4, e5, e6, e7, e8, e9⟩ := kinds k h
  clear h
  go_enter Tryz.func186, Tryz.ntmps186; go_wp2; go_ret; exact ⟨ret_int HK.out.symm, rfl⟩

set_option maxHeartbeats 1000000 in
theorem termNameOk_any (td : Td) (la ka : Option Addr) (ln lc kn kc : Nat) (w : World) (hs : td.s.size ≤ maxLen) :
    Calls Tryz.prog 187 #[.agg #[.int .i64 td.k, .int .i64 td.n, .int .i64 td.m, .string td.s, .slice la ln lc, .slice ka kn kc]] w fun e w' => e = .returned (.bool (tnameB nameB td)) ∧ Below w.heap.size w w' := by
  obtain ⟨k, n, m, s, lv, kids⟩ := td
  dsimp only at *
  rcases kind_cases k with rfl | rfl | rfl | rfl | rfl | rfl | rfl | rfl | rfl | h
  · go_enter Tryz.func187, Tryz.ntmps187
    go_wp2_with (first
      | (go_at_call 199; refine (implName_any _ _ hs).mono ?_; rintro e w' ⟨rfl, hw'⟩)
      | (go_at_call 200; refine (implShort_any _ _ hs).mono ?_; rintro e w' ⟨rfl, rfl⟩)
      | fail)
    go_ret
    first
      | exact ⟨rfl, bel_alloc (Below.refl _ _) _⟩
      | exact ⟨rfl, (bel_alloc (Below.refl _ _) _).trans (hw'.mono (by simp))⟩
  · go_enter Tryz.func187, Tryz.ntmps187
    go_wp2_with (first
      | (go_at_call 199; refine (implName_any _ _ hs).mono ?_; rintro e w' ⟨rfl, hw'⟩)
      | (go_at_call 200; refine (implShort_any _ _ hs).mono ?_; rintro e w' ⟨rfl, rfl⟩)
      | fail)
    go_ret
    first
      | exact ⟨rfl, bel_alloc (Below.refl _ _) _⟩
      | exact ⟨rfl, (bel_alloc (Below.refl _ _) _).trans (hw'.mono (by simp))⟩
  · go_enter Tryz.func187, Tryz.ntmps187
    go_wp2_with (first
      | (go_at_call 199; refine (implName_any _ _ hs).mono ?_; rintro e w' ⟨rfl, hw'⟩)
      | (go_at_call 200; refine (implShort_any _ _ hs).mono ?_; rintro e w' ⟨rfl, rfl⟩)
      | fail)
    go_ret
    first
      | exact ⟨rfl, bel_alloc (Below.refl _ _) _⟩
      | exact ⟨rfl, (bel_alloc (Below.refl _ _) _).trans (hw'.mono (by simp))⟩
  · go_enter Tryz.func187, Tryz.ntmps187
    go_wp2_with (first
      | (go_at_call 199; refine (implName_any _ _ hs).mono ?_; rintro e w' ⟨rfl, hw'⟩)
      | (go_at_call 200; refine (implShort_any _ _ hs).mono ?_; rintro e w' ⟨rfl, rfl⟩)
      | fail)
    go_ret
    first
      | exact ⟨rfl, bel_alloc (Below.refl _ _) _⟩
      | exact ⟨rfl, (bel_alloc (Below.refl _ _) _).trans (hw'.mono (by simp))⟩
  · go_enter Tryz.func187, Tryz.ntmps187
    go_wp2_with (first
      | (go_at_call 199; refine (implName_any _ _ hs).mono ?_; rintro e w' ⟨rfl, hw'⟩)
      | (go_at_call 200; refine (implShort_any _ _ hs).mono ?_; rintro e w' ⟨rfl, rfl⟩)
      | fail)
    go_ret
    first
      | exact ⟨rfl, bel_alloc (Below.refl _ _) _⟩
      | exact ⟨rfl, (bel_alloc (Below.refl _ _) _).trans (hw'.mono (by simp))⟩
  · go_enter Tryz.func187, Tryz.ntmps187
    go_wp2_with (first
      | (go_at_call 199; refine (implName_any _ _ hs).mono ?_; rintro e w' ⟨rfl, hw'⟩)
      | (go_at_call 200; refine (implShort_any _ _ hs).mono ?_; rintro e w' ⟨rfl, rfl⟩)
      | fail)
    go_ret
    first
      | exact ⟨rfl, bel_alloc (Below.refl _ _) _⟩
      | exact ⟨rfl, (bel_alloc (Below.refl _ _) _).trans (hw'.mono (by simp))⟩
  · go_enter Tryz.func187, Tryz.ntmps187
    go_wp2_with (first
      | (go_at_call 199; refine (implName_any _ _ hs).mono ?_; rintro e w' ⟨rfl, hw'⟩)
      | (go_at_call 200; refine (implShort_any _ _ hs).mono ?_; rintro e w' ⟨rfl, rfl⟩)
      | fail)
    go_ret
    first
      | exact ⟨rfl, bel_alloc (Below.refl _ _) _⟩
      | exact ⟨rfl, (bel_alloc (Below.refl _ _) _).trans (hw'.mono (by simp))⟩
  · go_enter Tryz.func187, Tryz.ntmps187
    go_wp2_with (first
      | (go_at_call 199; refine (implName_any _ _ hs).mono ?_; rintro e w' ⟨rfl, hw'⟩)
      | (go_at_call 200; refine (implShort_any _ _ hs).mono ?_; rintro e w' ⟨rfl, rfl⟩)
      | fail)
    go_ret
    first
      | exact ⟨rfl, bel_alloc (Below.refl _ _) _⟩
      | exact ⟨rfl, (bel_alloc (Below.refl _ _) _).trans (hw'.mono (by simp))⟩
  · go_enter Tryz.func187, Tryz.ntmps187
    go_wp2_with (first
      | (go_at_call 199; refine (implName_any _ _ hs).mono ?_; rintro e w' ⟨rfl, hw'⟩)
      | (go_at_call 200; refine (implShort_any _ _ hs).mono ?_; rintro e w' ⟨rfl, rfl⟩)
      | fail)
    go_ret
    first
      | exact ⟨rfl, bel_alloc (Below.refl _ _) _⟩
      | exact ⟨rfl, (bel_alloc (Below.refl _ _) _).trans (hw'.mono (by simp))⟩
  have HK : Hid (tnameB nameB ⟨k, n, m, s, lv, kids⟩ = s.toList.isEmpty) := by
    show _ = _
    unfold tnameB
    rw [if_neg (by dsimp only; omega), if_neg (by simp [bindsB]; omega)]
  obtain ⟨e1, e2, e3, e4, e5, e6, e7, e8, e9⟩ := kinds k h
  clear h
  rw [HK.out]
  go_enter Tryz.func187, Tryz.ntmps187
  go_wp2_with fail
  go_ret
  exact ⟨rfl, bel_alloc (Below.refl _ _) _⟩
end Go.Proofs.YtjkkojefpecbfaaGreat

/- How the specification's trees of levels lie in memory, and what the making of one node answers. -/
namespace Go.Proofs.YtjkkojefpecbfaaGreat
open Go.ChangeShapes Go.WideShapes Go.ChangeAt Go.RowKit

inductive Tr where
  | leaf (k : Int) (s : ByteArray)
  | one (k : Int) (s : ByteArray) (a : Tr)
  | two (k : Int) (s : ByteArray) (a b : Tr)

def Tr.sz : Tr → Nat
  | .leaf _ _ => 1
  | .one _ _ a => min 1000 (1 + a.sz)
  | .two _ _ a b => min 1000 (1 + a.sz + b.sz)
theorem Tr.sz_le : ∀ t : Tr, t.sz ≤ 1000
  | .leaf _ _ => by simp [Tr.sz]
  | .one _ _ a => by simp [Tr.sz]; omega
  | .two _ _ a b => by simp [Tr.sz]; omega

/-- A node's block. -/
def nodeV (k : Int) (s : ByteArray) (a b : Value) (sz : Nat) : Obj := .cells #[.int .i64 k, .string s, a, b, .int .i64 sz] 211 (0, 0)
/-- The tree t hangs at block b, all its blocks below B. -/
def TreeAt (B : Nat) (w : World) : Nat → Tr → Prop
  | g, .leaf k s => g < B ∧ w.heap[g]? = some (nodeV k s (.pointer none) (.pointer none) 1)
  | g, .one k s a => g < B ∧ ∃ pa, w.heap[g]? = some (nodeV k s (.pointer (some ⟨pa, 0, none⟩)) (.pointer none) (Tr.one k s a).sz) ∧ TreeAt B w pa a
  | g, .two k s a b => g < B ∧ ∃ pa pb, w.heap[g]? = some (nodeV k s (.pointer (some ⟨pa, 0, none⟩)) (.pointer (some ⟨pb, 0, none⟩)) (Tr.two k s a b).sz) ∧ TreeAt B w pa a ∧ TreeAt B w pb b

theorem TreeAt.of {B B' : Nat} {w w' : World} (hB : B ≤ B') (h : ∀ g o, g < B → w.heap[g]? = some o → (∃ cs, o = .cells cs 211 (0, 0)) → w'.heap[g]? = some o) : ∀ {t : Tr} {g : Nat}, TreeAt B w g t → TreeAt B' w' g t
  | .leaf k s, g, ht => ⟨by have := ht.1; omega, h g _ ht.1 ht.2 ⟨_, rfl⟩⟩
  | .one k s a, g, ht => by
    obtain ⟨h1, pa, h2, h3⟩ := ht
    exact ⟨by omega, pa, h g _ h1 h2 ⟨_, rfl⟩, TreeAt.of hB h h3⟩
  | .two k s a b, g, ht => by
    obtain ⟨h1, pa, pb, h2, h3, h4⟩ := ht
    exact ⟨by omega, pa, pb, h g _ h1 h2 ⟨_, rfl⟩, TreeAt.of hB h h3, TreeAt.of hB h h4⟩
theorem TreeAt.keep {B : Nat} {w w' : World} (hb : Below B w w') {t : Tr} {g : Nat} (h : TreeAt B w g t) : TreeAt B w' g t :=
  TreeAt.of (Nat.le_refl _) (fun g _ hg ho _ => by rw [hb.block g hg]; exact ho) h
theorem TreeAt.mono {B B' : Nat} {w : World} (hB : B ≤ B') {t : Tr} {g : Nat} (h : TreeAt B w g t) : TreeAt B' w g t :=
  TreeAt.of hB (fun _ _ _ ho _ => ho) h
/-- A row of another type may be written. -/
theorem TreeAt.grown {B : Nat} {w w' : World} {row : Option Nat} (hg : w.grownBy w' row) (hne : ∀ k, row = some k → ∃ cs e, e ≠ 211 ∧ w.heap[k]? = some (.cells cs e (0, 0))) {t : Tr} {g : Nat} (h : TreeAt B w g t) : TreeAt B w' g t :=
  TreeAt.of (Nat.le_refl _) (fun g o _ ho ht => by
    obtain ⟨cs, rfl⟩ := ht
    have hlt : g < w.heap.size := (Array.getElem?_eq_some_iff.1 ho).1
    rw [hg.block g hlt ?_]; exact ho
    intro e
    obtain ⟨cs', e', h1, h2⟩ := hne g e.symm
    rw [ho] at h2
    simp at h2
    exact h1 h2.2.symm) h
theorem TreeAt.lt {B : Nat} {w : World} {g : Nat} : ∀ {t : Tr}, TreeAt B w g t → g < B
  | .leaf _ _, h => h.1
  | .one _ _ _, h => h.1
  | .two _ _ _ _, h => h.1
theorem TreeAt.cell4 {B : Nat} {w : World} {g : Nat} : ∀ {t : Tr}, TreeAt B w g t → w.cell? ⟨g, 4, none⟩ = some (.int .i64 t.sz)
  | .leaf _ _, h => by rw [cell_of_row w g 4 _ _ _ h.2]; rfl
  | .one _ _ _, h => by obtain ⟨_, pa, h2, _⟩ := h; rw [cell_of_row w g 4 _ _ _ h2]; rfl
  | .two _ _ _ _, h => by obtain ⟨_, pa, pb, h2, _⟩ := h; rw [cell_of_row w g 4 _ _ _ h2]; rfl

set_option maxHeartbeats 400000 in
theorem none_some (a : Addr) (w : World) : Calls Tryz.prog 118 #[.pointer (some a)] w fun e w' => e = .returned (.bool false) ∧ w' = w := by
  go_enter Tryz.func118, Tryz.ntmps118
  go_wp2
  go_ret
  exact ⟨rfl, rfl⟩
set_option maxHeartbeats 400000 in
theorem none_none (w : World) : Calls Tryz.prog 118 #[.pointer none] w fun e w' => e = .returned (.bool true) ∧ w' = w := by
  go_enter Tryz.func118, Tryz.ntmps118
  go_wp2
  go_ret
  exact ⟨rfl, rfl⟩

set_option maxHeartbeats 1000000 in
theorem make_leaf (k : Int) (s : ByteArray) (w : World) :
    Calls Tryz.prog 160 #[.int .i64 k, .string s, .pointer none, .pointer none] w fun e w' => e = .returned (.pointer (some ⟨w.heap.size, 0, none⟩)) ∧ ∃ n, w' = (w.alloc (nodeV k s (.pointer none) (.pointer none) 1)).drewN n := by
  go_enter Tryz.func160, Tryz.ntmps160
  go_wp2_with (go_at_call 118; refine (none_none _).mono ?_; rintro e w' ⟨rfl, rfl⟩)
  go_ret
  exact ⟨rfl, 0, rfl⟩

set_option maxHeartbeats 1000000 in
theorem make_one (k : Int) (s : ByteArray) (pa sa : Nat) (w : World) (ha : w.cell? ⟨pa, 4, none⟩ = some (.int .i64 (sa : Int))) (hs : sa ≤ 1000) :
    Calls Tryz.prog 160 #[.int .i64 k, .string s, .pointer (some ⟨pa, 0, none⟩), .pointer none] w fun e w' => e = .returned (.pointer (some ⟨w.heap.size, 0, none⟩)) ∧ ∃ n, w' = (w.alloc (nodeV k s (.pointer (some ⟨pa, 0, none⟩)) (.pointer none) (min 1000 (1 + sa)))).drewN n := by
  have hlt := lt_cell ha
  have hne : ¬ pa = w.heap.size := by omega
  by_cases hbig : 1000 < 1 + sa
  · have HM : Hid (min 1000 (1 + sa) = 1000) := by show _ = _; omega
    have hb' : (1000 : Int) < 1 + (sa : Int) := by omega
    rw [HM.out]
    go_enter Tryz.func160, Tryz.ntmps160
    go_wp2_with (first | (go_at_call_of 118 (some (Addr.mk pa 0 none)); refine (none_some _ _).mono ?_; rintro e w' ⟨rfl, rfl⟩) | (go_at_call 118; refine (none_none _).mono ?_; rintro e w' ⟨rfl, rfl⟩))
    go_region
    go_wp2_with (go_at_call 118; refine (none_none _).mono ?_; rintro e w' ⟨rfl, rfl⟩)
    go_ret
    exact ⟨rfl, 1, rfl⟩
  · have HM : Hid (min 1000 (1 + sa) = 1 + sa) := by show _ = _; omega
    have hb' : ¬ (1000 : Int) < 1 + (sa : Int) := by omega
    rw [HM.out]
    go_enter Tryz.func160, Tryz.ntmps160
    go_wp2_with (first | (go_at_call_of 118 (some (Addr.mk pa 0 none)); refine (none_some _ _).mono ?_; rintro e w' ⟨rfl, rfl⟩) | (go_at_call 118; refine (none_none _).mono ?_; rintro e w' ⟨rfl, rfl⟩))
    go_region
    go_wp2_with (go_at_call 118; refine (none_none _).mono ?_; rintro e w' ⟨rfl, rfl⟩)
    go_ret
    exact ⟨rfl, 1, by simp [nodeV]; rfl⟩

set_option maxHeartbeats 2000000 in
theorem make_two (k : Int) (s : ByteArray) (pa sa pb sb : Nat) (w : World) (ha : w.cell? ⟨pa, 4, none⟩ = some (.int .i64 (sa : Int))) (hs : sa ≤ 1000) (hb : w.cell? ⟨pb, 4, none⟩ = some (.int .i64 (sb : Int))) (hsb : sb ≤ 1000) :
    Calls Tryz.prog 160 #[.int .i64 k, .string s, .pointer (some ⟨pa, 0, none⟩), .pointer (some ⟨pb, 0, none⟩)] w fun e w' => e = .returned (.pointer (some ⟨w.heap.size, 0, none⟩)) ∧ ∃ n, w' = (w.alloc (nodeV k s (.pointer (some ⟨pa, 0, none⟩)) (.pointer (some ⟨pb, 0, none⟩)) (min 1000 (1 + sa + sb)))).drewN n := by
  have hlt := lt_cell ha
  have hltb := lt_cell hb
  have hne : ¬ pa = w.heap.size := by omega
  have hneb : ¬ pb = w.heap.size := by omega
  by_cases hbig : 1000 < 1 + sa + sb
  · have HM : Hid (min 1000 (1 + sa + sb) = 1000) := by show _ = _; omega
    have hb' : (1000 : Int) < 1 + (sa : Int) + (sb : Int) := by omega
    rw [HM.out]
    go_enter Tryz.func160, Tryz.ntmps160
    go_wp2_with (go_at_call 118; refine (none_some _ _).mono ?_; rintro e w' ⟨rfl, rfl⟩)
    go_region
    go_wp2_with (go_at_call 118; refine (none_some _ _).mono ?_; rintro e w' ⟨rfl, rfl⟩)
    go_region
    go_wp2_with fail
    go_ret
    exact ⟨rfl, 2, rfl⟩
  · have HM : Hid (min 1000 (1 + sa + sb) = 1 + sa + sb) := by show _ = _; omega
    have hb' : ¬ (1000 : Int) < 1 + (sa : Int) + (sb : Int) := by omega
    rw [HM.out]
    go_enter Tryz.func160, Tryz.ntmps160
    go_wp2_with (go_at_call 118; refine (none_some _ _).mono ?_; rintro e w' ⟨rfl, rfl⟩)
    go_region
    go_wp2_with (go_at_call 118; refine (none_some _ _).mono ?_; rintro e w' ⟨rfl, rfl⟩)
    go_region
    go_wp2_with fail
    go_ret
    exact ⟨rfl, 2, by simp [nodeV]; rfl⟩
end Go.Proofs.YtjkkojefpecbfaaGreat
