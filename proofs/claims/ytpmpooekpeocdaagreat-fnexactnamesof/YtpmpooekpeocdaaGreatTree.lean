/- How the specification's trees of levels lie in memory, and what the making of one node answers. -/
import Derived.Test.YtpmpooekpeocdaaGreatTQ
import Derived.Deep.RegionHeld3
import Derived.Deep.AppendLies
namespace Go.Proofs.YtpmpooekpeocdaaGreat
open Go.ChangeShapes Go.WideShapes Go.ChangeAt Go.RowKit

inductive Tr where
  | leaf (k : Int) (s : ByteArray)
  | one (k : Int) (s : ByteArray) (a : Tr)
  | two (k : Int) (s : ByteArray) (a b : Tr)

def Tr.sz : Tr → Nat
  | .leaf _ _ => 1
  | .one _ _ a => min 1000 (1 + a.sz)
  | .two _ _ a b => min 1000 (1 + a.sz + b.sz)
theorem Tr.sz_le : ∀ t : Tr, t.sz ≤ 1000
  | .leaf _ _ => by simp [Tr.sz]
  | .one _ _ a => by simp [Tr.sz]; omega
  | .two _ _ a b => by simp [Tr.sz]; omega

/-- A node's block. -/
def nodeV (k : Int) (s : ByteArray) (a b : Value) (sz : Nat) : Obj := .cells #[.int .i64 k, .string s, a, b, .int .i64 sz] 191 (0, 0)
/-- The tree t hangs at block b, all its blocks below B. -/
def TreeAt (B : Nat) (w : World) : Nat → Tr → Prop
  | g, .leaf k s => g < B ∧ w.heap[g]? = some (nodeV k s (.pointer none) (.pointer none) 1)
  | g, .one k s a => g < B ∧ ∃ pa, w.heap[g]? = some (nodeV k s (.pointer (some ⟨pa, 0, none⟩)) (.pointer none) (Tr.one k s a).sz) ∧ TreeAt B w pa a
  | g, .two k s a b => g < B ∧ ∃ pa pb, w.heap[g]? = some (nodeV k s (.pointer (some ⟨pa, 0, none⟩)) (.pointer (some ⟨pb, 0, none⟩)) (Tr.two k s a b).sz) ∧ TreeAt B w pa a ∧ TreeAt B w pb b

theorem TreeAt.of {B B' : Nat} {w w' : World} (hB : B ≤ B') (h : ∀ g o, g < B → w.heap[g]? = some o → (∃ cs, o = .cells cs 191 (0, 0)) → w'.heap[g]? = some o) : ∀ {t : Tr} {g : Nat}, TreeAt B w g t → TreeAt B' w' g t
  | .leaf k s, g, ht => ⟨by have := ht.1; omega, h g _ ht.1 ht.2 ⟨_, rfl⟩⟩
  | .one k s a, g, ht => by
    obtain ⟨h1, pa, h2, h3⟩ := ht
    exact ⟨by omega, pa, h g _ h1 h2 ⟨_, rfl⟩, TreeAt.of hB h h3⟩
  | .two k s a b, g, ht => by
    obtain ⟨h1, pa, pb, h2, h3, h4⟩ := ht
    exact ⟨by omega, pa, pb, h g _ h1 h2 ⟨_, rfl⟩, TreeAt.of hB h h3, TreeAt.of hB h h4⟩
theorem TreeAt.keep {B : Nat} {w w' : World} (hb : Below B w w') {t : Tr} {g : Nat} (h : TreeAt B w g t) : TreeAt B w' g t :=
  TreeAt.of (Nat.le_refl _) (fun g _ hg ho _ => by rw [hb.block g hg]; exact ho) h
theorem TreeAt.mono {B B' : Nat} {w : World} (hB : B ≤ B') {t : Tr} {g : Nat} (h : TreeAt B w g t) : TreeAt B' w g t :=
  TreeAt.of hB (fun _ _ _ ho _ => ho) h
/-- A row of another type may be written. -/
theorem TreeAt.grown {B : Nat} {w w' : World} {row : Option Nat} (hg : w.grownBy w' row) (hne : ∀ k, row = some k → ∃ cs e, e ≠ 191 ∧ w.heap[k]? = some (.cells cs e (0, 0))) {t : Tr} {g : Nat} (h : TreeAt B w g t) : TreeAt B w' g t :=
  TreeAt.of (Nat.le_refl _) (fun g o _ ho ht => by
    obtain ⟨cs, rfl⟩ := ht
    have hlt : g < w.heap.size := (Array.getElem?_eq_some_iff.1 ho).1
    rw [hg.block g hlt ?_]; exact ho
    intro e
    obtain ⟨cs', e', h1, h2⟩ := hne g e.symm
    rw [ho] at h2
    simp at h2
    exact h1 h2.2.symm) h
theorem TreeAt.cell4 {B : Nat} {w : World} {g : Nat} : ∀ {t : Tr}, TreeAt B w g t → w.cell? ⟨g, 4, none⟩ = some (.int .i64 t.sz)
  | .leaf _ _, h => by rw [cell_of_row w g 4 _ _ _ h.2]; rfl
  | .one _ _ _, h => by obtain ⟨_, pa, h2, _⟩ := h; rw [cell_of_row w g 4 _ _ _ h2]; rfl
  | .two _ _ _ _, h => by obtain ⟨_, pa, pb, h2, _⟩ := h; rw [cell_of_row w g 4 _ _ _ h2]; rfl

set_option maxHeartbeats 400000 in
theorem none_some (a : Addr) (w : World) : Calls Tryz.prog 160 #[.pointer (some a)] w fun e w' => e = .returned (.bool false) ∧ w' = w := by
  go_enter Tryz.func160, Tryz.ntmps160
  go_wp2
  go_ret
  exact ⟨rfl, rfl⟩
set_option maxHeartbeats 400000 in
theorem none_none (w : World) : Calls Tryz.prog 160 #[.pointer none] w fun e w' => e = .returned (.bool true) ∧ w' = w := by
  go_enter Tryz.func160, Tryz.ntmps160
  go_wp2
  go_ret
  exact ⟨rfl, rfl⟩

set_option maxHeartbeats 1000000 in
theorem make_leaf (k : Int) (s : ByteArray) (w : World) :
    Calls Tryz.prog 247 #[.int .i64 k, .string s, .pointer none, .pointer none] w fun e w' => e = .returned (.pointer (some ⟨w.heap.size, 0, none⟩)) ∧ ∃ n, w' = (w.alloc (nodeV k s (.pointer none) (.pointer none) 1)).drewN n := by
  go_enter Tryz.func247, Tryz.ntmps247
  go_wp2_with (go_at_call 160; refine (none_none _).mono ?_; rintro e w' ⟨rfl, rfl⟩)
  go_ret
  exact ⟨rfl, 0, rfl⟩

set_option maxHeartbeats 1000000 in
theorem make_one (k : Int) (s : ByteArray) (pa sa : Nat) (w : World) (ha : w.cell? ⟨pa, 4, none⟩ = some (.int .i64 (sa : Int))) (hs : sa ≤ 1000) :
    Calls Tryz.prog 247 #[.int .i64 k, .string s, .pointer (some ⟨pa, 0, none⟩), .pointer none] w fun e w' => e = .returned (.pointer (some ⟨w.heap.size, 0, none⟩)) ∧ ∃ n, w' = (w.alloc (nodeV k s (.pointer (some ⟨pa, 0, none⟩)) (.pointer none) (min 1000 (1 + sa)))).drewN n := by
  have hlt := lt_cell ha
  have hne : ¬ pa = w.heap.size := by omega
  by_cases hbig : 1000 < 1 + sa
  · have HM : Hid (min 1000 (1 + sa) = 1000) := by show _ = _; omega
    have hb' : (1000 : Int) < 1 + (sa : Int) := by omega
    rw [HM.out]
    go_enter Tryz.func247, Tryz.ntmps247
    go_wp2_with (first | (go_at_call_of 160 (some (Addr.mk pa 0 none)); refine (none_some _ _).mono ?_; rintro e w' ⟨rfl, rfl⟩) | (go_at_call 160; refine (none_none _).mono ?_; rintro e w' ⟨rfl, rfl⟩))
    go_region
    go_wp2_with (go_at_call 160; refine (none_none _).mono ?_; rintro e w' ⟨rfl, rfl⟩)
    go_ret
    exact ⟨rfl, 1, rfl⟩
  · have HM : Hid (min 1000 (1 + sa) = 1 + sa) := by show _ = _; omega
    have hb' : ¬ (1000 : Int) < 1 + (sa : Int) := by omega
    rw [HM.out]
    go_enter Tryz.func247, Tryz.ntmps247
    go_wp2_with (first | (go_at_call_of 160 (some (Addr.mk pa 0 none)); refine (none_some _ _).mono ?_; rintro e w' ⟨rfl, rfl⟩) | (go_at_call 160; refine (none_none _).mono ?_; rintro e w' ⟨rfl, rfl⟩))
    go_region
    go_wp2_with (go_at_call 160; refine (none_none _).mono ?_; rintro e w' ⟨rfl, rfl⟩)
    go_ret
    exact ⟨rfl, 1, by simp [nodeV]; rfl⟩

set_option maxHeartbeats 2000000 in
theorem make_two (k : Int) (s : ByteArray) (pa sa pb sb : Nat) (w : World) (ha : w.cell? ⟨pa, 4, none⟩ = some (.int .i64 (sa : Int))) (hs : sa ≤ 1000) (hb : w.cell? ⟨pb, 4, none⟩ = some (.int .i64 (sb : Int))) (hsb : sb ≤ 1000) :
    Calls Tryz.prog 247 #[.int .i64 k, .string s, .pointer (some ⟨pa, 0, none⟩), .pointer (some ⟨pb, 0, none⟩)] w fun e w' => e = .returned (.pointer (some ⟨w.heap.size, 0, none⟩)) ∧ ∃ n, w' = (w.alloc (nodeV k s (.pointer (some ⟨pa, 0, none⟩)) (.pointer (some ⟨pb, 0, none⟩)) (min 1000 (1 + sa + sb)))).drewN n := by
  have hlt := lt_cell ha
  have hltb := lt_cell hb
  have hne : ¬ pa = w.heap.size := by omega
  have hneb : ¬ pb = w.heap.size := by omega
  by_cases hbig : 1000 < 1 + sa + sb
  · have HM : Hid (min 1000 (1 + sa + sb) = 1000) := by show _ = _; omega
    have hb' : (1000 : Int) < 1 + (sa : Int) + (sb : Int) := by omega
    rw [HM.out]
    go_enter Tryz.func247, Tryz.ntmps247
    go_wp2_with (go_at_call 160; refine (none_some _ _).mono ?_; rintro e w' ⟨rfl, rfl⟩)
    go_region
    go_wp2_with (go_at_call 160; refine (none_some _ _).mono ?_; rintro e w' ⟨rfl, rfl⟩)
    go_region
    go_wp2_with fail
    go_ret
    exact ⟨rfl, 2, rfl⟩
  · have HM : Hid (min 1000 (1 + sa + sb) = 1 + sa + sb) := by show _ = _; omega
    have hb' : ¬ (1000 : Int) < 1 + (sa : Int) + (sb : Int) := by omega
    rw [HM.out]
    go_enter Tryz.func247, Tryz.ntmps247
    go_wp2_with (go_at_call 160; refine (none_some _ _).mono ?_; rintro e w' ⟨rfl, rfl⟩)
    go_region
    go_wp2_with (go_at_call 160; refine (none_some _ _).mono ?_; rintro e w' ⟨rfl, rfl⟩)
    go_region
    go_wp2_with fail
    go_ret
    exact ⟨rfl, 2, by simp [nodeV]; rfl⟩
end Go.Proofs.YtpmpooekpeocdaaGreat
