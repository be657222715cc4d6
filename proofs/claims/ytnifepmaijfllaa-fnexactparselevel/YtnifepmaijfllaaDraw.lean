/- What the specification's reader of bytes answers: the next byte, a pick of texts. -/
import Derived.Test.YtnifepmaijfllaaLev
namespace Go.Proofs.Ytnifepmaijfllaa
open Go.ChangeShapes Go.WideShapes Go.ChangeAt Go.RowKit

/-- Bytes that lie below a block number. -/
def BytesAt (base : Nat) (w : World) (a : Option Addr) (n : Nat) : Prop :=
  0 < n → ∃ b off, a = some ⟨b, off, none⟩ ∧ b < base ∧ ∀ j, j < n → ∃ q, w.cell? ⟨b, off + j, none⟩ = some (.int .u8 q) ∧ 0 ≤ q ∧ q < 256
/-- A reader: bytes and a place. -/
def RdAt (base : Nat) (w : World) (R : Nat) : Prop :=
  ∃ (a : Option Addr) (n cap p : Nat), w.ownsRow base 166 2 (.slice (some ⟨R, 0, none⟩) 1 1) 1 [.slice a n cap, .int .i64 (p : Int)] ∧ n ≤ 1000 ∧ p ≤ 1000 ∧ BytesAt base w a n
theorem RdAt.lt {base : Nat} {w : World} {R : Nat} (h : RdAt base w R) : base ≤ R ∧ R < w.heap.size := by
  obtain ⟨a, n, cap, p, h1, _⟩ := h; exact h1.lt R rfl
theorem RdAt.tag {base : Nat} {w : World} {R : Nat} (h : RdAt base w R) : ∃ cs, w.heap[R]? = some (.cells cs 166 (0, 0)) := by
  obtain ⟨a, n, cap, p, h1, _⟩ := h; exact row_tag h1
theorem BytesAt.keep {base : Nat} {w w' : World} {a : Option Addr} {n : Nat} (h : BytesAt base w a n) (hb : Below base w w') : BytesAt base w' a n := fun h0 => by
  obtain ⟨b, off, h1, h2, h3⟩ := h h0
  refine ⟨b, off, h1, h2, fun j hj => ?_⟩
  obtain ⟨q, h4, h5⟩ := h3 j hj
  exact ⟨q, by rw [hb.cell (p := ⟨b, off + j, none⟩) h2]; exact h4, h5⟩
theorem RdAt.keep {base : Nat} {w w' : World} {R : Nat} (h : RdAt base w R) (hb : Below w.heap.size w w') : RdAt base w' R := by
  have hl := h.lt
  obtain ⟨a, n, cap, p, h1, h2, h3, h4⟩ := h
  exact ⟨a, n, cap, p, row_keep hb h1, h2, h3, h4.keep (hb.mono (by omega))⟩
/-- A row of other cells may be written. -/
theorem RdAt.grown {base : Nat} {w w' : World} {R g : Nat} (h : RdAt base w R) (hg : w.grownBy w' (some g)) (hr : R ≠ g) (hb : base ≤ g) : RdAt base w' R := by
  have hl := h.lt
  obtain ⟨a, n, cap, p, h1, h2, h3, h4⟩ := h
  exact ⟨a, n, cap, p, h1.kept hg (.inr (by simp [Value.ownBlock]; exact hr)), h2, h3, h4.keep (below_of hg hb (by omega))⟩

set_option maxRecDepth 20000 in
set_option maxHeartbeats 1000000 in
theorem next_any (R : Nat) (base : Nat) (w : World) (h : RdAt base w R) :
    Calls Try.prog 90 #[.pointer (some ⟨R, 0, none⟩)] w fun e w' => ∃ v : Int, e = .returned (.int .i64 v) ∧ 0 ≤ v ∧ v < 256 ∧ RdAt base w' R ∧ w.grownBy w' (some R) := by
  have hl := h.lt
  obtain ⟨a, n, cap, p, h1, h2, h3, h4⟩ := h
  have c0 : w.cell? ⟨R, 0, none⟩ = some (.slice a n cap) := by rw [h1.cellAt 0 (by omega)]; rfl
  have c1 : w.cell? ⟨R, 1, none⟩ = some (.int .i64 (p : Int)) := by rw [h1.cellAt 1 (by omega)]; rfl
  have cf : w.frozen? ⟨R, 1, none⟩ = false := h1.frozenAt 1
  have H1 := hide h1
  have H4 := hide h4
  clear h1 h4
  by_cases hp : p < n
  · obtain ⟨b, off, rfl, hb, hq⟩ := H4.out (by omega)
    obtain ⟨q, cq, q0, q1⟩ := hq p hp
    have hp' : (p : Int) < (n : Int) := by omega
    have hw1 : IntKind.i64.wrap ((p : Int) + 1) = (p : Int) + 1 := by rw [IntKind.wrap_i64]; omega
    have hwq : IntKind.i64.wrap q = q := by rw [IntKind.wrap_i64]; omega
    have HN := hide (show w.drew.drew.ownsRow base 166 2 (.slice (some ⟨R, 0, none⟩) 1 1) 1 [.slice (some ⟨b, off, none⟩) n cap, .int .i64 (p : Int)] from H1.out)
    have hbne : ¬ b = R := by omega
    clear hq
    go_enter Try.func90, Try.ntmps90
    go_wp2_with fail
    go_region
    go_wp2_with fail
    go_region
    go_wp2_with fail
    go_ret
    refine ⟨q, rfl, q0, q1, ?_, ?_⟩
    · exact ⟨_, n, cap, p + 1, (HN.out.stored 1 (.int .i64 ((p + 1 : Nat) : Int))).1, h2, by omega, H4.out.keep ((((Below.refl base w).drew).drew).setCell (p := ⟨_, _, _⟩) (by show base ≤ R; omega) _)⟩
    · exact ((((grown_of ((Below.refl w.heap.size w).drew.drew)).but (some R)).trans (grown_set _ ⟨R, 1, none⟩ _)))
  · have hp' : ¬ (p : Int) < (n : Int) := by omega
    go_enter Try.func90, Try.ntmps90
    go_wp2_with fail
    go_region
    go_wp2_with fail
    go_ret
    exact ⟨0, rfl, by omega, by omega, ⟨a, n, cap, p, H1.out, h2, h3, H4.out.keep (Below.refl base w).drew⟩, (grown_of ((Below.refl w.heap.size w).drew)).but _⟩
end Go.Proofs.Ytnifepmaijfllaa

/- What the specification's draws of trees of levels answer: a tree of few nodes whose texts fit. -/
namespace Go.Proofs.Ytnifepmaijfllaa
open Go.ChangeShapes Go.WideShapes Go.ChangeAt Go.RowKit

theorem tmod_nat {v : Int} {m : Nat} (h0 : 0 ≤ v) (hm : 0 < m) : ∃ r : Nat, v.tmod (m : Int) = (r : Int) ∧ r < m := by
  obtain ⟨n, rfl⟩ : ∃ n : Nat, v = (n : Int) := ⟨v.toNat, by omega⟩
  exact ⟨n % m, by rw [← Int.ofNat_tmod], Nat.mod_lt _ hm⟩

set_option maxRecDepth 20000 in
set_option maxHeartbeats 1000000 in
theorem pick_any (R base g : Nat) (ss : List ByteArray) (w : World) (h : RdAt base w R) (hm : 0 < ss.length) (hm2 : ss.length ≤ 100) (hg : g ≠ R) (hc : ∀ j (hj : j < ss.length), w.cell? ⟨g, j, none⟩ = some (.string ss[j])) :
    Calls Try.prog 132 #[.pointer (some ⟨R, 0, none⟩), .slice (some ⟨g, 0, none⟩) ss.length ss.length] w fun e w' => ∃ s, e = .returned (.string s) ∧ s ∈ ss ∧ RdAt base w' R ∧ w.grownBy w' (some R) := by
  have HR := hide h
  have HC := hide hc
  have hlg := lt_cell (hc 0 hm)
  have hne : ¬ ss = [] := by intro e; subst e; simp at hm
  have hne2 : ¬ (ss.length : Int) = 0 := by omega
  clear h hc
  go_enter Try.func132, Try.ntmps132
  go_wp2_with fail
  refine (next_any R base _ HR.out).mono ?_
  rintro e w1 ⟨v, rfl, hv0, hv1, hr1, hg1⟩
  obtain ⟨r, hr, hrl⟩ := tmod_nat hv0 hm
  have c1 : w1.cell? ⟨g, r, none⟩ = some (.string ss[r]) := (hg1.cell_far ⟨g, r, none⟩ hlg (by simp; exact hg)).trans (HC.out r hrl)
  have hrl' : (r : Int) < (ss.length : Int) := by omega
  have hwr : IntKind.i64.wrap (r : Int) = (r : Int) := by rw [IntKind.wrap_i64]; omega
  have HM := hide (show ss[r] ∈ ss by simp)
  have HR1 := hide hr1
  have HG1 := hide hg1
  clear hr1 hg1
  go_wp2_with fail
  go_ret
  exact ⟨_, rfl, HM.out, HR1.out, HG1.out⟩

/-- A new node of a tree. -/
theorem tree_leaf (w : World) (k : Int) (s : ByteArray) (n : Nat) : TreeAt ((w.alloc (nodeV k s (.pointer none) (.pointer none) 1)).drewN n).heap.size ((w.alloc (nodeV k s (.pointer none) (.pointer none) 1)).drewN n) w.heap.size (.leaf k s) :=
  ⟨by show _ < (w.alloc _).heap.size; simp, by show (w.alloc _).heap[w.heap.size]? = _; exact heap_alloc_new w _⟩
theorem bel_new (w : World) (o : Obj) (n : Nat) : Below w.heap.size w ((w.alloc o).drewN n) := below_drewN (bel_alloc (Below.refl _ _) _) n
set_option maxHeartbeats 400000 in
theorem l1Param_any (s : ByteArray) (w : World) : Calls Try.prog 135 #[.string s] w fun e w' => e = .returned (.pointer (some ⟨w.heap.size, 0, none⟩)) ∧ TreeAt w'.heap.size w' w.heap.size (.leaf 5 s) ∧ Below w.heap.size w w' := by
  go_enter Try.func135, Try.ntmps135
  go_wp2_with (go_at_call 117; refine (make_leaf 5 s _).mono ?_; rintro e w' ⟨rfl, n, rfl⟩)
  go_ret
  exact ⟨rfl, tree_leaf w 5 s n, bel_new w _ n⟩
set_option maxHeartbeats 400000 in
theorem l1Zero_any (w : World) : Calls Try.prog 134 #[] w fun e w' => e = .returned (.pointer (some ⟨w.heap.size, 0, none⟩)) ∧ TreeAt w'.heap.size w' w.heap.size (.leaf 1 ⟨#[]⟩) ∧ Below w.heap.size w w' := by
  go_enter Try.func134, Try.ntmps134
  go_wp2_with (go_at_call 117; refine (make_leaf 1 ⟨#[]⟩ _).mono ?_; rintro e w' ⟨rfl, n, rfl⟩)
  go_ret
  exact ⟨rfl, tree_leaf w 1 _ n, bel_new w _ n⟩
theorem tree_one {w : World} {pa : Nat} {a : Tr} (ha : TreeAt w.heap.size w pa a) (k : Int) (s : ByteArray) (n : Nat) : TreeAt ((w.alloc (nodeV k s (.pointer (some ⟨pa, 0, none⟩)) (.pointer none) (min 1000 (1 + a.sz)))).drewN n).heap.size ((w.alloc (nodeV k s (.pointer (some ⟨pa, 0, none⟩)) (.pointer none) (min 1000 (1 + a.sz)))).drewN n) w.heap.size (.one k s a) :=
  ⟨by show _ < (w.alloc _).heap.size; simp, pa, by show (w.alloc _).heap[w.heap.size]? = _; exact heap_alloc_new w _, (ha.keep (bel_new w _ n)).mono (bel_new w _ n).size⟩
theorem tree_two {w : World} {pa pb : Nat} {a b : Tr} (ha : TreeAt w.heap.size w pa a) (hb : TreeAt w.heap.size w pb b) (k : Int) (s : ByteArray) (n : Nat) : TreeAt ((w.alloc (nodeV k s (.pointer (some ⟨pa, 0, none⟩)) (.pointer (some ⟨pb, 0, none⟩)) (min 1000 (1 + a.sz + b.sz)))).drewN n).heap.size ((w.alloc (nodeV k s (.pointer (some ⟨pa, 0, none⟩)) (.pointer (some ⟨pb, 0, none⟩)) (min 1000 (1 + a.sz + b.sz)))).drewN n) w.heap.size (.two k s a b) :=
  ⟨by show _ < (w.alloc _).heap.size; simp, pa, pb, by show (w.alloc _).heap[w.heap.size]? = _; exact heap_alloc_new w _, (ha.keep (bel_new w _ n)).mono (bel_new w _ n).size, (hb.keep (bel_new w _ n)).mono (bel_new w _ n).size⟩
set_option maxHeartbeats 400000 in
theorem l1Succ_any (a : Tr) (pa : Nat) (w : World) (ha : TreeAt w.heap.size w pa a) : Calls Try.prog 130 #[.pointer (some ⟨pa, 0, none⟩)] w fun e w' => e = .returned (.pointer (some ⟨w.heap.size, 0, none⟩)) ∧ TreeAt w'.heap.size w' w.heap.size (.one 2 ⟨#[]⟩ a) ∧ Below w.heap.size w w' := by
  have h4 := ha.cell4
  have hs := a.sz_le
  have HA := hide ha
  clear ha
  go_enter Try.func130, Try.ntmps130
  go_wp2_with (go_at_call 117; refine (make_one 2 ⟨#[]⟩ pa a.sz _ h4 hs).mono ?_; rintro e w' ⟨rfl, n, rfl⟩)
  go_ret
  exact ⟨rfl, tree_one HA.out 2 _ n, bel_new w _ n⟩
end Go.Proofs.Ytnifepmaijfllaa
