/- What the specification's draws of trees of levels answer: a tree of few nodes whose texts fit. -/
import Derived.Test.YtlmhpdmgjfankaaDoorRd
namespace Go.Proofs.YtlmhpdmgjfankaaDoor
open Go.ChangeShapes Go.WideShapes Go.ChangeAt Go.RowKit

theorem tmod_nat {v : Int} {m : Nat} (h0 : 0 ≤ v) (hm : 0 < m) : ∃ r : Nat, v.tmod (m : Int) = (r : Int) ∧ r < m := by
  obtain ⟨n, rfl⟩ : ∃ n : Nat, v = (n : Int) := ⟨v.toNat, by omega⟩
  exact ⟨n % m, by rw [← Int.ofNat_tmod], Nat.mod_lt _ hm⟩
theorem tmod_is {n m : Nat} : (n : Int).tmod (m : Int) = ((n % m : Nat) : Int) := by rw [← Int.ofNat_tmod]

set_option maxRecDepth 20000 in
set_option maxHeartbeats 1000000 in
theorem pick_any {ρ : Pl} (R base g : Nat) (ss : List ByteArray) (w : World) (h : RdAt ρ base w R) (hm : 0 < ss.length) (hm2 : ss.length ≤ 100) (hg : g ≠ R) (hc : ∀ j (hj : j < ss.length), w.cell? ⟨g, j, none⟩ = some (.string ss[j])) :
    Calls Tryd.prog 44 #[.pointer (some ⟨R, 0, none⟩), .slice (some ⟨g, 0, none⟩) ss.length ss.length] w fun e w' => ∃ s, e = .returned (.string s) ∧ s ∈ ss ∧ RdAt ρ.n base w' R ∧ w.grownBy w' (some R) ∧ s = ss.getD (ρ.v % ss.length) ⟨#[]⟩ := by
  have HR := hide h
  have HC := hide hc
  have hlg := lt_cell (hc 0 hm)
  have hne : ¬ ss = [] := by intro e; subst e; simp at hm
  have hne2 : ¬ (ss.length : Int) = 0 := by omega
  clear h hc
  go_enter Tryd.func44, Tryd.ntmps44
  go_wp2_with fail
  refine (next_any R base _ HR.out).mono ?_
  rintro e w1 ⟨v, rfl, hv0, hv1, hr1, hg1, hve⟩
  obtain ⟨r, hr, hrl⟩ := tmod_nat hv0 hm
  have HRE : Hid (r = ρ.v % ss.length) := by show _ = _; rw [hve, tmod_is] at hr; omega
  clear hve
  have c1 : w1.cell? ⟨g, r, none⟩ = some (.string ss[r]) := (hg1.cell_far ⟨g, r, none⟩ hlg (by simp; exact hg)).trans (HC.out r hrl)
  have hrl' : (r : Int) < (ss.length : Int) := by omega
  have hwr : IntKind.i64.wrap (r : Int) = (r : Int) := by rw [IntKind.wrap_i64]; omega
  have HM := hide (show ss[r] ∈ ss by simp)
  have HSE : Hid (ss[r] = ss.getD (ρ.v % ss.length) ⟨#[]⟩) := by show _ = _; rw [← HRE.out]; simp [hrl]
  have HR1 := hide hr1
  have HG1 := hide hg1
  clear hr1 hg1
  go_wp2_with fail
  go_ret
  exact ⟨_, rfl, HM.out, HR1.out, HG1.out, HSE.out⟩

/-- A new node of a tree. -/
theorem tree_leaf (w : World) (k : Int) (s : ByteArray) (n : Nat) : TreeAt ((w.alloc (nodeV k s (.pointer none) (.pointer none) 1)).drewN n).heap.size ((w.alloc (nodeV k s (.pointer none) (.pointer none) 1)).drewN n) w.heap.size (.leaf k s) :=
  ⟨by show _ < (w.alloc _).heap.size; simp, by show (w.alloc _).heap[w.heap.size]? = _; exact heap_alloc_new w _⟩
theorem bel_new (w : World) (o : Obj) (n : Nat) : Below w.heap.size w ((w.alloc o).drewN n) := below_drewN (bel_alloc (Below.refl _ _) _) n
set_option maxHeartbeats 400000 in
theorem l1Param_any (s : ByteArray) (w : World) : Calls Tryd.prog 47 #[.string s] w fun e w' => e = .returned (.pointer (some ⟨w.heap.size, 0, none⟩)) ∧ TreeAt w'.heap.size w' w.heap.size (.leaf 5 s) ∧ Below w.heap.size w w' := by
  go_enter Tryd.func47, Tryd.ntmps47
  go_wp2_with (go_at_call 30; refine (make_leaf 5 s _).mono ?_; rintro e w' ⟨rfl, n, rfl⟩)
  go_ret
  exact ⟨rfl, tree_leaf w 5 s n, bel_new w _ n⟩
set_option maxHeartbeats 400000 in
theorem l1Zero_any (w : World) : Calls Tryd.prog 46 #[] w fun e w' => e = .returned (.pointer (some ⟨w.heap.size, 0, none⟩)) ∧ TreeAt w'.heap.size w' w.heap.size (.leaf 1 ⟨#[]⟩) ∧ Below w.heap.size w w' := by
  go_enter Tryd.func46, Tryd.ntmps46
  go_wp2_with (go_at_call 30; refine (make_leaf 1 ⟨#[]⟩ _).mono ?_; rintro e w' ⟨rfl, n, rfl⟩)
  go_ret
  exact ⟨rfl, tree_leaf w 1 _ n, bel_new w _ n⟩
theorem tree_one {w : World} {pa : Nat} {a : Tr} (ha : TreeAt w.heap.size w pa a) (k : Int) (s : ByteArray) (n : Nat) : TreeAt ((w.alloc (nodeV k s (.pointer (some ⟨pa, 0, none⟩)) (.pointer none) (min 1000 (1 + a.sz)))).drewN n).heap.size ((w.alloc (nodeV k s (.pointer (some ⟨pa, 0, none⟩)) (.pointer none) (min 1000 (1 + a.sz)))).drewN n) w.heap.size (.one k s a) :=
  ⟨by show _ < (w.alloc _).heap.size; simp, pa, by show (w.alloc _).heap[w.heap.size]? = _; exact heap_alloc_new w _, (ha.keep (bel_new w _ n)).mono (bel_new w _ n).size⟩
theorem tree_two {w : World} {pa pb : Nat} {a b : Tr} (ha : TreeAt w.heap.size w pa a) (hb : TreeAt w.heap.size w pb b) (k : Int) (s : ByteArray) (n : Nat) : TreeAt ((w.alloc (nodeV k s (.pointer (some ⟨pa, 0, none⟩)) (.pointer (some ⟨pb, 0, none⟩)) (min 1000 (1 + a.sz + b.sz)))).drewN n).heap.size ((w.alloc (nodeV k s (.pointer (some ⟨pa, 0, none⟩)) (.pointer (some ⟨pb, 0, none⟩)) (min 1000 (1 + a.sz + b.sz)))).drewN n) w.heap.size (.two k s a b) :=
  ⟨by show _ < (w.alloc _).heap.size; simp, pa, pb, by show (w.alloc _).heap[w.heap.size]? = _; exact heap_alloc_new w _, (ha.keep (bel_new w _ n)).mono (bel_new w _ n).size, (hb.keep (bel_new w _ n)).mono (bel_new w _ n).size⟩
set_option maxHeartbeats 400000 in
theorem l1Succ_any (a : Tr) (pa : Nat) (w : World) (ha : TreeAt w.heap.size w pa a) : Calls Tryd.prog 65 #[.pointer (some ⟨pa, 0, none⟩)] w fun e w' => e = .returned (.pointer (some ⟨w.heap.size, 0, none⟩)) ∧ TreeAt w'.heap.size w' w.heap.size (.one 2 ⟨#[]⟩ a) ∧ Below w.heap.size w w' := by
  have h4 := ha.cell4
  have hs := a.sz_le
  have HA := hide ha
  clear ha
  go_enter Tryd.func65, Tryd.ntmps65
  go_wp2_with (go_at_call 30; refine (make_one 2 ⟨#[]⟩ pa a.sz _ h4 hs).mono ?_; rintro e w' ⟨rfl, n, rfl⟩)
  go_ret
  exact ⟨rfl, tree_one HA.out 2 _ n, bel_new w _ n⟩
end Go.Proofs.YtlmhpdmgjfankaaDoor
