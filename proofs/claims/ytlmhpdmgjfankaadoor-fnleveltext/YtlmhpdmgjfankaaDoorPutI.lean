/- What the program's putLevels answers at its trees: the tree with trees put for parameters. -/
import Derived.Test.YtlmhpdmgjfankaaDoorSzL
namespace Go.Proofs.YtlmhpdmgjfankaaDoor
open Go.ChangeShapes Go.WideShapes Go.ChangeAt Go.RowKit

set_option maxHeartbeats 1000000 in
theorem succAroundN_any (n : Nat) (x : It) (w : World) (hn : 1 ≤ n) (hc : n + x.cnt ≤ 1000000) : Calls Tryd.prog 39 #[x.val, .int .i64 n] w fun e w' => e = .returned (sAroundN n x).val ∧ Below w.heap.size w w' := by
  have q0 : ((n : Int) == 0) = false := by rw [beq_eq_false_iff_ne]; omega
  cases x with
  | zero =>
    have a1 := Tryd.as152_144
    simp only [It.val, sAroundN]
    clear hc
    go_enter Tryd.func39, Tryd.ntmps39
    go_wp2_with fail
    go_ret
    exact ⟨rfl, bel_alloc (Below.refl _ _) _⟩
  | succ m y =>
    have a1 := Tryd.as144_144
    obtain ⟨T, v, hv⟩ := y.val_iface
    simp only [It.val, sAroundN, hv]
    simp only [It.cnt] at hc
    have hm : (m : Int) ≤ 1000000 := by omega
    have hn' : (n : Int) ≤ 1000000 := by omega
    have hwr : IntKind.i64.wrap ((m : Int) + n) = (m : Int) + n := by rw [IntKind.wrap_i64]; omega
    have HE : Hid (Ending.returned (.iface 80 (.agg #[.int .i64 ((m : Int) + n), .iface T v])) = .returned (.iface 80 (.agg #[.int .i64 ((m + n : Nat) : Int), .iface T v]))) := by show _ = _; simp
    clear hc hv
    go_enter Tryd.func39, Tryd.ntmps39
    go_wp2_with fail
    go_ret
    exact ⟨HE.out, bel_alloc (Below.refl _ _) _⟩
  | max a b =>
    have a1 := Tryd.as146_144
    obtain ⟨Ta, va, ha⟩ := a.val_iface
    obtain ⟨Tb, vb, hb⟩ := b.val_iface
    simp only [It.val, sAroundN, ha, hb]
    clear ha hb hc
    go_enter Tryd.func39, Tryd.ntmps39
    go_wp2_with fail
    go_ret
    exact ⟨rfl, bel_alloc (Below.refl _ _) _⟩
  | imax a b =>
    have a1 := Tryd.as147_144
    obtain ⟨Ta, va, ha⟩ := a.val_iface
    obtain ⟨Tb, vb, hb⟩ := b.val_iface
    simp only [It.val, sAroundN, ha, hb]
    clear ha hb hc
    go_enter Tryd.func39, Tryd.ntmps39
    go_wp2_with fail
    go_ret
    exact ⟨rfl, bel_alloc (Below.refl _ _) _⟩
  | param s =>
    have a1 := Tryd.as149_144
    simp only [It.val, sAroundN]
    clear hc
    go_enter Tryd.func39, Tryd.ntmps39
    go_wp2_with fail
    go_ret
    exact ⟨rfl, bel_alloc (Below.refl _ _) _⟩

end Go.Proofs.YtlmhpdmgjfankaaDoor
