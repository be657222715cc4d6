/- slices.Clone at a piece of the numbers' array. -/
import Derived.Test.YteedainidoldoaaSvS
import Derived.Test.YteedainidoldoaaSvT
import Derived.Deep.LoopGhost
namespace Go.Proofs.Yteedainidoldoaa
open Go.ChangeShapes Go.WideShapes Go.ChangeAt Go.RowKit

theorem row_ints0 {w : World} {base n : Nat} {v : Value} {ks : List Int} (h : w.ownsRow base 3 1 v n (ks.map (fun k => .int .i64 k))) (hl : ks.length = n) : IntsAt w v ks := by
  have h0 := h
  rcases h.2 with ⟨rfl, rfl⟩ | ⟨g, cap, cur, rfl, _⟩
  · have e : ks = [] := List.eq_nil_of_length_eq_zero hl
    subst e
    exact ⟨none, 0, rfl, Nat.zero_le _, Nat.zero_le _, fun h => by simp at h⟩
  · exact ints_row h0 hl

/-- A row of one's own, from an earlier block on. -/
theorem row_from {w : World} {base base' : Nat} {e : TypeId} {s : Nat} {v : Value} {n : Nat} {xs : List Value} (h : w.ownsRow base e s v n xs) (hb : base' ≤ base) : w.ownsRow base' e s v n xs := by
  refine ⟨h.1, ?_⟩
  rcases h.2 with h1 | ⟨g, cap, cur, h1, h2, h3⟩
  · exact .inl h1
  · exact .inr ⟨g, cap, cur, h1, Nat.le_trans hb h2, h3⟩
theorem Try.eqnil24 (a : Addr) (n c : Nat) (w : World) : (binOp .eql 24 (.slice (some a) n c) (.slice none 0 0)).run Try.prog w = .ok (.bool false) w := by kernel_rfl

set_option maxRecDepth 20000 in
set_option maxHeartbeats 4000000 in
theorem clone_any (b o c : Nat) (ks : List Int) (w : World) (hk : ks.length ≤ 1000) (hc : ∀ j (h : j < ks.length), w.cell? ⟨b, o + j, none⟩ = some (.int .i64 ks[j])) (m : Nat) (hm : ks.length = m) :
    Calls Try.prog 40 #[.slice (some ⟨b, o, none⟩) m c] w fun e w' => ∃ v, e = .returned v ∧ w'.ownsRow w.heap.size 3 1 v m (ks.map (fun k => .int .i64 k)) ∧ Below w.heap.size w w' := by
  obtain ⟨i3, hi3, hz3, hs3, hb3⟩ := info_parts Try.info3
  have HC : Hid (∀ W, Below w.heap.size w W → ∀ j u, (ks.map (fun k => Value.int .i64 k))[j]? = some u → W.cell? ((⟨b, o, none⟩ : Addr).add j) = some u) := by
    intro W hW j u hu
    rw [List.getElem?_map] at hu
    have hj : j < ks.length := by
      by_cases h : j < ks.length
      · exact h
      · rw [List.getElem?_eq_none (by omega)] at hu; cases hu
    rw [List.getElem?_eq_getElem hj] at hu
    cases hu
    have := keep_cell hW (hc j hj)
    by_cases e : j = 0
    · subst e; simpa [Addr.add] using this
    · simpa [Addr.add, e] using this
  have HO : Hid ((w.alloc (.cells #[] 3)).ownsRow w.heap.size 3 1 (.slice (some ⟨w.heap.size, 0, none⟩) 0 0) 0 []) := ⟨rfl, .inr ⟨w.heap.size, 0, #[], rfl, Nat.le_refl _, heap_alloc_new _ _, Nat.le_refl _, Nat.zero_le _, rfl, rfl⟩⟩
  have HB : Hid (Below w.heap.size w (w.alloc (.cells #[] 3))) := bel_alloc (Below.refl _ _) _
  have HL := hide hm
  have hm2 : m ≤ 1000 := by omega
  clear hc hk hm
  have heq := Try.eqnil24
  go_enter Try.func40, Try.ntmps40
  go_wp2_with (first
    | (at_builtin; refine wpList_append_own _ rfl _ _ 24 rfl w.heap.size 3 i3 (.int .i64 0) 1 8 Try.underlying24 hi3 hz3 hs3 hb3 rfl (by omega) (.slice (some ⟨w.heap.size, 0, none⟩) 0 0) 0 [] rfl HO.out ⟨b, o, none⟩ m c (ks.map (fun k => Value.int .i64 k)) rfl (by rw [List.length_map, HL.out, Nat.mul_one]) (HC.out _ HB.out) (by intro u hu; obtain ⟨k, _, rfl⟩ := List.mem_map.1 hu; rfl) (by unfold maxLen; omega) (by omega) HB.out.size ?_; intro v4 w4 hown4 hgrow4 hn4)
    | fail)
  go_ret
  rw [Nat.zero_add] at hown4
  refine ⟨_, rfl, hown4, HB.out.trans ((Below.refl _ _).grown hgrow4 HB.out.size (fun k hk => by cases hk; exact Nat.le_refl _))⟩
end Go.Proofs.Yteedainidoldoaa
