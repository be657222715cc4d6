/- What the specification's l1Level answers: the level of a tree, in new memory. -/
import Derived.Test.YtlmhpdmgjfankaaDoorNodes
namespace Go.Proofs.YtlmhpdmgjfankaaDoor
open Go.ChangeShapes Go.WideShapes Go.ChangeAt Go.RowKit

theorem KidRow.ints {base : Nat} {w : World} {kv : Value} {ks : List Int} (h : KidRow base w kv ks) : IntsAt w kv ks := by
  rcases h.2 with ⟨h1, h0⟩ | ⟨g, cap, cur, h1, _, hg, hnc, hcm, hcs, htake⟩
  · exact ⟨none, 0, by rw [h1, h0], by omega, by unfold maxLen; omega, fun h => by omega⟩
  · refine ⟨_, cap, h1, hnc, hcm, fun _ => ⟨g, 0, rfl, fun j hj => ?_⟩⟩
    have h3 : w.ownsRow base 3 1 (.slice (some ⟨g, 0, none⟩) ks.length cap) ks.length (ks.map (Value.int .i64)) := by rw [← h1]; exact h
    rw [Nat.zero_add, h3.cellAt j (by omega), List.getElem?_map, List.getElem?_eq_getElem hj]; rfl
theorem NdRow.nodes {base : Nat} {Q : Nat → Prop} {w : World} {g cap : Nat} {ns : List Nd} (h : NdRow base Q w g cap ns) : NodesAt w (.slice (some ⟨g, 0, none⟩) ns.length cap) ns := by
  obtain ⟨xs, h1, h2⟩ := h
  obtain ⟨hc1, hc2⟩ := ownsRow_cap h1
  refine ⟨_, cap, rfl, hc1, hc2, fun _ => ⟨g, 0, rfl, fun i hi => ?_⟩⟩
  obtain ⟨a, b, kv, c, d, _⟩ := h2 i hi
  rw [Nat.zero_add]
  exact ⟨by rw [h1.cellAt _ (by omega)]; exact a, by rw [h1.cellAt _ (by omega)]; exact b, kv, by rw [h1.cellAt _ (by omega)]; exact c, d.ints⟩
theorem NdRow.set {base : Nat} {Q : Nat → Prop} {w : World} {g cap : Nat} {ns : List Nd} (h : NdRow base Q w g cap ns) {p : Addr} (hp : g ≠ p.block) (ht : ∃ cs e, e ≠ 3 ∧ w.heap[p.block]? = some (.cells cs e (0, 0))) (u : Value) : NdRow base Q (w.setCell p u) g cap ns := by
  obtain ⟨xs, h1, h2⟩ := h
  refine ⟨xs, own_set h1 hp u, fun i hi => ?_⟩
  obtain ⟨a, b, kv, c, d, q⟩ := h2 i hi
  exact ⟨a, b, kv, c, d.set ht u, q⟩

theorem NdRowA.set {base : Nat} {Q : Nat → Prop} {w : World} {g cap : Nat} {ns : List Nd} (h : NdRowA base Q w g cap ns) {p : Addr} (hp : g ≠ p.block) (ht : ∃ cs e, e ≠ 3 ∧ w.heap[p.block]? = some (.cells cs e (0, 0))) (u : Value) : NdRowA base Q (w.setCell p u) g cap ns := by
  obtain ⟨xs, h1, h2, h3⟩ := h
  refine ⟨xs, own_set h1 hp u, fun i hi => ?_, h3⟩
  obtain ⟨a, b, kv, c, d, q⟩ := h2 i hi
  exact ⟨a, b, kv, c, d.set ht u, q⟩

set_option maxRecDepth 20000 in
set_option maxHeartbeats 1000000 in
theorem l1LevelA_any (t : Tr) (p : Nat) (w : World) (ht : TreeAt w.heap.size w p t) (hc : t.cnt ≤ 1000) :
    Calls Tryd.prog 42 #[.pointer (some ⟨p, 0, none⟩)] w fun e w' => ∃ g cap, e = .returned (.agg #[.slice (some ⟨g, 0, none⟩) (t.flat 0).length cap]) ∧ NdRowA w.heap.size (fun _ => True) w' g cap (t.flat 0) ∧ Below w.heap.size w w' := by
  have hpl := ht.lt
  obtain ⟨W, hW⟩ : ∃ W, W = (w.alloc (.cells #[.slice none 0 0] 29)).alloc (.cells #[] 66) := ⟨_, rfl⟩
  have HB := hide (show Below w.heap.size w W by rw [hW]; exact bel_alloc (bel_alloc (Below.refl _ _) _) _)
  have hr := World.ownsRow_lit (base := w.heap.size) (e := 66) (size := 3) (w.alloc (.cells #[.slice none 0 0] 29)) #[] 0 (by simp) (by unfold maxLen; omega) rfl
  rw [← hW, World.size_alloc] at hr
  have HN : Hid (NdRowA w.heap.size (fun _ => True) W (w.heap.size + 1) 0 []) := ⟨_, hr, fun i h => by simp at h, fun i j h => by simp at h⟩
  have HT := hide (ht.keep HB.out)
  have hsW : W.heap.size = w.heap.size + 1 + 1 := by rw [hW]; simp
  have x0 : W.cell? ⟨w.heap.size, 0, none⟩ = some (.slice none 0 0) := by rw [hW]; simp [go_sem]
  have xf : W.frozen? ⟨w.heap.size, 0, none⟩ = false := by rw [hW]; simp [go_sem]
  have HXB := hide (show W.heap[w.heap.size]? = some (.cells #[.slice none 0 0] 29 (0, 0)) by rw [hW]; exact new_block w _ _ 0)
  have HS := hide hsW
  clear hr ht hsW
  go_enter Tryd.func42, Tryd.ntmps42
  go_wp2_with fail
  rw [← hW]
  clear hW
  have hcall := l1Nodes_any t p W (w.heap.size + 1) 0 [] w.heap.size (fun _ => True) HT.out HN.out (fun _ _ => trivial) (by have := HS.out; omega) (by simp; omega)
  simp only [List.length_nil, List.nil_append] at hcall
  refine hcall.mono ?_
  clear hcall
  rintro e w2 ⟨g2, cap2, rfl, hn2, hg2, hg2'⟩
  have hs := HS.out
  have x0 := (hg2.cell_far ⟨w.heap.size, 0, none⟩ (by show w.heap.size < _; omega) (by simp)).trans x0
  have xf := (hg2.frozen_far ⟨w.heap.size, 0, none⟩ (by show w.heap.size < _; omega) (by simp)).trans xf
  have HXB2 := hide ((hg2.block w.heap.size (by omega) (by simp)).trans HXB.out)
  have HB2 := hide (HB.out.trans ((Below.refl w.heap.size W).grown hg2 (by omega) (fun q hq => by simp at hq; omega)))
  have HN2 := hide (hn2.set (p := ⟨w.heap.size, 0, none⟩) (by show g2 ≠ w.heap.size; omega) ⟨_, 29, by decide, HXB2.out⟩ (.slice (some ⟨g2, 0, none⟩) (t.flat 0).length cap2))
  clear hn2 hg2 hs
  go_wp2_with fail
  refine bodyPost_ret (v := .agg #[.slice (some ⟨g2, 0, none⟩) (t.flat 0).length cap2]) (by simp [results, go_sem, x0]) rfl ⟨g2, cap2, rfl, HN2.out, HB2.out.setCell (p := ⟨_, _, _⟩) (Nat.le_refl _) _⟩
theorem l1Level_any (t : Tr) (p : Nat) (w : World) (ht : TreeAt w.heap.size w p t) (hc : t.cnt ≤ 1000) :
    Calls Tryd.prog 42 #[.pointer (some ⟨p, 0, none⟩)] w fun e w' => ∃ g cap, e = .returned (.agg #[.slice (some ⟨g, 0, none⟩) (t.flat 0).length cap]) ∧ NdRow w.heap.size (fun _ => True) w' g cap (t.flat 0) ∧ Below w.heap.size w w' :=
  (l1LevelA_any t p w ht hc).mono fun _ _ ⟨g, cap, h1, h2, h3⟩ => ⟨g, cap, h1, h2.weak, h3⟩
end Go.Proofs.YtlmhpdmgjfankaaDoor
