/- The program's store: what is known of it, and what its function node answers. -/
import Derived.Test.YtlhhdhmhncjilaaGreatStD
import Derived.Test.YtlhhdhmhncjilaaGreatStB
import Derived.Test.YtlhhdhmhncjilaaGreatBas
namespace Go.Proofs.YtlhhdhmhncjilaaGreat
open Go.ChangeShapes Go.WideShapes Go.ChangeAt Go.RowKit

theorem tkids_le (k : Int) : tkidsN k ≤ 3 := by
  unfold tkidsN
  repeat (first | omega | split)
/-- What is known of a node that the store has. -/
structure EntOk (base : Nat) (w : World) (L : List (Nk × Nat × Nat)) (Z : Nat → Zs) (H : Nat → Bool) (q : Nk) (b : Nat) : Prop where
  node : ∃ lv ls, NbAt w b (tmL q lv (Z b) (H b)) ∧ (∀ w', Below base w w' → LevsAt w' lv ls) ∧ q.sp = ⟨(spell ls).toArray⟩ ∧ H b = hpP (parL ls) (fun j => H ((q.kid j).getD 0)) (tkidsN q.k).toNat
  low : base ≤ b
  k0 : 0 ≤ tkidsN q.k
  kid : ∀ j : Nat, (j : Int) < tkidsN q.k → ∃ y ∈ L, q.kid j = some y.2.1
  nok : ∀ j : Nat, tkidsN q.k ≤ (j : Int) → q.kid j = none
  z : Z b = zmk q.k q.n ((List.range (tkidsN q.k).toNat).map (fun j => Z ((q.kid j).getD 0)))
  ok : ZOk (Z b) ∧ (Z b).sz ≤ 20000
/-- What is known of a store: its own block, its map, the nodes that the map leads to. -/
structure St (base : Nat) (w : World) (Sb mb gb : Nat) (clock : Nat) (L : List (Nk × Nat × Nat)) (Z : Nat → Zs) (H : Nat → Bool) : Prop where
  sb : w.heap[Sb]? = some (.cells #[.map (some mb), .pointer (some ⟨gb, 0, none⟩)] 75 (0, 0))
  mp : w.heap[mb]? = some (.map (L.map ent).toArray clock)
  ents : ∀ x ∈ L, EntOk base w L Z H x.1 x.2.1
  lows : base ≤ Sb ∧ base ≤ mb
theorem nb_heap {w : World} {b : Nat} {xs : List Value} (h : NbAt w b xs) : ∃ cs, w.heap[b]? = some (.cells cs 53 (0, 0)) := by
  rcases h.2 with ⟨h', _⟩ | ⟨g, cap, cur, h', _, h4, _⟩
  · simp at h'
  · simp only [Value.slice.injEq, Option.some.injEq, Addr.mk.injEq, and_true, true_and] at h'
    obtain ⟨rfl, rfl⟩ := h'
    exact ⟨cur, h4⟩
theorem nb_same {w w' : World} {b : Nat} {xs : List Value} (h : NbAt w b xs) (hh : w'.heap[b]? = w.heap[b]?) : NbAt w' b xs := by
  refine ⟨h.1, ?_⟩
  rcases h.2 with h1 | ⟨g, cap, cur, h1, h2, h3, h4⟩
  · exact .inl h1
  · have e : g = b := by simp at h1; omega
    subst e
    exact .inr ⟨g, cap, cur, h1, h2, by rw [hh]; exact h3, h4⟩
theorem EntOk.ptr {base : Nat} {w : World} {L : List (Nk × Nat × Nat)} {Z : Nat → Zs} {H : Nat → Bool} {q : Nk} {b : Nat} (h : EntOk base w L Z H q b) : ∃ cs, w.heap[b]? = some (.cells cs 53 (0, 0)) := by
  obtain ⟨lv, ls, h1, _⟩ := h.node; exact nb_heap h1
theorem kid_all (q : Nk) {P : Option Nat → Prop} (h : ∀ j, P (q.kid j)) : P q.p0 ∧ P q.p1 ∧ P q.p2 := ⟨h 0, h 1, h 2⟩
/-- A key whose kids are nodes of the store. -/
structure KeySt (L : List (Nk × Nat × Nat)) (q : Nk) : Prop where
  k0 : 0 ≤ tkidsN q.k
  kid : ∀ j : Nat, (j : Int) < tkidsN q.k → ∃ y ∈ L, q.kid j = some y.2.1
  nok : ∀ j : Nat, tkidsN q.k ≤ (j : Int) → q.kid j = none
theorem EntOk.key {base : Nat} {w : World} {L : List (Nk × Nat × Nat)} {Z : Nat → Zs} {H : Nat → Bool} {q : Nk} {b : Nat} (h : EntOk base w L Z H q b) : KeySt L q := ⟨h.k0, h.kid, h.nok⟩
theorem KeySt.ok {base : Nat} {w : World} {Sb mb gb clock : Nat} {L : List (Nk × Nat × Nat)} {Z : Nat → Zs} {H : Nat → Bool} {q : Nk} (hs : St base w Sb mb gb clock L Z H) (h : KeySt L q) : KeyOk w q := by
  refine kid_all q (P := PtrOk w) (fun j => ?_)
  by_cases hj : (j : Int) < tkidsN q.k
  · obtain ⟨y, hy, e⟩ := h.kid j hj
    intro b hb
    rw [e] at hb
    obtain ⟨cs, h1⟩ := (hs.ents y hy).ptr
    exact ⟨cs, 53, by rw [← Option.some.inj hb]; exact h1⟩
  · rw [h.nok j (by omega)]; exact PtrOk.nil w
theorem St.keys {base : Nat} {w : World} {Sb mb gb clock : Nat} {L : List (Nk × Nat × Nat)} {Z : Nat → Zs} {H : Nat → Bool} (hs : St base w Sb mb gb clock L Z H) : ∀ x ∈ L, KeyOk w x.1 := fun x hx => (hs.ents x hx).key.ok hs
/-- Where its blocks, and all below its base, stay. -/
theorem EntOk.same {base : Nat} {w w' : World} {L : List (Nk × Nat × Nat)} {Z : Nat → Zs} {H : Nat → Bool} {q : Nk} {b : Nat} (h : EntOk base w L Z H q b) (hb : Below base w w') (hh : w'.heap[b]? = w.heap[b]?) : EntOk base w' L Z H q b := by
  obtain ⟨lv, ls, h1, h2, h3⟩ := h.node
  exact ⟨⟨lv, ls, nb_same h1 hh, fun w2 hw => h2 w2 (hb.trans hw), h3⟩, h.low, h.k0, h.kid, h.nok, h.z, h.ok⟩
theorem St.keep {base : Nat} {w w' : World} {Sb mb gb clock : Nat} {L : List (Nk × Nat × Nat)} {Z : Nat → Zs} {H : Nat → Bool} (hs : St base w Sb mb gb clock L Z H) (hb : Below w.heap.size w w') (hl : base ≤ w.heap.size) : St base w' Sb mb gb clock L Z H := by
  have e1 : Sb < w.heap.size := (Array.getElem?_eq_some_iff.1 hs.sb).1
  have e2 : mb < w.heap.size := (Array.getElem?_eq_some_iff.1 hs.mp).1
  refine ⟨by rw [hb.block Sb e1]; exact hs.sb, by rw [hb.block mb e2]; exact hs.mp, fun x hx => ?_, hs.lows⟩
  obtain ⟨cs, h1⟩ := (hs.ents x hx).ptr
  exact (hs.ents x hx).same (hb.mono hl) (hb.block _ (Array.getElem?_eq_some_iff.1 h1).1)
theorem St.cell {base : Nat} {w : World} {Sb mb gb clock : Nat} {L : List (Nk × Nat × Nat)} {Z : Nat → Zs} {H : Nat → Bool} (hs : St base w Sb mb gb clock L Z H) : w.cell? ⟨Sb, 0, none⟩ = some (.map (some mb)) ∧ w.cell? ⟨Sb, 1, none⟩ = some (.pointer (some ⟨gb, 0, none⟩)) :=
  ⟨by rw [Lib.cell_of_heap hs.sb]; rfl, by rw [Lib.cell_of_heap hs.sb]; rfl⟩
end Go.Proofs.YtlhhdhmhncjilaaGreat
