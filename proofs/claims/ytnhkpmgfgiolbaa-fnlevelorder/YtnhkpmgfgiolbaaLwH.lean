/- Facts for the walk of the laws' lwNode: two levels' nodes behind each other, and one node more. -/
import Derived.Test.YtnhkpmgfgiolbaaDrLeq
import Derived.Deep.RegionHeld3
import Derived.Deep.AppendLies
import Derived.Deep.Upon
namespace Go.Proofs.Ytnhkpmgfgiolbaa
open Go.ChangeShapes Go.WideShapes Go.ChangeAt Go.RowKit

def shiftN (n : Nat) (nd : Nd) : Nd := ⟨nd.k, nd.s, nd.kids.map (fun x => x + (n : Int))⟩
theorem flat_shift (n : Nat) : ∀ (t : Tr) (o : Nat), (t.flat o).map (shiftN n) = t.flat (o + n)
  | .leaf _ _, o => by simp [Tr.flat, shiftN]
  | .one k s a, o => by
    have h := a.cnt_pos
    simp only [Tr.flat, List.map_append, flat_shift n a o, List.map_cons, List.map_nil, shiftN]
    rw [show ((o + a.cnt - 1 : Nat) : Int) + (n : Int) = ((o + n + a.cnt - 1 : Nat) : Int) from by omega]
  | .two k s a b, o => by
    have h := a.cnt_pos
    have h2 := b.cnt_pos
    simp only [Tr.flat, List.map_append, flat_shift n a o, flat_shift n b (o + a.cnt), List.map_cons, List.map_nil, shiftN]
    rw [show o + a.cnt + n = o + n + a.cnt from by omega]
    rw [show ((o + a.cnt - 1 : Nat) : Int) + (n : Int) = ((o + n + a.cnt - 1 : Nat) : Int) from by omega, show ((o + a.cnt + b.cnt - 1 : Nat) : Int) + (n : Int) = ((o + n + a.cnt + b.cnt - 1 : Nat) : Int) from by omega]
theorem flat_rng : ∀ (t : Tr) (o : Nat), ∀ nd ∈ t.flat o, ∀ k ∈ nd.kids, 0 ≤ k ∧ k < ((o + t.cnt : Nat) : Int)
  | .leaf _ _, o => by intro nd h k hk; simp [Tr.flat] at h; subst h; simp at hk
  | .one _ _ a, o => by
    have hp := a.cnt_pos
    intro nd h k hk; simp only [Tr.flat, List.mem_append, List.mem_singleton] at h
    rcases h with h | h
    · have := flat_rng a o nd h k hk; simp only [Tr.cnt]; omega
    · subst h; simp only [List.mem_singleton] at hk; subst hk; simp only [Tr.cnt]; omega
  | .two _ _ a b, o => by
    have hp := a.cnt_pos
    have hp2 := b.cnt_pos
    intro nd h k hk; simp only [Tr.flat, List.mem_append, List.mem_singleton] at h
    rcases h with (h | h) | h
    · have := flat_rng a o nd h k hk; simp only [Tr.cnt]; omega
    · have := flat_rng b _ nd h k hk; simp only [Tr.cnt]; omega
    · subst h; simp only [List.mem_cons, List.not_mem_nil, or_false] at hk; simp only [Tr.cnt]; rcases hk with rfl | rfl <;> omega
theorem join_flat (s : ByteArray) (a b : Tr) : (Tr.two 3 s a b).flat 0 = a.flat 0 ++ (b.flat 0).map (shiftN a.cnt) ++ [⟨3, s, [((a.cnt - 1 : Nat) : Int), ((a.cnt + b.cnt - 1 : Nat) : Int)]⟩] := by
  simp only [Tr.flat, flat_shift, Nat.zero_add]

theorem KidRow.grownV {base b2 : Nat} {w w' : World} {kv v : Value} {ks : List Int} {n s : Nat} {e : TypeId} {xs : List Value} (h : KidRow base w kv ks) (hr : w.ownsRow b2 e s v n xs) (he : e ≠ 3) (hg : w.grownBy w' v.ownBlock) : KidRow base w' kv ks := by
  rcases hr.2 with ⟨h1, _⟩ | ⟨g, cap, cur, h1, _⟩
  · subst h1
    refine World.ownsRow.kept h hg ?_
    cases kv.ownBlock with
    | none => exact .inl rfl
    | some b => exact .inr (by simp [Value.ownBlock])
  · subst h1
    exact h.grown hr he hg
/-- A row of nodes, maybe none. -/
def NdV (base : Nat) (w : World) (v : Value) (ns : List Nd) : Prop :=
  ∃ xs, w.ownsRow base 87 3 v ns.length xs ∧ ∀ i (h : i < ns.length), xs[i * 3]? = some (.int .i64 ns[i].k) ∧ xs[i * 3 + 1]? = some (.string ns[i].s) ∧ ∃ kv, xs[i * 3 + 2]? = some kv ∧ KidRow base w kv ns[i].kids
theorem NdV.keep {base : Nat} {w w' : World} {v : Value} {ns : List Nd} (h : NdV base w v ns) (hb : Below w.heap.size w w') : NdV base w' v ns := by
  obtain ⟨xs, h1, h2⟩ := h
  refine ⟨xs, row_keep hb h1, fun i hi => ?_⟩
  obtain ⟨a, b, kv, c, d⟩ := h2 i hi
  exact ⟨a, b, kv, c, d.keep hb⟩
theorem NdV.set {base : Nat} {w : World} {v : Value} {ns : List Nd} (h : NdV base w v ns) {l o : Nat} {cs : Array Value} {e : TypeId} (he : e ≠ 3) (he2 : e ≠ 87) (ht : w.heap[l]? = some (.cells cs e (0, 0))) (u : Value) : NdV base (w.setCell ⟨l, o, none⟩ u) v ns := by
  obtain ⟨xs, h1, h2⟩ := h
  refine ⟨xs, ?_, fun i hi => ?_⟩
  · rcases h1.2 with ⟨hv, _⟩ | ⟨g, cap, cur, hv, _⟩
    · exact World.ownsRow.kept h1 (grown_set w ⟨l, o, none⟩ u) (.inl (by rw [hv]; rfl))
    · subst hv
      refine own_set h1 (p := ⟨l, o, none⟩) ?_ u
      obtain ⟨c2, h4⟩ := row_tag h1
      intro e'
      have e' : g = l := e'
      subst e'
      rw [h4] at ht
      simp at ht
      exact he2 ht.2.symm
  · obtain ⟨a, b, kv, c, d⟩ := h2 i hi
    exact ⟨a, b, kv, c, d.set (p := ⟨l, o, none⟩) ⟨cs, e, he, ht⟩ u⟩
/-- A block of nodes that lies outside the row is written. -/
theorem NdV.setN {base : Nat} {w : World} {v : Value} {ns : List Nd} (h : NdV base w v ns) {l o : Nat} {cs : Array Value} (ht : w.heap[l]? = some (.cells cs 87 (0, 0))) (hv : v.ownBlock ≠ some l) (u : Value) : NdV base (w.setCell ⟨l, o, none⟩ u) v ns := by
  obtain ⟨xs, h1, h2⟩ := h
  refine ⟨xs, World.ownsRow.kept h1 (grown_set w ⟨l, o, none⟩ u) (.inr hv), fun i hi => ?_⟩
  obtain ⟨a, b, kv, c, d⟩ := h2 i hi
  exact ⟨a, b, kv, c, d.set (p := ⟨l, o, none⟩) ⟨cs, 87, by decide, ht⟩ u⟩
theorem NdV.snoc {base : Nat} {w w' : World} {v : Value} {g2 cap2 : Nat} {ns : List Nd} {nd : Nd} {kv : Value} {xs : List Value} (h1 : w.ownsRow base 87 3 v ns.length xs) (h2 : ∀ i (h : i < ns.length), xs[i * 3]? = some (.int .i64 ns[i].k) ∧ xs[i * 3 + 1]? = some (.string ns[i].s) ∧ ∃ kv, xs[i * 3 + 2]? = some kv ∧ KidRow base w kv ns[i].kids)
    (hk : KidRow base w kv nd.kids) (hg : w.grownBy w' v.ownBlock) (ho : w'.ownsRow base 87 3 (.slice (some ⟨g2, 0, none⟩) (ns.length + 1) cap2) (ns.length + 1) (xs ++ [.int .i64 nd.k, .string nd.s, kv])) : NdV base w' (.slice (some ⟨g2, 0, none⟩) (ns.length + 1) cap2) (ns ++ [nd]) := by
  have hl := h1.1
  refine ⟨xs ++ [.int .i64 nd.k, .string nd.s, kv], by simpa using ho, fun i hi => ?_⟩
  by_cases e : i < ns.length
  · obtain ⟨a, b, kv', c, d⟩ := h2 i e
    rw [List.getElem_append_left e]
    exact ⟨by rw [List.getElem?_append_left (by omega)]; exact a, by rw [List.getElem?_append_left (by omega)]; exact b, kv', by rw [List.getElem?_append_left (by omega)]; exact c, d.grownV h1 (by decide) hg⟩
  · have e2 : i = ns.length := by simp at hi; omega
    subst e2
    rw [List.getElem_append_right (Nat.le_refl _)]
    simp only [Nat.sub_self, List.getElem_cons_zero]
    refine ⟨?_, ?_, kv, ?_, hk.grownV h1 (by decide) hg⟩
    · rw [List.getElem?_append_right (by omega), hl, Nat.sub_self]; rfl
    · rw [List.getElem?_append_right (by omega), hl, show ns.length * 3 + 1 - ns.length * 3 = 1 from by omega]; rfl
    · rw [List.getElem?_append_right (by omega), hl, show ns.length * 3 + 2 - ns.length * 3 = 2 from by omega]; rfl
theorem NdV.row {base : Nat} {w : World} {g cap : Nat} {ns : List Nd} (h : NdV base w (.slice (some ⟨g, 0, none⟩) ns.length cap) ns) : NdRow base (fun _ => True) w g cap ns := by
  obtain ⟨xs, h1, h2⟩ := h
  refine ⟨xs, h1, fun i hi => ?_⟩
  obtain ⟨a, b, kv, c, d⟩ := h2 i hi
  exact ⟨a, b, kv, c, d, fun _ _ => trivial⟩
/-- What stands at each place of lwNode: the two levels' cells, the result's cell, the new level's cell and row. -/
structure LwSt (b0 : Nat) (va vb : Value) (ao : Option Addr) (c : Nat) (ns : List Nd) (w0 w : World) : Prop where
  bel : Below w0.heap.size w0 w
  nd : NdV (b0 + 4) w (.slice ao ns.length c) ns
  ka : w.heap[b0]? = some (.cells #[va] 30 (0, 0))
  kb : w.heap[b0 + 1]? = some (.cells #[vb] 30 (0, 0))
  k6 : w.heap[b0 + 2]? = some (.cells #[.slice none 0 0] 30 (0, 0))
  k7 : w.heap[b0 + 3]? = some (.cells #[.slice ao ns.length c] 30 (0, 0))
  h4 : b0 + 4 ≤ w.heap.size
theorem LwSt.keep {b0 : Nat} {va vb : Value} {ao : Option Addr} {c : Nat} {ns : List Nd} {w0 w w' : World} (h : LwSt b0 va vb ao c ns w0 w) (hb : Below w.heap.size w w') : LwSt b0 va vb ao c ns w0 w' :=
  ⟨h.bel.trans (hb.mono h.bel.size), h.nd.keep hb, (hb.block _ (block_lt h.ka)).trans h.ka, (hb.block _ (block_lt h.kb)).trans h.kb, (hb.block _ (block_lt h.k6)).trans h.k6, (hb.block _ (block_lt h.k7)).trans h.k7, Nat.le_trans h.h4 hb.size⟩
/-- One node is appended and the row stored back. -/
theorem LwSt.snoc {b0 : Nat} {va vb : Value} {ao : Option Addr} {c g2 cap2 : Nat} {ns : List Nd} {nd : Nd} {kv : Value} {w0 w w' : World} {xs : List Value} (h : LwSt b0 va vb ao c ns w0 w) (hw0 : w0.heap.size ≤ b0) (h1 : w.ownsRow (b0 + 4) 87 3 (.slice ao ns.length c) ns.length xs) (h2 : ∀ i (h : i < ns.length), xs[i * 3]? = some (.int .i64 ns[i].k) ∧ xs[i * 3 + 1]? = some (.string ns[i].s) ∧ ∃ kv, xs[i * 3 + 2]? = some kv ∧ KidRow (b0 + 4) w kv ns[i].kids)
    (hk : KidRow (b0 + 4) w kv nd.kids) (hg : w.grownBy w' (Value.slice ao ns.length c).ownBlock) (ho : w'.ownsRow (b0 + 4) 87 3 (.slice (some ⟨g2, 0, none⟩) (ns.length + 1) cap2) (ns.length + 1) (xs ++ [.int .i64 nd.k, .string nd.s, kv])) : LwSt b0 va vb (some ⟨g2, 0, none⟩) cap2 (ns ++ [nd]) w0 (w'.setCell ⟨b0 + 3, 0, none⟩ (.slice (some ⟨g2, 0, none⟩) (ns.length + 1) cap2)) := by
  have hn := NdV.snoc h1 h2 hk hg ho
  have h4 := h.h4
  have hne : ∀ b, b < b0 + 4 → some b ≠ (Value.slice ao ns.length c).ownBlock := by
    intro b hb e
    have := (World.ownsRow.lt h1 b e.symm).1
    omega
  have hs := hg.size
  have k7 : w'.heap[b0 + 3]? = some (.cells #[.slice ao ns.length c] 30 (0, 0)) := (hg.block _ (by omega) (hne _ (by omega))).trans h.k7
  have hl : (ns ++ [nd]).length = ns.length + 1 := by simp
  refine ⟨?_, ?_, ?_, ?_, ?_, ?_, by rw [size_set]; omega⟩
  · refine (h.bel.trans ((Below.refl w0.heap.size w).grown hg h.bel.size (fun k hk => ?_))).setCell (p := ⟨b0 + 3, 0, none⟩) (by show w0.heap.size ≤ b0 + 3; omega) _
    have := (World.ownsRow.lt h1 k hk).1
    omega
  · rw [hl]; exact hn.set (by decide) (by decide) k7 _
  · exact far_block ((hg.block _ (by omega) (hne _ (by omega))).trans h.ka) (by omega) _
  · exact far_block ((hg.block _ (by omega) (hne _ (by omega))).trans h.kb) (by omega) _
  · exact far_block ((hg.block _ (by omega) (hne _ (by omega))).trans h.k6) (by omega) _
  · rw [hl]; exact heap_setCell_same w' (b0 + 3) 0 _ 30 _ k7
theorem KidRow.base {b b' : Nat} {w : World} {kv : Value} {ks : List Int} (h : KidRow b w kv ks) (hb : b' ≤ b) : KidRow b' w kv ks := by
  obtain ⟨h1, h2⟩ := h
  rcases h2 with h2 | ⟨g, cap, cur, h3, h4, h5⟩
  · exact ⟨h1, .inl h2⟩
  · exact ⟨h1, .inr ⟨g, cap, cur, h3, by omega, h5⟩⟩
theorem own_drew {w : World} {base : Nat} {e : TypeId} {s : Nat} {v : Value} {n : Nat} {xs : List Value} (h : w.ownsRow base e s v n xs) : w.drew.ownsRow base e s v n xs := h
theorem far_cell {w w' : World} {row : Option Nat} {b o : Nat} {v : Value} (hg : w.grownBy w' row) (hne : some b ≠ row) (h : w.cell? ⟨b, o, none⟩ = some v) : w'.cell? ⟨b, o, none⟩ = some v :=
  (hg.cell_far ⟨b, o, none⟩ (lt_cell h) hne).trans h
theorem LwSt.off {b0 : Nat} {va vb : Value} {ao : Option Addr} {c : Nat} {ns : List Nd} {w0 w : World} (h : LwSt b0 va vb ao c ns w0 w) {b : Nat} (hb : b < b0 + 4 ∨ w.heap.size ≤ b) : some b ≠ (Value.slice ao ns.length c).ownBlock := by
  obtain ⟨xs, h1, _⟩ := h.nd
  intro e
  have := World.ownsRow.lt h1 b e.symm
  omega
/-- Nothing is appended. -/
theorem run_append_none {P : Program} {w : World} (t ty e : TypeId) (i : TypeInfo) (ht : P.underlying t = some (.slice e)) (hi : P.info? e = some i) (b : Option Addr) (n c : Nat) (hnc : n ≤ c) (ax : Option Addr) (cx : Nat) :
    (Builtin.append_ #[t, t] ty #[.slice b n c, .slice ax 0 cx]).run P w = .ok (.slice b n c) w := by
  refine run_append_nothing w t t ty e i ht hi b n c hnc (.slice ax 0 cx) ⟨.inl ⟨e, ht⟩, fun w' => ?_, ?_, ?_, by simp, fun u h => by simp at h⟩
  · simp [Builtin.lenOf]
  · cases ax <;> simp [Builtin.firstCells, loadCells, loadCellsFrom]
  · cases ax <;> simp [Builtin.firstCells, loadCells, loadCellsFrom]
theorem step_append_none {P : Program} {w : World} {ops : Array Oper} {o : Oper} {a : Act} {K : Act → World → Prop} {Q : Exit → Act → World → Prop} {E : Prop} (hgd : o.guard = none) (s x : Operand) (t : TypeId)
    (ho : o.op = .call { callee := .builtin .append, args := #[s, x], argTypes := #[t, t] }) (e : TypeId) (i : TypeInfo) (ht : P.underlying t = some (.slice e)) (hi : P.info? e = some i)
    (b : Option Addr) (n c : Nat) (hnc : n ≤ c) (ax : Option Addr) (cx : Nat) (hs : a.eval s = .slice b n c) (hx : a.eval x = .slice ax 0 cx) (h : K (a.put o.dst (.slice b n c)) w) :
    if Region.wanted o (yielded ops a.tmps) = true then Oper.wp P o a w K Q else E := by
  have hw : Region.wanted o (yielded ops a.tmps) = true := by simp [Region.wanted, hgd]
  rw [if_pos hw]
  have hr := run_append_none (P := P) (w := w) t o.type e i ht hi b n c hnc ax cx
  unfold Oper.wp execOp
  simp only [ho, resolve, invoke, builtin, Sem.run_bind, Sem.run_pure, Result.andThen_ok, List.map_toArray, List.map_cons, List.map_nil, hs, hx, hr]
  exact h
end Go.Proofs.Ytnhkpmgfgiolbaa

/- Regions that draw their order and end in one store that waits for all else: a condition on the world that holds up to that store lets loads be taken first, also those of the cell that is stored to. -/
namespace Go.Proofs.Ytnhkpmgfgiolbaa
open Go.ChangeShapes Go.WideShapes Go.ChangeAt Go.RowKit

/-- Operation L waits for operation i. -/
def waitsB (md : Region.Mode) (ops : Array Oper) (L i : Nat) : Bool :=
  match ops[L]? with
  | some o => o.after.any fun e => Region.binds md e && e.on == i
  | none => false
section
variable {P : Program} {ops : Array Oper} {Q : Exit → Act → World → Prop} {md : Region.Mode} {S : World → Prop} {L : Nat}

/-- Whatever order comes: S holds behind each operation but number L. -/
def wpAnyE (P : Program) (md : Region.Mode) (ops : Array Oper) (Q : Exit → Act → World → Prop) (S : World → Prop) (L : Nat) : Nat → Array Bool → Act → World → Prop
  | 0, listed, a, w => Region.ready md ops listed = [] ∧ Q .normal a w
  | fuel + 1, listed, a, w => (Region.ready md ops listed = [] → Q .normal a w) ∧
      ∀ i ∈ Region.ready md ops listed, wpOp P ops Q i (fun a' w' => (i ≠ L → S w') ∧ wpAnyE P md ops Q S L fuel (listed.setIfInBounds i true) a' w') a w
theorem anyE_any : ∀ (fuel : Nat) (listed : Array Bool) (a : Act) (w : World), wpAnyE P md ops Q S L fuel listed a w → wpAny P md ops Q fuel listed a w
  | 0, _, _, _, h => h
  | fuel + 1, _, _, _, h => ⟨h.1, fun i hi => wpOp_mono (fun a' w' q => anyE_any fuel _ a' w' q.2) (h.2 i hi)⟩
theorem anyE_region {id : Nat} {a : Act} {w : World} (hm : P.follows .mixedOrders = true) (h : wpAnyE P .any ops Q S L ops.size (Array.replicate ops.size false) a w.drew) : (Code.region id ops true).wp P Q a w :=
  wp_region_any hm (anyE_any _ _ _ _ h)
theorem unlisted {i : Nat} {listed : Array Bool} (h : i ∈ Region.ready md ops listed) {o : Oper} {j : Nat} (hj : j ∈ Region.ready md ops listed) (ho : ops[j]? = some o) : ∀ e ∈ o.after, Region.binds md e = true → e.on ≠ i := by
  intro e he hb heq
  obtain ⟨_, oj, hoj, hall⟩ := mem_ready.1 hj
  rw [ho] at hoj
  cases hoj
  have h1 := hall e he hb
  have h0 := (mem_ready.1 h).1
  rw [heq] at h1
  rcases Nat.lt_or_ge i listed.size with h' | h'
  · simp [h'] at h0 h1; rw [h0] at h1; cases h1
  · simp [Array.getElem?_eq_none h'] at h1
theorem anyE_first {i : Nat} {oi : Oper} {v : Value} (hi : ops[i]? = some oi) (hs : Region.noSelect ops = true) (hL : waitsB md ops L i = true) (hQ : ∀ c a w, Q (.panic c) (a.put oi.dst v) w → Q (.panic c) a w) :
    ∀ (fuel : Nat) (listed : Array Bool) (a : Act) (w : World),
      (∀ j oj, ops[j]? = some oj → j ≠ i → listed.getD j true = false → (∀ e ∈ oj.after, Region.binds md e = true → e.on ≠ i) → oi.apart ops oj = true) →
      i ∈ Region.ready md ops listed → YieldsIf P ops S oi v a → S w →
      wpAnyE P md ops Q S L fuel (listed.setIfInBounds i true) (a.put oi.dst v) w → wpAnyE P md ops Q S L (fuel + 1) listed a w := by
  intro fuel
  induction fuel with
  | zero =>
    intro listed a w _ hr hy hS H
    refine ⟨fun h => (by rw [h] at hr; cases hr), fun j hj => ?_⟩
    by_cases hji : j = i
    · subst hji; exact hy.wpOp hi hS ⟨fun _ => hS, H⟩
    · have h := ready_mono hj hji
      rw [H.1] at h
      cases h
  | succ fuel ih =>
    intro listed a w hfree hr hy hS H
    refine ⟨fun h => (by rw [h] at hr; cases hr), fun j hj => ?_⟩
    by_cases hji : j = i
    · subst hji; exact hy.wpOp hi hS ⟨fun _ => hS, H⟩
    · obtain ⟨hjun, oj, hoj, _⟩ := mem_ready.1 hj
      have hjL : j ≠ L := by
        intro e
        subst e
        unfold waitsB at hL
        rw [hoj] at hL
        obtain ⟨x, hx, hb⟩ := Array.any_eq_true'.1 hL
        simp only [Bool.and_eq_true, beq_iff_eq] at hb
        exact unlisted hr hj hoj x hx hb.1 hb.2
      have h2 := wpOp_putIf hoj (hfree j oj hoj hji hjun (unlisted hr hj hoj)) (fun cs b => Region.noSelect_spec hs i oi cs b hi) (fun cs b => Region.noSelect_spec hs j oj cs b hoj) hQ hy (H.2 j (ready_mono hj hji))
      refine wpOp_mono (fun a' w' h3 => ⟨h3.2.1, ih (listed.setIfInBounds j true) a' w' (fun k ok hk hki hun hno => hfree k ok hk hki ?_ hno) (ready_mono hr (Ne.symm hji)) h3.1 (h3.2.1 hjL) ?_⟩) h2
      · by_cases hjk : j = k
        · subst hjk; exact hjun
        · rw [getD_set_ne true hjk] at hun; exact hun
      · rw [Array.setIfInBounds_comm _ _ hji]
        exact h3.2.2
/-- Operation i is taken first. -/
theorem anyE_take (i : Nat) {oi : Oper} {v : Value} {fuel : Nat} {listed : Array Bool} {a : Act} {w : World} (hi : ops[i]? = some oi) (hs : Region.noSelect ops = true) (hL : waitsB md ops L i = true) (hf : Region.free md ops listed i = true) (hr : (Region.ready md ops listed).contains i = true)
    (hQ : ∀ c a w, Q (.panic c) (a.put oi.dst v) w → Q (.panic c) a w) (hw : Region.wanted oi (yielded ops a.tmps) = true) (hy : ∀ w, S w → (execOp a.eval oi).run P w = .ok (.value v) w) (hS : S w)
    (h : ∀ K : Act → Prop, Hid (∀ a, wpAnyE P md ops Q S L fuel (listed.setIfInBounds i true) a w → K a) → K (a.put oi.dst v)) : wpAnyE P md ops Q S L (fuel + 1) listed a w :=
  anyE_first hi hs hL hQ fuel listed a w (Region.free_spec hi hf) (by simpa using hr) (.inl ⟨hw, hy⟩) hS (h _ (fun _ h => h))
/-- Operation i is the only one that may come. -/
theorem anyE_one (i : Nat) {o : Oper} {fuel : Nat} {listed : Array Bool} {a : Act} {w : World} (hr : Region.ready md ops listed = [i]) (ho : ops[i]? = some o)
    (h : ∀ K : Act → World → Prop, Hid (∀ a w, (i ≠ L → S w) → wpAnyE P md ops Q S L fuel (listed.setIfInBounds i true) a w → K a w) → if Region.wanted o (yielded ops a.tmps) = true then Oper.wp P o a w K Q else K (a.put o.dst undef) w) : wpAnyE P md ops Q S L (fuel + 1) listed a w :=
  ⟨fun h0 => (by rw [hr] at h0; cases h0), fun j hj => by
    rw [hr] at hj
    have e : j = i := by simpa using hj
    subst e
    exact wpOp_step ho (fun K hK => h K (fun a w h1 h2 => hK a w ⟨h1, h2⟩))⟩
theorem anyE_done {listed : Array Bool} {a : Act} {w : World} (hr : Region.ready md ops listed = []) (h : Q .normal a w) : ∀ fuel, wpAnyE P md ops Q S L fuel listed a w
  | 0 => ⟨hr, h⟩
  | _ + 1 => ⟨fun _ => h, by rw [hr]; simp⟩
end
end Go.Proofs.Ytnhkpmgfgiolbaa
