/- What the specification's l1Nodes answers: the nodes of a tree behind others. -/
import Derived.Test.YtjkkojefpecbfaaGreatSpec
namespace Go.Proofs.YtjkkojefpecbfaaGreat
open Go.ChangeShapes Go.WideShapes Go.ChangeAt Go.RowKit

/-- A row of numbers of the call's own, nothing among them. -/
def KidRow (base : Nat) (w : World) (kv : Value) (ks : List Int) : Prop := w.ownsRow base 3 1 kv ks.length (ks.map (Value.int .i64))
/-- A row of nodes of the call's own. -/
def NdRow (base : Nat) (Q : Nat → Prop) (w : World) (g cap : Nat) (ns : List Nd) : Prop :=
  ∃ xs, w.ownsRow base 174 3 (.slice (some ⟨g, 0, none⟩) ns.length cap) ns.length xs ∧ ∀ i (h : i < ns.length), xs[i * 3]? = some (.int .i64 ns[i].k) ∧ xs[i * 3 + 1]? = some (.string ns[i].s) ∧ ∃ kv, xs[i * 3 + 2]? = some kv ∧ KidRow base w kv ns[i].kids ∧ ∀ b, kv.ownBlock = some b → Q b
theorem KidRow.keep {base : Nat} {w w' : World} {kv : Value} {ks : List Int} (h : KidRow base w kv ks) (hb : Below w.heap.size w w') : KidRow base w' kv ks := row_keep hb h
theorem KidRow.grown {base b2 : Nat} {w w' : World} {kv : Value} {ks : List Int} {g n cap s : Nat} {e : TypeId} {xs : List Value} (h : KidRow base w kv ks) (hr : w.ownsRow b2 e s (.slice (some ⟨g, 0, none⟩) n cap) n xs) (he : e ≠ 3) (hg : w.grownBy w' (some g)) : KidRow base w' kv ks := by
  rcases h.2 with ⟨h1, _⟩ | ⟨g', cap', cur, h1, h2⟩
  · exact World.ownsRow.kept h hg (.inl (by rw [h1]; rfl))
  · have h3 : w.ownsRow base 3 1 (.slice (some ⟨g', 0, none⟩) ks.length cap') ks.length (ks.map (Value.int .i64)) := by rw [← h1]; exact h
    have hne := rows_ne h3 hr (fun e2 => he e2.symm)
    exact World.ownsRow.kept h hg (.inr (by rw [h1]; simp [Value.ownBlock]; exact hne))
theorem NdRow.lt {base : Nat} {Q : Nat → Prop} {w : World} {g cap : Nat} {ns : List Nd} (h : NdRow base Q w g cap ns) : base ≤ g ∧ g < w.heap.size := by
  obtain ⟨xs, h1, _⟩ := h; exact h1.lt g rfl
/-- The kids of different nodes lie in different blocks. -/
def Apart (xs : List Value) (n : Nat) : Prop := ∀ i j, i < n → j < n → i ≠ j → ∀ kv kv' b, xs[i * 3 + 2]? = some kv → xs[j * 3 + 2]? = some kv' → kv.ownBlock = some b → kv'.ownBlock = some b → False
/-- What a new node's kids keep away from. -/
def Off (xs : List Value) (n : Nat) (kv : Value) : Prop := ∀ i, i < n → ∀ kv' b, xs[i * 3 + 2]? = some kv' → kv'.ownBlock = some b → kv.ownBlock = some b → False
theorem Apart.snoc {xs : List Value} {n : Nat} (h : Apart xs n) (hl : xs.length = n * 3) (x y kv : Value) (hd : Off xs n kv) : Apart (xs ++ [x, y, kv]) (n + 1) := by
  intro i j hi hj hij kv1 kv2 b h1 h2 o1 o2
  have hlast : ∀ u, (xs ++ [x, y, kv])[n * 3 + 2]? = some u → u = kv := fun u hu => by
    rw [List.getElem?_append_right (by omega), hl, show n * 3 + 2 - n * 3 = 2 from by omega] at hu
    simp at hu; exact hu.symm
  by_cases ei : i < n
  · rw [List.getElem?_append_left (by omega)] at h1
    by_cases ej : j < n
    · rw [List.getElem?_append_left (by omega)] at h2
      exact h i j ei ej hij kv1 kv2 b h1 h2 o1 o2
    · have : j = n := by omega
      subst this
      rw [hlast _ h2] at o2
      exact hd i ei kv1 b h1 o1 o2
  · have : i = n := by omega
    subst this
    rw [hlast _ h1] at o1
    rw [List.getElem?_append_left (by omega)] at h2
    exact hd j (by omega) kv2 b h2 o2 o1
/-- A row of nodes of the call's own, the kids apart. -/
def NdRowA (base : Nat) (Q : Nat → Prop) (w : World) (g cap : Nat) (ns : List Nd) : Prop :=
  ∃ xs, w.ownsRow base 174 3 (.slice (some ⟨g, 0, none⟩) ns.length cap) ns.length xs ∧ (∀ i (h : i < ns.length), xs[i * 3]? = some (.int .i64 ns[i].k) ∧ xs[i * 3 + 1]? = some (.string ns[i].s) ∧ ∃ kv, xs[i * 3 + 2]? = some kv ∧ KidRow base w kv ns[i].kids ∧ ∀ b, kv.ownBlock = some b → Q b) ∧ Apart xs ns.length
theorem NdRowA.weak {base : Nat} {Q : Nat → Prop} {w : World} {g cap : Nat} {ns : List Nd} (h : NdRowA base Q w g cap ns) : NdRow base Q w g cap ns := by
  obtain ⟨xs, h1, h2, _⟩ := h; exact ⟨xs, h1, h2⟩
theorem NdRowA.lt {base : Nat} {Q : Nat → Prop} {w : World} {g cap : Nat} {ns : List Nd} (h : NdRowA base Q w g cap ns) : base ≤ g ∧ g < w.heap.size := h.weak.lt
theorem NdRowA.keep {base : Nat} {Q : Nat → Prop} {w w' : World} {g cap : Nat} {ns : List Nd} (h : NdRowA base Q w g cap ns) (hb : Below w.heap.size w w') : NdRowA base Q w' g cap ns := by
  obtain ⟨xs, h1, h2, h3⟩ := h
  refine ⟨xs, row_keep hb h1, fun i hi => ?_, h3⟩
  obtain ⟨a, b, kv, c, d, q⟩ := h2 i hi
  exact ⟨a, b, kv, c, d.keep hb, q⟩
/-- One node more. -/
theorem NdRow.snoc {base : Nat} {Q : Nat → Prop} {w w' : World} {g cap g2 cap2 : Nat} {ns : List Nd} {nd : Nd} {kv : Value} {xs : List Value} (h1 : w.ownsRow base 174 3 (.slice (some ⟨g, 0, none⟩) ns.length cap) ns.length xs) (h2 : ∀ i (h : i < ns.length), xs[i * 3]? = some (.int .i64 ns[i].k) ∧ xs[i * 3 + 1]? = some (.string ns[i].s) ∧ ∃ kv, xs[i * 3 + 2]? = some kv ∧ KidRow base w kv ns[i].kids ∧ ∀ b, kv.ownBlock = some b → Q b)
    (hk : KidRow base w kv nd.kids) (hq : ∀ b, kv.ownBlock = some b → Q b) (hg : w.grownBy w' (some g)) (ho : w'.ownsRow base 174 3 (.slice (some ⟨g2, 0, none⟩) (ns.length + 1) cap2) (ns.length + 1) (xs ++ [.int .i64 nd.k, .string nd.s, kv])) (hap : Apart xs ns.length) (hd : Off xs ns.length kv) : NdRowA base Q w' g2 cap2 (ns ++ [nd]) := by
  have hl := h1.1
  refine ⟨xs ++ [.int .i64 nd.k, .string nd.s, kv], by simpa using ho, fun i hi => ?_, by rw [List.length_append]; exact hap.snoc hl _ _ kv hd⟩
  by_cases e : i < ns.length
  · obtain ⟨a, b, kv', c, d, q⟩ := h2 i e
    rw [List.getElem_append_left e]
    exact ⟨by rw [List.getElem?_append_left (by omega)]; exact a, by rw [List.getElem?_append_left (by omega)]; exact b, kv', by rw [List.getElem?_append_left (by omega)]; exact c, d.grown h1 (by decide) hg, q⟩
  · have e2 : i = ns.length := by simp at hi; omega
    subst e2
    rw [List.getElem_append_right (Nat.le_refl _)]
    simp only [Nat.sub_self, List.getElem_cons_zero]
    refine ⟨?_, ?_, kv, ?_, hk.grown h1 (by decide) hg, hq⟩
    · rw [List.getElem?_append_right (by omega), hl, Nat.sub_self]; rfl
    · rw [List.getElem?_append_right (by omega), hl, show ns.length * 3 + 1 - ns.length * 3 = 1 from by omega]; rfl
    · rw [List.getElem?_append_right (by omega), hl, show ns.length * 3 + 2 - ns.length * 3 = 2 from by omega]; rfl
theorem below_of {base : Nat} {w w' : World} {g : Nat} (hg : w.grownBy w' (some g)) (hb : base ≤ g) (hw : base ≤ w.heap.size) : Below base w w' := (Below.refl base w).grown hg hw (fun k hk => by simp at hk; omega)

theorem nodes_end {base : Nat} {Q : Nat → Prop} {w W w4 : World} {g cap g4 cap4 : Nat} {ns : List Nd} {nd : Nd} {kv : Value} {xs : List Value} (hbw : Below w.heap.size w W) (ho : w.ownsRow base 174 3 (.slice (some ⟨g, 0, none⟩) ns.length cap) ns.length xs) (hx : ∀ i (h : i < ns.length), xs[i * 3]? = some (.int .i64 ns[i].k) ∧ xs[i * 3 + 1]? = some (.string ns[i].s) ∧ ∃ kv, xs[i * 3 + 2]? = some kv ∧ KidRow base w kv ns[i].kids ∧ ∀ b, kv.ownBlock = some b → Q b)
    (hk : KidRow base W kv nd.kids) (hq : ∀ b, kv.ownBlock = some b → Q b) (hg : W.grownBy w4 (some g)) (h4 : w4.ownsRow base 174 3 (.slice (some ⟨g4, 0, none⟩) (ns.length + 1) cap4) (ns.length + 1) (xs ++ [.int .i64 nd.k, .string nd.s, kv])) (hap : Apart xs ns.length) (hd : Off xs ns.length kv) : NdRowA base Q w4 g4 cap4 (ns ++ [nd]) ∧ w.grownBy w4 (some g) :=
  ⟨NdRow.snoc (row_keep hbw ho) (fun i hi => by obtain ⟨a, b, kv', c, d, q⟩ := hx i hi; exact ⟨a, b, kv', c, d.keep hbw, q⟩) hk hq hg h4 hap hd, ((grown_of hbw).but _).trans hg⟩
theorem grown_setN (w : World) (p : Addr) (u : Value) : w.grownBy (w.setCell p u) (some p.block) :=
  ⟨rfl, rfl, rfl, by rw [size_set]; exact Nat.le_refl _, fun k _ hne => Below.heap_setCell w p u k (fun e => hne (by rw [e]))⟩
theorem own_set {base : Nat} {w : World} {e : TypeId} {s : Nat} {g n cap : Nat} {xs : List Value} (h : w.ownsRow base e s (.slice (some ⟨g, 0, none⟩) n cap) n xs) {p : Addr} (hp : g ≠ p.block) (u : Value) : (w.setCell p u).ownsRow base e s (.slice (some ⟨g, 0, none⟩) n cap) n xs :=
  World.ownsRow.kept h (grown_setN w p u) (.inr (by simp [Value.ownBlock]; exact hp))
theorem KidRow.set {base : Nat} {w : World} {kv : Value} {ks : List Int} (h : KidRow base w kv ks) {p : Addr} (hp : ∃ cs e, e ≠ 3 ∧ w.heap[p.block]? = some (.cells cs e (0, 0))) (u : Value) : KidRow base (w.setCell p u) kv ks := by
  rcases h.2 with ⟨h1, _⟩ | ⟨g', cap', cur, h1, _, h2, _⟩
  · exact World.ownsRow.kept h (grown_setN w p u) (.inl (by rw [h1]; rfl))
  · obtain ⟨cs, e, he, hc⟩ := hp
    exact World.ownsRow.kept h (grown_setN w p u) (.inr (by
      rw [h1]; simp [Value.ownBlock]; intro e2; rw [e2, hc] at h2; simp at h2; exact he h2.2))
/-- What l1Nodes answers at a tree. -/
def NodesIH (t : Tr) : Prop := ∀ (p : Nat) (w : World) (g cap : Nat) (ns : List Nd) (base : Nat) (Q : Nat → Prop), TreeAt base w p t → NdRowA base Q w g cap ns → (∀ b, w.heap.size ≤ b → Q b) → base ≤ w.heap.size → ns.length + t.cnt ≤ 1000 →
  Calls Tryz.prog 183 #[.pointer (some ⟨p, 0, none⟩), .slice (some ⟨g, 0, none⟩) ns.length cap] w fun e w' => ∃ g' cap', e = .returned (.slice (some ⟨g', 0, none⟩) (ns ++ t.flat ns.length).length cap') ∧ NdRowA base Q w' g' cap' (ns ++ t.flat ns.length) ∧ w.grownBy w' (some g) ∧ (g' = g ∨ w.heap.size ≤ g')

set_option maxRecDepth 20000 in
set_option maxHeartbeats 2000000 in
theorem nodes_leaf (k : Int) (s : ByteArray) : NodesIH (.leaf k s) := by
  intro p w g cap ns base Q ht hn hq hb hl
  have HQ := hide hq
  clear hq
  obtain ⟨i87, hi87, hz87, hs87, hb87⟩ := info_parts Tryz.info174
  obtain ⟨hp, hblk⟩ := ht
  have t0 : w.cell? ⟨p, 0, none⟩ = some (.int .i64 k) := by rw [cell_of_row w p 0 _ _ _ hblk]; rfl
  have t1 : w.cell? ⟨p, 1, none⟩ = some (.string s) := by rw [cell_of_row w p 1 _ _ _ hblk]; rfl
  have t2 : w.cell? ⟨p, 2, none⟩ = some (.pointer none) := by rw [cell_of_row w p 2 _ _ _ hblk]; rfl
  have t3 : w.cell? ⟨p, 3, none⟩ = some (.pointer none) := by rw [cell_of_row w p 3 _ _ _ hblk]; rfl
  have hpl := lt_cell t0
  have hgl := hn.lt
  obtain ⟨xs, ho, hx, hap⟩ := hn
  have HAP := hide hap
  clear hap
  have HO := hide ho
  have HX := hide hx
  have HLEN : Hid ((ns ++ (Tr.leaf k s).flat ns.length).length = ns.length + 1) := by show _ = _; simp [Tr.flat]
  have hcn : ns.length ≤ 1000 := by omega
  clear ho hx hblk hl
  go_enter Tryz.func183, Tryz.ntmps183
  go_wp2_with fail
  go_region
  go_wp2_with (first
    | (go_at_call 118; refine (none_none _).mono ?_; rintro e w' ⟨rfl, hw⟩; have hw := hw.symm; subst hw)
    | (at_builtin; refine wpList_append_lies _ rfl _ _ 109 rfl base 174 i87 (.agg #[.int .i64 0, .string ⟨#[]⟩, .slice none 0 0]) 3 48 Tryz.underlying109 hi87 hz87 hs87 hb87 rfl (by omega) (.slice (some ⟨g, 0, none⟩) ns.length cap) ns.length xs rfl (((show w.drew.ownsRow _ _ _ _ _ _ from HO.out).alloc _).alloc _) ⟨w.heap.size + 1, 0, none⟩ 1 1 [.int .i64 k, .string s, .slice none 0 0] rfl rfl ?c1 ?c2 (by omega) ?c3 ?c4 ?c5 (w.heap.size + 1 + 1) (by simp) ?_)
    | fail)
  case c1 => exact World.news_of_block (cs := #[.int .i64 k, .string s, .slice none 0 0]) (t := 174) (fr := (0, 0)) (alloc2_block w _ _ 1)
  case c2 => intro u hu; simp at hu; rcases hu with rfl | rfl | rfl <;> rfl
  case c3 => unfold maxLen; omega
  case c4 => omega
  case c5 => simp; omega
  intro g4 cap4 w4 hown4 hgrow4 hat4 hlt4
  have hend := nodes_end (nd := ⟨k, s, []⟩) (bel_alloc (bel_alloc (Below.refl w.heap.size w) (.cells #[.int .i64 k, .string s, .slice none 0 0] 174)) (.cells #[.int .i64 k, .string s, .slice none 0 0] 174)).drew HO.out HX.out (World.ownsRow_nil _ _ _ _) (fun b hb => by simp [Value.ownBlock] at hb) hgrow4 hown4 HAP.out (fun i hi kv' b _ _ h => by simp [Value.ownBlock] at h)
  have HE := hide hend
  have HAT : Hid (g4 = g ∨ w.heap.size ≤ g4) := by
    rcases hat4 with h | h
    · simp [Value.ownBlock] at h; exact .inl h.symm
    · exact .inr (by omega)
  clear hend hown4 hgrow4 hat4 hlt4
  go_wp2_with fail
  go_ret
  exact ⟨g4, cap4, by rw [HLEN.out]; rfl, HE.out.1, HE.out.2, HAT.out⟩

set_option maxRecDepth 20000 in
set_option maxHeartbeats 2000000 in
theorem nodes_one (k : Int) (s : ByteArray) (a : Tr) (IH : Hid (NodesIH a)) : NodesIH (.one k s a) := by
  intro p w g cap ns base Q ht hn hq hb hl
  have HQ := hide hq
  clear hq
  obtain ⟨i87, hi87, hz87, hs87, hb87⟩ := info_parts Tryz.info174
  obtain ⟨i3, hi3, hz3, hs3, hb3⟩ := info_parts Tryz.info3
  have HTT := hide ht
  obtain ⟨hp, pa, hblk, hta⟩ := ht
  have t0 : w.cell? ⟨p, 0, none⟩ = some (.int .i64 k) := by rw [cell_of_row w p 0 _ _ _ hblk]; rfl
  have t1 : w.cell? ⟨p, 1, none⟩ = some (.string s) := by rw [cell_of_row w p 1 _ _ _ hblk]; rfl
  have t2 : w.cell? ⟨p, 2, none⟩ = some (.pointer (some ⟨pa, 0, none⟩)) := by rw [cell_of_row w p 2 _ _ _ hblk]; rfl
  have t3 : w.cell? ⟨p, 3, none⟩ = some (.pointer none) := by rw [cell_of_row w p 3 _ _ _ hblk]; rfl
  have hpl := lt_cell t0
  have hgl := hn.lt
  have HN := hide hn
  have HTA := hide hta
  have hcn : ns.length ≤ 1000 := by omega
  have HL := hide hl
  clear hblk hta hn hl
  obtain ⟨W1, hW1⟩ : ∃ W1, W1 = (w.alloc (.cells #[.int .i64 k, .string s, .slice none 0 0] 174)).drew := ⟨_, rfl⟩
  have HB1 := hide (show Below w.heap.size w W1 by rw [hW1]; exact (bel_alloc (Below.refl w.heap.size w) _).drew)
  have hs1 : W1.heap.size = w.heap.size + 1 := by rw [hW1]; show (w.alloc _).heap.size = _; simp
  have x0 : W1.cell? ⟨w.heap.size, 0, none⟩ = some (.int .i64 k) := by rw [hW1]; show (w.alloc _).cell? _ = _; simp [go_sem]
  have x1 : W1.cell? ⟨w.heap.size, 1, none⟩ = some (.string s) := by rw [hW1]; show (w.alloc _).cell? _ = _; simp [go_sem]
  have x2 : W1.cell? ⟨w.heap.size, 2, none⟩ = some (.slice none 0 0) := by rw [hW1]; show (w.alloc _).cell? _ = _; simp [go_sem]
  have xf : ∀ o, W1.frozen? ⟨w.heap.size, o, none⟩ = false := fun o => by rw [hW1]; show (w.alloc _).frozen? _ = _; simp [go_sem]
  have xb : W1.heap[w.heap.size]? = some (.cells #[.int .i64 k, .string s, .slice none 0 0] 174 (0, 0)) := by rw [hW1]; exact heap_alloc_new w _
  have HXB := hide xb
  clear xb
  have u0 := keep_cell HB1.out t0
  have u1 := keep_cell HB1.out t1
  have u2 := keep_cell HB1.out t2
  have u3 := keep_cell HB1.out t3
  go_enter Tryz.func183, Tryz.ntmps183
  go_wp2_with fail
  go_region
  rw [← hW1]
  clear hW1 t0 t1 t2 t3
  go_wp2_with (first
    | (go_at_call_of 118 (some (Addr.mk pa 0 none)); refine (none_some _ _).mono ?_; rintro e w' ⟨rfl, hw⟩; have hw := hw.symm; subst hw)
    | fail)
  refine (IH.out pa W1 g cap ns base Q (HTA.out.keep (HB1.out.mono hb)) (HN.out.keep HB1.out) (fun b h => HQ.out b (by omega)) (by omega) (by have := HL.out; simp only [Tr.cnt] at this; omega)).mono ?_
  rintro e w2 ⟨g2, cap2, rfl, hn2, hg2, hg2'⟩
  obtain ⟨L, hL⟩ : ∃ L, L = ns.length + a.cnt := ⟨_, rfl⟩
  have HLL : Hid ((ns ++ a.flat ns.length).length = L) := by show _ = _; rw [List.length_append, Tr.flat_len, hL]
  have hLp : 1 ≤ L := by have := Tr.cnt_pos a; omega
  have hLm : L ≤ 1000 := by have := HL.out; simp only [Tr.cnt] at this; omega
  have HLE := hide hL
  rw [HLL.out]
  have x0 := (hg2.cell_far ⟨w.heap.size, 0, none⟩ (by show w.heap.size < _; omega) (by simp; omega)).trans x0
  have x1 := (hg2.cell_far ⟨w.heap.size, 1, none⟩ (by show w.heap.size < _; omega) (by simp; omega)).trans x1
  have x2 := (hg2.cell_far ⟨w.heap.size, 2, none⟩ (by show w.heap.size < _; omega) (by simp; omega)).trans x2
  have xf : ∀ o, w2.frozen? ⟨w.heap.size, o, none⟩ = false := fun o => (hg2.frozen_far ⟨w.heap.size, o, none⟩ (by show w.heap.size < _; omega) (by simp; omega)).trans (xf o)
  have u3 := (hg2.cell_far ⟨p, 3, none⟩ (by show p < _; omega) (by simp; omega)).trans u3
  have HXB2 := hide ((hg2.block w.heap.size (by omega) (by simp; omega)).trans HXB.out)
  have hsz2 := hg2.size
  have hg2l := hn2.lt
  have HG2 := hide (((grown_of HB1.out).but (some g)).trans hg2)
  have HN2 := hide hn2
  have hwL : IntKind.i64.wrap ((L : Int) - 1) = (L : Int) - 1 := by rw [IntKind.wrap_i64]; omega
  have hg2n : ¬ g2 = w.heap.size := by omega
  clear hn2 hg2 hL u0 u1 u2
  go_wp2_with (first
    | (at_builtin
       refine wpList_append_lies _ rfl _ _ 65 rfl base 3 i3 (.int .i64 0) 1 8 Tryz.underlying65 hi3 hz3 hs3 hb3 rfl (by omega) (.slice none 0 0) 0 [] rfl (World.ownsRow_nil _ _ _ _) ⟨w2.heap.size, 0, none⟩ 1 1 [.int .i64 ((L : Int) - 1)] rfl rfl (cell_one_new _ _ _) (by intro u hu; simp at hu; subst hu; rfl) (by omega) (by unfold maxLen; omega) (by omega) (by simp; omega) (w2.heap.size + 1) (by simp) ?_
       intro g3 cap3 w3 hown3 hgrow3 hat3 hlt3
       have hb3' : Below w2.heap.size w2 w3 := (bel_alloc (Below.refl _ _) _).grown hgrow3 (by simp) (fun q hq => by simp [Value.ownBlock] at hq)
       have x0 := keep_cell hb3' x0
       have x1 := keep_cell hb3' x1
       have x2 := keep_cell hb3' x2
       have xf : ∀ o, w3.frozen? ⟨w.heap.size, o, none⟩ = false := fun o => (hb3'.frozen (p := ⟨w.heap.size, o, none⟩) (by show w.heap.size < _; omega)).trans (xf o)
       have u3 := keep_cell hb3' u3
       have hg3 : g3 = w2.heap.size + 1 := by rcases hat3 with h | h; simp [Value.ownBlock] at h; exact h
       have HB3 := hide hb3'
       have HO3 := hide hown3
       have HG3 := hide hg3
       have hsz3 := hb3'.size
       clear hown3 hgrow3 hat3 hb3' hg3)
    | fail)
  obtain ⟨W4, hW4⟩ : ∃ W4, W4 = w3.setCell ⟨w.heap.size, 2, none⟩ (.slice (some ⟨g3, 0, none⟩) 1 cap3) := ⟨_, rfl⟩
  rw [← hW4]
  have hbs0 : w.heap.size < w2.heap.size := by omega
  have HXB3 := hide ((HB3.out.block w.heap.size hbs0).trans HXB2.out)
  have y0 : W4.cell? ⟨w.heap.size, 0, none⟩ = some (.int .i64 k) := by rw [hW4]; simp [go_sem, x0]
  have y1 : W4.cell? ⟨w.heap.size, 1, none⟩ = some (.string s) := by rw [hW4]; simp [go_sem, x1]
  have y2 : W4.cell? ⟨w.heap.size, 2, none⟩ = some (.slice (some ⟨g3, 0, none⟩) 1 cap3) := by rw [hW4]; simp [go_sem, x2]
  have v3 : W4.cell? ⟨p, 3, none⟩ = some (.pointer none) := by rw [hW4, cell_set (by show p ≠ w.heap.size; omega)]; exact u3
  have hs4 : w3.heap.size ≤ W4.heap.size := by rw [hW4, size_set]; exact Nat.le_refl _
  obtain ⟨xs2, ho2, hx2, hap2⟩ := HN2.out
  have HAP := hide hap2
  have HOFF := hide (show Off xs2 (ns ++ a.flat ns.length).length (.slice (some ⟨g3, 0, none⟩) 1 cap3) from fun i hi kv' b h1 h2 h3 => by
    obtain ⟨q1, q2, kv, q3, q4, q5⟩ := hx2 i hi
    rw [q3] at h1
    obtain rfl := Option.some.inj h1
    have hlt := (World.ownsRow.lt q4 b h2).2
    have hgv := HG3.out
    simp [Value.ownBlock] at h3
    omega)
  clear hap2
  have HO4 := hide (show W4.ownsRow base 174 3 (.slice (some ⟨g2, 0, none⟩) (ns ++ a.flat ns.length).length cap2) (ns ++ a.flat ns.length).length xs2 by rw [hW4]; exact own_set (row_keep HB3.out ho2) (by show g2 ≠ w.heap.size; omega) _)
  have HX4 := hide (show ∀ i (h : i < (ns ++ a.flat ns.length).length), xs2[i * 3]? = some (.int .i64 (ns ++ a.flat ns.length)[i].k) ∧ xs2[i * 3 + 1]? = some (.string (ns ++ a.flat ns.length)[i].s) ∧ ∃ kv, xs2[i * 3 + 2]? = some kv ∧ KidRow base W4 kv (ns ++ a.flat ns.length)[i].kids ∧ ∀ b, kv.ownBlock = some b → Q b from fun i hi => by
    obtain ⟨q1, q2, kv, q3, q4, q5⟩ := hx2 i hi
    exact ⟨q1, q2, kv, q3, by rw [hW4]; exact (q4.keep HB3.out).set ⟨_, 174, by decide, HXB3.out⟩ _, q5⟩)
  have HK4 := hide (show KidRow base W4 (.slice (some ⟨g3, 0, none⟩) 1 cap3) [(L : Int) - 1] by rw [hW4]; exact own_set HO3.out (by show g3 ≠ w.heap.size; have := HG3.out; omega) _)
  have HG4 := hide (show w2.grownBy W4 (some w.heap.size) by rw [hW4]; exact ((grown_of HB3.out).but _).trans (grown_setN w3 _ _))
  have HOL := hide (show W4.ownsRow base 174 3 (.slice (some ⟨g2, 0, none⟩) L cap2) L xs2 by have := HO4.out; rwa [HLL.out] at this)
  clear hW4 x0 x1 x2 xf u3 ho2 hx2 HO3 HN2 HXB HXB2 HXB3
  go_wp2_with (first
    | (go_at_call 118; refine (none_none _).mono ?_; rintro e w' ⟨rfl, hw⟩; have hw := hw.symm; subst hw)
    | (at_builtin
       refine wpList_append_lies _ rfl _ _ 109 rfl base 174 i87 (.agg #[.int .i64 0, .string ⟨#[]⟩, .slice none 0 0]) 3 48 Tryz.underlying109 hi87 hz87 hs87 hb87 rfl (by omega) (.slice (some ⟨g2, 0, none⟩) L cap2) L xs2 rfl (HOL.out.alloc _) ⟨W4.heap.size, 0, none⟩ 1 1 [.int .i64 k, .string s, .slice (some ⟨g3, 0, none⟩) 1 cap3] rfl rfl (World.news_of_block (cs := #[.int .i64 k, .string s, .slice (some ⟨g3, 0, none⟩) 1 cap3]) (t := 174) (fr := (0, 0)) (heap_alloc_new W4 _)) (by intro u hu; simp at hu; rcases hu with rfl | rfl | rfl <;> rfl) (by omega) (by unfold maxLen; omega) (by omega) (by simp; omega) (W4.heap.size + 1) (by simp) ?_
       intro g5 cap5 w5 hown5 hgrow5 hat5 hlt5)
    | fail)
  have hend := nodes_end (nd := ⟨k, s, [(L : Int) - 1]⟩) (bel_alloc (Below.refl W4.heap.size W4) (.cells #[.int .i64 k, .string s, .slice (some ⟨g3, 0, none⟩) 1 cap3] 174)) HO4.out HX4.out (HK4.out.keep (bel_alloc (Below.refl _ _) _)) (fun b hb => by simp [Value.ownBlock] at hb; exact HQ.out b (by have := HG3.out; omega)) hgrow5 (by rw [HLL.out]; exact hown5) HAP.out HOFF.out
  have HE := hide hend
  have HGW := hide ((HG2.out.andThen HG4.out (fun q hq => by simp at hq; exact .inl (by omega))).andThen hend.2 (fun q hq => by simp at hq; subst hq; rcases hg2' with h | h; exact .inr (by rw [h]); exact .inl (by omega)))
  have HAT : Hid (g5 = g ∨ w.heap.size ≤ g5) := by
    rcases hat5 with h | h
    · simp [Value.ownBlock] at h
      rcases hg2' with h2 | h2
      · exact .inl (by omega)
      · exact .inr (by omega)
    · exact .inr (by omega)
  have HFL : Hid (ns ++ (Tr.one k s a).flat ns.length = ns ++ a.flat ns.length ++ [⟨k, s, [(L : Int) - 1]⟩]) := by
    show _ = _
    have := HLE.out
    simp only [Tr.flat, ← List.append_assoc]
    rw [show ((ns.length + a.cnt - 1 : Nat) : Int) = (L : Int) - 1 from by omega]
  have HLN : Hid ((ns ++ (Tr.one k s a).flat ns.length).length = L + 1) := by show _ = _; rw [HFL.out, List.length_append, HLL.out]; rfl
  clear hend hown5 hgrow5 hat5 hlt5
  go_wp2_with fail
  go_ret
  exact ⟨g5, cap5, by rw [HLN.out]; rfl, by rw [HFL.out]; exact HE.out.1, HGW.out, HAT.out⟩
set_option maxRecDepth 20000 in
set_option maxHeartbeats 2000000 in
theorem nodes_two (k : Int) (s : ByteArray) (a b : Tr) (IH : Hid (NodesIH a)) (IHB : Hid (NodesIH b)) : NodesIH (.two k s a b) := by
  intro p w g cap ns base Q ht hn hq hb hl
  have HQ := hide hq
  clear hq
  obtain ⟨i87, hi87, hz87, hs87, hb87⟩ := info_parts Tryz.info174
  obtain ⟨i3, hi3, hz3, hs3, hb3⟩ := info_parts Tryz.info3
  have HTT := hide ht
  obtain ⟨hp, pa, pb, hblk, hta, htb⟩ := ht
  have t0 : w.cell? ⟨p, 0, none⟩ = some (.int .i64 k) := by rw [cell_of_row w p 0 _ _ _ hblk]; rfl
  have t1 : w.cell? ⟨p, 1, none⟩ = some (.string s) := by rw [cell_of_row w p 1 _ _ _ hblk]; rfl
  have t2 : w.cell? ⟨p, 2, none⟩ = some (.pointer (some ⟨pa, 0, none⟩)) := by rw [cell_of_row w p 2 _ _ _ hblk]; rfl
  have t3 : w.cell? ⟨p, 3, none⟩ = some (.pointer (some ⟨pb, 0, none⟩)) := by rw [cell_of_row w p 3 _ _ _ hblk]; rfl
  have hpl := lt_cell t0
  have hgl := hn.lt
  have HN := hide hn
  have HTA := hide hta
  have HTB := hide htb
  have hcn : ns.length ≤ 1000 := by omega
  have HL := hide hl
  clear hblk hta htb hn hl
  obtain ⟨W1, hW1⟩ : ∃ W1, W1 = (w.alloc (.cells #[.int .i64 k, .string s, .slice none 0 0] 174)).drew := ⟨_, rfl⟩
  have HB1 := hide (show Below w.heap.size w W1 by rw [hW1]; exact (bel_alloc (Below.refl w.heap.size w) _).drew)
  have hs1 : W1.heap.size = w.heap.size + 1 := by rw [hW1]; show (w.alloc _).heap.size = _; simp
  have x0 : W1.cell? ⟨w.heap.size, 0, none⟩ = some (.int .i64 k) := by rw [hW1]; show (w.alloc _).cell? _ = _; simp [go_sem]
  have x1 : W1.cell? ⟨w.heap.size, 1, none⟩ = some (.string s) := by rw [hW1]; show (w.alloc _).cell? _ = _; simp [go_sem]
  have x2 : W1.cell? ⟨w.heap.size, 2, none⟩ = some (.slice none 0 0) := by rw [hW1]; show (w.alloc _).cell? _ = _; simp [go_sem]
  have xf : ∀ o, W1.frozen? ⟨w.heap.size, o, none⟩ = false := fun o => by rw [hW1]; show (w.alloc _).frozen? _ = _; simp [go_sem]
  have xb : W1.heap[w.heap.size]? = some (.cells #[.int .i64 k, .string s, .slice none 0 0] 174 (0, 0)) := by rw [hW1]; exact heap_alloc_new w _
  have HXB := hide xb
  clear xb
  have u0 := keep_cell HB1.out t0
  have u1 := keep_cell HB1.out t1
  have u2 := keep_cell HB1.out t2
  have u3 := keep_cell HB1.out t3
  go_enter Tryz.func183, Tryz.ntmps183
  go_wp2_with fail
  go_region
  rw [← hW1]
  clear hW1 t0 t1 t2 t3
  go_wp2_with (first
    | (go_at_call_of 118 (some (Addr.mk pa 0 none)); refine (none_some _ _).mono ?_; rintro e w' ⟨rfl, hw⟩; have hw := hw.symm; subst hw)
    | fail)
  refine (IH.out pa W1 g cap ns base Q (HTA.out.keep (HB1.out.mono hb)) (HN.out.keep HB1.out) (fun b h => HQ.out b (by omega)) (by omega) (by have := HL.out; simp only [Tr.cnt] at this; omega)).mono ?_
  rintro e w2 ⟨g2, cap2, rfl, hn2, hg2, hg2'⟩
  obtain ⟨L, hL⟩ : ∃ L, L = ns.length + a.cnt := ⟨_, rfl⟩
  have HLL : Hid ((ns ++ a.flat ns.length).length = L) := by show _ = _; rw [List.length_append, Tr.flat_len, hL]
  have hLp : 1 ≤ L := by have := Tr.cnt_pos a; omega
  have hLm : L ≤ 1000 := by have := HL.out; simp only [Tr.cnt] at this; omega
  have HLE := hide hL
  rw [HLL.out]
  have x0 := (hg2.cell_far ⟨w.heap.size, 0, none⟩ (by show w.heap.size < _; omega) (by simp; omega)).trans x0
  have x1 := (hg2.cell_far ⟨w.heap.size, 1, none⟩ (by show w.heap.size < _; omega) (by simp; omega)).trans x1
  have x2 := (hg2.cell_far ⟨w.heap.size, 2, none⟩ (by show w.heap.size < _; omega) (by simp; omega)).trans x2
  have xf : ∀ o, w2.frozen? ⟨w.heap.size, o, none⟩ = false := fun o => (hg2.frozen_far ⟨w.heap.size, o, none⟩ (by show w.heap.size < _; omega) (by simp; omega)).trans (xf o)
  have u3 := (hg2.cell_far ⟨p, 3, none⟩ (by show p < _; omega) (by simp; omega)).trans u3
  have HXB2 := hide ((hg2.block w.heap.size (by omega) (by simp; omega)).trans HXB.out)
  have hsz2 := hg2.size
  have hg2l := hn2.lt
  have HG2 := hide (((grown_of HB1.out).but (some g)).trans hg2)
  have HN2 := hide hn2
  have hwL : IntKind.i64.wrap ((L : Int) - 1) = (L : Int) - 1 := by rw [IntKind.wrap_i64]; omega
  have hg2n : ¬ g2 = w.heap.size := by omega
  clear hn2 hg2 hL u0 u1 u2
  go_wp2_with (first
    | (at_builtin
       refine wpList_append_lies _ rfl _ _ 65 rfl base 3 i3 (.int .i64 0) 1 8 Tryz.underlying65 hi3 hz3 hs3 hb3 rfl (by omega) (.slice none 0 0) 0 [] rfl (World.ownsRow_nil _ _ _ _) ⟨w2.heap.size, 0, none⟩ 1 1 [.int .i64 ((L : Int) - 1)] rfl rfl (cell_one_new _ _ _) (by intro u hu; simp at hu; subst hu; rfl) (by omega) (by unfold maxLen; omega) (by omega) (by simp; omega) (w2.heap.size + 1) (by simp) ?_
       intro g3 cap3 w3 hown3 hgrow3 hat3 hlt3
       have hb3' : Below w2.heap.size w2 w3 := (bel_alloc (Below.refl _ _) _).grown hgrow3 (by simp) (fun q hq => by simp [Value.ownBlock] at hq)
       have x0 := keep_cell hb3' x0
       have x1 := keep_cell hb3' x1
       have x2 := keep_cell hb3' x2
       have xf : ∀ o, w3.frozen? ⟨w.heap.size, o, none⟩ = false := fun o => (hb3'.frozen (p := ⟨w.heap.size, o, none⟩) (by show w.heap.size < _; omega)).trans (xf o)
       have u3 := keep_cell hb3' u3
       have hg3 : g3 = w2.heap.size + 1 := by rcases hat3 with h | h; simp [Value.ownBlock] at h; exact h
       have HB3 := hide hb3'
       have HO3 := hide hown3
       have HG3 := hide hg3
       have hsz3 := hb3'.size
       clear hown3 hgrow3 hat3 hb3' hg3)
    | fail)
  obtain ⟨W4, hW4⟩ : ∃ W4, W4 = w3.setCell ⟨w.heap.size, 2, none⟩ (.slice (some ⟨g3, 0, none⟩) 1 cap3) := ⟨_, rfl⟩
  rw [← hW4]
  have hbs0 : w.heap.size < w2.heap.size := by omega
  have HXB3 := hide ((HB3.out.block w.heap.size hbs0).trans HXB2.out)
  have y0 : W4.cell? ⟨w.heap.size, 0, none⟩ = some (.int .i64 k) := by rw [hW4]; simp [go_sem, x0]
  have y1 : W4.cell? ⟨w.heap.size, 1, none⟩ = some (.string s) := by rw [hW4]; simp [go_sem, x1]
  have y2 : W4.cell? ⟨w.heap.size, 2, none⟩ = some (.slice (some ⟨g3, 0, none⟩) 1 cap3) := by rw [hW4]; simp [go_sem, x2]
  have v3 : W4.cell? ⟨p, 3, none⟩ = some (.pointer (some ⟨pb, 0, none⟩)) := by rw [hW4, cell_set (by show p ≠ w.heap.size; omega)]; exact u3
  have hs4 : w3.heap.size ≤ W4.heap.size := by rw [hW4, size_set]; exact Nat.le_refl _
  obtain ⟨xs2, ho2, hx2, hap2⟩ := HN2.out
  have HAP := hide hap2
  have HOFF := hide (show Off xs2 (ns ++ a.flat ns.length).length (.slice (some ⟨g3, 0, none⟩) 1 cap3) from fun i hi kv' b h1 h2 h3 => by
    obtain ⟨q1, q2, kv, q3, q4, q5⟩ := hx2 i hi
    rw [q3] at h1
    obtain rfl := Option.some.inj h1
    have hlt := (World.ownsRow.lt q4 b h2).2
    have hgv := HG3.out
    simp [Value.ownBlock] at h3
    omega)
  clear hap2
  have HO4 := hide (show W4.ownsRow base 174 3 (.slice (some ⟨g2, 0, none⟩) (ns ++ a.flat ns.length).length cap2) (ns ++ a.flat ns.length).length xs2 by rw [hW4]; exact own_set (row_keep HB3.out ho2) (by show g2 ≠ w.heap.size; omega) _)
  have HX4 := hide (show ∀ i (h : i < (ns ++ a.flat ns.length).length), xs2[i * 3]? = some (.int .i64 (ns ++ a.flat ns.length)[i].k) ∧ xs2[i * 3 + 1]? = some (.string (ns ++ a.flat ns.length)[i].s) ∧ ∃ kv, xs2[i * 3 + 2]? = some kv ∧ KidRow base W4 kv (ns ++ a.flat ns.length)[i].kids ∧ ∀ b, kv.ownBlock = some b → Q b ∧ b ≠ g3 from fun i hi => by
    obtain ⟨q1, q2, kv, q3, q4, q5⟩ := hx2 i hi
    exact ⟨q1, q2, kv, q3, by rw [hW4]; exact (q4.keep HB3.out).set ⟨_, 174, by decide, HXB3.out⟩ _, fun b hb => ⟨q5 b hb, by have := (World.ownsRow.lt q4 b hb).2; have := HG3.out; omega⟩⟩)
  have HK4 := hide (show KidRow base W4 (.slice (some ⟨g3, 0, none⟩) 1 cap3) [(L : Int) - 1] by rw [hW4]; exact own_set HO3.out (by show g3 ≠ w.heap.size; have := HG3.out; omega) _)
  have HG4 := hide (show w2.grownBy W4 (some w.heap.size) by rw [hW4]; exact ((grown_of HB3.out).but _).trans (grown_setN w3 _ _))
  have HBW := hide (show Below base w W4 by
    rw [hW4]
    exact ((below_of HG2.out hgl.1 hb).trans (HB3.out.mono (by omega))).setCell (p := ⟨_, _, _⟩) hb _)
  have HTB4 := hide (HTB.out.keep HBW.out)
  have zf : ∀ o, W4.frozen? ⟨w.heap.size, o, none⟩ = false := fun o => by rw [hW4]; simp [go_sem, xf]
  have HXB4 := hide (show ∃ cs, W4.heap[w.heap.size]? = some (.cells cs 174 (0, 0)) by
    rw [hW4]
    have hrow : w3.ownsRow 0 174 3 (.slice (some ⟨w.heap.size, 0, none⟩) 1 1) 1 [.int .i64 k, .string s, .slice none 0 0] := ⟨rfl, .inr ⟨w.heap.size, 1, _, rfl, Nat.zero_le _, HXB3.out, Nat.le_refl _, by unfold maxLen; omega, rfl, rfl⟩⟩
    exact row_tag (hrow.stored 2 _).1)
  have HOL := hide (show W4.ownsRow base 174 3 (.slice (some ⟨g2, 0, none⟩) L cap2) L xs2 by have := HO4.out; rwa [HLL.out] at this)
  clear hW4 x0 x1 x2 xf u3 ho2 hx2 HO3 HN2 HXB HXB2 HXB3
  go_wp2_with (first
    | (go_at_call_of 118 (some (Addr.mk pb 0 none)); refine (none_some _ _).mono ?_; rintro e w' ⟨rfl, hw⟩; have hw := hw.symm; subst hw)
    | fail)
  have hcall := IHB.out pb W4 g2 cap2 (ns ++ a.flat ns.length) base (fun b => Q b ∧ b ≠ g3) HTB4.out ⟨xs2, HO4.out, HX4.out, HAP.out⟩ (fun b h => ⟨HQ.out b (by omega), by have := HG3.out; omega⟩) (by omega) (by rw [HLL.out]; have h8 := HLE.out; have h9 := HL.out; simp only [Tr.cnt] at h9; omega)
  rw [HLL.out] at hcall
  refine hcall.mono ?_
  clear hcall
  rintro e w6 ⟨g6, cap6, rfl, hn6, hg6, hg6'⟩
  obtain ⟨M, hM⟩ : ∃ M, M = L + b.cnt := ⟨_, rfl⟩
  have HMM : Hid ((ns ++ a.flat ns.length ++ b.flat L).length = M) := by show _ = _; rw [List.length_append, HLL.out, Tr.flat_len, hM]
  have hMp : 1 ≤ M := by omega
  have hMm : M ≤ 1000 := by have h8 := HLE.out; have h9 := HL.out; simp only [Tr.cnt] at h9; omega
  have HME := hide hM
  rw [HMM.out]
  have hg3 := HG3.out
  have hg3n : ¬ g3 = w.heap.size := by omega
  have HG3b : Hid (g3 < W4.heap.size) := by show _ < _; have := (World.ownsRow.lt HK4.out g3 rfl).2; exact this
  have hB4 : w.heap.size < W4.heap.size := by omega
  have x0 := (hg6.cell_far ⟨w.heap.size, 0, none⟩ (by exact hB4) (by simp; omega)).trans y0
  have x1 := (hg6.cell_far ⟨w.heap.size, 1, none⟩ (by exact hB4) (by simp; omega)).trans y1
  have x2 := (hg6.cell_far ⟨w.heap.size, 2, none⟩ (by exact hB4) (by simp; omega)).trans y2
  have xf : ∀ o, w6.frozen? ⟨w.heap.size, o, none⟩ = false := fun o => (hg6.frozen_far ⟨w.heap.size, o, none⟩ (by exact hB4) (by simp; omega)).trans (zf o)
  have HK6 := hide (show w6.ownsRow base 3 1 (.slice (some ⟨g3, 0, none⟩) 1 cap3) 1 [.int .i64 ((L : Int) - 1)] from HK4.out.grown HOL.out (by decide) hg6)
  have HXB6 := hide (show ∃ cs, w6.heap[w.heap.size]? = some (.cells cs 174 (0, 0)) by obtain ⟨cs, hc⟩ := HXB4.out; exact ⟨cs, (hg6.block w.heap.size hB4 (by simp; omega)).trans hc⟩)
  have hsz6 := hg6.size
  have hg6l : base ≤ g6 ∧ g6 < w6.heap.size := hn6.lt
  have HG6 := hide ((HG2.out.andThen HG4.out (fun q hq => by simp at hq; exact .inl (by omega))).andThen hg6 (fun q hq => by simp at hq; subst hq; rcases hg2' with h | h; exact .inr (by rw [h]); exact .inl (by omega)))
  obtain ⟨xs6, ho6, hx6, hap6⟩ := hn6
  have HAP6 := hide hap6
  clear hap6
  have HO6 := hide ho6
  have HX6 := hide hx6
  have HO6L := hide (show w6.ownsRow base 174 3 (.slice (some ⟨g6, 0, none⟩) M cap6) M xs6 by rwa [HMM.out] at ho6)
  have hwM : IntKind.i64.wrap ((M : Int) - 1) = (M : Int) - 1 := by rw [IntKind.wrap_i64]; omega
  have hg6n : ¬ g6 = w.heap.size := by omega
  clear ho6 hx6 hg6 hM y0 y1 y2 zf v3 HK4 HXB4 hg3 HO4 HX4 HOL hwL
  go_wp2_with (first
    | (at_builtin
       refine wpList_append_lies _ rfl _ _ 65 rfl base 3 i3 (.int .i64 0) 1 8 Tryz.underlying65 hi3 hz3 hs3 hb3 rfl (by omega) (.slice (some ⟨g3, 0, none⟩) 1 cap3) 1 [.int .i64 ((L : Int) - 1)] rfl (HK6.out.alloc _) ⟨w6.heap.size, 0, none⟩ 1 1 [.int .i64 ((M : Int) - 1)] rfl rfl (cell_one_new _ _ _) (by intro u hu; simp at hu; subst hu; rfl) (by omega) (by unfold maxLen; omega) (by omega) (by simp; omega) (w6.heap.size + 1) (by simp) ?_
       intro g7 cap7 w7 hown7 hgrow7 hat7 hlt7
       have x0 := (hgrow7.cell_far ⟨w.heap.size, 0, none⟩ (by show w.heap.size < _; simp; omega) (by simp [Value.ownBlock]; omega)).trans (keep_cell (bel_alloc (Below.refl _ _) _) x0)
       have x1 := (hgrow7.cell_far ⟨w.heap.size, 1, none⟩ (by show w.heap.size < _; simp; omega) (by simp [Value.ownBlock]; omega)).trans (keep_cell (bel_alloc (Below.refl _ _) _) x1)
       have x2 := (hgrow7.cell_far ⟨w.heap.size, 2, none⟩ (by show w.heap.size < _; simp; omega) (by simp [Value.ownBlock]; omega)).trans (keep_cell (bel_alloc (Below.refl _ _) _) x2)
       have xf : ∀ o, w7.frozen? ⟨w.heap.size, o, none⟩ = false := fun o => (hgrow7.frozen_far ⟨w.heap.size, o, none⟩ (by show w.heap.size < _; simp; omega) (by simp [Value.ownBlock]; omega)).trans (((bel_alloc (Below.refl w6.heap.size w6) _).frozen (p := ⟨w.heap.size, o, none⟩) (by show w.heap.size < _; omega)).trans (xf o))
       have hg63 : g6 ≠ g3 := rows_ne (HO6L.out.alloc (.cells #[.int .i64 ((M : Int) - 1)] 3)) (HK6.out.alloc (.cells #[.int .i64 ((M : Int) - 1)] 3)) (by decide)
       have HO8 := hide (own_set ((HO6L.out.alloc (.cells #[.int .i64 ((M : Int) - 1)] 3)).kept hgrow7 (.inr (by simp [Value.ownBlock]; exact hg63))) (p := ⟨w.heap.size, 2, none⟩) (by show g6 ≠ w.heap.size; omega) (.slice (some ⟨g7, 0, none⟩) 2 cap7))
       have HGR7 := hide hgrow7
       have HO7 := hide hown7
       have HAT7 := hide hat7
       have hsz7 : w6.heap.size + 1 ≤ w7.heap.size := by have := hgrow7.size; simpa using this
       clear hown7 hgrow7 hat7 hg63)
    | (at_builtin
       refine wpList_append_lies _ rfl _ _ 109 rfl base 174 i87 (.agg #[.int .i64 0, .string ⟨#[]⟩, .slice none 0 0]) 3 48 Tryz.underlying109 hi87 hz87 hs87 hb87 rfl (by omega) (.slice (some ⟨g6, 0, none⟩) M cap6) M xs6 rfl (HO8.out.alloc _) ⟨w7.heap.size, 0, none⟩ 1 1 [.int .i64 k, .string s, .slice (some ⟨g7, 0, none⟩) 2 cap7] rfl rfl (fun q u hu => by
         have h1 := World.news_of_block (cs := #[.int .i64 k, .string s, .slice (some ⟨g7, 0, none⟩) 2 cap7]) (t := 174) (fr := (0, 0)) (heap_alloc_new (w7.setCell ⟨w.heap.size, 2, none⟩ (.slice (some ⟨g7, 0, none⟩) 2 cap7)) _) q u hu
         rw [size_set] at h1; exact h1) (by intro u hu; simp at hu; rcases hu with rfl | rfl | rfl <;> rfl) (by omega) (by unfold maxLen; omega) (by omega) (by rw [World.size_alloc, size_set]; omega) (w7.heap.size + 1) (by rw [World.size_alloc, size_set]) ?_
       intro g9 cap9 w9 hown9 hgrow9 hat9 hlt9)
    | fail)
  have hg3v := HG3.out
  have hg7 : g7 = g3 ∨ g7 = w6.heap.size + 1 := by
    rcases HAT7.out with h | h
    · simp [Value.ownBlock] at h; exact .inl h.symm
    · exact .inr h
  have hg7n : g7 ≠ w.heap.size := by omega
  have hba : Below w6.heap.size w6 (w6.alloc (.cells #[.int .i64 ((M : Int) - 1)] 3)) := bel_alloc (Below.refl _ _) _
  have htag7 : ∃ cs e, e ≠ 3 ∧ w7.heap[w.heap.size]? = some (.cells cs e (0, 0)) := by
    obtain ⟨cs, hc⟩ := HXB6.out
    exact ⟨cs, 174, by decide, (HGR7.out.block w.heap.size (by simp; omega) (by simp [Value.ownBlock]; omega)).trans ((hba.block w.heap.size (by omega)).trans hc)⟩
  have hx8 : ∀ i (h : i < (ns ++ a.flat ns.length ++ b.flat L).length), xs6[i * 3]? = some (.int .i64 (ns ++ a.flat ns.length ++ b.flat L)[i].k) ∧ xs6[i * 3 + 1]? = some (.string (ns ++ a.flat ns.length ++ b.flat L)[i].s) ∧ ∃ kv, xs6[i * 3 + 2]? = some kv ∧ KidRow base (w7.setCell ⟨w.heap.size, 2, none⟩ (.slice (some ⟨g7, 0, none⟩) 2 cap7)) kv (ns ++ a.flat ns.length ++ b.flat L)[i].kids ∧ ∀ b, kv.ownBlock = some b → Q b := fun i hi => by
    obtain ⟨q1, q2, kv, q3, q4, q5⟩ := HX6.out i hi
    refine ⟨q1, q2, kv, q3, KidRow.set (World.ownsRow.kept (q4.keep hba) HGR7.out ?_) htag7 _, fun b hb => (q5 b hb).1⟩
    cases hob : kv.ownBlock with
    | none => exact .inl rfl
    | some b => exact .inr (by simp [Value.ownBlock]; exact (q5 b hob).2)
  have hk8 : KidRow base (w7.setCell ⟨w.heap.size, 2, none⟩ (.slice (some ⟨g7, 0, none⟩) 2 cap7)) (.slice (some ⟨g7, 0, none⟩) 2 cap7) [(L : Int) - 1, (M : Int) - 1] := own_set HO7.out (by show g7 ≠ w.heap.size; exact hg7n) _
  have hoff8 : Off xs6 (ns ++ a.flat ns.length ++ b.flat L).length (.slice (some ⟨g7, 0, none⟩) 2 cap7) := fun i hi kv' b h1 h2 h3 => by
    obtain ⟨q1, q2, kv, q3, q4, q5⟩ := HX6.out i hi
    rw [q3] at h1
    obtain rfl := Option.some.inj h1
    have hlt := (World.ownsRow.lt q4 b h2).2
    have hne := (q5 b h2).2
    simp [Value.ownBlock] at h3
    rcases hg7 with h | h <;> omega
  have hend := nodes_end (Q := Q) (nd := ⟨k, s, [(L : Int) - 1, (M : Int) - 1]⟩) (bel_alloc (Below.refl (w7.setCell ⟨w.heap.size, 2, none⟩ (.slice (some ⟨g7, 0, none⟩) 2 cap7)).heap.size (w7.setCell ⟨w.heap.size, 2, none⟩ (.slice (some ⟨g7, 0, none⟩) 2 cap7))) (.cells #[.int .i64 k, .string s, .slice (some ⟨g7, 0, none⟩) 2 cap7] 174)) (by rw [HMM.out]; exact HO8.out) hx8 (hk8.keep (bel_alloc (Below.refl _ _) _)) (fun b hb => by simp [Value.ownBlock] at hb; subst hb; exact HQ.out _ (by omega)) hgrow9 (by rw [HMM.out]; exact hown9) HAP6.out hoff8
  have HE := hide hend
  have HG7 := hide (HG6.out.andThen (((grown_of hba).but _).trans HGR7.out) (fun q hq => by simp [Value.ownBlock] at hq; exact .inl (by omega)))
  have HG8 := hide (HG7.out.andThen (grown_setN w7 ⟨w.heap.size, 2, none⟩ (.slice (some ⟨g7, 0, none⟩) 2 cap7)) (fun q hq => by simp at hq; exact .inl (by omega)))
  have hg6c : g6 = g ∨ w.heap.size ≤ g6 := by
    rcases hg6' with h | h
    · rcases hg2' with h2 | h2
      · exact .inl (by omega)
      · exact .inr (by omega)
    · exact .inr (by omega)
  have HGW := hide (HG8.out.andThen hend.2 (fun q hq => by simp at hq; subst hq; rcases hg6c with h | h; exact .inr (by rw [h]); exact .inl h))
  have HAT : Hid (g9 = g ∨ w.heap.size ≤ g9) := by
    rcases hat9 with h | h
    · simp [Value.ownBlock] at h; rw [← h]; exact hg6c
    · exact .inr (by omega)
  have HFL : Hid (ns ++ (Tr.two k s a b).flat ns.length = ns ++ a.flat ns.length ++ b.flat L ++ [⟨k, s, [(L : Int) - 1, (M : Int) - 1]⟩]) := by
    show _ = _
    have h1 := HLE.out
    have h2 := HME.out
    simp only [Tr.flat, ← List.append_assoc]
    rw [show ((ns.length + a.cnt - 1 : Nat) : Int) = (L : Int) - 1 from by omega, show ((ns.length + a.cnt + b.cnt - 1 : Nat) : Int) = (M : Int) - 1 from by omega, ← h1]
  have HLN : Hid ((ns ++ (Tr.two k s a b).flat ns.length).length = M + 1) := by show _ = _; rw [HFL.out, List.length_append, HMM.out]; rfl
  go_ret
  exact ⟨g9, cap9, by rw [HLN.out]; rfl, by rw [HFL.out]; exact HE.out.1, HGW.out, HAT.out⟩

theorem l1Nodes_any : ∀ t : Tr, NodesIH t
  | .leaf k s => nodes_leaf k s
  | .one k s a => nodes_one k s a (hide (l1Nodes_any a))
  | .two k s a b => nodes_two k s a b (hide (l1Nodes_any a)) (hide (l1Nodes_any b))
end Go.Proofs.YtjkkojefpecbfaaGreat
