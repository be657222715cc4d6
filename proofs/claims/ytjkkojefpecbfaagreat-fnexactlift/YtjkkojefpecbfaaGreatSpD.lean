/- What the specification's l3Nodes answers: the nodes of a tree behind others. -/
import Derived.Test.YtjkkojefpecbfaaGreatSpC
import Derived.Test.YtjkkojefpecbfaaGreatTeD
namespace Go.Proofs.YtjkkojefpecbfaaGreat
open Go.ChangeShapes Go.WideShapes Go.ChangeAt Go.RowKit

/-- What a node leads to stays in each world that keeps the blocks which Q lets by. -/
def TdQ (Q : Nat → Prop) (w : World) (lv kv : Value) (td : Td) : Prop := ∀ w' : World, (∀ b : Nat, Q b → b < w.heap.size → w'.heap[b]? = w.heap[b]?) → LevsAt w' lv td.lv ∧ IntsAt w' kv td.kids
theorem TdQ.to {Q R : Nat → Prop} {w w2 : World} {lv kv : Value} {td : Td} (h : TdQ Q w lv kv td) (hs : w.heap.size ≤ w2.heap.size) (hh : ∀ b : Nat, Q b → b < w.heap.size → R b ∧ w2.heap[b]? = w.heap[b]?) : TdQ R w2 lv kv td := fun w' hw' => h w' (fun b hb hl => by
  obtain ⟨h1, h2⟩ := hh b hb hl
  rw [hw' b h1 (by omega), h2])
/-- A row of nodes to be read. -/
def TmQ (Q : Nat → Prop) (base : Nat) (w : World) (v : Value) (ts : List Td) : Prop :=
  ∃ xs, w.ownsRow base 67 6 v ts.length xs ∧ ∀ i (h : i < ts.length), xs[i * 6]? = some (.int .i64 ts[i].k) ∧ xs[i * 6 + 1]? = some (.int .i64 ts[i].n) ∧ xs[i * 6 + 2]? = some (.int .i64 ts[i].m) ∧ xs[i * 6 + 3]? = some (.string ts[i].s) ∧ ∃ lv kv, xs[i * 6 + 4]? = some lv ∧ xs[i * 6 + 5]? = some kv ∧ TdQ Q w lv kv ts[i]
theorem TmQ.keep {Q R : Nat → Prop} {base : Nat} {w w2 : World} {v : Value} {ts : List Td} (h : TmQ Q base w v ts) (hs : w.heap.size ≤ w2.heap.size) (hg : ∀ g, v.ownBlock = some g → w2.heap[g]? = w.heap[g]?) (hh : ∀ b : Nat, Q b → b < w.heap.size → R b ∧ w2.heap[b]? = w.heap[b]?) : TmQ R base w2 v ts := by
  obtain ⟨xs, h1, h2⟩ := h
  refine ⟨xs, row_same h1 hg, fun i hi => ?_⟩
  obtain ⟨a, b, c, d, lv, kv, e, f, g⟩ := h2 i hi
  exact ⟨a, b, c, d, lv, kv, e, f, g.to hs hh⟩
theorem TmQ.snoc {Q R : Nat → Prop} {base : Nat} {W w4 : World} {v lv kv : Value} {g4 cap4 : Nat} {ts : List Td} {td : Td} {xs : List Value} (h1 : W.ownsRow base 67 6 v ts.length xs) (h2 : ∀ i (h : i < ts.length), xs[i * 6]? = some (.int .i64 ts[i].k) ∧ xs[i * 6 + 1]? = some (.int .i64 ts[i].n) ∧ xs[i * 6 + 2]? = some (.int .i64 ts[i].m) ∧ xs[i * 6 + 3]? = some (.string ts[i].s) ∧ ∃ lv kv, xs[i * 6 + 4]? = some lv ∧ xs[i * 6 + 5]? = some kv ∧ TdQ Q W lv kv ts[i]) (hs : W.heap.size ≤ w4.heap.size) (hh : ∀ b : Nat, Q b → b < W.heap.size → R b ∧ w4.heap[b]? = W.heap[b]?) (hu : TdQ R w4 lv kv td)
    (h5 : w4.ownsRow base 67 6 (.slice (some ⟨g4, 0, none⟩) (ts.length + 1) cap4) (ts.length + 1) (xs ++ [.int .i64 td.k, .int .i64 td.n, .int .i64 td.m, .string td.s, lv, kv])) : TmQ R base w4 (.slice (some ⟨g4, 0, none⟩) (ts.length + 1) cap4) (ts ++ [td]) := by
  have hl := h1.1
  refine ⟨_, by simpa using h5, fun i hi => ?_⟩
  by_cases e : i < ts.length
  · obtain ⟨a, b, c, d, lv', kv', e', f', g'⟩ := h2 i e
    rw [List.getElem_append_left e]
    refine ⟨?_, ?_, ?_, ?_, lv', kv', ?_, ?_, g'.to hs hh⟩ <;> rw [List.getElem?_append_left (by omega)] <;> assumption
  · have e2 : i = ts.length := by simp at hi; omega
    subst e2
    rw [List.getElem_append_right (Nat.le_refl _)]
    simp only [Nat.sub_self, List.getElem_cons_zero]
    have ha : ∀ o, (xs ++ [.int .i64 td.k, .int .i64 td.n, .int .i64 td.m, .string td.s, lv, kv])[ts.length * 6 + o]? = ([.int .i64 td.k, .int .i64 td.n, .int .i64 td.m, .string td.s, lv, kv] : List Value)[o]? := fun o => by
      rw [List.getElem?_append_right (by omega), hl, show ts.length * 6 + o - ts.length * 6 = o by omega]
    exact ⟨ha 0, ha 1, ha 2, ha 3, lv, kv, ha 4, ha 5, hu⟩
theorem NdRowA.toW {base : Nat} {Q : Nat → Prop} {w : World} {g cap : Nat} {ns : List Nd} (h : NdRowA base Q w g cap ns) : NdW base w (.slice (some ⟨g, 0, none⟩) ns.length cap) ns := by
  obtain ⟨xs, h1, h2, h3⟩ := h
  exact ⟨xs, h1, fun i hi => by obtain ⟨a, b, kv, c, d, _⟩ := h2 i hi; exact ⟨a, b, kv, c, d⟩, h3⟩
theorem set_cells6 {w : World} {b : Nat} {v0 v1 v2 v3 v4 v5 : Value} (h : w.heap[b]? = some (.cells #[v0, v1, v2, v3, v4, v5] 67 (0, 0))) (u : Value) : (w.setCell ⟨b, 4, none⟩ u).heap[b]? = some (.cells #[v0, v1, v2, v3, u, v5] 67 (0, 0)) ∧ (w.setCell ⟨b, 5, none⟩ u).heap[b]? = some (.cells #[v0, v1, v2, v3, v4, u] 67 (0, 0)) := by
  unfold World.setCell
  exact ⟨by simp [Array.getElem?_modify, h], by simp [Array.getElem?_modify, h]⟩
theorem flat_lenT (T : Tt) (j : Nat) (ts : List Td) : (ts ++ flatT (T.kids.take j) ts.length).length = ts.length + cntT (T.kids.take j) := by rw [List.length_append, flatT_len]
theorem roots_take_snoc (l : List Tt) (o j : Nat) (h : j < l.length) : (rootsT l o).take (j + 1) = (rootsT l o).take j ++ [((o + cntT (l.take j) + l[j].cnt : Nat) : Int) - 1] := by
  have hl : j < (rootsT l o).length := by rw [rootsT_len]; exact h
  rw [List.take_succ_eq_append_getElem hl]
  have e := roots_get l o j h
  rw [List.getD_eq_getElem?_getD, List.getElem?_eq_getElem hl] at e
  rw [← e]
  rfl
/-- What l3Nodes answers. -/
def NodesOut (w0 : World) (Q : Nat → Prop) (g : Nat) (T : Tt) (ts : List Td) (w : World) (e : Ending) (w' : World) : Prop :=
  ∃ g' cap', e = .returned (.slice (some ⟨g', 0, none⟩) (ts.length + T.cnt) cap') ∧ TmQ (fun b => Q b ∧ b < w.heap.size ∨ w.heap.size ≤ b ∧ b ≠ g') w0.heap.size w' (.slice (some ⟨g', 0, none⟩) (ts.length + T.cnt) cap') (ts ++ T.flat ts.length) ∧ w.grownBy w' (some g) ∧ (g' = g ∨ w.heap.size ≤ g')

set_option maxRecDepth 20000 in
set_option maxHeartbeats 16000000 in
theorem l3Nodes_all (Qs : Nat → Prop) (w0 : World) : ∀ (n : Nat) (T : Tt) (p : Nat) (w : World) (g cap : Nat) (ts : List Td) (Q : Nat → Prop), T.cnt ≤ n → SpG Qs w0 T p → T.all levP → Below w0.heap.size w0 w → TmQ Q w0.heap.size w (.slice (some ⟨g, 0, none⟩) ts.length cap) ts → (∀ b, Q b → b < w.heap.size → b ≠ g) → ts.length + T.cnt ≤ 100000 →
    Calls Tryz.prog 94 #[.pointer (some ⟨p, 0, none⟩), .slice (some ⟨g, 0, none⟩) ts.length cap] w (NodesOut w0 Q g T ts w) := by
  intro n
  induction n with
  | zero => intro T _ _ _ _ _ _ h; have := T.cnt_pos; omega
  | succ n ih =>
  intro T p w g cap ts Q hn hS hP hb0 hts hQg hlen
  obtain ⟨i67, hi67, hz67, hs67, hb67⟩ := info_parts Tryz.info67
  obtain ⟨i111, hi111, hz111, hs111, hb111⟩ := info_parts Tryz.info111
  obtain ⟨i3, hi3, hz3, hs3, hb3⟩ := info_parts Tryz.info3
  have IH := hide ih
  have HP := hide hP
  have HCN := hide hn
  have HB0 := hide hb0
  have HTS := hide hts
  have HQG := hide hQg
  have hcp := T.cnt_pos
  have hk3 := kids_le T
  have HCK := hide (cnt_kids T)
  obtain ⟨qs, hql, ⟨lvv, kdv, tn, hkr, lps, lus, hll, hlr, hlt, hlrel⟩, hqk⟩ := spg_open hS
  have tn : TnAt 0 w0 p (tnL T.hd.k T.hd.n T.hd.m T.hd.s lvv kdv T.zG) := tn
  have hll : lps.length = T.hd.lv.length := hll
  have hlrel : LvRel T.hd.lv lus T.hd.lv.length := hlrel
  have HQK := hide hqk
  have HQL := hide hql
  obtain ⟨ka, kc, rfl, hkc1, hkc2, hkc3⟩ := hkr
  obtain ⟨la, lc, rfl, hlc1, hlc2, hlc3⟩ := hlr
  have a0 : w0.cell? ⟨p, 0, none⟩ = some (.int .i64 T.hd.k) := by rw [World.ownsRow.cellAt tn 0 (by omega)]; rfl
  have a1 : w0.cell? ⟨p, 1, none⟩ = some (.int .i64 T.hd.n) := by rw [World.ownsRow.cellAt tn 1 (by omega)]; rfl
  have a2 : w0.cell? ⟨p, 2, none⟩ = some (.int .i64 T.hd.m) := by rw [World.ownsRow.cellAt tn 2 (by omega)]; rfl
  have a3 : w0.cell? ⟨p, 3, none⟩ = some (.string T.hd.s) := by rw [World.ownsRow.cellAt tn 3 (by omega)]; rfl
  have a4 : w0.cell? ⟨p, 4, none⟩ = some (.slice la T.hd.lv.length lc) := by rw [World.ownsRow.cellAt tn 4 (by omega), ← hll]; rfl
  have a5 : w0.cell? ⟨p, 5, none⟩ = some (.slice ka T.kids.length kc) := by rw [World.ownsRow.cellAt tn 5 (by omega), ← hql]; rfl
  have hpl := lt_cell a0
  have HA := hide (fun (X : World) (h : Below w0.heap.size w0 X) => And.intro (keep_cell h a0) (And.intro (keep_cell h a1) (And.intro (keep_cell h a2) (keep_cell h a3))))
  have HA4 := hide (fun (X : World) (h : Below w0.heap.size w0 X) => keep_cell h a4)
  have HA5 := hide (fun (X : World) (h : Below w0.heap.size w0 X) => keep_cell h a5)
  have HLT := hide (fun (X : World) (h : Below w0.heap.size w0 X) => hlt.1.keep h)
  have HLR := hide hlrel
  have HLL := hide hll
  have HLC : Hid (0 < T.hd.lv.length → ∃ b off, la = some ⟨b, off, none⟩ ∧ b < w0.heap.size ∧ ∀ j (h : j < lps.length), w0.cell? ⟨b, off + j, none⟩ = some (ptrV lps[j])) := fun h => by
    obtain ⟨b, off, q1, _, q3⟩ := hlc3 (by omega)
    exact ⟨b, off, q1, lt_cell (q3 0 (by omega)), q3⟩
  have HKC : Hid (0 < T.kids.length → ∃ b off, ka = some ⟨b, off, none⟩ ∧ b < w0.heap.size ∧ ∀ j (h : j < qs.length), w0.cell? ⟨b, off + j, none⟩ = some (ptrV qs[j])) := fun h => by
    obtain ⟨b, off, q1, _, q3⟩ := hkc3 (by omega)
    exact ⟨b, off, q1, lt_cell (q3 0 (by omega)), q3⟩
  have hlv6 := (hd_all T hP).2
  have hww := hb0.size
  have hgw : w0.heap.size ≤ g ∧ g < w.heap.size := by obtain ⟨xs, h1, _⟩ := hts; exact World.ownsRow.lt h1 g rfl
  rw [hll] at hlc1
  rw [hql] at hkc1
  clear ih hS hP hn hb0 hts hQg tn hqk hql hlt hlrel hll a0 a1 a2 a3 a4 a5 hlc3 hkc3
  obtain ⟨W1, hW1⟩ : ∃ W1, W1 = (w.alloc (.cells #[.int .i64 T.hd.k, .int .i64 T.hd.n, .int .i64 T.hd.m, .string T.hd.s, .slice none 0 0, .slice none 0 0] 67)).drew := ⟨_, rfl⟩
  have hbW1 : Below w.heap.size w W1 := by rw [hW1]; exact (bel_alloc (Below.refl _ _) _).drew
  have HN1 : Hid (W1.heap[w.heap.size]? = some (.cells #[.int .i64 T.hd.k, .int .i64 T.hd.n, .int .i64 T.hd.m, .string T.hd.s, .slice none 0 0, .slice none 0 0] 67 (0, 0))) := by show _ = _; rw [hW1]; exact heap_alloc_new w _
  have HB1 := hide hbW1
  clear hbW1
  have hS0 : (fun w' : World => Below w.heap.size w w') w.drew := (Below.refl _ _).drew
  go_enter Tryz.func94, Tryz.ntmps94
  go_wp2_with fail
  refine anyE_region (L := 18) (S := fun w' : World => Below w.heap.size w w') (by kernel_rfl) ?_
  refine anyE_take 0 (v := ?v1) rfl (by kernel_rfl) (by kernel_rfl) (by kernel_rfl) (by kernel_rfl) (fun _ _ _ h => h) (by rfl) ?hy1 hS0 ?rest1
  case hy1 =>
    intro wx hx
    obtain ⟨m0, m1, m2, m3⟩ := HA.out wx (bel_trans HB0.out hx)
    go_simp
    try rfl
  case rest1 =>
  intro K hK
  go_simp
  refine hK.out _ ?_
  clear hK K
  refine anyE_take 1 (v := ?v2) rfl (by kernel_rfl) (by kernel_rfl) (by kernel_rfl) (by kernel_rfl) (fun _ _ _ h => h) (by rfl) ?hy2 hS0 ?rest2
  case hy2 =>
    intro wx hx
    obtain ⟨m0, m1, m2, m3⟩ := HA.out wx (bel_trans HB0.out hx)
    go_simp
    try rfl
  case rest2 =>
  intro K hK
  go_simp
  refine hK.out _ ?_
  clear hK K
  refine anyE_take 2 (v := ?v3) rfl (by kernel_rfl) (by kernel_rfl) (by kernel_rfl) (by kernel_rfl) (fun _ _ _ h => h) (by rfl) ?hy3 hS0 ?rest3
  case hy3 =>
    intro wx hx
    obtain ⟨m0, m1, m2, m3⟩ := HA.out wx (bel_trans HB0.out hx)
    go_simp
    try rfl
  case rest3 =>
  intro K hK
  go_simp
  refine hK.out _ ?_
  clear hK K
  refine anyE_take 3 (v := ?v4) rfl (by kernel_rfl) (by kernel_rfl) (by kernel_rfl) (by kernel_rfl) (fun _ _ _ h => h) (by rfl) ?hy4 hS0 ?rest4
  case hy4 =>
    intro wx hx
    obtain ⟨m0, m1, m2, m3⟩ := HA.out wx (bel_trans HB0.out hx)
    go_simp
    try rfl
  case rest4 =>
  intro K hK
  go_simp
  refine hK.out _ ?_
  clear hK K
  refine anyE_take 4 (v := ?v5) rfl (by kernel_rfl) (by kernel_rfl) (by kernel_rfl) (by kernel_rfl) (fun _ _ _ h => h) (by rfl) ?hy5 hS0 ?rest5
  case hy5 =>
    intro wx hx
    obtain ⟨m0, m1, m2, m3⟩ := HA.out wx (bel_trans HB0.out hx)
    go_simp
    try rfl
  case rest5 =>
  intro K hK
  go_simp
  refine hK.out _ ?_
  clear hK K
  refine anyE_take 5 (v := ?v6) rfl (by kernel_rfl) (by kernel_rfl) (by kernel_rfl) (by kernel_rfl) (fun _ _ _ h => h) (by rfl) ?hy6 hS0 ?rest6
  case hy6 =>
    intro wx hx
    obtain ⟨m0, m1, m2, m3⟩ := HA.out wx (bel_trans HB0.out hx)
    go_simp
    try rfl
  case rest6 =>
  intro K hK
  go_simp
  refine hK.out _ ?_
  clear hK K
  refine anyE_take 6 (v := ?v7) rfl (by kernel_rfl) (by kernel_rfl) (by kernel_rfl) (by kernel_rfl) (fun _ _ _ h => h) (by rfl) ?hy7 hS0 ?rest7
  case hy7 =>
    intro wx hx
    obtain ⟨m0, m1, m2, m3⟩ := HA.out wx (bel_trans HB0.out hx)
    go_simp
    try rfl
  case rest7 =>
  intro K hK
  go_simp
  refine hK.out _ ?_
  clear hK K
  refine anyE_take 7 (v := ?v8) rfl (by kernel_rfl) (by kernel_rfl) (by kernel_rfl) (by kernel_rfl) (fun _ _ _ h => h) (by rfl) ?hy8 hS0 ?rest8
  case hy8 =>
    intro wx hx
    obtain ⟨m0, m1, m2, m3⟩ := HA.out wx (bel_trans HB0.out hx)
    go_simp
    try rfl
  case rest8 =>
  intro K hK
  go_simp
  refine hK.out _ ?_
  clear hK K
  refine anyE_take 8 (v := ?v9) rfl (by kernel_rfl) (by kernel_rfl) (by kernel_rfl) (by kernel_rfl) (fun _ _ _ h => h) (by rfl) ?hy9 hS0 ?rest9
  case hy9 =>
    intro wx hx
    obtain ⟨m0, m1, m2, m3⟩ := HA.out wx (bel_trans HB0.out hx)
    go_simp
    try rfl
  case rest9 =>
  intro K hK
  go_simp
  refine hK.out _ ?_
  clear hK K
  refine anyE_take 9 (v := ?v10) rfl (by kernel_rfl) (by kernel_rfl) (by kernel_rfl) (by kernel_rfl) (fun _ _ _ h => h) (by rfl) ?hy10 hS0 ?rest10
  case hy10 =>
    intro wx hx
    obtain ⟨m0, m1, m2, m3⟩ := HA.out wx (bel_trans HB0.out hx)
    go_simp
    try rfl
  case rest10 =>
  intro K hK
  go_simp
  refine hK.out _ ?_
  clear hK K
  refine anyE_take 10 (v := ?v11) rfl (by kernel_rfl) (by kernel_rfl) (by kernel_rfl) (by kernel_rfl) (fun _ _ _ h => h) (by rfl) ?hy11 hS0 ?rest11
  case hy11 =>
    intro wx hx
    obtain ⟨m0, m1, m2, m3⟩ := HA.out wx (bel_trans HB0.out hx)
    go_simp
    try rfl
  case rest11 =>
  intro K hK
  go_simp
  refine hK.out _ ?_
  clear hK K
  refine anyE_take 11 (v := ?v12) rfl (by kernel_rfl) (by kernel_rfl) (by kernel_rfl) (by kernel_rfl) (fun _ _ _ h => h) (by rfl) ?hy12 hS0 ?rest12
  case hy12 =>
    intro wx hx
    obtain ⟨m0, m1, m2, m3⟩ := HA.out wx (bel_trans HB0.out hx)
    go_simp
    try rfl
  case rest12 =>
  intro K hK
  go_simp
  refine hK.out _ ?_
  clear hK K
  refine anyE_take 12 (v := ?v13) rfl (by kernel_rfl) (by kernel_rfl) (by kernel_rfl) (by kernel_rfl) (fun _ _ _ h => h) (by rfl) ?hy13 hS0 ?rest13
  case hy13 =>
    intro wx hx
    obtain ⟨m0, m1, m2, m3⟩ := HA.out wx (bel_trans HB0.out hx)
    go_simp
    try rfl
  case rest13 =>
  intro K hK
  go_simp
  refine hK.out _ ?_
  clear hK K
  refine anyE_take 13 (v := ?v14) rfl (by kernel_rfl) (by kernel_rfl) (by kernel_rfl) (by kernel_rfl) (fun _ _ _ h => h) (by rfl) ?hy14 hS0 ?rest14
  case hy14 =>
    intro wx hx
    obtain ⟨m0, m1, m2, m3⟩ := HA.out wx (bel_trans HB0.out hx)
    go_simp
    try rfl
  case rest14 =>
  intro K hK
  go_simp
  refine hK.out _ ?_
  clear hK K
  refine anyE_take 14 (v := ?v15) rfl (by kernel_rfl) (by kernel_rfl) (by kernel_rfl) (by kernel_rfl) (fun _ _ _ h => h) (by rfl) ?hy15 hS0 ?rest15
  case hy15 =>
    intro wx hx
    obtain ⟨m0, m1, m2, m3⟩ := HA.out wx (bel_trans HB0.out hx)
    go_simp
    try rfl
  case rest15 =>
  intro K hK
  go_simp
  refine hK.out _ ?_
  clear hK K
  refine anyE_take 15 (v := ?v16) rfl (by kernel_rfl) (by kernel_rfl) (by kernel_rfl) (by kernel_rfl) (fun _ _ _ h => h) (by rfl) ?hy16 hS0 ?rest16
  case hy16 =>
    intro wx hx
    obtain ⟨m0, m1, m2, m3⟩ := HA.out wx (bel_trans HB0.out hx)
    go_simp
    try rfl
  case rest16 =>
  intro K hK
  go_simp
  refine hK.out _ ?_
  clear hK K
  refine anyE_take 16 (v := ?v17) rfl (by kernel_rfl) (by kernel_rfl) (by kernel_rfl) (by kernel_rfl) (fun _ _ _ h => h) (by rfl) ?hy17 hS0 ?rest17
  case hy17 =>
    intro wx hx
    obtain ⟨m0, m1, m2, m3⟩ := HA.out wx (bel_trans HB0.out hx)
    go_simp
    try rfl
  case rest17 =>
  intro K hK
  go_simp
  refine hK.out _ ?_
  clear hK K
  refine anyE_one 17 (by kernel_rfl) rfl (fun K hK => ?_)
  go_simp
  have hSA : Below w.heap.size w (w.drew.alloc (.cells #[.int .i64 0, .int .i64 0, .int .i64 0, .string ⟨#[]⟩, .slice none 0 0, .slice none 0 0] 67)) := (Below.refl w.heap.size w).drew.alloc (Nat.le_refl _) _
  refine hK.out _ _ (fun _ => hSA) ?_
  clear hK K
  refine anyE_one 18 (by kernel_rfl) rfl (fun K hK => ?_)
  go_simp
  refine hK.out _ _ (fun h => absurd rfl h) ?_
  clear hK K
  refine anyE_done (by kernel_rfl) ?_ _
  rw [← hW1]
  clear hW1 hSA hS0
  have HL0 : Hid (LsV (w.heap.size + 1) W1.heap.size W1 (.slice none 0 0) (T.hd.lv.take 0)) := lsV_nil _ _ _
  have hl1 : w.heap.size < W1.heap.size := (Array.getElem?_eq_some_iff.1 HN1.out).1
  go_wp2_with fail
  go_loopw [6] (fun i wr => ∃ (j cpl : Nat) (adl : Option Addr), j ≤ T.hd.lv.length ∧ i = .int .i64 j ∧ Hid (wr.heap[w.heap.size]? = some (.cells #[.int .i64 T.hd.k, .int .i64 T.hd.n, .int .i64 T.hd.m, .string T.hd.s, .slice adl j cpl, .slice none 0 0] 67 (0, 0))) ∧ Hid (LsV (w.heap.size + 1) wr.heap.size wr (.slice adl j cpl) (T.hd.lv.take j)) ∧ Hid (Below w.heap.size w wr)) (fun i _ => T.hd.lv.length - (intOf i).toNat)
  case atStart => exact ⟨0, 0, none, by omega, rfl, HN1, HL0, HB1⟩
  case round =>
    clear HN1 HL0 HB1 hl1
    obtain ⟨j, cpl, adl, hj, rfl, HNJ, HLJ, HBJ⟩ := hrel
    have hwsz := HBJ.out.size
    have HB0J := hide (bel_trans HB0.out HBJ.out)
    have hnl : w.heap.size < wr.heap.size := (Array.getElem?_eq_some_iff.1 HNJ.out).1
    have b4 := HA4.out wr HB0J.out
    have hpr := lt_cell b4
    by_cases hlt : j < T.hd.lv.length
    · have hlt' : (j : Int) < T.hd.lv.length := by omega
      have HQ1 := hide (show j + 1 ≤ T.hd.lv.length from hlt)
      have hjq : j < lps.length := by have := HLL.out; omega
      obtain ⟨kb, off, rfl, hkB, hkcell⟩ := HLC.out (by omega)
      have bk := keep_cell HB0J.out (hkcell j hjq)
      have bk0 := hkcell j hjq
      unfold ptrV at bk bk0
      have hkb := lt_cell bk
      obtain ⟨hul, hrel⟩ := HLR.out
      have hju : j < lus.length := by omega
      obtain ⟨e1, e2, e3, e4⟩ := hrel j hlt hju
      have hl64 := (lvl_small ((hd_all T HP.out).1 T.hd.lv[j] (List.getElem_mem hlt))).1
      have HCL : Hid (∀ (X : World), Below w0.heap.size w0 X → Calls Tryz.prog 142 #[.pointer (some ⟨lps[j], 0, none⟩)] X fun e w' => ∃ g cap, e = .returned (.agg #[.slice (some ⟨g, 0, none⟩) T.hd.lv[j].length cap]) ∧ NdW X.heap.size w' (.slice (some ⟨g, 0, none⟩) T.hd.lv[j].length cap) T.hd.lv[j] ∧ Below X.heap.size X w') := fun X hX => by
        have h := l1LevelA_any lus[j] lps[j] X ((HLT.out X hX).2 j hjq hju) (by omega)
        rw [← e1] at h
        refine h.mono ?_
        rintro e w' ⟨g, cap, rfl, h1, h2⟩
        exact ⟨g, cap, rfl, h1.toW, h2⟩
      have HTK : Hid (T.hd.lv.take (j + 1) = T.hd.lv.take j ++ [T.hd.lv[j]]) := List.take_succ_eq_append_getElem hlt
      have htl : (T.hd.lv.take j).length = j := by rw [List.length_take]; omega
      have HTL := hide htl
      generalize T.hd.lv[j] = l at *
      generalize lps[j] = P1 at *
      have n4 : wr.cell? ⟨w.heap.size, 4, none⟩ = some (.slice adl j cpl) := by rw [Lib.cell_of_heap HNJ.out]; rfl
      have HG := hide (fun (wx : World) (h : wx.heap[w.heap.size]? = wr.heap[w.heap.size]? ∧ Below w0.heap.size wr wx) => And.intro (heap_cell h.1 n4) (And.intro (heap_cell (h.2.block p hpl) b4) (heap_cell (h.2.block kb hkB) bk)))
      have hS0 : (fun w' : World => w'.heap[w.heap.size]? = wr.heap[w.heap.size]? ∧ Below w0.heap.size wr w') wr.drew := ⟨rfl, (Below.refl _ _).drew⟩
      have hwwr : w0.heap.size ≤ wr.heap.size := by omega
      clear hkcell bk0 htl hrel hul hju e1 e2 e3 e4 bk n4 hjq
      go_wp2_with fail
      refine anyE_region (L := 13) (S := fun w' : World => w'.heap[w.heap.size]? = wr.heap[w.heap.size]? ∧ Below w0.heap.size wr w') (by kernel_rfl) ?_
      refine anyE_take 0 (v := ?v18) rfl (by kernel_rfl) (by kernel_rfl) (by kernel_rfl) (by kernel_rfl) (fun _ _ _ h => h) (by rfl) ?hy18 hS0 ?rest18
      case hy18 =>
        intro wx hx
        obtain ⟨m4, mp, mk⟩ := HG.out wx hx
        go_simp
        try rfl
      case rest18 =>
      intro K hK
      go_simp
      refine hK.out _ ?_
      clear hK K
      refine anyE_take 1 (v := ?v19) rfl (by kernel_rfl) (by kernel_rfl) (by kernel_rfl) (by kernel_rfl) (fun _ _ _ h => h) (by rfl) ?hy19 hS0 ?rest19
      case hy19 =>
        intro wx hx
        obtain ⟨m4, mp, mk⟩ := HG.out wx hx
        go_simp
        try rfl
      case rest19 =>
      intro K hK
      go_simp
      refine hK.out _ ?_
      clear hK K
      refine anyE_take 2 (v := ?v20) rfl (by kernel_rfl) (by kernel_rfl) (by kernel_rfl) (by kernel_rfl) (fun _ _ _ h => h) (by rfl) ?hy20 hS0 ?rest20
      case hy20 =>
        intro wx hx
        obtain ⟨m4, mp, mk⟩ := HG.out wx hx
        go_simp
        try rfl
      case rest20 =>
      intro K hK
      go_simp
      refine hK.out _ ?_
      clear hK K
      refine anyE_take 3 (v := ?v21) rfl (by kernel_rfl) (by kernel_rfl) (by kernel_rfl) (by kernel_rfl) (fun _ _ _ h => h) (by rfl) ?hy21 hS0 ?rest21
      case hy21 =>
        intro wx hx
        obtain ⟨m4, mp, mk⟩ := HG.out wx hx
        go_simp
        try rfl
      case rest21 =>
      intro K hK
      go_simp
      refine hK.out _ ?_
      clear hK K
      refine anyE_take 4 (v := ?v22) rfl (by kernel_rfl) (by kernel_rfl) (by kernel_rfl) (by kernel_rfl) (fun _ _ _ h => h) (by rfl) ?hy22 hS0 ?rest22
      case hy22 =>
        intro wx hx
        obtain ⟨m4, mp, mk⟩ := HG.out wx hx
        go_simp
        try rfl
      case rest22 =>
      intro K hK
      go_simp
      refine hK.out _ ?_
      clear hK K
      refine anyE_take 5 (v := ?v23) rfl (by kernel_rfl) (by kernel_rfl) (by kernel_rfl) (by kernel_rfl) (fun _ _ _ h => h) (by rfl) ?hy23 hS0 ?rest23
      case hy23 =>
        intro wx hx
        obtain ⟨m4, mp, mk⟩ := HG.out wx hx
        go_simp
        try rfl
      case rest23 =>
      intro K hK
      go_simp
      refine hK.out _ ?_
      clear hK K
      refine anyE_take 6 (v := ?v24) rfl (by kernel_rfl) (by kernel_rfl) (by kernel_rfl) (by kernel_rfl) (fun _ _ _ h => h) (by rfl) ?hy24 hS0 ?rest24
      case hy24 =>
        intro wx hx
        obtain ⟨m4, mp, mk⟩ := HG.out wx hx
        go_simp
        try rfl
      case rest24 =>
      intro K hK
      go_simp
      refine hK.out _ ?_
      clear hK K
      refine anyE_take 7 (v := ?v25) rfl (by kernel_rfl) (by kernel_rfl) (by kernel_rfl) (by kernel_rfl) (fun _ _ _ h => h) (by rfl) ?hy25 hS0 ?rest25
      case hy25 =>
        intro wx hx
        obtain ⟨m4, mp, mk⟩ := HG.out wx hx
        go_simp
        try rfl
      case rest25 =>
      intro K hK
      go_simp
      refine hK.out _ ?_
      clear hK K
      refine anyE_take 8 (v := ?v26) rfl (by kernel_rfl) (by kernel_rfl) (by kernel_rfl) (by kernel_rfl) (fun _ _ _ h => h) (by rfl) ?hy26 hS0 ?rest26
      case hy26 =>
        intro wx hx
        obtain ⟨m4, mp, mk⟩ := HG.out wx hx
        go_simp
        try rfl
      case rest26 =>
      intro K hK
      go_simp
      refine hK.out _ ?_
      clear hK K
      refine anyE_one 9 (by kernel_rfl) rfl (fun K hK => ?_)
      go_simp
      refine (HCL.out wr.drew HB0J.out.drew).mono ?_
      rintro e w2 ⟨gl, cl, rfl, hnd2, hb2⟩
      have hB2 : Below wr.heap.size wr w2 := (Below.refl wr.heap.size wr).drew.trans hb2
      have hsz2 := hB2.size
      refine hK.out _ _ (fun _ => ⟨hB2.block _ hnl, hB2.mono hwwr⟩) ?_
      clear hK K hS0
      have HN2 : Hid (NdW wr.heap.size w2 (.slice (some ⟨gl, 0, none⟩) l.length cl) l) := hnd2
      clear hnd2 hb2
      refine anyE_one 10 (by kernel_rfl) rfl (fun K hK => ?_)
      go_simp
      obtain ⟨W3, hW3⟩ : ∃ W3, W3 = w2.alloc (.cells #[.slice (some ⟨gl, 0, none⟩) l.length cl] 111) := ⟨_, rfl⟩
      rw [← hW3]
      have hb3 : Below w2.heap.size w2 W3 := by rw [hW3]; exact bel_alloc (Below.refl _ _) _
      have hh3 : W3.heap[w2.heap.size]? = some (.cells #[.slice (some ⟨gl, 0, none⟩) l.length cl] 111 (0, 0)) := by rw [hW3]; exact heap_alloc_new w2 _
      have hB3 : Below wr.heap.size wr W3 := bel_trans hB2 hb3
      refine hK.out _ _ (fun _ => ⟨hB3.block _ hnl, hB3.mono hwwr⟩) ?_
      clear hK K
      have hs3 : W3.heap.size = w2.heap.size + 1 := by rw [hW3]; simp
      have HN3 : Hid (NdR wr.heap.size W3.heap.size W3 (.slice (some ⟨gl, 0, none⟩) l.length cl) l) := ((HN2.out.toR).keep hb3 (Nat.le_refl _)).widen hb3.size
      obtain ⟨xs, s, t, ho, hrg, hown, hnd⟩ := HLJ.out
      rw [HTL.out] at ho
      have HHO := hide ho
      have HOW3 := hide (row_keep hB3 ho)
      have HRG := hide hrg
      have HHN := hide hown
      have HND := hide hnd
      have HB3 := hide hB3
      have HS3 := hide hs3
      clear ho hrg hown hnd hb3 hB2 hB3 hW3 HN2 hs3
      refine anyE_one 11 (by kernel_rfl) rfl (fun K hK => ?_)
      refine step_append_lies _ rfl _ _ 54 rfl (w.heap.size + 1) 111 i111 (.agg #[.slice none 0 0]) 1 24 Tryz.underlying54 hi111 hz111 hs111 hb111 rfl (by omega) (.slice adl j cpl) j xs rfl HOW3.out ⟨w2.heap.size, 0, none⟩ 1 1 [.slice (some ⟨gl, 0, none⟩) l.length cl] rfl rfl (World.news_of_block (cs := #[.slice (some ⟨gl, 0, none⟩) l.length cl]) (t := 111) (fr := (0, 0)) hh3) (by intro u hu; simp at hu; rcases hu with rfl; rfl) (by omega) (by unfold maxLen; omega) (by omega) (by have := HB3.out.size; omega) W3.heap.size rfl ?_
      intro g4 cap4 w4 hown4 hgrow4 hat4 hlt4
      have hW3s := HB3.out.size
      have hlow : ∀ b, (Value.slice adl j cpl).ownBlock = some b → w.heap.size + 1 ≤ b := fun b hb => (World.ownsRow.lt HHO.out b hb).1
      have hn4 : w4.heap[w.heap.size]? = wr.heap[w.heap.size]? := (hgrow4.block _ (by omega) (fun e => by have := hlow _ e.symm; omega)).trans (HB3.out.block _ hnl)
      have hBw4 : Below w.heap.size wr w4 := (HB3.out.mono hwsz).grown hgrow4 (by omega) (fun k hk => by have := hlow _ hk; omega)
      refine hK.out _ _ (fun _ => ⟨hn4, hBw4.mono hww⟩) ?_
      clear hK K
      have hend := LsV.snoc (ls := T.hd.lv.take j) (l := l) (lo := w.heap.size + 1) (by omega) HB3.out (by rw [HTL.out]; exact HHO.out) HRG.out HHN.out HND.out (Nat.le_refl _) HN3.out hW3s hgrow4 (by rcases hat4 with h | h; exact .inl h; exact .inr (by omega)) hlt4 (by rw [HTL.out]; exact hown4)
      rw [HTL.out, ← HTK.out] at hend
      have HE := hide hend
      have HN4 : Hid (w4.heap[w.heap.size]? = some (.cells #[.int .i64 T.hd.k, .int .i64 T.hd.n, .int .i64 T.hd.m, .string T.hd.s, .slice adl j cpl, .slice none 0 0] 67 (0, 0))) := hn4.trans HNJ.out
      have c4 : w4.cell? ⟨w.heap.size, 4, none⟩ = some (.slice adl j cpl) := by rw [Lib.cell_of_heap HN4.out]; rfl
      have f4 : w4.frozen? ⟨w.heap.size, 4, none⟩ = false := Lib.frozen_of_heap HN4.out 4
      have l4 := lt_cell c4
      have hS4 : w4.heap[w.heap.size]? = wr.heap[w.heap.size]? ∧ Below w0.heap.size wr w4 := ⟨hn4, hBw4.mono hww⟩
      have HBW4 := hide hBw4
      clear hend hown4 hgrow4 hat4 hlt4 HOW3 HRG HHN HND HN3 HHO hh3 hlow hBw4 HG
      refine anyE_one 12 (by kernel_rfl) rfl (fun K hK => ?_)
      go_simp
      refine hK.out _ _ (fun _ => hS4) ?_
      clear hK K hS4
      refine anyE_one 13 (by kernel_rfl) rfl (fun K hK => ?_)
      go_simp
      refine hK.out _ _ (fun h => absurd rfl h) ?_
      clear hK K
      refine anyE_done (by kernel_rfl) ?_ _
      obtain ⟨W5, hW5⟩ : ∃ W5, W5 = w4.setCell ⟨w.heap.size, 4, none⟩ (.slice (some ⟨g4, 0, none⟩) (j + 1) cap4) := ⟨_, rfl⟩
      have HN5 : Hid (W5.heap[w.heap.size]? = some (.cells #[.int .i64 T.hd.k, .int .i64 T.hd.n, .int .i64 T.hd.m, .string T.hd.s, .slice (some ⟨g4, 0, none⟩) (j + 1) cap4, .slice none 0 0] 67 (0, 0))) := by show _ = _; rw [hW5]; exact (set_cells6 HN4.out _).1
      have hs5 : W5.heap.size = w4.heap.size := by rw [hW5, size_set]
      have HE5 : Hid (LsV (w.heap.size + 1) W5.heap.size W5 (.slice (some ⟨g4, 0, none⟩) (j + 1) cap4) (T.hd.lv.take (j + 1))) := by
        show LsV _ _ _ _ _
        rw [hs5, hW5]
        exact HE.out.same (fun b q1 _ => Below.heap_setCell w4 _ _ b (by dsimp only; omega))
      have HB5 : Hid (Below w.heap.size w W5) := by
        show Below _ _ _
        rw [hW5]
        exact (HBJ.out.trans HBW4.out).setCell (p := ⟨_, _, _⟩) (by show _ ≤ w.heap.size; omega) _
      rw [← hW5]
      clear hW5 HN4 HE c4 f4 hn4 HBW4 hs5
      go_wp2_with fail
      go_roundw
      case rel => exact ⟨j + 1, cap4, some ⟨g4, 0, none⟩, HQ1.out, by go_num, HN5, HE5, HB5⟩
      case measure => have := HQ1.out; simp [intOf]; omega
    · have hlt' : ¬ (j : Int) < T.hd.lv.length := by omega
      have e : j = T.hd.lv.length := by omega
      subst e
      have hv0 := HLJ.out
      rw [List.take_length] at hv0
      have HV := hide hv0
      clear hv0
      obtain ⟨V1, hV1⟩ : ∃ V1, V1 = wr := ⟨_, rfl⟩
      rw [← hV1] at HNJ HV HBJ HB0J hnl hwsz b4 hpr ⊢
      clear hV1 HLJ HLC HLT HLR HA HA4
      clear wr
      have HT0 : Hid (TmQ (fun b => (Q b ∧ b < w.heap.size ∨ V1.heap.size ≤ b) ∧ b ≠ g ∧ (Value.slice none 0 0).ownBlock ≠ some b) w0.heap.size V1 (.slice (some ⟨g, 0, none⟩) (ts.length + cntT (T.kids.take 0)) cap) (ts ++ flatT (T.kids.take 0) ts.length)) := by
        show TmQ _ _ _ _ _
        have h := HTS.out.keep (R := fun b => (Q b ∧ b < w.heap.size ∨ V1.heap.size ≤ b) ∧ b ≠ g ∧ (Value.slice none 0 0).ownBlock ≠ some b) hwsz (fun q hq => HBJ.out.block q (by simp [Value.ownBlock] at hq; omega)) (fun b hb hl => ⟨⟨.inl ⟨hb, hl⟩, HQG.out b hb hl, by simp [Value.ownBlock]⟩, HBJ.out.block b hl⟩)
        simpa [cntT, flatT] using h
      have HK0 : Hid (KidRow V1.heap.size V1 (.slice none 0 0) ((rootsT T.kids ts.length).take 0)) := World.ownsRow_nil _ _ _ _
      have HG0 : Hid (w.grownBy V1 (some g)) := (grown_of HBJ.out).but _
      have hcpl := hlc1
      go_wp2_with fail
      go_loopw [1, 7] (fun r i wr => ∃ (j g2 cap2 cpk : Nat) (adk : Option Addr), j ≤ T.kids.length ∧ i = .int .i64 j ∧ r = .slice (some ⟨g2, 0, none⟩) (ts.length + cntT (T.kids.take j)) cap2 ∧ Hid (wr.heap[w.heap.size]? = some (.cells #[.int .i64 T.hd.k, .int .i64 T.hd.n, .int .i64 T.hd.m, .string T.hd.s, .slice adl T.hd.lv.length cpl, .slice adk j cpk] 67 (0, 0))) ∧ Hid (KidRow V1.heap.size wr (.slice adk j cpk) ((rootsT T.kids ts.length).take j)) ∧ Hid (TmQ (fun b => (Q b ∧ b < w.heap.size ∨ V1.heap.size ≤ b) ∧ b ≠ g2 ∧ (Value.slice adk j cpk).ownBlock ≠ some b) w0.heap.size wr (.slice (some ⟨g2, 0, none⟩) (ts.length + cntT (T.kids.take j)) cap2) (ts ++ flatT (T.kids.take j) ts.length)) ∧ Hid (g2 = g ∨ V1.heap.size ≤ g2) ∧ Hid (∀ b : Nat, w.heap.size < b → b < V1.heap.size → wr.heap[b]? = V1.heap[b]?) ∧ Hid (w.grownBy wr (some g)) ∧ Hid (V1.heap.size ≤ wr.heap.size)) (fun _ i _ => T.kids.length - (intOf i).toNat)
      case atStart => exact ⟨0, g, cap, 0, none, by omega, rfl, rfl, HNJ, HK0, HT0, .inl rfl, fun _ _ _ => rfl, HG0, Nat.le_refl _⟩
      case round =>
        clear HNJ HK0 HT0 HG0 b4 hpr hcpl
        obtain ⟨j, g2, cap2, cpk, adk, hj, rfl, rfl, HNK, HKK, HTK, HGG, HSM, HGW, HSZ⟩ := hrel
        have hszw := HSZ.out
        have HB0K : Hid (Below w0.heap.size w0 wr) := HB0.out.grown HGW.out hww (fun k hk => by have := Option.some.inj hk; omega)
        have b5 := HA5.out wr HB0K.out
        have hpr := lt_cell b5
        have hnl2 : w.heap.size < wr.heap.size := by omega
        have hgg : g2 ≠ w.heap.size ∧ (g2 < w.heap.size ∨ V1.heap.size ≤ g2) := by rcases HGG.out with h | h <;> omega
        have hkbig : ∀ b, (Value.slice adk j cpk).ownBlock = some b → V1.heap.size ≤ b ∧ b < wr.heap.size := fun b hb => World.ownsRow.lt HKK.out b hb
        have hkl0 : ((rootsT T.kids ts.length).take j).length = j := by rw [List.length_take, rootsT_len]; omega
        have HKL0 := hide hkl0
        clear hkl0
        by_cases hlt : j < T.kids.length
        · have hlt' : (j : Int) < T.kids.length := by omega
          have HQ1 := hide (show j + 1 ≤ T.kids.length from hlt)
          have hjq : j < qs.length := by have := HQL.out; omega
          obtain ⟨kb, off, rfl, hkB, hkcell⟩ := HKC.out (by omega)
          have bk := keep_cell HB0K.out (hkcell j hjq)
          unfold ptrV at bk
          have hkb := lt_cell bk
          have hck := kid_cnt T j hlt
          have hcn := HCN.out
          have hcs := cnt_take_snoc T.kids j hlt
          have hcl := cnt_take_le T.kids (j + 1)
          have hcT := HCK.out
          have hfl : (ts ++ flatT (T.kids.take j) ts.length).length = ts.length + cntT (T.kids.take j) := by rw [List.length_append, flatT_len]
          have HCF : Hid (Calls Tryz.prog 94 #[.pointer (some ⟨qs[j], 0, none⟩), .slice (some ⟨g2, 0, none⟩) (ts.length + cntT (T.kids.take j)) cap2] wr fun e w' => ∃ g' cap', e = .returned (.slice (some ⟨g', 0, none⟩) (ts.length + cntT (T.kids.take (j + 1))) cap') ∧ TmQ (fun b => ((Q b ∧ b < w.heap.size ∨ V1.heap.size ≤ b) ∧ b ≠ g2 ∧ (Value.slice adk j cpk).ownBlock ≠ some b) ∧ b < wr.heap.size ∨ wr.heap.size ≤ b ∧ b ≠ g') w0.heap.size w' (.slice (some ⟨g', 0, none⟩) (ts.length + cntT (T.kids.take (j + 1))) cap') (ts ++ flatT (T.kids.take (j + 1)) ts.length) ∧ wr.grownBy w' (some g2) ∧ (g' = g2 ∨ wr.heap.size ≤ g')) := by
            have h := IH.out T.kids[j] qs[j] wr g2 cap2 (ts ++ flatT (T.kids.take j) ts.length) (fun b => (Q b ∧ b < w.heap.size ∨ V1.heap.size ≤ b) ∧ b ≠ g2 ∧ (Value.slice adk j cpk).ownBlock ≠ some b) (by omega) (HQK.out j hjq hlt) (kid_all' T HP.out j hlt) HB0K.out (by rw [hfl]; exact HTK.out) (fun b hb _ => hb.2.1) (by rw [hfl]; omega)
            have e1 : ts ++ flatT (T.kids.take j) ts.length ++ T.kids[j].flat (ts ++ flatT (T.kids.take j) ts.length).length = ts ++ flatT (T.kids.take (j + 1)) ts.length := by
              rw [List.take_succ_eq_append_getElem hlt, flatT_append, hfl, List.append_assoc]
              simp only [flatT, List.append_nil]
              rfl
            unfold NodesOut at h
            rw [e1, hfl] at h
            rw [hcs, ← Nat.add_assoc]
            exact h
          have HRT : Hid ((rootsT T.kids ts.length).take (j + 1) = (rootsT T.kids ts.length).take j ++ [((ts.length + cntT (T.kids.take (j + 1)) : Nat) : Int) - 1]) := by
            show _ = _
            rw [roots_take_snoc T.kids ts.length j hlt, hcs, Nat.add_assoc]
          have hcnt1 : 1 ≤ ts.length + cntT (T.kids.take (j + 1)) ∧ ts.length + cntT (T.kids.take (j + 1)) ≤ 100000 := by have := T.kids[j].cnt_pos; omega
          obtain ⟨c1, hc1⟩ : ∃ c1, c1 = ts.length + cntT (T.kids.take (j + 1)) := ⟨_, rfl⟩
          have HC1 := hide hc1
          rw [← hc1] at HCF HRT hcnt1
          generalize qs[j] = P1 at *
          clear hkcell hck hcn hcs hcl hcT hfl hc1
          go_wp2_with fail
          refine HCF.out.mono ?_
          rintro e w3 ⟨g3, cap3, rfl, htm3, hg3, hor3⟩
          have hsz3 := hg3.size
          have hn3 : w3.heap[w.heap.size]? = some (.cells #[.int .i64 T.hd.k, .int .i64 T.hd.n, .int .i64 T.hd.m, .string T.hd.s, .slice adl T.hd.lv.length cpl, .slice adk j cpk] 67 (0, 0)) := by rw [hg3.block _ hnl2 (fun e => hgg.1 (Option.some.inj e).symm)]; exact HNK.out
          have hkg : ∀ q, (Value.slice adk j cpk).ownBlock = some q → q ≠ g2 := fun q hq e => by
            obtain ⟨xs, ho, _⟩ := HTK.out
            obtain ⟨cs, hcs⟩ := row_tag (by rw [flat_lenT T j ts] at ho; exact ho)
            rcases HKK.out.2 with ⟨h1, _⟩ | ⟨q', cp', cur, h1, _, h4, _⟩
            · rw [h1] at hq; simp [Value.ownBlock] at hq
            · rw [h1] at hq
              have e1 : q' = q := by simpa [Value.ownBlock] using hq
              rw [e1, e, hcs] at h4
              have h5 := Option.some.inj h4
              injection h5 with _ h6 _
              cases h6
          have hk3' : KidRow V1.heap.size w3 (.slice adk j cpk) ((rootsT T.kids ts.length).take j) := row_same HKK.out (fun q hq => hg3.block q (hkbig q hq).2 (fun e => hkg q hq (Option.some.inj e)))
          have n5 : w3.cell? ⟨w.heap.size, 5, none⟩ = some (.slice adk j cpk) := by rw [Lib.cell_of_heap hn3]; rfl
          have l5 := lt_cell n5
          obtain ⟨W4, hW4⟩ : ∃ W4, W4 = w3.alloc (.cells #[.int .i64 ((c1 : Int) - 1)] 3) := ⟨_, rfl⟩
          have hb4 : Below w3.heap.size w3 W4 := by rw [hW4]; exact bel_alloc (Below.refl _ _) _
          have hh4 : W4.heap[w3.heap.size]? = some (.cells #[.int .i64 ((c1 : Int) - 1)] 3 (0, 0)) := by rw [hW4]; exact heap_alloc_new w3 _
          have hs4 : W4.heap.size = w3.heap.size + 1 := by rw [hW4]; simp
          have hk4 := hk3'
          unfold KidRow at hk4
          rw [HKL0.out] at hk4
          have HOW4 := hide (row_keep hb4 hk4)
          have HTM3 := hide htm3
          have HG3 := hide hg3
          have HN3 := hide hn3
          have HB4 := hide hb4
          have hor3' := hor3
          have HS4 := hide hs4
          have hwc : IntKind.i64.wrap ((c1 : Int) - 1) = (c1 : Int) - 1 := by rw [IntKind.wrap_i64]; omega
          clear htm3 hg3 hn3 hk3' hk4 hb4 HCF b5 bk hs4
          go_wp2_with (first
            | (at_builtin
               rw [← hW4]
               refine wpList_append_lies _ rfl _ _ 65 rfl V1.heap.size 3 i3 (.int .i64 0) 1 8 Tryz.underlying65 hi3 hz3 hs3 hb3 rfl (by omega) (.slice adk j cpk) j (((rootsT T.kids ts.length).take j).map (Value.int .i64)) rfl HOW4.out ⟨w3.heap.size, 0, none⟩ 1 1 [.int .i64 ((c1 : Int) - 1)] rfl rfl (World.news_of_block (cs := #[.int .i64 ((c1 : Int) - 1)]) (t := 3) (fr := (0, 0)) hh4) (by intro u hu; simp at hu; rcases hu with rfl; rfl) (by omega) (by unfold maxLen; omega) (by omega) (by have := HB4.out.size; omega) W4.heap.size rfl ?_
               intro k5 cap5 w5 hown5 hgrow5 hat5 hlt5
               first | rw [← hW4] at hgrow5 | skip
               have hs4 := HS4.out
               have hat5' : (Value.slice adk j cpk).ownBlock = some k5 ∨ k5 = W4.heap.size := by rcases hat5 with h | h; exact .inl h; exact .inr (by omega)
               have hn5 : w5.heap[w.heap.size]? = some (.cells #[.int .i64 T.hd.k, .int .i64 T.hd.n, .int .i64 T.hd.m, .string T.hd.s, .slice adl T.hd.lv.length cpl, .slice adk j cpk] 67 (0, 0)) := by
                 rw [hgrow5.block _ (by omega) (fun e => by have := (hkbig _ e.symm).1; omega), HB4.out.block _ (by omega)]
                 exact HN3.out
               have m5 : w5.cell? ⟨w.heap.size, 5, none⟩ = some (.slice adk j cpk) := by rw [Lib.cell_of_heap hn5]; rfl
               have f5 : w5.frozen? ⟨w.heap.size, 5, none⟩ = false := Lib.frozen_of_heap hn5 5
               have ml5 := lt_cell m5
               have HN5 := hide hn5
               have HOW5 := hide hown5
               have HGR5 := hide hgrow5
               have HAT5 := hide hat5'
               clear hown5 hgrow5 hat5 hat5' hn5 hs4 n5 l5)
            | fail)
          obtain ⟨W6, hW6⟩ : ∃ W6, W6 = w5.setCell ⟨w.heap.size, 5, none⟩ (.slice (some ⟨k5, 0, none⟩) (j + 1) cap5) := ⟨_, rfl⟩
          have hs4 := HS4.out
          have hs5 := HGR5.out.size
          have hs6 : W6.heap.size = w5.heap.size := by rw [hW6, size_set]
          have hh6 : ∀ k, k ≠ w.heap.size → W6.heap[k]? = w5.heap[k]? := fun k hk => by rw [hW6]; exact Below.heap_setCell w5 _ _ k hk
          have hk5 : k5 ≠ w.heap.size := by
            rcases HAT5.out with h | h
            · have := (hkbig _ h).1; omega
            · omega
          have HN6 : Hid (W6.heap[w.heap.size]? = some (.cells #[.int .i64 T.hd.k, .int .i64 T.hd.n, .int .i64 T.hd.m, .string T.hd.s, .slice adl T.hd.lv.length cpl, .slice (some ⟨k5, 0, none⟩) (j + 1) cap5] 67 (0, 0))) := by show _ = _; rw [hW6]; exact (set_cells6 HN5.out _).2
          have HK6 : Hid (KidRow V1.heap.size W6 (.slice (some ⟨k5, 0, none⟩) (j + 1) cap5) ((rootsT T.kids ts.length).take (j + 1))) := by
            show KidRow _ _ _ _
            have hl : ((rootsT T.kids ts.length).take (j + 1)).length = j + 1 := by rw [HRT.out, List.length_append, HKL0.out]; rfl
            unfold KidRow
            rw [hl, HRT.out, List.map_append, hW6]
            exact own_set HOW5.out (p := ⟨w.heap.size, 5, none⟩) hk5 _
          have hchg : ∀ k : Nat, k < w3.heap.size → k ≠ w.heap.size → (Value.slice adk j cpk).ownBlock ≠ some k → W6.heap[k]? = w3.heap[k]? := fun k hk hkn hkk => by
            rw [hh6 k hkn, HGR5.out.block k (by omega) (fun e => hkk e.symm)]
            exact HB4.out.block k hk
          have hg3n : g3 ≠ w.heap.size ∧ (g3 = g ∨ V1.heap.size ≤ g3) := by
            rcases hor3' with h | h
            · rw [h]; exact ⟨hgg.1, HGG.out⟩
            · exact ⟨by omega, .inr (by omega)⟩
          have hg3k : (Value.slice adk j cpk).ownBlock ≠ some g3 := fun e => by
            rcases hor3' with h | h
            · exact hkg _ e h
            · have := (hkbig _ e).2; omega
          have HT6 : Hid (TmQ (fun b => (Q b ∧ b < w.heap.size ∨ V1.heap.size ≤ b) ∧ b ≠ g3 ∧ (Value.slice (some ⟨k5, 0, none⟩) (j + 1) cap5).ownBlock ≠ some b) w0.heap.size W6 (.slice (some ⟨g3, 0, none⟩) c1 cap3) (ts ++ flatT (T.kids.take (j + 1)) ts.length)) := by
            show TmQ _ _ _ _ _
            refine HTM3.out.keep (by omega) (fun q hq => ?_) (fun b hb hl => ?_)
            · have e : q = g3 := by simp [Value.ownBlock] at hq; omega
              subst e
              obtain ⟨xs, ho, _⟩ := HTM3.out
              rw [show (ts ++ flatT (T.kids.take (j + 1)) ts.length).length = c1 by rw [flat_lenT, HC1.out]] at ho
              exact hchg q (World.ownsRow.lt ho q rfl).2 hg3n.1 hg3k
            · have hbk : (Value.slice adk j cpk).ownBlock ≠ some b := by
                rcases hb with h | h
                · exact h.1.2.2
                · intro e; have := (hkbig _ e).2; omega
              have hb1 : Q b ∧ b < w.heap.size ∨ V1.heap.size ≤ b := by
                rcases hb with h | h
                · exact h.1.1
                · exact .inr (by omega)
              have hbg : b ≠ g3 := by
                rcases hb with h | h
                · rcases hor3' with h2 | h2
                  · rw [h2]; exact h.1.2.1
                  · omega
                · exact h.2
              refine ⟨⟨hb1, hbg, fun e => ?_⟩, hchg b hl (by rcases hb1 with h | h <;> omega) hbk⟩
              have e : k5 = b := by simpa [Value.ownBlock] using e
              rcases HAT5.out with h | h
              · rw [e] at h; exact hbk h
              · omega
          have HSM6 : Hid (∀ b : Nat, w.heap.size < b → b < V1.heap.size → W6.heap[b]? = V1.heap[b]?) := fun b q1 q2 => by
            rw [hchg b (by omega) (by omega) (fun e => by have := (hkbig _ e).1; omega), HG3.out.block b (by omega) (fun e => by have := Option.some.inj e; omega)]
            exact HSM.out b q1 q2
          have HGW6 : Hid (w.grownBy W6 (some g)) := by
            show w.grownBy W6 (some g)
            refine ⟨by rw [hW6]; exact HGR5.out.os.trans (HB4.out.os.trans (HG3.out.os.trans HGW.out.os)), by rw [hW6]; exact HGR5.out.tape.trans (HB4.out.tape.trans (HG3.out.tape.trans HGW.out.tape)), by rw [hW6]; exact HGR5.out.output.trans (HB4.out.output.trans (HG3.out.output.trans HGW.out.output)), by omega, fun k hk hkg2 => ?_⟩
            rw [hchg k (by omega) (by omega) (fun e => by have := (hkbig _ e).1; omega), HG3.out.block k (by omega) (fun e => by
              have e := Option.some.inj e
              rcases HGG.out with h | h
              · exact hkg2 (by rw [e, h])
              · omega)]
            exact HGW.out.block k hk hkg2
          have HGG6 : Hid (g3 = g ∨ V1.heap.size ≤ g3) := hg3n.2
          have HSZ6 : Hid (V1.heap.size ≤ W6.heap.size) := by show _ ≤ _; omega
          rw [HC1.out] at HT6
          clear HTM3 HG3 HN3 HB4 HOW4 HOW5 HGR5 HAT5 hh6 hchg HTK
          rw [← hW6]
          clear hW6
          go_roundw
          case rel => exact ⟨j + 1, g3, cap3, cap5, some ⟨k5, 0, none⟩, HQ1.out, by go_num, by rw [HC1.out], HN6, HK6, HT6, HGG6, HSM6, HGW6, HSZ6⟩
          case measure => have := HQ1.out; simp [intOf]; omega
        · have hlt' : ¬ (j : Int) < T.kids.length := by omega
          have e : j = T.kids.length := by omega
          subst e
          have hT := HTK.out
          have hK := HKK.out
          rw [List.take_length] at hT
          rw [show (rootsT T.kids ts.length).take T.kids.length = rootsT T.kids ts.length by rw [← rootsT_len T.kids ts.length, List.take_length]] at hK
          have hcT := HCK.out
          have HT2 := hide hT
          have HK2 := hide hK
          have n0 : wr.cell? ⟨w.heap.size, 0, none⟩ = some (.int .i64 T.hd.k) := by rw [Lib.cell_of_heap HNK.out]; rfl
          have n1 : wr.cell? ⟨w.heap.size, 1, none⟩ = some (.int .i64 T.hd.n) := by rw [Lib.cell_of_heap HNK.out]; rfl
          have n2 : wr.cell? ⟨w.heap.size, 2, none⟩ = some (.int .i64 T.hd.m) := by rw [Lib.cell_of_heap HNK.out]; rfl
          have n3 : wr.cell? ⟨w.heap.size, 3, none⟩ = some (.string T.hd.s) := by rw [Lib.cell_of_heap HNK.out]; rfl
          have n4 : wr.cell? ⟨w.heap.size, 4, none⟩ = some (.slice adl T.hd.lv.length cpl) := by rw [Lib.cell_of_heap HNK.out]; rfl
          have n5 : wr.cell? ⟨w.heap.size, 5, none⟩ = some (.slice adk T.kids.length cpk) := by rw [Lib.cell_of_heap HNK.out]; rfl
          rw [List.take_length]
          obtain ⟨W4, hW4⟩ : ∃ W4, W4 = wr.alloc (.cells #[.int .i64 T.hd.k, .int .i64 T.hd.n, .int .i64 T.hd.m, .string T.hd.s, .slice adl T.hd.lv.length cpl, .slice adk T.kids.length cpk] 67) := ⟨_, rfl⟩
          have hb4 : Below wr.heap.size wr W4 := by rw [hW4]; exact bel_alloc (Below.refl _ _) _
          have hh4 : W4.heap[wr.heap.size]? = some (.cells #[.int .i64 T.hd.k, .int .i64 T.hd.n, .int .i64 T.hd.m, .string T.hd.s, .slice adl T.hd.lv.length cpl, .slice adk T.kids.length cpk] 67 (0, 0)) := by rw [hW4]; exact heap_alloc_new wr _
          have hs4 : W4.heap.size = wr.heap.size + 1 := by rw [hW4]; simp
          have hfl : (ts ++ flatT T.kids ts.length).length = ts.length + cntT T.kids := by rw [List.length_append, flatT_len]
          obtain ⟨c1, hc1⟩ : ∃ c1, c1 = ts.length + cntT T.kids := ⟨_, rfl⟩
          have HC1 := hide hc1
          rw [← hc1]
          rw [← hc1] at HT2
          have hc1b : c1 ≤ 100000 := by omega
          obtain ⟨xs, ho, hx⟩ := HT2.out
          rw [hfl, ← hc1] at ho
          have HHO := hide ho
          have HOW4 := hide (row_keep hb4 ho)
          have HB4 := hide hb4
          have HS4 := hide hs4
          have hg2l := (World.ownsRow.lt ho g2 rfl).2
          have HX := hide hx
          have hkg : ∀ q, (Value.slice adk T.kids.length cpk).ownBlock = some q → q ≠ g2 := fun q hq e => by
            obtain ⟨cs, hcs⟩ := row_tag ho
            rcases HK2.out.2 with ⟨h1, _⟩ | ⟨q', cp', cur, h1, _, h4, _⟩
            · rw [h1] at hq; simp [Value.ownBlock] at hq
            · rw [h1] at hq
              have e1 : q' = q := by simpa [Value.ownBlock] using hq
              rw [e1, e, hcs] at h4
              have h5 := Option.some.inj h4
              injection h5 with _ h6 _
              cases h6
          have HFL := hide hfl
          have hcT' : c1 + 1 = ts.length + T.cnt := by omega
          have HCT := hide hcT'
          clear hT hK ho hx hfl hc1 hcT hcT' HTK HKK hb4 hs4
          go_wp2_with (first
            | (at_builtin
               rw [← hW4]
               refine wpList_append_lies _ rfl _ _ 26 rfl w0.heap.size 67 i67 (.agg #[.int .i64 0, .int .i64 0, .int .i64 0, .string ⟨#[]⟩, .slice none 0 0, .slice none 0 0]) 6 88 Tryz.underlying26 hi67 hz67 hs67 hb67 rfl (by omega) (.slice (some ⟨g2, 0, none⟩) c1 cap2) c1 xs rfl HOW4.out ⟨wr.heap.size, 0, none⟩ 1 1 [.int .i64 T.hd.k, .int .i64 T.hd.n, .int .i64 T.hd.m, .string T.hd.s, .slice adl T.hd.lv.length cpl, .slice adk T.kids.length cpk] rfl rfl (World.news_of_block (cs := #[.int .i64 T.hd.k, .int .i64 T.hd.n, .int .i64 T.hd.m, .string T.hd.s, .slice adl T.hd.lv.length cpl, .slice adk T.kids.length cpk]) (t := 67) (fr := (0, 0)) hh4) (by intro u hu; simp at hu; rcases hu with rfl | rfl | rfl | rfl | rfl | rfl <;> rfl) (by omega) (by unfold maxLen; omega) (by omega) (by have := HB4.out.size; omega) W4.heap.size rfl ?_
               intro g5 cap5 w5 hown5 hgrow5 hat5 hlt5
               first | rw [← hW4] at hgrow5 | skip
               have hs4 := HS4.out
               have hat5' : g2 = g5 ∨ g5 = W4.heap.size := by rcases hat5 with h | h; exact .inl (Option.some.inj h); exact .inr (by omega)
               have HOW5 := hide hown5
               have HGR5 := hide hgrow5
               have HAT5 := hide hat5'
               clear hown5 hgrow5 hat5 hat5' hs4)
            | fail)
          go_ret
          have hs4 := HS4.out
          have hs5 := HGR5.out.size
          have hg5n : g5 = g ∨ w.heap.size ≤ g5 := by
            rcases HAT5.out with h | h
            · rw [← h]; rcases HGG.out with h2 | h2
              · exact .inl h2
              · exact .inr (by omega)
            · exact .inr (by omega)
          have hg5v : g5 ≤ w.heap.size ∨ V1.heap.size ≤ g5 := by
            rcases HAT5.out with h | h
            · rcases HGG.out with h2 | h2 <;> omega
            · omega
          have hchg : ∀ k : Nat, k < wr.heap.size → k ≠ g2 → w5.heap[k]? = wr.heap[k]? := fun k hk hk2 => by
            rw [HGR5.out.block k (by omega) (fun e => hk2 (Option.some.inj e))]
            exact HB4.out.block k hk
          refine ⟨g5, cap5, by rw [← HCT.out]; rfl, ?_, ?_, hg5n⟩
          · have hfl := HFL.out
            rw [flat_kids T, ← List.append_assoc, ← HCT.out, HC1.out, ← hfl]
            refine TmQ.snoc (xs := xs) (W := wr) (v := .slice (some ⟨g2, 0, none⟩) c1 cap2) (td := T.hd.td (rootsT T.kids ts.length)) (by rw [hfl, ← HC1.out]; exact HHO.out) HX.out (by omega) (fun b hb hl => ⟨?_, hchg b hl hb.2.1⟩) ?_ (by rw [hfl, ← HC1.out]; exact HOW5.out)
            · rcases hb.1 with h | h
              · exact .inl h
              · refine .inr ⟨by omega, fun e => ?_⟩
                rcases HAT5.out with h2 | h2
                · exact hb.2.1 (by rw [e, h2])
                · omega
            · intro w' hw'
              constructor
              · refine (HV.out.same (w' := w') (fun b q1 q2 => ?_)).levs
                rw [hw' b (.inr ⟨by omega, by omega⟩) (by omega), hchg b (by omega) (by rcases HGG.out with h | h <;> omega)]
                exact HSM.out b (by omega) q2
              · have hk5 : KidRow V1.heap.size w' (.slice adk T.kids.length cpk) (rootsT T.kids ts.length) := row_same HK2.out (fun q hq => by
                  obtain ⟨q1, q2⟩ := hkbig q hq
                  have q3 := hkg q hq
                  rw [hw' q (.inr ⟨by omega, fun e => by rcases HAT5.out with h | h <;> omega⟩) (by omega)]
                  exact hchg q q2 q3)
                exact hk5.ints
          · refine ⟨HGR5.out.os.trans (HB4.out.os.trans HGW.out.os), HGR5.out.tape.trans (HB4.out.tape.trans HGW.out.tape), HGR5.out.output.trans (HB4.out.output.trans HGW.out.output), by omega, fun k hk hkg2 => ?_⟩
            rw [hchg k (by omega) (fun e => by
              rcases HGG.out with h | h
              · exact hkg2 (by rw [e, h])
              · omega)]
            exact HGW.out.block k hk hkg2
end Go.Proofs.YtjkkojefpecbfaaGreat
