/- What the specification's l3Spoil answers. -/
import Derived.Test.YtjkkojefpecbfaaGreatDrQ
import Derived.Deep.CutRange
import Derived.Test.YtjkkojefpecbfaaGreatSpF
namespace Go.Proofs.YtjkkojefpecbfaaGreat
open Go.ChangeShapes Go.WideShapes Go.ChangeAt Go.RowKit

/-- What is known while a node is spoiled: the row, the reader, what stays. -/
structure SpS (σ : Pl) (base lo R g cap B : Nat) (ts : List Td) (w wx : World) : Prop where
  rd : RdAt σ base wx R
  row : TmQ (fun b => b < B ∧ b ≠ g ∧ b ≠ R ∧ lo ≤ b) base wx (.slice (some ⟨g, 0, none⟩) ts.length cap) ts
  kept : ∀ b : Nat, b < B → b ≠ R → wx.heap[b]? = w.heap[b]?
  bel : Below base w wx
  size : B ≤ wx.heap.size
theorem SpS.keep {σ : Pl} {base lo R g cap B : Nat} {ts : List Td} {w wx wy : World} (h : SpS σ base lo R g cap B ts w wx) (hb : Below wx.heap.size wx wy) (hBb : base ≤ B) : SpS σ base lo R g cap B ts w wy :=
  ⟨h.rd.keep hb, h.row.keep hb.size (fun q hq => hb.block q (by obtain ⟨xs, h1, _⟩ := h.row; exact (h1.lt q hq).2)) (fun b hQ hl => ⟨hQ, hb.block b hl⟩), fun b h1 h2 => (hb.block b (by have := h.size; omega)).trans (h.kept b h1 h2), h.bel.trans (hb.mono (by have := h.size; omega)), by have := hb.size; have := h.size; omega⟩
/-- A block that is new changes. -/
theorem SpS.new {σ : Pl} {base lo R g cap B : Nat} {ts : List Td} {w wx wy : World} {q : Nat} (h : SpS σ base lo R g cap B ts w wx) (hg : wx.grownBy wy (some q)) (hq : B ≤ q) (hBb : base ≤ B) (hgB : g < B) (hRB : R < B) : SpS σ base lo R g cap B ts w wy :=
  ⟨h.rd.grown hg (by omega) (by omega), h.row.keep hg.size (fun x hx => hg.block x (by obtain ⟨xs, h1, _⟩ := h.row; exact (h1.lt x hx).2) (fun e => by have := Option.some.inj e; simp [Value.ownBlock] at hx; omega)) (fun b hQ hl => ⟨hQ, hg.block b hl (fun e => by have := Option.some.inj e; omega)⟩), fun b h1 h2 => (hg.block b (by have := h.size; omega) (fun e => by have := Option.some.inj e; omega)).trans (h.kept b h1 h2), h.bel.grown hg (by have := h.size; omega) (fun k hk => by have := Option.some.inj hk; omega), by have := hg.size; have := h.size; omega⟩
/-- The reader goes on. -/
theorem SpS.read {σ τ : Pl} {base lo R g cap B : Nat} {ts : List Td} {w wx wy : World} (h : SpS σ base lo R g cap B ts w wx) (hr : RdAt τ base wy R) (hg : wx.grownBy wy (some R)) (hgR : g ≠ R) (hBb : base ≤ B) : SpS τ base lo R g cap B ts w wy :=
  ⟨hr, h.row.keep hg.size (fun x hx => hg.block x (by obtain ⟨xs, h1, _⟩ := h.row; exact (h1.lt x hx).2) (fun e => by have := Option.some.inj e; simp [Value.ownBlock] at hx; omega)) (fun b hQ hl => ⟨hQ, hg.block b hl (fun e => by have := Option.some.inj e; omega)⟩), fun b h1 h2 => (hg.block b (by have := h.size; omega) (fun e => by have := Option.some.inj e; omega)).trans (h.kept b h1 h2), h.bel.grown hg (by have := h.size; omega) (fun k hk => by have := Option.some.inj hk; have := h.rd.lt; omega), by have := hg.size; have := h.size; omega⟩
theorem list_of {n : Nat} {P : Nat → Value → Prop} (h : ∀ i, i < n → ∃ u, P i u) : ∃ us : List Value, us.length = n ∧ ∀ i (q : i < us.length), P i us[i] := by
  induction n with
  | zero => exact ⟨[], rfl, fun i q => by simp at q⟩
  | succ n ih =>
    obtain ⟨us, h1, h2⟩ := ih (fun i hi => h i (by omega))
    obtain ⟨u, hu⟩ := h n (by omega)
    refine ⟨us ++ [u], by simp [h1], fun i q => ?_⟩
    by_cases e : i < us.length
    · rw [List.getElem_append_left e]; exact h2 i e
    · have e2 : i = us.length := by simp at q; omega
      subst e2
      simp
      rw [h1]
      exact hu
theorem nodes_one1 {w : World} {u : Value} {l : List Nd} (h : NodesAt w u l) : u.oneCell' = true := by
  obtain ⟨a, cap, rfl, _⟩ := h
  rfl
/-- What is written last: the node in its own block, its rows to be read in each world that keeps all but two blocks. -/
def FinR (g r lo nb : Nat) (w : World) (td : Td) : Prop :=
  ∃ lv kv, w.heap[nb]? = some (.cells #[.int .i64 td.k, .int .i64 td.n, .int .i64 td.m, .string td.s, lv, kv] 67 (0, 0)) ∧ (∃ a n c, lv = .slice a n c) ∧ (∃ a n c, kv = .slice a n c) ∧ TdQ (fun b => b ≠ g ∧ b ≠ r ∧ lo ≤ b) w lv kv td
theorem lev_elemQ {Q : Nat → Prop} {w : World} {la : Option Addr} {lc : Nat} {kv : Value} {td : Td} {us : List Value} (ht : TdQ Q w (.slice la td.lv.length lc) kv td) (hul : us.length = td.lv.length) (hus : ∀ i (h : i < us.length) b off, la = some ⟨b, off, none⟩ → w.cell? ⟨b, off + i, none⟩ = some us[i]) (w' : World) (hw : ∀ b : Nat, Q b → b < w.heap.size → w'.heap[b]? = w.heap[b]?) : ∀ i (h : i < us.length) (h2 : i < td.lv.length), NodesAt w' us[i] td.lv[i] := by
  intro i h h2
  have far : ∀ b off, la = some ⟨b, off, none⟩ → Q b := fun b off e => Classical.byContradiction fun hn => by
    have hb := lt_cell (hus i h b off e)
    obtain ⟨⟨a', cap', e1, _, _, hc⟩, _⟩ := ht (kill w b) (fun q hq _ => kill_ne w (fun eq => hn (eq ▸ hq)))
    obtain ⟨b', off', e2, hcell⟩ := hc (by omega)
    obtain ⟨u, q1, _⟩ := hcell i h2
    have e3 : la = a' := by injection e1
    rw [e3, e2] at e
    have e4 : b' = b := by injection e with e; injection e
    rw [e4, kill_at hb] at q1
    cases q1
  obtain ⟨⟨a', cap', e1, _, _, hc⟩, _⟩ := ht w' hw
  obtain ⟨b', off', e2, hcell⟩ := hc (by omega)
  obtain ⟨u, q1, q2⟩ := hcell i h2
  have e3 : la = some ⟨b', off', none⟩ := by rw [← e2]; injection e1
  have q3 := hus i h b' off' e3
  have q4 : w'.cell? ⟨b', off' + i, none⟩ = some us[i] := heap_cell (hw b' (far b' off' e3) (lt_cell q3)) q3
  rw [q1] at q4
  rw [← Option.some.inj q4]
  exact q2
theorem TmQ.put2 {Q Q2 : Nat → Prop} {base g cap : Nat} {w W : World} {ts : List Td} (hQ : ∀ b, Q b → Q2 b) (hQ2 : ∀ b, Q2 b → b ≠ g) (h : TmQ Q base w (.slice (some ⟨g, 0, none⟩) ts.length cap) ts) (p : Nat) (hp : p < ts.length) (td : Td) (lv kv : Value) (ht : TdQ Q2 w lv kv td)
    (hW : W = (((((w.setCell ⟨g, p * 6, none⟩ (.int .i64 td.k)).setCell ⟨g, p * 6 + 1, none⟩ (.int .i64 td.n)).setCell ⟨g, p * 6 + 2, none⟩ (.int .i64 td.m)).setCell ⟨g, p * 6 + 3, none⟩ (.string td.s)).setCell ⟨g, p * 6 + 4, none⟩ lv).setCell ⟨g, p * 6 + 5, none⟩ kv) :
    TmQ Q2 base W (.slice (some ⟨g, 0, none⟩) ts.length cap) (ts.set p td) := by
  obtain ⟨xs, h1, h2⟩ := h
  have hg : w.grownBy W (some g) := by rw [hW]; exact grown_set6 w g (p * 6) _ _ _ _ _ _
  have h3 := own_set6 h1 (p * 6) (.int .i64 td.k) (.int .i64 td.n) (.int .i64 td.m) (.string td.s) lv kv
  rw [← hW] at h3
  have hx := own_len h1
  have hat := set6_at xs p (.int .i64 td.k) (.int .i64 td.n) (.int .i64 td.m) (.string td.s) lv kv (by omega)
  have hfar := fun j => set6_far xs p j (.int .i64 td.k) (.int .i64 td.n) (.int .i64 td.m) (.string td.s) lv kv
  have hl : (ts.set p td).length = ts.length := List.length_set
  have hkeep : ∀ b : Nat, b ≠ g → b < w.heap.size → W.heap[b]? = w.heap[b]? := fun b hb hl => hg.block b hl (fun e => hb (Option.some.inj e))
  refine ⟨_, by rw [hl]; exact h3, fun i hi => ?_⟩
  have hi' : i < ts.length := by omega
  by_cases e : i = p
  · subst e
    have he : (ts.set i td)[i] = td := by simp
    rw [he]
    exact ⟨hat 0 (by omega), hat 1 (by omega), hat 2 (by omega), hat 3 (by omega), lv, kv, hat 4 (by omega), hat 5 (by omega), ht.to hg.size (fun b hb hl => ⟨hb, hkeep b (hQ2 b hb) hl⟩)⟩
  · have he : (ts.set p td)[i] = ts[i] := by simp [Ne.symm e]
    rw [he]
    obtain ⟨a, b, c, d, lv', kv', e', f', g'⟩ := h2 i hi'
    refine ⟨?_, ?_, ?_, ?_, lv', kv', ?_, ?_, g'.to hg.size (fun b hb hl => ⟨hQ b hb, hkeep b (hQ2 b (hQ b hb)) hl⟩)⟩
    · rw [hfar _ (fun o ho => by omega)]; exact a
    · rw [hfar _ (fun o ho => by omega)]; exact b
    · rw [hfar _ (fun o ho => by omega)]; exact c
    · rw [hfar _ (fun o ho => by omega)]; exact d
    · rw [hfar _ (fun o ho => by omega)]; exact e'
    · rw [hfar _ (fun o ho => by omega)]; exact f'
/-- A world that keeps all but two blocks. -/
abbrev Kpl (g r lo : Nat) (wx w' : World) : Prop := ∀ b : Nat, b ≠ g ∧ b ≠ r ∧ lo ≤ b → b < wx.heap.size → w'.heap[b]? = wx.heap[b]?
theorem fin_gen {B g r lo nb g9 cap9 : Nat} {wx : World} {td : Td} {us : List Value} {kv : Value} (hn : wx.heap[nb]? = some (.cells #[.int .i64 td.k, .int .i64 td.n, .int .i64 td.m, .string td.s, .slice (some ⟨g9, 0, none⟩) td.lv.length cap9, kv] 67 (0, 0))) (hkv : ∃ a n c, kv = .slice a n c) (hl : wx.ownsRow B 111 1 (.slice (some ⟨g9, 0, none⟩) td.lv.length cap9) td.lv.length us) (hgB : g < B ∧ lo ≤ B) (hr9 : g9 ≠ r) (hk : ∀ w' : World, Kpl g r lo wx w' → IntsAt w' kv td.kids) (he : ∀ w' : World, Kpl g r lo wx w' → ∀ i (h : i < us.length) (h2 : i < td.lv.length), NodesAt w' us[i] td.lv[i]) : FinR g r lo nb wx td := by
  refine ⟨_, _, hn, ⟨_, _, _, rfl⟩, hkv, fun w' hw' => ⟨?_, hk w' hw'⟩⟩
  have hr : w'.ownsRow B 111 1 (.slice (some ⟨g9, 0, none⟩) td.lv.length cap9) td.lv.length us := row_same hl (fun q hq => by have h9 := hl.lt q hq; exact hw' q ⟨by omega, by simp [Value.ownBlock] at hq; omega, by omega⟩ h9.2)
  obtain ⟨hc1, hc2⟩ := ownsRow_cap hr
  have hul := hr.1
  refine ⟨_, cap9, rfl, hc1, hc2, fun _ => ⟨g9, 0, rfl, fun i hi => ⟨us[i]'(by omega), ?_, he w' hw' i (by omega) hi⟩⟩⟩
  rw [Nat.zero_add, hr.cellAt i (by omega)]
  exact List.getElem?_eq_getElem (by omega)
theorem fin_mk {B g r lo nb g9 g6 cap9 cap6 : Nat} {wx : World} {td : Td} {us : List Value} (hn : wx.heap[nb]? = some (.cells #[.int .i64 td.k, .int .i64 td.n, .int .i64 td.m, .string td.s, .slice (some ⟨g9, 0, none⟩) td.lv.length cap9, .slice (some ⟨g6, 0, none⟩) td.kids.length cap6] 67 (0, 0))) (hl : wx.ownsRow B 111 1 (.slice (some ⟨g9, 0, none⟩) td.lv.length cap9) td.lv.length us) (hk : wx.ownsRow B 3 1 (.slice (some ⟨g6, 0, none⟩) td.kids.length cap6) td.kids.length (td.kids.map (Value.int .i64))) (hgB : g < B ∧ lo ≤ B) (hr9 : g9 ≠ r) (hr6 : g6 ≠ r) (he : ∀ w' : World, Kpl g r lo wx w' → ∀ i (h : i < us.length) (h2 : i < td.lv.length), NodesAt w' us[i] td.lv[i]) : FinR g r lo nb wx td := by
  refine fin_gen hn ⟨_, _, _, rfl⟩ hl hgB hr9 (fun w' hw' => ?_) he
  have hr : w'.ownsRow B 3 1 (.slice (some ⟨g6, 0, none⟩) td.kids.length cap6) td.kids.length (td.kids.map (Value.int .i64)) := row_same hk (fun q hq => by have h9 := hk.lt q hq; exact hw' q ⟨by omega, by simp [Value.ownBlock] at hq; omega, by omega⟩ h9.2)
  obtain ⟨hc1, hc2⟩ := ownsRow_cap hr
  refine ⟨_, cap6, rfl, hc1, hc2, fun _ => ⟨g6, 0, rfl, fun i hi => ?_⟩⟩
  rw [Nat.zero_add, hr.cellAt i (by omega), List.getElem?_map, List.getElem?_eq_getElem hi]
  rfl
theorem NdRow.same {B : Nat} {Q : Nat → Prop} {w w' : World} {g cap : Nat} {ns : List Nd} (h : NdRow B Q w g cap ns) (hw : ∀ b : Nat, B ≤ b → b < w.heap.size → w'.heap[b]? = w.heap[b]?) : NdRow B Q w' g cap ns := by
  obtain ⟨xs, h1, h2⟩ := h
  refine ⟨xs, row_same h1 (fun q hq => hw q (h1.lt q hq).1 (h1.lt q hq).2), fun i hi => ?_⟩
  obtain ⟨a, b, kv, c, d, e⟩ := h2 i hi
  exact ⟨a, b, kv, c, row_same d (fun q hq => hw q (World.ownsRow.lt d q hq).1 (World.ownsRow.lt d q hq).2), e⟩
theorem fin_lv {B g r lo nb g9 g6 cap9 cap6 : Nat} {wx : World} {nd : Td} {us : List Value} {u : Value} {N : List Nd} (hn : wx.heap[nb]? = some (.cells #[.int .i64 nd.k, .int .i64 nd.n, .int .i64 nd.m, .string nd.s, .slice (some ⟨g9, 0, none⟩) (nd.lv.length + 1) cap9, .slice (some ⟨g6, 0, none⟩) nd.kids.length cap6] 67 (0, 0))) (hl : wx.ownsRow B 111 1 (.slice (some ⟨g9, 0, none⟩) (nd.lv.length + 1) cap9) (nd.lv.length + 1) (us ++ [u])) (hk : wx.ownsRow B 3 1 (.slice (some ⟨g6, 0, none⟩) nd.kids.length cap6) nd.kids.length (nd.kids.map (Value.int .i64))) (hgB : g < B ∧ lo ≤ B) (hr9 : g9 ≠ r) (hr6 : g6 ≠ r) (hul : us.length = nd.lv.length) (he : ∀ w' : World, Kpl g r lo wx w' → ∀ i (h : i < us.length) (h2 : i < nd.lv.length), NodesAt w' us[i] nd.lv[i]) (he2 : ∀ w' : World, Kpl g r lo wx w' → NodesAt w' u N) : FinR g r lo nb wx ⟨nd.k, nd.n, nd.m, nd.s, nd.lv ++ [N], nd.kids⟩ := by
  have hlen : nd.lv.length + 1 = (nd.lv ++ [N]).length := by simp
  rw [hlen] at hn hl
  refine fin_mk (td := ⟨nd.k, nd.n, nd.m, nd.s, nd.lv ++ [N], nd.kids⟩) hn hl hk hgB hr9 hr6 (fun w' hw' i h h2 => ?_)
  by_cases e : i < us.length
  · have e2 : i < nd.lv.length := by omega
    rw [List.getElem_append_left e]
    show NodesAt w' us[i] (nd.lv ++ [N])[i]
    rw [List.getElem_append_left e2]
    exact he w' hw' i e e2
  · have e2 : i = us.length := by simp at h; omega
    subst e2
    have e3 : (us ++ [u])[us.length] = u := by simp
    have e4 : (nd.lv ++ [N])[us.length]'h2 = N := by rw [List.getElem_append_right (by omega)]; simp [hul]
    rw [e3]
    show NodesAt w' u ((nd.lv ++ [N])[us.length]'h2)
    rw [e4]
    exact he2 w' hw'
theorem fin_kid {B g r lo nb g9 g6 cap9 cap6 : Nat} {wx : World} {nd : Td} {us : List Value} {c : Int} (hn : wx.heap[nb]? = some (.cells #[.int .i64 nd.k, .int .i64 nd.n, .int .i64 nd.m, .string nd.s, .slice (some ⟨g9, 0, none⟩) nd.lv.length cap9, .slice (some ⟨g6, 0, none⟩) (nd.kids.length + 1) cap6] 67 (0, 0))) (hl : wx.ownsRow B 111 1 (.slice (some ⟨g9, 0, none⟩) nd.lv.length cap9) nd.lv.length us) (hk : wx.ownsRow B 3 1 (.slice (some ⟨g6, 0, none⟩) (nd.kids.length + 1) cap6) (nd.kids.length + 1) (nd.kids.map (Value.int .i64) ++ [.int .i64 c])) (hgB : g < B ∧ lo ≤ B) (hr9 : g9 ≠ r) (hr6 : g6 ≠ r) (he : ∀ w' : World, Kpl g r lo wx w' → ∀ i (h : i < us.length) (h2 : i < nd.lv.length), NodesAt w' us[i] nd.lv[i]) : FinR g r lo nb wx ⟨nd.k, nd.n, nd.m, nd.s, nd.lv, nd.kids ++ [c]⟩ := by
  have hlen : nd.kids.length + 1 = (nd.kids ++ [c]).length := by simp
  have hm : nd.kids.map (Value.int .i64) ++ [.int .i64 c] = (nd.kids ++ [c]).map (Value.int .i64) := by simp
  rw [hlen] at hn hk
  rw [hm] at hk
  exact fin_mk (td := ⟨nd.k, nd.n, nd.m, nd.s, nd.lv, nd.kids ++ [c]⟩) hn hl hk hgB hr9 hr6 he
theorem fin_set {B g r lo nb g9 g6 cap9 cap6 y : Nat} {wx : World} {nd : Td} {us : List Value} {c : Int} (hn : wx.heap[nb]? = some (.cells #[.int .i64 nd.k, .int .i64 nd.n, .int .i64 nd.m, .string nd.s, .slice (some ⟨g9, 0, none⟩) nd.lv.length cap9, .slice (some ⟨g6, 0, none⟩) nd.kids.length cap6] 67 (0, 0))) (hl : wx.ownsRow B 111 1 (.slice (some ⟨g9, 0, none⟩) nd.lv.length cap9) nd.lv.length us) (hk : wx.ownsRow B 3 1 (.slice (some ⟨g6, 0, none⟩) nd.kids.length cap6) nd.kids.length ((nd.kids.map (Value.int .i64)).set y (.int .i64 c))) (hgB : g < B ∧ lo ≤ B) (hr9 : g9 ≠ r) (hr6 : g6 ≠ r) (he : ∀ w' : World, Kpl g r lo wx w' → ∀ i (h : i < us.length) (h2 : i < nd.lv.length), NodesAt w' us[i] nd.lv[i]) : FinR g r lo nb wx ⟨nd.k, nd.n, nd.m, nd.s, nd.lv, nd.kids.set y c⟩ := by
  have hlen : nd.kids.length = (nd.kids.set y c).length := by simp
  have hm : (nd.kids.map (Value.int .i64)).set y (.int .i64 c) = (nd.kids.set y c).map (Value.int .i64) := by rw [List.map_set]
  rw [hm, hlen] at hk
  rw [hlen] at hn
  exact fin_mk (td := ⟨nd.k, nd.n, nd.m, nd.s, nd.lv, nd.kids.set y c⟩) hn hl hk hgB hr9 hr6 he
theorem set_at6 {w : World} {b : Nat} {v0 v1 v2 v3 v4 v5 : Value} (h : w.heap[b]? = some (.cells #[v0, v1, v2, v3, v4, v5] 67 (0, 0))) (u : Value) :
    (w.setCell ⟨b, 0, none⟩ u).heap[b]? = some (.cells #[u, v1, v2, v3, v4, v5] 67 (0, 0)) ∧ (w.setCell ⟨b, 1, none⟩ u).heap[b]? = some (.cells #[v0, u, v2, v3, v4, v5] 67 (0, 0)) ∧ (w.setCell ⟨b, 2, none⟩ u).heap[b]? = some (.cells #[v0, v1, u, v3, v4, v5] 67 (0, 0)) ∧ (w.setCell ⟨b, 3, none⟩ u).heap[b]? = some (.cells #[v0, v1, v2, u, v4, v5] 67 (0, 0)) := by
  unfold World.setCell
  refine ⟨?_, ?_, ?_, ?_⟩ <;> simp [Array.getElem?_modify, h]
/-- The place behind a term that is spoiled. -/
def spoilQ (ρ : Pl) : Pl := if ρ.n.v % 8 = 4 then anyP ρ.n.n else ρ.n.n
set_option maxRecDepth 20000 in
set_option maxHeartbeats 16000000 in
theorem l3Spoil_any (ρ : Pl) (base lo R g cap : Nat) (hlo : lo ≤ g) (ts : List Td) (w : World) (hr : RdAt ρ base w R) (hrow : TmQ (fun b => b ≠ g ∧ b ≠ R ∧ lo ≤ b) base w (.slice (some ⟨g, 0, none⟩) ts.length cap) ts) (hgR : g ≠ R) (hlen : 0 < ts.length) (hl2 : ts.length ≤ 100000) (hsm : ∀ td ∈ ts, td.lv.length ≤ 1048576 ∧ td.kids.length ≤ 3 ∧ ∀ c ∈ td.kids, -1000000 ≤ c ∧ c ≤ 1000000) :
    Calls Tryz.prog 135 #[.agg #[.slice (some ⟨g, 0, none⟩) ts.length cap], .pointer (some ⟨R, 0, none⟩)] w fun e w' => e = .returned (.agg #[.slice (some ⟨g, 0, none⟩) ts.length cap]) ∧ FrT lo w' (.slice (some ⟨g, 0, none⟩) ts.length cap) (spoilT ts ρ) ∧ Below base w w' ∧ (∀ b : Nat, b < w.heap.size → b ≠ R → b ≠ g → w'.heap[b]? = w.heap[b]?) ∧ (∀ td ∈ spoilT ts ρ, ∀ l ∈ td.lv, (∃ td0 ∈ ts, l ∈ td0.lv) ∨ (l.length ≤ 1000 ∧ SmallS l)) ∧ RdAt (spoilQ ρ) base w' R := by
  obtain ⟨i3, hi3, hz3, hs3, hb3⟩ := info_parts Tryz.info3
  obtain ⟨i111, hi111, hz111, hs111, hb111⟩ := info_parts Tryz.info111
  have hRlt := hr.lt
  have hglt : base ≤ g ∧ g < w.heap.size := by obtain ⟨xs, h1, _⟩ := hrow; exact h1.lt g rfl
  have hgB9 : g < w.heap.size ∧ lo ≤ w.heap.size := by omega
  obtain ⟨W1, hW1⟩ : ∃ W1, W1 = (w.alloc (.cells #[.slice (some ⟨g, 0, none⟩) ts.length cap] 28)).alloc (.cells #[.slice none 0 0] 28) := ⟨_, rfl⟩
  have hb1 : Below w.heap.size w W1 := by rw [hW1]; exact bel_alloc (bel_alloc (Below.refl _ _) _) _
  have hs1 : W1.heap.size = w.heap.size + 1 + 1 := by rw [hW1]; simp
  have c2 : W1.cell? ⟨w.heap.size, 0, none⟩ = some (.slice (some ⟨g, 0, none⟩) ts.length cap) := by rw [hW1]; simp [go_sem]
  have HX4 : Hid (W1.heap[w.heap.size + 1]? = some (.cells #[.slice none 0 0] 28 (0, 0))) := by show _ = _; rw [hW1]; exact heap_alloc_at _ _ (by simp)
  have HS1 : Hid (SpS ρ base lo R g cap w.heap.size ts w W1) := ⟨hr.keep hb1, hrow.keep hb1.size (fun q hq => hb1.block q (by simp [Value.ownBlock] at hq; omega)) (fun b hQ hl => ⟨⟨hl, hQ⟩, hb1.block b hl⟩), fun b h1 _ => hb1.block b h1, hb1.mono (by omega), by omega⟩
  have l2 := lt_cell c2
  have hne2 : ¬ (ts.length : Int) = 0 := by omega
  have hneb : ((ts.length : Int) == 0) = false := by rw [beq_eq_false_iff_ne]; omega
  have hne : ¬ ts = [] := by intro e; subst e; simp at hlen
  obtain ⟨T, hT⟩ : ∃ T, T = spoilT ts ρ := ⟨_, rfl⟩
  rw [← hT]
  have HT := hide hT
  have HSM := hide hsm
  have hs1' : w.heap.size + 1 < W1.heap.size := by omega
  clear hr hrow hb1 hT hsm hs1
  have HC2 := hide c2
  go_enter Tryz.func135, Tryz.ntmps135
  go_upto_region 1 with fail
  rw [← hW1]
  clear hW1
  go_cut [5] from 8 to 13 (fun u wx => ∃ p : Nat, u = .int .i64 (p : Int) ∧ p < ts.length ∧ Hid (p = ρ.v % ts.length) ∧ Hid (SpS ρ.n base lo R g cap w.heap.size ts w wx) ∧ Hid (wx.heap[w.heap.size]? = W1.heap[w.heap.size]?) ∧ Hid (wx.heap[w.heap.size + 1]? = W1.heap[w.heap.size + 1]?) ∧ Hid (W1.heap.size ≤ wx.heap.size))
  case first =>
    go_region_with (first
      | (go_at_call 80; refine (next_any R base _ (HS1.out.keep (by repeat (first | exact Below.refl _ _ | apply Below.drew)) (by omega)).rd).mono ?_; rintro e w5 ⟨v5, rfl, hv50, hv51, hr5, hg5, hve5⟩; have HS5 := hide (SpS.read (HS1.out.keep (by repeat (first | exact Below.refl _ _ | apply Below.drew)) (by omega)) hr5 hg5 hgR (by omega)); have hk5 := hg5.block w.heap.size (by show w.heap.size < W1.heap.size; omega) (fun e => by have := Option.some.inj e; omega); have hk6 := hg5.block (w.heap.size + 1) (by show w.heap.size + 1 < W1.heap.size; omega) (fun e => by have := Option.some.inj e; omega); have hsz5 := hg5.size; have c5 : w5.cell? ⟨w.heap.size, 0, none⟩ = some (.slice (some ⟨g, 0, none⟩) ts.length cap) := heap_cell hk5 c2; have l5 := lt_cell c5; obtain ⟨r5, hr5', hrl5⟩ := tmod_nat hv50 hlen; have HRE5 : Hid (r5 = ρ.v % ts.length) := (by { show _ = _; have h1 := hr5'; rw [hve5, tmod_is] at h1; omega }); clear hve5; have hwr : IntKind.i64.wrap (r5 : Int) = (r5 : Int) := by { rw [IntKind.wrap_i64]; omega })
      | fail)
    all_goals (go_wp2_with fail; go_meet; exact ⟨r5, rfl, hrl5, HRE5, HS5, hk5, hk6, hsz5⟩)
  case rest =>
    obtain ⟨p, rfl, hpl, HPE, HS2, HK5, HK6, HZ5⟩ := hcut
    have hz5 := HZ5.out
    clear c2 l2
    go_wp2_with fail
    refine (next_any R base _ HS2.out.rd).mono ?_
    rintro e w3 ⟨v, rfl, hv0, hv1, hr3, hg3, hve⟩
    have HS3 := hide (HS2.out.read hr3 hg3 hgR (by omega))
    have hsz3 := hg3.size
    have c3 : w3.heap[w.heap.size]? = W1.heap[w.heap.size]? := (hg3.block _ (by omega) (fun e => by have := Option.some.inj e; omega)).trans HK5.out
    have HX3 : Hid (w3.heap[w.heap.size + 1]? = some (.cells #[.slice none 0 0] 28 (0, 0))) := ((hg3.block _ (by omega) (fun e => by have := Option.some.inj e; omega)).trans HK6.out).trans HX4.out
    have HVE := hide hve
    obtain ⟨xs, hxo, hxn⟩ := HS3.out.row
    obtain ⟨y0, y1, y2, y3, lv, kv, y4, y5, hytd⟩ := hxn p hpl
    obtain ⟨hlv3, hkv3⟩ := hytd w3 (fun _ _ _ => rfl)
    have HTD := hide hytd
    have hxl := own_len hxo
    obtain ⟨hml, hmk, hmc⟩ := HSM.out ts[p] (List.getElem_mem hpl)
    have HMC := hide hmc
    have HNP : Hid (ts.getD (ρ.v % ts.length) ⟨0, 0, 0, ⟨#[]⟩, [], []⟩ = ts[p]) := by show _ = _; rw [← HPE.out]; simp [hpl]
    have b0 : w3.cell? ⟨g, p * 6, none⟩ = some (.int .i64 ts[p].k) := by rw [hxo.cellAt _ (by omega)]; exact y0
    have b1 : w3.cell? ⟨g, p * 6 + 1, none⟩ = some (.int .i64 ts[p].n) := by rw [hxo.cellAt _ (by omega)]; exact y1
    have b2 : w3.cell? ⟨g, p * 6 + 2, none⟩ = some (.int .i64 ts[p].m) := by rw [hxo.cellAt _ (by omega)]; exact y2
    have b3 : w3.cell? ⟨g, p * 6 + 3, none⟩ = some (.string ts[p].s) := by rw [hxo.cellAt _ (by omega)]; exact y3
    have b4 : w3.cell? ⟨g, p * 6 + 4, none⟩ = some lv := by rw [hxo.cellAt _ (by omega)]; exact y4
    have b5 : w3.cell? ⟨g, p * 6 + 5, none⟩ = some kv := by rw [hxo.cellAt _ (by omega)]; exact y5
    have HNM : Hid (ts[p] ∈ ts) := List.getElem_mem hpl
    generalize hnd : ts[p] = nd at *
    obtain ⟨la, lc, rfl, _, _, hlc⟩ := hlv3
    obtain ⟨ka, kc, rfl, _, _, hkc⟩ := hkv3
    have HLC : Hid (0 < nd.lv.length → ∃ b off, la = some ⟨b, off, none⟩ ∧ ∀ i (h : i < nd.lv.length), ∃ u, w3.cell? ⟨b, off + i, none⟩ = some u ∧ NodesAt w3 u nd.lv[i]) := hlc
    have HKC : Hid (0 < nd.kids.length → ∃ b off, ka = some ⟨b, off, none⟩ ∧ ∀ j (h : j < nd.kids.length), w3.cell? ⟨b, off + j, none⟩ = some (.int .i64 nd.kids[j])) := hkc
    have c2 : w3.cell? ⟨w.heap.size, 0, none⟩ = some (.slice (some ⟨g, 0, none⟩) ts.length cap) := heap_cell c3 HC2.out
    have l2 := lt_cell c2
    have lg := lt_cell b0
    have hpl' : (p : Int) < (ts.length : Int) := by omega
    clear hr3 hg3 hve y0 y1 y2 y3 y4 y5 hytd hlc hkc hxn hxo hxl hmc hnd c3
    obtain ⟨W4, hW4⟩ : ∃ W4, W4 = w3.alloc (.cells #[.int .i64 nd.k, .int .i64 nd.n, .int .i64 nd.m, .string nd.s, .slice la nd.lv.length lc, .slice ka nd.kids.length kc] 67) := ⟨_, rfl⟩
    have hb4 : Below w3.heap.size w3 W4 := by rw [hW4]; exact bel_alloc (Below.refl _ _) _
    go_upto_region 4 with fail
    rw [← hW4]
    have HS4 := hide (HS3.out.keep hb4 (by omega))
    have hs4 := hb4.size
    have HNB4 : Hid (W4.heap[w3.heap.size]? = some (.cells #[.int .i64 nd.k, .int .i64 nd.n, .int .i64 nd.m, .string nd.s, .slice la nd.lv.length lc, .slice ka nd.kids.length kc] 67 (0, 0))) := by show _ = _; rw [hW4]; exact heap_alloc_new w3 _
    have hsB : w.heap.size ≤ w3.heap.size := HS3.out.size
    have hnlt : w3.heap.size < W4.heap.size := (Array.getElem?_eq_some_iff.1 HNB4.out).1
    have HC2 := hide (keep_cell hb4 c2)
    have HX4' : Hid (W4.heap[w.heap.size + 1]? = some (.cells #[.slice none 0 0] 28 (0, 0))) := (hb4.block _ (by omega)).trans HX3.out
    have HC24 : Hid (W4.heap[w.heap.size]? = w3.heap[w.heap.size]?) := hb4.block _ l2
    have n5 : W4.cell? ⟨w3.heap.size, 5, none⟩ = some (.slice ka nd.kids.length kc) := by rw [Lib.cell_of_heap HNB4.out]; rfl
    obtain ⟨nb, hnb⟩ : ∃ nb, nb = w3.heap.size := ⟨_, rfl⟩
    have HKC4 : Hid (0 < nd.kids.length → ∃ b off, ka = some ⟨b, off, none⟩ ∧ ∀ j (h : j < nd.kids.length), W4.cell? ⟨b, off + j, none⟩ = some (.int .i64 nd.kids[j])) := fun h0 => by
      obtain ⟨b, off, h1, h2⟩ := HKC.out h0
      exact ⟨b, off, h1, fun j hj => keep_cell hb4 (h2 j hj)⟩
    obtain ⟨us, hul, hus⟩ := list_of (n := nd.lv.length) (P := fun i u => (∀ b off, la = some ⟨b, off, none⟩ → w3.cell? ⟨b, off + i, none⟩ = some u) ∧ ∀ (h : i < nd.lv.length), NodesAt w3 u nd.lv[i]) (fun i hi => by
      obtain ⟨b, off, rfl, h2⟩ := HLC.out (by omega)
      obtain ⟨u, q1, q2⟩ := h2 i hi
      exact ⟨u, fun b' off' e => by simp at e; obtain ⟨rfl, rfl⟩ := e; exact q1, fun _ => q2⟩)
    have HLE : Hid (∀ w' : World, (∀ b : Nat, b < w.heap.size → b ≠ g → b ≠ R → lo ≤ b → w'.heap[b]? = w3.heap[b]?) → ∀ i (h : i < us.length) (h2 : i < nd.lv.length), NodesAt w' us[i] nd.lv[i]) := fun w' hw => lev_elemQ HTD.out hul (fun i h b off e => (hus i h).1 b off e) w' (fun b hQ _ => hw b hQ.1 hQ.2.1 hQ.2.2.1 hQ.2.2.2)
    have HOD : Hid (∀ b : Nat, b < w3.heap.size → W4.heap[b]? = w3.heap[b]?) := fun b hb => hb4.block b hb
    have HUL := hide hul
    have HUS := hide hus
    clear HKC HLC hul hus hb4 c2 b0 b1 b2 b3 b4 b5 lg
    have hnB2 : w.heap.size + 1 < nb := by rw [hnb]; exact (Array.getElem?_eq_some_iff.1 HX3.out).1
    rw [← hnb] at HNB4 n5 hnlt HOD ⊢
    have hnw3 : nb = w3.heap.size := hnb
    have HNW := hide hnw3
    clear hnb hnw3
    obtain ⟨W5, hW5⟩ : ∃ W5, W5 = W4.alloc (.cells #[] 3) := ⟨_, rfl⟩
    have hb5 : Below W4.heap.size W4 W5 := by rw [hW5]; exact bel_alloc (Below.refl _ _) _
    have hs5 := hb5.size
    have hs5' : W4.heap.size < W5.heap.size := by rw [hW5]; simp
    have HO5 : Hid (W5.ownsRow w.heap.size 3 1 (.slice (some ⟨W4.heap.size, 0, none⟩) 0 0) 0 []) := by
      show World.ownsRow _ _ _ _ _ _ _
      rw [hW5]
      exact ⟨rfl, .inr ⟨W4.heap.size, 0, #[], rfl, by omega, heap_alloc_new W4 _, Nat.le_refl _, by unfold maxLen; omega, rfl, rfl⟩⟩
    have HSR5 : Hid (0 < nd.kids.length → ∃ b off, ka = some ⟨b, off, none⟩ ∧ ∀ j (h : j < (nd.kids.map (Value.int .i64)).length), W5.cell? ⟨b, off + j, none⟩ = some (nd.kids.map (Value.int .i64))[j]) := fun h0 => by
      obtain ⟨b, off, h1, h2⟩ := HKC4.out h0
      exact ⟨b, off, h1, fun j hj => by
        have hj' : j < nd.kids.length := by simpa using hj
        rw [List.getElem_map]
        exact keep_cell hb5 (h2 j hj')⟩
    have HON5 : Hid (∀ u ∈ nd.kids.map (Value.int .i64), u.oneCell' = true) := fun u hu => by obtain ⟨y, _, rfl⟩ := List.mem_map.1 hu; rfl
    have HS5 := hide (HS4.out.keep hb5 (by omega))
    have HNB5 : Hid (W5.heap[nb]? = _) := (hb5.block _ hnlt).trans HNB4.out
    have n5' := keep_cell hb5 n5
    have ln5 := lt_cell n5'
    have HB5 := hide hb5
    clear hb5 hW4
    go_upto_region 5 with (first
      | (at_builtin
         rw [← hW5]
         refine wpList_copy rfl _ _ 65 3 rfl i3 (.int .i64 0) 8 Tryz.underlying65 hi3 hz3 hs3 hb3 rfl W4.heap.size w.heap.size rfl HO5.out ka nd.kids.length kc (nd.kids.map (Value.int .i64)) rfl (by simp) HSR5.out HON5.out (by omega) (by omega) (by omega) ?_
         intro g6 cap6 w6 hown6 hgrow6 hat6 hlt6
         have hnb6 : w6.heap[nb]? = some (.cells #[.int .i64 nd.k, .int .i64 nd.n, .int .i64 nd.m, .string nd.s, .slice la nd.lv.length lc, .slice ka nd.kids.length kc] 67 (0, 0)) := (hgrow6.block nb (by omega) (fun e => by have := Option.some.inj e; omega)).trans HNB5.out
         have n5 : w6.cell? ⟨nb, 5, none⟩ = some (.slice ka nd.kids.length kc) := by { rw [Lib.cell_of_heap hnb6]; rfl }
         have f5 : w6.frozen? ⟨nb, 5, none⟩ = false := Lib.frozen_of_heap hnb6 5
         have ln6 := lt_cell n5)
      | fail)
    obtain ⟨W7, hW7⟩ : ∃ W7, W7 = w6.setCell ⟨nb, 5, none⟩ (.slice (some ⟨g6, 0, none⟩) nd.kids.length cap6) := ⟨_, rfl⟩
    rw [← hW7]
    have hg6s := hgrow6.size
    have hgs7 : w6.grownBy W7 (some nb) := by rw [hW7]; exact grown_set w6 ⟨nb, 5, none⟩ _
    have hgs7s := hgs7.size
    have hg6n : nb < g6 := by omega
    have HS7 := hide ((HS5.out.new hgrow6 (by omega) (by omega) hglt.2 hRlt.2).new hgs7 (by omega) (by omega) hglt.2 hRlt.2)
    have HNB7 : Hid (W7.heap[nb]? = some (.cells #[.int .i64 nd.k, .int .i64 nd.n, .int .i64 nd.m, .string nd.s, .slice la nd.lv.length lc, .slice (some ⟨g6, 0, none⟩) nd.kids.length cap6] 67 (0, 0))) := by show _ = _; rw [hW7]; exact (set_cells6 hnb6 _).2
    have HK7 : Hid (W7.ownsRow w.heap.size 3 1 (.slice (some ⟨g6, 0, none⟩) nd.kids.length cap6) nd.kids.length (nd.kids.map (Value.int .i64))) := row_same hown6 (fun q hq => hgs7.block q (by simp [Value.ownBlock] at hq; omega) (fun e => by have := Option.some.inj e; simp [Value.ownBlock] at hq; omega))
    have HOD7 : Hid (∀ b : Nat, b < nb → W7.heap[b]? = w3.heap[b]?) := fun b hb => by
      rw [hgs7.block b (by omega) (fun e => by have := Option.some.inj e; omega), hgrow6.block b (by omega) (fun e => by have := Option.some.inj e; omega), HB5.out.block b (by omega)]
      exact HOD.out b hb
    have n4 : W7.cell? ⟨nb, 4, none⟩ = some (.slice la nd.lv.length lc) := by rw [Lib.cell_of_heap HNB7.out]; rfl
    have ln4 := lt_cell n4
    have hg67 : g6 < W7.heap.size := by omega
    have hw37 : W4.heap.size < W7.heap.size := by omega
    clear hW7 hown6 hgrow6 hat6 hlt6 hnb6 n5 f5 ln6 hgs7 n5' ln5 HO5 HSR5 HON5 HS5 HNB5 HB5 hW5 HS4 HNB4 HKC4 hs5 hs5' hg6s hgs7s
    obtain ⟨W8, hW8⟩ : ∃ W8, W8 = W7.alloc (.cells #[] 111) := ⟨_, rfl⟩
    have hb8 : Below W7.heap.size W7 W8 := by rw [hW8]; exact bel_alloc (Below.refl _ _) _
    have hs8 := hb8.size
    have hs8' : W7.heap.size < W8.heap.size := by rw [hW8]; simp
    have hBw7 : w.heap.size ≤ W7.heap.size := by omega
    have HO8 : Hid (W8.ownsRow w.heap.size 111 1 (.slice (some ⟨W7.heap.size, 0, none⟩) 0 0) 0 []) := by
      show World.ownsRow _ _ _ _ _ _ _
      rw [hW8]
      exact ⟨rfl, .inr ⟨W7.heap.size, 0, #[], rfl, by omega, heap_alloc_new W7 _, Nat.le_refl _, by unfold maxLen; omega, rfl, rfl⟩⟩
    have HSR8 : Hid (0 < nd.lv.length → ∃ b off, la = some ⟨b, off, none⟩ ∧ ∀ j (h : j < us.length), W8.cell? ⟨b, off + j, none⟩ = some us[j]) := fun h0 => by
      obtain ⟨⟨a', cap', e1, _, _, hc⟩, _⟩ := HTD.out w3 (fun _ _ _ => rfl)
      obtain ⟨b, off, e2, _⟩ := hc h0
      have e3 : la = some ⟨b, off, none⟩ := by rw [← e2]; injection e1
      refine ⟨b, off, e3, fun j hj => keep_cell hb8 ?_⟩
      have q := (HUS.out j hj).1 b off e3
      exact heap_cell (HOD7.out b (by rw [HNW.out]; exact lt_cell q)) q
    have HON8 : Hid (∀ u ∈ us, u.oneCell' = true) := fun u hu => by
      obtain ⟨i, hi, rfl⟩ := List.getElem_of_mem hu
      exact nodes_one1 ((HUS.out i hi).2 (by have := HUL.out; omega))
    have HS8 := hide (HS7.out.keep hb8 (by omega))
    have HNB8 : Hid (W8.heap[nb]? = _) := (hb8.block _ ln4).trans HNB7.out
    have HK8 := hide (row_keep hb8 HK7.out)
    have HOD8 : Hid (∀ b : Nat, b < nb → W8.heap[b]? = w3.heap[b]?) := fun b hb => (hb8.block b (by omega)).trans (HOD7.out b hb)
    clear hb8
    go_upto_region 6 with (first
      | (at_builtin
         rw [← hW8]
         refine wpList_copy rfl _ _ 54 111 rfl i111 (.agg #[.slice none 0 0]) 24 Tryz.underlying54 hi111 hz111 hs111 hb111 rfl W7.heap.size w.heap.size rfl HO8.out la nd.lv.length lc us rfl HUL.out HSR8.out HON8.out (by omega) (by omega) (by omega) ?_
         intro g9 cap9 w9 hown9 hgrow9 hat9 hlt9
         have hnb9 : w9.heap[nb]? = some (.cells #[.int .i64 nd.k, .int .i64 nd.n, .int .i64 nd.m, .string nd.s, .slice la nd.lv.length lc, .slice (some ⟨g6, 0, none⟩) nd.kids.length cap6] 67 (0, 0)) := (hgrow9.block nb (by omega) (fun e => by have := Option.some.inj e; omega)).trans HNB8.out
         have n4 : w9.cell? ⟨nb, 4, none⟩ = some (.slice la nd.lv.length lc) := by { rw [Lib.cell_of_heap hnb9]; rfl }
         have f4 : w9.frozen? ⟨nb, 4, none⟩ = false := Lib.frozen_of_heap hnb9 4
         have ln9 := lt_cell n4)
      | fail)
    obtain ⟨WX, hWX⟩ : ∃ WX, WX = w9.setCell ⟨nb, 4, none⟩ (.slice (some ⟨g9, 0, none⟩) nd.lv.length cap9) := ⟨_, rfl⟩
    rw [← hWX]
    have hg9s := hgrow9.size
    have hgsX : w9.grownBy WX (some nb) := by rw [hWX]; exact grown_set w9 ⟨nb, 4, none⟩ _
    have hgsXs := hgsX.size
    have hg9n : nb < g9 ∧ g9 ≠ g6 := by omega
    have HSX := hide ((HS8.out.new hgrow9 (by omega) (by omega) hglt.2 hRlt.2).new hgsX (by omega) (by omega) hglt.2 hRlt.2)
    have HNX : Hid (WX.heap[nb]? = some (.cells #[.int .i64 nd.k, .int .i64 nd.n, .int .i64 nd.m, .string nd.s, .slice (some ⟨g9, 0, none⟩) nd.lv.length cap9, .slice (some ⟨g6, 0, none⟩) nd.kids.length cap6] 67 (0, 0))) := by show _ = _; rw [hWX]; exact (set_cells6 hnb9 _).1
    have HLX : Hid (WX.ownsRow w.heap.size 111 1 (.slice (some ⟨g9, 0, none⟩) nd.lv.length cap9) nd.lv.length us) := row_same hown9 (fun q hq => hgsX.block q (by simp [Value.ownBlock] at hq; omega) (fun e => by have := Option.some.inj e; simp [Value.ownBlock] at hq; omega))
    have HKX : Hid (WX.ownsRow w.heap.size 3 1 (.slice (some ⟨g6, 0, none⟩) nd.kids.length cap6) nd.kids.length (nd.kids.map (Value.int .i64))) := row_same HK8.out (fun q hq => by
      have e : q = g6 := by simp [Value.ownBlock] at hq; omega
      rw [hgsX.block q (by omega) (fun e => by have := Option.some.inj e; omega), hgrow9.block q (by omega) (fun e => by have := Option.some.inj e; omega)])
    have HOX : Hid (∀ b : Nat, b < nb → WX.heap[b]? = w3.heap[b]?) := fun b hb => by
      rw [hgsX.block b (by omega) (fun e => by have := Option.some.inj e; omega), hgrow9.block b (by omega) (fun e => by have := Option.some.inj e; omega)]
      exact HOD8.out b hb
    have hnX := (Array.getElem?_eq_some_iff.1 HNX.out).1
    have hg6X : g6 < WX.heap.size := by omega
    have hg9X : g9 < WX.heap.size := by omega
    clear hWX hown9 hgrow9 hat9 hlt9 hnb9 n4 f4 ln9 hgsX ln4 HO8 HSR8 HON8 HS8 HNB8 HK8 HOD8 hW8 HS7 HNB7 HK7 HOD7 hs8 hs8' hg9s hgsXs hg67 hw37 hBw7
    have hXB : w.heap.size ≤ WX.heap.size := by omega
    have HEX : Hid (∀ (wy : World), (∀ b : Nat, b < nb → b ≠ R → wy.heap[b]? = WX.heap[b]?) → WX.heap.size ≤ wy.heap.size → ∀ w' : World, Kpl g (w.heap.size + 1) lo wy w' → ∀ i (h : i < us.length) (h2 : i < nd.lv.length), NodesAt w' us[i] nd.lv[i]) := fun wy hy hys w' hw' => HLE.out w' (fun b hb h1 h2 h3 => by
      rw [hw' b ⟨h1, by omega, h3⟩ (by omega), hy b (by omega) h2]
      exact HOX.out b (by omega))
    have HPQ : Hid (ts.set p (spoilN nd p ρ.n.v ρ.n.n) = T) := by show _ = _; rw [HT.out]; unfold spoilT; rw [HNP.out, ← HPE.out]
    have hvl := ρ.n.v_lt
    obtain ⟨q8, hq8, hq82, HQ8⟩ : ∃ q : Nat, v.tdiv 8 = (q : Int) ∧ q < 32 ∧ Hid (q = ρ.n.v / 8) := ⟨ρ.n.v / 8, by rw [HVE.out]; exact tdiv_is (m := 8), by omega, rfl⟩
    obtain ⟨r8, hr8, hr82, HR8⟩ : ∃ r : Nat, v.tmod 8 = (r : Int) ∧ r < 8 ∧ Hid (r = ρ.n.v % 8) := ⟨ρ.n.v % 8, by rw [HVE.out]; exact tmod_is (m := 8), Nat.mod_lt _ (by omega), rfl⟩
    have hwq8 := wrap_nat q8 (by omega)
    have hwr8 := wrap_nat r8 (by omega)
    have x0 : WX.cell? ⟨nb, 0, none⟩ = some (.int .i64 nd.k) := by rw [Lib.cell_of_heap HNX.out]; rfl
    have x1 : WX.cell? ⟨nb, 1, none⟩ = some (.int .i64 nd.n) := by rw [Lib.cell_of_heap HNX.out]; rfl
    have x2 : WX.cell? ⟨nb, 2, none⟩ = some (.int .i64 nd.m) := by rw [Lib.cell_of_heap HNX.out]; rfl
    have x3 : WX.cell? ⟨nb, 3, none⟩ = some (.string nd.s) := by rw [Lib.cell_of_heap HNX.out]; rfl
    have x4 : WX.cell? ⟨nb, 4, none⟩ = some (.slice (some ⟨g9, 0, none⟩) nd.lv.length cap9) := by rw [Lib.cell_of_heap HNX.out]; rfl
    have x5 : WX.cell? ⟨nb, 5, none⟩ = some (.slice (some ⟨g6, 0, none⟩) nd.kids.length cap6) := by rw [Lib.cell_of_heap HNX.out]; rfl
    have xf : ∀ o, WX.frozen? ⟨nb, o, none⟩ = false := fun o => Lib.frozen_of_heap HNX.out o
    have f0 := xf 0
    have f1 := xf 1
    have f2 := xf 2
    have f3 := xf 3
    have f4 := xf 4
    have f5 := xf 5
    have HSET : Hid (∀ (V : World) (o : Nat) (u : Value) (wy : World), Below WX.heap.size WX V → wy = V.setCell ⟨nb, o, none⟩ u → SpS ρ.n.n base lo R g cap w.heap.size ts w wy ∧ (∀ b : Nat, b < nb → wy.heap[b]? = w3.heap[b]?) ∧ wy.ownsRow w.heap.size 111 1 (.slice (some ⟨g9, 0, none⟩) nd.lv.length cap9) nd.lv.length us ∧ wy.ownsRow w.heap.size 3 1 (.slice (some ⟨g6, 0, none⟩) nd.kids.length cap6) nd.kids.length (nd.kids.map (Value.int .i64)) ∧ WX.heap.size ≤ wy.heap.size ∧ V.heap[nb]? = WX.heap[nb]?) := fun V o u wy hV hy => by
      have hg : V.grownBy wy (some nb) := by rw [hy]; exact grown_set V ⟨nb, o, none⟩ u
      have hVs := hV.size
      refine ⟨(HSX.out.keep hV (by omega)).new hg (by omega) (by omega) hglt.2 hRlt.2, fun b hb => ((hg.block b (by omega) (fun e => by have := Option.some.inj e; omega)).trans (hV.block b (by omega))).trans (HOX.out b hb), row_same (row_keep hV HLX.out) (fun q hq => hg.block q (by simp [Value.ownBlock] at hq; omega) (fun e => by have := Option.some.inj e; simp [Value.ownBlock] at hq; omega)), row_same (row_keep hV HKX.out) (fun q hq => hg.block q (by simp [Value.ownBlock] at hq; omega) (fun e => by have := Option.some.inj e; simp [Value.ownBlock] at hq; omega)), by have := hg.size; omega, hV.block nb hnX⟩
    clear xf
    go_upto_if 33 with fail
    go_cut [7] from 31 to 119 (fun u wx => ∃ (td' : Td) (τ : Pl), u = .pointer (some ⟨nb, 0, none⟩) ∧ Hid (SpS τ base lo R g cap w.heap.size ts w wx) ∧ Hid (FinR g (w.heap.size + 1) lo nb wx td') ∧ Hid (td' = spoilN nd p ρ.n.v ρ.n.n) ∧ Hid (τ = spoilQ ρ) ∧ Hid (∀ l ∈ td'.lv, l ∈ nd.lv ∨ (l.length ≤ 1000 ∧ SmallS l)) ∧ Hid (wx.heap[w.heap.size]? = w3.heap[w.heap.size]?) ∧ Hid (wx.heap[w.heap.size + 1]? = w3.heap[w.heap.size + 1]?))
    case first =>
      have HL0 : Hid (∀ l ∈ nd.lv, l ∈ nd.lv ∨ (l.length ≤ 1000 ∧ SmallS l)) := fun l hl => .inl hl
      by_cases e0 : r8 = 0
      · have q0 : ((r8 : Int) == 0) = true := beq_iff_eq.2 (by omega)
        obtain ⟨y, hy, hy2, HYE⟩ : ∃ y : Nat, (q8 : Int).tmod 11 = (y : Int) ∧ y < 11 ∧ Hid (y = q8 % 11) := ⟨q8 % 11, tmod_is (m := 11), Nat.mod_lt _ (by omega), rfl⟩
        have hwy := wrap_nat y (by omega)
        have HE : Hid ((⟨(y : Int), nd.n, nd.m, nd.s, nd.lv, nd.kids⟩ : Td) = spoilN nd p ρ.n.v ρ.n.n) := by show _ = _; unfold spoilN; rw [if_pos (by rw [← HR8.out]; exact e0), HYE.out, HQ8.out]
        have HPl : Hid (ρ.n.n = spoilQ ρ) := by show _ = _; unfold spoilQ; rw [if_neg (by rw [← HR8.out]; omega)]
        clear e0
        go_wp2_with fail
        obtain ⟨s1, s2, s3, s4, s5, s6⟩ := HSET.out WX 0 (.int .i64 (y : Int)) _ (Below.refl _ _) rfl
        go_meet
        exact ⟨⟨(y : Int), nd.n, nd.m, nd.s, nd.lv, nd.kids⟩, _, rfl, s1, fin_mk (set_at6 HNX.out _).1 s3 s4 hgB9 (by omega) (by omega) (HEX.out _ (fun b hb _ => (s2 b hb).trans (HOX.out b hb).symm) s5), HE, HPl, HL0, s2 _ (by omega), s2 _ (by omega)⟩
      have q0 : ((r8 : Int) == 0) = false := beq_eq_false_iff_ne.2 (by omega)
      have HN0 : Hid (¬ ρ.n.v % 8 = 0) := by show ¬ _; rw [← HR8.out]; exact e0
      clear e0
      obtain ⟨y6, hy6, hy62, HY6⟩ : ∃ y : Nat, (q8 : Int).tmod 6 = (y : Int) ∧ y < 6 ∧ Hid (y = q8 % 6) := ⟨q8 % 6, tmod_is (m := 6), Nat.mod_lt _ (by omega), rfl⟩
      have hwy6 := wrap_nat y6 (by omega)
      have hy6' : (y6 : Int) < 6 := by omega
      by_cases e1 : r8 = 1
      · have q1 : ((r8 : Int) == 1) = true := beq_iff_eq.2 (by omega)
        have HE : Hid ((⟨nd.k, nums6.getD y6 0, nd.m, nd.s, nd.lv, nd.kids⟩ : Td) = spoilN nd p ρ.n.v ρ.n.n) := by show _ = _; unfold spoilN; rw [if_neg HN0.out, if_pos (by rw [← HR8.out]; exact e1), HY6.out, HQ8.out]
        obtain ⟨V, hV⟩ : ∃ V, V = WX.alloc (.cells #[.int .i64 (-1), .int .i64 20000, .int .i64 20001, .int .i64 1, .int .i64 1000000, .int .i64 1000001] 3) := ⟨_, rfl⟩
        have hbV : Below WX.heap.size WX V := by rw [hV]; exact bel_alloc (Below.refl _ _) _
        have lc6 : V.cell? ⟨WX.heap.size, y6, none⟩ = some (.int .i64 (nums6.getD y6 0)) := by
          rw [hV, cell_of_row _ _ _ _ _ _ (heap_alloc_new WX _)]
          rcases (show y6 = 0 ∨ y6 = 1 ∨ y6 = 2 ∨ y6 = 3 ∨ y6 = 4 ∨ y6 = 5 by omega) with e | e | e | e | e | e <;> rw [e] <;> rfl
        generalize nums6.getD y6 0 = nn at *
        rw [hV] at lc6
        have HPl : Hid (ρ.n.n = spoilQ ρ) := by show _ = _; unfold spoilQ; rw [if_neg (by rw [← HR8.out]; omega)]
        clear e1
        go_wp2_with fail
        obtain ⟨s1, s2, s3, s4, s5, s6⟩ := HSET.out WX 1 (.int .i64 nn) _ (Below.refl _ _) rfl
        have hbA := bel_alloc (Below.refl (WX.setCell ⟨nb, 1, none⟩ (.int .i64 nn)).heap.size (WX.setCell ⟨nb, 1, none⟩ (.int .i64 nn))) (.cells #[.int .i64 (-1), .int .i64 20000, .int .i64 20001, .int .i64 1, .int .i64 1000000, .int .i64 1000001] 3)
        have hsA := hbA.size
        go_meet
        exact ⟨⟨nd.k, nn, nd.m, nd.s, nd.lv, nd.kids⟩, _, rfl, s1.keep hbA (by omega), fin_mk ((hbA.block nb (by omega)).trans (set_at6 HNX.out _).2.1) (row_keep hbA s3) (row_keep hbA s4) hgB9 (by omega) (by omega) (HEX.out _ (fun b hb _ => ((hbA.block b (by omega)).trans (s2 b hb)).trans (HOX.out b hb).symm) (by omega)), HE, HPl, HL0, (hbA.block _ (by omega)).trans (s2 _ (by omega)), (hbA.block _ (by omega)).trans (s2 _ (by omega))⟩
      have q1 : ((r8 : Int) == 1) = false := beq_eq_false_iff_ne.2 (by omega)
      have HN1 : Hid (¬ ρ.n.v % 8 = 1) := by show ¬ _; rw [← HR8.out]; exact e1
      clear e1
      by_cases e2 : r8 = 2
      · have q2 : ((r8 : Int) == 2) = true := beq_iff_eq.2 (by omega)
        obtain ⟨y, hy, hy2, HYE⟩ : ∃ y : Nat, (q8 : Int).tmod 5 = (y : Int) ∧ y < 5 ∧ Hid (y = q8 % 5) := ⟨q8 % 5, tmod_is (m := 5), Nat.mod_lt _ (by omega), rfl⟩
        have hwy := wrap_nat y (by omega)
        have hwy1 : IntKind.i64.wrap ((y : Int) - 1) = (y : Int) - 1 := by rw [IntKind.wrap_i64]; omega
        have HE : Hid ((⟨nd.k, nd.n, (y : Int) - 1, nd.s, nd.lv, nd.kids⟩ : Td) = spoilN nd p ρ.n.v ρ.n.n) := by show _ = _; unfold spoilN; rw [if_neg HN0.out, if_neg HN1.out, if_pos (by rw [← HR8.out]; exact e2), HYE.out, HQ8.out]
        have HPl : Hid (ρ.n.n = spoilQ ρ) := by show _ = _; unfold spoilQ; rw [if_neg (by rw [← HR8.out]; omega)]
        clear e2
        go_wp2_with fail
        obtain ⟨s1, s2, s3, s4, s5, s6⟩ := HSET.out WX 2 (.int .i64 ((y : Int) - 1)) _ (Below.refl _ _) rfl
        go_meet
        exact ⟨⟨nd.k, nd.n, (y : Int) - 1, nd.s, nd.lv, nd.kids⟩, _, rfl, s1, fin_mk (set_at6 HNX.out _).2.2.1 s3 s4 hgB9 (by omega) (by omega) (HEX.out _ (fun b hb _ => (s2 b hb).trans (HOX.out b hb).symm) s5), HE, HPl, HL0, s2 _ (by omega), s2 _ (by omega)⟩
      have q2 : ((r8 : Int) == 2) = false := beq_eq_false_iff_ne.2 (by omega)
      have HN2 : Hid (¬ ρ.n.v % 8 = 2) := by show ¬ _; rw [← HR8.out]; exact e2
      clear e2
      by_cases e3 : r8 = 3
      · have q3 : ((r8 : Int) == 3) = true := beq_iff_eq.2 (by omega)
        have HE : Hid ((⟨nd.k, nd.n, nd.m, texts6.getD y6 ⟨#[]⟩, nd.lv, nd.kids⟩ : Td) = spoilN nd p ρ.n.v ρ.n.n) := by show _ = _; unfold spoilN; rw [if_neg HN0.out, if_neg HN1.out, if_neg HN2.out, if_pos (by rw [← HR8.out]; exact e3), HY6.out, HQ8.out]
        obtain ⟨V, hV⟩ : ∃ V, V = WX.alloc (.cells (texts6.map Value.string).toArray 9) := ⟨_, rfl⟩
        have hbV : Below WX.heap.size WX V := by rw [hV]; exact bel_alloc (Below.refl _ _) _
        have lc6 : V.cell? ⟨WX.heap.size, y6, none⟩ = some (.string (texts6.getD y6 ⟨#[]⟩)) := by
          rw [hV, lit_cells texts6 WX y6 (by show y6 < 6; omega)]
          simp [List.getD, show y6 < texts6.length from hy62]
        have hV : V = WX.alloc (.cells #[.string ⟨#[]⟩, .string ⟨#[97, 46, 98]⟩, .string ⟨#[120]⟩, .string ⟨#[57]⟩, .string ⟨#[97, 46, 46, 98]⟩, .string ⟨#[78, 97, 116]⟩] 9) := hV
        generalize texts6.getD y6 ⟨#[]⟩ = nn at *
        rw [hV] at lc6
        have HPl : Hid (ρ.n.n = spoilQ ρ) := by show _ = _; unfold spoilQ; rw [if_neg (by rw [← HR8.out]; omega)]
        clear e3
        go_wp2_with fail
        obtain ⟨s1, s2, s3, s4, s5, s6⟩ := HSET.out WX 3 (.string nn) _ (Below.refl _ _) rfl
        have hbA := bel_alloc (Below.refl (WX.setCell ⟨nb, 3, none⟩ (.string nn)).heap.size (WX.setCell ⟨nb, 3, none⟩ (.string nn))) (.cells #[.string ⟨#[]⟩, .string ⟨#[97, 46, 98]⟩, .string ⟨#[120]⟩, .string ⟨#[57]⟩, .string ⟨#[97, 46, 46, 98]⟩, .string ⟨#[78, 97, 116]⟩] 9)
        have hsA := hbA.size
        go_meet
        exact ⟨⟨nd.k, nd.n, nd.m, nn, nd.lv, nd.kids⟩, _, rfl, s1.keep hbA (by omega), fin_mk ((hbA.block nb (by omega)).trans (set_at6 HNX.out _).2.2.2) (row_keep hbA s3) (row_keep hbA s4) hgB9 (by omega) (by omega) (HEX.out _ (fun b hb _ => ((hbA.block b (by omega)).trans (s2 b hb)).trans (HOX.out b hb).symm) (by omega)), HE, HPl, HL0, (hbA.block _ (by omega)).trans (s2 _ (by omega)), (hbA.block _ (by omega)).trans (s2 _ (by omega))⟩
      have q3 : ((r8 : Int) == 3) = false := beq_eq_false_iff_ne.2 (by omega)
      have HN3 : Hid (¬ ρ.n.v % 8 = 3) := by show ¬ _; rw [← HR8.out]; exact e3
      clear e3
      have HNK : Hid (¬ ρ.n.v % 8 = 4 → ¬ (ρ.n.v % 8 = 5 ∧ 0 < nd.kids.length) → ¬ (ρ.n.v % 8 = 6 ∧ 0 < nd.kids.length) → (⟨nd.k, nd.n, nd.m, nd.s, nd.lv, nd.kids ++ [(p : Int) - 1]⟩ : Td) = spoilN nd p ρ.n.v ρ.n.n) := fun h4 h5 h6 => by
        show _ = _
        unfold spoilN
        rw [if_neg HN0.out, if_neg HN1.out, if_neg HN2.out, if_neg HN3.out, if_neg h4, if_neg h5, if_neg h6]
      by_cases e4 : r8 = 4
      · have q4 : ((r8 : Int) == 4) = true := beq_iff_eq.2 (by omega)
        have HE : Hid ((⟨nd.k, nd.n, nd.m, nd.s, nd.lv ++ [anyN ρ.n.n], nd.kids⟩ : Td) = spoilN nd p ρ.n.v ρ.n.n) := by show _ = _; unfold spoilN; rw [if_neg HN0.out, if_neg HN1.out, if_neg HN2.out, if_neg HN3.out, if_pos (by rw [← HR8.out]; exact e4)]
        have HPl : Hid (anyP ρ.n.n = spoilQ ρ) := by show _ = _; unfold spoilQ; rw [if_pos (by rw [← HR8.out]; exact e4)]
        clear HNK e4
        have HG := hide (fun (wx : World) (h : wx.heap[nb]? = WX.heap[nb]?) => heap_cell h x4)
        have hS0 : (fun w' : World => w'.heap[nb]? = WX.heap[nb]?) WX.drew := rfl
        go_upto_region 15 with fail
        refine anyE_region (L := 7) (S := fun w' : World => w'.heap[nb]? = WX.heap[nb]?) (by kernel_rfl) ?_
        refine anyE_take 0 (v := ?v0) rfl (by kernel_rfl) (by kernel_rfl) (by kernel_rfl) (by kernel_rfl) (fun _ _ _ h => h) (by rfl) ?hy0 hS0 ?rest0
        case hy0 =>
          intro wx hx
          have m4 := HG.out wx hx
          go_simp
          try rfl
        case rest0 =>
        intro K hK
        go_simp
        refine hK.out _ ?_
        clear hK K
        refine anyE_take 1 (v := ?v1) rfl (by kernel_rfl) (by kernel_rfl) (by kernel_rfl) (by kernel_rfl) (fun _ _ _ h => h) (by rfl) ?hy1 hS0 ?rest1
        case hy1 =>
          intro wx hx
          have m4 := HG.out wx hx
          go_simp
          try rfl
        case rest1 =>
        intro K hK
        go_simp
        refine hK.out _ ?_
        clear hK K
        refine anyE_take 2 (v := ?v2) rfl (by kernel_rfl) (by kernel_rfl) (by kernel_rfl) (by kernel_rfl) (fun _ _ _ h => h) (by rfl) ?hy2 hS0 ?rest2
        case hy2 =>
          intro wx hx
          have m4 := HG.out wx hx
          go_simp
          try rfl
        case rest2 =>
        intro K hK
        go_simp
        refine hK.out _ ?_
        clear hK K
        refine anyE_one 3 (by kernel_rfl) rfl (fun K hK => ?_)
        go_simp
        refine (l1Any_any R base WX.drew (HSX.out.rd.keep (Below.refl _ _).drew)).mono ?_
        rintro e w2 ⟨gl, cl, ns, rfl, ⟨B2, hB2, hnd2⟩, hlen2, hsm2, hrd2, hg2, hns⟩
        have hB2' : WX.heap.size ≤ B2 := hB2
        have hg2 : WX.drew.grownBy w2 (some R) := hg2
        have hg2s : WX.heap.size ≤ w2.heap.size := hg2.size
        have hk2 : ∀ b : Nat, b < WX.heap.size → b ≠ R → w2.heap[b]? = WX.heap[b]? := fun b hb hR => hg2.block b hb (fun e => hR (Option.some.inj e))
        have hn2 : w2.heap[nb]? = WX.heap[nb]? := hk2 nb hnX (by omega)
        refine hK.out _ _ (fun _ => hn2) ?_
        clear hK K hS0
        have HS2 := hide ((HSX.out.keep ((Below.refl _ _).drew) (by omega)).read hrd2 hg2 hgR (by omega))
        have HL2 := hide (row_same HLX.out (w' := w2) (fun q hq => hk2 q (by simp [Value.ownBlock] at hq; omega) (by simp [Value.ownBlock] at hq; omega)))
        have HK2 := hide (row_same HKX.out (w' := w2) (fun q hq => hk2 q (by simp [Value.ownBlock] at hq; omega) (by simp [Value.ownBlock] at hq; omega)))
        have HND2 := hide hnd2
        have HKP2 := hide hk2
        have HNS := hide hns
        have HL4 : Hid (∀ l ∈ nd.lv ++ [anyN ρ.n.n], l ∈ nd.lv ∨ (l.length ≤ 1000 ∧ SmallS l)) := fun l hl => by
          rcases List.mem_append.1 hl with h9 | h9
          · exact .inl h9
          · rw [List.mem_singleton.1 h9, ← hns]
            exact .inr ⟨hlen2, hsm2⟩
        clear hrd2 hg2 hnd2 hsm2 hk2 hns hB2
        refine anyE_one 4 (by kernel_rfl) rfl (fun K hK => ?_)
        go_simp
        obtain ⟨W3, hW3⟩ : ∃ W3, W3 = w2.alloc (.cells #[.slice (some ⟨gl, 0, none⟩) ns.length cl] 111) := ⟨_, rfl⟩
        rw [← hW3]
        have hb3' : Below w2.heap.size w2 W3 := by rw [hW3]; exact bel_alloc (Below.refl _ _) _
        have hh3 : W3.heap[w2.heap.size]? = some (.cells #[.slice (some ⟨gl, 0, none⟩) ns.length cl] 111 (0, 0)) := by rw [hW3]; exact heap_alloc_new w2 _
        have hs3' := hb3'.size
        have hn3 : W3.heap[nb]? = WX.heap[nb]? := (hb3'.block nb (by omega)).trans hn2
        refine hK.out _ _ (fun _ => hn3) ?_
        clear hK K
        have HS3' := hide (HS2.out.keep hb3' (by omega))
        have HL3 := hide (row_keep hb3' HL2.out)
        have HK3 := hide (row_keep hb3' HK2.out)
        have HND3 := hide (HND2.out.keep hb3')
        have HKP3 : Hid (∀ b : Nat, b < WX.heap.size → b ≠ R → W3.heap[b]? = WX.heap[b]?) := fun b hb hR => (hb3'.block b (by omega)).trans (HKP2.out b hb hR)
        clear hW3 HS2 HL2 HK2 HND2 HKP2 hb3'
        refine anyE_one 5 (by kernel_rfl) rfl (fun K hK => ?_)
        refine step_append_lies _ rfl _ _ 54 rfl w.heap.size 111 i111 (.agg #[.slice none 0 0]) 1 24 Tryz.underlying54 hi111 hz111 hs111 hb111 rfl (by omega) (.slice (some ⟨g9, 0, none⟩) nd.lv.length cap9) nd.lv.length us rfl HL3.out ⟨w2.heap.size, 0, none⟩ 1 1 [.slice (some ⟨gl, 0, none⟩) ns.length cl] rfl rfl (World.news_of_block (cs := #[.slice (some ⟨gl, 0, none⟩) ns.length cl]) (t := 111) (fr := (0, 0)) hh3) (by intro u hu; simp at hu; rcases hu with rfl; rfl) (by omega) (by unfold maxLen; omega) (by omega) (by omega) W3.heap.size rfl ?_
        intro g4 cap4 w4 hown4 hgrow4 hat4 hlt4
        have hgrow4 : W3.grownBy w4 (some g9) := hgrow4
        have hg4s := hgrow4.size
        have hk4 : ∀ b : Nat, b < W3.heap.size → b ≠ g9 → w4.heap[b]? = W3.heap[b]? := fun b hb hR => hgrow4.block b hb (fun e => hR (Option.some.inj e))
        have hg4n : g4 ≠ nb ∧ g4 ≠ w.heap.size + 1 := by
          rcases hat4 with h | h
          · have h9 : g9 = g4 := Option.some.inj h
            omega
          · omega
        have hn4 : w4.heap[nb]? = WX.heap[nb]? := (hk4 nb (by omega) (by omega)).trans hn3
        refine hK.out _ _ (fun _ => hn4) ?_
        clear hK K
        have HS4' := hide (HS3'.out.new hgrow4 (by omega) (by omega) hglt.2 hRlt.2)
        have HK4 := hide (row_same HK3.out (w' := w4) (fun q hq => hk4 q (by simp [Value.ownBlock] at hq; omega) (by simp [Value.ownBlock] at hq; omega)))
        have HND4 := hide (HND3.out.same (w' := w4) (fun b h1 h2 => hk4 b h2 (by omega)))
        have HKP4 : Hid (∀ b : Nat, b < nb → b ≠ R → w4.heap[b]? = WX.heap[b]?) := fun b hb hR => (hk4 b (by omega) (by omega)).trans (HKP3.out b (by omega) hR)
        have HOW4 := hide hown4
        have HNB4 : Hid (w4.heap[nb]? = _) := hn4.trans HNX.out
        have c4 : w4.cell? ⟨nb, 4, none⟩ = some (.slice (some ⟨g9, 0, none⟩) nd.lv.length cap9) := by rw [Lib.cell_of_heap HNB4.out]; rfl
        have f4' : w4.frozen? ⟨nb, 4, none⟩ = false := Lib.frozen_of_heap HNB4.out 4
        have l4 := lt_cell c4
        clear hown4 hgrow4 hat4 hlt4 hk4 HS3' HL3 HK3 HND3 HKP3 hh3 hn3 hn2 HG
        refine anyE_one 6 (by kernel_rfl) rfl (fun K hK => ?_)
        go_simp
        refine hK.out _ _ (fun _ => hn4) ?_
        clear hK K
        refine anyE_one 7 (by kernel_rfl) rfl (fun K hK => ?_)
        go_simp
        refine hK.out _ _ (fun h => absurd rfl h) ?_
        clear hK K
        refine anyE_done (by kernel_rfl) ?_ _
        obtain ⟨W5, hW5⟩ : ∃ W5, W5 = w4.setCell ⟨nb, 4, none⟩ (.slice (some ⟨g4, 0, none⟩) (nd.lv.length + 1) cap4) := ⟨_, rfl⟩
        rw [← hW5]
        have hN5 : W5.heap[nb]? = some (.cells #[.int .i64 nd.k, .int .i64 nd.n, .int .i64 nd.m, .string nd.s, .slice (some ⟨g4, 0, none⟩) (nd.lv.length + 1) cap4, .slice (some ⟨g6, 0, none⟩) nd.kids.length cap6] 67 (0, 0)) := by rw [hW5]; exact (set_cells6 HNB4.out _).1
        have hg5 : w4.grownBy W5 (some nb) := by rw [hW5]; exact grown_set w4 ⟨nb, 4, none⟩ _
        have hg5s := hg5.size
        have hk5 : ∀ b : Nat, b < w4.heap.size → b ≠ nb → W5.heap[b]? = w4.heap[b]? := fun b hb hR => hg5.block b hb (fun e => hR (Option.some.inj e))
        have HS5 := hide (HS4'.out.new hg5 (by omega) (by omega) hglt.2 hRlt.2)
        have HL5 := hide (row_same HOW4.out (w' := W5) (fun q hq => hk5 q ((World.ownsRow.lt HOW4.out q hq).2) (by simp [Value.ownBlock] at hq; omega)))
        have HK5 := hide (row_same HK4.out (w' := W5) (fun q hq => hk5 q ((World.ownsRow.lt HK4.out q hq).2) (by simp [Value.ownBlock] at hq; omega)))
        have HND5 := hide (HND4.out.same (w' := W5) (fun b h1 h2 => hk5 b h2 (by omega)))
        have HKP5 : Hid (∀ b : Nat, b < nb → b ≠ R → W5.heap[b]? = WX.heap[b]?) := fun b hb hR => (hk5 b (by omega) (by omega)).trans (HKP4.out b hb hR)
        have HN5 := hide hN5
        have hRn1 : w.heap.size ≠ R := by omega
        have hRn2 : w.heap.size + 1 ≠ R := by omega
        have hW5s : WX.heap.size ≤ W5.heap.size := by omega
        have hr9n : g4 ≠ w.heap.size + 1 := hg4n.2
        have hr6n : g6 ≠ w.heap.size + 1 := by omega
        clear hW5 hg5 hk5 HS4' HK4 HND4 HKP4 HOW4 HNB4 c4 f4' l4 hn4 hN5
        go_wp2_with fail
        go_meet
        exact ⟨⟨nd.k, nd.n, nd.m, nd.s, nd.lv ++ [anyN ρ.n.n], nd.kids⟩, _, rfl, HS5, fin_lv HN5.out HL5.out HK5.out hgB9 hr9n hr6n HUL.out (HEX.out _ HKP5.out hW5s) (fun w' hw' => by
          have h := (HND5.out.same (w' := w') (fun b h1 h2 => hw' b ⟨by omega, by omega, by omega⟩ h2)).nodes
          rw [HNS.out] at h ⊢
          exact h), HE, HPl, HL4, (HKP5.out _ (by omega) hRn1).trans (HOX.out _ (by omega)), (HKP5.out _ (by omega) hRn2).trans (HOX.out _ (by omega))⟩
      have q4 : ((r8 : Int) == 4) = false := beq_eq_false_iff_ne.2 (by omega)
      have HN4 : Hid (¬ ρ.n.v % 8 = 4) := by show ¬ _; rw [← HR8.out]; exact e4
      have HPl : Hid (ρ.n.n = spoilQ ρ) := by show _ = _; unfold spoilQ; rw [if_neg HN4.out]
      clear e4
      by_cases e5 : r8 = 5 ∧ 0 < nd.kids.length
      · have q5 : ((r8 : Int) == 5) = true := beq_iff_eq.2 (by omega)
        have dk : decide (0 < (nd.kids.length : Int)) = true := by simp; omega
        clear HNK
        have hkp := e5.2
        have hkne : ¬ (nd.kids.length : Int) = 0 := by omega
        have hkneb : ((nd.kids.length : Int) == 0) = false := by rw [beq_eq_false_iff_ne]; omega
        have hknil : ¬ nd.kids = [] := by intro e; rw [e] at hkp; simp at hkp
        obtain ⟨y, hy, hyl, HYE⟩ : ∃ y : Nat, (q8 : Int).tmod (nd.kids.length : Int) = (y : Int) ∧ y < nd.kids.length ∧ Hid (y = q8 % nd.kids.length) := ⟨q8 % nd.kids.length, tmod_is (m := nd.kids.length), Nat.mod_lt _ hkp, rfl⟩
        have hwy := wrap_nat y (by omega)
        have hyl' : (y : Int) < (nd.kids.length : Int) := by omega
        obtain ⟨q64, hq64, hq642, HQ64⟩ : ∃ q : Nat, v.tdiv 64 = (q : Int) ∧ q < 4 ∧ Hid (q = ρ.n.v / 64) := ⟨ρ.n.v / 64, by rw [HVE.out]; exact tdiv_is (m := 64), by omega, rfl⟩
        have hwq64 := wrap_nat q64 (by omega)
        have hwq1 : IntKind.i64.wrap ((q64 : Int) - 1) = (q64 : Int) - 1 := by rw [IntKind.wrap_i64]; omega
        obtain ⟨c, hc, hcb1, hcb2⟩ : ∃ c : Int, nd.kids[y] = c ∧ -1000000 ≤ c ∧ c ≤ 1000000 := ⟨_, rfl, (HMC.out _ (List.getElem_mem hyl)).1, (HMC.out _ (List.getElem_mem hyl)).2⟩
        have hwc : IntKind.i64.wrap (c + ((q64 : Int) - 1)) = c + ((q64 : Int) - 1) := by rw [IntKind.wrap_i64]; omega
        have HE : Hid ((⟨nd.k, nd.n, nd.m, nd.s, nd.lv, nd.kids.set y (c + ((q64 : Int) - 1))⟩ : Td) = spoilN nd p ρ.n.v ρ.n.n) := by
          show _ = _
          unfold spoilN
          have e1 : ρ.n.v / 8 % nd.kids.length = y := by rw [HYE.out, HQ8.out]
          have e2 : nd.kids.getD y 0 = c := by simp [hyl, hc]
          rw [if_neg HN0.out, if_neg HN1.out, if_neg HN2.out, if_neg HN3.out, if_neg HN4.out, if_pos ⟨by rw [← HR8.out]; exact e5.1, e5.2⟩, e1, e2, HQ64.out]
        have kc : WX.cell? ⟨g6, y, none⟩ = some (.int .i64 c) := by rw [HKX.out.cellAt y (by omega), List.getElem?_map, List.getElem?_eq_getElem hyl, hc]; rfl
        have kf : WX.frozen? ⟨g6, y, none⟩ = false := HKX.out.frozenAt y
        have kl := lt_cell kc
        have HKS : Hid (∀ (V wy : World), Below WX.heap.size WX V → wy = V.setCell ⟨g6, y, none⟩ (.int .i64 (c + ((q64 : Int) - 1))) → SpS ρ.n.n base lo R g cap w.heap.size ts w wy ∧ FinR g (w.heap.size + 1) lo nb wy ⟨nd.k, nd.n, nd.m, nd.s, nd.lv, nd.kids.set y (c + ((q64 : Int) - 1))⟩ ∧ wy.heap[w.heap.size]? = w3.heap[w.heap.size]? ∧ wy.heap[w.heap.size + 1]? = w3.heap[w.heap.size + 1]?) := fun V wy hV hyw => by
          have hVs := hV.size
          have hst := ((row_keep hV HKX.out).stored y (.int .i64 (c + ((q64 : Int) - 1))))
          rw [← hyw] at hst
          obtain ⟨hr1, hg1⟩ := hst
          have hgs := hg1.size
          have hk1 : ∀ b : Nat, b < WX.heap.size → b ≠ g6 → wy.heap[b]? = WX.heap[b]? := fun b hb hR => (hg1.block b (by omega) (fun e => hR (Option.some.inj e))).trans (hV.block b hb)
          refine ⟨(HSX.out.keep hV (by omega)).new hg1 (by omega) (by omega) hglt.2 hRlt.2, fin_set ((hk1 nb hnX (by omega)).trans HNX.out) (row_same HLX.out (fun q hq => hk1 q (by simp [Value.ownBlock] at hq; omega) (by simp [Value.ownBlock] at hq; omega))) hr1 hgB9 (by omega) (by omega) (HEX.out _ (fun b hb _ => hk1 b (by omega) (by omega)) (by omega)), (hk1 _ (by omega) (by omega)).trans (HOX.out _ (by omega)), (hk1 _ (by omega) (by omega)).trans (HOX.out _ (by omega))⟩
        clear e5 hkp hc
        go_upto_region 17 with fail
        go_region_with fail
        all_goals (go_wp2_with fail; go_meet; obtain ⟨s1, s2, s3, s4⟩ := HKS.out WX.drew (WX.setCell ⟨g6, y, none⟩ (.int .i64 (c + ((q64 : Int) - 1)))).drew (Below.refl _ _).drew rfl; exact ⟨_, _, rfl, s1, s2, HE, HPl, HL0, s3, s4⟩)
      have HN5 : Hid (¬ (ρ.n.v % 8 = 5 ∧ 0 < nd.kids.length)) := by show ¬ _; rw [← HR8.out]; exact e5
      by_cases e6 : r8 = 6 ∧ 0 < nd.kids.length
      · have q5 : ((r8 : Int) == 5) = false := beq_eq_false_iff_ne.2 (by omega)
        have q6 : ((r8 : Int) == 6) = true := beq_iff_eq.2 (by omega)
        have dk : decide (0 < (nd.kids.length : Int)) = true := by simp; omega
        have HE : Hid ((⟨nd.k, nd.n, nd.m, nd.s, nd.lv, nd.kids.tail⟩ : Td) = spoilN nd p ρ.n.v ρ.n.n) := by show _ = _; unfold spoilN; rw [if_neg HN0.out, if_neg HN1.out, if_neg HN2.out, if_neg HN3.out, if_neg HN4.out, if_neg HN5.out, if_pos ⟨by rw [← HR8.out]; exact e6.1, e6.2⟩]
        obtain ⟨hc1, hc2⟩ := ownsRow_cap HKX.out
        have hkp := e6.2
        have hk1 : (1 : Int) ≤ (nd.kids.length : Int) := by omega
        have HLE6 : Hid (∀ (u : Value) (wy : World), wy = WX.setCell ⟨nb, 5, none⟩ u → (∃ a n c, u = .slice a n c) → (∀ w' : World, w'.ownsRow w.heap.size 3 1 (.slice (some ⟨g6, 0, none⟩) nd.kids.length cap6) nd.kids.length (nd.kids.map (Value.int .i64)) → IntsAt w' u nd.kids.tail) → FinR g (w.heap.size + 1) lo nb wy ⟨nd.k, nd.n, nd.m, nd.s, nd.lv, nd.kids.tail⟩) := fun u wy hy hu hi => by
          obtain ⟨s1, s2, s3, s4, s5, s6⟩ := HSET.out WX 5 u wy (Below.refl _ _) hy
          exact fin_gen (td := ⟨nd.k, nd.n, nd.m, nd.s, nd.lv, nd.kids.tail⟩) (by rw [hy]; exact (set_cells6 HNX.out u).2) hu s3 hgB9 (by omega) (fun w' hw' => hi w' (row_same s4 (fun q hq => by have h9 := s4.lt q hq; exact hw' q ⟨by omega, by simp [Value.ownBlock] at hq; omega, by omega⟩ h9.2))) (HEX.out wy (fun b hb _ => (s2 b hb).trans (HOX.out b hb).symm) s5)
        have htl : nd.kids.tail.length = nd.kids.length - 1 := by simp
        have HTL := hide htl
        clear HNK e5 e6 htl
        go_wp2_with fail
        case inl =>
          have hcc : cap6 = 1 := by omega
          subst hcc
          obtain ⟨s1, s2, s3, s4, s5, s6⟩ := HSET.out WX 5 (.slice (some ⟨g6, 0, none⟩) (nd.kids.length - 1) 0) _ (Below.refl _ _) rfl
          go_meet
          exact ⟨⟨nd.k, nd.n, nd.m, nd.s, nd.lv, nd.kids.tail⟩, _, rfl, s1, HLE6.out _ _ rfl ⟨_, _, _, rfl⟩ (fun w' hr => ⟨_, 0, by rw [HTL.out], by have := HTL.out; omega, by unfold maxLen; omega, fun h => by have := HTL.out; omega⟩), HE, HPl, HL0, s2 _ (by omega), s2 _ (by omega)⟩
        case inr =>
          obtain ⟨s1, s2, s3, s4, s5, s6⟩ := HSET.out WX 5 (.slice (some ⟨g6, 1, none⟩) (nd.kids.length - 1) (cap6 - 1)) _ (Below.refl _ _) rfl
          go_meet
          exact ⟨⟨nd.k, nd.n, nd.m, nd.s, nd.lv, nd.kids.tail⟩, _, rfl, s1, HLE6.out _ _ rfl ⟨_, _, _, rfl⟩ (fun w' hr => ⟨_, cap6 - 1, by rw [HTL.out], by have := HTL.out; omega, by omega, fun h => ⟨g6, 1, rfl, fun j hj => by
            have htl := HTL.out
            rw [hr.cellAt (1 + j) (by omega), List.getElem?_map, List.getElem?_eq_getElem (by omega)]
            simp [Nat.add_comm]⟩⟩), HE, HPl, HL0, s2 _ (by omega), s2 _ (by omega)⟩
      have HN6 : Hid (¬ (ρ.n.v % 8 = 6 ∧ 0 < nd.kids.length)) := by show ¬ _; rw [← HR8.out]; exact e6
      have HE := hide (HNK.out HN4.out HN5.out HN6.out)
      have hw1 : IntKind.i64.wrap ((p : Int) - 1) = (p : Int) - 1 := by rw [IntKind.wrap_i64]; omega
      have hcond : ((((r8 : Int) == 5) = false) ∨ (((r8 : Int) == 5) = true ∧ decide (0 < (nd.kids.length : Int)) = false)) ∧ ((((r8 : Int) == 6) = false) ∨ (((r8 : Int) == 6) = true ∧ decide (0 < (nd.kids.length : Int)) = false)) := by
        refine ⟨?_, ?_⟩
        · by_cases h5 : r8 = 5
          · exact .inr ⟨beq_iff_eq.2 (by omega), by simp; have : ¬ 0 < nd.kids.length := fun q => e5 ⟨h5, q⟩; exact List.eq_nil_of_length_eq_zero (by omega)⟩
          · exact .inl (beq_eq_false_iff_ne.2 (by omega))
        · by_cases h6 : r8 = 6
          · exact .inr ⟨beq_iff_eq.2 (by omega), by simp; have : ¬ 0 < nd.kids.length := fun q => e6 ⟨h6, q⟩; exact List.eq_nil_of_length_eq_zero (by omega)⟩
          · exact .inl (beq_eq_false_iff_ne.2 (by omega))
      clear HNK e5 e6
      have HKL : Hid (∀ (g4 cap4 : Nat) (w4 wy : World), w4.ownsRow w.heap.size 3 1 (.slice (some ⟨g4, 0, none⟩) (nd.kids.length + 1) cap4) (nd.kids.length + 1) (nd.kids.map (Value.int .i64) ++ [.int .i64 ((p : Int) - 1)]) → (WX.alloc (.cells #[.int .i64 ((p : Int) - 1)] 3)).grownBy w4 (some g6) → (some g6 = some g4 ∨ g4 = WX.heap.size + 1) → wy = w4.setCell ⟨nb, 5, none⟩ (.slice (some ⟨g4, 0, none⟩) (nd.kids.length + 1) cap4) → SpS ρ.n.n base lo R g cap w.heap.size ts w wy ∧ FinR g (w.heap.size + 1) lo nb wy ⟨nd.k, nd.n, nd.m, nd.s, nd.lv, nd.kids ++ [(p : Int) - 1]⟩ ∧ wy.heap[w.heap.size]? = w3.heap[w.heap.size]? ∧ wy.heap[w.heap.size + 1]? = w3.heap[w.heap.size + 1]?) := fun g4 cap4 w4 wy hown hgrow hat hyw => by
        have hbA := bel_alloc (Below.refl WX.heap.size WX) (.cells #[.int .i64 ((p : Int) - 1)] 3)
        have hAs := hbA.size
        have hgs := hgrow.size
        have hg5 : w4.grownBy wy (some nb) := by rw [hyw]; exact grown_set w4 ⟨nb, 5, none⟩ _
        have hg5s := hg5.size
        have hg4n : g4 ≠ nb ∧ g4 ≠ w.heap.size + 1 := by
          rcases hat with h | h
          · have h9 : g6 = g4 := Option.some.inj h
            omega
          · omega
        have hk4 : ∀ b : Nat, b < WX.heap.size → b ≠ g6 → w4.heap[b]? = WX.heap[b]? := fun b hb hR => (hgrow.block b (by omega) (fun e => hR (Option.some.inj e))).trans (hbA.block b hb)
        have hk5 : ∀ b : Nat, b < WX.heap.size → b ≠ g6 → b ≠ nb → wy.heap[b]? = WX.heap[b]? := fun b hb hR hR2 => (hg5.block b (by omega) (fun e => hR2 (Option.some.inj e))).trans (hk4 b hb hR)
        refine ⟨((HSX.out.keep hbA (by omega)).new hgrow (by omega) (by omega) hglt.2 hRlt.2).new hg5 (by omega) (by omega) hglt.2 hRlt.2, fin_kid (by rw [hyw]; exact (set_cells6 ((hk4 nb hnX (by omega)).trans HNX.out) _).2) (row_same HLX.out (fun q hq => hk5 q (by simp [Value.ownBlock] at hq; omega) (by simp [Value.ownBlock] at hq; omega) (by simp [Value.ownBlock] at hq; omega))) (row_same hown (fun q hq => hg5.block q ((World.ownsRow.lt hown q hq).2) (fun e => by have := Option.some.inj e; simp [Value.ownBlock] at hq; omega))) hgB9 (by omega) (by omega) (HEX.out _ (fun b hb _ => hk5 b (by omega) (by omega) (by omega)) (by omega)), (hk5 _ (by omega) (by omega) (by omega)).trans (HOX.out _ (by omega)), (hk5 _ (by omega) (by omega) (by omega)).trans (HOX.out _ (by omega))⟩
      have HNC : Hid (∀ w4 : World, (WX.alloc (.cells #[.int .i64 ((p : Int) - 1)] 3)).grownBy w4 (some g6) → w4.heap[nb]? = WX.heap[nb]?) := fun w4 hgrow => by
        have hbA := bel_alloc (Below.refl WX.heap.size WX) (.cells #[.int .i64 ((p : Int) - 1)] 3)
        have hAs := hbA.size
        exact (hgrow.block nb (by omega) (fun e => by have := Option.some.inj e; omega)).trans (hbA.block nb hnX)
      obtain ⟨hc5, hc6⟩ := hcond
      rcases hc5 with q5 | ⟨q5, d5⟩ <;> rcases hc6 with q6 | ⟨q6, d6⟩ <;> (try have dn : ¬ (0 : Int) < (nd.kids.length : Int) := of_decide_eq_false d5) <;> (try have dn : ¬ (0 : Int) < (nd.kids.length : Int) := of_decide_eq_false d6)
      all_goals first
        | (exfalso; have h5 := eq_of_beq q5; have h6 := eq_of_beq q6; omega)
        | (
        go_wp2_with (first
          | (at_builtin
             refine wpList_append_lies _ rfl _ _ 65 rfl w.heap.size 3 i3 (.int .i64 0) 1 8 Tryz.underlying65 hi3 hz3 hs3 hb3 rfl (by omega) (.slice (some ⟨g6, 0, none⟩) nd.kids.length cap6) nd.kids.length (nd.kids.map (Value.int .i64)) rfl (HKX.out.alloc _) ⟨WX.heap.size, 0, none⟩ 1 1 [.int .i64 ((p : Int) - 1)] rfl rfl (cell_one_new _ _ _) (by intro u hu; simp at hu; subst hu; rfl) (by omega) (by unfold maxLen; omega) (by omega) (by simp; omega) (WX.heap.size + 1) (by simp) ?_
             intro g4 cap4 w4 hown4 hgrow4 hat4 hlt4
             have hnb4 := (HNC.out w4 hgrow4).trans HNX.out
             have n5' : w4.cell? ⟨nb, 5, none⟩ = some (.slice (some ⟨g6, 0, none⟩) nd.kids.length cap6) := by { rw [Lib.cell_of_heap hnb4]; rfl }
             have f5' : w4.frozen? ⟨nb, 5, none⟩ = false := Lib.frozen_of_heap hnb4 5
             have l5' := lt_cell n5'
             have HKL4 := hide (HKL.out g4 cap4 w4 _ hown4 hgrow4 hat4 rfl)
             clear hown4 hgrow4 hat4 hlt4 hnb4)
          | fail)
        go_meet
        obtain ⟨s1, s2, s3, s4⟩ := HKL4.out
        exact ⟨_, _, rfl, s1, s2, HE, HPl, HL0, s3, s4⟩)
    case rest =>
      obtain ⟨td', τ, rfl, HSc, HF, HTE, HTQ, HLL, HB1, HB2⟩ := hcut
      obtain ⟨lv', kv', hnc, ⟨a1, n1, c1, rfl⟩, ⟨a2, n2, c2', rfl⟩, htd⟩ := HF.out
      have z0 : wc.cell? ⟨nb, 0, none⟩ = some (.int .i64 td'.k) := by rw [Lib.cell_of_heap hnc]; rfl
      have z1 : wc.cell? ⟨nb, 1, none⟩ = some (.int .i64 td'.n) := by rw [Lib.cell_of_heap hnc]; rfl
      have z2 : wc.cell? ⟨nb, 2, none⟩ = some (.int .i64 td'.m) := by rw [Lib.cell_of_heap hnc]; rfl
      have z3 : wc.cell? ⟨nb, 3, none⟩ = some (.string td'.s) := by rw [Lib.cell_of_heap hnc]; rfl
      have z4 : wc.cell? ⟨nb, 4, none⟩ = some (.slice a1 n1 c1) := by rw [Lib.cell_of_heap hnc]; rfl
      have z5 : wc.cell? ⟨nb, 5, none⟩ = some (.slice a2 n2 c2') := by rw [Lib.cell_of_heap hnc]; rfl
      have zb : wc.cell? ⟨w.heap.size, 0, none⟩ = some (.slice (some ⟨g, 0, none⟩) ts.length cap) := heap_cell (HB1.out.trans (HOD.out _ (by omega)).symm) HC2.out
      have zl := lt_cell zb
      have znl := lt_cell z0
      obtain ⟨xs', hxo', hxn'⟩ := HSc.out.row
      obtain ⟨y0, y1, y2, y3, lv0, kv0, y4, y5, _⟩ := hxn' p hpl
      have hxl' := own_len hxo'
      have g0 : wc.cell? ⟨g, p * 6, none⟩ = some (.int .i64 ts[p].k) := by rw [hxo'.cellAt _ (by omega)]; exact y0
      have g1 : wc.cell? ⟨g, p * 6 + 1, none⟩ = some (.int .i64 ts[p].n) := by rw [hxo'.cellAt _ (by omega)]; exact y1
      have g2 : wc.cell? ⟨g, p * 6 + 2, none⟩ = some (.int .i64 ts[p].m) := by rw [hxo'.cellAt _ (by omega)]; exact y2
      have g3 : wc.cell? ⟨g, p * 6 + 3, none⟩ = some (.string ts[p].s) := by rw [hxo'.cellAt _ (by omega)]; exact y3
      have g4 : wc.cell? ⟨g, p * 6 + 4, none⟩ = some lv0 := by rw [hxo'.cellAt _ (by omega)]; exact y4
      have g5 : wc.cell? ⟨g, p * 6 + 5, none⟩ = some kv0 := by rw [hxo'.cellAt _ (by omega)]; exact y5
      have k0 := hxo'.frozenAt (p * 6)
      have k1 := hxo'.frozenAt (p * 6 + 1)
      have k2 := hxo'.frozenAt (p * 6 + 2)
      have k3 := hxo'.frozenAt (p * 6 + 3)
      have k4 := hxo'.frozenAt (p * 6 + 4)
      have k5 := hxo'.frozenAt (p * 6 + 5)
      have lgc := lt_cell g0
      have HHT := hide htd
      have hcS := HSc.out.size
      clear hnc htd hxn' hxl' y0 y1 y2 y3 y4 y5 hxo' x0 x1 x2 x3 x4 x5 f0 f1 f2 f3 f4 f5
      go_upto_region 22 with fail
      obtain ⟨WZ, hWZ⟩ : ∃ WZ, WZ = ((((((wc.setCell ⟨g, p * 6, none⟩ (.int .i64 td'.k)).setCell ⟨g, p * 6 + 1, none⟩ (.int .i64 td'.n)).setCell ⟨g, p * 6 + 2, none⟩ (.int .i64 td'.m)).setCell ⟨g, p * 6 + 3, none⟩ (.string td'.s)).setCell ⟨g, p * 6 + 4, none⟩ (.slice a1 n1 c1)).setCell ⟨g, p * 6 + 5, none⟩ (.slice a2 n2 c2')) := ⟨_, rfl⟩
      rw [← hWZ]
      have hgz : wc.grownBy WZ (some g) := by rw [hWZ]; exact grown_set6 wc g (p * 6) _ _ _ _ _ _
      have HTZ := hide (TmQ.put2 (Q2 := fun b => b ≠ g ∧ b ≠ w.heap.size + 1 ∧ lo ≤ b) (fun b hb => ⟨hb.2.1, by omega, hb.2.2.2⟩) (fun b hb => hb.1) HSc.out.row p hpl td' (.slice a1 n1 c1) (.slice a2 n2 c2') HHT.out hWZ)
      have hgzs := hgz.size
      have hbz : Below base w WZ := HSc.out.bel.grown hgz (by omega) (fun k hk => by have := Option.some.inj hk; omega)
      have hrz : WZ.heap[w.heap.size + 1]? = some (.cells #[.slice none 0 0] 28 (0, 0)) := (hgz.block _ (by have := HB2.out; omega) (fun e => by have := Option.some.inj e; omega)).trans (HB2.out.trans HX3.out)
      have zb2 : WZ.cell? ⟨w.heap.size, 0, none⟩ = some (.slice (some ⟨g, 0, none⟩) ts.length cap) := heap_cell (hgz.block _ zl (fun e => by have := Option.some.inj e; omega)) zb
      have zr : WZ.cell? ⟨w.heap.size + 1, 0, none⟩ = some (.slice none 0 0) := by rw [Lib.cell_of_heap hrz]; rfl
      have zf : WZ.frozen? ⟨w.heap.size + 1, 0, none⟩ = false := Lib.frozen_of_heap hrz 0
      have zl2 := lt_cell zb2
      have zl3 := lt_cell zr
      have HBZ := hide hbz
      have HKZ : Hid (∀ b : Nat, b < w.heap.size → b ≠ R → b ≠ g → WZ.heap[b]? = w.heap[b]?) := fun b h1 h2 h3 => (hgz.block b (by omega) (fun e => h3 (Option.some.inj e))).trans (HSc.out.kept b h1 h2)
      have HSL : Hid ((ts.set p td').length = ts.length) := List.length_set
      have HRZ : Hid (RdAt (spoilQ ρ) base WZ R) := by show RdAt _ _ _ _; rw [← HTQ.out]; exact HSc.out.rd.grown hgz (fun e => hgR e.symm) hglt.1
      clear hWZ hgz hbz hrz zb zl g0 g1 g2 g3 g4 g5 k0 k1 k2 k3 k4 k5 z0 z1 z2 z3 z4 z5
      go_wp2_with fail
      refine bodyPost_ret (v := .agg #[.slice (some ⟨g, 0, none⟩) ts.length cap]) (by simp [results, Tryz.results135, go_sem, zr]) rfl ⟨rfl, ?_, HBZ.out.setCell (p := ⟨_, _, _⟩) (by show base ≤ w.heap.size + 1; omega) _, fun b h1 h2 h3 => ((grown_set WZ ⟨w.heap.size + 1, 0, none⟩ _).block b (by omega) (fun e => by have e9 : b = w.heap.size + 1 := Option.some.inj e; omega)).trans (HKZ.out b h1 h2 h3), ?_, HRZ.out.grown (grown_set WZ ⟨w.heap.size + 1, 0, none⟩ _) (by show R ≠ w.heap.size + 1; omega) (by show base ≤ w.heap.size + 1; omega)⟩
      rotate_left
      · intro td hm l hl
        rw [← HPQ.out, ← HTE.out] at hm
        rcases List.mem_or_eq_of_mem_set hm with h9 | h9
        · exact .inl ⟨td, h9, hl⟩
        · rw [h9] at hl
          rcases HLL.out l hl with h8 | h8
          · exact .inl ⟨nd, HNM.out, h8⟩
          · exact .inr h8
      intro w8 hw8
      have hgr := grown_set WZ ⟨w.heap.size + 1, 0, none⟩ (.slice (some ⟨g, 0, none⟩) ts.length cap)
      have ht := HTZ.out.keep (R := fun b => b ≠ g ∧ b ≠ w.heap.size + 1 ∧ lo ≤ b) hgr.size (fun q hq => hgr.block q (by simp [Value.ownBlock] at hq; omega) (fun e => by have e9 : q = w.heap.size + 1 := Option.some.inj e; simp [Value.ownBlock] at hq; omega)) (fun b hb hl => ⟨hb, hgr.block b hl (fun e => hb.2.1 (Option.some.inj e))⟩)
      rw [← HPQ.out, ← HTE.out]
      exact nodes_fr ht (fun q hq => hw8 q (by simp [Value.ownBlock] at hq; omega) (by rw [size_set]; simp [Value.ownBlock] at hq; omega)) (fun b hb hl => hw8 b hb.2.2 hl)
end Go.Proofs.YtjkkojefpecbfaaGreat
