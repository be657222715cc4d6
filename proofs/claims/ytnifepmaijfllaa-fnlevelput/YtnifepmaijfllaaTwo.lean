/- What the specification's l1Two answers: two levels, in new memory. -/
import Derived.Test.YtnifepmaijfllaaAnyW
import Derived.Test.YtnifepmaijfllaaTQ
import Derived.Test.YtnifepmaijfllaaSpec
import Derived.Test.YtnifepmaijfllaaSignS
namespace Go.Proofs.Ytnifepmaijfllaa
open Go.ChangeShapes Go.WideShapes Go.ChangeAt Go.RowKit

/-- wpQuiet behind a structure: each tactic asks whether the goal is a function's type, and would walk through all operations whose guard says no to find that out. -/
structure QW (P : Program) (ops : Array Oper) (C : World → Prop) (Q : Act → Prop) (l : List Oper) (a : Act) : Prop where
  out : wpQuiet P ops C Q l a
theorem QW.step {P : Program} {ops : Array Oper} {C : World → Prop} {Q : Act → Prop} {a : Act} {o : Oper} {rest : List Oper}
    (h : ∀ K : Act → Prop, (∀ a, QW P ops C Q rest a → K a) → if Region.wanted o (yielded ops a.tmps) then o.quiet P a C K else K (a.put o.dst undef)) : QW P ops C Q (o :: rest) a :=
  ⟨wpQuiet_step (fun K hK => h K (fun a h => hK a h.out))⟩
theorem QW.nil {P : Program} {ops : Array Oper} {C : World → Prop} {Q : Act → Prop} {a : Act} (h : Q a) : QW P ops C Q [] a := ⟨wpQuiet_nil h⟩
/-- As wp_region_bel, what follows hidden. -/
theorem wp_region_belH {P : Program} {id : Nat} {Q : Exit → Act → World → Prop} {a : Act} {w : World} {l : List Oper} (B : Nat) (hm : P.follows .mixedOrders = true) (hB : Region.lexB .any l.toArray = true)
    (h : ∀ Q' : Act → Prop, Hid (∀ a', (∀ p : Bel B w, Q .normal a' p.w') → Q' a') → QW P l.toArray (fun w' => ∃ p : Bel B w, w' = p.w') Q' l a) : (Code.region id l.toArray true).wp P Q a w :=
  wp_region_bel B hm hB (h (fun a' => ∀ w', (∃ p : Bel B w, w' = p.w') → Q .normal a' w') (show ∀ a', (∀ p : Bel B w, Q .normal a' p.w') → ∀ w', (∃ p : Bel B w, w' = p.w') → Q .normal a' w' from fun _ h w' hw => by obtain ⟨p, hp⟩ := hw; rw [hp]; exact h p)).out

/-- A level's row. -/
def LvRow (w : World) (g cap : Nat) (ns : List Nd) : Prop := (∃ B, NdRow B (fun _ => True) w g cap ns) ∧ SmallS ns
theorem LvRow.nodes {w : World} {g cap : Nat} {ns : List Nd} (h : LvRow w g cap ns) : NodesAt w (.slice (some ⟨g, 0, none⟩) ns.length cap) ns := by
  obtain ⟨⟨B, h1⟩, _⟩ := h; exact h1.nodes
theorem LvRow.sz {w : World} {g cap : Nat} {ns : List Nd} (h : LvRow w g cap ns) : ∀ nd ∈ ns, nd.s.size ≤ maxLen := fun nd hn => by
  have := h.2 nd hn; unfold maxLen; omega
theorem LvRow.keep {w w' : World} {g cap : Nat} {ns : List Nd} (h : LvRow w g cap ns) (hb : Below w.heap.size w w') : LvRow w' g cap ns := by
  obtain ⟨⟨B, h1⟩, h2⟩ := h; exact ⟨⟨B, h1.keep hb⟩, h2⟩
theorem LvRow.rd {b2 : Nat} {w w' : World} {g cap R : Nat} {ns : List Nd} (h : LvRow w g cap ns) (hr : RdAt b2 w R) (hg : w.grownBy w' (some R)) : LvRow w' g cap ns := by
  obtain ⟨⟨B, h1⟩, h2⟩ := h; exact ⟨⟨B, h1.rd hr hg⟩, h2⟩
theorem LvRow.set30 {w : World} {g cap l : Nat} {ns : List Nd} {cs : Array Value} (h : LvRow w g cap ns) (ht : w.heap[l]? = some (.cells cs 30 (0, 0))) (u : Value) : LvRow (w.setCell ⟨l, 0, none⟩ u) g cap ns := by
  obtain ⟨⟨B, h1⟩, h2⟩ := h
  refine ⟨⟨B, h1.set (p := ⟨l, 0, none⟩) ?_ ⟨cs, 30, by decide, ht⟩ u⟩, h2⟩
  obtain ⟨xs, h3, _⟩ := h1
  obtain ⟨c2, h4⟩ := row_tag h3
  intro e
  have e' : g = l := e
  subst e'
  rw [h4] at ht
  simp at ht

theorem RdAt.back {base : Nat} {w : World} {R p : Nat} (h : RdAt base w R) (hp : p ≤ 1000) : RdAt base (w.setCell ⟨R, 1, none⟩ (.int .i64 (p : Int))) R := by
  have hl := h.lt
  obtain ⟨a, n, cap, q, h1, h2, h3, h4⟩ := h
  exact ⟨a, n, cap, p, (h1.stored 1 (.int .i64 (p : Int))).1, h2, hp, h4.keep ((Below.refl base w).setCell (p := ⟨_, _, _⟩) (by show base ≤ R; omega) _)⟩
theorem RdAt.cells {base : Nat} {w : World} {R : Nat} (h : RdAt base w R) : ∃ p : Nat, w.cell? ⟨R, 1, none⟩ = some (.int .i64 (p : Int)) ∧ p ≤ 1000 ∧ w.frozen? ⟨R, 1, none⟩ = false := by
  obtain ⟨a, n, cap, p, h1, h2, h3, h4⟩ := h
  exact ⟨p, by rw [h1.cellAt 1 (by omega)]; rfl, h3, h1.frozenAt 1⟩

/-- One level drawn: the two results' cells, the level's cell, and the reader. -/
structure OneSt (base R b2 b3 l6 ga ca : Nat) (na : List Nd) (w0 w : World) : Prop where
  rd : RdAt base w R
  gr : w0.grownBy w (some R)
  la : LvRow w ga ca na
  k2 : w.heap[b2]? = some (.cells #[.slice none 0 0] 30 (0, 0))
  k3 : w.heap[b3]? = some (.cells #[.slice none 0 0] 30 (0, 0))
  k6 : w.heap[l6]? = some (.cells #[.slice (some ⟨ga, 0, none⟩) na.length ca] 30 (0, 0))
theorem block_lt {w : World} {b : Nat} {o : Obj} (h : w.heap[b]? = some o) : b < w.heap.size := (Array.getElem?_eq_some_iff.1 h).1
theorem OneSt.read {base R b2 b3 l6 ga ca : Nat} {na : List Nd} {w0 w w' : World} (h : OneSt base R b2 b3 l6 ga ca na w0 w) (hr : RdAt base w' R) (hg : w.grownBy w' (some R)) (n2 : b2 ≠ R) (n3 : b3 ≠ R) (n6 : l6 ≠ R) : OneSt base R b2 b3 l6 ga ca na w0 w' :=
  ⟨hr, h.gr.trans hg, h.la.rd h.rd hg, (hg.block b2 (block_lt h.k2) (by simp; exact n2)).trans h.k2, (hg.block b3 (block_lt h.k3) (by simp; exact n3)).trans h.k3, (hg.block l6 (block_lt h.k6) (by simp; exact n6)).trans h.k6⟩
/-- Two levels drawn. -/
structure TwoSt (R b2 b3 l6 l7 ga ca gb cb : Nat) (na nb : List Nd) (w0 w : World) : Prop where
  gr : w0.grownBy w (some R)
  la : LvRow w ga ca na
  lb : LvRow w gb cb nb
  k2 : w.heap[b2]? = some (.cells #[.slice none 0 0] 30 (0, 0))
  k3 : w.heap[b3]? = some (.cells #[.slice none 0 0] 30 (0, 0))
  k6 : w.heap[l6]? = some (.cells #[.slice (some ⟨ga, 0, none⟩) na.length ca] 30 (0, 0))
  k7 : w.heap[l7]? = some (.cells #[.slice (some ⟨gb, 0, none⟩) nb.length cb] 30 (0, 0))
theorem TwoSt.keep {R b2 b3 l6 l7 ga ca gb cb : Nat} {na nb : List Nd} {w0 w w' : World} (h : TwoSt R b2 b3 l6 l7 ga ca gb cb na nb w0 w) (hb : Below w.heap.size w w') : TwoSt R b2 b3 l6 l7 ga ca gb cb na nb w0 w' :=
  ⟨h.gr.trans ((grown_of hb).but _), h.la.keep hb, h.lb.keep hb, (hb.block _ (block_lt h.k2)).trans h.k2, (hb.block _ (block_lt h.k3)).trans h.k3, (hb.block _ (block_lt h.k6)).trans h.k6, (hb.block _ (block_lt h.k7)).trans h.k7⟩
theorem far_block {w : World} {l b : Nat} {o : Obj} (h : w.heap[b]? = some o) (hn : b ≠ l) (u : Value) : (w.setCell ⟨l, 0, none⟩ u).heap[b]? = some o :=
  (heap_setCell_other w ⟨l, 0, none⟩ b u (fun e => hn (by simpa using e))).trans h
theorem TwoSt.setB {R b2 b3 l6 l7 ga ca gb cb gc cc : Nat} {na nb nc : List Nd} {w0 w : World} (h : TwoSt R b2 b3 l6 l7 ga ca gb cb na nb w0 w) (hc : LvRow w gc cc nc) (n2 : b2 ≠ l7) (n3 : b3 ≠ l7) (n6 : l6 ≠ l7) (hw : w0.heap.size ≤ l7) : TwoSt R b2 b3 l6 l7 ga ca gc cc na nc w0 (w.setCell ⟨l7, 0, none⟩ (.slice (some ⟨gc, 0, none⟩) nc.length cc)) :=
  ⟨grown_new h.gr hw _, h.la.set30 h.k7 _, hc.set30 h.k7 _, far_block h.k2 n2 _, far_block h.k3 n3 _, far_block h.k6 n6 _, heap_setCell_same w l7 0 _ 30 _ h.k7⟩
theorem TwoSt.setA {R b2 b3 l6 l7 ga ca gb cb gc cc : Nat} {na nb nc : List Nd} {w0 w : World} (h : TwoSt R b2 b3 l6 l7 ga ca gb cb na nb w0 w) (hc : LvRow w gc cc nc) (n2 : b2 ≠ l6) (n3 : b3 ≠ l6) (n7 : l7 ≠ l6) (hw : w0.heap.size ≤ l6) : TwoSt R b2 b3 l6 l7 gc cc gb cb nc nb w0 (w.setCell ⟨l6, 0, none⟩ (.slice (some ⟨gc, 0, none⟩) nc.length cc)) :=
  ⟨grown_new h.gr hw _, hc.set30 h.k6 _, h.lb.set30 h.k6 _, far_block h.k2 n2 _, far_block h.k3 n3 _, heap_setCell_same w l6 0 _ 30 _ h.k6, far_block h.k7 n7 _⟩
/-- Two levels are the result. -/
def TwoOut (R : Nat) (w : World) (e : Ending) (w' : World) : Prop := ∃ ga ca na gb cb nb, e = .returned (.tuple #[.agg #[.slice (some ⟨ga, 0, none⟩) na.length ca], .agg #[.slice (some ⟨gb, 0, none⟩) nb.length cb]]) ∧ LvRow w' ga ca na ∧ LvRow w' gb cb nb ∧ w.grownBy w' (some R)
theorem two_out {R b2 b3 l6 l7 ga ca gb cb : Nat} {na nb : List Nd} {w0 w : World} (h : TwoSt R b2 b3 l6 l7 ga ca gb cb na nb w0 w) (n : b2 ≠ b3) (h2 : w0.heap.size ≤ b2) (h3 : w0.heap.size ≤ b3) (u1 u2 : Value) :
    (LvRow ((w.setCell ⟨b2, 0, none⟩ u1).setCell ⟨b3, 0, none⟩ u2) ga ca na ∧ LvRow ((w.setCell ⟨b2, 0, none⟩ u1).setCell ⟨b3, 0, none⟩ u2) gb cb nb ∧ w0.grownBy ((w.setCell ⟨b2, 0, none⟩ u1).setCell ⟨b3, 0, none⟩ u2) (some R)) ∧
    (LvRow ((w.setCell ⟨b3, 0, none⟩ u2).setCell ⟨b2, 0, none⟩ u1) ga ca na ∧ LvRow ((w.setCell ⟨b3, 0, none⟩ u2).setCell ⟨b2, 0, none⟩ u1) gb cb nb ∧ w0.grownBy ((w.setCell ⟨b3, 0, none⟩ u2).setCell ⟨b2, 0, none⟩ u1) (some R)) :=
  ⟨⟨(h.la.set30 h.k2 _).set30 (far_block h.k3 n.symm _) _, (h.lb.set30 h.k2 _).set30 (far_block h.k3 n.symm _) _, grown_new (grown_new h.gr h2 _) h3 _⟩,
   ⟨(h.la.set30 h.k3 _).set30 (far_block h.k2 n _) _, (h.lb.set30 h.k3 _).set30 (far_block h.k2 n _) _, grown_new (grown_new h.gr h3 _) h2 _⟩⟩
end Go.Proofs.Ytnifepmaijfllaa
