/- What the specification's l1Two answers: two levels, in new memory. -/
import Derived.Test.YtnhkpmgfgiolbaaAnyW
import Derived.Test.YtnhkpmgfgiolbaaTQ
import Derived.Test.YtnhkpmgfgiolbaaSpec
import Derived.Test.YtnhkpmgfgiolbaaSignS
namespace Go.Proofs.Ytnhkpmgfgiolbaa
open Go.ChangeShapes Go.WideShapes Go.ChangeAt Go.RowKit

/-- wpQuiet behind a structure: each tactic asks whether the goal is a function's type, and would walk through all operations whose guard says no to find that out. -/
structure QW (P : Program) (ops : Array Oper) (C : World → Prop) (Q : Act → Prop) (l : List Oper) (a : Act) : Prop where
  out : wpQuiet P ops C Q l a
theorem QW.step {P : Program} {ops : Array Oper} {C : World → Prop} {Q : Act → Prop} {a : Act} {o : Oper} {rest : List Oper}
    (h : ∀ K : Act → Prop, (∀ a, QW P ops C Q rest a → K a) → if Region.wanted o (yielded ops a.tmps) then o.quiet P a C K else K (a.put o.dst undef)) : QW P ops C Q (o :: rest) a :=
  ⟨wpQuiet_step (fun K hK => h K (fun a h => hK a h.out))⟩
theorem QW.nil {P : Program} {ops : Array Oper} {C : World → Prop} {Q : Act → Prop} {a : Act} (h : Q a) : QW P ops C Q [] a := ⟨wpQuiet_nil h⟩
/-- As wp_region_bel, what follows hidden. -/
theorem wp_region_belH {P : Program} {id : Nat} {Q : Exit → Act → World → Prop} {a : Act} {w : World} {l : List Oper} (B : Nat) (hm : P.follows .mixedOrders = true) (hB : Region.lexB .any l.toArray = true)
    (h : ∀ Q' : Act → Prop, Hid (∀ a', (∀ p : Bel B w, Q .normal a' p.w') → Q' a') → QW P l.toArray (fun w' => ∃ p : Bel B w, w' = p.w') Q' l a) : (Code.region id l.toArray true).wp P Q a w :=
  wp_region_bel B hm hB (h (fun a' => ∀ w', (∃ p : Bel B w, w' = p.w') → Q .normal a' w') (show ∀ a', (∀ p : Bel B w, Q .normal a' p.w') → ∀ w', (∃ p : Bel B w, w' = p.w') → Q .normal a' w' from fun _ h w' hw => by obtain ⟨p, hp⟩ := hw; rw [hp]; exact h p)).out

/-- A level's row. -/
def LvRow (w : World) (g cap : Nat) (ns : List Nd) : Prop := (∃ B, NdRow B (fun _ => True) w g cap ns) ∧ SmallS ns
theorem LvRow.nodes {w : World} {g cap : Nat} {ns : List Nd} (h : LvRow w g cap ns) : NodesAt w (.slice (some ⟨g, 0, none⟩) ns.length cap) ns := by
  obtain ⟨⟨B, h1⟩, _⟩ := h; exact h1.nodes
theorem LvRow.sz {w : World} {g cap : Nat} {ns : List Nd} (h : LvRow w g cap ns) : ∀ nd ∈ ns, nd.s.size ≤ maxLen := fun nd hn => by
  have := h.2 nd hn; unfold maxLen; omega
theorem LvRow.keep {w w' : World} {g cap : Nat} {ns : List Nd} (h : LvRow w g cap ns) (hb : Below w.heap.size w w') : LvRow w' g cap ns := by
  obtain ⟨⟨B, h1⟩, h2⟩ := h; exact ⟨⟨B, h1.keep hb⟩, h2⟩
theorem LvRow.rd {b2 : Nat} {w w' : World} {g cap R : Nat} {ns : List Nd} (h : LvRow w g cap ns) (hr : RdAt b2 w R) (hg : w.grownBy w' (some R)) : LvRow w' g cap ns := by
  obtain ⟨⟨B, h1⟩, h2⟩ := h; exact ⟨⟨B, h1.rd hr hg⟩, h2⟩
theorem LvRow.set30 {w : World} {g cap l : Nat} {ns : List Nd} {cs : Array Value} (h : LvRow w g cap ns) (ht : w.heap[l]? = some (.cells cs 30 (0, 0))) (u : Value) : LvRow (w.setCell ⟨l, 0, none⟩ u) g cap ns := by
  obtain ⟨⟨B, h1⟩, h2⟩ := h
  refine ⟨⟨B, h1.set (p := ⟨l, 0, none⟩) ?_ ⟨cs, 30, by decide, ht⟩ u⟩, h2⟩
  obtain ⟨xs, h3, _⟩ := h1
  obtain ⟨c2, h4⟩ := row_tag h3
  intro e
  have e' : g = l := e
  subst e'
  rw [h4] at ht
  simp at ht

theorem RdAt.back {base : Nat} {w : World} {R p : Nat} (h : RdAt base w R) (hp : p ≤ 1000) : RdAt base (w.setCell ⟨R, 1, none⟩ (.int .i64 (p : Int))) R := by
  have hl := h.lt
  obtain ⟨a, n, cap, q, h1, h2, h3, h4⟩ := h
  exact ⟨a, n, cap, p, (h1.stored 1 (.int .i64 (p : Int))).1, h2, hp, h4.keep ((Below.refl base w).setCell (p := ⟨_, _, _⟩) (by show base ≤ R; omega) _)⟩
theorem RdAt.cells {base : Nat} {w : World} {R : Nat} (h : RdAt base w R) : ∃ p : Nat, w.cell? ⟨R, 1, none⟩ = some (.int .i64 (p : Int)) ∧ p ≤ 1000 ∧ w.frozen? ⟨R, 1, none⟩ = false := by
  obtain ⟨a, n, cap, p, h1, h2, h3, h4⟩ := h
  exact ⟨p, by rw [h1.cellAt 1 (by omega)]; rfl, h3, h1.frozenAt 1⟩

/-- One level drawn: the two results' cells, the level's cell, and the reader. -/
structure OneSt (base R b2 b3 l6 ga ca : Nat) (na : List Nd) (w0 w : World) : Prop where
  rd : RdAt base w R
  gr : w0.grownBy w (some R)
  la : LvRow w ga ca na
  k2 : w.heap[b2]? = some (.cells #[.slice none 0 0] 30 (0, 0))
  k3 : w.heap[b3]? = some (.cells #[.slice none 0 0] 30 (0, 0))
  k6 : w.heap[l6]? = some (.cells #[.slice (some ⟨ga, 0, none⟩) na.length ca] 30 (0, 0))
theorem block_lt {w : World} {b : Nat} {o : Obj} (h : w.heap[b]? = some o) : b < w.heap.size := (Array.getElem?_eq_some_iff.1 h).1
theorem OneSt.read {base R b2 b3 l6 ga ca : Nat} {na : List Nd} {w0 w w' : World} (h : OneSt base R b2 b3 l6 ga ca na w0 w) (hr : RdAt base w' R) (hg : w.grownBy w' (some R)) (n2 : b2 ≠ R) (n3 : b3 ≠ R) (n6 : l6 ≠ R) : OneSt base R b2 b3 l6 ga ca na w0 w' :=
  ⟨hr, h.gr.trans hg, h.la.rd h.rd hg, (hg.block b2 (block_lt h.k2) (by simp; exact n2)).trans h.k2, (hg.block b3 (block_lt h.k3) (by simp; exact n3)).trans h.k3, (hg.block l6 (block_lt h.k6) (by simp; exact n6)).trans h.k6⟩
/-- Two levels drawn. -/
structure TwoSt (R b2 b3 l6 l7 ga ca gb cb : Nat) (na nb : List Nd) (w0 w : World) : Prop where
  gr : w0.grownBy w (some R)
  la : LvRow w ga ca na
  lb : LvRow w gb cb nb
  k2 : w.heap[b2]? = some (.cells #[.slice none 0 0] 30 (0, 0))
  k3 : w.heap[b3]? = some (.cells #[.slice none 0 0] 30 (0, 0))
  k6 : w.heap[l6]? = some (.cells #[.slice (some ⟨ga, 0, none⟩) na.length ca] 30 (0, 0))
  k7 : w.heap[l7]? = some (.cells #[.slice (some ⟨gb, 0, none⟩) nb.length cb] 30 (0, 0))
theorem TwoSt.keep {R b2 b3 l6 l7 ga ca gb cb : Nat} {na nb : List Nd} {w0 w w' : World} (h : TwoSt R b2 b3 l6 l7 ga ca gb cb na nb w0 w) (hb : Below w.heap.size w w') : TwoSt R b2 b3 l6 l7 ga ca gb cb na nb w0 w' :=
  ⟨h.gr.trans ((grown_of hb).but _), h.la.keep hb, h.lb.keep hb, (hb.block _ (block_lt h.k2)).trans h.k2, (hb.block _ (block_lt h.k3)).trans h.k3, (hb.block _ (block_lt h.k6)).trans h.k6, (hb.block _ (block_lt h.k7)).trans h.k7⟩
theorem far_block {w : World} {l b : Nat} {o : Obj} (h : w.heap[b]? = some o) (hn : b ≠ l) (u : Value) : (w.setCell ⟨l, 0, none⟩ u).heap[b]? = some o :=
  (heap_setCell_other w ⟨l, 0, none⟩ b u (fun e => hn (by simpa using e))).trans h
theorem TwoSt.setB {R b2 b3 l6 l7 ga ca gb cb gc cc : Nat} {na nb nc : List Nd} {w0 w : World} (h : TwoSt R b2 b3 l6 l7 ga ca gb cb na nb w0 w) (hc : LvRow w gc cc nc) (n2 : b2 ≠ l7) (n3 : b3 ≠ l7) (n6 : l6 ≠ l7) (hw : w0.heap.size ≤ l7) : TwoSt R b2 b3 l6 l7 ga ca gc cc na nc w0 (w.setCell ⟨l7, 0, none⟩ (.slice (some ⟨gc, 0, none⟩) nc.length cc)) :=
  ⟨grown_new h.gr hw _, h.la.set30 h.k7 _, hc.set30 h.k7 _, far_block h.k2 n2 _, far_block h.k3 n3 _, far_block h.k6 n6 _, heap_setCell_same w l7 0 _ 30 _ h.k7⟩
theorem TwoSt.setA {R b2 b3 l6 l7 ga ca gb cb gc cc : Nat} {na nb nc : List Nd} {w0 w : World} (h : TwoSt R b2 b3 l6 l7 ga ca gb cb na nb w0 w) (hc : LvRow w gc cc nc) (n2 : b2 ≠ l6) (n3 : b3 ≠ l6) (n7 : l7 ≠ l6) (hw : w0.heap.size ≤ l6) : TwoSt R b2 b3 l6 l7 gc cc gb cb nc nb w0 (w.setCell ⟨l6, 0, none⟩ (.slice (some ⟨gc, 0, none⟩) nc.length cc)) :=
  ⟨grown_new h.gr hw _, hc.set30 h.k6 _, h.lb.set30 h.k6 _, far_block h.k2 n2 _, far_block h.k3 n3 _, heap_setCell_same w l6 0 _ 30 _ h.k6, far_block h.k7 n7 _⟩
/-- Two levels are the result. -/
def TwoOut (R : Nat) (w : World) (e : Ending) (w' : World) : Prop := ∃ ga ca na gb cb nb, e = .returned (.tuple #[.agg #[.slice (some ⟨ga, 0, none⟩) na.length ca], .agg #[.slice (some ⟨gb, 0, none⟩) nb.length cb]]) ∧ LvRow w' ga ca na ∧ LvRow w' gb cb nb ∧ w.grownBy w' (some R)
theorem two_out {R b2 b3 l6 l7 ga ca gb cb : Nat} {na nb : List Nd} {w0 w : World} (h : TwoSt R b2 b3 l6 l7 ga ca gb cb na nb w0 w) (n : b2 ≠ b3) (h2 : w0.heap.size ≤ b2) (h3 : w0.heap.size ≤ b3) (u1 u2 : Value) :
    (LvRow ((w.setCell ⟨b2, 0, none⟩ u1).setCell ⟨b3, 0, none⟩ u2) ga ca na ∧ LvRow ((w.setCell ⟨b2, 0, none⟩ u1).setCell ⟨b3, 0, none⟩ u2) gb cb nb ∧ w0.grownBy ((w.setCell ⟨b2, 0, none⟩ u1).setCell ⟨b3, 0, none⟩ u2) (some R)) ∧
    (LvRow ((w.setCell ⟨b3, 0, none⟩ u2).setCell ⟨b2, 0, none⟩ u1) ga ca na ∧ LvRow ((w.setCell ⟨b3, 0, none⟩ u2).setCell ⟨b2, 0, none⟩ u1) gb cb nb ∧ w0.grownBy ((w.setCell ⟨b3, 0, none⟩ u2).setCell ⟨b2, 0, none⟩ u1) (some R)) :=
  ⟨⟨(h.la.set30 h.k2 _).set30 (far_block h.k3 n.symm _) _, (h.lb.set30 h.k2 _).set30 (far_block h.k3 n.symm _) _, grown_new (grown_new h.gr h2 _) h3 _⟩,
   ⟨(h.la.set30 h.k3 _).set30 (far_block h.k2 n _) _, (h.lb.set30 h.k3 _).set30 (far_block h.k2 n _) _, grown_new (grown_new h.gr h3 _) h2 _⟩⟩
end Go.Proofs.Ytnhkpmgfgiolbaa

/- What the specification's l1Two answers: the walk. -/
namespace Go.Proofs.Ytnhkpmgfgiolbaa
open Go.ChangeShapes Go.WideShapes Go.ChangeAt Go.RowKit

set_option maxRecDepth 20000 in
set_option maxHeartbeats 2000000 in
theorem l1Two_any (R base : Nat) (w : World) (h : RdAt base w R) :
    Calls Try.prog 87 #[.pointer (some ⟨R, 0, none⟩)] w (TwoOut R w) := by
  have hl := h.lt
  obtain ⟨W, hW⟩ : ∃ W, W = (w.alloc (.cells #[.slice none 0 0] 30)).alloc (.cells #[.slice none 0 0] 30) := ⟨_, rfl⟩
  have HB := hide (show Below w.heap.size w W by rw [hW]; exact bel_alloc (bel_alloc (Below.refl _ _) _) _)
  have HR0 := hide (h.keep HB.out)
  have hsW : W.heap.size = w.heap.size + 1 + 1 := by rw [hW]; simp
  have HK2 := hide (show W.heap[w.heap.size]? = some (.cells #[.slice none 0 0] 30 (0, 0)) by rw [hW]; exact new_block w _ _ 0)
  have HK3 := hide (show W.heap[w.heap.size + 1]? = some (.cells #[.slice none 0 0] 30 (0, 0)) by rw [hW]; have := heap_alloc_new (w.alloc (.cells #[.slice none 0 0] 30)) (.cells #[.slice none 0 0] 30); rw [World.size_alloc] at this; exact this)
  have hlR := hl.2
  clear h
  go_enter Try.func87, Try.ntmps87
  go_wp2_with fail
  rw [← hW]
  clear hW
  refine (next_any R base _ HR0.out).mono ?_
  rintro e w1 ⟨v, rfl, hv0, hv1, hr1, hg1⟩
  obtain ⟨p, c1, hp, _⟩ := hr1.cells
  have HR1 := hide hr1
  have HG1 := hide hg1
  have hs1 := hg1.size
  clear hr1 hg1
  go_wp2_with fail
  refine (l1Any_any R base _ HR1.out).mono ?_
  rintro e w2 ⟨g2, cap2, na, rfl, ⟨B2, hB2, hn2⟩, hl2, hz2, hr2, hg2⟩
  have hs2 := hg2.size
  obtain ⟨W3, hW3⟩ : ∃ W3, W3 = w2.alloc (.cells #[.slice (some ⟨g2, 0, none⟩) na.length cap2] 30) := ⟨_, rfl⟩
  have hb3 : Below w2.heap.size w2 W3 := by rw [hW3]; exact bel_alloc (Below.refl _ _) _
  have HO := hide (show OneSt base R w.heap.size (w.heap.size + 1) w2.heap.size g2 cap2 na w W3 from
    ⟨hr2.keep hb3, (((grown_of HB.out).but (some R)).trans (HG1.out.trans hg2)).trans ((grown_of hb3).but _), LvRow.keep ⟨⟨B2, hn2⟩, hz2⟩ hb3,
     (hb3.block _ (by omega)).trans ((hg2.block w.heap.size (by omega) (by simp; omega)).trans ((HG1.out.block w.heap.size (by omega) (by simp; omega)).trans HK2.out)),
     (hb3.block _ (by omega)).trans ((hg2.block (w.heap.size + 1) (by omega) (by simp; omega)).trans ((HG1.out.block (w.heap.size + 1) (by omega) (by simp; omega)).trans HK3.out)),
     by rw [hW3]; exact heap_alloc_new w2 _⟩)
  have hlen2 := hl2
  obtain ⟨l6, hl6⟩ : ∃ l6, l6 = w2.heap.size := ⟨_, rfl⟩
  have h6a : w.heap.size + 1 < l6 := by omega
  have h6b : l6 < W3.heap.size := by rw [hW3, hl6]; simp
  clear hr2 hg2 hn2 hz2 hb3 HB HR0 HR1 HG1 HK2 HK3 c1
  obtain ⟨p3, c3, _, f3⟩ := HO.out.rd.cells
  obtain ⟨m, hm, hml⟩ := tmod_nat (m := 2) hv0 (by omega)
  have hm' : v.tmod 2 = (m : Int) := hm
  have hwm : IntKind.i64.wrap (m : Int) = (m : Int) := by rw [IntKind.wrap_i64]; omega
  go_upto_region 4 with fail
  rw [← hW3]
  rw [← hl6] at HO ⊢
  clear hW3 hl6
  go_upto_if 20 with fail
  go_cut [] from 18 to 24 (fun wx => Hid (OneSt base R w.heap.size (w.heap.size + 1) l6 g2 cap2 na w wx))
  case first =>
    by_cases h0 : m = 0
    · have h0' : (m : Int) = 0 := by omega
      go_wp2_with fail
      go_meet
      exact HO.out.read (HO.out.rd.back hp) (grown_set W3 ⟨R, 1, none⟩ _) (by omega) (by omega) (by omega)
    · have h0' : ¬ (m : Int) = 0 := by omega
      go_wp2_with fail
      go_meet
      exact HO
  case rest =>
    have HO1 := hcut
    clear HO c3 f3 hm hm' hwm hml
    have hsc := block_lt HO1.out.k6
    go_wp2_with fail
    refine (l1Any_any R base _ HO1.out.rd).mono ?_
    rintro e w4 ⟨g4, cap4, nb, rfl, ⟨B4, hB4, hn4⟩, hl4, hz4, hr4, hg4⟩
    have hs4 := hg4.size
    have HO4 := hide (HO1.out.read hr4 hg4 (by omega) (by omega) (by omega))
    obtain ⟨W5, hW5⟩ : ∃ W5, W5 = w4.alloc (.cells #[.slice (some ⟨g4, 0, none⟩) nb.length cap4] 30) := ⟨_, rfl⟩
    have hb5 : Below w4.heap.size w4 W5 := by rw [hW5]; exact bel_alloc (Below.refl _ _) _
    have h4 := HO4.out
    have HT := hide (show TwoSt R w.heap.size (w.heap.size + 1) l6 w4.heap.size g2 cap2 g4 cap4 na nb w W5 from
      ⟨h4.gr.trans ((grown_of hb5).but _), h4.la.keep hb5, LvRow.keep ⟨⟨B4, hn4⟩, hz4⟩ hb5, (hb5.block _ (block_lt h4.k2)).trans h4.k2, (hb5.block _ (block_lt h4.k3)).trans h4.k3, (hb5.block _ (block_lt h4.k6)).trans h4.k6, by rw [hW5]; exact heap_alloc_new w4 _⟩)
    obtain ⟨l7, hl7⟩ : ∃ l7, l7 = w4.heap.size := ⟨_, rfl⟩
    have h67 : l6 < l7 := by omega
    clear hn4 hz4 hr4 hg4 hb5 h4 HO1 HO4 hcut
    have d6 : W5.cell? ⟨l6, 0, none⟩ = some (.slice (some ⟨g2, 0, none⟩) na.length cap2) := by rw [cell_of_row _ _ _ _ _ _ HT.out.k6]; rfl
    go_upto_region 7 with fail
    rw [← hW5]
    rw [← hl7] at HT ⊢
    clear hW5 hl7
    have h7w := block_lt HT.out.k7
    go_wp2_with fail
    refine (l1Tree_any _ na _ HT.out.la.nodes HT.out.la.sz).mono ?_
    rintro e w6 ⟨hx, hb6⟩
    have HT6 := hide (HT.out.keep hb6)
    clear d6 HT
    have hs6 := hb6.size
    have d7 : w6.cell? ⟨l7, 0, none⟩ = some (.slice (some ⟨g4, 0, none⟩) nb.length cap4) := by rw [cell_of_row _ _ _ _ _ _ HT6.out.k7]; rfl
    obtain ⟨xv, hxe, HX⟩ : ∃ xv : Option Nat, e = .returned (.pointer (xv.map (fun g => (⟨g, 0, none⟩ : Addr)))) ∧ Hid (∀ g, xv = some g → ∃ t : Tr, TreeAt w6.heap.size w6 g t ∧ t.ok ∧ t.cnt ≤ 64) := by
      rcases hx with ⟨_, rfl⟩ | ⟨hlv, g, t, rfl, h1, h2, h3, h4, h5⟩
      · exact ⟨none, rfl, fun g hg => by simp at hg⟩
      · exact ⟨some g, rfl, fun g' hg => by simp at hg; subst hg; exact ⟨t, h1, h3, by have := (lvl_bounds hlv).1; omega⟩⟩
    subst hxe
    clear hx hb6
    go_wp2_with fail
    refine (l1Tree_any _ nb _ HT6.out.lb.nodes HT6.out.lb.sz).mono ?_
    rintro e w8 ⟨hy, hb8⟩
    have HT8 := hide (HT6.out.keep hb8)
    have hs8 := hb8.size
    obtain ⟨yv, hye, HY⟩ : ∃ yv : Option Nat, e = .returned (.pointer (yv.map (fun g => (⟨g, 0, none⟩ : Addr)))) ∧ Hid (∀ g, yv = some g → ∃ t : Tr, TreeAt w8.heap.size w8 g t ∧ t.ok ∧ t.cnt ≤ 64) := by
      rcases hy with ⟨_, rfl⟩ | ⟨hlv, g, t, rfl, h1, h2, h3, h4, h5⟩
      · exact ⟨none, rfl, fun g hg => by simp at hg⟩
      · exact ⟨some g, rfl, fun g' hg => by simp at hg; subst hg; exact ⟨t, h1, h3, by have := (lvl_bounds hlv).1; omega⟩⟩
    subst hye
    have HX8 : Hid (∀ g, xv = some g → ∃ t : Tr, TreeAt w8.heap.size w8 g t ∧ t.ok ∧ t.cnt ≤ 64) := fun g hg => by
      obtain ⟨t, h1, h2, h3⟩ := HX.out g hg
      exact ⟨t, (h1.keep hb8).mono hb8.size, h2, h3⟩
    clear hy hb8 HT6 HX d7
    go_upto_region 9 with fail
    obtain ⟨r8, hr8, hr8l⟩ := tmod_nat (m := 8) hv0 (by omega)
    have hr8' : v.tmod 8 = (r8 : Int) := hr8
    have hwr8 : IntKind.i64.wrap (r8 : Int) = (r8 : Int) := by rw [IntKind.wrap_i64]; omega
    clear hr8
    go_cut [55] from 31 to 54 (fun u wx => ∃ G : Bool, u = .bool G ∧ Hid (Below w8.heap.size w8 wx) ∧ Hid (G = true → ∃ gx gy, xv = some gx ∧ yv = some gy))
    case first =>
      haveI := bel_ne w8.heap.size w8
      by_cases h6 : r8 < 6
      case neg =>
        have d6 : decide ((r8 : Int) < 6) = false := by simp; omega
        refine wp_region_belH w8.heap.size (by kernel_rfl) (by kernel_rfl) (fun Q' hQ' => ?_)
        repeat (refine QW.step (fun K hK => ?_); go_simp; first | (refine hK _ ?_; clear hK K) | (apply Exists.intro; refine ⟨fun _ => ?_, hK _ ?_⟩; (fail); clear hK K))
        refine QW.nil ?_
        refine hQ'.out _ (fun p => ?_)
        clear hQ'
        go_wp2_with fail
        go_meet
        exact ⟨false, rfl, p.h, fun h => by cases h⟩
      have d6 : decide ((r8 : Int) < 6) = true := by simp; omega
      cases xv with
      | none =>
        simp only [Option.map_none]
        refine wp_region_belH w8.heap.size (by kernel_rfl) (by kernel_rfl) (fun Q' hQ' => ?_)
        repeat (refine QW.step (fun K hK => ?_); go_simp; first | (refine hK _ ?_; clear hK K) | (apply Exists.intro; refine ⟨fun _ => ?_, hK _ ?_⟩; (first | (go_at_call 65; exact calls_bel_same (none_none _))); clear hK K))
        refine QW.nil ?_
        refine hQ'.out _ (fun p => ?_)
        clear hQ'
        go_wp2_with fail
        go_meet
        exact ⟨false, rfl, p.h, fun h => by cases h⟩
      | some gx =>
      cases yv with
      | none =>
        simp only [Option.map_none, Option.map_some]
        refine wp_region_belH w8.heap.size (by kernel_rfl) (by kernel_rfl) (fun Q' hQ' => ?_)
        repeat (refine QW.step (fun K hK => ?_); go_simp; first | (refine hK _ ?_; clear hK K) | (apply Exists.intro; refine ⟨fun _ => ?_, hK _ ?_⟩; (first | (go_at_call_of 65 (Value.pointer (some ⟨gx, 0, none⟩)); exact calls_bel_same (none_some ⟨gx, 0, none⟩ _)) | (go_at_call_of 65 (Value.pointer none); exact calls_bel_same (none_none _))); clear hK K))
        refine QW.nil ?_
        refine hQ'.out _ (fun p => ?_)
        clear hQ'
        go_wp2_with fail
        go_meet
        exact ⟨false, rfl, p.h, fun h => by cases h⟩
      | some gy =>
        obtain ⟨tx, htx, hox, hcx⟩ := HX8.out gx rfl
        obtain ⟨ty, hty, hoy, hcy⟩ := HY.out gy rfl
        have x4 : ∀ p : Bel w8.heap.size w8, p.w'.cell? ⟨gx, 4, none⟩ = some (.int .i64 (tx.sz : Int)) := fun p => p.cell htx.lt htx.cell4
        have y4 : ∀ p : Bel w8.heap.size w8, p.w'.cell? ⟨gy, 4, none⟩ = some (.int .i64 (ty.sz : Int)) := fun p => p.cell hty.lt hty.cell4
        have hsx := tx.sz_le
        have hsy := ty.sz_le
        have hws : IntKind.i64.wrap ((tx.sz : Int) + (ty.sz : Int)) = (tx.sz : Int) + (ty.sz : Int) := by rw [IntKind.wrap_i64]; omega
        clear htx hty
        simp only [Option.map_some]
        obtain ⟨G, hG⟩ : ∃ G, decide ((tx.sz : Int) + (ty.sz : Int) < 60) = G := ⟨_, rfl⟩
        refine wp_region_belH w8.heap.size (by kernel_rfl) (by kernel_rfl) (fun Q' hQ' => ?_)
        repeat (refine QW.step (fun K hK => ?_); go_simp; first | (refine hK _ ?_; clear hK K) | (apply Exists.intro; refine ⟨fun _ => ?_, hK _ ?_⟩; (first | (go_at_call_of 65 (Value.pointer (some ⟨gx, 0, none⟩)); exact calls_bel_same (none_some ⟨gx, 0, none⟩ _)) | (go_at_call_of 65 (Value.pointer (some ⟨gy, 0, none⟩)); exact calls_bel_same (none_some ⟨gy, 0, none⟩ _))); clear hK K))
        refine QW.nil ?_
        refine hQ'.out _ (fun p => ?_)
        clear hQ'
        go_wp2_with fail
        go_meet
        exact ⟨G, rfl, p.h, fun _ => ⟨gx, gy, rfl, rfl⟩⟩
    case rest =>
      obtain ⟨G, rfl, HBC, HG⟩ := hcut
      have HTC := hide (HT8.out.keep HBC.out)
      have hsC := HBC.out.size
      have h7c := block_lt HTC.out.k7
      clear HT8
      have y7 : wc.cell? ⟨l7, 0, none⟩ = some (.slice (some ⟨g4, 0, none⟩) nb.length cap4) := by rw [cell_of_row _ _ _ _ _ _ HTC.out.k7]; rfl
      have y7f : wc.frozen? ⟨l7, 0, none⟩ = false := frozen_of_row HTC.out.k7
      have y6 : wc.cell? ⟨l6, 0, none⟩ = some (.slice (some ⟨g2, 0, none⟩) na.length cap2) := by rw [cell_of_row _ _ _ _ _ _ HTC.out.k6]; rfl
      have y6f : wc.frozen? ⟨l6, 0, none⟩ = false := frozen_of_row HTC.out.k6
      go_upto_if 55 with fail
      go_cut [] from 56 to 83 (fun wx => ∃ ga ca na' gb cb nb', Hid (TwoSt R w.heap.size (w.heap.size + 1) l6 l7 ga ca gb cb na' nb' w wx))
      case first =>
        cases G with
        | false =>
          go_wp2_with fail
          go_meet
          exact ⟨g2, cap2, na, g4, cap4, nb, HTC.out⟩
        | true =>
        obtain ⟨gx, gy, hgx, hgy⟩ := HG.out rfl
        obtain ⟨tx, htx, hox, hcx⟩ := HX8.out gx hgx
        obtain ⟨ty, hty, hoy, hcy⟩ := HY.out gy hgy
        subst hgx hgy
        simp only [Option.map_some]
        have HTX := hide ((htx.keep HBC.out).mono HBC.out.size)
        have HTY := hide ((hty.keep HBC.out).mono HBC.out.size)
        have HZX := hide (Tr.ok_small hox)
        have HZY := hide (Tr.ok_small hoy)
        have hsx := tx.sz_le
        have hsy := ty.sz_le
        clear htx hty hox hoy HBC HG HX8 HY
        have x4 := HTX.out.cell4
        have z4 := HTY.out.cell4
        by_cases c2 : r8 < 2
        · have d2 : decide ((r8 : Int) < 2) = true := by simp; omega
          obtain ⟨q, hq, hq2⟩ : ∃ q : Nat, v.tdiv 8 = (q : Int) ∧ q ≤ 31 := ⟨(v / 8).toNat, by rw [Int.tdiv_eq_ediv_of_nonneg hv0]; omega, by omega⟩
          have hwq : IntKind.i64.wrap (q : Int) = (q : Int) := by rw [IntKind.wrap_i64]; omega
          obtain ⟨q2, hq3, hq4⟩ := tmod_nat (v := (q : Int)) (m := 2) (by omega) (by omega)
          have hq3' : (q : Int).tmod 2 = (q2 : Int) := hq3
          have hwq2 : IntKind.i64.wrap (q2 : Int) = (q2 : Int) := by rw [IntKind.wrap_i64]; omega
          have hwk : IntKind.i64.wrap (3 + (q2 : Int)) = 3 + (q2 : Int) := by rw [IntKind.wrap_i64]; omega
          clear hq3
          go_wp2_with fail
          refine (make_two (3 + (q2 : Int)) ⟨#[]⟩ gy ty.sz gx tx.sz _ z4 hsy x4 hsx).mono ?_
          rintro e w9 ⟨rfl, n9, rfl⟩
          have HT9 := hide (tree_two HTY.out HTX.out (3 + (q2 : Int)) ⟨#[]⟩ n9)
          have hb9 := bel_new wc (nodeV (3 + (q2 : Int)) ⟨#[]⟩ (.pointer (some ⟨gy, 0, none⟩)) (.pointer (some ⟨gx, 0, none⟩)) (min 1000 (1 + ty.sz + tx.sz))) n9
          have HS9 := hide (HTC.out.keep hb9)
          clear hb9
          generalize (wc.alloc (nodeV (3 + (q2 : Int)) ⟨#[]⟩ (.pointer (some ⟨gy, 0, none⟩)) (.pointer (some ⟨gx, 0, none⟩)) (min 1000 (1 + ty.sz + tx.sz)))).drewN n9 = W9 at *
          go_wp2_with fail
          refine (l1Level_any _ _ _ HT9.out (by simp only [Tr.cnt]; omega)).mono ?_
          rintro e w10 ⟨g10, cap10, rfl, hn10, hb10⟩
          have HS10 := hide (HS9.out.keep hb10)
          have HL10 := hide (show LvRow w10 g10 cap10 _ from ⟨⟨_, hn10⟩, Tr.flat_small (t := .two (3 + (q2 : Int)) ⟨#[]⟩ ty tx) ⟨by show (0 : Nat) ≤ 1000; omega, HZY.out, HZX.out⟩ 0⟩)
          clear hn10 hb10
          have e7 : w10.cell? ⟨l7, 0, none⟩ = some (.slice (some ⟨g4, 0, none⟩) nb.length cap4) := by rw [cell_of_row _ _ _ _ _ _ HS10.out.k7]; rfl
          have e7f : w10.frozen? ⟨l7, 0, none⟩ = false := frozen_of_row HS10.out.k7
          go_wp2_with fail
          go_meet
          exact ⟨_, _, _, _, _, _, HS10.out.setB HL10.out (by omega) (by omega) (by omega) (by omega)⟩
        have d2 : decide ((r8 : Int) < 2) = false := by simp; omega
        by_cases c3 : r8 = 2
        · have d3 : (r8 : Int) = 2 := by omega
          go_wp2_with fail
          refine (l1Succ_any ty gy _ HTY.out).mono ?_
          rintro e w9 ⟨rfl, ht9, hb9⟩
          have HT9 := hide ht9
          have HS9 := hide (HTC.out.keep hb9)
          clear hb9 ht9
          go_wp2_with fail
          refine (l1Level_any _ _ _ HT9.out (by simp only [Tr.cnt]; omega)).mono ?_
          rintro e w10 ⟨g10, cap10, rfl, hn10, hb10⟩
          have HS10 := hide (HS9.out.keep hb10)
          have HL10 := hide (show LvRow w10 g10 cap10 _ from ⟨⟨_, hn10⟩, Tr.flat_small (t := .one 2 ⟨#[]⟩ ty) ⟨by show (0 : Nat) ≤ 1000; omega, HZY.out⟩ 0⟩)
          clear hn10 hb10
          have e7 : w10.cell? ⟨l7, 0, none⟩ = some (.slice (some ⟨g4, 0, none⟩) nb.length cap4) := by rw [cell_of_row _ _ _ _ _ _ HS10.out.k7]; rfl
          have e7f : w10.frozen? ⟨l7, 0, none⟩ = false := frozen_of_row HS10.out.k7
          go_wp2_with fail
          go_meet
          exact ⟨_, _, _, _, _, _, HS10.out.setB HL10.out (by omega) (by omega) (by omega) (by omega)⟩
        have d3 : ¬ (r8 : Int) = 2 := by omega
        by_cases c4 : r8 = 3
        · have d4 : (r8 : Int) = 3 := by omega
          go_wp2_with fail
          refine (make_two 4 ⟨#[]⟩ gx tx.sz gy ty.sz _ x4 hsx z4 hsy).mono ?_
          rintro e w9 ⟨rfl, n9, rfl⟩
          have HT9 := hide (tree_two HTX.out HTY.out 4 ⟨#[]⟩ n9)
          have hb9 := bel_new wc (nodeV 4 ⟨#[]⟩ (.pointer (some ⟨gx, 0, none⟩)) (.pointer (some ⟨gy, 0, none⟩)) (min 1000 (1 + tx.sz + ty.sz))) n9
          have HS9 := hide (HTC.out.keep hb9)
          have HX9 := hide ((HTX.out.keep hb9).mono hb9.size)
          have HY9 := hide ((HTY.out.keep hb9).mono hb9.size)
          clear hb9 HTX HTY x4 z4
          generalize (wc.alloc (nodeV 4 ⟨#[]⟩ (.pointer (some ⟨gx, 0, none⟩)) (.pointer (some ⟨gy, 0, none⟩)) (min 1000 (1 + tx.sz + ty.sz)))).drewN n9 = W9 at *
          go_wp2_with fail
          refine (l1Level_any _ _ _ HT9.out (by simp only [Tr.cnt]; omega)).mono ?_
          rintro e w10 ⟨g10, cap10, rfl, hn10, hb10⟩
          have HS10 := hide (HS9.out.keep hb10)
          have HL10 := hide (show LvRow w10 g10 cap10 _ from ⟨⟨_, hn10⟩, Tr.flat_small (t := .two 4 ⟨#[]⟩ tx ty) ⟨by show (0 : Nat) ≤ 1000; omega, HZX.out, HZY.out⟩ 0⟩)
          have HX10 := hide ((HX9.out.keep hb10).mono hb10.size)
          have HY10 := hide ((HY9.out.keep hb10).mono hb10.size)
          clear hn10 hb10 HX9 HY9 HT9 HS9
          have e6 : w10.cell? ⟨l6, 0, none⟩ = some (.slice (some ⟨g2, 0, none⟩) na.length cap2) := by rw [cell_of_row _ _ _ _ _ _ HS10.out.k6]; rfl
          have e6f : w10.frozen? ⟨l6, 0, none⟩ = false := frozen_of_row HS10.out.k6
          have HS11 := hide (HS10.out.setA HL10.out (by omega) (by omega) (by omega) (by omega))
          have tg6 : w10.heap[l6]? = some (.cells #[.slice (some ⟨g2, 0, none⟩) na.length cap2] 30 (0, 0)) := HS10.out.k6
          have gr6 := grown_set w10 ⟨l6, 0, none⟩ (.slice (some ⟨g10, 0, none⟩) (Tr.flat 0 (.two 4 ⟨#[]⟩ tx ty)).length cap10)
          have hlt10 := HS10.out.k7
          have HX11 := hide ((HX10.out.grown gr6 (fun k hk => by simp at hk; subst hk; exact ⟨_, 30, by decide, tg6⟩)).mono gr6.size)
          have HY11 := hide ((HY10.out.grown gr6 (fun k hk => by simp at hk; subst hk; exact ⟨_, 30, by decide, tg6⟩)).mono gr6.size)
          clear gr6 tg6 HX10 HY10 hlt10 HS10 HL10
          go_upto_region 16 with fail
          generalize (Tr.flat 0 (.two 4 ⟨#[]⟩ tx ty)) = nf at *
          generalize w10.setCell ⟨l6, 0, none⟩ (.slice (some ⟨g10, 0, none⟩) nf.length cap10) = W11 at *
          clear e6 e6f
          have x4 := HX11.out.cell4
          have z4 := HY11.out.cell4
          go_wp2_with fail
          refine (make_two 3 ⟨#[]⟩ gx tx.sz gy ty.sz _ x4 hsx z4 hsy).mono ?_
          rintro e w12 ⟨rfl, n12, rfl⟩
          have HT12 := hide (tree_two HX11.out HY11.out 3 ⟨#[]⟩ n12)
          have hb12 := bel_new W11 (nodeV 3 ⟨#[]⟩ (.pointer (some ⟨gx, 0, none⟩)) (.pointer (some ⟨gy, 0, none⟩)) (min 1000 (1 + tx.sz + ty.sz))) n12
          have HS12 := hide (HS11.out.keep hb12)
          clear hb12
          generalize (W11.alloc (nodeV 3 ⟨#[]⟩ (.pointer (some ⟨gx, 0, none⟩)) (.pointer (some ⟨gy, 0, none⟩)) (min 1000 (1 + tx.sz + ty.sz)))).drewN n12 = W12 at *
          go_wp2_with fail
          refine (l1Level_any _ _ _ HT12.out (by simp only [Tr.cnt]; omega)).mono ?_
          rintro e w13 ⟨g13, cap13, rfl, hn13, hb13⟩
          have HS13 := hide (HS12.out.keep hb13)
          have HL13 := hide (show LvRow w13 g13 cap13 _ from ⟨⟨_, hn13⟩, Tr.flat_small (t := .two 3 ⟨#[]⟩ tx ty) ⟨by show (0 : Nat) ≤ 1000; omega, HZX.out, HZY.out⟩ 0⟩)
          clear hn13 hb13
          have e7 : w13.cell? ⟨l7, 0, none⟩ = some (.slice (some ⟨g4, 0, none⟩) nb.length cap4) := by rw [cell_of_row _ _ _ _ _ _ HS13.out.k7]; rfl
          have e7f : w13.frozen? ⟨l7, 0, none⟩ = false := frozen_of_row HS13.out.k7
          go_wp2_with fail
          go_meet
          exact ⟨_, _, _, _, _, _, HS13.out.setB HL13.out (by omega) (by omega) (by omega) (by omega)⟩
        have d4 : ¬ (r8 : Int) = 3 := by omega
        go_wp2_with fail
        go_meet
        exact ⟨g2, cap2, na, g4, cap4, nb, HTC.out⟩
      case rest =>
        obtain ⟨ga, ca, na', gb, cb, nb', HS⟩ := hcut
        clear HTC HBC HG HX8 HY y7 y7f y6 y6f
        have x2 : wc.cell? ⟨w.heap.size, 0, none⟩ = some (.slice none 0 0) := by rw [cell_of_row _ _ _ _ _ _ HS.out.k2]; rfl
        have x2f : wc.frozen? ⟨w.heap.size, 0, none⟩ = false := frozen_of_row HS.out.k2
        have x3 : wc.cell? ⟨w.heap.size + 1, 0, none⟩ = some (.slice none 0 0) := by rw [cell_of_row _ _ _ _ _ _ HS.out.k3]; rfl
        have x3f : wc.frozen? ⟨w.heap.size + 1, 0, none⟩ = false := frozen_of_row HS.out.k3
        have x6 : wc.cell? ⟨l6, 0, none⟩ = some (.slice (some ⟨ga, 0, none⟩) na'.length ca) := by rw [cell_of_row _ _ _ _ _ _ HS.out.k6]; rfl
        have x7 : wc.cell? ⟨l7, 0, none⟩ = some (.slice (some ⟨gb, 0, none⟩) nb'.length cb) := by rw [cell_of_row _ _ _ _ _ _ HS.out.k7]; rfl
        have n26 : ¬ w.heap.size = l6 := by omega
        have n27 : ¬ w.heap.size = l7 := by omega
        have n36 : ¬ w.heap.size + 1 = l6 := by omega
        have n37 : ¬ w.heap.size + 1 = l7 := by omega
        have m26 : ¬ l6 = w.heap.size := by omega
        have m27 : ¬ l7 = w.heap.size := by omega
        have m36 : ¬ l6 = w.heap.size + 1 := by omega
        have m37 : ¬ l7 = w.heap.size + 1 := by omega
        go_wp2_with fail
        go_region
        obtain ⟨oa, ob, og⟩ := (two_out HS.out (by omega) (Nat.le_refl _) (by omega) (.slice (some ⟨ga, 0, none⟩) na'.length ca) (.slice (some ⟨gb, 0, none⟩) nb'.length cb)).1
        have HOA := hide (oa.keep ((Below.refl _ _).drew))
        have HOB := hide (ob.keep ((Below.refl _ _).drew))
        have HOG := hide (og.trans ((grown_of ((Below.refl _ _).drew)).but _))
        clear oa ob og
        go_wp2_with fail
        refine bodyPost_ret (v := .tuple #[.agg #[.slice (some ⟨ga, 0, none⟩) na'.length ca], .agg #[.slice (some ⟨gb, 0, none⟩) nb'.length cb]]) (by simp [results, go_sem, x2, x3]) rfl ?_
        exact ⟨ga, ca, na', gb, cb, nb', rfl, HOA.out, HOB.out, HOG.out⟩
end Go.Proofs.Ytnhkpmgfgiolbaa

/- What the specification's DrawLevelLeq answers: two levels, in new memory. -/
namespace Go.Proofs.Ytnhkpmgfgiolbaa
open Go.ChangeShapes Go.WideShapes Go.ChangeAt Go.RowKit

set_option maxRecDepth 20000 in
set_option maxHeartbeats 1000000 in
theorem drawLeq_any (a : Option Addr) (n cap : Nat) (w : World) (h : CodeAt w a n) (hn : n ≤ cap) (hc : cap ≤ maxLen) :
    Calls Try.prog 37 #[.slice a n cap] w fun e w' => ∃ ga ca na gb cb nb, e = .returned (.tuple #[.agg #[.slice (some ⟨ga, 0, none⟩) na.length ca], .agg #[.slice (some ⟨gb, 0, none⟩) nb.length cb]]) ∧ LvRow w' ga ca na ∧ LvRow w' gb cb nb ∧ Below w.heap.size w w' := by
  obtain ⟨W, hW⟩ : ∃ W, W = (w.alloc (.cells #[.slice none 0 0] 30)).alloc (.cells #[.slice none 0 0] 30) := ⟨_, rfl⟩
  have hB : Below w.heap.size w W := by rw [hW]; exact bel_alloc (bel_alloc (Below.refl _ _) _) _
  have hsW : W.heap.size = w.heap.size + 1 + 1 := by rw [hW]; simp
  have HK2 := hide (show W.heap[w.heap.size]? = some (.cells #[.slice none 0 0] 30 (0, 0)) by rw [hW]; exact new_block w _ _ 0)
  have HK3 := hide (show W.heap[w.heap.size + 1]? = some (.cells #[.slice none 0 0] 30 (0, 0)) by rw [hW]; have := heap_alloc_new (w.alloc (.cells #[.slice none 0 0] 30)) (.cells #[.slice none 0 0] 30); rw [World.size_alloc] at this; exact this)
  have HC := hide (show CodeAt W a n from fun h0 => by
    obtain ⟨b, off, h1, h2⟩ := h h0
    refine ⟨b, off, h1, fun j hj => ?_⟩
    obtain ⟨q, h3, h4⟩ := h2 j hj
    exact ⟨q, keep_cell hB h3, h4⟩)
  have HB := hide hB
  clear h hB
  go_enter Try.func37, Try.ntmps37
  go_wp2_with fail
  rw [← hW]
  clear hW
  refine (l1Open_any a n cap _ HC.out hn hc).mono ?_
  rintro e w1 ⟨rfl, hr1, hb1⟩
  rw [hsW] at hr1
  have HR1 := hide hr1
  have HB1 := hide hb1
  have hs1 := hb1.size
  have hlR := hr1.lt
  clear hr1 hb1
  go_wp2_with fail
  refine (l1Two_any (w.heap.size + 1 + 1) (w.heap.size + 1 + 1) w1 HR1.out).mono ?_
  rintro e w2 ⟨ga, ca, na, gb, cb, nb, rfl, hla, hlb, hg⟩
  have k2 : w2.heap[w.heap.size]? = some (.cells #[.slice none 0 0] 30 (0, 0)) := (hg.block _ (by omega) (by first | (simp; done) | (simp; omega))).trans ((HB1.out.block _ (by omega)).trans HK2.out)
  have k3 : w2.heap[w.heap.size + 1]? = some (.cells #[.slice none 0 0] 30 (0, 0)) := (hg.block _ (by omega) (by first | (simp; done) | (simp; omega))).trans ((HB1.out.block _ (by omega)).trans HK3.out)
  have x2 : w2.cell? ⟨w.heap.size, 0, none⟩ = some (.slice none 0 0) := by rw [cell_of_row _ _ _ _ _ _ k2]; rfl
  have x2f : w2.frozen? ⟨w.heap.size, 0, none⟩ = false := frozen_of_row k2
  have x3 : w2.cell? ⟨w.heap.size + 1, 0, none⟩ = some (.slice none 0 0) := by rw [cell_of_row _ _ _ _ _ _ k3]; rfl
  have x3f : w2.frozen? ⟨w.heap.size + 1, 0, none⟩ = false := frozen_of_row k3
  have HA := hide ((hla.set30 k2 (.slice (some ⟨ga, 0, none⟩) na.length ca)).set30 (far_block k3 (by omega) _) (.slice (some ⟨gb, 0, none⟩) nb.length cb))
  have HBB := hide ((hlb.set30 k2 (.slice (some ⟨ga, 0, none⟩) na.length ca)).set30 (far_block k3 (by omega) _) (.slice (some ⟨gb, 0, none⟩) nb.length cb))
  have HBE := hide ((((HB.out.trans (HB1.out.mono (by omega))).trans (below_of (base := w.heap.size) hg (by omega) (by omega))).setCell (p := ⟨w.heap.size, 0, none⟩) (Nat.le_refl _) (.slice (some ⟨ga, 0, none⟩) na.length ca)).setCell (p := ⟨w.heap.size + 1, 0, none⟩) (by show w.heap.size ≤ w.heap.size + 1; omega) (.slice (some ⟨gb, 0, none⟩) nb.length cb))
  clear hla hlb hg k2 k3 HC HB HR1 HB1 HK2 HK3
  go_wp2_with fail
  refine bodyPost_ret (v := .tuple #[.agg #[.slice (some ⟨ga, 0, none⟩) na.length ca], .agg #[.slice (some ⟨gb, 0, none⟩) nb.length cb]]) (by simp [results, go_sem, x2, x3]) rfl ?_
  exact ⟨ga, ca, na, gb, cb, nb, rfl, HA.out, HBB.out, HBE.out⟩
end Go.Proofs.Ytnhkpmgfgiolbaa
