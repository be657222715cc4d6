/- The program's list: what lies in memory while it is written, and the way out of a function with marks of several loops. -/
import Derived.Test.YteedainidoldoaaSwD
import Derived.Test.YteedainidoldoaaSvH
import Derived.Test.YteedainidoldoaaSvU
import Derived.Sort.LoopGhostIn
import Derived.Maps.AppendAt
import Derived.Scope
namespace Go.Proofs.Yteedainidoldoaa
open Go.ChangeShapes Go.WideShapes Go.ChangeAt Go.RowKit Go.Shelf
attribute [local go_sem] Oper.semAt_some

theorem wpIn_scope_wide {n : Nat} {P : Program} {c : Code} {Q : Exit → Act → World → Prop} {a : Act} {w : World} (h : c.wpIn Fence.wide n P (Exit.noGoto Q) a w) : (Code.scope c).wpIn Fence.wide n P Q a w :=
  wpIn_wide.2 (wp_scope_straight (wpIn_wide.1 h))
/-- The marks of the loops that were gone through. -/
def marks (ds : List Nat) : List Deferred := ds.map (fun D => { target := .collected D, args := #[] })
/-- What is known of them. -/
structure Mk (z : Nat) (W : World) (ds : List Nat) : Prop where
  nd : ds.Nodup
  at' : ∀ D ∈ ds, z ≤ D ∧ W.heap[D]? = some (.deferred (some []))
theorem Mk.grown {z : Nat} {A B : World} {ds : List Nat} {row : Option Nat} (h : Mk z A ds) (hg : A.grownBy B row) (hr : ∀ r, row = some r → r ∉ ds) : Mk z B ds :=
  ⟨h.nd, fun D hD => ⟨(h.at' D hD).1, by
    have hd := (h.at' D hD).2
    rw [hg.block D (Array.getElem?_eq_some_iff.1 hd).1 (fun e => hr D e.symm hD)]
    exact hd⟩⟩
theorem Mk.keep {z : Nat} {A B : World} {ds : List Nat} (h : Mk z A ds) (hb : Below A.heap.size A B) : Mk z B ds := h.grown (grown_of hb) (fun r e => by cases e)
/-- A block of cells is no mark. -/
theorem Mk.not {z : Nat} {A : World} {ds : List Nat} (h : Mk z A ds) {b t : Nat} {v : Value} (hb : Boxed A b t v) : b ∉ ds := fun hd => by
  have h1 := (h.at' b hd).2
  rw [show A.heap[b]? = _ from hb] at h1
  cases h1
theorem Mk.set {z : Nat} {A : World} {ds : List Nat} (h : Mk z A ds) {b t : Nat} {v : Value} (hb : Boxed A b t v) (u : Value) : Mk z (A.setCell ⟨b, 0, none⟩ u) ds := h.grown (grownBy_setCell' A b u) (fun r e => by cases e; exact h.not hb)
theorem Mk.lt {z : Nat} {A : World} {ds : List Nat} (h : Mk z A ds) {D : Nat} (hD : D ∈ ds) : D < A.heap.size := (Array.getElem?_eq_some_iff.1 (h.at' D hD).2).1
theorem Mk.cons {z : Nat} {A : World} {ds : List Nat} (h : Mk z A ds) {D : Nat} (hz : z ≤ D) (hd : A.heap[D]? = some (.deferred (some []))) (hn : D ∉ ds) : Mk z A (D :: ds) :=
  ⟨List.nodup_cons.2 ⟨hn, h.nd⟩, fun E hE => by
    rcases List.mem_cons.1 hE with rfl | hE
    · exact ⟨hz, hd⟩
    · exact h.at' E hE⟩
/-- A function leaves with marks: each is taken. -/
theorem leaves_marks {P : Program} {fn : Func} {tmps : Array Value} {R : Ending → World → Prop} {n z : Nat} (I : World → Prop) (hI : ∀ W D, z ≤ D → I W → W.heap[D]? = some (.deferred (some [])) → I (W.putObj D (.deferred none))) (hend : ∀ W, I W → LeavesInM Fence.wide n P fn tmps R [] .returning W) :
    ∀ (ds : List Nat) (W : World), Mk z W ds → I W → LeavesInM Fence.wide n P fn tmps R (marks ds) .returning W
  | [], W, _, h => hend W h
  | D :: ds, W, hm, h => by
    obtain ⟨hz, hd⟩ := hm.at' D (List.mem_cons_self ..)
    refine ⟨by simp, .inl ⟨D, _, rfl, run_takeDeferred hd, leaves_marks I hI hend ds _ ?_ (hI W D hz h hd)⟩⟩
    have hnd := List.nodup_cons.1 hm.nd
    exact Mk.grown ⟨hnd.2, fun E hE => hm.at' E (List.mem_cons_of_mem _ hE)⟩ (grownBy_putObj' W D _) (fun r e => by cases e; exact hnd.1)
/-- What lies in memory while the list is written. -/
structure Ls (sb : Nat) (w W : World) (lf : Int) (p : List Nat) (sum side hv : Int) : Prop where
  s : Boxed W w.heap.size 69 (.pointer (some ⟨sb, 0, none⟩))
  l : Boxed W (w.heap.size + 1) 3 (.int .i64 lf)
  ls : ∃ v, Boxed W (w.heap.size + 2) 24 v ∧ W.ownsRow (w.heap.size + 6) 3 1 v p.length (natI p)
  sm : Boxed W (w.heap.size + 3) 3 (.int .i64 sum)
  sd : Boxed W (w.heap.size + 4) 3 (.int .i64 side)
  hm : Boxed W (w.heap.size + 5) 3 (.int .i64 hv)
  bel : Below w.heap.size w W
theorem row_far {W : World} {base e s n : Nat} {v : Value} {xs : List Value} (h : W.ownsRow base e s v n xs) {b : Nat} (hb : b < base) : some b ≠ v.ownBlock := by
  rcases h.2 with ⟨rfl, _⟩ | ⟨g, cap, cur, rfl, hg, _⟩
  · intro e; cases e
  · intro e
    have e : b = g := by simpa [Value.ownBlock] using e
    omega
theorem Ls.grown {sb : Nat} {w A B : World} {lf : Int} {p : List Nat} {sum side hv : Int} (h : Ls sb w A lf p sum side hv) {row : Option Nat} (hg : A.grownBy B row) (hr : ∀ r, row = some r → w.heap.size + 6 ≤ r ∧ ∃ o : Obj, A.heap[r]? = some o ∧ o.isCells = false) : Ls sb w B lf p sum side hv := by
  have hne : ∀ b, b < w.heap.size + 6 → some b ≠ row := fun b hb e => by have := (hr b e.symm).1; omega
  obtain ⟨v, h1, h2⟩ := h.ls
  obtain ⟨v', h3, h4, h5⟩ := holdsRow_own (w.heap.size + 6) (w.heap.size + 2) 24 3 1 (fun _ : Unit => p.length) (fun _ => natI p) (fun _ _ => True) () A B row ⟨v, h1, h2, trivial⟩ hg (fun r e => (hr r e).2)
  exact ⟨h.s.kept hg (hne _ (by omega)), h.l.kept hg (hne _ (by omega)), ⟨v', h3, h4⟩, h.sm.kept hg (hne _ (by omega)), h.sd.kept hg (hne _ (by omega)), h.hm.kept hg (hne _ (by omega)), h.bel.grown hg h.bel.size (fun r e => by have := (hr r e).1; omega)⟩
theorem Ls.keep {sb : Nat} {w A B : World} {lf : Int} {p : List Nat} {sum side hv : Int} (h : Ls sb w A lf p sum side hv) (hb : Below A.heap.size A B) : Ls sb w B lf p sum side hv := h.grown (grown_of hb) (fun r e => by cases e)
theorem Ls.size {sb : Nat} {w W : World} {lf : Int} {p : List Nat} {sum side hv : Int} (h : Ls sb w W lf p sum side hv) : w.heap.size + 6 ≤ W.heap.size := h.hm.lt
theorem row_boxed {W : World} {base e s n b : Nat} {v : Value} {xs : List Value} (h : W.ownsRow base e s v n xs) (hb : b < base) (x : Value) : (W.setCell ⟨b, 0, none⟩ x).ownsRow base e s v n xs :=
  h.kept (grownBy_setCell' W b x) (.inr (row_far h hb).symm)
/-- The home is set. -/
theorem Ls.home {sb : Nat} {w W : World} {lf : Int} {p : List Nat} {sum side hv : Int} (h : Ls sb w W lf p sum side hv) (x : Int) : Ls sb w (W.setCell ⟨w.heap.size + 5, 0, none⟩ (.int .i64 x)) lf p sum side x := by
  obtain ⟨v, h1, h2⟩ := h.ls
  exact ⟨h.s.other (by omega) _, h.l.other (by omega) _, ⟨v, h1.other (by omega) _, row_boxed h2 (by omega) _⟩, h.sm.other (by omega) _, h.sd.other (by omega) _, h.hm.set _, h.bel.setCell (p := ⟨_, _, _⟩) (by show w.heap.size ≤ w.heap.size + 5; omega) _⟩
/-- One less is left. -/
theorem Ls.left {sb : Nat} {w W : World} {lf : Int} {p : List Nat} {sum side hv : Int} (h : Ls sb w W lf p sum side hv) (x : Int) : Ls sb w (W.setCell ⟨w.heap.size + 1, 0, none⟩ (.int .i64 x)) x p sum side hv := by
  obtain ⟨v, h1, h2⟩ := h.ls
  exact ⟨h.s.other (by omega) _, h.l.set _, ⟨v, h1.other (by omega) _, row_boxed h2 (by omega) _⟩, h.sm.other (by omega) _, h.sd.other (by omega) _, h.hm.other (by omega) _, h.bel.setCell (p := ⟨_, _, _⟩) (by show w.heap.size ≤ w.heap.size + 1; omega) _⟩
/-- A position is put: the list, the sum and the side are written. -/
theorem Ls.put {sb : Nat} {w W w1 : World} {lf : Int} {p : List Nat} {sum side hv : Int} (h : Ls sb w W lf p sum side hv) {v v' : Value} {tmp : Obj} {i : Nat} (hr : W.ownsRow (w.heap.size + 6) 3 1 v p.length (natI p)) (hown : w1.ownsRow (w.heap.size + 6) 3 1 v' (p.length + 1) (natI p ++ [.int .i64 (i : Int)])) (hg : (W.alloc tmp).grownBy w1 v.ownBlock) (sum' side' : Int) :
    Ls sb w (((w1.setCell ⟨w.heap.size + 2, 0, none⟩ v').setCell ⟨w.heap.size + 3, 0, none⟩ (.int .i64 sum')).setCell ⟨w.heap.size + 4, 0, none⟩ (.int .i64 side')) lf (p ++ [i]) sum' side' hv := by
  have hne : ∀ b, b < w.heap.size + 6 → some b ≠ v.ownBlock := fun b hb => row_far hr hb
  obtain ⟨v0, hv0, _⟩ := h.ls
  have k : ∀ {b t : Nat} {u : Value}, Boxed W b t u → b < w.heap.size + 6 → Boxed w1 b t u := fun hb hlt => (hb.alloc tmp).kept hg (hne _ hlt)
  have hrow : w1.ownsRow (w.heap.size + 6) 3 1 v' (p ++ [i]).length (natI (p ++ [i])) := by
    rw [List.length_append]
    unfold natI at hown ⊢
    rw [List.map_append]
    exact hown
  refine ⟨(((k h.s (by omega)).other (by omega) _).other (by omega) _).other (by omega) _, (((k h.l (by omega)).other (by omega) _).other (by omega) _).other (by omega) _, ⟨v', (((k hv0 (by omega)).set _).other (by omega) _).other (by omega) _, row_boxed (row_boxed (row_boxed hrow (by omega) _) (by omega) _) (by omega) _⟩, (((k h.sm (by omega)).other (by omega) _).set _).other (by omega) _, (((k h.sd (by omega)).other (by omega) _).other (by omega) _).set _, (((k h.hm (by omega)).other (by omega) _).other (by omega) _).other (by omega) _, ?_⟩
  have hb1 : Below w.heap.size w w1 := (bel_alloc h.bel tmp).grown hg (by have := h.bel.size; simp; omega) (fun r e => by
    rcases hr.2 with ⟨rfl, _⟩ | ⟨g, cap, cur, rfl, hgb, _⟩
    · cases e
    · have e : g = r := by simpa [Value.ownBlock] using e
      omega)
  exact ((hb1.setCell (p := ⟨_, _, _⟩) (by show w.heap.size ≤ w.heap.size + 2; omega) _).setCell (p := ⟨_, _, _⟩) (by show w.heap.size ≤ w.heap.size + 3; omega) _).setCell (p := ⟨_, _, _⟩) (by show w.heap.size ≤ w.heap.size + 4; omega) _
/-- What append and stores into cells do leaves all that is no cells. -/
theorem app_others {W w1 : World} {base n : Nat} {v : Value} {xs : List Value} {tmp : Obj} (hr : W.ownsRow base 3 1 v n xs) (hg : (W.alloc tmp).grownBy w1 v.ownBlock) : KeepsOthers W w1 :=
  (KeepsOthers.alloc W tmp).trans (KeepsOthers.of_grownBy hg fun j o ej hj => by
    rcases (hr.alloc tmp).2 with ⟨rfl, _⟩ | ⟨g, cap, cur, rfl, _, hgb, _⟩
    · simp [Value.ownBlock] at ej
    · obtain rfl : g = j := by simpa [Value.ownBlock] using ej
      rw [hgb] at hj; cases hj; rfl)
theorem Mk.others {z : Nat} {A B : World} {ds : List Nat} (h : Mk z A ds) (ho : KeepsOthers A B) : Mk z B ds :=
  ⟨h.nd, fun D hD => ⟨(h.at' D hD).1, ho.same D _ (h.at' D hD).2 rfl⟩⟩
theorem row_type {W : World} {base e s n : Nat} {v : Value} {xs : List Value} (h : W.ownsRow base e s v n xs) {b t : Nat} {cs : Array Value} {fr : Nat × Nat} (hb : W.heap[b]? = some (.cells cs t fr)) (ht : t ≠ e) : some b ≠ v.ownBlock := by
  rcases h.2 with ⟨rfl, _⟩ | ⟨g, cap, cur, rfl, _, hg, _⟩
  · intro e; cases e
  · intro e
    have e : b = g := by simpa [Value.ownBlock] using e
    rw [e, hg] at hb
    cases hb
    exact ht rfl
/-- What is known behind append, ahead of the stores. -/
theorem app_facts {sb : Nat} {w W w1 : World} {lf : Int} {p : List Nat} {sum side hv : Int} (h : Ls sb w W lf p sum side hv) {v v' : Value} {tmp : Obj} {m : Nat} {ys : List Value} (hb : Boxed W (w.heap.size + 2) 24 v) (hr : W.ownsRow (w.heap.size + 6) 3 1 v p.length (natI p)) {Bx : Nat} {ca cn cb : Int} (hX : W.heap[Bx]? = some (.cells #[.int .i64 ca, .int .i64 cn, .int .i64 cb] 42 (0, 0)))
    (hown : w1.ownsRow (w.heap.size + 6) 3 1 v' (m + 1) ys) (hg : (W.alloc tmp).grownBy w1 v.ownBlock) :
    (∃ g cap, v' = .slice (some ⟨g, 0, none⟩) (m + 1) cap) ∧
    (w1.cell? ⟨w.heap.size + 2, 0, none⟩ = some v ∧ w1.frozen? ⟨w.heap.size + 2, 0, none⟩ = false) ∧
    (w1.cell? ⟨w.heap.size + 3, 0, none⟩ = some (.int .i64 sum) ∧ w1.frozen? ⟨w.heap.size + 3, 0, none⟩ = false) ∧
    (w1.cell? ⟨w.heap.size + 4, 0, none⟩ = some (.int .i64 side) ∧ w1.frozen? ⟨w.heap.size + 4, 0, none⟩ = false) ∧
    (w1.cell? ⟨Bx, 1, none⟩ = some (.int .i64 cn) ∧ w1.cell? ⟨Bx, 2, none⟩ = some (.int .i64 cb)) ∧ w.heap.size + 6 ≤ w1.heap.size ∧ Bx < w1.heap.size ∧ KeepsOthers W w1 ∧ W.heap.size ≤ w1.heap.size := by
  have k : ∀ {b t : Nat} {u : Value}, Boxed W b t u → b < w.heap.size + 6 → Boxed w1 b t u := fun hb hlt => (hb.alloc tmp).kept hg (row_far hr hlt)
  have hlt := (Array.getElem?_eq_some_iff.1 hX).1
  have hX7 : w1.heap[Bx]? = some (.cells #[.int .i64 ca, .int .i64 cn, .int .i64 cb] 42 (0, 0)) := (hg.block Bx (by simp; omega) (row_type hr hX (by decide))).trans ((heap_alloc_old W _ hlt).trans hX)
  have hs := hg.size
  rw [World.size_alloc] at hs
  have hsz := h.size
  have k2 := k hb (by omega)
  have k3 := k h.sm (by omega)
  have k4 := k h.sd (by omega)
  refine ⟨ownsRow_succ hown, ⟨k2.cell, k2.frozen⟩, ⟨k3.cell, k3.frozen⟩, ⟨k4.cell, k4.frozen⟩, ⟨by rw [Lib.cell_of_heap hX7]; rfl, by rw [Lib.cell_of_heap hX7]; rfl⟩, by omega, (Array.getElem?_eq_some_iff.1 hX7).1, app_others hr hg, by omega⟩
end Go.Proofs.Yteedainidoldoaa
