/- How a term lies in memory: a row of nodes, each three numbers, a text, a row of levels and a row of numbers; what was there stays so where nothing below is written; what is counted of a term. -/
import Derived.Test.YtlhhdhmhncjilaaGreatSz
namespace Go.Proofs.YtlhhdhmhncjilaaGreat
open Go.ChangeShapes Go.WideShapes Go.ChangeAt Go.RowKit

/-- A node: its kind, its number, its mode, its text, its levels, its kids. -/
structure Td where
  k : Int
  n : Int
  m : Int
  s : ByteArray
  lv : List (List Nd)
  kids : List Int

def LevsAt (w : World) (v : Value) (ls : List (List Nd)) : Prop :=
  ∃ a cap, v = .slice a ls.length cap ∧ ls.length ≤ cap ∧ cap ≤ maxLen ∧
    (0 < ls.length → ∃ b off, a = some ⟨b, off, none⟩ ∧ ∀ i (h : i < ls.length), ∃ u, w.cell? ⟨b, off + i, none⟩ = some u ∧ NodesAt w u ls[i])
def TNodeAt (w : World) (b o : Nat) (td : Td) : Prop :=
  w.cell? ⟨b, o, none⟩ = some (.int .i64 td.k) ∧ w.cell? ⟨b, o + 1, none⟩ = some (.int .i64 td.n) ∧ w.cell? ⟨b, o + 2, none⟩ = some (.int .i64 td.m) ∧ w.cell? ⟨b, o + 3, none⟩ = some (.string td.s) ∧
    ∃ lv, w.cell? ⟨b, o + 4, none⟩ = some lv ∧ LevsAt w lv td.lv ∧ ∃ kv, w.cell? ⟨b, o + 5, none⟩ = some kv ∧ IntsAt w kv td.kids
def TNodesAt (w : World) (v : Value) (ts : List Td) : Prop :=
  ∃ a cap, v = .slice a ts.length cap ∧ ts.length ≤ cap ∧ cap ≤ maxLen ∧
    (0 < ts.length → ∃ b off, a = some ⟨b, off, none⟩ ∧ ∀ i (h : i < ts.length), TNodeAt w b (off + i * 6) ts[i])
/-- No text in it is too long for a string. -/
def LvLens (l : List Nd) : Prop := ∀ nd ∈ l, nd.s.size ≤ maxLen
def TLens (td : Td) : Prop := td.s.size ≤ maxLen ∧ ∀ l ∈ td.lv, LvLens l

theorem LevsAt.keep {w w' : World} (hb : Below w.heap.size w w') {v : Value} {ls : List (List Nd)} (h : LevsAt w v ls) : LevsAt w' v ls := by
  obtain ⟨a, cap, hv, h1, h2, h3⟩ := h
  refine ⟨a, cap, hv, h1, h2, fun h0 => ?_⟩
  obtain ⟨b, off, ha, hc⟩ := h3 h0
  refine ⟨b, off, ha, fun i h => ?_⟩
  obtain ⟨u, hu, hn⟩ := hc i h
  exact ⟨u, keep_cell hb hu, hn.keep hb⟩
theorem TNodeAt.keep {w w' : World} (hb : Below w.heap.size w w') {b o : Nat} {td : Td} (h : TNodeAt w b o td) : TNodeAt w' b o td := by
  obtain ⟨h1, h2, h3, h4, lv, h5, h6, kv, h7, h8⟩ := h
  exact ⟨keep_cell hb h1, keep_cell hb h2, keep_cell hb h3, keep_cell hb h4, lv, keep_cell hb h5, h6.keep hb, kv, keep_cell hb h7, h8.keep hb⟩
theorem TNodesAt.keep {w w' : World} (hb : Below w.heap.size w w') {v : Value} {ts : List Td} (h : TNodesAt w v ts) : TNodesAt w' v ts := by
  obtain ⟨a, cap, hv, h1, h2, h3⟩ := h
  refine ⟨a, cap, hv, h1, h2, fun h0 => ?_⟩
  obtain ⟨b, off, ha, hc⟩ := h3 h0
  exact ⟨b, off, ha, fun i h => (hc i h).keep hb⟩

/-- A sum over a list. -/
def sumL {α : Type} (f : α → Nat) : List α → Nat
  | [] => 0
  | x :: l => f x + sumL f l
theorem sumL_append {α : Type} (f : α → Nat) (a b : List α) : sumL f (a ++ b) = sumL f a + sumL f b := by
  induction a with
  | nil => simp [sumL]
  | cons x a ih => simp [sumL, ih]; omega
theorem sumL_snoc {α : Type} (f : α → Nat) (l : List α) (i : Nat) (h : i < l.length) : sumL f (l.take (i + 1)) = sumL f (l.take i) + f l[i] := by
  rw [List.take_succ_eq_append_getElem h, sumL_append]; simp [sumL]
theorem sumL_le {α : Type} (f : α → Nat) (l : List α) (i : Nat) : sumL f (l.take i) ≤ sumL f l := by
  conv => rhs; rw [← List.take_append_drop i l, sumL_append]
  omega
theorem sumL_mem {α : Type} (f : α → Nat) {l : List α} {x : α} (h : x ∈ l) : f x ≤ sumL f l := by
  induction l with
  | nil => cases h
  | cons y l ih =>
    simp only [sumL]
    rcases List.mem_cons.1 h with rfl | h2
    · omega
    · have := ih h2; omega
def lvSize (l : List Nd) : Nat := l.length + nsSum l
def tdSize (td : Td) : Nat := td.s.size + (td.lv.length + sumL lvSize td.lv) + td.kids.length
def tmSize (ts : List Td) : Nat := ts.length + sumL tdSize ts
end Go.Proofs.YtlhhdhmhncjilaaGreat
