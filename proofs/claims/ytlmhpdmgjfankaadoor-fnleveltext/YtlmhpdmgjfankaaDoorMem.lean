/- How a level lies in memory: a row of nodes, each a number, a text and a row of numbers; and that what was there stays so where nothing below is written. -/
import Derived.Test.YtlmhpdmgjfankaaDoorShort
import Derived.WalkLawsBesides
import Derived.WalkSpells
import Derived.Deep.Draws
namespace Go.Proofs.YtlmhpdmgjfankaaDoor
open Go.ChangeShapes Go.WideShapes Go.ChangeAt Go.RowKit

/-- A node: its kind, its text, its kids. -/
structure Nd where
  k : Int
  s : ByteArray
  kids : List Int

def IntsAt (w : World) (v : Value) (ks : List Int) : Prop :=
  ∃ a cap, v = .slice a ks.length cap ∧ ks.length ≤ cap ∧ cap ≤ maxLen ∧
    (0 < ks.length → ∃ b off, a = some ⟨b, off, none⟩ ∧ ∀ j (h : j < ks.length), w.cell? ⟨b, off + j, none⟩ = some (.int .i64 ks[j]))
def NodeAt (w : World) (b o : Nat) (nd : Nd) : Prop :=
  w.cell? ⟨b, o, none⟩ = some (.int .i64 nd.k) ∧ w.cell? ⟨b, o + 1, none⟩ = some (.string nd.s) ∧ ∃ kv, w.cell? ⟨b, o + 2, none⟩ = some kv ∧ IntsAt w kv nd.kids
def NodesAt (w : World) (v : Value) (ns : List Nd) : Prop :=
  ∃ a cap, v = .slice a ns.length cap ∧ ns.length ≤ cap ∧ cap ≤ maxLen ∧
    (0 < ns.length → ∃ b off, a = some ⟨b, off, none⟩ ∧ ∀ i (h : i < ns.length), NodeAt w b (off + i * 3) ns[i])

theorem lt_cell {w : World} {b o : Nat} {v : Value} (h : w.cell? ⟨b, o, none⟩ = some v) : b < w.heap.size := World.block_lt_of_cell? w ⟨b, o, none⟩ h
theorem keep_cell {w w' : World} (hb : Below w.heap.size w w') {b o : Nat} {v : Value} (h : w.cell? ⟨b, o, none⟩ = some v) : w'.cell? ⟨b, o, none⟩ = some v := by
  rw [hb.cell (p := ⟨b, o, none⟩) (lt_cell h)]; exact h
theorem IntsAt.keep {w w' : World} (hb : Below w.heap.size w w') {v : Value} {ks : List Int} (h : IntsAt w v ks) : IntsAt w' v ks := by
  obtain ⟨a, cap, hv, h1, h2, h3⟩ := h
  refine ⟨a, cap, hv, h1, h2, fun h0 => ?_⟩
  obtain ⟨b, off, ha, hc⟩ := h3 h0
  exact ⟨b, off, ha, fun j h => keep_cell hb (hc j h)⟩
theorem NodeAt.keep {w w' : World} (hb : Below w.heap.size w w') {b o : Nat} {nd : Nd} (h : NodeAt w b o nd) : NodeAt w' b o nd := by
  obtain ⟨h1, h2, kv, h3, h4⟩ := h
  exact ⟨keep_cell hb h1, keep_cell hb h2, kv, keep_cell hb h3, h4.keep hb⟩
theorem NodesAt.keep {w w' : World} (hb : Below w.heap.size w w') {v : Value} {ns : List Nd} (h : NodesAt w v ns) : NodesAt w' v ns := by
  obtain ⟨a, cap, hv, h1, h2, h3⟩ := h
  refine ⟨a, cap, hv, h1, h2, fun h0 => ?_⟩
  obtain ⟨b, off, ha, hc⟩ := h3 h0
  exact ⟨b, off, ha, fun i h => (hc i h).keep hb⟩

/-- What szLevel counts. -/
def ndSize (nd : Nd) : Nat := nd.s.size + nd.kids.length
def nsSum : List Nd → Nat
  | [] => 0
  | nd :: l => ndSize nd + nsSum l
theorem nsSum_append (a b : List Nd) : nsSum (a ++ b) = nsSum a + nsSum b := by
  induction a with
  | nil => simp [nsSum]
  | cons x a ih => simp [nsSum, ih]; omega
theorem nsSum_snoc (ns : List Nd) (i : Nat) (h : i < ns.length) : nsSum (ns.take (i + 1)) = nsSum (ns.take i) + ndSize ns[i] := by
  rw [List.take_succ_eq_append_getElem h, nsSum_append]; simp [nsSum]
theorem nsSum_le (ns : List Nd) (i : Nat) : nsSum (ns.take i) ≤ nsSum ns := by
  conv => rhs; rw [← List.take_append_drop i ns, nsSum_append]
  omega
end Go.Proofs.YtlmhpdmgjfankaaDoor
