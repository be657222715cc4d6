/- Appending nothing to a row. -/
import Derived.Test.YtdbepifdmcjjpaaGreatJoin
import Derived.Deep.Upon
import Derived.Deep.Onto
namespace Go.Proofs.YtdbepifdmcjjpaaGreat
open Go.ChangeShapes Go.WideShapes Go.ChangeAt Go.RowKit

/-- Nothing is appended. -/
theorem run_append_none {P : Program} {w : World} (t ty e : TypeId) (i : TypeInfo) (ht : P.underlying t = some (.slice e)) (hi : P.info? e = some i) (b : Option Addr) (n c : Nat) (hnc : n ≤ c) (ax : Option Addr) (cx : Nat) :
    (Builtin.append_ #[t, t] ty #[.slice b n c, .slice ax 0 cx]).run P w = .ok (.slice b n c) w := by
  refine run_append_nothing w t t ty e i ht hi b n c hnc (.slice ax 0 cx) ⟨.inl ⟨e, ht⟩, fun w' => ?_, ?_, ?_, by simp, fun u h => by simp at h⟩
  · simp [Builtin.lenOf]
  · cases ax <;> simp [Builtin.firstCells, loadCells, loadCellsFrom]
  · cases ax <;> simp [Builtin.firstCells, loadCells, loadCellsFrom]
theorem wpList_append_none {P : Program} {w : World} {ops : Array Oper} {rest : List Oper} {o : Oper} {a : Act} {Q : Exit → Act → World → Prop} (hgd : o.guard = none) (s x : Operand) (t : TypeId)
    (ho : o.op = .call { callee := .builtin .append, args := #[s, x], argTypes := #[t, t] }) (e : TypeId) (i : TypeInfo) (ht : P.underlying t = some (.slice e)) (hi : P.info? e = some i)
    (b : Option Addr) (n c : Nat) (hnc : n ≤ c) (ax : Option Addr) (cx : Nat) (hs : a.eval s = .slice b n c) (hx : a.eval x = .slice ax 0 cx) (h : wpList P ops Q rest (a.put o.dst (.slice b n c)) w) :
    wpList P ops Q (o :: rest) a w := by
  refine wpList_plain hgd fun K hK => ?_
  have hr := run_append_none (P := P) (w := w) t o.type e i ht hi b n c hnc ax cx
  unfold Oper.wp execOp
  simp only [ho, resolve, invoke, builtin, Sem.run_bind, Sem.run_pure, Result.andThen_ok, List.map_toArray, List.map_cons, List.map_nil, hs, hx, hr]
  exact hK _ _ h

end Go.Proofs.YtdbepifdmcjjpaaGreat
