/-
  No cell of these rows narrows 'for every input' (looked for: loops, veiled, ifaces, maps, wideKeys, modest, calm, conditions, laid).
  DERIVED. THE GIVEN ROWS OF THIS SEAT. 6 by the template 'for every input the law returns true; each argument reads behind the call as it read before'; 0 by the template 'total and deterministic' (their statements: YtahccieoideohaaTotals.lean).
  GIVEN WITH THE SEED: the statements are not yours to turn. If you find one false, say at which input.
  Laid BY PROGRAM, IN A SANDBOX (cutbox-rows.mjs): the forced cells as the released guide's own fill.sh prints them over the translation 7d9e4308cb633a1b… (all of the seat's roots in one cut). By AI agents, Wed Nov 11 2026. No macro, syntax, notation, axiom, sorry.
-/
import Derived.Test.YtahccieoideohaaChecked
import GoSem.Claim
import GoSem.ClaimJoined
import GoSem.ClaimMapViews
import Derived.JoinedTies
import Derived.KernelRfl
namespace Go.Proofs.Ytahccieoideohaa
/- THE CELL 'sum', in the pinned program and in every row, IS THE sha256 OF THE DUMP (.gsa) THAT YtahccieoideohaaProg.lean LOADS. Nothing in Lean hashes anything: it is a label: what it is worth is what the hold of that sum in a sandbox is worth. -/
noncomputable def Try.pinned : Pinned := { name := "ytahccieoideohaa", sum := "7d9e4308cb633a1bc777f32279f161ee8889262c9443bb011b581444266b48c0", checked := Try.checked }
namespace Rows
def none {H : Type} : Left H := { results := [], args := [] }

/-- 'laws.FnExactConsOk': WHATEVER THE INPUT: true; the input reads as it did. -/
def fnExactConsOkSpec : ChangeSpec := { name := "fnExactConsOk", fn := fun _ => fun
  | [d1, d2] => { results := [.lit (.bool true)], args := [d1, d2] }
  | _ => none }
def fnExactConsOkRow : OpenClaim := { program := "ytahccieoideohaa", sum := "7d9e4308cb633a1bc777f32279f161ee8889262c9443bb011b581444266b48c0", func := "loop.example/g00005/laws.FnExactConsOk", spec := "fnExactConsOk", apart := false }
def FnExactConsOkSaid : Prop := fnExactConsOkRow.holds Try.pinned (OpenSpec.ofChange fnExactConsOkSpec)

/-- ITS FALSE NEIGHBOUR: 'it returns false'. Refute it at one input. -/
def fnExactConsOkWrong : ChangeSpec := { name := "fnExactConsOk", fn := fun _ => fun
  | [d1, d2] => { results := [.lit (.bool false)], args := [d1, d2] }
  | _ => none }
def FnExactConsOkWrongFalsely : Prop := fnExactConsOkRow.holds Try.pinned (OpenSpec.ofChange fnExactConsOkWrong)

/-- 'laws.FnExactMeets': WHATEVER THE INPUT: true; the input reads as it did. -/
def fnExactMeetsSpec : ChangeSpec := { name := "fnExactMeets", fn := fun _ => fun
  | [d1, d2] => { results := [.lit (.bool true)], args := [d1, d2] }
  | _ => none }
def fnExactMeetsRow : OpenClaim := { program := "ytahccieoideohaa", sum := "7d9e4308cb633a1bc777f32279f161ee8889262c9443bb011b581444266b48c0", func := "loop.example/g00005/laws.FnExactMeets", spec := "fnExactMeets", apart := false }
def FnExactMeetsSaid : Prop := fnExactMeetsRow.holds Try.pinned (OpenSpec.ofChange fnExactMeetsSpec)

/-- ITS FALSE NEIGHBOUR: 'it returns false'. Refute it at one input. -/
def fnExactMeetsWrong : ChangeSpec := { name := "fnExactMeets", fn := fun _ => fun
  | [d1, d2] => { results := [.lit (.bool false)], args := [d1, d2] }
  | _ => none }
def FnExactMeetsWrongFalsely : Prop := fnExactMeetsRow.holds Try.pinned (OpenSpec.ofChange fnExactMeetsWrong)

/-- 'laws.FnExactCycle': WHATEVER THE INPUT: true; the input reads as it did. -/
def fnExactCycleSpec : ChangeSpec := { name := "fnExactCycle", fn := fun _ => fun
  | [d1, d2, d3] => { results := [.lit (.bool true)], args := [d1, d2, d3] }
  | _ => none }
def fnExactCycleRow : OpenClaim := { program := "ytahccieoideohaa", sum := "7d9e4308cb633a1bc777f32279f161ee8889262c9443bb011b581444266b48c0", func := "loop.example/g00005/laws.FnExactCycle", spec := "fnExactCycle", apart := false }
def FnExactCycleSaid : Prop := fnExactCycleRow.holds Try.pinned (OpenSpec.ofChange fnExactCycleSpec)

/-- ITS FALSE NEIGHBOUR: 'it returns false'. Refute it at one input. -/
def fnExactCycleWrong : ChangeSpec := { name := "fnExactCycle", fn := fun _ => fun
  | [d1, d2, d3] => { results := [.lit (.bool false)], args := [d1, d2, d3] }
  | _ => none }
def FnExactCycleWrongFalsely : Prop := fnExactCycleRow.holds Try.pinned (OpenSpec.ofChange fnExactCycleWrong)

/-- 'laws.FnLeast': WHATEVER THE INPUT: true; the input reads as it did. -/
def fnLeastSpec : ChangeSpec := { name := "fnLeast", fn := fun _ => fun
  | [d] => { results := [.lit (.bool true)], args := [d] }
  | _ => none }
def fnLeastRow : OpenClaim := { program := "ytahccieoideohaa", sum := "7d9e4308cb633a1bc777f32279f161ee8889262c9443bb011b581444266b48c0", func := "loop.example/g00005/laws.FnLeast", spec := "fnLeast", unfollowed := true, recurses := true, apart := false }
def FnLeastSaid : Prop := fnLeastRow.holds Try.pinned (OpenSpec.ofChange fnLeastSpec)

/-- ITS FALSE NEIGHBOUR: 'it returns false'. Refute it at one input. -/
def fnLeastWrong : ChangeSpec := { name := "fnLeast", fn := fun _ => fun
  | [d] => { results := [.lit (.bool false)], args := [d] }
  | _ => none }
def FnLeastWrongFalsely : Prop := fnLeastRow.holds Try.pinned (OpenSpec.ofChange fnLeastWrong)

/-- 'laws.FnCycle': WHATEVER THE INPUT: true; the input reads as it did. -/
def fnCycleSpec : ChangeSpec := { name := "fnCycle", fn := fun _ => fun
  | [d] => { results := [.lit (.bool true)], args := [d] }
  | _ => none }
def fnCycleRow : OpenClaim := { program := "ytahccieoideohaa", sum := "7d9e4308cb633a1bc777f32279f161ee8889262c9443bb011b581444266b48c0", func := "loop.example/g00005/laws.FnCycle", spec := "fnCycle", unfollowed := true, recurses := true, apart := false }
def FnCycleSaid : Prop := fnCycleRow.holds Try.pinned (OpenSpec.ofChange fnCycleSpec)

/-- ITS FALSE NEIGHBOUR: 'it returns false'. Refute it at one input. -/
def fnCycleWrong : ChangeSpec := { name := "fnCycle", fn := fun _ => fun
  | [d] => { results := [.lit (.bool false)], args := [d] }
  | _ => none }
def FnCycleWrongFalsely : Prop := fnCycleRow.holds Try.pinned (OpenSpec.ofChange fnCycleWrong)

/-- 'laws.FnExactSolve': WHATEVER THE INPUT: true; the input reads as it did. -/
def fnExactSolveSpec : ChangeSpec := { name := "fnExactSolve", fn := fun _ => fun
  | [d1, d2] => { results := [.lit (.bool true)], args := [d1, d2] }
  | _ => none }
def fnExactSolveRow : OpenClaim := { program := "ytahccieoideohaa", sum := "7d9e4308cb633a1bc777f32279f161ee8889262c9443bb011b581444266b48c0", func := "loop.example/g00005/laws.FnExactSolve", spec := "fnExactSolve", unfollowed := true, recurses := true, apart := false }
def FnExactSolveSaid : Prop := fnExactSolveRow.holds Try.pinned (OpenSpec.ofChange fnExactSolveSpec)

/-- ITS FALSE NEIGHBOUR: 'it returns false'. Refute it at one input. -/
def fnExactSolveWrong : ChangeSpec := { name := "fnExactSolve", fn := fun _ => fun
  | [d1, d2] => { results := [.lit (.bool false)], args := [d1, d2] }
  | _ => none }
def FnExactSolveWrongFalsely : Prop := fnExactSolveRow.holds Try.pinned (OpenSpec.ofChange fnExactSolveWrong)

/- THE SECOND FORM. 'bulk': how many values and letters a reading holds, each counted each time it is reached (what is shared counts as often as it is met; a slice's spare places count too). A statement '..UptoSaid' is the law's where the arguments, and the package variables that the reading takes, are together of bulk at most 1048576: NARROWER than '..Said'. Prove '..Said' where nothing that the law and all that it calls make is longer than what came in: it says more and counts as full. Else prove '..UptoSaid'. A law counts once. -/
mutual
def uptoBulk {H : Type} : DataW H → Nat
  | .lit (.string bytes) => bytes.length + 1
  | .lit _ => 1
  | .nil => 1
  | .ptr d => uptoBulk d + 1
  | .slice elems spare => uptoBulkAll elems + uptoBulkAll spare + 1
  | .agg parts => uptoBulkAll parts + 1
  | .iface _ d => uptoBulk d + 1
  | .map entries => uptoBulkEntries entries + 1
  | .held _ => 1
def uptoBulkAll {H : Type} : List (DataW H) → Nat
  | [] => 0
  | d :: r => uptoBulk d + uptoBulkAll r
def uptoBulkEntries {H : Type} : List (Lit × DataW H) → Nat
  | [] => 0
  | x :: r => uptoBulkEntry x + uptoBulkEntries r
def uptoBulkEntry {H : Type} : Lit × DataW H → Nat
  | (.string bytes, d) => bytes.length + uptoBulk d + 1
  | (_, d) => uptoBulk d + 1
 end
def uptoSmall : (H : Type) → List (DataW H) → Bool := fun _ ds => decide (uptoBulkAll ds ≤ 1048576)
def OpenSpec.upto (s : _root_.Go.ChangeSpec) : _root_.Go.OpenSpec := { _root_.Go.OpenSpec.ofChange s with cond := some uptoSmall }

/-- 'laws.FnExactConsOk', WHERE WHAT IT READS IS OF BULK AT MOST 1048576: true; the input reads as it did. -/
def fnExactConsOkUptoRow : OpenClaim := { program := "ytahccieoideohaa", sum := "7d9e4308cb633a1bc777f32279f161ee8889262c9443bb011b581444266b48c0", func := "loop.example/g00005/laws.FnExactConsOk", spec := "fnExactConsOk", apart := false, narrowed := true }
def FnExactConsOkUptoSaid : Prop := fnExactConsOkUptoRow.holds Try.pinned (OpenSpec.upto fnExactConsOkSpec)

/-- 'laws.FnExactMeets', WHERE WHAT IT READS IS OF BULK AT MOST 1048576: true; the input reads as it did. -/
def fnExactMeetsUptoRow : OpenClaim := { program := "ytahccieoideohaa", sum := "7d9e4308cb633a1bc777f32279f161ee8889262c9443bb011b581444266b48c0", func := "loop.example/g00005/laws.FnExactMeets", spec := "fnExactMeets", apart := false, narrowed := true }
def FnExactMeetsUptoSaid : Prop := fnExactMeetsUptoRow.holds Try.pinned (OpenSpec.upto fnExactMeetsSpec)

/-- 'laws.FnExactCycle', WHERE WHAT IT READS IS OF BULK AT MOST 1048576: true; the input reads as it did. -/
def fnExactCycleUptoRow : OpenClaim := { program := "ytahccieoideohaa", sum := "7d9e4308cb633a1bc777f32279f161ee8889262c9443bb011b581444266b48c0", func := "loop.example/g00005/laws.FnExactCycle", spec := "fnExactCycle", apart := false, narrowed := true }
def FnExactCycleUptoSaid : Prop := fnExactCycleUptoRow.holds Try.pinned (OpenSpec.upto fnExactCycleSpec)

/-- 'laws.FnLeast', WHERE WHAT IT READS IS OF BULK AT MOST 1048576: true; the input reads as it did. -/
def fnLeastUptoRow : OpenClaim := { program := "ytahccieoideohaa", sum := "7d9e4308cb633a1bc777f32279f161ee8889262c9443bb011b581444266b48c0", func := "loop.example/g00005/laws.FnLeast", spec := "fnLeast", unfollowed := true, recurses := true, apart := false, narrowed := true }
def FnLeastUptoSaid : Prop := fnLeastUptoRow.holds Try.pinned (OpenSpec.upto fnLeastSpec)

/-- 'laws.FnCycle', WHERE WHAT IT READS IS OF BULK AT MOST 1048576: true; the input reads as it did. -/
def fnCycleUptoRow : OpenClaim := { program := "ytahccieoideohaa", sum := "7d9e4308cb633a1bc777f32279f161ee8889262c9443bb011b581444266b48c0", func := "loop.example/g00005/laws.FnCycle", spec := "fnCycle", unfollowed := true, recurses := true, apart := false, narrowed := true }
def FnCycleUptoSaid : Prop := fnCycleUptoRow.holds Try.pinned (OpenSpec.upto fnCycleSpec)

/-- 'laws.FnExactSolve', WHERE WHAT IT READS IS OF BULK AT MOST 1048576: true; the input reads as it did. -/
def fnExactSolveUptoRow : OpenClaim := { program := "ytahccieoideohaa", sum := "7d9e4308cb633a1bc777f32279f161ee8889262c9443bb011b581444266b48c0", func := "loop.example/g00005/laws.FnExactSolve", spec := "fnExactSolve", unfollowed := true, recurses := true, apart := false, narrowed := true }
def FnExactSolveUptoSaid : Prop := fnExactSolveUptoRow.holds Try.pinned (OpenSpec.upto fnExactSolveSpec)

end Rows
end Go.Proofs.Ytahccieoideohaa
