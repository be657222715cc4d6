/-
  NARROWER THAN 'FOR EVERY INPUT', by the rows' own cells (each row's printed sentence says how): FnSpaced: laid.
  DERIVED. THE GIVEN ROWS OF THIS SEAT. 1 by the template 'for every input the law returns true; each argument reads behind the call as it read before'; 0 by the template 'total and deterministic' (their statements: YtmdcdapjjodpiaaDoorTotals.lean).
  GIVEN WITH THE SEED: the statements are not yours to turn. If you find one false, say at which input.
  Laid BY PROGRAM, IN A SANDBOX (cutbox-rows.mjs): the forced cells as the released guide's own fill.sh prints them over the translation 11583e02b1e9982b… (all of the seat's roots in one cut). By AI agents, Wed Nov 11 2026. No macro, syntax, notation, axiom, sorry.
-/
import Derived.Test.YtmdcdapjjodpiaaDoorChecked
import GoSem.Claim
import GoSem.ClaimJoined
import GoSem.ClaimMapViews
import Derived.JoinedTies
import Derived.KernelRfl
namespace Go.Proofs.YtmdcdapjjodpiaaDoor
/- THE CELL 'sum', in the pinned program and in every row, IS THE sha256 OF THE DUMP (.gsa) THAT YtmdcdapjjodpiaaDoorProg.lean LOADS. Nothing in Lean hashes anything: it is a label: what it is worth is what the hold of that sum in a sandbox is worth. -/
noncomputable def Tryd.pinned : Pinned := { name := "ytmdcdapjjodpiaadoor", sum := "11583e02b1e9982bf7b5cd811f7bf544ba9c226329db844c19f1747d537cd84a", checked := Tryd.checked }
namespace Rows
def none {H : Type} : Left H := { results := [], args := [] }

/- WHAT THE LISTED PACKAGE-LEVEL VARIABLES READ AS WHEN THE CALL BEGINS. Each datum BY PROGRAM (the guide's laid-datum.mjs) off the statement by which the dump's own 'gosem.cut.vars' lays the variable. In a bare row this is a premise. The card (YtmdcdapjjodpiaaDoorCards.lean) ties it to the program's text. -/
def laid_loop_example_g00005_impl_sourceWords {H : Type} : DataW H := .agg [.lit (.string [102, 117, 110]), .lit (.string [102, 111, 114, 97, 108, 108]), .lit (.string [108, 101, 116]), .lit (.string [80, 114, 111, 112]), .lit (.string [84, 121, 112, 101]), .lit (.string [83, 111, 114, 116]), .lit (.string [97, 120, 105, 111, 109]), .lit (.string [100, 101, 102]), .lit (.string [116, 104, 101, 111, 114, 101, 109]), .lit (.string [98, 121]), .lit (.string [102, 97, 109, 105, 108, 121]), .lit (.string [99, 108, 97, 115, 115]), .lit (.string [105, 110, 115, 116, 97, 110, 99, 101]), .lit (.string [113, 117, 111, 116, 105, 101, 110, 116]), .lit (.string [101, 118, 97, 108]), .lit (.string [99, 104, 101, 99, 107]), .lit (.string [95])]
def laid_loop_example_g00005_impl_sourceSigns {H : Type} : DataW H := .agg [.lit (.string [58, 61]), .lit (.string [61, 62]), .lit (.string [45, 62]), .lit (.string [60, 45]), .lit (.string [47, 92]), .lit (.string [92, 47]), .lit (.string [46, 123]), .lit (.string [40]), .lit (.string [41]), .lit (.string [123]), .lit (.string [125]), .lit (.string [91]), .lit (.string [93]), .lit (.string [58]), .lit (.string [44]), .lit (.string [59]), .lit (.string [124]), .lit (.string [64]), .lit (.string [61]), .lit (.string [43]), .lit (.string [42]), .lit (.string [46])]

/-- 'laws.FnSpaced': WHATEVER THE INPUT: true; the input reads as it did. -/
def fnSpacedSpec : ChangeSpec := { name := "fnSpaced", vars := ["loop.example/g00005/impl.sourceSigns", "loop.example/g00005/impl.sourceWords"], fn := fun _ => fun
  | [d, g1, g2] => { results := [.lit (.bool true)], args := [d], vars := [g1, g2] }
  | _ => none }
def fnSpacedRow : OpenClaim := { program := "ytmdcdapjjodpiaadoor", sum := "11583e02b1e9982bf7b5cd811f7bf544ba9c226329db844c19f1747d537cd84a", func := "loop.example/g00005/laws.FnSpaced", spec := "fnSpaced", inPlace := ["internal/bytealg.IndexByteString", "internal/bytealg.IndexString"], recurses := true, named := ["loop.example/g00005/impl.sourceSigns", "internal/bytealg.MaxLen", "loop.example/g00005/impl.sourceWords"], apart := false, laid := [("loop.example/g00005/impl.sourceWords", laid_loop_example_g00005_impl_sourceWords), ("loop.example/g00005/impl.sourceSigns", laid_loop_example_g00005_impl_sourceSigns)] }
def FnSpacedSaid : Prop := fnSpacedRow.holds Tryd.pinned (OpenSpec.ofChange fnSpacedSpec)

/-- ITS FALSE NEIGHBOUR: 'it returns false'. Refute it at one input. -/
def fnSpacedWrong : ChangeSpec := { name := "fnSpaced", vars := ["loop.example/g00005/impl.sourceSigns", "loop.example/g00005/impl.sourceWords"], fn := fun _ => fun
  | [d, g1, g2] => { results := [.lit (.bool false)], args := [d], vars := [g1, g2] }
  | _ => none }
def FnSpacedWrongFalsely : Prop := fnSpacedRow.holds Tryd.pinned (OpenSpec.ofChange fnSpacedWrong)

/- THE SECOND FORM. 'bulk': how many values and letters a reading holds, each counted each time it is reached (what is shared counts as often as it is met; a slice's spare places count too). A statement '..UptoSaid' is the law's where the arguments, and the package variables that the reading takes, are together of bulk at most 1048576: NARROWER than '..Said'. Prove '..Said' where nothing that the law and all that it calls make is longer than what came in: it says more and counts as full. Else prove '..UptoSaid'. A law counts once. -/
mutual
def uptoBulk {H : Type} : DataW H → Nat
  | .lit (.string bytes) => bytes.length + 1
  | .lit _ => 1
  | .nil => 1
  | .ptr d => uptoBulk d + 1
  | .slice elems spare => uptoBulkAll elems + uptoBulkAll spare + 1
  | .agg parts => uptoBulkAll parts + 1
  | .iface _ d => uptoBulk d + 1
  | .map entries => uptoBulkEntries entries + 1
  | .held _ => 1
def uptoBulkAll {H : Type} : List (DataW H) → Nat
  | [] => 0
  | d :: r => uptoBulk d + uptoBulkAll r
def uptoBulkEntries {H : Type} : List (Lit × DataW H) → Nat
  | [] => 0
  | x :: r => uptoBulkEntry x + uptoBulkEntries r
def uptoBulkEntry {H : Type} : Lit × DataW H → Nat
  | (.string bytes, d) => bytes.length + uptoBulk d + 1
  | (_, d) => uptoBulk d + 1
 end
def uptoSmall : (H : Type) → List (DataW H) → Bool := fun _ ds => decide (uptoBulkAll ds ≤ 1048576)
def OpenSpec.upto (s : _root_.Go.ChangeSpec) : _root_.Go.OpenSpec := { _root_.Go.OpenSpec.ofChange s with cond := some uptoSmall }

/-- 'laws.FnSpaced', WHERE WHAT IT READS IS OF BULK AT MOST 1048576: true; the input reads as it did. -/
def fnSpacedUptoRow : OpenClaim := { program := "ytmdcdapjjodpiaadoor", sum := "11583e02b1e9982bf7b5cd811f7bf544ba9c226329db844c19f1747d537cd84a", func := "loop.example/g00005/laws.FnSpaced", spec := "fnSpaced", inPlace := ["internal/bytealg.IndexByteString", "internal/bytealg.IndexString"], recurses := true, named := ["loop.example/g00005/impl.sourceSigns", "internal/bytealg.MaxLen", "loop.example/g00005/impl.sourceWords"], apart := false, laid := [("loop.example/g00005/impl.sourceWords", laid_loop_example_g00005_impl_sourceWords), ("loop.example/g00005/impl.sourceSigns", laid_loop_example_g00005_impl_sourceSigns)], narrowed := true }
def FnSpacedUptoSaid : Prop := fnSpacedUptoRow.holds Tryd.pinned (OpenSpec.upto fnSpacedSpec)

end Rows
end Go.Proofs.YtmdcdapjjodpiaaDoor
