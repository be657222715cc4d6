/-
  No cell of these rows narrows 'for every input' (looked for: loops, veiled, ifaces, maps, wideKeys, modest, calm, conditions, laid).
  DERIVED. THE GIVEN ROWS OF THIS SEAT. 9 by the template 'for every input the law returns true; each argument reads behind the call as it read before'; 0 by the template 'total and deterministic' (their statements: YtjkkojefpecbfaaGreatTotals.lean).
  GIVEN WITH THE SEED: the statements are not yours to turn. If you find one false, say at which input.
  Laid BY PROGRAM, IN A SANDBOX (cutbox-rows.mjs): the forced cells as the released guide's own fill.sh prints them over the translation b021b3a3b3f07593… (all of the seat's roots in one cut). By AI agents, Wed Nov 11 2026. No macro, syntax, notation, axiom, sorry.
-/
import Derived.Test.YtjkkojefpecbfaaGreatChecked
import GoSem.Claim
import GoSem.ClaimJoined
import GoSem.ClaimMapViews
import Derived.JoinedTies
import Derived.KernelRfl
namespace Go.Proofs.YtjkkojefpecbfaaGreat
/- THE CELL 'sum', in the pinned program and in every row, IS THE sha256 OF THE DUMP (.gsa) THAT YtjkkojefpecbfaaGreatProg.lean LOADS. Nothing in Lean hashes anything: it is a label: what it is worth is what the hold of that sum in a sandbox is worth. -/
noncomputable def Tryz.pinned : Pinned := { name := "ytjkkojefpecbfaagreat", sum := "b021b3a3b3f07593a77e1052bca1596ab410a6efd3d2b915c37cb69619226cd2", checked := Tryz.checked }
namespace Rows
def none {H : Type} : Left H := { results := [], args := [] }

/-- 'laws.FnExactSpine': WHATEVER THE INPUT: true; the input reads as it did. -/
def fnExactSpineSpec : ChangeSpec := { name := "fnExactSpine", fn := fun _ => fun
  | [d] => { results := [.lit (.bool true)], args := [d] }
  | _ => none }
def fnExactSpineRow : OpenClaim := { program := "ytjkkojefpecbfaagreat", sum := "b021b3a3b3f07593a77e1052bca1596ab410a6efd3d2b915c37cb69619226cd2", func := "loop.example/g00005/laws.FnExactSpine", spec := "fnExactSpine", inPlace := ["internal/bytealg.IndexByteString", "internal/bytealg.IndexString", "internal/abi.NoEscape"], unfollowed := true, recurses := true, named := ["internal/bytealg.MaxLen"], plainKeys := false, apart := false }
def FnExactSpineSaid : Prop := fnExactSpineRow.holds Tryz.pinned (OpenSpec.ofChange fnExactSpineSpec)

/-- ITS FALSE NEIGHBOUR: 'it returns false'. Refute it at one input. -/
def fnExactSpineWrong : ChangeSpec := { name := "fnExactSpine", fn := fun _ => fun
  | [d] => { results := [.lit (.bool false)], args := [d] }
  | _ => none }
def FnExactSpineWrongFalsely : Prop := fnExactSpineRow.holds Tryz.pinned (OpenSpec.ofChange fnExactSpineWrong)

/-- 'laws.FnExactApply': WHATEVER THE INPUT: true; the input reads as it did. -/
def fnExactApplySpec : ChangeSpec := { name := "fnExactApply", fn := fun _ => fun
  | [d1, d2] => { results := [.lit (.bool true)], args := [d1, d2] }
  | _ => none }
def fnExactApplyRow : OpenClaim := { program := "ytjkkojefpecbfaagreat", sum := "b021b3a3b3f07593a77e1052bca1596ab410a6efd3d2b915c37cb69619226cd2", func := "loop.example/g00005/laws.FnExactApply", spec := "fnExactApply", inPlace := ["internal/bytealg.IndexByteString", "internal/bytealg.IndexString", "internal/abi.NoEscape"], unfollowed := true, recurses := true, named := ["internal/bytealg.MaxLen"], plainKeys := false, apart := false }
def FnExactApplySaid : Prop := fnExactApplyRow.holds Tryz.pinned (OpenSpec.ofChange fnExactApplySpec)

/-- ITS FALSE NEIGHBOUR: 'it returns false'. Refute it at one input. -/
def fnExactApplyWrong : ChangeSpec := { name := "fnExactApply", fn := fun _ => fun
  | [d1, d2] => { results := [.lit (.bool false)], args := [d1, d2] }
  | _ => none }
def FnExactApplyWrongFalsely : Prop := fnExactApplyRow.holds Tryz.pinned (OpenSpec.ofChange fnExactApplyWrong)

/-- 'laws.FnExactLift': WHATEVER THE INPUT: true; the input reads as it did. -/
def fnExactLiftSpec : ChangeSpec := { name := "fnExactLift", fn := fun _ => fun
  | [d1, d2, d3] => { results := [.lit (.bool true)], args := [d1, d2, d3] }
  | _ => none }
def fnExactLiftRow : OpenClaim := { program := "ytjkkojefpecbfaagreat", sum := "b021b3a3b3f07593a77e1052bca1596ab410a6efd3d2b915c37cb69619226cd2", func := "loop.example/g00005/laws.FnExactLift", spec := "fnExactLift", inPlace := ["internal/bytealg.IndexByteString", "internal/bytealg.IndexString", "internal/abi.NoEscape"], unfollowed := true, recurses := true, named := ["internal/bytealg.MaxLen"], plainKeys := false, apart := false }
def FnExactLiftSaid : Prop := fnExactLiftRow.holds Tryz.pinned (OpenSpec.ofChange fnExactLiftSpec)

/-- ITS FALSE NEIGHBOUR: 'it returns false'. Refute it at one input. -/
def fnExactLiftWrong : ChangeSpec := { name := "fnExactLift", fn := fun _ => fun
  | [d1, d2, d3] => { results := [.lit (.bool false)], args := [d1, d2, d3] }
  | _ => none }
def FnExactLiftWrongFalsely : Prop := fnExactLiftRow.holds Tryz.pinned (OpenSpec.ofChange fnExactLiftWrong)

/-- 'laws.FnExactPut': WHATEVER THE INPUT: true; the input reads as it did. -/
def fnExactPutSpec : ChangeSpec := { name := "fnExactPut", fn := fun _ => fun
  | [d1, d2] => { results := [.lit (.bool true)], args := [d1, d2] }
  | _ => none }
def fnExactPutRow : OpenClaim := { program := "ytjkkojefpecbfaagreat", sum := "b021b3a3b3f07593a77e1052bca1596ab410a6efd3d2b915c37cb69619226cd2", func := "loop.example/g00005/laws.FnExactPut", spec := "fnExactPut", inPlace := ["internal/bytealg.IndexByteString", "internal/bytealg.IndexString", "internal/abi.NoEscape"], unfollowed := true, recurses := true, named := ["internal/bytealg.MaxLen"], plainKeys := false, apart := false }
def FnExactPutSaid : Prop := fnExactPutRow.holds Tryz.pinned (OpenSpec.ofChange fnExactPutSpec)

/-- ITS FALSE NEIGHBOUR: 'it returns false'. Refute it at one input. -/
def fnExactPutWrong : ChangeSpec := { name := "fnExactPut", fn := fun _ => fun
  | [d1, d2] => { results := [.lit (.bool false)], args := [d1, d2] }
  | _ => none }
def FnExactPutWrongFalsely : Prop := fnExactPutRow.holds Tryz.pinned (OpenSpec.ofChange fnExactPutWrong)

/-- 'laws.FnExactPutParams': WHATEVER THE INPUT: true; the input reads as it did. -/
def fnExactPutParamsSpec : ChangeSpec := { name := "fnExactPutParams", fn := fun _ => fun
  | [d1, d2, d3] => { results := [.lit (.bool true)], args := [d1, d2, d3] }
  | _ => none }
def fnExactPutParamsRow : OpenClaim := { program := "ytjkkojefpecbfaagreat", sum := "b021b3a3b3f07593a77e1052bca1596ab410a6efd3d2b915c37cb69619226cd2", func := "loop.example/g00005/laws.FnExactPutParams", spec := "fnExactPutParams", inPlace := ["internal/bytealg.IndexByteString", "internal/bytealg.IndexString", "internal/abi.NoEscape"], unfollowed := true, recurses := true, named := ["internal/bytealg.MaxLen"], plainKeys := false, apart := false }
def FnExactPutParamsSaid : Prop := fnExactPutParamsRow.holds Tryz.pinned (OpenSpec.ofChange fnExactPutParamsSpec)

/-- ITS FALSE NEIGHBOUR: 'it returns false'. Refute it at one input. -/
def fnExactPutParamsWrong : ChangeSpec := { name := "fnExactPutParams", fn := fun _ => fun
  | [d1, d2, d3] => { results := [.lit (.bool false)], args := [d1, d2, d3] }
  | _ => none }
def FnExactPutParamsWrongFalsely : Prop := fnExactPutParamsRow.holds Tryz.pinned (OpenSpec.ofChange fnExactPutParamsWrong)

/-- 'laws.FnExactPutHole': WHATEVER THE INPUT: true; the input reads as it did. -/
def fnExactPutHoleSpec : ChangeSpec := { name := "fnExactPutHole", fn := fun _ => fun
  | [d1, d2, d3] => { results := [.lit (.bool true)], args := [d1, d2, d3] }
  | _ => none }
def fnExactPutHoleRow : OpenClaim := { program := "ytjkkojefpecbfaagreat", sum := "b021b3a3b3f07593a77e1052bca1596ab410a6efd3d2b915c37cb69619226cd2", func := "loop.example/g00005/laws.FnExactPutHole", spec := "fnExactPutHole", inPlace := ["internal/bytealg.IndexByteString", "internal/bytealg.IndexString", "internal/abi.NoEscape"], unfollowed := true, recurses := true, named := ["internal/bytealg.MaxLen"], plainKeys := false, apart := false }
def FnExactPutHoleSaid : Prop := fnExactPutHoleRow.holds Tryz.pinned (OpenSpec.ofChange fnExactPutHoleSpec)

/-- ITS FALSE NEIGHBOUR: 'it returns false'. Refute it at one input. -/
def fnExactPutHoleWrong : ChangeSpec := { name := "fnExactPutHole", fn := fun _ => fun
  | [d1, d2, d3] => { results := [.lit (.bool false)], args := [d1, d2, d3] }
  | _ => none }
def FnExactPutHoleWrongFalsely : Prop := fnExactPutHoleRow.holds Tryz.pinned (OpenSpec.ofChange fnExactPutHoleWrong)

/-- 'laws.FnSpine': WHATEVER THE INPUT: true; the input reads as it did. -/
def fnSpineSpec : ChangeSpec := { name := "fnSpine", fn := fun _ => fun
  | [d] => { results := [.lit (.bool true)], args := [d] }
  | _ => none }
def fnSpineRow : OpenClaim := { program := "ytjkkojefpecbfaagreat", sum := "b021b3a3b3f07593a77e1052bca1596ab410a6efd3d2b915c37cb69619226cd2", func := "loop.example/g00005/laws.FnSpine", spec := "fnSpine", inPlace := ["internal/bytealg.IndexByteString", "internal/bytealg.IndexString", "internal/abi.NoEscape"], unfollowed := true, recurses := true, named := ["internal/bytealg.MaxLen"], plainKeys := false, apart := false }
def FnSpineSaid : Prop := fnSpineRow.holds Tryz.pinned (OpenSpec.ofChange fnSpineSpec)

/-- ITS FALSE NEIGHBOUR: 'it returns false'. Refute it at one input. -/
def fnSpineWrong : ChangeSpec := { name := "fnSpine", fn := fun _ => fun
  | [d] => { results := [.lit (.bool false)], args := [d] }
  | _ => none }
def FnSpineWrongFalsely : Prop := fnSpineRow.holds Tryz.pinned (OpenSpec.ofChange fnSpineWrong)

/-- 'laws.FnLifted': WHATEVER THE INPUT: true; the input reads as it did. -/
def fnLiftedSpec : ChangeSpec := { name := "fnLifted", fn := fun _ => fun
  | [d] => { results := [.lit (.bool true)], args := [d] }
  | _ => none }
def fnLiftedRow : OpenClaim := { program := "ytjkkojefpecbfaagreat", sum := "b021b3a3b3f07593a77e1052bca1596ab410a6efd3d2b915c37cb69619226cd2", func := "loop.example/g00005/laws.FnLifted", spec := "fnLifted", inPlace := ["internal/bytealg.IndexByteString", "internal/bytealg.IndexString", "internal/abi.NoEscape"], unfollowed := true, recurses := true, named := ["internal/bytealg.MaxLen"], plainKeys := false, apart := false }
def FnLiftedSaid : Prop := fnLiftedRow.holds Tryz.pinned (OpenSpec.ofChange fnLiftedSpec)

/-- ITS FALSE NEIGHBOUR: 'it returns false'. Refute it at one input. -/
def fnLiftedWrong : ChangeSpec := { name := "fnLifted", fn := fun _ => fun
  | [d] => { results := [.lit (.bool false)], args := [d] }
  | _ => none }
def FnLiftedWrongFalsely : Prop := fnLiftedRow.holds Tryz.pinned (OpenSpec.ofChange fnLiftedWrong)

/-- 'laws.FnHolePut': WHATEVER THE INPUT: true; the input reads as it did. -/
def fnHolePutSpec : ChangeSpec := { name := "fnHolePut", fn := fun _ => fun
  | [d] => { results := [.lit (.bool true)], args := [d] }
  | _ => none }
def fnHolePutRow : OpenClaim := { program := "ytjkkojefpecbfaagreat", sum := "b021b3a3b3f07593a77e1052bca1596ab410a6efd3d2b915c37cb69619226cd2", func := "loop.example/g00005/laws.FnHolePut", spec := "fnHolePut", inPlace := ["internal/bytealg.IndexByteString", "internal/bytealg.IndexString", "internal/abi.NoEscape"], unfollowed := true, recurses := true, named := ["internal/bytealg.MaxLen"], plainKeys := false, apart := false }
def FnHolePutSaid : Prop := fnHolePutRow.holds Tryz.pinned (OpenSpec.ofChange fnHolePutSpec)

/-- ITS FALSE NEIGHBOUR: 'it returns false'. Refute it at one input. -/
def fnHolePutWrong : ChangeSpec := { name := "fnHolePut", fn := fun _ => fun
  | [d] => { results := [.lit (.bool false)], args := [d] }
  | _ => none }
def FnHolePutWrongFalsely : Prop := fnHolePutRow.holds Tryz.pinned (OpenSpec.ofChange fnHolePutWrong)

/- THE SECOND FORM. 'bulk': how many values and letters a reading holds, each counted each time it is reached (what is shared counts as often as it is met; a slice's spare places count too). A statement '..UptoSaid' is the law's where the arguments, and the package variables that the reading takes, are together of bulk at most 1048576: NARROWER than '..Said'. Prove '..Said' where nothing that the law and all that it calls make is longer than what came in: it says more and counts as full. Else prove '..UptoSaid'. A law counts once. -/
mutual
def uptoBulk {H : Type} : DataW H → Nat
  | .lit (.string bytes) => bytes.length + 1
  | .lit _ => 1
  | .nil => 1
  | .ptr d => uptoBulk d + 1
  | .slice elems spare => uptoBulkAll elems + uptoBulkAll spare + 1
  | .agg parts => uptoBulkAll parts + 1
  | .iface _ d => uptoBulk d + 1
  | .map entries => uptoBulkEntries entries + 1
  | .held _ => 1
def uptoBulkAll {H : Type} : List (DataW H) → Nat
  | [] => 0
  | d :: r => uptoBulk d + uptoBulkAll r
def uptoBulkEntries {H : Type} : List (Lit × DataW H) → Nat
  | [] => 0
  | x :: r => uptoBulkEntry x + uptoBulkEntries r
def uptoBulkEntry {H : Type} : Lit × DataW H → Nat
  | (.string bytes, d) => bytes.length + uptoBulk d + 1
  | (_, d) => uptoBulk d + 1
 end
def uptoSmall : (H : Type) → List (DataW H) → Bool := fun _ ds => decide (uptoBulkAll ds ≤ 1048576)
def OpenSpec.upto (s : _root_.Go.ChangeSpec) : _root_.Go.OpenSpec := { _root_.Go.OpenSpec.ofChange s with cond := some uptoSmall }

/-- 'laws.FnExactSpine', WHERE WHAT IT READS IS OF BULK AT MOST 1048576: true; the input reads as it did. -/
def fnExactSpineUptoRow : OpenClaim := { program := "ytjkkojefpecbfaagreat", sum := "b021b3a3b3f07593a77e1052bca1596ab410a6efd3d2b915c37cb69619226cd2", func := "loop.example/g00005/laws.FnExactSpine", spec := "fnExactSpine", inPlace := ["internal/bytealg.IndexByteString", "internal/bytealg.IndexString", "internal/abi.NoEscape"], unfollowed := true, recurses := true, named := ["internal/bytealg.MaxLen"], plainKeys := false, apart := false, narrowed := true }
def FnExactSpineUptoSaid : Prop := fnExactSpineUptoRow.holds Tryz.pinned (OpenSpec.upto fnExactSpineSpec)

/-- 'laws.FnExactApply', WHERE WHAT IT READS IS OF BULK AT MOST 1048576: true; the input reads as it did. -/
def fnExactApplyUptoRow : OpenClaim := { program := "ytjkkojefpecbfaagreat", sum := "b021b3a3b3f07593a77e1052bca1596ab410a6efd3d2b915c37cb69619226cd2", func := "loop.example/g00005/laws.FnExactApply", spec := "fnExactApply", inPlace := ["internal/bytealg.IndexByteString", "internal/bytealg.IndexString", "internal/abi.NoEscape"], unfollowed := true, recurses := true, named := ["internal/bytealg.MaxLen"], plainKeys := false, apart := false, narrowed := true }
def FnExactApplyUptoSaid : Prop := fnExactApplyUptoRow.holds Tryz.pinned (OpenSpec.upto fnExactApplySpec)

/-- 'laws.FnExactLift', WHERE WHAT IT READS IS OF BULK AT MOST 1048576: true; the input reads as it did. -/
def fnExactLiftUptoRow : OpenClaim := { program := "ytjkkojefpecbfaagreat", sum := "b021b3a3b3f07593a77e1052bca1596ab410a6efd3d2b915c37cb69619226cd2", func := "loop.example/g00005/laws.FnExactLift", spec := "fnExactLift", inPlace := ["internal/bytealg.IndexByteString", "internal/bytealg.IndexString", "internal/abi.NoEscape"], unfollowed := true, recurses := true, named := ["internal/bytealg.MaxLen"], plainKeys := false, apart := false, narrowed := true }
def FnExactLiftUptoSaid : Prop := fnExactLiftUptoRow.holds Tryz.pinned (OpenSpec.upto fnExactLiftSpec)

/-- 'laws.FnExactPut', WHERE WHAT IT READS IS OF BULK AT MOST 1048576: true; the input reads as it did. -/
def fnExactPutUptoRow : OpenClaim := { program := "ytjkkojefpecbfaagreat", sum := "b021b3a3b3f07593a77e1052bca1596ab410a6efd3d2b915c37cb69619226cd2", func := "loop.example/g00005/laws.FnExactPut", spec := "fnExactPut", inPlace := ["internal/bytealg.IndexByteString", "internal/bytealg.IndexString", "internal/abi.NoEscape"], unfollowed := true, recurses := true, named := ["internal/bytealg.MaxLen"], plainKeys := false, apart := false, narrowed := true }
def FnExactPutUptoSaid : Prop := fnExactPutUptoRow.holds Tryz.pinned (OpenSpec.upto fnExactPutSpec)

/-- 'laws.FnExactPutParams', WHERE WHAT IT READS IS OF BULK AT MOST 1048576: true; the input reads as it did. -/
def fnExactPutParamsUptoRow : OpenClaim := { program := "ytjkkojefpecbfaagreat", sum := "b021b3a3b3f07593a77e1052bca1596ab410a6efd3d2b915c37cb69619226cd2", func := "loop.example/g00005/laws.FnExactPutParams", spec := "fnExactPutParams", inPlace := ["internal/bytealg.IndexByteString", "internal/bytealg.IndexString", "internal/abi.NoEscape"], unfollowed := true, recurses := true, named := ["internal/bytealg.MaxLen"], plainKeys := false, apart := false, narrowed := true }
def FnExactPutParamsUptoSaid : Prop := fnExactPutParamsUptoRow.holds Tryz.pinned (OpenSpec.upto fnExactPutParamsSpec)

/-- 'laws.FnExactPutHole', WHERE WHAT IT READS IS OF BULK AT MOST 1048576: true; the input reads as it did. -/
def fnExactPutHoleUptoRow : OpenClaim := { program := "ytjkkojefpecbfaagreat", sum := "b021b3a3b3f07593a77e1052bca1596ab410a6efd3d2b915c37cb69619226cd2", func := "loop.example/g00005/laws.FnExactPutHole", spec := "fnExactPutHole", inPlace := ["internal/bytealg.IndexByteString", "internal/bytealg.IndexString", "internal/abi.NoEscape"], unfollowed := true, recurses := true, named := ["internal/bytealg.MaxLen"], plainKeys := false, apart := false, narrowed := true }
def FnExactPutHoleUptoSaid : Prop := fnExactPutHoleUptoRow.holds Tryz.pinned (OpenSpec.upto fnExactPutHoleSpec)

/-- 'laws.FnSpine', WHERE WHAT IT READS IS OF BULK AT MOST 1048576: true; the input reads as it did. -/
def fnSpineUptoRow : OpenClaim := { program := "ytjkkojefpecbfaagreat", sum := "b021b3a3b3f07593a77e1052bca1596ab410a6efd3d2b915c37cb69619226cd2", func := "loop.example/g00005/laws.FnSpine", spec := "fnSpine", inPlace := ["internal/bytealg.IndexByteString", "internal/bytealg.IndexString", "internal/abi.NoEscape"], unfollowed := true, recurses := true, named := ["internal/bytealg.MaxLen"], plainKeys := false, apart := false, narrowed := true }
def FnSpineUptoSaid : Prop := fnSpineUptoRow.holds Tryz.pinned (OpenSpec.upto fnSpineSpec)

/-- 'laws.FnLifted', WHERE WHAT IT READS IS OF BULK AT MOST 1048576: true; the input reads as it did. -/
def fnLiftedUptoRow : OpenClaim := { program := "ytjkkojefpecbfaagreat", sum := "b021b3a3b3f07593a77e1052bca1596ab410a6efd3d2b915c37cb69619226cd2", func := "loop.example/g00005/laws.FnLifted", spec := "fnLifted", inPlace := ["internal/bytealg.IndexByteString", "internal/bytealg.IndexString", "internal/abi.NoEscape"], unfollowed := true, recurses := true, named := ["internal/bytealg.MaxLen"], plainKeys := false, apart := false, narrowed := true }
def FnLiftedUptoSaid : Prop := fnLiftedUptoRow.holds Tryz.pinned (OpenSpec.upto fnLiftedSpec)

/-- 'laws.FnHolePut', WHERE WHAT IT READS IS OF BULK AT MOST 1048576: true; the input reads as it did. -/
def fnHolePutUptoRow : OpenClaim := { program := "ytjkkojefpecbfaagreat", sum := "b021b3a3b3f07593a77e1052bca1596ab410a6efd3d2b915c37cb69619226cd2", func := "loop.example/g00005/laws.FnHolePut", spec := "fnHolePut", inPlace := ["internal/bytealg.IndexByteString", "internal/bytealg.IndexString", "internal/abi.NoEscape"], unfollowed := true, recurses := true, named := ["internal/bytealg.MaxLen"], plainKeys := false, apart := false, narrowed := true }
def FnHolePutUptoSaid : Prop := fnHolePutUptoRow.holds Tryz.pinned (OpenSpec.upto fnHolePutSpec)

end Rows
end Go.Proofs.YtjkkojefpecbfaaGreat
