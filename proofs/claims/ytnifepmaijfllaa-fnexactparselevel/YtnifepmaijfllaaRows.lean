/-
  No cell of these rows narrows 'for every input' (looked for: loops, veiled, ifaces, maps, wideKeys, modest, calm, conditions, laid).
  DERIVED. THE GIVEN ROWS OF THIS SEAT. 12 by the template 'for every input the law returns true; each argument reads behind the call as it read before'; 0 by the template 'total and deterministic' (their statements: YtnifepmaijfllaaTotals.lean).
  GIVEN WITH THE SEED: the statements are not yours to turn. If you find one false, say at which input.
  Laid BY PROGRAM, IN A SANDBOX (cutbox-rows.mjs): the forced cells as the released guide's own fill.sh prints them over the translation 1f852cf7d530f72a… (all of the seat's roots in one cut). By AI agents, Wed Nov 11 2026. No macro, syntax, notation, axiom, sorry.
-/
import Derived.Test.YtnifepmaijfllaaChecked
import GoSem.Claim
import GoSem.ClaimJoined
import GoSem.ClaimMapViews
import Derived.JoinedTies
import Derived.KernelRfl
namespace Go.Proofs.Ytnifepmaijfllaa
/- THE CELL 'sum', in the pinned program and in every row, IS THE sha256 OF THE DUMP (.gsa) THAT YtnifepmaijfllaaProg.lean LOADS. Nothing in Lean hashes anything: it is a label: what it is worth is what the hold of that sum in a sandbox is worth. -/
noncomputable def Try.pinned : Pinned := { name := "ytnifepmaijfllaa", sum := "1f852cf7d530f72a4c6d60ffe0cb1b34b85f21cda12dbd42483f7959b6281ec3", checked := Try.checked }
namespace Rows
def none {H : Type} : Left H := { results := [], args := [] }

/-- 'laws.FnExactShortOk': WHATEVER THE INPUT: true; the input reads as it did. -/
def fnExactShortOkSpec : ChangeSpec := { name := "fnExactShortOk", fn := fun _ => fun
  | [d] => { results := [.lit (.bool true)], args := [d] }
  | _ => none }
def fnExactShortOkRow : OpenClaim := { program := "ytnifepmaijfllaa", sum := "1f852cf7d530f72a4c6d60ffe0cb1b34b85f21cda12dbd42483f7959b6281ec3", func := "loop.example/g00005/laws.FnExactShortOk", spec := "fnExactShortOk", apart := false }
def FnExactShortOkSaid : Prop := fnExactShortOkRow.holds Try.pinned (OpenSpec.ofChange fnExactShortOkSpec)

/-- ITS FALSE NEIGHBOUR: 'it returns false'. Refute it at one input. -/
def fnExactShortOkWrong : ChangeSpec := { name := "fnExactShortOk", fn := fun _ => fun
  | [d] => { results := [.lit (.bool false)], args := [d] }
  | _ => none }
def FnExactShortOkWrongFalsely : Prop := fnExactShortOkRow.holds Try.pinned (OpenSpec.ofChange fnExactShortOkWrong)

/-- 'laws.FnExactNameOk': WHATEVER THE INPUT: true; the input reads as it did. -/
def fnExactNameOkSpec : ChangeSpec := { name := "fnExactNameOk", fn := fun _ => fun
  | [d] => { results := [.lit (.bool true)], args := [d] }
  | _ => none }
def fnExactNameOkRow : OpenClaim := { program := "ytnifepmaijfllaa", sum := "1f852cf7d530f72a4c6d60ffe0cb1b34b85f21cda12dbd42483f7959b6281ec3", func := "loop.example/g00005/laws.FnExactNameOk", spec := "fnExactNameOk", inPlace := ["internal/bytealg.IndexByteString", "internal/bytealg.IndexString"], named := ["internal/bytealg.MaxLen"], apart := false }
def FnExactNameOkSaid : Prop := fnExactNameOkRow.holds Try.pinned (OpenSpec.ofChange fnExactNameOkSpec)

/-- ITS FALSE NEIGHBOUR: 'it returns false'. Refute it at one input. -/
def fnExactNameOkWrong : ChangeSpec := { name := "fnExactNameOk", fn := fun _ => fun
  | [d] => { results := [.lit (.bool false)], args := [d] }
  | _ => none }
def FnExactNameOkWrongFalsely : Prop := fnExactNameOkRow.holds Try.pinned (OpenSpec.ofChange fnExactNameOkWrong)

/-- 'laws.FnExactLevelOk': WHATEVER THE INPUT: true; the input reads as it did. -/
def fnExactLevelOkSpec : ChangeSpec := { name := "fnExactLevelOk", fn := fun _ => fun
  | [d] => { results := [.lit (.bool true)], args := [d] }
  | _ => none }
def fnExactLevelOkRow : OpenClaim := { program := "ytnifepmaijfllaa", sum := "1f852cf7d530f72a4c6d60ffe0cb1b34b85f21cda12dbd42483f7959b6281ec3", func := "loop.example/g00005/laws.FnExactLevelOk", spec := "fnExactLevelOk", recurses := true, apart := false }
def FnExactLevelOkSaid : Prop := fnExactLevelOkRow.holds Try.pinned (OpenSpec.ofChange fnExactLevelOkSpec)

/-- ITS FALSE NEIGHBOUR: 'it returns false'. Refute it at one input. -/
def fnExactLevelOkWrong : ChangeSpec := { name := "fnExactLevelOk", fn := fun _ => fun
  | [d] => { results := [.lit (.bool false)], args := [d] }
  | _ => none }
def FnExactLevelOkWrongFalsely : Prop := fnExactLevelOkRow.holds Try.pinned (OpenSpec.ofChange fnExactLevelOkWrong)

/-- 'laws.FnExactLevelValue': WHATEVER THE INPUT: true; the input reads as it did. -/
def fnExactLevelValueSpec : ChangeSpec := { name := "fnExactLevelValue", fn := fun _ => fun
  | [d1, d2, d3] => { results := [.lit (.bool true)], args := [d1, d2, d3] }
  | _ => none }
def fnExactLevelValueRow : OpenClaim := { program := "ytnifepmaijfllaa", sum := "1f852cf7d530f72a4c6d60ffe0cb1b34b85f21cda12dbd42483f7959b6281ec3", func := "loop.example/g00005/laws.FnExactLevelValue", spec := "fnExactLevelValue", unfollowed := true, recurses := true, apart := false }
def FnExactLevelValueSaid : Prop := fnExactLevelValueRow.holds Try.pinned (OpenSpec.ofChange fnExactLevelValueSpec)

/-- ITS FALSE NEIGHBOUR: 'it returns false'. Refute it at one input. -/
def fnExactLevelValueWrong : ChangeSpec := { name := "fnExactLevelValue", fn := fun _ => fun
  | [d1, d2, d3] => { results := [.lit (.bool false)], args := [d1, d2, d3] }
  | _ => none }
def FnExactLevelValueWrongFalsely : Prop := fnExactLevelValueRow.holds Try.pinned (OpenSpec.ofChange fnExactLevelValueWrong)

/-- 'laws.FnExactLevelLeq': WHATEVER THE INPUT: true; the input reads as it did. -/
def fnExactLevelLeqSpec : ChangeSpec := { name := "fnExactLevelLeq", fn := fun _ => fun
  | [d1, d2] => { results := [.lit (.bool true)], args := [d1, d2] }
  | _ => none }
def fnExactLevelLeqRow : OpenClaim := { program := "ytnifepmaijfllaa", sum := "1f852cf7d530f72a4c6d60ffe0cb1b34b85f21cda12dbd42483f7959b6281ec3", func := "loop.example/g00005/laws.FnExactLevelLeq", spec := "fnExactLevelLeq", recurses := true, apart := false }
def FnExactLevelLeqSaid : Prop := fnExactLevelLeqRow.holds Try.pinned (OpenSpec.ofChange fnExactLevelLeqSpec)

/-- ITS FALSE NEIGHBOUR: 'it returns false'. Refute it at one input. -/
def fnExactLevelLeqWrong : ChangeSpec := { name := "fnExactLevelLeq", fn := fun _ => fun
  | [d1, d2] => { results := [.lit (.bool false)], args := [d1, d2] }
  | _ => none }
def FnExactLevelLeqWrongFalsely : Prop := fnExactLevelLeqRow.holds Try.pinned (OpenSpec.ofChange fnExactLevelLeqWrong)

/-- 'laws.FnExactLevelSign': WHATEVER THE INPUT: true; the input reads as it did. -/
def fnExactLevelSignSpec : ChangeSpec := { name := "fnExactLevelSign", fn := fun _ => fun
  | [d] => { results := [.lit (.bool true)], args := [d] }
  | _ => none }
def fnExactLevelSignRow : OpenClaim := { program := "ytnifepmaijfllaa", sum := "1f852cf7d530f72a4c6d60ffe0cb1b34b85f21cda12dbd42483f7959b6281ec3", func := "loop.example/g00005/laws.FnExactLevelSign", spec := "fnExactLevelSign", unfollowed := true, recurses := true, apart := false }
def FnExactLevelSignSaid : Prop := fnExactLevelSignRow.holds Try.pinned (OpenSpec.ofChange fnExactLevelSignSpec)

/-- ITS FALSE NEIGHBOUR: 'it returns false'. Refute it at one input. -/
def fnExactLevelSignWrong : ChangeSpec := { name := "fnExactLevelSign", fn := fun _ => fun
  | [d] => { results := [.lit (.bool false)], args := [d] }
  | _ => none }
def FnExactLevelSignWrongFalsely : Prop := fnExactLevelSignRow.holds Try.pinned (OpenSpec.ofChange fnExactLevelSignWrong)

/-- 'laws.FnExactLevelSame': WHATEVER THE INPUT: true; the input reads as it did. -/
def fnExactLevelSameSpec : ChangeSpec := { name := "fnExactLevelSame", fn := fun _ => fun
  | [d1, d2] => { results := [.lit (.bool true)], args := [d1, d2] }
  | _ => none }
def fnExactLevelSameRow : OpenClaim := { program := "ytnifepmaijfllaa", sum := "1f852cf7d530f72a4c6d60ffe0cb1b34b85f21cda12dbd42483f7959b6281ec3", func := "loop.example/g00005/laws.FnExactLevelSame", spec := "fnExactLevelSame", unfollowed := true, recurses := true, apart := false }
def FnExactLevelSameSaid : Prop := fnExactLevelSameRow.holds Try.pinned (OpenSpec.ofChange fnExactLevelSameSpec)

/-- ITS FALSE NEIGHBOUR: 'it returns false'. Refute it at one input. -/
def fnExactLevelSameWrong : ChangeSpec := { name := "fnExactLevelSame", fn := fun _ => fun
  | [d1, d2] => { results := [.lit (.bool false)], args := [d1, d2] }
  | _ => none }
def FnExactLevelSameWrongFalsely : Prop := fnExactLevelSameRow.holds Try.pinned (OpenSpec.ofChange fnExactLevelSameWrong)

/-- 'laws.FnLevelOrder': WHATEVER THE INPUT: true; the input reads as it did. -/
def fnLevelOrderSpec : ChangeSpec := { name := "fnLevelOrder", fn := fun _ => fun
  | [d] => { results := [.lit (.bool true)], args := [d] }
  | _ => none }
def fnLevelOrderRow : OpenClaim := { program := "ytnifepmaijfllaa", sum := "1f852cf7d530f72a4c6d60ffe0cb1b34b85f21cda12dbd42483f7959b6281ec3", func := "loop.example/g00005/laws.FnLevelOrder", spec := "fnLevelOrder", unfollowed := true, recurses := true, apart := false }
def FnLevelOrderSaid : Prop := fnLevelOrderRow.holds Try.pinned (OpenSpec.ofChange fnLevelOrderSpec)

/-- ITS FALSE NEIGHBOUR: 'it returns false'. Refute it at one input. -/
def fnLevelOrderWrong : ChangeSpec := { name := "fnLevelOrder", fn := fun _ => fun
  | [d] => { results := [.lit (.bool false)], args := [d] }
  | _ => none }
def FnLevelOrderWrongFalsely : Prop := fnLevelOrderRow.holds Try.pinned (OpenSpec.ofChange fnLevelOrderWrong)

/-- 'laws.FnLevelPut': WHATEVER THE INPUT: true; the input reads as it did. -/
def fnLevelPutSpec : ChangeSpec := { name := "fnLevelPut", fn := fun _ => fun
  | [d] => { results := [.lit (.bool true)], args := [d] }
  | _ => none }
def fnLevelPutRow : OpenClaim := { program := "ytnifepmaijfllaa", sum := "1f852cf7d530f72a4c6d60ffe0cb1b34b85f21cda12dbd42483f7959b6281ec3", func := "loop.example/g00005/laws.FnLevelPut", spec := "fnLevelPut", unfollowed := true, recurses := true, apart := false }
def FnLevelPutSaid : Prop := fnLevelPutRow.holds Try.pinned (OpenSpec.ofChange fnLevelPutSpec)

/-- ITS FALSE NEIGHBOUR: 'it returns false'. Refute it at one input. -/
def fnLevelPutWrong : ChangeSpec := { name := "fnLevelPut", fn := fun _ => fun
  | [d] => { results := [.lit (.bool false)], args := [d] }
  | _ => none }
def FnLevelPutWrongFalsely : Prop := fnLevelPutRow.holds Try.pinned (OpenSpec.ofChange fnLevelPutWrong)

/-- 'laws.FnExactParseLevel': WHATEVER THE INPUT: true; the input reads as it did. -/
def fnExactParseLevelSpec : ChangeSpec := { name := "fnExactParseLevel", fn := fun _ => fun
  | [d] => { results := [.lit (.bool true)], args := [d] }
  | _ => none }
def fnExactParseLevelRow : OpenClaim := { program := "ytnifepmaijfllaa", sum := "1f852cf7d530f72a4c6d60ffe0cb1b34b85f21cda12dbd42483f7959b6281ec3", func := "loop.example/g00005/laws.FnExactParseLevel", spec := "fnExactParseLevel", unfollowed := true, recurses := true, apart := false }
def FnExactParseLevelSaid : Prop := fnExactParseLevelRow.holds Try.pinned (OpenSpec.ofChange fnExactParseLevelSpec)

/-- ITS FALSE NEIGHBOUR: 'it returns false'. Refute it at one input. -/
def fnExactParseLevelWrong : ChangeSpec := { name := "fnExactParseLevel", fn := fun _ => fun
  | [d] => { results := [.lit (.bool false)], args := [d] }
  | _ => none }
def FnExactParseLevelWrongFalsely : Prop := fnExactParseLevelRow.holds Try.pinned (OpenSpec.ofChange fnExactParseLevelWrong)

/-- 'laws.FnExactLevelPut': WHATEVER THE INPUT: true; the input reads as it did. -/
def fnExactLevelPutSpec : ChangeSpec := { name := "fnExactLevelPut", fn := fun _ => fun
  | [d1, d2, d3] => { results := [.lit (.bool true)], args := [d1, d2, d3] }
  | _ => none }
def fnExactLevelPutRow : OpenClaim := { program := "ytnifepmaijfllaa", sum := "1f852cf7d530f72a4c6d60ffe0cb1b34b85f21cda12dbd42483f7959b6281ec3", func := "loop.example/g00005/laws.FnExactLevelPut", spec := "fnExactLevelPut", unfollowed := true, recurses := true, apart := false }
def FnExactLevelPutSaid : Prop := fnExactLevelPutRow.holds Try.pinned (OpenSpec.ofChange fnExactLevelPutSpec)

/-- ITS FALSE NEIGHBOUR: 'it returns false'. Refute it at one input. -/
def fnExactLevelPutWrong : ChangeSpec := { name := "fnExactLevelPut", fn := fun _ => fun
  | [d1, d2, d3] => { results := [.lit (.bool false)], args := [d1, d2, d3] }
  | _ => none }
def FnExactLevelPutWrongFalsely : Prop := fnExactLevelPutRow.holds Try.pinned (OpenSpec.ofChange fnExactLevelPutWrong)

/-- 'laws.FnExactTermOk': WHATEVER THE INPUT: true; the input reads as it did. -/
def fnExactTermOkSpec : ChangeSpec := { name := "fnExactTermOk", fn := fun _ => fun
  | [d] => { results := [.lit (.bool true)], args := [d] }
  | _ => none }
def fnExactTermOkRow : OpenClaim := { program := "ytnifepmaijfllaa", sum := "1f852cf7d530f72a4c6d60ffe0cb1b34b85f21cda12dbd42483f7959b6281ec3", func := "loop.example/g00005/laws.FnExactTermOk", spec := "fnExactTermOk", inPlace := ["internal/bytealg.IndexByteString", "internal/bytealg.IndexString"], recurses := true, named := ["internal/bytealg.MaxLen"], apart := false }
def FnExactTermOkSaid : Prop := fnExactTermOkRow.holds Try.pinned (OpenSpec.ofChange fnExactTermOkSpec)

/-- ITS FALSE NEIGHBOUR: 'it returns false'. Refute it at one input. -/
def fnExactTermOkWrong : ChangeSpec := { name := "fnExactTermOk", fn := fun _ => fun
  | [d] => { results := [.lit (.bool false)], args := [d] }
  | _ => none }
def FnExactTermOkWrongFalsely : Prop := fnExactTermOkRow.holds Try.pinned (OpenSpec.ofChange fnExactTermOkWrong)

/- THE SECOND FORM. 'bulk': how many values and letters a reading holds, each counted each time it is reached (what is shared counts as often as it is met; a slice's spare places count too). A statement '..UptoSaid' is the law's where the arguments, and the package variables that the reading takes, are together of bulk at most 1048576: NARROWER than '..Said'. Prove '..Said' where nothing that the law and all that it calls make is longer than what came in: it says more and counts as full. Else prove '..UptoSaid'. A law counts once. -/
mutual
def uptoBulk {H : Type} : DataW H → Nat
  | .lit (.string bytes) => bytes.length + 1
  | .lit _ => 1
  | .nil => 1
  | .ptr d => uptoBulk d + 1
  | .slice elems spare => uptoBulkAll elems + uptoBulkAll spare + 1
  | .agg parts => uptoBulkAll parts + 1
  | .iface _ d => uptoBulk d + 1
  | .map entries => uptoBulkEntries entries + 1
  | .held _ => 1
def uptoBulkAll {H : Type} : List (DataW H) → Nat
  | [] => 0
  | d :: r => uptoBulk d + uptoBulkAll r
def uptoBulkEntries {H : Type} : List (Lit × DataW H) → Nat
  | [] => 0
  | x :: r => uptoBulkEntry x + uptoBulkEntries r
def uptoBulkEntry {H : Type} : Lit × DataW H → Nat
  | (.string bytes, d) => bytes.length + uptoBulk d + 1
  | (_, d) => uptoBulk d + 1
 end
def uptoSmall : (H : Type) → List (DataW H) → Bool := fun _ ds => decide (uptoBulkAll ds ≤ 1048576)
def OpenSpec.upto (s : _root_.Go.ChangeSpec) : _root_.Go.OpenSpec := { _root_.Go.OpenSpec.ofChange s with cond := some uptoSmall }

/-- 'laws.FnExactShortOk', WHERE WHAT IT READS IS OF BULK AT MOST 1048576: true; the input reads as it did. -/
def fnExactShortOkUptoRow : OpenClaim := { program := "ytnifepmaijfllaa", sum := "1f852cf7d530f72a4c6d60ffe0cb1b34b85f21cda12dbd42483f7959b6281ec3", func := "loop.example/g00005/laws.FnExactShortOk", spec := "fnExactShortOk", apart := false, narrowed := true }
def FnExactShortOkUptoSaid : Prop := fnExactShortOkUptoRow.holds Try.pinned (OpenSpec.upto fnExactShortOkSpec)

/-- 'laws.FnExactNameOk', WHERE WHAT IT READS IS OF BULK AT MOST 1048576: true; the input reads as it did. -/
def fnExactNameOkUptoRow : OpenClaim := { program := "ytnifepmaijfllaa", sum := "1f852cf7d530f72a4c6d60ffe0cb1b34b85f21cda12dbd42483f7959b6281ec3", func := "loop.example/g00005/laws.FnExactNameOk", spec := "fnExactNameOk", inPlace := ["internal/bytealg.IndexByteString", "internal/bytealg.IndexString"], named := ["internal/bytealg.MaxLen"], apart := false, narrowed := true }
def FnExactNameOkUptoSaid : Prop := fnExactNameOkUptoRow.holds Try.pinned (OpenSpec.upto fnExactNameOkSpec)

/-- 'laws.FnExactLevelOk', WHERE WHAT IT READS IS OF BULK AT MOST 1048576: true; the input reads as it did. -/
def fnExactLevelOkUptoRow : OpenClaim := { program := "ytnifepmaijfllaa", sum := "1f852cf7d530f72a4c6d60ffe0cb1b34b85f21cda12dbd42483f7959b6281ec3", func := "loop.example/g00005/laws.FnExactLevelOk", spec := "fnExactLevelOk", recurses := true, apart := false, narrowed := true }
def FnExactLevelOkUptoSaid : Prop := fnExactLevelOkUptoRow.holds Try.pinned (OpenSpec.upto fnExactLevelOkSpec)

/-- 'laws.FnExactLevelValue', WHERE WHAT IT READS IS OF BULK AT MOST 1048576: true; the input reads as it did. -/
def fnExactLevelValueUptoRow : OpenClaim := { program := "ytnifepmaijfllaa", sum := "1f852cf7d530f72a4c6d60ffe0cb1b34b85f21cda12dbd42483f7959b6281ec3", func := "loop.example/g00005/laws.FnExactLevelValue", spec := "fnExactLevelValue", unfollowed := true, recurses := true, apart := false, narrowed := true }
def FnExactLevelValueUptoSaid : Prop := fnExactLevelValueUptoRow.holds Try.pinned (OpenSpec.upto fnExactLevelValueSpec)

/-- 'laws.FnExactLevelLeq', WHERE WHAT IT READS IS OF BULK AT MOST 1048576: true; the input reads as it did. -/
def fnExactLevelLeqUptoRow : OpenClaim := { program := "ytnifepmaijfllaa", sum := "1f852cf7d530f72a4c6d60ffe0cb1b34b85f21cda12dbd42483f7959b6281ec3", func := "loop.example/g00005/laws.FnExactLevelLeq", spec := "fnExactLevelLeq", recurses := true, apart := false, narrowed := true }
def FnExactLevelLeqUptoSaid : Prop := fnExactLevelLeqUptoRow.holds Try.pinned (OpenSpec.upto fnExactLevelLeqSpec)

/-- 'laws.FnExactLevelSign', WHERE WHAT IT READS IS OF BULK AT MOST 1048576: true; the input reads as it did. -/
def fnExactLevelSignUptoRow : OpenClaim := { program := "ytnifepmaijfllaa", sum := "1f852cf7d530f72a4c6d60ffe0cb1b34b85f21cda12dbd42483f7959b6281ec3", func := "loop.example/g00005/laws.FnExactLevelSign", spec := "fnExactLevelSign", unfollowed := true, recurses := true, apart := false, narrowed := true }
def FnExactLevelSignUptoSaid : Prop := fnExactLevelSignUptoRow.holds Try.pinned (OpenSpec.upto fnExactLevelSignSpec)

/-- 'laws.FnExactLevelSame', WHERE WHAT IT READS IS OF BULK AT MOST 1048576: true; the input reads as it did. -/
def fnExactLevelSameUptoRow : OpenClaim := { program := "ytnifepmaijfllaa", sum := "1f852cf7d530f72a4c6d60ffe0cb1b34b85f21cda12dbd42483f7959b6281ec3", func := "loop.example/g00005/laws.FnExactLevelSame", spec := "fnExactLevelSame", unfollowed := true, recurses := true, apart := false, narrowed := true }
def FnExactLevelSameUptoSaid : Prop := fnExactLevelSameUptoRow.holds Try.pinned (OpenSpec.upto fnExactLevelSameSpec)

/-- 'laws.FnLevelOrder', WHERE WHAT IT READS IS OF BULK AT MOST 1048576: true; the input reads as it did. -/
def fnLevelOrderUptoRow : OpenClaim := { program := "ytnifepmaijfllaa", sum := "1f852cf7d530f72a4c6d60ffe0cb1b34b85f21cda12dbd42483f7959b6281ec3", func := "loop.example/g00005/laws.FnLevelOrder", spec := "fnLevelOrder", unfollowed := true, recurses := true, apart := false, narrowed := true }
def FnLevelOrderUptoSaid : Prop := fnLevelOrderUptoRow.holds Try.pinned (OpenSpec.upto fnLevelOrderSpec)

/-- 'laws.FnLevelPut', WHERE WHAT IT READS IS OF BULK AT MOST 1048576: true; the input reads as it did. -/
def fnLevelPutUptoRow : OpenClaim := { program := "ytnifepmaijfllaa", sum := "1f852cf7d530f72a4c6d60ffe0cb1b34b85f21cda12dbd42483f7959b6281ec3", func := "loop.example/g00005/laws.FnLevelPut", spec := "fnLevelPut", unfollowed := true, recurses := true, apart := false, narrowed := true }
def FnLevelPutUptoSaid : Prop := fnLevelPutUptoRow.holds Try.pinned (OpenSpec.upto fnLevelPutSpec)

/-- 'laws.FnExactParseLevel', WHERE WHAT IT READS IS OF BULK AT MOST 1048576: true; the input reads as it did. -/
def fnExactParseLevelUptoRow : OpenClaim := { program := "ytnifepmaijfllaa", sum := "1f852cf7d530f72a4c6d60ffe0cb1b34b85f21cda12dbd42483f7959b6281ec3", func := "loop.example/g00005/laws.FnExactParseLevel", spec := "fnExactParseLevel", unfollowed := true, recurses := true, apart := false, narrowed := true }
def FnExactParseLevelUptoSaid : Prop := fnExactParseLevelUptoRow.holds Try.pinned (OpenSpec.upto fnExactParseLevelSpec)

/-- 'laws.FnExactLevelPut', WHERE WHAT IT READS IS OF BULK AT MOST 1048576: true; the input reads as it did. -/
def fnExactLevelPutUptoRow : OpenClaim := { program := "ytnifepmaijfllaa", sum := "1f852cf7d530f72a4c6d60ffe0cb1b34b85f21cda12dbd42483f7959b6281ec3", func := "loop.example/g00005/laws.FnExactLevelPut", spec := "fnExactLevelPut", unfollowed := true, recurses := true, apart := false, narrowed := true }
def FnExactLevelPutUptoSaid : Prop := fnExactLevelPutUptoRow.holds Try.pinned (OpenSpec.upto fnExactLevelPutSpec)

/-- 'laws.FnExactTermOk', WHERE WHAT IT READS IS OF BULK AT MOST 1048576: true; the input reads as it did. -/
def fnExactTermOkUptoRow : OpenClaim := { program := "ytnifepmaijfllaa", sum := "1f852cf7d530f72a4c6d60ffe0cb1b34b85f21cda12dbd42483f7959b6281ec3", func := "loop.example/g00005/laws.FnExactTermOk", spec := "fnExactTermOk", inPlace := ["internal/bytealg.IndexByteString", "internal/bytealg.IndexString"], recurses := true, named := ["internal/bytealg.MaxLen"], apart := false, narrowed := true }
def FnExactTermOkUptoSaid : Prop := fnExactTermOkUptoRow.holds Try.pinned (OpenSpec.upto fnExactTermOkSpec)

end Rows
end Go.Proofs.Ytnifepmaijfllaa
