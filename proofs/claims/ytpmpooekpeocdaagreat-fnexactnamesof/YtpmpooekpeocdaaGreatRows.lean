/-
  No cell of these rows narrows 'for every input' (looked for: loops, veiled, ifaces, maps, wideKeys, modest, calm, conditions, laid).
  DERIVED. THE GIVEN ROWS OF THIS SEAT. 7 by the template 'for every input the law returns true; each argument reads behind the call as it read before'; 0 by the template 'total and deterministic' (their statements: YtpmpooekpeocdaaGreatTotals.lean).
  GIVEN WITH THE SEED: the statements are not yours to turn. If you find one false, say at which input.
  Laid BY PROGRAM, IN A SANDBOX (cutbox-rows.mjs): the forced cells as the released guide's own fill.sh prints them over the translation 2c065954bfd49937… (all of the seat's roots in one cut). By AI agents, Wed Nov 11 2026. No macro, syntax, notation, axiom, sorry.
-/
import Derived.Test.YtpmpooekpeocdaaGreatChecked
import GoSem.Claim
import GoSem.ClaimJoined
import GoSem.ClaimMapViews
import Derived.JoinedTies
import Derived.KernelRfl
namespace Go.Proofs.YtpmpooekpeocdaaGreat
/- THE CELL 'sum', in the pinned program and in every row, IS THE sha256 OF THE DUMP (.gsa) THAT YtpmpooekpeocdaaGreatProg.lean LOADS. Nothing in Lean hashes anything: it is a label: what it is worth is what the hold of that sum in a sandbox is worth. -/
noncomputable def Tryz.pinned : Pinned := { name := "ytpmpooekpeocdaagreat", sum := "2c065954bfd49937f2c5c710cd123579811d62ed518b95dc540acd2e6a57e40b", checked := Tryz.checked }
namespace Rows
def none {H : Type} : Left H := { results := [], args := [] }

/-- 'laws.FnExactDeclOk': WHATEVER THE INPUT: true; the input reads as it did. -/
def fnExactDeclOkSpec : ChangeSpec := { name := "fnExactDeclOk", fn := fun _ => fun
  | [d] => { results := [.lit (.bool true)], args := [d] }
  | _ => none }
def fnExactDeclOkRow : OpenClaim := { program := "ytpmpooekpeocdaagreat", sum := "2c065954bfd49937f2c5c710cd123579811d62ed518b95dc540acd2e6a57e40b", func := "loop.example/g00005/laws.FnExactDeclOk", spec := "fnExactDeclOk", inPlace := ["internal/bytealg.IndexByteString", "internal/bytealg.IndexString", "internal/abi.NoEscape"], unfollowed := true, recurses := true, named := ["internal/bytealg.MaxLen"], plainKeys := false, apart := false }
def FnExactDeclOkSaid : Prop := fnExactDeclOkRow.holds Tryz.pinned (OpenSpec.ofChange fnExactDeclOkSpec)

/-- ITS FALSE NEIGHBOUR: 'it returns false'. Refute it at one input. -/
def fnExactDeclOkWrong : ChangeSpec := { name := "fnExactDeclOk", fn := fun _ => fun
  | [d] => { results := [.lit (.bool false)], args := [d] }
  | _ => none }
def FnExactDeclOkWrongFalsely : Prop := fnExactDeclOkRow.holds Tryz.pinned (OpenSpec.ofChange fnExactDeclOkWrong)

/-- 'laws.FnExactNamesOf': WHATEVER THE INPUT: true; the input reads as it did. -/
def fnExactNamesOfSpec : ChangeSpec := { name := "fnExactNamesOf", fn := fun _ => fun
  | [d] => { results := [.lit (.bool true)], args := [d] }
  | _ => none }
def fnExactNamesOfRow : OpenClaim := { program := "ytpmpooekpeocdaagreat", sum := "2c065954bfd49937f2c5c710cd123579811d62ed518b95dc540acd2e6a57e40b", func := "loop.example/g00005/laws.FnExactNamesOf", spec := "fnExactNamesOf", inPlace := ["internal/bytealg.IndexByteString", "internal/bytealg.IndexString", "internal/abi.NoEscape"], unfollowed := true, recurses := true, named := ["internal/bytealg.MaxLen"], plainKeys := false, apart := false }
def FnExactNamesOfSaid : Prop := fnExactNamesOfRow.holds Tryz.pinned (OpenSpec.ofChange fnExactNamesOfSpec)

/-- ITS FALSE NEIGHBOUR: 'it returns false'. Refute it at one input. -/
def fnExactNamesOfWrong : ChangeSpec := { name := "fnExactNamesOf", fn := fun _ => fun
  | [d] => { results := [.lit (.bool false)], args := [d] }
  | _ => none }
def FnExactNamesOfWrongFalsely : Prop := fnExactNamesOfRow.holds Tryz.pinned (OpenSpec.ofChange fnExactNamesOfWrong)

/-- 'laws.FnExactFamilyForm': WHATEVER THE INPUT: true; the input reads as it did. -/
def fnExactFamilyFormSpec : ChangeSpec := { name := "fnExactFamilyForm", fn := fun _ => fun
  | [d] => { results := [.lit (.bool true)], args := [d] }
  | _ => none }
def fnExactFamilyFormRow : OpenClaim := { program := "ytpmpooekpeocdaagreat", sum := "2c065954bfd49937f2c5c710cd123579811d62ed518b95dc540acd2e6a57e40b", func := "loop.example/g00005/laws.FnExactFamilyForm", spec := "fnExactFamilyForm", inPlace := ["internal/bytealg.IndexByteString", "internal/bytealg.IndexString", "internal/abi.NoEscape"], unfollowed := true, recurses := true, named := ["internal/bytealg.MaxLen"], plainKeys := false, apart := false }
def FnExactFamilyFormSaid : Prop := fnExactFamilyFormRow.holds Tryz.pinned (OpenSpec.ofChange fnExactFamilyFormSpec)

/-- ITS FALSE NEIGHBOUR: 'it returns false'. Refute it at one input. -/
def fnExactFamilyFormWrong : ChangeSpec := { name := "fnExactFamilyForm", fn := fun _ => fun
  | [d] => { results := [.lit (.bool false)], args := [d] }
  | _ => none }
def FnExactFamilyFormWrongFalsely : Prop := fnExactFamilyFormRow.holds Tryz.pinned (OpenSpec.ofChange fnExactFamilyFormWrong)

/-- 'laws.FnExactIndicesOf': WHATEVER THE INPUT: true; the input reads as it did. -/
def fnExactIndicesOfSpec : ChangeSpec := { name := "fnExactIndicesOf", fn := fun _ => fun
  | [d] => { results := [.lit (.bool true)], args := [d] }
  | _ => none }
def fnExactIndicesOfRow : OpenClaim := { program := "ytpmpooekpeocdaagreat", sum := "2c065954bfd49937f2c5c710cd123579811d62ed518b95dc540acd2e6a57e40b", func := "loop.example/g00005/laws.FnExactIndicesOf", spec := "fnExactIndicesOf", inPlace := ["internal/bytealg.IndexByteString", "internal/bytealg.IndexString", "internal/abi.NoEscape"], unfollowed := true, recurses := true, named := ["internal/bytealg.MaxLen"], plainKeys := false, apart := false }
def FnExactIndicesOfSaid : Prop := fnExactIndicesOfRow.holds Tryz.pinned (OpenSpec.ofChange fnExactIndicesOfSpec)

/-- ITS FALSE NEIGHBOUR: 'it returns false'. Refute it at one input. -/
def fnExactIndicesOfWrong : ChangeSpec := { name := "fnExactIndicesOf", fn := fun _ => fun
  | [d] => { results := [.lit (.bool false)], args := [d] }
  | _ => none }
def FnExactIndicesOfWrongFalsely : Prop := fnExactIndicesOfRow.holds Tryz.pinned (OpenSpec.ofChange fnExactIndicesOfWrong)

/-- 'laws.FnExactIsProp': WHATEVER THE INPUT: true; the input reads as it did. -/
def fnExactIsPropSpec : ChangeSpec := { name := "fnExactIsProp", fn := fun _ => fun
  | [d] => { results := [.lit (.bool true)], args := [d] }
  | _ => none }
def fnExactIsPropRow : OpenClaim := { program := "ytpmpooekpeocdaagreat", sum := "2c065954bfd49937f2c5c710cd123579811d62ed518b95dc540acd2e6a57e40b", func := "loop.example/g00005/laws.FnExactIsProp", spec := "fnExactIsProp", inPlace := ["internal/bytealg.IndexByteString", "internal/bytealg.IndexString", "internal/abi.NoEscape"], unfollowed := true, recurses := true, named := ["internal/bytealg.MaxLen"], plainKeys := false, apart := false }
def FnExactIsPropSaid : Prop := fnExactIsPropRow.holds Tryz.pinned (OpenSpec.ofChange fnExactIsPropSpec)

/-- ITS FALSE NEIGHBOUR: 'it returns false'. Refute it at one input. -/
def fnExactIsPropWrong : ChangeSpec := { name := "fnExactIsProp", fn := fun _ => fun
  | [d] => { results := [.lit (.bool false)], args := [d] }
  | _ => none }
def FnExactIsPropWrongFalsely : Prop := fnExactIsPropRow.holds Tryz.pinned (OpenSpec.ofChange fnExactIsPropWrong)

/-- 'laws.FnExactIsStructure': WHATEVER THE INPUT: true; the input reads as it did. -/
def fnExactIsStructureSpec : ChangeSpec := { name := "fnExactIsStructure", fn := fun _ => fun
  | [d] => { results := [.lit (.bool true)], args := [d] }
  | _ => none }
def fnExactIsStructureRow : OpenClaim := { program := "ytpmpooekpeocdaagreat", sum := "2c065954bfd49937f2c5c710cd123579811d62ed518b95dc540acd2e6a57e40b", func := "loop.example/g00005/laws.FnExactIsStructure", spec := "fnExactIsStructure", inPlace := ["internal/bytealg.IndexByteString", "internal/bytealg.IndexString", "internal/abi.NoEscape"], unfollowed := true, recurses := true, named := ["internal/bytealg.MaxLen"], plainKeys := false, apart := false }
def FnExactIsStructureSaid : Prop := fnExactIsStructureRow.holds Tryz.pinned (OpenSpec.ofChange fnExactIsStructureSpec)

/-- ITS FALSE NEIGHBOUR: 'it returns false'. Refute it at one input. -/
def fnExactIsStructureWrong : ChangeSpec := { name := "fnExactIsStructure", fn := fun _ => fun
  | [d] => { results := [.lit (.bool false)], args := [d] }
  | _ => none }
def FnExactIsStructureWrongFalsely : Prop := fnExactIsStructureRow.holds Tryz.pinned (OpenSpec.ofChange fnExactIsStructureWrong)

/-- 'laws.FnExactFieldsOf': WHATEVER THE INPUT: true; the input reads as it did. -/
def fnExactFieldsOfSpec : ChangeSpec := { name := "fnExactFieldsOf", fn := fun _ => fun
  | [d1, d2] => { results := [.lit (.bool true)], args := [d1, d2] }
  | _ => none }
def fnExactFieldsOfRow : OpenClaim := { program := "ytpmpooekpeocdaagreat", sum := "2c065954bfd49937f2c5c710cd123579811d62ed518b95dc540acd2e6a57e40b", func := "loop.example/g00005/laws.FnExactFieldsOf", spec := "fnExactFieldsOf", inPlace := ["internal/bytealg.IndexByteString", "internal/bytealg.IndexString", "internal/abi.NoEscape"], unfollowed := true, recurses := true, named := ["internal/bytealg.MaxLen"], plainKeys := false, apart := false }
def FnExactFieldsOfSaid : Prop := fnExactFieldsOfRow.holds Tryz.pinned (OpenSpec.ofChange fnExactFieldsOfSpec)

/-- ITS FALSE NEIGHBOUR: 'it returns false'. Refute it at one input. -/
def fnExactFieldsOfWrong : ChangeSpec := { name := "fnExactFieldsOf", fn := fun _ => fun
  | [d1, d2] => { results := [.lit (.bool false)], args := [d1, d2] }
  | _ => none }
def FnExactFieldsOfWrongFalsely : Prop := fnExactFieldsOfRow.holds Tryz.pinned (OpenSpec.ofChange fnExactFieldsOfWrong)

/- THE SECOND FORM. 'bulk': how many values and letters a reading holds, each counted each time it is reached (what is shared counts as often as it is met; a slice's spare places count too). A statement '..UptoSaid' is the law's where the arguments, and the package variables that the reading takes, are together of bulk at most 1048576: NARROWER than '..Said'. Prove '..Said' where nothing that the law and all that it calls make is longer than what came in: it says more and counts as full. Else prove '..UptoSaid'. A law counts once. -/
mutual
def uptoBulk {H : Type} : DataW H → Nat
  | .lit (.string bytes) => bytes.length + 1
  | .lit _ => 1
  | .nil => 1
  | .ptr d => uptoBulk d + 1
  | .slice elems spare => uptoBulkAll elems + uptoBulkAll spare + 1
  | .agg parts => uptoBulkAll parts + 1
  | .iface _ d => uptoBulk d + 1
  | .map entries => uptoBulkEntries entries + 1
  | .held _ => 1
def uptoBulkAll {H : Type} : List (DataW H) → Nat
  | [] => 0
  | d :: r => uptoBulk d + uptoBulkAll r
def uptoBulkEntries {H : Type} : List (Lit × DataW H) → Nat
  | [] => 0
  | x :: r => uptoBulkEntry x + uptoBulkEntries r
def uptoBulkEntry {H : Type} : Lit × DataW H → Nat
  | (.string bytes, d) => bytes.length + uptoBulk d + 1
  | (_, d) => uptoBulk d + 1
 end
def uptoSmall : (H : Type) → List (DataW H) → Bool := fun _ ds => decide (uptoBulkAll ds ≤ 1048576)
def OpenSpec.upto (s : _root_.Go.ChangeSpec) : _root_.Go.OpenSpec := { _root_.Go.OpenSpec.ofChange s with cond := some uptoSmall }

/-- 'laws.FnExactDeclOk', WHERE WHAT IT READS IS OF BULK AT MOST 1048576: true; the input reads as it did. -/
def fnExactDeclOkUptoRow : OpenClaim := { program := "ytpmpooekpeocdaagreat", sum := "2c065954bfd49937f2c5c710cd123579811d62ed518b95dc540acd2e6a57e40b", func := "loop.example/g00005/laws.FnExactDeclOk", spec := "fnExactDeclOk", inPlace := ["internal/bytealg.IndexByteString", "internal/bytealg.IndexString", "internal/abi.NoEscape"], unfollowed := true, recurses := true, named := ["internal/bytealg.MaxLen"], plainKeys := false, apart := false, narrowed := true }
def FnExactDeclOkUptoSaid : Prop := fnExactDeclOkUptoRow.holds Tryz.pinned (OpenSpec.upto fnExactDeclOkSpec)

/-- 'laws.FnExactNamesOf', WHERE WHAT IT READS IS OF BULK AT MOST 1048576: true; the input reads as it did. -/
def fnExactNamesOfUptoRow : OpenClaim := { program := "ytpmpooekpeocdaagreat", sum := "2c065954bfd49937f2c5c710cd123579811d62ed518b95dc540acd2e6a57e40b", func := "loop.example/g00005/laws.FnExactNamesOf", spec := "fnExactNamesOf", inPlace := ["internal/bytealg.IndexByteString", "internal/bytealg.IndexString", "internal/abi.NoEscape"], unfollowed := true, recurses := true, named := ["internal/bytealg.MaxLen"], plainKeys := false, apart := false, narrowed := true }
def FnExactNamesOfUptoSaid : Prop := fnExactNamesOfUptoRow.holds Tryz.pinned (OpenSpec.upto fnExactNamesOfSpec)

/-- 'laws.FnExactFamilyForm', WHERE WHAT IT READS IS OF BULK AT MOST 1048576: true; the input reads as it did. -/
def fnExactFamilyFormUptoRow : OpenClaim := { program := "ytpmpooekpeocdaagreat", sum := "2c065954bfd49937f2c5c710cd123579811d62ed518b95dc540acd2e6a57e40b", func := "loop.example/g00005/laws.FnExactFamilyForm", spec := "fnExactFamilyForm", inPlace := ["internal/bytealg.IndexByteString", "internal/bytealg.IndexString", "internal/abi.NoEscape"], unfollowed := true, recurses := true, named := ["internal/bytealg.MaxLen"], plainKeys := false, apart := false, narrowed := true }
def FnExactFamilyFormUptoSaid : Prop := fnExactFamilyFormUptoRow.holds Tryz.pinned (OpenSpec.upto fnExactFamilyFormSpec)

/-- 'laws.FnExactIndicesOf', WHERE WHAT IT READS IS OF BULK AT MOST 1048576: true; the input reads as it did. -/
def fnExactIndicesOfUptoRow : OpenClaim := { program := "ytpmpooekpeocdaagreat", sum := "2c065954bfd49937f2c5c710cd123579811d62ed518b95dc540acd2e6a57e40b", func := "loop.example/g00005/laws.FnExactIndicesOf", spec := "fnExactIndicesOf", inPlace := ["internal/bytealg.IndexByteString", "internal/bytealg.IndexString", "internal/abi.NoEscape"], unfollowed := true, recurses := true, named := ["internal/bytealg.MaxLen"], plainKeys := false, apart := false, narrowed := true }
def FnExactIndicesOfUptoSaid : Prop := fnExactIndicesOfUptoRow.holds Tryz.pinned (OpenSpec.upto fnExactIndicesOfSpec)

/-- 'laws.FnExactIsProp', WHERE WHAT IT READS IS OF BULK AT MOST 1048576: true; the input reads as it did. -/
def fnExactIsPropUptoRow : OpenClaim := { program := "ytpmpooekpeocdaagreat", sum := "2c065954bfd49937f2c5c710cd123579811d62ed518b95dc540acd2e6a57e40b", func := "loop.example/g00005/laws.FnExactIsProp", spec := "fnExactIsProp", inPlace := ["internal/bytealg.IndexByteString", "internal/bytealg.IndexString", "internal/abi.NoEscape"], unfollowed := true, recurses := true, named := ["internal/bytealg.MaxLen"], plainKeys := false, apart := false, narrowed := true }
def FnExactIsPropUptoSaid : Prop := fnExactIsPropUptoRow.holds Tryz.pinned (OpenSpec.upto fnExactIsPropSpec)

/-- 'laws.FnExactIsStructure', WHERE WHAT IT READS IS OF BULK AT MOST 1048576: true; the input reads as it did. -/
def fnExactIsStructureUptoRow : OpenClaim := { program := "ytpmpooekpeocdaagreat", sum := "2c065954bfd49937f2c5c710cd123579811d62ed518b95dc540acd2e6a57e40b", func := "loop.example/g00005/laws.FnExactIsStructure", spec := "fnExactIsStructure", inPlace := ["internal/bytealg.IndexByteString", "internal/bytealg.IndexString", "internal/abi.NoEscape"], unfollowed := true, recurses := true, named := ["internal/bytealg.MaxLen"], plainKeys := false, apart := false, narrowed := true }
def FnExactIsStructureUptoSaid : Prop := fnExactIsStructureUptoRow.holds Tryz.pinned (OpenSpec.upto fnExactIsStructureSpec)

/-- 'laws.FnExactFieldsOf', WHERE WHAT IT READS IS OF BULK AT MOST 1048576: true; the input reads as it did. -/
def fnExactFieldsOfUptoRow : OpenClaim := { program := "ytpmpooekpeocdaagreat", sum := "2c065954bfd49937f2c5c710cd123579811d62ed518b95dc540acd2e6a57e40b", func := "loop.example/g00005/laws.FnExactFieldsOf", spec := "fnExactFieldsOf", inPlace := ["internal/bytealg.IndexByteString", "internal/bytealg.IndexString", "internal/abi.NoEscape"], unfollowed := true, recurses := true, named := ["internal/bytealg.MaxLen"], plainKeys := false, apart := false, narrowed := true }
def FnExactFieldsOfUptoSaid : Prop := fnExactFieldsOfUptoRow.holds Tryz.pinned (OpenSpec.upto fnExactFieldsOfSpec)

end Rows
end Go.Proofs.YtpmpooekpeocdaaGreat
