/-
  DERIVED. GIVEN WITH THE SEED: THE CARDS: each row of YtlmhpdmgjfankaaDoorRows.lean that lists a variable, with what it lists TIED to the program's text (the seventh form; the later family's looks); each row that meets fmt, with fmt's text TOLD by the authors' own Lean function (tested against real Go, not proved from fmt's source: count such statements apart). THE CARD IS WHAT COUNTS. Prove the row's statement (the work); the ties are given (YtlmhpdmgjfankaaDoorTie.lean); close each card by the builder's one call (the guide's Derived/Test/ToyasCard.lean, 'card_holds'). Laid BY PROGRAM, IN A SANDBOX (cutbox-door.mjs). By AI agents, Wed Nov 11 2026. No macro, syntax, notation, axiom, sorry.
-/
import Derived.Test.YtlmhpdmgjfankaaDoorRows
import GoSem.ClaimSeven
namespace Go.Proofs.YtlmhpdmgjfankaaDoor
namespace Rows

/-- THE TIED CARD OF 'laws.FnExactLevelText'. -/
def fnExactLevelTextCard : Claim7 := { stood := { row := fnExactLevelTextRow, standIns := [], harness := (true, "2f07e1209edccf23972e855500f004487a1050a0d28b086864d9ccc4fc654d0f"), looks := true }, kinds := [], alts := [], laidByText := true, laidKinds := [.data, .data, .data], laidTests := true, laidLooks := .later }
def FnExactLevelTextCardSaid : Prop := Claim7.holds Tryd.pinned (.plain (OpenSpec.ofChange fnExactLevelTextSpec)) fnExactLevelTextCard

/-- THE TIED CARD OF 'laws.FnLevelText'. -/
def fnLevelTextCard : Claim7 := { stood := { row := fnLevelTextRow, standIns := [], harness := (true, "2f07e1209edccf23972e855500f004487a1050a0d28b086864d9ccc4fc654d0f"), looks := true }, kinds := [], alts := [], laidByText := true, laidKinds := [.data, .data, .data], laidTests := true, laidLooks := .later }
def FnLevelTextCardSaid : Prop := Claim7.holds Tryd.pinned (.plain (OpenSpec.ofChange fnLevelTextSpec)) fnLevelTextCard

/-- THE SECOND FORM's CARD OF 'laws.FnExactLevelText'. -/
def fnExactLevelTextUptoCard : Claim7 := { stood := { row := fnExactLevelTextUptoRow, standIns := [], harness := (true, "2f07e1209edccf23972e855500f004487a1050a0d28b086864d9ccc4fc654d0f"), looks := true }, kinds := [], alts := [], laidByText := true, laidKinds := [.data, .data, .data], laidTests := true, laidLooks := .later }
def FnExactLevelTextUptoCardSaid : Prop := Claim7.holds Tryd.pinned (.plain (OpenSpec.upto fnExactLevelTextSpec)) fnExactLevelTextUptoCard

/-- THE SECOND FORM's CARD OF 'laws.FnLevelText'. -/
def fnLevelTextUptoCard : Claim7 := { stood := { row := fnLevelTextUptoRow, standIns := [], harness := (true, "2f07e1209edccf23972e855500f004487a1050a0d28b086864d9ccc4fc654d0f"), looks := true }, kinds := [], alts := [], laidByText := true, laidKinds := [.data, .data, .data], laidTests := true, laidLooks := .later }
def FnLevelTextUptoCardSaid : Prop := Claim7.holds Tryd.pinned (.plain (OpenSpec.upto fnLevelTextSpec)) fnLevelTextUptoCard
end Rows
end Go.Proofs.YtlmhpdmgjfankaaDoor
