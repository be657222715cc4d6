/- What a reading of a level's text answers. -/
import Derived.Test.YtlmhpdmgjfankaaDoorPaY
namespace Go.Proofs.YtlmhpdmgjfankaaDoor
open Go.ChangeShapes Go.WideShapes Go.ChangeAt Go.RowKit

def spF (s : Bs) : Option Tr := sp (s.length + 1) s
/-- What ParseLevel answers. -/
def ParseOut (B : Nat) (w' : World) (e : Ending) (s : ByteArray) : Prop :=
  ((3000 < s.size ∨ spF s.data.toList = none) ∧ LvOut B w' e none 4) ∨ (s.size ≤ 3000 ∧ ∃ t, spF s.data.toList = some t ∧ LvOut B w' e (sizedR t) 3)
end Go.Proofs.YtlmhpdmgjfankaaDoor
