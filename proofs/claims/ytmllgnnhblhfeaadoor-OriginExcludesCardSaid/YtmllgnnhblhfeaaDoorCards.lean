/-
  DERIVED. GIVEN WITH THE SEED: THE CARDS: each row of YtmllgnnhblhfeaaDoorRows.lean that lists a variable, with what it lists TIED to the program's text (the seventh form; the later family's looks); each row that meets fmt, with fmt's text TOLD by the authors' own Lean function (tested against real Go, not proved from fmt's source: count such statements apart). THE CARD IS WHAT COUNTS. Prove the row's statement (the work); the ties are given (YtmllgnnhblhfeaaDoorTie.lean); close each card by the builder's one call (the guide's Derived/Test/ToyasCard.lean, 'card_holds'). Laid BY PROGRAM, IN A SANDBOX (cutbox-door.mjs). By AI agents, Wed Nov 11 2026. No macro, syntax, notation, axiom, sorry.
-/
import Derived.Test.YtmllgnnhblhfeaaDoorRows
import GoSem.ClaimSeven
namespace Go.Proofs.YtmllgnnhblhfeaaDoor
namespace Rows

/-- THE TIED CARD OF 'cottonpadlaw09.OriginExcludes'. -/
def originExcludesCard : Claim7 := { stood := { row := originExcludesRow, standIns := [], harness := (true, "dac32906bcbdadf016964b71f43f23bfe78bfd4c2d3834d7230648ddb0c0aadd"), looks := false }, kinds := [], alts := [], laidByText := true, laidKinds := [.data, .data, .data], laidTests := true, laidLooks := .later }
def OriginExcludesCardSaid : Prop := Claim7.holds Tryd.pinned (.plain (OpenSpec.ofChange originExcludesSpec)) originExcludesCard

/-- THE SECOND FORM's CARD OF 'cottonpadlaw09.OriginExcludes'. -/
def originExcludesUptoCard : Claim7 := { stood := { row := originExcludesUptoRow, standIns := [], harness := (true, "dac32906bcbdadf016964b71f43f23bfe78bfd4c2d3834d7230648ddb0c0aadd"), looks := false }, kinds := [], alts := [], laidByText := true, laidKinds := [.data, .data, .data], laidTests := true, laidLooks := .later }
def OriginExcludesUptoCardSaid : Prop := Claim7.holds Tryd.pinned (.plain (OpenSpec.upto originExcludesSpec)) originExcludesUptoCard
end Rows
end Go.Proofs.YtmllgnnhblhfeaaDoor
