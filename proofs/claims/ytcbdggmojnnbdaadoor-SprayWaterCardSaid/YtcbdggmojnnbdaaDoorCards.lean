/-
  DERIVED. GIVEN WITH THE SEED: THE CARDS: each row of YtcbdggmojnnbdaaDoorRows.lean that lists a variable, with what it lists TIED to the program's text (the seventh form; the later family's looks); each row that meets fmt, with fmt's text TOLD by the authors' own Lean function (tested against real Go, not proved from fmt's source: count such statements apart). THE CARD IS WHAT COUNTS. Prove the row's statement (the work); the ties are given (YtcbdggmojnnbdaaDoorTie.lean); close each card by the builder's one call (the guide's Derived/Test/ToyasCard.lean, 'card_holds'). Laid BY PROGRAM, IN A SANDBOX (cutbox-door.mjs). By AI agents, Wed Nov 11 2026. No macro, syntax, notation, axiom, sorry.
-/
import Derived.Test.YtcbdggmojnnbdaaDoorRows
import GoSem.ClaimSeven
namespace Go.Proofs.YtcbdggmojnnbdaaDoor
namespace Rows

/-- THE TIED CARD OF 'cottonpadlaw05.SprayExamples'. -/
def sprayExamplesCard : Claim7 := { stood := { row := sprayExamplesRow, standIns := [], harness := (true, "1d2ef2fb35ad42f990c1890f47c4cc5b74eced58cad03fb46b38d17ae2bed708"), looks := false }, kinds := [], alts := [], laidByText := true, laidKinds := [.data], laidTests := true, laidLooks := .later }
def SprayExamplesCardSaid : Prop := Claim7.holds Tryd.pinned (.plain (OpenSpec.ofChange sprayExamplesSpec)) sprayExamplesCard

/-- THE TIED CARD OF 'cottonpadlaw05.SprayGets'. -/
def sprayGetsCard : Claim7 := { stood := { row := sprayGetsRow, standIns := [], harness := (true, "1d2ef2fb35ad42f990c1890f47c4cc5b74eced58cad03fb46b38d17ae2bed708"), looks := false }, kinds := [], alts := [], laidByText := true, laidKinds := [.data], laidTests := true, laidLooks := .later }
def SprayGetsCardSaid : Prop := Claim7.holds Tryd.pinned (.plain (OpenSpec.ofChange sprayGetsSpec)) sprayGetsCard

/-- THE TIED CARD OF 'cottonpadlaw05.SprayFires'. -/
def sprayFiresCard : Claim7 := { stood := { row := sprayFiresRow, standIns := [], harness := (true, "1d2ef2fb35ad42f990c1890f47c4cc5b74eced58cad03fb46b38d17ae2bed708"), looks := false }, kinds := [], alts := [], laidByText := true, laidKinds := [.data], laidTests := true, laidLooks := .later }
def SprayFiresCardSaid : Prop := Claim7.holds Tryd.pinned (.plain (OpenSpec.ofChange sprayFiresSpec)) sprayFiresCard

/-- THE TIED CARD OF 'cottonpadlaw05.SprayFewer'. -/
def sprayFewerCard : Claim7 := { stood := { row := sprayFewerRow, standIns := [], harness := (true, "1d2ef2fb35ad42f990c1890f47c4cc5b74eced58cad03fb46b38d17ae2bed708"), looks := false }, kinds := [], alts := [], laidByText := true, laidKinds := [.data], laidTests := true, laidLooks := .later }
def SprayFewerCardSaid : Prop := Claim7.holds Tryd.pinned (.plain (OpenSpec.ofChange sprayFewerSpec)) sprayFewerCard

/-- THE TIED CARD OF 'cottonpadlaw05.SpraySurer'. -/
def spraySurerCard : Claim7 := { stood := { row := spraySurerRow, standIns := [], harness := (true, "1d2ef2fb35ad42f990c1890f47c4cc5b74eced58cad03fb46b38d17ae2bed708"), looks := false }, kinds := [], alts := [], laidByText := true, laidKinds := [.data], laidTests := true, laidLooks := .later }
def SpraySurerCardSaid : Prop := Claim7.holds Tryd.pinned (.plain (OpenSpec.ofChange spraySurerSpec)) spraySurerCard

/-- THE TIED CARD OF 'cottonpadlaw05.SprayWater'. -/
def sprayWaterCard : Claim7 := { stood := { row := sprayWaterRow, standIns := [], harness := (true, "1d2ef2fb35ad42f990c1890f47c4cc5b74eced58cad03fb46b38d17ae2bed708"), looks := false }, kinds := [], alts := [], laidByText := true, laidKinds := [.data], laidTests := true, laidLooks := .later }
def SprayWaterCardSaid : Prop := Claim7.holds Tryd.pinned (.plain (OpenSpec.ofChange sprayWaterSpec)) sprayWaterCard

/-- THE TIED CARD OF 'cottonpadlaw05.SprayBulb'. -/
def sprayBulbCard : Claim7 := { stood := { row := sprayBulbRow, standIns := [], harness := (true, "1d2ef2fb35ad42f990c1890f47c4cc5b74eced58cad03fb46b38d17ae2bed708"), looks := false }, kinds := [], alts := [], laidByText := true, laidKinds := [.data], laidTests := true, laidLooks := .later }
def SprayBulbCardSaid : Prop := Claim7.holds Tryd.pinned (.plain (OpenSpec.ofChange sprayBulbSpec)) sprayBulbCard

/-- THE TIED CARD OF 'cottonpadlaw05.SprayFire'. -/
def sprayFireCard : Claim7 := { stood := { row := sprayFireRow, standIns := [], harness := (true, "1d2ef2fb35ad42f990c1890f47c4cc5b74eced58cad03fb46b38d17ae2bed708"), looks := false }, kinds := [], alts := [], laidByText := true, laidKinds := [.data], laidTests := true, laidLooks := .later }
def SprayFireCardSaid : Prop := Claim7.holds Tryd.pinned (.plain (OpenSpec.ofChange sprayFireSpec)) sprayFireCard

/-- THE TIED CARD OF 'cottonpadlaw05.SprayMost'. -/
def sprayMostCard : Claim7 := { stood := { row := sprayMostRow, standIns := [], harness := (true, "1d2ef2fb35ad42f990c1890f47c4cc5b74eced58cad03fb46b38d17ae2bed708"), looks := false }, kinds := [], alts := [], laidByText := true, laidKinds := [.data], laidTests := true, laidLooks := .later }
def SprayMostCardSaid : Prop := Claim7.holds Tryd.pinned (.plain (OpenSpec.ofChange sprayMostSpec)) sprayMostCard

/-- THE SECOND FORM's CARD OF 'cottonpadlaw05.SprayExamples'. -/
def sprayExamplesUptoCard : Claim7 := { stood := { row := sprayExamplesUptoRow, standIns := [], harness := (true, "1d2ef2fb35ad42f990c1890f47c4cc5b74eced58cad03fb46b38d17ae2bed708"), looks := false }, kinds := [], alts := [], laidByText := true, laidKinds := [.data], laidTests := true, laidLooks := .later }
def SprayExamplesUptoCardSaid : Prop := Claim7.holds Tryd.pinned (.plain (OpenSpec.upto sprayExamplesSpec)) sprayExamplesUptoCard

/-- THE SECOND FORM's CARD OF 'cottonpadlaw05.SprayGets'. -/
def sprayGetsUptoCard : Claim7 := { stood := { row := sprayGetsUptoRow, standIns := [], harness := (true, "1d2ef2fb35ad42f990c1890f47c4cc5b74eced58cad03fb46b38d17ae2bed708"), looks := false }, kinds := [], alts := [], laidByText := true, laidKinds := [.data], laidTests := true, laidLooks := .later }
def SprayGetsUptoCardSaid : Prop := Claim7.holds Tryd.pinned (.plain (OpenSpec.upto sprayGetsSpec)) sprayGetsUptoCard

/-- THE SECOND FORM's CARD OF 'cottonpadlaw05.SprayFires'. -/
def sprayFiresUptoCard : Claim7 := { stood := { row := sprayFiresUptoRow, standIns := [], harness := (true, "1d2ef2fb35ad42f990c1890f47c4cc5b74eced58cad03fb46b38d17ae2bed708"), looks := false }, kinds := [], alts := [], laidByText := true, laidKinds := [.data], laidTests := true, laidLooks := .later }
def SprayFiresUptoCardSaid : Prop := Claim7.holds Tryd.pinned (.plain (OpenSpec.upto sprayFiresSpec)) sprayFiresUptoCard

/-- THE SECOND FORM's CARD OF 'cottonpadlaw05.SprayFewer'. -/
def sprayFewerUptoCard : Claim7 := { stood := { row := sprayFewerUptoRow, standIns := [], harness := (true, "1d2ef2fb35ad42f990c1890f47c4cc5b74eced58cad03fb46b38d17ae2bed708"), looks := false }, kinds := [], alts := [], laidByText := true, laidKinds := [.data], laidTests := true, laidLooks := .later }
def SprayFewerUptoCardSaid : Prop := Claim7.holds Tryd.pinned (.plain (OpenSpec.upto sprayFewerSpec)) sprayFewerUptoCard

/-- THE SECOND FORM's CARD OF 'cottonpadlaw05.SpraySurer'. -/
def spraySurerUptoCard : Claim7 := { stood := { row := spraySurerUptoRow, standIns := [], harness := (true, "1d2ef2fb35ad42f990c1890f47c4cc5b74eced58cad03fb46b38d17ae2bed708"), looks := false }, kinds := [], alts := [], laidByText := true, laidKinds := [.data], laidTests := true, laidLooks := .later }
def SpraySurerUptoCardSaid : Prop := Claim7.holds Tryd.pinned (.plain (OpenSpec.upto spraySurerSpec)) spraySurerUptoCard

/-- THE SECOND FORM's CARD OF 'cottonpadlaw05.SprayWater'. -/
def sprayWaterUptoCard : Claim7 := { stood := { row := sprayWaterUptoRow, standIns := [], harness := (true, "1d2ef2fb35ad42f990c1890f47c4cc5b74eced58cad03fb46b38d17ae2bed708"), looks := false }, kinds := [], alts := [], laidByText := true, laidKinds := [.data], laidTests := true, laidLooks := .later }
def SprayWaterUptoCardSaid : Prop := Claim7.holds Tryd.pinned (.plain (OpenSpec.upto sprayWaterSpec)) sprayWaterUptoCard

/-- THE SECOND FORM's CARD OF 'cottonpadlaw05.SprayBulb'. -/
def sprayBulbUptoCard : Claim7 := { stood := { row := sprayBulbUptoRow, standIns := [], harness := (true, "1d2ef2fb35ad42f990c1890f47c4cc5b74eced58cad03fb46b38d17ae2bed708"), looks := false }, kinds := [], alts := [], laidByText := true, laidKinds := [.data], laidTests := true, laidLooks := .later }
def SprayBulbUptoCardSaid : Prop := Claim7.holds Tryd.pinned (.plain (OpenSpec.upto sprayBulbSpec)) sprayBulbUptoCard

/-- THE SECOND FORM's CARD OF 'cottonpadlaw05.SprayFire'. -/
def sprayFireUptoCard : Claim7 := { stood := { row := sprayFireUptoRow, standIns := [], harness := (true, "1d2ef2fb35ad42f990c1890f47c4cc5b74eced58cad03fb46b38d17ae2bed708"), looks := false }, kinds := [], alts := [], laidByText := true, laidKinds := [.data], laidTests := true, laidLooks := .later }
def SprayFireUptoCardSaid : Prop := Claim7.holds Tryd.pinned (.plain (OpenSpec.upto sprayFireSpec)) sprayFireUptoCard

/-- THE SECOND FORM's CARD OF 'cottonpadlaw05.SprayMost'. -/
def sprayMostUptoCard : Claim7 := { stood := { row := sprayMostUptoRow, standIns := [], harness := (true, "1d2ef2fb35ad42f990c1890f47c4cc5b74eced58cad03fb46b38d17ae2bed708"), looks := false }, kinds := [], alts := [], laidByText := true, laidKinds := [.data], laidTests := true, laidLooks := .later }
def SprayMostUptoCardSaid : Prop := Claim7.holds Tryd.pinned (.plain (OpenSpec.upto sprayMostSpec)) sprayMostUptoCard
end Rows
end Go.Proofs.YtcbdggmojnnbdaaDoor
