/-
  DERIVED. GIVEN WITH THE SEED: THE PROGRAM's TIES (one call each: nine closed facts by the kernel) AND EACH ROW's TIE, after the 31st guide's Derived/Test/Toyas{Tie, Card}.lean. No idea stands in it: it is a product of the set-up. Laid BY PROGRAM, IN A SANDBOX (cutbox-door.mjs). By AI agents, Wed Nov 11 2026. No macro, syntax, notation, axiom, sorry.
-/
import Derived.Test.YtmllgnnhblhfeaaDoorRows
import Derived.LaidByTextLater
import Derived.SevenTiedAt
import Derived.LaidSub
import Derived.LaidOnce
namespace Go.Proofs.YtmllgnnhblhfeaaDoor
open Go
set_option maxRecDepth 100000
theorem seatTie1 : Tryd.prog.laidByTextLater [("cottonpad/origin.never", Rows.laid_cottonpad_origin_never), ("cottonpad/origin.always", Rows.laid_cottonpad_origin_always), ("cottonpad/origin.nothing", Rows.laid_cottonpad_origin_nothing)] [.data, .data, .data] true :=
  Program.laidByTextLater_by_one 24 8 3 (by kernel_rfl) (by kernel_rfl) (by kernel_rfl) (by kernel_rfl) (by kernel_rfl) (by kernel_rfl) (fun _ _ => by kernel_rfl)
theorem noOwnUnsafe : Tryd.pinned.checked.prog.headLifts.contains "ownunsafe" = false := by kernel_rfl
theorem tie : Tryd.prog.laidByTextLater [("cottonpad/origin.never", Rows.laid_cottonpad_origin_never), ("cottonpad/origin.always", Rows.laid_cottonpad_origin_always), ("cottonpad/origin.nothing", Rows.laid_cottonpad_origin_nothing)] [.data, .data, .data] true :=
  Program.laidByTextLater.sub seatTie1 ["cottonpad/origin.never", "cottonpad/origin.always", "cottonpad/origin.nothing"] (by kernel_rfl) (by kernel_rfl)
theorem originExcludes_row_tie : Rows.originExcludesRow.laidByTextAt .later Tryd.pinned [.data, .data, .data] true :=
  OpenClaim.laidByTextAt_later rfl rfl tie noOwnUnsafe
theorem originExcludesUpto_row_tie : Rows.originExcludesUptoRow.laidByTextAt .later Tryd.pinned [.data, .data, .data] true :=
  OpenClaim.laidByTextAt_later rfl rfl tie noOwnUnsafe
end Go.Proofs.YtmllgnnhblhfeaaDoor
