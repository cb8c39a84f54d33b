/-
  THE CHAPTER's EXAMPLES: what is alive, and all of them.
-/
import Derived.Test.YtiggnliiigcjaaaDoorX2
import Derived.Test.YtiggnliiigcjaaaDoorX3
import Derived.Test.YtiggnliiigcjaaaDoorAm17
namespace Go.Proofs.YtiggnliiigcjaaaDoor
open Go Go.Am
set_option maxRecDepth 100000
set_option maxHeartbeats 4000000
theorem kMore : APure Tryd.prog 18 [encB exB, encW exW, .agg (cWa exW1)] (.tup [.int .i64 7, .int .i64 0]) :=
  .runK (.cons kCheck <| .cons kS0 <| .consF (APure.fresh kS1 rfl) <| .consF (APure.fresh kS2 rfl) <| .consF (APure.fresh kS3 rfl) <| .consF (APure.fresh kS4 rfl) <| .consF (APure.fresh kS5 rfl) <| .consF (APure.fresh kS6 rfl) <| .consF (APure.fresh kS7 rfl) <| .consF (APure.fresh kS8 rfl) .nil) 100 30 (by kernel_rfl)
theorem kLeaves0F : APureF Tryd.prog 27 [encB exB, encW exW, .int .i64 0] (.tup [encSs [(30, 40), (32, 42)], .int .i64 0]) := .runK (.cons kCheck .nil) 100 30 (by kernel_rfl)
theorem kLeaves1F : APureF Tryd.prog 27 [encB exB, encW exW, .int .i64 1] (.tup [encSs [(33, 36), (36, 45), (39, 48)], .int .i64 0]) := .runK (.cons kCheck .nil) 100 30 (by kernel_rfl)
theorem walker_spec : APure Tryd.prog 29 [] (.agg (cWa exW1)) := .runK .nil 100 30 (by kernel_rfl)
theorem span_spec (a b : Int) : APure Tryd.prog 24 [.int .i64 a, .int .i64 b] (.agg (cS (a, b))) := APure.vc Tryd.func24 rfl .nil rfl rfl ⟨trivial, rfl⟩
theorem alive_spec : APure Tryd.prog 22 [] (.bool true) :=
  .runK (.cons walker_spec <| .consF kLeaves0F <| .consF kLeaves1F <| .consF (APure.fresh kOut rfl) <| .consF (APure.fresh kMore rfl) <| .consF (APure.fresh safe0 rfl) <| .consF (APure.fresh safeSm rfl) .nil) 100 30 (by kernel_rfl)
def exWd : Bdg := ⟨[⟨0, 2, 10, 12, 60, 90⟩, ⟨-1, 3, 5, 5, 70, 100⟩], exB.cs⟩
def exSl : List Wal := [exW1, exW1, ⟨1, 99, 500, 20, 21⟩]
theorem kLeavesB : APureF Tryd.prog 27 [encB exB, encW exW, .int .i64 2] (.tup [.nil, .int .i64 2]) := .runK (.cons kCheck .nil) 100 30 (by kernel_rfl)
theorem kOutB : APure Tryd.prog 28 [encB exWd, encW exW] (.tup [.agg (cS (0, 0)), .int .i64 60]) := .runK .nil 100 30 (by kernel_rfl)
theorem kMoreB : APure Tryd.prog 18 [encB exB, encW exW, .agg (cWa ⟨2, 100, 100, 0, 0⟩)] (.tup [.int .i64 0, .int .i64 2]) := .runK (.cons kCheck .nil) 100 30 (by kernel_rfl)
theorem kMoreC : APure Tryd.prog 18 [encB exSt, encW exW, .agg (cWa exW1)] (.tup [.int .i64 0, .int .i64 8]) := .runK .nil 100 30 (by kernel_rfl)
theorem kOutN : APure Tryd.prog 28 [encB exB, .nil] (.tup [.agg (cS (0, 0)), .int .i64 0]) := .runK .nil 100 30 (by kernel_rfl)
theorem kCheckB : APure Tryd.prog 30 [encB exB, encW exSl] (.int .i64 61) := .runK .nil 100 30 (by kernel_rfl)
theorem examples_spec : APure Tryd.prog 4 [] (.bool true) :=
  .runK (.cons alive_spec <| .cons walker_spec <| .consF kLeavesB <| .consF (APure.fresh kMoreB rfl) <| .consF (APure.fresh kOutN rfl) <| .consF (APure.fresh safeSt rfl) <| .consF (APure.fresh safeDp rfl) <| .consF (APure.fresh kOutB rfl) <| .consF (APure.fresh kMoreC rfl) <| .consF (APure.fresh kCheckB rfl) .nil) 100 30 (by kernel_rfl)
end Go.Proofs.YtiggnliiigcjaaaDoor
