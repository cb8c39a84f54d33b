import Derived.Test.YtiggnliiigcjaaaDoorX1
import Derived.Test.YtiggnliiigcjaaaDoorAm17
/-
  THE CHAPTER's EXAMPLES, RUN: how many more there may be.
-/
namespace Go.Proofs.YtiggnliiigcjaaaDoor
open Go Go.Am
set_option maxRecDepth 100000
set_option maxHeartbeats 4000000
theorem kL1 : APure Tryd.prog 77 [encX exB (moreW 1), eW] (encL (-1, -1)) := .runK .nil 100 30 (by kernel_rfl)
theorem kS1 : APure Tryd.prog 54 [encX exB (moreW 1)] (.bool true) := kSf _ _ _ _ kL1 (by kernel_rfl)
theorem kL2 : APure Tryd.prog 77 [encX exB (moreW 2), eW] (encL (-1, -1)) := .runK .nil 100 30 (by kernel_rfl)
theorem kS2 : APure Tryd.prog 54 [encX exB (moreW 2)] (.bool true) := kSf _ _ _ _ kL2 (by kernel_rfl)
theorem kL3 : APure Tryd.prog 77 [encX exB (moreW 3), eW] (encL (-1, -1)) := .runK .nil 100 30 (by kernel_rfl)
theorem kS3 : APure Tryd.prog 54 [encX exB (moreW 3)] (.bool true) := kSf _ _ _ _ kL3 (by kernel_rfl)
theorem kL4 : APure Tryd.prog 77 [encX exB (moreW 4), eW] (encL (-1, -1)) := .runK .nil 100 30 (by kernel_rfl)
theorem kS4 : APure Tryd.prog 54 [encX exB (moreW 4)] (.bool true) := kSf _ _ _ _ kL4 (by kernel_rfl)
theorem kL5 : APure Tryd.prog 77 [encX exB (moreW 5), eW] (encL (-1, -1)) := .runK .nil 100 30 (by kernel_rfl)
theorem kS5 : APure Tryd.prog 54 [encX exB (moreW 5)] (.bool true) := kSf _ _ _ _ kL5 (by kernel_rfl)
theorem kL6 : APure Tryd.prog 77 [encX exB (moreW 6), eW] (encL (-1, -1)) := .runK .nil 100 30 (by kernel_rfl)
theorem kS6 : APure Tryd.prog 54 [encX exB (moreW 6)] (.bool true) := kSf _ _ _ _ kL6 (by kernel_rfl)
theorem kL7 : APure Tryd.prog 77 [encX exB (moreW 7), eW] (encL (-1, -1)) := .runK .nil 100 30 (by kernel_rfl)
theorem kS7 : APure Tryd.prog 54 [encX exB (moreW 7)] (.bool true) := kSf _ _ _ _ kL7 (by kernel_rfl)
theorem kL8 : APure Tryd.prog 77 [encX exB (moreW 8), eW] (encL (-1, 1)) := .runK .nil 100 30 (by kernel_rfl)
theorem kS8 : APure Tryd.prog 54 [encX exB (moreW 8)] (.bool false) := kSf _ _ _ _ kL8 (by kernel_rfl)
end Go.Proofs.YtiggnliiigcjaaaDoor
/-
  THE CHAPTER's EXAMPLES, RUN: whether all are in time.
-/
namespace Go.Proofs.YtiggnliiigcjaaaDoor
open Go Go.Am
set_option maxRecDepth 100000
set_option maxHeartbeats 4000000
theorem APure.fresh {P : Program} {f : Nat} {xs : List AV} {r : AV} (h : APure P f xs r) (hf : r.flat = true) : APureF P f xs r := fun κ N w cargs h1 h2 h3 =>
  (h κ N w cargs h1 h2 h3).mono fun _e _w' ⟨v, e1, e2, e3, e4⟩ => ⟨v, e1, e2, e3, VRel.ofFlat e4 hf⟩
def exSm : Bdg := ⟨exB.ss, [⟨0, 10000, 27, 40⟩, ⟨1, 4000, 40, 50⟩]⟩
def exSt : Bdg := ⟨[⟨1, 2, 10, 12, 60, 90⟩, ⟨-1, 3, 5, 5, 40, 47⟩], exB.cs⟩
def exDp : Bdg := ⟨[⟨1, 2, 10, 12, 60, 90⟩, ⟨-1, 3, 5, 5, 20, 38⟩], exB.cs⟩
def encSf (k c s : Int) : AV := .tup [.int .u8 k, .int .i64 c, .int .i64 s, .int .i64 0]
theorem kf0 : APure Tryd.prog 16 [encB exB, encW exW] (encSf 2 (-1) (-1)) := .runK (.cons kCheck <| .cons kS0 .nil) 100 30 (by kernel_rfl)
theorem kfSm : APure Tryd.prog 16 [encB exSm, encW exW] (encSf 1 0 (-1)) := .runK (.cons ends_spec .nil) 100 30 (by kernel_rfl)
theorem kfSt : APure Tryd.prog 16 [encB exSt, encW exW] (encSf 1 (-1) 1) := .runK (.cons ends_spec .nil) 100 30 (by kernel_rfl)
theorem kfDp : APure Tryd.prog 16 [encB exDp, encW exW] (encSf 0 (-1) 1) := .runK (.cons ends_spec .nil) 100 30 (by kernel_rfl)
theorem safe0 : APure Tryd.prog 25 [encB exB, .int .u8 2, .int .i64 (-1), .int .i64 (-1)] (.bool true) := .runK (.cons people_spec <| .cons kf0 .nil) 100 30 (by kernel_rfl)
theorem safeSm : APure Tryd.prog 25 [encB exSm, .int .u8 1, .int .i64 0, .int .i64 (-1)] (.bool true) := .runK (.cons people_spec <| .cons kfSm .nil) 100 30 (by kernel_rfl)
theorem safeSt : APure Tryd.prog 25 [encB exSt, .int .u8 1, .int .i64 (-1), .int .i64 1] (.bool true) := .runK (.cons people_spec <| .cons kfSt .nil) 100 30 (by kernel_rfl)
theorem safeDp : APure Tryd.prog 25 [encB exDp, .int .u8 0, .int .i64 (-1), .int .i64 1] (.bool true) := .runK (.cons people_spec <| .cons kfDp .nil) 100 30 (by kernel_rfl)
end Go.Proofs.YtiggnliiigcjaaaDoor
/-
  THE CHAPTER's EXAMPLES: what is alive, and all of them.
-/
namespace Go.Proofs.YtiggnliiigcjaaaDoor
open Go Go.Am
set_option maxRecDepth 100000
set_option maxHeartbeats 4000000
theorem kMore : APure Tryd.prog 18 [encB exB, encW exW, .agg (cWa exW1)] (.tup [.int .i64 7, .int .i64 0]) :=
  .runK (.cons kCheck <| .cons kS0 <| .consF (APure.fresh kS1 rfl) <| .consF (APure.fresh kS2 rfl) <| .consF (APure.fresh kS3 rfl) <| .consF (APure.fresh kS4 rfl) <| .consF (APure.fresh kS5 rfl) <| .consF (APure.fresh kS6 rfl) <| .consF (APure.fresh kS7 rfl) <| .consF (APure.fresh kS8 rfl) .nil) 100 30 (by kernel_rfl)
theorem kLeaves0F : APureF Tryd.prog 27 [encB exB, encW exW, .int .i64 0] (.tup [encSs [(30, 40), (32, 42)], .int .i64 0]) := .runK (.cons kCheck .nil) 100 30 (by kernel_rfl)
theorem kLeaves1F : APureF Tryd.prog 27 [encB exB, encW exW, .int .i64 1] (.tup [encSs [(33, 36), (36, 45), (39, 48)], .int .i64 0]) := .runK (.cons kCheck .nil) 100 30 (by kernel_rfl)
theorem walker_spec : APure Tryd.prog 29 [] (.agg (cWa exW1)) := .runK .nil 100 30 (by kernel_rfl)
theorem span_spec (a b : Int) : APure Tryd.prog 24 [.int .i64 a, .int .i64 b] (.agg (cS (a, b))) := APure.vc Tryd.func24 rfl .nil rfl rfl ⟨trivial, rfl⟩
theorem alive_spec : APure Tryd.prog 22 [] (.bool true) :=
  .runK (.cons walker_spec <| .consF kLeaves0F <| .consF kLeaves1F <| .consF (APure.fresh kOut rfl) <| .consF (APure.fresh kMore rfl) <| .consF (APure.fresh safe0 rfl) <| .consF (APure.fresh safeSm rfl) .nil) 100 30 (by kernel_rfl)
def exWd : Bdg := ⟨[⟨0, 2, 10, 12, 60, 90⟩, ⟨-1, 3, 5, 5, 70, 100⟩], exB.cs⟩
def exSl : List Wal := [exW1, exW1, ⟨1, 99, 500, 20, 21⟩]
theorem kLeavesB : APureF Tryd.prog 27 [encB exB, encW exW, .int .i64 2] (.tup [.nil, .int .i64 2]) := .runK (.cons kCheck .nil) 100 30 (by kernel_rfl)
theorem kOutB : APure Tryd.prog 28 [encB exWd, encW exW] (.tup [.agg (cS (0, 0)), .int .i64 60]) := .runK .nil 100 30 (by kernel_rfl)
theorem kMoreB : APure Tryd.prog 18 [encB exB, encW exW, .agg (cWa ⟨2, 100, 100, 0, 0⟩)] (.tup [.int .i64 0, .int .i64 2]) := .runK (.cons kCheck .nil) 100 30 (by kernel_rfl)
theorem kMoreC : APure Tryd.prog 18 [encB exSt, encW exW, .agg (cWa exW1)] (.tup [.int .i64 0, .int .i64 8]) := .runK .nil 100 30 (by kernel_rfl)
theorem kOutN : APure Tryd.prog 28 [encB exB, .nil] (.tup [.agg (cS (0, 0)), .int .i64 0]) := .runK .nil 100 30 (by kernel_rfl)
theorem kCheckB : APure Tryd.prog 30 [encB exB, encW exSl] (.int .i64 61) := .runK .nil 100 30 (by kernel_rfl)
theorem examples_spec : APure Tryd.prog 4 [] (.bool true) :=
  .runK (.cons alive_spec <| .cons walker_spec <| .consF kLeavesB <| .consF (APure.fresh kMoreB rfl) <| .consF (APure.fresh kOutN rfl) <| .consF (APure.fresh safeSt rfl) <| .consF (APure.fresh safeDp rfl) <| .consF (APure.fresh kOutB rfl) <| .consF (APure.fresh kMoreC rfl) <| .consF (APure.fresh kCheckB rfl) .nil) 100 30 (by kernel_rfl)
end Go.Proofs.YtiggnliiigcjaaaDoor
