/-
  THE CHAPTER's EXAMPLES, RUN: whether all are in time.
-/
import Derived.Test.YtiggnliiigcjaaaDoorX1
namespace Go.Proofs.YtiggnliiigcjaaaDoor
open Go Go.Am
set_option maxRecDepth 100000
set_option maxHeartbeats 4000000
theorem APure.fresh {P : Program} {f : Nat} {xs : List AV} {r : AV} (h : APure P f xs r) (hf : r.flat = true) : APureF P f xs r := fun κ N w cargs h1 h2 h3 =>
  (h κ N w cargs h1 h2 h3).mono fun _e _w' ⟨v, e1, e2, e3, e4⟩ => ⟨v, e1, e2, e3, VRel.ofFlat e4 hf⟩
def exSm : Bdg := ⟨exB.ss, [⟨0, 10000, 27, 40⟩, ⟨1, 4000, 40, 50⟩]⟩
def exSt : Bdg := ⟨[⟨1, 2, 10, 12, 60, 90⟩, ⟨-1, 3, 5, 5, 40, 47⟩], exB.cs⟩
def exDp : Bdg := ⟨[⟨1, 2, 10, 12, 60, 90⟩, ⟨-1, 3, 5, 5, 20, 38⟩], exB.cs⟩
def encSf (k c s : Int) : AV := .tup [.int .u8 k, .int .i64 c, .int .i64 s, .int .i64 0]
theorem kf0 : APure Tryd.prog 16 [encB exB, encW exW] (encSf 2 (-1) (-1)) := .runK (.cons kCheck <| .cons kS0 .nil) 100 30 (by kernel_rfl)
theorem kfSm : APure Tryd.prog 16 [encB exSm, encW exW] (encSf 1 0 (-1)) := .runK (.cons ends_spec .nil) 100 30 (by kernel_rfl)
theorem kfSt : APure Tryd.prog 16 [encB exSt, encW exW] (encSf 1 (-1) 1) := .runK (.cons ends_spec .nil) 100 30 (by kernel_rfl)
theorem kfDp : APure Tryd.prog 16 [encB exDp, encW exW] (encSf 0 (-1) 1) := .runK (.cons ends_spec .nil) 100 30 (by kernel_rfl)
theorem safe0 : APure Tryd.prog 25 [encB exB, .int .u8 2, .int .i64 (-1), .int .i64 (-1)] (.bool true) := .runK (.cons people_spec <| .cons kf0 .nil) 100 30 (by kernel_rfl)
theorem safeSm : APure Tryd.prog 25 [encB exSm, .int .u8 1, .int .i64 0, .int .i64 (-1)] (.bool true) := .runK (.cons people_spec <| .cons kfSm .nil) 100 30 (by kernel_rfl)
theorem safeSt : APure Tryd.prog 25 [encB exSt, .int .u8 1, .int .i64 (-1), .int .i64 1] (.bool true) := .runK (.cons people_spec <| .cons kfSt .nil) 100 30 (by kernel_rfl)
theorem safeDp : APure Tryd.prog 25 [encB exDp, .int .u8 0, .int .i64 (-1), .int .i64 1] (.bool true) := .runK (.cons people_spec <| .cons kfDp .nil) 100 30 (by kernel_rfl)
end Go.Proofs.YtiggnliiigcjaaaDoor
