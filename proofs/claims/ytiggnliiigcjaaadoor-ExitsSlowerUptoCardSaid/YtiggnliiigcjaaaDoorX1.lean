/-
  THE CHAPTER's EXAMPLES, RUN.
-/
import Derived.Test.YtiggnliiigcjaaaDoorTy
import Derived.Test.YtiggnliiigcjaaaDoorAm16
namespace Go.Proofs.YtiggnliiigcjaaaDoor
open Go Go.Am
set_option maxRecDepth 100000
set_option maxHeartbeats 4000000
/-- A stair: the next one, the gap, the walk, the smoke. -/
structure Sta where
  nx : Int
  gap : Int
  wLo : Int
  wHi : Int
  sLo : Int
  sHi : Int
/-- A chamber: its stair, the way, the smoke. -/
structure Cha where
  st : Int
  way : Int
  sLo : Int
  sHi : Int
/-- A building. -/
structure Bdg where
  ss : List Sta
  cs : List Cha
/-- A walker: the chamber, the pace, the wait. -/
structure Wal where
  ch : Int
  pLo : Int
  pHi : Int
  tLo : Int
  tHi : Int
def cSt (s : Sta) : List AV := [.int .i64 s.nx, .int .i64 s.gap, .int .i64 s.wLo, .int .i64 s.wHi, .int .i64 s.sLo, .int .i64 s.sHi]
def cCh (c : Cha) : List AV := [.int .i64 c.st, .int .i64 c.way, .int .i64 c.sLo, .int .i64 c.sHi]
def cWa (w : Wal) : List AV := [.int .i64 w.ch, .int .i64 w.pLo, .int .i64 w.pHi, .int .i64 w.tLo, .int .i64 w.tHi]
def cB (b : Bdg) : List AV := [.lst 6 (b.ss.map cSt), .lst 4 (b.cs.map cCh)]
def encB (b : Bdg) : AV := .agg (cB b)
def encW (w : List Wal) : AV := .lst 5 (w.map cWa)
def cS (p : Int × Int) : List AV := [.int .i64 p.1, .int .i64 p.2]
def encSs (l : List (Int × Int)) : AV := .lst 2 (l.map cS)
def exB : Bdg := ⟨[⟨1, 2, 10, 12, 60, 90⟩, ⟨-1, 3, 5, 5, 70, 100⟩], [⟨0, 10000, 30, 40⟩, ⟨1, 4000, 40, 50⟩]⟩
def exW1 : Wal := ⟨0, 800, 1000, 10, 15⟩
def exW : List Wal := [exW1, exW1, ⟨1, 400, 500, 20, 21⟩]
theorem building_spec : APure Tryd.prog 23 [] (encB exB) := .runK .nil 100 30 (by kernel_rfl)
theorem people_spec : APure Tryd.prog 26 [] (encW exW) := .runK .nil 100 30 (by kernel_rfl)
theorem kCheck : APure Tryd.prog 30 [encB exB, encW exW] (.int .i64 0) := .runK .nil 100 30 (by kernel_rfl)
theorem kLeaves0 : APure Tryd.prog 27 [encB exB, encW exW, .int .i64 0] (.tup [encSs [(30, 40), (32, 42)], .int .i64 0]) := .runK (.cons kCheck .nil) 100 30 (by kernel_rfl)
theorem kLeaves1 : APure Tryd.prog 27 [encB exB, encW exW, .int .i64 1] (.tup [encSs [(33, 36), (36, 45), (39, 48)], .int .i64 0]) := .runK (.cons kCheck .nil) 100 30 (by kernel_rfl)
theorem kOut : APure Tryd.prog 28 [encB exB, encW exW] (.tup [.agg (cS (39, 48)), .int .i64 0]) := .runK (.cons kCheck .nil) 100 30 (by kernel_rfl)
/-- A building at work. -/
def encX (b : Bdg) (w : List Wal) : AV := .agg (cB b ++ [encW w])
def moreW (k : Nat) : List Wal := exW ++ List.replicate k exW1
def eB : AV := .agg [.fn (.func 99) [] [], .fn (.func 100) [] []]
def eW : AV := .agg [.fn (.func 100) [] [], .fn (.func 99) [] []]
theorem ends_spec : APure Tryd.prog 76 [] (.tup [eB, eW]) := .runK .nil 100 30 (by kernel_rfl)
def encL (p : Int × Int) : AV := .agg (cS p)
theorem kL0 : APure Tryd.prog 77 [encX exB exW, eW] (encL (-1, -1)) := .runK .nil 100 30 (by kernel_rfl)
theorem kSf (b : Bdg) (w : List Wal) (p : Int × Int) (r : Bool) (h : APure Tryd.prog 77 [encX b w, eW] (encL p)) (hr : exRunK Tryd.prog [⟨76, [], .tup [eB, eW], false⟩, ⟨77, [encX b w, eW], encL p, false⟩] 100 30 54 [encX b w] = some (.bool r)) : APure Tryd.prog 54 [encX b w] (.bool r) := .runK (.cons ends_spec <| .cons h .nil) 100 30 hr
theorem kS0 : APure Tryd.prog 54 [encX exB exW] (.bool true) := kSf _ _ _ _ kL0 (by kernel_rfl)
end Go.Proofs.YtiggnliiigcjaaaDoor
