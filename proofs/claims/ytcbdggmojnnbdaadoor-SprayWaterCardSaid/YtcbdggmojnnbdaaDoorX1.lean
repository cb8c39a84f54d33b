/-
  THE CHAPTER's EXAMPLES, RUN.
-/
import Derived.Test.YtcbdggmojnnbdaaDoorS1
namespace Go.Proofs.YtcbdggmojnnbdaaDoor
open Go Go.Am
set_option maxRecDepth 100000
set_option maxHeartbeats 4000000
def exP : List Pp := [⟨0, 1, 10, 20⟩, ⟨1, 2, 0, 50⟩, ⟨1, 3, 100, 100⟩]
def exH1 : Hh := ⟨5, 2, 80, 500, 66, 70, 0, 1⟩
def exH2 : Hh := ⟨9, 3, 100, 400, 141, 145, 2, 2⟩
def exN : Nt := ⟨exP, [exH1, exH2], [⟨3000, 3100, 5⟩, ⟨3500, 3500, 10⟩], 1, 6000, 7000, 30⟩
def encPe (p : List Sn × Int) : AV := .tup [encSs p.1, .int .i64 p.2]
def encFe (p : List Int × Int) : AV := .tup [encR p.1, .int .i64 p.2]
/-- A net at work. -/
def cW (n : Nt) (hs : List Hh) (fl : List Int) (f : Int) : List AV := cN n ++ [encH hs, encR fl, .int .i64 f]
def encW (n : Nt) (hs : List Hh) (fl : List Int) (f : Int) : AV := .agg (cW n hs fl f)
/-- The same with no open head. -/
def encW0 (n : Nt) (fl : List Int) : AV := .agg (cN n ++ [.nil, encR fl, .int .i64 0])
theorem net_spec : APure Tryd.prog 14 [] (encN exN) := .runK .nil 100 30 (by kernel_rfl)
theorem kCheck : APure Tryd.prog 22 [encN exN] (.int .i64 0) := .runK .nil 100 30 (by kernel_rfl)
theorem kOpen2 : APure Tryd.prog 43 [encN exN, encR [5, 9]] (.int .i64 0) := .runK (.cons kCheck .nil) 100 30 (by kernel_rfl)
theorem kOpen1 : APure Tryd.prog 43 [encN exN, encR [5]] (.int .i64 0) := .runK (.cons kCheck .nil) 100 30 (by kernel_rfl)
theorem kBegin2 : APure Tryd.prog 44 [encN exN, encR [5, 9]] (encW exN [exH1, exH2] [180, 80, 100] 180) := .runK .nil 100 30 (by kernel_rfl)
theorem kBegin1 : APure Tryd.prog 44 [encN exN, encR [5]] (encW exN [exH1] [80, 80, 0] 80) := .runK .nil 100 30 (by kernel_rfl)
theorem kBegin9 : APure Tryd.prog 44 [encN exN, encR [9]] (encW exN [exH2] [100, 0, 100] 100) := .runK .nil 100 30 (by kernel_rfl)
theorem kBegin0 : APure Tryd.prog 44 [encN exN, encR []] (encW0 exN [0, 0, 0]) := .runK .nil 100 30 (by kernel_rfl)
def encLk (k h : Int) (o : AV) : AV := .agg [.int .u8 k, .int .i64 h, o]
def encLe (k h : Int) (o : AV) (e : Int) : AV := .tup [encLk k h o, .int .i64 e]
theorem kList0 : APureF Tryd.prog 69 [.imap (entsO [0])] (encR [0]) := listOf_spec [0] (by simp) (by decide)
theorem kFlows2 : APure Tryd.prog 13 [encN exN, encR [5, 9]] (encFe ([180, 80, 100], 0)) := .runK (.cons kOpen2 <| .cons kBegin2 .nil) 100 30 (by kernel_rfl)
theorem kPress0 : APure Tryd.prog 19 [encN exN, encR [5, 9], encR []] (encPe ([(1582, 2276), (902, 1276)], 0)) := .runK (.cons kOpen2 <| .cons kBegin2 .nil) 100 30 (by kernel_rfl)
theorem kPress1 : APure Tryd.prog 19 [encN exN, encR [5, 9], encR [0]] (encPe ([(732, 1376), (52, 376)], 0)) := .runK (.cons kOpen2 <| .cons kBegin2 .nil) 100 30 (by kernel_rfl)
theorem kW2 : APure Tryd.prog 45 [encW exN [exH1, exH2] [180, 80, 100] 180] (encLk 1 9 (encR [0])) := .runK (.consF kList0 .nil) 100 30 (by kernel_rfl)
theorem kW1 : APure Tryd.prog 45 [encW exN [exH1] [80, 80, 0] 80] (encLk 2 0 .nil) := .runK .nil 100 30 (by kernel_rfl)
theorem kW9 : APure Tryd.prog 45 [encW exN [exH2] [100, 0, 100] 100] (encLk 2 0 .nil) := .runK .nil 100 30 (by kernel_rfl)
theorem kW0 : APure Tryd.prog 45 [encW0 exN [0, 0, 0]] (encLk 2 0 .nil) := .runK .nil 100 30 (by kernel_rfl)
theorem kGets2 : APure Tryd.prog 17 [encN exN, encR [5, 9]] (encLe 1 9 (encR [0]) 0) := .runK (.cons kOpen2 <| .cons kBegin2 <| .cons kW2 .nil) 100 30 (by kernel_rfl)
theorem kGets1 : APure Tryd.prog 17 [encN exN, encR [5]] (encLe 2 0 .nil 0) := .runK (.cons kOpen1 <| .cons kBegin1 <| .cons kW1 .nil) 100 30 (by kernel_rfl)
theorem kIds (i : Int) (l : List Int) (h : exRunK Tryd.prog [] 100 30 82 [encH [exH1, exH2], .int .i64 i] = some (encR l)) : APure Tryd.prog 82 [encH [exH1, exH2], .int .i64 i] (encR l) := .runK .nil 100 30 h
theorem kIds0 : APure Tryd.prog 82 [encH [exH1, exH2], .int .i64 0] .nil := .runK .nil 100 30 (by kernel_rfl)
theorem kBegin00 : APure Tryd.prog 44 [encN exN, .nil] (encW0 exN [0, 0, 0]) := .runK .nil 100 30 (by kernel_rfl)
theorem kMost : APure Tryd.prog 26 [encN exN] (.tup [.int .i64 1, encR [5, 9], .int .i64 0]) :=
  .runK (.cons kCheck <| .cons kIds0 <| .cons (kIds 1 [5] (by kernel_rfl)) <| .cons (kIds 2 [9] (by kernel_rfl)) <| .cons (kIds 3 [5, 9] (by kernel_rfl)) <| .cons kBegin00 <| .cons kBegin1 <| .cons kBegin9 <| .cons kBegin2 <| .cons kW0 <| .cons kW1 <| .cons kW9 <| .cons kW2 .nil) 100 30 (by kernel_rfl)
theorem kBursts : APure Tryd.prog 20 [encHh exH1, encR [20, 68, 72, 80]] (.tup [.int .i64 2, .int .i64 4, .int .i64 0]) := .runK .nil 100 30 (by kernel_rfl)
end Go.Proofs.YtcbdggmojnnbdaaDoor
