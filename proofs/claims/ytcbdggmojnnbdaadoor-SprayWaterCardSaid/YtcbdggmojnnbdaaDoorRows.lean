/-
  NARROWER THAN 'FOR EVERY INPUT', by the rows' own cells (each row's printed sentence says how): SprayExamples: laid · SprayGets: laid · SprayFires: laid · SprayFewer: laid · SpraySurer: laid · SprayWater: laid · SprayBulb: laid · SprayFire: laid · SprayMost: laid.
  DERIVED. THE GIVEN ROWS OF THIS SEAT. 9 by the template 'for every input the law returns true; each argument reads behind the call as it read before'; 0 by the template 'total and deterministic' (their statements: YtcbdggmojnnbdaaDoorTotals.lean).
  GIVEN WITH THE SEED: the statements are not yours to turn. If you find one false, say at which input.
  Laid BY PROGRAM, IN A SANDBOX (cutbox-rows.mjs): the forced cells as the released guide's own fill.sh prints them over the translation c784179518fcdb11… (all of the seat's roots in one cut). By AI agents, Wed Nov 11 2026. No macro, syntax, notation, axiom, sorry.
-/
import Derived.Test.YtcbdggmojnnbdaaDoorChecked
import GoSem.Claim
import GoSem.ClaimJoined
import GoSem.ClaimMapViews
import Derived.JoinedTies
import Derived.KernelRfl
namespace Go.Proofs.YtcbdggmojnnbdaaDoor
/- THE CELL 'sum', in the pinned program and in every row, IS THE sha256 OF THE DUMP (.gsa) THAT YtcbdggmojnnbdaaDoorProg.lean LOADS. Nothing in Lean hashes anything: it is a label: what it is worth is what the hold of that sum in a sandbox is worth. -/
noncomputable def Tryd.pinned : Pinned := { name := "ytcbdggmojnnbdaadoor", sum := "c784179518fcdb11348968ca75c976a159519178b7c44a0eccab6a0610fbffbe", checked := Tryd.checked }
namespace Rows
def none {H : Type} : Left H := { results := [], args := [] }

/- WHAT THE LISTED PACKAGE-LEVEL VARIABLES READ AS WHEN THE CALL BEGINS. Each datum BY PROGRAM (the guide's laid-datum.mjs) off the statement by which the dump's own 'gosem.cut.vars' lays the variable. In a bare row this is a premise. The card (YtcbdggmojnnbdaaDoorCards.lean) ties it to the program's text. -/
def laid_cottonpad_spray_enough {H : Type} : DataW H := .agg [.lit (.bool false), .lit (.int .i64 0)]

/-- 'cottonpadlaw05.SprayExamples': WHATEVER THE INPUT: true; the input reads as it did. -/
def sprayExamplesSpec : ChangeSpec := { name := "sprayExamples", fn := fun _ => fun
  | [] => { results := [.lit (.bool true)], args := [] }
  | _ => none }
def sprayExamplesRow : OpenClaim := { program := "ytcbdggmojnnbdaadoor", sum := "c784179518fcdb11348968ca75c976a159519178b7c44a0eccab6a0610fbffbe", func := "cottonpad/cottonpadlaw05.SprayExamples", spec := "sprayExamples", unfollowed := true, recurses := true, named := ["cottonpad/spray.enough"], apart := false, laid := [("cottonpad/spray.enough", laid_cottonpad_spray_enough)] }
def SprayExamplesSaid : Prop := sprayExamplesRow.holds Tryd.pinned (OpenSpec.ofChange sprayExamplesSpec)

/-- ITS FALSE NEIGHBOUR: 'it returns false'. Refute it at one input. -/
def sprayExamplesWrong : ChangeSpec := { name := "sprayExamples", fn := fun _ => fun
  | [] => { results := [.lit (.bool false)], args := [] }
  | _ => none }
def SprayExamplesWrongFalsely : Prop := sprayExamplesRow.holds Tryd.pinned (OpenSpec.ofChange sprayExamplesWrong)

/-- 'cottonpadlaw05.SprayGets': WHATEVER THE INPUT: true; the input reads as it did. -/
def sprayGetsSpec : ChangeSpec := { name := "sprayGets", fn := fun _ => fun
  | [d1, d2] => { results := [.lit (.bool true)], args := [d1, d2] }
  | _ => none }
def sprayGetsRow : OpenClaim := { program := "ytcbdggmojnnbdaadoor", sum := "c784179518fcdb11348968ca75c976a159519178b7c44a0eccab6a0610fbffbe", func := "cottonpad/cottonpadlaw05.SprayGets", spec := "sprayGets", unfollowed := true, recurses := true, named := ["cottonpad/spray.enough"], apart := false, laid := [("cottonpad/spray.enough", laid_cottonpad_spray_enough)] }
def SprayGetsSaid : Prop := sprayGetsRow.holds Tryd.pinned (OpenSpec.ofChange sprayGetsSpec)

/-- ITS FALSE NEIGHBOUR: 'it returns false'. Refute it at one input. -/
def sprayGetsWrong : ChangeSpec := { name := "sprayGets", fn := fun _ => fun
  | [d1, d2] => { results := [.lit (.bool false)], args := [d1, d2] }
  | _ => none }
def SprayGetsWrongFalsely : Prop := sprayGetsRow.holds Tryd.pinned (OpenSpec.ofChange sprayGetsWrong)

/-- 'cottonpadlaw05.SprayFires': WHATEVER THE INPUT: true; the input reads as it did. -/
def sprayFiresSpec : ChangeSpec := { name := "sprayFires", fn := fun _ => fun
  | [d1, d2, d3] => { results := [.lit (.bool true)], args := [d1, d2, d3] }
  | _ => none }
def sprayFiresRow : OpenClaim := { program := "ytcbdggmojnnbdaadoor", sum := "c784179518fcdb11348968ca75c976a159519178b7c44a0eccab6a0610fbffbe", func := "cottonpad/cottonpadlaw05.SprayFires", spec := "sprayFires", unfollowed := true, recurses := true, named := ["cottonpad/spray.enough"], apart := false, laid := [("cottonpad/spray.enough", laid_cottonpad_spray_enough)] }
def SprayFiresSaid : Prop := sprayFiresRow.holds Tryd.pinned (OpenSpec.ofChange sprayFiresSpec)

/-- ITS FALSE NEIGHBOUR: 'it returns false'. Refute it at one input. -/
def sprayFiresWrong : ChangeSpec := { name := "sprayFires", fn := fun _ => fun
  | [d1, d2, d3] => { results := [.lit (.bool false)], args := [d1, d2, d3] }
  | _ => none }
def SprayFiresWrongFalsely : Prop := sprayFiresRow.holds Tryd.pinned (OpenSpec.ofChange sprayFiresWrong)

/-- 'cottonpadlaw05.SprayFewer': WHATEVER THE INPUT: true; the input reads as it did. -/
def sprayFewerSpec : ChangeSpec := { name := "sprayFewer", fn := fun _ => fun
  | [d1, d2, d3, d4] => { results := [.lit (.bool true)], args := [d1, d2, d3, d4] }
  | _ => none }
def sprayFewerRow : OpenClaim := { program := "ytcbdggmojnnbdaadoor", sum := "c784179518fcdb11348968ca75c976a159519178b7c44a0eccab6a0610fbffbe", func := "cottonpad/cottonpadlaw05.SprayFewer", spec := "sprayFewer", unfollowed := true, recurses := true, named := ["cottonpad/spray.enough"], apart := false, laid := [("cottonpad/spray.enough", laid_cottonpad_spray_enough)] }
def SprayFewerSaid : Prop := sprayFewerRow.holds Tryd.pinned (OpenSpec.ofChange sprayFewerSpec)

/-- ITS FALSE NEIGHBOUR: 'it returns false'. Refute it at one input. -/
def sprayFewerWrong : ChangeSpec := { name := "sprayFewer", fn := fun _ => fun
  | [d1, d2, d3, d4] => { results := [.lit (.bool false)], args := [d1, d2, d3, d4] }
  | _ => none }
def SprayFewerWrongFalsely : Prop := sprayFewerRow.holds Tryd.pinned (OpenSpec.ofChange sprayFewerWrong)

/-- 'cottonpadlaw05.SpraySurer': WHATEVER THE INPUT: true; the input reads as it did. -/
def spraySurerSpec : ChangeSpec := { name := "spraySurer", fn := fun _ => fun
  | [d1, d2, d3] => { results := [.lit (.bool true)], args := [d1, d2, d3] }
  | _ => none }
def spraySurerRow : OpenClaim := { program := "ytcbdggmojnnbdaadoor", sum := "c784179518fcdb11348968ca75c976a159519178b7c44a0eccab6a0610fbffbe", func := "cottonpad/cottonpadlaw05.SpraySurer", spec := "spraySurer", unfollowed := true, recurses := true, named := ["cottonpad/spray.enough"], apart := false, laid := [("cottonpad/spray.enough", laid_cottonpad_spray_enough)] }
def SpraySurerSaid : Prop := spraySurerRow.holds Tryd.pinned (OpenSpec.ofChange spraySurerSpec)

/-- ITS FALSE NEIGHBOUR: 'it returns false'. Refute it at one input. -/
def spraySurerWrong : ChangeSpec := { name := "spraySurer", fn := fun _ => fun
  | [d1, d2, d3] => { results := [.lit (.bool false)], args := [d1, d2, d3] }
  | _ => none }
def SpraySurerWrongFalsely : Prop := spraySurerRow.holds Tryd.pinned (OpenSpec.ofChange spraySurerWrong)

/-- 'cottonpadlaw05.SprayWater': WHATEVER THE INPUT: true; the input reads as it did. -/
def sprayWaterSpec : ChangeSpec := { name := "sprayWater", fn := fun _ => fun
  | [d1, d2] => { results := [.lit (.bool true)], args := [d1, d2] }
  | _ => none }
def sprayWaterRow : OpenClaim := { program := "ytcbdggmojnnbdaadoor", sum := "c784179518fcdb11348968ca75c976a159519178b7c44a0eccab6a0610fbffbe", func := "cottonpad/cottonpadlaw05.SprayWater", spec := "sprayWater", unfollowed := true, recurses := true, named := ["cottonpad/spray.enough"], apart := false, laid := [("cottonpad/spray.enough", laid_cottonpad_spray_enough)] }
def SprayWaterSaid : Prop := sprayWaterRow.holds Tryd.pinned (OpenSpec.ofChange sprayWaterSpec)

/-- ITS FALSE NEIGHBOUR: 'it returns false'. Refute it at one input. -/
def sprayWaterWrong : ChangeSpec := { name := "sprayWater", fn := fun _ => fun
  | [d1, d2] => { results := [.lit (.bool false)], args := [d1, d2] }
  | _ => none }
def SprayWaterWrongFalsely : Prop := sprayWaterRow.holds Tryd.pinned (OpenSpec.ofChange sprayWaterWrong)

/-- 'cottonpadlaw05.SprayBulb': WHATEVER THE INPUT: true; the input reads as it did. -/
def sprayBulbSpec : ChangeSpec := { name := "sprayBulb", fn := fun _ => fun
  | [d1, d2, d3, d4, d5] => { results := [.lit (.bool true)], args := [d1, d2, d3, d4, d5] }
  | _ => none }
def sprayBulbRow : OpenClaim := { program := "ytcbdggmojnnbdaadoor", sum := "c784179518fcdb11348968ca75c976a159519178b7c44a0eccab6a0610fbffbe", func := "cottonpad/cottonpadlaw05.SprayBulb", spec := "sprayBulb", unfollowed := true, recurses := true, named := ["cottonpad/spray.enough"], apart := false, laid := [("cottonpad/spray.enough", laid_cottonpad_spray_enough)] }
def SprayBulbSaid : Prop := sprayBulbRow.holds Tryd.pinned (OpenSpec.ofChange sprayBulbSpec)

/-- ITS FALSE NEIGHBOUR: 'it returns false'. Refute it at one input. -/
def sprayBulbWrong : ChangeSpec := { name := "sprayBulb", fn := fun _ => fun
  | [d1, d2, d3, d4, d5] => { results := [.lit (.bool false)], args := [d1, d2, d3, d4, d5] }
  | _ => none }
def SprayBulbWrongFalsely : Prop := sprayBulbRow.holds Tryd.pinned (OpenSpec.ofChange sprayBulbWrong)

/-- 'cottonpadlaw05.SprayFire': WHATEVER THE INPUT: true; the input reads as it did. -/
def sprayFireSpec : ChangeSpec := { name := "sprayFire", fn := fun _ => fun
  | [d1, d2, d3] => { results := [.lit (.bool true)], args := [d1, d2, d3] }
  | _ => none }
def sprayFireRow : OpenClaim := { program := "ytcbdggmojnnbdaadoor", sum := "c784179518fcdb11348968ca75c976a159519178b7c44a0eccab6a0610fbffbe", func := "cottonpad/cottonpadlaw05.SprayFire", spec := "sprayFire", unfollowed := true, recurses := true, named := ["cottonpad/spray.enough"], apart := false, laid := [("cottonpad/spray.enough", laid_cottonpad_spray_enough)] }
def SprayFireSaid : Prop := sprayFireRow.holds Tryd.pinned (OpenSpec.ofChange sprayFireSpec)

/-- ITS FALSE NEIGHBOUR: 'it returns false'. Refute it at one input. -/
def sprayFireWrong : ChangeSpec := { name := "sprayFire", fn := fun _ => fun
  | [d1, d2, d3] => { results := [.lit (.bool false)], args := [d1, d2, d3] }
  | _ => none }
def SprayFireWrongFalsely : Prop := sprayFireRow.holds Tryd.pinned (OpenSpec.ofChange sprayFireWrong)

/-- 'cottonpadlaw05.SprayMost': WHATEVER THE INPUT: true; the input reads as it did. -/
def sprayMostSpec : ChangeSpec := { name := "sprayMost", fn := fun _ => fun
  | [d1, d2] => { results := [.lit (.bool true)], args := [d1, d2] }
  | _ => none }
def sprayMostRow : OpenClaim := { program := "ytcbdggmojnnbdaadoor", sum := "c784179518fcdb11348968ca75c976a159519178b7c44a0eccab6a0610fbffbe", func := "cottonpad/cottonpadlaw05.SprayMost", spec := "sprayMost", unfollowed := true, recurses := true, named := ["cottonpad/spray.enough"], apart := false, laid := [("cottonpad/spray.enough", laid_cottonpad_spray_enough)] }
def SprayMostSaid : Prop := sprayMostRow.holds Tryd.pinned (OpenSpec.ofChange sprayMostSpec)

/-- ITS FALSE NEIGHBOUR: 'it returns false'. Refute it at one input. -/
def sprayMostWrong : ChangeSpec := { name := "sprayMost", fn := fun _ => fun
  | [d1, d2] => { results := [.lit (.bool false)], args := [d1, d2] }
  | _ => none }
def SprayMostWrongFalsely : Prop := sprayMostRow.holds Tryd.pinned (OpenSpec.ofChange sprayMostWrong)

/- THE SECOND FORM. 'bulk': how many values and letters a reading holds, each counted each time it is reached (what is shared counts as often as it is met; a slice's spare places count too). A statement '..UptoSaid' is the law's where the arguments, and the package variables that the reading takes, are together of bulk at most 1048576: NARROWER than '..Said'. Prove '..Said' where nothing that the law and all that it calls make is longer than what came in: it says more and counts as full. Else prove '..UptoSaid'. A law counts once. -/
mutual
def uptoBulk {H : Type} : DataW H → Nat
  | .lit (.string bytes) => bytes.length + 1
  | .lit _ => 1
  | .nil => 1
  | .ptr d => uptoBulk d + 1
  | .slice elems spare => uptoBulkAll elems + uptoBulkAll spare + 1
  | .agg parts => uptoBulkAll parts + 1
  | .iface _ d => uptoBulk d + 1
  | .map entries => uptoBulkEntries entries + 1
  | .held _ => 1
def uptoBulkAll {H : Type} : List (DataW H) → Nat
  | [] => 0
  | d :: r => uptoBulk d + uptoBulkAll r
def uptoBulkEntries {H : Type} : List (Lit × DataW H) → Nat
  | [] => 0
  | x :: r => uptoBulkEntry x + uptoBulkEntries r
def uptoBulkEntry {H : Type} : Lit × DataW H → Nat
  | (.string bytes, d) => bytes.length + uptoBulk d + 1
  | (_, d) => uptoBulk d + 1
 end
def uptoSmall : (H : Type) → List (DataW H) → Bool := fun _ ds => decide (uptoBulkAll ds ≤ 1048576)
def OpenSpec.upto (s : _root_.Go.ChangeSpec) : _root_.Go.OpenSpec := { _root_.Go.OpenSpec.ofChange s with cond := some uptoSmall }

/-- 'cottonpadlaw05.SprayExamples', WHERE WHAT IT READS IS OF BULK AT MOST 1048576: true; the input reads as it did. -/
def sprayExamplesUptoRow : OpenClaim := { program := "ytcbdggmojnnbdaadoor", sum := "c784179518fcdb11348968ca75c976a159519178b7c44a0eccab6a0610fbffbe", func := "cottonpad/cottonpadlaw05.SprayExamples", spec := "sprayExamples", unfollowed := true, recurses := true, named := ["cottonpad/spray.enough"], apart := false, laid := [("cottonpad/spray.enough", laid_cottonpad_spray_enough)], narrowed := true }
def SprayExamplesUptoSaid : Prop := sprayExamplesUptoRow.holds Tryd.pinned (OpenSpec.upto sprayExamplesSpec)

/-- 'cottonpadlaw05.SprayGets', WHERE WHAT IT READS IS OF BULK AT MOST 1048576: true; the input reads as it did. -/
def sprayGetsUptoRow : OpenClaim := { program := "ytcbdggmojnnbdaadoor", sum := "c784179518fcdb11348968ca75c976a159519178b7c44a0eccab6a0610fbffbe", func := "cottonpad/cottonpadlaw05.SprayGets", spec := "sprayGets", unfollowed := true, recurses := true, named := ["cottonpad/spray.enough"], apart := false, laid := [("cottonpad/spray.enough", laid_cottonpad_spray_enough)], narrowed := true }
def SprayGetsUptoSaid : Prop := sprayGetsUptoRow.holds Tryd.pinned (OpenSpec.upto sprayGetsSpec)

/-- 'cottonpadlaw05.SprayFires', WHERE WHAT IT READS IS OF BULK AT MOST 1048576: true; the input reads as it did. -/
def sprayFiresUptoRow : OpenClaim := { program := "ytcbdggmojnnbdaadoor", sum := "c784179518fcdb11348968ca75c976a159519178b7c44a0eccab6a0610fbffbe", func := "cottonpad/cottonpadlaw05.SprayFires", spec := "sprayFires", unfollowed := true, recurses := true, named := ["cottonpad/spray.enough"], apart := false, laid := [("cottonpad/spray.enough", laid_cottonpad_spray_enough)], narrowed := true }
def SprayFiresUptoSaid : Prop := sprayFiresUptoRow.holds Tryd.pinned (OpenSpec.upto sprayFiresSpec)

/-- 'cottonpadlaw05.SprayFewer', WHERE WHAT IT READS IS OF BULK AT MOST 1048576: true; the input reads as it did. -/
def sprayFewerUptoRow : OpenClaim := { program := "ytcbdggmojnnbdaadoor", sum := "c784179518fcdb11348968ca75c976a159519178b7c44a0eccab6a0610fbffbe", func := "cottonpad/cottonpadlaw05.SprayFewer", spec := "sprayFewer", unfollowed := true, recurses := true, named := ["cottonpad/spray.enough"], apart := false, laid := [("cottonpad/spray.enough", laid_cottonpad_spray_enough)], narrowed := true }
def SprayFewerUptoSaid : Prop := sprayFewerUptoRow.holds Tryd.pinned (OpenSpec.upto sprayFewerSpec)

/-- 'cottonpadlaw05.SpraySurer', WHERE WHAT IT READS IS OF BULK AT MOST 1048576: true; the input reads as it did. -/
def spraySurerUptoRow : OpenClaim := { program := "ytcbdggmojnnbdaadoor", sum := "c784179518fcdb11348968ca75c976a159519178b7c44a0eccab6a0610fbffbe", func := "cottonpad/cottonpadlaw05.SpraySurer", spec := "spraySurer", unfollowed := true, recurses := true, named := ["cottonpad/spray.enough"], apart := false, laid := [("cottonpad/spray.enough", laid_cottonpad_spray_enough)], narrowed := true }
def SpraySurerUptoSaid : Prop := spraySurerUptoRow.holds Tryd.pinned (OpenSpec.upto spraySurerSpec)

/-- 'cottonpadlaw05.SprayWater', WHERE WHAT IT READS IS OF BULK AT MOST 1048576: true; the input reads as it did. -/
def sprayWaterUptoRow : OpenClaim := { program := "ytcbdggmojnnbdaadoor", sum := "c784179518fcdb11348968ca75c976a159519178b7c44a0eccab6a0610fbffbe", func := "cottonpad/cottonpadlaw05.SprayWater", spec := "sprayWater", unfollowed := true, recurses := true, named := ["cottonpad/spray.enough"], apart := false, laid := [("cottonpad/spray.enough", laid_cottonpad_spray_enough)], narrowed := true }
def SprayWaterUptoSaid : Prop := sprayWaterUptoRow.holds Tryd.pinned (OpenSpec.upto sprayWaterSpec)

/-- 'cottonpadlaw05.SprayBulb', WHERE WHAT IT READS IS OF BULK AT MOST 1048576: true; the input reads as it did. -/
def sprayBulbUptoRow : OpenClaim := { program := "ytcbdggmojnnbdaadoor", sum := "c784179518fcdb11348968ca75c976a159519178b7c44a0eccab6a0610fbffbe", func := "cottonpad/cottonpadlaw05.SprayBulb", spec := "sprayBulb", unfollowed := true, recurses := true, named := ["cottonpad/spray.enough"], apart := false, laid := [("cottonpad/spray.enough", laid_cottonpad_spray_enough)], narrowed := true }
def SprayBulbUptoSaid : Prop := sprayBulbUptoRow.holds Tryd.pinned (OpenSpec.upto sprayBulbSpec)

/-- 'cottonpadlaw05.SprayFire', WHERE WHAT IT READS IS OF BULK AT MOST 1048576: true; the input reads as it did. -/
def sprayFireUptoRow : OpenClaim := { program := "ytcbdggmojnnbdaadoor", sum := "c784179518fcdb11348968ca75c976a159519178b7c44a0eccab6a0610fbffbe", func := "cottonpad/cottonpadlaw05.SprayFire", spec := "sprayFire", unfollowed := true, recurses := true, named := ["cottonpad/spray.enough"], apart := false, laid := [("cottonpad/spray.enough", laid_cottonpad_spray_enough)], narrowed := true }
def SprayFireUptoSaid : Prop := sprayFireUptoRow.holds Tryd.pinned (OpenSpec.upto sprayFireSpec)

/-- 'cottonpadlaw05.SprayMost', WHERE WHAT IT READS IS OF BULK AT MOST 1048576: true; the input reads as it did. -/
def sprayMostUptoRow : OpenClaim := { program := "ytcbdggmojnnbdaadoor", sum := "c784179518fcdb11348968ca75c976a159519178b7c44a0eccab6a0610fbffbe", func := "cottonpad/cottonpadlaw05.SprayMost", spec := "sprayMost", unfollowed := true, recurses := true, named := ["cottonpad/spray.enough"], apart := false, laid := [("cottonpad/spray.enough", laid_cottonpad_spray_enough)], narrowed := true }
def SprayMostUptoSaid : Prop := sprayMostUptoRow.holds Tryd.pinned (OpenSpec.upto sprayMostSpec)

end Rows
end Go.Proofs.YtcbdggmojnnbdaaDoor
