/-
  No cell of these rows narrows 'for every input' (looked for: loops, veiled, ifaces, maps, wideKeys, modest, calm, conditions, laid).
  DERIVED. THE GIVEN ROWS OF THIS SEAT. 5 by the template 'for every input the law returns true; each argument reads behind the call as it read before'; 0 by the template 'total and deterministic' (their statements: YtmdhgkfjlphliaaTotals.lean).
  GIVEN WITH THE SEED: the statements are not yours to turn. If you find one false, say at which input.
  Laid BY PROGRAM, IN A SANDBOX (cutbox-rows.mjs): the forced cells as the released guide's own fill.sh prints them over the translation ab7a7d9d38f163a1… (all of the seat's roots in one cut). By AI agents, Wed Nov 11 2026. No macro, syntax, notation, axiom, sorry.
-/
import Derived.Test.YtmdhgkfjlphliaaChecked
import GoSem.Claim
import GoSem.ClaimJoined
import GoSem.ClaimMapViews
import Derived.JoinedTies
import Derived.KernelRfl
namespace Go.Proofs.Ytmdhgkfjlphliaa
/- THE CELL 'sum', in the pinned program and in every row, IS THE sha256 OF THE DUMP (.gsa) THAT YtmdhgkfjlphliaaProg.lean LOADS. Nothing in Lean hashes anything: it is a label: what it is worth is what the hold of that sum in a sandbox is worth. -/
noncomputable def Try.pinned : Pinned := { name := "ytmdhgkfjlphliaa", sum := "ab7a7d9d38f163a1e7b8b23810acb9d9eb2d36b9a68809665ac6b773faf3e965", checked := Try.checked }
namespace Rows
def none {H : Type} : Left H := { results := [], args := [] }

/-- 'cottonpadlaw08.TrustHolds': WHATEVER THE INPUT: true; the input reads as it did. -/
def trustHoldsSpec : ChangeSpec := { name := "trustHolds", fn := fun _ => fun
  | [d1, d2, d3, d4] => { results := [.lit (.bool true)], args := [d1, d2, d3, d4] }
  | _ => none }
def trustHoldsRow : OpenClaim := { program := "ytmdhgkfjlphliaa", sum := "ab7a7d9d38f163a1e7b8b23810acb9d9eb2d36b9a68809665ac6b773faf3e965", func := "cottonpad/cottonpadlaw08.TrustHolds", spec := "trustHolds", inPlace := ["maps.clone"], unfollowed := true, recurses := true, apart := false }
def TrustHoldsSaid : Prop := trustHoldsRow.holds Try.pinned (OpenSpec.ofChange trustHoldsSpec)

/-- ITS FALSE NEIGHBOUR: 'it returns false'. Refute it at one input. -/
def trustHoldsWrong : ChangeSpec := { name := "trustHolds", fn := fun _ => fun
  | [d1, d2, d3, d4] => { results := [.lit (.bool false)], args := [d1, d2, d3, d4] }
  | _ => none }
def TrustHoldsWrongFalsely : Prop := trustHoldsRow.holds Try.pinned (OpenSpec.ofChange trustHoldsWrong)

/-- 'cottonpadlaw08.TrustRests': WHATEVER THE INPUT: true; the input reads as it did. -/
def trustRestsSpec : ChangeSpec := { name := "trustRests", fn := fun _ => fun
  | [d1, d2, d3, d4] => { results := [.lit (.bool true)], args := [d1, d2, d3, d4] }
  | _ => none }
def trustRestsRow : OpenClaim := { program := "ytmdhgkfjlphliaa", sum := "ab7a7d9d38f163a1e7b8b23810acb9d9eb2d36b9a68809665ac6b773faf3e965", func := "cottonpad/cottonpadlaw08.TrustRests", spec := "trustRests", inPlace := ["maps.clone"], unfollowed := true, recurses := true, apart := false }
def TrustRestsSaid : Prop := trustRestsRow.holds Try.pinned (OpenSpec.ofChange trustRestsSpec)

/-- ITS FALSE NEIGHBOUR: 'it returns false'. Refute it at one input. -/
def trustRestsWrong : ChangeSpec := { name := "trustRests", fn := fun _ => fun
  | [d1, d2, d3, d4] => { results := [.lit (.bool false)], args := [d1, d2, d3, d4] }
  | _ => none }
def TrustRestsWrongFalsely : Prop := trustRestsRow.holds Try.pinned (OpenSpec.ofChange trustRestsWrong)

/-- 'cottonpadlaw08.TrustPieces': WHATEVER THE INPUT: true; the input reads as it did. -/
def trustPiecesSpec : ChangeSpec := { name := "trustPieces", fn := fun _ => fun
  | [d1, d2, d3, d4, d5] => { results := [.lit (.bool true)], args := [d1, d2, d3, d4, d5] }
  | _ => none }
def trustPiecesRow : OpenClaim := { program := "ytmdhgkfjlphliaa", sum := "ab7a7d9d38f163a1e7b8b23810acb9d9eb2d36b9a68809665ac6b773faf3e965", func := "cottonpad/cottonpadlaw08.TrustPieces", spec := "trustPieces", unfollowed := true, recurses := true, apart := false }
def TrustPiecesSaid : Prop := trustPiecesRow.holds Try.pinned (OpenSpec.ofChange trustPiecesSpec)

/-- ITS FALSE NEIGHBOUR: 'it returns false'. Refute it at one input. -/
def trustPiecesWrong : ChangeSpec := { name := "trustPieces", fn := fun _ => fun
  | [d1, d2, d3, d4, d5] => { results := [.lit (.bool false)], args := [d1, d2, d3, d4, d5] }
  | _ => none }
def TrustPiecesWrongFalsely : Prop := trustPiecesRow.holds Try.pinned (OpenSpec.ofChange trustPiecesWrong)

/-- 'cottonpadlaw08.TrustExamples': WHATEVER THE INPUT: true; the input reads as it did. -/
def trustExamplesSpec : ChangeSpec := { name := "trustExamples", fn := fun _ => fun
  | [] => { results := [.lit (.bool true)], args := [] }
  | _ => none }
def trustExamplesRow : OpenClaim := { program := "ytmdhgkfjlphliaa", sum := "ab7a7d9d38f163a1e7b8b23810acb9d9eb2d36b9a68809665ac6b773faf3e965", func := "cottonpad/cottonpadlaw08.TrustExamples", spec := "trustExamples", inPlace := ["maps.clone"], unfollowed := true, recurses := true, apart := false }
def TrustExamplesSaid : Prop := trustExamplesRow.holds Try.pinned (OpenSpec.ofChange trustExamplesSpec)

/-- ITS FALSE NEIGHBOUR: 'it returns false'. Refute it at one input. -/
def trustExamplesWrong : ChangeSpec := { name := "trustExamples", fn := fun _ => fun
  | [] => { results := [.lit (.bool false)], args := [] }
  | _ => none }
def TrustExamplesWrongFalsely : Prop := trustExamplesRow.holds Try.pinned (OpenSpec.ofChange trustExamplesWrong)

/-- 'cottonpadlaw08.TrustOrder': WHATEVER THE INPUT: true; the input reads as it did. -/
def trustOrderSpec : ChangeSpec := { name := "trustOrder", fn := fun _ => fun
  | [d1, d2, d3, d4, d5] => { results := [.lit (.bool true)], args := [d1, d2, d3, d4, d5] }
  | _ => none }
def trustOrderRow : OpenClaim := { program := "ytmdhgkfjlphliaa", sum := "ab7a7d9d38f163a1e7b8b23810acb9d9eb2d36b9a68809665ac6b773faf3e965", func := "cottonpad/cottonpadlaw08.TrustOrder", spec := "trustOrder", inPlace := ["maps.clone"], unfollowed := true, recurses := true, apart := false }
def TrustOrderSaid : Prop := trustOrderRow.holds Try.pinned (OpenSpec.ofChange trustOrderSpec)

/-- ITS FALSE NEIGHBOUR: 'it returns false'. Refute it at one input. -/
def trustOrderWrong : ChangeSpec := { name := "trustOrder", fn := fun _ => fun
  | [d1, d2, d3, d4, d5] => { results := [.lit (.bool false)], args := [d1, d2, d3, d4, d5] }
  | _ => none }
def TrustOrderWrongFalsely : Prop := trustOrderRow.holds Try.pinned (OpenSpec.ofChange trustOrderWrong)

/- THE SECOND FORM. 'bulk': how many values and letters a reading holds, each counted each time it is reached (what is shared counts as often as it is met; a slice's spare places count too). A statement '..UptoSaid' is the law's where the arguments, and the package variables that the reading takes, are together of bulk at most 1048576: NARROWER than '..Said'. Prove '..Said' where nothing that the law and all that it calls make is longer than what came in: it says more and counts as full. Else prove '..UptoSaid'. A law counts once. -/
mutual
def uptoBulk {H : Type} : DataW H → Nat
  | .lit (.string bytes) => bytes.length + 1
  | .lit _ => 1
  | .nil => 1
  | .ptr d => uptoBulk d + 1
  | .slice elems spare => uptoBulkAll elems + uptoBulkAll spare + 1
  | .agg parts => uptoBulkAll parts + 1
  | .iface _ d => uptoBulk d + 1
  | .map entries => uptoBulkEntries entries + 1
  | .held _ => 1
def uptoBulkAll {H : Type} : List (DataW H) → Nat
  | [] => 0
  | d :: r => uptoBulk d + uptoBulkAll r
def uptoBulkEntries {H : Type} : List (Lit × DataW H) → Nat
  | [] => 0
  | x :: r => uptoBulkEntry x + uptoBulkEntries r
def uptoBulkEntry {H : Type} : Lit × DataW H → Nat
  | (.string bytes, d) => bytes.length + uptoBulk d + 1
  | (_, d) => uptoBulk d + 1
 end
def uptoSmall : (H : Type) → List (DataW H) → Bool := fun _ ds => decide (uptoBulkAll ds ≤ 1048576)
def OpenSpec.upto (s : _root_.Go.ChangeSpec) : _root_.Go.OpenSpec := { _root_.Go.OpenSpec.ofChange s with cond := some uptoSmall }

/-- 'cottonpadlaw08.TrustHolds', WHERE WHAT IT READS IS OF BULK AT MOST 1048576: true; the input reads as it did. -/
def trustHoldsUptoRow : OpenClaim := { program := "ytmdhgkfjlphliaa", sum := "ab7a7d9d38f163a1e7b8b23810acb9d9eb2d36b9a68809665ac6b773faf3e965", func := "cottonpad/cottonpadlaw08.TrustHolds", spec := "trustHolds", inPlace := ["maps.clone"], unfollowed := true, recurses := true, apart := false, narrowed := true }
def TrustHoldsUptoSaid : Prop := trustHoldsUptoRow.holds Try.pinned (OpenSpec.upto trustHoldsSpec)

/-- 'cottonpadlaw08.TrustRests', WHERE WHAT IT READS IS OF BULK AT MOST 1048576: true; the input reads as it did. -/
def trustRestsUptoRow : OpenClaim := { program := "ytmdhgkfjlphliaa", sum := "ab7a7d9d38f163a1e7b8b23810acb9d9eb2d36b9a68809665ac6b773faf3e965", func := "cottonpad/cottonpadlaw08.TrustRests", spec := "trustRests", inPlace := ["maps.clone"], unfollowed := true, recurses := true, apart := false, narrowed := true }
def TrustRestsUptoSaid : Prop := trustRestsUptoRow.holds Try.pinned (OpenSpec.upto trustRestsSpec)

/-- 'cottonpadlaw08.TrustPieces', WHERE WHAT IT READS IS OF BULK AT MOST 1048576: true; the input reads as it did. -/
def trustPiecesUptoRow : OpenClaim := { program := "ytmdhgkfjlphliaa", sum := "ab7a7d9d38f163a1e7b8b23810acb9d9eb2d36b9a68809665ac6b773faf3e965", func := "cottonpad/cottonpadlaw08.TrustPieces", spec := "trustPieces", unfollowed := true, recurses := true, apart := false, narrowed := true }
def TrustPiecesUptoSaid : Prop := trustPiecesUptoRow.holds Try.pinned (OpenSpec.upto trustPiecesSpec)

/-- 'cottonpadlaw08.TrustExamples', WHERE WHAT IT READS IS OF BULK AT MOST 1048576: true; the input reads as it did. -/
def trustExamplesUptoRow : OpenClaim := { program := "ytmdhgkfjlphliaa", sum := "ab7a7d9d38f163a1e7b8b23810acb9d9eb2d36b9a68809665ac6b773faf3e965", func := "cottonpad/cottonpadlaw08.TrustExamples", spec := "trustExamples", inPlace := ["maps.clone"], unfollowed := true, recurses := true, apart := false, narrowed := true }
def TrustExamplesUptoSaid : Prop := trustExamplesUptoRow.holds Try.pinned (OpenSpec.upto trustExamplesSpec)

/-- 'cottonpadlaw08.TrustOrder', WHERE WHAT IT READS IS OF BULK AT MOST 1048576: true; the input reads as it did. -/
def trustOrderUptoRow : OpenClaim := { program := "ytmdhgkfjlphliaa", sum := "ab7a7d9d38f163a1e7b8b23810acb9d9eb2d36b9a68809665ac6b773faf3e965", func := "cottonpad/cottonpadlaw08.TrustOrder", spec := "trustOrder", inPlace := ["maps.clone"], unfollowed := true, recurses := true, apart := false, narrowed := true }
def TrustOrderUptoSaid : Prop := trustOrderUptoRow.holds Try.pinned (OpenSpec.upto trustOrderSpec)

end Rows
end Go.Proofs.Ytmdhgkfjlphliaa
