/-
  No cell of these rows narrows 'for every input' (looked for: loops, veiled, ifaces, maps, wideKeys, modest, calm, conditions, laid).
  DERIVED. THE GIVEN ROWS OF THIS SEAT. 6 by the template 'for every input the law returns true; each argument reads behind the call as it read before'; 0 by the template 'total and deterministic' (their statements: YtmdhgkfjlphliaaGreatTotals.lean).
  GIVEN WITH THE SEED: the statements are not yours to turn. If you find one false, say at which input.
  Laid BY PROGRAM, IN A SANDBOX (cutbox-rows.mjs): the forced cells as the released guide's own fill.sh prints them over the translation 19d2032806e96589… (all of the seat's roots in one cut). By AI agents, Wed Nov 11 2026. No macro, syntax, notation, axiom, sorry.
-/
import Derived.Test.YtmdhgkfjlphliaaGreatChecked
import GoSem.Claim
import GoSem.ClaimJoined
import GoSem.ClaimMapViews
import Derived.JoinedTies
import Derived.KernelRfl
namespace Go.Proofs.YtmdhgkfjlphliaaGreat
/- THE CELL 'sum', in the pinned program and in every row, IS THE sha256 OF THE DUMP (.gsa) THAT YtmdhgkfjlphliaaGreatProg.lean LOADS. Nothing in Lean hashes anything: it is a label: what it is worth is what the hold of that sum in a sandbox is worth. -/
noncomputable def Tryz.pinned : Pinned := { name := "ytmdhgkfjlphliaagreat", sum := "19d2032806e965894f8561148aba17d531979b030f691aa894a55cac14b54df5", checked := Tryz.checked }
namespace Rows
def none {H : Type} : Left H := { results := [], args := [] }

/-- 'cottonpadlaw08.TrustTakes': WHATEVER THE INPUT: true; the input reads as it did. -/
def trustTakesSpec : ChangeSpec := { name := "trustTakes", fn := fun _ => fun
  | [d1, d2, d3, d4] => { results := [.lit (.bool true)], args := [d1, d2, d3, d4] }
  | _ => none }
def trustTakesRow : OpenClaim := { program := "ytmdhgkfjlphliaagreat", sum := "19d2032806e965894f8561148aba17d531979b030f691aa894a55cac14b54df5", func := "cottonpad/cottonpadlaw08.TrustTakes", spec := "trustTakes", inPlace := ["maps.clone"], unfollowed := true, recurses := true, apart := false }
def TrustTakesSaid : Prop := trustTakesRow.holds Tryz.pinned (OpenSpec.ofChange trustTakesSpec)

/-- ITS FALSE NEIGHBOUR: 'it returns false'. Refute it at one input. -/
def trustTakesWrong : ChangeSpec := { name := "trustTakes", fn := fun _ => fun
  | [d1, d2, d3, d4] => { results := [.lit (.bool false)], args := [d1, d2, d3, d4] }
  | _ => none }
def TrustTakesWrongFalsely : Prop := trustTakesRow.holds Tryz.pinned (OpenSpec.ofChange trustTakesWrong)

/-- 'cottonpadlaw08.TrustMore': WHATEVER THE INPUT: true; the input reads as it did. -/
def trustMoreSpec : ChangeSpec := { name := "trustMore", fn := fun _ => fun
  | [d1, d2, d3, d4] => { results := [.lit (.bool true)], args := [d1, d2, d3, d4] }
  | _ => none }
def trustMoreRow : OpenClaim := { program := "ytmdhgkfjlphliaagreat", sum := "19d2032806e965894f8561148aba17d531979b030f691aa894a55cac14b54df5", func := "cottonpad/cottonpadlaw08.TrustMore", spec := "trustMore", inPlace := ["maps.clone"], unfollowed := true, recurses := true, apart := false }
def TrustMoreSaid : Prop := trustMoreRow.holds Tryz.pinned (OpenSpec.ofChange trustMoreSpec)

/-- ITS FALSE NEIGHBOUR: 'it returns false'. Refute it at one input. -/
def trustMoreWrong : ChangeSpec := { name := "trustMore", fn := fun _ => fun
  | [d1, d2, d3, d4] => { results := [.lit (.bool false)], args := [d1, d2, d3, d4] }
  | _ => none }
def TrustMoreWrongFalsely : Prop := trustMoreRow.holds Tryz.pinned (OpenSpec.ofChange trustMoreWrong)

/-- 'cottonpadlaw08.TrustEnough': WHATEVER THE INPUT: true; the input reads as it did. -/
def trustEnoughSpec : ChangeSpec := { name := "trustEnough", fn := fun _ => fun
  | [d1, d2, d3, d4, d5] => { results := [.lit (.bool true)], args := [d1, d2, d3, d4, d5] }
  | _ => none }
def trustEnoughRow : OpenClaim := { program := "ytmdhgkfjlphliaagreat", sum := "19d2032806e965894f8561148aba17d531979b030f691aa894a55cac14b54df5", func := "cottonpad/cottonpadlaw08.TrustEnough", spec := "trustEnough", inPlace := ["maps.clone"], unfollowed := true, recurses := true, apart := false }
def TrustEnoughSaid : Prop := trustEnoughRow.holds Tryz.pinned (OpenSpec.ofChange trustEnoughSpec)

/-- ITS FALSE NEIGHBOUR: 'it returns false'. Refute it at one input. -/
def trustEnoughWrong : ChangeSpec := { name := "trustEnough", fn := fun _ => fun
  | [d1, d2, d3, d4, d5] => { results := [.lit (.bool false)], args := [d1, d2, d3, d4, d5] }
  | _ => none }
def TrustEnoughWrongFalsely : Prop := trustEnoughRow.holds Tryz.pinned (OpenSpec.ofChange trustEnoughWrong)

/-- 'cottonpadlaw08.TrustCauses': WHATEVER THE INPUT: true; the input reads as it did. -/
def trustCausesSpec : ChangeSpec := { name := "trustCauses", fn := fun _ => fun
  | [d1, d2, d3, d4, d5] => { results := [.lit (.bool true)], args := [d1, d2, d3, d4, d5] }
  | _ => none }
def trustCausesRow : OpenClaim := { program := "ytmdhgkfjlphliaagreat", sum := "19d2032806e965894f8561148aba17d531979b030f691aa894a55cac14b54df5", func := "cottonpad/cottonpadlaw08.TrustCauses", spec := "trustCauses", inPlace := ["maps.clone"], unfollowed := true, recurses := true, apart := false }
def TrustCausesSaid : Prop := trustCausesRow.holds Tryz.pinned (OpenSpec.ofChange trustCausesSpec)

/-- ITS FALSE NEIGHBOUR: 'it returns false'. Refute it at one input. -/
def trustCausesWrong : ChangeSpec := { name := "trustCauses", fn := fun _ => fun
  | [d1, d2, d3, d4, d5] => { results := [.lit (.bool false)], args := [d1, d2, d3, d4, d5] }
  | _ => none }
def TrustCausesWrongFalsely : Prop := trustCausesRow.holds Tryz.pinned (OpenSpec.ofChange trustCausesWrong)

/-- 'cottonpadlaw08.TrustBalance': WHATEVER THE INPUT: true; the input reads as it did. -/
def trustBalanceSpec : ChangeSpec := { name := "trustBalance", fn := fun _ => fun
  | [d1, d2, d3] => { results := [.lit (.bool true)], args := [d1, d2, d3] }
  | _ => none }
def trustBalanceRow : OpenClaim := { program := "ytmdhgkfjlphliaagreat", sum := "19d2032806e965894f8561148aba17d531979b030f691aa894a55cac14b54df5", func := "cottonpad/cottonpadlaw08.TrustBalance", spec := "trustBalance", inPlace := ["maps.clone"], unfollowed := true, recurses := true, apart := false }
def TrustBalanceSaid : Prop := trustBalanceRow.holds Tryz.pinned (OpenSpec.ofChange trustBalanceSpec)

/-- ITS FALSE NEIGHBOUR: 'it returns false'. Refute it at one input. -/
def trustBalanceWrong : ChangeSpec := { name := "trustBalance", fn := fun _ => fun
  | [d1, d2, d3] => { results := [.lit (.bool false)], args := [d1, d2, d3] }
  | _ => none }
def TrustBalanceWrongFalsely : Prop := trustBalanceRow.holds Tryz.pinned (OpenSpec.ofChange trustBalanceWrong)

/-- 'cottonpadlaw08.TrustRecall': WHATEVER THE INPUT: true; the input reads as it did. -/
def trustRecallSpec : ChangeSpec := { name := "trustRecall", fn := fun _ => fun
  | [d1, d2, d3, d4, d5] => { results := [.lit (.bool true)], args := [d1, d2, d3, d4, d5] }
  | _ => none }
def trustRecallRow : OpenClaim := { program := "ytmdhgkfjlphliaagreat", sum := "19d2032806e965894f8561148aba17d531979b030f691aa894a55cac14b54df5", func := "cottonpad/cottonpadlaw08.TrustRecall", spec := "trustRecall", inPlace := ["maps.clone"], unfollowed := true, recurses := true, apart := false }
def TrustRecallSaid : Prop := trustRecallRow.holds Tryz.pinned (OpenSpec.ofChange trustRecallSpec)

/-- ITS FALSE NEIGHBOUR: 'it returns false'. Refute it at one input. -/
def trustRecallWrong : ChangeSpec := { name := "trustRecall", fn := fun _ => fun
  | [d1, d2, d3, d4, d5] => { results := [.lit (.bool false)], args := [d1, d2, d3, d4, d5] }
  | _ => none }
def TrustRecallWrongFalsely : Prop := trustRecallRow.holds Tryz.pinned (OpenSpec.ofChange trustRecallWrong)

/- THE SECOND FORM. 'bulk': how many values and letters a reading holds, each counted each time it is reached (what is shared counts as often as it is met; a slice's spare places count too). A statement '..UptoSaid' is the law's where the arguments, and the package variables that the reading takes, are together of bulk at most 1048576: NARROWER than '..Said'. Prove '..Said' where nothing that the law and all that it calls make is longer than what came in: it says more and counts as full. Else prove '..UptoSaid'. A law counts once. -/
mutual
def uptoBulk {H : Type} : DataW H → Nat
  | .lit (.string bytes) => bytes.length + 1
  | .lit _ => 1
  | .nil => 1
  | .ptr d => uptoBulk d + 1
  | .slice elems spare => uptoBulkAll elems + uptoBulkAll spare + 1
  | .agg parts => uptoBulkAll parts + 1
  | .iface _ d => uptoBulk d + 1
  | .map entries => uptoBulkEntries entries + 1
  | .held _ => 1
def uptoBulkAll {H : Type} : List (DataW H) → Nat
  | [] => 0
  | d :: r => uptoBulk d + uptoBulkAll r
def uptoBulkEntries {H : Type} : List (Lit × DataW H) → Nat
  | [] => 0
  | x :: r => uptoBulkEntry x + uptoBulkEntries r
def uptoBulkEntry {H : Type} : Lit × DataW H → Nat
  | (.string bytes, d) => bytes.length + uptoBulk d + 1
  | (_, d) => uptoBulk d + 1
 end
def uptoSmall : (H : Type) → List (DataW H) → Bool := fun _ ds => decide (uptoBulkAll ds ≤ 1048576)
def OpenSpec.upto (s : _root_.Go.ChangeSpec) : _root_.Go.OpenSpec := { _root_.Go.OpenSpec.ofChange s with cond := some uptoSmall }

/-- 'cottonpadlaw08.TrustTakes', WHERE WHAT IT READS IS OF BULK AT MOST 1048576: true; the input reads as it did. -/
def trustTakesUptoRow : OpenClaim := { program := "ytmdhgkfjlphliaagreat", sum := "19d2032806e965894f8561148aba17d531979b030f691aa894a55cac14b54df5", func := "cottonpad/cottonpadlaw08.TrustTakes", spec := "trustTakes", inPlace := ["maps.clone"], unfollowed := true, recurses := true, apart := false, narrowed := true }
def TrustTakesUptoSaid : Prop := trustTakesUptoRow.holds Tryz.pinned (OpenSpec.upto trustTakesSpec)

/-- 'cottonpadlaw08.TrustMore', WHERE WHAT IT READS IS OF BULK AT MOST 1048576: true; the input reads as it did. -/
def trustMoreUptoRow : OpenClaim := { program := "ytmdhgkfjlphliaagreat", sum := "19d2032806e965894f8561148aba17d531979b030f691aa894a55cac14b54df5", func := "cottonpad/cottonpadlaw08.TrustMore", spec := "trustMore", inPlace := ["maps.clone"], unfollowed := true, recurses := true, apart := false, narrowed := true }
def TrustMoreUptoSaid : Prop := trustMoreUptoRow.holds Tryz.pinned (OpenSpec.upto trustMoreSpec)

/-- 'cottonpadlaw08.TrustEnough', WHERE WHAT IT READS IS OF BULK AT MOST 1048576: true; the input reads as it did. -/
def trustEnoughUptoRow : OpenClaim := { program := "ytmdhgkfjlphliaagreat", sum := "19d2032806e965894f8561148aba17d531979b030f691aa894a55cac14b54df5", func := "cottonpad/cottonpadlaw08.TrustEnough", spec := "trustEnough", inPlace := ["maps.clone"], unfollowed := true, recurses := true, apart := false, narrowed := true }
def TrustEnoughUptoSaid : Prop := trustEnoughUptoRow.holds Tryz.pinned (OpenSpec.upto trustEnoughSpec)

/-- 'cottonpadlaw08.TrustCauses', WHERE WHAT IT READS IS OF BULK AT MOST 1048576: true; the input reads as it did. -/
def trustCausesUptoRow : OpenClaim := { program := "ytmdhgkfjlphliaagreat", sum := "19d2032806e965894f8561148aba17d531979b030f691aa894a55cac14b54df5", func := "cottonpad/cottonpadlaw08.TrustCauses", spec := "trustCauses", inPlace := ["maps.clone"], unfollowed := true, recurses := true, apart := false, narrowed := true }
def TrustCausesUptoSaid : Prop := trustCausesUptoRow.holds Tryz.pinned (OpenSpec.upto trustCausesSpec)

/-- 'cottonpadlaw08.TrustBalance', WHERE WHAT IT READS IS OF BULK AT MOST 1048576: true; the input reads as it did. -/
def trustBalanceUptoRow : OpenClaim := { program := "ytmdhgkfjlphliaagreat", sum := "19d2032806e965894f8561148aba17d531979b030f691aa894a55cac14b54df5", func := "cottonpad/cottonpadlaw08.TrustBalance", spec := "trustBalance", inPlace := ["maps.clone"], unfollowed := true, recurses := true, apart := false, narrowed := true }
def TrustBalanceUptoSaid : Prop := trustBalanceUptoRow.holds Tryz.pinned (OpenSpec.upto trustBalanceSpec)

/-- 'cottonpadlaw08.TrustRecall', WHERE WHAT IT READS IS OF BULK AT MOST 1048576: true; the input reads as it did. -/
def trustRecallUptoRow : OpenClaim := { program := "ytmdhgkfjlphliaagreat", sum := "19d2032806e965894f8561148aba17d531979b030f691aa894a55cac14b54df5", func := "cottonpad/cottonpadlaw08.TrustRecall", spec := "trustRecall", inPlace := ["maps.clone"], unfollowed := true, recurses := true, apart := false, narrowed := true }
def TrustRecallUptoSaid : Prop := trustRecallUptoRow.holds Tryz.pinned (OpenSpec.upto trustRecallSpec)

end Rows
end Go.Proofs.YtmdhgkfjlphliaaGreat
