/-
  THE CHAPTER's EXAMPLES: what is alive, and all of them.
-/
import Derived.Test.YtcbdggmojnnbdaaDoorX1
namespace Go.Proofs.YtcbdggmojnnbdaaDoor
open Go Go.Am Go.Srt
set_option maxRecDepth 100000
set_option maxHeartbeats 4000000
theorem APure.fresh {P : Program} {f : Nat} {xs : List AV} {r : AV} (h : APure P f xs r) (hf : r.flat = true) : APureF P f xs r := fun κ N w cargs h1 h2 h3 =>
  (h κ N w cargs h1 h2 h3).mono fun _e _w' ⟨v, e1, e2, e3, e4⟩ => ⟨v, e1, e2, e3, VRel.ofFlat e4 hf⟩
theorem kFlows2F : APureF Tryd.prog 13 [encN exN, encR [5, 9]] (encFe ([180, 80, 100], 0)) := .runK (.cons kOpen2 .nil) 100 30 (by kernel_rfl)
theorem kFlows9F : APureF Tryd.prog 13 [encN exN, encR [9]] (encFe ([100, 0, 100], 0)) := .runK (.cons kCheck .nil) 100 30 (by kernel_rfl)
theorem kPress0F : APureF Tryd.prog 19 [encN exN, encR [5, 9], .nil] (encPe ([(1582, 2276), (902, 1276)], 0)) := .runK (.cons kOpen2 <| .cons kBegin2 .nil) 100 30 (by kernel_rfl)
theorem kPress1F : APureF Tryd.prog 19 [encN exN, encR [5, 9], encR [0]] (encPe ([(732, 1376), (52, 376)], 0)) := .runK (.cons kOpen2 <| .cons kBegin2 .nil) 100 30 (by kernel_rfl)
theorem span_spec (a b : Int) : APure Tryd.prog 16 [.int .i64 a, .int .i64 b] (encS (a, b)) := APure.vc Tryd.func16 rfl .nil rfl rfl ⟨trivial, rfl⟩
theorem kP0 : APure Tryd.prog 41 [encS (1582, 2276), encS (902, 1276), .nil] (.bool true) := .runK (.cons net_spec <| .consF kPress0F .nil) 100 30 (by kernel_rfl)
theorem kP1 : APure Tryd.prog 41 [encS (732, 1376), encS (52, 376), encR [0]] (.bool true) := .runK (.cons net_spec <| .consF kPress1F .nil) 100 30 (by kernel_rfl)
theorem kG2 : APure Tryd.prog 42 [encLk 1 9 (encR [0]), encR [5, 9]] (.bool true) := .runK (.cons net_spec <| .cons kGets2 .nil) 100 30 (by kernel_rfl)
theorem kG1 : APure Tryd.prog 42 [encLk 2 0 .nil, encR [5]] (.bool true) := .runK (.cons net_spec <| .cons kGets1 .nil) 100 30 (by kernel_rfl)
theorem alive_spec : APure Tryd.prog 12 [] (.bool true) :=
  .runK (.cons net_spec <| .consF kFlows2F <| .consF (APure.fresh kBursts rfl) <| .cons kMost <| .cons (span_spec 1582 2276) <| .cons (span_spec 902 1276) <| .cons (span_spec 732 1376) <| .cons (span_spec 52 376) <| .cons kP0 <| .consF (APure.fresh kP1 rfl) <| .consF (APure.fresh kG2 rfl) <| .consF (APure.fresh kG1 rfl) .nil) 100 30 (by kernel_rfl)
/-! ### the others -/
theorem SortE : APure Tryd.prog 103 [.nil] .undef := .runK .nil 100 30 (by kernel_rfl)
theorem KeysE : APure Tryd.prog 92 [.imap []] (keysCl []) := Keys_spec []
theorem listE_spec : APureF Tryd.prog 69 [.imap []] .nil := by
  refine APureF.vcM Tryd.func69 (.call (keysCl []) <| .inl Tryd.f91 <| .inl Tryd.f102 <| .inl Tryd.f109 <| .inl Tryd.f104 .loop) rfl rfl
    ⟨KeysE, Tryd.func91, Tryd.func102, Tryd.func109, Tryd.func104, ?_⟩
  intro g hn hl
  replace hn : g.n = 14 := hn
  replace hl : g.low 2 := hl
  refine acode_whileW (fun _ : Unit => ⟨[(0, .yld 1), (5, .vptr 2 0)], [(0, .cells [.nil]), (1, .loop ⟨.ready, none, 13, [(2, .vptr 0 0)], #[7], asgA, bodA⟩), (2, .iter none [])], 3⟩)
    (fun _ => True) (fun _ => 0) () trivial ?_ ?_
  · refine Wk.trans (Wk.le ?_ (hl.mono (show 2 ≤ 3 by decide))) (Wk.loopEnv (id := 1) (n := 2) [(2, .vptr 0 0)] rfl ⟨rfl, rfl, trivial⟩)
    exact St.le.of ⟨by kernel_rfl, rfl, by kernel_rfl, rfl, trivial⟩ ⟨by kernel_rfl, (by decide : (0 : Nat) < 3), rfl, by kernel_rfl, (by decide : (1 : Nat) < 3), rfl, by kernel_rfl, (by decide : (2 : Nat) < 3), rfl, trivial⟩
  · rintro _ _
    exact ACode.vcM (.nxt .nil fun j => .nil) hn hl (.roundW .cl) ⟨fun e => ⟨_, .refl _, .call .undef .nil, SortE, [], by kernel_rfl⟩, fun j e he => by simp at he⟩
def dryN : Nt := { exN with tLo := 5000, tHi := 5100 }
def wildN : Nt := { exN with ps := [⟨0, 1, 10, 20⟩, ⟨1, 2, 0, 50⟩, ⟨3, 3, 100, 100⟩] }
theorem kDry : APure Tryd.prog 17 [encN dryN, encR [5, 9]] (encLe 0 (-1) .nil 0) := .runK (.consF listE_spec .nil) 100 30 (by kernel_rfl)
theorem kFlowsB : APure Tryd.prog 13 [encN exN, encR [9, 5]] (.tup [.nil, .int .i64 2]) := .runK (.cons kCheck .nil) 100 30 (by kernel_rfl)
theorem kPressB : APure Tryd.prog 19 [encN exN, .nil, encR [0, 1]] (.tup [.nil, .int .i64 2]) := .runK (.cons kCheck .nil) 100 30 (by kernel_rfl)
theorem kGetsB : APure Tryd.prog 17 [encN exN, encR [6]] (encLe 0 0 .nil 2) := .runK (.cons kCheck .nil) 100 30 (by kernel_rfl)
def zeroH : Hh := ⟨0, 1, 0, 0, 0, 0, 0, 0⟩
theorem kBurstsB : APure Tryd.prog 20 [encHh zeroH, .nil] (.tup [.int .i64 0, .int .i64 0, .int .i64 50]) := .runK .nil 100 30 (by kernel_rfl)
theorem kBurstsC : APure Tryd.prog 20 [encHh exH1, encR [2001]] (.tup [.int .i64 0, .int .i64 0, .int .i64 51]) := .runK .nil 100 30 (by kernel_rfl)
theorem kFireB : APure Tryd.prog 21 [encN exN, .lst 1 [[encR [5]]]] (.tup [.nil, .nil, encLk 0 0 .nil, .int .i64 2]) := .runK (.cons kCheck .nil) 100 30 (by kernel_rfl)
theorem kWild : APure Tryd.prog 22 [encN wildN] (.int .i64 50) := .runK .nil 100 30 (by kernel_rfl)
theorem examples_spec : APure Tryd.prog 3 [] (.bool true) :=
  .runK (.cons alive_spec <| .consF kFlows9F <| .consF (APure.fresh kDry rfl) <| .consF (APure.fresh kFlowsB rfl) <| .consF (APure.fresh kPressB rfl) <| .consF (APure.fresh kGetsB rfl) <| .cons kBurstsB <| .consF (APure.fresh kBurstsC rfl) <| .consF (APure.fresh kFireB rfl) <| .consF (APure.fresh kWild rfl) .nil) 100 30 (by kernel_rfl)
end Go.Proofs.YtcbdggmojnnbdaaDoor
