/-
  What stands fast for all cards of this seat: the listed variable, the world that meets it, arguments as abstract values.
-/
import Derived.Test.YtcdcgbgmpmaipaaDoorRows
import Derived.Test.YtcdcgbgmpmaipaaDoorCards
import Derived.Test.YtcdcgbgmpmaipaaDoorTie
import Derived.Test.YtcdcgbgmpmaipaaDoorAm16
import Derived.Test.YtcdcgbgmpmaipaaDoorBp1
import Derived.Test.YtcdcgbgmpmaipaaDoorTy
import Derived.ChangeVars
import Derived.LaidLaws
import Derived.LaidHandle
import Derived.LaidMore
import Derived.SevenTiedAt
import Derived.OpenShut
import Derived.ChangeSame
namespace Go.Proofs.YtcdcgbgmpmaipaaDoor
open Go Go.Am
open Go.ChangeShapes Go.WideShapes Go.ChangeAt Go.RowKit
set_option maxRecDepth 100000
theorem Tryd.own : ownKnob Tryd.prog.godebug = none := by kernel_rfl
theorem Tryd.laidOut : laidOutB Tryd.prog = true := by kernel_rfl
abbrev laidL : List (String × DataW Unit) := [("cottonpad/burn.none", Rows.laid_cottonpad_burn_none)]
/-- A world that meets the condition: the settled one, the variable's cells laid. -/
noncomputable def laidWorld (os : Os) : World :=
  let w0 := World.holding Tryd.prog os ⟨#[], #[], []⟩
  { w0 with heap := w0.heap.modify 0 fun
      | .cells _ t frozen => .cells #[.int .i64 (-1), .int .i64 (-1)] t frozen
      | o => o }
theorem laidWorld_met (os : Os) (args : Array Value) : laidMetH Tryd.prog laidL ((laidWorld os).forCall (fun _ _ => 0) ⟨#[], args, []⟩).memory :=
  laidMet_of_run' 8 (by kernel_rfl) (by kernel_rfl)
theorem globs {W : World} (h : laidMetH Tryd.prog laidL W) : GlobOk (fun _ => False) W := by
  rw [MakeChecks.laidMetH_plain _ _ _ (by kernel_rfl)] at h
  obtain ⟨ps, ⟨g, t, cs, fuel, p, q, hg, ht, hv, hd, _, _⟩, _, _⟩ := h
  obtain rfl := Option.some.inj ((show Tryd.prog.globalNamed "cottonpad/burn.none" = some 0 by kernel_rfl).symm.trans hg)
  obtain rfl := Option.some.inj ((show (Tryd.prog.globals[0]?).map (·.type) = some 23 by kernel_rfl).symm.trans ht)
  obtain ⟨y0, y1, n, e, hl, h0, h1⟩ := trod_struct2 Tryd.underlying23 hd
  obtain ⟨z0, c0, e0, _⟩ := DataW.trod_int Tryd.underlying3 h0
  obtain ⟨z1, c1, e1, _⟩ := DataW.trod_int Tryd.underlying3 h1
  subst e0; subst e1
  have e' := DataW.agg.inj (Prod.mk.inj e).1
  simp only [List.cons.injEq, DataW.lit.injEq, Lit.int.injEq, true_and, and_true] at e'
  obtain ⟨rfl, rfl⟩ := e'
  have g0 : W.cell? ⟨0, 0, none⟩ = some (.int .i64 (-1)) := by
    rw [World.var?_cell hg hv 0]
    have : ((cs.toList.drop 0).take 1)[0]? = some (.int .i64 (-1)) := by rw [show cs.toList.drop 0 = cs.toList.drop 0 from rfl]; exact congrArg (fun l => l[0]?) c0
    simpa using this
  have g1 : W.cell? ⟨0, 1, none⟩ = some (.int .i64 (-1)) := by
    rw [World.var?_cell hg hv 1]
    have : ((cs.toList.drop 1).take 1)[0]? = some (.int .i64 (-1)) := congrArg (fun l => l[0]?) c1
    simpa using this
  intro i
  cases i with
  | zero =>
    refine .cptr _ _ (fun _ => .int .i64 (-1)) (fun j c hj => ⟨id, ?_⟩) (fun j c hj => ?_)
    · rcases j with _ | _ | j
      · exact g0
      · exact g1
      · simp at hj
    · rcases j with _ | _ | j
      · simp at hj; subst hj; exact .int _ _
      · simp at hj; subst hj; exact .int _ _
      · simp at hj
  | succ i => exact .any _
end Go.Proofs.YtcdcgbgmpmaipaaDoor
