import Derived.Test.YtiggnliiigcjaaaDoorRows
import Derived.Test.YtiggnliiigcjaaaDoorCards
import Derived.Test.YtiggnliiigcjaaaDoorTie
import Derived.Test.YtiggnliiigcjaaaDoorAm16
import Derived.Test.YtiggnliiigcjaaaDoorTy
import Derived.ChangeVars
import Derived.LaidLaws
import Derived.LaidHandle
import Derived.LaidMore
import Derived.SevenTiedAt
import Derived.OpenShut
import Derived.ChangeSame
/-
  What stands fast for all cards of this seat: the listed variable, the world that meets it, arguments as abstract values.
-/
namespace Go.Proofs.YtiggnliiigcjaaaDoor
open Go Go.Am
open Go.ChangeShapes Go.WideShapes Go.ChangeAt Go.RowKit
set_option maxRecDepth 100000
theorem Tryd.own : ownKnob Tryd.prog.godebug = none := by kernel_rfl
theorem Tryd.laidOut : laidOutB Tryd.prog = true := by kernel_rfl
abbrev laidL : List (String × DataW Unit) := [("cottonpad/exits.nowhere", Rows.laid_cottonpad_exits_nowhere)]
/-- A world that meets the condition: the settled one, the variable's cells laid. -/
noncomputable def laidWorld (os : Os) : World :=
  let w0 := World.holding Tryd.prog os ⟨#[], #[], []⟩
  { w0 with heap := w0.heap.modify 0 fun
      | .cells _ t frozen => .cells #[.int .i64 (-1), .int .i64 (-1)] t frozen
      | o => o }
theorem laidWorld_met (os : Os) (args : Array Value) : laidMetH Tryd.prog laidL ((laidWorld os).forCall (fun _ _ => 0) ⟨#[], args, []⟩).memory :=
  laidMet_of_run' 8 (by kernel_rfl) (by kernel_rfl)
theorem globs {W : World} (h : laidMetH Tryd.prog laidL W) : GlobOk (fun _ => False) W := by
  rw [MakeChecks.laidMetH_plain _ _ _ (by kernel_rfl)] at h
  obtain ⟨ps, ⟨g, t, cs, fuel, p, q, hg, ht, hv, hd, _, _⟩, _, _⟩ := h
  obtain rfl := Option.some.inj ((show Tryd.prog.globalNamed "cottonpad/exits.nowhere" = some 0 by kernel_rfl).symm.trans hg)
  obtain rfl := Option.some.inj ((show (Tryd.prog.globals[0]?).map (·.type) = some 97 by kernel_rfl).symm.trans ht)
  obtain ⟨xs, m, _, e, hl, hlen, hf⟩ := DataW.trod_array Tryd.underlying97 hd
  have hc : Tryd.prog.cellsOf 3 = 1 := by kernel_rfl
  match xs, hlen, e, hf with
  | [y0, y1], _, e, hf =>
    have h0 := hf 0 (by decide)
    have h1 := hf 1 (by decide)
    rw [hc] at h0 h1
    obtain ⟨z0, c0, e0, _⟩ := DataW.trod_int Tryd.underlying3 h0
    obtain ⟨z1, c1, e1, _⟩ := DataW.trod_int Tryd.underlying3 h1
    subst e0; subst e1
    have e' := DataW.agg.inj (Prod.mk.inj e).1
    simp only [List.map_cons, List.map_nil, List.cons.injEq, DataW.lit.injEq, Lit.int.injEq, true_and, and_true] at e'
    obtain ⟨rfl, rfl⟩ := e'
    have g0 : W.cell? ⟨0, 0, none⟩ = some (.int .i64 (-1)) := by
      rw [World.var?_cell hg hv 0]
      have : ((cs.toList.drop 0).take 1)[0]? = some (.int .i64 (-1)) := congrArg (fun l => l[0]?) c0
      simpa using this
    have g1 : W.cell? ⟨0, 1, none⟩ = some (.int .i64 (-1)) := by
      rw [World.var?_cell hg hv 1]
      have : ((cs.toList.drop 1).take 1)[0]? = some (.int .i64 (-1)) := congrArg (fun l => l[0]?) c1
      simpa using this
    intro i
    cases i with
    | zero =>
      refine .cptr _ _ (fun _ => .int .i64 (-1)) (fun j c hj => ⟨id, ?_⟩) (fun j c hj => ?_)
      · rcases j with _ | _ | j
        · exact g0
        · exact g1
        · simp at hj
      · rcases j with _ | _ | j
        · simp at hj; subst hj; exact .int _ _
        · simp at hj; subst hj; exact .int _ _
        · simp at hj
    | succ i => exact .any _
end Go.Proofs.YtiggnliiigcjaaaDoor
