/-
  THE LAW 'ExitsExamples': the chapter's examples, limits and numbers: the call returns true, whatever memory and order; no argument. No condition beyond the listed variable, which the card ties to the program's text.
-/
import Derived.Test.YtiggnliiigcjaaaDoorCd
import Derived.Test.YtiggnliiigcjaaaDoorX4
namespace Go.Proofs.YtiggnliiigcjaaaDoor
open Go Go.Am
open Go.ChangeShapes Go.WideShapes Go.ChangeAt Go.RowKit
set_option maxRecDepth 100000
theorem exitsExamples_pure : ∀ l, ArgsV [] l → APure Tryd.prog 4 l (.bool true) := by
  intro l h
  have hr := h
  simp only [ArgsV] at hr
  subst hr
  exact examples_spec 
theorem exitsExamples_row_holds : Rows.ExitsExamplesSaid :=
  OpenClaim.holds_of_wide 4 Tryd.f4 rfl rfl rfl rfl rfl rfl rfl ⟨rfl, rfl, rfl, rfl, rfl⟩ rfl rfl rfl rfl rfl (by kernel_rfl) Tryd.func4 (by kernel_rfl)
    (of_decide_eq_true (by kernel_rfl)) (by unfold Func.isWrapper; first | (rw [if_pos (by decide +kernel)]; kernel_rfl) | (rw [if_neg (by decide +kernel)]; exact ⟨rfl, rfl⟩))
    (fun os started H enc _ => handed_of_pure_and (C := Tryd.checked) (s := Rows.exitsExamplesSpec) (tb := 4) (Ts := []) (X := fun w _ => laidMetH Tryd.prog Rows.exitsExamplesRow.laid w) (fun _ _ _ hh h => h.of_heap hh) Tryd.own started (by kernel_rfl) Tryd.func4
      (ChangeSpec.witness_at (enc := enc) (C := Tryd.checked) (os := os) (X := fun w _ => laidMetH Tryd.prog Rows.exitsExamplesRow.laid w) false (laidWorld os) #[] 9 rfl (by kernel_rfl) (by kernel_rfl) (by kernel_rfl) (by kernel_rfl) (by kernel_rfl) (laidWorld_met os _))
      rfl (fun ds hd => by
        rcases ds with _ | ⟨d1, ds⟩ <;> first | rfl | (simp at hd; done)) Tryd.laidOut (by kernel_rfl) rfl (by kernel_rfl) (by kernel_rfl) exitsExamples_pure (fun _ _ h => globs h))
theorem exitsExamples_card_holds : Rows.ExitsExamplesCardSaid :=
  Claim7.holds_tied_plain_at .later [] [.data] true (true, "c89e0b7a3e70ad498a61f1506b8e3be7727d2243e562c29b15959cc61a4c8cd8") false
    exitsExamples_row_holds (fun _ h => by cases h) (by kernel_rfl) (fun _ h => by cases h) exitsExamples_row_tie rfl ⟨rfl, rfl⟩ (by kernel_rfl) rfl
    (fun f fn hf hfn => by
      obtain rfl : f = 4 := Option.some.inj ((show Tryd.prog.funcNamed "cottonpad/cottonpadlaw06.ExitsExamples" = some 4 by kernel_rfl).symm.trans hf) |>.symm
      obtain rfl : fn = Tryd.f4 := (Option.some.inj (Tryd.func4.symm.trans hfn)).symm
      exact ⟨by kernel_rfl, fun j t ht => by
        have hm : t ∈ Tryd.f4.params.toList := by simpa using Array.mem_of_getElem? ht
        have hall : (Tryd.f4.params.toList.all fun u => !Tryd.prog.wantsStandIn u) = true := by kernel_rfl
        exact (show Tryd.prog.wantsStandIn t = false by simpa using List.all_eq_true.1 hall t hm)⟩)
    (by kernel_rfl)
end Go.Proofs.YtiggnliiigcjaaaDoor
