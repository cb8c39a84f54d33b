/-
  THE LAW 'OriginExamples': the chapter's examples, limits and numbers: the call returns true, whatever memory and order; no argument; the arguments read as before. No condition beyond the listed variables, which the card ties to the program's text.
-/
import Derived.Test.YtoeankkhjpijlaaGreatDoorC9
import Derived.Test.YtoeankkhjpijlaaGreatDoorLZ
namespace Go.Proofs.YtoeankkhjpijlaaGreatDoor
open Go Go.Am
open Go.ChangeShapes Go.WideShapes Go.ChangeAt Go.RowKit
set_option maxRecDepth 100000
theorem originExamples_pure : ∀ l, ArgsV [] l → APure Tryz.prog 3 l (.bool true) := by
  intro l h
  have hr := h
  simp only [ArgsV] at hr
  subst hr
  exact law_examples
theorem originExamples_row_holds : Rows.OriginExamplesSaid :=
  OpenClaim.holds_of_wide 3 Tryz.f3 rfl rfl rfl rfl rfl rfl rfl ⟨rfl, rfl, rfl, rfl, rfl⟩ rfl rfl rfl rfl rfl (by kernel_rfl) Tryz.func3 (by kernel_rfl)
    (of_decide_eq_true (by kernel_rfl)) (by unfold Func.isWrapper; first | (rw [if_pos (by decide +kernel)]; kernel_rfl) | (rw [if_neg (by decide +kernel)]; exact ⟨rfl, rfl⟩))
    (fun os started H enc _ => handed_of_pure_and (C := Tryz.checked) (s := Rows.originExamplesSpec) (tb := 4) (Ts := []) (X := fun w _ => laidMetH Tryz.prog Rows.originExamplesRow.laid w) (fun _ _ _ hh h => h.of_heap hh) Tryz.own started (by kernel_rfl) Tryz.func3
      (ChangeSpec.witness_at (enc := enc) (C := Tryz.checked) (os := os) (X := fun w _ => laidMetH Tryz.prog Rows.originExamplesRow.laid w) false (laidWorld os) #[] 9 rfl (by kernel_rfl) (by kernel_rfl) (by kernel_rfl) (by kernel_rfl) (by kernel_rfl) (laidWorld_met os _))
      rfl (fun ds hd => by
        rcases ds with _ | ⟨d1, ds⟩ <;> first | rfl | (simp at hd; done)) Tryz.laidOut (by kernel_rfl) rfl (by kernel_rfl) (by kernel_rfl) originExamples_pure (fun _ _ h => globs h))
theorem originExamples_card_holds : Rows.OriginExamplesCardSaid :=
  Claim7.holds_tied_plain_at .later [] [.data, .data, .data] true (true, "a39fc0d4065f616e86944d2ae9d8945ff951339eb2f82d0cc30e08302187b009") false
    originExamples_row_holds (fun _ h => by cases h) (by kernel_rfl) (fun _ h => by cases h) originExamples_row_tie rfl ⟨rfl, rfl⟩ (by kernel_rfl) rfl
    (fun f fn hf hfn => by
      obtain rfl : f = 3 := Option.some.inj ((show Tryz.prog.funcNamed "cottonpad/cottonpadlaw09.OriginExamples" = some 3 by kernel_rfl).symm.trans hf) |>.symm
      obtain rfl : fn = Tryz.f3 := (Option.some.inj (Tryz.func3.symm.trans hfn)).symm
      exact ⟨by kernel_rfl, fun j t ht => by
        have hm : t ∈ Tryz.f3.params.toList := by simpa using Array.mem_of_getElem? ht
        have hall : (Tryz.f3.params.toList.all fun u => !Tryz.prog.wantsStandIn u) = true := by kernel_rfl
        exact (show Tryz.prog.wantsStandIn t = false by simpa using List.all_eq_true.1 hall t hm)⟩)
    (by kernel_rfl)
end Go.Proofs.YtoeankkhjpijlaaGreatDoor
