/-
  THE LAW 'BurnExamples': the chapter's examples, limits and numbers: the call returns true, whatever memory and order; no argument. No condition beyond the listed variable, which the card ties to the program's text.
-/
import Derived.Test.YtcdcgbgmpmaipaaDoorCd
import Derived.Test.YtcdcgbgmpmaipaaDoorD12
namespace Go.Proofs.YtcdcgbgmpmaipaaDoor
open Go Go.Am
open Go.ChangeShapes Go.WideShapes Go.ChangeAt Go.RowKit
set_option maxRecDepth 100000
theorem burnExamples_pure : ∀ l, ArgsV [] l → APure Tryd.prog 4 l (.bool true) := fun l hl => by
  simp only [ArgsV] at hl
  subst hl
  exact examples_spec
theorem burnExamples_row_holds : Rows.BurnExamplesSaid :=
  OpenClaim.holds_of_wide 4 Tryd.f4 rfl rfl rfl rfl rfl rfl rfl ⟨rfl, rfl, rfl, rfl, rfl⟩ rfl rfl rfl rfl rfl (by kernel_rfl) Tryd.func4 (by kernel_rfl)
    (of_decide_eq_true (by kernel_rfl)) (by unfold Func.isWrapper; first | (rw [if_pos (by decide +kernel)]; kernel_rfl) | (rw [if_neg (by decide +kernel)]; exact ⟨rfl, rfl⟩))
    (fun os started H enc _ => handed_of_pure_and (C := Tryd.checked) (s := Rows.burnExamplesSpec) (tb := 4) (Ts := []) (X := fun w _ => laidMetH Tryd.prog Rows.burnExamplesRow.laid w) (fun _ _ _ hh h => h.of_heap hh) Tryd.own started (by kernel_rfl) Tryd.func4
      (ChangeSpec.witness_at (enc := enc) (C := Tryd.checked) (os := os) (X := fun w _ => laidMetH Tryd.prog Rows.burnExamplesRow.laid w) false (laidWorld os) #[] 9 rfl (by kernel_rfl) (by kernel_rfl) (by kernel_rfl) (by kernel_rfl) (by kernel_rfl) (laidWorld_met os _))
      rfl (fun ds hd => by
        rcases ds with _ | ⟨d1, ds⟩ <;> first | rfl | (simp at hd; done)) Tryd.laidOut (by kernel_rfl) rfl (by kernel_rfl) (by kernel_rfl) burnExamples_pure (fun _ _ h => globs h))
theorem burnExamples_card_holds : Rows.BurnExamplesCardSaid :=
  Claim7.holds_tied_plain_at .later [] [.data] true (true, "0c1a15f9f284616c6e4b5be0c32e4618b13354c74782cde6575634d5e986c29d") false
    burnExamples_row_holds (fun _ h => by cases h) (by kernel_rfl) (fun _ h => by cases h) burnExamples_row_tie rfl ⟨rfl, rfl⟩ (by kernel_rfl) rfl
    (fun f fn hf hfn => by
      obtain rfl : f = 4 := Option.some.inj ((show Tryd.prog.funcNamed "cottonpad/cottonpadlaw04.BurnExamples" = some 4 by kernel_rfl).symm.trans hf) |>.symm
      obtain rfl : fn = Tryd.f4 := (Option.some.inj (Tryd.func4.symm.trans hfn)).symm
      exact ⟨by kernel_rfl, fun j t ht => by
        have hm : t ∈ Tryd.f4.params.toList := by simpa using Array.mem_of_getElem? ht
        have hall : (Tryd.f4.params.toList.all fun u => !Tryd.prog.wantsStandIn u) = true := by kernel_rfl
        exact (show Tryd.prog.wantsStandIn t = false by simpa using List.all_eq_true.1 hall t hm)⟩)
    (by kernel_rfl)
end Go.Proofs.YtcdcgbgmpmaipaaDoor
