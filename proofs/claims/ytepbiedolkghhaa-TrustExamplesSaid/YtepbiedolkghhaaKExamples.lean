/-
  THE LAW 'TrustExamples': the call returns true (the chapter's examples, limits and numbers). No condition: it has no arguments.
-/
import Derived.Test.YtepbiedolkghhaaRows
import Derived.Test.YtepbiedolkghhaaAm16
import Derived.Test.YtepbiedolkghhaaX3
namespace Go.Proofs.Ytepbiedolkghhaa
open Go Go.Am
open Go.ChangeShapes Go.WideShapes Go.ChangeAt Go.RowKit
theorem Try.own : ownKnob Try.prog.godebug = none := by kernel_rfl
theorem Try.laidOut : laidOutB Try.prog = true := by kernel_rfl
theorem trustExamples_pure : ∀ l, ArgsV [] l → APure Try.prog 6 l (.bool true) := by
  intro l h
  simp only [ArgsV] at h
  subst h
  exact examples_spec
set_option maxRecDepth 100000 in
theorem trustExamples_holds : Rows.TrustExamplesSaid :=
  OpenClaim.holds_of_wide 6 Try.f6 rfl rfl rfl rfl rfl rfl rfl ⟨rfl, rfl, rfl, rfl, rfl⟩ rfl rfl rfl rfl rfl (by kernel_rfl) Try.func6 (by kernel_rfl)
    (of_decide_eq_true (by kernel_rfl)) (by unfold Func.isWrapper; first | (rw [if_pos (by decide +kernel)]; kernel_rfl) | (rw [if_neg (by decide +kernel)]; exact ⟨rfl, rfl⟩))
    (fun os started H enc _ => handed_of_pure (C := Try.checked) (s := Rows.trustExamplesSpec) (tb := 4) (Ts := []) Try.own started (by kernel_rfl) Try.func6
      (ChangeSpec.witness6 (enc := enc) (C := Try.checked) false ⟨#[], #[], []⟩ 4 (by kernel_rfl) (by kernel_rfl) (by kernel_rfl) (by kernel_rfl))
      rfl (fun ds hd => by
        rcases ds with _ | ⟨d1, ds⟩ <;> first | rfl | (simp at hd; done)) Try.laidOut (by kernel_rfl) rfl (by kernel_rfl) (by kernel_rfl) trustExamples_pure (fun _ => rfl))
end Go.Proofs.Ytepbiedolkghhaa
