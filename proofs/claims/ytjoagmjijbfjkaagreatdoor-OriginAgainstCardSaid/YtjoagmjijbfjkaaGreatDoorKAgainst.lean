/-
  THE LAW 'OriginAgainst': for every scene the call returns true (marks that allow no truth are named: those that are told allow none, but do without any one of them; none are told if and only if there is a truth); the argument reads as before. No condition beyond the listed variables, which the card ties to the program's text.
-/
import Derived.Test.YtjoagmjijbfjkaaGreatDoorC9
import Derived.Test.YtjoagmjijbfjkaaGreatDoorWA
namespace Go.Proofs.YtjoagmjijbfjkaaGreatDoor
open Go Go.Am
open Go.ChangeShapes Go.WideShapes Go.ChangeAt Go.RowKit
set_option maxRecDepth 100000
theorem originAgainst_pure : ∀ l, ArgsV [scTy] l → APure Tryz.prog 9 l (.bool true) := by
  intro l h
  obtain ⟨a0, r0, rfl, h0, hr⟩ := h
  obtain ⟨x0, rfl⟩ := scn_of h0
  simp only [ArgsV] at hr
  subst hr
  exact law_against x0
theorem originAgainst_row_holds : Rows.OriginAgainstSaid :=
  OpenClaim.holds_of_wide 9 Tryz.f9 rfl rfl rfl rfl rfl rfl rfl ⟨rfl, rfl, rfl, rfl, rfl⟩ rfl rfl rfl rfl rfl (by kernel_rfl) Tryz.func9 (by kernel_rfl)
    (of_decide_eq_true (by kernel_rfl)) (by unfold Func.isWrapper; first | (rw [if_pos (by decide +kernel)]; kernel_rfl) | (rw [if_neg (by decide +kernel)]; exact ⟨rfl, rfl⟩))
    (fun os started H enc _ => handed_of_pure_and (C := Tryz.checked) (s := Rows.originAgainstSpec) (tb := 4) (Ts := [scTy]) (X := fun w _ => laidMetH Tryz.prog Rows.originAgainstRow.laid w) (fun _ _ _ hh h => h.of_heap hh) Tryz.own started (by kernel_rfl) Tryz.func9
      (ChangeSpec.witness_at (enc := enc) (C := Tryz.checked) (os := os) (X := fun w _ => laidMetH Tryz.prog Rows.originAgainstRow.laid w) false (laidWorld os) #[.agg #[.int .i64 0, .slice none 0 0, .int .i64 0, .slice none 0 0]] 9 rfl (by kernel_rfl) (by kernel_rfl) (by kernel_rfl) (by kernel_rfl) (by kernel_rfl) (laidWorld_met os _))
      rfl (fun ds hd => by
        rcases ds with _ | ⟨d1, _ | ⟨d2, ds⟩⟩ <;> first | rfl | (simp at hd; done)) Tryz.laidOut (by kernel_rfl) rfl (by kernel_rfl) (by kernel_rfl) originAgainst_pure (fun _ _ h => globs h))
theorem originAgainst_card_holds : Rows.OriginAgainstCardSaid :=
  Claim7.holds_tied_plain_at .later [] [.data, .data, .data] true (true, "a39fc0d4065f616e86944d2ae9d8945ff951339eb2f82d0cc30e08302187b009") false
    originAgainst_row_holds (fun _ h => by cases h) (by kernel_rfl) (fun _ h => by cases h) originAgainst_row_tie rfl ⟨rfl, rfl⟩ (by kernel_rfl) rfl
    (fun f fn hf hfn => by
      obtain rfl : f = 9 := Option.some.inj ((show Tryz.prog.funcNamed "cottonpad/cottonpadlaw09.OriginAgainst" = some 9 by kernel_rfl).symm.trans hf) |>.symm
      obtain rfl : fn = Tryz.f9 := (Option.some.inj (Tryz.func9.symm.trans hfn)).symm
      exact ⟨by kernel_rfl, fun j t ht => by
        have hm : t ∈ Tryz.f9.params.toList := by simpa using Array.mem_of_getElem? ht
        have hall : (Tryz.f9.params.toList.all fun u => !Tryz.prog.wantsStandIn u) = true := by kernel_rfl
        exact (show Tryz.prog.wantsStandIn t = false by simpa using List.all_eq_true.1 hall t hm)⟩)
    (by kernel_rfl)
end Go.Proofs.YtjoagmjijbfjkaaGreatDoor
