/-
  THE LAW 'ExitsMore': for every building, people, and one of whom there may be more, the call returns true (with as many more as are told all are in time for sure; with one more, if there is room, they are not); the arguments read as before. No condition beyond the listed variable, which the card ties to the program's text.
-/
import Derived.Test.YtiggnliiigcjaaaDoorCe
import Derived.Test.YtiggnliiigcjaaaDoorLM
namespace Go.Proofs.YtiggnliiigcjaaaDoor
open Go Go.Am
open Go.ChangeShapes Go.WideShapes Go.ChangeAt Go.RowKit
set_option maxRecDepth 100000
theorem exitsMore_pure : ∀ l, ArgsV [bdgTy, walsTy, walTy] l → APure Tryd.prog 11 l (.bool true) := by
  intro l h
  obtain ⟨a0, r0, rfl, h0, a1, r1, rfl, h1, a2, r2, rfl, h2, hr⟩ := h
  obtain ⟨x0, rfl⟩ := bdg_of h0
  obtain ⟨x1, rfl⟩ := wals_of h1
  obtain ⟨x2, rfl⟩ := walA_of h2
  simp only [ArgsV] at hr
  subst hr
  exact law_more x0 x1 x2
theorem exitsMore_row_holds : Rows.ExitsMoreSaid :=
  OpenClaim.holds_of_wide 11 Tryd.f11 rfl rfl rfl rfl rfl rfl rfl ⟨rfl, rfl, rfl, rfl, rfl⟩ rfl rfl rfl rfl rfl (by kernel_rfl) Tryd.func11 (by kernel_rfl)
    (of_decide_eq_true (by kernel_rfl)) (by unfold Func.isWrapper; first | (rw [if_pos (by decide +kernel)]; kernel_rfl) | (rw [if_neg (by decide +kernel)]; exact ⟨rfl, rfl⟩))
    (fun os started H enc _ => handed_of_pure_and (C := Tryd.checked) (s := Rows.exitsMoreSpec) (tb := 4) (Ts := [bdgTy, walsTy, walTy]) (X := fun w _ => laidMetH Tryd.prog Rows.exitsMoreRow.laid w) (fun _ _ _ hh h => h.of_heap hh) Tryd.own started (by kernel_rfl) Tryd.func11
      (ChangeSpec.witness_at (enc := enc) (C := Tryd.checked) (os := os) (X := fun w _ => laidMetH Tryd.prog Rows.exitsMoreRow.laid w) false (laidWorld os) #[.agg #[.slice none 0 0, .slice none 0 0], .slice none 0 0, .agg #[.int .i64 0, .int .i64 0, .int .i64 0, .int .i64 0, .int .i64 0]] 9 rfl (by kernel_rfl) (by kernel_rfl) (by kernel_rfl) (by kernel_rfl) (by kernel_rfl) (laidWorld_met os _))
      rfl (fun ds hd => by
        rcases ds with _ | ⟨d1, _ | ⟨d2, _ | ⟨d3, _ | ⟨d4, ds⟩⟩⟩⟩ <;> first | rfl | (simp at hd; done)) Tryd.laidOut (by kernel_rfl) rfl (by kernel_rfl) (by kernel_rfl) exitsMore_pure (fun _ _ h => globs h))
theorem exitsMore_card_holds : Rows.ExitsMoreCardSaid :=
  Claim7.holds_tied_plain_at .later [] [.data] true (true, "c89e0b7a3e70ad498a61f1506b8e3be7727d2243e562c29b15959cc61a4c8cd8") false
    exitsMore_row_holds (fun _ h => by cases h) (by kernel_rfl) (fun _ h => by cases h) exitsMore_row_tie rfl ⟨rfl, rfl⟩ (by kernel_rfl) rfl
    (fun f fn hf hfn => by
      obtain rfl : f = 11 := Option.some.inj ((show Tryd.prog.funcNamed "cottonpad/cottonpadlaw06.ExitsMore" = some 11 by kernel_rfl).symm.trans hf) |>.symm
      obtain rfl : fn = Tryd.f11 := (Option.some.inj (Tryd.func11.symm.trans hfn)).symm
      exact ⟨by kernel_rfl, fun j t ht => by
        have hm : t ∈ Tryd.f11.params.toList := by simpa using Array.mem_of_getElem? ht
        have hall : (Tryd.f11.params.toList.all fun u => !Tryd.prog.wantsStandIn u) = true := by kernel_rfl
        exact (show Tryd.prog.wantsStandIn t = false by simpa using List.all_eq_true.1 hall t hm)⟩)
    (by kernel_rfl)
end Go.Proofs.YtiggnliiigcjaaaDoor
