/-
  THE LAW 'ExitsLater': for every building, people, how much later, and which stair the call returns true (with everybody going later by as much, and smoke as well, each time is later by as much, and what is known stays so); the arguments read as before. No condition beyond the listed variable, which the card ties to the program's text.
-/
import Derived.Test.YtiggnliiigcjaaaDoorCe
import Derived.Test.YtiggnliiigcjaaaDoorLT
namespace Go.Proofs.YtiggnliiigcjaaaDoor
open Go Go.Am
open Go.ChangeShapes Go.WideShapes Go.ChangeAt Go.RowKit
set_option maxRecDepth 100000
theorem exitsLater_pure : ∀ l, ArgsV [bdgTy, walsTy, .int .u16, .int .u8] l → APure Tryd.prog 9 l (.bool true) := by
  intro l h
  obtain ⟨a0, r0, rfl, h0, a1, r1, rfl, h1, a2, r2, rfl, h2, a3, r3, rfl, h3, hr⟩ := h
  obtain ⟨x0, rfl⟩ := bdg_of h0
  obtain ⟨x1, rfl⟩ := wals_of h1
  obtain ⟨x2, rfl, y2, z2⟩ := u16_of h2
  obtain ⟨x3, rfl, y3, z3⟩ := byte_of h3
  simp only [ArgsV] at hr
  subst hr
  exact law_later x0 x1 x2 x3 y2 z2 y3 z3
theorem exitsLater_row_holds : Rows.ExitsLaterSaid :=
  OpenClaim.holds_of_wide 9 Tryd.f9 rfl rfl rfl rfl rfl rfl rfl ⟨rfl, rfl, rfl, rfl, rfl⟩ rfl rfl rfl rfl rfl (by kernel_rfl) Tryd.func9 (by kernel_rfl)
    (of_decide_eq_true (by kernel_rfl)) (by unfold Func.isWrapper; first | (rw [if_pos (by decide +kernel)]; kernel_rfl) | (rw [if_neg (by decide +kernel)]; exact ⟨rfl, rfl⟩))
    (fun os started H enc _ => handed_of_pure_and (C := Tryd.checked) (s := Rows.exitsLaterSpec) (tb := 4) (Ts := [bdgTy, walsTy, .int .u16, .int .u8]) (X := fun w _ => laidMetH Tryd.prog Rows.exitsLaterRow.laid w) (fun _ _ _ hh h => h.of_heap hh) Tryd.own started (by kernel_rfl) Tryd.func9
      (ChangeSpec.witness_at (enc := enc) (C := Tryd.checked) (os := os) (X := fun w _ => laidMetH Tryd.prog Rows.exitsLaterRow.laid w) false (laidWorld os) #[.agg #[.slice none 0 0, .slice none 0 0], .slice none 0 0, .int .u16 0, .int .u8 0] 9 rfl (by kernel_rfl) (by kernel_rfl) (by kernel_rfl) (by kernel_rfl) (by kernel_rfl) (laidWorld_met os _))
      rfl (fun ds hd => by
        rcases ds with _ | ⟨d1, _ | ⟨d2, _ | ⟨d3, _ | ⟨d4, _ | ⟨d5, ds⟩⟩⟩⟩⟩ <;> first | rfl | (simp at hd; done)) Tryd.laidOut (by kernel_rfl) rfl (by kernel_rfl) (by kernel_rfl) exitsLater_pure (fun _ _ h => globs h))
theorem exitsLater_card_holds : Rows.ExitsLaterCardSaid :=
  Claim7.holds_tied_plain_at .later [] [.data] true (true, "c89e0b7a3e70ad498a61f1506b8e3be7727d2243e562c29b15959cc61a4c8cd8") false
    exitsLater_row_holds (fun _ h => by cases h) (by kernel_rfl) (fun _ h => by cases h) exitsLater_row_tie rfl ⟨rfl, rfl⟩ (by kernel_rfl) rfl
    (fun f fn hf hfn => by
      obtain rfl : f = 9 := Option.some.inj ((show Tryd.prog.funcNamed "cottonpad/cottonpadlaw06.ExitsLater" = some 9 by kernel_rfl).symm.trans hf) |>.symm
      obtain rfl : fn = Tryd.f9 := (Option.some.inj (Tryd.func9.symm.trans hfn)).symm
      exact ⟨by kernel_rfl, fun j t ht => by
        have hm : t ∈ Tryd.f9.params.toList := by simpa using Array.mem_of_getElem? ht
        have hall : (Tryd.f9.params.toList.all fun u => !Tryd.prog.wantsStandIn u) = true := by kernel_rfl
        exact (show Tryd.prog.wantsStandIn t = false by simpa using List.all_eq_true.1 hall t hm)⟩)
    (by kernel_rfl)
end Go.Proofs.YtiggnliiigcjaaaDoor
