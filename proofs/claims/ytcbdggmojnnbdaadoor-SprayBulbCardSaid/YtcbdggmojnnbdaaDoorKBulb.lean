/-
  THE LAW 'SprayBulb': for every head, heat, numbers that say what is true, and how much hotter the call returns true (a bulb bursts between two minutes, and no later if it is weaker, faster, or hotter); the arguments read as before. No condition beyond the listed variable, which the card ties to the program's text.
-/
import Derived.Test.YtcbdggmojnnbdaaDoorCd
import Derived.Test.YtcbdggmojnnbdaaDoorY2
namespace Go.Proofs.YtcbdggmojnnbdaaDoor
open Go Go.Am
open Go.ChangeShapes Go.WideShapes Go.ChangeAt Go.RowKit
set_option maxRecDepth 100000
theorem sprayBulb_pure : ∀ l, ArgsV [headTy, intsTy, .int .u16, .int .u16, u16sTy] l → APure Tryd.prog 9 l (.bool true) := by
  intro l h
  obtain ⟨a0, r0, rfl, h0, a1, r1, rfl, h1, a2, r2, rfl, h2, a3, r3, rfl, h3, a4, r4, rfl, h4, hr⟩ := h
  obtain ⟨x0, rfl⟩ := headA_of h0
  obtain ⟨x1, rfl⟩ := ints_of h1
  obtain ⟨x2, rfl, y2, z2⟩ := u16_of h2
  obtain ⟨x3, rfl, y3, z3⟩ := u16_of h3
  obtain ⟨x4, rfl, y4⟩ := u16s_of h4
  simp only [ArgsV] at hr
  subst hr
  exact law_bulb x0 x1 x2 y2 z2 x3 y3 z3 x4 y4
theorem sprayBulb_row_holds : Rows.SprayBulbSaid :=
  OpenClaim.holds_of_wide 9 Tryd.f9 rfl rfl rfl rfl rfl rfl rfl ⟨rfl, rfl, rfl, rfl, rfl⟩ rfl rfl rfl rfl rfl (by kernel_rfl) Tryd.func9 (by kernel_rfl)
    (of_decide_eq_true (by kernel_rfl)) (by unfold Func.isWrapper; first | (rw [if_pos (by decide +kernel)]; kernel_rfl) | (rw [if_neg (by decide +kernel)]; exact ⟨rfl, rfl⟩))
    (fun os started H enc _ => handed_of_pure_and (C := Tryd.checked) (s := Rows.sprayBulbSpec) (tb := 4) (Ts := [headTy, intsTy, .int .u16, .int .u16, u16sTy]) (X := fun w _ => laidMetH Tryd.prog Rows.sprayBulbRow.laid w) (fun _ _ _ hh h => h.of_heap hh) Tryd.own started (by kernel_rfl) Tryd.func9
      (ChangeSpec.witness_at (enc := enc) (C := Tryd.checked) (os := os) (X := fun w _ => laidMetH Tryd.prog Rows.sprayBulbRow.laid w) false (laidWorld os) #[.agg #[.int .i64 0, .int .i64 0, .int .i64 0, .int .i64 0, .int .i64 0, .int .i64 0, .int .i64 0, .int .i64 0], .slice none 0 0, .int .u16 0, .int .u16 0, .slice none 0 0] 9 rfl (by kernel_rfl) (by kernel_rfl) (by kernel_rfl) (by kernel_rfl) (by kernel_rfl) (laidWorld_met os _))
      rfl (fun ds hd => by
        rcases ds with _ | ⟨d1, _ | ⟨d2, _ | ⟨d3, _ | ⟨d4, _ | ⟨d5, _ | ⟨d6, ds⟩⟩⟩⟩⟩⟩ <;> first | rfl | (simp at hd; done)) Tryd.laidOut (by kernel_rfl) rfl (by kernel_rfl) (by kernel_rfl) sprayBulb_pure (fun _ _ h => globs h))
theorem sprayBulb_card_holds : Rows.SprayBulbCardSaid :=
  Claim7.holds_tied_plain_at .later [] [.data] true (true, "1d2ef2fb35ad42f990c1890f47c4cc5b74eced58cad03fb46b38d17ae2bed708") false
    sprayBulb_row_holds (fun _ h => by cases h) (by kernel_rfl) (fun _ h => by cases h) sprayBulb_row_tie rfl ⟨rfl, rfl⟩ (by kernel_rfl) rfl
    (fun f fn hf hfn => by
      obtain rfl : f = 9 := Option.some.inj ((show Tryd.prog.funcNamed "cottonpad/cottonpadlaw05.SprayBulb" = some 9 by kernel_rfl).symm.trans hf) |>.symm
      obtain rfl : fn = Tryd.f9 := (Option.some.inj (Tryd.func9.symm.trans hfn)).symm
      exact ⟨by kernel_rfl, fun j t ht => by
        have hm : t ∈ Tryd.f9.params.toList := by simpa using Array.mem_of_getElem? ht
        have hall : (Tryd.f9.params.toList.all fun u => !Tryd.prog.wantsStandIn u) = true := by kernel_rfl
        exact (show Tryd.prog.wantsStandIn t = false by simpa using List.all_eq_true.1 hall t hm)⟩)
    (by kernel_rfl)
end Go.Proofs.YtcbdggmojnnbdaaDoor
