/-
  THE LAW 'BurnFouled': for every lamp, lights, choices and seconds the call returns true (smoke lies in its span, both ends come about); the arguments read as before. No condition beyond the listed variable, which the card ties to the program's text.
-/
import Derived.Test.YtcdcgbgmpmaipaaDoorCd
import Derived.Test.YtcdcgbgmpmaipaaDoorD30
namespace Go.Proofs.YtcdcgbgmpmaipaaDoor
open Go Go.Am
open Go.ChangeShapes Go.WideShapes Go.ChangeAt Go.RowKit
set_option maxRecDepth 100000
theorem burnFouled_pure : ∀ l, ArgsV [lampTy, intsTy, u32sTy, .int .u8, .int .u8] l → APure Tryd.prog 10 l (.bool true) := by
  intro l h
  obtain ⟨a0, r0, rfl, h0, a1, r1, rfl, h1, a2, r2, rfl, h2, a3, r3, rfl, h3, a4, r4, rfl, h4, hr⟩ := h
  obtain ⟨x0, rfl⟩ := lamp_of h0
  obtain ⟨x1, rfl⟩ := ints_of h1
  obtain ⟨x2, rfl, y2⟩ := u32s_of h2
  obtain ⟨x3, rfl, y3, z3⟩ := byte_of h3
  obtain ⟨x4, rfl, y4, z4⟩ := byte_of h4
  simp only [ArgsV] at hr
  subst hr
  exact law_fouled x0 x1 x2 y2 x3 y3 z3 x4 y4 z4
theorem burnFouled_row_holds : Rows.BurnFouledSaid :=
  OpenClaim.holds_of_wide 10 Tryd.f10 rfl rfl rfl rfl rfl rfl rfl ⟨rfl, rfl, rfl, rfl, rfl⟩ rfl rfl rfl rfl rfl (by kernel_rfl) Tryd.func10 (by kernel_rfl)
    (of_decide_eq_true (by kernel_rfl)) (by unfold Func.isWrapper; first | (rw [if_pos (by decide +kernel)]; kernel_rfl) | (rw [if_neg (by decide +kernel)]; exact ⟨rfl, rfl⟩))
    (fun os started H enc _ => handed_of_pure_and (C := Tryd.checked) (s := Rows.burnFouledSpec) (tb := 4) (Ts := [lampTy, intsTy, u32sTy, .int .u8, .int .u8]) (X := fun w _ => laidMetH Tryd.prog Rows.burnFouledRow.laid w) (fun _ _ _ hh h => h.of_heap hh) Tryd.own started (by kernel_rfl) Tryd.func10
      (ChangeSpec.witness_at (enc := enc) (C := Tryd.checked) (os := os) (X := fun w _ => laidMetH Tryd.prog Rows.burnFouledRow.laid w) false (laidWorld os) #[.agg #[.int .i64 0, .int .i64 0], .slice none 0 0, .slice none 0 0, .int .u8 0, .int .u8 0] 9 rfl (by kernel_rfl) (by kernel_rfl) (by kernel_rfl) (by kernel_rfl) (by kernel_rfl) (laidWorld_met os _))
      rfl (fun ds hd => by
        rcases ds with _ | ⟨d1, _ | ⟨d2, _ | ⟨d3, _ | ⟨d4, _ | ⟨d5, _ | ⟨d6, ds⟩⟩⟩⟩⟩⟩ <;> first | rfl | (simp at hd; done)) Tryd.laidOut (by kernel_rfl) rfl (by kernel_rfl) (by kernel_rfl) burnFouled_pure (fun _ _ h => globs h))
theorem burnFouled_card_holds : Rows.BurnFouledCardSaid :=
  Claim7.holds_tied_plain_at .later [] [.data] true (true, "0c1a15f9f284616c6e4b5be0c32e4618b13354c74782cde6575634d5e986c29d") false
    burnFouled_row_holds (fun _ h => by cases h) (by kernel_rfl) (fun _ h => by cases h) burnFouled_row_tie rfl ⟨rfl, rfl⟩ (by kernel_rfl) rfl
    (fun f fn hf hfn => by
      obtain rfl : f = 10 := Option.some.inj ((show Tryd.prog.funcNamed "cottonpad/cottonpadlaw04.BurnFouled" = some 10 by kernel_rfl).symm.trans hf) |>.symm
      obtain rfl : fn = Tryd.f10 := (Option.some.inj (Tryd.func10.symm.trans hfn)).symm
      exact ⟨by kernel_rfl, fun j t ht => by
        have hm : t ∈ Tryd.f10.params.toList := by simpa using Array.mem_of_getElem? ht
        have hall : (Tryd.f10.params.toList.all fun u => !Tryd.prog.wantsStandIn u) = true := by kernel_rfl
        exact (show Tryd.prog.wantsStandIn t = false by simpa using List.all_eq_true.1 hall t hm)⟩)
    (by kernel_rfl)
end Go.Proofs.YtcdcgbgmpmaipaaDoor
