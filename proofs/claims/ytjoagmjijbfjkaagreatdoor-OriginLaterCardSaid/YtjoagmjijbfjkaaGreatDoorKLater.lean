/-
  THE LAW 'OriginLater': for every scene, number of a room, minute, how much later and how gates are turned, the call returns true (if all is later by some minutes, each minute that was told is told as much later, with the same truth; gates in another order, told from the other side, change nothing but the order of delays); the arguments read as before. No condition beyond the listed variables, which the card ties to the program's text.
-/
import Derived.Test.YtjoagmjijbfjkaaGreatDoorC9
import Derived.Test.YtjoagmjijbfjkaaGreatDoorWL
namespace Go.Proofs.YtjoagmjijbfjkaaGreatDoor
open Go Go.Am
open Go.ChangeShapes Go.WideShapes Go.ChangeAt Go.RowKit
set_option maxRecDepth 100000
theorem originLater_pure : ∀ l, ArgsV [scTy, .int .u8, .int .u16, .int .u16, .int .u8] l → APure Tryz.prog 11 l (.bool true) := by
  intro l h
  obtain ⟨a0, r0, rfl, h0, a1, r1, rfl, h1, a2, r2, rfl, h2, a3, r3, rfl, h3, a4, r4, rfl, h4, hr⟩ := h
  obtain ⟨x0, rfl⟩ := scn_of h0
  obtain ⟨x1, q1, rfl⟩ := u8_of h1
  obtain ⟨x2, q2, rfl⟩ := u16_of h2
  obtain ⟨x3, q3, rfl⟩ := u16_of h3
  obtain ⟨x4, q4, rfl⟩ := u8_of h4
  simp only [ArgsV] at hr
  subst hr
  exact law_later x0 x1 x2 x3 x4 q1 q2 q3 q4
theorem originLater_row_holds : Rows.OriginLaterSaid :=
  OpenClaim.holds_of_wide 11 Tryz.f11 rfl rfl rfl rfl rfl rfl rfl ⟨rfl, rfl, rfl, rfl, rfl⟩ rfl rfl rfl rfl rfl (by kernel_rfl) Tryz.func11 (by kernel_rfl)
    (of_decide_eq_true (by kernel_rfl)) (by unfold Func.isWrapper; first | (rw [if_pos (by decide +kernel)]; kernel_rfl) | (rw [if_neg (by decide +kernel)]; exact ⟨rfl, rfl⟩))
    (fun os started H enc _ => handed_of_pure_and (C := Tryz.checked) (s := Rows.originLaterSpec) (tb := 4) (Ts := [scTy, .int .u8, .int .u16, .int .u16, .int .u8]) (X := fun w _ => laidMetH Tryz.prog Rows.originLaterRow.laid w) (fun _ _ _ hh h => h.of_heap hh) Tryz.own started (by kernel_rfl) Tryz.func11
      (ChangeSpec.witness_at (enc := enc) (C := Tryz.checked) (os := os) (X := fun w _ => laidMetH Tryz.prog Rows.originLaterRow.laid w) false (laidWorld os) #[.agg #[.int .i64 0, .slice none 0 0, .int .i64 0, .slice none 0 0], .int .u8 0, .int .u16 0, .int .u16 0, .int .u8 0] 9 rfl (by kernel_rfl) (by kernel_rfl) (by kernel_rfl) (by kernel_rfl) (by kernel_rfl) (laidWorld_met os _))
      rfl (fun ds hd => by
        rcases ds with _ | ⟨d1, _ | ⟨d2, _ | ⟨d3, _ | ⟨d4, _ | ⟨d5, _ | ⟨d6, ds⟩⟩⟩⟩⟩⟩ <;> first | rfl | (simp at hd; done)) Tryz.laidOut (by kernel_rfl) rfl (by kernel_rfl) (by kernel_rfl) originLater_pure (fun _ _ h => globs h))
theorem originLater_card_holds : Rows.OriginLaterCardSaid :=
  Claim7.holds_tied_plain_at .later [] [.data, .data, .data] true (true, "a39fc0d4065f616e86944d2ae9d8945ff951339eb2f82d0cc30e08302187b009") false
    originLater_row_holds (fun _ h => by cases h) (by kernel_rfl) (fun _ h => by cases h) originLater_row_tie rfl ⟨rfl, rfl⟩ (by kernel_rfl) rfl
    (fun f fn hf hfn => by
      obtain rfl : f = 11 := Option.some.inj ((show Tryz.prog.funcNamed "cottonpad/cottonpadlaw09.OriginLater" = some 11 by kernel_rfl).symm.trans hf) |>.symm
      obtain rfl : fn = Tryz.f11 := (Option.some.inj (Tryz.func11.symm.trans hfn)).symm
      exact ⟨by kernel_rfl, fun j t ht => by
        have hm : t ∈ Tryz.f11.params.toList := by simpa using Array.mem_of_getElem? ht
        have hall : (Tryz.f11.params.toList.all fun u => !Tryz.prog.wantsStandIn u) = true := by kernel_rfl
        exact (show Tryz.prog.wantsStandIn t = false by simpa using List.all_eq_true.1 hall t hm)⟩)
    (by kernel_rfl)
end Go.Proofs.YtjoagmjijbfjkaaGreatDoor
