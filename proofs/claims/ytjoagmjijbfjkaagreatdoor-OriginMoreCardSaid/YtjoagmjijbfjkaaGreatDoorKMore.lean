/-
  THE LAW 'OriginMore': for every scene, mark more and number of a room the call returns true (with a mark more no room and no minute is added; one that is so in all truths takes none away; marks under other Ids, in another order, tell the same); the arguments read as before. No condition beyond the listed variables, which the card ties to the program's text.
-/
import Derived.Test.YtjoagmjijbfjkaaGreatDoorC9
import Derived.Test.YtjoagmjijbfjkaaGreatDoorWM
namespace Go.Proofs.YtjoagmjijbfjkaaGreatDoor
open Go Go.Am
open Go.ChangeShapes Go.WideShapes Go.ChangeAt Go.RowKit
set_option maxRecDepth 100000
theorem mkA_of {a : AV} (h : ArgV mkTy a) : ∃ n : Mk, a = .agg (cMk n) := by
  simp only [ArgV] at h
  obtain ⟨l, h, rfl⟩ := h
  obtain ⟨p, rfl⟩ := mk_of (x := l) (by rw [Vals]; exact h)
  exact ⟨p, rfl⟩
theorem originMore_pure : ∀ l, ArgsV [scTy, mkTy, .int .u8] l → APure Tryz.prog 10 l (.bool true) := by
  intro l h
  obtain ⟨a0, r0, rfl, h0, a1, r1, rfl, h1, a2, r2, rfl, h2, hr⟩ := h
  obtain ⟨x0, rfl⟩ := scn_of h0
  obtain ⟨x1, rfl⟩ := mkA_of h1
  obtain ⟨x2, q2, rfl⟩ := u8_of h2
  simp only [ArgsV] at hr
  subst hr
  exact law_more x0 x1 x2 q2
theorem originMore_row_holds : Rows.OriginMoreSaid :=
  OpenClaim.holds_of_wide 10 Tryz.f10 rfl rfl rfl rfl rfl rfl rfl ⟨rfl, rfl, rfl, rfl, rfl⟩ rfl rfl rfl rfl rfl (by kernel_rfl) Tryz.func10 (by kernel_rfl)
    (of_decide_eq_true (by kernel_rfl)) (by unfold Func.isWrapper; first | (rw [if_pos (by decide +kernel)]; kernel_rfl) | (rw [if_neg (by decide +kernel)]; exact ⟨rfl, rfl⟩))
    (fun os started H enc _ => handed_of_pure_and (C := Tryz.checked) (s := Rows.originMoreSpec) (tb := 4) (Ts := [scTy, mkTy, .int .u8]) (X := fun w _ => laidMetH Tryz.prog Rows.originMoreRow.laid w) (fun _ _ _ hh h => h.of_heap hh) Tryz.own started (by kernel_rfl) Tryz.func10
      (ChangeSpec.witness_at (enc := enc) (C := Tryz.checked) (os := os) (X := fun w _ => laidMetH Tryz.prog Rows.originMoreRow.laid w) false (laidWorld os) #[.agg #[.int .i64 0, .slice none 0 0, .int .i64 0, .slice none 0 0], .agg #[.int .i64 0, .int .u8 0, .int .i64 0, .int .i64 0, .int .i64 0, .int .i64 0, .int .i64 0], .int .u8 0] 9 rfl (by kernel_rfl) (by kernel_rfl) (by kernel_rfl) (by kernel_rfl) (by kernel_rfl) (laidWorld_met os _))
      rfl (fun ds hd => by
        rcases ds with _ | ⟨d1, _ | ⟨d2, _ | ⟨d3, _ | ⟨d4, ds⟩⟩⟩⟩ <;> first | rfl | (simp at hd; done)) Tryz.laidOut (by kernel_rfl) rfl (by kernel_rfl) (by kernel_rfl) originMore_pure (fun _ _ h => globs h))
theorem originMore_card_holds : Rows.OriginMoreCardSaid :=
  Claim7.holds_tied_plain_at .later [] [.data, .data, .data] true (true, "a39fc0d4065f616e86944d2ae9d8945ff951339eb2f82d0cc30e08302187b009") false
    originMore_row_holds (fun _ h => by cases h) (by kernel_rfl) (fun _ h => by cases h) originMore_row_tie rfl ⟨rfl, rfl⟩ (by kernel_rfl) rfl
    (fun f fn hf hfn => by
      obtain rfl : f = 10 := Option.some.inj ((show Tryz.prog.funcNamed "cottonpad/cottonpadlaw09.OriginMore" = some 10 by kernel_rfl).symm.trans hf) |>.symm
      obtain rfl : fn = Tryz.f10 := (Option.some.inj (Tryz.func10.symm.trans hfn)).symm
      exact ⟨by kernel_rfl, fun j t ht => by
        have hm : t ∈ Tryz.f10.params.toList := by simpa using Array.mem_of_getElem? ht
        have hall : (Tryz.f10.params.toList.all fun u => !Tryz.prog.wantsStandIn u) = true := by kernel_rfl
        exact (show Tryz.prog.wantsStandIn t = false by simpa using List.all_eq_true.1 hall t hm)⟩)
    (by kernel_rfl)
end Go.Proofs.YtjoagmjijbfjkaaGreatDoor
