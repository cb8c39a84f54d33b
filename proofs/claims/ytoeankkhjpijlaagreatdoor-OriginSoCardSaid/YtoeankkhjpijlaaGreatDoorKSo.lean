/-
  THE LAW 'OriginSo': for every scene, number of a room, minute and list of numbers that choose the delays the call returns true (of the marks that are so in this truth: the minute is told, the first truth is no later one, no marks contradict each other, the room is not excluded); the arguments read as before. No condition beyond the listed variables, which the card ties to the program's text.
-/
import Derived.Test.YtoeankkhjpijlaaGreatDoorC9
import Derived.Test.YtoeankkhjpijlaaGreatDoorWR
namespace Go.Proofs.YtoeankkhjpijlaaGreatDoor
open Go Go.Am
open Go.ChangeShapes Go.WideShapes Go.ChangeAt Go.RowKit
set_option maxRecDepth 100000
theorem u32s_list : ∀ xs : List (List AV), (∀ x ∈ xs, Vals (.int .u32) x) → ∃ l : List Int, xs = l.map encU ∧ u32Ok l := by
  intro xs
  induction xs with
  | nil => intro _; exact ⟨[], rfl, fun x hx => by cases hx⟩
  | cons x xs ih =>
    intro h
    have h1 := h x List.mem_cons_self
    simp only [Vals] at h1
    obtain ⟨m, rfl, m1, m2⟩ := h1
    obtain ⟨l, rfl, hl⟩ := ih fun y hy => h y (List.mem_cons_of_mem _ hy)
    have e1 : IntKind.min .u32 = 0 := by decide
    have e2 : IntKind.max .u32 = 4294967295 := by decide
    refine ⟨m :: l, rfl, fun x hx => ?_⟩
    rcases List.mem_cons.1 hx with rfl | hx
    · omega
    · exact hl x hx
theorem u32s_of {a : AV} (h : ArgV (.slice 1 (.int .u32)) a) : ∃ r : List Int, a = .lst 1 (r.map encU) ∧ u32Ok r := by
  simp only [ArgV, Vals] at h
  obtain ⟨xs, h, _, hx⟩ := h
  obtain rfl := List.cons.inj h |>.1
  obtain ⟨l, rfl, hl⟩ := u32s_list xs hx
  exact ⟨l, rfl, hl⟩
theorem originSo_pure : ∀ l, ArgsV [scTy, .int .u8, .int .u16, .slice 1 (.int .u32)] l → APure Tryz.prog 6 l (.bool true) := by
  intro l h
  obtain ⟨a0, r0, rfl, h0, a1, r1, rfl, h1, a2, r2, rfl, h2, a3, r3, rfl, h3, hr⟩ := h
  obtain ⟨x0, rfl⟩ := scn_of h0
  obtain ⟨x1, q1, rfl⟩ := u8_of h1
  obtain ⟨x2, q2, rfl⟩ := u16_of h2
  obtain ⟨x3, rfl, q3⟩ := u32s_of h3
  simp only [ArgsV] at hr
  subst hr
  exact law_so x0 x1 x2 x3 q1 q2 q3
theorem originSo_row_holds : Rows.OriginSoSaid :=
  OpenClaim.holds_of_wide 6 Tryz.f6 rfl rfl rfl rfl rfl rfl rfl ⟨rfl, rfl, rfl, rfl, rfl⟩ rfl rfl rfl rfl rfl (by kernel_rfl) Tryz.func6 (by kernel_rfl)
    (of_decide_eq_true (by kernel_rfl)) (by unfold Func.isWrapper; first | (rw [if_pos (by decide +kernel)]; kernel_rfl) | (rw [if_neg (by decide +kernel)]; exact ⟨rfl, rfl⟩))
    (fun os started H enc _ => handed_of_pure_and (C := Tryz.checked) (s := Rows.originSoSpec) (tb := 4) (Ts := [scTy, .int .u8, .int .u16, .slice 1 (.int .u32)]) (X := fun w _ => laidMetH Tryz.prog Rows.originSoRow.laid w) (fun _ _ _ hh h => h.of_heap hh) Tryz.own started (by kernel_rfl) Tryz.func6
      (ChangeSpec.witness_at (enc := enc) (C := Tryz.checked) (os := os) (X := fun w _ => laidMetH Tryz.prog Rows.originSoRow.laid w) false (laidWorld os) #[.agg #[.int .i64 0, .slice none 0 0, .int .i64 0, .slice none 0 0], .int .u8 0, .int .u16 0, .slice none 0 0] 9 rfl (by kernel_rfl) (by kernel_rfl) (by kernel_rfl) (by kernel_rfl) (by kernel_rfl) (laidWorld_met os _))
      rfl (fun ds hd => by
        rcases ds with _ | ⟨d1, _ | ⟨d2, _ | ⟨d3, _ | ⟨d4, _ | ⟨d5, ds⟩⟩⟩⟩⟩ <;> first | rfl | (simp at hd; done)) Tryz.laidOut (by kernel_rfl) rfl (by kernel_rfl) (by kernel_rfl) originSo_pure (fun _ _ h => globs h))
theorem originSo_card_holds : Rows.OriginSoCardSaid :=
  Claim7.holds_tied_plain_at .later [] [.data, .data, .data] true (true, "a39fc0d4065f616e86944d2ae9d8945ff951339eb2f82d0cc30e08302187b009") false
    originSo_row_holds (fun _ h => by cases h) (by kernel_rfl) (fun _ h => by cases h) originSo_row_tie rfl ⟨rfl, rfl⟩ (by kernel_rfl) rfl
    (fun f fn hf hfn => by
      obtain rfl : f = 6 := Option.some.inj ((show Tryz.prog.funcNamed "cottonpad/cottonpadlaw09.OriginSo" = some 6 by kernel_rfl).symm.trans hf) |>.symm
      obtain rfl : fn = Tryz.f6 := (Option.some.inj (Tryz.func6.symm.trans hfn)).symm
      exact ⟨by kernel_rfl, fun j t ht => by
        have hm : t ∈ Tryz.f6.params.toList := by simpa using Array.mem_of_getElem? ht
        have hall : (Tryz.f6.params.toList.all fun u => !Tryz.prog.wantsStandIn u) = true := by kernel_rfl
        exact (show Tryz.prog.wantsStandIn t = false by simpa using List.all_eq_true.1 hall t hm)⟩)
    (by kernel_rfl)
end Go.Proofs.YtoeankkhjpijlaaGreatDoor
