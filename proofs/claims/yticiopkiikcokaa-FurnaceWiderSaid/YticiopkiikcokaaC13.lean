import Derived.Test.YticiopkiikcokaaPp
import Derived.Test.YticiopkiikcokaaPT
/-
  THE LAW 'FurnaceWider': for every run, rules and list of choices the call returns true (wider errors and lags leave every limit that was left, and none surely that was not); the arguments read as before. No condition beyond the statement's own.
-/
namespace Go.Proofs.Yticiopkiikcokaa
open Go Go.Am
open Go.ChangeShapes Go.WideShapes Go.ChangeAt Go.RowKit
theorem u32_list : ∀ xs : List (List AV), (∀ x ∈ xs, Vals (.int .u32) x) → ∃ y : List Int, xs = y.map encU ∧ ∀ x ∈ y, 0 ≤ x ∧ x < 4294967296 := by
  intro xs
  induction xs with
  | nil => intro _; exact ⟨[], rfl, fun x h => by cases h⟩
  | cons x xs ih =>
    intro h
    obtain ⟨l, rfl, hl⟩ := ih fun y hy => h y (List.mem_cons_of_mem _ hy)
    have hx := h x List.mem_cons_self
    simp only [Vals] at hx
    obtain ⟨n, rfl, h1, h2⟩ := hx
    have e1 : IntKind.min .u32 = 0 := by decide
    have e2 : IntKind.max .u32 = 4294967295 := by decide
    refine ⟨n :: l, rfl, fun z hz => ?_⟩
    rcases List.mem_cons.1 hz with rfl | hz
    · omega
    · exact hl z hz
theorem u32s_of {a : AV} (h : ArgV (.slice 1 (.int .u32)) a) : ∃ y : List Int, a = .lst 1 (y.map encU) ∧ ∀ x ∈ y, 0 ≤ x ∧ x < 4294967296 := by
  simp only [ArgV] at h
  rw [Vals] at h
  obtain ⟨xs, h, _, hx⟩ := h
  obtain rfl := List.cons.inj h |>.1
  obtain ⟨y, rfl, hy⟩ := u32_list xs hx
  exact ⟨y, rfl, hy⟩
theorem furnaceWider_pure : ∀ l, ArgsV [runTy, rulesTy, .slice 1 (.int .u32)] l → APure Try.prog 10 l (.bool true) := by
  intro l h
  obtain ⟨a, r, rfl, ha, b, r', rfl, hb, c, r2, rfl, hc, hr⟩ := h
  obtain ⟨r0, rfl⟩ := run_of ha
  obtain ⟨u0, rfl⟩ := rules_of hb
  obtain ⟨y, rfl, hy⟩ := u32s_of hc
  simp only [ArgsV] at hr
  subst hr
  exact law10 r0 u0 y hy
set_option maxRecDepth 100000 in
theorem furnaceWider_holds : Rows.FurnaceWiderSaid :=
  OpenClaim.holds_of_wide 10 Try.f10 rfl rfl rfl rfl rfl rfl rfl ⟨rfl, rfl, rfl, rfl, rfl⟩ rfl rfl rfl rfl rfl (by kernel_rfl) Try.func10 (by kernel_rfl)
    (of_decide_eq_true (by kernel_rfl)) (by unfold Func.isWrapper; first | (rw [if_pos (by decide +kernel)]; kernel_rfl) | (rw [if_neg (by decide +kernel)]; exact ⟨rfl, rfl⟩))
    (fun os started H enc _ => handed_of_pure (C := Try.checked) (s := Rows.furnaceWiderSpec) (tb := 4) (Ts := [runTy, rulesTy, .slice 1 (.int .u32)]) Try.own started (by kernel_rfl) Try.func10
      (ChangeSpec.witness6 (enc := enc) (C := Try.checked) false ⟨#[], #[.agg #[.int .i64 0, .slice none 0 0, .slice none 0 0, .slice none 0 0, .int .i64 0, .int .i64 0], .agg #[.slice none 0 0, .int .i64 0, .int .i64 0, .int .i64 0, .int .i64 0, .int .i64 0], .slice none 0 0], []⟩ 9 (by kernel_rfl) (by kernel_rfl) (by kernel_rfl) (by kernel_rfl))
      rfl (fun ds hd => by
        rcases ds with _ | ⟨d1, _ | ⟨d2, _ | ⟨d3, _ | ⟨d4, ds⟩⟩⟩⟩ <;> first | rfl | (simp at hd; done)) Try.laidOut (by kernel_rfl) rfl (by kernel_rfl) (by kernel_rfl) furnaceWider_pure)
end Go.Proofs.Yticiopkiikcokaa
