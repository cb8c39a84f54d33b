/-
  THE LAW 'FurnaceBefore': for every run, rules and byte the call returns true (rows that are cut off change nothing of what was told of more than three minutes before); the arguments read as before. No condition beyond the statement's own.
-/
import Derived.Test.YticiopkiikcokaaPp
import Derived.Test.YticiopkiikcokaaPx
namespace Go.Proofs.Yticiopkiikcokaa
open Go Go.Am
open Go.ChangeShapes Go.WideShapes Go.ChangeAt Go.RowKit
theorem byte_of9 {a : AV} (h : ArgV (.int .u8) a) : ∃ n : Int, a = .int .u8 n ∧ 0 ≤ n ∧ n ≤ 255 := by
  simp only [ArgV, Vals] at h
  obtain ⟨n, h, h1, h2⟩ := h
  obtain rfl := List.cons.inj h |>.1
  have e1 : IntKind.min .u8 = 0 := by decide
  have e2 : IntKind.max .u8 = 255 := by decide
  exact ⟨n, rfl, by omega, by omega⟩
theorem furnaceBefore_pure : ∀ l, ArgsV [runTy, rulesTy, .int .u8] l → APure Try.prog 9 l (.bool true) := by
  intro l h
  obtain ⟨a, r, rfl, ha, b, r', rfl, hb, c, r2, rfl, hc, hr⟩ := h
  obtain ⟨r0, rfl⟩ := run_of ha
  obtain ⟨u0, rfl⟩ := rules_of hb
  obtain ⟨m, rfl, m1, m2⟩ := byte_of9 hc
  simp only [ArgsV] at hr
  subst hr
  exact law9 r0 u0 m m1 m2
set_option maxRecDepth 100000 in
theorem furnaceBefore_holds : Rows.FurnaceBeforeSaid :=
  OpenClaim.holds_of_wide 9 Try.f9 rfl rfl rfl rfl rfl rfl rfl ⟨rfl, rfl, rfl, rfl, rfl⟩ rfl rfl rfl rfl rfl (by kernel_rfl) Try.func9 (by kernel_rfl)
    (of_decide_eq_true (by kernel_rfl)) (by unfold Func.isWrapper; first | (rw [if_pos (by decide +kernel)]; kernel_rfl) | (rw [if_neg (by decide +kernel)]; exact ⟨rfl, rfl⟩))
    (fun os started H enc _ => handed_of_pure (C := Try.checked) (s := Rows.furnaceBeforeSpec) (tb := 4) (Ts := [runTy, rulesTy, .int .u8]) Try.own started (by kernel_rfl) Try.func9
      (ChangeSpec.witness6 (enc := enc) (C := Try.checked) false ⟨#[], #[.agg #[.int .i64 0, .slice none 0 0, .slice none 0 0, .slice none 0 0, .int .i64 0, .int .i64 0], .agg #[.slice none 0 0, .int .i64 0, .int .i64 0, .int .i64 0, .int .i64 0, .int .i64 0], .int .u8 0], []⟩ 9 (by kernel_rfl) (by kernel_rfl) (by kernel_rfl) (by kernel_rfl))
      rfl (fun ds hd => by
        rcases ds with _ | ⟨d1, _ | ⟨d2, _ | ⟨d3, _ | ⟨d4, ds⟩⟩⟩⟩ <;> first | rfl | (simp at hd; done)) Try.laidOut (by kernel_rfl) rfl (by kernel_rfl) (by kernel_rfl) furnaceBefore_pure)
end Go.Proofs.Yticiopkiikcokaa
