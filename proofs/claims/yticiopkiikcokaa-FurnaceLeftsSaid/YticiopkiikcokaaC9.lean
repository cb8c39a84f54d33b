/-
  THE LAW 'FurnaceLefts': for every run, rules and minute the call returns true (the limits that may be broken, whether they were kept until a minute, and until which one a run counts, or the errors, are as the specification's; run and rules stay); the arguments read as before. No condition beyond the statement's own.
-/
import Derived.Test.YticiopkiikcokaaPp
import Derived.Test.YticiopkiikcokaaPu
namespace Go.Proofs.Yticiopkiikcokaa
open Go Go.Am
open Go.ChangeShapes Go.WideShapes Go.ChangeAt Go.RowKit
theorem int_of {a : AV} (h : ArgV (.int .i64) a) : ∃ n : Int, a = .int .i64 n := by
  simp only [ArgV, Vals] at h
  obtain ⟨n, h, _, _⟩ := h
  obtain rfl := List.cons.inj h |>.1
  exact ⟨n, rfl⟩
theorem furnaceLefts_pure : ∀ l, ArgsV [runTy, rulesTy, .int .i64] l → APure Try.prog 4 l (.bool true) := by
  intro l h
  obtain ⟨a, r, rfl, ha, b, r', rfl, hb, c, r2, rfl, hc, hr⟩ := h
  obtain ⟨r0, rfl⟩ := run_of ha
  obtain ⟨u0, rfl⟩ := rules_of hb
  obtain ⟨m, rfl⟩ := int_of hc
  simp only [ArgsV] at hr
  subst hr
  exact law4 r0 u0 m
set_option maxRecDepth 100000 in
theorem furnaceLefts_holds : Rows.FurnaceLeftsSaid :=
  OpenClaim.holds_of_wide 4 Try.f4 rfl rfl rfl rfl rfl rfl rfl ⟨rfl, rfl, rfl, rfl, rfl⟩ rfl rfl rfl rfl rfl (by kernel_rfl) Try.func4 (by kernel_rfl)
    (of_decide_eq_true (by kernel_rfl)) (by unfold Func.isWrapper; first | (rw [if_pos (by decide +kernel)]; kernel_rfl) | (rw [if_neg (by decide +kernel)]; exact ⟨rfl, rfl⟩))
    (fun os started H enc _ => handed_of_pure (C := Try.checked) (s := Rows.furnaceLeftsSpec) (tb := 4) (Ts := [runTy, rulesTy, .int .i64]) Try.own started (by kernel_rfl) Try.func4
      (ChangeSpec.witness6 (enc := enc) (C := Try.checked) false ⟨#[], #[.agg #[.int .i64 0, .slice none 0 0, .slice none 0 0, .slice none 0 0, .int .i64 0, .int .i64 0], .agg #[.slice none 0 0, .int .i64 0, .int .i64 0, .int .i64 0, .int .i64 0, .int .i64 0], .int .i64 0], []⟩ 8 (by kernel_rfl) (by kernel_rfl) (by kernel_rfl) (by kernel_rfl))
      rfl (fun ds hd => by
        rcases ds with _ | ⟨d1, _ | ⟨d2, _ | ⟨d3, _ | ⟨d4, ds⟩⟩⟩⟩ <;> first | rfl | (simp at hd; done)) Try.laidOut (by kernel_rfl) rfl (by kernel_rfl) (by kernel_rfl) furnaceLefts_pure)
end Go.Proofs.Yticiopkiikcokaa
