/-
  THE LAW 'FurnaceKept': for every run, rules and two bytes the call returns true (whether limits were kept until a minute, and until which one a run counts, follows from what is told of them; later on no more is kept); the arguments read as before. No condition beyond the statement's own.
-/
import Derived.Test.YticiopkiikcokaaPp
import Derived.Test.YticiopkiikcokaaPo
namespace Go.Proofs.Yticiopkiikcokaa
open Go Go.Am
open Go.ChangeShapes Go.WideShapes Go.ChangeAt Go.RowKit
theorem byte_of {a : AV} (h : ArgV (.int .u8) a) : ∃ n : Int, a = .int .u8 n ∧ 0 ≤ n ∧ n ≤ 255 := by
  simp only [ArgV, Vals] at h
  obtain ⟨n, h, h1, h2⟩ := h
  obtain rfl := List.cons.inj h |>.1
  have e1 : IntKind.min .u8 = 0 := by decide
  have e2 : IntKind.max .u8 = 255 := by decide
  exact ⟨n, rfl, by omega, by omega⟩
theorem furnaceKept_pure : ∀ l, ArgsV [runTy, rulesTy, .int .u8, .int .u8] l → APure Try.prog 8 l (.bool true) := by
  intro l h
  obtain ⟨a, r, rfl, ha, b, r', rfl, hb, c, r2, rfl, hc, d, r3, rfl, hd, hr⟩ := h
  obtain ⟨r0, rfl⟩ := run_of ha
  obtain ⟨u0, rfl⟩ := rules_of hb
  obtain ⟨m, rfl, m1, m2⟩ := byte_of hc
  obtain ⟨n, rfl, n1, n2⟩ := byte_of hd
  simp only [ArgsV] at hr
  subst hr
  exact law8 r0 u0 m n m1 m2 n1 n2
set_option maxRecDepth 100000 in
theorem furnaceKept_holds : Rows.FurnaceKeptSaid :=
  OpenClaim.holds_of_wide 8 Try.f8 rfl rfl rfl rfl rfl rfl rfl ⟨rfl, rfl, rfl, rfl, rfl⟩ rfl rfl rfl rfl rfl (by kernel_rfl) Try.func8 (by kernel_rfl)
    (of_decide_eq_true (by kernel_rfl)) (by unfold Func.isWrapper; first | (rw [if_pos (by decide +kernel)]; kernel_rfl) | (rw [if_neg (by decide +kernel)]; exact ⟨rfl, rfl⟩))
    (fun os started H enc _ => handed_of_pure (C := Try.checked) (s := Rows.furnaceKeptSpec) (tb := 4) (Ts := [runTy, rulesTy, .int .u8, .int .u8]) Try.own started (by kernel_rfl) Try.func8
      (ChangeSpec.witness6 (enc := enc) (C := Try.checked) false ⟨#[], #[.agg #[.int .i64 0, .slice none 0 0, .slice none 0 0, .slice none 0 0, .int .i64 0, .int .i64 0], .agg #[.slice none 0 0, .int .i64 0, .int .i64 0, .int .i64 0, .int .i64 0, .int .i64 0], .int .u8 0, .int .u8 0], []⟩ 8 (by kernel_rfl) (by kernel_rfl) (by kernel_rfl) (by kernel_rfl))
      rfl (fun ds hd => by
        rcases ds with _ | ⟨d1, _ | ⟨d2, _ | ⟨d3, _ | ⟨d4, _ | ⟨d5, ds⟩⟩⟩⟩⟩ <;> first | rfl | (simp at hd; done)) Try.laidOut (by kernel_rfl) rfl (by kernel_rfl) (by kernel_rfl) furnaceKept_pure)
end Go.Proofs.Yticiopkiikcokaa
