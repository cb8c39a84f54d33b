/-
  THE LAW 'TrustBalance': for all records, moves and how they are turned the call returns true (batches and drawings balance by number); the arguments read as before. No condition beyond the statement's own.
-/
import Derived.Test.YtmdhgkfjlphliaaGreatRows
import Derived.Test.YtmdhgkfjlphliaaGreatAm16
import Derived.Test.YtmdhgkfjlphliaaGreatCb
import Derived.Test.YtmdhgkfjlphliaaGreatLB
namespace Go.Proofs.YtmdhgkfjlphliaaGreat
open Go Go.Am
open Go.ChangeShapes Go.WideShapes Go.ChangeAt Go.RowKit
theorem trustBalance_pure : ∀ l, ArgsV [recsTy, movsTy, .int .u8] l → APure Tryz.prog 7 l (.bool true) := by
  intro l h
  obtain ⟨a, q0, rfl, ha, b, q1, rfl, hb, c, q2, rfl, hc, hr⟩ := h
  obtain ⟨r, rfl⟩ := recs_of ha
  obtain ⟨m, rfl⟩ := movs_of hb
  obtain ⟨k, hk, rfl⟩ := u8_of hc
  simp only [ArgsV] at hr
  subst hr
  exact law_balance r m k hk
set_option maxRecDepth 100000 in
theorem trustBalance_holds : Rows.TrustBalanceSaid :=
  OpenClaim.holds_of_wide 7 Tryz.f7 rfl rfl rfl rfl rfl rfl rfl ⟨rfl, rfl, rfl, rfl, rfl⟩ rfl rfl rfl rfl rfl (by kernel_rfl) Tryz.func7 (by kernel_rfl)
    (of_decide_eq_true (by kernel_rfl)) (by unfold Func.isWrapper; first | (rw [if_pos (by decide +kernel)]; kernel_rfl) | (rw [if_neg (by decide +kernel)]; exact ⟨rfl, rfl⟩))
    (fun os started H enc _ => handed_of_pure (C := Tryz.checked) (s := Rows.trustBalanceSpec) (tb := 4) (Ts := [recsTy, movsTy, .int .u8]) Tryz.own started (by kernel_rfl) Tryz.func7
      (ChangeSpec.witness6 (enc := enc) (C := Tryz.checked) false ⟨#[], #[.slice none 0 0, .slice none 0 0, .int .u8 0], []⟩ 9 (by kernel_rfl) (by kernel_rfl) (by kernel_rfl) (by kernel_rfl))
      rfl (fun ds hd => by
        rcases ds with _ | ⟨d1, _ | ⟨d2, _ | ⟨d3, _ | ⟨d4, ds⟩⟩⟩⟩ <;> first | rfl | (simp at hd; done)) Tryz.laidOut (by kernel_rfl) rfl (by kernel_rfl) (by kernel_rfl) trustBalance_pure (fun _ => rfl))
end Go.Proofs.YtmdhgkfjlphliaaGreat
