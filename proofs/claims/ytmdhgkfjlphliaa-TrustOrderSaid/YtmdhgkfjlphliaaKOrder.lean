/-
  THE LAW 'TrustOrder': for all records, letters, how they are turned, and numbers the call returns true (the order of letters does not matter); the arguments read as before. No condition beyond the statement's own.
-/
import Derived.Test.YtmdhgkfjlphliaaRows
import Derived.Test.YtmdhgkfjlphliaaAm16
import Derived.Test.YtmdhgkfjlphliaaCb
import Derived.Test.YtmdhgkfjlphliaaLO
namespace Go.Proofs.Ytmdhgkfjlphliaa
open Go Go.Am
open Go.ChangeShapes Go.WideShapes Go.ChangeAt Go.RowKit
theorem trustOrder_pure : ∀ l, ArgsV [recsTy, letsTy, .int .u8, .int .u32, .int .u8] l → APure Try.prog 7 l (.bool true) := by
  intro l h
  obtain ⟨a, q0, rfl, ha, b, q1, rfl, hb, c, q2, rfl, hc, d, q3, rfl, hd, e, q4, rfl, he, hr⟩ := h
  obtain ⟨r, rfl⟩ := recs_of ha
  obtain ⟨l, rfl, _⟩ := lets_of hb
  obtain ⟨k, hk, rfl⟩ := u8_of hc
  obtain ⟨n, hn, rfl⟩ := u32_of hd
  obtain ⟨k2, hk2, rfl⟩ := u8_of he
  simp only [ArgsV] at hr
  subst hr
  exact law_order r l k n k2 hk hn hk2
set_option maxRecDepth 100000 in
theorem trustOrder_holds : Rows.TrustOrderSaid :=
  OpenClaim.holds_of_wide 7 Try.f7 rfl rfl rfl rfl rfl rfl rfl ⟨rfl, rfl, rfl, rfl, rfl⟩ rfl rfl rfl rfl rfl (by kernel_rfl) Try.func7 (by kernel_rfl)
    (of_decide_eq_true (by kernel_rfl)) (by unfold Func.isWrapper; first | (rw [if_pos (by decide +kernel)]; kernel_rfl) | (rw [if_neg (by decide +kernel)]; exact ⟨rfl, rfl⟩))
    (fun os started H enc _ => handed_of_pure (C := Try.checked) (s := Rows.trustOrderSpec) (tb := 4) (Ts := [recsTy, letsTy, .int .u8, .int .u32, .int .u8]) Try.own started (by kernel_rfl) Try.func7
      (ChangeSpec.witness6 (enc := enc) (C := Try.checked) false ⟨#[], #[.slice none 0 0, .slice none 0 0, .int .u8 0, .int .u32 0, .int .u8 0], []⟩ 9 (by kernel_rfl) (by kernel_rfl) (by kernel_rfl) (by kernel_rfl))
      rfl (fun ds hd => by
        rcases ds with _ | ⟨d1, _ | ⟨d2, _ | ⟨d3, _ | ⟨d4, _ | ⟨d5, _ | ⟨d6, ds⟩⟩⟩⟩⟩⟩ <;> first | rfl | (simp at hd; done)) Try.laidOut (by kernel_rfl) rfl (by kernel_rfl) (by kernel_rfl) trustOrder_pure (fun _ => rfl))
end Go.Proofs.Ytmdhgkfjlphliaa
