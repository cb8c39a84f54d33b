/-
  THE LAW 'TrustRecall': for all records, letters, moves and numbers the call returns true (batches are called back that do not hold); the arguments read as before. No condition beyond the statement's own.
-/
import Derived.Test.YtmdhgkfjlphliaaGreatRows
import Derived.Test.YtmdhgkfjlphliaaGreatAm16
import Derived.Test.YtmdhgkfjlphliaaGreatCb
import Derived.Test.YtmdhgkfjlphliaaGreatLR
namespace Go.Proofs.YtmdhgkfjlphliaaGreat
open Go Go.Am
open Go.ChangeShapes Go.WideShapes Go.ChangeAt Go.RowKit
theorem trustRecall_pure : ∀ l, ArgsV [recsTy, letsTy, movsTy, .int .u32, .int .u8] l → APure Tryz.prog 8 l (.bool true) := by
  intro l h
  obtain ⟨a, q0, rfl, ha, b, q1, rfl, hb, c, q2, rfl, hc, d, q3, rfl, hd, e, q4, rfl, he, hr⟩ := h
  obtain ⟨r, rfl⟩ := recs_of ha
  obtain ⟨l, rfl, _⟩ := lets_of hb
  obtain ⟨m, rfl⟩ := movs_of hc
  obtain ⟨n, hn, rfl⟩ := u32_of hd
  obtain ⟨k, hk, rfl⟩ := u8_of he
  simp only [ArgsV] at hr
  subst hr
  exact law_recall r l m n k hn hk
set_option maxRecDepth 100000 in
theorem trustRecall_holds : Rows.TrustRecallSaid :=
  OpenClaim.holds_of_wide 8 Tryz.f8 rfl rfl rfl rfl rfl rfl rfl ⟨rfl, rfl, rfl, rfl, rfl⟩ rfl rfl rfl rfl rfl (by kernel_rfl) Tryz.func8 (by kernel_rfl)
    (of_decide_eq_true (by kernel_rfl)) (by unfold Func.isWrapper; first | (rw [if_pos (by decide +kernel)]; kernel_rfl) | (rw [if_neg (by decide +kernel)]; exact ⟨rfl, rfl⟩))
    (fun os started H enc _ => handed_of_pure (C := Tryz.checked) (s := Rows.trustRecallSpec) (tb := 4) (Ts := [recsTy, letsTy, movsTy, .int .u32, .int .u8]) Tryz.own started (by kernel_rfl) Tryz.func8
      (ChangeSpec.witness6 (enc := enc) (C := Tryz.checked) false ⟨#[], #[.slice none 0 0, .slice none 0 0, .slice none 0 0, .int .u32 0, .int .u8 0], []⟩ 9 (by kernel_rfl) (by kernel_rfl) (by kernel_rfl) (by kernel_rfl))
      rfl (fun ds hd => by
        rcases ds with _ | ⟨d1, _ | ⟨d2, _ | ⟨d3, _ | ⟨d4, _ | ⟨d5, _ | ⟨d6, ds⟩⟩⟩⟩⟩⟩ <;> first | rfl | (simp at hd; done)) Tryz.laidOut (by kernel_rfl) rfl (by kernel_rfl) (by kernel_rfl) trustRecall_pure (fun _ => rfl))
end Go.Proofs.YtmdhgkfjlphliaaGreat
