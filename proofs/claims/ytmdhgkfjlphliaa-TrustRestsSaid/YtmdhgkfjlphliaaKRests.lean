/-
  THE LAW 'TrustRests': for all records, letters, a day and an Id the call returns true (what a record rests on, and causes, are as the reference says); the arguments read as before. No condition beyond the statement's own.
-/
import Derived.Test.YtmdhgkfjlphliaaRows
import Derived.Test.YtmdhgkfjlphliaaAm16
import Derived.Test.YtmdhgkfjlphliaaCb
import Derived.Test.YtmdhgkfjlphliaaLS
namespace Go.Proofs.Ytmdhgkfjlphliaa
open Go Go.Am
open Go.ChangeShapes Go.WideShapes Go.ChangeAt Go.RowKit
theorem i64_of {a : AV} (h : ArgV (.int .i64) a) : ∃ n : Int, a = .int .i64 n := by
  simp only [ArgV] at h
  obtain ⟨n, e⟩ := i_of h
  exact ⟨n, List.cons.inj e |>.1⟩
theorem trustRests_pure : ∀ l, ArgsV [recsTy, letsTy, .int .i64, .int .i64] l → APure Try.prog 4 l (.bool true) := by
  intro l h
  obtain ⟨a, q0, rfl, ha, b, q1, rfl, hb, c, q2, rfl, hc, d, q3, rfl, hd, hr⟩ := h
  obtain ⟨r, rfl⟩ := recs_of ha
  obtain ⟨l, rfl, _⟩ := lets_of hb
  obtain ⟨d, rfl⟩ := i64_of hc
  obtain ⟨e, rfl⟩ := i64_of hd
  simp only [ArgsV] at hr
  subst hr
  exact law_rests r l d e
set_option maxRecDepth 100000 in
theorem trustRests_holds : Rows.TrustRestsSaid :=
  OpenClaim.holds_of_wide 4 Try.f4 rfl rfl rfl rfl rfl rfl rfl ⟨rfl, rfl, rfl, rfl, rfl⟩ rfl rfl rfl rfl rfl (by kernel_rfl) Try.func4 (by kernel_rfl)
    (of_decide_eq_true (by kernel_rfl)) (by unfold Func.isWrapper; first | (rw [if_pos (by decide +kernel)]; kernel_rfl) | (rw [if_neg (by decide +kernel)]; exact ⟨rfl, rfl⟩))
    (fun os started H enc _ => handed_of_pure (C := Try.checked) (s := Rows.trustRestsSpec) (tb := 4) (Ts := [recsTy, letsTy, .int .i64, .int .i64]) Try.own started (by kernel_rfl) Try.func4
      (ChangeSpec.witness6 (enc := enc) (C := Try.checked) false ⟨#[], #[.slice none 0 0, .slice none 0 0, .int .i64 0, .int .i64 0], []⟩ 9 (by kernel_rfl) (by kernel_rfl) (by kernel_rfl) (by kernel_rfl))
      rfl (fun ds hd => by
        rcases ds with _ | ⟨d1, _ | ⟨d2, _ | ⟨d3, _ | ⟨d4, _ | ⟨d5, ds⟩⟩⟩⟩⟩ <;> first | rfl | (simp at hd; done)) Try.laidOut (by kernel_rfl) rfl (by kernel_rfl) (by kernel_rfl) trustRests_pure (fun _ => rfl))
end Go.Proofs.Ytmdhgkfjlphliaa
