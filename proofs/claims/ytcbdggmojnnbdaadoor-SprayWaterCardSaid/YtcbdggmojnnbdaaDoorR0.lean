/-
  THE REFERENCE's SMALL FUNCTIONS.
-/
import Derived.Test.YtcbdggmojnnbdaaDoorY1
namespace Go.Proofs.YtcbdggmojnnbdaaDoor
open Go Go.Am
set_option maxRecDepth 100000
set_option maxHeartbeats 4000000
theorem rwithin_spec (n lo hi : Int) : APure Tryd.prog 58 [.int .i64 n, .int .i64 lo, .int .i64 hi] (.bool (inB lo hi n)) := by
  refine APure.vc Tryd.func58 rfl (.both 10 .nil .nil) rfl rfl ⟨fun h => rB ?_, fun h => rB ?_⟩
  all_goals simp at h
  all_goals simp [inB, h]
  all_goals omega
theorem spanned_spec (lo hi m : Int) : APure Tryd.prog 61 [.agg [.int .i64 lo, .int .i64 hi], .int .i64 0, .int .i64 m] (.bool (spB lo hi m)) := by
  refine APure.vc Tryd.func61 rfl (.both 11 (.both 18 .nil .nil) .nil) rfl rfl ⟨fun h => ⟨fun h2 => rB ?_, fun h2 => rB ?_⟩, fun h => rB ?_⟩
  · simp at h h2; exact decide_eq_decide.2 (by omega)
  · simp at h h2; symm; simp [spB]; omega
  · simp at h; symm; simp [spB]; omega
theorem Bulb_spec (h : Hh) : APure Tryd.prog 37 [encHh h] (.bool (bulbB h)) := by
  have s1 := rwithin_spec h.id 0 9999
  have s2 := rwithin_spec h.need 1 500
  have s3 := rwithin_spec h.least 0 100000
  have s4 := spanned_spec h.bLo h.bHi 2000
  have s5 := spanned_spec h.sLo h.sHi 10
  cases h1 : inB 0 9999 h.id
  · rw [h1] at s1
    exact APure.vc Tryd.func37 rfl (.call (.bool false) <| .nil) rfl rfl
      ⟨s1, rB (by simp [bulbB, h1])⟩
  · rw [h1] at s1
    cases h2 : inB 1 500 h.need
    · rw [h2] at s2
      exact APure.vc Tryd.func37 rfl (.call (.bool true) <| .call (.bool false) <| .nil) rfl rfl
        ⟨s1, s2, rB (by simp [bulbB, h1, h2])⟩
    · rw [h2] at s2
      cases h3 : inB 0 100000 h.least
      · rw [h3] at s3
        exact APure.vc Tryd.func37 rfl (.call (.bool true) <| .call (.bool true) <| .call (.bool false) <| .nil) rfl rfl
          ⟨s1, s2, s3, rB (by simp [bulbB, h1, h2, h3])⟩
      · rw [h3] at s3
        cases h4 : spB h.bLo h.bHi 2000
        · rw [h4] at s4
          exact APure.vc Tryd.func37 rfl (.call (.bool true) <| .call (.bool true) <| .call (.bool true) <| .call (.bool false) <| .nil) rfl rfl
            ⟨s1, s2, s3, s4, rB (by simp [bulbB, h1, h2, h3, h4])⟩
        · rw [h4] at s4
          cases h5 : spB h.sLo h.sHi 10
          · rw [h5] at s5
            exact APure.vc Tryd.func37 rfl (.call (.bool true) <| .call (.bool true) <| .call (.bool true) <| .call (.bool true) <| .call (.bool false) <| .nil) rfl rfl
              ⟨s1, s2, s3, s4, s5, rB (by simp [bulbB, h1, h2, h3, h4, h5])⟩
          · rw [h5] at s5
            exact APure.vc Tryd.func37 rfl (.call (.bool true) <| .call (.bool true) <| .call (.bool true) <| .call (.bool true) <| .call (.bool true) <| .nil) rfl rfl
              ⟨s1, s2, s3, s4, s5, rB (by simp [bulbB, h1, h2, h3, h4, h5])⟩
end Go.Proofs.YtcbdggmojnnbdaaDoor
