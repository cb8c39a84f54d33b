import Derived.Test.YtmllgnnhblhfeaaDoorW3
/-
  THE REFERENCE: which scenes are valid.
-/
namespace Go.Proofs.YtmllgnnhblhfeaaDoor
open Go Go.Am
set_option maxRecDepth 100000
set_option maxHeartbeats 4000000
theorem rwithin_spec (x lo hi : Int) : APure Tryd.prog 16 [.int .i64 x, .int .i64 lo, .int .i64 hi] (.bool (inB lo hi x)) :=
  APure.vc Tryd.func16 rfl (.both 10 .nil .nil) rfl rfl ⟨fun h => rB (inB_t1 h), fun h => rB (inB_f1 h).symm⟩
theorem wr_spec (s : Scn) (x : Int) (h : -1000000 ≤ s.rooms ∧ s.rooms ≤ 1000000) : APure Tryd.prog 16 [.int .i64 x, .int .i64 0, .int .i64 (IntKind.i64.wrap (s.rooms - 1))] (.bool (isR s.rooms x)) := by
  have w := rwithin_spec x 0 (IntKind.i64.wrap (s.rooms - 1))
  have e : inB 0 (IntKind.i64.wrap (s.rooms - 1)) x = isR s.rooms x := by rw [wrap64 (by omega) (by omega)]; rfl
  rw [e] at w; exact w
theorem m123 (x lo hi l : Int) : (x == 0 && (spanB 600 lo hi && l == 0)) = (x == 0 && (l == 0 && (inB 0 hi lo && decide (hi ≤ 600)))) := by
  rw [Bool.eq_iff_iff]; simp only [spanB, inB, Bool.and_eq_true, beq_iff_eq, decide_eq_true_eq]; omega
theorem m45 (x lo hi l : Int) : (x == 0 && ((lo == 0 && hi == 0) && inB 0 600 l)) = (x == 0 && ((lo == 0 && hi == 0) && inB 0 600 l)) := rfl
theorem m6 (n r x lo hi l : Int) : ((isR n x && !(x == r)) && ((lo == 0 && hi == 0) && l == 0)) = ((lo == 0 && hi == 0) && (l == 0 && (isR n x && x != r))) := by
  rw [Bool.eq_iff_iff]; simp only [Bool.and_eq_true, beq_iff_eq, bne_iff_ne, Bool.not_eq_true', beq_eq_false_iff_ne, ne_eq]
  exact ⟨fun h => ⟨h.2.1, h.2.2, h.1⟩, fun h => ⟨h.2.2, h.1, h.2.1⟩⟩
theorem mark1 (s : Scn) (hsr : -1000000 ≤ s.rooms ∧ s.rooms ≤ 1000000) (i r x lo hi l : Int) (hi1 : inB 0 9999 i = true) (hr1 : isR s.rooms r = true) : APure Tryd.prog 31 [encSc s, .agg (cMj i 1 r x lo hi l)] (.bool (x == 0 && (spanB 600 lo hi && l == 0))) := by
  have w1 := rwithin_spec i 0 9999
  have w2 := wr_spec s r hsr
  have w3 := rwithin_spec lo 0 hi
  have ne := eqSs lo hi 0 0
  rw [hi1] at w1
  rw [hr1] at w2
  rw [m123]
  cases h1 : (x == 0)
  · exact APure.vc Tryd.func31 rfl (.call (.bool true) <| .call (.bool true) <| .val 22 (.bool (lo == 0 && hi == 0)) [] <| .br 32 false .nil) rfl rfl ⟨w1, w2, Eq.trans (by kernel_rfl) ne, h1, rB rfl⟩
  · cases h2 : (l == 0)
    · exact APure.vc Tryd.func31 rfl (.call (.bool true) <| .call (.bool true) <| .val 22 (.bool (lo == 0 && hi == 0)) [] <| .br 32 true <| .br 37 false .nil) rfl rfl ⟨w1, w2, Eq.trans (by kernel_rfl) ne, h1, h2, rB rfl⟩
    · cases h3 : inB 0 hi lo
      · rw [h3] at w3
        exact APure.vc Tryd.func31 rfl (.call (.bool true) <| .call (.bool true) <| .val 22 (.bool (lo == 0 && hi == 0)) [] <| .br 32 true <| .br 37 true <| .call (.bool false) .nil) rfl rfl ⟨w1, w2, Eq.trans (by kernel_rfl) ne, h1, h2, w3, rB rfl⟩
      · rw [h3] at w3
        exact APure.vc Tryd.func31 rfl (.call (.bool true) <| .call (.bool true) <| .val 22 (.bool (lo == 0 && hi == 0)) [] <| .br 32 true <| .br 37 true <| .call (.bool true) .nil) rfl rfl ⟨w1, w2, Eq.trans (by kernel_rfl) ne, h1, h2, w3, rB rfl⟩
theorem mark2 (s : Scn) (hsr : -1000000 ≤ s.rooms ∧ s.rooms ≤ 1000000) (i r x lo hi l : Int) (hi1 : inB 0 9999 i = true) (hr1 : isR s.rooms r = true) : APure Tryd.prog 31 [encSc s, .agg (cMj i 2 r x lo hi l)] (.bool (x == 0 && (spanB 600 lo hi && l == 0))) := by
  have w1 := rwithin_spec i 0 9999
  have w2 := wr_spec s r hsr
  have w3 := rwithin_spec lo 0 hi
  have ne := eqSs lo hi 0 0
  rw [hi1] at w1
  rw [hr1] at w2
  rw [m123]
  cases h1 : (x == 0)
  · exact APure.vc Tryd.func31 rfl (.call (.bool true) <| .call (.bool true) <| .val 22 (.bool (lo == 0 && hi == 0)) [] <| .br 32 false .nil) rfl rfl ⟨w1, w2, Eq.trans (by kernel_rfl) ne, h1, rB rfl⟩
  · cases h2 : (l == 0)
    · exact APure.vc Tryd.func31 rfl (.call (.bool true) <| .call (.bool true) <| .val 22 (.bool (lo == 0 && hi == 0)) [] <| .br 32 true <| .br 37 false .nil) rfl rfl ⟨w1, w2, Eq.trans (by kernel_rfl) ne, h1, h2, rB rfl⟩
    · cases h3 : inB 0 hi lo
      · rw [h3] at w3
        exact APure.vc Tryd.func31 rfl (.call (.bool true) <| .call (.bool true) <| .val 22 (.bool (lo == 0 && hi == 0)) [] <| .br 32 true <| .br 37 true <| .call (.bool false) .nil) rfl rfl ⟨w1, w2, Eq.trans (by kernel_rfl) ne, h1, h2, w3, rB rfl⟩
      · rw [h3] at w3
        exact APure.vc Tryd.func31 rfl (.call (.bool true) <| .call (.bool true) <| .val 22 (.bool (lo == 0 && hi == 0)) [] <| .br 32 true <| .br 37 true <| .call (.bool true) .nil) rfl rfl ⟨w1, w2, Eq.trans (by kernel_rfl) ne, h1, h2, w3, rB rfl⟩
theorem mark3 (s : Scn) (hsr : -1000000 ≤ s.rooms ∧ s.rooms ≤ 1000000) (i r x lo hi l : Int) (hi1 : inB 0 9999 i = true) (hr1 : isR s.rooms r = true) : APure Tryd.prog 31 [encSc s, .agg (cMj i 3 r x lo hi l)] (.bool (x == 0 && (spanB 600 lo hi && l == 0))) := by
  have w1 := rwithin_spec i 0 9999
  have w2 := wr_spec s r hsr
  have w3 := rwithin_spec lo 0 hi
  have ne := eqSs lo hi 0 0
  rw [hi1] at w1
  rw [hr1] at w2
  rw [m123]
  cases h1 : (x == 0)
  · exact APure.vc Tryd.func31 rfl (.call (.bool true) <| .call (.bool true) <| .val 22 (.bool (lo == 0 && hi == 0)) [] <| .br 32 false .nil) rfl rfl ⟨w1, w2, Eq.trans (by kernel_rfl) ne, h1, rB rfl⟩
  · cases h2 : (l == 0)
    · exact APure.vc Tryd.func31 rfl (.call (.bool true) <| .call (.bool true) <| .val 22 (.bool (lo == 0 && hi == 0)) [] <| .br 32 true <| .br 37 false .nil) rfl rfl ⟨w1, w2, Eq.trans (by kernel_rfl) ne, h1, h2, rB rfl⟩
    · cases h3 : inB 0 hi lo
      · rw [h3] at w3
        exact APure.vc Tryd.func31 rfl (.call (.bool true) <| .call (.bool true) <| .val 22 (.bool (lo == 0 && hi == 0)) [] <| .br 32 true <| .br 37 true <| .call (.bool false) .nil) rfl rfl ⟨w1, w2, Eq.trans (by kernel_rfl) ne, h1, h2, w3, rB rfl⟩
      · rw [h3] at w3
        exact APure.vc Tryd.func31 rfl (.call (.bool true) <| .call (.bool true) <| .val 22 (.bool (lo == 0 && hi == 0)) [] <| .br 32 true <| .br 37 true <| .call (.bool true) .nil) rfl rfl ⟨w1, w2, Eq.trans (by kernel_rfl) ne, h1, h2, w3, rB rfl⟩
theorem mark4 (s : Scn) (hsr : -1000000 ≤ s.rooms ∧ s.rooms ≤ 1000000) (i r x lo hi l : Int) (hi1 : inB 0 9999 i = true) (hr1 : isR s.rooms r = true) : APure Tryd.prog 31 [encSc s, .agg (cMj i 4 r x lo hi l)] (.bool (x == 0 && ((lo == 0 && hi == 0) && inB 0 600 l))) := by
  have w1 := rwithin_spec i 0 9999
  have w2 := wr_spec s r hsr
  have w3 := rwithin_spec l 0 600
  have ne := eqSs lo hi 0 0
  rw [hi1] at w1
  rw [hr1] at w2
  cases h1 : (x == 0)
  · exact APure.vc Tryd.func31 rfl (.call (.bool true) <| .call (.bool true) <| .val 22 (.bool (lo == 0 && hi == 0)) [] <| .br 58 false .nil) rfl rfl ⟨w1, w2, Eq.trans (by kernel_rfl) ne, h1, rB rfl⟩
  · cases h2 : (lo == 0 && hi == 0)
    · rw [h2] at ne
      exact APure.vc Tryd.func31 rfl (.call (.bool true) <| .call (.bool true) <| .val 22 (.bool false) [] <| .br 58 true .nil) rfl rfl ⟨w1, w2, Eq.trans (by kernel_rfl) ne, h1, rB rfl⟩
    · rw [h2] at ne
      exact APure.vc Tryd.func31 rfl (.call (.bool true) <| .call (.bool true) <| .val 22 (.bool true) [] <| .br 58 true <| .call (.bool (inB 0 600 l)) .nil) rfl rfl ⟨w1, w2, Eq.trans (by kernel_rfl) ne, h1, w3, rB rfl⟩
theorem mark5 (s : Scn) (hsr : -1000000 ≤ s.rooms ∧ s.rooms ≤ 1000000) (i r x lo hi l : Int) (hi1 : inB 0 9999 i = true) (hr1 : isR s.rooms r = true) : APure Tryd.prog 31 [encSc s, .agg (cMj i 5 r x lo hi l)] (.bool (x == 0 && ((lo == 0 && hi == 0) && inB 0 600 l))) := by
  have w1 := rwithin_spec i 0 9999
  have w2 := wr_spec s r hsr
  have w3 := rwithin_spec l 0 600
  have ne := eqSs lo hi 0 0
  rw [hi1] at w1
  rw [hr1] at w2
  cases h1 : (x == 0)
  · exact APure.vc Tryd.func31 rfl (.call (.bool true) <| .call (.bool true) <| .val 22 (.bool (lo == 0 && hi == 0)) [] <| .br 58 false .nil) rfl rfl ⟨w1, w2, Eq.trans (by kernel_rfl) ne, h1, rB rfl⟩
  · cases h2 : (lo == 0 && hi == 0)
    · rw [h2] at ne
      exact APure.vc Tryd.func31 rfl (.call (.bool true) <| .call (.bool true) <| .val 22 (.bool false) [] <| .br 58 true .nil) rfl rfl ⟨w1, w2, Eq.trans (by kernel_rfl) ne, h1, rB rfl⟩
    · rw [h2] at ne
      exact APure.vc Tryd.func31 rfl (.call (.bool true) <| .call (.bool true) <| .val 22 (.bool true) [] <| .br 58 true <| .call (.bool (inB 0 600 l)) .nil) rfl rfl ⟨w1, w2, Eq.trans (by kernel_rfl) ne, h1, w3, rB rfl⟩
theorem mark6 (s : Scn) (hsr : -1000000 ≤ s.rooms ∧ s.rooms ≤ 1000000) (i r x lo hi l : Int) (hi1 : inB 0 9999 i = true) (hr1 : isR s.rooms r = true) : APure Tryd.prog 31 [encSc s, .agg (cMj i 6 r x lo hi l)] (.bool ((isR s.rooms x && !(x == r)) && ((lo == 0 && hi == 0) && l == 0))) := by
  have w1 := rwithin_spec i 0 9999
  have w2 := wr_spec s r hsr
  have w3 := wr_spec s x hsr
  have ne := eqSs lo hi 0 0
  rw [hi1] at w1
  rw [hr1] at w2
  rw [m6]
  cases h1 : (lo == 0 && hi == 0)
  · rw [h1] at ne
    exact APure.vc Tryd.func31 rfl (.call (.bool true) <| .call (.bool true) <| .val 22 (.bool false) [] <| .nil) rfl rfl ⟨w1, w2, Eq.trans (by kernel_rfl) ne, rB rfl⟩
  · rw [h1] at ne
    cases h2 : (l == 0)
    · exact APure.vc Tryd.func31 rfl (.call (.bool true) <| .call (.bool true) <| .val 22 (.bool true) [] <| .br 74 false .nil) rfl rfl ⟨w1, w2, Eq.trans (by kernel_rfl) ne, h2, rB rfl⟩
    · cases h3 : isR s.rooms x
      · rw [h3] at w3
        exact APure.vc Tryd.func31 rfl (.call (.bool true) <| .call (.bool true) <| .val 22 (.bool true) [] <| .br 74 true <| .call (.bool false) .nil) rfl rfl ⟨w1, w2, Eq.trans (by kernel_rfl) ne, h2, w3, rB rfl⟩
      · rw [h3] at w3
        exact APure.vc Tryd.func31 rfl (.call (.bool true) <| .call (.bool true) <| .val 22 (.bool true) [] <| .br 74 true <| .call (.bool true) .nil) rfl rfl ⟨w1, w2, Eq.trans (by kernel_rfl) ne, h2, w3, rB rfl⟩
theorem mark0 (s : Scn) (hsr : -1000000 ≤ s.rooms ∧ s.rooms ≤ 1000000) (i k r x lo hi l : Int) (hi1 : inB 0 9999 i = true) (hr1 : isR s.rooms r = true) (hk : (k < 1 ∨ k > 6)) : APure Tryd.prog 31 [encSc s, .agg (cMj i k r x lo hi l)] (.bool false) := by
  have w1 := rwithin_spec i 0 9999
  have w2 := wr_spec s r hsr
  have ne := eqSs lo hi 0 0
  rw [hi1] at w1
  rw [hr1] at w2
  have k1 : (k == 1) = false := beq_eq_false_iff_ne.2 (by omega)
  have k2 : (k == 2) = false := beq_eq_false_iff_ne.2 (by omega)
  have k3 : (k == 3) = false := beq_eq_false_iff_ne.2 (by omega)
  have k4 : (k == 4) = false := beq_eq_false_iff_ne.2 (by omega)
  have k5 : (k == 5) = false := beq_eq_false_iff_ne.2 (by omega)
  have k6 : (k == 6) = false := beq_eq_false_iff_ne.2 (by omega)
  exact APure.vc Tryd.func31 rfl (.call (.bool true) <| .call (.bool true) <| .val 22 (.bool (lo == 0 && hi == 0)) [] <| .br 25 false <| .br 25 false <| .br 25 false <| .br 52 false <| .br 52 false <| .br 66 false .nil) rfl rfl ⟨w1, w2, Eq.trans (by kernel_rfl) ne, k1, k2, k3, k4, k5, k6, rB rfl⟩
theorem mark_ok (s : Scn) (hsr : -1000000 ≤ s.rooms ∧ s.rooms ≤ 1000000) (m : Mk) (h1 : inB 0 9999 m.id = true) (h2 : isR s.rooms m.room = true) : APure Tryd.prog 31 [encSc s, .agg (cMk m)] (.bool (usB s.rooms m)) := by
  rw [cMk_eq]
  by_cases k1 : m.kd.val = 1
  · have := mark1 s hsr m.id m.room m.other m.lo m.hi m.long h1 h2
    unfold usB; rw [k1]; exact this
  by_cases k2 : m.kd.val = 2
  · have := mark2 s hsr m.id m.room m.other m.lo m.hi m.long h1 h2
    unfold usB; rw [k2]; exact this
  by_cases k3 : m.kd.val = 3
  · have := mark3 s hsr m.id m.room m.other m.lo m.hi m.long h1 h2
    unfold usB; rw [k3]; exact this
  by_cases k4 : m.kd.val = 4
  · have := mark4 s hsr m.id m.room m.other m.lo m.hi m.long h1 h2
    unfold usB; rw [k4]; exact this
  by_cases k5 : m.kd.val = 5
  · have := mark5 s hsr m.id m.room m.other m.lo m.hi m.long h1 h2
    unfold usB; rw [k5]; exact this
  by_cases k6 : m.kd.val = 6
  · have := mark6 s hsr m.id m.room m.other m.lo m.hi m.long h1 h2
    unfold usB; rw [k6]; exact this
  have := mark0 s hsr m.id m.kd.val m.room m.other m.lo m.hi m.long h1 h2 (by omega)
  have e : usB s.rooms m = false := by
    unfold usB
    rw [if_neg k6, if_neg (by omega), if_neg (by omega)]
  rw [e]; exact this
theorem mark_spec (s : Scn) (hsr : -1000000 ≤ s.rooms ∧ s.rooms ≤ 1000000) (m : Mk) : APure Tryd.prog 31 [encSc s, .agg (cMk m)] (.bool (inB 0 9999 m.id && mkB s.rooms m)) := by
  have w1 := rwithin_spec m.id 0 9999
  have w2 := wr_spec s m.room hsr
  cases h1 : inB 0 9999 m.id
  · rw [h1] at w1
    exact APure.vc Tryd.func31 rfl (.call (.bool false) .nil) rfl rfl ⟨w1, rB rfl⟩
  · rw [h1] at w1
    cases h2 : isR s.rooms m.room
    · rw [h2] at w2
      exact APure.vc Tryd.func31 rfl (.call (.bool true) <| .call (.bool false) .nil) rfl rfl ⟨w1, w2, rB (by unfold mkB; rw [h2]; rfl)⟩
    · have := mark_ok s hsr m h1 h2
      unfold mkB; rw [h2]; exact this
/-! ### a scene -/
theorem gt_ref (n : Int) (g : Gt) : gtB n g = (isR n g.a && (isR n g.b && (!(g.a == g.b) && (inB 0 60 g.lo && (inB g.lo (g.lo + 2) g.hi && !decide (g.hi > 60)))))) := by
  rw [Bool.eq_iff_iff]
  simp only [gtB, spanB, inB, Bool.and_eq_true, Bool.not_eq_true', decide_eq_true_eq, decide_eq_false_iff_not]
  constructor
  · rintro ⟨a, b, c, d, e⟩; exact ⟨a, b, c, by omega, by omega, by omega⟩
  · rintro ⟨a, b, c, d, e, f⟩; exact ⟨a, b, c, by omega, by omega⟩
end Go.Proofs.YtmllgnnhblhfeaaDoor
