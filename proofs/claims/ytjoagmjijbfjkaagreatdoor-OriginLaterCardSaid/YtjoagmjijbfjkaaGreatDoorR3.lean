import Derived.Test.YtjoagmjijbfjkaaGreatDoorW4
/-
  THE REFERENCE: which scenes are valid.
-/
namespace Go.Proofs.YtjoagmjijbfjkaaGreatDoor
open Go Go.Am
set_option maxRecDepth 100000
set_option maxHeartbeats 4000000
theorem rwithin_spec (x lo hi : Int) : APure Tryz.prog 54 [.int .i64 x, .int .i64 lo, .int .i64 hi] (.bool (inB lo hi x)) :=
  APure.vc Tryz.func54 rfl (.both 10 .nil .nil) rfl rfl ⟨fun h => rB (inB_t1 h), fun h => rB (inB_f1 h).symm⟩
theorem wr_spec (s : Scn) (x : Int) (h : -1000000 ≤ s.rooms ∧ s.rooms ≤ 1000000) : APure Tryz.prog 54 [.int .i64 x, .int .i64 0, .int .i64 (IntKind.i64.wrap (s.rooms - 1))] (.bool (isR s.rooms x)) := by
  have w := rwithin_spec x 0 (IntKind.i64.wrap (s.rooms - 1))
  have e : inB 0 (IntKind.i64.wrap (s.rooms - 1)) x = isR s.rooms x := by rw [wrap64 (by omega) (by omega)]; rfl
  rw [e] at w; exact w
theorem m123 (x lo hi l : Int) : (x == 0 && (spanB 600 lo hi && l == 0)) = (x == 0 && (l == 0 && (inB 0 hi lo && decide (hi ≤ 600)))) := by
  rw [Bool.eq_iff_iff]; simp only [spanB, inB, Bool.and_eq_true, beq_iff_eq, decide_eq_true_eq]; omega
theorem m45 (x lo hi l : Int) : (x == 0 && ((lo == 0 && hi == 0) && inB 0 600 l)) = (x == 0 && ((lo == 0 && hi == 0) && inB 0 600 l)) := rfl
theorem m6 (n r x lo hi l : Int) : ((isR n x && !(x == r)) && ((lo == 0 && hi == 0) && l == 0)) = ((lo == 0 && hi == 0) && (l == 0 && (isR n x && x != r))) := by
  rw [Bool.eq_iff_iff]; simp only [Bool.and_eq_true, beq_iff_eq, bne_iff_ne, Bool.not_eq_true', beq_eq_false_iff_ne, ne_eq]
  exact ⟨fun h => ⟨h.2.1, h.2.2, h.1⟩, fun h => ⟨h.2.2, h.1, h.2.1⟩⟩
theorem mark1 (s : Scn) (hsr : -1000000 ≤ s.rooms ∧ s.rooms ≤ 1000000) (i r x lo hi l : Int) (hi1 : inB 0 9999 i = true) (hr1 : isR s.rooms r = true) : APure Tryz.prog 81 [encSc s, .agg (cMj i 1 r x lo hi l)] (.bool (x == 0 && (spanB 600 lo hi && l == 0))) := by
  have w1 := rwithin_spec i 0 9999
  have w2 := wr_spec s r hsr
  have w3 := rwithin_spec lo 0 hi
  have ne := eqSs lo hi 0 0
  rw [hi1] at w1
  rw [hr1] at w2
  rw [m123]
  cases h1 : (x == 0)
  · exact APure.vc Tryz.func81 rfl (.call (.bool true) <| .call (.bool true) <| .val 22 (.bool (lo == 0 && hi == 0)) [] <| .br 32 false .nil) rfl rfl ⟨w1, w2, Eq.trans (by kernel_rfl) ne, h1, rB rfl⟩
  · cases h2 : (l == 0)
    · exact APure.vc Tryz.func81 rfl (.call (.bool true) <| .call (.bool true) <| .val 22 (.bool (lo == 0 && hi == 0)) [] <| .br 32 true <| .br 37 false .nil) rfl rfl ⟨w1, w2, Eq.trans (by kernel_rfl) ne, h1, h2, rB rfl⟩
    · cases h3 : inB 0 hi lo
      · rw [h3] at w3
        exact APure.vc Tryz.func81 rfl (.call (.bool true) <| .call (.bool true) <| .val 22 (.bool (lo == 0 && hi == 0)) [] <| .br 32 true <| .br 37 true <| .call (.bool false) .nil) rfl rfl ⟨w1, w2, Eq.trans (by kernel_rfl) ne, h1, h2, w3, rB rfl⟩
      · rw [h3] at w3
        exact APure.vc Tryz.func81 rfl (.call (.bool true) <| .call (.bool true) <| .val 22 (.bool (lo == 0 && hi == 0)) [] <| .br 32 true <| .br 37 true <| .call (.bool true) .nil) rfl rfl ⟨w1, w2, Eq.trans (by kernel_rfl) ne, h1, h2, w3, rB rfl⟩
theorem mark2 (s : Scn) (hsr : -1000000 ≤ s.rooms ∧ s.rooms ≤ 1000000) (i r x lo hi l : Int) (hi1 : inB 0 9999 i = true) (hr1 : isR s.rooms r = true) : APure Tryz.prog 81 [encSc s, .agg (cMj i 2 r x lo hi l)] (.bool (x == 0 && (spanB 600 lo hi && l == 0))) := by
  have w1 := rwithin_spec i 0 9999
  have w2 := wr_spec s r hsr
  have w3 := rwithin_spec lo 0 hi
  have ne := eqSs lo hi 0 0
  rw [hi1] at w1
  rw [hr1] at w2
  rw [m123]
  cases h1 : (x == 0)
  · exact APure.vc Tryz.func81 rfl (.call (.bool true) <| .call (.bool true) <| .val 22 (.bool (lo == 0 && hi == 0)) [] <| .br 32 false .nil) rfl rfl ⟨w1, w2, Eq.trans (by kernel_rfl) ne, h1, rB rfl⟩
  · cases h2 : (l == 0)
    · exact APure.vc Tryz.func81 rfl (.call (.bool true) <| .call (.bool true) <| .val 22 (.bool (lo == 0 && hi == 0)) [] <| .br 32 true <| .br 37 false .nil) rfl rfl ⟨w1, w2, Eq.trans (by kernel_rfl) ne, h1, h2, rB rfl⟩
    · cases h3 : inB 0 hi lo
      · rw [h3] at w3
        exact APure.vc Tryz.func81 rfl (.call (.bool true) <| .call (.bool true) <| .val 22 (.bool (lo == 0 && hi == 0)) [] <| .br 32 true <| .br 37 true <| .call (.bool false) .nil) rfl rfl ⟨w1, w2, Eq.trans (by kernel_rfl) ne, h1, h2, w3, rB rfl⟩
      · rw [h3] at w3
        exact APure.vc Tryz.func81 rfl (.call (.bool true) <| .call (.bool true) <| .val 22 (.bool (lo == 0 && hi == 0)) [] <| .br 32 true <| .br 37 true <| .call (.bool true) .nil) rfl rfl ⟨w1, w2, Eq.trans (by kernel_rfl) ne, h1, h2, w3, rB rfl⟩
theorem mark3 (s : Scn) (hsr : -1000000 ≤ s.rooms ∧ s.rooms ≤ 1000000) (i r x lo hi l : Int) (hi1 : inB 0 9999 i = true) (hr1 : isR s.rooms r = true) : APure Tryz.prog 81 [encSc s, .agg (cMj i 3 r x lo hi l)] (.bool (x == 0 && (spanB 600 lo hi && l == 0))) := by
  have w1 := rwithin_spec i 0 9999
  have w2 := wr_spec s r hsr
  have w3 := rwithin_spec lo 0 hi
  have ne := eqSs lo hi 0 0
  rw [hi1] at w1
  rw [hr1] at w2
  rw [m123]
  cases h1 : (x == 0)
  · exact APure.vc Tryz.func81 rfl (.call (.bool true) <| .call (.bool true) <| .val 22 (.bool (lo == 0 && hi == 0)) [] <| .br 32 false .nil) rfl rfl ⟨w1, w2, Eq.trans (by kernel_rfl) ne, h1, rB rfl⟩
  · cases h2 : (l == 0)
    · exact APure.vc Tryz.func81 rfl (.call (.bool true) <| .call (.bool true) <| .val 22 (.bool (lo == 0 && hi == 0)) [] <| .br 32 true <| .br 37 false .nil) rfl rfl ⟨w1, w2, Eq.trans (by kernel_rfl) ne, h1, h2, rB rfl⟩
    · cases h3 : inB 0 hi lo
      · rw [h3] at w3
        exact APure.vc Tryz.func81 rfl (.call (.bool true) <| .call (.bool true) <| .val 22 (.bool (lo == 0 && hi == 0)) [] <| .br 32 true <| .br 37 true <| .call (.bool false) .nil) rfl rfl ⟨w1, w2, Eq.trans (by kernel_rfl) ne, h1, h2, w3, rB rfl⟩
      · rw [h3] at w3
        exact APure.vc Tryz.func81 rfl (.call (.bool true) <| .call (.bool true) <| .val 22 (.bool (lo == 0 && hi == 0)) [] <| .br 32 true <| .br 37 true <| .call (.bool true) .nil) rfl rfl ⟨w1, w2, Eq.trans (by kernel_rfl) ne, h1, h2, w3, rB rfl⟩
theorem mark4 (s : Scn) (hsr : -1000000 ≤ s.rooms ∧ s.rooms ≤ 1000000) (i r x lo hi l : Int) (hi1 : inB 0 9999 i = true) (hr1 : isR s.rooms r = true) : APure Tryz.prog 81 [encSc s, .agg (cMj i 4 r x lo hi l)] (.bool (x == 0 && ((lo == 0 && hi == 0) && inB 0 600 l))) := by
  have w1 := rwithin_spec i 0 9999
  have w2 := wr_spec s r hsr
  have w3 := rwithin_spec l 0 600
  have ne := eqSs lo hi 0 0
  rw [hi1] at w1
  rw [hr1] at w2
  cases h1 : (x == 0)
  · exact APure.vc Tryz.func81 rfl (.call (.bool true) <| .call (.bool true) <| .val 22 (.bool (lo == 0 && hi == 0)) [] <| .br 58 false .nil) rfl rfl ⟨w1, w2, Eq.trans (by kernel_rfl) ne, h1, rB rfl⟩
  · cases h2 : (lo == 0 && hi == 0)
    · rw [h2] at ne
      exact APure.vc Tryz.func81 rfl (.call (.bool true) <| .call (.bool true) <| .val 22 (.bool false) [] <| .br 58 true .nil) rfl rfl ⟨w1, w2, Eq.trans (by kernel_rfl) ne, h1, rB rfl⟩
    · rw [h2] at ne
      exact APure.vc Tryz.func81 rfl (.call (.bool true) <| .call (.bool true) <| .val 22 (.bool true) [] <| .br 58 true <| .call (.bool (inB 0 600 l)) .nil) rfl rfl ⟨w1, w2, Eq.trans (by kernel_rfl) ne, h1, w3, rB rfl⟩
theorem mark5 (s : Scn) (hsr : -1000000 ≤ s.rooms ∧ s.rooms ≤ 1000000) (i r x lo hi l : Int) (hi1 : inB 0 9999 i = true) (hr1 : isR s.rooms r = true) : APure Tryz.prog 81 [encSc s, .agg (cMj i 5 r x lo hi l)] (.bool (x == 0 && ((lo == 0 && hi == 0) && inB 0 600 l))) := by
  have w1 := rwithin_spec i 0 9999
  have w2 := wr_spec s r hsr
  have w3 := rwithin_spec l 0 600
  have ne := eqSs lo hi 0 0
  rw [hi1] at w1
  rw [hr1] at w2
  cases h1 : (x == 0)
  · exact APure.vc Tryz.func81 rfl (.call (.bool true) <| .call (.bool true) <| .val 22 (.bool (lo == 0 && hi == 0)) [] <| .br 58 false .nil) rfl rfl ⟨w1, w2, Eq.trans (by kernel_rfl) ne, h1, rB rfl⟩
  · cases h2 : (lo == 0 && hi == 0)
    · rw [h2] at ne
      exact APure.vc Tryz.func81 rfl (.call (.bool true) <| .call (.bool true) <| .val 22 (.bool false) [] <| .br 58 true .nil) rfl rfl ⟨w1, w2, Eq.trans (by kernel_rfl) ne, h1, rB rfl⟩
    · rw [h2] at ne
      exact APure.vc Tryz.func81 rfl (.call (.bool true) <| .call (.bool true) <| .val 22 (.bool true) [] <| .br 58 true <| .call (.bool (inB 0 600 l)) .nil) rfl rfl ⟨w1, w2, Eq.trans (by kernel_rfl) ne, h1, w3, rB rfl⟩
theorem mark6 (s : Scn) (hsr : -1000000 ≤ s.rooms ∧ s.rooms ≤ 1000000) (i r x lo hi l : Int) (hi1 : inB 0 9999 i = true) (hr1 : isR s.rooms r = true) : APure Tryz.prog 81 [encSc s, .agg (cMj i 6 r x lo hi l)] (.bool ((isR s.rooms x && !(x == r)) && ((lo == 0 && hi == 0) && l == 0))) := by
  have w1 := rwithin_spec i 0 9999
  have w2 := wr_spec s r hsr
  have w3 := wr_spec s x hsr
  have ne := eqSs lo hi 0 0
  rw [hi1] at w1
  rw [hr1] at w2
  rw [m6]
  cases h1 : (lo == 0 && hi == 0)
  · rw [h1] at ne
    exact APure.vc Tryz.func81 rfl (.call (.bool true) <| .call (.bool true) <| .val 22 (.bool false) [] <| .nil) rfl rfl ⟨w1, w2, Eq.trans (by kernel_rfl) ne, rB rfl⟩
  · rw [h1] at ne
    cases h2 : (l == 0)
    · exact APure.vc Tryz.func81 rfl (.call (.bool true) <| .call (.bool true) <| .val 22 (.bool true) [] <| .br 74 false .nil) rfl rfl ⟨w1, w2, Eq.trans (by kernel_rfl) ne, h2, rB rfl⟩
    · cases h3 : isR s.rooms x
      · rw [h3] at w3
        exact APure.vc Tryz.func81 rfl (.call (.bool true) <| .call (.bool true) <| .val 22 (.bool true) [] <| .br 74 true <| .call (.bool false) .nil) rfl rfl ⟨w1, w2, Eq.trans (by kernel_rfl) ne, h2, w3, rB rfl⟩
      · rw [h3] at w3
        exact APure.vc Tryz.func81 rfl (.call (.bool true) <| .call (.bool true) <| .val 22 (.bool true) [] <| .br 74 true <| .call (.bool true) .nil) rfl rfl ⟨w1, w2, Eq.trans (by kernel_rfl) ne, h2, w3, rB rfl⟩
theorem mark0 (s : Scn) (hsr : -1000000 ≤ s.rooms ∧ s.rooms ≤ 1000000) (i k r x lo hi l : Int) (hi1 : inB 0 9999 i = true) (hr1 : isR s.rooms r = true) (hk : (k < 1 ∨ k > 6)) : APure Tryz.prog 81 [encSc s, .agg (cMj i k r x lo hi l)] (.bool false) := by
  have w1 := rwithin_spec i 0 9999
  have w2 := wr_spec s r hsr
  have ne := eqSs lo hi 0 0
  rw [hi1] at w1
  rw [hr1] at w2
  have k1 : (k == 1) = false := beq_eq_false_iff_ne.2 (by omega)
  have k2 : (k == 2) = false := beq_eq_false_iff_ne.2 (by omega)
  have k3 : (k == 3) = false := beq_eq_false_iff_ne.2 (by omega)
  have k4 : (k == 4) = false := beq_eq_false_iff_ne.2 (by omega)
  have k5 : (k == 5) = false := beq_eq_false_iff_ne.2 (by omega)
  have k6 : (k == 6) = false := beq_eq_false_iff_ne.2 (by omega)
  exact APure.vc Tryz.func81 rfl (.call (.bool true) <| .call (.bool true) <| .val 22 (.bool (lo == 0 && hi == 0)) [] <| .br 25 false <| .br 25 false <| .br 25 false <| .br 52 false <| .br 52 false <| .br 66 false .nil) rfl rfl ⟨w1, w2, Eq.trans (by kernel_rfl) ne, k1, k2, k3, k4, k5, k6, rB rfl⟩
theorem mark_ok (s : Scn) (hsr : -1000000 ≤ s.rooms ∧ s.rooms ≤ 1000000) (m : Mk) (h1 : inB 0 9999 m.id = true) (h2 : isR s.rooms m.room = true) : APure Tryz.prog 81 [encSc s, .agg (cMk m)] (.bool (usB s.rooms m)) := by
  rw [cMk_eq]
  by_cases k1 : m.kd.val = 1
  · have := mark1 s hsr m.id m.room m.other m.lo m.hi m.long h1 h2
    unfold usB; rw [k1]; exact this
  by_cases k2 : m.kd.val = 2
  · have := mark2 s hsr m.id m.room m.other m.lo m.hi m.long h1 h2
    unfold usB; rw [k2]; exact this
  by_cases k3 : m.kd.val = 3
  · have := mark3 s hsr m.id m.room m.other m.lo m.hi m.long h1 h2
    unfold usB; rw [k3]; exact this
  by_cases k4 : m.kd.val = 4
  · have := mark4 s hsr m.id m.room m.other m.lo m.hi m.long h1 h2
    unfold usB; rw [k4]; exact this
  by_cases k5 : m.kd.val = 5
  · have := mark5 s hsr m.id m.room m.other m.lo m.hi m.long h1 h2
    unfold usB; rw [k5]; exact this
  by_cases k6 : m.kd.val = 6
  · have := mark6 s hsr m.id m.room m.other m.lo m.hi m.long h1 h2
    unfold usB; rw [k6]; exact this
  have := mark0 s hsr m.id m.kd.val m.room m.other m.lo m.hi m.long h1 h2 (by omega)
  have e : usB s.rooms m = false := by
    unfold usB
    rw [if_neg k6, if_neg (by omega), if_neg (by omega)]
  rw [e]; exact this
theorem mark_spec (s : Scn) (hsr : -1000000 ≤ s.rooms ∧ s.rooms ≤ 1000000) (m : Mk) : APure Tryz.prog 81 [encSc s, .agg (cMk m)] (.bool (inB 0 9999 m.id && mkB s.rooms m)) := by
  have w1 := rwithin_spec m.id 0 9999
  have w2 := wr_spec s m.room hsr
  cases h1 : inB 0 9999 m.id
  · rw [h1] at w1
    exact APure.vc Tryz.func81 rfl (.call (.bool false) .nil) rfl rfl ⟨w1, rB rfl⟩
  · rw [h1] at w1
    cases h2 : isR s.rooms m.room
    · rw [h2] at w2
      exact APure.vc Tryz.func81 rfl (.call (.bool true) <| .call (.bool false) .nil) rfl rfl ⟨w1, w2, rB (by unfold mkB; rw [h2]; rfl)⟩
    · have := mark_ok s hsr m h1 h2
      unfold mkB; rw [h2]; exact this
/-! ### a scene -/
theorem gt_ref (n : Int) (g : Gt) : gtB n g = (isR n g.a && (isR n g.b && (!(g.a == g.b) && (inB 0 60 g.lo && (inB g.lo (g.lo + 2) g.hi && !decide (g.hi > 60)))))) := by
  rw [Bool.eq_iff_iff]
  simp only [gtB, spanB, inB, Bool.and_eq_true, Bool.not_eq_true', decide_eq_true_eq, decide_eq_false_iff_not]
  constructor
  · rintro ⟨a, b, c, d, e⟩; exact ⟨a, b, c, by omega, by omega, by omega⟩
  · rintro ⟨a, b, c, d, e, f⟩; exact ⟨a, b, c, by omega, by omega⟩
end Go.Proofs.YtjoagmjijbfjkaaGreatDoor
/-
  THE REFERENCE: a scene as a whole.
-/
namespace Go.Proofs.YtjoagmjijbfjkaaGreatDoor
open Go Go.Am
set_option maxRecDepth 100000
set_option maxHeartbeats 4000000
theorem rgates_inv {s : Scn} (_hr : 1 ≤ s.rooms ∧ s.rooms ≤ 6) {x : Gt} {k : Nat} (hx : s.gates[k]? = some x) : gtB s.rooms x = false → s.gates.all (gtB s.rooms) = false := fun h => all_bad hx h
/-- The marks from one on, after what stands before. -/
def lowM (ms : List Mk) : Nat → Int
  | 0 => 0
  | k + 1 => match ms[k]? with | some y => y.id + 1 | none => 0
def sinv (s : Scn) (k : Nat) : Prop := marksB s.rooms 0 s.marks = marksB s.rooms (lowM s.marks k) (s.marks.drop k) ∧ 0 ≤ lowM s.marks k
theorem RScene_spec (s : Scn) : APure Tryz.prog 53 [encSc s] (.bool (scB s)) := by
  have w1 := rwithin_spec s.rooms 1 6
  have w2 := rwithin_spec s.fin 0 600
  have eq : scB s = (inB 1 6 s.rooms && (inB 0 600 s.fin && ((decide (s.gates.length ≤ 6) && s.gates.all (gtB s.rooms)) && (decide (s.marks.length ≤ 8) && marksB s.rooms 0 s.marks)))) := rfl
  rw [eq]
  cases h1 : inB 1 6 s.rooms
  · rw [h1] at w1
    exact APure.vc Tryz.func53 rfl (.call (.bool false) .nil) rfl rfl ⟨w1, rB rfl⟩
  rw [h1] at w1
  have hr := inB_iff.1 h1
  have hsr : -1000000 ≤ s.rooms ∧ s.rooms ≤ 1000000 := ⟨by omega, by omega⟩
  cases h2 : inB 0 600 s.fin
  · rw [h2] at w2
    exact APure.vc Tryz.func53 rfl (.call (.bool true) <| .call (.bool false) .nil) rfl rfl ⟨w1, w2, rB rfl⟩
  rw [h2] at w2
  by_cases hlg : s.gates.length ≤ 6
  rotate_left
  · have el : decide (((s.gates.map cGt).length : Int) > 6) = true := decide_eq_true (by rw [List.length_map]; omega)
    exact APure.vc Tryz.func53 rfl (.call (.bool true) <| .call (.bool true) <| .br 22 true .nil) rfl rfl ⟨w1, w2, el, rB (by rw [decide_eq_false hlg]; rfl)⟩
  have elg : decide (((s.gates.map cGt).length : Int) > 6) = false := decide_eq_false (by rw [List.length_map]; omega)
  by_cases hlm : s.marks.length ≤ 8
  rotate_left
  · have el : decide (((s.marks.map cMk).length : Int) > 8) = true := decide_eq_true (by rw [List.length_map]; omega)
    exact APure.vc Tryz.func53 rfl (.call (.bool true) <| .call (.bool true) <| .br 22 false <| .br 27 true .nil) rfl rfl ⟨w1, w2, elg, el, rB (by rw [decide_eq_false hlm]; simp)⟩
  have elm : decide (((s.marks.map cMk).length : Int) > 8) = false := decide_eq_false (by rw [List.length_map]; omega)
  have eq2 : (true && (true && ((decide (s.gates.length ≤ 6) && s.gates.all (gtB s.rooms)) && (decide (s.marks.length ≤ 8) && marksB s.rooms 0 s.marks)))) = (s.gates.all (gtB s.rooms) && marksB s.rooms 0 s.marks) := by
    rw [decide_eq_true hlg, decide_eq_true hlm]; rfl
  rw [eq2]
  refine APure.vc Tryz.func53 rfl (.call (.bool true) <| .call (.bool true) <| .br 22 false <| .br 27 false <| .loop) rfl rfl ⟨w1, w2, elg, elm, ?_⟩
  intro g hn hl
  replace hn : g.n = 125 := hn
  replace hl : g.low 0 := hl
  refine acode_while (fun k : Nat => ⟨[(1, .vptr 0 0), (3, .int .i64 k)], [(0, .cells (cSc s))], 1⟩) (fun k => k ≤ s.gates.length ∧ (s.gates.take k).all (gtB s.rooms) = true) (fun k => s.gates.length - k) 0 ⟨Nat.zero_le _, rfl⟩ ?_ (fun _ _ => hl.mono (Nat.zero_le _)) ?_
  · exact St.le.of ⟨by kernel_rfl, rfl, by kernel_rfl, rfl, trivial⟩ ⟨by kernel_rfl, (by decide : (0 : Nat) < 1), rfl, trivial⟩
  · rintro k ⟨hk1, hk2⟩
    by_cases hlt : k < s.gates.length
    · refine Exists.elim (getE hlt) fun x hx => ?_
      have ek := congrArg (AV.int .i64) (succ64 (k := k) (by omega))
      have ra := wr_spec s x.a hsr
      have rb := wr_spec s x.b hsr
      have wl := rwithin_spec x.lo 0 60
      have wh := rwithin_spec x.hi x.lo (IntKind.i64.wrap (x.lo + 2))
      have bad : gtB s.rooms x = false → false = (s.gates.all (gtB s.rooms) && marksB s.rooms 0 s.marks) := fun h => by rw [all_bad hx h]; rfl
      have good : gtB s.rooms x = true → (s.gates.take (k + 1)).all (gtB s.rooms) = true := fun h => by rw [take_all hx, hk2, h]; rfl
      rw [gt_ref] at bad good
      cases h1 : isR s.rooms x.a
      · rw [h1] at ra bad
        exact ACode.vc (.br 32 true <| .cells (cGt x) <| .call (.bool false) .nil) hn hl (.round .cl) ⟨ltLen hlt, idx hx, ra, _, .refl _, .nil, rB (bad rfl)⟩
      rw [h1] at ra bad good
      cases h2 : isR s.rooms x.b
      · rw [h2] at rb bad
        exact ACode.vc (.br 32 true <| .cells (cGt x) <| .call (.bool true) <| .call (.bool false) .nil) hn hl (.round .cl) ⟨ltLen hlt, idx hx, ra, rb, _, .refl _, .nil, rB (bad rfl)⟩
      rw [h2] at rb bad good
      cases h3 : (x.a == x.b)
      rotate_left
      · rw [h3] at bad
        exact ACode.vc (.br 32 true <| .cells (cGt x) <| .call (.bool true) <| .call (.bool true) <| .br 63 true .nil) hn hl (.round .cl) ⟨ltLen hlt, idx hx, ra, rb, h3, _, .refl _, .nil, rB (bad rfl)⟩
      rw [h3] at bad good
      cases h4 : inB 0 60 x.lo
      · rw [h4] at wl bad
        exact ACode.vc (.br 32 true <| .cells (cGt x) <| .call (.bool true) <| .call (.bool true) <| .br 63 false <| .call (.bool false) .nil) hn hl (.round .cl) ⟨ltLen hlt, idx hx, ra, rb, h3, wl, _, .refl _, .nil, rB (bad rfl)⟩
      have h4' := inB_iff.1 h4
      rw [h4] at wl bad good
      have e2 : inB x.lo (IntKind.i64.wrap (x.lo + 2)) x.hi = inB x.lo (x.lo + 2) x.hi := by rw [wrap64 (by omega) (by omega)]
      rw [e2] at wh
      cases h5 : inB x.lo (x.lo + 2) x.hi
      · rw [h5] at wh bad
        exact ACode.vc (.br 32 true <| .cells (cGt x) <| .call (.bool true) <| .call (.bool true) <| .br 63 false <| .call (.bool true) <| .call (.bool false) .nil) hn hl (.round .cl) ⟨ltLen hlt, idx hx, ra, rb, h3, wl, wh, _, .refl _, .nil, rB (bad rfl)⟩
      rw [h5] at wh bad good
      cases h6 : decide (x.hi > 60)
      rotate_left
      · rw [h6] at bad
        exact ACode.vc (.br 32 true <| .cells (cGt x) <| .call (.bool true) <| .call (.bool true) <| .br 63 false <| .call (.bool true) <| .call (.bool true) <| .br 89 true .nil) hn hl (.round .cl) ⟨ltLen hlt, idx hx, ra, rb, h3, wl, wh, h6, _, .refl _, .nil, rB (bad rfl)⟩
      rw [h6] at good
      have g1 := good rfl
      exact ACode.vc (.br 32 true <| .cells (cGt x) <| .call (.bool true) <| .call (.bool true) <| .br 63 false <| .call (.bool true) <| .call (.bool true) <| .br 89 false .nil) hn hl (.round .cl) ⟨ltLen hlt, idx hx, ra, rb, h3, wl, wh, h6, k + 1, ⟨hlt, g1⟩, mu1 hlt,
        St.le.of ⟨by kernel_rfl, rfl, Eq.trans (by kernel_rfl) ek, rfl, trivial⟩ ⟨by kernel_rfl, (by decide : (0 : Nat) < 1), rfl, trivial⟩⟩
    · have hk' : k = s.gates.length := by omega
      have eg : s.gates.all (gtB s.rooms) = true := by rw [hk', List.take_length] at hk2; exact hk2
      refine ACode.vc (.br 32 false .nil) hn hl (.round .cl) ⟨geLen hlt, _, .refl _, .loop, ?_⟩
      intro g hn hl
      replace hn : g.n = 125 := hn
      replace hl : g.low 0 := hl
      refine acode_while (fun k : Nat => ⟨[(1, .vptr 0 0), (5, .int .i64 k)], [(0, .cells (cSc s))], 1⟩) (fun k => k ≤ s.marks.length ∧ sinv s k) (fun k => s.marks.length - k) 0 ⟨Nat.zero_le _, rfl, Int.le_refl _⟩ ?_ (fun _ _ => hl.mono (Nat.zero_le _)) ?_
      · exact St.le.of ⟨by kernel_rfl, rfl, by kernel_rfl, rfl, trivial⟩ ⟨by kernel_rfl, (by decide : (0 : Nat) < 1), rfl, trivial⟩
      · rintro k ⟨hk1, hk2, hk3⟩
        by_cases hlt : k < s.marks.length
        · refine Exists.elim (getE hlt) fun x hx => ?_
          have ek := congrArg (AV.int .i64) (succ64 (k := k) (by omega))
          have ms := mark_spec s hsr x
          rw [drop_cons hx] at hk2
          replace hk2 : marksB s.rooms 0 s.marks = (inB (lowM s.marks k) 9999 x.id && (mkB s.rooms x && marksB s.rooms (x.id + 1) (s.marks.drop (k + 1)))) := hk2
          have hlow : lowM s.marks (k + 1) = x.id + 1 := by show (match s.marks[k]? with | some y => y.id + 1 | none => 0) = _; rw [hx]
          cases h1 : (inB 0 9999 x.id && mkB s.rooms x)
          · rw [h1] at ms
            have e : false = (s.gates.all (gtB s.rooms) && marksB s.rooms 0 s.marks) := by
              rw [eg, hk2]
              cases h2 : inB (lowM s.marks k) 9999 x.id
              · rfl
              · have := inB_iff.1 h2
                have : inB 0 9999 x.id = true := inB_iff.2 (by omega)
                rw [this] at h1
                replace h1 : mkB s.rooms x = false := h1
                rw [h1]; rfl
            exact ACode.vc (.br 94 true <| .draw 25 <| .cells (cMk x) <| .call (.bool false) .nil) hn hl (.round .cl) ⟨ltLen hlt, by kernel_rfl, mixed, by kernel_rfl, idx hx, ms, by kernel_rfl, _, .refl _, .nil, rB e⟩
          · rw [h1] at ms
            obtain ⟨hid, hmk⟩ := Bool.and_eq_true_iff.1 h1
            have hid' := inB_iff.1 hid
            rw [hmk, Bool.true_and] at hk2
            cases k with
            | zero =>
              have c : decide (((0 : Nat) : Int) > 0) = false := by decide
              have hI : sinv s (0 + 1) := by
                refine ⟨?_, by rw [hlow]; omega⟩
                rw [hlow, hk2, show inB (lowM s.marks 0) 9999 x.id = true from hid]; rfl
              exact ACode.vc (.br 94 true <| .draw 25 <| .cells (cMk x) <| .call (.bool true) <| .br 108 false .nil) hn hl (.round .cl) ⟨ltLen hlt, by kernel_rfl, mixed, by kernel_rfl, idx hx, ms, c, by kernel_rfl, 0 + 1, ⟨hlt, hI⟩, mu1 hlt,
                St.le.of ⟨by kernel_rfl, rfl, Eq.trans (by kernel_rfl) ek, rfl, trivial⟩ ⟨by kernel_rfl, (by decide : (0 : Nat) < 1), rfl, trivial⟩⟩
            | succ p =>
              refine Exists.elim (getE (show p < s.marks.length by omega)) fun y hy => ?_
              have c : decide (((p + 1 : Nat) : Int) > 0) = true := decide_eq_true (by omega)
              have ei : IntKind.i64.wrap (((p + 1 : Nat) : Int) - 1) = (p : Int) := by rw [wrap64 (by omega) (by omega)]; omega
              have iy := idxW (enc := cMk) ei hy
              have hlow' : lowM s.marks (p + 1) = y.id + 1 := by show (match s.marks[p]? with | some y => y.id + 1 | none => 0) = _; rw [hy]
              rw [hlow'] at hk2 hk3
              cases h3 : decide (x.id ≤ y.id)
              · have h3' := of_decide_eq_false h3
                have hI : sinv s (p + 1 + 1) := by
                  refine ⟨?_, by rw [hlow]; omega⟩
                  rw [hlow, hk2, show inB (y.id + 1) 9999 x.id = true from inB_iff.2 (by omega)]; rfl
                exact ACode.vc (.br 94 true <| .draw 25 <| .cells (cMk x) <| .call (.bool true) <| .br 108 true <| .cells (cMk x) <| .cells (cMk y) <| .br 124 false .nil) hn hl (.round .cl) ⟨ltLen hlt, by kernel_rfl, mixed, by kernel_rfl, idx hx, ms, c, idx hx, iy, by kernel_rfl, h3, p + 1 + 1, ⟨hlt, hI⟩, mu1 hlt,
                  St.le.of ⟨by kernel_rfl, rfl, Eq.trans (by kernel_rfl) ek, rfl, trivial⟩ ⟨by kernel_rfl, (by decide : (0 : Nat) < 1), rfl, trivial⟩⟩
              · have h3' := of_decide_eq_true h3
                have e : false = (s.gates.all (gtB s.rooms) && marksB s.rooms 0 s.marks) := by
                  rw [eg, hk2]
                  cases h2 : inB (y.id + 1) 9999 x.id
                  · rfl
                  · have := inB_iff.1 h2; omega
                exact ACode.vc (.br 94 true <| .draw 25 <| .cells (cMk x) <| .call (.bool true) <| .br 108 true <| .cells (cMk x) <| .cells (cMk y) <| .br 124 true .nil) hn hl (.round .cl) ⟨ltLen hlt, by kernel_rfl, mixed, by kernel_rfl, idx hx, ms, c, idx hx, iy, by kernel_rfl, h3, _, .refl _, .nil, rB e⟩
        · have hk' : k = s.marks.length := by omega
          have e : true = (s.gates.all (gtB s.rooms) && marksB s.rooms 0 s.marks) := by rw [eg, hk2, hk', List.drop_length]; rfl
          exact ACode.vc (.br 94 false .nil) hn hl (.round .cl) ⟨geLen hlt, _, .refl _, .nil, rB e⟩
theorem RGreat_spec (s : Scn) : APure Tryz.prog 26 [encSc s] (.bool (decide (((s.gates.map cGt).length : Int) > 10) || decide (((s.marks.map cMk).length : Int) > 12))) := by
  cases h : decide (((s.gates.map cGt).length : Int) > 10)
  · exact APure.vc Tryz.func26 rfl (.br 7 false .nil) rfl rfl ⟨h, rB rfl⟩
  · exact APure.vc Tryz.func26 rfl (.br 7 true .nil) rfl rfl ⟨h, rB rfl⟩
end Go.Proofs.YtjoagmjijbfjkaaGreatDoor
/-
  THE REFERENCE: what a mark says.
-/
namespace Go.Proofs.YtjoagmjijbfjkaaGreatDoor
open Go Go.Am
set_option maxRecDepth 100000
set_option maxHeartbeats 4000000
theorem rsp {a b c d : Int} (h : a = c) (q : b = d) : some (AV.agg [.int .i64 a, .int .i64 b]) = some (encSp (c, d)) := by subst h; subst q; rfl
theorem win1 (s : Scn) (_hf : 0 ≤ s.fin ∧ s.fin ≤ 100000) (i r x lo hi l : Int) (hlo : -1000000 ≤ lo ∧ lo ≤ 100000) (hhi : -1000000 ≤ hi ∧ hi ≤ 100000) (_hl : -100000 ≤ l ∧ l ≤ 100000) (fl : List Int) {d : Int} (hd0 : 0 ≤ d ∧ d ≤ 1000000) (hr : 0 ≤ r ∧ (fl.map encI)[r.toNat]? = some (encI d)) :
    APure Tryz.prog 83 [encSc s, .agg (cMj i 1 r x lo hi l), encR fl] (encSp (if d < 1000000 then (lo - d, hi - d) else (1, 0))) := by
  by_cases hd : d < 1000000
  · have h1 : IntKind.i64.wrap (lo - d) = lo - d := by have q : IntKind.i64.wrap (lo - d) = lo - d := wrap64 (by omega) (by omega); exact q
    have h2 : IntKind.i64.wrap (hi - d) = hi - d := by have q : IntKind.i64.wrap (hi - d) = hi - d := wrap64 (by omega) (by omega); exact q
    rw [if_pos hd]
    exact APure.vc Tryz.func83 rfl (.cells (encI d) <| .br 26 true .nil) rfl rfl ⟨hr, decide_eq_true hd, trivial, Eq.trans (by kernel_rfl) (rsp h1 h2)⟩
  · rw [if_neg hd]
    exact APure.vc Tryz.func83 rfl (.cells (encI d) <| .br 26 false .nil) rfl rfl ⟨hr, decide_eq_false hd, trivial, Eq.trans (by kernel_rfl) (rsp (a := 1) (b := 0) rfl rfl)⟩
theorem win2 (s : Scn) (_hf : 0 ≤ s.fin ∧ s.fin ≤ 100000) (i r x lo hi l : Int) (hlo : -1000000 ≤ lo ∧ lo ≤ 100000) (_hhi : -1000000 ≤ hi ∧ hi ≤ 100000) (_hl : -100000 ≤ l ∧ l ≤ 100000) (fl : List Int) {d : Int} (hd0 : 0 ≤ d ∧ d ≤ 1000000) (hr : 0 ≤ r ∧ (fl.map encI)[r.toNat]? = some (encI d)) :
    APure Tryz.prog 83 [encSc s, .agg (cMj i 2 r x lo hi l), encR fl] (encSp (if d < 1000000 then (lo + 1 - d, s.fin) else (0, s.fin))) := by
  by_cases hd : d < 1000000
  · have h1 : IntKind.i64.wrap (IntKind.i64.wrap (lo + 1) - d) = lo + 1 - d := by have q : IntKind.i64.wrap (lo + 1) = lo + 1 := wrap64 (by omega) (by omega); rw [q]; have q : IntKind.i64.wrap (lo + 1 - d) = lo + 1 - d := wrap64 (by omega) (by omega); exact q
    have h2 : s.fin = s.fin := rfl
    rw [if_pos hd]
    exact APure.vc Tryz.func83 rfl (.cells (encI d) <| .br 41 false .nil) rfl rfl ⟨hr, (by rw [decide_eq_true hd]; rfl : (!decide (d < 1000000)) = false), trivial, Eq.trans (by kernel_rfl) (rsp h1 h2)⟩
  · rw [if_neg hd]
    exact APure.vc Tryz.func83 rfl (.cells (encI d) <| .br 41 true .nil) rfl rfl ⟨hr, (by rw [decide_eq_false hd]; rfl : (!decide (d < 1000000)) = true), trivial, Eq.trans (by kernel_rfl) (rsp (a := 0) (b := s.fin) rfl rfl)⟩
theorem win3 (s : Scn) (_hf : 0 ≤ s.fin ∧ s.fin ≤ 100000) (i r x lo hi l : Int) (_hlo : -1000000 ≤ lo ∧ lo ≤ 100000) (hhi : -1000000 ≤ hi ∧ hi ≤ 100000) (_hl : -100000 ≤ l ∧ l ≤ 100000) (fl : List Int) {d : Int} (hd0 : 0 ≤ d ∧ d ≤ 1000000) (hr : 0 ≤ r ∧ (fl.map encI)[r.toNat]? = some (encI d)) :
    APure Tryz.prog 83 [encSc s, .agg (cMj i 3 r x lo hi l), encR fl] (encSp (if d < 1000000 then (0, hi - d) else (1, 0))) := by
  by_cases hd : d < 1000000
  · have h1 : (0 : Int) = 0 := rfl
    have h2 : IntKind.i64.wrap (hi - d) = hi - d := by have q : IntKind.i64.wrap (hi - d) = hi - d := wrap64 (by omega) (by omega); exact q
    rw [if_pos hd]
    exact APure.vc Tryz.func83 rfl (.cells (encI d) <| .br 54 true .nil) rfl rfl ⟨hr, decide_eq_true hd, trivial, Eq.trans (by kernel_rfl) (rsp h1 h2)⟩
  · rw [if_neg hd]
    exact APure.vc Tryz.func83 rfl (.cells (encI d) <| .br 54 false .nil) rfl rfl ⟨hr, decide_eq_false hd, trivial, Eq.trans (by kernel_rfl) (rsp (a := 1) (b := 0) rfl rfl)⟩
theorem win4 (s : Scn) (hf : 0 ≤ s.fin ∧ s.fin ≤ 100000) (i r x lo hi l : Int) (_hlo : -1000000 ≤ lo ∧ lo ≤ 100000) (_hhi : -1000000 ≤ hi ∧ hi ≤ 100000) (hl : -100000 ≤ l ∧ l ≤ 100000) (fl : List Int) {d : Int} (hd0 : 0 ≤ d ∧ d ≤ 1000000) (hr : 0 ≤ r ∧ (fl.map encI)[r.toNat]? = some (encI d)) :
    APure Tryz.prog 83 [encSc s, .agg (cMj i 4 r x lo hi l), encR fl] (encSp (if d < 1000000 then (0, s.fin - l - d) else (1, 0))) := by
  by_cases hd : d < 1000000
  · have h1 : (0 : Int) = 0 := rfl
    have h2 : IntKind.i64.wrap (IntKind.i64.wrap (s.fin - l) - d) = s.fin - l - d := by have q : IntKind.i64.wrap (s.fin - l) = s.fin - l := wrap64 (by omega) (by omega); rw [q]; have q : IntKind.i64.wrap (s.fin - l - d) = s.fin - l - d := wrap64 (by omega) (by omega); exact q
    rw [if_pos hd]
    exact APure.vc Tryz.func83 rfl (.cells (encI d) <| .br 63 true .nil) rfl rfl ⟨hr, decide_eq_true hd, trivial, Eq.trans (by kernel_rfl) (rsp h1 h2)⟩
  · rw [if_neg hd]
    exact APure.vc Tryz.func83 rfl (.cells (encI d) <| .br 63 false .nil) rfl rfl ⟨hr, decide_eq_false hd, trivial, Eq.trans (by kernel_rfl) (rsp (a := 1) (b := 0) rfl rfl)⟩
theorem win5 (s : Scn) (hf : 0 ≤ s.fin ∧ s.fin ≤ 100000) (i r x lo hi l : Int) (_hlo : -1000000 ≤ lo ∧ lo ≤ 100000) (_hhi : -1000000 ≤ hi ∧ hi ≤ 100000) (hl : -100000 ≤ l ∧ l ≤ 100000) (fl : List Int) {d : Int} (hd0 : 0 ≤ d ∧ d ≤ 1000000) (hr : 0 ≤ r ∧ (fl.map encI)[r.toNat]? = some (encI d)) :
    APure Tryz.prog 83 [encSc s, .agg (cMj i 5 r x lo hi l), encR fl] (encSp (if d < 1000000 then (s.fin - l + 1 - d, s.fin) else (0, s.fin))) := by
  by_cases hd : d < 1000000
  · have h1 : IntKind.i64.wrap (IntKind.i64.wrap (IntKind.i64.wrap (s.fin - l) + 1) - d) = s.fin - l + 1 - d := by have q : IntKind.i64.wrap (s.fin - l) = s.fin - l := wrap64 (by omega) (by omega); rw [q]; have q : IntKind.i64.wrap (s.fin - l + 1) = s.fin - l + 1 := wrap64 (by omega) (by omega); rw [q]; have q : IntKind.i64.wrap (s.fin - l + 1 - d) = s.fin - l + 1 - d := wrap64 (by omega) (by omega); exact q
    have h2 : s.fin = s.fin := rfl
    rw [if_pos hd]
    exact APure.vc Tryz.func83 rfl (.cells (encI d) <| .br 75 false .nil) rfl rfl ⟨hr, (by rw [decide_eq_true hd]; rfl : (!decide (d < 1000000)) = false), trivial, Eq.trans (by kernel_rfl) (rsp h1 h2)⟩
  · rw [if_neg hd]
    exact APure.vc Tryz.func83 rfl (.cells (encI d) <| .br 75 true .nil) rfl rfl ⟨hr, (by rw [decide_eq_false hd]; rfl : (!decide (d < 1000000)) = true), trivial, Eq.trans (by kernel_rfl) (rsp (a := 0) (b := s.fin) rfl rfl)⟩
theorem win6 (s : Scn) (i r x lo hi l : Int) (fl : List Int) {d e : Int} (hr : 0 ≤ r ∧ (fl.map encI)[r.toNat]? = some (encI d)) (hx : 0 ≤ x ∧ (fl.map encI)[x.toNat]? = some (encI e)) :
    APure Tryz.prog 83 [encSc s, .agg (cMj i 6 r x lo hi l), encR fl] (encSp (if d < 1000000 ∧ d < e then (0, s.fin) else (1, 0))) := by
  by_cases hd : d < 1000000
  · by_cases he : d < e
    · rw [if_pos ⟨hd, he⟩]
      exact APure.vc Tryz.func83 rfl (.cells (encI d) <| .br 91 true <| .cells (encI e) <| .br 99 true .nil) rfl rfl ⟨hr, decide_eq_true hd, hx, decide_eq_true he, trivial, Eq.trans (by kernel_rfl) (rsp (a := 0) (b := s.fin) rfl rfl)⟩
    · rw [if_neg fun h => he h.2]
      exact APure.vc Tryz.func83 rfl (.cells (encI d) <| .br 91 true <| .cells (encI e) <| .br 99 false .nil) rfl rfl ⟨hr, decide_eq_true hd, hx, decide_eq_false he, trivial, Eq.trans (by kernel_rfl) (rsp (a := 1) (b := 0) rfl rfl)⟩
  · rw [if_neg fun h => hd h.1]
    exact APure.vc Tryz.func83 rfl (.cells (encI d) <| .br 91 false .nil) rfl rfl ⟨hr, decide_eq_false hd, trivial, Eq.trans (by kernel_rfl) (rsp (a := 1) (b := 0) rfl rfl)⟩
theorem win_spec (s : Scn) (hf : 0 ≤ s.fin ∧ s.fin ≤ 100000) (m : Mk) (hm : smM m) (hk : 1 ≤ m.kd.val ∧ m.kd.val ≤ 6) (fl : List Int) {d e : Int} (hd0 : 0 ≤ d ∧ d ≤ 1000000)
    (hr : 0 ≤ m.room ∧ (fl.map encI)[m.room.toNat]? = some (encI d)) (hx : 0 ≤ m.other ∧ (fl.map encI)[m.other.toNat]? = some (encI e)) :
    APure Tryz.prog 83 [encSc s, .agg (cMk m), encR fl] (encSp (windV 1000000 (mrk m) s.fin d e)) := by
  rw [cMk_eq]
  by_cases k1 : m.kd.val = 1
  · have := win1 s hf m.id m.room m.other m.lo m.hi m.long hm.lo hm.hi hm.long fl hd0 hr
    have ek : (mrk m).kind = 1 := by show ((m.kd.val : Nat) : Int) = 1; omega
    unfold windV; rw [ek, k1]; exact this
  by_cases k2 : m.kd.val = 2
  · have := win2 s hf m.id m.room m.other m.lo m.hi m.long hm.lo hm.hi hm.long fl hd0 hr
    have ek : (mrk m).kind = 2 := by show ((m.kd.val : Nat) : Int) = 2; omega
    unfold windV; rw [ek, k2]; exact this
  by_cases k3 : m.kd.val = 3
  · have := win3 s hf m.id m.room m.other m.lo m.hi m.long hm.lo hm.hi hm.long fl hd0 hr
    have ek : (mrk m).kind = 3 := by show ((m.kd.val : Nat) : Int) = 3; omega
    unfold windV; rw [ek, k3]; exact this
  by_cases k4 : m.kd.val = 4
  · have := win4 s hf m.id m.room m.other m.lo m.hi m.long hm.lo hm.hi hm.long fl hd0 hr
    have ek : (mrk m).kind = 4 := by show ((m.kd.val : Nat) : Int) = 4; omega
    unfold windV; rw [ek, k4]; exact this
  by_cases k5 : m.kd.val = 5
  · have := win5 s hf m.id m.room m.other m.lo m.hi m.long hm.lo hm.hi hm.long fl hd0 hr
    have ek : (mrk m).kind = 5 := by show ((m.kd.val : Nat) : Int) = 5; omega
    unfold windV; rw [ek, k5]; exact this
  have k6 : m.kd.val = 6 := by omega
  have := win6 s m.id m.room m.other m.lo m.hi m.long fl hr hx
  have ek : (mrk m).kind = 6 := by show ((m.kd.val : Nat) : Int) = 6; omega
  unfold windV; rw [ek, k6]; exact this
end Go.Proofs.YtjoagmjijbfjkaaGreatDoor
