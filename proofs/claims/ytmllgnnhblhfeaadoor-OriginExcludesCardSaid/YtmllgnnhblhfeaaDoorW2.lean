import Derived.Test.YtmllgnnhblhfeaaDoorW1
/-
  WHAT IS VALID OF A SCENE: Check.
-/
namespace Go.Proofs.YtmllgnnhblhfeaaDoor
open Go Go.Am
set_option maxRecDepth 100000
set_option maxHeartbeats 4000000
def kdF (i : Nat) : AV := .fn (.func i) [] []
def kdL : List AV := [.bool false, .bool false, .bool false, .nilFunc, .bool true, .bool false, .bool false, kdF 40, .bool true, .bool false, .bool false, kdF 42, .bool true, .bool false, .bool false, kdF 44, .bool false, .bool true, .bool false, kdF 46, .bool false, .bool true, .bool false, kdF 47, .bool false, .bool false, .bool true, kdF 48]
theorem kinds_spec : APure Tryd.prog 25 [] (.agg kdL) := APure.vc Tryd.func25 rfl (.val 7 (.agg kdL) [] <| .val 1 .undef [(0, some (.cells kdL))] .nil) rfl rfl (kmp (a := (some (⟨.agg kdL, []⟩ : Out) = some ⟨.agg kdL, []⟩) ∧ (some (⟨.undef, [(0, some (.cells kdL))]⟩ : Out) = some ⟨.undef, [(0, some (.cells kdL))]⟩) ∧ True ∧ some (AV.agg kdL) = some (AV.agg kdL)) (by kernel_rfl) ⟨rfl, rfl, trivial, rfl⟩)
theorem eqSpan0 (a b : Int) : ((aeqT Tryd.prog 6 57 (.agg [.int .i64 a, .int .i64 b]) (.agg [.int .i64 0, .int .i64 0])).map fun b => AV.bool !b).map (fun v => (⟨v, []⟩ : Out)) = some ⟨.bool !(a == 0 && b == 0), []⟩ := neS a b 0 0
/-- The cells of a mark, with a kind that is told. -/
def cMj (i k r o lo hi l : Int) : List AV := [.int .i64 i, .int .u8 k, .int .i64 r, .int .i64 o, .int .i64 lo, .int .i64 hi, .int .i64 l]
theorem cMk_eq (m : Mk) : cMk m = cMj m.id m.kd.val m.room m.other m.lo m.hi m.long := rfl
theorem uses1 (s : Scn) (i r x lo hi l : Int) : APure Tryd.prog 70 [encSc s, .agg (cMj i 1 r x lo hi l)] (.bool (x == 0 && (spanB 600 lo hi && l == 0))) := by
  have sp := isSpan_spec 600 lo hi
  have h0 : (x != 0) = true → false = (x == 0 && (spanB 600 lo hi && l == 0)) := fun h => by rw [bne_iff_ne] at h; rw [beq_eq_false_iff_ne.2 h]; rfl
  have h1 : (x != 0) = false → (x == 0) = true := fun h => by simpa using h
  cases hs : spanB 600 lo hi
  · rw [hs] at sp h0
    exact APure.vc Tryd.func70 rfl (.draw 5 <| .call (.agg kdL) <| .val 17 (.agg [.bool true, .bool false, .bool false, kdF 40]) [] <| .both 43 .nil (.call (.bool false) .nil)) rfl rfl ⟨by kernel_rfl, mixed, by kernel_rfl, kinds_spec, by kernel_rfl, by kernel_rfl, fun h => rB (h0 h), fun h => ⟨sp, rB (by rw [h1 h]; rfl)⟩⟩
  · rw [hs] at sp h0
    exact APure.vc Tryd.func70 rfl (.draw 5 <| .call (.agg kdL) <| .val 17 (.agg [.bool true, .bool false, .bool false, kdF 40]) [] <| .both 43 .nil (.call (.bool true) <| .draw 6 .nil)) rfl rfl ⟨by kernel_rfl, mixed, by kernel_rfl, kinds_spec, by kernel_rfl, by kernel_rfl, fun h => rB (h0 h), fun h => ⟨sp, by kernel_rfl, mixed, by kernel_rfl, by kernel_rfl, rB (by rw [h1 h]; rfl)⟩⟩
theorem uses2 (s : Scn) (i r x lo hi l : Int) : APure Tryd.prog 70 [encSc s, .agg (cMj i 2 r x lo hi l)] (.bool (x == 0 && (spanB 600 lo hi && l == 0))) := by
  have sp := isSpan_spec 600 lo hi
  have h0 : (x != 0) = true → false = (x == 0 && (spanB 600 lo hi && l == 0)) := fun h => by rw [bne_iff_ne] at h; rw [beq_eq_false_iff_ne.2 h]; rfl
  have h1 : (x != 0) = false → (x == 0) = true := fun h => by simpa using h
  cases hs : spanB 600 lo hi
  · rw [hs] at sp h0
    exact APure.vc Tryd.func70 rfl (.draw 5 <| .call (.agg kdL) <| .val 17 (.agg [.bool true, .bool false, .bool false, kdF 42]) [] <| .both 43 .nil (.call (.bool false) .nil)) rfl rfl ⟨by kernel_rfl, mixed, by kernel_rfl, kinds_spec, by kernel_rfl, by kernel_rfl, fun h => rB (h0 h), fun h => ⟨sp, rB (by rw [h1 h]; rfl)⟩⟩
  · rw [hs] at sp h0
    exact APure.vc Tryd.func70 rfl (.draw 5 <| .call (.agg kdL) <| .val 17 (.agg [.bool true, .bool false, .bool false, kdF 42]) [] <| .both 43 .nil (.call (.bool true) <| .draw 6 .nil)) rfl rfl ⟨by kernel_rfl, mixed, by kernel_rfl, kinds_spec, by kernel_rfl, by kernel_rfl, fun h => rB (h0 h), fun h => ⟨sp, by kernel_rfl, mixed, by kernel_rfl, by kernel_rfl, rB (by rw [h1 h]; rfl)⟩⟩
theorem uses3 (s : Scn) (i r x lo hi l : Int) : APure Tryd.prog 70 [encSc s, .agg (cMj i 3 r x lo hi l)] (.bool (x == 0 && (spanB 600 lo hi && l == 0))) := by
  have sp := isSpan_spec 600 lo hi
  have h0 : (x != 0) = true → false = (x == 0 && (spanB 600 lo hi && l == 0)) := fun h => by rw [bne_iff_ne] at h; rw [beq_eq_false_iff_ne.2 h]; rfl
  have h1 : (x != 0) = false → (x == 0) = true := fun h => by simpa using h
  cases hs : spanB 600 lo hi
  · rw [hs] at sp h0
    exact APure.vc Tryd.func70 rfl (.draw 5 <| .call (.agg kdL) <| .val 17 (.agg [.bool true, .bool false, .bool false, kdF 44]) [] <| .both 43 .nil (.call (.bool false) .nil)) rfl rfl ⟨by kernel_rfl, mixed, by kernel_rfl, kinds_spec, by kernel_rfl, by kernel_rfl, fun h => rB (h0 h), fun h => ⟨sp, rB (by rw [h1 h]; rfl)⟩⟩
  · rw [hs] at sp h0
    exact APure.vc Tryd.func70 rfl (.draw 5 <| .call (.agg kdL) <| .val 17 (.agg [.bool true, .bool false, .bool false, kdF 44]) [] <| .both 43 .nil (.call (.bool true) <| .draw 6 .nil)) rfl rfl ⟨by kernel_rfl, mixed, by kernel_rfl, kinds_spec, by kernel_rfl, by kernel_rfl, fun h => rB (h0 h), fun h => ⟨sp, by kernel_rfl, mixed, by kernel_rfl, by kernel_rfl, rB (by rw [h1 h]; rfl)⟩⟩
theorem uses4 (s : Scn) (i r x lo hi l : Int) : APure Tryd.prog 70 [encSc s, .agg (cMj i 4 r x lo hi l)] (.bool (x == 0 && ((lo == 0 && hi == 0) && inB 0 600 l))) := by
  have u := upTo_spec 600
  have w := within_spec 0 600 l
  have ne := eqSpan0 lo hi
  have h0 : (x != 0) = true → false = (x == 0 && ((lo == 0 && hi == 0) && inB 0 600 l)) := fun h => by rw [bne_iff_ne] at h; rw [beq_eq_false_iff_ne.2 h]; rfl
  have h1 : (x != 0) = false → (x == 0) = true := fun h => by simpa using h
  cases hs : (lo == 0 && hi == 0)
  · rw [hs] at ne h0
    exact APure.vc Tryd.func70 rfl (.draw 5 <| .call (.agg kdL) <| .val 17 (.agg [.bool false, .bool true, .bool false, kdF 46]) [] <| .both 43 .nil (.val 60 (.bool true) [] .nil)) rfl rfl ⟨by kernel_rfl, mixed, by kernel_rfl, kinds_spec, by kernel_rfl, by kernel_rfl, fun h => rB (h0 h), fun h => ⟨Eq.trans (by kernel_rfl) ne, rB (by rw [h1 h]; rfl)⟩⟩
  · rw [hs] at ne h0
    cases hl : inB 0 600 l
    · rw [hl] at w h0
      exact APure.vc Tryd.func70 rfl (.draw 5 <| .call (.agg kdL) <| .val 17 (.agg [.bool false, .bool true, .bool false, kdF 46]) [] <| .both 43 .nil (.val 60 (.bool false) [] <| .draw 6 <| .call (.agg [.int .i64 0, .int .i64 600]) <| .call (.bool false) .nil)) rfl rfl ⟨by kernel_rfl, mixed, by kernel_rfl, kinds_spec, by kernel_rfl, by kernel_rfl, fun h => rB (h0 h), fun h => ⟨Eq.trans (by kernel_rfl) ne, by kernel_rfl, mixed, by kernel_rfl, u, by kernel_rfl, w, rB (by rw [h1 h]; rfl)⟩⟩
    · rw [hl] at w h0
      exact APure.vc Tryd.func70 rfl (.draw 5 <| .call (.agg kdL) <| .val 17 (.agg [.bool false, .bool true, .bool false, kdF 46]) [] <| .both 43 .nil (.val 60 (.bool false) [] <| .draw 6 <| .call (.agg [.int .i64 0, .int .i64 600]) <| .call (.bool true) .nil)) rfl rfl ⟨by kernel_rfl, mixed, by kernel_rfl, kinds_spec, by kernel_rfl, by kernel_rfl, fun h => rB (h0 h), fun h => ⟨Eq.trans (by kernel_rfl) ne, by kernel_rfl, mixed, by kernel_rfl, u, by kernel_rfl, w, rB (by rw [h1 h]; rfl)⟩⟩
theorem uses5 (s : Scn) (i r x lo hi l : Int) : APure Tryd.prog 70 [encSc s, .agg (cMj i 5 r x lo hi l)] (.bool (x == 0 && ((lo == 0 && hi == 0) && inB 0 600 l))) := by
  have u := upTo_spec 600
  have w := within_spec 0 600 l
  have ne := eqSpan0 lo hi
  have h0 : (x != 0) = true → false = (x == 0 && ((lo == 0 && hi == 0) && inB 0 600 l)) := fun h => by rw [bne_iff_ne] at h; rw [beq_eq_false_iff_ne.2 h]; rfl
  have h1 : (x != 0) = false → (x == 0) = true := fun h => by simpa using h
  cases hs : (lo == 0 && hi == 0)
  · rw [hs] at ne h0
    exact APure.vc Tryd.func70 rfl (.draw 5 <| .call (.agg kdL) <| .val 17 (.agg [.bool false, .bool true, .bool false, kdF 47]) [] <| .both 43 .nil (.val 60 (.bool true) [] .nil)) rfl rfl ⟨by kernel_rfl, mixed, by kernel_rfl, kinds_spec, by kernel_rfl, by kernel_rfl, fun h => rB (h0 h), fun h => ⟨Eq.trans (by kernel_rfl) ne, rB (by rw [h1 h]; rfl)⟩⟩
  · rw [hs] at ne h0
    cases hl : inB 0 600 l
    · rw [hl] at w h0
      exact APure.vc Tryd.func70 rfl (.draw 5 <| .call (.agg kdL) <| .val 17 (.agg [.bool false, .bool true, .bool false, kdF 47]) [] <| .both 43 .nil (.val 60 (.bool false) [] <| .draw 6 <| .call (.agg [.int .i64 0, .int .i64 600]) <| .call (.bool false) .nil)) rfl rfl ⟨by kernel_rfl, mixed, by kernel_rfl, kinds_spec, by kernel_rfl, by kernel_rfl, fun h => rB (h0 h), fun h => ⟨Eq.trans (by kernel_rfl) ne, by kernel_rfl, mixed, by kernel_rfl, u, by kernel_rfl, w, rB (by rw [h1 h]; rfl)⟩⟩
    · rw [hl] at w h0
      exact APure.vc Tryd.func70 rfl (.draw 5 <| .call (.agg kdL) <| .val 17 (.agg [.bool false, .bool true, .bool false, kdF 47]) [] <| .both 43 .nil (.val 60 (.bool false) [] <| .draw 6 <| .call (.agg [.int .i64 0, .int .i64 600]) <| .call (.bool true) .nil)) rfl rfl ⟨by kernel_rfl, mixed, by kernel_rfl, kinds_spec, by kernel_rfl, by kernel_rfl, fun h => rB (h0 h), fun h => ⟨Eq.trans (by kernel_rfl) ne, by kernel_rfl, mixed, by kernel_rfl, u, by kernel_rfl, w, rB (by rw [h1 h]; rfl)⟩⟩
theorem uses6 (s : Scn) (hsr : -1000000 ≤ s.rooms ∧ s.rooms ≤ 1000000) (i r x lo hi l : Int) : APure Tryd.prog 70 [encSc s, .agg (cMj i 6 r x lo hi l)] (.bool ((isR s.rooms x && !(x == r)) && ((lo == 0 && hi == 0) && l == 0))) := by
  have rm := isRoom_spec s x hsr
  have ne := eqSpan0 lo hi
  cases hr : isR s.rooms x
  · rw [hr] at rm
    exact APure.vc Tryd.func70 rfl (.draw 5 <| .call (.agg kdL) <| .val 17 (.agg [.bool false, .bool false, .bool true, kdF 48]) [] <| .call (.bool false) .nil) rfl rfl ⟨by kernel_rfl, mixed, by kernel_rfl, kinds_spec, by kernel_rfl, by kernel_rfl, rm, rB rfl⟩
  · rw [hr] at rm
    cases hs : (lo == 0 && hi == 0)
    · rw [hs] at ne
      exact APure.vc Tryd.func70 rfl (.draw 5 <| .call (.agg kdL) <| .val 17 (.agg [.bool false, .bool false, .bool true, kdF 48]) [] <| .call (.bool true) <| .both 34 (.nil) (.val 60 (.bool true) [] .nil)) rfl rfl ⟨by kernel_rfl, mixed, by kernel_rfl, kinds_spec, by kernel_rfl, by kernel_rfl, rm, fun h => rB (by rw [h]; rfl), fun h => ⟨Eq.trans (by kernel_rfl) ne, rB (by rw [h]; rfl)⟩⟩
    · rw [hs] at ne
      exact APure.vc Tryd.func70 rfl (.draw 5 <| .call (.agg kdL) <| .val 17 (.agg [.bool false, .bool false, .bool true, kdF 48]) [] <| .call (.bool true) <| .both 34 (.nil) (.val 60 (.bool false) [] <| .draw 6 .nil)) rfl rfl ⟨by kernel_rfl, mixed, by kernel_rfl, kinds_spec, by kernel_rfl, by kernel_rfl, rm, fun h => rB (by rw [h]; rfl), fun h => ⟨Eq.trans (by kernel_rfl) ne, by kernel_rfl, mixed, by kernel_rfl, by kernel_rfl, rB (by rw [h]; rfl)⟩⟩
theorem uses0 (s : Scn) (i k r x lo hi l : Int) (hk : k < 1 ∨ k > 6) : APure Tryd.prog 70 [encSc s, .agg (cMj i k r x lo hi l)] (.bool false) := by
  have h1 : decide (k < 1) = false → decide (k > 6) = true := fun h => decide_eq_true (by have := of_decide_eq_false h; omega)
  exact APure.vc Tryd.func70 rfl (.both 9 .nil (.br 13 true .nil)) rfl rfl ⟨fun _ => rB rfl, fun h => ⟨h1 h, rB rfl⟩⟩
theorem uses_spec (s : Scn) (hsr : -1000000 ≤ s.rooms ∧ s.rooms ≤ 1000000) (m : Mk) : APure Tryd.prog 70 [encSc s, .agg (cMk m)] (.bool (usB s.rooms m)) := by
  rw [cMk_eq]
  by_cases h1 : m.kd.val = 1
  · have := uses1 s m.id m.room m.other m.lo m.hi m.long
    unfold usB; rw [h1]; exact this
  by_cases h2 : m.kd.val = 2
  · have := uses2 s m.id m.room m.other m.lo m.hi m.long
    unfold usB; rw [h2]; exact this
  by_cases h3 : m.kd.val = 3
  · have := uses3 s m.id m.room m.other m.lo m.hi m.long
    unfold usB; rw [h3]; exact this
  by_cases h4 : m.kd.val = 4
  · have := uses4 s m.id m.room m.other m.lo m.hi m.long
    unfold usB; rw [h4]; exact this
  by_cases h5 : m.kd.val = 5
  · have := uses5 s m.id m.room m.other m.lo m.hi m.long
    unfold usB; rw [h5]; exact this
  by_cases h6 : m.kd.val = 6
  · have := uses6 s hsr m.id m.room m.other m.lo m.hi m.long
    unfold usB; rw [h6]; exact this
  have := uses0 s m.id m.kd.val m.room m.other m.lo m.hi m.long (by omega)
  have e : usB s.rooms m = false := by
    unfold usB
    rw [if_neg h6, if_neg (by omega), if_neg (by omega)]
  rw [e]; exact this
end Go.Proofs.YtmllgnnhblhfeaaDoor
