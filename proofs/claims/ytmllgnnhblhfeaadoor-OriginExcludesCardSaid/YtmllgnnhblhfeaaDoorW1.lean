import Derived.Test.YtmllgnnhblhfeaaDoorS1
/-
  SPANS AND TIMES.
-/
namespace Go.Proofs.YtmllgnnhblhfeaaDoor
open Go Go.Am
set_option maxRecDepth 100000
set_option maxHeartbeats 4000000
theorem inB_f1 {lo hi x : Int} (h : decide (lo ≤ x) = false) : inB lo hi x = false := by
  rw [Bool.eq_false_iff]; intro q; have := (inB_iff.1 q).1; exact absurd this (of_decide_eq_false h)
theorem inB_t1 {lo hi x : Int} (h : decide (lo ≤ x) = true) : decide (x ≤ hi) = inB lo hi x := by
  have := of_decide_eq_true h
  unfold inB
  congr 1
  exact propext ⟨fun q => ⟨this, q⟩, fun q => q.2⟩
theorem within_spec (lo hi x : Int) : APure Tryd.prog 38 [.agg [.int .i64 lo, .int .i64 hi], .int .i64 x] (.bool (inB lo hi x)) :=
  APure.vc Tryd.func38 rfl (.both 9 .nil .nil) rfl rfl ⟨fun h => rB (inB_t1 h), fun h => rB (inB_f1 h).symm⟩
theorem upTo_spec (n : Int) : APure Tryd.prog 39 [.int .i64 n] (.agg [.int .i64 0, .int .i64 n]) := APure.vc Tryd.func39 rfl .nil rfl rfl ⟨trivial, rfl⟩
theorem isSpan_spec (g lo hi : Int) : APure Tryd.prog 69 [.agg [.int .i64 lo, .int .i64 hi], .int .i64 g] (.bool (spanB g lo hi)) := by
  have u := upTo_spec g
  have w1 := within_spec 0 g lo
  have w2 := within_spec 0 g hi
  unfold spanB
  cases h1 : inB 0 g lo
  · rw [h1] at w1
    exact APure.vc Tryd.func69 rfl (.draw 17 <| .call (.agg [.int .i64 0, .int .i64 g]) <| .call (.bool false) .nil) rfl rfl ⟨by kernel_rfl, mixed, by kernel_rfl, u, w1, by kernel_rfl, rB rfl⟩
  · rw [h1] at w1
    cases h2 : inB 0 g hi
    · rw [h2] at w2
      exact APure.vc Tryd.func69 rfl (.draw 17 <| .call (.agg [.int .i64 0, .int .i64 g]) <| .call (.bool true) <| .call (.agg [.int .i64 0, .int .i64 g]) <| .call (.bool false) .nil) rfl rfl ⟨by kernel_rfl, mixed, by kernel_rfl, u, w1, u, w2, by kernel_rfl, rB rfl⟩
    · rw [h2] at w2
      exact APure.vc Tryd.func69 rfl (.draw 17 <| .call (.agg [.int .i64 0, .int .i64 g]) <| .call (.bool true) <| .call (.agg [.int .i64 0, .int .i64 g]) <| .call (.bool true) .nil) rfl rfl ⟨by kernel_rfl, mixed, by kernel_rfl, u, w1, u, w2, by kernel_rfl, rB rfl⟩
theorem isRoom_spec (s : Scn) (x : Int) (h : -1000000 ≤ s.rooms ∧ s.rooms ≤ 1000000) : APure Tryd.prog 24 [encSc s, .int .i64 x] (.bool (isR s.rooms x)) := by
  have u := upTo_spec (IntKind.i64.wrap (s.rooms - 1))
  have w := within_spec 0 (IntKind.i64.wrap (s.rooms - 1)) x
  have e : inB 0 (IntKind.i64.wrap (s.rooms - 1)) x = isR s.rooms x := by rw [wrap64 (by omega) (by omega)]; rfl
  rw [e] at w
  exact APure.vc Tryd.func24 rfl (.call (.agg [.int .i64 0, .int .i64 (IntKind.i64.wrap (s.rooms - 1))]) <| .call (.bool (isR s.rooms x)) .nil) rfl rfl ⟨u, w, rB rfl⟩
/-! ### times -/
theorem eqTm (n : Nat) (a b : Int) (p q : Bool) : aeqT Tryd.prog (n + 2) 67 (.agg [.int .i64 a, .bool p]) (.agg [.int .i64 b, .bool q]) = some (a == b && p == q) := by
  simp [aeqT, aeqF, ty67, ty3, ty4, apart, TD.agg, andO]
theorem nvE (t : Tm) : ((aeqT Tryd.prog 6 67 (.agg (cTm t)) (.agg [.int .i64 0, .bool true])).map AV.bool).map (fun v => (⟨v, []⟩ : Out)) = some ⟨.bool t.isNone, []⟩ := by
  unfold cTm; rw [eqTm]; cases t <;> simp
theorem nvN (t : Tm) : ((aeqT Tryd.prog 6 67 (.agg (cTm t)) (.agg [.int .i64 0, .bool true])).map fun b => AV.bool !b).map (fun v => (⟨v, []⟩ : Out)) = some ⟨.bool (!t.isNone), []⟩ := by
  unfold cTm; rw [eqTm]; cases t <;> simp
/-- Times that are not long. -/
def smT (t : Tm) : Prop := ∀ c, t = some c → 0 ≤ c ∧ c ≤ 1000000
theorem in_spec (t : Tm) (lo hi : Int) (ht : smT t) (hl : -1000000 ≤ lo ∧ lo ≤ 1000000) (hh : -1000000 ≤ hi ∧ hi ≤ 1000000) : APure Tryd.prog 41 [encTm t, .agg [.int .i64 lo, .int .i64 hi]] (encSp (inT t lo hi)) := by
  have e7 := nvE t
  cases t with
  | none => exact APure.vc Tryd.func41 rfl (.val 7 (.bool true) [] .nil) rfl rfl ⟨Eq.trans (by kernel_rfl) e7, trivial, rfl⟩
  | some c =>
    have hc := ht c rfl
    have e : some (AV.agg [.int .i64 (IntKind.i64.wrap (lo - c)), .int .i64 (IntKind.i64.wrap (hi - c))]) = some (encSp (inT (some c) lo hi)) := by rw [wrap64 (by omega) (by omega), wrap64 (by omega) (by omega)]; rfl
    exact APure.vc Tryd.func41 rfl (.val 7 (.bool false) [] .nil) rfl rfl ⟨Eq.trans (by kernel_rfl) e7, trivial, Eq.trans (by kernel_rfl) e⟩
theorem until_spec (t : Tm) (m : Int) (ht : smT t) (hl : -1000000 ≤ m ∧ m ≤ 1000000) : APure Tryd.prog 45 [encTm t, .int .i64 m] (encSp (untilT t m)) := by
  have e7 := nvE t
  cases t with
  | none => exact APure.vc Tryd.func45 rfl (.val 7 (.bool true) [] .nil) rfl rfl ⟨Eq.trans (by kernel_rfl) e7, trivial, rfl⟩
  | some c =>
    have hc := ht c rfl
    have e : some (AV.agg [.int .i64 0, .int .i64 (IntKind.i64.wrap (m - c))]) = some (encSp (untilT (some c) m)) := by rw [wrap64 (by omega) (by omega)]; rfl
    exact APure.vc Tryd.func45 rfl (.val 7 (.bool false) [] .nil) rfl rfl ⟨Eq.trans (by kernel_rfl) e7, trivial, Eq.trans (by kernel_rfl) e⟩
theorem after_spec (t : Tm) (m : Int) (ht : smT t) (hl : -1000000 ≤ m ∧ m ≤ 1000000) : APure Tryd.prog 43 [encTm t, .int .i64 m] (encSp (afterT t m)) := by
  have e7 := nvE t
  cases t with
  | none => exact APure.vc Tryd.func43 rfl (.val 7 (.bool true) [] .nil) rfl rfl ⟨Eq.trans (by kernel_rfl) e7, trivial, rfl⟩
  | some c =>
    have hc := ht c rfl
    have e : some (AV.agg [.int .i64 (IntKind.i64.wrap (IntKind.i64.wrap (m + 1) - c)), .int .i64 600]) = some (encSp (afterT (some c) m)) := by rw [wrap64 (n := m + 1) (by omega) (by omega), wrap64 (by omega) (by omega)]; rfl
    exact APure.vc Tryd.func43 rfl (.val 7 (.bool false) [] .nil) rfl rfl ⟨Eq.trans (by kernel_rfl) e7, trivial, Eq.trans (by kernel_rfl) e⟩
theorem isBefore_spec (t u : Tm) : APure Tryd.prog 49 [encTm t, encTm u] (.bool (befT t u)) := by
  have e7 := nvN t
  have e11 := nvE u
  cases t with
  | none => exact APure.vc Tryd.func49 rfl (.val 7 (.bool false) [] .nil) rfl rfl ⟨Eq.trans (by kernel_rfl) e7, rB rfl⟩
  | some c =>
    cases u with
    | none => exact APure.vc Tryd.func49 rfl (.val 7 (.bool true) [] <| .val 11 (.bool true) [] .nil) rfl rfl ⟨Eq.trans (by kernel_rfl) e7, Eq.trans (by kernel_rfl) e11, rB rfl⟩
    | some d => exact APure.vc Tryd.func49 rfl (.val 7 (.bool true) [] <| .val 11 (.bool false) [] .nil) rfl rfl ⟨Eq.trans (by kernel_rfl) e7, Eq.trans (by kernel_rfl) e11, rB rfl⟩
theorem sooner_spec (t u : Tm) : APure Tryd.prog 53 [encTm t, encTm u] (encTm (soonT t u)) := by
  have s := isBefore_spec u t
  unfold soonT
  cases h : befT u t
  · rw [h] at s
    exact APure.vc Tryd.func53 rfl (.call (.bool false) .nil) rfl rfl ⟨s, trivial, rfl⟩
  · rw [h] at s
    exact APure.vc Tryd.func53 rfl (.call (.bool true) .nil) rfl rfl ⟨s, trivial, rfl⟩
theorem and_spec (t u : Tm) (ht : smT t) (hu : smT u) : APure Tryd.prog 54 [encTm t, encTm u] (encTm (andT t u)) := by
  have e7 := nvE t
  have e11 := nvE u
  cases t with
  | none => exact APure.vc Tryd.func54 rfl (.val 7 (.bool true) [] .nil) rfl rfl ⟨Eq.trans (by kernel_rfl) e7, trivial, rfl⟩
  | some c =>
    cases u with
    | none => exact APure.vc Tryd.func54 rfl (.val 7 (.bool false) [] <| .val 11 (.bool true) [] .nil) rfl rfl ⟨Eq.trans (by kernel_rfl) e7, Eq.trans (by kernel_rfl) e11, trivial, rfl⟩
    | some d =>
      have hc := ht c rfl
      have hd := hu d rfl
      have e : some (AV.agg [.int .i64 (IntKind.i64.wrap (c + d)), .bool false]) = some (encTm (andT (some c) (some d))) := by rw [wrap64 (by omega) (by omega)]; rfl
      exact APure.vc Tryd.func54 rfl (.val 7 (.bool false) [] <| .val 11 (.bool false) [] .nil) rfl rfl ⟨Eq.trans (by kernel_rfl) e7, Eq.trans (by kernel_rfl) e11, trivial, Eq.trans (by kernel_rfl) e⟩
theorem overlap_spec (a b : Spn) : APure Tryd.prog 68 [encSp a, encSp b] (encSp (overV a b)) := by
  have e : some (AV.agg [.int .i64 (if b.1 > a.1 then b.1 else a.1), .int .i64 (if b.2 < a.2 then b.2 else a.2)]) = some (encSp (overV a b)) := by rw [ifmax, ifmin]; rfl
  exact APure.vc Tryd.func68 rfl .nil rfl rfl ⟨trivial, Eq.trans (by kernel_rfl) e⟩
end Go.Proofs.YtmllgnnhblhfeaaDoor
