import Derived.Test.YticiopkiikcokaaT38
namespace Go.Proofs.Yticiopkiikcokaa
open Go Go.Am
def worksB (c : Cp) (m : Int) : Bool := (c.brk == 0) || decide (m < c.brk)
set_option maxHeartbeats 4000000 in
set_option maxRecDepth 100000 in
theorem works_spec (c : Cp) (m : Int) : APure Try.prog 40 [.agg (encCp c), .int .i64 m] (.bool (worksB c m)) := by
  refine APure.vc Try.func40 rfl (.both 8 .nil .nil) rfl rfl ⟨fun h => rB ?_, fun h => rB ?_⟩
  · simp [worksB, h]
  · simp [worksB, h]
theorem works_wks {c : Cp} (h : cpOk c = true) (m : Int) : worksB c m = wks c m := by
  have := (cpOk_out h).2.2.2
  unfold worksB wks
  by_cases e : c.brk = 0
  · simp [e]
  · have h1 : (c.brk == 0) = false := beq_eq_false_iff_ne.2 e
    have h2 : decide (c.brk > 0) = true := decide_eq_true (by omega)
    rw [h1, h2, Bool.false_or, Bool.true_and]
    by_cases h3 : m < c.brk
    · have : ¬ m ≥ c.brk := by omega
      simp [h3, this]
    · have : m ≥ c.brk := by omega
      simp [h3, this]
set_option maxHeartbeats 4000000 in
set_option maxRecDepth 100000 in
theorem span_spec (a b : Int) : APure Try.prog 69 [.int .i64 a, .int .i64 b] (.agg [.int .i64 a, .int .i64 b]) :=
  APure.vc Try.func69 rfl .nil rfl rfl ⟨trivial, rfl⟩
/-! 'shown': all lags from 0 on, those below the least left out. -/
def shLo (f : Int → Int) (lo : Nat) : Nat → Int
  | 0 => 2000
  | j + 1 => if j < lo then shLo f lo j else (if f j < shLo f lo j then f j else shLo f lo j)
def shHi (f : Int → Int) (lo : Nat) : Nat → Int
  | 0 => 0
  | j + 1 => if j < lo then shHi f lo j else (if f j > shHi f lo j then f j else shHi f lo j)
theorem sh_mn {f : Int → Int} {lo : Nat} (h : ∀ j : Nat, 0 ≤ f j ∧ f j ≤ 2000) : (∀ j, j ≤ lo → shLo f lo j = 2000 ∧ shHi f lo j = 0) ∧ ∀ n, shLo f lo (lo + n + 1) = mnK f lo (n + 1) ∧ shHi f lo (lo + n + 1) = mxK f lo (n + 1) := by
  have h0 : ∀ j, j ≤ lo → shLo f lo j = 2000 ∧ shHi f lo j = 0 := by
    intro j
    induction j with
    | zero => intro _; exact ⟨rfl, rfl⟩
    | succ j ih =>
      intro hj
      have := ih (by omega)
      simp only [shLo, shHi]
      rw [if_pos (by omega), if_pos (by omega)]
      exact this
  refine ⟨h0, fun n => ?_⟩
  induction n with
  | zero =>
    have hl := h0 lo (Nat.le_refl _)
    have hf := h lo
    have e : (lo : Int) + ((0 : Nat) : Int) = lo := by omega
    have s1 : shLo f lo (lo + 0 + 1) = if f lo < shLo f lo lo then f lo else shLo f lo lo := by
      show (if lo < lo then _ else _) = _
      rw [if_neg (by omega)]
    have s2 : shHi f lo (lo + 0 + 1) = if f lo > shHi f lo lo then f lo else shHi f lo lo := by
      show (if lo < lo then _ else _) = _
      rw [if_neg (by omega)]
    have m1 : mnK f lo (0 + 1) = if f ((lo : Int) + ((0 : Nat) : Int)) < f lo then f ((lo : Int) + ((0 : Nat) : Int)) else f lo := rfl
    have m2 : mxK f lo (0 + 1) = if f ((lo : Int) + ((0 : Nat) : Int)) > f lo then f ((lo : Int) + ((0 : Nat) : Int)) else f lo := rfl
    rw [s1, s2, m1, m2, hl.1, hl.2, e]
    rw [if_neg (show ¬ f lo < f lo by omega)]
    constructor <;> split <;> omega
  | succ n ih =>
    have e : (lo : Int) + ((n + 1 : Nat) : Int) = ((lo + n + 1 : Nat) : Int) := by omega
    have s1 : shLo f lo (lo + (n + 1) + 1) = if f ((lo + n + 1 : Nat) : Int) < shLo f lo (lo + n + 1) then f ((lo + n + 1 : Nat) : Int) else shLo f lo (lo + n + 1) := by
      show (if lo + n + 1 < lo then _ else _) = _
      rw [if_neg (by omega)]
      rfl
    have s2 : shHi f lo (lo + (n + 1) + 1) = if f ((lo + n + 1 : Nat) : Int) > shHi f lo (lo + n + 1) then f ((lo + n + 1 : Nat) : Int) else shHi f lo (lo + n + 1) := by
      show (if lo + n + 1 < lo then _ else _) = _
      rw [if_neg (by omega)]
      rfl
    have m1 : mnK f lo (n + 1 + 1) = if f ((lo : Int) + ((n + 1 : Nat) : Int)) < mnK f lo (n + 1) then f ((lo : Int) + ((n + 1 : Nat) : Int)) else mnK f lo (n + 1) := rfl
    have m2 : mxK f lo (n + 1 + 1) = if f ((lo : Int) + ((n + 1 : Nat) : Int)) > mxK f lo (n + 1) then f ((lo : Int) + ((n + 1 : Nat) : Int)) else mxK f lo (n + 1) := rfl
    rw [s1, s2, m1, m2, ih.1, ih.2, e]
    exact ⟨rfl, rfl⟩
end Go.Proofs.Yticiopkiikcokaa
