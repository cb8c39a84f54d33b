import Derived.Test.YtcdcgbgmpmaipaaBs4
namespace Go.Proofs.Ytcdcgbgmpmaipaa
open Go Go.Am
theorem rInB (i : Int) (n : Nat) (hn : n ≤ 1000000) : APure Try.prog 15 [.int .i64 i, .int .i64 0, .int .i64 (IntKind.i64.wrap ((n : Int) - 1))] (.bool (decide (0 ≤ i ∧ i < n))) := by
  have e : IntKind.i64.wrap ((n : Int) - 1) = (n : Int) - 1 := wrap64 (by omega) (by omega)
  rw [e]
  have := rwithin_spec i 0 ((n : Int) - 1)
  have e2 : inB 0 ((n : Int) - 1) i = decide (0 ≤ i ∧ i < n) := decide_eq_decide.2 (by omega)
  rwa [e2] at this
theorem rInL (r : List Int) (i : Int) (hr : r.length ≤ 120) : APure Try.prog 15 [.int .i64 i, .int .i64 0, .int .i64 (IntKind.i64.wrap ((((r.map encI).length : Nat) : Int) - 1))] (.bool (decide (0 ≤ i ∧ i < r.length))) := by
  rw [List.length_map]; exact rInB i r.length (by omega)
theorem rClean_spec (l : Lp) (r : List Int) (i : Int) : APure Try.prog 6 [encLp l, encR r, .int .i64 i] (encE (cleanI l r i)) := by
  have s1 := Lights_spec l r
  by_cases h0 : lightsI l r = 0
  · have ho := lightsI_ok.1 h0
    have d13 : (lightsI l r != 0) = false := by simp [h0]
    have s2 := rInL r i ho.r.len
    by_cases hi : 0 ≤ i ∧ i < r.length
    · rw [decide_eq_true hi] at s2
      have e : cleanI l r i = ((cleanV l r i.toNat, l.before), 0) := by simp [cleanI, inSecI, h0, hi]
      rw [e]
      obtain ⟨k, rfl⟩ := Int.eq_ofNat_of_zero_le hi.1
      have s3 := rclean_spec l r k ho.r.len (by omega)
      exact APure.vc Try.func6 rfl (.call (.int .i64 (lightsI l r)) <| .br 13 false <| .call (.bool true) <| .draw 6 <| .call (.int .i64 (cleanV l r k)) .nil) rfl rfl ⟨s1, d13, s2, by kernel_rfl, mixed, by kernel_rfl, s3, by kernel_rfl, trivial, rfl⟩
    · rw [decide_eq_false hi] at s2
      have e : cleanI l r i = ((0, 0), 2) := by simp only [cleanI, inSecI, h0, if_true, if_neg hi]
      rw [e]
      exact APure.vc Try.func6 rfl (.call (.int .i64 (lightsI l r)) <| .br 13 false <| .call (.bool false) .nil) rfl rfl ⟨s1, d13, s2, trivial, rfl⟩
  · have d13 : (lightsI l r != 0) = true := by simp [h0]
    have e : cleanI l r i = ((0, 0), lightsI l r) := by simp only [cleanI, inSecI, if_neg h0]
    rw [e]
    exact APure.vc Try.func6 rfl (.call (.int .i64 (lightsI l r)) <| .br 13 true .nil) rfl rfl ⟨s1, d13, trivial, rfl⟩
theorem smoke_one (l : Lp) (r : List Int) (k : Nat) : smokeS l r k 1 = darkS l r k := by simp [smokeS, sumF_one]
theorem rDark_spec (l : Lp) (r : List Int) (i : Int) : APure Try.prog 8 [encLp l, encR r, .int .i64 i] (encE (darkI l r i)) := by
  have s1 := Lights_spec l r
  by_cases h0 : lightsI l r = 0
  · have ho := lightsI_ok.1 h0
    have d13 : (lightsI l r != 0) = false := by simp [h0]
    have s2 := rInL r i ho.r.len
    by_cases hi : 0 ≤ i ∧ i < r.length
    · rw [decide_eq_true hi] at s2
      have e : darkI l r i = (darkS l r i.toNat, 0) := by simp [darkI, inSecI, h0, hi]
      rw [e]
      obtain ⟨k, rfl⟩ := Int.eq_ofNat_of_zero_le hi.1
      have hlen := ho.r.len
      have s3 := darks_spec l r k 1 ho (by omega)
      rw [smoke_one] at s3
      have s4 : APure Try.prog 18 [encLp l, encR r, .int .i64 (k : Int), .int .i64 (IntKind.i64.wrap ((k : Int) + 1))] (encS (darkS l r k)) := by rw [succ64 (by omega)]; exact s3
      exact APure.vc Try.func8 rfl (.call (.int .i64 (lightsI l r)) <| .br 13 false <| .call (.bool true) <| .call (encS (darkS l r k)) .nil) rfl rfl ⟨s1, d13, s2, s4, trivial, rfl⟩
    · rw [decide_eq_false hi] at s2
      have e : darkI l r i = ((0, 0), 2) := by simp only [darkI, inSecI, h0, if_true, if_neg hi]
      rw [e]
      exact APure.vc Try.func8 rfl (.call (.int .i64 (lightsI l r)) <| .br 13 false <| .call (.bool false) .nil) rfl rfl ⟨s1, d13, s2, trivial, rfl⟩
  · have d13 : (lightsI l r != 0) = true := by simp [h0]
    have e : darkI l r i = ((0, 0), lightsI l r) := by simp only [darkI, inSecI, if_neg h0]
    rw [e]
    exact APure.vc Try.func8 rfl (.call (.int .i64 (lightsI l r)) <| .br 13 true .nil) rfl rfl ⟨s1, d13, trivial, rfl⟩
theorem rSmoke_spec (l : Lp) (r : List Int) (a b : Int) : APure Try.prog 10 [encLp l, encR r, .int .i64 a, .int .i64 b] (encE (smokeI l r a b)) := by
  have s1 := Lights_spec l r
  by_cases h0 : lightsI l r = 0
  · have ho := lightsI_ok.1 h0
    have d13 : (lightsI l r != 0) = false := by simp [h0]
    have el : (((r.map encI).length : Nat) : Int) = r.length := by rw [List.length_map]
    by_cases hi : 0 ≤ a ∧ a ≤ b ∧ b ≤ r.length
    · have d20 : decide (a < 0) = false := decide_eq_false (by omega)
      have d25 : decide (b < a) = false := decide_eq_false (by omega)
      have d30 : decide (b > (((r.map encI).length : Nat) : Int)) = false := decide_eq_false (by omega)
      obtain ⟨m, rfl⟩ := Int.eq_ofNat_of_zero_le hi.1
      obtain ⟨n, rfl⟩ : ∃ n : Nat, b = ((m + n : Nat) : Int) := ⟨(b - m).toNat, by omega⟩
      have e : smokeI l r (m : Int) ((m + n : Nat) : Int) = (smokeS l r m n, 0) := by
        have : (((m + n : Nat) : Int) - (m : Int)).toNat = n := by omega
        simp only [smokeI, h0, if_true, if_pos hi, Int.toNat_natCast, this]
      have s3 := darks_spec l r m n ho (by omega)
      rw [e]
      exact APure.vc Try.func10 rfl (.call (.int .i64 (lightsI l r)) <| .br 15 false <| .br 20 false <| .br 25 false <| .br 30 false <| .call (encS (smokeS l r m n)) .nil) rfl rfl ⟨s1, d13, d20, d25, d30, s3, trivial, rfl⟩
    · have e : smokeI l r a b = ((0, 0), 2) := by simp only [smokeI, h0, if_true, if_neg hi]
      rw [e]
      exact APure.vc Try.func10 rfl (.call (.int .i64 (lightsI l r)) <| .br 15 false <| .both 20 .nil (.both 25 .nil (.both 30 .nil .nil))) rfl rfl
        ⟨s1, d13, fun _ => ⟨trivial, rfl⟩, fun h1 => ⟨fun _ => ⟨trivial, rfl⟩, fun h2 => ⟨fun _ => ⟨trivial, rfl⟩, fun h3 => absurd (show 0 ≤ a ∧ a ≤ b ∧ b ≤ r.length by simp at h1 h2 h3; omega) hi⟩⟩⟩
  · have d13 : (lightsI l r != 0) = true := by simp [h0]
    have e : smokeI l r a b = ((0, 0), lightsI l r) := by simp only [smokeI, if_neg h0]
    rw [e]
    exact APure.vc Try.func10 rfl (.call (.int .i64 (lightsI l r)) <| .br 15 true .nil) rfl rfl ⟨s1, d13, trivial, rfl⟩
end Go.Proofs.Ytcdcgbgmpmaipaa
