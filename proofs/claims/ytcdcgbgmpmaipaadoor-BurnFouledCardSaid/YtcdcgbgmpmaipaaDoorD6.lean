import Derived.Test.YtcdcgbgmpmaipaaDoorD5
namespace Go.Proofs.YtcdcgbgmpmaipaaDoor
open Go Go.Am
set_option maxRecDepth 100000
set_option maxHeartbeats 4000000
theorem dsum_spec (h : Hd) (r : List Int) (a n : Nat) (ho : Ok h r) (hb : a + n ≤ secN h r) : APure Tryd.prog 42 [encDt h r, .int .i64 a, .int .i64 (a + n : Nat)] (encS (sumV h r a n)) := by
  have s1 := lags_spec h r
  have s2 := widest_sum_spec h r a n ho hb
  exact APure.vc Tryd.func42 rfl (.call (lagsCl h r) <| .lent (encS (sumV h r a n)) [1, 2, 0] .nil) rfl rfl ⟨s1, ⟨_, by kernel_rfl, .inl ⟨s2, .inr rfl⟩⟩, trivial, by kernel_rfl⟩
theorem secN_le {h : Hd} {r : List Int} (ho : Ok h r) : secN h r ≤ 120 := by have := ho.r.len; unfold secN; omega
theorem Heat_spec (h : Hd) (r : List Int) (i : Int) : APure Tryd.prog 12 [encHd h, encR r, .int .i64 i] (encE (heatI h r i)) := by
  have s1 := Check_spec h r
  by_cases h0 : checkI h r = 0
  · have ho := checkI_ok.1 h0
    have hs := secN_le ho
    have d14 : (checkI h r != 0) = false := by simp [h0]
    have s2 := seconds_spec h r ho
    have s3 := isSecond_spec i (secN h r) (by omega)
    by_cases hi : 0 ≤ i ∧ i < secN h r
    · rw [decide_eq_true hi] at s3
      have e : heatI h r i = (sumV h r i.toNat 1, 0) := by simp only [heatI, h0, if_true, if_pos hi]
      rw [e]
      obtain ⟨k, rfl⟩ := Int.eq_ofNat_of_zero_le hi.1
      have s4 : APure Tryd.prog 42 [encDt h r, .int .i64 (k : Int), .int .i64 (IntKind.i64.wrap ((k : Int) + 1))] (encS (sumV h r k 1)) := by rw [succ64 (by omega)]; exact dsum_spec h r k 1 ho (by omega)
      generalize checkI h r = C at s1 d14 ⊢
      exact APure.vc Tryd.func12 rfl (.call (.int .i64 C) <| .br 14 false <| .call (.int .i64 (secN h r)) <| .call (.bool true) <| .call (encS (sumV h r k 1)) .nil) rfl rfl ⟨s1, d14, s2, s3, s4, trivial, by kernel_rfl⟩
    · rw [decide_eq_false hi] at s3
      have e : heatI h r i = ((0, 0), 2) := by simp only [heatI, h0, if_true, if_neg hi]
      rw [e]
      generalize checkI h r = C at s1 d14 ⊢
      exact APure.vc Tryd.func12 rfl (.call (.int .i64 C) <| .br 14 false <| .call (.int .i64 (secN h r)) <| .call (.bool false) .nil) rfl rfl ⟨s1, d14, s2, s3, trivial, by kernel_rfl⟩
  · have d14 : (checkI h r != 0) = true := by simp [h0]
    have e : heatI h r i = ((0, 0), checkI h r) := by simp only [heatI, if_neg h0]
    rw [e]
    generalize checkI h r = C at s1 d14 ⊢
    exact APure.vc Tryd.func12 rfl (.call (.int .i64 C) <| .br 14 true .nil) rfl rfl ⟨s1, d14, trivial, by kernel_rfl⟩
theorem Sum_spec (h : Hd) (r : List Int) (a b : Int) : APure Tryd.prog 14 [encHd h, encR r, .int .i64 a, .int .i64 b] (encE (sumI h r a b)) := by
  have s1 := Check_spec h r
  by_cases h0 : checkI h r = 0
  · have ho := checkI_ok.1 h0
    have hs := secN_le ho
    have d14 : (checkI h r != 0) = false := by simp [h0]
    have s2 := seconds_spec h r ho
    have s3 := areSeconds_spec a b (secN h r)
    by_cases hi : 0 ≤ a ∧ a ≤ b ∧ b ≤ secN h r
    · rw [decide_eq_true hi] at s3
      obtain ⟨m, rfl⟩ := Int.eq_ofNat_of_zero_le hi.1
      obtain ⟨n, rfl⟩ : ∃ n : Nat, b = ((m + n : Nat) : Int) := ⟨(b - m).toNat, by omega⟩
      have e : sumI h r (m : Int) ((m + n : Nat) : Int) = (sumV h r m n, 0) := by
        have : (((m + n : Nat) : Int) - (m : Int)).toNat = n := by omega
        simp only [sumI, h0, if_true, if_pos hi, Int.toNat_natCast, this]
      have s4 := dsum_spec h r m n ho (by omega)
      rw [e]
      generalize checkI h r = C at s1 d14 ⊢
      exact APure.vc Tryd.func14 rfl (.call (.int .i64 C) <| .br 16 false <| .call (.int .i64 (secN h r)) <| .call (.bool true) <| .call (encS (sumV h r m n)) .nil) rfl rfl ⟨s1, d14, s2, s3, s4, trivial, by kernel_rfl⟩
    · rw [decide_eq_false hi] at s3
      have e : sumI h r a b = ((0, 0), 2) := by simp only [sumI, h0, if_true, if_neg hi]
      rw [e]
      generalize checkI h r = C at s1 d14 ⊢
      exact APure.vc Tryd.func14 rfl (.call (.int .i64 C) <| .br 16 false <| .call (.int .i64 (secN h r)) <| .call (.bool false) .nil) rfl rfl ⟨s1, d14, s2, s3, trivial, by kernel_rfl⟩
  · have d14 : (checkI h r != 0) = true := by simp [h0]
    have e : sumI h r a b = ((0, 0), checkI h r) := by simp only [sumI, if_neg h0]
    rw [e]
    generalize checkI h r = C at s1 d14 ⊢
    exact APure.vc Tryd.func14 rfl (.call (.int .i64 C) <| .br 16 true .nil) rfl rfl ⟨s1, d14, trivial, by kernel_rfl⟩
end Go.Proofs.YtcdcgbgmpmaipaaDoor
