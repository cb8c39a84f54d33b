import Derived.Test.YtcdcgbgmpmaipaaDoorBs3
namespace Go.Proofs.YtcdcgbgmpmaipaaDoor
open Go Go.Am
set_option maxRecDepth 100000
set_option maxRecDepth 100000 in
theorem isSpan_spec (lo hi m : Int) : APure Tryd.prog 71 [.agg [.int .i64 lo, .int .i64 hi], .int .i64 m] (.bool (spB lo hi m)) := by
  have u := upTo_spec m
  have w : APure Tryd.prog 63 [.agg [.int .i64 0, .int .i64 m], .lst 1 [encI lo, encI hi]] (.bool (inB 0 m lo && inB 0 m hi)) := by
    have := within_spec [lo, hi] 0 m (by simp); simpa using this
  cases h : (inB 0 m lo && inB 0 m hi)
  · rw [h] at w
    exact APure.vc Tryd.func71 rfl (.draw 13 <| .call (.agg [.int .i64 0, .int .i64 m]) <| .lent (.bool false) [7] .nil) rfl rfl
      ⟨by kernel_rfl, mixed, by kernel_rfl, u, ⟨_, by kernel_rfl, .inl ⟨w, .inr rfl⟩⟩, by kernel_rfl, rB (by symm; simp [inB] at h; simp [spB]; omega)⟩
  · rw [h] at w
    exact APure.vc Tryd.func71 rfl (.draw 13 <| .call (.agg [.int .i64 0, .int .i64 m]) <| .lent (.bool true) [7] .nil) rfl rfl
      ⟨by kernel_rfl, mixed, by kernel_rfl, u, ⟨_, by kernel_rfl, .inl ⟨w, .inr rfl⟩⟩, by kernel_rfl, rB (by simp [inB] at h; exact decide_eq_decide.2 (by omega))⟩
set_option maxRecDepth 100000 in
theorem isHood_spec (h : Hd) : APure Tryd.prog 52 [encHd h] (.bool (hoodB h)) := by
  have s1 := isSpan_spec h.bLo h.bHi 1000000
  have s2 := isSpan_spec h.fLo h.fHi 10000
  have s3 := isSpan_spec h.jLo h.jHi 30000
  have s4 := isSpan_spec h.lLo h.lHi 30
  have u := upTo_spec 1000
  have w : APure Tryd.prog 63 [.agg [.int .i64 0, .int .i64 1000], .lst 1 [encI h.dr]] (.bool (inB 0 1000 h.dr)) := by
    have := within_spec [h.dr] 0 1000 (by simp); simpa using this
  cases h1 : spB h.bLo h.bHi 1000000
  · rw [h1] at s1
    exact APure.vc Tryd.func52 rfl (.draw 23 <| .call (.bool false) .nil) rfl rfl ⟨by kernel_rfl, mixed, by kernel_rfl, s1, by kernel_rfl, rB (by simp [hoodB, h1])⟩
  · rw [h1] at s1
    cases h2 : spB h.fLo h.fHi 10000
    · rw [h2] at s2
      exact APure.vc Tryd.func52 rfl (.draw 23 <| .call (.bool true) <| .call (.bool false) .nil) rfl rfl ⟨by kernel_rfl, mixed, by kernel_rfl, s1, s2, by kernel_rfl, rB (by simp [hoodB, h1, h2])⟩
    · rw [h2] at s2
      cases h3 : spB h.jLo h.jHi 30000
      · rw [h3] at s3
        exact APure.vc Tryd.func52 rfl (.draw 23 <| .call (.bool true) <| .call (.bool true) <| .call (.bool false) .nil) rfl rfl ⟨by kernel_rfl, mixed, by kernel_rfl, s1, s2, s3, by kernel_rfl, rB (by simp [hoodB, h1, h2, h3])⟩
      · rw [h3] at s3
        cases h4 : spB h.lLo h.lHi 30
        · rw [h4] at s4
          exact APure.vc Tryd.func52 rfl (.draw 23 <| .call (.bool true) <| .call (.bool true) <| .call (.bool true) <| .call (.bool false) .nil) rfl rfl ⟨by kernel_rfl, mixed, by kernel_rfl, s1, s2, s3, s4, by kernel_rfl, rB (by simp [hoodB, h1, h2, h3, h4])⟩
        · rw [h4] at s4
          exact APure.vc Tryd.func52 rfl (.draw 23 <| .call (.bool true) <| .call (.bool true) <| .call (.bool true) <| .call (.bool true) <| .call (.agg [.int .i64 0, .int .i64 1000]) <| .lent (.bool (inB 0 1000 h.dr)) [23] .nil) rfl rfl
            ⟨by kernel_rfl, mixed, by kernel_rfl, s1, s2, s3, s4, u, by kernel_rfl, ⟨_, by kernel_rfl, .inl ⟨w, .inr rfl⟩⟩, rB (by simp [hoodB, h1, h2, h3, h4, inB])⟩
theorem Check_spec (h : Hd) (r : List Int) : APure Tryd.prog 18 [encHd h, encR r] (.int .i64 (checkI h r)) := by
  have s1 := isHood_spec h
  have s2 := areReads_spec r 1000000
  cases h1 : hoodB h
  · rw [h1] at s1
    exact APure.vc Tryd.func18 rfl (.call (.bool false) .nil) rfl rfl ⟨s1, rI (by simp [checkI, h1])⟩
  · rw [h1] at s1
    cases h2 : readsB r 1000000
    · rw [h2] at s2
      exact APure.vc Tryd.func18 rfl (.call (.bool true) <| .call (.bool false) .nil) rfl rfl ⟨s1, s2, rI (by simp [checkI, h1, h2])⟩
    · rw [h2] at s2
      exact APure.vc Tryd.func18 rfl (.call (.bool true) <| .call (.bool true) .nil) rfl rfl ⟨s1, s2, rI (by simp [checkI, h1, h2])⟩
theorem spanned_spec (lo hi m : Int) : APure Tryd.prog 72 [.agg [.int .i64 lo, .int .i64 hi], .int .i64 0, .int .i64 m] (.bool (spB lo hi m)) := by
  refine APure.vc Tryd.func72 rfl (.both 11 (.both 18 .nil .nil) .nil) rfl rfl ⟨fun h => ⟨fun h2 => rB ?_, fun h2 => rB ?_⟩, fun h => rB ?_⟩
  · simp at h h2; exact decide_eq_decide.2 (by omega)
  · simp at h h2; symm; simp [spB]; omega
  · simp at h; symm; simp [spB]; omega
theorem rHood_spec (h : Hd) : APure Tryd.prog 54 [encHd h] (.bool (hoodB h)) := by
  have s1 := spanned_spec h.bLo h.bHi 1000000
  have s2 := spanned_spec h.fLo h.fHi 10000
  have s3 := spanned_spec h.jLo h.jHi 30000
  have s4 := spanned_spec h.lLo h.lHi 30
  have w := rwithin_spec h.dr 0 1000
  cases h1 : spB h.bLo h.bHi 1000000
  · rw [h1] at s1
    exact APure.vc Tryd.func54 rfl (.call (.bool false) .nil) rfl rfl ⟨s1, rB (by simp [hoodB, h1])⟩
  · rw [h1] at s1
    cases h2 : spB h.fLo h.fHi 10000
    · rw [h2] at s2
      exact APure.vc Tryd.func54 rfl (.call (.bool true) <| .call (.bool false) .nil) rfl rfl ⟨s1, s2, rB (by simp [hoodB, h1, h2])⟩
    · rw [h2] at s2
      cases h3 : spB h.jLo h.jHi 30000
      · rw [h3] at s3
        exact APure.vc Tryd.func54 rfl (.call (.bool true) <| .call (.bool true) <| .call (.bool false) .nil) rfl rfl ⟨s1, s2, s3, rB (by simp [hoodB, h1, h2, h3])⟩
      · rw [h3] at s3
        cases h4 : spB h.lLo h.lHi 30
        · rw [h4] at s4
          exact APure.vc Tryd.func54 rfl (.call (.bool true) <| .call (.bool true) <| .call (.bool true) <| .call (.bool false) .nil) rfl rfl ⟨s1, s2, s3, s4, rB (by simp [hoodB, h1, h2, h3, h4])⟩
        · rw [h4] at s4
          exact APure.vc Tryd.func54 rfl (.call (.bool true) <| .call (.bool true) <| .call (.bool true) <| .call (.bool true) <| .call (.bool (inB 0 1000 h.dr)) .nil) rfl rfl
            ⟨s1, s2, s3, s4, w, rB (by simp [hoodB, h1, h2, h3, h4, inB])⟩
theorem rCheck_spec (h : Hd) (r : List Int) : APure Tryd.prog 19 [encHd h, encR r] (.int .i64 (checkI h r)) := by
  have s1 := rHood_spec h
  have s2 := rreads_spec r 1000000
  cases h1 : hoodB h
  · rw [h1] at s1
    exact APure.vc Tryd.func19 rfl (.call (.bool false) .nil) rfl rfl ⟨s1, rI (by simp [checkI, h1])⟩
  · rw [h1] at s1
    cases h2 : readsB r 1000000
    · rw [h2] at s2
      exact APure.vc Tryd.func19 rfl (.call (.bool true) <| .call (.bool false) .nil) rfl rfl ⟨s1, s2, rI (by simp [checkI, h1, h2])⟩
    · rw [h2] at s2
      exact APure.vc Tryd.func19 rfl (.call (.bool true) <| .call (.bool true) .nil) rfl rfl ⟨s1, s2, rI (by simp [checkI, h1, h2])⟩
end Go.Proofs.YtcdcgbgmpmaipaaDoor
