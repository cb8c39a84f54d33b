import Derived.Test.YtcdcgbgmpmaipaaDoorD13
import Derived.Test.YtcdcgbgmpmaipaaDoorD12
namespace Go.Proofs.YtcdcgbgmpmaipaaDoor
open Go Go.Am
set_option maxRecDepth 100000
set_option maxHeartbeats 8000000
theorem kmp {a b : Prop} (h : a = b) (x : a) : b := h ▸ x
theorem tTrue : true = true := rfl
theorem rTrue : some (AV.bool true) = some (AV.bool true) := rfl
theorem ready_spec (h : Hd) (r : List Int) : APure Tryd.prog 31 [encHd h, encR r] (.bool (decide (checkI h r = 0))) := by
  have sG := Great_spec r
  have sC := rCheck_spec h r
  by_cases hg : r.length > 150
  · rw [decide_eq_true hg] at sG
    have hn : checkI h r ≠ 0 := fun e => by have := (checkI_ok.1 e).r.len; omega
    have e : decide (checkI h r = 0) = false := decide_eq_false hn
    rw [e]
    exact APure.vc Tryd.func31 rfl (.call (.bool true) .nil) rfl rfl ⟨sG, trivial, by kernel_rfl⟩
  · rw [decide_eq_false hg] at sG
    have e : (checkI h r == 0) = decide (checkI h r = 0) := rfl
    rw [← e]
    generalize checkI h r = C at *
    exact APure.vc Tryd.func31 rfl (.call (.bool false) <| .call (.int .i64 C) .nil) rfl rfl ⟨sG, sC, trivial, by kernel_rfl⟩
theorem rSeconds_spec (h : Hd) (r : List Int) (ho : Ok h r) : APure Tryd.prog 33 [encHd h, encR r] (.int .i64 (secN h r)) := by
  have hl := ho.h.l
  have hr := ho.r.len
  have e2 : IntKind.i64.wrap (((r.map encI).length : Int) - h.lHi) = (r.length : Int) - h.lHi := by rw [List.length_map, wrap64 (by omega) (by omega)]
  exact APure.vc Tryd.func33 rfl .nil rfl rfl (rI (by rw [e2, ifmax]; unfold secN; omega))
theorem law_level (h : Hd) (r : List Int) (a b : Int) : APure Tryd.prog 8 [encHd h, encR r, .int .i64 a, .int .i64 b] (.bool true) := by
  have sA := alive_spec
  have sR := ready_spec h r
  by_cases h0 : checkI h r = 0
  · rw [decide_eq_true h0] at sR
    have ho := checkI_ok.1 h0
    by_cases ha : a < 1
    · exact APure.vc Tryd.func8 rfl (.call (.bool true) <| .call (.bool true) <| .br 27 true .nil) rfl rfl (kmp (by kernel_rfl) <| And.intro sA <| And.intro sR <| And.intro (show decide (a < 1) = true from decide_eq_true ha) <| And.intro trivial rTrue)
    · by_cases hb : b < 1
      · exact APure.vc Tryd.func8 rfl (.call (.bool true) <| .call (.bool true) <| .br 27 false <| .br 31 true .nil) rfl rfl (kmp (by kernel_rfl) <| And.intro sA <| And.intro sR <| And.intro (show decide (a < 1) = false from decide_eq_false ha) <| And.intro (show decide (b < 1) = true from decide_eq_true hb) <| And.intro trivial rTrue)
      · obtain ⟨v, ev⟩ : ∃ v, v = (if b < a then b else a) := ⟨_, rfl⟩
        obtain ⟨w, ew⟩ : ∃ w, w = (if b > a then b else a) := ⟨_, rfl⟩
        have v1 : some (⟨.int .i64 (if b < a then b else a), []⟩ : Out) = some ⟨.int .i64 v, []⟩ := by rw [ev]
        have w1 : some (⟨.int .i64 (if b > a then b else a), []⟩ : Out) = some ⟨.int .i64 w, []⟩ := by rw [ew]
        rw [ifmin] at ev
        rw [ifmax] at ew
        have s1 := First_spec h r v
        have s2 := First_spec h r w
        have e1 : firstI h r v = (firstS h r v, knownI h r v, 0) := by simp only [firstI, h0, if_true, if_pos (show 1 ≤ v by omega)]
        have e2 : firstI h r w = (firstS h r w, knownI h r w, 0) := by simp only [firstI, h0, if_true, if_pos (show 1 ≤ w by omega)]
        rw [e1] at s1
        rw [e2] at s2
        obtain ⟨L1, L2, L3⟩ := level_ok ho (show v ≤ w by omega)
        clear e1 e2 h0
        generalize firstS h r v = F at *
        generalize firstS h r w = G at *
        generalize knownI h r v = n at *
        generalize knownI h r w = m at *
        have d72 : decide (n ≥ m) = true := decide_eq_true L1
        by_cases m0 : m = 0
        · have d75 : (m == 0) = true := by simp [m0]
          exact APure.vc Tryd.func8 rfl (.call (.bool true) <| .call (.bool true) <| .br 27 false <| .br 31 false <| .val 38 (.int .i64 v) [] <| .val 41 (.int .i64 w) [] <| .call (encF (F, n, 0)) <| .call (encF (G, m, 0)) <| .br 72 true <| .br 75 true .nil) rfl rfl
            (kmp (by kernel_rfl) <| And.intro sA <| And.intro sR <| And.intro (show decide (a < 1) = false from decide_eq_false ha) <| And.intro (show decide (b < 1) = false from decide_eq_false hb) <| And.intro v1 <| And.intro w1 <| And.intro s1 <| And.intro s2 <| And.intro d72 <| And.intro d75 <| And.intro trivial rTrue)
        · have d75 : (m == 0) = false := by simp [m0]
          have d81 : decide (F.1 ≤ G.1) = true := decide_eq_true (L2 m0)
          by_cases m2 : m = 2
          · have d84 : (m != 2) = false := by simp [m2]
            have dE : some (AV.bool (decide (F.2 ≤ G.2))) = some (.bool true) := by rw [decide_eq_true (L3 m2)]
            exact APure.vc Tryd.func8 rfl (.call (.bool true) <| .call (.bool true) <| .br 27 false <| .br 31 false <| .val 38 (.int .i64 v) [] <| .val 41 (.int .i64 w) [] <| .call (encF (F, n, 0)) <| .call (encF (G, m, 0)) <| .br 72 true <| .br 75 false <| .br 81 true <| .br 84 false .nil) rfl rfl
              (kmp (by kernel_rfl) <| And.intro sA <| And.intro sR <| And.intro (show decide (a < 1) = false from decide_eq_false ha) <| And.intro (show decide (b < 1) = false from decide_eq_false hb) <| And.intro v1 <| And.intro w1 <| And.intro s1 <| And.intro s2 <| And.intro d72 <| And.intro d75 <| And.intro d81 <| And.intro d84 <| And.intro trivial dE)
          · have d84 : (m != 2) = true := by simp [m2]
            exact APure.vc Tryd.func8 rfl (.call (.bool true) <| .call (.bool true) <| .br 27 false <| .br 31 false <| .val 38 (.int .i64 v) [] <| .val 41 (.int .i64 w) [] <| .call (encF (F, n, 0)) <| .call (encF (G, m, 0)) <| .br 72 true <| .br 75 false <| .br 81 true <| .br 84 true .nil) rfl rfl
              (kmp (by kernel_rfl) <| And.intro sA <| And.intro sR <| And.intro (show decide (a < 1) = false from decide_eq_false ha) <| And.intro (show decide (b < 1) = false from decide_eq_false hb) <| And.intro v1 <| And.intro w1 <| And.intro s1 <| And.intro s2 <| And.intro d72 <| And.intro d75 <| And.intro d81 <| And.intro d84 <| And.intro trivial rTrue)
  · rw [decide_eq_false h0] at sR
    exact APure.vc Tryd.func8 rfl (.call (.bool true) <| .call (.bool false) .nil) rfl rfl (kmp (by kernel_rfl) <| And.intro sA <| And.intro sR <| And.intro trivial rTrue)
end Go.Proofs.YtcdcgbgmpmaipaaDoor
