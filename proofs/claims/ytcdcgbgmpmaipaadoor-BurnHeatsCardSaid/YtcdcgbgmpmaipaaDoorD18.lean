import Derived.Test.YtcdcgbgmpmaipaaDoorD17
import Derived.Test.YtcdcgbgmpmaipaaDoorE1
import Derived.Test.YtcdcgbgmpmaipaaDoorE0
import Derived.Test.YtcdcgbgmpmaipaaDoorD15
namespace Go.Proofs.YtcdcgbgmpmaipaaDoor
open Go Go.Am
set_option maxRecDepth 100000
set_option maxHeartbeats 16000000
theorem law_heats (h : Hd) (r : List Int) (i a b v : Int) : APure Tryd.prog 3 [encHd h, encR r, .int .i64 i, .int .i64 a, .int .i64 b, .int .i64 v] (.bool true) := by
  have sG := Great_spec r
  by_cases hg : r.length > 150
  · rw [decide_eq_true hg] at sG
    exact APure.vc Tryd.func3 rfl (.call (.bool true) .nil) rfl rfl ⟨sG, trivial, by kernel_rfl⟩
  · rw [decide_eq_false hg] at sG
    have ap := app_ints (h := hget [(0, .cells (hoodL h)), (1, .cells [])]) (i := 1) (nid := 2) (l := r) rfl (by omega)
    have s1 := Heat_spec h r i
    have s2 := rHeat_spec h r i
    have s3 := Sum_spec h r a b
    have s4 := rSum_spec h r a b
    have s5 := First_spec h r v
    have s6 := rFirst_spec h r v
    have s7 := SameInts_spec r (by omega)
    have s8 := Check_spec h r
    have s9 := rCheck_spec h r
    generalize heatI h r i = A at *
    generalize sumI h r a b = B at *
    generalize firstI h r v = D at *
    generalize checkI h r = C at *
    have nA : (A.2 == A.2) = true := by simp
    have nB : (B.2 == B.2) = true := by simp
    have nD : (D.2.1 == D.2.1) = true := by simp
    have nE : (D.2.2 == D.2.2) = true := by simp
    have nC : (C == C) = true := by simp
    exact APure.vc Tryd.func3 rfl (.call (.bool false) <| .val 32 (.rsl 2 0 r.length 1) [(1, none), (2, some (.cells (fl encI r)))] <| .lent (encE A) [2] <| .call (encE A) <| .lent (encE B) [2] <| .call (encE B) <| .lent (encF D) [2] <| .call (encF D) <|
        .draw 45 <| .lent (.int .i64 C) [2] <| .call (.int .i64 C) <| .br 86 true <| .val 89 (.bool true) [] <| .br 96 true <| .val 99 (.bool true) [] <| .br 106 true <| .val 109 (.bool true) [] <| .br 116 true <| .br 121 true <| .lent (.bool true) [2] .nil) rfl rfl
      ⟨sG, Eq.trans (by kernel_rfl) ap, ⟨_, thaw3 rfl rfl rfl, .inl ⟨s1, .inr rfl⟩⟩, s2, ⟨_, thaw4 rfl rfl rfl rfl, .inl ⟨s3, .inr rfl⟩⟩, s4, ⟨_, thaw3 rfl rfl rfl, .inl ⟨s5, .inr rfl⟩⟩, s6,
        by kernel_rfl, mixed, by kernel_rfl, ⟨_, thawR2 rfl rfl, .inl ⟨s8, .inr rfl⟩⟩, s9, nC, Eq.trans (by kernel_rfl) (eqS A.1.1 A.1.2), nA, Eq.trans (by kernel_rfl) (eqS B.1.1 B.1.2), nB, Eq.trans (by kernel_rfl) (eqS D.1.1 D.1.2), nD, nE, by kernel_rfl, ⟨_, thaw2 rfl rfl, .inl ⟨s7, .inr rfl⟩⟩, trivial, by kernel_rfl⟩
end Go.Proofs.YtcdcgbgmpmaipaaDoor
