import Derived.Test.YticiopkiikcokaaT33
namespace Go.Proofs.Yticiopkiikcokaa
open Go Go.Am
set_option maxHeartbeats 8000000 in
set_option maxRecDepth 100000 in
theorem rRules_spec (u : Ru) : APure Try.prog 57 [encRu u] (.bool (rulesB u)) := by
  have s2 := rwithin_spec u.single 0 2000
  have s3 := rwithin_spec u.sFrom 1 600
  have s4 := spanned_spec u.pLo u.pHi (-100) 100
  have s5 := rwithin_spec u.pFrom 1 600
  refine APure.vc Try.func57 rfl (.both 8 .nil <| .call (.bool (within u.single 0 2000)) <| .both 14 .nil <| .call (.bool (within u.sFrom 1 600)) <| .both 20 .nil <| .call (.bool (spanB u.pLo u.pHi (-100) 100)) <| .both 26 .nil <| .call (.bool (within u.pFrom 1 600)) <| .both 31 .nil .loop) rfl rfl
    ⟨fun h1 => rB ?_, fun h1 => ⟨s2, fun h2 => rB ?_, fun h2 => ⟨s3, fun h3 => rB ?_, fun h3 => ⟨s4, fun h4 => rB ?_, fun h4 => ⟨s5, fun h5 => rB ?_, fun h5 => ?_⟩⟩⟩⟩⟩
  · simp at h1; simp [rulesB, stepsB]; intros; omega
  · simp at h2; simp [rulesB, h2]
  · simp at h3; simp [rulesB, h3]
  · simp at h4; simp [rulesB, h4]
  · simp at h5; simp [rulesB, h5]
  · simp at h1 h2 h3 h4 h5
    intro g hn hl
    refine acode_while (fun k : Nat => ⟨[(1, .vptr 0 0), (3, .int .i64 k)], [(0, .cells (ruL u))], 1⟩) (fun k => k ≤ u.steps.length ∧ ∀ i, i < k → spAt u.steps i = true) (fun k => u.steps.length - k) 0 ⟨Nat.zero_le _, fun i hi => absurd hi (Nat.not_lt_zero _)⟩ ?_ (fun _ _ => hl.mono (Nat.zero_le _)) ?_
    · exact St.le.of ⟨rfl, rfl, rfl, rfl, trivial⟩ ⟨rfl, Nat.zero_lt_one, rfl, trivial⟩
    · rintro k ⟨hk1, hk2⟩
      by_cases hlt : k < u.steps.length
      · obtain ⟨c, hc⟩ := getE hlt
        have bad : spAt u.steps k = false → false = rulesB u := fun h => by simp [rulesB, stepsB, all_bad hlt h]
        have t1 := rwithin_spec c.f 1 600
        have t2 := rwithin_spec c.p 0 1000
        rcases Nat.eq_zero_or_pos k with h0 | h0
        · subst h0
          refine ACode.vc (.br 36 true <| .draw 32 <| .cells (encSp c) <| .call (.bool (within c.f 1 600)) <| .both 47 .nil <| .br 50 false <| .cells (encSp c) <| .call (.bool (within c.p 0 1000)) <| .both 76 .nil .nil) hn hl (.round .cl)
            ⟨ltLen hlt, by kernel_rfl, mixed, by kernel_rfl, idx hc, t1, fun e1 => ⟨by kernel_rfl, _, .refl _, .nil, rB (bad ?_)⟩, fun e1 => ⟨(by rfl : decide (((0 : Nat) : Int) > 0) = false), by kernel_rfl, idx hc, t2, fun e2 => ⟨_, .refl _, .nil, rB (bad ?_)⟩, fun e2 => ⟨0 + 1, ⟨hlt, step_all hk2 ?_⟩, mu1 hlt, St.le.of ⟨rfl, rfl, congrArg _ (succ64 (by omega)), rfl, trivial⟩ ⟨rfl, Nat.zero_lt_one, rfl, trivial⟩⟩⟩⟩
          · simp at e1; exact spAt_bad hc (by simp [spOk, e1])
          · simp at e2; exact spAt_bad hc (by simp [spOk, e2])
          · simp at e1 e2; rw [spAt_zero hc]; simp [spOk, e1, e2]
        · obtain ⟨j, rfl⟩ : ∃ j, k = j + 1 := ⟨k - 1, by omega⟩
          obtain ⟨b, hb⟩ := getE (show j < u.steps.length by omega)
          have h40 : decide (((j + 1 : Nat) : Int) > 0) = true := decide_eq_true (by omega)
          refine ACode.vc (.br 36 true <| .draw 32 <| .cells (encSp c) <| .call (.bool (within c.f 1 600)) <| .both 47 .nil <| .br 50 true <| .cells (encSp c) <| .cells (encSp b) <| .both 67 .nil <| .cells (encSp c) <| .call (.bool (within c.p 0 1000)) <| .both 76 .nil .nil) hn hl (.round .cl)
            ⟨ltLen hlt, by kernel_rfl, mixed, by kernel_rfl, idx hc, t1, fun e1 => ⟨by kernel_rfl, _, .refl _, .nil, rB (bad ?_)⟩, fun e1 => ⟨h40, idx hc, idxW (pred64 (by omega)) hb, fun e0 => ⟨by kernel_rfl, _, .refl _, .nil, rB (bad ?_)⟩, fun e0 => ⟨by kernel_rfl, idx hc, t2, fun e2 => ⟨_, .refl _, .nil, rB (bad ?_)⟩, fun e2 => ⟨j + 1 + 1, ⟨hlt, step_all hk2 ?_⟩, mu1 hlt, St.le.of ⟨rfl, rfl, congrArg _ (succ64 (by omega)), rfl, trivial⟩ ⟨rfl, Nat.zero_lt_one, rfl, trivial⟩⟩⟩⟩⟩
          · simp at e1; exact spAt_bad hc (by simp [spOk, e1])
          · simp at e0; rw [spAt_succ hc hb]; simp; intro; omega
          · simp at e2; exact spAt_bad hc (by simp [spOk, e2])
          · simp at e0 e1 e2; rw [spAt_succ hc hb]; simp [spOk, e1, e2]; omega
      · refine ACode.vc (.br 36 false .nil) hn hl (.round .cl) ⟨geLen hlt, _, .refl _, .nil, rB ?_⟩
        rw [rulesB, stepsB, all_ok (show u.steps.length ≤ k by omega) hk2, h2, h3, h4, h5]; simp; omega
set_option maxHeartbeats 8000000 in
set_option maxRecDepth 100000 in
theorem rCheck_spec (r : Rn) (u : Ru) : APure Try.prog 21 [encRn r, encRu u] (.int .i64 (checkI r u)) := by
  have s1 := rRun_spec r
  have s2 := rRules_spec u
  refine APure.vc Try.func21 rfl (.call (.bool (runB r)) <| .both 7 .nil <| .call (.bool (rulesB u)) <| .both 10 .nil .nil) rfl rfl ⟨s1, fun h1 => rI ?_, fun h1 => ⟨s2, fun h2 => rI ?_, fun h2 => rI ?_⟩⟩
  · simp at h1; simp [checkI, h1]
  · simp at h1 h2; simp [checkI, h1, h2]
  · simp at h1 h2; simp [checkI, h1, h2]
def gAt (l : List Rw) (i : Nat) : Bool := match l[i]? with
  | some r => decide (¬ ((r.deg.map encD).length : Int) > 15)
  | none => true
def smallB (r : Rn) (u : Ru) : Bool := decide (r.curve.length ≤ 15) && (decide (r.cps.length ≤ 12) && (decide (r.rows.length ≤ 80) && (decide (u.steps.length ≤ 10) && (List.range r.rows.length).all (gAt r.rows))))
set_option maxHeartbeats 8000000 in
set_option maxRecDepth 100000 in
theorem great_spec (r : Rn) (u : Ru) : APure Try.prog 14 [encRn r, encRu u] (.bool (!smallB r u)) := by
  refine APure.vc Try.func14 rfl (.both 10 .nil <| .both 16 .nil <| .both 22 .nil <| .both 27 .nil .loop) rfl rfl
    ⟨fun h1 => rB ?_, fun h1 => ⟨fun h2 => rB ?_, fun h2 => ⟨fun h3 => rB ?_, fun h3 => ⟨fun h4 => rB ?_, fun h4 => ?_⟩⟩⟩⟩
  · simp at h1; simp [smallB]; intros; omega
  · simp at h2; simp [smallB]; intros; omega
  · simp at h3; simp [smallB]; intros; omega
  · simp at h4; simp [smallB]; intros; omega
  · simp at h1 h2 h3 h4
    intro g hn hl
    refine acode_while (fun k : Nat => ⟨[(2, .vptr 0 0), (5, .int .i64 k)], [(0, .cells (runL r))], 1⟩) (fun k => k ≤ r.rows.length ∧ ∀ i, i < k → gAt r.rows i = true) (fun k => r.rows.length - k) 0 ⟨Nat.zero_le _, fun i hi => absurd hi (Nat.not_lt_zero _)⟩ ?_ (fun _ _ => hl.mono (Nat.zero_le _)) ?_
    · exact St.le.of ⟨rfl, rfl, rfl, rfl, trivial⟩ ⟨rfl, Nat.zero_lt_one, rfl, trivial⟩
    · rintro k ⟨hk1, hk2⟩
      by_cases hlt : k < r.rows.length
      · obtain ⟨q, hq⟩ := getE hlt
        refine ACode.vc (.br 32 true <| .cells (encRw q) <| .both 42 .nil .nil) hn hl (.round .cl)
          ⟨ltLen hlt, idx hq, fun e1 => ⟨_, .refl _, .nil, rB ?_⟩, fun e1 => ⟨k + 1, ⟨hlt, step_all hk2 ?_⟩, mu1 hlt, St.le.of ⟨rfl, rfl, congrArg _ (succ64 (by omega)), rfl, trivial⟩ ⟨rfl, Nat.zero_lt_one, rfl, trivial⟩⟩⟩
        · have : gAt r.rows k = false := by unfold gAt; rw [hq]; simp at e1; simp; omega
          simp [smallB, all_bad hlt this]
        · unfold gAt; rw [hq]; simp at e1; simp; omega
      · refine ACode.vc (.br 32 false .nil) hn hl (.round .cl) ⟨geLen hlt, _, .refl _, .nil, rB ?_⟩
        rw [smallB, all_ok (show r.rows.length ≤ k by omega) hk2]; simp; omega
def readyB (r : Rn) (u : Ru) : Bool := smallB r u && (checkI r u == 0)
set_option maxHeartbeats 8000000 in
set_option maxRecDepth 100000 in
theorem ready_spec (r : Rn) (u : Ru) : APure Try.prog 34 [encRn r, encRu u] (.bool (readyB r u)) := by
  have s1 := great_spec r u
  have s2 := rCheck_spec r u
  refine APure.vc Try.func34 rfl (.call (.bool (!smallB r u)) <| .both 9 (.call (.int .i64 (checkI r u)) .nil) .nil) rfl rfl ⟨s1, fun h1 => ⟨s2, rB ?_⟩, fun h1 => rB ?_⟩
  · simp at h1; simp [readyB, h1]
  · simp at h1; simp [readyB, h1]
theorem checkI_ok {r : Rn} {u : Ru} (h : checkI r u = 0) : runB r = true ∧ rulesB u = true := by
  unfold checkI at h
  split at h
  · split at h
    · exact ⟨by assumption, by assumption⟩
    · omega
  · omega
end Go.Proofs.Yticiopkiikcokaa
