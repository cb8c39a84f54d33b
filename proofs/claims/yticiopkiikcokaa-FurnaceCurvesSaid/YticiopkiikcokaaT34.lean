import Derived.Test.YticiopkiikcokaaT32
namespace Go.Proofs.Yticiopkiikcokaa
open Go Go.Am
structure Sp where
  f : Int
  p : Int
def encSp (s : Sp) : List AV := [.int .i64 s.f, .int .i64 s.p]
structure Ru where
  steps : List Sp
  single : Int
  sFrom : Int
  pLo : Int
  pHi : Int
  pFrom : Int
def ruL (u : Ru) : List AV := [.lst 2 (u.steps.map encSp), .int .i64 u.single, .int .i64 u.sFrom, .int .i64 u.pLo, .int .i64 u.pHi, .int .i64 u.pFrom]
def encRu (u : Ru) : AV := .agg (ruL u)
def spOk (s : Sp) : Bool := within s.f 1 600 && within s.p 0 1000
def spAt (l : List Sp) (i : Nat) : Bool := match l[i]? with
  | some c => spOk c && (i == 0 || (match l[i-1]? with | some b => decide (b.f < c.f) | none => false))
  | none => false
def stepsB (l : List Sp) : Bool := decide (l.length ≤ 5) && (List.range l.length).all (spAt l)
theorem spAt_zero {l : List Sp} {c : Sp} (h : l[0]? = some c) : spAt l 0 = spOk c := by unfold spAt; rw [h]; simp
theorem spAt_succ {l : List Sp} {b c : Sp} {j : Nat} (h : l[j + 1]? = some c) (hb : l[j]? = some b) : spAt l (j + 1) = (spOk c && decide (b.f < c.f)) := by unfold spAt; rw [h]; simp [hb]
theorem spAt_bad {l : List Sp} {c : Sp} {j : Nat} (h : l[j]? = some c) (hb : spOk c = false) : spAt l j = false := by unfold spAt; rw [h]; simp [hb]
set_option maxHeartbeats 8000000 in
set_option maxRecDepth 100000 in
theorem areSteps_spec (l : List Sp) : APure Try.prog 78 [.lst 2 (l.map encSp)] (.bool (stepsB l)) := by
  refine APure.vc Try.func78 rfl (.both 7 .nil .loop) rfl rfl ⟨fun h => rB ?_, fun h => ?_⟩
  · simp at h; simp [stepsB]; intro h'; omega
  · simp at h
    intro g hn hl
    refine acode_while (fun k : Nat => ⟨[(0, .lst 2 (l.map encSp)), (8, .lst 2 (l.map encSp)), (9, .int .i64 (l.map encSp).length), (10, .int .i64 k)], [], 0⟩) (fun k => k ≤ l.length ∧ ∀ i, i < k → spAt l i = true) (fun k => l.length - k) 0 ⟨Nat.zero_le _, fun i hi => absurd hi (Nat.not_lt_zero _)⟩ ?_ (fun _ _ => hl) ?_
    · exact St.le.of ⟨rfl, rfl, rfl, rfl, rfl, rfl, rfl, rfl, trivial⟩ trivial
    · rintro k ⟨hk1, hk2⟩
      by_cases hlt : k < l.length
      · obtain ⟨c, hc⟩ := getE hlt
        have s1 := within_spec c.f 1 600
        have s2 := within_spec c.p 0 1000
        have bad : spAt l k = false → false = stepsB l := fun h => by simp [stepsB, all_bad hlt h]
        rcases Nat.eq_zero_or_pos k with h0 | h0
        · subst h0
          refine ACode.vc (.br 11 true <| .cells (encSp c) <| .call (.bool (within c.f 1 600)) <| .both 19 .nil <| .call (.bool (within c.p 0 1000)) <| .both 24 .nil <| .draw 11 <| .br 27 false .nil) hn hl (.round .cl)
            ⟨ltLen hlt, idx hc, s1, fun h1 => ⟨_, .refl _, .nil, rB (bad ?_)⟩, fun h1 => ⟨s2, fun h2 => ⟨_, .refl _, .nil, rB (bad ?_)⟩, fun h2 => ⟨by kernel_rfl, mixed, by kernel_rfl, (by rfl : decide (((0 : Nat) : Int) > 0) = false), by kernel_rfl, 0 + 1, ⟨hlt, step_all hk2 ?_⟩, mu1 hlt, St.le.of ⟨rfl, rfl, rfl, rfl, rfl, rfl, congrArg _ (succ64 (by omega)), rfl, trivial⟩ trivial⟩⟩⟩
          · simp at h1; exact spAt_bad hc (by simp [spOk, h1])
          · simp at h2; exact spAt_bad hc (by simp [spOk, h2])
          · simp at h1 h2; rw [spAt_zero hc]; simp [spOk, h1, h2]
        · obtain ⟨j, rfl⟩ : ∃ j, k = j + 1 := ⟨k - 1, by omega⟩
          obtain ⟨b, hb⟩ := getE (show j < l.length by omega)
          have h40 : decide (((j + 1 : Nat) : Int) > 0) = true := decide_eq_true (by omega)
          refine ACode.vc (.br 11 true <| .cells (encSp c) <| .call (.bool (within c.f 1 600)) <| .both 19 .nil <| .call (.bool (within c.p 0 1000)) <| .both 24 .nil <| .draw 11 <| .br 27 true <| .cells (encSp b) <| .both 37 .nil .nil) hn hl (.round .cl)
            ⟨ltLen hlt, idx hc, s1, fun h1 => ⟨_, .refl _, .nil, rB (bad ?_)⟩, fun h1 => ⟨s2, fun h2 => ⟨_, .refl _, .nil, rB (bad ?_)⟩, fun h2 => ⟨by kernel_rfl, mixed, by kernel_rfl, h40, idxW (pred64 (by omega)) hb, by kernel_rfl, fun h3 => ⟨_, .refl _, .nil, rB (bad ?_)⟩, fun h3 => ⟨j + 1 + 1, ⟨hlt, step_all hk2 ?_⟩, mu1 hlt, St.le.of ⟨rfl, rfl, rfl, rfl, rfl, rfl, congrArg _ (succ64 (by omega)), rfl, trivial⟩ trivial⟩⟩⟩⟩
          · simp at h1; exact spAt_bad hc (by simp [spOk, h1])
          · simp at h2; exact spAt_bad hc (by simp [spOk, h2])
          · simp at h3; rw [spAt_succ hc hb]; simp; intro; omega
          · simp at h1 h2 h3; rw [spAt_succ hc hb]; simp [spOk, h1, h2]; omega
      · refine ACode.vc (.br 11 false .nil) hn hl (.round .cl) ⟨geLen hlt, _, .refl _, .nil, rB ?_⟩
        rw [stepsB, all_ok (show l.length ≤ k by omega) hk2]; simp; omega
def rulesB (u : Ru) : Bool := stepsB u.steps && (within u.single 0 2000 && (within u.sFrom 1 600 && (spanB u.pLo u.pHi (-100) 100 && within u.pFrom 1 600)))
set_option maxHeartbeats 8000000 in
set_option maxRecDepth 100000 in
theorem areRules_spec (u : Ru) : APure Try.prog 56 [encRu u] (.bool (rulesB u)) := by
  have s1 := areSteps_spec u.steps
  have s2 := within_spec u.single 0 2000
  have s3 := within_spec u.sFrom 1 600
  have s4 := isSpan_spec u.pLo u.pHi (-100) 100
  have s5 := within_spec u.pFrom 1 600
  refine APure.vc Try.func56 rfl (.call (.bool (stepsB u.steps)) <| .both 6 (.call (.bool (within u.single 0 2000)) <| .both 11 (.call (.bool (within u.sFrom 1 600)) <| .both 16 (.call (.bool (spanB u.pLo u.pHi (-100) 100)) <| .both 21 (.call (.bool (within u.pFrom 1 600)) .nil) .nil) .nil) .nil) .nil) rfl rfl
    ⟨s1, fun h1 => ⟨s2, fun h2 => ⟨s3, fun h3 => ⟨s4, fun h4 => ⟨s5, rB ?_⟩, fun h4 => rB ?_⟩, fun h3 => rB ?_⟩, fun h2 => rB ?_⟩, fun h1 => rB ?_⟩
  · simp [rulesB, h1, h2, h3, h4]
  · simp [rulesB, h1, h2, h3, h4]
  · simp [rulesB, h1, h2, h3]
  · simp [rulesB, h1, h2]
  · simp [rulesB, h1]
def checkI (r : Rn) (u : Ru) : Int := if runB r = true then (if rulesB u = true then 0 else 12) else 11
set_option maxHeartbeats 8000000 in
set_option maxRecDepth 100000 in
theorem check_spec (r : Rn) (u : Ru) : APure Try.prog 20 [encRn r, encRu u] (.int .i64 (checkI r u)) := by
  have s1 := isRun_spec r
  have s2 := areRules_spec u
  refine APure.vc Try.func20 rfl (.call (.bool (runB r)) <| .both 7 .nil <| .call (.bool (rulesB u)) <| .both 10 .nil .nil) rfl rfl ⟨s1, fun h1 => rI ?_, fun h1 => ⟨s2, fun h2 => rI ?_, fun h2 => rI ?_⟩⟩
  · simp at h1; simp [checkI, h1]
  · simp at h1 h2; simp [checkI, h1, h2]
  · simp at h1 h2; simp [checkI, h1, h2]
end Go.Proofs.Yticiopkiikcokaa
