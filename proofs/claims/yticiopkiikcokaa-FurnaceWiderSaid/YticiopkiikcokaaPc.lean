import Derived.Test.YticiopkiikcokaaPb
namespace Go.Proofs.Yticiopkiikcokaa
open Go Go.Am
theorem leN {α : Type} {l : List α} {enc : α → List AV} {n : Nat} (h : l.length = n) (k : Nat) : decide ((k : Int) < ((l.map enc).length : Int)) = decide (k < n) := by simp [h]
theorem rows_lim {n : Nat} {m : Int} : within n 1 (cap60 m) = (within n 1 60 && decide (¬ (n : Int) > m)) := by
  rw [Bool.eq_iff_iff]
  simp only [Bool.and_eq_true, within_iff, decide_eq_true_eq]
  unfold cap60
  split <;> omega
set_option maxHeartbeats 8000000 in
set_option maxRecDepth 100000 in
theorem rRun_spec (r : Rn) : APure Try.prog 53 [encRn r] (.bool (runB r)) := by
  have s1 := rwithin_spec r.id 0 9999
  have s2 := rCurve_spec r.curve
  cases hcv : curveB r.curve
  · rw [hcv] at s2
    exact APure.vc Try.func53 rfl (.draw 43 <| .call (.bool (within r.id 0 9999)) <| .both 11 .nil <| .call (.bool false) .nil) rfl rfl
      ⟨by kernel_rfl, mixed, by kernel_rfl, s1, fun h1 => ⟨by kernel_rfl, rB (by simp at h1; simp [runB, h1])⟩, fun h1 => ⟨s2, by kernel_rfl, rB (by simp [runB, hcv])⟩⟩
  · rw [hcv] at s2
    obtain ⟨hlen, _⟩ := curveB_out hcv
    obtain ⟨p, hp⟩ := getE (show r.curve.length - 1 < r.curve.length by omega)
    have hpi : IntKind.i64.wrap (((r.curve.map encPt).length : Int) - 1) = ((r.curve.length - 1 : Nat) : Int) := by
      rw [List.length_map, wrap64 (by omega) (by omega)]; omega
    have s3 := spanned_spec r.gLo r.gHi (-20) 20
    have s4 : APure Try.prog 48 [.int .i64 ((r.cps.map encCp).length : Int), .int .i64 1, .int .i64 8] (.bool (within r.cps.length 1 8)) := by
      rw [List.length_map]; exact rwithin_spec _ _ _
    have s5 : APure Try.prog 48 [.int .i64 ((r.rows.map encRw).length : Int), .int .i64 1, .int .i64 60] (.bool (within r.rows.length 1 60)) := by
      rw [List.length_map]; exact rwithin_spec _ _ _
    refine APure.vc Try.func53 rfl (.draw 43 <| .call (.bool (within r.id 0 9999)) <| .both 11 .nil <| .call (.bool true) <| .call (.bool (spanB r.gLo r.gHi (-20) 20)) <| .both 23 .nil <| .call (.bool (within r.cps.length 1 8)) <| .both 30 .nil <|
        .call (.bool (within r.rows.length 1 60)) <| .both 37 .nil <| .cells (encPt p) <| .both 51 .nil .loop) rfl rfl
      ⟨by kernel_rfl, mixed, by kernel_rfl, s1, fun h1 => ⟨by kernel_rfl, rB ?_⟩, fun h1 => ⟨s2, s3, fun h3 => ⟨by kernel_rfl, rB ?_⟩, fun h3 => ⟨s4, fun h4 => ⟨by kernel_rfl, rB ?_⟩, fun h4 => ⟨s5, fun h5 => ⟨by kernel_rfl, rB ?_⟩, fun h5 => ⟨idxW hpi hp, by kernel_rfl, fun h6 => rB ?_, fun h6 => ?_⟩⟩⟩⟩⟩
    · simp at h1; simp [runB, h1]
    · simp at h3; simp [runB, h3]
    · simp at h4; simp [runB, cpsB, h4]
    · simp at h5; simp [runB, rows_lim, h5]
    · simp at h6; simp [runB, rows_lim, lastM_some hp]; intros; omega
    · simp at h1 h3 h4 h5 h6
      have hcl := within_iff.1 h4
      have hrl := within_iff.1 h5
      intro g hn hl
      refine acode_while (fun k : Nat => ⟨[(1, .vptr 0 0), (3, .int .i64 k)], [(0, .cells (runL r))], 1⟩) (fun k => k ≤ r.cps.length ∧ ∀ i, i < k → cpAt r.cps i = true) (fun k => r.cps.length - k) 0 ⟨Nat.zero_le _, fun i hi => absurd hi (Nat.not_lt_zero _)⟩ ?_ (fun _ _ => hl.mono (Nat.zero_le _)) ?_
      · exact St.le.of ⟨rfl, rfl, rfl, rfl, trivial⟩ ⟨rfl, Nat.zero_lt_one, rfl, trivial⟩
      · rintro k ⟨hk1, hk2⟩
        by_cases hlt : k < r.cps.length
        · obtain ⟨c, hc⟩ := getE hlt
          have bad : cpAt r.cps k = false → false = runB r := fun h => by simp [runB, cpsB, all_bad hlt h]
          have t1 := rwithin_spec c.id 0 9999
          have t2 := spanned_spec c.eLo c.eHi (-50) 50
          have t3 := spanned_spec c.lLo c.lHi 0 3
          have t4 := rwithin_spec c.brk 0 600
          rcases Nat.eq_zero_or_pos k with h0 | h0
          · subst h0
            refine ACode.vc (.br 56 true <| .cells (encCp c) <| .draw 17 <| .call (.bool (within c.id 0 9999)) <| .both 68 .nil <| .br 71 false <| .call (.bool (spanB c.eLo c.eHi (-50) 50)) <| .both 90 .nil <| .call (.bool (spanB c.lLo c.lHi 0 3)) <| .both 96 .nil <| .call (.bool (within c.brk 0 600)) <| .both 101 .nil .nil) hn hl (.round .cl)
              ⟨ltLen hlt, idx hc, by kernel_rfl, mixed, by kernel_rfl, t1, fun e1 => ⟨by kernel_rfl, _, .refl _, .nil, rB (bad ?_)⟩, fun e1 => ⟨(by rfl : decide (((0 : Nat) : Int) > 0) = false), by kernel_rfl, t2, fun e2 => ⟨_, .refl _, .nil, rB (bad ?_)⟩, fun e2 => ⟨t3, fun e3 => ⟨_, .refl _, .nil, rB (bad ?_)⟩, fun e3 => ⟨t4,
                fun e4 => ⟨_, .refl _, .nil, rB (bad ?_)⟩, fun e4 => ⟨0 + 1, ⟨hlt, step_all hk2 ?_⟩, mu1 hlt, St.le.of ⟨rfl, rfl, congrArg _ (succ64 (by omega)), rfl, trivial⟩ ⟨rfl, Nat.zero_lt_one, rfl, trivial⟩⟩⟩⟩⟩⟩
            · simp at e1; exact cpAt_bad hc (by simp [cpOk, e1])
            · simp at e2; exact cpAt_bad hc (by simp [cpOk, e2])
            · simp at e3; exact cpAt_bad hc (by simp [cpOk, e3])
            · simp at e4; exact cpAt_bad hc (by simp [cpOk, e4])
            · simp at e1 e2 e3 e4; rw [cpAt_zero hc]; simp [cpOk, e1, e2, e3, e4]
          · obtain ⟨j, rfl⟩ : ∃ j, k = j + 1 := ⟨k - 1, by omega⟩
            obtain ⟨b, hb⟩ := getE (show j < r.cps.length by omega)
            have h40 : decide (((j + 1 : Nat) : Int) > 0) = true := decide_eq_true (by omega)
            refine ACode.vc (.br 56 true <| .cells (encCp c) <| .draw 17 <| .call (.bool (within c.id 0 9999)) <| .both 68 .nil <| .br 71 true <| .cells (encCp b) <| .both 84 .nil <| .call (.bool (spanB c.eLo c.eHi (-50) 50)) <| .both 90 .nil <| .call (.bool (spanB c.lLo c.lHi 0 3)) <| .both 96 .nil <| .call (.bool (within c.brk 0 600)) <| .both 101 .nil .nil) hn hl (.round .cl)
              ⟨ltLen hlt, idx hc, by kernel_rfl, mixed, by kernel_rfl, t1, fun e1 => ⟨by kernel_rfl, _, .refl _, .nil, rB (bad ?_)⟩, fun e1 => ⟨h40, idxW (pred64 (by omega)) hb, by kernel_rfl, fun e0 => ⟨_, .refl _, .nil, rB (bad ?_)⟩, fun e0 => ⟨t2, fun e2 => ⟨_, .refl _, .nil, rB (bad ?_)⟩, fun e2 => ⟨t3, fun e3 => ⟨_, .refl _, .nil, rB (bad ?_)⟩, fun e3 => ⟨t4,
                fun e4 => ⟨_, .refl _, .nil, rB (bad ?_)⟩, fun e4 => ⟨j + 1 + 1, ⟨hlt, step_all hk2 ?_⟩, mu1 hlt, St.le.of ⟨rfl, rfl, congrArg _ (succ64 (by omega)), rfl, trivial⟩ ⟨rfl, Nat.zero_lt_one, rfl, trivial⟩⟩⟩⟩⟩⟩⟩
            · simp at e1; exact cpAt_bad hc (by simp [cpOk, e1])
            · simp at e0; rw [cpAt_succ hc hb]; simp; intro; omega
            · simp at e2; exact cpAt_bad hc (by simp [cpOk, e2])
            · simp at e3; exact cpAt_bad hc (by simp [cpOk, e3])
            · simp at e4; exact cpAt_bad hc (by simp [cpOk, e4])
            · simp at e0 e1 e2 e3 e4; rw [cpAt_succ hc hb]; simp [cpOk, e1, e2, e3, e4]; omega
        · have hcps : cpsB r.cps = true := by rw [cpsB, all_ok (show r.cps.length ≤ k by omega) hk2, h4]; rfl
          refine ACode.vc (.br 56 false .nil) hn hl (.round .cl) ⟨geLen hlt, _, .refl _, .loop, ?_⟩
          intro g hn hl
          refine acode_while (fun k : Nat => ⟨[(1, .vptr 0 0), (5, .int .i64 k)], [(0, .cells (runL r))], 1⟩) (fun k => k ≤ r.rows.length ∧ ∀ i, i < k → rowAt r.rows r.cps.length i = true) (fun k => r.rows.length - k) 0 ⟨Nat.zero_le _, fun i hi => absurd hi (Nat.not_lt_zero _)⟩ ?_ (fun _ _ => hl.mono (Nat.zero_le _)) ?_
          · exact St.le.of ⟨rfl, rfl, rfl, rfl, trivial⟩ ⟨rfl, Nat.zero_lt_one, rfl, trivial⟩
          · rintro k ⟨hk1, hk2⟩
            by_cases hlt : k < r.rows.length
            · obtain ⟨q, hq⟩ := getE hlt
              have bad : rowAt r.rows r.cps.length k = false → false = runB r := fun h => by simp [runB, rowsB, all_bad hlt h]
              have t1 := rwithin_spec q.press (-100) 100
              refine ACode.vc (.br 106 true <| .draw 15 <| .cells (encRw q) <| .both 120 .nil <| .cells (encRw q) <| .call (.bool (within q.press (-100) 100)) <| .both 129 .nil .loop) hn hl (.round .cl)
                ⟨ltLen hlt, by kernel_rfl, mixed, by kernel_rfl, idx hq, fun e1 => ⟨by kernel_rfl, _, .refl _, .nil, rB (bad ?_)⟩, fun e1 => ⟨by kernel_rfl, idx hq, t1, fun e2 => ⟨_, .refl _, .nil, rB (bad ?_)⟩, fun e2 => ?_⟩⟩
              · simp at e1; rw [rowAt_some hq]; simp [rowOk]; intro; omega
              · simp at e2; rw [rowAt_some hq]; simp [rowOk, e2]
              · simp at e1 e2
                intro g hn hl
                refine acode_while (fun i : Nat => ⟨[(1, .vptr 0 0), (5, .int .i64 k), (6, .int .i64 i)], [(0, .cells (runL r))], 1⟩) (fun i => i ≤ q.deg.length ∧ ∀ j, j < i → degAt q.deg j = true) (fun i => q.deg.length - i) 0 ⟨Nat.zero_le _, fun i hi => absurd hi (Nat.not_lt_zero _)⟩ ?_ (fun _ _ => hl.mono (Nat.zero_le _)) ?_
                · exact St.le.of ⟨rfl, rfl, rfl, rfl, rfl, rfl, trivial⟩ ⟨rfl, Nat.zero_lt_one, rfl, trivial⟩
                · rintro i ⟨hi1, hi2⟩
                  by_cases hit : i < q.deg.length
                  · obtain ⟨d, hd⟩ := getE hit
                    have s2 := rwithin_spec d 0 2000
                    refine ACode.vc (.br 134 true <| .cells (encRw q) <| .cells (encD d) <| .call (.bool (within d 0 2000)) <| .both 147 .nil .nil) hn hl (.round .cl)
                      ⟨(ltLen (by omega) : decide ((i : Int) < ((r.cps.map encCp).length : Int)) = true), idx hq, idx hd, s2, fun h => ⟨_, .refl _, .nil, _, .refl _, .nil, rB (bad ?_)⟩, fun h => ⟨i + 1, ⟨hit, step_all hi2 ?_⟩, mu1 hit, St.le.of ⟨rfl, rfl, rfl, rfl, congrArg _ (succ64 (by omega)), rfl, trivial⟩ ⟨rfl, Nat.zero_lt_one, rfl, trivial⟩⟩⟩
                    · simp at h
                      have : degsB q.deg = false := all_bad hit (by rw [degAt_some hd, h])
                      rw [rowAt_some hq]; simp [rowOk, this]
                    · simp at h; rw [degAt_some hd, h]
                  · refine ACode.vc (.br 134 false .nil) hn hl (.round .cl) ⟨(geLen (by omega) : decide ((i : Int) < ((r.cps.map encCp).length : Int)) = false), _, .refl _, .nil, k + 1, ⟨hlt, step_all hk2 ?_⟩, mu1 hlt, St.le.of ⟨rfl, rfl, congrArg _ (succ64 (by omega)), rfl, trivial⟩ ⟨rfl, Nat.zero_lt_one, rfl, trivial⟩⟩
                    rw [rowAt_some hq]
                    have : degsB q.deg = true := all_ok (by omega) hi2
                    simp [rowOk, e2, this]; omega
            · refine ACode.vc (.br 106 false .nil) hn hl (.round .cl) ⟨geLen hlt, _, .refl _, .nil, rB ?_⟩
              rw [runB, rowsB, all_ok (show r.rows.length ≤ k by omega) hk2, hcps, h1, h3, hcv, rows_lim, h5, lastM_some hp]
              simp; omega
end Go.Proofs.Yticiopkiikcokaa
namespace Go.Proofs.Yticiopkiikcokaa
open Go Go.Am
set_option maxHeartbeats 8000000 in
set_option maxRecDepth 100000 in
theorem rRules_spec (u : Ru) : APure Try.prog 57 [encRu u] (.bool (rulesB u)) := by
  have s2 := rwithin_spec u.single 0 2000
  have s3 := rwithin_spec u.sFrom 1 600
  have s4 := spanned_spec u.pLo u.pHi (-100) 100
  have s5 := rwithin_spec u.pFrom 1 600
  refine APure.vc Try.func57 rfl (.both 8 .nil <| .call (.bool (within u.single 0 2000)) <| .both 14 .nil <| .call (.bool (within u.sFrom 1 600)) <| .both 20 .nil <| .call (.bool (spanB u.pLo u.pHi (-100) 100)) <| .both 26 .nil <| .call (.bool (within u.pFrom 1 600)) <| .both 31 .nil .loop) rfl rfl
    ⟨fun h1 => rB ?_, fun h1 => ⟨s2, fun h2 => rB ?_, fun h2 => ⟨s3, fun h3 => rB ?_, fun h3 => ⟨s4, fun h4 => rB ?_, fun h4 => ⟨s5, fun h5 => rB ?_, fun h5 => ?_⟩⟩⟩⟩⟩
  · simp at h1; simp [rulesB, stepsB]; intros; omega
  · simp at h2; simp [rulesB, h2]
  · simp at h3; simp [rulesB, h3]
  · simp at h4; simp [rulesB, h4]
  · simp at h5; simp [rulesB, h5]
  · simp at h1 h2 h3 h4 h5
    intro g hn hl
    refine acode_while (fun k : Nat => ⟨[(1, .vptr 0 0), (3, .int .i64 k)], [(0, .cells (ruL u))], 1⟩) (fun k => k ≤ u.steps.length ∧ ∀ i, i < k → spAt u.steps i = true) (fun k => u.steps.length - k) 0 ⟨Nat.zero_le _, fun i hi => absurd hi (Nat.not_lt_zero _)⟩ ?_ (fun _ _ => hl.mono (Nat.zero_le _)) ?_
    · exact St.le.of ⟨rfl, rfl, rfl, rfl, trivial⟩ ⟨rfl, Nat.zero_lt_one, rfl, trivial⟩
    · rintro k ⟨hk1, hk2⟩
      by_cases hlt : k < u.steps.length
      · obtain ⟨c, hc⟩ := getE hlt
        have bad : spAt u.steps k = false → false = rulesB u := fun h => by simp [rulesB, stepsB, all_bad hlt h]
        have t1 := rwithin_spec c.f 1 600
        have t2 := rwithin_spec c.p 0 1000
        rcases Nat.eq_zero_or_pos k with h0 | h0
        · subst h0
          refine ACode.vc (.br 36 true <| .draw 32 <| .cells (encSp c) <| .call (.bool (within c.f 1 600)) <| .both 47 .nil <| .br 50 false <| .cells (encSp c) <| .call (.bool (within c.p 0 1000)) <| .both 76 .nil .nil) hn hl (.round .cl)
            ⟨ltLen hlt, by kernel_rfl, mixed, by kernel_rfl, idx hc, t1, fun e1 => ⟨by kernel_rfl, _, .refl _, .nil, rB (bad ?_)⟩, fun e1 => ⟨(by rfl : decide (((0 : Nat) : Int) > 0) = false), by kernel_rfl, idx hc, t2, fun e2 => ⟨_, .refl _, .nil, rB (bad ?_)⟩, fun e2 => ⟨0 + 1, ⟨hlt, step_all hk2 ?_⟩, mu1 hlt, St.le.of ⟨rfl, rfl, congrArg _ (succ64 (by omega)), rfl, trivial⟩ ⟨rfl, Nat.zero_lt_one, rfl, trivial⟩⟩⟩⟩
          · simp at e1; exact spAt_bad hc (by simp [spOk, e1])
          · simp at e2; exact spAt_bad hc (by simp [spOk, e2])
          · simp at e1 e2; rw [spAt_zero hc]; simp [spOk, e1, e2]
        · obtain ⟨j, rfl⟩ : ∃ j, k = j + 1 := ⟨k - 1, by omega⟩
          obtain ⟨b, hb⟩ := getE (show j < u.steps.length by omega)
          have h40 : decide (((j + 1 : Nat) : Int) > 0) = true := decide_eq_true (by omega)
          refine ACode.vc (.br 36 true <| .draw 32 <| .cells (encSp c) <| .call (.bool (within c.f 1 600)) <| .both 47 .nil <| .br 50 true <| .cells (encSp c) <| .cells (encSp b) <| .both 67 .nil <| .cells (encSp c) <| .call (.bool (within c.p 0 1000)) <| .both 76 .nil .nil) hn hl (.round .cl)
            ⟨ltLen hlt, by kernel_rfl, mixed, by kernel_rfl, idx hc, t1, fun e1 => ⟨by kernel_rfl, _, .refl _, .nil, rB (bad ?_)⟩, fun e1 => ⟨h40, idx hc, idxW (pred64 (by omega)) hb, fun e0 => ⟨by kernel_rfl, _, .refl _, .nil, rB (bad ?_)⟩, fun e0 => ⟨by kernel_rfl, idx hc, t2, fun e2 => ⟨_, .refl _, .nil, rB (bad ?_)⟩, fun e2 => ⟨j + 1 + 1, ⟨hlt, step_all hk2 ?_⟩, mu1 hlt, St.le.of ⟨rfl, rfl, congrArg _ (succ64 (by omega)), rfl, trivial⟩ ⟨rfl, Nat.zero_lt_one, rfl, trivial⟩⟩⟩⟩⟩
          · simp at e1; exact spAt_bad hc (by simp [spOk, e1])
          · simp at e0; rw [spAt_succ hc hb]; simp; intro; omega
          · simp at e2; exact spAt_bad hc (by simp [spOk, e2])
          · simp at e0 e1 e2; rw [spAt_succ hc hb]; simp [spOk, e1, e2]; omega
      · refine ACode.vc (.br 36 false .nil) hn hl (.round .cl) ⟨geLen hlt, _, .refl _, .nil, rB ?_⟩
        rw [rulesB, stepsB, all_ok (show u.steps.length ≤ k by omega) hk2, h2, h3, h4, h5]; simp; omega
set_option maxHeartbeats 8000000 in
set_option maxRecDepth 100000 in
theorem rCheck_spec (r : Rn) (u : Ru) : APure Try.prog 21 [encRn r, encRu u] (.int .i64 (checkI r u)) := by
  have s1 := rRun_spec r
  have s2 := rRules_spec u
  refine APure.vc Try.func21 rfl (.call (.bool (runB r)) <| .both 7 .nil <| .call (.bool (rulesB u)) <| .both 10 .nil .nil) rfl rfl ⟨s1, fun h1 => rI ?_, fun h1 => ⟨s2, fun h2 => rI ?_, fun h2 => rI ?_⟩⟩
  · simp at h1; simp [checkI, h1]
  · simp at h1 h2; simp [checkI, h1, h2]
  · simp at h1 h2; simp [checkI, h1, h2]
def gAt (l : List Rw) (i : Nat) : Bool := match l[i]? with
  | some r => decide (¬ ((r.deg.map encD).length : Int) > 15)
  | none => true
def smallB (r : Rn) (u : Ru) : Bool := decide (r.curve.length ≤ 15) && (decide (r.cps.length ≤ 12) && (decide (r.rows.length ≤ 80) && (decide (u.steps.length ≤ 10) && (List.range r.rows.length).all (gAt r.rows))))
set_option maxHeartbeats 8000000 in
set_option maxRecDepth 100000 in
theorem great_spec (r : Rn) (u : Ru) : APure Try.prog 14 [encRn r, encRu u] (.bool (!smallB r u)) := by
  refine APure.vc Try.func14 rfl (.both 10 .nil <| .both 16 .nil <| .both 22 .nil <| .both 27 .nil .loop) rfl rfl
    ⟨fun h1 => rB ?_, fun h1 => ⟨fun h2 => rB ?_, fun h2 => ⟨fun h3 => rB ?_, fun h3 => ⟨fun h4 => rB ?_, fun h4 => ?_⟩⟩⟩⟩
  · simp at h1; simp [smallB]; intros; omega
  · simp at h2; simp [smallB]; intros; omega
  · simp at h3; simp [smallB]; intros; omega
  · simp at h4; simp [smallB]; intros; omega
  · simp at h1 h2 h3 h4
    intro g hn hl
    refine acode_while (fun k : Nat => ⟨[(2, .vptr 0 0), (5, .int .i64 k)], [(0, .cells (runL r))], 1⟩) (fun k => k ≤ r.rows.length ∧ ∀ i, i < k → gAt r.rows i = true) (fun k => r.rows.length - k) 0 ⟨Nat.zero_le _, fun i hi => absurd hi (Nat.not_lt_zero _)⟩ ?_ (fun _ _ => hl.mono (Nat.zero_le _)) ?_
    · exact St.le.of ⟨rfl, rfl, rfl, rfl, trivial⟩ ⟨rfl, Nat.zero_lt_one, rfl, trivial⟩
    · rintro k ⟨hk1, hk2⟩
      by_cases hlt : k < r.rows.length
      · obtain ⟨q, hq⟩ := getE hlt
        refine ACode.vc (.br 32 true <| .cells (encRw q) <| .both 42 .nil .nil) hn hl (.round .cl)
          ⟨ltLen hlt, idx hq, fun e1 => ⟨_, .refl _, .nil, rB ?_⟩, fun e1 => ⟨k + 1, ⟨hlt, step_all hk2 ?_⟩, mu1 hlt, St.le.of ⟨rfl, rfl, congrArg _ (succ64 (by omega)), rfl, trivial⟩ ⟨rfl, Nat.zero_lt_one, rfl, trivial⟩⟩⟩
        · have : gAt r.rows k = false := by unfold gAt; rw [hq]; simp at e1; simp; omega
          simp [smallB, all_bad hlt this]
        · unfold gAt; rw [hq]; simp at e1; simp; omega
      · refine ACode.vc (.br 32 false .nil) hn hl (.round .cl) ⟨geLen hlt, _, .refl _, .nil, rB ?_⟩
        rw [smallB, all_ok (show r.rows.length ≤ k by omega) hk2]; simp; omega
def readyB (r : Rn) (u : Ru) : Bool := smallB r u && (checkI r u == 0)
set_option maxHeartbeats 8000000 in
set_option maxRecDepth 100000 in
theorem ready_spec (r : Rn) (u : Ru) : APure Try.prog 34 [encRn r, encRu u] (.bool (readyB r u)) := by
  have s1 := great_spec r u
  have s2 := rCheck_spec r u
  refine APure.vc Try.func34 rfl (.call (.bool (!smallB r u)) <| .both 9 (.call (.int .i64 (checkI r u)) .nil) .nil) rfl rfl ⟨s1, fun h1 => ⟨s2, rB ?_⟩, fun h1 => rB ?_⟩
  · simp at h1; simp [readyB, h1]
  · simp at h1; simp [readyB, h1]
theorem checkI_ok {r : Rn} {u : Ru} (h : checkI r u = 0) : runB r = true ∧ rulesB u = true := by
  unfold checkI at h
  split at h
  · split at h
    · exact ⟨by assumption, by assumption⟩
    · omega
  · omega
end Go.Proofs.Yticiopkiikcokaa
