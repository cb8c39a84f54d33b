import Derived.Test.YtmdhgkfjlphliaaV1
/-
  WHAT IS VALID, AND WHAT IS GREAT: the reference.
-/
namespace Go.Proofs.Ytmdhgkfjlphliaa
open Go Go.Am
set_option maxRecDepth 100000
set_option maxHeartbeats 4000000
theorem rwithin_spec (n lo hi : Int) : APure Try.prog 42 [.int .i64 n, .int .i64 lo, .int .i64 hi] (.bool (inB lo hi n)) := by
  cases h : decide (n ≥ lo)
  · have h' : ¬ lo ≤ n := of_decide_eq_false h
    exact APure.vc Try.func42 rfl (.br 10 false .nil) rfl rfl ⟨h, rB (by symm; exact decide_eq_false (fun h2 => h' h2.1))⟩
  · have h' : lo ≤ n := of_decide_eq_true h
    exact APure.vc Try.func42 rfl (.br 10 true .nil) rfl rfl ⟨h, rB (decide_eq_decide.2 ⟨fun h2 => ⟨h', h2⟩, fun h2 => h2.2⟩)⟩
theorem At_spec (r : List Rcd) (d : Int) (hr : r.length ≤ 1000) : APure Try.prog 52 [encRs r, .int .i64 d] (.int .i64 (fndV (isId d) r)) := by
  refine APure.vc Try.func52 rfl .loop rfl rfl ?_
  intro g hn hl
  replace hn : g.n = 20 := hn
  replace hl : g.low 0 := hl
  refine acode_while (fun k : Nat => ⟨[(0, encRs r), (1, .int .i64 d), (5, .int .i64 k)], [], 0⟩) (fun k => k ≤ r.length ∧ ∀ y ∈ r.take k, isId d y = false) (fun k => r.length - k) 0 ⟨Nat.zero_le _, fun y hy => by simp at hy⟩ ?_ (fun _ _ => hl) ?_
  · exact St.le.of ⟨rfl, rfl, rfl, rfl, rfl, rfl, trivial⟩ trivial
  · rintro k ⟨hk1, hk2⟩
    by_cases hlt : k < r.length
    · refine Exists.elim (getE hlt) fun x hx => ?_
      have ek := congrArg (AV.int .i64) (succ64 (k := k) (by omega))
      cases hb : isId d x
      · exact ACode.vc (.br 9 true <| .cells (cRc x) <| .br 18 false .nil) hn hl (.round .cl) ⟨ltLen hlt, idx hx, hb, k + 1, ⟨hlt, take_no hx hk2 hb⟩, mu1 hlt, St.le.of ⟨rfl, rfl, rfl, rfl, ek, rfl, trivial⟩ trivial⟩
      · exact ACode.vc (.br 9 true <| .cells (cRc x) <| .br 18 true .nil) hn hl (.round .cl) ⟨ltLen hlt, idx hx, hb, _, .refl _, .nil, rI (fndV_hit hx hk2 hb).symm⟩
    · have hk' : k = r.length := by omega
      exact ACode.vc (.br 9 false .nil) hn hl (.round .cl) ⟨geLen hlt, _, .refl _, .nil, rI (fndV_none (by rw [hk', List.take_length] at hk2; exact hk2)).symm⟩
theorem fndV_neg (d : Int) (r : List Rcd) : decide (fndV (isId d) r < 0) = !(idsR r).contains d := by
  rw [← any_ids, ← fndV_any, ← decide_not]
  exact decide_eq_decide.2 (by omega)
theorem incI_zero (ids : List Int) (x : Int) : incI ids 0 x = true := rfl
theorem incI_at {ids : List Int} {j : Nat} {x y : Int} (h : ids[j]? = some y) : incI ids (j + 1) x = !decide (x ≤ y) := by
  unfold incI
  rw [Nat.add_sub_cancel, List.getD_eq_getElem?_getD, h, Option.getD_some, decide_eq_false (Nat.succ_ne_zero j), Bool.false_or, ← decide_not]
  exact decide_eq_decide.2 (by omega)
theorem idsR_get1 {r : List Rcd} {k : Nat} {x : Rcd} (hx : r[k]? = some x) : (idsR r)[k]? = some x.id := by unfold idsR; rw [List.getElem?_map, hx]; rfl
theorem rRecords_spec (r : List Rcd) : APure Try.prog 51 [encRs r] (.bool (recsR r)) := by
  have hlen : ((r.map cRc).length : Int) = r.length := by rw [List.length_map]
  by_cases h12 : r.length ≤ 12
  · have d10 : decide (((r.map cRc).length : Int) > 12) = false := decide_eq_false (by omega)
    have er : recsR r = allI (recI (idsR r)) r := by unfold recsR; rw [decide_eq_true h12]; rfl
    rw [er]
    refine APure.vc Try.func51 rfl (.br 10 false .loop) rfl rfl ⟨d10, ?_⟩
    intro g hn hl
    replace hn : g.n = 122 := hn
    replace hl : g.low 0 := hl
    refine acode_while (fun k : Nat => ⟨[(0, encRs r), (3, .int .i64 k)], [], 0⟩) (fun k => k ≤ r.length ∧ allI (recI (idsR r)) (r.take k) = true) (fun k => r.length - k) 0 ⟨Nat.zero_le _, rfl⟩ ?_ (fun _ _ => hl) ?_
    · exact St.le.of ⟨by kernel_rfl, rfl, by kernel_rfl, rfl, trivial⟩ trivial
    · rintro k ⟨hk1, hk2⟩
      by_cases hlt : k < r.length
      · refine Exists.elim (getE hlt) fun x hx => ?_
        have ek := congrArg (AV.int .i64) (succ64 (k := k) (by omega))
        have hk9 := x.kd.isLt
        have eK : IntKind.i64.wrap (x.kd.val : Int) = (x.kd.val : Int) := wrap64 (by omega) (by omega)
        have wI := rwithin_spec x.id 0 9999
        have wK := rwithin_spec (IntKind.i64.wrap (x.kd.val : Int)) 1 4
        have hwlen : ((x.ways.map cW).length : Int) = x.ways.length := by rw [List.length_map]
        have wW := rwithin_spec ((x.ways.map cW).length : Int) 1 3
        have bad : recI (idsR r) k x = false → some (AV.bool false) = some (AV.bool (allI (recI (idsR r)) r)) := fun h => by rw [allI_bad hx h]
        cases h1 : inB 0 9999 x.id
        · rw [h1] at wI
          exact ACode.vc (.br 14 true <| .cells (cRc x) <| .draw 16 <| .call (.bool false) .nil) hn hl (.round .cl) ⟨ltLen hlt, idx hx, by kernel_rfl, mixed, by kernel_rfl, wI, by kernel_rfl, _, .refl _, .nil, trivial, bad (by unfold recI; rw [h1]; rfl)⟩
        · rw [h1] at wI
          cases k with
          | zero =>
            cases h2 : inB 1 4 (IntKind.i64.wrap (x.kd.val : Int))
            · rw [h2] at wK
              rw [eK] at h2
              exact ACode.vc (.br 14 true <| .cells (cRc x) <| .draw 16 <| .call (.bool true) <| .br 28 false <| .call (.bool false) .nil) hn hl (.round .cl) ⟨ltLen hlt, idx hx, by kernel_rfl, mixed, by kernel_rfl, wI, rfl, by kernel_rfl, wK, _, .refl _, .nil, trivial, bad (by unfold recI; rw [h2]; simp)⟩
            · rw [h2] at wK
              rw [eK] at h2
              have hA : (inB 0 9999 x.id && (incI (idsR r) 0 x.id && inB 1 4 x.kd.val)) = true := by rw [h1, h2]; rfl
              by_cases k2 : x.kd.val ≤ 2
              · have d50 : decide ((x.kd.val : Int) ≤ 2) = true := decide_eq_true (by omega)
                have d60 : decide ((x.kd.val : Int) > 2) = false := decide_eq_false (by omega)
                have eKR : kindR x = decide (x.ways.length = 0) := if_pos k2
                by_cases hz : x.ways.length = 0
                · have d56 : (((x.ways.map cW).length : Int) != 0) = false := by rw [hwlen, hz]; rfl
                  have hwb : x.ways.length ≤ 3 := by omega
                  have hpre : ∀ b, x.ways.all (wayR (idsR r) x.id) = b → recI (idsR r) 0 x = b := fun b hb => by unfold recI; rw [hA, eKR, decide_eq_true hz, hb]; rfl
                  refine ACode.vc (.br 14 true <| .cells (cRc x) <| .draw 16 <| .call (.bool true) <| .br 28 false <| .call (.bool true) <| .br 50 true <| .br 56 false <| .br 60 false <| .loop) hn hl (.round .cl) ⟨ltLen hlt, idx hx, by kernel_rfl, mixed, by kernel_rfl, wI, rfl, by kernel_rfl, wK, d50, d56, d60, ?_⟩
                  intro g hn hl2
                  replace hn : g.n = 122 := hn
                  replace hl2 : g.low 0 := hl2
                  refine acode_while (fun i : Nat => ⟨[(0, encRs r), (3, .int .i64 (0 : Nat)), (4, .vptr 0 0), (5, .int .i64 i)], [(0, .cells (cRc x))], 1⟩) (fun i => i ≤ x.ways.length ∧ (x.ways.take i).all (wayR (idsR r) x.id) = true) (fun i => x.ways.length - i) 0 ⟨Nat.zero_le _, rfl⟩ ?_ (fun _ _ => hl2.mono (Nat.zero_le _)) ?_
                  · exact St.le.of ⟨by kernel_rfl, rfl, by kernel_rfl, rfl, by kernel_rfl, rfl, by kernel_rfl, rfl, trivial⟩ ⟨by kernel_rfl, (by decide : (0 : Nat) < 1), rfl, trivial⟩
                  · rintro i ⟨hi1, hi2⟩
                    by_cases hil : i < x.ways.length
                    · refine Exists.elim (getE hil) fun w hw => ?_
                      have ei := congrArg (AV.int .i64) (succ64 (k := i) (by omega))
                      have wL := rwithin_spec ((w.map encI).length : Int) 1 4
                      have wlen : ((w.map encI).length : Int) = w.length := by rw [List.length_map]
                      cases h4 : inB 1 4 ((w.map encI).length : Int)
                      · rw [h4] at wL
                        have h4' : inB 1 4 (w.length : Int) = false := by rw [← wlen]; exact h4
                        exact ACode.vc (.br 72 true <| .cells (cW w) <| .call (.bool false) .nil) hn hl2 (.round .cl) ⟨ltLen hil, idx hw, wL, _, .refl _, .nil, _, .refl _, .nil, trivial, bad (hpre _ (all_bad hw (by unfold wayR; rw [h4']; rfl)))⟩
                      · rw [h4] at wL
                        have h4' : inB 1 4 (w.length : Int) = true := by rw [← wlen]; exact h4
                        have hw4 := inB_iff.1 h4'
                        refine ACode.vc (.br 72 true <| .cells (cW w) <| .call (.bool true) .loop) hn hl2 (.round .cl) ⟨ltLen hil, idx hw, wL, ?_⟩
                        intro g hn hl3
                        replace hn : g.n = 122 := hn
                        replace hl3 : g.low 0 := hl3
                        refine acode_while (fun n : Nat => ⟨[(0, encRs r), (3, .int .i64 (0 : Nat)), (4, .vptr 0 0), (5, .int .i64 i), (6, encR w), (7, .int .i64 n)], [(0, .cells (cRc x))], 1⟩) (fun n => n ≤ w.length ∧ allI (needR (idsR r) x.id w) (w.take n) = true) (fun n => w.length - n) 0 ⟨Nat.zero_le _, rfl⟩ ?_ (fun _ _ => hl3.mono (Nat.zero_le _)) ?_
                        · exact St.le.of ⟨by kernel_rfl, rfl, by kernel_rfl, rfl, by kernel_rfl, rfl, by kernel_rfl, rfl, by kernel_rfl, rfl, by kernel_rfl, rfl, trivial⟩ ⟨by kernel_rfl, (by decide : (0 : Nat) < 1), rfl, trivial⟩
                        · rintro n ⟨hn1, hn2⟩
                          by_cases hnl : n < w.length
                          · refine Exists.elim (getE hnl) fun v hv => ?_
                            have bN : needR (idsR r) x.id w n v = false → some (AV.bool false) = some (AV.bool (allI (recI (idsR r)) r)) := fun h => bad (hpre _ (all_bad hw (by unfold wayR; rw [h4', allI_bad hv h]; rfl)))
                            have gN : needR (idsR r) x.id w n v = true → allI (needR (idsR r) x.id w) (w.take (n + 1)) = true := fun h => by rw [allI_take hv, hn2, h]; rfl
                            have en := congrArg (AV.int .i64) (succ64 (k := n) (by omega))
                            have sAt := At_spec r v (by omega)
                            cases d1 : decide (v ≥ x.id)
                            · have d1' : decide (v < x.id) = true := decide_eq_true (by have := of_decide_eq_false d1; omega)
                              have fN := fndV_neg v r
                              cases d2 : decide (fndV (isId v) r < 0)
                              · rw [d2] at fN
                                have hc : (idsR r).contains v = true := by cases hq : (idsR r).contains v; (rw [hq] at fN; cases fN); rfl
                                cases n with
                                | zero =>
                                  exact ACode.vc (.br 87 true <| .draw 29 <| .cells (encI v) <| .br 97 false <| .cells (encI v) <| .call (.int .i64 (fndV (isId v) r)) <| .br 106 false <| .br 109 false .nil) hn hl3 (.round .cl) ⟨ltLen hnl, by kernel_rfl, mixed, by kernel_rfl, idx hv, d1, idx hv, sAt, d2, rfl, by kernel_rfl, 1, ⟨hnl, gN (by unfold needR; rw [d1', hc]; rfl)⟩, mu1 hnl, St.le.of ⟨by kernel_rfl, rfl, by kernel_rfl, rfl, by kernel_rfl, rfl, by kernel_rfl, rfl, by kernel_rfl, rfl, Eq.trans (by kernel_rfl) en, rfl, trivial⟩ ⟨by kernel_rfl, (by decide : (0 : Nat) < 1), rfl, trivial⟩⟩
                                | succ j =>
                                  refine Exists.elim (getE (show j < w.length by omega)) fun v' hv' => ?_
                                  have ej : IntKind.i64.wrap (((j + 1 : Nat) : Int) - 1) = (j : Int) := pred64 (by omega)
                                  have dg : decide (((j + 1 : Nat) : Int) > 0) = true := decide_eq_true (by omega)
                                  have eI := incI_at (x := v) hv'
                                  cases d3 : decide (v ≤ v')
                                  · rw [d3] at eI
                                    exact ACode.vc (.br 87 true <| .draw 29 <| .cells (encI v) <| .br 97 false <| .cells (encI v) <| .call (.int .i64 (fndV (isId v) r)) <| .br 106 false <| .br 109 true <| .cells (encI v) <| .cells (encI v') <| .br 121 false .nil) hn hl3 (.round .cl) ⟨ltLen hnl, by kernel_rfl, mixed, by kernel_rfl, idx hv, d1, idx hv, sAt, d2, dg, idx hv, idxW ej hv', by kernel_rfl, d3, j + 2, ⟨hnl, gN (by unfold needR; rw [d1', hc, eI]; rfl)⟩, mu1 hnl, St.le.of ⟨by kernel_rfl, rfl, by kernel_rfl, rfl, by kernel_rfl, rfl, by kernel_rfl, rfl, by kernel_rfl, rfl, Eq.trans (by kernel_rfl) en, rfl, trivial⟩ ⟨by kernel_rfl, (by decide : (0 : Nat) < 1), rfl, trivial⟩⟩
                                  · rw [d3] at eI
                                    exact ACode.vc (.br 87 true <| .draw 29 <| .cells (encI v) <| .br 97 false <| .cells (encI v) <| .call (.int .i64 (fndV (isId v) r)) <| .br 106 false <| .br 109 true <| .cells (encI v) <| .cells (encI v') <| .br 121 true .nil) hn hl3 (.round .cl) ⟨ltLen hnl, by kernel_rfl, mixed, by kernel_rfl, idx hv, d1, idx hv, sAt, d2, dg, idx hv, idxW ej hv', by kernel_rfl, d3, _, .refl _, .nil, _, .refl _, .nil, _, .refl _, .nil, trivial, bN (by unfold needR; rw [eI, Bool.not_true, Bool.and_false, Bool.and_false])⟩
                              · rw [d2] at fN
                                have hc : (idsR r).contains v = false := by cases hq : (idsR r).contains v; rfl; (rw [hq] at fN; cases fN)
                                exact ACode.vc (.br 87 true <| .draw 29 <| .cells (encI v) <| .br 97 false <| .cells (encI v) <| .call (.int .i64 (fndV (isId v) r)) <| .br 106 true .nil) hn hl3 (.round .cl) ⟨ltLen hnl, by kernel_rfl, mixed, by kernel_rfl, idx hv, d1, idx hv, sAt, d2, by kernel_rfl, _, .refl _, .nil, _, .refl _, .nil, _, .refl _, .nil, trivial, bN (by unfold needR; rw [hc, Bool.false_and, Bool.and_false])⟩
                            · have d1' : decide (v < x.id) = false := decide_eq_false (by have := of_decide_eq_true d1; omega)
                              exact ACode.vc (.br 87 true <| .draw 29 <| .cells (encI v) <| .br 97 true .nil) hn hl3 (.round .cl) ⟨ltLen hnl, by kernel_rfl, mixed, by kernel_rfl, idx hv, d1, by kernel_rfl, _, .refl _, .nil, _, .refl _, .nil, _, .refl _, .nil, trivial, bN (by unfold needR; rw [d1']; rfl)⟩
                          · have hn' : n = w.length := by omega
                            have hg : (x.ways.take (i + 1)).all (wayR (idsR r) x.id) = true := by rw [take_all hw, hi2]; unfold wayR; rw [h4']; rw [hn', List.take_length] at hn2; exact hn2
                            exact ACode.vc (.br 87 false .nil) hn hl3 (.round .cl) ⟨geLen hnl, _, .refl _, .nil, i + 1, ⟨hil, hg⟩, mu1 hil, St.le.of ⟨by kernel_rfl, rfl, by kernel_rfl, rfl, by kernel_rfl, rfl, Eq.trans (by kernel_rfl) ei, rfl, trivial⟩ ⟨by kernel_rfl, (by decide : (0 : Nat) < 1), rfl, trivial⟩⟩
                    · have hi' : i = x.ways.length := by omega
                      have hg : allI (recI (idsR r)) (r.take 1) = true := by rw [allI_take hx, hk2, hpre true (by rw [hi', List.take_length] at hi2; exact hi2)]; rfl
                      exact ACode.vc (.br 72 false .nil) hn hl2 (.round .cl) ⟨geLen hil, _, .refl _, .nil, 1, ⟨hlt, hg⟩, mu1 hlt, St.le.of ⟨by kernel_rfl, rfl, Eq.trans (by kernel_rfl) ek, rfl, trivial⟩ trivial⟩
                · have d56 : (((x.ways.map cW).length : Int) != 0) = true := by rw [hwlen, bne_iff_ne]; omega
                  exact ACode.vc (.br 14 true <| .cells (cRc x) <| .draw 16 <| .call (.bool true) <| .br 28 false <| .call (.bool true) <| .br 50 true <| .br 56 true .nil) hn hl (.round .cl) ⟨ltLen hlt, idx hx, by kernel_rfl, mixed, by kernel_rfl, wI, rfl, by kernel_rfl, wK, d50, d56, _, .refl _, .nil, trivial, bad (by unfold recI; rw [eKR, decide_eq_false hz, Bool.false_and, Bool.and_false])⟩
              · have d50 : decide ((x.kd.val : Int) ≤ 2) = false := decide_eq_false (by omega)
                have d60 : decide ((x.kd.val : Int) > 2) = true := decide_eq_true (by omega)
                have eKR : kindR x = inB 1 3 x.ways.length := if_neg k2
                cases h3 : inB 1 3 ((x.ways.map cW).length : Int)
                · rw [h3] at wW
                  have h3' : inB 1 3 (x.ways.length : Int) = false := by rw [← hwlen]; exact h3
                  exact ACode.vc (.br 14 true <| .cells (cRc x) <| .draw 16 <| .call (.bool true) <| .br 28 false <| .call (.bool true) <| .br 50 false <| .br 60 true <| .call (.bool false) .nil) hn hl (.round .cl) ⟨ltLen hlt, idx hx, by kernel_rfl, mixed, by kernel_rfl, wI, rfl, by kernel_rfl, wK, d50, d60, wW, _, .refl _, .nil, trivial, bad (by unfold recI; rw [eKR, h3', Bool.false_and, Bool.and_false])⟩
                · rw [h3] at wW
                  have h3' : inB 1 3 (x.ways.length : Int) = true := by rw [← hwlen]; exact h3
                  have hwb : x.ways.length ≤ 3 := by have := inB_iff.1 h3'; omega
                  have hpre : ∀ b, x.ways.all (wayR (idsR r) x.id) = b → recI (idsR r) 0 x = b := fun b hb => by unfold recI; rw [hA, eKR, h3', hb]; rfl
                  refine ACode.vc (.br 14 true <| .cells (cRc x) <| .draw 16 <| .call (.bool true) <| .br 28 false <| .call (.bool true) <| .br 50 false <| .br 60 true <| .call (.bool true) <| .loop) hn hl (.round .cl) ⟨ltLen hlt, idx hx, by kernel_rfl, mixed, by kernel_rfl, wI, rfl, by kernel_rfl, wK, d50, d60, wW, ?_⟩
                  intro g hn hl2
                  replace hn : g.n = 122 := hn
                  replace hl2 : g.low 0 := hl2
                  refine acode_while (fun i : Nat => ⟨[(0, encRs r), (3, .int .i64 (0 : Nat)), (4, .vptr 0 0), (5, .int .i64 i)], [(0, .cells (cRc x))], 1⟩) (fun i => i ≤ x.ways.length ∧ (x.ways.take i).all (wayR (idsR r) x.id) = true) (fun i => x.ways.length - i) 0 ⟨Nat.zero_le _, rfl⟩ ?_ (fun _ _ => hl2.mono (Nat.zero_le _)) ?_
                  · exact St.le.of ⟨by kernel_rfl, rfl, by kernel_rfl, rfl, by kernel_rfl, rfl, by kernel_rfl, rfl, trivial⟩ ⟨by kernel_rfl, (by decide : (0 : Nat) < 1), rfl, trivial⟩
                  · rintro i ⟨hi1, hi2⟩
                    by_cases hil : i < x.ways.length
                    · refine Exists.elim (getE hil) fun w hw => ?_
                      have ei := congrArg (AV.int .i64) (succ64 (k := i) (by omega))
                      have wL := rwithin_spec ((w.map encI).length : Int) 1 4
                      have wlen : ((w.map encI).length : Int) = w.length := by rw [List.length_map]
                      cases h4 : inB 1 4 ((w.map encI).length : Int)
                      · rw [h4] at wL
                        have h4' : inB 1 4 (w.length : Int) = false := by rw [← wlen]; exact h4
                        exact ACode.vc (.br 72 true <| .cells (cW w) <| .call (.bool false) .nil) hn hl2 (.round .cl) ⟨ltLen hil, idx hw, wL, _, .refl _, .nil, _, .refl _, .nil, trivial, bad (hpre _ (all_bad hw (by unfold wayR; rw [h4']; rfl)))⟩
                      · rw [h4] at wL
                        have h4' : inB 1 4 (w.length : Int) = true := by rw [← wlen]; exact h4
                        have hw4 := inB_iff.1 h4'
                        refine ACode.vc (.br 72 true <| .cells (cW w) <| .call (.bool true) .loop) hn hl2 (.round .cl) ⟨ltLen hil, idx hw, wL, ?_⟩
                        intro g hn hl3
                        replace hn : g.n = 122 := hn
                        replace hl3 : g.low 0 := hl3
                        refine acode_while (fun n : Nat => ⟨[(0, encRs r), (3, .int .i64 (0 : Nat)), (4, .vptr 0 0), (5, .int .i64 i), (6, encR w), (7, .int .i64 n)], [(0, .cells (cRc x))], 1⟩) (fun n => n ≤ w.length ∧ allI (needR (idsR r) x.id w) (w.take n) = true) (fun n => w.length - n) 0 ⟨Nat.zero_le _, rfl⟩ ?_ (fun _ _ => hl3.mono (Nat.zero_le _)) ?_
                        · exact St.le.of ⟨by kernel_rfl, rfl, by kernel_rfl, rfl, by kernel_rfl, rfl, by kernel_rfl, rfl, by kernel_rfl, rfl, by kernel_rfl, rfl, trivial⟩ ⟨by kernel_rfl, (by decide : (0 : Nat) < 1), rfl, trivial⟩
                        · rintro n ⟨hn1, hn2⟩
                          by_cases hnl : n < w.length
                          · refine Exists.elim (getE hnl) fun v hv => ?_
                            have bN : needR (idsR r) x.id w n v = false → some (AV.bool false) = some (AV.bool (allI (recI (idsR r)) r)) := fun h => bad (hpre _ (all_bad hw (by unfold wayR; rw [h4', allI_bad hv h]; rfl)))
                            have gN : needR (idsR r) x.id w n v = true → allI (needR (idsR r) x.id w) (w.take (n + 1)) = true := fun h => by rw [allI_take hv, hn2, h]; rfl
                            have en := congrArg (AV.int .i64) (succ64 (k := n) (by omega))
                            have sAt := At_spec r v (by omega)
                            cases d1 : decide (v ≥ x.id)
                            · have d1' : decide (v < x.id) = true := decide_eq_true (by have := of_decide_eq_false d1; omega)
                              have fN := fndV_neg v r
                              cases d2 : decide (fndV (isId v) r < 0)
                              · rw [d2] at fN
                                have hc : (idsR r).contains v = true := by cases hq : (idsR r).contains v; (rw [hq] at fN; cases fN); rfl
                                cases n with
                                | zero =>
                                  exact ACode.vc (.br 87 true <| .draw 29 <| .cells (encI v) <| .br 97 false <| .cells (encI v) <| .call (.int .i64 (fndV (isId v) r)) <| .br 106 false <| .br 109 false .nil) hn hl3 (.round .cl) ⟨ltLen hnl, by kernel_rfl, mixed, by kernel_rfl, idx hv, d1, idx hv, sAt, d2, rfl, by kernel_rfl, 1, ⟨hnl, gN (by unfold needR; rw [d1', hc]; rfl)⟩, mu1 hnl, St.le.of ⟨by kernel_rfl, rfl, by kernel_rfl, rfl, by kernel_rfl, rfl, by kernel_rfl, rfl, by kernel_rfl, rfl, Eq.trans (by kernel_rfl) en, rfl, trivial⟩ ⟨by kernel_rfl, (by decide : (0 : Nat) < 1), rfl, trivial⟩⟩
                                | succ j =>
                                  refine Exists.elim (getE (show j < w.length by omega)) fun v' hv' => ?_
                                  have ej : IntKind.i64.wrap (((j + 1 : Nat) : Int) - 1) = (j : Int) := pred64 (by omega)
                                  have dg : decide (((j + 1 : Nat) : Int) > 0) = true := decide_eq_true (by omega)
                                  have eI := incI_at (x := v) hv'
                                  cases d3 : decide (v ≤ v')
                                  · rw [d3] at eI
                                    exact ACode.vc (.br 87 true <| .draw 29 <| .cells (encI v) <| .br 97 false <| .cells (encI v) <| .call (.int .i64 (fndV (isId v) r)) <| .br 106 false <| .br 109 true <| .cells (encI v) <| .cells (encI v') <| .br 121 false .nil) hn hl3 (.round .cl) ⟨ltLen hnl, by kernel_rfl, mixed, by kernel_rfl, idx hv, d1, idx hv, sAt, d2, dg, idx hv, idxW ej hv', by kernel_rfl, d3, j + 2, ⟨hnl, gN (by unfold needR; rw [d1', hc, eI]; rfl)⟩, mu1 hnl, St.le.of ⟨by kernel_rfl, rfl, by kernel_rfl, rfl, by kernel_rfl, rfl, by kernel_rfl, rfl, by kernel_rfl, rfl, Eq.trans (by kernel_rfl) en, rfl, trivial⟩ ⟨by kernel_rfl, (by decide : (0 : Nat) < 1), rfl, trivial⟩⟩
                                  · rw [d3] at eI
                                    exact ACode.vc (.br 87 true <| .draw 29 <| .cells (encI v) <| .br 97 false <| .cells (encI v) <| .call (.int .i64 (fndV (isId v) r)) <| .br 106 false <| .br 109 true <| .cells (encI v) <| .cells (encI v') <| .br 121 true .nil) hn hl3 (.round .cl) ⟨ltLen hnl, by kernel_rfl, mixed, by kernel_rfl, idx hv, d1, idx hv, sAt, d2, dg, idx hv, idxW ej hv', by kernel_rfl, d3, _, .refl _, .nil, _, .refl _, .nil, _, .refl _, .nil, trivial, bN (by unfold needR; rw [eI, Bool.not_true, Bool.and_false, Bool.and_false])⟩
                              · rw [d2] at fN
                                have hc : (idsR r).contains v = false := by cases hq : (idsR r).contains v; rfl; (rw [hq] at fN; cases fN)
                                exact ACode.vc (.br 87 true <| .draw 29 <| .cells (encI v) <| .br 97 false <| .cells (encI v) <| .call (.int .i64 (fndV (isId v) r)) <| .br 106 true .nil) hn hl3 (.round .cl) ⟨ltLen hnl, by kernel_rfl, mixed, by kernel_rfl, idx hv, d1, idx hv, sAt, d2, by kernel_rfl, _, .refl _, .nil, _, .refl _, .nil, _, .refl _, .nil, trivial, bN (by unfold needR; rw [hc, Bool.false_and, Bool.and_false])⟩
                            · have d1' : decide (v < x.id) = false := decide_eq_false (by have := of_decide_eq_true d1; omega)
                              exact ACode.vc (.br 87 true <| .draw 29 <| .cells (encI v) <| .br 97 true .nil) hn hl3 (.round .cl) ⟨ltLen hnl, by kernel_rfl, mixed, by kernel_rfl, idx hv, d1, by kernel_rfl, _, .refl _, .nil, _, .refl _, .nil, _, .refl _, .nil, trivial, bN (by unfold needR; rw [d1']; rfl)⟩
                          · have hn' : n = w.length := by omega
                            have hg : (x.ways.take (i + 1)).all (wayR (idsR r) x.id) = true := by rw [take_all hw, hi2]; unfold wayR; rw [h4']; rw [hn', List.take_length] at hn2; exact hn2
                            exact ACode.vc (.br 87 false .nil) hn hl3 (.round .cl) ⟨geLen hnl, _, .refl _, .nil, i + 1, ⟨hil, hg⟩, mu1 hil, St.le.of ⟨by kernel_rfl, rfl, by kernel_rfl, rfl, by kernel_rfl, rfl, Eq.trans (by kernel_rfl) ei, rfl, trivial⟩ ⟨by kernel_rfl, (by decide : (0 : Nat) < 1), rfl, trivial⟩⟩
                    · have hi' : i = x.ways.length := by omega
                      have hg : allI (recI (idsR r)) (r.take 1) = true := by rw [allI_take hx, hk2, hpre true (by rw [hi', List.take_length] at hi2; exact hi2)]; rfl
                      exact ACode.vc (.br 72 false .nil) hn hl2 (.round .cl) ⟨geLen hil, _, .refl _, .nil, 1, ⟨hlt, hg⟩, mu1 hlt, St.le.of ⟨by kernel_rfl, rfl, Eq.trans (by kernel_rfl) ek, rfl, trivial⟩ trivial⟩
          | succ j =>
            refine Exists.elim (getE (show j < r.length by omega)) fun x' hx' => ?_
            have ej : IntKind.i64.wrap (((j + 1 : Nat) : Int) - 1) = (j : Int) := pred64 (by omega)
            have dg : decide (((j + 1 : Nat) : Int) > 0) = true := decide_eq_true (by omega)
            have eI := incI_at (x := x.id) (idsR_get1 hx')
            cases d40 : decide (x.id ≤ x'.id)
            · rw [d40] at eI
              cases h2 : inB 1 4 (IntKind.i64.wrap (x.kd.val : Int))
              · rw [h2] at wK
                rw [eK] at h2
                exact ACode.vc (.br 14 true <| .cells (cRc x) <| .draw 16 <| .call (.bool true) <| .br 28 true <| .cells (cRc x') <| .br 40 false <| .call (.bool false) .nil) hn hl (.round .cl) ⟨ltLen hlt, idx hx, by kernel_rfl, mixed, by kernel_rfl, wI, dg, idxW ej hx', by kernel_rfl, d40, wK, _, .refl _, .nil, trivial, bad (by unfold recI; rw [h2]; simp)⟩
              · rw [h2] at wK
                rw [eK] at h2
                have hA : (inB 0 9999 x.id && (incI (idsR r) (j + 1) x.id && inB 1 4 x.kd.val)) = true := by rw [h1, h2, eI]; rfl
                by_cases k2 : x.kd.val ≤ 2
                · have d50 : decide ((x.kd.val : Int) ≤ 2) = true := decide_eq_true (by omega)
                  have d60 : decide ((x.kd.val : Int) > 2) = false := decide_eq_false (by omega)
                  have eKR : kindR x = decide (x.ways.length = 0) := if_pos k2
                  by_cases hz : x.ways.length = 0
                  · have d56 : (((x.ways.map cW).length : Int) != 0) = false := by rw [hwlen, hz]; rfl
                    have hwb : x.ways.length ≤ 3 := by omega
                    have hpre : ∀ b, x.ways.all (wayR (idsR r) x.id) = b → recI (idsR r) (j + 1) x = b := fun b hb => by unfold recI; rw [hA, eKR, decide_eq_true hz, hb]; rfl
                    refine ACode.vc (.br 14 true <| .cells (cRc x) <| .draw 16 <| .call (.bool true) <| .br 28 true <| .cells (cRc x') <| .br 40 false <| .call (.bool true) <| .br 50 true <| .br 56 false <| .br 60 false <| .loop) hn hl (.round .cl) ⟨ltLen hlt, idx hx, by kernel_rfl, mixed, by kernel_rfl, wI, dg, idxW ej hx', by kernel_rfl, d40, wK, d50, d56, d60, ?_⟩
                    intro g hn hl2
                    replace hn : g.n = 122 := hn
                    replace hl2 : g.low 0 := hl2
                    refine acode_while (fun i : Nat => ⟨[(0, encRs r), (3, .int .i64 (j + 1 : Nat)), (4, .vptr 0 0), (5, .int .i64 i)], [(0, .cells (cRc x))], 1⟩) (fun i => i ≤ x.ways.length ∧ (x.ways.take i).all (wayR (idsR r) x.id) = true) (fun i => x.ways.length - i) 0 ⟨Nat.zero_le _, rfl⟩ ?_ (fun _ _ => hl2.mono (Nat.zero_le _)) ?_
                    · exact St.le.of ⟨by kernel_rfl, rfl, by kernel_rfl, rfl, by kernel_rfl, rfl, by kernel_rfl, rfl, trivial⟩ ⟨by kernel_rfl, (by decide : (0 : Nat) < 1), rfl, trivial⟩
                    · rintro i ⟨hi1, hi2⟩
                      by_cases hil : i < x.ways.length
                      · refine Exists.elim (getE hil) fun w hw => ?_
                        have ei := congrArg (AV.int .i64) (succ64 (k := i) (by omega))
                        have wL := rwithin_spec ((w.map encI).length : Int) 1 4
                        have wlen : ((w.map encI).length : Int) = w.length := by rw [List.length_map]
                        cases h4 : inB 1 4 ((w.map encI).length : Int)
                        · rw [h4] at wL
                          have h4' : inB 1 4 (w.length : Int) = false := by rw [← wlen]; exact h4
                          exact ACode.vc (.br 72 true <| .cells (cW w) <| .call (.bool false) .nil) hn hl2 (.round .cl) ⟨ltLen hil, idx hw, wL, _, .refl _, .nil, _, .refl _, .nil, trivial, bad (hpre _ (all_bad hw (by unfold wayR; rw [h4']; rfl)))⟩
                        · rw [h4] at wL
                          have h4' : inB 1 4 (w.length : Int) = true := by rw [← wlen]; exact h4
                          have hw4 := inB_iff.1 h4'
                          refine ACode.vc (.br 72 true <| .cells (cW w) <| .call (.bool true) .loop) hn hl2 (.round .cl) ⟨ltLen hil, idx hw, wL, ?_⟩
                          intro g hn hl3
                          replace hn : g.n = 122 := hn
                          replace hl3 : g.low 0 := hl3
                          refine acode_while (fun n : Nat => ⟨[(0, encRs r), (3, .int .i64 (j + 1 : Nat)), (4, .vptr 0 0), (5, .int .i64 i), (6, encR w), (7, .int .i64 n)], [(0, .cells (cRc x))], 1⟩) (fun n => n ≤ w.length ∧ allI (needR (idsR r) x.id w) (w.take n) = true) (fun n => w.length - n) 0 ⟨Nat.zero_le _, rfl⟩ ?_ (fun _ _ => hl3.mono (Nat.zero_le _)) ?_
                          · exact St.le.of ⟨by kernel_rfl, rfl, by kernel_rfl, rfl, by kernel_rfl, rfl, by kernel_rfl, rfl, by kernel_rfl, rfl, by kernel_rfl, rfl, trivial⟩ ⟨by kernel_rfl, (by decide : (0 : Nat) < 1), rfl, trivial⟩
                          · rintro n ⟨hn1, hn2⟩
                            by_cases hnl : n < w.length
                            · refine Exists.elim (getE hnl) fun v hv => ?_
                              have bN : needR (idsR r) x.id w n v = false → some (AV.bool false) = some (AV.bool (allI (recI (idsR r)) r)) := fun h => bad (hpre _ (all_bad hw (by unfold wayR; rw [h4', allI_bad hv h]; rfl)))
                              have gN : needR (idsR r) x.id w n v = true → allI (needR (idsR r) x.id w) (w.take (n + 1)) = true := fun h => by rw [allI_take hv, hn2, h]; rfl
                              have en := congrArg (AV.int .i64) (succ64 (k := n) (by omega))
                              have sAt := At_spec r v (by omega)
                              cases d1 : decide (v ≥ x.id)
                              · have d1' : decide (v < x.id) = true := decide_eq_true (by have := of_decide_eq_false d1; omega)
                                have fN := fndV_neg v r
                                cases d2 : decide (fndV (isId v) r < 0)
                                · rw [d2] at fN
                                  have hc : (idsR r).contains v = true := by cases hq : (idsR r).contains v; (rw [hq] at fN; cases fN); rfl
                                  cases n with
                                  | zero =>
                                    exact ACode.vc (.br 87 true <| .draw 29 <| .cells (encI v) <| .br 97 false <| .cells (encI v) <| .call (.int .i64 (fndV (isId v) r)) <| .br 106 false <| .br 109 false .nil) hn hl3 (.round .cl) ⟨ltLen hnl, by kernel_rfl, mixed, by kernel_rfl, idx hv, d1, idx hv, sAt, d2, rfl, by kernel_rfl, 1, ⟨hnl, gN (by unfold needR; rw [d1', hc]; rfl)⟩, mu1 hnl, St.le.of ⟨by kernel_rfl, rfl, by kernel_rfl, rfl, by kernel_rfl, rfl, by kernel_rfl, rfl, by kernel_rfl, rfl, Eq.trans (by kernel_rfl) en, rfl, trivial⟩ ⟨by kernel_rfl, (by decide : (0 : Nat) < 1), rfl, trivial⟩⟩
                                  | succ j =>
                                    refine Exists.elim (getE (show j < w.length by omega)) fun v' hv' => ?_
                                    have ej : IntKind.i64.wrap (((j + 1 : Nat) : Int) - 1) = (j : Int) := pred64 (by omega)
                                    have dg : decide (((j + 1 : Nat) : Int) > 0) = true := decide_eq_true (by omega)
                                    have eI := incI_at (x := v) hv'
                                    cases d3 : decide (v ≤ v')
                                    · rw [d3] at eI
                                      exact ACode.vc (.br 87 true <| .draw 29 <| .cells (encI v) <| .br 97 false <| .cells (encI v) <| .call (.int .i64 (fndV (isId v) r)) <| .br 106 false <| .br 109 true <| .cells (encI v) <| .cells (encI v') <| .br 121 false .nil) hn hl3 (.round .cl) ⟨ltLen hnl, by kernel_rfl, mixed, by kernel_rfl, idx hv, d1, idx hv, sAt, d2, dg, idx hv, idxW ej hv', by kernel_rfl, d3, j + 2, ⟨hnl, gN (by unfold needR; rw [d1', hc, eI]; rfl)⟩, mu1 hnl, St.le.of ⟨by kernel_rfl, rfl, by kernel_rfl, rfl, by kernel_rfl, rfl, by kernel_rfl, rfl, by kernel_rfl, rfl, Eq.trans (by kernel_rfl) en, rfl, trivial⟩ ⟨by kernel_rfl, (by decide : (0 : Nat) < 1), rfl, trivial⟩⟩
                                    · rw [d3] at eI
                                      exact ACode.vc (.br 87 true <| .draw 29 <| .cells (encI v) <| .br 97 false <| .cells (encI v) <| .call (.int .i64 (fndV (isId v) r)) <| .br 106 false <| .br 109 true <| .cells (encI v) <| .cells (encI v') <| .br 121 true .nil) hn hl3 (.round .cl) ⟨ltLen hnl, by kernel_rfl, mixed, by kernel_rfl, idx hv, d1, idx hv, sAt, d2, dg, idx hv, idxW ej hv', by kernel_rfl, d3, _, .refl _, .nil, _, .refl _, .nil, _, .refl _, .nil, trivial, bN (by unfold needR; rw [eI, Bool.not_true, Bool.and_false, Bool.and_false])⟩
                                · rw [d2] at fN
                                  have hc : (idsR r).contains v = false := by cases hq : (idsR r).contains v; rfl; (rw [hq] at fN; cases fN)
                                  exact ACode.vc (.br 87 true <| .draw 29 <| .cells (encI v) <| .br 97 false <| .cells (encI v) <| .call (.int .i64 (fndV (isId v) r)) <| .br 106 true .nil) hn hl3 (.round .cl) ⟨ltLen hnl, by kernel_rfl, mixed, by kernel_rfl, idx hv, d1, idx hv, sAt, d2, by kernel_rfl, _, .refl _, .nil, _, .refl _, .nil, _, .refl _, .nil, trivial, bN (by unfold needR; rw [hc, Bool.false_and, Bool.and_false])⟩
                              · have d1' : decide (v < x.id) = false := decide_eq_false (by have := of_decide_eq_true d1; omega)
                                exact ACode.vc (.br 87 true <| .draw 29 <| .cells (encI v) <| .br 97 true .nil) hn hl3 (.round .cl) ⟨ltLen hnl, by kernel_rfl, mixed, by kernel_rfl, idx hv, d1, by kernel_rfl, _, .refl _, .nil, _, .refl _, .nil, _, .refl _, .nil, trivial, bN (by unfold needR; rw [d1']; rfl)⟩
                            · have hn' : n = w.length := by omega
                              have hg : (x.ways.take (i + 1)).all (wayR (idsR r) x.id) = true := by rw [take_all hw, hi2]; unfold wayR; rw [h4']; rw [hn', List.take_length] at hn2; exact hn2
                              exact ACode.vc (.br 87 false .nil) hn hl3 (.round .cl) ⟨geLen hnl, _, .refl _, .nil, i + 1, ⟨hil, hg⟩, mu1 hil, St.le.of ⟨by kernel_rfl, rfl, by kernel_rfl, rfl, by kernel_rfl, rfl, Eq.trans (by kernel_rfl) ei, rfl, trivial⟩ ⟨by kernel_rfl, (by decide : (0 : Nat) < 1), rfl, trivial⟩⟩
                      · have hi' : i = x.ways.length := by omega
                        have hg : allI (recI (idsR r)) (r.take (j + 1 + 1)) = true := by rw [allI_take hx, hk2, hpre true (by rw [hi', List.take_length] at hi2; exact hi2)]; rfl
                        exact ACode.vc (.br 72 false .nil) hn hl2 (.round .cl) ⟨geLen hil, _, .refl _, .nil, j + 2, ⟨hlt, hg⟩, mu1 hlt, St.le.of ⟨by kernel_rfl, rfl, Eq.trans (by kernel_rfl) ek, rfl, trivial⟩ trivial⟩
                  · have d56 : (((x.ways.map cW).length : Int) != 0) = true := by rw [hwlen, bne_iff_ne]; omega
                    exact ACode.vc (.br 14 true <| .cells (cRc x) <| .draw 16 <| .call (.bool true) <| .br 28 true <| .cells (cRc x') <| .br 40 false <| .call (.bool true) <| .br 50 true <| .br 56 true .nil) hn hl (.round .cl) ⟨ltLen hlt, idx hx, by kernel_rfl, mixed, by kernel_rfl, wI, dg, idxW ej hx', by kernel_rfl, d40, wK, d50, d56, _, .refl _, .nil, trivial, bad (by unfold recI; rw [eKR, decide_eq_false hz, Bool.false_and, Bool.and_false])⟩
                · have d50 : decide ((x.kd.val : Int) ≤ 2) = false := decide_eq_false (by omega)
                  have d60 : decide ((x.kd.val : Int) > 2) = true := decide_eq_true (by omega)
                  have eKR : kindR x = inB 1 3 x.ways.length := if_neg k2
                  cases h3 : inB 1 3 ((x.ways.map cW).length : Int)
                  · rw [h3] at wW
                    have h3' : inB 1 3 (x.ways.length : Int) = false := by rw [← hwlen]; exact h3
                    exact ACode.vc (.br 14 true <| .cells (cRc x) <| .draw 16 <| .call (.bool true) <| .br 28 true <| .cells (cRc x') <| .br 40 false <| .call (.bool true) <| .br 50 false <| .br 60 true <| .call (.bool false) .nil) hn hl (.round .cl) ⟨ltLen hlt, idx hx, by kernel_rfl, mixed, by kernel_rfl, wI, dg, idxW ej hx', by kernel_rfl, d40, wK, d50, d60, wW, _, .refl _, .nil, trivial, bad (by unfold recI; rw [eKR, h3', Bool.false_and, Bool.and_false])⟩
                  · rw [h3] at wW
                    have h3' : inB 1 3 (x.ways.length : Int) = true := by rw [← hwlen]; exact h3
                    have hwb : x.ways.length ≤ 3 := by have := inB_iff.1 h3'; omega
                    have hpre : ∀ b, x.ways.all (wayR (idsR r) x.id) = b → recI (idsR r) (j + 1) x = b := fun b hb => by unfold recI; rw [hA, eKR, h3', hb]; rfl
                    refine ACode.vc (.br 14 true <| .cells (cRc x) <| .draw 16 <| .call (.bool true) <| .br 28 true <| .cells (cRc x') <| .br 40 false <| .call (.bool true) <| .br 50 false <| .br 60 true <| .call (.bool true) <| .loop) hn hl (.round .cl) ⟨ltLen hlt, idx hx, by kernel_rfl, mixed, by kernel_rfl, wI, dg, idxW ej hx', by kernel_rfl, d40, wK, d50, d60, wW, ?_⟩
                    intro g hn hl2
                    replace hn : g.n = 122 := hn
                    replace hl2 : g.low 0 := hl2
                    refine acode_while (fun i : Nat => ⟨[(0, encRs r), (3, .int .i64 (j + 1 : Nat)), (4, .vptr 0 0), (5, .int .i64 i)], [(0, .cells (cRc x))], 1⟩) (fun i => i ≤ x.ways.length ∧ (x.ways.take i).all (wayR (idsR r) x.id) = true) (fun i => x.ways.length - i) 0 ⟨Nat.zero_le _, rfl⟩ ?_ (fun _ _ => hl2.mono (Nat.zero_le _)) ?_
                    · exact St.le.of ⟨by kernel_rfl, rfl, by kernel_rfl, rfl, by kernel_rfl, rfl, by kernel_rfl, rfl, trivial⟩ ⟨by kernel_rfl, (by decide : (0 : Nat) < 1), rfl, trivial⟩
                    · rintro i ⟨hi1, hi2⟩
                      by_cases hil : i < x.ways.length
                      · refine Exists.elim (getE hil) fun w hw => ?_
                        have ei := congrArg (AV.int .i64) (succ64 (k := i) (by omega))
                        have wL := rwithin_spec ((w.map encI).length : Int) 1 4
                        have wlen : ((w.map encI).length : Int) = w.length := by rw [List.length_map]
                        cases h4 : inB 1 4 ((w.map encI).length : Int)
                        · rw [h4] at wL
                          have h4' : inB 1 4 (w.length : Int) = false := by rw [← wlen]; exact h4
                          exact ACode.vc (.br 72 true <| .cells (cW w) <| .call (.bool false) .nil) hn hl2 (.round .cl) ⟨ltLen hil, idx hw, wL, _, .refl _, .nil, _, .refl _, .nil, trivial, bad (hpre _ (all_bad hw (by unfold wayR; rw [h4']; rfl)))⟩
                        · rw [h4] at wL
                          have h4' : inB 1 4 (w.length : Int) = true := by rw [← wlen]; exact h4
                          have hw4 := inB_iff.1 h4'
                          refine ACode.vc (.br 72 true <| .cells (cW w) <| .call (.bool true) .loop) hn hl2 (.round .cl) ⟨ltLen hil, idx hw, wL, ?_⟩
                          intro g hn hl3
                          replace hn : g.n = 122 := hn
                          replace hl3 : g.low 0 := hl3
                          refine acode_while (fun n : Nat => ⟨[(0, encRs r), (3, .int .i64 (j + 1 : Nat)), (4, .vptr 0 0), (5, .int .i64 i), (6, encR w), (7, .int .i64 n)], [(0, .cells (cRc x))], 1⟩) (fun n => n ≤ w.length ∧ allI (needR (idsR r) x.id w) (w.take n) = true) (fun n => w.length - n) 0 ⟨Nat.zero_le _, rfl⟩ ?_ (fun _ _ => hl3.mono (Nat.zero_le _)) ?_
                          · exact St.le.of ⟨by kernel_rfl, rfl, by kernel_rfl, rfl, by kernel_rfl, rfl, by kernel_rfl, rfl, by kernel_rfl, rfl, by kernel_rfl, rfl, trivial⟩ ⟨by kernel_rfl, (by decide : (0 : Nat) < 1), rfl, trivial⟩
                          · rintro n ⟨hn1, hn2⟩
                            by_cases hnl : n < w.length
                            · refine Exists.elim (getE hnl) fun v hv => ?_
                              have bN : needR (idsR r) x.id w n v = false → some (AV.bool false) = some (AV.bool (allI (recI (idsR r)) r)) := fun h => bad (hpre _ (all_bad hw (by unfold wayR; rw [h4', allI_bad hv h]; rfl)))
                              have gN : needR (idsR r) x.id w n v = true → allI (needR (idsR r) x.id w) (w.take (n + 1)) = true := fun h => by rw [allI_take hv, hn2, h]; rfl
                              have en := congrArg (AV.int .i64) (succ64 (k := n) (by omega))
                              have sAt := At_spec r v (by omega)
                              cases d1 : decide (v ≥ x.id)
                              · have d1' : decide (v < x.id) = true := decide_eq_true (by have := of_decide_eq_false d1; omega)
                                have fN := fndV_neg v r
                                cases d2 : decide (fndV (isId v) r < 0)
                                · rw [d2] at fN
                                  have hc : (idsR r).contains v = true := by cases hq : (idsR r).contains v; (rw [hq] at fN; cases fN); rfl
                                  cases n with
                                  | zero =>
                                    exact ACode.vc (.br 87 true <| .draw 29 <| .cells (encI v) <| .br 97 false <| .cells (encI v) <| .call (.int .i64 (fndV (isId v) r)) <| .br 106 false <| .br 109 false .nil) hn hl3 (.round .cl) ⟨ltLen hnl, by kernel_rfl, mixed, by kernel_rfl, idx hv, d1, idx hv, sAt, d2, rfl, by kernel_rfl, 1, ⟨hnl, gN (by unfold needR; rw [d1', hc]; rfl)⟩, mu1 hnl, St.le.of ⟨by kernel_rfl, rfl, by kernel_rfl, rfl, by kernel_rfl, rfl, by kernel_rfl, rfl, by kernel_rfl, rfl, Eq.trans (by kernel_rfl) en, rfl, trivial⟩ ⟨by kernel_rfl, (by decide : (0 : Nat) < 1), rfl, trivial⟩⟩
                                  | succ j =>
                                    refine Exists.elim (getE (show j < w.length by omega)) fun v' hv' => ?_
                                    have ej : IntKind.i64.wrap (((j + 1 : Nat) : Int) - 1) = (j : Int) := pred64 (by omega)
                                    have dg : decide (((j + 1 : Nat) : Int) > 0) = true := decide_eq_true (by omega)
                                    have eI := incI_at (x := v) hv'
                                    cases d3 : decide (v ≤ v')
                                    · rw [d3] at eI
                                      exact ACode.vc (.br 87 true <| .draw 29 <| .cells (encI v) <| .br 97 false <| .cells (encI v) <| .call (.int .i64 (fndV (isId v) r)) <| .br 106 false <| .br 109 true <| .cells (encI v) <| .cells (encI v') <| .br 121 false .nil) hn hl3 (.round .cl) ⟨ltLen hnl, by kernel_rfl, mixed, by kernel_rfl, idx hv, d1, idx hv, sAt, d2, dg, idx hv, idxW ej hv', by kernel_rfl, d3, j + 2, ⟨hnl, gN (by unfold needR; rw [d1', hc, eI]; rfl)⟩, mu1 hnl, St.le.of ⟨by kernel_rfl, rfl, by kernel_rfl, rfl, by kernel_rfl, rfl, by kernel_rfl, rfl, by kernel_rfl, rfl, Eq.trans (by kernel_rfl) en, rfl, trivial⟩ ⟨by kernel_rfl, (by decide : (0 : Nat) < 1), rfl, trivial⟩⟩
                                    · rw [d3] at eI
                                      exact ACode.vc (.br 87 true <| .draw 29 <| .cells (encI v) <| .br 97 false <| .cells (encI v) <| .call (.int .i64 (fndV (isId v) r)) <| .br 106 false <| .br 109 true <| .cells (encI v) <| .cells (encI v') <| .br 121 true .nil) hn hl3 (.round .cl) ⟨ltLen hnl, by kernel_rfl, mixed, by kernel_rfl, idx hv, d1, idx hv, sAt, d2, dg, idx hv, idxW ej hv', by kernel_rfl, d3, _, .refl _, .nil, _, .refl _, .nil, _, .refl _, .nil, trivial, bN (by unfold needR; rw [eI, Bool.not_true, Bool.and_false, Bool.and_false])⟩
                                · rw [d2] at fN
                                  have hc : (idsR r).contains v = false := by cases hq : (idsR r).contains v; rfl; (rw [hq] at fN; cases fN)
                                  exact ACode.vc (.br 87 true <| .draw 29 <| .cells (encI v) <| .br 97 false <| .cells (encI v) <| .call (.int .i64 (fndV (isId v) r)) <| .br 106 true .nil) hn hl3 (.round .cl) ⟨ltLen hnl, by kernel_rfl, mixed, by kernel_rfl, idx hv, d1, idx hv, sAt, d2, by kernel_rfl, _, .refl _, .nil, _, .refl _, .nil, _, .refl _, .nil, trivial, bN (by unfold needR; rw [hc, Bool.false_and, Bool.and_false])⟩
                              · have d1' : decide (v < x.id) = false := decide_eq_false (by have := of_decide_eq_true d1; omega)
                                exact ACode.vc (.br 87 true <| .draw 29 <| .cells (encI v) <| .br 97 true .nil) hn hl3 (.round .cl) ⟨ltLen hnl, by kernel_rfl, mixed, by kernel_rfl, idx hv, d1, by kernel_rfl, _, .refl _, .nil, _, .refl _, .nil, _, .refl _, .nil, trivial, bN (by unfold needR; rw [d1']; rfl)⟩
                            · have hn' : n = w.length := by omega
                              have hg : (x.ways.take (i + 1)).all (wayR (idsR r) x.id) = true := by rw [take_all hw, hi2]; unfold wayR; rw [h4']; rw [hn', List.take_length] at hn2; exact hn2
                              exact ACode.vc (.br 87 false .nil) hn hl3 (.round .cl) ⟨geLen hnl, _, .refl _, .nil, i + 1, ⟨hil, hg⟩, mu1 hil, St.le.of ⟨by kernel_rfl, rfl, by kernel_rfl, rfl, by kernel_rfl, rfl, Eq.trans (by kernel_rfl) ei, rfl, trivial⟩ ⟨by kernel_rfl, (by decide : (0 : Nat) < 1), rfl, trivial⟩⟩
                      · have hi' : i = x.ways.length := by omega
                        have hg : allI (recI (idsR r)) (r.take (j + 1 + 1)) = true := by rw [allI_take hx, hk2, hpre true (by rw [hi', List.take_length] at hi2; exact hi2)]; rfl
                        exact ACode.vc (.br 72 false .nil) hn hl2 (.round .cl) ⟨geLen hil, _, .refl _, .nil, j + 2, ⟨hlt, hg⟩, mu1 hlt, St.le.of ⟨by kernel_rfl, rfl, Eq.trans (by kernel_rfl) ek, rfl, trivial⟩ trivial⟩
            · rw [d40] at eI
              exact ACode.vc (.br 14 true <| .cells (cRc x) <| .draw 16 <| .call (.bool true) <| .br 28 true <| .cells (cRc x') <| .br 40 true .nil) hn hl (.round .cl) ⟨ltLen hlt, idx hx, by kernel_rfl, mixed, by kernel_rfl, wI, dg, idxW ej hx', by kernel_rfl, d40, _, .refl _, .nil, trivial, bad (by unfold recI; rw [eI]; simp)⟩
      · have hk' : k = r.length := by omega
        exact ACode.vc (.br 14 false .nil) hn hl (.round .cl) ⟨geLen hlt, _, .refl _, .nil, rB (by rw [hk', List.take_length] at hk2; exact hk2.symm)⟩
  · have d10 : decide (((r.map cRc).length : Int) > 12) = true := decide_eq_true (by omega)
    exact APure.vc Try.func51 rfl (.br 10 true .nil) rfl rfl ⟨d10, rB (by unfold recsR; rw [decide_eq_false h12]; rfl)⟩
end Go.Proofs.Ytmdhgkfjlphliaa
/-
  WHAT IS VALID, AND WHAT IS GREAT: the reference's Check and Great.
-/
namespace Go.Proofs.Ytmdhgkfjlphliaa
open Go Go.Am
set_option maxRecDepth 100000
set_option maxHeartbeats 4000000
theorem rCheck_spec (r : List Rcd) (l : List Ltr) : APure Try.prog 15 [encRs r, encLs l] (.int .i64 (checkV r l)) := by
  have s1 := rRecords_spec r
  rw [recsR_eq] at s1
  cases h0 : recsB r
  · rw [h0] at s1
    exact APure.vc Try.func15 rfl (.call (.bool false) .nil) rfl rfl ⟨s1, rI (by simp [checkV, h0])⟩
  rw [h0] at s1
  have hr12 := (recs_nodup h0).2.2
  have hlen : ((l.map cLt).length : Int) = l.length := by rw [List.length_map]
  have ec : checkV r l = if letsR r l = false then 81 else 0 := by unfold checkV; rw [if_neg (by rw [h0]; decide), letsR_eq]
  rw [ec]
  by_cases h20 : l.length ≤ 20
  · have d12 : decide (((l.map cLt).length : Int) > 20) = false := decide_eq_false (by omega)
    have er : letsR r l = allI (letJ r (idsL l)) l := by unfold letsR; rw [decide_eq_true h20]; rfl
    rw [er]
    refine APure.vc Try.func15 rfl (.call (.bool true) <| .br 12 false .loop) rfl rfl ⟨s1, d12, ?_⟩
    intro g hn hl
    replace hn : g.n = 62 := hn
    replace hl : g.low 0 := hl
    refine acode_while (fun k : Nat => ⟨[(0, encRs r), (1, encLs l), (5, .int .i64 k)], [], 0⟩) (fun k => k ≤ l.length ∧ allI (letJ r (idsL l)) (l.take k) = true) (fun k => l.length - k) 0 ⟨Nat.zero_le _, rfl⟩ ?_ (fun _ _ => hl) ?_
    · exact St.le.of ⟨by kernel_rfl, rfl, by kernel_rfl, rfl, by kernel_rfl, rfl, trivial⟩ trivial
    · rintro k ⟨hk1, hk2⟩
      by_cases hlt : k < l.length
      · refine Exists.elim (getE hlt) fun x hx => ?_
        have ek := congrArg (AV.int .i64) (succ64 (k := k) (by omega))
        have hk9 := x.kd.isLt
        have eK : IntKind.i64.wrap (x.kd.val : Int) = (x.kd.val : Int) := wrap64 (by omega) (by omega)
        have wI := rwithin_spec x.id 0 9999
        have wD := rwithin_spec x.day 0 100000
        have wK := rwithin_spec (IntKind.i64.wrap (x.kd.val : Int)) 1 2
        have sA := At_spec r x.about (by omega)
        have bad : letJ r (idsL l) k x = false → some (AV.int .i64 81) = some (AV.int .i64 (if allI (letJ r (idsL l)) l = false then 81 else 0)) := fun h => by rw [if_pos (allI_bad hx h)]
        have good : letJ r (idsL l) k x = true → allI (letJ r (idsL l)) (l.take (k + 1)) = true := fun h => by rw [allI_take hx, hk2, h]; rfl
        cases h1 : inB 0 9999 x.id
        · rw [h1] at wI
          exact ACode.vc (.br 16 true <| .cells (cLt x) <| .draw 29 <| .call (.bool false) .nil) hn hl (.round .cl) ⟨ltLen hlt, idx hx, by kernel_rfl, mixed, by kernel_rfl, wI, by kernel_rfl, _, .refl _, .nil, trivial, bad (by unfold letJ; rw [h1]; rfl)⟩
        · rw [h1] at wI
          cases k with
          | zero =>
            cases c3 : inB 0 100000 x.day
            · rw [c3] at wD
              exact ACode.vc (.br 16 true <| .cells (cLt x) <| .draw 29 <| .call (.bool true) <| .br 30 false <| .call (.bool false) .nil) hn hl (.round .cl) ⟨ltLen hlt, idx hx, by kernel_rfl, mixed, by kernel_rfl, wI, rfl, wD, by kernel_rfl, _, .refl _, .nil, trivial, bad (by unfold letJ letB; rw [c3, Bool.false_and, Bool.false_and, Bool.and_false])⟩
            · rw [c3] at wD
              cases c4 : decide (fndV (isId x.about) r < 0)
              · have hc : (idsR r).contains x.about = true := by have fN := fndV_neg x.about r; rw [c4] at fN; cases hq : (idsR r).contains x.about; (rw [hq] at fN; cases fN); rfl
                cases c5 : inB 1 2 (IntKind.i64.wrap (x.kd.val : Int))
                · rw [c5] at wK
                  rw [eK] at c5
                  exact ACode.vc (.br 16 true <| .cells (cLt x) <| .draw 29 <| .call (.bool true) <| .br 30 false <| .call (.bool true) <| .call (.int .i64 (fndV (isId x.about) r)) <| .br 55 false <| .call (.bool false) .nil) hn hl (.round .cl) ⟨ltLen hlt, idx hx, by kernel_rfl, mixed, by kernel_rfl, wI, rfl, wD, by kernel_rfl, sA, c4, wK, _, .refl _, .nil, trivial, bad (by unfold letJ letB; rw [c5, Bool.and_false, Bool.false_and, Bool.and_false])⟩
                · rw [c5] at wK
                  rw [eK] at c5
                  exact ACode.vc (.br 16 true <| .cells (cLt x) <| .draw 29 <| .call (.bool true) <| .br 30 false <| .call (.bool true) <| .call (.int .i64 (fndV (isId x.about) r)) <| .br 55 false <| .call (.bool true) .nil) hn hl (.round .cl) ⟨ltLen hlt, idx hx, by kernel_rfl, mixed, by kernel_rfl, wI, rfl, wD, by kernel_rfl, sA, c4, wK, 1, ⟨hlt, good (by unfold letJ letB; rw [h1, incI_zero, c3, c5, hc]; rfl)⟩, mu1 hlt, St.le.of ⟨by kernel_rfl, rfl, by kernel_rfl, rfl, Eq.trans (by kernel_rfl) ek, rfl, trivial⟩ trivial⟩
              · have hc : (idsR r).contains x.about = false := by have fN := fndV_neg x.about r; rw [c4] at fN; cases hq : (idsR r).contains x.about; rfl; (rw [hq] at fN; cases fN)
                exact ACode.vc (.br 16 true <| .cells (cLt x) <| .draw 29 <| .call (.bool true) <| .br 30 false <| .call (.bool true) <| .call (.int .i64 (fndV (isId x.about) r)) <| .br 55 true .nil) hn hl (.round .cl) ⟨ltLen hlt, idx hx, by kernel_rfl, mixed, by kernel_rfl, wI, rfl, wD, by kernel_rfl, sA, c4, _, .refl _, .nil, trivial, bad (by unfold letJ letB; rw [hc, Bool.and_false, Bool.and_false])⟩
          | succ j =>
            refine Exists.elim (getE (show j < l.length by omega)) fun x' hx' => ?_
            have ej : IntKind.i64.wrap (((j + 1 : Nat) : Int) - 1) = (j : Int) := pred64 (by omega)
            have dg : decide (((j + 1 : Nat) : Int) > 0) = true := decide_eq_true (by omega)
            have eI := incI_at (x := x.id) (show (idsL l)[j]? = some x'.id by unfold idsL; rw [List.getElem?_map, hx']; rfl)
            cases d42 : decide (x.id ≤ x'.id)
            · rw [d42] at eI
              cases c3 : inB 0 100000 x.day
              · rw [c3] at wD
                exact ACode.vc (.br 16 true <| .cells (cLt x) <| .draw 29 <| .call (.bool true) <| .br 30 true <| .cells (cLt x') <| .br 42 false <| .call (.bool false) .nil) hn hl (.round .cl) ⟨ltLen hlt, idx hx, by kernel_rfl, mixed, by kernel_rfl, wI, dg, idxW ej hx', d42, wD, by kernel_rfl, _, .refl _, .nil, trivial, bad (by unfold letJ letB; rw [c3, Bool.false_and, Bool.false_and, Bool.and_false])⟩
              · rw [c3] at wD
                cases c4 : decide (fndV (isId x.about) r < 0)
                · have hc : (idsR r).contains x.about = true := by have fN := fndV_neg x.about r; rw [c4] at fN; cases hq : (idsR r).contains x.about; (rw [hq] at fN; cases fN); rfl
                  cases c5 : inB 1 2 (IntKind.i64.wrap (x.kd.val : Int))
                  · rw [c5] at wK
                    rw [eK] at c5
                    exact ACode.vc (.br 16 true <| .cells (cLt x) <| .draw 29 <| .call (.bool true) <| .br 30 true <| .cells (cLt x') <| .br 42 false <| .call (.bool true) <| .call (.int .i64 (fndV (isId x.about) r)) <| .br 55 false <| .call (.bool false) .nil) hn hl (.round .cl) ⟨ltLen hlt, idx hx, by kernel_rfl, mixed, by kernel_rfl, wI, dg, idxW ej hx', d42, wD, by kernel_rfl, sA, c4, wK, _, .refl _, .nil, trivial, bad (by unfold letJ letB; rw [c5, Bool.and_false, Bool.false_and, Bool.and_false])⟩
                  · rw [c5] at wK
                    rw [eK] at c5
                    exact ACode.vc (.br 16 true <| .cells (cLt x) <| .draw 29 <| .call (.bool true) <| .br 30 true <| .cells (cLt x') <| .br 42 false <| .call (.bool true) <| .call (.int .i64 (fndV (isId x.about) r)) <| .br 55 false <| .call (.bool true) .nil) hn hl (.round .cl) ⟨ltLen hlt, idx hx, by kernel_rfl, mixed, by kernel_rfl, wI, dg, idxW ej hx', d42, wD, by kernel_rfl, sA, c4, wK, j + 2, ⟨hlt, good (by unfold letJ letB; rw [h1, eI, c3, c5, hc]; rfl)⟩, mu1 hlt, St.le.of ⟨by kernel_rfl, rfl, by kernel_rfl, rfl, Eq.trans (by kernel_rfl) ek, rfl, trivial⟩ trivial⟩
                · have hc : (idsR r).contains x.about = false := by have fN := fndV_neg x.about r; rw [c4] at fN; cases hq : (idsR r).contains x.about; rfl; (rw [hq] at fN; cases fN)
                  exact ACode.vc (.br 16 true <| .cells (cLt x) <| .draw 29 <| .call (.bool true) <| .br 30 true <| .cells (cLt x') <| .br 42 false <| .call (.bool true) <| .call (.int .i64 (fndV (isId x.about) r)) <| .br 55 true .nil) hn hl (.round .cl) ⟨ltLen hlt, idx hx, by kernel_rfl, mixed, by kernel_rfl, wI, dg, idxW ej hx', d42, wD, by kernel_rfl, sA, c4, _, .refl _, .nil, trivial, bad (by unfold letJ letB; rw [hc, Bool.and_false, Bool.and_false])⟩
            · rw [d42] at eI
              exact ACode.vc (.br 16 true <| .cells (cLt x) <| .draw 29 <| .call (.bool true) <| .br 30 true <| .cells (cLt x') <| .br 42 true .nil) hn hl (.round .cl) ⟨ltLen hlt, idx hx, by kernel_rfl, mixed, by kernel_rfl, wI, dg, idxW ej hx', d42, by kernel_rfl, _, .refl _, .nil, trivial, bad (by unfold letJ; rw [eI, Bool.not_true, Bool.and_false, Bool.false_and])⟩
      · have hk' : k = l.length := by omega
        exact ACode.vc (.br 16 false .nil) hn hl (.round .cl) ⟨geLen hlt, _, .refl _, .nil, rI (by rw [hk', List.take_length] at hk2; rw [if_neg (by rw [hk2]; decide)])⟩
  · have d12 : decide (((l.map cLt).length : Int) > 20) = true := decide_eq_true (by omega)
    exact APure.vc Try.func15 rfl (.call (.bool true) <| .br 12 true .nil) rfl rfl ⟨s1, d12, rI (by unfold letsR; rw [decide_eq_false h20]; rfl)⟩
/-! ### what is great -/
def grW (w : List Int) : Bool := decide (w.length > 8)
def grR (x : Rcd) : Bool := decide (x.ways.length > 6) || x.ways.any grW
def greatB (r : List Rcd) (n : Nat) : Bool := decide (r.length > 13) || (decide (n > 30) || r.any grR)
theorem any_hit {α : Type} {p : α → Bool} {l : List α} {k : Nat} {x : α} (hx : l[k]? = some x) (h : p x = true) : l.any p = true := List.any_eq_true.2 ⟨x, List.mem_of_getElem? hx, h⟩
theorem any_take {α : Type} {p : α → Bool} {l : List α} {k : Nat} {x : α} (hx : l[k]? = some x) : (l.take (k + 1)).any p = ((l.take k).any p || p x) := by rw [List.take_add_one, hx]; simp
theorem Great_spec (r : List Rcd) (l : List Ltr) : APure Try.prog 8 [encRs r, encLs l, .nil] (.bool (greatB r l.length)) := by
  have hlen : ((r.map cRc).length : Int) = r.length := by rw [List.length_map]
  have llen : ((l.map cLt).length : Int) = l.length := by rw [List.length_map]
  by_cases h13 : r.length > 13
  · have d : decide (((r.map cRc).length : Int) > 13) = true := decide_eq_true (by omega)
    exact APure.vc Try.func8 rfl (.br 12 true .nil) rfl rfl ⟨d, rB (by unfold greatB; rw [decide_eq_true h13]; rfl)⟩
  have d1 : decide (((r.map cRc).length : Int) > 13) = false := decide_eq_false (by omega)
  by_cases h30 : l.length > 30
  · have d : decide (((l.map cLt).length : Int) > 30) = true := decide_eq_true (by omega)
    exact APure.vc Try.func8 rfl (.br 12 false <| .br 17 true .nil) rfl rfl ⟨d1, d, rB (by unfold greatB; rw [decide_eq_true h30, Bool.true_or, Bool.or_true])⟩
  have d2 : decide (((l.map cLt).length : Int) > 30) = false := decide_eq_false (by omega)
  have eg : greatB r l.length = r.any grR := by unfold greatB; rw [decide_eq_false h13, decide_eq_false h30]; rfl
  rw [eg]
  refine APure.vc Try.func8 rfl (.br 12 false <| .br 17 false .loop) rfl rfl ⟨d1, d2, ?_⟩
  intro g hn hl
  replace hn : g.n = 55 := hn
  replace hl : g.low 0 := hl
  refine acode_while (fun k : Nat => ⟨[(0, encRs r), (7, .int .i64 k)], [], 0⟩) (fun k => k ≤ r.length ∧ (r.take k).any grR = false) (fun k => r.length - k) 0 ⟨Nat.zero_le _, rfl⟩ ?_ (fun _ _ => hl) ?_
  · exact St.le.of ⟨by kernel_rfl, rfl, by kernel_rfl, rfl, trivial⟩ trivial
  · rintro k ⟨hk1, hk2⟩
    by_cases hlt : k < r.length
    · refine Exists.elim (getE hlt) fun x hx => ?_
      have ek := congrArg (AV.int .i64) (succ64 (k := k) (by omega))
      have wlen : ((x.ways.map cW).length : Int) = x.ways.length := by rw [List.length_map]
      have bad : grR x = true → some (AV.bool true) = some (AV.bool (r.any grR)) := fun h => by rw [any_hit hx h]
      by_cases h6 : x.ways.length > 6
      · have d34 : decide (((x.ways.map cW).length : Int) > 6) = true := decide_eq_true (by omega)
        exact ACode.vc (.br 25 true <| .cells (cRc x) <| .br 34 true .nil) hn hl (.round .cl) ⟨ltLen hlt, idx hx, d34, _, .refl _, .nil, trivial, bad (by unfold grR; rw [decide_eq_true h6]; rfl)⟩
      · have d34 : decide (((x.ways.map cW).length : Int) > 6) = false := decide_eq_false (by omega)
        have eR : grR x = x.ways.any grW := by unfold grR; rw [decide_eq_false h6]; rfl
        refine ACode.vc (.br 25 true <| .cells (cRc x) <| .br 34 false .loop) hn hl (.round .cl) ⟨ltLen hlt, idx hx, d34, ?_⟩
        intro g hn hl2
        replace hn : g.n = 55 := hn
        replace hl2 : g.low 0 := hl2
        refine acode_while (fun i : Nat => ⟨[(0, encRs r), (7, .int .i64 k), (8, .int .i64 i)], [], 0⟩) (fun i => i ≤ x.ways.length ∧ (x.ways.take i).any grW = false) (fun i => x.ways.length - i) 0 ⟨Nat.zero_le _, rfl⟩ ?_ (fun _ _ => hl2) ?_
        · exact St.le.of ⟨by kernel_rfl, rfl, by kernel_rfl, rfl, by kernel_rfl, rfl, trivial⟩ trivial
        · rintro i ⟨hi1, hi2⟩
          by_cases hil : i < x.ways.length
          · refine Exists.elim (getE hil) fun w hw => ?_
            have ei := congrArg (AV.int .i64) (succ64 (k := i) (by omega))
            have vlen : ((w.map encI).length : Int) = w.length := by rw [List.length_map]
            by_cases h8 : w.length > 8
            · have d54 : decide (((w.map encI).length : Int) > 8) = true := decide_eq_true (by omega)
              exact ACode.vc (.cells (cRc x) <| .br 42 true <| .cells (cRc x) <| .cells (cW w) <| .br 54 true .nil) hn hl2 (.round .cl) ⟨idx hx, ltLen hil, idx hx, idx hw, d54, _, .refl _, .nil, _, .refl _, .nil, trivial, bad (by rw [eR, any_hit hw (decide_eq_true h8)])⟩
            · have d54 : decide (((w.map encI).length : Int) > 8) = false := decide_eq_false (by omega)
              exact ACode.vc (.cells (cRc x) <| .br 42 true <| .cells (cRc x) <| .cells (cW w) <| .br 54 false .nil) hn hl2 (.round .cl) ⟨idx hx, ltLen hil, idx hx, idx hw, d54, i + 1, ⟨hil, by rw [any_take hw, hi2]; exact decide_eq_false h8⟩, mu1 hil, St.le.of ⟨by kernel_rfl, rfl, by kernel_rfl, rfl, Eq.trans (by kernel_rfl) ei, rfl, trivial⟩ trivial⟩
          · have hi' : i = x.ways.length := by omega
            exact ACode.vc (.cells (cRc x) <| .br 42 false .nil) hn hl2 (.round .cl) ⟨idx hx, geLen hil, _, .refl _, .nil, k + 1, ⟨hlt, by rw [any_take hx, hk2, eR]; rw [hi', List.take_length] at hi2; exact hi2⟩, mu1 hlt, St.le.of ⟨by kernel_rfl, rfl, Eq.trans (by kernel_rfl) ek, rfl, trivial⟩ trivial⟩
    · have hk' : k = r.length := by omega
      exact ACode.vc (.br 25 false .nil) hn hl (.round .cl) ⟨geLen hlt, _, .refl _, .nil, rB (by rw [hk', List.take_length] at hk2; exact hk2.symm)⟩
def readyB (r : List Rcd) (l : List Ltr) : Bool := !greatB r l.length && decide (checkV r l = 0)
theorem ready_spec (r : List Rcd) (l : List Ltr) : APure Try.prog 37 [encRs r, encLs l] (.bool (readyB r l)) := by
  have s1 := Great_spec r l
  have s2 := rCheck_spec r l
  cases h : greatB r l.length
  · rw [h] at s1
    exact APure.vc Try.func37 rfl (.call (.bool false) <| .call (.int .i64 (checkV r l)) .nil) rfl rfl ⟨s1, s2, rB (by unfold readyB; rw [h]; rfl)⟩
  · rw [h] at s1
    exact APure.vc Try.func37 rfl (.call (.bool true) .nil) rfl rfl ⟨s1, rB (by unfold readyB; rw [h]; rfl)⟩
end Go.Proofs.Ytmdhgkfjlphliaa
