/-
  WHAT IS VALID, AND WHAT IS GREAT: the reference's Check and Great.
-/
import Derived.Test.YtepbiedolkghhaaGreatG1
namespace Go.Proofs.YtepbiedolkghhaaGreat
open Go Go.Am
set_option maxRecDepth 100000
set_option maxHeartbeats 4000000
theorem rCheck_spec (r : List Rcd) (l : List Ltr) : APure Tryz.prog 33 [encRs r, encLs l] (.int .i64 (checkV r l)) := by
  have s1 := rRecords_spec r
  rw [recsR_eq] at s1
  cases h0 : recsB r
  · rw [h0] at s1
    exact APure.vc Tryz.func33 rfl (.call (.bool false) .nil) rfl rfl ⟨s1, rI (by simp [checkV, h0])⟩
  rw [h0] at s1
  have hr12 := (recs_nodup h0).2.2
  have hlen : ((l.map cLt).length : Int) = l.length := by rw [List.length_map]
  have ec : checkV r l = if letsR r l = false then 81 else 0 := by unfold checkV; rw [if_neg (by rw [h0]; decide), letsR_eq]
  rw [ec]
  by_cases h20 : l.length ≤ 20
  · have d12 : decide (((l.map cLt).length : Int) > 20) = false := decide_eq_false (by omega)
    have er : letsR r l = allI (letJ r (idsL l)) l := by unfold letsR; rw [decide_eq_true h20]; rfl
    rw [er]
    refine APure.vc Tryz.func33 rfl (.call (.bool true) <| .br 12 false .loop) rfl rfl ⟨s1, d12, ?_⟩
    intro g hn hl
    replace hn : g.n = 62 := hn
    replace hl : g.low 0 := hl
    refine acode_while (fun k : Nat => ⟨[(0, encRs r), (1, encLs l), (5, .int .i64 k)], [], 0⟩) (fun k => k ≤ l.length ∧ allI (letJ r (idsL l)) (l.take k) = true) (fun k => l.length - k) 0 ⟨Nat.zero_le _, rfl⟩ ?_ (fun _ _ => hl) ?_
    · exact St.le.of ⟨by kernel_rfl, rfl, by kernel_rfl, rfl, by kernel_rfl, rfl, trivial⟩ trivial
    · rintro k ⟨hk1, hk2⟩
      by_cases hlt : k < l.length
      · refine Exists.elim (getE hlt) fun x hx => ?_
        have ek := congrArg (AV.int .i64) (succ64 (k := k) (by omega))
        have hk9 := x.kd.isLt
        have eK : IntKind.i64.wrap (x.kd.val : Int) = (x.kd.val : Int) := wrap64 (by omega) (by omega)
        have wI := rwithin_spec x.id 0 9999
        have wD := rwithin_spec x.day 0 100000
        have wK := rwithin_spec (IntKind.i64.wrap (x.kd.val : Int)) 1 2
        have sA := At_spec r x.about (by omega)
        have bad : letJ r (idsL l) k x = false → some (AV.int .i64 81) = some (AV.int .i64 (if allI (letJ r (idsL l)) l = false then 81 else 0)) := fun h => by rw [if_pos (allI_bad hx h)]
        have good : letJ r (idsL l) k x = true → allI (letJ r (idsL l)) (l.take (k + 1)) = true := fun h => by rw [allI_take hx, hk2, h]; rfl
        cases h1 : inB 0 9999 x.id
        · rw [h1] at wI
          exact ACode.vc (.br 16 true <| .cells (cLt x) <| .draw 29 <| .call (.bool false) .nil) hn hl (.round .cl) ⟨ltLen hlt, idx hx, by kernel_rfl, mixed, by kernel_rfl, wI, by kernel_rfl, _, .refl _, .nil, trivial, bad (by unfold letJ; rw [h1]; rfl)⟩
        · rw [h1] at wI
          cases k with
          | zero =>
            cases c3 : inB 0 100000 x.day
            · rw [c3] at wD
              exact ACode.vc (.br 16 true <| .cells (cLt x) <| .draw 29 <| .call (.bool true) <| .br 30 false <| .call (.bool false) .nil) hn hl (.round .cl) ⟨ltLen hlt, idx hx, by kernel_rfl, mixed, by kernel_rfl, wI, rfl, wD, by kernel_rfl, _, .refl _, .nil, trivial, bad (by unfold letJ letB; rw [c3, Bool.false_and, Bool.false_and, Bool.and_false])⟩
            · rw [c3] at wD
              cases c4 : decide (fndV (isId x.about) r < 0)
              · have hc : (idsR r).contains x.about = true := by have fN := fndV_neg x.about r; rw [c4] at fN; cases hq : (idsR r).contains x.about; (rw [hq] at fN; cases fN); rfl
                cases c5 : inB 1 2 (IntKind.i64.wrap (x.kd.val : Int))
                · rw [c5] at wK
                  rw [eK] at c5
                  exact ACode.vc (.br 16 true <| .cells (cLt x) <| .draw 29 <| .call (.bool true) <| .br 30 false <| .call (.bool true) <| .call (.int .i64 (fndV (isId x.about) r)) <| .br 55 false <| .call (.bool false) .nil) hn hl (.round .cl) ⟨ltLen hlt, idx hx, by kernel_rfl, mixed, by kernel_rfl, wI, rfl, wD, by kernel_rfl, sA, c4, wK, _, .refl _, .nil, trivial, bad (by unfold letJ letB; rw [c5, Bool.and_false, Bool.false_and, Bool.and_false])⟩
                · rw [c5] at wK
                  rw [eK] at c5
                  exact ACode.vc (.br 16 true <| .cells (cLt x) <| .draw 29 <| .call (.bool true) <| .br 30 false <| .call (.bool true) <| .call (.int .i64 (fndV (isId x.about) r)) <| .br 55 false <| .call (.bool true) .nil) hn hl (.round .cl) ⟨ltLen hlt, idx hx, by kernel_rfl, mixed, by kernel_rfl, wI, rfl, wD, by kernel_rfl, sA, c4, wK, 1, ⟨hlt, good (by unfold letJ letB; rw [h1, incI_zero, c3, c5, hc]; rfl)⟩, mu1 hlt, St.le.of ⟨by kernel_rfl, rfl, by kernel_rfl, rfl, Eq.trans (by kernel_rfl) ek, rfl, trivial⟩ trivial⟩
              · have hc : (idsR r).contains x.about = false := by have fN := fndV_neg x.about r; rw [c4] at fN; cases hq : (idsR r).contains x.about; rfl; (rw [hq] at fN; cases fN)
                exact ACode.vc (.br 16 true <| .cells (cLt x) <| .draw 29 <| .call (.bool true) <| .br 30 false <| .call (.bool true) <| .call (.int .i64 (fndV (isId x.about) r)) <| .br 55 true .nil) hn hl (.round .cl) ⟨ltLen hlt, idx hx, by kernel_rfl, mixed, by kernel_rfl, wI, rfl, wD, by kernel_rfl, sA, c4, _, .refl _, .nil, trivial, bad (by unfold letJ letB; rw [hc, Bool.and_false, Bool.and_false])⟩
          | succ j =>
            refine Exists.elim (getE (show j < l.length by omega)) fun x' hx' => ?_
            have ej : IntKind.i64.wrap (((j + 1 : Nat) : Int) - 1) = (j : Int) := pred64 (by omega)
            have dg : decide (((j + 1 : Nat) : Int) > 0) = true := decide_eq_true (by omega)
            have eI := incI_at (x := x.id) (show (idsL l)[j]? = some x'.id by unfold idsL; rw [List.getElem?_map, hx']; rfl)
            cases d42 : decide (x.id ≤ x'.id)
            · rw [d42] at eI
              cases c3 : inB 0 100000 x.day
              · rw [c3] at wD
                exact ACode.vc (.br 16 true <| .cells (cLt x) <| .draw 29 <| .call (.bool true) <| .br 30 true <| .cells (cLt x') <| .br 42 false <| .call (.bool false) .nil) hn hl (.round .cl) ⟨ltLen hlt, idx hx, by kernel_rfl, mixed, by kernel_rfl, wI, dg, idxW ej hx', d42, wD, by kernel_rfl, _, .refl _, .nil, trivial, bad (by unfold letJ letB; rw [c3, Bool.false_and, Bool.false_and, Bool.and_false])⟩
              · rw [c3] at wD
                cases c4 : decide (fndV (isId x.about) r < 0)
                · have hc : (idsR r).contains x.about = true := by have fN := fndV_neg x.about r; rw [c4] at fN; cases hq : (idsR r).contains x.about; (rw [hq] at fN; cases fN); rfl
                  cases c5 : inB 1 2 (IntKind.i64.wrap (x.kd.val : Int))
                  · rw [c5] at wK
                    rw [eK] at c5
                    exact ACode.vc (.br 16 true <| .cells (cLt x) <| .draw 29 <| .call (.bool true) <| .br 30 true <| .cells (cLt x') <| .br 42 false <| .call (.bool true) <| .call (.int .i64 (fndV (isId x.about) r)) <| .br 55 false <| .call (.bool false) .nil) hn hl (.round .cl) ⟨ltLen hlt, idx hx, by kernel_rfl, mixed, by kernel_rfl, wI, dg, idxW ej hx', d42, wD, by kernel_rfl, sA, c4, wK, _, .refl _, .nil, trivial, bad (by unfold letJ letB; rw [c5, Bool.and_false, Bool.false_and, Bool.and_false])⟩
                  · rw [c5] at wK
                    rw [eK] at c5
                    exact ACode.vc (.br 16 true <| .cells (cLt x) <| .draw 29 <| .call (.bool true) <| .br 30 true <| .cells (cLt x') <| .br 42 false <| .call (.bool true) <| .call (.int .i64 (fndV (isId x.about) r)) <| .br 55 false <| .call (.bool true) .nil) hn hl (.round .cl) ⟨ltLen hlt, idx hx, by kernel_rfl, mixed, by kernel_rfl, wI, dg, idxW ej hx', d42, wD, by kernel_rfl, sA, c4, wK, j + 2, ⟨hlt, good (by unfold letJ letB; rw [h1, eI, c3, c5, hc]; rfl)⟩, mu1 hlt, St.le.of ⟨by kernel_rfl, rfl, by kernel_rfl, rfl, Eq.trans (by kernel_rfl) ek, rfl, trivial⟩ trivial⟩
                · have hc : (idsR r).contains x.about = false := by have fN := fndV_neg x.about r; rw [c4] at fN; cases hq : (idsR r).contains x.about; rfl; (rw [hq] at fN; cases fN)
                  exact ACode.vc (.br 16 true <| .cells (cLt x) <| .draw 29 <| .call (.bool true) <| .br 30 true <| .cells (cLt x') <| .br 42 false <| .call (.bool true) <| .call (.int .i64 (fndV (isId x.about) r)) <| .br 55 true .nil) hn hl (.round .cl) ⟨ltLen hlt, idx hx, by kernel_rfl, mixed, by kernel_rfl, wI, dg, idxW ej hx', d42, wD, by kernel_rfl, sA, c4, _, .refl _, .nil, trivial, bad (by unfold letJ letB; rw [hc, Bool.and_false, Bool.and_false])⟩
            · rw [d42] at eI
              exact ACode.vc (.br 16 true <| .cells (cLt x) <| .draw 29 <| .call (.bool true) <| .br 30 true <| .cells (cLt x') <| .br 42 true .nil) hn hl (.round .cl) ⟨ltLen hlt, idx hx, by kernel_rfl, mixed, by kernel_rfl, wI, dg, idxW ej hx', d42, by kernel_rfl, _, .refl _, .nil, trivial, bad (by unfold letJ; rw [eI, Bool.not_true, Bool.and_false, Bool.false_and])⟩
      · have hk' : k = l.length := by omega
        exact ACode.vc (.br 16 false .nil) hn hl (.round .cl) ⟨geLen hlt, _, .refl _, .nil, rI (by rw [hk', List.take_length] at hk2; rw [if_neg (by rw [hk2]; decide)])⟩
  · have d12 : decide (((l.map cLt).length : Int) > 20) = true := decide_eq_true (by omega)
    exact APure.vc Tryz.func33 rfl (.call (.bool true) <| .br 12 true .nil) rfl rfl ⟨s1, d12, rI (by unfold letsR; rw [decide_eq_false h20]; rfl)⟩
/-! ### what is great -/
def grW (w : List Int) : Bool := decide (w.length > 8)
def grR (x : Rcd) : Bool := decide (x.ways.length > 6) || x.ways.any grW
def greatB (r : List Rcd) (n : Nat) : Bool := decide (r.length > 13) || (decide (n > 30) || r.any grR)
theorem any_hit {α : Type} {p : α → Bool} {l : List α} {k : Nat} {x : α} (hx : l[k]? = some x) (h : p x = true) : l.any p = true := List.any_eq_true.2 ⟨x, List.mem_of_getElem? hx, h⟩
theorem any_take {α : Type} {p : α → Bool} {l : List α} {k : Nat} {x : α} (hx : l[k]? = some x) : (l.take (k + 1)).any p = ((l.take k).any p || p x) := by rw [List.take_add_one, hx]; simp
theorem Great_spec (r : List Rcd) (l : List Ltr) : APure Tryz.prog 32 [encRs r, encLs l, .nil] (.bool (greatB r l.length)) := by
  have hlen : ((r.map cRc).length : Int) = r.length := by rw [List.length_map]
  have llen : ((l.map cLt).length : Int) = l.length := by rw [List.length_map]
  by_cases h13 : r.length > 13
  · have d : decide (((r.map cRc).length : Int) > 13) = true := decide_eq_true (by omega)
    exact APure.vc Tryz.func32 rfl (.br 12 true .nil) rfl rfl ⟨d, rB (by unfold greatB; rw [decide_eq_true h13]; rfl)⟩
  have d1 : decide (((r.map cRc).length : Int) > 13) = false := decide_eq_false (by omega)
  by_cases h30 : l.length > 30
  · have d : decide (((l.map cLt).length : Int) > 30) = true := decide_eq_true (by omega)
    exact APure.vc Tryz.func32 rfl (.br 12 false <| .br 17 true .nil) rfl rfl ⟨d1, d, rB (by unfold greatB; rw [decide_eq_true h30, Bool.true_or, Bool.or_true])⟩
  have d2 : decide (((l.map cLt).length : Int) > 30) = false := decide_eq_false (by omega)
  have eg : greatB r l.length = r.any grR := by unfold greatB; rw [decide_eq_false h13, decide_eq_false h30]; rfl
  rw [eg]
  refine APure.vc Tryz.func32 rfl (.br 12 false <| .br 17 false .loop) rfl rfl ⟨d1, d2, ?_⟩
  intro g hn hl
  replace hn : g.n = 55 := hn
  replace hl : g.low 0 := hl
  refine acode_while (fun k : Nat => ⟨[(0, encRs r), (7, .int .i64 k)], [], 0⟩) (fun k => k ≤ r.length ∧ (r.take k).any grR = false) (fun k => r.length - k) 0 ⟨Nat.zero_le _, rfl⟩ ?_ (fun _ _ => hl) ?_
  · exact St.le.of ⟨by kernel_rfl, rfl, by kernel_rfl, rfl, trivial⟩ trivial
  · rintro k ⟨hk1, hk2⟩
    by_cases hlt : k < r.length
    · refine Exists.elim (getE hlt) fun x hx => ?_
      have ek := congrArg (AV.int .i64) (succ64 (k := k) (by omega))
      have wlen : ((x.ways.map cW).length : Int) = x.ways.length := by rw [List.length_map]
      have bad : grR x = true → some (AV.bool true) = some (AV.bool (r.any grR)) := fun h => by rw [any_hit hx h]
      by_cases h6 : x.ways.length > 6
      · have d34 : decide (((x.ways.map cW).length : Int) > 6) = true := decide_eq_true (by omega)
        exact ACode.vc (.br 25 true <| .cells (cRc x) <| .br 34 true .nil) hn hl (.round .cl) ⟨ltLen hlt, idx hx, d34, _, .refl _, .nil, trivial, bad (by unfold grR; rw [decide_eq_true h6]; rfl)⟩
      · have d34 : decide (((x.ways.map cW).length : Int) > 6) = false := decide_eq_false (by omega)
        have eR : grR x = x.ways.any grW := by unfold grR; rw [decide_eq_false h6]; rfl
        refine ACode.vc (.br 25 true <| .cells (cRc x) <| .br 34 false .loop) hn hl (.round .cl) ⟨ltLen hlt, idx hx, d34, ?_⟩
        intro g hn hl2
        replace hn : g.n = 55 := hn
        replace hl2 : g.low 0 := hl2
        refine acode_while (fun i : Nat => ⟨[(0, encRs r), (7, .int .i64 k), (8, .int .i64 i)], [], 0⟩) (fun i => i ≤ x.ways.length ∧ (x.ways.take i).any grW = false) (fun i => x.ways.length - i) 0 ⟨Nat.zero_le _, rfl⟩ ?_ (fun _ _ => hl2) ?_
        · exact St.le.of ⟨by kernel_rfl, rfl, by kernel_rfl, rfl, by kernel_rfl, rfl, trivial⟩ trivial
        · rintro i ⟨hi1, hi2⟩
          by_cases hil : i < x.ways.length
          · refine Exists.elim (getE hil) fun w hw => ?_
            have ei := congrArg (AV.int .i64) (succ64 (k := i) (by omega))
            have vlen : ((w.map encI).length : Int) = w.length := by rw [List.length_map]
            by_cases h8 : w.length > 8
            · have d54 : decide (((w.map encI).length : Int) > 8) = true := decide_eq_true (by omega)
              exact ACode.vc (.cells (cRc x) <| .br 42 true <| .cells (cRc x) <| .cells (cW w) <| .br 54 true .nil) hn hl2 (.round .cl) ⟨idx hx, ltLen hil, idx hx, idx hw, d54, _, .refl _, .nil, _, .refl _, .nil, trivial, bad (by rw [eR, any_hit hw (decide_eq_true h8)])⟩
            · have d54 : decide (((w.map encI).length : Int) > 8) = false := decide_eq_false (by omega)
              exact ACode.vc (.cells (cRc x) <| .br 42 true <| .cells (cRc x) <| .cells (cW w) <| .br 54 false .nil) hn hl2 (.round .cl) ⟨idx hx, ltLen hil, idx hx, idx hw, d54, i + 1, ⟨hil, by rw [any_take hw, hi2]; exact decide_eq_false h8⟩, mu1 hil, St.le.of ⟨by kernel_rfl, rfl, by kernel_rfl, rfl, Eq.trans (by kernel_rfl) ei, rfl, trivial⟩ trivial⟩
          · have hi' : i = x.ways.length := by omega
            exact ACode.vc (.cells (cRc x) <| .br 42 false .nil) hn hl2 (.round .cl) ⟨idx hx, geLen hil, _, .refl _, .nil, k + 1, ⟨hlt, by rw [any_take hx, hk2, eR]; rw [hi', List.take_length] at hi2; exact hi2⟩, mu1 hlt, St.le.of ⟨by kernel_rfl, rfl, Eq.trans (by kernel_rfl) ek, rfl, trivial⟩ trivial⟩
    · have hk' : k = r.length := by omega
      exact ACode.vc (.br 25 false .nil) hn hl (.round .cl) ⟨geLen hlt, _, .refl _, .nil, rB (by rw [hk', List.take_length] at hk2; exact hk2.symm)⟩
def readyB (r : List Rcd) (l : List Ltr) : Bool := !greatB r l.length && decide (checkV r l = 0)
theorem ready_spec (r : List Rcd) (l : List Ltr) : APure Tryz.prog 10 [encRs r, encLs l] (.bool (readyB r l)) := by
  have s1 := Great_spec r l
  have s2 := rCheck_spec r l
  cases h : greatB r l.length
  · rw [h] at s1
    exact APure.vc Tryz.func10 rfl (.call (.bool false) <| .call (.int .i64 (checkV r l)) .nil) rfl rfl ⟨s1, s2, rB (by unfold readyB; rw [h]; rfl)⟩
  · rw [h] at s1
    exact APure.vc Tryz.func10 rfl (.call (.bool true) .nil) rfl rfl ⟨s1, rB (by unfold readyB; rw [h]; rfl)⟩
end Go.Proofs.YtepbiedolkghhaaGreat
