/-
  WHAT IS VALID OF NETS.
-/
import Derived.Test.YtcbdggmojnnbdaaDoorY1
namespace Go.Proofs.YtcbdggmojnnbdaaDoor
open Go Go.Am
set_option maxRecDepth 100000
set_option maxHeartbeats 4000000
theorem arePipes_spec (l : List Pp) : APure Tryd.prog 77 [encP l] (.bool (pipesB l)) := by
  have s0 := oneTo_spec 12
  have sw := within1_spec ((l.map cP).length : Int) 1 12
  cases hb : inB 1 12 ((l.map cP).length : Int)
  · rw [hb] at sw
    rw [List.length_map] at hb
    exact APure.vc Tryd.func77 rfl (.call (.agg [.int .i64 1, .int .i64 12]) <| .lent (.bool false) [0] .nil) rfl rfl ⟨s0, ⟨_, by kernel_rfl, .inl ⟨sw, .inr rfl⟩⟩, rB (by simp [pipesB, hb])⟩
  · rw [hb] at sw
    rw [List.length_map] at hb
    have hl12 : l.length ≤ 12 := by simp [inB] at hb; omega
    refine APure.vc Tryd.func77 rfl (.call (.agg [.int .i64 1, .int .i64 12]) <| .lent (.bool true) [0] .loop) rfl rfl ⟨s0, ⟨_, by kernel_rfl, .inl ⟨sw, .inr rfl⟩⟩, ?_⟩
    intro g hn hl
    replace hn : g.n = 39 := hn
    replace hl : g.low 0 := hl
    refine acode_while (fun k : Nat => ⟨[(11, encP l), (12, .int .i64 (l.map cP).length), (13, .int .i64 k)], [], 0⟩) (fun k => k ≤ l.length ∧ allI pipeB (l.take k) = true) (fun k => l.length - k) 0 ⟨Nat.zero_le _, rfl⟩ ?_ (fun _ _ => hl) ?_
    · exact St.le.of ⟨by kernel_rfl, rfl, by kernel_rfl, rfl, by kernel_rfl, rfl, trivial⟩ trivial
    · rintro k ⟨hk1, hk2⟩
      by_cases hlt : k < l.length
      · refine Exists.elim (getE hlt) fun p hp => ?_
        have ek := congrArg (AV.int .i64) (succ64 (k := k) (by omega))
        have e22 : (p.to != IntKind.i64.wrap ((k : Int) + 1)) = !decide (p.to = (k : Int) + 1) := by
          rw [wrap64 (by omega) (by omega)]; rfl
        have sU := upTo_spec (k : Int)
        have sW := within1_spec p.fr 0 k
        have sS := isSpan_spec p.lo p.hi 1000
        have bad : pipeB k p = false → False = pipesB l ∨ (true = true) ∧ some (AV.bool false) = some (AV.bool (pipesB l)) := fun h => .inr ⟨rfl, by simp [pipesB, allI_bad hp h]⟩
        have bad' : pipeB k p = false → some (AV.bool false) = some (AV.bool (pipesB l)) := fun h => by simp [pipesB, allI_bad hp h]
        cases c1 : decide (p.to = (k : Int) + 1)
        · rw [c1] at e22
          exact ACode.vc (.br 14 true <| .cells (cP p) <| .draw 11 <| .br 23 true .nil) hn hl (.round .cl) ⟨ltLen hlt, idx hp, by kernel_rfl, mixed, by kernel_rfl, e22, by kernel_rfl, _, .refl _, .nil, trivial, bad' (by simp [pipeB, c1])⟩
        · rw [c1] at e22
          cases c2 : inB 0 k p.fr
          · rw [c2] at sW
            exact ACode.vc (.br 14 true <| .cells (cP p) <| .draw 11 <| .br 23 false <| .call (.agg [.int .i64 0, .int .i64 k]) <| .lent (.bool false) [12] .nil) hn hl (.round .cl)
              ⟨ltLen hlt, idx hp, by kernel_rfl, mixed, by kernel_rfl, e22, sU, by kernel_rfl, ⟨_, by kernel_rfl, .inl ⟨sW, .inr rfl⟩⟩, _, .refl _, .nil, trivial, bad' (by simp [pipeB, c2])⟩
          · rw [c2] at sW
            cases c3 : spB p.lo p.hi 1000
            · rw [c3] at sS
              exact ACode.vc (.br 14 true <| .cells (cP p) <| .draw 11 <| .br 23 false <| .call (.agg [.int .i64 0, .int .i64 k]) <| .lent (.bool true) [12] <| .call (.bool false) .nil) hn hl (.round .cl)
                ⟨ltLen hlt, idx hp, by kernel_rfl, mixed, by kernel_rfl, e22, sU, by kernel_rfl, ⟨_, by kernel_rfl, .inl ⟨sW, .inr rfl⟩⟩, sS, _, .refl _, .nil, trivial, bad' (by simp [pipeB, c3])⟩
            · rw [c3] at sS
              have good : allI pipeB (l.take (k + 1)) = true := by rw [allI_take hp, hk2]; simp [pipeB, c1, c2, c3]
              exact ACode.vc (.br 14 true <| .cells (cP p) <| .draw 11 <| .br 23 false <| .call (.agg [.int .i64 0, .int .i64 k]) <| .lent (.bool true) [12] <| .call (.bool true) .nil) hn hl (.round .cl)
                ⟨ltLen hlt, idx hp, by kernel_rfl, mixed, by kernel_rfl, e22, sU, by kernel_rfl, ⟨_, by kernel_rfl, .inl ⟨sW, .inr rfl⟩⟩, sS, k + 1, ⟨hlt, good⟩, mu1 hlt,
                  St.le.of ⟨by kernel_rfl, rfl, by kernel_rfl, rfl, Eq.trans (by kernel_rfl) ek, rfl, trivial⟩ trivial⟩
      · have hk' : k = l.length := by omega
        have e : true = pipesB l := by rw [hk', List.take_length] at hk2; simp [pipesB, hb, hk2]
        exact ACode.vc (.br 14 false .nil) hn hl (.round .cl) ⟨geLen hlt, _, .refl _, .nil, rB e⟩
theorem areHeads_spec (l : List Hh) (n : Int) : APure Tryd.prog 78 [encH l, .int .i64 n] (.bool (headsB l n)) := by
  have s0 := oneTo_spec 8
  have sw := within1_spec ((l.map cH).length : Int) 1 8
  cases hb : inB 1 8 ((l.map cH).length : Int)
  · rw [hb] at sw
    rw [List.length_map] at hb
    exact APure.vc Tryd.func78 rfl (.call (.agg [.int .i64 1, .int .i64 8]) <| .lent (.bool false) [0] .nil) rfl rfl ⟨s0, ⟨_, by kernel_rfl, .inl ⟨sw, .inr rfl⟩⟩, rB (by simp [headsB, hb])⟩
  · rw [hb] at sw
    rw [List.length_map] at hb
    have hl8 : l.length ≤ 8 := by simp [inB] at hb; omega
    refine APure.vc Tryd.func78 rfl (.call (.agg [.int .i64 1, .int .i64 8]) <| .lent (.bool true) [0] .loop) rfl rfl ⟨s0, ⟨_, by kernel_rfl, .inl ⟨sw, .inr rfl⟩⟩, ?_⟩
    intro g hn hl
    replace hn : g.n = 40 := hn
    replace hl : g.low 0 := hl
    refine acode_while (fun k : Nat => ⟨[(0, encH l), (1, .int .i64 n), (13, encH l), (14, .int .i64 (l.map cH).length), (15, .int .i64 k)], [], 0⟩) (fun k => k ≤ l.length ∧ allI (headI l n) (l.take k) = true) (fun k => l.length - k) 0 ⟨Nat.zero_le _, rfl⟩ ?_ (fun _ _ => hl) ?_
    · exact St.le.of ⟨by kernel_rfl, rfl, by kernel_rfl, rfl, by kernel_rfl, rfl, by kernel_rfl, rfl, by kernel_rfl, rfl, trivial⟩ trivial
    · rintro k ⟨hk1, hk2⟩
      by_cases hlt : k < l.length
      · refine Exists.elim (getE hlt) fun h hh => ?_
        have ek := congrArg (AV.int .i64) (succ64 (k := k) (by omega))
        have sH := isHead_spec h n
        have bad' : headI l n k h = false → some (AV.bool false) = some (AV.bool (headsB l n)) := fun h => by simp [headsB, allI_bad hh h]
        have good' : headI l n k h = true → allI (headI l n) (l.take (k + 1)) = true := fun h => by rw [allI_take hh, hk2, h]; rfl
        cases c1 : headB n h
        · rw [c1] at sH
          exact ACode.vc (.br 16 true <| .cells (cH h) <| .draw 16 <| .call (.bool false) .nil) hn hl (.round .cl) ⟨ltLen hlt, idx hh, by kernel_rfl, mixed, by kernel_rfl, sH, by kernel_rfl, _, .refl _, .nil, trivial, bad' (by simp [headI, c1])⟩
        · rw [c1] at sH
          cases k with
          | zero =>
            exact ACode.vc (.br 16 true <| .cells (cH h) <| .draw 16 <| .call (.bool true) <| .br 27 false .nil) hn hl (.round .cl) ⟨ltLen hlt, idx hh, by kernel_rfl, mixed, by kernel_rfl, sH, rfl, by kernel_rfl, 1, ⟨hlt, good' (by simp [headI, c1])⟩, mu1 hlt,
              St.le.of ⟨by kernel_rfl, rfl, by kernel_rfl, rfl, by kernel_rfl, rfl, by kernel_rfl, rfl, Eq.trans (by kernel_rfl) ek, rfl, trivial⟩ trivial⟩
          | succ j =>
            refine Exists.elim (getE (show j < l.length by omega)) fun h' hh' => ?_
            have ej : IntKind.i64.wrap (((j + 1 : Nat) : Int) - 1) = (j : Int) := pred64 (by omega)
            have d26 : decide (((j + 1 : Nat) : Int) > 0) = true := decide_eq_true (by omega)
            have eid : idAt l j = h'.id := by simp only [idAt, List.getD_eq_getElem?_getD, hh', Option.getD_some]
            cases c2 : decide (h.id ≤ h'.id)
            · exact ACode.vc (.br 16 true <| .cells (cH h) <| .draw 16 <| .call (.bool true) <| .br 27 true <| .cells (cH h') <| .br 38 false .nil) hn hl (.round .cl) ⟨ltLen hlt, idx hh, by kernel_rfl, mixed, by kernel_rfl, sH, d26, idxW ej hh', by kernel_rfl, c2, j + 2, ⟨hlt, good' (by simp [headI, c1, eid]; simpa using c2)⟩, mu1 hlt,
                St.le.of ⟨by kernel_rfl, rfl, by kernel_rfl, rfl, by kernel_rfl, rfl, by kernel_rfl, rfl, Eq.trans (by kernel_rfl) ek, rfl, trivial⟩ trivial⟩
            · exact ACode.vc (.br 16 true <| .cells (cH h) <| .draw 16 <| .call (.bool true) <| .br 27 true <| .cells (cH h') <| .br 38 true .nil) hn hl (.round .cl) ⟨ltLen hlt, idx hh, by kernel_rfl, mixed, by kernel_rfl, sH, d26, idxW ej hh', by kernel_rfl, c2, _, .refl _, .nil, trivial, bad' (by simp [headI, eid]; intro _; simpa using c2)⟩
      · have hk' : k = l.length := by omega
        have e : true = headsB l n := by rw [hk', List.take_length] at hk2; simp [headsB, hb, hk2]
        exact ACode.vc (.br 16 false .nil) hn hl (.round .cl) ⟨geLen hlt, _, .refl _, .nil, rB e⟩
theorem arePumps_spec (l : List Pm) : APure Tryd.prog 79 [encM l] (.bool (pumpsB l)) := by
  have s0 := oneTo_spec 4
  have sw := within1_spec ((l.map cM).length : Int) 1 4
  cases hb : inB 1 4 ((l.map cM).length : Int)
  · rw [hb] at sw
    rw [List.length_map] at hb
    exact APure.vc Tryd.func79 rfl (.call (.agg [.int .i64 1, .int .i64 4]) <| .lent (.bool false) [0] .nil) rfl rfl ⟨s0, ⟨_, by kernel_rfl, .inl ⟨sw, .inr rfl⟩⟩, rB (by simp [pumpsB, hb])⟩
  · rw [hb] at sw
    rw [List.length_map] at hb
    have hl4 : l.length ≤ 4 := by simp [inB] at hb; omega
    refine APure.vc Tryd.func79 rfl (.call (.agg [.int .i64 1, .int .i64 4]) <| .lent (.bool true) [0] .loop) rfl rfl ⟨s0, ⟨_, by kernel_rfl, .inl ⟨sw, .inr rfl⟩⟩, ?_⟩
    intro g hn hl
    replace hn : g.n = 30 := hn
    replace hl : g.low 0 := hl
    refine acode_while (fun k : Nat => ⟨[(11, encM l), (12, .int .i64 (l.map cM).length), (13, .int .i64 k)], [], 0⟩) (fun k => k ≤ l.length ∧ (l.take k).all pumpB = true) (fun k => l.length - k) 0 ⟨Nat.zero_le _, rfl⟩ ?_ (fun _ _ => hl) ?_
    · exact St.le.of ⟨by kernel_rfl, rfl, by kernel_rfl, rfl, by kernel_rfl, rfl, trivial⟩ trivial
    · rintro k ⟨hk1, hk2⟩
      by_cases hlt : k < l.length
      · refine Exists.elim (getE hlt) fun p hp => ?_
        have ek := congrArg (AV.int .i64) (succ64 (k := k) (by omega))
        have sU := upTo_spec 100
        have sW := within1_spec p.sl 0 100
        have sS := isSpan_spec p.lo p.hi 100000
        have bad' : pumpB p = false → some (AV.bool false) = some (AV.bool (pumpsB l)) := fun h => by simp [pumpsB, all_bad hp h]
        cases c1 : spB p.lo p.hi 100000
        · rw [c1] at sS
          exact ACode.vc (.br 14 true <| .cells (cM p) <| .draw 9 <| .call (.bool false) .nil) hn hl (.round .cl) ⟨ltLen hlt, idx hp, by kernel_rfl, mixed, by kernel_rfl, sS, by kernel_rfl, _, .refl _, .nil, trivial, bad' (by simp [pumpB, c1])⟩
        · rw [c1] at sS
          cases c2 : inB 0 100 p.sl
          · rw [c2] at sW
            exact ACode.vc (.br 14 true <| .cells (cM p) <| .draw 9 <| .call (.bool true) <| .call (.agg [.int .i64 0, .int .i64 100]) <| .lent (.bool false) [10] .nil) hn hl (.round .cl)
              ⟨ltLen hlt, idx hp, by kernel_rfl, mixed, by kernel_rfl, sS, sU, by kernel_rfl, ⟨_, by kernel_rfl, .inl ⟨sW, .inr rfl⟩⟩, _, .refl _, .nil, trivial, bad' (by simp [pumpB, c2])⟩
          · rw [c2] at sW
            have good : (l.take (k + 1)).all pumpB = true := by rw [take_all hp, hk2]; simp [pumpB, c1, c2]
            exact ACode.vc (.br 14 true <| .cells (cM p) <| .draw 9 <| .call (.bool true) <| .call (.agg [.int .i64 0, .int .i64 100]) <| .lent (.bool true) [10] .nil) hn hl (.round .cl)
              ⟨ltLen hlt, idx hp, by kernel_rfl, mixed, by kernel_rfl, sS, sU, by kernel_rfl, ⟨_, by kernel_rfl, .inl ⟨sW, .inr rfl⟩⟩, k + 1, ⟨hlt, good⟩, mu1 hlt,
                St.le.of ⟨by kernel_rfl, rfl, by kernel_rfl, rfl, Eq.trans (by kernel_rfl) ek, rfl, trivial⟩ trivial⟩
      · have hk' : k = l.length := by omega
        have e : true = pumpsB l := by rw [hk', List.take_length] at hk2; simp [pumpsB, hb, hk2]
        exact ACode.vc (.br 14 false .nil) hn hl (.round .cl) ⟨geLen hlt, _, .refl _, .nil, rB e⟩
theorem isNet_spec (n : Nt) (hbig : n.pm.length ≤ 1000000) : APure Tryd.prog 53 [encN n] (.bool (netB n)) := by
  have s1 := arePipes_spec n.ps
  have s2 := areHeads_spec n.hs ((n.ps.map cP).length : Int)
  have s3 := arePumps_spec n.pm
  have s4 := within1_spec n.out 0 (IntKind.i64.wrap (((n.pm.map cM).length : Int) - 1))
  rw [wrap64 (by rw [List.length_map]; omega) (by rw [List.length_map]; omega)] at s4
  simp only [List.length_map] at s2 s4
  have w4 : IntKind.i64.wrap (((n.pm.map cM).length : Int) - 1) = (n.pm.length : Int) - 1 := by rw [List.length_map, wrap64 (by omega) (by omega)]
  have e2 : ((n.ps.map cP).length : Int) = n.ps.length := by rw [List.length_map]
  rw [← e2] at s2
  rw [← w4] at s4
  have eN : netB n = (pipesB n.ps && (headsB n.hs ((n.ps.map cP).length : Int) && (pumpsB n.pm && (inB 0 (IntKind.i64.wrap (((n.pm.map cM).length : Int) - 1)) n.out && (spB n.tLo n.tHi 1000000 && inB 0 600 n.mins))))) := by unfold netB; rw [e2, w4]
  rw [eN]
  have s5 := isSpan_spec n.tLo n.tHi 1000000
  have s6 := within1_spec n.mins 0 600
  cases h1 : pipesB n.ps
  · rw [h1] at s1
    exact APure.vc Tryd.func53 rfl (.draw 37 <| .call (.bool false) <| .nil) rfl rfl
      ⟨by kernel_rfl, mixed, by kernel_rfl, s1, by kernel_rfl, rB (by simp)⟩
  · rw [h1] at s1
    cases h2 : headsB n.hs ((n.ps.map cP).length : Int)
    · rw [h2] at s2
      exact APure.vc Tryd.func53 rfl (.draw 37 <| .call (.bool true) <| .call (.bool false) <| .nil) rfl rfl
        ⟨by kernel_rfl, mixed, by kernel_rfl, s1, s2, by kernel_rfl, rB (by simp)⟩
    · rw [h2] at s2
      cases h3 : pumpsB n.pm
      · rw [h3] at s3
        exact APure.vc Tryd.func53 rfl (.draw 37 <| .call (.bool true) <| .call (.bool true) <| .call (.bool false) <| .nil) rfl rfl
          ⟨by kernel_rfl, mixed, by kernel_rfl, s1, s2, s3, by kernel_rfl, rB (by simp)⟩
      · rw [h3] at s3
        cases h4 : inB 0 (IntKind.i64.wrap (((n.pm.map cM).length : Int) - 1)) n.out
        · rw [h4] at s4
          exact APure.vc Tryd.func53 rfl (.draw 37 <| .call (.bool true) <| .call (.bool true) <| .call (.bool true) <| .call (.agg [.int .i64 0, .int .i64 (IntKind.i64.wrap (((n.pm.map cM).length : Int) - 1))]) <| .lent (.bool false) [25] <| .nil) rfl rfl
            ⟨by kernel_rfl, mixed, by kernel_rfl, s1, s2, s3, upTo_spec _, ⟨_, by kernel_rfl, .inl ⟨s4, .inr rfl⟩⟩, by kernel_rfl, rB (by simp)⟩
        · rw [h4] at s4
          cases h5 : spB n.tLo n.tHi 1000000
          · rw [h5] at s5
            exact APure.vc Tryd.func53 rfl (.draw 37 <| .call (.bool true) <| .call (.bool true) <| .call (.bool true) <| .call (.agg [.int .i64 0, .int .i64 (IntKind.i64.wrap (((n.pm.map cM).length : Int) - 1))]) <| .lent (.bool true) [25] <| .call (.bool false) <| .nil) rfl rfl
              ⟨by kernel_rfl, mixed, by kernel_rfl, s1, s2, s3, upTo_spec _, ⟨_, by kernel_rfl, .inl ⟨s4, .inr rfl⟩⟩, s5, by kernel_rfl, rB (by simp)⟩
          · rw [h5] at s5
            cases h6 : inB 0 600 n.mins
            · rw [h6] at s6
              exact APure.vc Tryd.func53 rfl (.draw 37 <| .call (.bool true) <| .call (.bool true) <| .call (.bool true) <| .call (.agg [.int .i64 0, .int .i64 (IntKind.i64.wrap (((n.pm.map cM).length : Int) - 1))]) <| .lent (.bool true) [25] <| .call (.bool true) <| .call (.agg [.int .i64 0, .int .i64 600]) <| .lent (.bool false) [37] <| .nil) rfl rfl
                ⟨by kernel_rfl, mixed, by kernel_rfl, s1, s2, s3, upTo_spec _, ⟨_, by kernel_rfl, .inl ⟨s4, .inr rfl⟩⟩, s5, upTo_spec _, by kernel_rfl, ⟨_, by kernel_rfl, .inl ⟨s6, .inr rfl⟩⟩, rB (by simp)⟩
            · rw [h6] at s6
              exact APure.vc Tryd.func53 rfl (.draw 37 <| .call (.bool true) <| .call (.bool true) <| .call (.bool true) <| .call (.agg [.int .i64 0, .int .i64 (IntKind.i64.wrap (((n.pm.map cM).length : Int) - 1))]) <| .lent (.bool true) [25] <| .call (.bool true) <| .call (.agg [.int .i64 0, .int .i64 600]) <| .lent (.bool true) [37] <| .nil) rfl rfl
                ⟨by kernel_rfl, mixed, by kernel_rfl, s1, s2, s3, upTo_spec _, ⟨_, by kernel_rfl, .inl ⟨s4, .inr rfl⟩⟩, s5, upTo_spec _, by kernel_rfl, ⟨_, by kernel_rfl, .inl ⟨s6, .inr rfl⟩⟩, rB (by simp)⟩
theorem Check_spec (n : Nt) (hbig : n.pm.length ≤ 1000000) : APure Tryd.prog 22 [encN n] (.int .i64 (checkI n)) := by
  have s1 := isNet_spec n hbig
  cases h1 : netB n
  · rw [h1] at s1
    exact APure.vc Tryd.func22 rfl (.call (.bool false) .nil) rfl rfl ⟨s1, rI (by simp [checkI, h1])⟩
  · rw [h1] at s1
    exact APure.vc Tryd.func22 rfl (.call (.bool true) .nil) rfl rfl ⟨s1, rI (by simp [checkI, h1])⟩
end Go.Proofs.YtcbdggmojnnbdaaDoor
