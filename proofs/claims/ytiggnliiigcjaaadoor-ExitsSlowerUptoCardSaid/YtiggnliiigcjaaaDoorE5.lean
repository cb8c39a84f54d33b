import Derived.Test.YtiggnliiigcjaaaDoorS0
/-
  WHAT IS VALID OF BUILDINGS AND PEOPLE.
-/
namespace Go.Proofs.YtiggnliiigcjaaaDoor
open Go Go.Am
set_option maxRecDepth 100000
set_option maxHeartbeats 4000000
theorem within_spec (L : List Int) (lo hi : Int) (hL : L.length ≤ 1000000) : APure Tryd.prog 57 [.agg [.int .i64 lo, .int .i64 hi], .lst 1 (L.map encI)] (.bool (L.all (inB lo hi))) := by
  refine APure.vc Tryd.func57 rfl .loop rfl rfl ?_
  intro g hn hl
  replace hn : g.n = 24 := hn
  replace hl : g.low 0 := hl
  refine acode_while (fun k : Nat => ⟨[(2, .vptr 0 0), (7, .lst 1 (L.map encI)), (8, .int .i64 (L.map encI).length), (9, .int .i64 k)], [(0, .cells [.int .i64 lo, .int .i64 hi])], 1⟩) (fun k => k ≤ L.length ∧ (L.take k).all (inB lo hi) = true) (fun k => L.length - k) 0 ⟨Nat.zero_le _, rfl⟩ ?_ (fun _ _ => hl.mono (Nat.zero_le _)) ?_
  · exact St.le.of ⟨rfl, rfl, rfl, rfl, rfl, rfl, rfl, rfl, trivial⟩ ⟨rfl, (by decide : (0 : Nat) < 1), rfl, trivial⟩
  · rintro k ⟨hk1, hk2⟩
    by_cases hlt : k < L.length
    · refine Exists.elim (getE hlt) fun x hx => ?_
      have ek := congrArg (AV.int .i64) (succ64 (k := k) (by omega))
      have b1 : decide (x < lo) = true → L.all (inB lo hi) = false := fun h => all_bad hx (by simp at h; simp [inB]; omega)
      have b2 : decide (x > hi) = true → L.all (inB lo hi) = false := fun h => all_bad hx (by simp at h; simp [inB]; omega)
      have b3 : decide (x < lo) = false → decide (x > hi) = false → (L.take (k + 1)).all (inB lo hi) = true := fun h h' => by
        rw [take_all hx, hk2]; simp at h h'; simp [inB]; omega
      exact ACode.vc (.br 10 true <| .cells (encI x) <| .both 17 .nil (.both 22 .nil .nil)) hn hl (.round .cl)
        ⟨ltLen hlt, idx hx, fun h => ⟨_, .refl _, .nil, rB (b1 h).symm⟩, fun h => ⟨fun h' => ⟨_, .refl _, .nil, rB (b2 h').symm⟩, fun h' => ⟨k + 1, ⟨hlt, b3 h h'⟩, mu1 hlt,
          St.le.of ⟨rfl, rfl, rfl, rfl, rfl, rfl, ek, rfl, trivial⟩ ⟨rfl, (by decide : (0 : Nat) < 1), rfl, trivial⟩⟩⟩⟩
    · have hk' : k = L.length := by omega
      have e : true = L.all (inB lo hi) := by rw [hk', List.take_length] at hk2; exact hk2.symm
      exact ACode.vc (.br 10 false .nil) hn hl (.round .cl) ⟨geLen hlt, _, .refl _, .nil, rB e⟩
theorem within1_spec (x lo hi : Int) : APure Tryd.prog 57 [.agg [.int .i64 lo, .int .i64 hi], .lst 1 [encI x]] (.bool (inB lo hi x)) := by
  have := within_spec [x] lo hi (by simp); simpa using this
theorem upTo_spec (n : Int) : APure Tryd.prog 58 [.int .i64 n] (.agg [.int .i64 0, .int .i64 n]) := APure.vc Tryd.func58 rfl .nil rfl rfl ⟨trivial, rfl⟩
theorem oneTo_spec (n : Int) : APure Tryd.prog 108 [.int .i64 n] (.agg [.int .i64 1, .int .i64 n]) := APure.vc Tryd.func108 rfl .nil rfl rfl ⟨trivial, rfl⟩
theorem isSpan_spec (lo hi a b : Int) : APure Tryd.prog 78 [.agg [.int .i64 lo, .int .i64 hi], .agg [.int .i64 a, .int .i64 b]] (.bool (spB a b lo hi)) := by
  have w : APure Tryd.prog 57 [.agg [.int .i64 a, .int .i64 b], .lst 1 [encI lo, encI hi]] (.bool (inB a b lo && inB a b hi)) := by
    have := within_spec [lo, hi] a b (by simp); simpa using this
  unfold spB
  cases h : (inB a b lo && inB a b hi)
  · rw [h] at w
    exact APure.vc Tryd.func78 rfl (.lent (.bool false) [2] .nil) rfl rfl ⟨⟨_, by kernel_rfl, .inl ⟨w, .inr rfl⟩⟩, rB rfl⟩
  · rw [h] at w
    exact APure.vc Tryd.func78 rfl (.lent (.bool true) [2] .nil) rfl rfl ⟨⟨_, by kernel_rfl, .inl ⟨w, .inr rfl⟩⟩, rB rfl⟩
end Go.Proofs.YtiggnliiigcjaaaDoor
/-
  WHAT IS VALID OF BUILDINGS AND PEOPLE: stairs, chambers, walkers.
-/
namespace Go.Proofs.YtiggnliiigcjaaaDoor
open Go Go.Am
set_option maxRecDepth 100000
set_option maxHeartbeats 4000000
theorem wneg {b : Bool} (h : b = true) : (!b) = false := by rw [h]; rfl
theorem areStairs_spec (l : List Sta) : APure Tryd.prog 85 [.lst 6 (l.map cSt)] (.bool (stasB l)) := by
  have s0 := oneTo_spec 6
  have sw := within1_spec ((l.map cSt).length : Int) 1 6
  cases hb : inB 1 6 ((l.map cSt).length : Int)
  · rw [hb] at sw
    rw [List.length_map] at hb
    exact APure.vc Tryd.func85 rfl (.call (.agg [.int .i64 1, .int .i64 6]) <| .lent (.bool false) [0] .nil) rfl rfl ⟨s0, ⟨_, by kernel_rfl, .inl ⟨sw, .inr rfl⟩⟩, rB (by simp [stasB, hb])⟩
  · rw [hb] at sw
    rw [List.length_map] at hb
    have hl6 : l.length ≤ 6 := by simp [inB] at hb; omega
    refine APure.vc Tryd.func85 rfl (.call (.agg [.int .i64 1, .int .i64 6]) <| .lent (.bool true) [0] .loop) rfl rfl ⟨s0, ⟨_, by kernel_rfl, .inl ⟨sw, .inr rfl⟩⟩, ?_⟩
    intro g hn hl
    replace hn : g.n = 57 := hn
    replace hl : g.low 0 := hl
    refine acode_while (fun k : Nat => ⟨[(0, .lst 6 (l.map cSt)), (12, .lst 6 (l.map cSt)), (13, .int .i64 (l.map cSt).length), (14, .int .i64 k)], [], 0⟩) (fun k => k ≤ l.length ∧ allI (staB l.length) (l.take k) = true) (fun k => l.length - k) 0 ⟨Nat.zero_le _, rfl⟩ ?_ (fun _ _ => hl) ?_
    · exact St.le.of ⟨by kernel_rfl, rfl, by kernel_rfl, rfl, by kernel_rfl, rfl, by kernel_rfl, rfl, trivial⟩ trivial
    · rintro k ⟨hk1, hk2⟩
      by_cases hlt : k < l.length
      · refine Exists.elim (getE hlt) fun s hs => ?_
        have ek := congrArg (AV.int .i64) (succ64 (k := k) (by omega))
        have sN := within1_spec s.nx (IntKind.i64.wrap ((k : Int) + 1)) (IntKind.i64.wrap (((l.map cSt).length : Int) - 1))
        have eN : inB (IntKind.i64.wrap ((k : Int) + 1)) (IntKind.i64.wrap (((l.map cSt).length : Int) - 1)) s.nx = inB ((k : Int) + 1) ((l.length : Int) - 1) s.nx := by
          rw [wrap64 (by omega) (by omega), wrap64 (by rw [List.length_map]; omega) (by rw [List.length_map]; omega), List.length_map]
        rw [eN] at sN
        have sG := within1_spec s.gap 0 60
        have sW := isSpan_spec s.wLo s.wHi 0 600
        have sS := isSpan_spec s.sLo s.sHi 0 36000
        have bad : staB l.length k s = false → some (AV.bool false) = some (AV.bool (stasB l)) := fun h => by simp [stasB, allI_bad hs h]
        have good : staB l.length k s = true → allI (staB l.length) (l.take (k + 1)) = true := fun h => by rw [allI_take hs, hk2, h]; rfl
        cases c0 : (s.nx != -1)
        · skip
          cases c2 : inB 0 60 s.gap
          · rw [c2] at sG
            exact ACode.vc (.br 15 true <| .cells (cSt s) <| .br 28 false <| .draw 17 <| .call (.agg [.int .i64 0, .int .i64 60]) <| .lent (.bool false) [7] <| .nil) hn hl (.round .cl) ⟨ltLen hlt, idx hs, c0, by kernel_rfl, mixed, by kernel_rfl, upTo_spec _, ⟨_, by kernel_rfl, .inl ⟨sG, .inr rfl⟩⟩, by kernel_rfl, _, .refl _, .nil, trivial, bad (by simp [staB, nextB, c0, c2])⟩
          · rw [c2] at sG
            cases c3 : spB 0 600 s.wLo s.wHi
            · rw [c3] at sW
              exact ACode.vc (.br 15 true <| .cells (cSt s) <| .br 28 false <| .draw 17 <| .call (.agg [.int .i64 0, .int .i64 60]) <| .lent (.bool true) [7] <| .call (.agg [.int .i64 0, .int .i64 600]) <| .call (.bool false) <| .nil) hn hl (.round .cl) ⟨ltLen hlt, idx hs, c0, by kernel_rfl, mixed, by kernel_rfl, upTo_spec _, ⟨_, by kernel_rfl, .inl ⟨sG, .inr rfl⟩⟩, upTo_spec _, sW, by kernel_rfl, _, .refl _, .nil, trivial, bad (by simp [staB, nextB, c0, c2, c3])⟩
            · rw [c3] at sW
              cases c4 : spB 0 36000 s.sLo s.sHi
              · rw [c4] at sS
                exact ACode.vc (.br 15 true <| .cells (cSt s) <| .br 28 false <| .draw 17 <| .call (.agg [.int .i64 0, .int .i64 60]) <| .lent (.bool true) [7] <| .call (.agg [.int .i64 0, .int .i64 600]) <| .call (.bool true) <| .call (.agg [.int .i64 0, .int .i64 36000]) <| .call (.bool false) <| .nil) hn hl (.round .cl) ⟨ltLen hlt, idx hs, c0, by kernel_rfl, mixed, by kernel_rfl, upTo_spec _, ⟨_, by kernel_rfl, .inl ⟨sG, .inr rfl⟩⟩, upTo_spec _, sW, upTo_spec _, by kernel_rfl, sS, _, .refl _, .nil, trivial, bad (by simp [staB, nextB, c0, c2, c3, c4])⟩
              · rw [c4] at sS
                exact ACode.vc (.br 15 true <| .cells (cSt s) <| .br 28 false <| .draw 17 <| .call (.agg [.int .i64 0, .int .i64 60]) <| .lent (.bool true) [7] <| .call (.agg [.int .i64 0, .int .i64 600]) <| .call (.bool true) <| .call (.agg [.int .i64 0, .int .i64 36000]) <| .call (.bool true) <| .nil) hn hl (.round .cl) ⟨ltLen hlt, idx hs, c0, by kernel_rfl, mixed, by kernel_rfl, upTo_spec _, ⟨_, by kernel_rfl, .inl ⟨sG, .inr rfl⟩⟩, upTo_spec _, sW, upTo_spec _, by kernel_rfl, sS, k + 1, ⟨hlt, good (by simp [staB, nextB, c0, c2, c3, c4])⟩, mu1 hlt, St.le.of ⟨by kernel_rfl, rfl, by kernel_rfl, rfl, by kernel_rfl, rfl, Eq.trans (by kernel_rfl) ek, rfl, trivial⟩ trivial⟩
        · skip
          cases c1 : inB ((k : Int) + 1) ((l.length : Int) - 1) s.nx
          · rw [c1] at sN
            exact ACode.vc (.br 15 true <| .cells (cSt s) <| .br 28 true <| .lent (.bool false) [4] <| .nil) hn hl (.round .cl) ⟨ltLen hlt, idx hs, c0, ⟨_, by kernel_rfl, .inl ⟨sN, .inr rfl⟩⟩, _, .refl _, .nil, trivial, bad (by simp [staB, nextB, c0, c1])⟩
          · rw [c1] at sN
            cases c2 : inB 0 60 s.gap
            · rw [c2] at sG
              exact ACode.vc (.br 15 true <| .cells (cSt s) <| .br 28 true <| .lent (.bool true) [4] <| .draw 17 <| .call (.agg [.int .i64 0, .int .i64 60]) <| .lent (.bool false) [8] <| .nil) hn hl (.round .cl) ⟨ltLen hlt, idx hs, c0, ⟨_, by kernel_rfl, .inl ⟨sN, .inr rfl⟩⟩, by kernel_rfl, mixed, by kernel_rfl, upTo_spec _, ⟨_, by kernel_rfl, .inl ⟨sG, .inr rfl⟩⟩, by kernel_rfl, _, .refl _, .nil, trivial, bad (by simp [staB, nextB, c0, c1, c2])⟩
            · rw [c2] at sG
              cases c3 : spB 0 600 s.wLo s.wHi
              · rw [c3] at sW
                exact ACode.vc (.br 15 true <| .cells (cSt s) <| .br 28 true <| .lent (.bool true) [4] <| .draw 17 <| .call (.agg [.int .i64 0, .int .i64 60]) <| .lent (.bool true) [8] <| .call (.agg [.int .i64 0, .int .i64 600]) <| .call (.bool false) <| .nil) hn hl (.round .cl) ⟨ltLen hlt, idx hs, c0, ⟨_, by kernel_rfl, .inl ⟨sN, .inr rfl⟩⟩, by kernel_rfl, mixed, by kernel_rfl, upTo_spec _, ⟨_, by kernel_rfl, .inl ⟨sG, .inr rfl⟩⟩, upTo_spec _, sW, by kernel_rfl, _, .refl _, .nil, trivial, bad (by simp [staB, nextB, c0, c1, c2, c3])⟩
              · rw [c3] at sW
                cases c4 : spB 0 36000 s.sLo s.sHi
                · rw [c4] at sS
                  exact ACode.vc (.br 15 true <| .cells (cSt s) <| .br 28 true <| .lent (.bool true) [4] <| .draw 17 <| .call (.agg [.int .i64 0, .int .i64 60]) <| .lent (.bool true) [8] <| .call (.agg [.int .i64 0, .int .i64 600]) <| .call (.bool true) <| .call (.agg [.int .i64 0, .int .i64 36000]) <| .call (.bool false) <| .nil) hn hl (.round .cl) ⟨ltLen hlt, idx hs, c0, ⟨_, by kernel_rfl, .inl ⟨sN, .inr rfl⟩⟩, by kernel_rfl, mixed, by kernel_rfl, upTo_spec _, ⟨_, by kernel_rfl, .inl ⟨sG, .inr rfl⟩⟩, upTo_spec _, sW, upTo_spec _, by kernel_rfl, sS, _, .refl _, .nil, trivial, bad (by simp [staB, nextB, c0, c1, c2, c3, c4])⟩
                · rw [c4] at sS
                  exact ACode.vc (.br 15 true <| .cells (cSt s) <| .br 28 true <| .lent (.bool true) [4] <| .draw 17 <| .call (.agg [.int .i64 0, .int .i64 60]) <| .lent (.bool true) [8] <| .call (.agg [.int .i64 0, .int .i64 600]) <| .call (.bool true) <| .call (.agg [.int .i64 0, .int .i64 36000]) <| .call (.bool true) <| .nil) hn hl (.round .cl) ⟨ltLen hlt, idx hs, c0, ⟨_, by kernel_rfl, .inl ⟨sN, .inr rfl⟩⟩, by kernel_rfl, mixed, by kernel_rfl, upTo_spec _, ⟨_, by kernel_rfl, .inl ⟨sG, .inr rfl⟩⟩, upTo_spec _, sW, upTo_spec _, by kernel_rfl, sS, k + 1, ⟨hlt, good (by simp [staB, nextB, c0, c1, c2, c3, c4])⟩, mu1 hlt, St.le.of ⟨by kernel_rfl, rfl, by kernel_rfl, rfl, by kernel_rfl, rfl, Eq.trans (by kernel_rfl) ek, rfl, trivial⟩ trivial⟩
      · have hk' : k = l.length := by omega
        have e : true = stasB l := by rw [hk', List.take_length] at hk2; simp [stasB, hb, hk2]
        exact ACode.vc (.br 15 false .nil) hn hl (.round .cl) ⟨geLen hlt, _, .refl _, .nil, rB e⟩
theorem areChambers_spec (l : List Cha) (n : Nat) (hn6 : n ≤ 6) : APure Tryd.prog 86 [.lst 4 (l.map cCh), .int .i64 n] (.bool (chasB l n)) := by
  have s0 := oneTo_spec 8
  have sw := within1_spec ((l.map cCh).length : Int) 1 8
  cases hb : inB 1 8 ((l.map cCh).length : Int)
  · rw [hb] at sw
    rw [List.length_map] at hb
    exact APure.vc Tryd.func86 rfl (.call (.agg [.int .i64 1, .int .i64 8]) <| .lent (.bool false) [0] .nil) rfl rfl ⟨s0, ⟨_, by kernel_rfl, .inl ⟨sw, .inr rfl⟩⟩, rB (by simp [chasB, hb])⟩
  · rw [hb] at sw
    rw [List.length_map] at hb
    have hl6 : l.length ≤ 8 := by simp [inB] at hb; omega
    refine APure.vc Tryd.func86 rfl (.call (.agg [.int .i64 1, .int .i64 8]) <| .lent (.bool true) [0] .loop) rfl rfl ⟨s0, ⟨_, by kernel_rfl, .inl ⟨sw, .inr rfl⟩⟩, ?_⟩
    intro g hn hl
    replace hn : g.n = 43 := hn
    replace hl : g.low 0 := hl
    refine acode_while (fun k : Nat => ⟨[(1, .int .i64 n), (13, .lst 4 (l.map cCh)), (14, .int .i64 (l.map cCh).length), (15, .int .i64 k)], [], 0⟩) (fun k => k ≤ l.length ∧ (l.take k).all (chaB n) = true) (fun k => l.length - k) 0 ⟨Nat.zero_le _, rfl⟩ ?_ (fun _ _ => hl) ?_
    · exact St.le.of ⟨by kernel_rfl, rfl, by kernel_rfl, rfl, by kernel_rfl, rfl, by kernel_rfl, rfl, trivial⟩ trivial
    · rintro k ⟨hk1, hk2⟩
      by_cases hlt : k < l.length
      · refine Exists.elim (getE hlt) fun c hc => ?_
        have ek := congrArg (AV.int .i64) (succ64 (k := k) (by omega))
        have eW : IntKind.i64.wrap ((n : Int) - 1) = (n : Int) - 1 := wrap64 (by omega) (by omega)
        have sU := upTo_spec (IntKind.i64.wrap ((n : Int) - 1))
        rw [eW] at sU
        have sU' : APure Tryd.prog 58 [.int .i64 (IntKind.i64.wrap ((n : Int) - 1))] (.agg [.int .i64 0, .int .i64 ((n : Int) - 1)]) := by rw [eW]; exact sU
        have sN := within1_spec c.st 0 ((n : Int) - 1)
        have sG := within1_spec c.way 0 100000
        have sS := isSpan_spec c.sLo c.sHi 0 36000
        have bad : chaB n c = false → some (AV.bool false) = some (AV.bool (chasB l n)) := fun h => by simp [chasB, all_bad hc h]
        have good : chaB n c = true → (l.take (k + 1)).all (chaB n) = true := fun h => by rw [take_all hc, hk2, h]; rfl
        cases c1 : inB 0 ((n : Int) - 1) c.st
        · rw [c1] at sN
          exact ACode.vc (.br 16 true <| .cells (cCh c) <| .draw 20 <| .call (.agg [.int .i64 0, .int .i64 ((n : Int) - 1)]) <| .lent (.bool false) [7] <| .nil) hn hl (.round .cl) ⟨ltLen hlt, idx hc, by kernel_rfl, mixed, by kernel_rfl, sU', ⟨_, by kernel_rfl, .inl ⟨sN, .inr rfl⟩⟩, by kernel_rfl, _, .refl _, .nil, trivial, bad (by simp [chaB, c1])⟩
        · rw [c1] at sN
          cases c2 : inB 0 100000 c.way
          · rw [c2] at sG
            exact ACode.vc (.br 16 true <| .cells (cCh c) <| .draw 20 <| .call (.agg [.int .i64 0, .int .i64 ((n : Int) - 1)]) <| .lent (.bool true) [7] <| .call (.agg [.int .i64 0, .int .i64 100000]) <| .lent (.bool false) [14] <| .nil) hn hl (.round .cl) ⟨ltLen hlt, idx hc, by kernel_rfl, mixed, by kernel_rfl, sU', ⟨_, by kernel_rfl, .inl ⟨sN, .inr rfl⟩⟩, upTo_spec _, ⟨_, by kernel_rfl, .inl ⟨sG, .inr rfl⟩⟩, by kernel_rfl, _, .refl _, .nil, trivial, bad (by simp [chaB, c1, c2])⟩
          · rw [c2] at sG
            cases c3 : spB 0 36000 c.sLo c.sHi
            · rw [c3] at sS
              exact ACode.vc (.br 16 true <| .cells (cCh c) <| .draw 20 <| .call (.agg [.int .i64 0, .int .i64 ((n : Int) - 1)]) <| .lent (.bool true) [7] <| .call (.agg [.int .i64 0, .int .i64 100000]) <| .lent (.bool true) [14] <| .call (.agg [.int .i64 0, .int .i64 36000]) <| .call (.bool false) <| .nil) hn hl (.round .cl) ⟨ltLen hlt, idx hc, by kernel_rfl, mixed, by kernel_rfl, sU', ⟨_, by kernel_rfl, .inl ⟨sN, .inr rfl⟩⟩, upTo_spec _, ⟨_, by kernel_rfl, .inl ⟨sG, .inr rfl⟩⟩, upTo_spec _, by kernel_rfl, sS, _, .refl _, .nil, trivial, bad (by simp [chaB, c1, c2, c3])⟩
            · rw [c3] at sS
              exact ACode.vc (.br 16 true <| .cells (cCh c) <| .draw 20 <| .call (.agg [.int .i64 0, .int .i64 ((n : Int) - 1)]) <| .lent (.bool true) [7] <| .call (.agg [.int .i64 0, .int .i64 100000]) <| .lent (.bool true) [14] <| .call (.agg [.int .i64 0, .int .i64 36000]) <| .call (.bool true) <| .nil) hn hl (.round .cl) ⟨ltLen hlt, idx hc, by kernel_rfl, mixed, by kernel_rfl, sU', ⟨_, by kernel_rfl, .inl ⟨sN, .inr rfl⟩⟩, upTo_spec _, ⟨_, by kernel_rfl, .inl ⟨sG, .inr rfl⟩⟩, upTo_spec _, by kernel_rfl, sS, k + 1, ⟨hlt, good (by simp [chaB, c1, c2, c3])⟩, mu1 hlt, St.le.of ⟨by kernel_rfl, rfl, by kernel_rfl, rfl, by kernel_rfl, rfl, Eq.trans (by kernel_rfl) ek, rfl, trivial⟩ trivial⟩
      · have hk' : k = l.length := by omega
        have e : true = chasB l n := by rw [hk', List.take_length] at hk2; simp [chasB, hb, hk2]
        exact ACode.vc (.br 16 false .nil) hn hl (.round .cl) ⟨geLen hlt, _, .refl _, .nil, rB e⟩
theorem isBuilding_spec (b : Bdg) : APure Tryd.prog 61 [encB b] (.bool (bdgB b)) := by
  have s1 := areStairs_spec b.ss
  cases h : stasB b.ss
  · rw [h] at s1
    exact APure.vc Tryd.func61 rfl (.call (.bool false) .nil) rfl rfl ⟨s1, rB (by simp [bdgB, h])⟩
  · rw [h] at s1
    have hl : (b.ss.map cSt).length ≤ 6 := by
      rw [List.length_map]
      simp [stasB, inB] at h; omega
    have s2 := areChambers_spec b.cs (b.ss.map cSt).length hl
    exact APure.vc Tryd.func61 rfl (.call (.bool true) <| .call (.bool (chasB b.cs (b.ss.map cSt).length)) .nil) rfl rfl ⟨s1, s2, rB (by simp [bdgB, h])⟩
theorem arePeople_spec (b : Bdg) (l : List Wal) (hb : b.cs.length ≤ 8) : APure Tryd.prog 53 [encW l, encB b] (.bool (walsB b l)) := by
  by_cases hl24 : ((l.map cWa).length : Int) > 24
  · have d : decide (((l.map cWa).length : Int) > 24) = true := decide_eq_true hl24
    rw [List.length_map] at hl24
    exact APure.vc Tryd.func53 rfl (.br 10 true .nil) rfl rfl ⟨d, rB (by simp [walsB]; intro h; omega)⟩
  · have d : decide (((l.map cWa).length : Int) > 24) = false := decide_eq_false hl24
    rw [List.length_map] at hl24
    refine APure.vc Tryd.func53 rfl (.br 10 false .loop) rfl rfl ⟨d, ?_⟩
    intro g hn hl
    replace hn : g.n = 43 := hn
    replace hl : g.low 0 := hl
    refine acode_while (fun k : Nat => ⟨[(3, .vptr 0 0), (5, .vptr 1 0), (12, encW l), (13, .int .i64 (l.map cWa).length), (14, .int .i64 k)], [(0, .cells (cB b)), (1, .cells [.int .i64 100, .int .i64 3000])], 2⟩) (fun k => k ≤ l.length ∧ (l.take k).all (walB b.cs.length) = true) (fun k => l.length - k) 0 ⟨Nat.zero_le _, rfl⟩ ?_ (fun _ _ => hl.mono (Nat.zero_le _)) ?_
    · exact St.le.of ⟨by kernel_rfl, rfl, by kernel_rfl, rfl, by kernel_rfl, rfl, by kernel_rfl, rfl, by kernel_rfl, rfl, trivial⟩ ⟨by kernel_rfl, (by decide : (0 : Nat) < 2), rfl, by kernel_rfl, (by decide : (1 : Nat) < 2), rfl, trivial⟩
    · rintro k ⟨hk1, hk2⟩
      by_cases hlt : k < l.length
      · refine Exists.elim (getE hlt) fun w hw => ?_
        have ek := congrArg (AV.int .i64) (succ64 (k := k) (by omega))
        have eW : IntKind.i64.wrap (((b.cs.map cCh).length : Int) - 1) = (b.cs.length : Int) - 1 := by rw [List.length_map, wrap64 (by omega) (by omega)]
        have sU : APure Tryd.prog 58 [.int .i64 (IntKind.i64.wrap (((b.cs.map cCh).length : Int) - 1))] (.agg [.int .i64 0, .int .i64 ((b.cs.length : Int) - 1)]) := by rw [eW]; exact upTo_spec _
        have sN := within1_spec w.ch 0 ((b.cs.length : Int) - 1)
        have sP := isSpan_spec w.pLo w.pHi 100 3000
        have sT := isSpan_spec w.tLo w.tHi 0 3600
        have dl : (decide ((l.length : Int) > 24)) = false := decide_eq_false hl24
        have bad : walB b.cs.length w = false → some (AV.bool false) = some (AV.bool (walsB b l)) := fun h => by simp [walsB, all_bad hw h]
        have good : walB b.cs.length w = true → (l.take (k + 1)).all (walB b.cs.length) = true := fun h => by rw [take_all hw, hk2, h]; rfl
        cases c1 : inB 0 ((b.cs.length : Int) - 1) w.ch
        · rw [c1] at sN
          exact ACode.vc (.br 15 true <| .cells (cWa w) <| .draw 21 <| .call (.agg [.int .i64 0, .int .i64 ((b.cs.length : Int) - 1)]) <| .lent (.bool false) [11] <| .nil) hn hl (.round .cl) ⟨ltLen hlt, idx hw, by kernel_rfl, mixed, by kernel_rfl, sU, ⟨_, by kernel_rfl, .inl ⟨sN, .inr rfl⟩⟩, by kernel_rfl, _, .refl _, .nil, trivial, bad (by simp [walB, c1])⟩
        · rw [c1] at sN
          cases c2 : spB 100 3000 w.pLo w.pHi
          · rw [c2] at sP
            exact ACode.vc (.br 15 true <| .cells (cWa w) <| .draw 21 <| .call (.agg [.int .i64 0, .int .i64 ((b.cs.length : Int) - 1)]) <| .lent (.bool true) [11] <| .call (.bool false) <| .nil) hn hl (.round .cl) ⟨ltLen hlt, idx hw, by kernel_rfl, mixed, by kernel_rfl, sU, ⟨_, by kernel_rfl, .inl ⟨sN, .inr rfl⟩⟩, sP, by kernel_rfl, _, .refl _, .nil, trivial, bad (by simp [walB, c1, c2])⟩
          · rw [c2] at sP
            cases c3 : spB 0 3600 w.tLo w.tHi
            · rw [c3] at sT
              exact ACode.vc (.br 15 true <| .cells (cWa w) <| .draw 21 <| .call (.agg [.int .i64 0, .int .i64 ((b.cs.length : Int) - 1)]) <| .lent (.bool true) [11] <| .call (.bool true) <| .call (.agg [.int .i64 0, .int .i64 3600]) <| .call (.bool false) <| .nil) hn hl (.round .cl) ⟨ltLen hlt, idx hw, by kernel_rfl, mixed, by kernel_rfl, sU, ⟨_, by kernel_rfl, .inl ⟨sN, .inr rfl⟩⟩, sP, upTo_spec _, by kernel_rfl, sT, _, .refl _, .nil, trivial, bad (by simp [walB, c1, c2, c3])⟩
            · rw [c3] at sT
              exact ACode.vc (.br 15 true <| .cells (cWa w) <| .draw 21 <| .call (.agg [.int .i64 0, .int .i64 ((b.cs.length : Int) - 1)]) <| .lent (.bool true) [11] <| .call (.bool true) <| .call (.agg [.int .i64 0, .int .i64 3600]) <| .call (.bool true) <| .nil) hn hl (.round .cl) ⟨ltLen hlt, idx hw, by kernel_rfl, mixed, by kernel_rfl, sU, ⟨_, by kernel_rfl, .inl ⟨sN, .inr rfl⟩⟩, sP, upTo_spec _, by kernel_rfl, sT, k + 1, ⟨hlt, good (by simp [walB, c1, c2, c3])⟩, mu1 hlt, St.le.of ⟨by kernel_rfl, rfl, by kernel_rfl, rfl, by kernel_rfl, rfl, by kernel_rfl, rfl, Eq.trans (by kernel_rfl) ek, rfl, trivial⟩ ⟨by kernel_rfl, (by decide : (0 : Nat) < 2), rfl, by kernel_rfl, (by decide : (1 : Nat) < 2), rfl, trivial⟩⟩
      · have hk' : k = l.length := by omega
        have dl : (decide ((l.length : Int) > 24)) = false := decide_eq_false hl24
        have e : true = walsB b l := by rw [hk', List.take_length] at hk2; simp only [walsB, dl, hk2]; rfl
        exact ACode.vc (.br 15 false .nil) hn hl (.round .cl) ⟨geLen hlt, _, .refl _, .nil, rB e⟩
theorem bdg_len {b : Bdg} (h : bdgB b = true) : 1 ≤ b.ss.length ∧ b.ss.length ≤ 6 ∧ 1 ≤ b.cs.length ∧ b.cs.length ≤ 8 := by
  simp [bdgB, stasB, chasB, inB] at h; omega
theorem Check_spec (b : Bdg) (w : List Wal) : APure Tryd.prog 30 [encB b, encW w] (.int .i64 (checkV b w)) := by
  have s1 := isBuilding_spec b
  cases h : bdgB b
  · rw [h] at s1
    exact APure.vc Tryd.func30 rfl (.call (.bool false) .nil) rfl rfl ⟨s1, rI (by simp [checkV, h])⟩
  · rw [h] at s1
    have s2 := arePeople_spec b w (bdg_len h).2.2.2
    cases h2 : walsB b w
    · rw [h2] at s2
      exact APure.vc Tryd.func30 rfl (.call (.bool true) <| .call (.bool false) .nil) rfl rfl ⟨s1, s2, rI (by simp [checkV, h, h2])⟩
    · rw [h2] at s2
      exact APure.vc Tryd.func30 rfl (.call (.bool true) <| .call (.bool true) .nil) rfl rfl ⟨s1, s2, rI (by simp [checkV, h, h2])⟩
end Go.Proofs.YtiggnliiigcjaaaDoor
/-
  THE REFERENCE: what is valid of buildings and people.
-/
namespace Go.Proofs.YtiggnliiigcjaaaDoor
open Go Go.Am
set_option maxRecDepth 100000
set_option maxHeartbeats 4000000
theorem rwithin_spec (n lo hi : Int) : APure Tryd.prog 81 [.int .i64 n, .int .i64 lo, .int .i64 hi] (.bool (inB lo hi n)) := by
  cases c : decide (n ≥ lo)
  · exact APure.vc Tryd.func81 rfl (.br 10 false .nil) rfl rfl ⟨c, rB (by simp at c; simp [inB]; omega)⟩
  · exact APure.vc Tryd.func81 rfl (.br 10 true .nil) rfl rfl ⟨c, rB (by simp at c; simp [inB]; omega)⟩
theorem spanned_spec (x y lo hi : Int) : APure Tryd.prog 82 [.agg [.int .i64 x, .int .i64 y], .int .i64 lo, .int .i64 hi] (.bool (spB lo hi x y)) := by
  cases c : decide (x ≥ lo)
  · exact APure.vc Tryd.func82 rfl (.br 11 false .nil) rfl rfl ⟨c, rB (by simp at c; simp [spB, inB]; omega)⟩
  · cases c2 : decide (x ≤ y)
    · exact APure.vc Tryd.func82 rfl (.br 11 true <| .br 18 false .nil) rfl rfl ⟨c, c2, rB (by simp at c c2; simp [spB, inB]; omega)⟩
    · exact APure.vc Tryd.func82 rfl (.br 11 true <| .br 18 true .nil) rfl rfl ⟨c, c2, rB (by simp at c c2; simp [spB, inB]; by_cases h : y ≤ hi <;> simp [h] <;> omega)⟩
theorem rBuilding_spec (b : Bdg) : APure Tryd.prog 66 [encB b] (.bool (bdgB b)) := by
  have s1 := rwithin_spec ((b.ss.map cSt).length : Int) 1 6
  have s2 := rwithin_spec ((b.cs.map cCh).length : Int) 1 8
  cases h1 : inB 1 6 ((b.ss.map cSt).length : Int)
  · rw [h1] at s1
    rw [List.length_map] at h1
    exact APure.vc Tryd.func66 rfl (.call (.bool false) .nil) rfl rfl ⟨s1, rB (by simp [bdgB, stasB, h1])⟩
  rw [h1] at s1
  rw [List.length_map] at h1
  cases h2 : inB 1 8 ((b.cs.map cCh).length : Int)
  · rw [h2] at s2
    rw [List.length_map] at h2
    exact APure.vc Tryd.func66 rfl (.call (.bool true) <| .call (.bool false) .nil) rfl rfl ⟨s1, s2, rB (by simp [bdgB, chasB, h2])⟩
  rw [h2] at s2
  rw [List.length_map] at h2
  have hl6 : b.ss.length ≤ 6 := by simp [inB] at h1; omega
  have hl8 : b.cs.length ≤ 8 := by simp [inB] at h2; omega
  refine APure.vc Tryd.func66 rfl (.call (.bool true) <| .call (.bool true) .loop) rfl rfl ⟨s1, s2, ?_⟩
  intro g hn hl
  replace hn : g.n = 96 := hn
  replace hl : g.low 0 := hl
  refine acode_while (fun k : Nat => ⟨[(1, .vptr 0 0), (3, .int .i64 k)], [(0, .cells (cB b))], 1⟩) (fun k => k ≤ b.ss.length ∧ allI (staB b.ss.length) (b.ss.take k) = true) (fun k => b.ss.length - k) 0 ⟨Nat.zero_le _, rfl⟩ ?_ (fun _ _ => hl.mono (Nat.zero_le _)) ?_
  · exact St.le.of ⟨by kernel_rfl, rfl, by kernel_rfl, rfl, trivial⟩ ⟨by kernel_rfl, (by decide : (0 : Nat) < 1), rfl, trivial⟩
  rintro k ⟨hk1, hk2⟩
  by_cases hlt : k < b.ss.length
  · refine Exists.elim (getE hlt) fun s hs => ?_
    have ek := congrArg (AV.int .i64) (succ64 (k := k) (by omega))
    have sN := rwithin_spec s.nx (IntKind.i64.wrap ((k : Int) + 1)) (IntKind.i64.wrap (((b.ss.map cSt).length : Int) - 1))
    have eN : inB (IntKind.i64.wrap ((k : Int) + 1)) (IntKind.i64.wrap (((b.ss.map cSt).length : Int) - 1)) s.nx = inB ((k : Int) + 1) ((b.ss.length : Int) - 1) s.nx := by
      rw [wrap64 (by omega) (by omega), wrap64 (by rw [List.length_map]; omega) (by rw [List.length_map]; omega), List.length_map]
    rw [eN] at sN
    have sG := rwithin_spec s.gap 0 60
    have sW := spanned_spec s.wLo s.wHi 0 600
    have sS := spanned_spec s.sLo s.sHi 0 36000
    have bad : staB b.ss.length k s = false → some (AV.bool false) = some (AV.bool (bdgB b)) := fun h => by simp [bdgB, stasB, allI_bad hs h]
    have good : staB b.ss.length k s = true → allI (staB b.ss.length) (b.ss.take (k + 1)) = true := fun h => by rw [allI_take hs, hk2, h]; rfl
    cases c0 : (s.nx != -1)
    · skip
      cases c2 : inB 0 60 s.gap
      · rw [c2] at sG
        exact ACode.vc (.br 23 true <| .cells (cSt s) <| .br 34 false <| .call (.bool false) <| .nil) hn hl (.round .cl) ⟨ltLen hlt, idx hs, c0, sG, _, .refl _, .nil, trivial, bad (by simp [staB, nextB, c0, c2])⟩
      · rw [c2] at sG
        cases c3 : spB 0 600 s.wLo s.wHi
        · rw [c3] at sW
          exact ACode.vc (.br 23 true <| .cells (cSt s) <| .br 34 false <| .call (.bool true) <| .call (.bool false) <| .nil) hn hl (.round .cl) ⟨ltLen hlt, idx hs, c0, sG, sW, _, .refl _, .nil, trivial, bad (by simp [staB, nextB, c0, c2, c3])⟩
        · rw [c3] at sW
          cases c4 : spB 0 36000 s.sLo s.sHi
          · rw [c4] at sS
            exact ACode.vc (.br 23 true <| .cells (cSt s) <| .br 34 false <| .call (.bool true) <| .call (.bool true) <| .call (.bool false) <| .nil) hn hl (.round .cl) ⟨ltLen hlt, idx hs, c0, sG, sW, sS, _, .refl _, .nil, trivial, bad (by simp [staB, nextB, c0, c2, c3, c4])⟩
          · rw [c4] at sS
            exact ACode.vc (.br 23 true <| .cells (cSt s) <| .br 34 false <| .call (.bool true) <| .call (.bool true) <| .call (.bool true) <| .nil) hn hl (.round .cl) ⟨ltLen hlt, idx hs, c0, sG, sW, sS, k + 1, ⟨hlt, good (by simp [staB, nextB, c0, c2, c3, c4])⟩, mu1 hlt, St.le.of ⟨by kernel_rfl, rfl, Eq.trans (by kernel_rfl) ek, rfl, trivial⟩ ⟨by kernel_rfl, (by decide : (0 : Nat) < 1), rfl, trivial⟩⟩
    · skip
      cases c1 : inB ((k : Int) + 1) ((b.ss.length : Int) - 1) s.nx
      · rw [c1] at sN
        exact ACode.vc (.br 23 true <| .cells (cSt s) <| .br 34 true <| .call (.bool false) <| .nil) hn hl (.round .cl) ⟨ltLen hlt, idx hs, c0, sN, _, .refl _, .nil, trivial, bad (by simp [staB, nextB, c0, c1])⟩
      · rw [c1] at sN
        cases c2 : inB 0 60 s.gap
        · rw [c2] at sG
          exact ACode.vc (.br 23 true <| .cells (cSt s) <| .br 34 true <| .call (.bool true) <| .call (.bool false) <| .nil) hn hl (.round .cl) ⟨ltLen hlt, idx hs, c0, sN, sG, _, .refl _, .nil, trivial, bad (by simp [staB, nextB, c0, c1, c2])⟩
        · rw [c2] at sG
          cases c3 : spB 0 600 s.wLo s.wHi
          · rw [c3] at sW
            exact ACode.vc (.br 23 true <| .cells (cSt s) <| .br 34 true <| .call (.bool true) <| .call (.bool true) <| .call (.bool false) <| .nil) hn hl (.round .cl) ⟨ltLen hlt, idx hs, c0, sN, sG, sW, _, .refl _, .nil, trivial, bad (by simp [staB, nextB, c0, c1, c2, c3])⟩
          · rw [c3] at sW
            cases c4 : spB 0 36000 s.sLo s.sHi
            · rw [c4] at sS
              exact ACode.vc (.br 23 true <| .cells (cSt s) <| .br 34 true <| .call (.bool true) <| .call (.bool true) <| .call (.bool true) <| .call (.bool false) <| .nil) hn hl (.round .cl) ⟨ltLen hlt, idx hs, c0, sN, sG, sW, sS, _, .refl _, .nil, trivial, bad (by simp [staB, nextB, c0, c1, c2, c3, c4])⟩
            · rw [c4] at sS
              exact ACode.vc (.br 23 true <| .cells (cSt s) <| .br 34 true <| .call (.bool true) <| .call (.bool true) <| .call (.bool true) <| .call (.bool true) <| .nil) hn hl (.round .cl) ⟨ltLen hlt, idx hs, c0, sN, sG, sW, sS, k + 1, ⟨hlt, good (by simp [staB, nextB, c0, c1, c2, c3, c4])⟩, mu1 hlt, St.le.of ⟨by kernel_rfl, rfl, Eq.trans (by kernel_rfl) ek, rfl, trivial⟩ ⟨by kernel_rfl, (by decide : (0 : Nat) < 1), rfl, trivial⟩⟩
  · have hk' : k = b.ss.length := by omega
    have e1 : stasB b.ss = true := by rw [hk', List.take_length] at hk2; simp [stasB, h1, hk2]
    clear hk2
    refine ACode.vc (.br 23 false .loop) hn hl (.round .cl) ⟨geLen hlt, _, .refl _, .loop, ?_⟩
    intro g hn hl
    replace hn : g.n = 96 := hn
    replace hl : g.low 0 := hl
    refine acode_while (fun k : Nat => ⟨[(1, .vptr 0 0), (5, .int .i64 k)], [(0, .cells (cB b))], 1⟩) (fun k => k ≤ b.cs.length ∧ (b.cs.take k).all (chaB b.ss.length) = true) (fun k => b.cs.length - k) 0 ⟨Nat.zero_le _, rfl⟩ ?_ (fun _ _ => hl.mono (Nat.zero_le _)) ?_
    · exact St.le.of ⟨by kernel_rfl, rfl, by kernel_rfl, rfl, trivial⟩ ⟨by kernel_rfl, (by decide : (0 : Nat) < 1), rfl, trivial⟩
    rintro k ⟨hk1, hk2⟩
    by_cases hlt : k < b.cs.length
    · refine Exists.elim (getE hlt) fun c hc => ?_
      have ek := congrArg (AV.int .i64) (succ64 (k := k) (by omega))
      have sN := rwithin_spec c.st 0 (IntKind.i64.wrap (((b.ss.map cSt).length : Int) - 1))
      have eN : inB 0 (IntKind.i64.wrap (((b.ss.map cSt).length : Int) - 1)) c.st = inB 0 ((b.ss.length : Int) - 1) c.st := by
        rw [wrap64 (by rw [List.length_map]; omega) (by rw [List.length_map]; omega), List.length_map]
      rw [eN] at sN
      have sG := rwithin_spec c.way 0 100000
      have sS := spanned_spec c.sLo c.sHi 0 36000
      have bad : chaB b.ss.length c = false → some (AV.bool false) = some (AV.bool (bdgB b)) := fun h => by simp [bdgB, chasB, all_bad hc h]
      have good : chaB b.ss.length c = true → (b.cs.take (k + 1)).all (chaB b.ss.length) = true := fun h => by rw [take_all hc, hk2, h]; rfl
      cases c1 : inB 0 ((b.ss.length : Int) - 1) c.st
      · rw [c1] at sN
        exact ACode.vc (.br 68 true <| .cells (cCh c) <| .call (.bool false) <| .nil) hn hl (.round .cl) ⟨ltLen hlt, idx hc, sN, _, .refl _, .nil, trivial, bad (by simp [chaB, c1])⟩
      · rw [c1] at sN
        cases c2 : inB 0 100000 c.way
        · rw [c2] at sG
          exact ACode.vc (.br 68 true <| .cells (cCh c) <| .call (.bool true) <| .call (.bool false) <| .nil) hn hl (.round .cl) ⟨ltLen hlt, idx hc, sN, sG, _, .refl _, .nil, trivial, bad (by simp [chaB, c1, c2])⟩
        · rw [c2] at sG
          cases c3 : spB 0 36000 c.sLo c.sHi
          · rw [c3] at sS
            exact ACode.vc (.br 68 true <| .cells (cCh c) <| .call (.bool true) <| .call (.bool true) <| .call (.bool false) <| .nil) hn hl (.round .cl) ⟨ltLen hlt, idx hc, sN, sG, sS, _, .refl _, .nil, trivial, bad (by simp [chaB, c1, c2, c3])⟩
          · rw [c3] at sS
            exact ACode.vc (.br 68 true <| .cells (cCh c) <| .call (.bool true) <| .call (.bool true) <| .call (.bool true) <| .nil) hn hl (.round .cl) ⟨ltLen hlt, idx hc, sN, sG, sS, k + 1, ⟨hlt, good (by simp [chaB, c1, c2, c3])⟩, mu1 hlt, St.le.of ⟨by kernel_rfl, rfl, Eq.trans (by kernel_rfl) ek, rfl, trivial⟩ ⟨by kernel_rfl, (by decide : (0 : Nat) < 1), rfl, trivial⟩⟩
    · have hk' : k = b.cs.length := by omega
      have e : true = bdgB b := by rw [hk', List.take_length] at hk2; simp [bdgB, e1, chasB, h2, hk2]
      exact ACode.vc (.br 68 false .nil) hn hl (.round .cl) ⟨geLen hlt, _, .refl _, .nil, rB e⟩
theorem rPeople_spec (b : Bdg) (l : List Wal) (hb : b.cs.length ≤ 8) : APure Tryd.prog 56 [encB b, encW l] (.bool (walsB b l)) := by
  by_cases hl24 : ((l.map cWa).length : Int) > 24
  · have d : decide (((l.map cWa).length : Int) > 24) = true := decide_eq_true hl24
    rw [List.length_map] at hl24
    exact APure.vc Tryd.func56 rfl (.br 8 true .nil) rfl rfl ⟨d, rB (by simp [walsB]; intro h; omega)⟩
  · have d : decide (((l.map cWa).length : Int) > 24) = false := decide_eq_false hl24
    rw [List.length_map] at hl24
    refine APure.vc Tryd.func56 rfl (.br 8 false .loop) rfl rfl ⟨d, ?_⟩
    intro g hn hl
    replace hn : g.n = 44 := hn
    replace hl : g.low 0 := hl
    refine acode_while (fun k : Nat => ⟨[(1, encW l), (2, .vptr 0 0), (5, .int .i64 k)], [(0, .cells (cB b))], 1⟩) (fun k => k ≤ l.length ∧ (l.take k).all (walB b.cs.length) = true) (fun k => l.length - k) 0 ⟨Nat.zero_le _, rfl⟩ ?_ (fun _ _ => hl.mono (Nat.zero_le _)) ?_
    · exact St.le.of ⟨by kernel_rfl, rfl, by kernel_rfl, rfl, by kernel_rfl, rfl, trivial⟩ ⟨by kernel_rfl, (by decide : (0 : Nat) < 1), rfl, trivial⟩
    · rintro k ⟨hk1, hk2⟩
      by_cases hlt : k < l.length
      · refine Exists.elim (getE hlt) fun w hw => ?_
        have ek := congrArg (AV.int .i64) (succ64 (k := k) (by omega))
        have sN := rwithin_spec w.ch 0 (IntKind.i64.wrap (((b.cs.map cCh).length : Int) - 1))
        have eN : inB 0 (IntKind.i64.wrap (((b.cs.map cCh).length : Int) - 1)) w.ch = inB 0 ((b.cs.length : Int) - 1) w.ch := by
          rw [wrap64 (by rw [List.length_map]; omega) (by rw [List.length_map]; omega), List.length_map]
        rw [eN] at sN
        have sP := spanned_spec w.pLo w.pHi 100 3000
        have sT := spanned_spec w.tLo w.tHi 0 3600
        have bad : walB b.cs.length w = false → some (AV.bool false) = some (AV.bool (walsB b l)) := fun h => by simp [walsB, all_bad hw h]
        have good : walB b.cs.length w = true → (l.take (k + 1)).all (walB b.cs.length) = true := fun h => by rw [take_all hw, hk2, h]; rfl
        cases c1 : inB 0 ((b.cs.length : Int) - 1) w.ch
        · rw [c1] at sN
          exact ACode.vc (.br 12 true <| .draw 23 <| .cells (cWa w) <| .call (.bool false) <| .nil) hn hl (.round .cl) ⟨ltLen hlt, by kernel_rfl, mixed, by kernel_rfl, idx hw, sN, by kernel_rfl, _, .refl _, .nil, trivial, bad (by simp [walB, c1])⟩
        · rw [c1] at sN
          cases c2 : spB 100 3000 w.pLo w.pHi
          · rw [c2] at sP
            exact ACode.vc (.br 12 true <| .draw 23 <| .cells (cWa w) <| .call (.bool true) <| .cells (cWa w) <| .call (.bool false) <| .nil) hn hl (.round .cl) ⟨ltLen hlt, by kernel_rfl, mixed, by kernel_rfl, idx hw, sN, idx hw, sP, by kernel_rfl, _, .refl _, .nil, trivial, bad (by simp [walB, c1, c2])⟩
          · rw [c2] at sP
            cases c3 : spB 0 3600 w.tLo w.tHi
            · rw [c3] at sT
              exact ACode.vc (.br 12 true <| .draw 23 <| .cells (cWa w) <| .call (.bool true) <| .cells (cWa w) <| .call (.bool true) <| .cells (cWa w) <| .call (.bool false) <| .nil) hn hl (.round .cl) ⟨ltLen hlt, by kernel_rfl, mixed, by kernel_rfl, idx hw, sN, idx hw, sP, by kernel_rfl, idx hw, sT, _, .refl _, .nil, trivial, bad (by simp [walB, c1, c2, c3])⟩
            · rw [c3] at sT
              exact ACode.vc (.br 12 true <| .draw 23 <| .cells (cWa w) <| .call (.bool true) <| .cells (cWa w) <| .call (.bool true) <| .cells (cWa w) <| .call (.bool true) <| .nil) hn hl (.round .cl) ⟨ltLen hlt, by kernel_rfl, mixed, by kernel_rfl, idx hw, sN, idx hw, sP, by kernel_rfl, idx hw, sT, k + 1, ⟨hlt, good (by simp [walB, c1, c2, c3])⟩, mu1 hlt, St.le.of ⟨by kernel_rfl, rfl, by kernel_rfl, rfl, Eq.trans (by kernel_rfl) ek, rfl, trivial⟩ ⟨by kernel_rfl, (by decide : (0 : Nat) < 1), rfl, trivial⟩⟩
      · have hk' : k = l.length := by omega
        have dl : (decide ((l.length : Int) > 24)) = false := decide_eq_false hl24
        have e : true = walsB b l := by rw [hk', List.take_length] at hk2; simp only [walsB, dl, hk2]; rfl
        exact ACode.vc (.br 12 false .nil) hn hl (.round .cl) ⟨geLen hlt, _, .refl _, .nil, rB e⟩
theorem rCheck_spec (b : Bdg) (w : List Wal) : APure Tryd.prog 37 [encB b, encW w] (.int .i64 (checkV b w)) := by
  have s1 := rBuilding_spec b
  cases h : bdgB b
  · rw [h] at s1
    exact APure.vc Tryd.func37 rfl (.call (.bool false) .nil) rfl rfl ⟨s1, rI (by simp [checkV, h])⟩
  · rw [h] at s1
    have s2 := rPeople_spec b w (bdg_len h).2.2.2
    cases h2 : walsB b w
    · rw [h2] at s2
      exact APure.vc Tryd.func37 rfl (.call (.bool true) <| .call (.bool false) .nil) rfl rfl ⟨s1, s2, rI (by simp [checkV, h, h2])⟩
    · rw [h2] at s2
      exact APure.vc Tryd.func37 rfl (.call (.bool true) <| .call (.bool true) .nil) rfl rfl ⟨s1, s2, rI (by simp [checkV, h, h2])⟩
theorem Great_spec (b : Bdg) (w : List Wal) : APure Tryd.prog 14 [encB b, encW w] (.bool (greatB b w)) := by
  unfold greatB
  have e1 : decide (((b.ss.map cSt).length : Int) > 10) = decide ((b.ss.length : Int) > 10) := by rw [List.length_map]
  have e2 : decide (((b.cs.map cCh).length : Int) > 12) = decide ((b.cs.length : Int) > 12) := by rw [List.length_map]
  have e3 : decide (((w.map cWa).length : Int) > 30) = decide ((w.length : Int) > 30) := by rw [List.length_map]
  cases c1 : decide ((b.ss.length : Int) > 10)
  · cases c2 : decide ((b.cs.length : Int) > 12)
    · exact APure.vc Tryd.func14 rfl (.br 9 false <| .br 15 false .nil) rfl rfl ⟨e1.trans c1, e2.trans c2, rB (by rw [e3]; rfl)⟩
    · exact APure.vc Tryd.func14 rfl (.br 9 false <| .br 15 true .nil) rfl rfl ⟨e1.trans c1, e2.trans c2, rB rfl⟩
  · exact APure.vc Tryd.func14 rfl (.br 9 true .nil) rfl rfl ⟨e1.trans c1, rB rfl⟩
theorem ready_spec (b : Bdg) (w : List Wal) : APure Tryd.prog 31 [encB b, encW w] (.bool (readyB b w)) := by
  have s1 := Great_spec b w
  have s2 := rCheck_spec b w
  unfold readyB
  cases c1 : greatB b w
  · rw [c1] at s1
    exact APure.vc Tryd.func31 rfl (.call (.bool false) <| .call (.int .i64 (checkV b w)) .nil) rfl rfl ⟨s1, s2, rB rfl⟩
  · rw [c1] at s1
    exact APure.vc Tryd.func31 rfl (.call (.bool true) .nil) rfl rfl ⟨s1, rB rfl⟩
end Go.Proofs.YtiggnliiigcjaaaDoor
/-
  WHO TAKES HOW LONG, AND WHO LEAVES A STAIR WHEN.
-/
namespace Go.Proofs.YtiggnliiigcjaaaDoor
open Go Go.Am
set_option maxRecDepth 100000
set_option maxHeartbeats 4000000
/-- An end, and what it takes and gives. -/
def takF (e : Bool) : Nat := if e then 100 else 99
def givF (e : Bool) : Nat := if e then 99 else 100
def endC (e : Bool) : List AV := [.fn (.func (takF e)) [] [], .fn (.func (givF e)) [] []]
def endV (e : Bool) : AV := .agg (endC e)
def xC (b : Bdg) (w : List Wal) : List AV := cB b ++ [encW w]
theorem e1_spec (lo hi : Int) : APure Tryd.prog 99 [.agg [.int .i64 lo, .int .i64 hi]] (.int .i64 lo) := APure.vc Tryd.func99 rfl .nil rfl rfl ⟨trivial, rfl⟩
theorem e2_spec (lo hi : Int) : APure Tryd.prog 100 [.agg [.int .i64 lo, .int .i64 hi]] (.int .i64 hi) := APure.vc Tryd.func100 rfl .nil rfl rfl ⟨trivial, rfl⟩
theorem tak_spec (e : Bool) (lo hi : Int) : APure Tryd.prog (takF e) [.agg [.int .i64 lo, .int .i64 hi]] (.int .i64 (tk e lo hi)) := by
  cases e
  · exact e1_spec lo hi
  · exact e2_spec lo hi
theorem giv_spec (e : Bool) (lo hi : Int) : APure Tryd.prog (givF e) [.agg [.int .i64 lo, .int .i64 hi]] (.int .i64 (gv e lo hi)) := by
  cases e
  · exact e2_spec lo hi
  · exact e1_spec lo hi
theorem endsV_spec : APure Tryd.prog 76 [] (.tup [endV false, endV true]) := ends_spec
theorem divideUp_spec (a k : Int) (h0 : 0 ≤ a ∧ a ≤ 1000000000000) (h1 : 1 ≤ k ∧ k ≤ 1000000) : APure Tryd.prog 122 [.int .i64 a, .int .i64 k] (.int .i64 (cdiv a k)) := by
  have w1 : IntKind.i64.wrap (a + k) = a + k := wrap64 (by omega) (by omega)
  have w2 : IntKind.i64.wrap (IntKind.i64.wrap (a + k) - 1) = a + k - 1 := by rw [w1, wrap64 (by omega) (by omega)]
  have hb : 0 ≤ (a + k - 1).tdiv k ∧ (a + k - 1).tdiv k ≤ a + k - 1 := by
    rw [Int.tdiv_eq_ediv_of_nonneg (by omega)]
    exact ⟨Int.ediv_nonneg (by omega) (by omega), Int.ediv_le_self _ (by omega)⟩
  have e : IntKind.i64.wrap ((IntKind.i64.wrap (IntKind.i64.wrap (a + k) - 1)).tdiv k) = cdiv a k := by rw [w2]; exact wrap64 (by omega) (by omega)
  exact APure.vc Tryd.func122 rfl (.nz .nil) rfl rfl ⟨by omega, rI e⟩
theorem cdiv_rng {a k : Int} (h0 : 0 ≤ a) (h1 : 1 ≤ k) : 0 ≤ cdiv a k ∧ cdiv a k ≤ a + k - 1 := by
  unfold cdiv
  rw [Int.tdiv_eq_ediv_of_nonneg (by omega)]
  exact ⟨Int.ediv_nonneg (by omega) (by omega), Int.ediv_le_self _ (by omega)⟩
/-- What tells how long somebody takes. -/
def takeCl (e : Bool) (b : Bdg) (w : List Wal) : AV := .fn (.func 121) [] [.cptr (endC e), .cptr (xC b w)]
theorem taking_spec (e : Bool) (b : Bdg) (w : List Wal) : APure Tryd.prog 115 [encX b w, endV e] (takeCl e b w) := by
  cases e <;> exact APure.vcT Tryd.func115 .nil rfl rfl ⟨[1, 0], by kernel_rfl⟩
theorem take1_spec (e : Bool) (b : Bdg) (ws : List Wal) (w : Wal) (c : Cha) (h0 : 0 ≤ w.ch) (hc : b.cs[w.ch.toNat]? = some c) (hw : 0 ≤ c.way ∧ c.way ≤ 100000) (hp : 100 ≤ w.pLo ∧ w.pLo ≤ w.pHi ∧ w.pHi ≤ 3000) (ht : 0 ≤ w.tLo ∧ w.tLo ≤ w.tHi ∧ w.tHi ≤ 3600) :
    APure Tryd.prog 121 [.agg (cWa w), .cptr (endC e), .cptr (xC b ws)] (.int .i64 (takeV e b w)) := by
  have s1 := tak_spec e w.tLo w.tHi
  have s2 := giv_spec e w.pLo w.pHi
  have hg : 1 ≤ gv e w.pLo w.pHi ∧ gv e w.pLo w.pHi ≤ 1000000 := by cases e <;> simp [gv] <;> omega
  have hk : 0 ≤ tk e w.tLo w.tHi ∧ tk e w.tLo w.tHi ≤ 3600 := by cases e <;> simp [tk] <;> omega
  have s3 := divideUp_spec c.way (gv e w.pLo w.pHi) (by omega) hg
  have hr := cdiv_rng (a := c.way) (k := gv e w.pLo w.pHi) (by omega) (by omega)
  have ec : chOf b w = c := by unfold chOf; rw [List.getD_eq_getElem?_getD, hc]; rfl
  have er : IntKind.i64.wrap (tk e w.tLo w.tHi + cdiv c.way (gv e w.pLo w.pHi)) = takeV e b w := by
    rw [wrap64 (by omega) (by omega)]; unfold takeV; rw [ec]
  have hi : 0 ≤ w.ch ∧ (b.cs.map cCh)[w.ch.toNat]? = some (cCh c) := ⟨h0, by rw [List.getElem?_map, hc]; rfl⟩
  generalize tk e w.tLo w.tHi = T at *
  generalize gv e w.pLo w.pHi = G at *
  cases e
  all_goals exact APure.vc Tryd.func121 rfl (.draw 18 <| .call (.int .i64 T) <| .cells (cCh c) <| .call (.int .i64 G) <| .call (.int .i64 (cdiv c.way G)) .nil) rfl rfl ⟨by kernel_rfl, mixed, by kernel_rfl, s1, hi, s2, by kernel_rfl, s3, rI er⟩
theorem drop_get {l r : List Int} {n : Nat} {x : Int} (h : l.drop n = x :: r) : l[n]? = some x := by
  have := congrArg (fun l => l[0]?) h
  simpa using this
theorem drop_succ {l r : List Int} {n : Nat} {x : Int} (h : l.drop n = x :: r) : l.drop (n + 1) = r := by
  have := congrArg (List.drop 1) h
  simpa [List.drop_drop, Nat.add_comm] using this
noncomputable def lvS (e : Bool) (b : Bdg) (ws : List Wal) (s : Sta) (come : List Int) (done : List Int) (free : Int) : St :=
  ⟨[(7, .vptr 1 0), (9, .rsl 4 0 done.length 1), (10, .vptr 2 0), (11, .int .i64 free), (21, encR come), (22, .int .i64 (come.map encI).length), (23, .int .i64 done.length)], [(0, .cells (xC b ws)), (1, .cells (endC e)), (2, .cells (cSt s)), (4, .cells (iL done))], 5⟩
theorem leaving_spec (e : Bool) (b : Bdg) (ws : List Wal) (k : Nat) (s : Sta) (come : List Int) (hs : b.ss[k]? = some s) (hg : 0 ≤ s.gap ∧ s.gap ≤ 60) (hw : 0 ≤ s.wLo ∧ s.wLo ≤ s.wHi ∧ s.wHi ≤ 600) (hl : come.length ≤ 1000) (hc : ∀ x ∈ come, 0 ≤ x ∧ x ≤ 1000000000) :
    APure Tryd.prog 106 [encX b ws, .int .i64 k, encR come, endV e] (encR (leaveV e s come)) := by
  have s1 := tak_spec e s.wLo s.wHi
  have hk : 0 ≤ tk e s.wLo s.wHi ∧ tk e s.wLo s.wHi ≤ 600 := by cases e <;> simp [tk] <;> omega
  have eR : leaveV e s come = leaveG s.gap (tk e s.wLo s.wHi) 0 come := rfl
  rw [eR]
  generalize tk e s.wLo s.wHi = T at *
  cases e
  · refine APure.vcM Tryd.func106 (.cells (cSt s) .loop) rfl rfl ⟨idx hs, ?_⟩
    intro g hn hlo
    replace hn : g.n = 46 := hn
    replace hlo : g.low 0 := hlo
    refine acode_whileW (fun q : List Int × Int × List Int => lvS false b ws s come q.1 q.2.1) (fun q => come.length = q.1.length + q.2.2.length ∧ come.drop q.1.length = q.2.2 ∧ leaveG s.gap T 0 come = q.1 ++ leaveG s.gap T q.2.1 q.2.2 ∧ 0 ≤ q.2.1 ∧ q.2.1 ≤ 1000000000 + 60 * (q.1.length : Int)) (fun q => q.2.2.length) ([], 0, come) ⟨by simp, rfl, rfl, Int.le_refl _, by simp⟩ ?_ ?_
    · refine Wk.trans (Wk.le ?_ (hlo.mono (Nat.zero_le _))) (Wk.own 9 1 (by kernel_rfl))
      exact St.le.of ⟨by kernel_rfl, rfl, by kernel_rfl, rfl, by kernel_rfl, rfl, by kernel_rfl, rfl, by kernel_rfl, rfl, by kernel_rfl, rfl, by kernel_rfl, rfl, trivial⟩ ⟨by kernel_rfl, (by decide : (0 : Nat) < 5), rfl, by kernel_rfl, (by decide : (1 : Nat) < 5), rfl, by kernel_rfl, (by decide : (2 : Nat) < 5), rfl, by kernel_rfl, (by decide : (4 : Nat) < 5), iL_ok _ _, trivial⟩
    · rintro ⟨done, free, rest⟩ ⟨i1, i2, i3, i4, i5⟩
      simp only at i1 i2 i3 i4 i5
      cases rest with
      | nil =>
        have hlt : ¬ done.length < come.length := by simp at i1; omega
        simp only [leaveG, List.append_nil] at i3
        have ht := thaw_fl (enc := encI) (n := 1) 6 (h := hget (lvS false b ws s come done free).H) (id := 4) (l := done) (fun _ => rfl) (fun _ => rfl) rfl
        rw [i3]
        exact ACode.vcM (.br 24 false .nil) hn hlo (.roundW .cl) ⟨geLen hlt, _, .refl _, .nil, [4], Eq.trans (by kernel_rfl) ht⟩
      | cons x rest =>
        have hx := drop_get i2
        have hlt : done.length < come.length := by simp at i1; omega
        obtain ⟨hx1, hx2⟩ := hc x (List.mem_of_getElem? hx)
        have hmx : (if free > x then free else x) = max x free := by rw [Int.max_def]; split <;> split <;> omega
        have ek := congrArg (AV.int .i64) (succ64 (k := done.length) (by omega))
        have e29 : some (⟨.int .i64 (if free > x then free else x), []⟩ : Out) = some ⟨.int .i64 (max x free), []⟩ := by rw [hmx]
        have hA : 0 ≤ max x free + s.gap := by omega
        have hB : max x free + s.gap ≤ 1000000000 + 60 * ((done ++ [max x free + T]).length : Int) := by simp only [List.length_append, List.length_singleton]; omega
        have e33 : some (⟨.int .i64 (IntKind.i64.wrap (max x free + s.gap)), []⟩ : Out) = some ⟨.int .i64 (max x free + s.gap), []⟩ := by rw [wrap64 (by omega) (by omega)]
        have e41 : some (⟨.int .i64 (IntKind.i64.wrap (max x free + T)), []⟩ : Out) = some ⟨.int .i64 (max x free + T), []⟩ := by rw [wrap64 (by omega) (by omega)]
        have ap := app_one (h := hget [(4, .cells (iL done)), (5, .cells [.int .i64 (max x free + T)])]) (i := 4) (j := 5) (nid := 6) (l := done) (x := max x free + T) rfl rfl (by omega)
        exact ACode.vcM (.br 24 true <| .cells (encI x) <| .val 29 (.int .i64 (max x free)) [] <| .val 33 (.int .i64 (max x free + s.gap)) [] <| .call (.int .i64 T) <| .val 41 (.int .i64 (max x free + T)) [] <| .val 43 (.rsl 6 0 (done.length + 1) 1) [(4, none), (6, some (.cells (iL (done ++ [max x free + T]))))] .nil) hn hlo (.roundW .cl)
          ⟨ltLen hlt, idx hx, Eq.trans (by kernel_rfl) e29, Eq.trans (by kernel_rfl) e33, s1, Eq.trans (by kernel_rfl) e41, Eq.trans (by kernel_rfl) ap, (done ++ [max x free + T], max x free + s.gap, rest),
            ⟨by simp at i1 ⊢; omega, by simp only [List.length_append, List.length_singleton]; exact drop_succ i2, by rw [i3]; simp [leaveG], hA, hB⟩, (Nat.lt_succ_self _ : rest.length < rest.length + 1),
            Wk.ren (c := 4) (b := 6) (St.ren.of rfl (by decide) ⟨.inl ⟨by kernel_rfl, rfl⟩, .inr ⟨0, done.length + 1, 1, by show AV.rsl 4 0 (done ++ [max x free + T]).length 1 = _; rw [List.length_append]; rfl, by kernel_rfl⟩, .inl ⟨by kernel_rfl, rfl⟩, .inl ⟨by kernel_rfl, rfl⟩, .inl ⟨by kernel_rfl, rfl⟩, .inl ⟨by kernel_rfl, rfl⟩, .inl ⟨Eq.trans (by kernel_rfl) (ek.trans (by rw [List.length_append]; rfl)), rfl⟩, trivial⟩
              ⟨.inl ⟨(by decide : (0 : Nat) < 4), by kernel_rfl, rfl⟩, .inl ⟨(by decide : (1 : Nat) < 4), by kernel_rfl, rfl⟩, .inl ⟨(by decide : (2 : Nat) < 4), by kernel_rfl, rfl⟩, .inr ⟨rfl, by kernel_rfl, _, rfl, iL_ok _ _⟩, trivial⟩) (hlo.mono (Nat.zero_le _))⟩
  · refine APure.vcM Tryd.func106 (.cells (cSt s) .loop) rfl rfl ⟨idx hs, ?_⟩
    intro g hn hlo
    replace hn : g.n = 46 := hn
    replace hlo : g.low 0 := hlo
    refine acode_whileW (fun q : List Int × Int × List Int => lvS true b ws s come q.1 q.2.1) (fun q => come.length = q.1.length + q.2.2.length ∧ come.drop q.1.length = q.2.2 ∧ leaveG s.gap T 0 come = q.1 ++ leaveG s.gap T q.2.1 q.2.2 ∧ 0 ≤ q.2.1 ∧ q.2.1 ≤ 1000000000 + 60 * (q.1.length : Int)) (fun q => q.2.2.length) ([], 0, come) ⟨by simp, rfl, rfl, Int.le_refl _, by simp⟩ ?_ ?_
    · refine Wk.trans (Wk.le ?_ (hlo.mono (Nat.zero_le _))) (Wk.own 9 1 (by kernel_rfl))
      exact St.le.of ⟨by kernel_rfl, rfl, by kernel_rfl, rfl, by kernel_rfl, rfl, by kernel_rfl, rfl, by kernel_rfl, rfl, by kernel_rfl, rfl, by kernel_rfl, rfl, trivial⟩ ⟨by kernel_rfl, (by decide : (0 : Nat) < 5), rfl, by kernel_rfl, (by decide : (1 : Nat) < 5), rfl, by kernel_rfl, (by decide : (2 : Nat) < 5), rfl, by kernel_rfl, (by decide : (4 : Nat) < 5), iL_ok _ _, trivial⟩
    · rintro ⟨done, free, rest⟩ ⟨i1, i2, i3, i4, i5⟩
      simp only at i1 i2 i3 i4 i5
      cases rest with
      | nil =>
        have hlt : ¬ done.length < come.length := by simp at i1; omega
        simp only [leaveG, List.append_nil] at i3
        have ht := thaw_fl (enc := encI) (n := 1) 6 (h := hget (lvS true b ws s come done free).H) (id := 4) (l := done) (fun _ => rfl) (fun _ => rfl) rfl
        rw [i3]
        exact ACode.vcM (.br 24 false .nil) hn hlo (.roundW .cl) ⟨geLen hlt, _, .refl _, .nil, [4], Eq.trans (by kernel_rfl) ht⟩
      | cons x rest =>
        have hx := drop_get i2
        have hlt : done.length < come.length := by simp at i1; omega
        obtain ⟨hx1, hx2⟩ := hc x (List.mem_of_getElem? hx)
        have hmx : (if free > x then free else x) = max x free := by rw [Int.max_def]; split <;> split <;> omega
        have ek := congrArg (AV.int .i64) (succ64 (k := done.length) (by omega))
        have e29 : some (⟨.int .i64 (if free > x then free else x), []⟩ : Out) = some ⟨.int .i64 (max x free), []⟩ := by rw [hmx]
        have hA : 0 ≤ max x free + s.gap := by omega
        have hB : max x free + s.gap ≤ 1000000000 + 60 * ((done ++ [max x free + T]).length : Int) := by simp only [List.length_append, List.length_singleton]; omega
        have e33 : some (⟨.int .i64 (IntKind.i64.wrap (max x free + s.gap)), []⟩ : Out) = some ⟨.int .i64 (max x free + s.gap), []⟩ := by rw [wrap64 (by omega) (by omega)]
        have e41 : some (⟨.int .i64 (IntKind.i64.wrap (max x free + T)), []⟩ : Out) = some ⟨.int .i64 (max x free + T), []⟩ := by rw [wrap64 (by omega) (by omega)]
        have ap := app_one (h := hget [(4, .cells (iL done)), (5, .cells [.int .i64 (max x free + T)])]) (i := 4) (j := 5) (nid := 6) (l := done) (x := max x free + T) rfl rfl (by omega)
        exact ACode.vcM (.br 24 true <| .cells (encI x) <| .val 29 (.int .i64 (max x free)) [] <| .val 33 (.int .i64 (max x free + s.gap)) [] <| .call (.int .i64 T) <| .val 41 (.int .i64 (max x free + T)) [] <| .val 43 (.rsl 6 0 (done.length + 1) 1) [(4, none), (6, some (.cells (iL (done ++ [max x free + T]))))] .nil) hn hlo (.roundW .cl)
          ⟨ltLen hlt, idx hx, Eq.trans (by kernel_rfl) e29, Eq.trans (by kernel_rfl) e33, s1, Eq.trans (by kernel_rfl) e41, Eq.trans (by kernel_rfl) ap, (done ++ [max x free + T], max x free + s.gap, rest),
            ⟨by simp at i1 ⊢; omega, by simp only [List.length_append, List.length_singleton]; exact drop_succ i2, by rw [i3]; simp [leaveG], hA, hB⟩, (Nat.lt_succ_self _ : rest.length < rest.length + 1),
            Wk.ren (c := 4) (b := 6) (St.ren.of rfl (by decide) ⟨.inl ⟨by kernel_rfl, rfl⟩, .inr ⟨0, done.length + 1, 1, by show AV.rsl 4 0 (done ++ [max x free + T]).length 1 = _; rw [List.length_append]; rfl, by kernel_rfl⟩, .inl ⟨by kernel_rfl, rfl⟩, .inl ⟨by kernel_rfl, rfl⟩, .inl ⟨by kernel_rfl, rfl⟩, .inl ⟨by kernel_rfl, rfl⟩, .inl ⟨Eq.trans (by kernel_rfl) (ek.trans (by rw [List.length_append]; rfl)), rfl⟩, trivial⟩
              ⟨.inl ⟨(by decide : (0 : Nat) < 4), by kernel_rfl, rfl⟩, .inl ⟨(by decide : (1 : Nat) < 4), by kernel_rfl, rfl⟩, .inl ⟨(by decide : (2 : Nat) < 4), by kernel_rfl, rfl⟩, .inr ⟨rfl, by kernel_rfl, _, rfl, iL_ok _ _⟩, trivial⟩) (hlo.mono (Nat.zero_le _))⟩
end Go.Proofs.YtiggnliiigcjaaaDoor
