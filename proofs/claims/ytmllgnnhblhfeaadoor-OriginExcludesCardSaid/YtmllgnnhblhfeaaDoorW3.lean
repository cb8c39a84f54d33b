import Derived.Test.YtmllgnnhblhfeaaDoorW2
/-
  WHETHER A SCENE IS VALID.
-/
namespace Go.Proofs.YtmllgnnhblhfeaaDoor
open Go Go.Am
set_option maxRecDepth 100000
set_option maxHeartbeats 4000000
theorem ltLenG {l : List Gt} {k : Nat} (h : k < l.length) : decide ((k : Int) < ((l.map cGt).length : Int)) = true := ltLen h
/-- Gates. -/
theorem areGates_spec (s : Scn) (hr : 1 ≤ s.rooms ∧ s.rooms ≤ 6) : APure Tryd.prog 62 [encSc s] (.bool (decide (s.gates.length ≤ 6) && s.gates.all (gtB s.rooms))) := by
  by_cases hlen : s.gates.length ≤ 6
  · have el : decide (((s.gates.map cGt).length : Int) > 6) = false := decide_eq_false (by rw [List.length_map]; omega)
    rw [decide_eq_true hlen, Bool.true_and]
    refine APure.vc Tryd.func62 rfl (.br 8 false .loop) rfl rfl ⟨el, ?_⟩
    intro g hn hl
    replace hn : g.n = 50 := hn
    replace hl : g.low 0 := hl
    refine acode_while (fun k : Nat => ⟨[(1, .vptr 0 0), (10, encGs s.gates), (11, .int .i64 (s.gates.map cGt).length), (12, .int .i64 k)], [(0, .cells (cSc s))], 1⟩) (fun k => k ≤ s.gates.length ∧ (s.gates.take k).all (gtB s.rooms) = true) (fun k => s.gates.length - k) 0 ⟨Nat.zero_le _, rfl⟩ ?_ (fun _ _ => hl.mono (Nat.zero_le _)) ?_
    · exact St.le.of ⟨by kernel_rfl, rfl, by kernel_rfl, rfl, by kernel_rfl, rfl, by kernel_rfl, rfl, trivial⟩ ⟨by kernel_rfl, (by decide : (0 : Nat) < 1), rfl, trivial⟩
    · rintro k ⟨hk1, hk2⟩
      by_cases hlt : k < s.gates.length
      · refine Exists.elim (getE hlt) fun x hx => ?_
        have ek := congrArg (AV.int .i64) (succ64 (k := k) (by omega))
        have ra := isRoom_spec s x.a ⟨by omega, by omega⟩
        have rb := isRoom_spec s x.b ⟨by omega, by omega⟩
        have sp := isSpan_spec 60 x.lo x.hi
        have bad : gtB s.rooms x = false → false = s.gates.all (gtB s.rooms) := fun h => (all_bad hx h).symm
        have good : gtB s.rooms x = true → (s.gates.take (k + 1)).all (gtB s.rooms) = true := fun h => by rw [take_all hx, hk2, h]; rfl
        cases h1 : isR s.rooms x.a
        · rw [h1] at ra
          have b1 := bad (by unfold gtB; rw [h1]; rfl)
          exact ACode.vc (.br 13 true <| .cells (cGt x) <| .call (.bool false) .nil) hn hl (.round .cl) ⟨ltLen hlt, idx hx, ra, _, .refl _, .nil, rB b1⟩
        · rw [h1] at ra
          cases h2 : isR s.rooms x.b
          · rw [h2] at rb
            have b1 := bad (by unfold gtB; rw [h1, h2]; rfl)
            exact ACode.vc (.br 13 true <| .cells (cGt x) <| .call (.bool true) <| .call (.bool false) .nil) hn hl (.round .cl) ⟨ltLen hlt, idx hx, ra, rb, _, .refl _, .nil, rB b1⟩
          · rw [h2] at rb
            cases h3 : (x.a == x.b)
            · cases h4 : spanB 60 x.lo x.hi
              · rw [h4] at sp
                have b1 := bad (by unfold gtB; rw [h1, h2, h3, h4]; rfl)
                exact ACode.vc (.br 13 true <| .cells (cGt x) <| .call (.bool true) <| .call (.bool true) <| .br 34 false <| .call (.bool false) .nil) hn hl (.round .cl) ⟨ltLen hlt, idx hx, ra, rb, h3, sp, _, .refl _, .nil, rB b1⟩
              · rw [h4] at sp
                have hs := h4
                simp only [spanB, Bool.and_eq_true, inB_iff, decide_eq_true_eq] at hs
                have ew : decide (IntKind.i64.wrap (x.hi - x.lo) > 2) = decide (x.hi - x.lo > 2) := by rw [wrap64 (by omega) (by omega)]
                cases h5 : decide (x.hi - x.lo > 2)
                · rw [h5] at ew
                  have g1 := good (by unfold gtB; rw [h1, h2, h3, h4, h5]; rfl)
                  exact ACode.vc (.br 13 true <| .cells (cGt x) <| .call (.bool true) <| .call (.bool true) <| .br 34 false <| .call (.bool true) <| .br 48 false .nil) hn hl (.round .cl) ⟨ltLen hlt, idx hx, ra, rb, h3, sp, ew, k + 1, ⟨hlt, g1⟩, mu1 hlt,
                    St.le.of ⟨by kernel_rfl, rfl, by kernel_rfl, rfl, by kernel_rfl, rfl, Eq.trans (by kernel_rfl) ek, rfl, trivial⟩ ⟨by kernel_rfl, (by decide : (0 : Nat) < 1), rfl, trivial⟩⟩
                · rw [h5] at ew
                  have b1 := bad (by unfold gtB; rw [h1, h2, h3, h4, h5]; rfl)
                  exact ACode.vc (.br 13 true <| .cells (cGt x) <| .call (.bool true) <| .call (.bool true) <| .br 34 false <| .call (.bool true) <| .br 48 true .nil) hn hl (.round .cl) ⟨ltLen hlt, idx hx, ra, rb, h3, sp, ew, _, .refl _, .nil, rB b1⟩
            · have b1 := bad (by unfold gtB; rw [h1, h2, h3]; rfl)
              exact ACode.vc (.br 13 true <| .cells (cGt x) <| .call (.bool true) <| .call (.bool true) <| .br 34 true .nil) hn hl (.round .cl) ⟨ltLen hlt, idx hx, ra, rb, h3, _, .refl _, .nil, rB b1⟩
      · have hk' : k = s.gates.length := by omega
        have e : true = s.gates.all (gtB s.rooms) := by rw [hk', List.take_length] at hk2; exact hk2.symm
        exact ACode.vc (.br 13 false .nil) hn hl (.round .cl) ⟨geLen hlt, _, .refl _, .nil, rB e⟩
  · have el : decide (((s.gates.map cGt).length : Int) > 6) = true := decide_eq_true (by rw [List.length_map]; omega)
    rw [decide_eq_false hlen, Bool.false_and]
    exact APure.vc Tryd.func62 rfl (.br 8 true .nil) rfl rfl ⟨el, rB rfl⟩
/-- Marks. -/
theorem areMarks_spec (s : Scn) (hr : 1 ≤ s.rooms ∧ s.rooms ≤ 6) : APure Tryd.prog 63 [encSc s] (.bool (decide (s.marks.length ≤ 8) && marksB s.rooms 0 s.marks)) := by
  by_cases hlen : s.marks.length ≤ 8
  · have el : decide (((s.marks.map cMk).length : Int) > 8) = false := decide_eq_false (by rw [List.length_map]; omega)
    rw [decide_eq_true hlen, Bool.true_and]
    refine APure.vc Tryd.func63 rfl (.br 9 false .loop) rfl rfl ⟨el, ?_⟩
    intro g hn hl
    replace hn : g.n = 40 := hn
    replace hl : g.low 0 := hl
    refine acode_while (fun k : Nat × Int => ⟨[(1, .vptr 0 0), (3, .int .i64 k.2), (11, encMs s.marks), (12, .int .i64 (s.marks.map cMk).length), (13, .int .i64 k.1)], [(0, .cells (cSc s))], 1⟩) (fun k => (k.1 ≤ s.marks.length ∧ 0 ≤ k.2) ∧ marksB s.rooms 0 s.marks = marksB s.rooms k.2 (s.marks.drop k.1)) (fun k => s.marks.length - k.1) (0, 0) ⟨⟨Nat.zero_le _, Int.le_refl _⟩, rfl⟩ ?_ (fun _ _ => hl.mono (Nat.zero_le _)) ?_
    · exact St.le.of ⟨by kernel_rfl, rfl, by kernel_rfl, rfl, by kernel_rfl, rfl, by kernel_rfl, rfl, by kernel_rfl, rfl, trivial⟩ ⟨by kernel_rfl, (by decide : (0 : Nat) < 1), rfl, trivial⟩
    · rintro ⟨k, L⟩ ⟨⟨hk1, hL⟩, hk2⟩
      replace hk1 : k ≤ s.marks.length := hk1
      replace hL : 0 ≤ L := hL
      replace hk2 : marksB s.rooms 0 s.marks = marksB s.rooms L (s.marks.drop k) := hk2
      by_cases hlt : k < s.marks.length
      · refine Exists.elim (getE hlt) fun x hx => ?_
        have ek := congrArg (AV.int .i64) (succ64 (k := k) (by omega))
        have w := within_spec L 9999 x.id
        have rm := isRoom_spec s x.room ⟨by omega, by omega⟩
        have us := uses_spec s ⟨by omega, by omega⟩ x
        rw [drop_cons hx] at hk2
        replace hk2 : marksB s.rooms 0 s.marks = (inB L 9999 x.id && ((isR s.rooms x.room && usB s.rooms x) && marksB s.rooms (x.id + 1) (s.marks.drop (k + 1)))) := hk2
        cases h1 : inB L 9999 x.id
        · rw [h1] at w hk2
          exact ACode.vc (.br 14 true <| .cells (cMk x) <| .call (.bool false) .nil) hn hl (.round .cl) ⟨ltLen hlt, idx hx, w, _, .refl _, .nil, rB hk2.symm⟩
        · rw [h1] at w hk2
          cases h2 : isR s.rooms x.room
          · rw [h2] at rm hk2
            exact ACode.vc (.br 14 true <| .cells (cMk x) <| .call (.bool true) <| .call (.bool false) .nil) hn hl (.round .cl) ⟨ltLen hlt, idx hx, w, rm, _, .refl _, .nil, rB hk2.symm⟩
          · rw [h2] at rm hk2
            cases h3 : usB s.rooms x
            · rw [h3] at us hk2
              exact ACode.vc (.br 14 true <| .cells (cMk x) <| .call (.bool true) <| .call (.bool true) <| .call (.bool false) .nil) hn hl (.round .cl) ⟨ltLen hlt, idx hx, w, rm, us, _, .refl _, .nil, rB hk2.symm⟩
            · rw [h3] at us hk2
              have hid := inB_iff.1 h1
              have ei : IntKind.i64.wrap (x.id + 1) = x.id + 1 := wrap64 (by omega) (by omega)
              have ev := congrArg (AV.int .i64) ei
              exact ACode.vc (.br 14 true <| .cells (cMk x) <| .call (.bool true) <| .call (.bool true) <| .call (.bool true) .nil) hn hl (.round .cl) ⟨ltLen hlt, idx hx, w, rm, us, (k + 1, x.id + 1), ⟨⟨hlt, by show 0 ≤ x.id + 1; omega⟩, hk2⟩, mu1 hlt,
                St.le.of ⟨by kernel_rfl, rfl, Eq.trans (by kernel_rfl) ev, rfl, by kernel_rfl, rfl, by kernel_rfl, rfl, Eq.trans (by kernel_rfl) ek, rfl, trivial⟩ ⟨by kernel_rfl, (by decide : (0 : Nat) < 1), rfl, trivial⟩⟩
      · have hk' : k = s.marks.length := by omega
        have e : true = marksB s.rooms 0 s.marks := by rw [hk2, hk', List.drop_length]; rfl
        exact ACode.vc (.br 14 false .nil) hn hl (.round .cl) ⟨geLen hlt, _, .refl _, .nil, rB e⟩
  · have el : decide (((s.marks.map cMk).length : Int) > 8) = true := decide_eq_true (by rw [List.length_map]; omega)
    rw [decide_eq_false hlen, Bool.false_and]
    exact APure.vc Tryd.func63 rfl (.br 9 true .nil) rfl rfl ⟨el, rB rfl⟩
theorem isScene_spec (s : Scn) : APure Tryd.prog 36 [encSc s] (.bool (scB s)) := by
  have w1 := within_spec 1 6 s.rooms
  have w2 := within_spec 0 600 s.fin
  have u := upTo_spec 600
  have eq : scB s = (inB 1 6 s.rooms && (inB 0 600 s.fin && ((decide (s.gates.length ≤ 6) && s.gates.all (gtB s.rooms)) && (decide (s.marks.length ≤ 8) && marksB s.rooms 0 s.marks)))) := rfl
  rw [eq]
  cases h1 : inB 1 6 s.rooms
  · rw [h1] at w1
    exact APure.vc Tryd.func36 rfl (.draw 8 <| .call (.bool false) .nil) rfl rfl ⟨by kernel_rfl, mixed, by kernel_rfl, w1, by kernel_rfl, rB rfl⟩
  · rw [h1] at w1
    have hr := inB_iff.1 h1
    cases h2 : inB 0 600 s.fin
    · rw [h2] at w2
      exact APure.vc Tryd.func36 rfl (.draw 8 <| .call (.bool true) <| .call (.agg [.int .i64 0, .int .i64 600]) <| .call (.bool false) .nil) rfl rfl ⟨by kernel_rfl, mixed, by kernel_rfl, w1, u, by kernel_rfl, w2, rB rfl⟩
    · rw [h2] at w2
      have ga := areGates_spec s hr
      have ma := areMarks_spec s hr
      cases h3 : (decide (s.gates.length ≤ 6) && s.gates.all (gtB s.rooms))
      · rw [h3] at ga
        exact APure.vc Tryd.func36 rfl (.draw 8 <| .call (.bool true) <| .call (.agg [.int .i64 0, .int .i64 600]) <| .call (.bool true) <| .call (.bool false) .nil) rfl rfl ⟨by kernel_rfl, mixed, by kernel_rfl, w1, u, by kernel_rfl, w2, ga, rB rfl⟩
      · rw [h3] at ga
        exact APure.vc Tryd.func36 rfl (.draw 8 <| .call (.bool true) <| .call (.agg [.int .i64 0, .int .i64 600]) <| .call (.bool true) <| .call (.bool true) <| .call (.bool (decide (s.marks.length ≤ 8) && marksB s.rooms 0 s.marks)) .nil) rfl rfl ⟨by kernel_rfl, mixed, by kernel_rfl, w1, u, by kernel_rfl, w2, ga, ma, rB rfl⟩
theorem Check_spec (s : Scn) : APure Tryd.prog 21 [encSc s] (.int .i64 (ckE s)) := by
  have i := isScene_spec s
  unfold ckE
  cases h : scB s
  · rw [h] at i
    exact APure.vc Tryd.func21 rfl (.call (.bool false) .nil) rfl rfl ⟨i, rI rfl⟩
  · rw [h] at i
    exact APure.vc Tryd.func21 rfl (.call (.bool true) .nil) rfl rfl ⟨i, rI rfl⟩
theorem scB_rooms {s : Scn} (h : scB s = true) : -1000000 ≤ s.rooms ∧ s.rooms ≤ 1000000 := by
  have := (scB_iff.1 h).rooms; omega
theorem checkRoom_spec (s : Scn) (x : Int) : APure Tryd.prog 12 [encSc s, .int .i64 x] (.int .i64 (rmE s x)) := by
  have c := Check_spec s
  unfold ckE at c
  unfold rmE
  cases h : scB s
  · rw [h] at c
    exact APure.vc Tryd.func12 rfl (.call (.int .i64 90) .nil) rfl rfl ⟨c, rI rfl⟩
  · rw [h] at c
    have r := isRoom_spec s x (scB_rooms h)
    cases hr : isR s.rooms x
    · rw [hr] at r
      exact APure.vc Tryd.func12 rfl (.call (.int .i64 0) <| .call (.bool false) .nil) rfl rfl ⟨c, r, rI rfl⟩
    · rw [hr] at r
      exact APure.vc Tryd.func12 rfl (.call (.int .i64 0) <| .call (.bool true) .nil) rfl rfl ⟨c, r, rI rfl⟩
end Go.Proofs.YtmllgnnhblhfeaaDoor
