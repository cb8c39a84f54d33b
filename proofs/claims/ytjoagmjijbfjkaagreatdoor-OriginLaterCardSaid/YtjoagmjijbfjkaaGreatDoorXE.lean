import Derived.Test.YtjoagmjijbfjkaaGreatDoorW8
/-
  WHETHER MARKS EXCLUDE A ROOM.
-/
namespace Go.Proofs.YtjoagmjijbfjkaaGreatDoor
open Go Go.Am
set_option maxRecDepth 100000
set_option maxHeartbeats 4000000
noncomputable def asgE : Code := rfA Tryz.f76
noncomputable def bodE : Code := rfB Tryz.f76
theorem excl_of (s : Scn) (hs : ScOk s) (crs : List Crs) (hcr : ∀ c ∈ crs, CrOk s c) (hlen : crs.length ≤ 1000) (room set : Nat) (hroom : room < nR s) (hset : set < 4096) :
    APure Tryz.prog 76 [encX s crs, .int .i64 (set : Int), .int .i64 (room : Int)] (.bool (crs.filterMap (trC s.fin s.marks room set)).isEmpty) := by
  have hml := hs.ml
  have hn6 := nR_eq hs
  refine APure.vcM Tryz.func76 (.val 7 (encX s crs) [] <| .call (.fn (.func 99) [] [.cptr (cXa s (encCs crs)), .cptr [.int .i64 (room : Int)], .cptr [.int .i64 (set : Int)]]) <| .inl Tryz.f99 .loop) (by kernel_rfl) rfl ⟨by kernel_rfl, truths_spec s crs room set, Tryz.func99, ?_⟩
  intro g hn hlo
  replace hn : g.n = 75 := hn
  replace hlo : g.low 3 := hlo
  refine acode_whileW (fun k : Nat => ⟨[(0, .yld 2), (1, .cptr (cXa s (encCs crs))), (2, .cptr [.int .i64 (room : Int)]), (3, .cptr [.int .i64 (set : Int)]), (12, encCs crs), (13, .int .i64 (crs.map cCr).length), (14, .int .i64 k)], [(1, .cells [.bool false]), (2, .loop ⟨.ready, none, 12, [(6, .vptr 1 0)], #[11], asgE, bodE⟩)], 3⟩) (fun k => k ≤ crs.length ∧ ∀ x ∈ crs.take k, trC s.fin s.marks room set x = none) (fun k => crs.length - k) 0 ⟨Nat.zero_le _, fun x hx => by simp at hx⟩ ?_ ?_
  · refine Wk.trans (Wk.le ?_ (hlo.mono (show 3 ≤ 3 by decide))) (Wk.loopEnv (id := 2) (n := 3) [(6, .vptr 1 0)] rfl ⟨rfl, rfl, trivial⟩)
    exact St.le.of ⟨by kernel_rfl, (by kernel_rfl), by kernel_rfl, (by kernel_rfl), by kernel_rfl, (by kernel_rfl), by kernel_rfl, (by kernel_rfl), by kernel_rfl, (by kernel_rfl), by kernel_rfl, (by kernel_rfl), by kernel_rfl, rfl, trivial⟩ ⟨by kernel_rfl, (by decide : (1 : Nat) < 3), rfl, by kernel_rfl, (by decide : (2 : Nat) < 3), (by kernel_rfl), trivial⟩
  · rintro k ⟨hk1, hall⟩
    replace hk1 : k ≤ crs.length := hk1
    by_cases hlt : k < crs.length
    · refine Exists.elim (getE hlt) fun c hck => ?_
      have hco := hcr c (List.mem_of_getElem? hck)
      have ek := congrArg (AV.int .i64) (succ64 (k := k) (by omega))
      have xr := ixTabO (h := hget []) (id := 3) (off := 1) (i := (room : Int)) rfl (show room < 6 by omega)
      have lr := ldRowC (h := hget [(3, .cells (cCr c))]) (id := 3) (c := c) rfl (show room < 6 by omega)
      refine ACode.vcM (.br 15 true <| .cells (cCr c) <| .val 17 (.agg (cCr c)) [] <| .val 6 (.vptr 3 0) [(3, some (.cells zC))] <| .val 1 .undef [(3, some (.cells (cCr c)))] <| .draw 11 <| .call (.agg [.int .i64 0, .int .i64 s.fin]) <| .val 24 (.vptr 3 (1 + 12 * room)) [] <| .val 25 (.agg (cRow (c.2 room))) [] <| .val 8 (.vptr 14 0) [(14, some (.cells (cRow (fun _ => some 0))))] <| .val 1 .undef [(13, some (.cells (cSp (0, s.fin))))] <| .val 1 .undef [(14, some (.cells (cRow (c.2 room))))] <| .loop) hn hlo (.roundW .cl) ⟨ltLen hlt, idx hck, by kernel_rfl, by kernel_rfl, by kernel_rfl, by kernel_rfl, mixed, by kernel_rfl, upTo_spec s.fin, Eq.trans (by kernel_rfl) xr, Eq.trans (by kernel_rfl) lr, by kernel_rfl, by kernel_rfl, by kernel_rfl, by kernel_rfl, ?_⟩
      clear xr lr
      have hloO := hlo
      intro g hn hlo
      replace hn : g.n = 75 := hn
      replace hlo : g.low 3 := hlo
      refine acode_whileW (fun i : Nat => ⟨[(0, .yld 2), (1, .cptr (cXa s (encCs crs))), (2, .cptr [.int .i64 (room : Int)]), (3, .cptr [.int .i64 (set : Int)]), (12, encCs crs), (13, .int .i64 (crs.map cCr).length), (14, .int .i64 k), (6, .vptr 3 0), (7, .vptr 13 0), (8, .vptr 14 0), (28, encMs s.marks), (29, .int .i64 (s.marks.map cMk).length), (30, .int .i64 i)], [(1, .cells [.bool false]), (2, .loop ⟨.ready, none, 12, [(6, .vptr 1 0)], #[11], asgE, bodE⟩), (3, .cells (cCr c)), (13, .cells (cSp (winM s.fin (c.2 room) (s.marks.take i) set))), (14, .cells (cRow (c.2 room)))], 15⟩) (fun i => i ≤ s.marks.length ∧ okW (winM s.fin (c.2 room) (s.marks.take i) set) = true) (fun i => s.marks.length - i) 0 ⟨Nat.zero_le _, decide_eq_true hs.fin.1⟩ ?_ ?_
      · exact Wk.le (St.le.of ⟨by kernel_rfl, (by kernel_rfl), by kernel_rfl, (by kernel_rfl), by kernel_rfl, (by kernel_rfl), by kernel_rfl, (by kernel_rfl), by kernel_rfl, (by kernel_rfl), by kernel_rfl, (by kernel_rfl), by kernel_rfl, (by kernel_rfl), by kernel_rfl, (by kernel_rfl), by kernel_rfl, (by kernel_rfl), by kernel_rfl, (by kernel_rfl), by kernel_rfl, (by kernel_rfl), by kernel_rfl, (by kernel_rfl), by kernel_rfl, rfl, trivial⟩ ⟨by kernel_rfl, (by decide : (1 : Nat) < 15), rfl, by kernel_rfl, (by decide : (2 : Nat) < 15), (by kernel_rfl), by kernel_rfl, (by decide : (3 : Nat) < 15), (by kernel_rfl), by kernel_rfl, (by decide : (13 : Nat) < 15), rfl, by kernel_rfl, (by decide : (14 : Nat) < 15), (by kernel_rfl), trivial⟩) (hlo.mono (show 3 ≤ 15 by decide))
      · rintro i ⟨hi1, hi2⟩
        replace hi1 : i ≤ s.marks.length := hi1
        by_cases hlti : i < s.marks.length
        · refine Exists.elim (getE hlti) fun m hmi => ?_
          have ei := congrArg (AV.int .i64) (succ64 (k := i) (by omega))
          have sh := bShlO (k := i) (by omega)
          have hb0 := bHas0 (S := set) (i := i) hset (by omega)
          refine (Bool.eq_false_or_eq_true (set.testBit i)).symm.elim (fun hbit => ?_) (fun hbit => ?_)
          · rw [hbit] at hb0
            have ewin := win_no (s := s) (c := c) (room := room) hmi hbit
            have eW : some (AObj.cells (cSp (winM s.fin (c.2 room) (s.marks.take i) set))) = some (.cells (cSp (winM s.fin (c.2 room) (s.marks.take (i + 1)) set))) := by rw [ewin]
            have hk2 : okW (winM s.fin (c.2 room) (s.marks.take (i + 1)) set) = true := by rw [ewin]; exact hi2
            exact ACode.vcM (.br 31 true <| .cells (cMk m) <| .draw 3 <| .val 37 (.int .i64 ((2 ^ i : Nat) : Int)) [] <| .br 39 true .nil) hn hlo (.roundW .cl) ⟨ltLen hlti, idx hmi, by kernel_rfl, mixed, by kernel_rfl, Eq.trans (by kernel_rfl) sh, by kernel_rfl, hb0, i + 1, ⟨hlti, hk2⟩, mu1 hlti,
              Wk.le (St.le.of ⟨by kernel_rfl, (by kernel_rfl), by kernel_rfl, (by kernel_rfl), by kernel_rfl, (by kernel_rfl), by kernel_rfl, (by kernel_rfl), by kernel_rfl, (by kernel_rfl), by kernel_rfl, (by kernel_rfl), by kernel_rfl, (by kernel_rfl), by kernel_rfl, (by kernel_rfl), by kernel_rfl, (by kernel_rfl), by kernel_rfl, (by kernel_rfl), by kernel_rfl, (by kernel_rfl), by kernel_rfl, (by kernel_rfl), Eq.trans (by kernel_rfl) ei, rfl, trivial⟩ ⟨by kernel_rfl, (by decide : (1 : Nat) < 15), rfl, by kernel_rfl, (by decide : (2 : Nat) < 15), (by kernel_rfl), by kernel_rfl, (by decide : (3 : Nat) < 15), (by kernel_rfl), Eq.trans (by kernel_rfl) eW, (by decide : (13 : Nat) < 15), rfl, by kernel_rfl, (by decide : (14 : Nat) < 15), (by kernel_rfl), trivial⟩) (hlo.mono (show 3 ≤ 15 by decide))⟩
          · rw [hbit] at hb0
            refine Exists.elim (mk_facts hs hco hroom hmi hbit) fun SY mf => ?_
            have x1 := ixRow (h := hget []) (id := 14) (off := 0) mf.room.1 mf.room.2
            have x2 := ixRow (h := hget []) (id := 14) (off := 0) mf.other.1 mf.other.2
            have l1 := ldRow (h := hget [(14, .cells (cRow (c.2 room)))]) (id := 14) (f := c.2 room) rfl mf.room.2
            have l2 := ldRow (h := hget [(14, .cells (cRow (c.2 room)))]) (id := 14) (f := c.2 room) rfl mf.other.2
            have ov := mf.ov
            have eM := mf.cell
            have hmi2 : (0 : Int) ≤ (i : Int) ∧ (s.marks.map cMk)[(i : Int).toNat]? = some (cMk m) := idx hmi
            have hnx := gtr_ok (winM s.fin (c.2 room) (s.marks.take (i + 1)) set)
            refine Or.elim mf.say (fun hsy => ?_) (fun sayC => ?_)
            · have hj := hsy.1
              have sy := hsy.2
              refine (Bool.eq_false_or_eq_true (okW (winM s.fin (c.2 room) (s.marks.take (i + 1)) set))).symm.elim (fun hok => ?_) (fun hok => ?_)
              · rw [hok] at hnx
                have hbad := win_bad hok
                have hall2 : ∀ x ∈ crs.take (k + 1), trC s.fin s.marks room set x = none := fun x hx => by
                  rw [take_snoc hck] at hx
                  rcases List.mem_append.1 hx with hx | hx
                  · exact hall x hx
                  · rw [List.mem_singleton] at hx; subst hx; unfold trC; rw [hbad]; rfl
                exact ACode.vcM (.br 31 true <| .cells (cMj m.id 1 m.room m.other m.lo m.hi m.long) <| .draw 3 <| .val 37 (.int .i64 ((2 ^ i : Nat) : Int)) [] <| .br 39 false <| .draw 20 <| .val 43 (.cptr (kdL ++ [encCs crs])) [] <| .val 44 (.cptr ((kdL ++ [encCs crs]).drop 4)) [] <| .val 45 (.cptr ((kdL ++ [encCs crs]).drop 7)) [] <| .val 46 (kdF 84) [] <| .val 53 (.vptr 14 (0 + 2 * (mrk m).room)) [] <| .val 54 (encTm (c.2 room (mrk m).room)) [] <| .val 57 (.vptr 14 (0 + 2 * (mrk m).other)) [] <| .val 58 (encTm (c.2 room (mrk m).other)) [] <| .call (encSp SY) <| .call (encSp (winM s.fin (c.2 room) (s.marks.take (i + 1)) set)) <| .br 65 true .nil) hn hlo (.roundW .cl) ⟨ltLen hlti, ⟨hmi2.1, hmi2.2.trans (eM 1 hj)⟩, by kernel_rfl, mixed, by kernel_rfl, Eq.trans (by kernel_rfl) sh, by kernel_rfl, hb0, by kernel_rfl, mixed, by kernel_rfl, by kernel_rfl, by kernel_rfl, by kernel_rfl, by kernel_rfl, Eq.trans (by kernel_rfl) x1, Eq.trans (by kernel_rfl) l1, Eq.trans (by kernel_rfl) x2, Eq.trans (by kernel_rfl) l2, sy, by kernel_rfl, ov, hnx, _, .refl _, .nil, k + 1, ⟨hlt, hall2⟩, mu1 hlt, Wk.le (St.le.of ⟨by kernel_rfl, (by kernel_rfl), by kernel_rfl, (by kernel_rfl), by kernel_rfl, (by kernel_rfl), by kernel_rfl, (by kernel_rfl), by kernel_rfl, (by kernel_rfl), by kernel_rfl, (by kernel_rfl), Eq.trans (by kernel_rfl) ek, rfl, trivial⟩ ⟨by kernel_rfl, (by decide : (1 : Nat) < 3), rfl, by kernel_rfl, (by decide : (2 : Nat) < 3), (by kernel_rfl), trivial⟩) (hloO.mono (show 3 ≤ 3 by decide))⟩
              · rw [hok] at hnx
                exact ACode.vcM (.br 31 true <| .cells (cMj m.id 1 m.room m.other m.lo m.hi m.long) <| .draw 3 <| .val 37 (.int .i64 ((2 ^ i : Nat) : Int)) [] <| .br 39 false <| .draw 20 <| .val 43 (.cptr (kdL ++ [encCs crs])) [] <| .val 44 (.cptr ((kdL ++ [encCs crs]).drop 4)) [] <| .val 45 (.cptr ((kdL ++ [encCs crs]).drop 7)) [] <| .val 46 (kdF 84) [] <| .val 53 (.vptr 14 (0 + 2 * (mrk m).room)) [] <| .val 54 (encTm (c.2 room (mrk m).room)) [] <| .val 57 (.vptr 14 (0 + 2 * (mrk m).other)) [] <| .val 58 (encTm (c.2 room (mrk m).other)) [] <| .call (encSp SY) <| .call (encSp (winM s.fin (c.2 room) (s.marks.take (i + 1)) set)) <| .br 65 false .nil) hn hlo (.roundW .cl) ⟨ltLen hlti, ⟨hmi2.1, hmi2.2.trans (eM 1 hj)⟩, by kernel_rfl, mixed, by kernel_rfl, Eq.trans (by kernel_rfl) sh, by kernel_rfl, hb0, by kernel_rfl, mixed, by kernel_rfl, by kernel_rfl, by kernel_rfl, by kernel_rfl, by kernel_rfl, Eq.trans (by kernel_rfl) x1, Eq.trans (by kernel_rfl) l1, Eq.trans (by kernel_rfl) x2, Eq.trans (by kernel_rfl) l2, sy, by kernel_rfl, ov, hnx, i + 1, ⟨hlti, hok⟩, mu1 hlti,
                  Wk.le (St.le.of ⟨by kernel_rfl, (by kernel_rfl), by kernel_rfl, (by kernel_rfl), by kernel_rfl, (by kernel_rfl), by kernel_rfl, (by kernel_rfl), by kernel_rfl, (by kernel_rfl), by kernel_rfl, (by kernel_rfl), by kernel_rfl, (by kernel_rfl), by kernel_rfl, (by kernel_rfl), by kernel_rfl, (by kernel_rfl), by kernel_rfl, (by kernel_rfl), by kernel_rfl, (by kernel_rfl), by kernel_rfl, (by kernel_rfl), Eq.trans (by kernel_rfl) ei, rfl, trivial⟩ ⟨by kernel_rfl, (by decide : (1 : Nat) < 15), rfl, by kernel_rfl, (by decide : (2 : Nat) < 15), (by kernel_rfl), by kernel_rfl, (by decide : (3 : Nat) < 15), (by kernel_rfl), by kernel_rfl, (by decide : (13 : Nat) < 15), rfl, by kernel_rfl, (by decide : (14 : Nat) < 15), (by kernel_rfl), trivial⟩) (hlo.mono (show 3 ≤ 15 by decide))⟩
            refine Or.elim sayC (fun hsy => ?_) (fun sayC => ?_)
            · have hj := hsy.1
              have sy := hsy.2
              refine (Bool.eq_false_or_eq_true (okW (winM s.fin (c.2 room) (s.marks.take (i + 1)) set))).symm.elim (fun hok => ?_) (fun hok => ?_)
              · rw [hok] at hnx
                have hbad := win_bad hok
                have hall2 : ∀ x ∈ crs.take (k + 1), trC s.fin s.marks room set x = none := fun x hx => by
                  rw [take_snoc hck] at hx
                  rcases List.mem_append.1 hx with hx | hx
                  · exact hall x hx
                  · rw [List.mem_singleton] at hx; subst hx; unfold trC; rw [hbad]; rfl
                exact ACode.vcM (.br 31 true <| .cells (cMj m.id 2 m.room m.other m.lo m.hi m.long) <| .draw 3 <| .val 37 (.int .i64 ((2 ^ i : Nat) : Int)) [] <| .br 39 false <| .draw 20 <| .val 43 (.cptr (kdL ++ [encCs crs])) [] <| .val 44 (.cptr ((kdL ++ [encCs crs]).drop 8)) [] <| .val 45 (.cptr ((kdL ++ [encCs crs]).drop 11)) [] <| .val 46 (kdF 86) [] <| .val 53 (.vptr 14 (0 + 2 * (mrk m).room)) [] <| .val 54 (encTm (c.2 room (mrk m).room)) [] <| .val 57 (.vptr 14 (0 + 2 * (mrk m).other)) [] <| .val 58 (encTm (c.2 room (mrk m).other)) [] <| .call (encSp SY) <| .call (encSp (winM s.fin (c.2 room) (s.marks.take (i + 1)) set)) <| .br 65 true .nil) hn hlo (.roundW .cl) ⟨ltLen hlti, ⟨hmi2.1, hmi2.2.trans (eM 2 hj)⟩, by kernel_rfl, mixed, by kernel_rfl, Eq.trans (by kernel_rfl) sh, by kernel_rfl, hb0, by kernel_rfl, mixed, by kernel_rfl, by kernel_rfl, by kernel_rfl, by kernel_rfl, by kernel_rfl, Eq.trans (by kernel_rfl) x1, Eq.trans (by kernel_rfl) l1, Eq.trans (by kernel_rfl) x2, Eq.trans (by kernel_rfl) l2, sy, by kernel_rfl, ov, hnx, _, .refl _, .nil, k + 1, ⟨hlt, hall2⟩, mu1 hlt, Wk.le (St.le.of ⟨by kernel_rfl, (by kernel_rfl), by kernel_rfl, (by kernel_rfl), by kernel_rfl, (by kernel_rfl), by kernel_rfl, (by kernel_rfl), by kernel_rfl, (by kernel_rfl), by kernel_rfl, (by kernel_rfl), Eq.trans (by kernel_rfl) ek, rfl, trivial⟩ ⟨by kernel_rfl, (by decide : (1 : Nat) < 3), rfl, by kernel_rfl, (by decide : (2 : Nat) < 3), (by kernel_rfl), trivial⟩) (hloO.mono (show 3 ≤ 3 by decide))⟩
              · rw [hok] at hnx
                exact ACode.vcM (.br 31 true <| .cells (cMj m.id 2 m.room m.other m.lo m.hi m.long) <| .draw 3 <| .val 37 (.int .i64 ((2 ^ i : Nat) : Int)) [] <| .br 39 false <| .draw 20 <| .val 43 (.cptr (kdL ++ [encCs crs])) [] <| .val 44 (.cptr ((kdL ++ [encCs crs]).drop 8)) [] <| .val 45 (.cptr ((kdL ++ [encCs crs]).drop 11)) [] <| .val 46 (kdF 86) [] <| .val 53 (.vptr 14 (0 + 2 * (mrk m).room)) [] <| .val 54 (encTm (c.2 room (mrk m).room)) [] <| .val 57 (.vptr 14 (0 + 2 * (mrk m).other)) [] <| .val 58 (encTm (c.2 room (mrk m).other)) [] <| .call (encSp SY) <| .call (encSp (winM s.fin (c.2 room) (s.marks.take (i + 1)) set)) <| .br 65 false .nil) hn hlo (.roundW .cl) ⟨ltLen hlti, ⟨hmi2.1, hmi2.2.trans (eM 2 hj)⟩, by kernel_rfl, mixed, by kernel_rfl, Eq.trans (by kernel_rfl) sh, by kernel_rfl, hb0, by kernel_rfl, mixed, by kernel_rfl, by kernel_rfl, by kernel_rfl, by kernel_rfl, by kernel_rfl, Eq.trans (by kernel_rfl) x1, Eq.trans (by kernel_rfl) l1, Eq.trans (by kernel_rfl) x2, Eq.trans (by kernel_rfl) l2, sy, by kernel_rfl, ov, hnx, i + 1, ⟨hlti, hok⟩, mu1 hlti,
                  Wk.le (St.le.of ⟨by kernel_rfl, (by kernel_rfl), by kernel_rfl, (by kernel_rfl), by kernel_rfl, (by kernel_rfl), by kernel_rfl, (by kernel_rfl), by kernel_rfl, (by kernel_rfl), by kernel_rfl, (by kernel_rfl), by kernel_rfl, (by kernel_rfl), by kernel_rfl, (by kernel_rfl), by kernel_rfl, (by kernel_rfl), by kernel_rfl, (by kernel_rfl), by kernel_rfl, (by kernel_rfl), by kernel_rfl, (by kernel_rfl), Eq.trans (by kernel_rfl) ei, rfl, trivial⟩ ⟨by kernel_rfl, (by decide : (1 : Nat) < 15), rfl, by kernel_rfl, (by decide : (2 : Nat) < 15), (by kernel_rfl), by kernel_rfl, (by decide : (3 : Nat) < 15), (by kernel_rfl), by kernel_rfl, (by decide : (13 : Nat) < 15), rfl, by kernel_rfl, (by decide : (14 : Nat) < 15), (by kernel_rfl), trivial⟩) (hlo.mono (show 3 ≤ 15 by decide))⟩
            refine Or.elim sayC (fun hsy => ?_) (fun sayC => ?_)
            · have hj := hsy.1
              have sy := hsy.2
              refine (Bool.eq_false_or_eq_true (okW (winM s.fin (c.2 room) (s.marks.take (i + 1)) set))).symm.elim (fun hok => ?_) (fun hok => ?_)
              · rw [hok] at hnx
                have hbad := win_bad hok
                have hall2 : ∀ x ∈ crs.take (k + 1), trC s.fin s.marks room set x = none := fun x hx => by
                  rw [take_snoc hck] at hx
                  rcases List.mem_append.1 hx with hx | hx
                  · exact hall x hx
                  · rw [List.mem_singleton] at hx; subst hx; unfold trC; rw [hbad]; rfl
                exact ACode.vcM (.br 31 true <| .cells (cMj m.id 3 m.room m.other m.lo m.hi m.long) <| .draw 3 <| .val 37 (.int .i64 ((2 ^ i : Nat) : Int)) [] <| .br 39 false <| .draw 20 <| .val 43 (.cptr (kdL ++ [encCs crs])) [] <| .val 44 (.cptr ((kdL ++ [encCs crs]).drop 12)) [] <| .val 45 (.cptr ((kdL ++ [encCs crs]).drop 15)) [] <| .val 46 (kdF 88) [] <| .val 53 (.vptr 14 (0 + 2 * (mrk m).room)) [] <| .val 54 (encTm (c.2 room (mrk m).room)) [] <| .val 57 (.vptr 14 (0 + 2 * (mrk m).other)) [] <| .val 58 (encTm (c.2 room (mrk m).other)) [] <| .call (encSp SY) <| .call (encSp (winM s.fin (c.2 room) (s.marks.take (i + 1)) set)) <| .br 65 true .nil) hn hlo (.roundW .cl) ⟨ltLen hlti, ⟨hmi2.1, hmi2.2.trans (eM 3 hj)⟩, by kernel_rfl, mixed, by kernel_rfl, Eq.trans (by kernel_rfl) sh, by kernel_rfl, hb0, by kernel_rfl, mixed, by kernel_rfl, by kernel_rfl, by kernel_rfl, by kernel_rfl, by kernel_rfl, Eq.trans (by kernel_rfl) x1, Eq.trans (by kernel_rfl) l1, Eq.trans (by kernel_rfl) x2, Eq.trans (by kernel_rfl) l2, sy, by kernel_rfl, ov, hnx, _, .refl _, .nil, k + 1, ⟨hlt, hall2⟩, mu1 hlt, Wk.le (St.le.of ⟨by kernel_rfl, (by kernel_rfl), by kernel_rfl, (by kernel_rfl), by kernel_rfl, (by kernel_rfl), by kernel_rfl, (by kernel_rfl), by kernel_rfl, (by kernel_rfl), by kernel_rfl, (by kernel_rfl), Eq.trans (by kernel_rfl) ek, rfl, trivial⟩ ⟨by kernel_rfl, (by decide : (1 : Nat) < 3), rfl, by kernel_rfl, (by decide : (2 : Nat) < 3), (by kernel_rfl), trivial⟩) (hloO.mono (show 3 ≤ 3 by decide))⟩
              · rw [hok] at hnx
                exact ACode.vcM (.br 31 true <| .cells (cMj m.id 3 m.room m.other m.lo m.hi m.long) <| .draw 3 <| .val 37 (.int .i64 ((2 ^ i : Nat) : Int)) [] <| .br 39 false <| .draw 20 <| .val 43 (.cptr (kdL ++ [encCs crs])) [] <| .val 44 (.cptr ((kdL ++ [encCs crs]).drop 12)) [] <| .val 45 (.cptr ((kdL ++ [encCs crs]).drop 15)) [] <| .val 46 (kdF 88) [] <| .val 53 (.vptr 14 (0 + 2 * (mrk m).room)) [] <| .val 54 (encTm (c.2 room (mrk m).room)) [] <| .val 57 (.vptr 14 (0 + 2 * (mrk m).other)) [] <| .val 58 (encTm (c.2 room (mrk m).other)) [] <| .call (encSp SY) <| .call (encSp (winM s.fin (c.2 room) (s.marks.take (i + 1)) set)) <| .br 65 false .nil) hn hlo (.roundW .cl) ⟨ltLen hlti, ⟨hmi2.1, hmi2.2.trans (eM 3 hj)⟩, by kernel_rfl, mixed, by kernel_rfl, Eq.trans (by kernel_rfl) sh, by kernel_rfl, hb0, by kernel_rfl, mixed, by kernel_rfl, by kernel_rfl, by kernel_rfl, by kernel_rfl, by kernel_rfl, Eq.trans (by kernel_rfl) x1, Eq.trans (by kernel_rfl) l1, Eq.trans (by kernel_rfl) x2, Eq.trans (by kernel_rfl) l2, sy, by kernel_rfl, ov, hnx, i + 1, ⟨hlti, hok⟩, mu1 hlti,
                  Wk.le (St.le.of ⟨by kernel_rfl, (by kernel_rfl), by kernel_rfl, (by kernel_rfl), by kernel_rfl, (by kernel_rfl), by kernel_rfl, (by kernel_rfl), by kernel_rfl, (by kernel_rfl), by kernel_rfl, (by kernel_rfl), by kernel_rfl, (by kernel_rfl), by kernel_rfl, (by kernel_rfl), by kernel_rfl, (by kernel_rfl), by kernel_rfl, (by kernel_rfl), by kernel_rfl, (by kernel_rfl), by kernel_rfl, (by kernel_rfl), Eq.trans (by kernel_rfl) ei, rfl, trivial⟩ ⟨by kernel_rfl, (by decide : (1 : Nat) < 15), rfl, by kernel_rfl, (by decide : (2 : Nat) < 15), (by kernel_rfl), by kernel_rfl, (by decide : (3 : Nat) < 15), (by kernel_rfl), by kernel_rfl, (by decide : (13 : Nat) < 15), rfl, by kernel_rfl, (by decide : (14 : Nat) < 15), (by kernel_rfl), trivial⟩) (hlo.mono (show 3 ≤ 15 by decide))⟩
            refine Or.elim sayC (fun hsy => ?_) (fun sayC => ?_)
            · have hj := hsy.1
              have sy := hsy.2
              refine (Bool.eq_false_or_eq_true (okW (winM s.fin (c.2 room) (s.marks.take (i + 1)) set))).symm.elim (fun hok => ?_) (fun hok => ?_)
              · rw [hok] at hnx
                have hbad := win_bad hok
                have hall2 : ∀ x ∈ crs.take (k + 1), trC s.fin s.marks room set x = none := fun x hx => by
                  rw [take_snoc hck] at hx
                  rcases List.mem_append.1 hx with hx | hx
                  · exact hall x hx
                  · rw [List.mem_singleton] at hx; subst hx; unfold trC; rw [hbad]; rfl
                exact ACode.vcM (.br 31 true <| .cells (cMj m.id 4 m.room m.other m.lo m.hi m.long) <| .draw 3 <| .val 37 (.int .i64 ((2 ^ i : Nat) : Int)) [] <| .br 39 false <| .draw 20 <| .val 43 (.cptr (kdL ++ [encCs crs])) [] <| .val 44 (.cptr ((kdL ++ [encCs crs]).drop 16)) [] <| .val 45 (.cptr ((kdL ++ [encCs crs]).drop 19)) [] <| .val 46 (kdF 90) [] <| .val 53 (.vptr 14 (0 + 2 * (mrk m).room)) [] <| .val 54 (encTm (c.2 room (mrk m).room)) [] <| .val 57 (.vptr 14 (0 + 2 * (mrk m).other)) [] <| .val 58 (encTm (c.2 room (mrk m).other)) [] <| .call (encSp SY) <| .call (encSp (winM s.fin (c.2 room) (s.marks.take (i + 1)) set)) <| .br 65 true .nil) hn hlo (.roundW .cl) ⟨ltLen hlti, ⟨hmi2.1, hmi2.2.trans (eM 4 hj)⟩, by kernel_rfl, mixed, by kernel_rfl, Eq.trans (by kernel_rfl) sh, by kernel_rfl, hb0, by kernel_rfl, mixed, by kernel_rfl, by kernel_rfl, by kernel_rfl, by kernel_rfl, by kernel_rfl, Eq.trans (by kernel_rfl) x1, Eq.trans (by kernel_rfl) l1, Eq.trans (by kernel_rfl) x2, Eq.trans (by kernel_rfl) l2, sy, by kernel_rfl, ov, hnx, _, .refl _, .nil, k + 1, ⟨hlt, hall2⟩, mu1 hlt, Wk.le (St.le.of ⟨by kernel_rfl, (by kernel_rfl), by kernel_rfl, (by kernel_rfl), by kernel_rfl, (by kernel_rfl), by kernel_rfl, (by kernel_rfl), by kernel_rfl, (by kernel_rfl), by kernel_rfl, (by kernel_rfl), Eq.trans (by kernel_rfl) ek, rfl, trivial⟩ ⟨by kernel_rfl, (by decide : (1 : Nat) < 3), rfl, by kernel_rfl, (by decide : (2 : Nat) < 3), (by kernel_rfl), trivial⟩) (hloO.mono (show 3 ≤ 3 by decide))⟩
              · rw [hok] at hnx
                exact ACode.vcM (.br 31 true <| .cells (cMj m.id 4 m.room m.other m.lo m.hi m.long) <| .draw 3 <| .val 37 (.int .i64 ((2 ^ i : Nat) : Int)) [] <| .br 39 false <| .draw 20 <| .val 43 (.cptr (kdL ++ [encCs crs])) [] <| .val 44 (.cptr ((kdL ++ [encCs crs]).drop 16)) [] <| .val 45 (.cptr ((kdL ++ [encCs crs]).drop 19)) [] <| .val 46 (kdF 90) [] <| .val 53 (.vptr 14 (0 + 2 * (mrk m).room)) [] <| .val 54 (encTm (c.2 room (mrk m).room)) [] <| .val 57 (.vptr 14 (0 + 2 * (mrk m).other)) [] <| .val 58 (encTm (c.2 room (mrk m).other)) [] <| .call (encSp SY) <| .call (encSp (winM s.fin (c.2 room) (s.marks.take (i + 1)) set)) <| .br 65 false .nil) hn hlo (.roundW .cl) ⟨ltLen hlti, ⟨hmi2.1, hmi2.2.trans (eM 4 hj)⟩, by kernel_rfl, mixed, by kernel_rfl, Eq.trans (by kernel_rfl) sh, by kernel_rfl, hb0, by kernel_rfl, mixed, by kernel_rfl, by kernel_rfl, by kernel_rfl, by kernel_rfl, by kernel_rfl, Eq.trans (by kernel_rfl) x1, Eq.trans (by kernel_rfl) l1, Eq.trans (by kernel_rfl) x2, Eq.trans (by kernel_rfl) l2, sy, by kernel_rfl, ov, hnx, i + 1, ⟨hlti, hok⟩, mu1 hlti,
                  Wk.le (St.le.of ⟨by kernel_rfl, (by kernel_rfl), by kernel_rfl, (by kernel_rfl), by kernel_rfl, (by kernel_rfl), by kernel_rfl, (by kernel_rfl), by kernel_rfl, (by kernel_rfl), by kernel_rfl, (by kernel_rfl), by kernel_rfl, (by kernel_rfl), by kernel_rfl, (by kernel_rfl), by kernel_rfl, (by kernel_rfl), by kernel_rfl, (by kernel_rfl), by kernel_rfl, (by kernel_rfl), by kernel_rfl, (by kernel_rfl), Eq.trans (by kernel_rfl) ei, rfl, trivial⟩ ⟨by kernel_rfl, (by decide : (1 : Nat) < 15), rfl, by kernel_rfl, (by decide : (2 : Nat) < 15), (by kernel_rfl), by kernel_rfl, (by decide : (3 : Nat) < 15), (by kernel_rfl), by kernel_rfl, (by decide : (13 : Nat) < 15), rfl, by kernel_rfl, (by decide : (14 : Nat) < 15), (by kernel_rfl), trivial⟩) (hlo.mono (show 3 ≤ 15 by decide))⟩
            refine Or.elim sayC (fun hsy => ?_) (fun sayC => ?_)
            · have hj := hsy.1
              have sy := hsy.2
              refine (Bool.eq_false_or_eq_true (okW (winM s.fin (c.2 room) (s.marks.take (i + 1)) set))).symm.elim (fun hok => ?_) (fun hok => ?_)
              · rw [hok] at hnx
                have hbad := win_bad hok
                have hall2 : ∀ x ∈ crs.take (k + 1), trC s.fin s.marks room set x = none := fun x hx => by
                  rw [take_snoc hck] at hx
                  rcases List.mem_append.1 hx with hx | hx
                  · exact hall x hx
                  · rw [List.mem_singleton] at hx; subst hx; unfold trC; rw [hbad]; rfl
                exact ACode.vcM (.br 31 true <| .cells (cMj m.id 5 m.room m.other m.lo m.hi m.long) <| .draw 3 <| .val 37 (.int .i64 ((2 ^ i : Nat) : Int)) [] <| .br 39 false <| .draw 20 <| .val 43 (.cptr (kdL ++ [encCs crs])) [] <| .val 44 (.cptr ((kdL ++ [encCs crs]).drop 20)) [] <| .val 45 (.cptr ((kdL ++ [encCs crs]).drop 23)) [] <| .val 46 (kdF 91) [] <| .val 53 (.vptr 14 (0 + 2 * (mrk m).room)) [] <| .val 54 (encTm (c.2 room (mrk m).room)) [] <| .val 57 (.vptr 14 (0 + 2 * (mrk m).other)) [] <| .val 58 (encTm (c.2 room (mrk m).other)) [] <| .call (encSp SY) <| .call (encSp (winM s.fin (c.2 room) (s.marks.take (i + 1)) set)) <| .br 65 true .nil) hn hlo (.roundW .cl) ⟨ltLen hlti, ⟨hmi2.1, hmi2.2.trans (eM 5 hj)⟩, by kernel_rfl, mixed, by kernel_rfl, Eq.trans (by kernel_rfl) sh, by kernel_rfl, hb0, by kernel_rfl, mixed, by kernel_rfl, by kernel_rfl, by kernel_rfl, by kernel_rfl, by kernel_rfl, Eq.trans (by kernel_rfl) x1, Eq.trans (by kernel_rfl) l1, Eq.trans (by kernel_rfl) x2, Eq.trans (by kernel_rfl) l2, sy, by kernel_rfl, ov, hnx, _, .refl _, .nil, k + 1, ⟨hlt, hall2⟩, mu1 hlt, Wk.le (St.le.of ⟨by kernel_rfl, (by kernel_rfl), by kernel_rfl, (by kernel_rfl), by kernel_rfl, (by kernel_rfl), by kernel_rfl, (by kernel_rfl), by kernel_rfl, (by kernel_rfl), by kernel_rfl, (by kernel_rfl), Eq.trans (by kernel_rfl) ek, rfl, trivial⟩ ⟨by kernel_rfl, (by decide : (1 : Nat) < 3), rfl, by kernel_rfl, (by decide : (2 : Nat) < 3), (by kernel_rfl), trivial⟩) (hloO.mono (show 3 ≤ 3 by decide))⟩
              · rw [hok] at hnx
                exact ACode.vcM (.br 31 true <| .cells (cMj m.id 5 m.room m.other m.lo m.hi m.long) <| .draw 3 <| .val 37 (.int .i64 ((2 ^ i : Nat) : Int)) [] <| .br 39 false <| .draw 20 <| .val 43 (.cptr (kdL ++ [encCs crs])) [] <| .val 44 (.cptr ((kdL ++ [encCs crs]).drop 20)) [] <| .val 45 (.cptr ((kdL ++ [encCs crs]).drop 23)) [] <| .val 46 (kdF 91) [] <| .val 53 (.vptr 14 (0 + 2 * (mrk m).room)) [] <| .val 54 (encTm (c.2 room (mrk m).room)) [] <| .val 57 (.vptr 14 (0 + 2 * (mrk m).other)) [] <| .val 58 (encTm (c.2 room (mrk m).other)) [] <| .call (encSp SY) <| .call (encSp (winM s.fin (c.2 room) (s.marks.take (i + 1)) set)) <| .br 65 false .nil) hn hlo (.roundW .cl) ⟨ltLen hlti, ⟨hmi2.1, hmi2.2.trans (eM 5 hj)⟩, by kernel_rfl, mixed, by kernel_rfl, Eq.trans (by kernel_rfl) sh, by kernel_rfl, hb0, by kernel_rfl, mixed, by kernel_rfl, by kernel_rfl, by kernel_rfl, by kernel_rfl, by kernel_rfl, Eq.trans (by kernel_rfl) x1, Eq.trans (by kernel_rfl) l1, Eq.trans (by kernel_rfl) x2, Eq.trans (by kernel_rfl) l2, sy, by kernel_rfl, ov, hnx, i + 1, ⟨hlti, hok⟩, mu1 hlti,
                  Wk.le (St.le.of ⟨by kernel_rfl, (by kernel_rfl), by kernel_rfl, (by kernel_rfl), by kernel_rfl, (by kernel_rfl), by kernel_rfl, (by kernel_rfl), by kernel_rfl, (by kernel_rfl), by kernel_rfl, (by kernel_rfl), by kernel_rfl, (by kernel_rfl), by kernel_rfl, (by kernel_rfl), by kernel_rfl, (by kernel_rfl), by kernel_rfl, (by kernel_rfl), by kernel_rfl, (by kernel_rfl), by kernel_rfl, (by kernel_rfl), Eq.trans (by kernel_rfl) ei, rfl, trivial⟩ ⟨by kernel_rfl, (by decide : (1 : Nat) < 15), rfl, by kernel_rfl, (by decide : (2 : Nat) < 15), (by kernel_rfl), by kernel_rfl, (by decide : (3 : Nat) < 15), (by kernel_rfl), by kernel_rfl, (by decide : (13 : Nat) < 15), rfl, by kernel_rfl, (by decide : (14 : Nat) < 15), (by kernel_rfl), trivial⟩) (hlo.mono (show 3 ≤ 15 by decide))⟩
            have hj := sayC.1
            have sy := sayC.2
            refine (Bool.eq_false_or_eq_true (okW (winM s.fin (c.2 room) (s.marks.take (i + 1)) set))).symm.elim (fun hok => ?_) (fun hok => ?_)
            · rw [hok] at hnx
              have hbad := win_bad hok
              have hall2 : ∀ x ∈ crs.take (k + 1), trC s.fin s.marks room set x = none := fun x hx => by
                rw [take_snoc hck] at hx
                rcases List.mem_append.1 hx with hx | hx
                · exact hall x hx
                · rw [List.mem_singleton] at hx; subst hx; unfold trC; rw [hbad]; rfl
              exact ACode.vcM (.br 31 true <| .cells (cMj m.id 6 m.room m.other m.lo m.hi m.long) <| .draw 3 <| .val 37 (.int .i64 ((2 ^ i : Nat) : Int)) [] <| .br 39 false <| .draw 20 <| .val 43 (.cptr (kdL ++ [encCs crs])) [] <| .val 44 (.cptr ((kdL ++ [encCs crs]).drop 24)) [] <| .val 45 (.cptr ((kdL ++ [encCs crs]).drop 27)) [] <| .val 46 (kdF 92) [] <| .val 53 (.vptr 14 (0 + 2 * (mrk m).room)) [] <| .val 54 (encTm (c.2 room (mrk m).room)) [] <| .val 57 (.vptr 14 (0 + 2 * (mrk m).other)) [] <| .val 58 (encTm (c.2 room (mrk m).other)) [] <| .call (encSp SY) <| .call (encSp (winM s.fin (c.2 room) (s.marks.take (i + 1)) set)) <| .br 65 true .nil) hn hlo (.roundW .cl) ⟨ltLen hlti, ⟨hmi2.1, hmi2.2.trans (eM 6 hj)⟩, by kernel_rfl, mixed, by kernel_rfl, Eq.trans (by kernel_rfl) sh, by kernel_rfl, hb0, by kernel_rfl, mixed, by kernel_rfl, by kernel_rfl, by kernel_rfl, by kernel_rfl, by kernel_rfl, Eq.trans (by kernel_rfl) x1, Eq.trans (by kernel_rfl) l1, Eq.trans (by kernel_rfl) x2, Eq.trans (by kernel_rfl) l2, sy, by kernel_rfl, ov, hnx, _, .refl _, .nil, k + 1, ⟨hlt, hall2⟩, mu1 hlt, Wk.le (St.le.of ⟨by kernel_rfl, (by kernel_rfl), by kernel_rfl, (by kernel_rfl), by kernel_rfl, (by kernel_rfl), by kernel_rfl, (by kernel_rfl), by kernel_rfl, (by kernel_rfl), by kernel_rfl, (by kernel_rfl), Eq.trans (by kernel_rfl) ek, rfl, trivial⟩ ⟨by kernel_rfl, (by decide : (1 : Nat) < 3), rfl, by kernel_rfl, (by decide : (2 : Nat) < 3), (by kernel_rfl), trivial⟩) (hloO.mono (show 3 ≤ 3 by decide))⟩
            · rw [hok] at hnx
              exact ACode.vcM (.br 31 true <| .cells (cMj m.id 6 m.room m.other m.lo m.hi m.long) <| .draw 3 <| .val 37 (.int .i64 ((2 ^ i : Nat) : Int)) [] <| .br 39 false <| .draw 20 <| .val 43 (.cptr (kdL ++ [encCs crs])) [] <| .val 44 (.cptr ((kdL ++ [encCs crs]).drop 24)) [] <| .val 45 (.cptr ((kdL ++ [encCs crs]).drop 27)) [] <| .val 46 (kdF 92) [] <| .val 53 (.vptr 14 (0 + 2 * (mrk m).room)) [] <| .val 54 (encTm (c.2 room (mrk m).room)) [] <| .val 57 (.vptr 14 (0 + 2 * (mrk m).other)) [] <| .val 58 (encTm (c.2 room (mrk m).other)) [] <| .call (encSp SY) <| .call (encSp (winM s.fin (c.2 room) (s.marks.take (i + 1)) set)) <| .br 65 false .nil) hn hlo (.roundW .cl) ⟨ltLen hlti, ⟨hmi2.1, hmi2.2.trans (eM 6 hj)⟩, by kernel_rfl, mixed, by kernel_rfl, Eq.trans (by kernel_rfl) sh, by kernel_rfl, hb0, by kernel_rfl, mixed, by kernel_rfl, by kernel_rfl, by kernel_rfl, by kernel_rfl, by kernel_rfl, Eq.trans (by kernel_rfl) x1, Eq.trans (by kernel_rfl) l1, Eq.trans (by kernel_rfl) x2, Eq.trans (by kernel_rfl) l2, sy, by kernel_rfl, ov, hnx, i + 1, ⟨hlti, hok⟩, mu1 hlti,
                Wk.le (St.le.of ⟨by kernel_rfl, (by kernel_rfl), by kernel_rfl, (by kernel_rfl), by kernel_rfl, (by kernel_rfl), by kernel_rfl, (by kernel_rfl), by kernel_rfl, (by kernel_rfl), by kernel_rfl, (by kernel_rfl), by kernel_rfl, (by kernel_rfl), by kernel_rfl, (by kernel_rfl), by kernel_rfl, (by kernel_rfl), by kernel_rfl, (by kernel_rfl), by kernel_rfl, (by kernel_rfl), by kernel_rfl, (by kernel_rfl), Eq.trans (by kernel_rfl) ei, rfl, trivial⟩ ⟨by kernel_rfl, (by decide : (1 : Nat) < 15), rfl, by kernel_rfl, (by decide : (2 : Nat) < 15), (by kernel_rfl), by kernel_rfl, (by decide : (3 : Nat) < 15), (by kernel_rfl), by kernel_rfl, (by decide : (13 : Nat) < 15), rfl, by kernel_rfl, (by decide : (14 : Nat) < 15), (by kernel_rfl), trivial⟩) (hlo.mono (show 3 ≤ 15 by decide))⟩
        · have hik : i = s.marks.length := by omega
          have hfull : s.marks.take i = s.marks := by rw [hik, List.take_length]
          rw [hfull] at hi2
          have eW : some (AObj.cells (cSp (winM s.fin (c.2 room) (s.marks.take i) set))) = some (.cells (cSp (winM s.fin (c.2 room) s.marks set))) := by rw [hfull]
          have he : some (AV.bool false, ([] : List Nat)) = some (.bool (crs.filterMap (trC s.fin s.marks room set)).isEmpty, []) := by
            have : trC s.fin s.marks room set c = some (c.1, winM s.fin (c.2 room) s.marks set) := by unfold trC; rw [if_pos hi2]
            have hm : (c.1, winM s.fin (c.2 room) s.marks set) ∈ crs.filterMap (trC s.fin s.marks room set) := List.mem_filterMap.2 ⟨c, List.mem_of_getElem? hck, this⟩
            cases hq : crs.filterMap (trC s.fin s.marks room set) with
            | nil => rw [hq] at hm; cases hm
            | cons a l => rfl
          exact ACode.vcM (.br 31 false .nil) hn hlo (.roundW .cl) ⟨geLen hlti, _, .refl _, .val 69 (encR c.1) [] .nil, by kernel_rfl, _, .refl _, .nil, [], Eq.trans (by kernel_rfl) he⟩
    · have hall' : crs.take k = crs := List.take_of_length_le (by omega)
      have he : some (AV.bool true, ([] : List Nat)) = some (.bool (crs.filterMap (trC s.fin s.marks room set)).isEmpty, []) := by
        rw [hall'] at hall
        have : crs.filterMap (trC s.fin s.marks room set) = [] := List.filterMap_eq_nil_iff.2 hall
        rw [this]; rfl
      exact ACode.vcM (.br 15 false .nil) hn hlo (.roundW .cl) ⟨geLen hlt, _, .refl _, .nil, [], Eq.trans (by kernel_rfl) he⟩
theorem excludes_spec (s : Scn) (hs : ScOk s) (room set : Nat) (hroom : room < nR s) (hset : set < 4096) :
    APure Tryz.prog 76 [encX s (crsP s), .int .i64 (set : Int), .int .i64 (room : Int)] (.bool (exB s room set)) :=
  excl_of s hs (crsP s) (fun c hc => cr_ok hs hc) (by rw [crsP_len]; have := all_729 hs; omega) room set hroom hset
end Go.Proofs.YtjoagmjijbfjkaaGreatDoor
