import Derived.Test.YtjoagmjijbfjkaaGreatDoorW8
import Derived.Test.YtjoagmjijbfjkaaGreatDoorXG
/-
  THE FIRST TRUTH.
-/
namespace Go.Proofs.YtjoagmjijbfjkaaGreatDoor
open Go Go.Am
set_option maxRecDepth 100000
set_option maxHeartbeats 4000000
noncomputable def asgF : Code := rfA Tryz.f66
noncomputable def bodF : Code := rfB Tryz.f66
def encTr (o : Option (List Int × Spn)) : AV := match o with
  | none => .tup [.agg [.nil, .int .i64 0, .int .i64 0], .bool false]
  | some t => .tup [.agg [encR t.1, .int .i64 t.2.1, .int .i64 t.2.2], .bool true]
theorem isSo_spec (ds : List Int) (w : Spn) (minute : Int) : APure Tryz.prog 69 [.agg [encR ds, .int .i64 w.1, .int .i64 w.2], .cptr [.int .i64 minute]] (.bool (inB w.1 w.2 minute)) := by
  have c := within_spec w.1 w.2 minute
  exact APure.vc Tryz.func69 rfl (.call (.bool (inB w.1 w.2 minute)) .nil) rfl rfl ⟨c, rB rfl⟩
theorem first_of (s : Scn) (hs : ScOk s) (crs : List Crs) (hcr : ∀ c ∈ crs, CrOk s c) (hlen : crs.length ≤ 1000) (room set : Nat) (hroom : room < nR s) (hset : set < 4096) (minute : Int) :
    APure Tryz.prog 66 [.fn (.func 99) [] [.cptr (cXa s (encCs crs)), .cptr [.int .i64 (room : Int)], .cptr [.int .i64 (set : Int)]], .fn (.func 69) [] [.cptr [.int .i64 minute]]] (encTr ((crs.filterMap (trC s.fin s.marks room set)).find? fun t => inB t.2.1 t.2.2 minute)) := by
  have hml := hs.ml
  have hn6 := nR_eq hs
  have hres : (encTr ((crs.filterMap (trC s.fin s.marks room set)).find? fun t => inB t.2.1 t.2.2 minute)).ok 0 = true := by
    cases (crs.filterMap (trC s.fin s.marks room set)).find? fun t => inB t.2.1 t.2.2 minute <;> rfl
  refine APure.vcM Tryz.func66 (.inl Tryz.f99 .loop) (by kernel_rfl) hres ⟨Tryz.func99, ?_⟩
  intro g hn hlo
  replace hn : g.n = 75 := hn
  replace hlo : g.low 4 := hlo
  refine acode_whileW (fun k : Nat => ⟨[(0, .yld 3), (1, .cptr (cXa s (encCs crs))), (2, .cptr [.int .i64 (room : Int)]), (3, .cptr [.int .i64 (set : Int)]), (12, encCs crs), (13, .int .i64 (crs.map cCr).length), (14, .int .i64 k)], [(0, .cells [.fn (.func 69) [] [.cptr [.int .i64 minute]]]), (1, .cells [.nil, .int .i64 0, .int .i64 0]), (2, .cells [.bool false]), (3, .loop ⟨.ready, none, 14, [(3, .vptr 0 0), (4, .vptr 1 0), (5, .vptr 2 0)], #[8], asgF, bodF⟩)], 4⟩) (fun k => k ≤ crs.length ∧ ∀ t ∈ (crs.take k).filterMap (trC s.fin s.marks room set), inB t.2.1 t.2.2 minute = false) (fun k => crs.length - k) 0 ⟨Nat.zero_le _, fun x hx => by simp at hx⟩ ?_ ?_
  · refine Wk.trans (Wk.le ?_ (hlo.mono (show 4 ≤ 4 by decide))) (Wk.loopEnv (id := 3) (n := 4) [(3, .vptr 0 0), (4, .vptr 1 0), (5, .vptr 2 0)] rfl ⟨rfl, rfl, rfl, rfl, rfl, rfl, trivial⟩)
    exact St.le.of ⟨by kernel_rfl, (by kernel_rfl), by kernel_rfl, (by kernel_rfl), by kernel_rfl, (by kernel_rfl), by kernel_rfl, (by kernel_rfl), by kernel_rfl, (by kernel_rfl), by kernel_rfl, (by kernel_rfl), by kernel_rfl, rfl, trivial⟩ ⟨by kernel_rfl, (by decide : (0 : Nat) < 4), rfl, by kernel_rfl, (by decide : (1 : Nat) < 4), rfl, by kernel_rfl, (by decide : (2 : Nat) < 4), rfl, by kernel_rfl, (by decide : (3 : Nat) < 4), (by kernel_rfl), trivial⟩
  · rintro k ⟨hk1, hall⟩
    replace hk1 : k ≤ crs.length := hk1
    by_cases hlt : k < crs.length
    · refine Exists.elim (getE hlt) fun c hck => ?_
      have hco := hcr c (List.mem_of_getElem? hck)
      have ek := congrArg (AV.int .i64) (succ64 (k := k) (by omega))
      have xr := ixTabO (h := hget []) (id := 4) (off := 1) (i := (room : Int)) rfl (show room < 6 by omega)
      have lr := ldRowC (h := hget [(4, .cells (cCr c))]) (id := 4) (c := c) rfl (show room < 6 by omega)
      refine ACode.vcM (.br 15 true <| .cells (cCr c) <| .val 17 (.agg (cCr c)) [] <| .val 6 (.vptr 4 0) [(4, some (.cells zC))] <| .val 1 .undef [(4, some (.cells (cCr c)))] <| .draw 11 <| .call (.agg [.int .i64 0, .int .i64 s.fin]) <| .val 24 (.vptr 4 (1 + 12 * room)) [] <| .val 25 (.agg (cRow (c.2 room))) [] <| .val 8 (.vptr 15 0) [(15, some (.cells (cRow (fun _ => some 0))))] <| .val 1 .undef [(14, some (.cells (cSp (0, s.fin))))] <| .val 1 .undef [(15, some (.cells (cRow (c.2 room))))] <| .loop) hn hlo (.roundW .cl) ⟨ltLen hlt, idx hck, by kernel_rfl, by kernel_rfl, by kernel_rfl, by kernel_rfl, mixed, by kernel_rfl, upTo_spec s.fin, Eq.trans (by kernel_rfl) xr, Eq.trans (by kernel_rfl) lr, by kernel_rfl, by kernel_rfl, by kernel_rfl, by kernel_rfl, ?_⟩
      clear xr lr
      have hloO := hlo
      intro g hn hlo
      replace hn : g.n = 75 := hn
      replace hlo : g.low 4 := hlo
      refine acode_whileW (fun i : Nat => ⟨[(0, .yld 3), (1, .cptr (cXa s (encCs crs))), (2, .cptr [.int .i64 (room : Int)]), (3, .cptr [.int .i64 (set : Int)]), (12, encCs crs), (13, .int .i64 (crs.map cCr).length), (14, .int .i64 k), (6, .vptr 4 0), (7, .vptr 14 0), (8, .vptr 15 0), (28, encMs s.marks), (29, .int .i64 (s.marks.map cMk).length), (30, .int .i64 i)], [(0, .cells [.fn (.func 69) [] [.cptr [.int .i64 minute]]]), (1, .cells [.nil, .int .i64 0, .int .i64 0]), (2, .cells [.bool false]), (3, .loop ⟨.ready, none, 14, [(3, .vptr 0 0), (4, .vptr 1 0), (5, .vptr 2 0)], #[8], asgF, bodF⟩), (4, .cells (cCr c)), (14, .cells (cSp (winM s.fin (c.2 room) (s.marks.take i) set))), (15, .cells (cRow (c.2 room)))], 16⟩) (fun i => i ≤ s.marks.length ∧ okW (winM s.fin (c.2 room) (s.marks.take i) set) = true) (fun i => s.marks.length - i) 0 ⟨Nat.zero_le _, decide_eq_true hs.fin.1⟩ ?_ ?_
      · exact Wk.le (St.le.of ⟨by kernel_rfl, (by kernel_rfl), by kernel_rfl, (by kernel_rfl), by kernel_rfl, (by kernel_rfl), by kernel_rfl, (by kernel_rfl), by kernel_rfl, (by kernel_rfl), by kernel_rfl, (by kernel_rfl), by kernel_rfl, (by kernel_rfl), by kernel_rfl, (by kernel_rfl), by kernel_rfl, (by kernel_rfl), by kernel_rfl, (by kernel_rfl), by kernel_rfl, (by kernel_rfl), by kernel_rfl, (by kernel_rfl), by kernel_rfl, rfl, trivial⟩ ⟨by kernel_rfl, (by decide : (0 : Nat) < 16), rfl, by kernel_rfl, (by decide : (1 : Nat) < 16), rfl, by kernel_rfl, (by decide : (2 : Nat) < 16), rfl, by kernel_rfl, (by decide : (3 : Nat) < 16), (by kernel_rfl), by kernel_rfl, (by decide : (4 : Nat) < 16), (by kernel_rfl), by kernel_rfl, (by decide : (14 : Nat) < 16), rfl, by kernel_rfl, (by decide : (15 : Nat) < 16), (by kernel_rfl), trivial⟩) (hlo.mono (show 4 ≤ 16 by decide))
      · rintro i ⟨hi1, hi2⟩
        replace hi1 : i ≤ s.marks.length := hi1
        by_cases hlti : i < s.marks.length
        · refine Exists.elim (getE hlti) fun m hmi => ?_
          have ei := congrArg (AV.int .i64) (succ64 (k := i) (by omega))
          have sh := bShlO (k := i) (by omega)
          have hb0 := bHas0 (S := set) (i := i) hset (by omega)
          refine (Bool.eq_false_or_eq_true (set.testBit i)).symm.elim (fun hbit => ?_) (fun hbit => ?_)
          · rw [hbit] at hb0
            have ewin := win_no (s := s) (c := c) (room := room) hmi hbit
            have eW : some (AObj.cells (cSp (winM s.fin (c.2 room) (s.marks.take i) set))) = some (.cells (cSp (winM s.fin (c.2 room) (s.marks.take (i + 1)) set))) := by rw [ewin]
            have hk2 : okW (winM s.fin (c.2 room) (s.marks.take (i + 1)) set) = true := by rw [ewin]; exact hi2
            exact ACode.vcM (.br 31 true <| .cells (cMk m) <| .draw 3 <| .val 37 (.int .i64 ((2 ^ i : Nat) : Int)) [] <| .br 39 true .nil) hn hlo (.roundW .cl) ⟨ltLen hlti, idx hmi, by kernel_rfl, mixed, by kernel_rfl, Eq.trans (by kernel_rfl) sh, by kernel_rfl, hb0, i + 1, ⟨hlti, hk2⟩, mu1 hlti,
              Wk.le (St.le.of ⟨by kernel_rfl, (by kernel_rfl), by kernel_rfl, (by kernel_rfl), by kernel_rfl, (by kernel_rfl), by kernel_rfl, (by kernel_rfl), by kernel_rfl, (by kernel_rfl), by kernel_rfl, (by kernel_rfl), by kernel_rfl, (by kernel_rfl), by kernel_rfl, (by kernel_rfl), by kernel_rfl, (by kernel_rfl), by kernel_rfl, (by kernel_rfl), by kernel_rfl, (by kernel_rfl), by kernel_rfl, (by kernel_rfl), Eq.trans (by kernel_rfl) ei, rfl, trivial⟩ ⟨by kernel_rfl, (by decide : (0 : Nat) < 16), rfl, by kernel_rfl, (by decide : (1 : Nat) < 16), rfl, by kernel_rfl, (by decide : (2 : Nat) < 16), rfl, by kernel_rfl, (by decide : (3 : Nat) < 16), (by kernel_rfl), by kernel_rfl, (by decide : (4 : Nat) < 16), (by kernel_rfl), Eq.trans (by kernel_rfl) eW, (by decide : (14 : Nat) < 16), rfl, by kernel_rfl, (by decide : (15 : Nat) < 16), (by kernel_rfl), trivial⟩) (hlo.mono (show 4 ≤ 16 by decide))⟩
          · rw [hbit] at hb0
            refine Exists.elim (mk_facts hs hco hroom hmi hbit) fun SY mf => ?_
            have x1 := ixRow (h := hget []) (id := 15) (off := 0) mf.room.1 mf.room.2
            have x2 := ixRow (h := hget []) (id := 15) (off := 0) mf.other.1 mf.other.2
            have l1 := ldRow (h := hget [(15, .cells (cRow (c.2 room)))]) (id := 15) (f := c.2 room) rfl mf.room.2
            have l2 := ldRow (h := hget [(15, .cells (cRow (c.2 room)))]) (id := 15) (f := c.2 room) rfl mf.other.2
            have ov := mf.ov
            have eM := mf.cell
            have hmi2 : (0 : Int) ≤ (i : Int) ∧ (s.marks.map cMk)[(i : Int).toNat]? = some (cMk m) := idx hmi
            have hnx := gtr_ok (winM s.fin (c.2 room) (s.marks.take (i + 1)) set)
            refine Or.elim mf.say (fun hsy => ?_) (fun sayC => ?_)
            · have hj := hsy.1
              have sy := hsy.2
              refine (Bool.eq_false_or_eq_true (okW (winM s.fin (c.2 room) (s.marks.take (i + 1)) set))).symm.elim (fun hok => ?_) (fun hok => ?_)
              · rw [hok] at hnx
                have hbad := win_bad hok
                have htr : trC s.fin s.marks room set c = none := by unfold trC; rw [hbad]; rfl
                have hall2 : ∀ t ∈ (crs.take (k + 1)).filterMap (trC s.fin s.marks room set), inB t.2.1 t.2.2 minute = false := fun t ht => by
                  rw [take_snoc hck, List.filterMap_append] at ht
                  rcases List.mem_append.1 ht with ht | ht
                  · exact hall t ht
                  · simp only [List.filterMap_cons, List.filterMap_nil, htr] at ht
                    cases ht
                exact ACode.vcM (.br 31 true <| .cells (cMj m.id 1 m.room m.other m.lo m.hi m.long) <| .draw 3 <| .val 37 (.int .i64 ((2 ^ i : Nat) : Int)) [] <| .br 39 false <| .draw 20 <| .val 43 (.cptr (kdL ++ [encCs crs])) [] <| .val 44 (.cptr ((kdL ++ [encCs crs]).drop 4)) [] <| .val 45 (.cptr ((kdL ++ [encCs crs]).drop 7)) [] <| .val 46 (kdF 84) [] <| .val 53 (.vptr 15 (0 + 2 * (mrk m).room)) [] <| .val 54 (encTm (c.2 room (mrk m).room)) [] <| .val 57 (.vptr 15 (0 + 2 * (mrk m).other)) [] <| .val 58 (encTm (c.2 room (mrk m).other)) [] <| .call (encSp SY) <| .call (encSp (winM s.fin (c.2 room) (s.marks.take (i + 1)) set)) <| .br 65 true .nil) hn hlo (.roundW .cl) ⟨ltLen hlti, ⟨hmi2.1, hmi2.2.trans (eM 1 hj)⟩, by kernel_rfl, mixed, by kernel_rfl, Eq.trans (by kernel_rfl) sh, by kernel_rfl, hb0, by kernel_rfl, mixed, by kernel_rfl, by kernel_rfl, by kernel_rfl, by kernel_rfl, by kernel_rfl, Eq.trans (by kernel_rfl) x1, Eq.trans (by kernel_rfl) l1, Eq.trans (by kernel_rfl) x2, Eq.trans (by kernel_rfl) l2, sy, by kernel_rfl, ov, hnx, _, .refl _, .nil, k + 1, ⟨hlt, hall2⟩, mu1 hlt, Wk.le (St.le.of ⟨by kernel_rfl, (by kernel_rfl), by kernel_rfl, (by kernel_rfl), by kernel_rfl, (by kernel_rfl), by kernel_rfl, (by kernel_rfl), by kernel_rfl, (by kernel_rfl), by kernel_rfl, (by kernel_rfl), Eq.trans (by kernel_rfl) ek, rfl, trivial⟩ ⟨by kernel_rfl, (by decide : (0 : Nat) < 4), rfl, by kernel_rfl, (by decide : (1 : Nat) < 4), rfl, by kernel_rfl, (by decide : (2 : Nat) < 4), rfl, by kernel_rfl, (by decide : (3 : Nat) < 4), (by kernel_rfl), trivial⟩) (hloO.mono (show 4 ≤ 4 by decide))⟩
              · rw [hok] at hnx
                exact ACode.vcM (.br 31 true <| .cells (cMj m.id 1 m.room m.other m.lo m.hi m.long) <| .draw 3 <| .val 37 (.int .i64 ((2 ^ i : Nat) : Int)) [] <| .br 39 false <| .draw 20 <| .val 43 (.cptr (kdL ++ [encCs crs])) [] <| .val 44 (.cptr ((kdL ++ [encCs crs]).drop 4)) [] <| .val 45 (.cptr ((kdL ++ [encCs crs]).drop 7)) [] <| .val 46 (kdF 84) [] <| .val 53 (.vptr 15 (0 + 2 * (mrk m).room)) [] <| .val 54 (encTm (c.2 room (mrk m).room)) [] <| .val 57 (.vptr 15 (0 + 2 * (mrk m).other)) [] <| .val 58 (encTm (c.2 room (mrk m).other)) [] <| .call (encSp SY) <| .call (encSp (winM s.fin (c.2 room) (s.marks.take (i + 1)) set)) <| .br 65 false .nil) hn hlo (.roundW .cl) ⟨ltLen hlti, ⟨hmi2.1, hmi2.2.trans (eM 1 hj)⟩, by kernel_rfl, mixed, by kernel_rfl, Eq.trans (by kernel_rfl) sh, by kernel_rfl, hb0, by kernel_rfl, mixed, by kernel_rfl, by kernel_rfl, by kernel_rfl, by kernel_rfl, by kernel_rfl, Eq.trans (by kernel_rfl) x1, Eq.trans (by kernel_rfl) l1, Eq.trans (by kernel_rfl) x2, Eq.trans (by kernel_rfl) l2, sy, by kernel_rfl, ov, hnx, i + 1, ⟨hlti, hok⟩, mu1 hlti,
                  Wk.le (St.le.of ⟨by kernel_rfl, (by kernel_rfl), by kernel_rfl, (by kernel_rfl), by kernel_rfl, (by kernel_rfl), by kernel_rfl, (by kernel_rfl), by kernel_rfl, (by kernel_rfl), by kernel_rfl, (by kernel_rfl), by kernel_rfl, (by kernel_rfl), by kernel_rfl, (by kernel_rfl), by kernel_rfl, (by kernel_rfl), by kernel_rfl, (by kernel_rfl), by kernel_rfl, (by kernel_rfl), by kernel_rfl, (by kernel_rfl), Eq.trans (by kernel_rfl) ei, rfl, trivial⟩ ⟨by kernel_rfl, (by decide : (0 : Nat) < 16), rfl, by kernel_rfl, (by decide : (1 : Nat) < 16), rfl, by kernel_rfl, (by decide : (2 : Nat) < 16), rfl, by kernel_rfl, (by decide : (3 : Nat) < 16), (by kernel_rfl), by kernel_rfl, (by decide : (4 : Nat) < 16), (by kernel_rfl), by kernel_rfl, (by decide : (14 : Nat) < 16), rfl, by kernel_rfl, (by decide : (15 : Nat) < 16), (by kernel_rfl), trivial⟩) (hlo.mono (show 4 ≤ 16 by decide))⟩
            refine Or.elim sayC (fun hsy => ?_) (fun sayC => ?_)
            · have hj := hsy.1
              have sy := hsy.2
              refine (Bool.eq_false_or_eq_true (okW (winM s.fin (c.2 room) (s.marks.take (i + 1)) set))).symm.elim (fun hok => ?_) (fun hok => ?_)
              · rw [hok] at hnx
                have hbad := win_bad hok
                have htr : trC s.fin s.marks room set c = none := by unfold trC; rw [hbad]; rfl
                have hall2 : ∀ t ∈ (crs.take (k + 1)).filterMap (trC s.fin s.marks room set), inB t.2.1 t.2.2 minute = false := fun t ht => by
                  rw [take_snoc hck, List.filterMap_append] at ht
                  rcases List.mem_append.1 ht with ht | ht
                  · exact hall t ht
                  · simp only [List.filterMap_cons, List.filterMap_nil, htr] at ht
                    cases ht
                exact ACode.vcM (.br 31 true <| .cells (cMj m.id 2 m.room m.other m.lo m.hi m.long) <| .draw 3 <| .val 37 (.int .i64 ((2 ^ i : Nat) : Int)) [] <| .br 39 false <| .draw 20 <| .val 43 (.cptr (kdL ++ [encCs crs])) [] <| .val 44 (.cptr ((kdL ++ [encCs crs]).drop 8)) [] <| .val 45 (.cptr ((kdL ++ [encCs crs]).drop 11)) [] <| .val 46 (kdF 86) [] <| .val 53 (.vptr 15 (0 + 2 * (mrk m).room)) [] <| .val 54 (encTm (c.2 room (mrk m).room)) [] <| .val 57 (.vptr 15 (0 + 2 * (mrk m).other)) [] <| .val 58 (encTm (c.2 room (mrk m).other)) [] <| .call (encSp SY) <| .call (encSp (winM s.fin (c.2 room) (s.marks.take (i + 1)) set)) <| .br 65 true .nil) hn hlo (.roundW .cl) ⟨ltLen hlti, ⟨hmi2.1, hmi2.2.trans (eM 2 hj)⟩, by kernel_rfl, mixed, by kernel_rfl, Eq.trans (by kernel_rfl) sh, by kernel_rfl, hb0, by kernel_rfl, mixed, by kernel_rfl, by kernel_rfl, by kernel_rfl, by kernel_rfl, by kernel_rfl, Eq.trans (by kernel_rfl) x1, Eq.trans (by kernel_rfl) l1, Eq.trans (by kernel_rfl) x2, Eq.trans (by kernel_rfl) l2, sy, by kernel_rfl, ov, hnx, _, .refl _, .nil, k + 1, ⟨hlt, hall2⟩, mu1 hlt, Wk.le (St.le.of ⟨by kernel_rfl, (by kernel_rfl), by kernel_rfl, (by kernel_rfl), by kernel_rfl, (by kernel_rfl), by kernel_rfl, (by kernel_rfl), by kernel_rfl, (by kernel_rfl), by kernel_rfl, (by kernel_rfl), Eq.trans (by kernel_rfl) ek, rfl, trivial⟩ ⟨by kernel_rfl, (by decide : (0 : Nat) < 4), rfl, by kernel_rfl, (by decide : (1 : Nat) < 4), rfl, by kernel_rfl, (by decide : (2 : Nat) < 4), rfl, by kernel_rfl, (by decide : (3 : Nat) < 4), (by kernel_rfl), trivial⟩) (hloO.mono (show 4 ≤ 4 by decide))⟩
              · rw [hok] at hnx
                exact ACode.vcM (.br 31 true <| .cells (cMj m.id 2 m.room m.other m.lo m.hi m.long) <| .draw 3 <| .val 37 (.int .i64 ((2 ^ i : Nat) : Int)) [] <| .br 39 false <| .draw 20 <| .val 43 (.cptr (kdL ++ [encCs crs])) [] <| .val 44 (.cptr ((kdL ++ [encCs crs]).drop 8)) [] <| .val 45 (.cptr ((kdL ++ [encCs crs]).drop 11)) [] <| .val 46 (kdF 86) [] <| .val 53 (.vptr 15 (0 + 2 * (mrk m).room)) [] <| .val 54 (encTm (c.2 room (mrk m).room)) [] <| .val 57 (.vptr 15 (0 + 2 * (mrk m).other)) [] <| .val 58 (encTm (c.2 room (mrk m).other)) [] <| .call (encSp SY) <| .call (encSp (winM s.fin (c.2 room) (s.marks.take (i + 1)) set)) <| .br 65 false .nil) hn hlo (.roundW .cl) ⟨ltLen hlti, ⟨hmi2.1, hmi2.2.trans (eM 2 hj)⟩, by kernel_rfl, mixed, by kernel_rfl, Eq.trans (by kernel_rfl) sh, by kernel_rfl, hb0, by kernel_rfl, mixed, by kernel_rfl, by kernel_rfl, by kernel_rfl, by kernel_rfl, by kernel_rfl, Eq.trans (by kernel_rfl) x1, Eq.trans (by kernel_rfl) l1, Eq.trans (by kernel_rfl) x2, Eq.trans (by kernel_rfl) l2, sy, by kernel_rfl, ov, hnx, i + 1, ⟨hlti, hok⟩, mu1 hlti,
                  Wk.le (St.le.of ⟨by kernel_rfl, (by kernel_rfl), by kernel_rfl, (by kernel_rfl), by kernel_rfl, (by kernel_rfl), by kernel_rfl, (by kernel_rfl), by kernel_rfl, (by kernel_rfl), by kernel_rfl, (by kernel_rfl), by kernel_rfl, (by kernel_rfl), by kernel_rfl, (by kernel_rfl), by kernel_rfl, (by kernel_rfl), by kernel_rfl, (by kernel_rfl), by kernel_rfl, (by kernel_rfl), by kernel_rfl, (by kernel_rfl), Eq.trans (by kernel_rfl) ei, rfl, trivial⟩ ⟨by kernel_rfl, (by decide : (0 : Nat) < 16), rfl, by kernel_rfl, (by decide : (1 : Nat) < 16), rfl, by kernel_rfl, (by decide : (2 : Nat) < 16), rfl, by kernel_rfl, (by decide : (3 : Nat) < 16), (by kernel_rfl), by kernel_rfl, (by decide : (4 : Nat) < 16), (by kernel_rfl), by kernel_rfl, (by decide : (14 : Nat) < 16), rfl, by kernel_rfl, (by decide : (15 : Nat) < 16), (by kernel_rfl), trivial⟩) (hlo.mono (show 4 ≤ 16 by decide))⟩
            refine Or.elim sayC (fun hsy => ?_) (fun sayC => ?_)
            · have hj := hsy.1
              have sy := hsy.2
              refine (Bool.eq_false_or_eq_true (okW (winM s.fin (c.2 room) (s.marks.take (i + 1)) set))).symm.elim (fun hok => ?_) (fun hok => ?_)
              · rw [hok] at hnx
                have hbad := win_bad hok
                have htr : trC s.fin s.marks room set c = none := by unfold trC; rw [hbad]; rfl
                have hall2 : ∀ t ∈ (crs.take (k + 1)).filterMap (trC s.fin s.marks room set), inB t.2.1 t.2.2 minute = false := fun t ht => by
                  rw [take_snoc hck, List.filterMap_append] at ht
                  rcases List.mem_append.1 ht with ht | ht
                  · exact hall t ht
                  · simp only [List.filterMap_cons, List.filterMap_nil, htr] at ht
                    cases ht
                exact ACode.vcM (.br 31 true <| .cells (cMj m.id 3 m.room m.other m.lo m.hi m.long) <| .draw 3 <| .val 37 (.int .i64 ((2 ^ i : Nat) : Int)) [] <| .br 39 false <| .draw 20 <| .val 43 (.cptr (kdL ++ [encCs crs])) [] <| .val 44 (.cptr ((kdL ++ [encCs crs]).drop 12)) [] <| .val 45 (.cptr ((kdL ++ [encCs crs]).drop 15)) [] <| .val 46 (kdF 88) [] <| .val 53 (.vptr 15 (0 + 2 * (mrk m).room)) [] <| .val 54 (encTm (c.2 room (mrk m).room)) [] <| .val 57 (.vptr 15 (0 + 2 * (mrk m).other)) [] <| .val 58 (encTm (c.2 room (mrk m).other)) [] <| .call (encSp SY) <| .call (encSp (winM s.fin (c.2 room) (s.marks.take (i + 1)) set)) <| .br 65 true .nil) hn hlo (.roundW .cl) ⟨ltLen hlti, ⟨hmi2.1, hmi2.2.trans (eM 3 hj)⟩, by kernel_rfl, mixed, by kernel_rfl, Eq.trans (by kernel_rfl) sh, by kernel_rfl, hb0, by kernel_rfl, mixed, by kernel_rfl, by kernel_rfl, by kernel_rfl, by kernel_rfl, by kernel_rfl, Eq.trans (by kernel_rfl) x1, Eq.trans (by kernel_rfl) l1, Eq.trans (by kernel_rfl) x2, Eq.trans (by kernel_rfl) l2, sy, by kernel_rfl, ov, hnx, _, .refl _, .nil, k + 1, ⟨hlt, hall2⟩, mu1 hlt, Wk.le (St.le.of ⟨by kernel_rfl, (by kernel_rfl), by kernel_rfl, (by kernel_rfl), by kernel_rfl, (by kernel_rfl), by kernel_rfl, (by kernel_rfl), by kernel_rfl, (by kernel_rfl), by kernel_rfl, (by kernel_rfl), Eq.trans (by kernel_rfl) ek, rfl, trivial⟩ ⟨by kernel_rfl, (by decide : (0 : Nat) < 4), rfl, by kernel_rfl, (by decide : (1 : Nat) < 4), rfl, by kernel_rfl, (by decide : (2 : Nat) < 4), rfl, by kernel_rfl, (by decide : (3 : Nat) < 4), (by kernel_rfl), trivial⟩) (hloO.mono (show 4 ≤ 4 by decide))⟩
              · rw [hok] at hnx
                exact ACode.vcM (.br 31 true <| .cells (cMj m.id 3 m.room m.other m.lo m.hi m.long) <| .draw 3 <| .val 37 (.int .i64 ((2 ^ i : Nat) : Int)) [] <| .br 39 false <| .draw 20 <| .val 43 (.cptr (kdL ++ [encCs crs])) [] <| .val 44 (.cptr ((kdL ++ [encCs crs]).drop 12)) [] <| .val 45 (.cptr ((kdL ++ [encCs crs]).drop 15)) [] <| .val 46 (kdF 88) [] <| .val 53 (.vptr 15 (0 + 2 * (mrk m).room)) [] <| .val 54 (encTm (c.2 room (mrk m).room)) [] <| .val 57 (.vptr 15 (0 + 2 * (mrk m).other)) [] <| .val 58 (encTm (c.2 room (mrk m).other)) [] <| .call (encSp SY) <| .call (encSp (winM s.fin (c.2 room) (s.marks.take (i + 1)) set)) <| .br 65 false .nil) hn hlo (.roundW .cl) ⟨ltLen hlti, ⟨hmi2.1, hmi2.2.trans (eM 3 hj)⟩, by kernel_rfl, mixed, by kernel_rfl, Eq.trans (by kernel_rfl) sh, by kernel_rfl, hb0, by kernel_rfl, mixed, by kernel_rfl, by kernel_rfl, by kernel_rfl, by kernel_rfl, by kernel_rfl, Eq.trans (by kernel_rfl) x1, Eq.trans (by kernel_rfl) l1, Eq.trans (by kernel_rfl) x2, Eq.trans (by kernel_rfl) l2, sy, by kernel_rfl, ov, hnx, i + 1, ⟨hlti, hok⟩, mu1 hlti,
                  Wk.le (St.le.of ⟨by kernel_rfl, (by kernel_rfl), by kernel_rfl, (by kernel_rfl), by kernel_rfl, (by kernel_rfl), by kernel_rfl, (by kernel_rfl), by kernel_rfl, (by kernel_rfl), by kernel_rfl, (by kernel_rfl), by kernel_rfl, (by kernel_rfl), by kernel_rfl, (by kernel_rfl), by kernel_rfl, (by kernel_rfl), by kernel_rfl, (by kernel_rfl), by kernel_rfl, (by kernel_rfl), by kernel_rfl, (by kernel_rfl), Eq.trans (by kernel_rfl) ei, rfl, trivial⟩ ⟨by kernel_rfl, (by decide : (0 : Nat) < 16), rfl, by kernel_rfl, (by decide : (1 : Nat) < 16), rfl, by kernel_rfl, (by decide : (2 : Nat) < 16), rfl, by kernel_rfl, (by decide : (3 : Nat) < 16), (by kernel_rfl), by kernel_rfl, (by decide : (4 : Nat) < 16), (by kernel_rfl), by kernel_rfl, (by decide : (14 : Nat) < 16), rfl, by kernel_rfl, (by decide : (15 : Nat) < 16), (by kernel_rfl), trivial⟩) (hlo.mono (show 4 ≤ 16 by decide))⟩
            refine Or.elim sayC (fun hsy => ?_) (fun sayC => ?_)
            · have hj := hsy.1
              have sy := hsy.2
              refine (Bool.eq_false_or_eq_true (okW (winM s.fin (c.2 room) (s.marks.take (i + 1)) set))).symm.elim (fun hok => ?_) (fun hok => ?_)
              · rw [hok] at hnx
                have hbad := win_bad hok
                have htr : trC s.fin s.marks room set c = none := by unfold trC; rw [hbad]; rfl
                have hall2 : ∀ t ∈ (crs.take (k + 1)).filterMap (trC s.fin s.marks room set), inB t.2.1 t.2.2 minute = false := fun t ht => by
                  rw [take_snoc hck, List.filterMap_append] at ht
                  rcases List.mem_append.1 ht with ht | ht
                  · exact hall t ht
                  · simp only [List.filterMap_cons, List.filterMap_nil, htr] at ht
                    cases ht
                exact ACode.vcM (.br 31 true <| .cells (cMj m.id 4 m.room m.other m.lo m.hi m.long) <| .draw 3 <| .val 37 (.int .i64 ((2 ^ i : Nat) : Int)) [] <| .br 39 false <| .draw 20 <| .val 43 (.cptr (kdL ++ [encCs crs])) [] <| .val 44 (.cptr ((kdL ++ [encCs crs]).drop 16)) [] <| .val 45 (.cptr ((kdL ++ [encCs crs]).drop 19)) [] <| .val 46 (kdF 90) [] <| .val 53 (.vptr 15 (0 + 2 * (mrk m).room)) [] <| .val 54 (encTm (c.2 room (mrk m).room)) [] <| .val 57 (.vptr 15 (0 + 2 * (mrk m).other)) [] <| .val 58 (encTm (c.2 room (mrk m).other)) [] <| .call (encSp SY) <| .call (encSp (winM s.fin (c.2 room) (s.marks.take (i + 1)) set)) <| .br 65 true .nil) hn hlo (.roundW .cl) ⟨ltLen hlti, ⟨hmi2.1, hmi2.2.trans (eM 4 hj)⟩, by kernel_rfl, mixed, by kernel_rfl, Eq.trans (by kernel_rfl) sh, by kernel_rfl, hb0, by kernel_rfl, mixed, by kernel_rfl, by kernel_rfl, by kernel_rfl, by kernel_rfl, by kernel_rfl, Eq.trans (by kernel_rfl) x1, Eq.trans (by kernel_rfl) l1, Eq.trans (by kernel_rfl) x2, Eq.trans (by kernel_rfl) l2, sy, by kernel_rfl, ov, hnx, _, .refl _, .nil, k + 1, ⟨hlt, hall2⟩, mu1 hlt, Wk.le (St.le.of ⟨by kernel_rfl, (by kernel_rfl), by kernel_rfl, (by kernel_rfl), by kernel_rfl, (by kernel_rfl), by kernel_rfl, (by kernel_rfl), by kernel_rfl, (by kernel_rfl), by kernel_rfl, (by kernel_rfl), Eq.trans (by kernel_rfl) ek, rfl, trivial⟩ ⟨by kernel_rfl, (by decide : (0 : Nat) < 4), rfl, by kernel_rfl, (by decide : (1 : Nat) < 4), rfl, by kernel_rfl, (by decide : (2 : Nat) < 4), rfl, by kernel_rfl, (by decide : (3 : Nat) < 4), (by kernel_rfl), trivial⟩) (hloO.mono (show 4 ≤ 4 by decide))⟩
              · rw [hok] at hnx
                exact ACode.vcM (.br 31 true <| .cells (cMj m.id 4 m.room m.other m.lo m.hi m.long) <| .draw 3 <| .val 37 (.int .i64 ((2 ^ i : Nat) : Int)) [] <| .br 39 false <| .draw 20 <| .val 43 (.cptr (kdL ++ [encCs crs])) [] <| .val 44 (.cptr ((kdL ++ [encCs crs]).drop 16)) [] <| .val 45 (.cptr ((kdL ++ [encCs crs]).drop 19)) [] <| .val 46 (kdF 90) [] <| .val 53 (.vptr 15 (0 + 2 * (mrk m).room)) [] <| .val 54 (encTm (c.2 room (mrk m).room)) [] <| .val 57 (.vptr 15 (0 + 2 * (mrk m).other)) [] <| .val 58 (encTm (c.2 room (mrk m).other)) [] <| .call (encSp SY) <| .call (encSp (winM s.fin (c.2 room) (s.marks.take (i + 1)) set)) <| .br 65 false .nil) hn hlo (.roundW .cl) ⟨ltLen hlti, ⟨hmi2.1, hmi2.2.trans (eM 4 hj)⟩, by kernel_rfl, mixed, by kernel_rfl, Eq.trans (by kernel_rfl) sh, by kernel_rfl, hb0, by kernel_rfl, mixed, by kernel_rfl, by kernel_rfl, by kernel_rfl, by kernel_rfl, by kernel_rfl, Eq.trans (by kernel_rfl) x1, Eq.trans (by kernel_rfl) l1, Eq.trans (by kernel_rfl) x2, Eq.trans (by kernel_rfl) l2, sy, by kernel_rfl, ov, hnx, i + 1, ⟨hlti, hok⟩, mu1 hlti,
                  Wk.le (St.le.of ⟨by kernel_rfl, (by kernel_rfl), by kernel_rfl, (by kernel_rfl), by kernel_rfl, (by kernel_rfl), by kernel_rfl, (by kernel_rfl), by kernel_rfl, (by kernel_rfl), by kernel_rfl, (by kernel_rfl), by kernel_rfl, (by kernel_rfl), by kernel_rfl, (by kernel_rfl), by kernel_rfl, (by kernel_rfl), by kernel_rfl, (by kernel_rfl), by kernel_rfl, (by kernel_rfl), by kernel_rfl, (by kernel_rfl), Eq.trans (by kernel_rfl) ei, rfl, trivial⟩ ⟨by kernel_rfl, (by decide : (0 : Nat) < 16), rfl, by kernel_rfl, (by decide : (1 : Nat) < 16), rfl, by kernel_rfl, (by decide : (2 : Nat) < 16), rfl, by kernel_rfl, (by decide : (3 : Nat) < 16), (by kernel_rfl), by kernel_rfl, (by decide : (4 : Nat) < 16), (by kernel_rfl), by kernel_rfl, (by decide : (14 : Nat) < 16), rfl, by kernel_rfl, (by decide : (15 : Nat) < 16), (by kernel_rfl), trivial⟩) (hlo.mono (show 4 ≤ 16 by decide))⟩
            refine Or.elim sayC (fun hsy => ?_) (fun sayC => ?_)
            · have hj := hsy.1
              have sy := hsy.2
              refine (Bool.eq_false_or_eq_true (okW (winM s.fin (c.2 room) (s.marks.take (i + 1)) set))).symm.elim (fun hok => ?_) (fun hok => ?_)
              · rw [hok] at hnx
                have hbad := win_bad hok
                have htr : trC s.fin s.marks room set c = none := by unfold trC; rw [hbad]; rfl
                have hall2 : ∀ t ∈ (crs.take (k + 1)).filterMap (trC s.fin s.marks room set), inB t.2.1 t.2.2 minute = false := fun t ht => by
                  rw [take_snoc hck, List.filterMap_append] at ht
                  rcases List.mem_append.1 ht with ht | ht
                  · exact hall t ht
                  · simp only [List.filterMap_cons, List.filterMap_nil, htr] at ht
                    cases ht
                exact ACode.vcM (.br 31 true <| .cells (cMj m.id 5 m.room m.other m.lo m.hi m.long) <| .draw 3 <| .val 37 (.int .i64 ((2 ^ i : Nat) : Int)) [] <| .br 39 false <| .draw 20 <| .val 43 (.cptr (kdL ++ [encCs crs])) [] <| .val 44 (.cptr ((kdL ++ [encCs crs]).drop 20)) [] <| .val 45 (.cptr ((kdL ++ [encCs crs]).drop 23)) [] <| .val 46 (kdF 91) [] <| .val 53 (.vptr 15 (0 + 2 * (mrk m).room)) [] <| .val 54 (encTm (c.2 room (mrk m).room)) [] <| .val 57 (.vptr 15 (0 + 2 * (mrk m).other)) [] <| .val 58 (encTm (c.2 room (mrk m).other)) [] <| .call (encSp SY) <| .call (encSp (winM s.fin (c.2 room) (s.marks.take (i + 1)) set)) <| .br 65 true .nil) hn hlo (.roundW .cl) ⟨ltLen hlti, ⟨hmi2.1, hmi2.2.trans (eM 5 hj)⟩, by kernel_rfl, mixed, by kernel_rfl, Eq.trans (by kernel_rfl) sh, by kernel_rfl, hb0, by kernel_rfl, mixed, by kernel_rfl, by kernel_rfl, by kernel_rfl, by kernel_rfl, by kernel_rfl, Eq.trans (by kernel_rfl) x1, Eq.trans (by kernel_rfl) l1, Eq.trans (by kernel_rfl) x2, Eq.trans (by kernel_rfl) l2, sy, by kernel_rfl, ov, hnx, _, .refl _, .nil, k + 1, ⟨hlt, hall2⟩, mu1 hlt, Wk.le (St.le.of ⟨by kernel_rfl, (by kernel_rfl), by kernel_rfl, (by kernel_rfl), by kernel_rfl, (by kernel_rfl), by kernel_rfl, (by kernel_rfl), by kernel_rfl, (by kernel_rfl), by kernel_rfl, (by kernel_rfl), Eq.trans (by kernel_rfl) ek, rfl, trivial⟩ ⟨by kernel_rfl, (by decide : (0 : Nat) < 4), rfl, by kernel_rfl, (by decide : (1 : Nat) < 4), rfl, by kernel_rfl, (by decide : (2 : Nat) < 4), rfl, by kernel_rfl, (by decide : (3 : Nat) < 4), (by kernel_rfl), trivial⟩) (hloO.mono (show 4 ≤ 4 by decide))⟩
              · rw [hok] at hnx
                exact ACode.vcM (.br 31 true <| .cells (cMj m.id 5 m.room m.other m.lo m.hi m.long) <| .draw 3 <| .val 37 (.int .i64 ((2 ^ i : Nat) : Int)) [] <| .br 39 false <| .draw 20 <| .val 43 (.cptr (kdL ++ [encCs crs])) [] <| .val 44 (.cptr ((kdL ++ [encCs crs]).drop 20)) [] <| .val 45 (.cptr ((kdL ++ [encCs crs]).drop 23)) [] <| .val 46 (kdF 91) [] <| .val 53 (.vptr 15 (0 + 2 * (mrk m).room)) [] <| .val 54 (encTm (c.2 room (mrk m).room)) [] <| .val 57 (.vptr 15 (0 + 2 * (mrk m).other)) [] <| .val 58 (encTm (c.2 room (mrk m).other)) [] <| .call (encSp SY) <| .call (encSp (winM s.fin (c.2 room) (s.marks.take (i + 1)) set)) <| .br 65 false .nil) hn hlo (.roundW .cl) ⟨ltLen hlti, ⟨hmi2.1, hmi2.2.trans (eM 5 hj)⟩, by kernel_rfl, mixed, by kernel_rfl, Eq.trans (by kernel_rfl) sh, by kernel_rfl, hb0, by kernel_rfl, mixed, by kernel_rfl, by kernel_rfl, by kernel_rfl, by kernel_rfl, by kernel_rfl, Eq.trans (by kernel_rfl) x1, Eq.trans (by kernel_rfl) l1, Eq.trans (by kernel_rfl) x2, Eq.trans (by kernel_rfl) l2, sy, by kernel_rfl, ov, hnx, i + 1, ⟨hlti, hok⟩, mu1 hlti,
                  Wk.le (St.le.of ⟨by kernel_rfl, (by kernel_rfl), by kernel_rfl, (by kernel_rfl), by kernel_rfl, (by kernel_rfl), by kernel_rfl, (by kernel_rfl), by kernel_rfl, (by kernel_rfl), by kernel_rfl, (by kernel_rfl), by kernel_rfl, (by kernel_rfl), by kernel_rfl, (by kernel_rfl), by kernel_rfl, (by kernel_rfl), by kernel_rfl, (by kernel_rfl), by kernel_rfl, (by kernel_rfl), by kernel_rfl, (by kernel_rfl), Eq.trans (by kernel_rfl) ei, rfl, trivial⟩ ⟨by kernel_rfl, (by decide : (0 : Nat) < 16), rfl, by kernel_rfl, (by decide : (1 : Nat) < 16), rfl, by kernel_rfl, (by decide : (2 : Nat) < 16), rfl, by kernel_rfl, (by decide : (3 : Nat) < 16), (by kernel_rfl), by kernel_rfl, (by decide : (4 : Nat) < 16), (by kernel_rfl), by kernel_rfl, (by decide : (14 : Nat) < 16), rfl, by kernel_rfl, (by decide : (15 : Nat) < 16), (by kernel_rfl), trivial⟩) (hlo.mono (show 4 ≤ 16 by decide))⟩
            have hj := sayC.1
            have sy := sayC.2
            refine (Bool.eq_false_or_eq_true (okW (winM s.fin (c.2 room) (s.marks.take (i + 1)) set))).symm.elim (fun hok => ?_) (fun hok => ?_)
            · rw [hok] at hnx
              have hbad := win_bad hok
              have htr : trC s.fin s.marks room set c = none := by unfold trC; rw [hbad]; rfl
              have hall2 : ∀ t ∈ (crs.take (k + 1)).filterMap (trC s.fin s.marks room set), inB t.2.1 t.2.2 minute = false := fun t ht => by
                rw [take_snoc hck, List.filterMap_append] at ht
                rcases List.mem_append.1 ht with ht | ht
                · exact hall t ht
                · simp only [List.filterMap_cons, List.filterMap_nil, htr] at ht
                  cases ht
              exact ACode.vcM (.br 31 true <| .cells (cMj m.id 6 m.room m.other m.lo m.hi m.long) <| .draw 3 <| .val 37 (.int .i64 ((2 ^ i : Nat) : Int)) [] <| .br 39 false <| .draw 20 <| .val 43 (.cptr (kdL ++ [encCs crs])) [] <| .val 44 (.cptr ((kdL ++ [encCs crs]).drop 24)) [] <| .val 45 (.cptr ((kdL ++ [encCs crs]).drop 27)) [] <| .val 46 (kdF 92) [] <| .val 53 (.vptr 15 (0 + 2 * (mrk m).room)) [] <| .val 54 (encTm (c.2 room (mrk m).room)) [] <| .val 57 (.vptr 15 (0 + 2 * (mrk m).other)) [] <| .val 58 (encTm (c.2 room (mrk m).other)) [] <| .call (encSp SY) <| .call (encSp (winM s.fin (c.2 room) (s.marks.take (i + 1)) set)) <| .br 65 true .nil) hn hlo (.roundW .cl) ⟨ltLen hlti, ⟨hmi2.1, hmi2.2.trans (eM 6 hj)⟩, by kernel_rfl, mixed, by kernel_rfl, Eq.trans (by kernel_rfl) sh, by kernel_rfl, hb0, by kernel_rfl, mixed, by kernel_rfl, by kernel_rfl, by kernel_rfl, by kernel_rfl, by kernel_rfl, Eq.trans (by kernel_rfl) x1, Eq.trans (by kernel_rfl) l1, Eq.trans (by kernel_rfl) x2, Eq.trans (by kernel_rfl) l2, sy, by kernel_rfl, ov, hnx, _, .refl _, .nil, k + 1, ⟨hlt, hall2⟩, mu1 hlt, Wk.le (St.le.of ⟨by kernel_rfl, (by kernel_rfl), by kernel_rfl, (by kernel_rfl), by kernel_rfl, (by kernel_rfl), by kernel_rfl, (by kernel_rfl), by kernel_rfl, (by kernel_rfl), by kernel_rfl, (by kernel_rfl), Eq.trans (by kernel_rfl) ek, rfl, trivial⟩ ⟨by kernel_rfl, (by decide : (0 : Nat) < 4), rfl, by kernel_rfl, (by decide : (1 : Nat) < 4), rfl, by kernel_rfl, (by decide : (2 : Nat) < 4), rfl, by kernel_rfl, (by decide : (3 : Nat) < 4), (by kernel_rfl), trivial⟩) (hloO.mono (show 4 ≤ 4 by decide))⟩
            · rw [hok] at hnx
              exact ACode.vcM (.br 31 true <| .cells (cMj m.id 6 m.room m.other m.lo m.hi m.long) <| .draw 3 <| .val 37 (.int .i64 ((2 ^ i : Nat) : Int)) [] <| .br 39 false <| .draw 20 <| .val 43 (.cptr (kdL ++ [encCs crs])) [] <| .val 44 (.cptr ((kdL ++ [encCs crs]).drop 24)) [] <| .val 45 (.cptr ((kdL ++ [encCs crs]).drop 27)) [] <| .val 46 (kdF 92) [] <| .val 53 (.vptr 15 (0 + 2 * (mrk m).room)) [] <| .val 54 (encTm (c.2 room (mrk m).room)) [] <| .val 57 (.vptr 15 (0 + 2 * (mrk m).other)) [] <| .val 58 (encTm (c.2 room (mrk m).other)) [] <| .call (encSp SY) <| .call (encSp (winM s.fin (c.2 room) (s.marks.take (i + 1)) set)) <| .br 65 false .nil) hn hlo (.roundW .cl) ⟨ltLen hlti, ⟨hmi2.1, hmi2.2.trans (eM 6 hj)⟩, by kernel_rfl, mixed, by kernel_rfl, Eq.trans (by kernel_rfl) sh, by kernel_rfl, hb0, by kernel_rfl, mixed, by kernel_rfl, by kernel_rfl, by kernel_rfl, by kernel_rfl, by kernel_rfl, Eq.trans (by kernel_rfl) x1, Eq.trans (by kernel_rfl) l1, Eq.trans (by kernel_rfl) x2, Eq.trans (by kernel_rfl) l2, sy, by kernel_rfl, ov, hnx, i + 1, ⟨hlti, hok⟩, mu1 hlti,
                Wk.le (St.le.of ⟨by kernel_rfl, (by kernel_rfl), by kernel_rfl, (by kernel_rfl), by kernel_rfl, (by kernel_rfl), by kernel_rfl, (by kernel_rfl), by kernel_rfl, (by kernel_rfl), by kernel_rfl, (by kernel_rfl), by kernel_rfl, (by kernel_rfl), by kernel_rfl, (by kernel_rfl), by kernel_rfl, (by kernel_rfl), by kernel_rfl, (by kernel_rfl), by kernel_rfl, (by kernel_rfl), by kernel_rfl, (by kernel_rfl), Eq.trans (by kernel_rfl) ei, rfl, trivial⟩ ⟨by kernel_rfl, (by decide : (0 : Nat) < 16), rfl, by kernel_rfl, (by decide : (1 : Nat) < 16), rfl, by kernel_rfl, (by decide : (2 : Nat) < 16), rfl, by kernel_rfl, (by decide : (3 : Nat) < 16), (by kernel_rfl), by kernel_rfl, (by decide : (4 : Nat) < 16), (by kernel_rfl), by kernel_rfl, (by decide : (14 : Nat) < 16), rfl, by kernel_rfl, (by decide : (15 : Nat) < 16), (by kernel_rfl), trivial⟩) (hlo.mono (show 4 ≤ 16 by decide))⟩
        · have hik : i = s.marks.length := by omega
          have hfull : s.marks.take i = s.marks := by rw [hik, List.take_length]
          rw [hfull] at hi2
          have eW : some (AObj.cells (cSp (winM s.fin (c.2 room) (s.marks.take i) set))) = some (.cells (cSp (winM s.fin (c.2 room) s.marks set))) := by rw [hfull]
          have htr : trC s.fin s.marks room set c = some (c.1, winM s.fin (c.2 room) s.marks set) := by unfold trC; rw [if_pos hi2]
          have isS := isSo_spec c.1 (winM s.fin (c.2 room) s.marks set) minute
          have l70 : some (⟨encSp (winM s.fin (c.2 room) (s.marks.take i) set), []⟩ : Out) = some ⟨encSp (winM s.fin (c.2 room) s.marks set), []⟩ := by rw [hfull]
          refine (Bool.eq_false_or_eq_true (inB (winM s.fin (c.2 room) s.marks set).1 (winM s.fin (c.2 room) s.marks set).2 minute)).symm.elim (fun hB => ?_) (fun hB => ?_)
          · rw [hB] at isS
            have hall2 : ∀ t ∈ (crs.take (k + 1)).filterMap (trC s.fin s.marks room set), inB t.2.1 t.2.2 minute = false := fun t ht => by
              rw [take_snoc hck, List.filterMap_append] at ht
              rcases List.mem_append.1 ht with ht | ht
              · exact hall t ht
              · simp only [List.filterMap_cons, List.filterMap_nil, htr] at ht
                rw [List.mem_singleton] at ht; subst ht; exact hB
            exact ACode.vcM (.br 31 false .nil) hn hlo (.roundW .cl) ⟨geLen hlti, _, .refl _, .val 69 (encR c.1) [] <| .val 70 (encSp (winM s.fin (c.2 room) s.marks set)) [] <| .call (.bool false) .nil, by kernel_rfl, Eq.trans (by kernel_rfl) l70, isS, k + 1, ⟨hlt, hall2⟩, mu1 hlt, Wk.le (St.le.of ⟨by kernel_rfl, (by kernel_rfl), by kernel_rfl, (by kernel_rfl), by kernel_rfl, (by kernel_rfl), by kernel_rfl, (by kernel_rfl), by kernel_rfl, (by kernel_rfl), by kernel_rfl, (by kernel_rfl), Eq.trans (by kernel_rfl) ek, rfl, trivial⟩ ⟨by kernel_rfl, (by decide : (0 : Nat) < 4), rfl, by kernel_rfl, (by decide : (1 : Nat) < 4), rfl, by kernel_rfl, (by decide : (2 : Nat) < 4), rfl, by kernel_rfl, (by decide : (3 : Nat) < 4), (by kernel_rfl), trivial⟩) (hloO.mono (show 4 ≤ 4 by decide))⟩
          · rw [hB] at isS
            have he : some (AV.tup [.agg [encR c.1, .int .i64 (winM s.fin (c.2 room) s.marks set).1, .int .i64 (winM s.fin (c.2 room) s.marks set).2], .bool true], ([] : List Nat)) = some (encTr ((crs.filterMap (trC s.fin s.marks room set)).find? fun t => inB t.2.1 t.2.2 minute), []) := by
              have hsp : crs = crs.take k ++ c :: crs.drop (k + 1) := by rw [← drop_cons hck, List.take_append_drop]
              have hfd : (crs.filterMap (trC s.fin s.marks room set)).find? (fun t => inB t.2.1 t.2.2 minute) = some (c.1, winM s.fin (c.2 room) s.marks set) := by
                rw [hsp, List.filterMap_append, List.find?_append, List.find?_eq_none.2 (fun t ht => by rw [hall t ht]; decide), Option.none_or, List.filterMap_cons, htr]
                simp [hB]
              rw [hfd]; rfl
            exact ACode.vcM (.br 31 false .nil) hn hlo (.roundW .cl) ⟨geLen hlti, _, .refl _, .val 69 (encR c.1) [] <| .val 70 (encSp (winM s.fin (c.2 room) s.marks set)) [] <| .call (.bool true) .nil, by kernel_rfl, Eq.trans (by kernel_rfl) l70, isS, _, .refl _, .nil, [], Eq.trans (by kernel_rfl) he⟩
    · have hall' : crs.take k = crs := List.take_of_length_le (by omega)
      have he : some (AV.tup [.agg [.nil, .int .i64 0, .int .i64 0], .bool false], ([] : List Nat)) = some (encTr ((crs.filterMap (trC s.fin s.marks room set)).find? fun t => inB t.2.1 t.2.2 minute), []) := by
        rw [hall'] at hall
        rw [List.find?_eq_none.2 (fun t ht => by rw [hall t ht]; decide)]; rfl
      exact ACode.vcM (.br 15 false .nil) hn hlo (.roundW .cl) ⟨geLen hlt, _, .refl _, .nil, [], Eq.trans (by kernel_rfl) he⟩
end Go.Proofs.YtjoagmjijbfjkaaGreatDoor
/-
  THE FIRST TRUTH, OF A SCENE THAT IS SET UP, AND OF ANY.
-/
namespace Go.Proofs.YtjoagmjijbfjkaaGreatDoor
open Go Go.Am
set_option maxRecDepth 100000
set_option maxHeartbeats 4000000
theorem truth_spec (s : Scn) (hs : ScOk s) (room : Nat) (hroom : room < nR s) (minute : Int) : APure Tryz.prog 47 [encX s (crsP s), .int .i64 (room : Int), .int .i64 minute] (encTv (truP s room minute)) := by
  have a := all_spec s (crsP s) hs.ml
  have t := truths_spec s (crsP s) room (allN s)
  have f := first_of s hs (crsP s) (fun c hc => cr_ok hs hc) (by rw [crsP_len]; have := all_729 hs; omega) room (allN s) hroom (set_lt hs) minute
  have hv : truP s room minute = (((crsP s).filterMap (trC s.fin s.marks room (allN s))).find? fun t => inB t.2.1 t.2.2 minute).map (·.1) := rfl
  have hX := cX_ok s (crsP s)
  rw [hv]
  generalize ((crsP s).filterMap (trC s.fin s.marks room (allN s))).find? (fun t => inB t.2.1 t.2.2 minute) = o at f ⊢
  refine APure.intro Tryz.func47 rfl (by kernel_rfl) (by cases o <;> rfl) fun g hn hlo0 => ?_
  replace hn : g.n = 23 := hn
  refine ACode.cut 0 (fun _ : Unit => ⟨[(1, .int .i64 (room : Int)), (3, .vptr 0 0), (5, .cptr [.int .i64 minute])], [(0, .cells (cXa s (encCs (crsP s))))], 1⟩) (fun _ => True) .nil hn hlo0 .ret rfl ?_ fun _ _ => ?_
  · exact ⟨(), trivial, Wk.frv (c := 1) (id := 1) (cs := [.int .i64 minute]) (St.frv.of rfl (by decide) (by kernel_rfl) ⟨.inl ⟨by kernel_rfl, rfl⟩, .inl ⟨by kernel_rfl, rfl⟩, .inr ⟨rfl, [1], by kernel_rfl⟩, trivial⟩ ⟨by kernel_rfl, (by decide : (0 : Nat) < 1), (by kernel_rfl), trivial⟩) (hlo0.mono (by decide))⟩
  · cases o with
    | none =>
      exact ACode.vcM (.draw 12 <| .val 11 (encX s (crsP s)) [] <| .val 13 (encX s (crsP s)) [] <| .call (.int .i64 ((allN s : Nat) : Int)) <| .call (.fn (.func 99) [] [.cptr (cXa s (encCs (crsP s))), .cptr [.int .i64 (room : Int)], .cptr [.int .i64 ((allN s : Nat) : Int)]]) <| .call (.tup [.agg [.nil, .int .i64 0, .int .i64 0], .bool false]) .nil) hn hlo0 .ret
        ⟨by kernel_rfl, mixed, by kernel_rfl, by kernel_rfl, by kernel_rfl, a, t, f, by kernel_rfl, trivial, by kernel_rfl⟩
    | some p =>
      exact ACode.vcM (.draw 12 <| .val 11 (encX s (crsP s)) [] <| .val 13 (encX s (crsP s)) [] <| .call (.int .i64 ((allN s : Nat) : Int)) <| .call (.fn (.func 99) [] [.cptr (cXa s (encCs (crsP s))), .cptr [.int .i64 (room : Int)], .cptr [.int .i64 ((allN s : Nat) : Int)]]) <| .call (.tup [.agg [encR p.1, .int .i64 p.2.1, .int .i64 p.2.2], .bool true]) .nil) hn hlo0 .ret
        ⟨by kernel_rfl, mixed, by kernel_rfl, by kernel_rfl, by kernel_rfl, a, t, f, by kernel_rfl, trivial, by kernel_rfl⟩
theorem Truth_ok (s : Scn) (room minute : Int) : APure Tryz.prog 15 [encSc s, .int .i64 room, .int .i64 minute] (encLe (tvV s room minute) (tvE s room minute)) := by
  have c := checkRoom_spec s room
  unfold tvV tvE
  by_cases h0 : rmE s room = 0
  · rw [h0] at c
    rw [if_pos h0, if_pos h0]
    obtain ⟨h1, h2⟩ := rm_0 h0
    have hs := scB_iff.1 h1
    obtain ⟨e1, e2⟩ := rm_nat hs h2
    have w := atWork_spec s hs
    have t := truth_spec s hs room.toNat e2 minute
    rw [← e1] at t
    cases hT : truP s room.toNat minute with
    | none =>
      rw [hT] at t
      exact APure.weak (r := .tup [.nil, .int .i64 91]) (APure.vc Tryz.func15 rfl (.call (.int .i64 0) <| .call (encX s (crsP s)) <| .call (.tup [.nil, .bool false]) .nil) rfl rfl ⟨c, w, t, trivial, by kernel_rfl⟩) VRel.tupNil
    | some ds =>
      rw [hT] at t
      exact APure.vc Tryz.func15 rfl (.call (.int .i64 0) <| .call (encX s (crsP s)) <| .call (.tup [encR ds, .bool true]) .nil) rfl rfl ⟨c, w, t, trivial, by kernel_rfl⟩
  · have hne : (rmE s room != 0) = true := bne_iff_ne.2 h0
    rw [if_neg h0, if_neg h0]
    generalize rmE s room = E at *
    exact APure.weak (r := .tup [.nil, .int .i64 E]) (APure.vc Tryz.func15 rfl (.call (.int .i64 E) <| .br 15 true .nil) rfl rfl ⟨c, hne, trivial, by kernel_rfl⟩) VRel.tupNil
end Go.Proofs.YtjoagmjijbfjkaaGreatDoor
