import Derived.Test.YtmdhgkfjlphliaaW3
import Derived.Test.YtmdhgkfjlphliaaCl
/-
  WHETHER A RECORD STANDS; WHAT HOLDS, ONE AFTER THE OTHER.
-/
namespace Go.Proofs.Ytmdhgkfjlphliaa
open Go Go.Am
set_option maxRecDepth 100000
set_option maxHeartbeats 4000000
def accF (acc : List Int) (i : Int) : Bool := acc.contains i
theorem lookD {h : Nat → Option AObj} {l : List Int} {x : Int} : (aLookup Try.prog h 72 (.imap (entsO l)) (.int .i64 x) false).map (fun v => (⟨v, []⟩ : Out)) = some ⟨.bool (l.contains x), []⟩ := by rw [lookO]; rfl
theorem asks_spec (i : Int) (acc : List Int) : APure Try.prog 104 [.int .i64 i, .cptr [.imap (entsO acc)]] (.bool (accF acc i)) := by
  have lk := lookD (h := hget []) (l := acc) (x := i)
  exact APure.vc Try.func104 rfl (.val 6 (.bool (acc.contains i)) [] .nil) rfl rfl ⟨Eq.trans (by kernel_rfl) lk, rB rfl⟩
theorem acc_stands (x : Rcd) (b : Nat) (acc : List Int) (hw : x.ways.length ≤ 1000) (hww : ∀ w ∈ x.ways, w.length ≤ 1000) : APure Try.prog 103 [.agg (cPp (x, b)), .fn (.func 104) [] [.cptr [.imap (entsO acc)]]] (.bool (standsB (accF acc) x.ways)) := by
  refine APure.vc Try.func103 rfl .loop rfl rfl ?_
  intro g hn hl
  replace hn : g.n = 34 := hn
  replace hl : g.low 0 := hl
  refine acode_while (fun k : Nat => ⟨[(1, .fn (.func 104) [] [.cptr [.imap (entsO acc)]]), (2, .vptr 0 0), (11, encWs x.ways), (12, .int .i64 (x.ways.map cW).length), (13, .int .i64 k)], [(0, .cells (cPp (x, b)))], 1⟩) (fun k => k ≤ x.ways.length ∧ ∀ w ∈ x.ways.take k, w.all (accF acc) = false) (fun k => x.ways.length - k) 0 ⟨Nat.zero_le _, fun w hw => by simp at hw⟩ ?_ (fun _ _ => hl.mono (Nat.zero_le _)) ?_
  · exact St.le.of ⟨by kernel_rfl, rfl, by kernel_rfl, rfl, by kernel_rfl, rfl, by kernel_rfl, rfl, by kernel_rfl, rfl, trivial⟩ ⟨by kernel_rfl, (by decide : (0 : Nat) < 1), rfl, trivial⟩
  · rintro k ⟨hk1, hk2⟩
    by_cases hlt : k < x.ways.length
    · refine Exists.elim (getE hlt) fun w hw' => ?_
      have ek := congrArg (AV.int .i64) (succ64 (k := k) (by omega))
      have hwl := hww w (List.mem_of_getElem? hw')
      have miss : w.all (accF acc) = false → ∀ v ∈ x.ways.take (k + 1), v.all (accF acc) = false := fun h v hv => by
        rw [List.take_add_one, hw'] at hv
        rcases List.mem_append.1 hv with hv | hv
        · exact hk2 v hv
        · simp at hv; subst hv; exact h
      have hit : w.all (accF acc) = true → standsB (accF acc) x.ways = true := fun h => by
        unfold standsB; rw [List.any_eq_true.2 ⟨w, List.mem_of_getElem? hw', h⟩, Bool.or_true]
      refine ACode.vc (.br 14 true <| .cells (cW w) <| .loop) hn hl (.round .cl) ⟨ltLen hlt, idx hw', ?_⟩
      intro g hn hl
      replace hn : g.n = 34 := hn
      replace hl : g.low 0 := hl
      refine acode_while (fun n : Nat => ⟨[(1, .fn (.func 104) [] [.cptr [.imap (entsO acc)]]), (2, .vptr 0 0), (11, encWs x.ways), (12, .int .i64 (x.ways.map cW).length), (13, .int .i64 k), (17, encR w), (18, .int .i64 (w.map encI).length), (19, .int .i64 n)], [(0, .cells (cPp (x, b)))], 1⟩) (fun n => n ≤ w.length ∧ (w.take n).all (accF acc) = true) (fun n => w.length - n) 0 ⟨Nat.zero_le _, rfl⟩ ?_ (fun _ _ => hl.mono (Nat.zero_le _)) ?_
      · exact St.le.of ⟨by kernel_rfl, rfl, by kernel_rfl, rfl, by kernel_rfl, rfl, by kernel_rfl, rfl, by kernel_rfl, rfl, by kernel_rfl, rfl, by kernel_rfl, rfl, by kernel_rfl, rfl, trivial⟩ ⟨by kernel_rfl, (by decide : (0 : Nat) < 1), rfl, trivial⟩
      · rintro n ⟨hn1, hn2⟩
        by_cases hnl : n < w.length
        · refine Exists.elim (getE hnl) fun i hi => ?_
          have en := congrArg (AV.int .i64) (succ64 (k := n) (by omega))
          have s := asks_spec i acc
          cases hb : (accF acc) i
          · rw [hb] at s
            have ms := miss (all_bad hi hb)
            exact ACode.vc (.br 20 true <| .cells (encI i) <| .call (.bool false) .nil) hn hl (.round .cl) ⟨ltLen hnl, idx hi, s, _, .refl _, .nil, k + 1, ⟨hlt, ms⟩, mu1 hlt,
              St.le.of ⟨by kernel_rfl, rfl, by kernel_rfl, rfl, by kernel_rfl, rfl, by kernel_rfl, rfl, Eq.trans (by kernel_rfl) ek, rfl, trivial⟩ ⟨by kernel_rfl, (by decide : (0 : Nat) < 1), rfl, trivial⟩⟩
          · rw [hb] at s
            have good : (w.take (n + 1)).all (accF acc) = true := by rw [take_all hi, hn2, hb]; rfl
            exact ACode.vc (.br 20 true <| .cells (encI i) <| .call (.bool true) .nil) hn hl (.round .cl) ⟨ltLen hnl, idx hi, s, n + 1, ⟨hnl, good⟩, mu1 hnl,
              St.le.of ⟨by kernel_rfl, rfl, by kernel_rfl, rfl, by kernel_rfl, rfl, by kernel_rfl, rfl, by kernel_rfl, rfl, by kernel_rfl, rfl, by kernel_rfl, rfl, Eq.trans (by kernel_rfl) en, rfl, trivial⟩ ⟨by kernel_rfl, (by decide : (0 : Nat) < 1), rfl, trivial⟩⟩
        · have hn' : n = w.length := by omega
          have e : some (AV.bool true) = some (AV.bool (standsB (accF acc) x.ways)) := by rw [hit (by rw [hn', List.take_length] at hn2; exact hn2)]
          exact ACode.vc (.br 20 false .nil) hn hl (.round .cl) ⟨geLen hnl, _, .refl _, .nil, _, .refl _, .nil, trivial, e⟩
    · have hk' : k = x.ways.length := by omega
      have e : (((x.ways.map cW).length : Int) == 0) = standsB (accF acc) x.ways := by
        rw [hk', List.take_length] at hk2
        have h2 : (x.ways.any fun w => w.all (accF acc)) = false := by
          rw [List.any_eq_false]; intro w hw; rw [hk2 w hw]; decide
        unfold standsB
        rw [h2, Bool.or_false, List.length_map]
        cases x.ways with
        | nil => rfl
        | cons a l => exact beq_eq_false_iff_ne.2 (by simp; omega)
      exact ACode.vc (.br 14 false .nil) hn hl (.round .cl) ⟨geLen hlt, _, .refl _, .nil, rB e⟩
end Go.Proofs.Ytmdhgkfjlphliaa
/-
  WHAT HOLDS, ONE AFTER THE OTHER: the set of it.
-/
namespace Go.Proofs.Ytmdhgkfjlphliaa
open Go Go.Am
set_option maxRecDepth 100000
set_option maxHeartbeats 4000000
theorem holding_spec (r : List Rcd) (G : List Int) : APure Try.prog 71 [encAr r G] (.fn (.func 102) [] [.cptr (cAr r G)]) :=
  APure.vcM Try.func71 .nil rfl rfl ⟨[0], by kernel_rfl⟩
theorem thaw_asks {h : Nat → Option AObj} {f : Fn} {j m : Nat} {acc : List Int} (hj : h j = some (.cells [.mref m])) (hm : h m = some (.map (entsO acc))) : thaw 8 h (.fn f [] [.vptr j 0]) = some (.fn f [] [.cptr [.imap (entsO acc)]], [j, m]) := by
  have e : thaw 8 h (.fn f [] [.vptr j 0]) = (match mapO (thaw 7 h) [], mapO (thaw 7 h) [.vptr j 0] with | some (fs', i), some (cs', j) => some (.fn f fs' cs', i ++ j) | _, _ => none) := rfl
  have e1 : thaw 7 h (.vptr j 0) = (match h j with
      | some (.cells cs) => (match mapO (thaw 6 h) cs with | some (cs', is) => some (.cptr (cs'.drop 0), j :: is) | none => none)
      | _ => none) := rfl
  have e2 : thaw 6 h (.mref m) = (match h m with
      | some (.map es) => (match mapOE (thaw 5 h) es with | some (es', is) => some (.imap es', m :: is) | none => none)
      | _ => none) := rfl
  have e3 : thaw 6 h (.mref m) = some (.imap (entsO acc), [m]) := by rw [e2, hm]; simp only []; rw [mapOE_O 4]
  have e4 : thaw 7 h (.vptr j 0) = some (.cptr [.imap (entsO acc)], [j, m]) := by rw [e1, hj]; simp only [mapO, e3]; rfl
  rw [e]
  simp only [mapO, e4]
  rfl
theorem thawL_asks {h : Nat → Option AObj} {f : Fn} {p : Rcd × Nat} {j m : Nat} {acc : List Int} (hj : h j = some (.cells [.mref m])) (hm : h m = some (.map (entsO acc))) : thawL h [.agg (cPp p), .fn f [] [.vptr j 0]] = some ([.agg (cPp p), .fn f [] [.cptr [.imap (entsO acc)]]], [j, m]) := by
  have e0 : thaw 8 h (.agg (cPp p)) = some (.agg (cPp p), []) := by unfold thaw; exact if_pos rfl
  simp only [thawL, mapO, e0, thaw_asks hj hm]
  rfl
/-- Ways are not long. -/
def WR (r : List Rcd) : Prop := ∀ x ∈ r, x.ways.length ≤ 1000 ∧ ∀ w ∈ x.ways, w.length ≤ 1000
theorem WR_of {r : List Rcd} (h : recsB r = true) : WR r := by
  rw [← recsR_eq] at h
  simp only [recsR, Bool.and_eq_true, allI_iff] at h
  intro x hx
  obtain ⟨k, hk, e⟩ := List.mem_iff_getElem.1 hx
  have := h.2 k x (by rw [List.getElem?_eq_getElem hk, e])
  simp only [recI, Bool.and_eq_true, List.all_eq_true, wayR, inB_iff] at this
  refine ⟨?_, fun w hw => by have := (this.2.2 w hw).1; omega⟩
  have h3 := this.2.1
  unfold kindR at h3
  split at h3
  · have := of_decide_eq_true h3; omega
  · have := inB_iff.1 h3; omega
structure Ar (r : List Rcd) : Prop where
  nd : (idsR r).Nodup
  len : r.length ≤ 12
  wr : WR r
theorem Ar_of {r : List Rcd} (h : recsB r = true) : Ar r := ⟨(recs_nodup h).1, (recs_nodup h).2.2, WR_of h⟩
def gF (G : List Int) (i : Int) : Bool := G.contains i
noncomputable def asgS : Code := rfA Try.f41
noncomputable def bodS : Code := rfB Try.f41
theorem upO2 {h : Nat → Option AObj} {i : Nat} {l : List Int} {x : Int} (h0 : h i = some (.map (entsO l))) (hl : x ∉ l) :
    aMapUpdate Try.prog h 72 (.mref i) (.int .i64 x) (.bool true) = some ⟨.undef, [(i, some (.map (entsO (l ++ [x]))))]⟩ := updO h0 hl
theorem standing_spec (r : List Rcd) (G : List Int) (ha : Ar r) : APure Try.prog 41 [encAr r G] (.int .i64 ((setK (gF G) r r.length : Nat) : Int)) := by
  have s0 := holding_spec r G
  have hrl := ha.len
  refine APure.vcM Try.func41 (.lent (.fn (.func 102) [] [.cptr (cAr r G)]) [] <| .inl Try.f102 .loop) rfl rfl ⟨⟨_, by kernel_rfl, .inl ⟨s0, .inl ⟨rfl, rfl⟩⟩⟩, Try.func102, ?_⟩
  intro g hn hlo
  replace hn : g.n = 35 := hn
  replace hlo : g.low 4 := hlo
  refine acode_whileW (fun k : Nat => ⟨[(0, .yld 3), (1, .cptr (cAr r G)), (3, .vptr 5 0), (8, encPs (paps r)), (9, .int .i64 ((paps r).map cPp).length), (10, .int .i64 k)], [(1, .cells [.int .i64 ((setK (gF G) r k : Nat) : Int)]), (3, .loop ⟨.ready, none, 13, [(3, .vptr 1 0)], #[7], asgS, bodS⟩), (4, .map (entsO (accV (gF G) r k))), (5, .cells [.mref 4])], 7⟩) (fun k => k ≤ r.length) (fun k => r.length - k) 0 (Nat.zero_le _) ?_ ?_
  · refine Wk.trans (Wk.le ?_ (hlo.mono (show 4 ≤ 7 by decide))) (Wk.loopEnv (id := 3) (n := 4) [(3, .vptr 1 0)] rfl ⟨rfl, rfl, trivial⟩)
    exact St.le.of ⟨by kernel_rfl, rfl, by kernel_rfl, rfl, by kernel_rfl, rfl, by kernel_rfl, rfl, by kernel_rfl, rfl, by kernel_rfl, rfl, trivial⟩ ⟨by kernel_rfl, (by decide : (1 : Nat) < 7), rfl, by kernel_rfl, (by decide : (3 : Nat) < 7), rfl, by kernel_rfl, (by decide : (4 : Nat) < 7), rfl, by kernel_rfl, (by decide : (5 : Nat) < 7), rfl, trivial⟩
  · intro k hk
    replace hk : k ≤ r.length := hk
    by_cases hlt : k < r.length
    · refine Exists.elim (getE hlt) fun x hx => ?_
      have ek := congrArg (AV.int .i64) (succ64 (k := k) (by omega))
      have hpl : k < (paps r).length := by rw [paps_len]; exact hlt
      have hp := paps_get hx
      have hxm := ha.wr x (List.mem_of_getElem? hx)
      have sS := acc_stands x k (accV (gF G) r k) hxm.1 hxm.2
      have lk := lookD (h := hget []) (l := G) (x := x.id)
      have eA := accV_succ (gF G) hx
      have eS := setK_succ (g := gF G) ha.nd hx
      have hst : stepB (gF G) r k x = (!G.contains x.id && standsB (accF (accV (gF G) r k)) x.ways) := rfl
      rw [hst] at eA eS
      have hnew := step_new (g := gF G) ha.nd hx
      have tA := thawL_asks (h := hget [(1, .cells [.int .i64 ((setK (gF G) r k : Nat) : Int)]), (3, .loop ⟨.ready, none, 13, [(3, .vptr 1 0)], #[7], asgS, bodS⟩), (4, .map (entsO (accV (gF G) r k))), (5, .cells [.mref 4]), (7, .cells (cPp (x, k)))]) (f := .func 104) (p := (x, k)) (j := 5) (m := 4) (acc := accV (gF G) r k) rfl rfl
      have up := upO2 (h := hget [(1, .cells [.int .i64 ((setK (gF G) r k : Nat) : Int)]), (3, .loop ⟨.ready, none, 13, [(3, .vptr 1 0)], #[7], asgS, bodS⟩), (4, .map (entsO (accV (gF G) r k))), (5, .cells [.mref 4]), (7, .cells (cPp (x, k)))]) (i := 4) (l := accV (gF G) r k) (x := x.id) rfl hnew
      have hor : some (⟨.int .i64 (IntKind.i64.wrap (BitVec.ofInt IntKind.i64.bits ((setK (gF G) r k : Nat) : Int) ||| BitVec.ofInt IntKind.i64.bits ((2 ^ k : Nat) : Int)).toNat), []⟩ : Out) = some ⟨.int .i64 ((setK (gF G) r k ||| 2 ^ k : Nat) : Int), []⟩ := by rw [bOr (setK_4096 (by omega)) (two_lt (by omega))]
      cases hg : G.contains x.id
      · rw [hg] at eA eS lk
        cases hs : standsB (accF (accV (gF G) r k)) x.ways
        · rw [hs] at eA eS sS
          have eA : some (AObj.map (entsO (accV (gF G) r k))) = some (.map (entsO (accV (gF G) r (k + 1)))) := by rw [eA]; rfl
          have eS : some (AObj.cells [.int .i64 ((setK (gF G) r k : Nat) : Int)]) = some (.cells [.int .i64 ((setK (gF G) r (k + 1) : Nat) : Int)]) := by rw [eS]; rfl
          exact ACode.vcM (.br 11 true <| .cells (cPp (x, k)) <| .val 19 (.bool false) [] <| .lent (.bool false) [5, 4] .nil) hn hlo (.roundW .cl) ⟨ltLen hpl, idx hp, Eq.trans (by kernel_rfl) lk, ⟨_, Eq.trans (by kernel_rfl) tA, .inl ⟨sS, .inr rfl⟩⟩, k + 1, hlt, mu1 hlt, Wk.le (St.le.of ⟨by kernel_rfl, rfl, by kernel_rfl, rfl, by kernel_rfl, rfl, by kernel_rfl, rfl, by kernel_rfl, rfl, Eq.trans (by kernel_rfl) ek, rfl, trivial⟩ ⟨Eq.trans (by kernel_rfl) eS, (by decide : (1 : Nat) < 7), rfl, by kernel_rfl, (by decide : (3 : Nat) < 7), rfl, Eq.trans (by kernel_rfl) eA, (by decide : (4 : Nat) < 7), okE_entsO _ _, by kernel_rfl, (by decide : (5 : Nat) < 7), rfl, trivial⟩) (hlo.mono (show 4 ≤ 7 by decide))⟩
        · rw [hs] at eA eS sS
          have eA : accV (gF G) r (k + 1) = accV (gF G) r k ++ [x.id] := eA
          have eS : setK (gF G) r (k + 1) = setK (gF G) r k ||| 2 ^ k := eS
          rw [← eA] at up
          rw [← eS] at hor
          exact ACode.vcM (.br 11 true <| .cells (cPp (x, k)) <| .val 19 (.bool false) [] <| .lent (.bool true) [5, 4] <| .val 0 .undef [(4, some (.map (entsO (accV (gF G) r (k + 1)))))] <| .val 11 (.int .i64 ((setK (gF G) r (k + 1) : Nat) : Int)) [] .nil) hn hlo (.roundW .cl) ⟨ltLen hpl, idx hp, Eq.trans (by kernel_rfl) lk, ⟨_, Eq.trans (by kernel_rfl) tA, .inl ⟨sS, .inr rfl⟩⟩, Eq.trans (by kernel_rfl) up, Eq.trans (by kernel_rfl) hor, k + 1, hlt, mu1 hlt, Wk.le (St.le.of ⟨by kernel_rfl, rfl, by kernel_rfl, rfl, by kernel_rfl, rfl, by kernel_rfl, rfl, by kernel_rfl, rfl, Eq.trans (by kernel_rfl) ek, rfl, trivial⟩ ⟨by kernel_rfl, (by decide : (1 : Nat) < 7), rfl, by kernel_rfl, (by decide : (3 : Nat) < 7), rfl, by kernel_rfl, (by decide : (4 : Nat) < 7), okE_entsO _ _, by kernel_rfl, (by decide : (5 : Nat) < 7), rfl, trivial⟩) (hlo.mono (show 4 ≤ 7 by decide))⟩
      · rw [hg] at eA eS lk
        have eA : some (AObj.map (entsO (accV (gF G) r k))) = some (.map (entsO (accV (gF G) r (k + 1)))) := by rw [eA]; rfl
        have eS : some (AObj.cells [.int .i64 ((setK (gF G) r k : Nat) : Int)]) = some (.cells [.int .i64 ((setK (gF G) r (k + 1) : Nat) : Int)]) := by rw [eS]; rfl
        exact ACode.vcM (.br 11 true <| .cells (cPp (x, k)) <| .val 19 (.bool true) [] .nil) hn hlo (.roundW .cl) ⟨ltLen hpl, idx hp, Eq.trans (by kernel_rfl) lk, k + 1, hlt, mu1 hlt, Wk.le (St.le.of ⟨by kernel_rfl, rfl, by kernel_rfl, rfl, by kernel_rfl, rfl, by kernel_rfl, rfl, by kernel_rfl, rfl, Eq.trans (by kernel_rfl) ek, rfl, trivial⟩ ⟨Eq.trans (by kernel_rfl) eS, (by decide : (1 : Nat) < 7), rfl, by kernel_rfl, (by decide : (3 : Nat) < 7), rfl, Eq.trans (by kernel_rfl) eA, (by decide : (4 : Nat) < 7), okE_entsO _ _, by kernel_rfl, (by decide : (5 : Nat) < 7), rfl, trivial⟩) (hlo.mono (show 4 ≤ 7 by decide))⟩
    · have hk' : k = r.length := by omega
      have hpl : ¬ k < (paps r).length := by rw [paps_len]; exact hlt
      rw [← hk']
      exact ACode.vcM (.br 11 false .nil) hn hlo (.roundW .cl) ⟨geLen hpl, _, .refl _, .nil, [], by kernel_rfl⟩
end Go.Proofs.Ytmdhgkfjlphliaa
/-
  WHAT HOLDS ON A DAY: Holds; what a record takes with it: Takes.
-/
namespace Go.Proofs.Ytmdhgkfjlphliaa
open Go Go.Am
set_option maxRecDepth 100000
set_option maxHeartbeats 4000000
theorem thawF_tup {h : Nat → Option AObj} {id : Nat} {l : List Int} (h0 : h id = some (.cells (iL l))) : thawF 8 h (.tup [.rsl id 0 l.length 1, .int .i64 0]) = some (.tup [encR l, .int .i64 0], [id]) := by
  have e : thawF 8 h (.tup [.rsl id 0 l.length 1, .int .i64 0]) = (mapO (thawF 7 h) [.rsl id 0 l.length 1, .int .i64 0]).map fun p => (.tup p.1, p.2) := rfl
  have e1 : thawF 7 h (.int .i64 0) = some (.int .i64 0, []) := rfl
  rw [e]
  simp only [mapO, thawF_ints 5 h0, e1]
  rfl
/-! ### on a day -/
def dayE (r : List Rcd) (l : List Ltr) (d : Int) : Int := if checkV r l = 0 then (if inB 0 100000 d then 0 else 2) else checkV r l
def encAe (r : List Rcd) (l : List Ltr) (d : Int) : AV := if dayE r l d = 0 then .tup [encAr r (goneL l d r), .int .i64 0] else .tup [.agg [.nil, .nmap], .int .i64 (dayE r l d)]
theorem check_0 {r : List Rcd} {l : List Ltr} (h : checkV r l = 0) : recsB r = true ∧ letsB r l = true := by
  unfold checkV at h
  cases h1 : recsB r
  · rw [h1] at h; cases h
  · rw [h1] at h
    cases h2 : letsB r l
    · rw [h2] at h; cases h
    · exact ⟨rfl, rfl⟩
theorem lets_len {r : List Rcd} {l : List Ltr} (h : letsB r l = true) : l.length ≤ 20 := by
  simp only [letsB, Bool.and_eq_true, decide_eq_true_eq] at h; exact h.1.1
theorem archiveOn_spec (r : List Rcd) (l : List Ltr) (d : Int) : APure Try.prog 39 [encRs r, encLs l, .int .i64 d] (encAe r l d) := by
  have s1 := Check_spec r l
  by_cases h0 : checkV r l = 0
  · have n0 : (checkV r l != 0) = false := by rw [h0]; rfl
    have uD := upTo_spec 100000
    have wD := within1_spec d 0 100000
    cases h1 : inB 0 100000 d
    · rw [h1] at wD
      have e : encAe r l d = .tup [.agg [.nil, .nmap], .int .i64 2] := by unfold encAe dayE; rw [if_pos h0, h1]; rfl
      rw [e]
      generalize checkV r l = C at *
      exact APure.vcM Try.func39 (.call (.int .i64 C) <| .br 13 false <| .call (.agg [.int .i64 0, .int .i64 100000]) <| .lent (.bool false) [1] .nil) rfl rfl ⟨s1, n0, uD, ⟨_, by kernel_rfl, .inl ⟨wD, .inr rfl⟩⟩, [], by kernel_rfl⟩
    · rw [h1] at wD
      have e : encAe r l d = .tup [encAr r (goneL l d r), .int .i64 0] := by unfold encAe dayE; rw [if_pos h0, h1]; rfl
      rw [e]
      obtain ⟨hR, hL⟩ := check_0 h0
      have ha := Ar_of hR
      have hrl := ha.len
      have hll := lets_len hL
      have sW := withdrawnOn_spec r l d ha.nd (by omega) (by omega)
      have sA := atWork_spec r (goneL l d r) hrl
      generalize checkV r l = C at *
      generalize goneL l d r = G at *
      exact APure.vcM Try.func39 (.call (.int .i64 C) <| .br 13 false <| .call (.agg [.int .i64 0, .int .i64 100000]) <| .lent (.bool true) [1] <| .call (.imap (entsO G)) <| .call (encAr r G) .nil) rfl rfl ⟨s1, n0, uD, ⟨_, by kernel_rfl, .inl ⟨wD, .inr rfl⟩⟩, sW, sA, [], by kernel_rfl⟩
  · have n0 : (checkV r l != 0) = true := bne_iff_ne.2 h0
    have e0 : dayE r l d = checkV r l := if_neg h0
    have e : encAe r l d = .tup [.agg [.nil, .nmap], .int .i64 (checkV r l)] := by unfold encAe; rw [e0, if_neg h0]
    rw [e]
    generalize checkV r l = C at *
    exact APure.vcM Try.func39 (.call (.int .i64 C) <| .br 13 true .nil) rfl rfl ⟨s1, n0, [], by kernel_rfl⟩
theorem held_gone (ls : List Ltr) (d : Int) (r : List Rcd) : heldV (gF (goneL ls d r)) [] r = heldV (goneV ls d) [] r := by
  have key : ∀ (s : List Rcd) (acc : List Int), (∀ x ∈ s, x ∈ r) → heldV (gF (goneL ls d r)) acc s = heldV (goneV ls d) acc s := by
    intro s
    induction s with
    | nil => intro acc _; rfl
    | cons x s ih =>
      intro acc h
      have e : gF (goneL ls d r) x.id = goneV ls d x.id := by
        unfold gF goneL
        rw [Bool.eq_iff_iff, List.contains_iff_mem, List.mem_filter]
        exact ⟨fun h => h.2, fun h2 => ⟨List.mem_map.2 ⟨x, h x List.mem_cons_self, rfl⟩, h2⟩⟩
      show heldV _ (if (!gF (goneL ls d r) x.id && _) = true then _ else _) s = heldV _ (if (!goneV ls d x.id && _) = true then _ else _) s
      rw [e]
      exact ih _ fun y hy => h y (List.mem_cons_of_mem _ hy)
  exact key r [] fun _ h => h
theorem holdsV_eq (r : List Rcd) (ls : List Ltr) (d : Int) : idsOf r (setK (gF (goneL ls d r)) r r.length) = holdsV r ls d := by
  unfold setK holdsV
  rw [idsOf_setN r (fun i => (heldV (gF (goneL ls d r)) [] r).contains i), held_gone]
def encLe (l : List Int) (e : Int) : AV := if e = 0 then .tup [encR l, .int .i64 0] else .tup [.nil, .int .i64 e]
theorem Holds_ok (r : List Rcd) (l : List Ltr) (d : Int) : APureF Try.prog 10 [encRs r, encLs l, .int .i64 d] (encLe (holdsV r l d) (dayE r l d)) := by
  have s1 := archiveOn_spec r l d
  unfold encAe at s1
  unfold encLe
  by_cases h0 : dayE r l d = 0
  · rw [if_pos h0] at s1 ⊢
    have hc : checkV r l = 0 := by
      by_cases h : checkV r l = 0
      · exact h
      · unfold dayE at h0; rw [if_neg h] at h0; exact h0
    have ha := Ar_of (check_0 hc).1
    have hrl := ha.len
    have sS := standing_spec r (goneL l d r) ha
    have hS := setK_4096 (g := gF (goneL l d r)) (r := r) (k := r.length) hrl
    rw [← holdsV_eq]
    generalize setK (gF (goneL l d r)) r r.length = S at *
    generalize goneL l d r = G at *
    refine APureF.vcM Try.func10 (.call (.tup [encAr r G, .int .i64 0]) <| .draw 3 <| .call (.int .i64 (S : Int)) <| .inl Try.f40 .loop) rfl rfl ⟨s1, by kernel_rfl, mixed, by kernel_rfl, sS, by kernel_rfl, Try.func40, ?_⟩
    intro g hn hlo
    replace hn : g.n = 28 := hn
    replace hlo : g.low 8 := hlo
    refine acode_whileW (fun k : Nat => ⟨[(1, .int .i64 (S : Int)), (5, .rsl 9 0 (idsK r S k).length 1), (9, encPs (paps r)), (10, .int .i64 ((paps r).map cPp).length), (11, .int .i64 k)], [(9, .cells (iL (idsK r S k)))], 10⟩) (fun k => k ≤ r.length) (fun k => r.length - k) 0 (Nat.zero_le _) ?_ ?_
    · refine Wk.trans (Wk.le ?_ (hlo.mono (show 8 ≤ 10 by decide))) (Wk.own 5 1 (by kernel_rfl))
      exact St.le.of ⟨by kernel_rfl, rfl, by kernel_rfl, rfl, by kernel_rfl, rfl, by kernel_rfl, rfl, by kernel_rfl, rfl, trivial⟩ ⟨by kernel_rfl, (by decide : (9 : Nat) < 10), rfl, trivial⟩
    · intro k hk
      replace hk : k ≤ r.length := hk
      by_cases hlt : k < r.length
      · refine Exists.elim (getE hlt) fun x hx => ?_
        have ek := congrArg (AV.int .i64) (succ64 (k := k) (by omega))
        have hpl : k < (paps r).length := by rw [paps_len]; exact hlt
        have hp := paps_get hx
        have hb := bHas (S := S) (i := k) hS (by omega)
        have es := idsK_succ r S k
        have hl := idsK_len r S k
        rw [idA_get hx] at es
        refine (Bool.eq_false_or_eq_true (Nat.testBit S k)).symm.elim (fun hc => ?_) (fun hc => ?_)
        · rw [hc] at hb es
          have es : idsK r S (k + 1) = idsK r S k := es
          have e5 : AV.rsl 9 0 (idsK r S (k + 1)).length 1 = .rsl 9 0 (idsK r S k).length 1 := by rw [es]
          have o1 : some (AObj.cells (iL (idsK r S k))) = some (.cells (iL (idsK r S (k + 1)))) := by rw [es]
          exact ACode.vcM (.br 12 true <| .cells (cPp (x, k)) <| .br 19 false .nil) hn hlo (.roundW .cl) ⟨ltLen hpl, idx hp, hb, k + 1, hlt, mu1 hlt, Wk.le (St.le.of ⟨by kernel_rfl, rfl, Eq.trans (by kernel_rfl) e5.symm, rfl, by kernel_rfl, rfl, by kernel_rfl, rfl, Eq.trans (by kernel_rfl) ek, rfl, trivial⟩ ⟨Eq.trans (by kernel_rfl) o1, (by decide : (9 : Nat) < 10), iL_ok _ _, trivial⟩) (hlo.mono (show 8 ≤ 10 by decide))⟩
        · rw [hc] at hb es
          have es : idsK r S (k + 1) = idsK r S k ++ [x.id] := es
          have el : (idsK r S (k + 1)).length = (idsK r S k).length + 1 := by rw [es]; simp
          have ap := app_one (h := hget [(9, .cells (iL (idsK r S k))), (10, .cells (cPp (x, k))), (12, .cells [.int .i64 x.id])]) (i := 9) (j := 12) (nid := 13) (l := idsK r S k) (x := x.id) rfl rfl (by omega)
          rw [← es, ← el] at ap
          exact ACode.vcM (.br 12 true <| .cells (cPp (x, k)) <| .br 19 true <| .val 25 (.rsl 13 0 (idsK r S (k + 1)).length 1) [(9, none), (13, some (.cells (iL (idsK r S (k + 1)))))] .nil) hn hlo (.roundW .cl) ⟨ltLen hpl, idx hp, hb, Eq.trans (by kernel_rfl) ap, k + 1, hlt, mu1 hlt,
            Wk.ren (c := 9) (b := 13) (St.ren.of rfl (by decide) ⟨.inl ⟨by kernel_rfl, rfl⟩, .inr ⟨_, _, _, rfl, by kernel_rfl⟩, .inl ⟨by kernel_rfl, rfl⟩, .inl ⟨by kernel_rfl, rfl⟩, .inl ⟨Eq.trans (by kernel_rfl) ek, rfl⟩, trivial⟩ ⟨.inr ⟨rfl, by kernel_rfl, _, rfl, iL_ok _ _⟩, trivial⟩) (hlo.mono (show 8 ≤ 9 by decide))⟩
      · have hk' : k = r.length := by omega
        have hpl : ¬ k < (paps r).length := by rw [paps_len]; exact hlt
        have e : idsK r S k = idsOf r S := by rw [hk']; rfl
        have ht : thawF 8 (hget [(9, .cells (iL (idsK r S k)))]) (.tup [.rsl 9 0 (idsK r S k).length 1, .int .i64 0]) = some (.tup [encR (idsOf r S), .int .i64 0], [9]) := by rw [thawF_tup (l := idsK r S k) rfl, e]
        exact ACode.vcM (.br 12 false .nil) hn hlo (.roundW .cl) ⟨geLen hpl, _, .refl _, .nil, [9], Eq.trans (by kernel_rfl) ht⟩
  · rw [if_neg h0] at s1 ⊢
    have n0 : (dayE r l d != 0) = true := bne_iff_ne.2 h0
    generalize dayE r l d = E at *
    exact APureF.vcM Try.func10 (.call (.tup [.agg [.nil, .nmap], .int .i64 E]) <| .br 18 true .nil) rfl rfl ⟨s1, n0, [], by kernel_rfl⟩
end Go.Proofs.Ytmdhgkfjlphliaa
/-
  WHAT A RECORD TAKES WITH IT: Takes.
-/
namespace Go.Proofs.Ytmdhgkfjlphliaa
open Go Go.Am
set_option maxRecDepth 100000
set_option maxHeartbeats 4000000
def addG (G : List Int) (id : Int) : List Int := if G.contains id then G else G ++ [id]
theorem addG_g (G : List Int) (id : Int) : gF (addG G id) = withG (gF G) id := by
  funext i
  unfold addG withG gF
  split
  · rename_i h
    by_cases hi : i = id
    · subst hi; rw [h, decide_eq_true rfl]; rfl
    · rw [decide_eq_false hi]; rfl
  · rw [Bool.eq_iff_iff]
    simp [or_comm]
theorem updA {h : Nat → Option AObj} {i : Nat} {l : List Int} {x : Int} (h0 : h i = some (.map (entsO l))) :
    aMapUpdate Try.prog h 72 (.mref i) (.int .i64 x) (.bool true) = some ⟨.undef, [(i, some (.map (entsO (addG l x))))]⟩ := by
  by_cases hm : x ∈ l
  · have e : addG l x = l := by unfold addG; rw [if_pos (List.contains_iff_mem.2 hm)]
    rw [e]
    simp only [aMapUpdate, ty72, ty3, h0]
    rw [if_pos (show akeyB Try.prog (.int .i64) (.int .i64 x) = true from rfl), afindO, if_pos hm]
    have hs : (entsO l).set (0 + l.idxOf x) (AV.int .i64 x, AV.bool true) = entsO l := by
      rw [Nat.zero_add]
      unfold entsO
      refine List.ext_getElem? fun j => ?_
      rw [List.getElem?_set]
      by_cases hj : l.idxOf x = j
      · subst hj
        have hlt : l.idxOf x < l.length := List.idxOf_lt_length_iff.2 hm
        rw [if_pos rfl, if_pos (by simpa using hlt), List.getElem?_map, List.getElem?_eq_getElem hlt, List.getElem_idxOf hlt]; rfl
      · rw [if_neg hj]
    simp only []
    rw [hs]
  · have e : addG l x = l ++ [x] := by unfold addG; rw [if_neg (by simpa using hm)]
    rw [e]; exact updO h0 hm
theorem thawA {h : Nat → Option AObj} {m : Nat} {p : AV} {G : List Int} (hp : p.ok 0 = true) (hm : h m = some (.map (entsO G))) : thaw 8 h (.agg [p, .mref m]) = some (.agg [p, .imap (entsO G)], [m]) := by
  have e : thaw 8 h (.agg [p, .mref m]) = (if (AV.agg [p, .mref m]).ok 0 = true then some (.agg [p, .mref m], []) else (mapO (thaw 7 h) [p, .mref m]).map fun p => (.agg p.1, p.2)) := rfl
  have e1 : thaw 7 h p = some (p, []) := by unfold thaw; rw [if_pos hp]
  have e2 : thaw 7 h (.mref m) = (match h m with
      | some (.map es) => (match mapOE (thaw 6 h) es with | some (es', is) => some (.imap es', m :: is) | none => none)
      | _ => none) := rfl
  have e3 : thaw 7 h (.mref m) = some (.imap (entsO G), [m]) := by rw [e2, hm]; simp only []; rw [mapOE_O 5]
  have e0 : (AV.agg [p, .mref m]).ok 0 = false := by simp [AV.ok, okL]
  rw [e, e0]
  simp only [mapO, e1, e3]
  rfl
theorem with_spec (r : List Rcd) (G : List Int) (id : Int) : APure Try.prog 72 [encAr r G, .int .i64 id] (encAr r (addG G id)) := by
  have up := updA (h := hget [(0, .cells [encPs (paps r), .mref 2]), (1, .cells [.nil, .nmap]), (2, .map (entsO G))]) (i := 2) (l := G) (x := id) rfl
  have ht : thaw 8 (hget [(0, .cells [encPs (paps r), .mref 2]), (1, .cells [encPs (paps r), .mref 2]), (2, .map (entsO (addG G id)))]) (.agg [encPs (paps r), .mref 2]) = some (encAr r (addG G id), [2]) := thawA rfl rfl
  exact APure.vcM Try.func72 (.clone <| .val 0 .undef [(2, some (.map (entsO (addG G id))))] .nil) rfl rfl ⟨Clone_spec, Eq.trans (by kernel_rfl) up, [2], Eq.trans (by kernel_rfl) ht⟩
theorem takes_spec (r : List Rcd) (G : List Int) (id : Int) (ha : Ar r) : APure Try.prog 47 [encAr r G, .int .i64 id] (.int .i64 ((lessN (setK (gF G) r r.length) (setK (withG (gF G) id) r r.length) : Nat) : Int)) := by
  have s1 := standing_spec r G ha
  have s2 := with_spec r G id
  have s3 := standing_spec r (addG G id) ha
  have hS := setK_4096 (g := gF G) (r := r) (k := r.length) ha.len
  rw [addG_g] at s3
  have v : some (⟨.int .i64 (IntKind.i64.wrap (BitVec.ofInt IntKind.i64.bits ((setK (gF G) r r.length : Nat) : Int) &&& ~~~BitVec.ofInt IntKind.i64.bits ((setK (withG (gF G) id) r r.length : Nat) : Int)).toNat), []⟩ : Out) = some ⟨.int .i64 ((lessN (setK (gF G) r r.length) (setK (withG (gF G) id) r r.length) : Nat) : Int), []⟩ := by rw [bLess hS]
  generalize lessN (setK (gF G) r r.length) (setK (withG (gF G) id) r r.length) = D at *
  generalize setK (gF G) r r.length = A at *
  generalize setK (withG (gF G) id) r r.length = B at *
  generalize addG G id = G' at *
  exact APure.vcM Try.func47 (.draw 4 <| .call (.int .i64 (A : Int)) <| .call (encAr r G') <| .call (.int .i64 (B : Int)) <| .val 11 (.int .i64 (D : Int)) [] .nil) rfl rfl ⟨by kernel_rfl, mixed, by kernel_rfl, s1, by kernel_rfl, s2, s3, Eq.trans (by kernel_rfl) v, [], by kernel_rfl⟩
/-! ### on a day -/
def withE (r : List Rcd) (l : List Ltr) (d id : Int) : Int := if dayE r l d = 0 then (if (idsR r).contains id then 0 else 6) else dayE r l d
def encAw (r : List Rcd) (l : List Ltr) (d id : Int) : AV := if withE r l d id = 0 then .tup [encAr r (goneL l d r), .int .i64 0] else .tup [.agg [.nil, .nmap], .int .i64 (withE r l d id)]
theorem dayE_0 {r : List Rcd} {l : List Ltr} {d : Int} (h0 : dayE r l d = 0) : checkV r l = 0 := by
  by_cases h : checkV r l = 0
  · exact h
  · unfold dayE at h0; rw [if_neg h] at h0; exact h0
theorem archiveWith_spec (r : List Rcd) (l : List Ltr) (d id : Int) : APure Try.prog 46 [encRs r, encLs l, .int .i64 d, .int .i64 id] (encAw r l d id) := by
  have s1 := archiveOn_spec r l d
  unfold encAe at s1
  by_cases h0 : dayE r l d = 0
  · rw [if_pos h0] at s1
    have ha := Ar_of (check_0 (dayE_0 h0)).1
    have hrl := ha.len
    have sI := areIn_one r id (by omega)
    cases h1 : (idsR r).contains id
    · rw [h1] at sI
      have e : encAw r l d id = .tup [.agg [.nil, .nmap], .int .i64 6] := by unfold encAw withE; rw [if_pos h0, h1]; rfl
      rw [e]
      generalize goneL l d r = G at *
      exact APure.vcM Try.func46 (.call (.tup [encAr r G, .int .i64 0]) <| .lent (.bool false) [3] .nil) rfl rfl ⟨s1, ⟨_, by kernel_rfl, .inl ⟨sI, .inr rfl⟩⟩, [], by kernel_rfl⟩
    · rw [h1] at sI
      have e : encAw r l d id = .tup [encAr r (goneL l d r), .int .i64 0] := by unfold encAw withE; rw [if_pos h0, h1]; rfl
      rw [e]
      generalize goneL l d r = G at *
      exact APure.vcM Try.func46 (.call (.tup [encAr r G, .int .i64 0]) <| .lent (.bool true) [3] .nil) rfl rfl ⟨s1, ⟨_, by kernel_rfl, .inl ⟨sI, .inr rfl⟩⟩, [], by kernel_rfl⟩
  · rw [if_neg h0] at s1
    have n0 : (dayE r l d != 0) = true := bne_iff_ne.2 h0
    have e0 : withE r l d id = dayE r l d := if_neg h0
    have e : encAw r l d id = .tup [.agg [.nil, .nmap], .int .i64 (dayE r l d)] := by unfold encAw; rw [e0, if_neg h0]
    rw [e]
    generalize dayE r l d = E at *
    exact APure.vcM Try.func46 (.call (.tup [.agg [.nil, .nmap], .int .i64 E]) <| .br 20 true .nil) rfl rfl ⟨s1, n0, [], by kernel_rfl⟩
theorem held_on {g g' : Int → Bool} : ∀ (s : List Rcd) (acc : List Int), (∀ x ∈ s, g x.id = g' x.id) → heldV g acc s = heldV g' acc s := by
  intro s
  induction s with
  | nil => intro acc _; rfl
  | cons x s ih =>
    intro acc h
    show heldV _ (if (!g x.id && _) = true then _ else _) s = heldV _ (if (!g' x.id && _) = true then _ else _) s
    rw [h x List.mem_cons_self]
    exact ih _ fun y hy => h y (List.mem_cons_of_mem _ hy)
theorem gone_on (ls : List Ltr) (d : Int) {r : List Rcd} {x : Rcd} (hx : x ∈ r) : gF (goneL ls d r) x.id = goneV ls d x.id := by
  unfold gF goneL
  rw [Bool.eq_iff_iff, List.contains_iff_mem, List.mem_filter]
  exact ⟨fun h => h.2, fun h2 => ⟨List.mem_map.2 ⟨x, hx, rfl⟩, h2⟩⟩
def takesD (r : List Rcd) (l : List Ltr) (d id : Int) : List Int := takesV (goneV l d) r id
theorem takesD_eq (r : List Rcd) (l : List Ltr) (d id : Int) : idsOf r (lessN (setK (gF (goneL l d r)) r r.length) (setK (withG (gF (goneL l d r)) id) r r.length)) = takesD r l d id := by
  rw [takes_set]
  unfold takesD takesV
  have e := held_on (g := withG (gF (goneL l d r)) id) (g' := withG (goneV l d) id) r [] fun x hx => by unfold withG; rw [gone_on l d hx]
  rw [held_gone, e]
theorem Takes_ok (r : List Rcd) (l : List Ltr) (d id : Int) : APureF Try.prog 12 [encRs r, encLs l, .int .i64 d, .int .i64 id] (encLe (takesD r l d id) (withE r l d id)) := by
  have s1 := archiveWith_spec r l d id
  unfold encAw at s1
  unfold encLe
  by_cases h0 : withE r l d id = 0
  · rw [if_pos h0] at s1 ⊢
    have hd : dayE r l d = 0 := by
      by_cases h : dayE r l d = 0
      · exact h
      · unfold withE at h0; rw [if_neg h] at h0; exact h0
    have ha := Ar_of (check_0 (dayE_0 hd)).1
    have hrl := ha.len
    have sT := takes_spec r (goneL l d r) id ha
    have hS : lessN (setK (gF (goneL l d r)) r r.length) (setK (withG (gF (goneL l d r)) id) r r.length) < 4096 := lessN_lt (setK_4096 hrl)
    rw [← takesD_eq]
    generalize lessN (setK (gF (goneL l d r)) r r.length) (setK (withG (gF (goneL l d r)) id) r r.length) = S at *
    generalize goneL l d r = G at *
    refine APureF.vcM Try.func12 (.call (.tup [encAr r G, .int .i64 0]) <| .draw 4 <| .call (.int .i64 (S : Int)) <| .inl Try.f40 .loop) rfl rfl ⟨s1, by kernel_rfl, mixed, by kernel_rfl, sT, by kernel_rfl, Try.func40, ?_⟩
    intro g hn hlo
    replace hn : g.n = 28 := hn
    replace hlo : g.low 9 := hlo
    refine acode_whileW (fun k : Nat => ⟨[(1, .int .i64 (S : Int)), (5, .rsl 10 0 (idsK r S k).length 1), (9, encPs (paps r)), (10, .int .i64 ((paps r).map cPp).length), (11, .int .i64 k)], [(10, .cells (iL (idsK r S k)))], 11⟩) (fun k => k ≤ r.length) (fun k => r.length - k) 0 (Nat.zero_le _) ?_ ?_
    · refine Wk.trans (Wk.le ?_ (hlo.mono (show 9 ≤ 11 by decide))) (Wk.own 5 1 (by kernel_rfl))
      exact St.le.of ⟨by kernel_rfl, rfl, by kernel_rfl, rfl, by kernel_rfl, rfl, by kernel_rfl, rfl, by kernel_rfl, rfl, trivial⟩ ⟨by kernel_rfl, (by decide : (10 : Nat) < 11), rfl, trivial⟩
    · intro k hk
      replace hk : k ≤ r.length := hk
      by_cases hlt : k < r.length
      · refine Exists.elim (getE hlt) fun x hx => ?_
        have ek := congrArg (AV.int .i64) (succ64 (k := k) (by omega))
        have hpl : k < (paps r).length := by rw [paps_len]; exact hlt
        have hp := paps_get hx
        have hb := bHas (S := S) (i := k) hS (by omega)
        have es := idsK_succ r S k
        have hl := idsK_len r S k
        rw [idA_get hx] at es
        refine (Bool.eq_false_or_eq_true (Nat.testBit S k)).symm.elim (fun hc => ?_) (fun hc => ?_)
        · rw [hc] at hb es
          have es : idsK r S (k + 1) = idsK r S k := es
          have e5 : AV.rsl 10 0 (idsK r S (k + 1)).length 1 = .rsl 10 0 (idsK r S k).length 1 := by rw [es]
          have o1 : some (AObj.cells (iL (idsK r S k))) = some (.cells (iL (idsK r S (k + 1)))) := by rw [es]
          exact ACode.vcM (.br 12 true <| .cells (cPp (x, k)) <| .br 19 false .nil) hn hlo (.roundW .cl) ⟨ltLen hpl, idx hp, hb, k + 1, hlt, mu1 hlt, Wk.le (St.le.of ⟨by kernel_rfl, rfl, Eq.trans (by kernel_rfl) e5.symm, rfl, by kernel_rfl, rfl, by kernel_rfl, rfl, Eq.trans (by kernel_rfl) ek, rfl, trivial⟩ ⟨Eq.trans (by kernel_rfl) o1, (by decide : (10 : Nat) < 11), iL_ok _ _, trivial⟩) (hlo.mono (show 9 ≤ 11 by decide))⟩
        · rw [hc] at hb es
          have es : idsK r S (k + 1) = idsK r S k ++ [x.id] := es
          have el : (idsK r S (k + 1)).length = (idsK r S k).length + 1 := by rw [es]; simp
          have ap := app_one (h := hget [(10, .cells (iL (idsK r S k))), (11, .cells (cPp (x, k))), (13, .cells [.int .i64 x.id])]) (i := 10) (j := 13) (nid := 14) (l := idsK r S k) (x := x.id) rfl rfl (by omega)
          rw [← es, ← el] at ap
          exact ACode.vcM (.br 12 true <| .cells (cPp (x, k)) <| .br 19 true <| .val 25 (.rsl 14 0 (idsK r S (k + 1)).length 1) [(10, none), (14, some (.cells (iL (idsK r S (k + 1)))))] .nil) hn hlo (.roundW .cl) ⟨ltLen hpl, idx hp, hb, Eq.trans (by kernel_rfl) ap, k + 1, hlt, mu1 hlt,
            Wk.ren (c := 10) (b := 14) (St.ren.of rfl (by decide) ⟨.inl ⟨by kernel_rfl, rfl⟩, .inr ⟨_, _, _, rfl, by kernel_rfl⟩, .inl ⟨by kernel_rfl, rfl⟩, .inl ⟨by kernel_rfl, rfl⟩, .inl ⟨Eq.trans (by kernel_rfl) ek, rfl⟩, trivial⟩ ⟨.inr ⟨rfl, by kernel_rfl, _, rfl, iL_ok _ _⟩, trivial⟩) (hlo.mono (show 9 ≤ 10 by decide))⟩
      · have hk' : k = r.length := by omega
        have hpl : ¬ k < (paps r).length := by rw [paps_len]; exact hlt
        have e : idsK r S k = idsOf r S := by rw [hk']; rfl
        have ht : thawF 8 (hget [(10, .cells (iL (idsK r S k)))]) (.tup [.rsl 10 0 (idsK r S k).length 1, .int .i64 0]) = some (.tup [encR (idsOf r S), .int .i64 0], [10]) := by rw [thawF_tup (l := idsK r S k) rfl, e]
        exact ACode.vcM (.br 12 false .nil) hn hlo (.roundW .cl) ⟨geLen hpl, _, .refl _, .nil, [10], Eq.trans (by kernel_rfl) ht⟩
  · rw [if_neg h0] at s1 ⊢
    have n0 : (withE r l d id != 0) = true := bne_iff_ne.2 h0
    generalize withE r l d id = E at *
    exact APureF.vcM Try.func12 (.call (.tup [.agg [.nil, .nmap], .int .i64 E]) <| .br 21 true .nil) rfl rfl ⟨s1, n0, [], by kernel_rfl⟩
end Go.Proofs.Ytmdhgkfjlphliaa
