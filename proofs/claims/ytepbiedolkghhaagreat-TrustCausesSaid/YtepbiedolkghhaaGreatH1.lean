import Derived.Test.YtepbiedolkghhaaGreatW3
/-
  WHETHER A RECORD STANDS; WHAT HOLDS, ONE AFTER THE OTHER.
-/
namespace Go.Proofs.YtepbiedolkghhaaGreat
open Go Go.Am
set_option maxRecDepth 100000
set_option maxHeartbeats 4000000
def accF (acc : List Int) (i : Int) : Bool := acc.contains i
theorem lookD {h : Nat → Option AObj} {l : List Int} {x : Int} : (aLookup Tryz.prog h 36 (.imap (entsO l)) (.int .i64 x) false).map (fun v => (⟨v, []⟩ : Out)) = some ⟨.bool (l.contains x), []⟩ := by rw [lookO]; rfl
theorem asks_spec (i : Int) (acc : List Int) : APure Tryz.prog 91 [.int .i64 i, .cptr [.imap (entsO acc)]] (.bool (accF acc i)) := by
  have lk := lookD (h := hget []) (l := acc) (x := i)
  exact APure.vc Tryz.func91 rfl (.val 6 (.bool (acc.contains i)) [] .nil) rfl rfl ⟨Eq.trans (by kernel_rfl) lk, rB rfl⟩
theorem acc_stands (x : Rcd) (b : Nat) (acc : List Int) (hw : x.ways.length ≤ 1000) (hww : ∀ w ∈ x.ways, w.length ≤ 1000) : APure Tryz.prog 90 [.agg (cPp (x, b)), .fn (.func 91) [] [.cptr [.imap (entsO acc)]]] (.bool (standsB (accF acc) x.ways)) := by
  refine APure.vc Tryz.func90 rfl .loop rfl rfl ?_
  intro g hn hl
  replace hn : g.n = 34 := hn
  replace hl : g.low 0 := hl
  refine acode_while (fun k : Nat => ⟨[(1, .fn (.func 91) [] [.cptr [.imap (entsO acc)]]), (2, .vptr 0 0), (11, encWs x.ways), (12, .int .i64 (x.ways.map cW).length), (13, .int .i64 k)], [(0, .cells (cPp (x, b)))], 1⟩) (fun k => k ≤ x.ways.length ∧ ∀ w ∈ x.ways.take k, w.all (accF acc) = false) (fun k => x.ways.length - k) 0 ⟨Nat.zero_le _, fun w hw => by simp at hw⟩ ?_ (fun _ _ => hl.mono (Nat.zero_le _)) ?_
  · exact St.le.of ⟨by kernel_rfl, rfl, by kernel_rfl, rfl, by kernel_rfl, rfl, by kernel_rfl, rfl, by kernel_rfl, rfl, trivial⟩ ⟨by kernel_rfl, (by decide : (0 : Nat) < 1), rfl, trivial⟩
  · rintro k ⟨hk1, hk2⟩
    by_cases hlt : k < x.ways.length
    · refine Exists.elim (getE hlt) fun w hw' => ?_
      have ek := congrArg (AV.int .i64) (succ64 (k := k) (by omega))
      have hwl := hww w (List.mem_of_getElem? hw')
      have miss : w.all (accF acc) = false → ∀ v ∈ x.ways.take (k + 1), v.all (accF acc) = false := fun h v hv => by
        rw [List.take_add_one, hw'] at hv
        rcases List.mem_append.1 hv with hv | hv
        · exact hk2 v hv
        · simp at hv; subst hv; exact h
      have hit : w.all (accF acc) = true → standsB (accF acc) x.ways = true := fun h => by
        unfold standsB; rw [List.any_eq_true.2 ⟨w, List.mem_of_getElem? hw', h⟩, Bool.or_true]
      refine ACode.vc (.br 14 true <| .cells (cW w) <| .loop) hn hl (.round .cl) ⟨ltLen hlt, idx hw', ?_⟩
      intro g hn hl
      replace hn : g.n = 34 := hn
      replace hl : g.low 0 := hl
      refine acode_while (fun n : Nat => ⟨[(1, .fn (.func 91) [] [.cptr [.imap (entsO acc)]]), (2, .vptr 0 0), (11, encWs x.ways), (12, .int .i64 (x.ways.map cW).length), (13, .int .i64 k), (17, encR w), (18, .int .i64 (w.map encI).length), (19, .int .i64 n)], [(0, .cells (cPp (x, b)))], 1⟩) (fun n => n ≤ w.length ∧ (w.take n).all (accF acc) = true) (fun n => w.length - n) 0 ⟨Nat.zero_le _, rfl⟩ ?_ (fun _ _ => hl.mono (Nat.zero_le _)) ?_
      · exact St.le.of ⟨by kernel_rfl, rfl, by kernel_rfl, rfl, by kernel_rfl, rfl, by kernel_rfl, rfl, by kernel_rfl, rfl, by kernel_rfl, rfl, by kernel_rfl, rfl, by kernel_rfl, rfl, trivial⟩ ⟨by kernel_rfl, (by decide : (0 : Nat) < 1), rfl, trivial⟩
      · rintro n ⟨hn1, hn2⟩
        by_cases hnl : n < w.length
        · refine Exists.elim (getE hnl) fun i hi => ?_
          have en := congrArg (AV.int .i64) (succ64 (k := n) (by omega))
          have s := asks_spec i acc
          cases hb : (accF acc) i
          · rw [hb] at s
            have ms := miss (all_bad hi hb)
            exact ACode.vc (.br 20 true <| .cells (encI i) <| .call (.bool false) .nil) hn hl (.round .cl) ⟨ltLen hnl, idx hi, s, _, .refl _, .nil, k + 1, ⟨hlt, ms⟩, mu1 hlt,
              St.le.of ⟨by kernel_rfl, rfl, by kernel_rfl, rfl, by kernel_rfl, rfl, by kernel_rfl, rfl, Eq.trans (by kernel_rfl) ek, rfl, trivial⟩ ⟨by kernel_rfl, (by decide : (0 : Nat) < 1), rfl, trivial⟩⟩
          · rw [hb] at s
            have good : (w.take (n + 1)).all (accF acc) = true := by rw [take_all hi, hn2, hb]; rfl
            exact ACode.vc (.br 20 true <| .cells (encI i) <| .call (.bool true) .nil) hn hl (.round .cl) ⟨ltLen hnl, idx hi, s, n + 1, ⟨hnl, good⟩, mu1 hnl,
              St.le.of ⟨by kernel_rfl, rfl, by kernel_rfl, rfl, by kernel_rfl, rfl, by kernel_rfl, rfl, by kernel_rfl, rfl, by kernel_rfl, rfl, by kernel_rfl, rfl, Eq.trans (by kernel_rfl) en, rfl, trivial⟩ ⟨by kernel_rfl, (by decide : (0 : Nat) < 1), rfl, trivial⟩⟩
        · have hn' : n = w.length := by omega
          have e : some (AV.bool true) = some (AV.bool (standsB (accF acc) x.ways)) := by rw [hit (by rw [hn', List.take_length] at hn2; exact hn2)]
          exact ACode.vc (.br 20 false .nil) hn hl (.round .cl) ⟨geLen hnl, _, .refl _, .nil, _, .refl _, .nil, trivial, e⟩
    · have hk' : k = x.ways.length := by omega
      have e : (((x.ways.map cW).length : Int) == 0) = standsB (accF acc) x.ways := by
        rw [hk', List.take_length] at hk2
        have h2 : (x.ways.any fun w => w.all (accF acc)) = false := by
          rw [List.any_eq_false]; intro w hw; rw [hk2 w hw]; decide
        unfold standsB
        rw [h2, Bool.or_false, List.length_map]
        cases x.ways with
        | nil => rfl
        | cons a l => exact beq_eq_false_iff_ne.2 (by simp; omega)
      exact ACode.vc (.br 14 false .nil) hn hl (.round .cl) ⟨geLen hlt, _, .refl _, .nil, rB e⟩
end Go.Proofs.YtepbiedolkghhaaGreat
/-
  WHAT HOLDS, ONE AFTER THE OTHER: the set of it.
-/
namespace Go.Proofs.YtepbiedolkghhaaGreat
open Go Go.Am
set_option maxRecDepth 100000
set_option maxHeartbeats 4000000
theorem holding_spec (r : List Rcd) (G : List Int) : APure Tryz.prog 58 [encAr r G] (.fn (.func 89) [] [.cptr (cAr r G)]) :=
  APure.vcM Tryz.func58 .nil rfl rfl ⟨[0], by kernel_rfl⟩
theorem thaw_asks {h : Nat → Option AObj} {f : Fn} {j m : Nat} {acc : List Int} (hj : h j = some (.cells [.mref m])) (hm : h m = some (.map (entsO acc))) : thaw 8 h (.fn f [] [.vptr j 0]) = some (.fn f [] [.cptr [.imap (entsO acc)]], [j, m]) := by
  have e : thaw 8 h (.fn f [] [.vptr j 0]) = (match mapO (thaw 7 h) [], mapO (thaw 7 h) [.vptr j 0] with | some (fs', i), some (cs', j) => some (.fn f fs' cs', i ++ j) | _, _ => none) := rfl
  have e1 : thaw 7 h (.vptr j 0) = (match h j with
      | some (.cells cs) => (match mapO (thaw 6 h) cs with | some (cs', is) => some (.cptr (cs'.drop 0), j :: is) | none => none)
      | _ => none) := rfl
  have e2 : thaw 6 h (.mref m) = (match h m with
      | some (.map es) => (match mapOE (thaw 5 h) es with | some (es', is) => some (.imap es', m :: is) | none => none)
      | _ => none) := rfl
  have e3 : thaw 6 h (.mref m) = some (.imap (entsO acc), [m]) := by rw [e2, hm]; simp only []; rw [mapOE_O 4]
  have e4 : thaw 7 h (.vptr j 0) = some (.cptr [.imap (entsO acc)], [j, m]) := by rw [e1, hj]; simp only [mapO, e3]; rfl
  rw [e]
  simp only [mapO, e4]
  rfl
theorem thawL_asks {h : Nat → Option AObj} {f : Fn} {p : Rcd × Nat} {j m : Nat} {acc : List Int} (hj : h j = some (.cells [.mref m])) (hm : h m = some (.map (entsO acc))) : thawL h [.agg (cPp p), .fn f [] [.vptr j 0]] = some ([.agg (cPp p), .fn f [] [.cptr [.imap (entsO acc)]]], [j, m]) := by
  have e0 : thaw 8 h (.agg (cPp p)) = some (.agg (cPp p), []) := by unfold thaw; exact if_pos rfl
  simp only [thawL, mapO, e0, thaw_asks hj hm]
  rfl
/-- Ways are not long. -/
def WR (r : List Rcd) : Prop := ∀ x ∈ r, x.ways.length ≤ 1000 ∧ ∀ w ∈ x.ways, w.length ≤ 1000
theorem WR_of {r : List Rcd} (h : recsB r = true) : WR r := by
  rw [← recsR_eq] at h
  simp only [recsR, Bool.and_eq_true, allI_iff] at h
  intro x hx
  obtain ⟨k, hk, e⟩ := List.mem_iff_getElem.1 hx
  have := h.2 k x (by rw [List.getElem?_eq_getElem hk, e])
  simp only [recI, Bool.and_eq_true, List.all_eq_true, wayR, inB_iff] at this
  refine ⟨?_, fun w hw => by have := (this.2.2 w hw).1; omega⟩
  have h3 := this.2.1
  unfold kindR at h3
  split at h3
  · have := of_decide_eq_true h3; omega
  · have := inB_iff.1 h3; omega
structure Ar (r : List Rcd) : Prop where
  nd : (idsR r).Nodup
  len : r.length ≤ 12
  wr : WR r
theorem Ar_of {r : List Rcd} (h : recsB r = true) : Ar r := ⟨(recs_nodup h).1, (recs_nodup h).2.2, WR_of h⟩
def gF (G : List Int) (i : Int) : Bool := G.contains i
noncomputable def asgS : Code := rfA Tryz.f36
noncomputable def bodS : Code := rfB Tryz.f36
theorem upO2 {h : Nat → Option AObj} {i : Nat} {l : List Int} {x : Int} (h0 : h i = some (.map (entsO l))) (hl : x ∉ l) :
    aMapUpdate Tryz.prog h 36 (.mref i) (.int .i64 x) (.bool true) = some ⟨.undef, [(i, some (.map (entsO (l ++ [x]))))]⟩ := updO h0 hl
theorem standing_spec (r : List Rcd) (G : List Int) (ha : Ar r) : APure Tryz.prog 36 [encAr r G] (.int .i64 ((setK (gF G) r r.length : Nat) : Int)) := by
  have s0 := holding_spec r G
  have hrl := ha.len
  refine APure.vcM Tryz.func36 (.lent (.fn (.func 89) [] [.cptr (cAr r G)]) [] <| .inl Tryz.f89 .loop) rfl rfl ⟨⟨_, by kernel_rfl, .inl ⟨s0, .inl ⟨rfl, rfl⟩⟩⟩, Tryz.func89, ?_⟩
  intro g hn hlo
  replace hn : g.n = 35 := hn
  replace hlo : g.low 4 := hlo
  refine acode_whileW (fun k : Nat => ⟨[(0, .yld 3), (1, .cptr (cAr r G)), (3, .vptr 5 0), (8, encPs (paps r)), (9, .int .i64 ((paps r).map cPp).length), (10, .int .i64 k)], [(1, .cells [.int .i64 ((setK (gF G) r k : Nat) : Int)]), (3, .loop ⟨.ready, none, 13, [(3, .vptr 1 0)], #[7], asgS, bodS⟩), (4, .map (entsO (accV (gF G) r k))), (5, .cells [.mref 4])], 7⟩) (fun k => k ≤ r.length) (fun k => r.length - k) 0 (Nat.zero_le _) ?_ ?_
  · refine Wk.trans (Wk.le ?_ (hlo.mono (show 4 ≤ 7 by decide))) (Wk.loopEnv (id := 3) (n := 4) [(3, .vptr 1 0)] rfl ⟨rfl, rfl, trivial⟩)
    exact St.le.of ⟨by kernel_rfl, rfl, by kernel_rfl, rfl, by kernel_rfl, rfl, by kernel_rfl, rfl, by kernel_rfl, rfl, by kernel_rfl, rfl, trivial⟩ ⟨by kernel_rfl, (by decide : (1 : Nat) < 7), rfl, by kernel_rfl, (by decide : (3 : Nat) < 7), rfl, by kernel_rfl, (by decide : (4 : Nat) < 7), rfl, by kernel_rfl, (by decide : (5 : Nat) < 7), rfl, trivial⟩
  · intro k hk
    replace hk : k ≤ r.length := hk
    by_cases hlt : k < r.length
    · refine Exists.elim (getE hlt) fun x hx => ?_
      have ek := congrArg (AV.int .i64) (succ64 (k := k) (by omega))
      have hpl : k < (paps r).length := by rw [paps_len]; exact hlt
      have hp := paps_get hx
      have hxm := ha.wr x (List.mem_of_getElem? hx)
      have sS := acc_stands x k (accV (gF G) r k) hxm.1 hxm.2
      have lk := lookD (h := hget []) (l := G) (x := x.id)
      have eA := accV_succ (gF G) hx
      have eS := setK_succ (g := gF G) ha.nd hx
      have hst : stepB (gF G) r k x = (!G.contains x.id && standsB (accF (accV (gF G) r k)) x.ways) := rfl
      rw [hst] at eA eS
      have hnew := step_new (g := gF G) ha.nd hx
      have tA := thawL_asks (h := hget [(1, .cells [.int .i64 ((setK (gF G) r k : Nat) : Int)]), (3, .loop ⟨.ready, none, 13, [(3, .vptr 1 0)], #[7], asgS, bodS⟩), (4, .map (entsO (accV (gF G) r k))), (5, .cells [.mref 4]), (7, .cells (cPp (x, k)))]) (f := .func 91) (p := (x, k)) (j := 5) (m := 4) (acc := accV (gF G) r k) rfl rfl
      have up := upO2 (h := hget [(1, .cells [.int .i64 ((setK (gF G) r k : Nat) : Int)]), (3, .loop ⟨.ready, none, 13, [(3, .vptr 1 0)], #[7], asgS, bodS⟩), (4, .map (entsO (accV (gF G) r k))), (5, .cells [.mref 4]), (7, .cells (cPp (x, k)))]) (i := 4) (l := accV (gF G) r k) (x := x.id) rfl hnew
      have hor : some (⟨.int .i64 (IntKind.i64.wrap (BitVec.ofInt IntKind.i64.bits ((setK (gF G) r k : Nat) : Int) ||| BitVec.ofInt IntKind.i64.bits ((2 ^ k : Nat) : Int)).toNat), []⟩ : Out) = some ⟨.int .i64 ((setK (gF G) r k ||| 2 ^ k : Nat) : Int), []⟩ := by rw [bOr (setK_4096 (by omega)) (two_lt (by omega))]
      cases hg : G.contains x.id
      · rw [hg] at eA eS lk
        cases hs : standsB (accF (accV (gF G) r k)) x.ways
        · rw [hs] at eA eS sS
          have eA : some (AObj.map (entsO (accV (gF G) r k))) = some (.map (entsO (accV (gF G) r (k + 1)))) := by rw [eA]; rfl
          have eS : some (AObj.cells [.int .i64 ((setK (gF G) r k : Nat) : Int)]) = some (.cells [.int .i64 ((setK (gF G) r (k + 1) : Nat) : Int)]) := by rw [eS]; rfl
          exact ACode.vcM (.br 11 true <| .cells (cPp (x, k)) <| .val 19 (.bool false) [] <| .lent (.bool false) [5, 4] .nil) hn hlo (.roundW .cl) ⟨ltLen hpl, idx hp, Eq.trans (by kernel_rfl) lk, ⟨_, Eq.trans (by kernel_rfl) tA, .inl ⟨sS, .inr rfl⟩⟩, k + 1, hlt, mu1 hlt, Wk.le (St.le.of ⟨by kernel_rfl, rfl, by kernel_rfl, rfl, by kernel_rfl, rfl, by kernel_rfl, rfl, by kernel_rfl, rfl, Eq.trans (by kernel_rfl) ek, rfl, trivial⟩ ⟨Eq.trans (by kernel_rfl) eS, (by decide : (1 : Nat) < 7), rfl, by kernel_rfl, (by decide : (3 : Nat) < 7), rfl, Eq.trans (by kernel_rfl) eA, (by decide : (4 : Nat) < 7), okE_entsO _ _, by kernel_rfl, (by decide : (5 : Nat) < 7), rfl, trivial⟩) (hlo.mono (show 4 ≤ 7 by decide))⟩
        · rw [hs] at eA eS sS
          have eA : accV (gF G) r (k + 1) = accV (gF G) r k ++ [x.id] := eA
          have eS : setK (gF G) r (k + 1) = setK (gF G) r k ||| 2 ^ k := eS
          rw [← eA] at up
          rw [← eS] at hor
          exact ACode.vcM (.br 11 true <| .cells (cPp (x, k)) <| .val 19 (.bool false) [] <| .lent (.bool true) [5, 4] <| .val 0 .undef [(4, some (.map (entsO (accV (gF G) r (k + 1)))))] <| .val 11 (.int .i64 ((setK (gF G) r (k + 1) : Nat) : Int)) [] .nil) hn hlo (.roundW .cl) ⟨ltLen hpl, idx hp, Eq.trans (by kernel_rfl) lk, ⟨_, Eq.trans (by kernel_rfl) tA, .inl ⟨sS, .inr rfl⟩⟩, Eq.trans (by kernel_rfl) up, Eq.trans (by kernel_rfl) hor, k + 1, hlt, mu1 hlt, Wk.le (St.le.of ⟨by kernel_rfl, rfl, by kernel_rfl, rfl, by kernel_rfl, rfl, by kernel_rfl, rfl, by kernel_rfl, rfl, Eq.trans (by kernel_rfl) ek, rfl, trivial⟩ ⟨by kernel_rfl, (by decide : (1 : Nat) < 7), rfl, by kernel_rfl, (by decide : (3 : Nat) < 7), rfl, by kernel_rfl, (by decide : (4 : Nat) < 7), okE_entsO _ _, by kernel_rfl, (by decide : (5 : Nat) < 7), rfl, trivial⟩) (hlo.mono (show 4 ≤ 7 by decide))⟩
      · rw [hg] at eA eS lk
        have eA : some (AObj.map (entsO (accV (gF G) r k))) = some (.map (entsO (accV (gF G) r (k + 1)))) := by rw [eA]; rfl
        have eS : some (AObj.cells [.int .i64 ((setK (gF G) r k : Nat) : Int)]) = some (.cells [.int .i64 ((setK (gF G) r (k + 1) : Nat) : Int)]) := by rw [eS]; rfl
        exact ACode.vcM (.br 11 true <| .cells (cPp (x, k)) <| .val 19 (.bool true) [] .nil) hn hlo (.roundW .cl) ⟨ltLen hpl, idx hp, Eq.trans (by kernel_rfl) lk, k + 1, hlt, mu1 hlt, Wk.le (St.le.of ⟨by kernel_rfl, rfl, by kernel_rfl, rfl, by kernel_rfl, rfl, by kernel_rfl, rfl, by kernel_rfl, rfl, Eq.trans (by kernel_rfl) ek, rfl, trivial⟩ ⟨Eq.trans (by kernel_rfl) eS, (by decide : (1 : Nat) < 7), rfl, by kernel_rfl, (by decide : (3 : Nat) < 7), rfl, Eq.trans (by kernel_rfl) eA, (by decide : (4 : Nat) < 7), okE_entsO _ _, by kernel_rfl, (by decide : (5 : Nat) < 7), rfl, trivial⟩) (hlo.mono (show 4 ≤ 7 by decide))⟩
    · have hk' : k = r.length := by omega
      have hpl : ¬ k < (paps r).length := by rw [paps_len]; exact hlt
      rw [← hk']
      exact ACode.vcM (.br 11 false .nil) hn hlo (.roundW .cl) ⟨geLen hpl, _, .refl _, .nil, [], by kernel_rfl⟩
end Go.Proofs.YtepbiedolkghhaaGreat
