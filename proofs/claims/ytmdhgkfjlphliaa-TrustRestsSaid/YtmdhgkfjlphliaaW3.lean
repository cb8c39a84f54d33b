import Derived.Test.YtmdhgkfjlphliaaB1
/-
  WHAT IS WITHDRAWN; RECORDS AT WORK.
-/
namespace Go.Proofs.Ytmdhgkfjlphliaa
open Go Go.Am
set_option maxRecDepth 100000
set_option maxHeartbeats 4000000
def cntB (d id : Int) (l : Ltr) : Bool := decide (l.about = id) && decide (l.day ≤ d)
theorem counts_spec (y : Ltr) (x : Rcd) (d : Int) : APure Try.prog 99 [encLt y, .cptr (cRc x), .cptr [.int .i64 d]] (.bool (cntB d x.id y)) := by
  cases h : (y.about == x.id)
  · exact APure.vc Try.func99 rfl (.br 10 false .nil) rfl rfl ⟨h, rB (by
      have h' : ¬ y.about = x.id := by simpa using h
      unfold cntB; rw [decide_eq_false h']; rfl)⟩
  · exact APure.vc Try.func99 rfl (.br 10 true .nil) rfl rfl ⟨h, rB (by
      have h' : y.about = x.id := by simpa using h
      unfold cntB; rw [decide_eq_true h']; rfl)⟩
theorem dayOf_spec (y : Ltr) : APure Try.prog 101 [encLt y] (.int .i64 y.day) := APure.vc Try.func101 rfl .nil rfl rfl (rI rfl)
def encLate (o : Option Ltr) : AV := .tup [.agg (cLt (o.getD default)), .bool o.isSome]
def cntF (x : Rcd) (d : Int) : AV := .fn (.func 99) [] [.cptr (cRc x), .cptr [.int .i64 d]]
def dayF : AV := .fn (.func 101) [] []
theorem lastL_eq (ls : List Ltr) (d id : Int) : lastL ls d id = latV (cntB d id) none ls := rfl
theorem latest_spec (ls : List Ltr) (x : Rcd) (d : Int) (hl : ls.length ≤ 1000) : APure Try.prog 100 [encLs ls, cntF x d, dayF] (encLate (lastL ls d x.id)) := by
  rw [lastL_eq]
  refine APure.vcM Try.func100 .loop rfl rfl ?_
  intro g hn hlo
  replace hn : g.n = 36 := hn
  replace hlo : g.low 0 := hlo
  refine acode_whileW (fun p : Nat × Option Ltr => ⟨[(1, cntF x d), (2, dayF), (6, .vptr 0 0), (7, .bool p.2.isSome), (10, encLs ls), (11, .int .i64 (ls.map cLt).length), (12, .int .i64 p.1)], [(0, .cells (cLt (p.2.getD default)))], 1⟩) (fun p => p.1 ≤ ls.length ∧ latV (cntB d x.id) none ls = latV (cntB d x.id) p.2 (ls.drop p.1)) (fun p => ls.length - p.1) (0, none) ⟨Nat.zero_le _, rfl⟩ ?_ ?_
  · exact Wk.le (St.le.of ⟨by kernel_rfl, rfl, by kernel_rfl, rfl, by kernel_rfl, rfl, by kernel_rfl, rfl, by kernel_rfl, rfl, by kernel_rfl, rfl, by kernel_rfl, rfl, trivial⟩ ⟨by kernel_rfl, (by decide : (0 : Nat) < 1), rfl, trivial⟩) (hlo.mono (Nat.zero_le _))
  · rintro ⟨k, q⟩ ⟨hk1, hk2⟩
    replace hk1 : k ≤ ls.length := hk1
    replace hk2 : latV (cntB d x.id) none ls = latV (cntB d x.id) q (ls.drop k) := hk2
    by_cases hlt : k < ls.length
    · refine Exists.elim (getE hlt) fun y hy => ?_
      have ek := congrArg (AV.int .i64) (succ64 (k := k) (by omega))
      have sC := counts_spec y x d
      have sD := dayOf_spec y
      rw [drop_cons hy] at hk2
      have step : latV (cntB d x.id) none ls = latV (cntB d x.id) (if cntB d x.id y && aftB q y then some y else q) (ls.drop (k + 1)) := hk2
      clear hk2
      cases hc : cntB d x.id y
      · rw [hc] at sC step
        have step : latV (cntB d x.id) none ls = latV (cntB d x.id) q (ls.drop (k + 1)) := step
        cases q with
        | none =>
          exact ACode.vcM (.br 13 true <| .cells (cLt y) <| .draw 12 <| .call (.bool false) .nil) hn hlo (.roundW .cl) ⟨ltLen hlt, idx hy, by kernel_rfl, mixed, by kernel_rfl, sC, by kernel_rfl, (k + 1, none), ⟨hlt, step⟩, mu1 hlt, Wk.le (St.le.of ⟨by kernel_rfl, rfl, by kernel_rfl, rfl, by kernel_rfl, rfl, by kernel_rfl, rfl, by kernel_rfl, rfl, by kernel_rfl, rfl, Eq.trans (by kernel_rfl) ek, rfl, trivial⟩ ⟨by kernel_rfl, (by decide : (0 : Nat) < 1), rfl, trivial⟩) (hlo.mono (Nat.zero_le _))⟩
        | some z =>
          exact ACode.vcM (.br 13 true <| .cells (cLt y) <| .draw 12 <| .call (.bool false) .nil) hn hlo (.roundW .cl) ⟨ltLen hlt, idx hy, by kernel_rfl, mixed, by kernel_rfl, sC, by kernel_rfl, (k + 1, some z), ⟨hlt, step⟩, mu1 hlt, Wk.le (St.le.of ⟨by kernel_rfl, rfl, by kernel_rfl, rfl, by kernel_rfl, rfl, by kernel_rfl, rfl, by kernel_rfl, rfl, by kernel_rfl, rfl, Eq.trans (by kernel_rfl) ek, rfl, trivial⟩ ⟨by kernel_rfl, (by decide : (0 : Nat) < 1), rfl, trivial⟩) (hlo.mono (Nat.zero_le _))⟩
      · rw [hc] at sC step
        cases q with
        | none =>
          have step : latV (cntB d x.id) none ls = latV (cntB d x.id) (some y) (ls.drop (k + 1)) := step
          exact ACode.vcM (.br 13 true <| .cells (cLt y) <| .draw 12 <| .call (.bool true) .nil) hn hlo (.roundW .cl) ⟨ltLen hlt, idx hy, by kernel_rfl, mixed, by kernel_rfl, sC, by kernel_rfl, (k + 1, some y), ⟨hlt, step⟩, mu1 hlt, Wk.le (St.le.of ⟨by kernel_rfl, rfl, by kernel_rfl, rfl, by kernel_rfl, rfl, by kernel_rfl, rfl, by kernel_rfl, rfl, by kernel_rfl, rfl, Eq.trans (by kernel_rfl) ek, rfl, trivial⟩ ⟨by kernel_rfl, (by decide : (0 : Nat) < 1), rfl, trivial⟩) (hlo.mono (Nat.zero_le _))⟩
        | some z =>
          have sZ := dayOf_spec z
          have ea : aftB (some z) y = decide (y.day ≥ z.day) := rfl
          rw [ea] at step
          cases hd : decide (y.day ≥ z.day)
          · rw [hd] at step
            have step : latV (cntB d x.id) none ls = latV (cntB d x.id) (some z) (ls.drop (k + 1)) := step
            exact ACode.vcM (.br 13 true <| .cells (cLt y) <| .draw 12 <| .call (.bool true) <| .call (.int .i64 y.day) <| .call (.int .i64 z.day) <| .br 31 false .nil) hn hlo (.roundW .cl) ⟨ltLen hlt, idx hy, by kernel_rfl, mixed, by kernel_rfl, sC, sD, by kernel_rfl, sZ, hd, (k + 1, some z), ⟨hlt, step⟩, mu1 hlt, Wk.le (St.le.of ⟨by kernel_rfl, rfl, by kernel_rfl, rfl, by kernel_rfl, rfl, by kernel_rfl, rfl, by kernel_rfl, rfl, by kernel_rfl, rfl, Eq.trans (by kernel_rfl) ek, rfl, trivial⟩ ⟨by kernel_rfl, (by decide : (0 : Nat) < 1), rfl, trivial⟩) (hlo.mono (Nat.zero_le _))⟩
          · rw [hd] at step
            have step : latV (cntB d x.id) none ls = latV (cntB d x.id) (some y) (ls.drop (k + 1)) := step
            exact ACode.vcM (.br 13 true <| .cells (cLt y) <| .draw 12 <| .call (.bool true) <| .call (.int .i64 y.day) <| .call (.int .i64 z.day) <| .br 31 true .nil) hn hlo (.roundW .cl) ⟨ltLen hlt, idx hy, by kernel_rfl, mixed, by kernel_rfl, sC, sD, by kernel_rfl, sZ, hd, (k + 1, some y), ⟨hlt, step⟩, mu1 hlt, Wk.le (St.le.of ⟨by kernel_rfl, rfl, by kernel_rfl, rfl, by kernel_rfl, rfl, by kernel_rfl, rfl, by kernel_rfl, rfl, by kernel_rfl, rfl, Eq.trans (by kernel_rfl) ek, rfl, trivial⟩ ⟨by kernel_rfl, (by decide : (0 : Nat) < 1), rfl, trivial⟩) (hlo.mono (Nat.zero_le _))⟩
    · have hk' : k = ls.length := by omega
      have e : latV (cntB d x.id) none ls = q := by rw [hk2, hk', List.drop_length]; rfl
      rw [e]
      exact ACode.vcM (.br 13 false .nil) hn hlo (.roundW .cl) ⟨geLen hlt, _, .refl _, .nil, [], by kernel_rfl⟩
theorem goneV_eq (ls : List Ltr) (d id : Int) : goneV ls d id = match lastL ls d id with | none => false | some x => decide (x.kd.val = 1) := rfl
def goneK (ls : List Ltr) (d : Int) (r : List Rcd) (k : Nat) : List Int := ((idsR r).take k).filter (goneV ls d)
theorem goneK_succ {ls : List Ltr} {d : Int} {r : List Rcd} {k : Nat} {x : Rcd} (hx : r[k]? = some x) : goneK ls d r (k + 1) = if goneV ls d x.id then goneK ls d r k ++ [x.id] else goneK ls d r k := by
  unfold goneK
  rw [List.take_add_one, idsR_get hx, List.filter_append]
  cases h : goneV ls d x.id <;> simp [h]
theorem goneK_new {ls : List Ltr} {d : Int} {r : List Rcd} (hn : (idsR r).Nodup) {k : Nat} {x : Rcd} (hx : r[k]? = some x) : x.id ∉ goneK ls d r k := fun h =>
  (nodup_at hn (idsR_get hx)).1 (List.mem_filter.1 h).1
end Go.Proofs.Ytmdhgkfjlphliaa
/-
  WHAT IS WITHDRAWN ON A DAY.
-/
namespace Go.Proofs.Ytmdhgkfjlphliaa
open Go Go.Am
set_option maxRecDepth 100000
set_option maxHeartbeats 4000000
theorem withdrawnOn_spec (r : List Rcd) (ls : List Ltr) (d : Int) (hn' : (idsR r).Nodup) (hr : r.length ≤ 1000) (hl : ls.length ≤ 1000) : APure Try.prog 70 [encRs r, encLs ls, .int .i64 d] (.imap (entsO (goneL ls d r))) := by
  refine APure.vcM Try.func70 .loop rfl (by rfl) ?_
  intro g hn hlo
  replace hn : g.n = 38 := hn
  replace hlo : g.low 0 := hlo
  refine acode_whileW (fun k : Nat => ⟨[(1, encLs ls), (5, .vptr 0 0), (7, .mref 1), (14, encRs r), (15, .int .i64 (r.map cRc).length), (16, .int .i64 k)], [(0, .cells [.int .i64 d]), (1, .map (entsO (goneK ls d r k)))], 2⟩) (fun k => k ≤ r.length) (fun k => r.length - k) 0 (Nat.zero_le _) ?_ ?_
  · exact Wk.le (St.le.of ⟨by kernel_rfl, rfl, by kernel_rfl, rfl, by kernel_rfl, rfl, by kernel_rfl, rfl, by kernel_rfl, rfl, by kernel_rfl, rfl, trivial⟩ ⟨by kernel_rfl, (by decide : (0 : Nat) < 2), rfl, by kernel_rfl, (by decide : (1 : Nat) < 2), rfl, trivial⟩) (hlo.mono (Nat.zero_le _))
  · intro k hk
    replace hk : k ≤ r.length := hk
    by_cases hlt : k < r.length
    · refine Exists.elim (getE hlt) fun x hx => ?_
      have ek := congrArg (AV.int .i64) (succ64 (k := k) (by omega))
      have sL := latest_spec ls x d hl
      have eg := goneK_succ (ls := ls) (d := d) hx
      have hnew := goneK_new (ls := ls) (d := d) hn' hx
      rw [goneV_eq] at eg
      cases ho : lastL ls d x.id with
      | none =>
        rw [ho] at sL eg
        have eg : some (AObj.map (entsO (goneK ls d r k))) = some (.map (entsO (goneK ls d r (k + 1)))) := by rw [eg]; rfl
        exact ACode.vcM (.br 17 true <| .cells (cRc x) <| .lent (encLate none) [2, 0] .nil) hn hlo (.roundW .cl) ⟨ltLen hlt, idx hx, ⟨_, by kernel_rfl, .inl ⟨sL, .inr rfl⟩⟩, k + 1, hlt, mu1 hlt, Wk.le (St.le.of ⟨by kernel_rfl, rfl, by kernel_rfl, rfl, by kernel_rfl, rfl, by kernel_rfl, rfl, by kernel_rfl, rfl, Eq.trans (by kernel_rfl) ek, rfl, trivial⟩ ⟨by kernel_rfl, (by decide : (0 : Nat) < 2), rfl, Eq.trans (by kernel_rfl) eg, (by decide : (1 : Nat) < 2), okE_entsO _ _, trivial⟩) (hlo.mono (Nat.zero_le _))⟩
      | some z =>
        rw [ho] at sL eg
        have up := updO (h := hget [(0, .cells [.int .i64 d]), (1, .map (entsO (goneK ls d r k))), (2, .cells (cRc x)), (4, .cells (cLt z))]) (i := 1) (l := goneK ls d r k) (x := x.id) rfl hnew
        have eg : goneK ls d r (k + 1) = if decide (z.kd.val = 1) then goneK ls d r k ++ [x.id] else goneK ls d r k := eg
        by_cases hz : z.kd.val = 1
        · have d32 : ((z.kd.val : Int) == 1) = true := by rw [hz]; rfl
          rw [decide_eq_true hz, if_pos rfl] at eg
          rw [← eg] at up
          exact ACode.vcM (.br 17 true <| .cells (cRc x) <| .lent (encLate (some z)) [2, 0] <| .br 32 true <| .val 0 .undef [(1, some (.map (entsO (goneK ls d r (k + 1)))))] .nil) hn hlo (.roundW .cl) ⟨ltLen hlt, idx hx, ⟨_, by kernel_rfl, .inl ⟨sL, .inr rfl⟩⟩, d32, Eq.trans (by kernel_rfl) up, k + 1, hlt, mu1 hlt, Wk.le (St.le.of ⟨by kernel_rfl, rfl, by kernel_rfl, rfl, by kernel_rfl, rfl, by kernel_rfl, rfl, by kernel_rfl, rfl, Eq.trans (by kernel_rfl) ek, rfl, trivial⟩ ⟨by kernel_rfl, (by decide : (0 : Nat) < 2), rfl, by kernel_rfl, (by decide : (1 : Nat) < 2), okE_entsO _ _, trivial⟩) (hlo.mono (Nat.zero_le _))⟩
        · have d32 : ((z.kd.val : Int) == 1) = false := beq_eq_false_iff_ne.2 (by omega)
          rw [decide_eq_false hz] at eg
          have eg : some (AObj.map (entsO (goneK ls d r k))) = some (.map (entsO (goneK ls d r (k + 1)))) := by rw [eg]; rfl
          exact ACode.vcM (.br 17 true <| .cells (cRc x) <| .lent (encLate (some z)) [2, 0] <| .br 32 false .nil) hn hlo (.roundW .cl) ⟨ltLen hlt, idx hx, ⟨_, by kernel_rfl, .inl ⟨sL, .inr rfl⟩⟩, d32, k + 1, hlt, mu1 hlt, Wk.le (St.le.of ⟨by kernel_rfl, rfl, by kernel_rfl, rfl, by kernel_rfl, rfl, by kernel_rfl, rfl, by kernel_rfl, rfl, Eq.trans (by kernel_rfl) ek, rfl, trivial⟩ ⟨by kernel_rfl, (by decide : (0 : Nat) < 2), rfl, Eq.trans (by kernel_rfl) eg, (by decide : (1 : Nat) < 2), okE_entsO _ _, trivial⟩) (hlo.mono (Nat.zero_le _))⟩
    · have hk' : k = r.length := by omega
      have eA : goneK ls d r k = goneL ls d r := by unfold goneK goneL; rw [hk', List.take_of_length_le (by unfold idsR; rw [List.length_map]; omega)]
      have ht : thaw 8 (hget [(0, .cells [.int .i64 d]), (1, .map (entsO (goneK ls d r k)))]) (.mref 1) = some (.imap (entsO (goneL ls d r)), [1]) := by rw [thaw_O (l := goneK ls d r k) rfl, eA]
      exact ACode.vcM (.br 17 false .nil) hn hlo (.roundW .cl) ⟨geLen hlt, _, .refl _, .nil, [1], Eq.trans (by kernel_rfl) ht⟩
end Go.Proofs.Ytmdhgkfjlphliaa
/-
  RECORDS AT WORK.
-/
namespace Go.Proofs.Ytmdhgkfjlphliaa
open Go Go.Am
set_option maxRecDepth 100000
set_option maxHeartbeats 4000000
/-! ### records at work -/
def cPp (p : Rcd × Nat) : List AV := cRc p.1 ++ [.int .i64 ((2 ^ p.2 : Nat) : Int)]
def paps (r : List Rcd) : List (Rcd × Nat) := r.zipIdx
def encPs (l : List (Rcd × Nat)) : AV := .lst 4 (l.map cPp)
def cAr (r : List Rcd) (G : List Int) : List AV := [encPs (paps r), .imap (entsO G)]
def encAr (r : List Rcd) (G : List Int) : AV := .agg (cAr r G)
def pL (l : List (Rcd × Nat)) : List AV := fl cPp l
theorem pL_ok (n : Nat) (l : List (Rcd × Nat)) : okL n (pL l) = true := fl_ok (enc := cPp) (fun _ => rfl) l
theorem app_oneP {h : Nat → Option AObj} {i j nid : Nat} {l : List (Rcd × Nat)} {x : Rcd × Nat} (h0 : h i = some (.cells (pL l))) (h1 : h j = some (.cells (cPp x))) (hl : l.length ≤ 100000) :
    aAppend Try.prog h nid 71 71 (.rsl i 0 l.length 4) (.rsl j 0 1 4) = some ⟨.rsl nid 0 (l.length + 1) 4, [(i, none), (nid, some (.cells (pL (l ++ [x]))))]⟩ := by
  have e : pL (l ++ [x]) = pL l ++ cPp x := by simp [pL, fl]
  have el : (pL l).length = l.length * 4 := fl_len (enc := cPp) (n := 4) (fun _ => rfl) l
  have ec : (cPp x).all cellB = true := rfl
  have et : ((cPp x).drop 0).take (1 * 4) = cPp x := rfl
  have e4 : (cPp x).length = 4 := rfl
  rw [app_exact h0 (by rw [el]; omega)]
  simp only [aAppend0, ty71, ty108, srcCells, h0, h1]
  simp only [et, e4, el, e]
  simp
  exact ⟨fun y hy => List.all_eq_true.1 ec y hy, by omega⟩
theorem paps_take {r : List Rcd} {k : Nat} {x : Rcd} (hx : r[k]? = some x) : (paps r).take (k + 1) = (paps r).take k ++ [(x, k)] := by
  have h1 : (paps r)[k]? = some (x, k) := by unfold paps; rw [List.getElem?_zipIdx, hx]; simp
  rw [List.take_add_one, h1]; rfl
theorem paps_len (r : List Rcd) : (paps r).length = r.length := List.length_zipIdx
theorem paps_get {r : List Rcd} {k : Nat} {x : Rcd} (hx : r[k]? = some x) : (paps r)[k]? = some (x, k) := by unfold paps; rw [List.getElem?_zipIdx, hx]; simp
theorem atWork_spec (r : List Rcd) (G : List Int) (hr : r.length ≤ 12) : APure Try.prog 69 [encRs r, .imap (entsO G)] (encAr r G) := by
  refine APure.vcM Try.func69 .loop rfl rfl ?_
  intro g hn hlo
  replace hn : g.n = 28 := hn
  replace hlo : g.low 0 := hlo
  refine acode_whileW (fun k : Nat => ⟨[(4, .vptr 0 0), (5, .vptr 1 0), (10, encRs r), (11, .int .i64 (r.map cRc).length), (12, .int .i64 k)], [(0, .cells [.nil, .nmap]), (1, .cells [.rsl 3 0 ((paps r).take k).length 4, .imap (entsO G)]), (3, .cells (pL ((paps r).take k)))], 4⟩) (fun k => k ≤ r.length) (fun k => r.length - k) 0 (Nat.zero_le _) ?_ ?_
  · refine Wk.trans (Wk.le ?_ (hlo.mono (Nat.zero_le _))) (Wk.ownC 1 0 4 (cs := [.nil, .imap (entsO G)]) (by kernel_rfl) rfl)
    exact St.le.of ⟨by kernel_rfl, rfl, by kernel_rfl, rfl, by kernel_rfl, rfl, by kernel_rfl, rfl, by kernel_rfl, rfl, trivial⟩ ⟨by kernel_rfl, (by decide : (0 : Nat) < 4), rfl, by kernel_rfl, (by decide : (1 : Nat) < 4), rfl, by kernel_rfl, (by decide : (3 : Nat) < 4), rfl, trivial⟩
  · intro k hk
    replace hk : k ≤ r.length := hk
    by_cases hlt : k < r.length
    · refine Exists.elim (getE hlt) fun x hx => ?_
      have ek := congrArg (AV.int .i64) (succ64 (k := k) (by omega))
      have hs := bShl (k := k) (by omega)
      have e1 := paps_take hx
      have hl1 : ((paps r).take k).length = k := by rw [List.length_take, paps_len]; omega
      have hl2 : ((paps r).take (k + 1)).length = ((paps r).take k).length + 1 := by rw [e1, List.length_append]; rfl
      have ap := app_oneP (h := hget [(3, .cells (pL ((paps r).take k))), (12, .cells (cPp (x, k)))]) (i := 3) (j := 12) (nid := 16) (l := (paps r).take k) (x := (x, k)) rfl rfl (by omega)
      rw [← e1, ← hl2] at ap
      refine ACode.vcM (.br 13 true <| .cells (cRc x) <| .draw 7 <| .val 21 (.int .i64 ((2 ^ k : Nat) : Int)) [] <| .val 24 (.rsl 16 0 ((paps r).take (k + 1)).length 4) [(3, none), (16, some (.cells (pL ((paps r).take (k + 1)))))] .nil) hn hlo (.roundW .cl) ⟨ltLen hlt, idx hx, by kernel_rfl, mixed, by kernel_rfl, Eq.trans (by kernel_rfl) (congrArg (Option.map fun v => (⟨v, []⟩ : Out)) hs), by kernel_rfl, Eq.trans (by kernel_rfl) ap, k + 1, hlt, mu1 hlt, ?_⟩
      refine Wk.renC (c := 3) (b := 16) (St.renC.of rfl (.inl (by decide)) ⟨.eq (by kernel_rfl) rfl, .eq (by kernel_rfl) rfl, .eq (by kernel_rfl) rfl, .eq (by kernel_rfl) rfl, .eq (Eq.trans (by kernel_rfl) ek) rfl, trivial⟩
        ⟨rvO.same (by decide : (0 : Nat) < 3) (by kernel_rfl) rfl, rvO.turn (by decide : (1 : Nat) < 3) (ys := [.rsl 16 0 ((paps r).take (k + 1)).length 4, .imap (entsO G)]) (by kernel_rfl) ⟨.rsl, .eq rfl rfl, trivial⟩, rvO.new (by kernel_rfl) (pL_ok _ _), trivial⟩) (hlo.mono (Nat.zero_le _))
    · have hk' : k = r.length := by omega
      have et : (paps r).take k = paps r := by rw [hk', ← paps_len, List.take_length]
      have t1 := thaw_fl 5 (h := hget [(0, .cells [.rsl 3 0 ((paps r).take k).length 4, .imap (entsO G)]), (1, .cells [.rsl 3 0 ((paps r).take k).length 4, .imap (entsO G)]), (3, .cells (pL ((paps r).take k)))]) (id := 3) (enc := cPp) (n := 4) (l := (paps r).take k) (fun _ => rfl) (fun _ => rfl) rfl
      have ht : thaw 8 (hget [(0, .cells [.rsl 3 0 ((paps r).take k).length 4, .imap (entsO G)]), (1, .cells [.rsl 3 0 ((paps r).take k).length 4, .imap (entsO G)]), (3, .cells (pL ((paps r).take k)))]) (.agg [.rsl 3 0 ((paps r).take k).length 4, .imap (entsO G)]) = some (encAr r G, [3]) := by
        have e : ∀ h : Nat → Option AObj, thaw 8 h (.agg [.rsl 3 0 ((paps r).take k).length 4, .imap (entsO G)]) = (mapO (thaw 7 h) [.rsl 3 0 ((paps r).take k).length 4, .imap (entsO G)]).map fun p => (.agg p.1, p.2) := fun h => rfl
        have k1 : ∀ h : Nat → Option AObj, thaw 7 h (.imap (entsO G)) = some (.imap (entsO G), []) := fun h => by unfold thaw; exact if_pos rfl
        rw [e]
        simp only [mapO, t1, k1]
        rw [et]
        rfl
      exact ACode.vcM (.br 13 false .nil) hn hlo (.roundW .cl) ⟨geLen hlt, _, .refl _, .nil, [3], Eq.trans (by kernel_rfl) ht⟩
end Go.Proofs.Ytmdhgkfjlphliaa
