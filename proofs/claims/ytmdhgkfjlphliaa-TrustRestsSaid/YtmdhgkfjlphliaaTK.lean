/-
  WHAT HOLDS, AND WHAT ONE TAKES WITH IT, BY THE REFERENCE.
-/
import Derived.Test.YtmdhgkfjlphliaaG4
import Derived.Test.YtmdhgkfjlphliaaTW
import Derived.Test.YtmdhgkfjlphliaaR7
import Derived.Test.YtmdhgkfjlphliaaMV
namespace Go.Proofs.Ytmdhgkfjlphliaa
open Go Go.Am
set_option maxRecDepth 100000
set_option maxHeartbeats 8000000
theorem goneR {f : FuncId} (hf : Try.prog.funcs[f]? = some Try.f45) (r : List Rcd) (l : List Ltr) (d : Int) (hr : r.length ≤ 1000) (hl : l.length ≤ 1000) : RangeOk Try.prog f [encRs r, encLs l, .int .i64 d] [] 0 fun v H' nx' => v = .rsl 0 0 (r.map cRc).length 1 ∧ H' = [(0, .cells (boL (goneBs r l d)))] ∧ nx' = 1 := by
  have hlen : (r.map cRc).length = r.length := List.length_map _
  have hgl : (goneBs r l d).length = r.length := List.length_map _
  have mk := mk_bools (id := 0) (len := (r.map cRc).length) (by omega)
  refine rangeVc hf (.val 13 (.rsl 0 0 (r.map cRc).length 1) [(0, some (.cells (boL (List.replicate (r.map cRc).length false))))] .loop) ⟨Eq.trans (by kernel_rfl) mk, ?_⟩
  intro g hn hlo
  replace hn : g.n = 78 := hn
  replace hlo : g.low 0 := hlo
  refine acode_whileW (fun k : Nat => ⟨[(0, encRs r), (1, encLs l), (2, .int .i64 d), (7, .rsl 0 0 (r.map cRc).length 1), (8, .int .i64 k)], [(0, .cells (boL (bK (goneBs r l d) r.length k)))], 1⟩) (fun k => k ≤ r.length) (fun k => r.length - k) 0 (Nat.zero_le _) ?_ ?_
  · have e0 : some (AObj.cells (boL (List.replicate (r.map cRc).length false))) = some (.cells (boL (bK (goneBs r l d) r.length 0))) := by rw [hlen]; rfl
    exact Wk.le (St.le.of ⟨by kernel_rfl, rfl, by kernel_rfl, rfl, by kernel_rfl, rfl, by kernel_rfl, rfl, by kernel_rfl, rfl, trivial⟩ ⟨Eq.trans (by kernel_rfl) e0, (by decide : (0 : Nat) < 1), boL_ok _ _, trivial⟩) (hlo.mono (Nat.zero_le _))
  · intro k hk
    replace hk : k ≤ r.length := hk
    by_cases hlt : k < r.length
    · refine Exists.elim (getE hlt) fun x hx => ?_
      have ek := congrArg (AV.int .i64) (succ64 (k := k) (by omega))
      have hgx : (goneBs r l d)[k]? = some (goneV l d x.id) := by unfold goneBs; rw [List.getElem?_map, hx]; rfl
      refine ACode.vcM (.br 17 true <| .loop) hn hlo (.roundW .cl) ⟨ltLen hlt, ?_⟩
      intro g hn hlo2
      replace hn : g.n = 78 := hn
      replace hlo2 : g.low 0 := hlo2
      refine acode_whileW (fun p : Nat × Option Nat => ⟨[(0, encRs r), (1, encLs l), (2, .int .i64 d), (7, .rsl 0 0 (r.map cRc).length 1), (8, .int .i64 k), (9, .int .i64 (lastI p.2)), (10, .int .i64 p.1)], [(0, .cells (boL (bK (goneBs r l d) r.length k)))], 1⟩) (fun p => p.1 ≤ l.length ∧ (∀ m, p.2 = some m → m < l.length) ∧ lastL l d x.id = latV (cntB d x.id) (qL l p.2) (l.drop p.1)) (fun p => l.length - p.1) (0, none) ⟨Nat.zero_le _, fun (m : Nat) (h : (none : Option Nat) = some m) => (by cases h), rfl⟩ ?_ ?_
      · exact Wk.le (St.le.of ⟨by kernel_rfl, rfl, by kernel_rfl, rfl, by kernel_rfl, rfl, by kernel_rfl, rfl, by kernel_rfl, rfl, by kernel_rfl, rfl, by kernel_rfl, rfl, trivial⟩ ⟨by kernel_rfl, (by decide : (0 : Nat) < 1), boL_ok _ _, trivial⟩) (hlo2.mono (Nat.zero_le _))
      · rintro ⟨j, q⟩ ⟨hj, hq, hs⟩
        replace hj : j ≤ l.length := hj
        replace hq : ∀ m, q = some m → m < l.length := hq
        replace hs : lastL l d x.id = latV (cntB d x.id) (qL l q) (l.drop j) := hs
        by_cases hjl : j < l.length
        · refine Exists.elim (getE hjl) fun y hy => ?_
          have ej := congrArg (AV.int .i64) (succ64 (k := j) (by omega))
          rw [drop_cons hy] at hs
          have hs : lastL l d x.id = latV (cntB d x.id) (if cntB d x.id y && aftB (qL l q) y then some y else qL l q) (l.drop (j + 1)) := hs
          have hqy : ∀ m, some j = some m → m < l.length := fun m h => by cases h; exact hjl
          cases c1 : (y.about == x.id)
          · have hc : cntB d x.id y = false := by
              have h' : ¬ y.about = x.id := by simpa using c1
              unfold cntB; rw [decide_eq_false h']; rfl
            rw [hc] at hs
            have step : lastL l d x.id = latV (cntB d x.id) (qL l q) (l.drop (j + 1)) := hs
            exact ACode.vcM (.br 23 true <| .draw 34 <| .cells (cLt y) <| .cells (cRc x) <| .br 37 false .nil) hn hlo2 (.roundW .cl) ⟨ltLen hjl, by kernel_rfl, mixed, by kernel_rfl, idx hy, idx hx, c1, by kernel_rfl, (j + 1, q), ⟨hjl, hq, step⟩, mu1 hjl, Wk.le (St.le.of ⟨by kernel_rfl, rfl, by kernel_rfl, rfl, by kernel_rfl, rfl, by kernel_rfl, rfl, by kernel_rfl, rfl, by kernel_rfl, rfl, Eq.trans (by kernel_rfl) ej, rfl, trivial⟩ ⟨by kernel_rfl, (by decide : (0 : Nat) < 1), boL_ok _ _, trivial⟩) (hlo2.mono (show 0 ≤ 1 by decide))⟩
          · have h' : y.about = x.id := by simpa using c1
            cases c2 : decide (y.day ≤ d)
            · have hc : cntB d x.id y = false := by unfold cntB; rw [c2, Bool.and_false]
              rw [hc] at hs
              have step : lastL l d x.id = latV (cntB d x.id) (qL l q) (l.drop (j + 1)) := hs
              exact ACode.vcM (.br 23 true <| .draw 34 <| .cells (cLt y) <| .cells (cRc x) <| .br 37 true <| .cells (cLt y) <| .br 46 false .nil) hn hlo2 (.roundW .cl) ⟨ltLen hjl, by kernel_rfl, mixed, by kernel_rfl, idx hy, idx hx, c1, idx hy, c2, by kernel_rfl, (j + 1, q), ⟨hjl, hq, step⟩, mu1 hjl, Wk.le (St.le.of ⟨by kernel_rfl, rfl, by kernel_rfl, rfl, by kernel_rfl, rfl, by kernel_rfl, rfl, by kernel_rfl, rfl, by kernel_rfl, rfl, Eq.trans (by kernel_rfl) ej, rfl, trivial⟩ ⟨by kernel_rfl, (by decide : (0 : Nat) < 1), boL_ok _ _, trivial⟩) (hlo2.mono (show 0 ≤ 1 by decide))⟩
            · have hc : cntB d x.id y = true := by unfold cntB; rw [c2, decide_eq_true h']; rfl
              rw [hc] at hs
              cases q with
              | none =>
                have step : lastL l d x.id = latV (cntB d x.id) (qL l (some j)) (l.drop (j + 1)) := by rw [qL_some hy]; exact hs
                exact ACode.vcM (.br 23 true <| .draw 34 <| .cells (cLt y) <| .cells (cRc x) <| .br 37 true <| .cells (cLt y) <| .br 46 true <| .br 49 true .nil) hn hlo2 (.roundW .cl) ⟨ltLen hjl, by kernel_rfl, mixed, by kernel_rfl, idx hy, idx hx, c1, idx hy, c2, rfl, by kernel_rfl, (j + 1, some j), ⟨hjl, hqy, step⟩, mu1 hjl, Wk.le (St.le.of ⟨by kernel_rfl, rfl, by kernel_rfl, rfl, by kernel_rfl, rfl, by kernel_rfl, rfl, by kernel_rfl, rfl, by kernel_rfl, rfl, Eq.trans (by kernel_rfl) ej, rfl, trivial⟩ ⟨by kernel_rfl, (by decide : (0 : Nat) < 1), boL_ok _ _, trivial⟩) (hlo2.mono (show 0 ≤ 1 by decide))⟩
              | some m =>
                refine Exists.elim (getE (hq m rfl)) fun z hz => ?_
                rw [qL_some hz] at hs
                have d49 : decide ((m : Int) < 0) = false := decide_eq_false (by omega)
                have ea : aftB (some z) y = decide (y.day ≥ z.day) := rfl
                rw [ea] at hs
                cases c3 : decide (y.day ≥ z.day)
                · rw [c3] at hs
                  have step : lastL l d x.id = latV (cntB d x.id) (qL l (some m)) (l.drop (j + 1)) := by rw [qL_some hz]; exact hs
                  exact ACode.vcM (.br 23 true <| .draw 34 <| .cells (cLt y) <| .cells (cRc x) <| .br 37 true <| .cells (cLt y) <| .br 46 true <| .br 49 false <| .cells (cLt y) <| .cells (cLt z) <| .br 62 false .nil) hn hlo2 (.roundW .cl) ⟨ltLen hjl, by kernel_rfl, mixed, by kernel_rfl, idx hy, idx hx, c1, idx hy, c2, d49, idx hy, idx hz, by kernel_rfl, c3, (j + 1, some m), ⟨hjl, hq, step⟩, mu1 hjl, Wk.le (St.le.of ⟨by kernel_rfl, rfl, by kernel_rfl, rfl, by kernel_rfl, rfl, by kernel_rfl, rfl, by kernel_rfl, rfl, by kernel_rfl, rfl, Eq.trans (by kernel_rfl) ej, rfl, trivial⟩ ⟨by kernel_rfl, (by decide : (0 : Nat) < 1), boL_ok _ _, trivial⟩) (hlo2.mono (show 0 ≤ 1 by decide))⟩
                · rw [c3] at hs
                  have step : lastL l d x.id = latV (cntB d x.id) (qL l (some j)) (l.drop (j + 1)) := by rw [qL_some hy]; exact hs
                  exact ACode.vcM (.br 23 true <| .draw 34 <| .cells (cLt y) <| .cells (cRc x) <| .br 37 true <| .cells (cLt y) <| .br 46 true <| .br 49 false <| .cells (cLt y) <| .cells (cLt z) <| .br 62 true .nil) hn hlo2 (.roundW .cl) ⟨ltLen hjl, by kernel_rfl, mixed, by kernel_rfl, idx hy, idx hx, c1, idx hy, c2, d49, idx hy, idx hz, by kernel_rfl, c3, (j + 1, some j), ⟨hjl, hqy, step⟩, mu1 hjl, Wk.le (St.le.of ⟨by kernel_rfl, rfl, by kernel_rfl, rfl, by kernel_rfl, rfl, by kernel_rfl, rfl, by kernel_rfl, rfl, by kernel_rfl, rfl, Eq.trans (by kernel_rfl) ej, rfl, trivial⟩ ⟨by kernel_rfl, (by decide : (0 : Nat) < 1), boL_ok _ _, trivial⟩) (hlo2.mono (show 0 ≤ 1 by decide))⟩
        · have hj' : j = l.length := by omega
          have hs2 : lastL l d x.id = qL l q := by rw [hs, hj', List.drop_length]; rfl
          have hg := goneV_q hs2
          have bl := bK_len (k := k) hgl (by omega)
          have ix := ixBo (h := hget []) (id := 0) (n := (r.map cRc).length) (k := k) (by omega)
          cases q with
          | none =>
            have hg : goneV l d x.id = false := hg
            have st := stBo (h := hget [(0, .cells (boL (bK (goneBs r l d) r.length k)))]) (id := 0) (k := k) (l := bK (goneBs r l d) r.length k) (x := false) rfl (by omega)
            rw [bK_set hgl hlt (by rw [hgx, hg])] at st
            exact ACode.vcM (.br 23 false .nil) hn hlo2 (.roundW .cl) ⟨geLen hjl, _, .refl _, .br 68 false <| .val 76 (.vptr 0 k) [] <| .val 1 .undef [(0, some (.cells (boL (bK (goneBs r l d) r.length (k + 1)))))] .nil, rfl, Eq.trans (by kernel_rfl) ix, Eq.trans (by kernel_rfl) st, k + 1, hlt, mu1 hlt, Wk.le (St.le.of ⟨by kernel_rfl, rfl, by kernel_rfl, rfl, by kernel_rfl, rfl, by kernel_rfl, rfl, Eq.trans (by kernel_rfl) ek, rfl, trivial⟩ ⟨by kernel_rfl, (by decide : (0 : Nat) < 1), boL_ok _ _, trivial⟩) (hlo.mono (show 0 ≤ 1 by decide))⟩
          | some m =>
            refine Exists.elim (getE (hq m rfl)) fun z hz => ?_
            rw [qL_some hz] at hg
            have hg : goneV l d x.id = decide (z.kd.val = 1) := hg
            have d68 : decide ((m : Int) ≥ 0) = true := decide_eq_true (by omega)
            have ez : ((z.kd.val : Int) == 1) = decide (z.kd.val = 1) := decide_eq_decide.2 (by omega)
            have st := stBo (h := hget [(0, .cells (boL (bK (goneBs r l d) r.length k)))]) (id := 0) (k := k) (l := bK (goneBs r l d) r.length k) (x := ((z.kd.val : Int) == 1)) rfl (by omega)
            rw [bK_set hgl hlt (by rw [hgx, hg, ez])] at st
            exact ACode.vcM (.br 23 false .nil) hn hlo2 (.roundW .cl) ⟨geLen hjl, _, .refl _, .br 68 true <| .cells (cLt z) <| .val 76 (.vptr 0 k) [] <| .val 1 .undef [(0, some (.cells (boL (bK (goneBs r l d) r.length (k + 1)))))] .nil, d68, idx hz, Eq.trans (by kernel_rfl) ix, Eq.trans (by kernel_rfl) st, k + 1, hlt, mu1 hlt, Wk.le (St.le.of ⟨by kernel_rfl, rfl, by kernel_rfl, rfl, by kernel_rfl, rfl, by kernel_rfl, rfl, Eq.trans (by kernel_rfl) ek, rfl, trivial⟩ ⟨by kernel_rfl, (by decide : (0 : Nat) < 1), boL_ok _ _, trivial⟩) (hlo.mono (show 0 ≤ 1 by decide))⟩
    · have hk' : k = r.length := by omega
      have e : bK (goneBs r l d) r.length k = goneBs r l d := by rw [hk', bK_all hgl]
      exact ACode.vcM (.br 17 false .nil) hn hlo (.roundW .cl) ⟨geLen hlt, _, .refl _, .nil, rfl, congrArg (fun L => [(0, AObj.cells (boL L))]) e, rfl⟩
theorem holdR {f : FuncId} (hf : Try.prog.funcs[f]? = some Try.f44) (r : List Rcd) (g : Int → Bool) (hr : recsB r = true) : RangeOk Try.prog f [encRs r, .rsl 0 0 (r.map cRc).length 1] [(0, .cells (boL (goB g r)))] 1 fun v H' nx' => v = .rsl 1 0 (r.map cRc).length 1 ∧ H' = [(0, .cells (boL (goB g r))), (1, .cells (boL (hoB g r)))] ∧ nx' = 2 := by
  have hlen : (r.map cRc).length = r.length := List.length_map _
  have hLl : (hoB g r).length = r.length := List.length_map _
  have ha := Ar_of hr
  have hrl := ha.len
  have mk := mk_bools (id := 1) (len := (r.map cRc).length) (by omega)
  generalize hH : heldV g [] r = H at *
  have hL : ∀ {j : Nat} {y : Rcd}, r[j]? = some y → (hoB g r)[j]? = some (H.contains y.id) := fun h => by unfold hoB; rw [List.getElem?_map, h, hH]; rfl
  have hiff : ∀ {j : Nat} {y : Rcd}, r[j]? = some y → H.contains y.id = (standsB (fun i => H.contains i) y.ways && !g y.id) := fun h => by
    have h1 := held_iff hr g (List.mem_of_getElem? h)
    rw [hH] at h1
    rw [Bool.eq_iff_iff, List.contains_iff_mem, h1, Bool.and_eq_true]
    constructor
    · rintro ⟨a, b⟩; exact ⟨b, by rw [a]; rfl⟩
    · rintro ⟨a, b⟩; exact ⟨by simpa using b, a⟩
  generalize hLL : hoB g r = L at *
  refine rangeVc hf (.val 13 (.rsl 1 0 (r.map cRc).length 1) [(1, some (.cells (boL (List.replicate (r.map cRc).length false))))] .loop) ⟨Eq.trans (by kernel_rfl) mk, ?_⟩
  intro gg hn hlo
  replace hn : gg.n = 85 := hn
  replace hlo : gg.low 1 := hlo
  refine acode_whileW (fun k : Nat => ⟨[(0, encRs r), (1, .rsl 0 0 (r.map cRc).length 1), (5, .rsl 1 0 (r.map cRc).length 1), (6, .int .i64 k)], [(0, .cells (boL (goB g r))), (1, .cells (boL (bK L r.length k)))], 2⟩) (fun k => k ≤ r.length) (fun k => r.length - k) 0 (Nat.zero_le _) ?_ ?_
  · have e0 : some (AObj.cells (boL (List.replicate (r.map cRc).length false))) = some (.cells (boL (bK L r.length 0))) := by rw [hlen]; rfl
    exact Wk.le (St.le.of ⟨by kernel_rfl, rfl, by kernel_rfl, rfl, by kernel_rfl, rfl, by kernel_rfl, rfl, trivial⟩ ⟨by kernel_rfl, (by decide : (0 : Nat) < 2), boL_ok _ _, Eq.trans (by kernel_rfl) e0, (by decide : (1 : Nat) < 2), boL_ok _ _, trivial⟩) (hlo.mono (show 1 ≤ 2 by decide))
  · intro k hk
    replace hk : k ≤ r.length := hk
    by_cases hlt : k < r.length
    · refine Exists.elim (getE hlt) fun x hx => ?_
      have ek := congrArg (AV.int .i64) (succ64 (k := k) (by omega))
      have hxw := ha.wr x (List.mem_of_getElem? hx)
      have hwl := hxw.1
      have hgk : (goB g r)[k]? = some (g x.id) := by unfold goB; rw [List.getElem?_map, hx]; rfl
      refine ACode.vcM (.br 17 true <| .cells (cRc x) <| .loop) hn hlo (.roundW .cl) ⟨ltLen hlt, idx hx, ?_⟩
      intro gg hn hlo2
      replace hn : gg.n = 85 := hn
      replace hlo2 : gg.low 1 := hlo2
      refine acode_whileW (fun p : Nat × Bool => ⟨[(0, encRs r), (1, .rsl 0 0 (r.map cRc).length 1), (5, .rsl 1 0 (r.map cRc).length 1), (6, .int .i64 k), (7, .bool p.2), (8, .int .i64 p.1)], [(0, .cells (boL (goB g r))), (1, .cells (boL (bK L r.length k)))], 2⟩) (fun p => p.1 ≤ x.ways.length ∧ p.2 = (x.ways.isEmpty || (x.ways.take p.1).any fun w => w.all fun i => H.contains i)) (fun p => x.ways.length - p.1) (0, x.ways.isEmpty) ⟨Nat.zero_le _, by simp⟩ ?_ ?_
      · have es : AV.bool (((x.ways.map cW).length : Int) == 0) = .bool x.ways.isEmpty := by
          cases x.ways with
          | nil => rfl
          | cons a l => exact congrArg AV.bool (beq_eq_false_iff_ne.2 (by simp; omega))
        exact Wk.le (St.le.of ⟨by kernel_rfl, rfl, by kernel_rfl, rfl, by kernel_rfl, rfl, by kernel_rfl, rfl, Eq.trans (by kernel_rfl) es, rfl, by kernel_rfl, rfl, trivial⟩ ⟨by kernel_rfl, (by decide : (0 : Nat) < 2), boL_ok _ _, by kernel_rfl, (by decide : (1 : Nat) < 2), boL_ok _ _, trivial⟩) (hlo2.mono (show 1 ≤ 2 by decide))
      · rintro ⟨n, s⟩ ⟨hn1, hs⟩
        replace hn1 : n ≤ x.ways.length := hn1
        replace hs : s = (x.ways.isEmpty || (x.ways.take n).any fun w => w.all fun i => H.contains i) := hs
        by_cases hnl : n < x.ways.length
        · refine Exists.elim (getE hnl) fun w hw => ?_
          have en := congrArg (AV.int .i64) (succ64 (k := n) (by omega))
          have hwm := List.mem_of_getElem? hw
          have hwl2 := hxw.2 w hwm
          refine ACode.vcM (.cells (cRc x) <| .br 34 true <| .loop) hn hlo2 (.roundW .cl) ⟨idx hx, ltLen hnl, ?_⟩
          intro gg hn hl3
          replace hn : gg.n = 85 := hn
          replace hl3 : gg.low 1 := hl3
          refine acode_whileW (fun p : Nat × Bool => ⟨[(0, encRs r), (1, .rsl 0 0 (r.map cRc).length 1), (5, .rsl 1 0 (r.map cRc).length 1), (6, .int .i64 k), (7, .bool s), (8, .int .i64 n), (9, .bool p.2), (10, .int .i64 p.1)], [(0, .cells (boL (goB g r))), (1, .cells (boL (bK L r.length k)))], 2⟩) (fun p => p.1 ≤ w.length ∧ p.2 = (w.take p.1).all fun i => H.contains i) (fun p => w.length - p.1) (0, true) ⟨Nat.zero_le _, by simp⟩ ?_ ?_
          · exact Wk.le (St.le.of ⟨by kernel_rfl, rfl, by kernel_rfl, rfl, by kernel_rfl, rfl, by kernel_rfl, rfl, by kernel_rfl, rfl, by kernel_rfl, rfl, by kernel_rfl, rfl, by kernel_rfl, rfl, trivial⟩ ⟨by kernel_rfl, (by decide : (0 : Nat) < 2), boL_ok _ _, by kernel_rfl, (by decide : (1 : Nat) < 2), boL_ok _ _, trivial⟩) (hl3.mono (show 1 ≤ 2 by decide))
          · rintro ⟨m, a⟩ ⟨hm1, hm2⟩
            replace hm1 : m ≤ w.length := hm1
            replace hm2 : a = (w.take m).all fun i => H.contains i := hm2
            by_cases hml : m < w.length
            · refine Exists.elim (getE hml) fun v hv => ?_
              have em := congrArg (AV.int .i64) (succ64 (k := m) (by omega))
              have hnx : ((w.take (m + 1)).all fun i => H.contains i) = (a && H.contains v) := by rw [take_all hv, ← hm2]
              cases a with
              | false =>
                have st : false = ((w.take (m + 1)).all fun i => H.contains i) := by rw [hnx]; rfl
                exact ACode.vcM (.cells (cRc x) <| .cells (cW w) <| .br 47 true .nil) hn hl3 (.roundW .cl) ⟨idx hx, idx hw, ltLen hml, (m + 1, false), ⟨hml, st⟩, mu1 hml, Wk.le (St.le.of ⟨by kernel_rfl, rfl, by kernel_rfl, rfl, by kernel_rfl, rfl, by kernel_rfl, rfl, by kernel_rfl, rfl, by kernel_rfl, rfl, by kernel_rfl, rfl, Eq.trans (by kernel_rfl) em, rfl, trivial⟩ ⟨by kernel_rfl, (by decide : (0 : Nat) < 2), boL_ok _ _, by kernel_rfl, (by decide : (1 : Nat) < 2), boL_ok _ _, trivial⟩) (hl3.mono (show 1 ≤ 2 by decide))⟩
              | true =>
                refine Exists.elim (ref_at hr hx hwm (List.mem_of_getElem? hv)) fun j hj => Exists.elim hj fun y hj => ?_
                obtain ⟨hjk, hy, eyv, ef⟩ := hj
                have sAt := At_spec r v (by omega)
                rw [ef] at sAt
                have ix := ixBo (h := hget []) (id := 1) (n := (r.map cRc).length) (k := j) (by omega)
                have bj : (bK L r.length k)[j]? = some (H.contains v) := by
                  unfold bK
                  rw [List.getElem?_append_left (by rw [List.length_take]; omega), List.getElem?_take_of_lt hjk, hL hy, eyv]
                have ld := ldBo (h := hget [(1, .cells (boL (bK L r.length k)))]) (id := 1) rfl bj
                have st : H.contains v = ((w.take (m + 1)).all fun i => H.contains i) := by rw [hnx]; rfl
                generalize H.contains v = b at *
                exact ACode.vcM (.cells (cRc x) <| .cells (cW w) <| .br 47 true <| .cells (cRc x) <| .cells (cW w) <| .cells (encI v) <| .call (.int .i64 (j : Int)) <| .val 66 (.vptr 1 j) [] <| .val 67 (.bool b) [] .nil) hn hl3 (.roundW .cl) ⟨idx hx, idx hw, ltLen hml, idx hx, idx hw, idx hv, sAt, Eq.trans (by kernel_rfl) ix, Eq.trans (by kernel_rfl) ld, (m + 1, b), ⟨hml, st⟩, mu1 hml, Wk.le (St.le.of ⟨by kernel_rfl, rfl, by kernel_rfl, rfl, by kernel_rfl, rfl, by kernel_rfl, rfl, by kernel_rfl, rfl, by kernel_rfl, rfl, by kernel_rfl, rfl, Eq.trans (by kernel_rfl) em, rfl, trivial⟩ ⟨by kernel_rfl, (by decide : (0 : Nat) < 2), boL_ok _ _, by kernel_rfl, (by decide : (1 : Nat) < 2), boL_ok _ _, trivial⟩) (hl3.mono (show 1 ≤ 2 by decide))⟩
            · have hm' : m = w.length := by omega
              have hall : a = w.all fun i => H.contains i := by rw [hm2, hm', List.take_length]
              have hnx : (x.ways.isEmpty || (x.ways.take (n + 1)).any fun w => w.all fun i => H.contains i) = (s || a) := by
                rw [hs, hall, List.take_add_one, hw, List.any_append]
                simp [Bool.or_assoc]
              cases s with
              | true =>
                have st : true = (x.ways.isEmpty || (x.ways.take (n + 1)).any fun w => w.all fun i => H.contains i) := by rw [hnx]; rfl
                exact ACode.vcM (.cells (cRc x) <| .cells (cW w) <| .br 47 false .nil) hn hl3 (.roundW .cl) ⟨idx hx, idx hw, geLen hml, _, .refl _, .nil, (n + 1, true), ⟨hnl, st⟩, mu1 hnl, Wk.le (St.le.of ⟨by kernel_rfl, rfl, by kernel_rfl, rfl, by kernel_rfl, rfl, by kernel_rfl, rfl, by kernel_rfl, rfl, Eq.trans (by kernel_rfl) en, rfl, trivial⟩ ⟨by kernel_rfl, (by decide : (0 : Nat) < 2), boL_ok _ _, by kernel_rfl, (by decide : (1 : Nat) < 2), boL_ok _ _, trivial⟩) (hlo2.mono (show 1 ≤ 2 by decide))⟩
              | false =>
                have st : a = (x.ways.isEmpty || (x.ways.take (n + 1)).any fun w => w.all fun i => H.contains i) := by rw [hnx]; rfl
                exact ACode.vcM (.cells (cRc x) <| .cells (cW w) <| .br 47 false .nil) hn hl3 (.roundW .cl) ⟨idx hx, idx hw, geLen hml, _, .refl _, .nil, (n + 1, a), ⟨hnl, st⟩, mu1 hnl, Wk.le (St.le.of ⟨by kernel_rfl, rfl, by kernel_rfl, rfl, by kernel_rfl, rfl, by kernel_rfl, rfl, by kernel_rfl, rfl, Eq.trans (by kernel_rfl) en, rfl, trivial⟩ ⟨by kernel_rfl, (by decide : (0 : Nat) < 2), boL_ok _ _, by kernel_rfl, (by decide : (1 : Nat) < 2), boL_ok _ _, trivial⟩) (hlo2.mono (show 1 ≤ 2 by decide))⟩
        · have hn' : n = x.ways.length := by omega
          have hst : s = standsB (fun i => H.contains i) x.ways := by rw [hs, hn', List.take_length]; rfl
          have hfin : L[k]? = some (s && !g x.id) := by rw [hL hx, hiff hx, hst]
          have bl := bK_len (L := L) (n := r.length) (k := k) hLl (by omega)
          have ix := ixBo (h := hget []) (id := 1) (n := (r.map cRc).length) (k := k) (by omega)
          have ixg := ixBo (h := hget []) (id := 0) (n := (r.map cRc).length) (k := k) (by omega)
          have ldg := ldBo (h := hget [(0, .cells (boL (goB g r)))]) (id := 0) rfl hgk
          have stf := fun (z : Bool) (hz : L[k]? = some z) => (stBo (h := hget [(1, .cells (boL (bK L r.length k)))]) (id := 1) (k := k) (l := bK L r.length k) (x := z) rfl (by omega)).trans (by rw [bK_set hLl hlt hz])
          cases s with
          | true =>
            have st := stf (!g x.id) (by rw [hfin]; rfl)
            exact ACode.vcM (.cells (cRc x) <| .br 34 false .nil) hn hlo2 (.roundW .cl) ⟨idx hx, geLen hnl, _, .refl _, .val 79 (.vptr 0 k) [] <| .val 80 (.bool (g x.id)) [] <| .val 83 (.vptr 1 k) [] <| .val 1 .undef [(1, some (.cells (boL (bK L r.length (k + 1)))))] .nil, Eq.trans (by kernel_rfl) ixg, Eq.trans (by kernel_rfl) ldg, Eq.trans (by kernel_rfl) ix, Eq.trans (by kernel_rfl) st, k + 1, hlt, mu1 hlt, Wk.le (St.le.of ⟨by kernel_rfl, rfl, by kernel_rfl, rfl, by kernel_rfl, rfl, Eq.trans (by kernel_rfl) ek, rfl, trivial⟩ ⟨by kernel_rfl, (by decide : (0 : Nat) < 2), boL_ok _ _, by kernel_rfl, (by decide : (1 : Nat) < 2), boL_ok _ _, trivial⟩) (hlo.mono (show 1 ≤ 2 by decide))⟩
          | false =>
            have st := stf false (by rw [hfin]; rfl)
            exact ACode.vcM (.cells (cRc x) <| .br 34 false .nil) hn hlo2 (.roundW .cl) ⟨idx hx, geLen hnl, _, .refl _, .val 83 (.vptr 1 k) [] <| .val 1 .undef [(1, some (.cells (boL (bK L r.length (k + 1)))))] .nil, Eq.trans (by kernel_rfl) ix, Eq.trans (by kernel_rfl) st, k + 1, hlt, mu1 hlt, Wk.le (St.le.of ⟨by kernel_rfl, rfl, by kernel_rfl, rfl, by kernel_rfl, rfl, Eq.trans (by kernel_rfl) ek, rfl, trivial⟩ ⟨by kernel_rfl, (by decide : (0 : Nat) < 2), boL_ok _ _, by kernel_rfl, (by decide : (1 : Nat) < 2), boL_ok _ _, trivial⟩) (hlo.mono (show 1 ≤ 2 by decide))⟩
    · have hk' : k = r.length := by omega
      have e : bK L r.length k = L := by rw [hk', bK_all hLl]
      exact ACode.vcM (.br 17 false .nil) hn hlo (.roundW .cl) ⟨geLen hlt, _, .refl _, .nil, rfl, congrArg (fun L => [(0, AObj.cells (boL (goB g r))), (1, AObj.cells (boL L))]) e, rfl⟩
/-! ### Ids -/
theorem rids_ok (r : List Rcd) (p : Int → Bool) (hr : r.length ≤ 1000) : APureF Try.prog 43 [encRs r, encBs (r.map fun x => p x.id)] (encR ((idsR r).filter p)) := by
  have hil : (idsR r).length = r.length := by unfold idsR; rw [List.length_map]
  have hPL : ∀ {j : Nat} {y : Rcd}, r[j]? = some y → (r.map fun x => p x.id)[j]? = some (p y.id) := fun h => by rw [List.getElem?_map, h]; rfl
  have key : ∃ A : Nat → List Int, A 0 = [] ∧ (∀ (k : Nat) (x : Rcd), r[k]? = some x → A (k + 1) = if p x.id then A k ++ [x.id] else A k) ∧ (∀ k, k ≤ r.length → (A k).length ≤ k) ∧ A r.length = (idsR r).filter p := by
    refine ⟨fun k => ((idsR r).take k).filter p, rfl, fun k x hx => ?_, fun k hk => ?_, ?_⟩
    · show ((idsR r).take (k + 1)).filter p = _
      rw [List.take_add_one, idsR_get hx, List.filter_append]
      cases h : p x.id
      · have e0 : (some x.id).toList.filter p = [] := by show [x.id].filter p = []; rw [List.filter_cons_of_neg (by rw [h]; decide)]; rfl
        rw [e0, List.append_nil]; rfl
      · have e0 : (some x.id).toList.filter p = [x.id] := by show [x.id].filter p = [x.id]; rw [List.filter_cons_of_pos h]; rfl
        rw [e0]; rfl
    · have := List.length_filter_le p ((idsR r).take k)
      rw [List.length_take] at this
      exact Nat.le_trans this (Nat.min_le_left _ _)
    · show ((idsR r).take r.length).filter p = _
      rw [← hil, List.take_length]
  obtain ⟨A, hA0, hAs, hAl, hAe⟩ := key
  rw [← hAe]
  generalize (r.map fun x => p x.id) = PL at *
  refine APureF.vcM Try.func43 .loop rfl rfl ?_
  intro g hn hlo
  replace hn : g.n = 26 := hn
  replace hlo : g.low 0 := hlo
  refine acode_whileW (fun k : Nat => ⟨[(0, encRs r), (1, encBs PL), (5, .rsl 0 0 (A k).length 1), (6, .int .i64 (k : Int))], [(0, .cells (iL (A k)))], 1⟩) (fun k => k ≤ r.length) (fun k => r.length - k) 0 (Nat.zero_le _) ?_ ?_
  · refine Wk.trans (Wk.le ?_ (hlo.mono (Nat.zero_le _))) (Wk.own 5 1 (by kernel_rfl))
    have o1 : some (AObj.cells []) = some (.cells (iL (A 0))) := by rw [hA0]; rfl
    have e4 : AV.rsl 0 0 0 1 = .rsl 0 0 (A 0).length 1 := by rw [hA0]; rfl
    exact St.le.of ⟨by kernel_rfl, rfl, by kernel_rfl, rfl, Eq.trans (by kernel_rfl) e4, rfl, by kernel_rfl, rfl, trivial⟩ ⟨Eq.trans (by kernel_rfl) o1, (by decide : (0 : Nat) < 1), iL_ok _ _, trivial⟩
  intro k hk
  replace hk : k ≤ r.length := hk
  by_cases hlt : k < r.length
  · refine Exists.elim (getE hlt) fun x hx => ?_
    have ek := congrArg (AV.int .i64) (succ64 (k := k) (by omega))
    have hp := hPL hx
    have es := hAs k x hx
    have hal := hAl k hk
    refine (Bool.eq_false_or_eq_true (p x.id)).symm.elim (fun hq => ?_) (fun hq => ?_)
    · rw [hq] at hp es
      have es : A (k + 1) = A k := es
      have o1 : some (AObj.cells (iL (A k))) = some (.cells (iL (A (k + 1)))) := by rw [es]
      have e4 : AV.rsl 0 0 (A k).length 1 = .rsl 0 0 (A (k + 1)).length 1 := by rw [es]
      exact ACode.vcM (.br 10 true <| .cells (encBo false) .nil) hn hlo (.roundW .cl) ⟨ltLen hlt, idx hp, k + 1, hlt, mu1 hlt, Wk.le (St.le.of ⟨by kernel_rfl, rfl, by kernel_rfl, rfl, Eq.trans (by kernel_rfl) e4, rfl, Eq.trans (by kernel_rfl) ek, rfl, trivial⟩ ⟨Eq.trans (by kernel_rfl) o1, (by decide : (0 : Nat) < 1), iL_ok _ _, trivial⟩) (hlo.mono (Nat.zero_le _))⟩
    · rw [hq] at hp es
      have es : A (k + 1) = A k ++ [x.id] := es
      have el : (A (k + 1)).length = (A k).length + 1 := by rw [es]; simp
      have ap := app_one (h := hget [(0, .cells (iL (A k))), (1, .cells [.int .i64 x.id])]) (i := 0) (j := 1) (nid := 2) (l := A k) (x := x.id) rfl rfl (by omega)
      rw [← es, ← el] at ap
      exact ACode.vcM (.br 10 true <| .cells (encBo true) <| .cells (cRc x) <| .val 24 (.rsl 2 0 (A (k + 1)).length 1) [(0, none), (2, some (.cells (iL (A (k + 1)))))] .nil) hn hlo (.roundW .cl) ⟨ltLen hlt, idx hp, idx hx, Eq.trans (by kernel_rfl) ap, k + 1, hlt, mu1 hlt,
        Wk.ren (c := 0) (b := 2) (St.ren.of rfl (by decide) ⟨.inl ⟨by kernel_rfl, rfl⟩, .inl ⟨by kernel_rfl, rfl⟩, .inr ⟨_, _, _, rfl, by kernel_rfl⟩, .inl ⟨Eq.trans (by kernel_rfl) ek, rfl⟩, trivial⟩ ⟨.inr ⟨rfl, by kernel_rfl, _, rfl, iL_ok _ _⟩, trivial⟩) (hlo.mono (Nat.zero_le _))⟩
  · have hk' : k = r.length := by omega
    have ht : thawF 8 (hget [(0, .cells (iL (A k)))]) (.rsl 0 0 (A k).length 1) = some (encR (A r.length), [0]) := by rw [thawF_ints 6 (l := A k) rfl, hk']
    exact ACode.vcM (.br 10 false .nil) hn hlo (.roundW .cl) ⟨geLen hlt, _, .refl _, .nil, [0], Eq.trans (by kernel_rfl) ht⟩
theorem rHolds_spec (r : List Rcd) (l : List Ltr) (d : Int) : APure Try.prog 11 [encRs r, encLs l, .int .i64 d] (encLe (holdsV r l d) (dayE r l d)) := by
  have s1 := rCheck_spec r l
  unfold encLe
  by_cases h0 : checkV r l = 0
  · rw [h0] at s1
    have hR := (check_0 h0).1
    have hrl := (recs_nodup hR).2.2
    have hll := lets_len (check_0 h0).2
    have sW := rwithin_spec d 0 100000
    cases h3 : inB 0 100000 d
    · rw [h3] at sW
      have ed : dayE r l d = 2 := by unfold dayE; rw [if_pos h0, h3]; rfl
      rw [ed, if_neg (by decide)]
      exact APure.vcM Try.func11 (.call (.int .i64 0) <| .call (.bool false) .nil) rfl rfl ⟨s1, sW, [], by kernel_rfl⟩
    rw [h3] at sW
    have ed : dayE r l d = 0 := by unfold dayE; rw [if_pos h0, h3]; rfl
    rw [ed, if_pos rfl]
    have sG := rGone_spec r l d (by omega) (by omega)
    have sHo := rHold_spec r (goneV l d) hR
    have hgb : goneBs r l d = goB (goneV l d) r := rfl
    rw [hgb] at sG
    have sI := rids_ok r (fun i => (heldV (goneV l d) [] r).contains i) (by omega)
    have hho : (r.map fun x => (heldV (goneV l d) [] r).contains x.id) = hoB (goneV l d) r := rfl
    rw [hho] at sI
    have hhv : (idsR r).filter (fun i => (heldV (goneV l d) [] r).contains i) = holdsV r l d := rfl
    rw [hhv] at sI
    generalize holdsV r l d = L at *
    generalize hoB (goneV l d) r = HL at *
    generalize goB (goneV l d) r = GL at *
    exact APure.vcM Try.func11 (.call (.int .i64 0) <| .call (.bool true) <| .lent (encBs GL) [] <| .lent (encBs HL) [] <| .lent (encR L) [] .nil) rfl rfl ⟨s1, sW, ⟨_, by kernel_rfl, .inr sG⟩, ⟨_, by kernel_rfl, .inr sHo⟩, ⟨_, by kernel_rfl, .inr sI⟩, [], by kernel_rfl⟩
  · have n0 : (checkV r l != 0) = true := bne_iff_ne.2 h0
    have e : dayE r l d = checkV r l := by unfold dayE; rw [if_neg h0]
    rw [e, if_neg h0]
    generalize checkV r l = C at *
    exact APure.vcM Try.func11 (.call (.int .i64 C) <| .br 13 true .nil) rfl rfl ⟨s1, n0, [], by kernel_rfl⟩
/-- What open answers. -/
def opnP (r : List Rcd) (l : List Ltr) (d id : Int) (v : AV) (H' : AHeap) (nx' : Nat) : Prop :=
  if withE r l d id = 0 then v = .tup [.int .i64 (fndV (isId id) r), .rsl 0 0 (r.map cRc).length 1, .rsl 1 0 (r.map cRc).length 1, .int .i64 0] ∧ H' = [(0, .cells (boL (goB (goneV l d) r))), (1, .cells (boL (hoB (goneV l d) r)))] ∧ nx' = 2
  else v = .tup [.int .i64 0, .nil, .nil, .int .i64 (withE r l d id)] ∧ H' = [] ∧ nx' = 0
theorem openR {f : FuncId} (hf : Try.prog.funcs[f]? = some Try.f48) (r : List Rcd) (l : List Ltr) (d id : Int) : RangeOk Try.prog f [encRs r, encLs l, .int .i64 d, .int .i64 id] [] 0 (opnP r l d id) := by
  have s1 := rCheck_spec r l
  unfold opnP
  by_cases h0 : checkV r l = 0
  · rw [h0] at s1
    have hR := (check_0 h0).1
    have hrl := (recs_nodup hR).2.2
    have hll := lets_len (check_0 h0).2
    have sW := rwithin_spec d 0 100000
    cases h3 : inB 0 100000 d
    · rw [h3] at sW
      have ed : withE r l d id = 2 := by unfold withE dayE; rw [if_pos h0, h3]; rfl
      rw [ed]
      simp only [show ¬ ((2 : Int) = 0) by decide, if_false]
      exact rangeVc hf (.call (.int .i64 0) <| .call (.bool false) .nil) ⟨s1, sW, rfl, rfl, rfl⟩
    rw [h3] at sW
    have ed : dayE r l d = 0 := by unfold dayE; rw [if_pos h0, h3]; rfl
    have sAt := At_spec r id (by omega)
    have fN := fndV_neg id r
    cases h4 : (idsR r).contains id
    · rw [h4, Bool.not_false] at fN
      have ew : withE r l d id = 6 := by unfold withE; rw [if_pos ed, h4]; rfl
      rw [ew]
      simp only [show ¬ ((6 : Int) = 0) by decide, if_false]
      generalize fndV (isId id) r = F at *
      exact rangeVc hf (.call (.int .i64 0) <| .call (.bool true) <| .call (.int .i64 F) <| .br 28 true .nil) ⟨s1, sW, sAt, fN, rfl, rfl, rfl⟩
    rw [h4, Bool.not_true] at fN
    have ew : withE r l d id = 0 := by unfold withE; rw [if_pos ed, h4]; rfl
    rw [ew]
    simp only [if_true]
    have hG := fun {f : FuncId} (hf : Try.prog.funcs[f]? = some Try.f45) => goneR hf r l d (by omega) (by omega)
    have hgb : goneBs r l d = goB (goneV l d) r := rfl
    rw [hgb] at hG
    have hH := fun {f : FuncId} (hf : Try.prog.funcs[f]? = some Try.f44) => holdR hf r (goneV l d) hR
    generalize fndV (isId id) r = F at *
    generalize hoB (goneV l d) r = HL at *
    generalize goB (goneV l d) r = GL at *
    refine rangeVc hf (.call (.int .i64 0) <| .call (.bool true) <| .call (.int .i64 F) <| .br 28 false <| .inl Try.f45 <| .nz <| .inl Try.f44 <| .nz .nil) ⟨s1, sW, sAt, fN, Try.func45, _, fun f hf => hG hf, ?_⟩
    rintro _ _ _ ⟨rfl, rfl, rfl⟩
    refine ⟨Try.func44, _, fun f hf => hH hf, ?_⟩
    rintro _ _ _ ⟨rfl, rfl, rfl⟩
    exact ⟨rfl, rfl, rfl⟩
  · have n0 : (checkV r l != 0) = true := bne_iff_ne.2 h0
    have e : withE r l d id = checkV r l := by unfold withE dayE; rw [if_neg h0, if_neg h0]
    rw [e]
    simp only [h0, if_false]
    generalize checkV r l = C at *
    exact rangeVc hf (.call (.int .i64 C) <| .br 19 true .nil) ⟨s1, n0, rfl, rfl, rfl⟩
end Go.Proofs.Ytmdhgkfjlphliaa
