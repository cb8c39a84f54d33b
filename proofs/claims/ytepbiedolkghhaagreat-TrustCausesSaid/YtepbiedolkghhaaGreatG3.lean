/-
  WHICH RECORDS ARE WITHDRAWN: the reference.
-/
import Derived.Test.YtepbiedolkghhaaGreatW3
namespace Go.Proofs.YtepbiedolkghhaaGreat
open Go Go.Am
set_option maxRecDepth 100000
set_option maxHeartbeats 4000000
def encBo (b : Bool) : List AV := [.bool b]
def boL (l : List Bool) : List AV := fl encBo l
theorem boL_eq (l : List Bool) : boL l = l.map fun x => .bool x := by
  unfold boL fl
  induction l with
  | nil => rfl
  | cons a l ih => rw [List.flatMap_cons, ih]; rfl
theorem boL_ok (n : Nat) (l : List Bool) : okL n (boL l) = true := fl_ok (enc := encBo) (fun _ => rfl) l
theorem boL_len (l : List Bool) : (boL l).length = l.length := by rw [boL_eq, List.length_map]
theorem ixBo {h : Nat → Option AObj} {id n k : Nat} (hk : k < n) : (aindexAddr Tryz.prog h 44 (.rsl id 0 n 1) (.int .i64 (k : Int))).map (fun v => (⟨v, []⟩ : Out)) = some ⟨.vptr id k, []⟩ := by
  simp only [aindexAddr, ty44, ty4]
  rw [if_pos ⟨trivial, Int.natCast_nonneg _, by simpa using hk⟩]
  simp
theorem stBo {h : Nat → Option AObj} {id k : Nat} {l : List Bool} {x : Bool} (h0 : h id = some (.cells (boL l))) (hk : k < l.length) :
    aStore Tryz.prog h 4 (.vptr id k) (.bool x) = some ⟨.undef, [(id, some (.cells (boL (l.set k x))))]⟩ := by
  have e : splice (boL l) k [.bool x] = boL (l.set k x) := by
    show (boL l).set k _ = _
    rw [boL_eq, boL_eq, List.map_set]
  have hl : k + 1 ≤ (boL l).length := by rw [boL_len]; omega
  simp only [aStore, ty4, acells, h0]
  rw [if_pos ⟨rfl, hl, rfl⟩, e]
theorem rep_boL (len : Nat) : rep len [AV.bool false] = boL (List.replicate len false) := by
  induction len with
  | zero => rfl
  | succ len ih => show AV.bool false :: rep len _ = _; rw [ih]; rfl
theorem mk_bools {id len : Nat} (hl : len ≤ 100000) : aMakeSlice Tryz.prog id 44 (.int .i64 len) (.int .i64 len) = some ⟨.rsl id 0 len 1, [(id, some (.cells (boL (List.replicate len false))))]⟩ := by
  simp only [aMakeSlice, ty44, ty4]
  rw [if_pos (by refine ⟨trivial, ?_, ?_, ?_, ?_, rfl⟩ <;> simp <;> omega)]
  simp only [Int.toNat_natCast, rep_boL]
/-- Known so far, the others not so. -/
def bK (L : List Bool) (n k : Nat) : List Bool := L.take k ++ List.replicate (n - k) false
theorem bK_len {L : List Bool} {n k : Nat} (hL : L.length = n) (hk : k ≤ n) : (bK L n k).length = n := by
  unfold bK; rw [List.length_append, List.length_take, List.length_replicate]; omega
theorem bK_set {L : List Bool} {n k : Nat} {b : Bool} (hL : L.length = n) (hk : k < n) (hb : L[k]? = some b) : (bK L n k).set k b = bK L n (k + 1) := by
  unfold bK
  rw [List.set_append_right _ _ (by rw [List.length_take]; omega), List.length_take, Nat.min_eq_left (by omega), Nat.sub_self, List.take_add_one, hb]
  rw [show n - k = (n - (k + 1)) + 1 by omega, List.replicate_succ]
  simp
theorem bK_all {L : List Bool} {n : Nat} (hL : L.length = n) : bK L n n = L := by
  unfold bK; rw [← hL, List.take_length, Nat.sub_self]; simp
def goneBs (r : List Rcd) (l : List Ltr) (d : Int) : List Bool := r.map fun x => goneV l d x.id
def encBs (l : List Bool) : AV := .lst 1 (l.map encBo)
def lastI (q : Option Nat) : Int := match q with | none => -1 | some m => (m : Int)
def qL (l : List Ltr) (q : Option Nat) : Option Ltr := q.map fun m => l.getD m default
theorem qL_some {l : List Ltr} {m : Nat} {z : Ltr} (hz : l[m]? = some z) : qL l (some m) = some z := by unfold qL; rw [Option.map_some, List.getD_eq_getElem?_getD, hz]; rfl
theorem goneV_q {l : List Ltr} {d id : Int} {q : Option Nat} (h : lastL l d id = qL l q) : goneV l d id = match qL l q with | none => false | some x => decide (x.kd.val = 1) := by rw [goneV_eq, h]; cases qL l q <;> rfl
theorem boL_flat (l : List Bool) : ∀ c ∈ boL l, c.flat = true := by
  intro c hc
  rw [boL_eq] at hc
  obtain ⟨b, _, rfl⟩ := List.mem_map.1 hc
  rfl
theorem thawF_bools {h : Nat → Option AObj} {id : Nat} {l : List Bool} (h0 : h id = some (.cells (boL l))) : thawF 8 h (.rsl id 0 l.length 1) = some (encBs l, [id]) := by
  have e : thawF 8 h (.rsl id 0 l.length 1) = (match h id with
      | some (.cells cs) => if 0 + l.length * 1 ≤ cs.length then (match mapO (thawF 7 h) cs with | some (cs', is) => some (.lst 1 (chunks 1 (cs'.drop 0) l.length), id :: is) | none => none) else none
      | _ => none) := rfl
  rw [e, h0]
  simp only []
  rw [if_pos (by rw [boL_len]; omega), thawF_all 6 h _ (boL_flat l)]
  simp only [List.drop_zero]
  unfold boL encBs
  rw [fl_chunks (enc := encBo) (n := 1) (fun _ => rfl)]
theorem rGone_spec (r : List Rcd) (l : List Ltr) (d : Int) (hr : r.length ≤ 1000) (hl : l.length ≤ 1000) : APureF Tryz.prog 16 [encRs r, encLs l, .int .i64 d] (encBs (goneBs r l d)) := by
  have hlen : (r.map cRc).length = r.length := List.length_map _
  have hgl : (goneBs r l d).length = r.length := List.length_map _
  have mk := mk_bools (id := 0) (len := (r.map cRc).length) (by omega)
  refine APureF.vcM Tryz.func16 (.val 13 (.rsl 0 0 (r.map cRc).length 1) [(0, some (.cells (boL (List.replicate (r.map cRc).length false))))] .loop) rfl rfl ⟨Eq.trans (by kernel_rfl) mk, ?_⟩
  intro g hn hlo
  replace hn : g.n = 78 := hn
  replace hlo : g.low 0 := hlo
  refine acode_whileW (fun k : Nat => ⟨[(0, encRs r), (1, encLs l), (2, .int .i64 d), (7, .rsl 0 0 (r.map cRc).length 1), (8, .int .i64 k)], [(0, .cells (boL (bK (goneBs r l d) r.length k)))], 1⟩) (fun k => k ≤ r.length) (fun k => r.length - k) 0 (Nat.zero_le _) ?_ ?_
  · have e0 : some (AObj.cells (boL (List.replicate (r.map cRc).length false))) = some (.cells (boL (bK (goneBs r l d) r.length 0))) := by rw [hlen]; rfl
    exact Wk.le (St.le.of ⟨by kernel_rfl, rfl, by kernel_rfl, rfl, by kernel_rfl, rfl, by kernel_rfl, rfl, by kernel_rfl, rfl, trivial⟩ ⟨Eq.trans (by kernel_rfl) e0, (by decide : (0 : Nat) < 1), boL_ok _ _, trivial⟩) (hlo.mono (Nat.zero_le _))
  · intro k hk
    replace hk : k ≤ r.length := hk
    by_cases hlt : k < r.length
    · refine Exists.elim (getE hlt) fun x hx => ?_
      have ek := congrArg (AV.int .i64) (succ64 (k := k) (by omega))
      have hgx : (goneBs r l d)[k]? = some (goneV l d x.id) := by unfold goneBs; rw [List.getElem?_map, hx]; rfl
      refine ACode.vcM (.br 17 true <| .loop) hn hlo (.roundW .cl) ⟨ltLen hlt, ?_⟩
      intro g hn hlo2
      replace hn : g.n = 78 := hn
      replace hlo2 : g.low 0 := hlo2
      refine acode_whileW (fun p : Nat × Option Nat => ⟨[(0, encRs r), (1, encLs l), (2, .int .i64 d), (7, .rsl 0 0 (r.map cRc).length 1), (8, .int .i64 k), (9, .int .i64 (lastI p.2)), (10, .int .i64 p.1)], [(0, .cells (boL (bK (goneBs r l d) r.length k)))], 1⟩) (fun p => p.1 ≤ l.length ∧ (∀ m, p.2 = some m → m < l.length) ∧ lastL l d x.id = latV (cntB d x.id) (qL l p.2) (l.drop p.1)) (fun p => l.length - p.1) (0, none) ⟨Nat.zero_le _, fun (m : Nat) (h : (none : Option Nat) = some m) => (by cases h), rfl⟩ ?_ ?_
      · exact Wk.le (St.le.of ⟨by kernel_rfl, rfl, by kernel_rfl, rfl, by kernel_rfl, rfl, by kernel_rfl, rfl, by kernel_rfl, rfl, by kernel_rfl, rfl, by kernel_rfl, rfl, trivial⟩ ⟨by kernel_rfl, (by decide : (0 : Nat) < 1), boL_ok _ _, trivial⟩) (hlo2.mono (Nat.zero_le _))
      · rintro ⟨j, q⟩ ⟨hj, hq, hs⟩
        replace hj : j ≤ l.length := hj
        replace hq : ∀ m, q = some m → m < l.length := hq
        replace hs : lastL l d x.id = latV (cntB d x.id) (qL l q) (l.drop j) := hs
        by_cases hjl : j < l.length
        · refine Exists.elim (getE hjl) fun y hy => ?_
          have ej := congrArg (AV.int .i64) (succ64 (k := j) (by omega))
          rw [drop_cons hy] at hs
          have hs : lastL l d x.id = latV (cntB d x.id) (if cntB d x.id y && aftB (qL l q) y then some y else qL l q) (l.drop (j + 1)) := hs
          have hqy : ∀ m, some j = some m → m < l.length := fun m h => by cases h; exact hjl
          cases c1 : (y.about == x.id)
          · have hc : cntB d x.id y = false := by
              have h' : ¬ y.about = x.id := by simpa using c1
              unfold cntB; rw [decide_eq_false h']; rfl
            rw [hc] at hs
            have step : lastL l d x.id = latV (cntB d x.id) (qL l q) (l.drop (j + 1)) := hs
            exact ACode.vcM (.br 23 true <| .draw 34 <| .cells (cLt y) <| .cells (cRc x) <| .br 37 false .nil) hn hlo2 (.roundW .cl) ⟨ltLen hjl, by kernel_rfl, mixed, by kernel_rfl, idx hy, idx hx, c1, by kernel_rfl, (j + 1, q), ⟨hjl, hq, step⟩, mu1 hjl, Wk.le (St.le.of ⟨by kernel_rfl, rfl, by kernel_rfl, rfl, by kernel_rfl, rfl, by kernel_rfl, rfl, by kernel_rfl, rfl, by kernel_rfl, rfl, Eq.trans (by kernel_rfl) ej, rfl, trivial⟩ ⟨by kernel_rfl, (by decide : (0 : Nat) < 1), boL_ok _ _, trivial⟩) (hlo2.mono (show 0 ≤ 1 by decide))⟩
          · have h' : y.about = x.id := by simpa using c1
            cases c2 : decide (y.day ≤ d)
            · have hc : cntB d x.id y = false := by unfold cntB; rw [c2, Bool.and_false]
              rw [hc] at hs
              have step : lastL l d x.id = latV (cntB d x.id) (qL l q) (l.drop (j + 1)) := hs
              exact ACode.vcM (.br 23 true <| .draw 34 <| .cells (cLt y) <| .cells (cRc x) <| .br 37 true <| .cells (cLt y) <| .br 46 false .nil) hn hlo2 (.roundW .cl) ⟨ltLen hjl, by kernel_rfl, mixed, by kernel_rfl, idx hy, idx hx, c1, idx hy, c2, by kernel_rfl, (j + 1, q), ⟨hjl, hq, step⟩, mu1 hjl, Wk.le (St.le.of ⟨by kernel_rfl, rfl, by kernel_rfl, rfl, by kernel_rfl, rfl, by kernel_rfl, rfl, by kernel_rfl, rfl, by kernel_rfl, rfl, Eq.trans (by kernel_rfl) ej, rfl, trivial⟩ ⟨by kernel_rfl, (by decide : (0 : Nat) < 1), boL_ok _ _, trivial⟩) (hlo2.mono (show 0 ≤ 1 by decide))⟩
            · have hc : cntB d x.id y = true := by unfold cntB; rw [c2, decide_eq_true h']; rfl
              rw [hc] at hs
              cases q with
              | none =>
                have step : lastL l d x.id = latV (cntB d x.id) (qL l (some j)) (l.drop (j + 1)) := by rw [qL_some hy]; exact hs
                exact ACode.vcM (.br 23 true <| .draw 34 <| .cells (cLt y) <| .cells (cRc x) <| .br 37 true <| .cells (cLt y) <| .br 46 true <| .br 49 true .nil) hn hlo2 (.roundW .cl) ⟨ltLen hjl, by kernel_rfl, mixed, by kernel_rfl, idx hy, idx hx, c1, idx hy, c2, rfl, by kernel_rfl, (j + 1, some j), ⟨hjl, hqy, step⟩, mu1 hjl, Wk.le (St.le.of ⟨by kernel_rfl, rfl, by kernel_rfl, rfl, by kernel_rfl, rfl, by kernel_rfl, rfl, by kernel_rfl, rfl, by kernel_rfl, rfl, Eq.trans (by kernel_rfl) ej, rfl, trivial⟩ ⟨by kernel_rfl, (by decide : (0 : Nat) < 1), boL_ok _ _, trivial⟩) (hlo2.mono (show 0 ≤ 1 by decide))⟩
              | some m =>
                refine Exists.elim (getE (hq m rfl)) fun z hz => ?_
                rw [qL_some hz] at hs
                have d49 : decide ((m : Int) < 0) = false := decide_eq_false (by omega)
                have ea : aftB (some z) y = decide (y.day ≥ z.day) := rfl
                rw [ea] at hs
                cases c3 : decide (y.day ≥ z.day)
                · rw [c3] at hs
                  have step : lastL l d x.id = latV (cntB d x.id) (qL l (some m)) (l.drop (j + 1)) := by rw [qL_some hz]; exact hs
                  exact ACode.vcM (.br 23 true <| .draw 34 <| .cells (cLt y) <| .cells (cRc x) <| .br 37 true <| .cells (cLt y) <| .br 46 true <| .br 49 false <| .cells (cLt y) <| .cells (cLt z) <| .br 62 false .nil) hn hlo2 (.roundW .cl) ⟨ltLen hjl, by kernel_rfl, mixed, by kernel_rfl, idx hy, idx hx, c1, idx hy, c2, d49, idx hy, idx hz, by kernel_rfl, c3, (j + 1, some m), ⟨hjl, hq, step⟩, mu1 hjl, Wk.le (St.le.of ⟨by kernel_rfl, rfl, by kernel_rfl, rfl, by kernel_rfl, rfl, by kernel_rfl, rfl, by kernel_rfl, rfl, by kernel_rfl, rfl, Eq.trans (by kernel_rfl) ej, rfl, trivial⟩ ⟨by kernel_rfl, (by decide : (0 : Nat) < 1), boL_ok _ _, trivial⟩) (hlo2.mono (show 0 ≤ 1 by decide))⟩
                · rw [c3] at hs
                  have step : lastL l d x.id = latV (cntB d x.id) (qL l (some j)) (l.drop (j + 1)) := by rw [qL_some hy]; exact hs
                  exact ACode.vcM (.br 23 true <| .draw 34 <| .cells (cLt y) <| .cells (cRc x) <| .br 37 true <| .cells (cLt y) <| .br 46 true <| .br 49 false <| .cells (cLt y) <| .cells (cLt z) <| .br 62 true .nil) hn hlo2 (.roundW .cl) ⟨ltLen hjl, by kernel_rfl, mixed, by kernel_rfl, idx hy, idx hx, c1, idx hy, c2, d49, idx hy, idx hz, by kernel_rfl, c3, (j + 1, some j), ⟨hjl, hqy, step⟩, mu1 hjl, Wk.le (St.le.of ⟨by kernel_rfl, rfl, by kernel_rfl, rfl, by kernel_rfl, rfl, by kernel_rfl, rfl, by kernel_rfl, rfl, by kernel_rfl, rfl, Eq.trans (by kernel_rfl) ej, rfl, trivial⟩ ⟨by kernel_rfl, (by decide : (0 : Nat) < 1), boL_ok _ _, trivial⟩) (hlo2.mono (show 0 ≤ 1 by decide))⟩
        · have hj' : j = l.length := by omega
          have hs2 : lastL l d x.id = qL l q := by rw [hs, hj', List.drop_length]; rfl
          have hg := goneV_q hs2
          have bl := bK_len (k := k) hgl (by omega)
          have ix := ixBo (h := hget []) (id := 0) (n := (r.map cRc).length) (k := k) (by omega)
          cases q with
          | none =>
            have hg : goneV l d x.id = false := hg
            have st := stBo (h := hget [(0, .cells (boL (bK (goneBs r l d) r.length k)))]) (id := 0) (k := k) (l := bK (goneBs r l d) r.length k) (x := false) rfl (by omega)
            rw [bK_set hgl hlt (by rw [hgx, hg])] at st
            exact ACode.vcM (.br 23 false .nil) hn hlo2 (.roundW .cl) ⟨geLen hjl, _, .refl _, .br 68 false <| .val 76 (.vptr 0 k) [] <| .val 1 .undef [(0, some (.cells (boL (bK (goneBs r l d) r.length (k + 1)))))] .nil, rfl, Eq.trans (by kernel_rfl) ix, Eq.trans (by kernel_rfl) st, k + 1, hlt, mu1 hlt, Wk.le (St.le.of ⟨by kernel_rfl, rfl, by kernel_rfl, rfl, by kernel_rfl, rfl, by kernel_rfl, rfl, Eq.trans (by kernel_rfl) ek, rfl, trivial⟩ ⟨by kernel_rfl, (by decide : (0 : Nat) < 1), boL_ok _ _, trivial⟩) (hlo.mono (show 0 ≤ 1 by decide))⟩
          | some m =>
            refine Exists.elim (getE (hq m rfl)) fun z hz => ?_
            rw [qL_some hz] at hg
            have hg : goneV l d x.id = decide (z.kd.val = 1) := hg
            have d68 : decide ((m : Int) ≥ 0) = true := decide_eq_true (by omega)
            have ez : ((z.kd.val : Int) == 1) = decide (z.kd.val = 1) := decide_eq_decide.2 (by omega)
            have st := stBo (h := hget [(0, .cells (boL (bK (goneBs r l d) r.length k)))]) (id := 0) (k := k) (l := bK (goneBs r l d) r.length k) (x := ((z.kd.val : Int) == 1)) rfl (by omega)
            rw [bK_set hgl hlt (by rw [hgx, hg, ez])] at st
            exact ACode.vcM (.br 23 false .nil) hn hlo2 (.roundW .cl) ⟨geLen hjl, _, .refl _, .br 68 true <| .cells (cLt z) <| .val 76 (.vptr 0 k) [] <| .val 1 .undef [(0, some (.cells (boL (bK (goneBs r l d) r.length (k + 1)))))] .nil, d68, idx hz, Eq.trans (by kernel_rfl) ix, Eq.trans (by kernel_rfl) st, k + 1, hlt, mu1 hlt, Wk.le (St.le.of ⟨by kernel_rfl, rfl, by kernel_rfl, rfl, by kernel_rfl, rfl, by kernel_rfl, rfl, Eq.trans (by kernel_rfl) ek, rfl, trivial⟩ ⟨by kernel_rfl, (by decide : (0 : Nat) < 1), boL_ok _ _, trivial⟩) (hlo.mono (show 0 ≤ 1 by decide))⟩
    · have hk' : k = r.length := by omega
      have e : bK (goneBs r l d) r.length k = goneBs r l d := by rw [hk', bK_all hgl]
      have ht : thawF 8 (hget [(0, .cells (boL (bK (goneBs r l d) r.length k)))]) (.rsl 0 0 (r.map cRc).length 1) = some (encBs (goneBs r l d), [0]) := by
        have h2 := thawF_bools (h := hget [(0, .cells (boL (bK (goneBs r l d) r.length k)))]) (id := 0) (l := bK (goneBs r l d) r.length k) rfl
        rw [bK_len hgl hk, ← hlen] at h2
        rw [hlen] at h2 ⊢
        rw [h2, e]
      exact ACode.vcM (.br 17 false .nil) hn hlo (.roundW .cl) ⟨geLen hlt, _, .refl _, .nil, [0], Eq.trans (by kernel_rfl) ht⟩
end Go.Proofs.YtepbiedolkghhaaGreat
