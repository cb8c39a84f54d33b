import Derived.Test.YtmdhgkfjlphliaaW3
import Derived.Test.YtmdhgkfjlphliaaG2
import Derived.Test.YtmdhgkfjlphliaaH3
/-
  WHICH RECORDS ARE WITHDRAWN: the reference.
-/
namespace Go.Proofs.Ytmdhgkfjlphliaa
open Go Go.Am
set_option maxRecDepth 100000
set_option maxHeartbeats 4000000
def encBo (b : Bool) : List AV := [.bool b]
def boL (l : List Bool) : List AV := fl encBo l
theorem boL_eq (l : List Bool) : boL l = l.map fun x => .bool x := by
  unfold boL fl
  induction l with
  | nil => rfl
  | cons a l ih => rw [List.flatMap_cons, ih]; rfl
theorem boL_ok (n : Nat) (l : List Bool) : okL n (boL l) = true := fl_ok (enc := encBo) (fun _ => rfl) l
theorem boL_len (l : List Bool) : (boL l).length = l.length := by rw [boL_eq, List.length_map]
theorem ixBo {h : Nat → Option AObj} {id n k : Nat} (hk : k < n) : (aindexAddr Try.prog h 81 (.rsl id 0 n 1) (.int .i64 (k : Int))).map (fun v => (⟨v, []⟩ : Out)) = some ⟨.vptr id k, []⟩ := by
  simp only [aindexAddr, ty81, ty4]
  rw [if_pos ⟨trivial, Int.natCast_nonneg _, by simpa using hk⟩]
  simp
theorem stBo {h : Nat → Option AObj} {id k : Nat} {l : List Bool} {x : Bool} (h0 : h id = some (.cells (boL l))) (hk : k < l.length) :
    aStore Try.prog h 4 (.vptr id k) (.bool x) = some ⟨.undef, [(id, some (.cells (boL (l.set k x))))]⟩ := by
  have e : splice (boL l) k [.bool x] = boL (l.set k x) := by
    show (boL l).set k _ = _
    rw [boL_eq, boL_eq, List.map_set]
  have hl : k + 1 ≤ (boL l).length := by rw [boL_len]; omega
  simp only [aStore, ty4, acells, h0]
  rw [if_pos ⟨rfl, hl, rfl⟩, e]
theorem rep_boL (len : Nat) : rep len [AV.bool false] = boL (List.replicate len false) := by
  induction len with
  | zero => rfl
  | succ len ih => show AV.bool false :: rep len _ = _; rw [ih]; rfl
theorem mk_bools {id len : Nat} (hl : len ≤ 100000) : aMakeSlice Try.prog id 81 (.int .i64 len) (.int .i64 len) = some ⟨.rsl id 0 len 1, [(id, some (.cells (boL (List.replicate len false))))]⟩ := by
  simp only [aMakeSlice, ty81, ty4]
  rw [if_pos (by refine ⟨trivial, ?_, ?_, ?_, ?_, rfl⟩ <;> simp <;> omega)]
  simp only [Int.toNat_natCast, rep_boL]
/-- Known so far, the others not so. -/
def bK (L : List Bool) (n k : Nat) : List Bool := L.take k ++ List.replicate (n - k) false
theorem bK_len {L : List Bool} {n k : Nat} (hL : L.length = n) (hk : k ≤ n) : (bK L n k).length = n := by
  unfold bK; rw [List.length_append, List.length_take, List.length_replicate]; omega
theorem bK_set {L : List Bool} {n k : Nat} {b : Bool} (hL : L.length = n) (hk : k < n) (hb : L[k]? = some b) : (bK L n k).set k b = bK L n (k + 1) := by
  unfold bK
  rw [List.set_append_right _ _ (by rw [List.length_take]; omega), List.length_take, Nat.min_eq_left (by omega), Nat.sub_self, List.take_add_one, hb]
  rw [show n - k = (n - (k + 1)) + 1 by omega, List.replicate_succ]
  simp
theorem bK_all {L : List Bool} {n : Nat} (hL : L.length = n) : bK L n n = L := by
  unfold bK; rw [← hL, List.take_length, Nat.sub_self]; simp
def goneBs (r : List Rcd) (l : List Ltr) (d : Int) : List Bool := r.map fun x => goneV l d x.id
def encBs (l : List Bool) : AV := .lst 1 (l.map encBo)
def lastI (q : Option Nat) : Int := match q with | none => -1 | some m => (m : Int)
def qL (l : List Ltr) (q : Option Nat) : Option Ltr := q.map fun m => l.getD m default
theorem qL_some {l : List Ltr} {m : Nat} {z : Ltr} (hz : l[m]? = some z) : qL l (some m) = some z := by unfold qL; rw [Option.map_some, List.getD_eq_getElem?_getD, hz]; rfl
theorem goneV_q {l : List Ltr} {d id : Int} {q : Option Nat} (h : lastL l d id = qL l q) : goneV l d id = match qL l q with | none => false | some x => decide (x.kd.val = 1) := by rw [goneV_eq, h]; cases qL l q <;> rfl
theorem boL_flat (l : List Bool) : ∀ c ∈ boL l, c.flat = true := by
  intro c hc
  rw [boL_eq] at hc
  obtain ⟨b, _, rfl⟩ := List.mem_map.1 hc
  rfl
theorem thawF_bools {h : Nat → Option AObj} {id : Nat} {l : List Bool} (h0 : h id = some (.cells (boL l))) : thawF 8 h (.rsl id 0 l.length 1) = some (encBs l, [id]) := by
  have e : thawF 8 h (.rsl id 0 l.length 1) = (match h id with
      | some (.cells cs) => if 0 + l.length * 1 ≤ cs.length then (match mapO (thawF 7 h) cs with | some (cs', is) => some (.lst 1 (chunks 1 (cs'.drop 0) l.length), id :: is) | none => none) else none
      | _ => none) := rfl
  rw [e, h0]
  simp only []
  rw [if_pos (by rw [boL_len]; omega), thawF_all 6 h _ (boL_flat l)]
  simp only [List.drop_zero]
  unfold boL encBs
  rw [fl_chunks (enc := encBo) (n := 1) (fun _ => rfl)]
theorem rGone_spec (r : List Rcd) (l : List Ltr) (d : Int) (hr : r.length ≤ 1000) (hl : l.length ≤ 1000) : APureF Try.prog 45 [encRs r, encLs l, .int .i64 d] (encBs (goneBs r l d)) := by
  have hlen : (r.map cRc).length = r.length := List.length_map _
  have hgl : (goneBs r l d).length = r.length := List.length_map _
  have mk := mk_bools (id := 0) (len := (r.map cRc).length) (by omega)
  refine APureF.vcM Try.func45 (.val 13 (.rsl 0 0 (r.map cRc).length 1) [(0, some (.cells (boL (List.replicate (r.map cRc).length false))))] .loop) rfl rfl ⟨Eq.trans (by kernel_rfl) mk, ?_⟩
  intro g hn hlo
  replace hn : g.n = 78 := hn
  replace hlo : g.low 0 := hlo
  refine acode_whileW (fun k : Nat => ⟨[(0, encRs r), (1, encLs l), (2, .int .i64 d), (7, .rsl 0 0 (r.map cRc).length 1), (8, .int .i64 k)], [(0, .cells (boL (bK (goneBs r l d) r.length k)))], 1⟩) (fun k => k ≤ r.length) (fun k => r.length - k) 0 (Nat.zero_le _) ?_ ?_
  · have e0 : some (AObj.cells (boL (List.replicate (r.map cRc).length false))) = some (.cells (boL (bK (goneBs r l d) r.length 0))) := by rw [hlen]; rfl
    exact Wk.le (St.le.of ⟨by kernel_rfl, rfl, by kernel_rfl, rfl, by kernel_rfl, rfl, by kernel_rfl, rfl, by kernel_rfl, rfl, trivial⟩ ⟨Eq.trans (by kernel_rfl) e0, (by decide : (0 : Nat) < 1), boL_ok _ _, trivial⟩) (hlo.mono (Nat.zero_le _))
  · intro k hk
    replace hk : k ≤ r.length := hk
    by_cases hlt : k < r.length
    · refine Exists.elim (getE hlt) fun x hx => ?_
      have ek := congrArg (AV.int .i64) (succ64 (k := k) (by omega))
      have hgx : (goneBs r l d)[k]? = some (goneV l d x.id) := by unfold goneBs; rw [List.getElem?_map, hx]; rfl
      refine ACode.vcM (.br 17 true <| .loop) hn hlo (.roundW .cl) ⟨ltLen hlt, ?_⟩
      intro g hn hlo2
      replace hn : g.n = 78 := hn
      replace hlo2 : g.low 0 := hlo2
      refine acode_whileW (fun p : Nat × Option Nat => ⟨[(0, encRs r), (1, encLs l), (2, .int .i64 d), (7, .rsl 0 0 (r.map cRc).length 1), (8, .int .i64 k), (9, .int .i64 (lastI p.2)), (10, .int .i64 p.1)], [(0, .cells (boL (bK (goneBs r l d) r.length k)))], 1⟩) (fun p => p.1 ≤ l.length ∧ (∀ m, p.2 = some m → m < l.length) ∧ lastL l d x.id = latV (cntB d x.id) (qL l p.2) (l.drop p.1)) (fun p => l.length - p.1) (0, none) ⟨Nat.zero_le _, fun (m : Nat) (h : (none : Option Nat) = some m) => (by cases h), rfl⟩ ?_ ?_
      · exact Wk.le (St.le.of ⟨by kernel_rfl, rfl, by kernel_rfl, rfl, by kernel_rfl, rfl, by kernel_rfl, rfl, by kernel_rfl, rfl, by kernel_rfl, rfl, by kernel_rfl, rfl, trivial⟩ ⟨by kernel_rfl, (by decide : (0 : Nat) < 1), boL_ok _ _, trivial⟩) (hlo2.mono (Nat.zero_le _))
      · rintro ⟨j, q⟩ ⟨hj, hq, hs⟩
        replace hj : j ≤ l.length := hj
        replace hq : ∀ m, q = some m → m < l.length := hq
        replace hs : lastL l d x.id = latV (cntB d x.id) (qL l q) (l.drop j) := hs
        by_cases hjl : j < l.length
        · refine Exists.elim (getE hjl) fun y hy => ?_
          have ej := congrArg (AV.int .i64) (succ64 (k := j) (by omega))
          rw [drop_cons hy] at hs
          have hs : lastL l d x.id = latV (cntB d x.id) (if cntB d x.id y && aftB (qL l q) y then some y else qL l q) (l.drop (j + 1)) := hs
          have hqy : ∀ m, some j = some m → m < l.length := fun m h => by cases h; exact hjl
          cases c1 : (y.about == x.id)
          · have hc : cntB d x.id y = false := by
              have h' : ¬ y.about = x.id := by simpa using c1
              unfold cntB; rw [decide_eq_false h']; rfl
            rw [hc] at hs
            have step : lastL l d x.id = latV (cntB d x.id) (qL l q) (l.drop (j + 1)) := hs
            exact ACode.vcM (.br 23 true <| .draw 34 <| .cells (cLt y) <| .cells (cRc x) <| .br 37 false .nil) hn hlo2 (.roundW .cl) ⟨ltLen hjl, by kernel_rfl, mixed, by kernel_rfl, idx hy, idx hx, c1, by kernel_rfl, (j + 1, q), ⟨hjl, hq, step⟩, mu1 hjl, Wk.le (St.le.of ⟨by kernel_rfl, rfl, by kernel_rfl, rfl, by kernel_rfl, rfl, by kernel_rfl, rfl, by kernel_rfl, rfl, by kernel_rfl, rfl, Eq.trans (by kernel_rfl) ej, rfl, trivial⟩ ⟨by kernel_rfl, (by decide : (0 : Nat) < 1), boL_ok _ _, trivial⟩) (hlo2.mono (show 0 ≤ 1 by decide))⟩
          · have h' : y.about = x.id := by simpa using c1
            cases c2 : decide (y.day ≤ d)
            · have hc : cntB d x.id y = false := by unfold cntB; rw [c2, Bool.and_false]
              rw [hc] at hs
              have step : lastL l d x.id = latV (cntB d x.id) (qL l q) (l.drop (j + 1)) := hs
              exact ACode.vcM (.br 23 true <| .draw 34 <| .cells (cLt y) <| .cells (cRc x) <| .br 37 true <| .cells (cLt y) <| .br 46 false .nil) hn hlo2 (.roundW .cl) ⟨ltLen hjl, by kernel_rfl, mixed, by kernel_rfl, idx hy, idx hx, c1, idx hy, c2, by kernel_rfl, (j + 1, q), ⟨hjl, hq, step⟩, mu1 hjl, Wk.le (St.le.of ⟨by kernel_rfl, rfl, by kernel_rfl, rfl, by kernel_rfl, rfl, by kernel_rfl, rfl, by kernel_rfl, rfl, by kernel_rfl, rfl, Eq.trans (by kernel_rfl) ej, rfl, trivial⟩ ⟨by kernel_rfl, (by decide : (0 : Nat) < 1), boL_ok _ _, trivial⟩) (hlo2.mono (show 0 ≤ 1 by decide))⟩
            · have hc : cntB d x.id y = true := by unfold cntB; rw [c2, decide_eq_true h']; rfl
              rw [hc] at hs
              cases q with
              | none =>
                have step : lastL l d x.id = latV (cntB d x.id) (qL l (some j)) (l.drop (j + 1)) := by rw [qL_some hy]; exact hs
                exact ACode.vcM (.br 23 true <| .draw 34 <| .cells (cLt y) <| .cells (cRc x) <| .br 37 true <| .cells (cLt y) <| .br 46 true <| .br 49 true .nil) hn hlo2 (.roundW .cl) ⟨ltLen hjl, by kernel_rfl, mixed, by kernel_rfl, idx hy, idx hx, c1, idx hy, c2, rfl, by kernel_rfl, (j + 1, some j), ⟨hjl, hqy, step⟩, mu1 hjl, Wk.le (St.le.of ⟨by kernel_rfl, rfl, by kernel_rfl, rfl, by kernel_rfl, rfl, by kernel_rfl, rfl, by kernel_rfl, rfl, by kernel_rfl, rfl, Eq.trans (by kernel_rfl) ej, rfl, trivial⟩ ⟨by kernel_rfl, (by decide : (0 : Nat) < 1), boL_ok _ _, trivial⟩) (hlo2.mono (show 0 ≤ 1 by decide))⟩
              | some m =>
                refine Exists.elim (getE (hq m rfl)) fun z hz => ?_
                rw [qL_some hz] at hs
                have d49 : decide ((m : Int) < 0) = false := decide_eq_false (by omega)
                have ea : aftB (some z) y = decide (y.day ≥ z.day) := rfl
                rw [ea] at hs
                cases c3 : decide (y.day ≥ z.day)
                · rw [c3] at hs
                  have step : lastL l d x.id = latV (cntB d x.id) (qL l (some m)) (l.drop (j + 1)) := by rw [qL_some hz]; exact hs
                  exact ACode.vcM (.br 23 true <| .draw 34 <| .cells (cLt y) <| .cells (cRc x) <| .br 37 true <| .cells (cLt y) <| .br 46 true <| .br 49 false <| .cells (cLt y) <| .cells (cLt z) <| .br 62 false .nil) hn hlo2 (.roundW .cl) ⟨ltLen hjl, by kernel_rfl, mixed, by kernel_rfl, idx hy, idx hx, c1, idx hy, c2, d49, idx hy, idx hz, by kernel_rfl, c3, (j + 1, some m), ⟨hjl, hq, step⟩, mu1 hjl, Wk.le (St.le.of ⟨by kernel_rfl, rfl, by kernel_rfl, rfl, by kernel_rfl, rfl, by kernel_rfl, rfl, by kernel_rfl, rfl, by kernel_rfl, rfl, Eq.trans (by kernel_rfl) ej, rfl, trivial⟩ ⟨by kernel_rfl, (by decide : (0 : Nat) < 1), boL_ok _ _, trivial⟩) (hlo2.mono (show 0 ≤ 1 by decide))⟩
                · rw [c3] at hs
                  have step : lastL l d x.id = latV (cntB d x.id) (qL l (some j)) (l.drop (j + 1)) := by rw [qL_some hy]; exact hs
                  exact ACode.vcM (.br 23 true <| .draw 34 <| .cells (cLt y) <| .cells (cRc x) <| .br 37 true <| .cells (cLt y) <| .br 46 true <| .br 49 false <| .cells (cLt y) <| .cells (cLt z) <| .br 62 true .nil) hn hlo2 (.roundW .cl) ⟨ltLen hjl, by kernel_rfl, mixed, by kernel_rfl, idx hy, idx hx, c1, idx hy, c2, d49, idx hy, idx hz, by kernel_rfl, c3, (j + 1, some j), ⟨hjl, hqy, step⟩, mu1 hjl, Wk.le (St.le.of ⟨by kernel_rfl, rfl, by kernel_rfl, rfl, by kernel_rfl, rfl, by kernel_rfl, rfl, by kernel_rfl, rfl, by kernel_rfl, rfl, Eq.trans (by kernel_rfl) ej, rfl, trivial⟩ ⟨by kernel_rfl, (by decide : (0 : Nat) < 1), boL_ok _ _, trivial⟩) (hlo2.mono (show 0 ≤ 1 by decide))⟩
        · have hj' : j = l.length := by omega
          have hs2 : lastL l d x.id = qL l q := by rw [hs, hj', List.drop_length]; rfl
          have hg := goneV_q hs2
          have bl := bK_len (k := k) hgl (by omega)
          have ix := ixBo (h := hget []) (id := 0) (n := (r.map cRc).length) (k := k) (by omega)
          cases q with
          | none =>
            have hg : goneV l d x.id = false := hg
            have st := stBo (h := hget [(0, .cells (boL (bK (goneBs r l d) r.length k)))]) (id := 0) (k := k) (l := bK (goneBs r l d) r.length k) (x := false) rfl (by omega)
            rw [bK_set hgl hlt (by rw [hgx, hg])] at st
            exact ACode.vcM (.br 23 false .nil) hn hlo2 (.roundW .cl) ⟨geLen hjl, _, .refl _, .br 68 false <| .val 76 (.vptr 0 k) [] <| .val 1 .undef [(0, some (.cells (boL (bK (goneBs r l d) r.length (k + 1)))))] .nil, rfl, Eq.trans (by kernel_rfl) ix, Eq.trans (by kernel_rfl) st, k + 1, hlt, mu1 hlt, Wk.le (St.le.of ⟨by kernel_rfl, rfl, by kernel_rfl, rfl, by kernel_rfl, rfl, by kernel_rfl, rfl, Eq.trans (by kernel_rfl) ek, rfl, trivial⟩ ⟨by kernel_rfl, (by decide : (0 : Nat) < 1), boL_ok _ _, trivial⟩) (hlo.mono (show 0 ≤ 1 by decide))⟩
          | some m =>
            refine Exists.elim (getE (hq m rfl)) fun z hz => ?_
            rw [qL_some hz] at hg
            have hg : goneV l d x.id = decide (z.kd.val = 1) := hg
            have d68 : decide ((m : Int) ≥ 0) = true := decide_eq_true (by omega)
            have ez : ((z.kd.val : Int) == 1) = decide (z.kd.val = 1) := decide_eq_decide.2 (by omega)
            have st := stBo (h := hget [(0, .cells (boL (bK (goneBs r l d) r.length k)))]) (id := 0) (k := k) (l := bK (goneBs r l d) r.length k) (x := ((z.kd.val : Int) == 1)) rfl (by omega)
            rw [bK_set hgl hlt (by rw [hgx, hg, ez])] at st
            exact ACode.vcM (.br 23 false .nil) hn hlo2 (.roundW .cl) ⟨geLen hjl, _, .refl _, .br 68 true <| .cells (cLt z) <| .val 76 (.vptr 0 k) [] <| .val 1 .undef [(0, some (.cells (boL (bK (goneBs r l d) r.length (k + 1)))))] .nil, d68, idx hz, Eq.trans (by kernel_rfl) ix, Eq.trans (by kernel_rfl) st, k + 1, hlt, mu1 hlt, Wk.le (St.le.of ⟨by kernel_rfl, rfl, by kernel_rfl, rfl, by kernel_rfl, rfl, by kernel_rfl, rfl, Eq.trans (by kernel_rfl) ek, rfl, trivial⟩ ⟨by kernel_rfl, (by decide : (0 : Nat) < 1), boL_ok _ _, trivial⟩) (hlo.mono (show 0 ≤ 1 by decide))⟩
    · have hk' : k = r.length := by omega
      have e : bK (goneBs r l d) r.length k = goneBs r l d := by rw [hk', bK_all hgl]
      have ht : thawF 8 (hget [(0, .cells (boL (bK (goneBs r l d) r.length k)))]) (.rsl 0 0 (r.map cRc).length 1) = some (encBs (goneBs r l d), [0]) := by
        have h2 := thawF_bools (h := hget [(0, .cells (boL (bK (goneBs r l d) r.length k)))]) (id := 0) (l := bK (goneBs r l d) r.length k) rfl
        rw [bK_len hgl hk, ← hlen] at h2
        rw [hlen] at h2 ⊢
        rw [h2, e]
      exact ACode.vcM (.br 17 false .nil) hn hlo (.roundW .cl) ⟨geLen hlt, _, .refl _, .nil, [0], Eq.trans (by kernel_rfl) ht⟩
end Go.Proofs.Ytmdhgkfjlphliaa
/-
  WHAT HOLDS, BY THE REFERENCE: of valid records and what is withdrawn.
-/
namespace Go.Proofs.Ytmdhgkfjlphliaa
open Go Go.Am
set_option maxRecDepth 100000
set_option maxHeartbeats 4000000
theorem ldBo {h : Nat → Option AObj} {id k : Nat} {l : List Bool} {x : Bool} (h0 : h id = some (.cells (boL l))) (hk : l[k]? = some x) : aLoad Try.prog h 4 (.vptr id k) = some ⟨.bool x, []⟩ := by
  have e : ∃ r, (boL l).drop k = .bool x :: r := by
    rw [boL_eq, ← List.map_drop, drop_cons hk]; exact ⟨_, rfl⟩
  obtain ⟨r, e⟩ := e
  simp only [aLoad, ty4, h0, e, aread]
  rfl
def hoB (g : Int → Bool) (r : List Rcd) : List Bool := r.map fun x => (heldV g [] r).contains x.id
def goB (g : Int → Bool) (r : List Rcd) : List Bool := r.map fun x => g x.id
theorem ref_at {r : List Rcd} (hr : recsB r = true) {k : Nat} {x : Rcd} (hx : r[k]? = some x) {w : List Int} (hw : w ∈ x.ways) {v : Int} (hv : v ∈ w) : ∃ (j : Nat) (y : Rcd), j < k ∧ r[j]? = some y ∧ y.id = v ∧ fndV (isId v) r = (j : Int) := by
  have hn := recs_nodup hr
  have h1 := (waysI_iff r []).1 hn.2.1 k x hx
  have h2 := waysB_mem h1 hw hv
  rw [List.nil_append] at h2
  obtain ⟨j, e⟩ := List.mem_iff_getElem?.1 h2
  have hj := (List.getElem?_eq_some_iff.1 e).1
  have hjk : j < k := by rw [List.length_take] at hj; omega
  rw [List.getElem?_take_of_lt hjk] at e
  have hjl : j < r.length := by
    have h6 := (List.getElem?_eq_some_iff.1 e).1
    unfold idsR at h6; rwa [List.length_map] at h6
  have hy : r[j]? = some r[j] := List.getElem?_eq_getElem hjl
  have ey : (r[j]).id = v := by rw [idsR_get hy] at e; exact Option.some.inj e
  refine ⟨j, r[j], hjk, hy, ey, fndV_hit hy ?_ (by unfold isId; simp [ey])⟩
  intro z hz
  have h3 := (nodup_at hn.1 (idsR_get hy)).1
  unfold isId
  refine beq_eq_false_iff_ne.2 fun h4 => h3 ?_
  rw [ey, ← h4]
  unfold idsR
  rw [← List.map_take]
  exact List.mem_map_of_mem hz
theorem rHold_spec (r : List Rcd) (g : Int → Bool) (hr : recsB r = true) : APureF Try.prog 44 [encRs r, encBs (goB g r)] (encBs (hoB g r)) := by
  have hlen : (r.map cRc).length = r.length := List.length_map _
  have hLl : (hoB g r).length = r.length := List.length_map _
  have ha := Ar_of hr
  have hrl := ha.len
  have mk := mk_bools (id := 0) (len := (r.map cRc).length) (by omega)
  generalize hH : heldV g [] r = H at *
  have hL : ∀ {j : Nat} {y : Rcd}, r[j]? = some y → (hoB g r)[j]? = some (H.contains y.id) := fun h => by unfold hoB; rw [List.getElem?_map, h, hH]; rfl
  have hiff : ∀ {j : Nat} {y : Rcd}, r[j]? = some y → H.contains y.id = (standsB (fun i => H.contains i) y.ways && !g y.id) := fun h => by
    have h1 := held_iff hr g (List.mem_of_getElem? h)
    rw [hH] at h1
    rw [Bool.eq_iff_iff, List.contains_iff_mem, h1, Bool.and_eq_true]
    constructor
    · rintro ⟨a, b⟩; exact ⟨b, by rw [a]; rfl⟩
    · rintro ⟨a, b⟩; exact ⟨by simpa using b, a⟩
  generalize hLL : hoB g r = L at *
  refine APureF.vcM Try.func44 (.val 13 (.rsl 0 0 (r.map cRc).length 1) [(0, some (.cells (boL (List.replicate (r.map cRc).length false))))] .loop) rfl rfl ⟨Eq.trans (by kernel_rfl) mk, ?_⟩
  intro gg hn hlo
  replace hn : gg.n = 85 := hn
  replace hlo : gg.low 0 := hlo
  refine acode_whileW (fun k : Nat => ⟨[(0, encRs r), (1, encBs (goB g r)), (5, .rsl 0 0 (r.map cRc).length 1), (6, .int .i64 k)], [(0, .cells (boL (bK L r.length k)))], 1⟩) (fun k => k ≤ r.length) (fun k => r.length - k) 0 (Nat.zero_le _) ?_ ?_
  · have e0 : some (AObj.cells (boL (List.replicate (r.map cRc).length false))) = some (.cells (boL (bK L r.length 0))) := by rw [hlen]; rfl
    exact Wk.le (St.le.of ⟨by kernel_rfl, rfl, by kernel_rfl, rfl, by kernel_rfl, rfl, by kernel_rfl, rfl, trivial⟩ ⟨Eq.trans (by kernel_rfl) e0, (by decide : (0 : Nat) < 1), boL_ok _ _, trivial⟩) (hlo.mono (Nat.zero_le _))
  · intro k hk
    replace hk : k ≤ r.length := hk
    by_cases hlt : k < r.length
    · refine Exists.elim (getE hlt) fun x hx => ?_
      have ek := congrArg (AV.int .i64) (succ64 (k := k) (by omega))
      have hxw := ha.wr x (List.mem_of_getElem? hx)
      have hwl := hxw.1
      have hgk : (goB g r)[k]? = some (g x.id) := by unfold goB; rw [List.getElem?_map, hx]; rfl
      refine ACode.vcM (.br 17 true <| .cells (cRc x) <| .loop) hn hlo (.roundW .cl) ⟨ltLen hlt, idx hx, ?_⟩
      intro gg hn hlo2
      replace hn : gg.n = 85 := hn
      replace hlo2 : gg.low 0 := hlo2
      refine acode_whileW (fun p : Nat × Bool => ⟨[(0, encRs r), (1, encBs (goB g r)), (5, .rsl 0 0 (r.map cRc).length 1), (6, .int .i64 k), (7, .bool p.2), (8, .int .i64 p.1)], [(0, .cells (boL (bK L r.length k)))], 1⟩) (fun p => p.1 ≤ x.ways.length ∧ p.2 = (x.ways.isEmpty || (x.ways.take p.1).any fun w => w.all fun i => H.contains i)) (fun p => x.ways.length - p.1) (0, x.ways.isEmpty) ⟨Nat.zero_le _, by simp⟩ ?_ ?_
      · have es : AV.bool (((x.ways.map cW).length : Int) == 0) = .bool x.ways.isEmpty := by
          cases x.ways with
          | nil => rfl
          | cons a l => exact congrArg AV.bool (beq_eq_false_iff_ne.2 (by simp; omega))
        exact Wk.le (St.le.of ⟨by kernel_rfl, rfl, by kernel_rfl, rfl, by kernel_rfl, rfl, by kernel_rfl, rfl, Eq.trans (by kernel_rfl) es, rfl, by kernel_rfl, rfl, trivial⟩ ⟨by kernel_rfl, (by decide : (0 : Nat) < 1), boL_ok _ _, trivial⟩) (hlo2.mono (Nat.zero_le _))
      · rintro ⟨n, s⟩ ⟨hn1, hs⟩
        replace hn1 : n ≤ x.ways.length := hn1
        replace hs : s = (x.ways.isEmpty || (x.ways.take n).any fun w => w.all fun i => H.contains i) := hs
        by_cases hnl : n < x.ways.length
        · refine Exists.elim (getE hnl) fun w hw => ?_
          have en := congrArg (AV.int .i64) (succ64 (k := n) (by omega))
          have hwm := List.mem_of_getElem? hw
          have hwl2 := hxw.2 w hwm
          refine ACode.vcM (.cells (cRc x) <| .br 34 true <| .loop) hn hlo2 (.roundW .cl) ⟨idx hx, ltLen hnl, ?_⟩
          intro gg hn hl3
          replace hn : gg.n = 85 := hn
          replace hl3 : gg.low 0 := hl3
          refine acode_whileW (fun p : Nat × Bool => ⟨[(0, encRs r), (1, encBs (goB g r)), (5, .rsl 0 0 (r.map cRc).length 1), (6, .int .i64 k), (7, .bool s), (8, .int .i64 n), (9, .bool p.2), (10, .int .i64 p.1)], [(0, .cells (boL (bK L r.length k)))], 1⟩) (fun p => p.1 ≤ w.length ∧ p.2 = (w.take p.1).all fun i => H.contains i) (fun p => w.length - p.1) (0, true) ⟨Nat.zero_le _, by simp⟩ ?_ ?_
          · exact Wk.le (St.le.of ⟨by kernel_rfl, rfl, by kernel_rfl, rfl, by kernel_rfl, rfl, by kernel_rfl, rfl, by kernel_rfl, rfl, by kernel_rfl, rfl, by kernel_rfl, rfl, by kernel_rfl, rfl, trivial⟩ ⟨by kernel_rfl, (by decide : (0 : Nat) < 1), boL_ok _ _, trivial⟩) (hl3.mono (Nat.zero_le _))
          · rintro ⟨m, a⟩ ⟨hm1, hm2⟩
            replace hm1 : m ≤ w.length := hm1
            replace hm2 : a = (w.take m).all fun i => H.contains i := hm2
            by_cases hml : m < w.length
            · refine Exists.elim (getE hml) fun v hv => ?_
              have em := congrArg (AV.int .i64) (succ64 (k := m) (by omega))
              have hnx : ((w.take (m + 1)).all fun i => H.contains i) = (a && H.contains v) := by rw [take_all hv, ← hm2]
              cases a with
              | false =>
                have st : false = ((w.take (m + 1)).all fun i => H.contains i) := by rw [hnx]; rfl
                exact ACode.vcM (.cells (cRc x) <| .cells (cW w) <| .br 47 true .nil) hn hl3 (.roundW .cl) ⟨idx hx, idx hw, ltLen hml, (m + 1, false), ⟨hml, st⟩, mu1 hml, Wk.le (St.le.of ⟨by kernel_rfl, rfl, by kernel_rfl, rfl, by kernel_rfl, rfl, by kernel_rfl, rfl, by kernel_rfl, rfl, by kernel_rfl, rfl, by kernel_rfl, rfl, Eq.trans (by kernel_rfl) em, rfl, trivial⟩ ⟨by kernel_rfl, (by decide : (0 : Nat) < 1), boL_ok _ _, trivial⟩) (hl3.mono (show 0 ≤ 1 by decide))⟩
              | true =>
                refine Exists.elim (ref_at hr hx hwm (List.mem_of_getElem? hv)) fun j hj => Exists.elim hj fun y hj => ?_
                obtain ⟨hjk, hy, eyv, ef⟩ := hj
                have sAt := At_spec r v (by omega)
                rw [ef] at sAt
                have ix := ixBo (h := hget []) (id := 0) (n := (r.map cRc).length) (k := j) (by omega)
                have bj : (bK L r.length k)[j]? = some (H.contains v) := by
                  unfold bK
                  rw [List.getElem?_append_left (by rw [List.length_take]; omega), List.getElem?_take_of_lt hjk, hL hy, eyv]
                have ld := ldBo (h := hget [(0, .cells (boL (bK L r.length k)))]) (id := 0) rfl bj
                have st : H.contains v = ((w.take (m + 1)).all fun i => H.contains i) := by rw [hnx]; rfl
                generalize H.contains v = b at *
                exact ACode.vcM (.cells (cRc x) <| .cells (cW w) <| .br 47 true <| .cells (cRc x) <| .cells (cW w) <| .cells (encI v) <| .call (.int .i64 (j : Int)) <| .val 66 (.vptr 0 j) [] <| .val 67 (.bool b) [] .nil) hn hl3 (.roundW .cl) ⟨idx hx, idx hw, ltLen hml, idx hx, idx hw, idx hv, sAt, Eq.trans (by kernel_rfl) ix, Eq.trans (by kernel_rfl) ld, (m + 1, b), ⟨hml, st⟩, mu1 hml, Wk.le (St.le.of ⟨by kernel_rfl, rfl, by kernel_rfl, rfl, by kernel_rfl, rfl, by kernel_rfl, rfl, by kernel_rfl, rfl, by kernel_rfl, rfl, by kernel_rfl, rfl, Eq.trans (by kernel_rfl) em, rfl, trivial⟩ ⟨by kernel_rfl, (by decide : (0 : Nat) < 1), boL_ok _ _, trivial⟩) (hl3.mono (show 0 ≤ 1 by decide))⟩
            · have hm' : m = w.length := by omega
              have hall : a = w.all fun i => H.contains i := by rw [hm2, hm', List.take_length]
              have hnx : (x.ways.isEmpty || (x.ways.take (n + 1)).any fun w => w.all fun i => H.contains i) = (s || a) := by
                rw [hs, hall, List.take_add_one, hw, List.any_append]
                simp [Bool.or_assoc]
              cases s with
              | true =>
                have st : true = (x.ways.isEmpty || (x.ways.take (n + 1)).any fun w => w.all fun i => H.contains i) := by rw [hnx]; rfl
                exact ACode.vcM (.cells (cRc x) <| .cells (cW w) <| .br 47 false .nil) hn hl3 (.roundW .cl) ⟨idx hx, idx hw, geLen hml, _, .refl _, .nil, (n + 1, true), ⟨hnl, st⟩, mu1 hnl, Wk.le (St.le.of ⟨by kernel_rfl, rfl, by kernel_rfl, rfl, by kernel_rfl, rfl, by kernel_rfl, rfl, by kernel_rfl, rfl, Eq.trans (by kernel_rfl) en, rfl, trivial⟩ ⟨by kernel_rfl, (by decide : (0 : Nat) < 1), boL_ok _ _, trivial⟩) (hlo2.mono (show 0 ≤ 1 by decide))⟩
              | false =>
                have st : a = (x.ways.isEmpty || (x.ways.take (n + 1)).any fun w => w.all fun i => H.contains i) := by rw [hnx]; rfl
                exact ACode.vcM (.cells (cRc x) <| .cells (cW w) <| .br 47 false .nil) hn hl3 (.roundW .cl) ⟨idx hx, idx hw, geLen hml, _, .refl _, .nil, (n + 1, a), ⟨hnl, st⟩, mu1 hnl, Wk.le (St.le.of ⟨by kernel_rfl, rfl, by kernel_rfl, rfl, by kernel_rfl, rfl, by kernel_rfl, rfl, by kernel_rfl, rfl, Eq.trans (by kernel_rfl) en, rfl, trivial⟩ ⟨by kernel_rfl, (by decide : (0 : Nat) < 1), boL_ok _ _, trivial⟩) (hlo2.mono (show 0 ≤ 1 by decide))⟩
        · have hn' : n = x.ways.length := by omega
          have hst : s = standsB (fun i => H.contains i) x.ways := by rw [hs, hn', List.take_length]; rfl
          have hfin : L[k]? = some (s && !g x.id) := by rw [hL hx, hiff hx, hst]
          have bl := bK_len (L := L) (n := r.length) (k := k) hLl (by omega)
          have ix := ixBo (h := hget []) (id := 0) (n := (r.map cRc).length) (k := k) (by omega)
          have stf := fun (z : Bool) (hz : L[k]? = some z) => (stBo (h := hget [(0, .cells (boL (bK L r.length k)))]) (id := 0) (k := k) (l := bK L r.length k) (x := z) rfl (by omega)).trans (by rw [bK_set hLl hlt hz])
          cases s with
          | true =>
            have st := stf (!g x.id) (by rw [hfin]; rfl)
            exact ACode.vcM (.cells (cRc x) <| .br 34 false .nil) hn hlo2 (.roundW .cl) ⟨idx hx, geLen hnl, _, .refl _, .cells (encBo (g x.id)) <| .val 83 (.vptr 0 k) [] <| .val 1 .undef [(0, some (.cells (boL (bK L r.length (k + 1)))))] .nil, idx hgk, Eq.trans (by kernel_rfl) ix, Eq.trans (by kernel_rfl) st, k + 1, hlt, mu1 hlt, Wk.le (St.le.of ⟨by kernel_rfl, rfl, by kernel_rfl, rfl, by kernel_rfl, rfl, Eq.trans (by kernel_rfl) ek, rfl, trivial⟩ ⟨by kernel_rfl, (by decide : (0 : Nat) < 1), boL_ok _ _, trivial⟩) (hlo.mono (show 0 ≤ 1 by decide))⟩
          | false =>
            have st := stf false (by rw [hfin]; rfl)
            exact ACode.vcM (.cells (cRc x) <| .br 34 false .nil) hn hlo2 (.roundW .cl) ⟨idx hx, geLen hnl, _, .refl _, .val 83 (.vptr 0 k) [] <| .val 1 .undef [(0, some (.cells (boL (bK L r.length (k + 1)))))] .nil, Eq.trans (by kernel_rfl) ix, Eq.trans (by kernel_rfl) st, k + 1, hlt, mu1 hlt, Wk.le (St.le.of ⟨by kernel_rfl, rfl, by kernel_rfl, rfl, by kernel_rfl, rfl, Eq.trans (by kernel_rfl) ek, rfl, trivial⟩ ⟨by kernel_rfl, (by decide : (0 : Nat) < 1), boL_ok _ _, trivial⟩) (hlo.mono (show 0 ≤ 1 by decide))⟩
    · have hk' : k = r.length := by omega
      have e : bK L r.length k = L := by rw [hk', bK_all hLl]
      have ht : thawF 8 (hget [(0, .cells (boL (bK L r.length k)))]) (.rsl 0 0 (r.map cRc).length 1) = some (encBs L, [0]) := by
        have h2 := thawF_bools (h := hget [(0, .cells (boL (bK L r.length k)))]) (id := 0) (l := bK L r.length k) rfl
        rw [bK_len hLl hk, ← hlen] at h2
        rw [hlen] at h2 ⊢
        rw [h2, e]
      exact ACode.vcM (.br 17 false .nil) hn hlo (.roundW .cl) ⟨geLen hlt, _, .refl _, .nil, [0], Eq.trans (by kernel_rfl) ht⟩
end Go.Proofs.Ytmdhgkfjlphliaa
