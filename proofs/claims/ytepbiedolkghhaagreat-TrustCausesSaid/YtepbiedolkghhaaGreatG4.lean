/-
  WHAT HOLDS, BY THE REFERENCE: of valid records and what is withdrawn.
-/
import Derived.Test.YtepbiedolkghhaaGreatG3
import Derived.Test.YtepbiedolkghhaaGreatG1
import Derived.Test.YtepbiedolkghhaaGreatH1
namespace Go.Proofs.YtepbiedolkghhaaGreat
open Go Go.Am
set_option maxRecDepth 100000
set_option maxHeartbeats 4000000
theorem ldBo {h : Nat → Option AObj} {id k : Nat} {l : List Bool} {x : Bool} (h0 : h id = some (.cells (boL l))) (hk : l[k]? = some x) : aLoad Tryz.prog h 4 (.vptr id k) = some ⟨.bool x, []⟩ := by
  have e : ∃ r, (boL l).drop k = .bool x :: r := by
    rw [boL_eq, ← List.map_drop, drop_cons hk]; exact ⟨_, rfl⟩
  obtain ⟨r, e⟩ := e
  simp only [aLoad, ty4, h0, e, aread]
  rfl
def hoB (g : Int → Bool) (r : List Rcd) : List Bool := r.map fun x => (heldV g [] r).contains x.id
def goB (g : Int → Bool) (r : List Rcd) : List Bool := r.map fun x => g x.id
theorem ref_at {r : List Rcd} (hr : recsB r = true) {k : Nat} {x : Rcd} (hx : r[k]? = some x) {w : List Int} (hw : w ∈ x.ways) {v : Int} (hv : v ∈ w) : ∃ (j : Nat) (y : Rcd), j < k ∧ r[j]? = some y ∧ y.id = v ∧ fndV (isId v) r = (j : Int) := by
  have hn := recs_nodup hr
  have h1 := (waysI_iff r []).1 hn.2.1 k x hx
  have h2 := waysB_mem h1 hw hv
  rw [List.nil_append] at h2
  obtain ⟨j, e⟩ := List.mem_iff_getElem?.1 h2
  have hj := (List.getElem?_eq_some_iff.1 e).1
  have hjk : j < k := by rw [List.length_take] at hj; omega
  rw [List.getElem?_take_of_lt hjk] at e
  have hjl : j < r.length := by
    have h6 := (List.getElem?_eq_some_iff.1 e).1
    unfold idsR at h6; rwa [List.length_map] at h6
  have hy : r[j]? = some r[j] := List.getElem?_eq_getElem hjl
  have ey : (r[j]).id = v := by rw [idsR_get hy] at e; exact Option.some.inj e
  refine ⟨j, r[j], hjk, hy, ey, fndV_hit hy ?_ (by unfold isId; simp [ey])⟩
  intro z hz
  have h3 := (nodup_at hn.1 (idsR_get hy)).1
  unfold isId
  refine beq_eq_false_iff_ne.2 fun h4 => h3 ?_
  rw [ey, ← h4]
  unfold idsR
  rw [← List.map_take]
  exact List.mem_map_of_mem hz
theorem rHold_spec (r : List Rcd) (g : Int → Bool) (hr : recsB r = true) : APureF Tryz.prog 18 [encRs r, encBs (goB g r)] (encBs (hoB g r)) := by
  have hlen : (r.map cRc).length = r.length := List.length_map _
  have hLl : (hoB g r).length = r.length := List.length_map _
  have ha := Ar_of hr
  have hrl := ha.len
  have mk := mk_bools (id := 0) (len := (r.map cRc).length) (by omega)
  generalize hH : heldV g [] r = H at *
  have hL : ∀ {j : Nat} {y : Rcd}, r[j]? = some y → (hoB g r)[j]? = some (H.contains y.id) := fun h => by unfold hoB; rw [List.getElem?_map, h, hH]; rfl
  have hiff : ∀ {j : Nat} {y : Rcd}, r[j]? = some y → H.contains y.id = (standsB (fun i => H.contains i) y.ways && !g y.id) := fun h => by
    have h1 := held_iff hr g (List.mem_of_getElem? h)
    rw [hH] at h1
    rw [Bool.eq_iff_iff, List.contains_iff_mem, h1, Bool.and_eq_true]
    constructor
    · rintro ⟨a, b⟩; exact ⟨b, by rw [a]; rfl⟩
    · rintro ⟨a, b⟩; exact ⟨by simpa using b, a⟩
  generalize hLL : hoB g r = L at *
  refine APureF.vcM Tryz.func18 (.val 13 (.rsl 0 0 (r.map cRc).length 1) [(0, some (.cells (boL (List.replicate (r.map cRc).length false))))] .loop) rfl rfl ⟨Eq.trans (by kernel_rfl) mk, ?_⟩
  intro gg hn hlo
  replace hn : gg.n = 85 := hn
  replace hlo : gg.low 0 := hlo
  refine acode_whileW (fun k : Nat => ⟨[(0, encRs r), (1, encBs (goB g r)), (5, .rsl 0 0 (r.map cRc).length 1), (6, .int .i64 k)], [(0, .cells (boL (bK L r.length k)))], 1⟩) (fun k => k ≤ r.length) (fun k => r.length - k) 0 (Nat.zero_le _) ?_ ?_
  · have e0 : some (AObj.cells (boL (List.replicate (r.map cRc).length false))) = some (.cells (boL (bK L r.length 0))) := by rw [hlen]; rfl
    exact Wk.le (St.le.of ⟨by kernel_rfl, rfl, by kernel_rfl, rfl, by kernel_rfl, rfl, by kernel_rfl, rfl, trivial⟩ ⟨Eq.trans (by kernel_rfl) e0, (by decide : (0 : Nat) < 1), boL_ok _ _, trivial⟩) (hlo.mono (Nat.zero_le _))
  · intro k hk
    replace hk : k ≤ r.length := hk
    by_cases hlt : k < r.length
    · refine Exists.elim (getE hlt) fun x hx => ?_
      have ek := congrArg (AV.int .i64) (succ64 (k := k) (by omega))
      have hxw := ha.wr x (List.mem_of_getElem? hx)
      have hwl := hxw.1
      have hgk : (goB g r)[k]? = some (g x.id) := by unfold goB; rw [List.getElem?_map, hx]; rfl
      refine ACode.vcM (.br 17 true <| .cells (cRc x) <| .loop) hn hlo (.roundW .cl) ⟨ltLen hlt, idx hx, ?_⟩
      intro gg hn hlo2
      replace hn : gg.n = 85 := hn
      replace hlo2 : gg.low 0 := hlo2
      refine acode_whileW (fun p : Nat × Bool => ⟨[(0, encRs r), (1, encBs (goB g r)), (5, .rsl 0 0 (r.map cRc).length 1), (6, .int .i64 k), (7, .bool p.2), (8, .int .i64 p.1)], [(0, .cells (boL (bK L r.length k)))], 1⟩) (fun p => p.1 ≤ x.ways.length ∧ p.2 = (x.ways.isEmpty || (x.ways.take p.1).any fun w => w.all fun i => H.contains i)) (fun p => x.ways.length - p.1) (0, x.ways.isEmpty) ⟨Nat.zero_le _, by simp⟩ ?_ ?_
      · have es : AV.bool (((x.ways.map cW).length : Int) == 0) = .bool x.ways.isEmpty := by
          cases x.ways with
          | nil => rfl
          | cons a l => exact congrArg AV.bool (beq_eq_false_iff_ne.2 (by simp; omega))
        exact Wk.le (St.le.of ⟨by kernel_rfl, rfl, by kernel_rfl, rfl, by kernel_rfl, rfl, by kernel_rfl, rfl, Eq.trans (by kernel_rfl) es, rfl, by kernel_rfl, rfl, trivial⟩ ⟨by kernel_rfl, (by decide : (0 : Nat) < 1), boL_ok _ _, trivial⟩) (hlo2.mono (Nat.zero_le _))
      · rintro ⟨n, s⟩ ⟨hn1, hs⟩
        replace hn1 : n ≤ x.ways.length := hn1
        replace hs : s = (x.ways.isEmpty || (x.ways.take n).any fun w => w.all fun i => H.contains i) := hs
        by_cases hnl : n < x.ways.length
        · refine Exists.elim (getE hnl) fun w hw => ?_
          have en := congrArg (AV.int .i64) (succ64 (k := n) (by omega))
          have hwm := List.mem_of_getElem? hw
          have hwl2 := hxw.2 w hwm
          refine ACode.vcM (.cells (cRc x) <| .br 34 true <| .loop) hn hlo2 (.roundW .cl) ⟨idx hx, ltLen hnl, ?_⟩
          intro gg hn hl3
          replace hn : gg.n = 85 := hn
          replace hl3 : gg.low 0 := hl3
          refine acode_whileW (fun p : Nat × Bool => ⟨[(0, encRs r), (1, encBs (goB g r)), (5, .rsl 0 0 (r.map cRc).length 1), (6, .int .i64 k), (7, .bool s), (8, .int .i64 n), (9, .bool p.2), (10, .int .i64 p.1)], [(0, .cells (boL (bK L r.length k)))], 1⟩) (fun p => p.1 ≤ w.length ∧ p.2 = (w.take p.1).all fun i => H.contains i) (fun p => w.length - p.1) (0, true) ⟨Nat.zero_le _, by simp⟩ ?_ ?_
          · exact Wk.le (St.le.of ⟨by kernel_rfl, rfl, by kernel_rfl, rfl, by kernel_rfl, rfl, by kernel_rfl, rfl, by kernel_rfl, rfl, by kernel_rfl, rfl, by kernel_rfl, rfl, by kernel_rfl, rfl, trivial⟩ ⟨by kernel_rfl, (by decide : (0 : Nat) < 1), boL_ok _ _, trivial⟩) (hl3.mono (Nat.zero_le _))
          · rintro ⟨m, a⟩ ⟨hm1, hm2⟩
            replace hm1 : m ≤ w.length := hm1
            replace hm2 : a = (w.take m).all fun i => H.contains i := hm2
            by_cases hml : m < w.length
            · refine Exists.elim (getE hml) fun v hv => ?_
              have em := congrArg (AV.int .i64) (succ64 (k := m) (by omega))
              have hnx : ((w.take (m + 1)).all fun i => H.contains i) = (a && H.contains v) := by rw [take_all hv, ← hm2]
              cases a with
              | false =>
                have st : false = ((w.take (m + 1)).all fun i => H.contains i) := by rw [hnx]; rfl
                exact ACode.vcM (.cells (cRc x) <| .cells (cW w) <| .br 47 true .nil) hn hl3 (.roundW .cl) ⟨idx hx, idx hw, ltLen hml, (m + 1, false), ⟨hml, st⟩, mu1 hml, Wk.le (St.le.of ⟨by kernel_rfl, rfl, by kernel_rfl, rfl, by kernel_rfl, rfl, by kernel_rfl, rfl, by kernel_rfl, rfl, by kernel_rfl, rfl, by kernel_rfl, rfl, Eq.trans (by kernel_rfl) em, rfl, trivial⟩ ⟨by kernel_rfl, (by decide : (0 : Nat) < 1), boL_ok _ _, trivial⟩) (hl3.mono (show 0 ≤ 1 by decide))⟩
              | true =>
                refine Exists.elim (ref_at hr hx hwm (List.mem_of_getElem? hv)) fun j hj => Exists.elim hj fun y hj => ?_
                obtain ⟨hjk, hy, eyv, ef⟩ := hj
                have sAt := At_spec r v (by omega)
                rw [ef] at sAt
                have ix := ixBo (h := hget []) (id := 0) (n := (r.map cRc).length) (k := j) (by omega)
                have bj : (bK L r.length k)[j]? = some (H.contains v) := by
                  unfold bK
                  rw [List.getElem?_append_left (by rw [List.length_take]; omega), List.getElem?_take_of_lt hjk, hL hy, eyv]
                have ld := ldBo (h := hget [(0, .cells (boL (bK L r.length k)))]) (id := 0) rfl bj
                have st : H.contains v = ((w.take (m + 1)).all fun i => H.contains i) := by rw [hnx]; rfl
                generalize H.contains v = b at *
                exact ACode.vcM (.cells (cRc x) <| .cells (cW w) <| .br 47 true <| .cells (cRc x) <| .cells (cW w) <| .cells (encI v) <| .call (.int .i64 (j : Int)) <| .val 66 (.vptr 0 j) [] <| .val 67 (.bool b) [] .nil) hn hl3 (.roundW .cl) ⟨idx hx, idx hw, ltLen hml, idx hx, idx hw, idx hv, sAt, Eq.trans (by kernel_rfl) ix, Eq.trans (by kernel_rfl) ld, (m + 1, b), ⟨hml, st⟩, mu1 hml, Wk.le (St.le.of ⟨by kernel_rfl, rfl, by kernel_rfl, rfl, by kernel_rfl, rfl, by kernel_rfl, rfl, by kernel_rfl, rfl, by kernel_rfl, rfl, by kernel_rfl, rfl, Eq.trans (by kernel_rfl) em, rfl, trivial⟩ ⟨by kernel_rfl, (by decide : (0 : Nat) < 1), boL_ok _ _, trivial⟩) (hl3.mono (show 0 ≤ 1 by decide))⟩
            · have hm' : m = w.length := by omega
              have hall : a = w.all fun i => H.contains i := by rw [hm2, hm', List.take_length]
              have hnx : (x.ways.isEmpty || (x.ways.take (n + 1)).any fun w => w.all fun i => H.contains i) = (s || a) := by
                rw [hs, hall, List.take_add_one, hw, List.any_append]
                simp [Bool.or_assoc]
              cases s with
              | true =>
                have st : true = (x.ways.isEmpty || (x.ways.take (n + 1)).any fun w => w.all fun i => H.contains i) := by rw [hnx]; rfl
                exact ACode.vcM (.cells (cRc x) <| .cells (cW w) <| .br 47 false .nil) hn hl3 (.roundW .cl) ⟨idx hx, idx hw, geLen hml, _, .refl _, .nil, (n + 1, true), ⟨hnl, st⟩, mu1 hnl, Wk.le (St.le.of ⟨by kernel_rfl, rfl, by kernel_rfl, rfl, by kernel_rfl, rfl, by kernel_rfl, rfl, by kernel_rfl, rfl, Eq.trans (by kernel_rfl) en, rfl, trivial⟩ ⟨by kernel_rfl, (by decide : (0 : Nat) < 1), boL_ok _ _, trivial⟩) (hlo2.mono (show 0 ≤ 1 by decide))⟩
              | false =>
                have st : a = (x.ways.isEmpty || (x.ways.take (n + 1)).any fun w => w.all fun i => H.contains i) := by rw [hnx]; rfl
                exact ACode.vcM (.cells (cRc x) <| .cells (cW w) <| .br 47 false .nil) hn hl3 (.roundW .cl) ⟨idx hx, idx hw, geLen hml, _, .refl _, .nil, (n + 1, a), ⟨hnl, st⟩, mu1 hnl, Wk.le (St.le.of ⟨by kernel_rfl, rfl, by kernel_rfl, rfl, by kernel_rfl, rfl, by kernel_rfl, rfl, by kernel_rfl, rfl, Eq.trans (by kernel_rfl) en, rfl, trivial⟩ ⟨by kernel_rfl, (by decide : (0 : Nat) < 1), boL_ok _ _, trivial⟩) (hlo2.mono (show 0 ≤ 1 by decide))⟩
        · have hn' : n = x.ways.length := by omega
          have hst : s = standsB (fun i => H.contains i) x.ways := by rw [hs, hn', List.take_length]; rfl
          have hfin : L[k]? = some (s && !g x.id) := by rw [hL hx, hiff hx, hst]
          have bl := bK_len (L := L) (n := r.length) (k := k) hLl (by omega)
          have ix := ixBo (h := hget []) (id := 0) (n := (r.map cRc).length) (k := k) (by omega)
          have stf := fun (z : Bool) (hz : L[k]? = some z) => (stBo (h := hget [(0, .cells (boL (bK L r.length k)))]) (id := 0) (k := k) (l := bK L r.length k) (x := z) rfl (by omega)).trans (by rw [bK_set hLl hlt hz])
          cases s with
          | true =>
            have st := stf (!g x.id) (by rw [hfin]; rfl)
            exact ACode.vcM (.cells (cRc x) <| .br 34 false .nil) hn hlo2 (.roundW .cl) ⟨idx hx, geLen hnl, _, .refl _, .cells (encBo (g x.id)) <| .val 83 (.vptr 0 k) [] <| .val 1 .undef [(0, some (.cells (boL (bK L r.length (k + 1)))))] .nil, idx hgk, Eq.trans (by kernel_rfl) ix, Eq.trans (by kernel_rfl) st, k + 1, hlt, mu1 hlt, Wk.le (St.le.of ⟨by kernel_rfl, rfl, by kernel_rfl, rfl, by kernel_rfl, rfl, Eq.trans (by kernel_rfl) ek, rfl, trivial⟩ ⟨by kernel_rfl, (by decide : (0 : Nat) < 1), boL_ok _ _, trivial⟩) (hlo.mono (show 0 ≤ 1 by decide))⟩
          | false =>
            have st := stf false (by rw [hfin]; rfl)
            exact ACode.vcM (.cells (cRc x) <| .br 34 false .nil) hn hlo2 (.roundW .cl) ⟨idx hx, geLen hnl, _, .refl _, .val 83 (.vptr 0 k) [] <| .val 1 .undef [(0, some (.cells (boL (bK L r.length (k + 1)))))] .nil, Eq.trans (by kernel_rfl) ix, Eq.trans (by kernel_rfl) st, k + 1, hlt, mu1 hlt, Wk.le (St.le.of ⟨by kernel_rfl, rfl, by kernel_rfl, rfl, by kernel_rfl, rfl, Eq.trans (by kernel_rfl) ek, rfl, trivial⟩ ⟨by kernel_rfl, (by decide : (0 : Nat) < 1), boL_ok _ _, trivial⟩) (hlo.mono (show 0 ≤ 1 by decide))⟩
    · have hk' : k = r.length := by omega
      have e : bK L r.length k = L := by rw [hk', bK_all hLl]
      have ht : thawF 8 (hget [(0, .cells (boL (bK L r.length k)))]) (.rsl 0 0 (r.map cRc).length 1) = some (encBs L, [0]) := by
        have h2 := thawF_bools (h := hget [(0, .cells (boL (bK L r.length k)))]) (id := 0) (l := bK L r.length k) rfl
        rw [bK_len hLl hk, ← hlen] at h2
        rw [hlen] at h2 ⊢
        rw [h2, e]
      exact ACode.vcM (.br 17 false .nil) hn hlo (.roundW .cl) ⟨geLen hlt, _, .refl _, .nil, [0], Eq.trans (by kernel_rfl) ht⟩
end Go.Proofs.YtepbiedolkghhaaGreat
