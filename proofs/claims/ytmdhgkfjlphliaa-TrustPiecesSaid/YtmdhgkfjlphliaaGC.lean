/-
  BATCHES THAT COME OF A RECORD, BY THE REFERENCE.
-/
import Derived.Test.YtmdhgkfjlphliaaMV
import Derived.Test.YtmdhgkfjlphliaaG4
namespace Go.Proofs.Ytmdhgkfjlphliaa
open Go Go.Am
set_option maxRecDepth 100000
set_option maxHeartbeats 4000000
theorem bK_at {L : List Bool} {n k : Nat} (hL : L.length = n) (hk : k < n) : (bK L n k)[k]? = some false := by
  unfold bK
  rw [List.getElem?_append_right (by rw [List.length_take]; omega), List.length_take, Nat.min_eq_left (by omega), Nat.sub_self, List.getElem?_replicate]
  rw [if_pos (by omega)]
theorem bK_same {L : List Bool} {n k : Nat} (hL : L.length = n) (hk : k < n) (hb : L[k]? = some false) : bK L n (k + 1) = bK L n k := by
  rw [← bK_set hL hk hb]
  refine List.ext_getElem? fun i => ?_
  rw [List.getElem?_set]
  split
  · rename_i h; subst h
    rw [if_pos (by rw [bK_len hL (by omega)]; omega), bK_at hL hk]
  · rfl
def coB (r : List Rcd) (id : Int) : List Bool := r.map fun x => (batV r id).contains x.id
def sK (L : List Bool) (n k : Nat) (s : Bool) : List Bool := (bK L n k).set k s
theorem sK_len {L : List Bool} {n k : Nat} {s : Bool} (hL : L.length = n) (hk : k < n) : (sK L n k s).length = n := by unfold sK; rw [List.length_set, bK_len hL (by omega)]
theorem sK_at {L : List Bool} {n k : Nat} {s : Bool} (hL : L.length = n) (hk : k < n) : (sK L n k s)[k]? = some s := by
  unfold sK
  rw [List.getElem?_set_self (by rw [bK_len hL (by omega)]; omega)]
theorem sK_lt {L : List Bool} {n k j : Nat} {s : Bool} (hL : L.length = n) (hk : k < n) (hj : j < k) : (sK L n k s)[j]? = L[j]? := by
  unfold sK bK
  rw [List.getElem?_set_ne (by omega), List.getElem?_append_left (by rw [List.length_take]; omega), List.getElem?_take_of_lt hj]
theorem sK_set (L : List Bool) (n k : Nat) (s t : Bool) : (sK L n k s).set k t = sK L n k t := by unfold sK; rw [List.set_set]
theorem sK_end {L : List Bool} {n k : Nat} {s : Bool} (hL : L.length = n) (hk : k < n) (hb : L[k]? = some s) : sK L n k s = bK L n (k + 1) := bK_set hL hk hb
theorem any_take' {α : Type} {p : α → Bool} {l : List α} {k : Nat} {x : α} (hx : l[k]? = some x) : (l.take (k + 1)).any p = ((l.take k).any p || p x) := by rw [List.take_add_one, hx]; simp
theorem rComes_spec (r : List Rcd) (id : Int) (hr : recsB r = true) : APure Try.prog 64 [encRs r, .int .i64 id] (encBs (coB r id)) := by
  have hlen : (r.map cRc).length = r.length := List.length_map _
  have hLl : (coB r id).length = r.length := List.length_map _
  have ha := Ar_of hr
  have hrl := ha.len
  have mk := mk_bools (id := 0) (len := (r.map cRc).length) (by omega)
  have hL : ∀ {j : Nat} {y : Rcd}, r[j]? = some y → (coB r id)[j]? = some ((batV r id).contains y.id) := fun h => by unfold coB; rw [List.getElem?_map, h]; rfl
  have hiff : ∀ {j : Nat} {y : Rcd}, r[j]? = some y → (batV r id).contains y.id = (decide (y.kd.val = 3) && (y.id == id || y.ways.any (ofAny id (batV r id)))) := fun h => bat_iff hr id (List.mem_of_getElem? h)
  have hone : ∀ i, ofOne id (batV r id) i = (i == id || (batV r id).contains i) := fun i => rfl
  generalize batV r id = H at *
  generalize coB r id = L at *
  refine APure.vcM Try.func64 (.val 12 (.rsl 0 0 (r.map cRc).length 1) [(0, some (.cells (boL (List.replicate (r.map cRc).length false))))] .loop) rfl rfl ⟨Eq.trans (by kernel_rfl) mk, ?_⟩
  intro gg hn hlo
  replace hn : gg.n = 90 := hn
  replace hlo : gg.low 0 := hlo
  refine acode_whileW (fun k : Nat => ⟨[(0, encRs r), (1, .int .i64 id), (5, .rsl 0 0 (r.map cRc).length 1), (6, .int .i64 k)], [(0, .cells (boL (bK L r.length k)))], 1⟩) (fun k => k ≤ r.length) (fun k => r.length - k) 0 (Nat.zero_le _) ?_ ?_
  · have e0 : some (AObj.cells (boL (List.replicate (r.map cRc).length false))) = some (.cells (boL (bK L r.length 0))) := by rw [hlen]; rfl
    exact Wk.le (St.le.of ⟨by kernel_rfl, rfl, by kernel_rfl, rfl, by kernel_rfl, rfl, by kernel_rfl, rfl, trivial⟩ ⟨Eq.trans (by kernel_rfl) e0, (by decide : (0 : Nat) < 1), boL_ok _ _, trivial⟩) (hlo.mono (Nat.zero_le _))
  · intro k hk
    replace hk : k ≤ r.length := hk
    by_cases hlt : k < r.length
    · refine Exists.elim (getE hlt) fun x hx => ?_
      have ek := congrArg (AV.int .i64) (succ64 (k := k) (by omega))
      have hxw := ha.wr x (List.mem_of_getElem? hx)
      have hwl := hxw.1
      have hx9 := x.kd.isLt
      cases d3 : ((x.kd.val : Int) != 3)
      · have k3 : decide (x.kd.val = 3) = true := decide_eq_true (by simp only [bne_eq_false_iff_eq] at d3; omega)
        have hfin := hL hx
        rw [hiff hx, k3, Bool.true_and] at hfin
        have ix := ixBo (h := hget []) (id := 0) (n := (r.map cRc).length) (k := k) (by omega)
        have st := (stBo (h := hget [(0, .cells (boL (bK L r.length k)))]) (id := 0) (k := k) (l := bK L r.length k) (x := (x.id == id)) rfl (by rw [bK_len hLl (by omega)]; exact hlt))
        refine ACode.vcM (.br 16 true <| .cells (cRc x) <| .br 24 false <| .cells (cRc x) <| .val 34 (.vptr 0 k) [] <| .val 1 .undef [(0, some (.cells (boL (sK L r.length k (x.id == id)))))] .loop) hn hlo (.roundW .cl) ⟨ltLen hlt, idx hx, d3, idx hx, Eq.trans (by kernel_rfl) ix, Eq.trans (by kernel_rfl) st, ?_⟩
        intro gg hn hlo2
        replace hn : gg.n = 90 := hn
        replace hlo2 : gg.low 0 := hlo2
        refine acode_whileW (fun p : Nat × Bool => ⟨[(0, encRs r), (1, .int .i64 id), (5, .rsl 0 0 (r.map cRc).length 1), (6, .int .i64 k), (7, .int .i64 p.1)], [(0, .cells (boL (sK L r.length k p.2)))], 1⟩) (fun p => p.1 ≤ x.ways.length ∧ p.2 = (x.id == id || (x.ways.take p.1).any (ofAny id H))) (fun p => x.ways.length - p.1) (0, (x.id == id)) ⟨Nat.zero_le _, by simp⟩ ?_ ?_
        · exact Wk.le (St.le.of ⟨by kernel_rfl, rfl, by kernel_rfl, rfl, by kernel_rfl, rfl, by kernel_rfl, rfl, by kernel_rfl, rfl, trivial⟩ ⟨by kernel_rfl, (by decide : (0 : Nat) < 1), boL_ok _ _, trivial⟩) (hlo2.mono (Nat.zero_le _))
        · rintro ⟨n, s⟩ ⟨hn1, hs⟩
          replace hn1 : n ≤ x.ways.length := hn1
          replace hs : s = (x.id == id || (x.ways.take n).any (ofAny id H)) := hs
          by_cases hnl : n < x.ways.length
          · refine Exists.elim (getE hnl) fun w hw => ?_
            have en := congrArg (AV.int .i64) (succ64 (k := n) (by omega))
            have hwm := List.mem_of_getElem? hw
            have hwl2 := hxw.2 w hwm
            refine ACode.vcM (.cells (cRc x) <| .br 42 true <| .loop) hn hlo2 (.roundW .cl) ⟨idx hx, ltLen hnl, ?_⟩
            intro gg hn hl3
            replace hn : gg.n = 90 := hn
            replace hl3 : gg.low 0 := hl3
            refine acode_whileW (fun p : Nat × Bool => ⟨[(0, encRs r), (1, .int .i64 id), (5, .rsl 0 0 (r.map cRc).length 1), (6, .int .i64 k), (7, .int .i64 n), (8, .int .i64 p.1)], [(0, .cells (boL (sK L r.length k p.2)))], 1⟩) (fun p => p.1 ≤ w.length ∧ p.2 = (s || (w.take p.1).any (ofOne id H))) (fun p => w.length - p.1) (0, s) ⟨Nat.zero_le _, by simp⟩ ?_ ?_
            · exact Wk.le (St.le.of ⟨by kernel_rfl, rfl, by kernel_rfl, rfl, by kernel_rfl, rfl, by kernel_rfl, rfl, by kernel_rfl, rfl, by kernel_rfl, rfl, trivial⟩ ⟨by kernel_rfl, (by decide : (0 : Nat) < 1), boL_ok _ _, trivial⟩) (hl3.mono (Nat.zero_le _))
            · rintro ⟨m, a⟩ ⟨hm1, hm2⟩
              replace hm1 : m ≤ w.length := hm1
              replace hm2 : a = (s || (w.take m).any (ofOne id H)) := hm2
              by_cases hml : m < w.length
              · refine Exists.elim (getE hml) fun v hv => ?_
                have em := congrArg (AV.int .i64) (succ64 (k := m) (by omega))
                have hnx : (s || (w.take (m + 1)).any (ofOne id H)) = (a || ofOne id H v) := by rw [any_take' hv, hm2, Bool.or_assoc]
                have ixk := ixBo (h := hget []) (id := 0) (n := (r.map cRc).length) (k := k) (by omega)
                have ldk := ldBo (h := hget [(0, .cells (boL (sK L r.length k a)))]) (id := 0) (k := k) (x := a) rfl (sK_at hLl hlt)
                have stf := fun (z : Bool) => (stBo (h := hget [(0, .cells (boL (sK L r.length k a)))]) (id := 0) (k := k) (l := sK L r.length k a) (x := z) rfl (by rw [sK_len hLl hlt]; exact hlt)).trans (by rw [sK_set])
                have stT := stf true
                cases a with
                | true =>
                  have st : true = (s || (w.take (m + 1)).any (ofOne id H)) := by rw [hnx]; rfl
                  exact ACode.vcM (.cells (cRc x) <| .cells (cW w) <| .br 55 true <| .cells (cRc x) <| .cells (cW w) <| .cells (encI v) <| .val 73 (.vptr 0 k) [] <| .val 74 (.bool true) [] <| .val 88 (.vptr 0 k) [] <| .val 1 .undef [(0, some (.cells (boL (sK L r.length k true))))] .nil) hn hl3 (.roundW .cl) ⟨idx hx, idx hw, ltLen hml, idx hx, idx hw, idx hv, Eq.trans (by kernel_rfl) ixk, Eq.trans (by kernel_rfl) ldk, Eq.trans (by kernel_rfl) ixk, Eq.trans (by kernel_rfl) stT, (m + 1, true), ⟨hml, st⟩, mu1 hml, Wk.le (St.le.of ⟨by kernel_rfl, rfl, by kernel_rfl, rfl, by kernel_rfl, rfl, by kernel_rfl, rfl, by kernel_rfl, rfl, Eq.trans (by kernel_rfl) em, rfl, trivial⟩ ⟨by kernel_rfl, (by decide : (0 : Nat) < 1), boL_ok _ _, trivial⟩) (hl3.mono (show 0 ≤ 1 by decide))⟩
                | false =>
                  cases hvi : (v == id) with
                  | true =>
                    have st : true = (s || (w.take (m + 1)).any (ofOne id H)) := by rw [hnx, hone, hvi]; rfl
                    exact ACode.vcM (.cells (cRc x) <| .cells (cW w) <| .br 55 true <| .cells (cRc x) <| .cells (cW w) <| .cells (encI v) <| .val 73 (.vptr 0 k) [] <| .val 74 (.bool false) [] <| .br 80 true <| .val 88 (.vptr 0 k) [] <| .val 1 .undef [(0, some (.cells (boL (sK L r.length k true))))] .nil) hn hl3 (.roundW .cl) ⟨idx hx, idx hw, ltLen hml, idx hx, idx hw, idx hv, Eq.trans (by kernel_rfl) ixk, Eq.trans (by kernel_rfl) ldk, hvi, Eq.trans (by kernel_rfl) ixk, Eq.trans (by kernel_rfl) stT, (m + 1, true), ⟨hml, st⟩, mu1 hml, Wk.le (St.le.of ⟨by kernel_rfl, rfl, by kernel_rfl, rfl, by kernel_rfl, rfl, by kernel_rfl, rfl, by kernel_rfl, rfl, Eq.trans (by kernel_rfl) em, rfl, trivial⟩ ⟨by kernel_rfl, (by decide : (0 : Nat) < 1), boL_ok _ _, trivial⟩) (hl3.mono (show 0 ≤ 1 by decide))⟩
                  | false =>
                    refine Exists.elim (ref_at hr hx hwm (List.mem_of_getElem? hv)) fun j hj => Exists.elim hj fun y hj => ?_
                    obtain ⟨hjk, hy, eyv, ef⟩ := hj
                    have sAt := At_spec r v (by omega)
                    rw [ef] at sAt
                    have ixj := ixBo (h := hget []) (id := 0) (n := (r.map cRc).length) (k := j) (by omega)
                    have bj : (sK L r.length k false)[j]? = some (H.contains v) := by rw [sK_lt hLl hlt hjk, hL hy, eyv]
                    have ldj := ldBo (h := hget [(0, .cells (boL (sK L r.length k false)))]) (id := 0) rfl bj
                    have st : H.contains v = (s || (w.take (m + 1)).any (ofOne id H)) := by rw [hnx, hone, hvi]; rfl
                    have stB := stf (H.contains v)
                    generalize H.contains v = b at *
                    exact ACode.vcM (.cells (cRc x) <| .cells (cW w) <| .br 55 true <| .cells (cRc x) <| .cells (cW w) <| .cells (encI v) <| .val 73 (.vptr 0 k) [] <| .val 74 (.bool false) [] <| .br 80 false <| .call (.int .i64 (j : Int)) <| .val 85 (.vptr 0 j) [] <| .val 86 (.bool b) [] <| .val 88 (.vptr 0 k) [] <| .val 1 .undef [(0, some (.cells (boL (sK L r.length k b))))] .nil) hn hl3 (.roundW .cl) ⟨idx hx, idx hw, ltLen hml, idx hx, idx hw, idx hv, Eq.trans (by kernel_rfl) ixk, Eq.trans (by kernel_rfl) ldk, hvi, sAt, Eq.trans (by kernel_rfl) ixj, Eq.trans (by kernel_rfl) ldj, Eq.trans (by kernel_rfl) ixk, Eq.trans (by kernel_rfl) stB, (m + 1, b), ⟨hml, st⟩, mu1 hml, Wk.le (St.le.of ⟨by kernel_rfl, rfl, by kernel_rfl, rfl, by kernel_rfl, rfl, by kernel_rfl, rfl, by kernel_rfl, rfl, Eq.trans (by kernel_rfl) em, rfl, trivial⟩ ⟨by kernel_rfl, (by decide : (0 : Nat) < 1), boL_ok _ _, trivial⟩) (hl3.mono (show 0 ≤ 1 by decide))⟩
              · have hm' : m = w.length := by omega
                have st : a = (x.id == id || (x.ways.take (n + 1)).any (ofAny id H)) := by
                  rw [hm2, hm', List.take_length, any_take' hw, ← Bool.or_assoc, ← hs]; rfl
                exact ACode.vcM (.cells (cRc x) <| .cells (cW w) <| .br 55 false .nil) hn hl3 (.roundW .cl) ⟨idx hx, idx hw, geLen hml, _, .refl _, .nil, (n + 1, a), ⟨hnl, st⟩, mu1 hnl, Wk.le (St.le.of ⟨by kernel_rfl, rfl, by kernel_rfl, rfl, by kernel_rfl, rfl, by kernel_rfl, rfl, Eq.trans (by kernel_rfl) en, rfl, trivial⟩ ⟨by kernel_rfl, (by decide : (0 : Nat) < 1), boL_ok _ _, trivial⟩) (hlo2.mono (show 0 ≤ 1 by decide))⟩
          · have hn' : n = x.ways.length := by omega
            have hst : L[k]? = some s := by rw [hfin, hs, hn', List.take_length]
            have c1 : some (AObj.cells (boL (sK L r.length k s))) = some (.cells (boL (bK L r.length (k + 1)))) := by rw [sK_end hLl hlt hst]
            exact ACode.vcM (.cells (cRc x) <| .br 42 false .nil) hn hlo2 (.roundW .cl) ⟨idx hx, geLen hnl, _, .refl _, .nil, k + 1, hlt, mu1 hlt, Wk.le (St.le.of ⟨by kernel_rfl, rfl, by kernel_rfl, rfl, by kernel_rfl, rfl, Eq.trans (by kernel_rfl) ek, rfl, trivial⟩ ⟨Eq.trans (by kernel_rfl) c1, (by decide : (0 : Nat) < 1), boL_ok _ _, trivial⟩) (hlo.mono (show 0 ≤ 1 by decide))⟩
      · have k3 : decide (x.kd.val = 3) = false := decide_eq_false (by simp only [bne_iff_ne] at d3; omega)
        have hfin := hL hx
        rw [hiff hx, k3, Bool.false_and] at hfin
        have c1 : some (AObj.cells (boL (bK L r.length k))) = some (.cells (boL (bK L r.length (k + 1)))) := by rw [bK_same hLl hlt hfin]
        exact ACode.vcM (.br 16 true <| .cells (cRc x) <| .br 24 true .nil) hn hlo (.roundW .cl) ⟨ltLen hlt, idx hx, d3, k + 1, hlt, mu1 hlt, Wk.le (St.le.of ⟨by kernel_rfl, rfl, by kernel_rfl, rfl, by kernel_rfl, rfl, Eq.trans (by kernel_rfl) ek, rfl, trivial⟩ ⟨Eq.trans (by kernel_rfl) c1, (by decide : (0 : Nat) < 1), boL_ok _ _, trivial⟩) (hlo.mono (show 0 ≤ 1 by decide))⟩
    · have hk' : k = r.length := by omega
      have e : bK L r.length k = L := by rw [hk', bK_all hLl]
      have h2 := thaw_fl 6 (h := hget [(0, .cells (boL (bK L r.length k)))]) (id := 0) (enc := encBo) (n := 1) (l := bK L r.length k) (fun _ => rfl) (fun _ => rfl) rfl
      have ht : thaw 8 (hget [(0, .cells (boL (bK L r.length k)))]) (.rsl 0 0 (r.map cRc).length 1) = some (encBs L, [0]) := by
        rw [bK_len hLl hk, ← hlen] at h2
        rw [hlen] at h2 ⊢
        rw [h2, e]; rfl
      exact ACode.vcM (.br 16 false .nil) hn hlo (.roundW .cl) ⟨geLen hlt, _, .refl _, .nil, [0], Eq.trans (by kernel_rfl) ht⟩
end Go.Proofs.Ytmdhgkfjlphliaa
