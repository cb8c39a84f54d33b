import Derived.Test.YticiopkiikcokaaPU
/-
  THE LAW OF WIDER ERRORS AND LAGS: the whole call.
-/
namespace Go.Proofs.Yticiopkiikcokaa
open Go Go.Am Go.Srt
theorem ixR2 {h : Nat → Option AObj} {id n k : Nat} (hk : k < n) : (aindexAddr Try.prog h 24 (.rsl id 0 n 2) (.int .i64 (k : Int))).map (fun v => (⟨v, []⟩ : Out)) = some ⟨.vptr id (0 + k * 2), []⟩ := by
  simp only [aindexAddr, ty24, ty89]
  rw [if_pos ⟨trivial, Int.natCast_nonneg _, by simpa using hk⟩]; rfl
theorem ldR2 {h : Nat → Option AObj} {id : Nat} {l : List Rw} {q : Rw} {k : Nat} (h0 : h id = some (.cells (fl encRw l))) (hq : l[k]? = some q) : aLoad Try.prog h 87 (.vptr id (0 + k * 2)) = some ⟨.lst 1 (q.deg.map encD), []⟩ := by
  have e : ((fl encRw l).drop (0 + k * 2))[0]? = some (.lst 1 (q.deg.map encD)) := by
    rw [List.getElem?_drop]
    have : 0 + k * 2 + 0 = k * 2 := by omega
    rw [this]; exact flR_get l k hq
  have ha : (TD.slice 3).agg = false := rfl
  simp only [aLoad, ty87, h0, aread, ha, Bool.false_eq_true, if_false, e, Option.map_some]
theorem stR2 {h : Nat → Option AObj} {cs : List AV} {off n id oid : Nat} (h0 : h oid = some (.cells cs)) (hl : off + 1 ≤ cs.length) : aStore Try.prog h 87 (.vptr oid off) (.rsl id 0 n 1) = some ⟨.undef, [(oid, some (.cells (cs.set off (.rsl id 0 n 1))))]⟩ := by
  simp only [aStore, ty87, acells, h0]
  rw [if_pos ⟨rfl, hl, rfl⟩]; rfl
def tw10St (r : Rn) (u : Ru) (R : List AV) (k : Nat) : St := ⟨[(1, .vptr 2 0), (2, .vptr 3 0), (3, .int .i64 k)], [(0, .cells (runL r)), (1, .cells (ruL u)), (2, .cells (rnV r.cps.length r)), (3, .cells Z28), (5, .cells (fl encPt r.curve)), (8, .cells (fl encCp r.cps)), (11, .cells R)], 13⟩
set_option maxRecDepth 100000
set_option maxHeartbeats 8000000
theorem law10 (r : Rn) (u : Ru) (y : List Int) (hy : ∀ x ∈ y, 0 ≤ x ∧ x < 4294967296) : APure Try.prog 10 [encRn r, encRu u, .lst 1 (y.map encU)] (.bool true) := by
  have sR := ready_spec r u
  by_cases hrd : readyB r u = true
  · rw [hrd] at sR
    have hC := ready_out hrd
    have hr := runB_out (checkI_ok hC).1
    have hcl := hr.cl
    have hrl := hr.rl
    have h1 : r.curve.length ≤ 1000 := by have := hr.curve; simp only [curveB, Bool.and_eq_true, within_iff] at this; omega
    have h4 : ∀ q ∈ r.rows, q.deg.length ≤ 1000 := fun q hq => by
      obtain ⟨i, hi, e⟩ := List.getElem_of_mem hq
      have := (hr.row i q (by rw [List.getElem?_eq_getElem hi, e])).1
      omega
    have a1 := app22 (h := hget [(4, .cells [])]) (i := 4) (nid := 5) (l := r.curve) rfl h1
    have a2 := app23 (h := hget [(7, .cells [])]) (i := 7) (nid := 8) (l := r.cps) rfl (by omega)
    have a3 := app24 (h := hget [(10, .cells [])]) (i := 10) (nid := 11) (l := r.rows) rfl (by omega)
    obtain ⟨R, hR⟩ : ∃ R, R = fl encRw r.rows := ⟨_, rfl⟩
    have hRl : R.length = r.rows.length * 2 := by rw [hR]; exact fl_len (enc := encRw) (n := 2) (fun _ => rfl) _
    have hRok : okL 13 R = true := by rw [hR]; exact fl_ok (fun _ => rfl) _
    have hRok' : okL 15 R = true := by rw [hR]; exact fl_ok (fun _ => rfl) _
    have o5 : okL 13 (fl encPt r.curve) = true := fl_ok (fun _ => rfl) _
    have o8 : okL 13 (fl encCp r.cps) = true := fl_ok (fun _ => rfl) _
    have o5' : okL 15 (fl encPt r.curve) = true := fl_ok (fun _ => rfl) _
    have o8' : okL 15 (fl encCp r.cps) = true := fl_ok (fun _ => rfl) _
    rw [← hR] at a3
    have eW : (⟨[(2, .lst 1 (y.map encU)), (3, .vptr 0 0), (4, .vptr 1 0), (7, .bool true), (8, .vptr 14 0)], [(0, .cells (runL r)), (1, .cells (ruL u)), (5, .cells (fl encPt r.curve)), (8, .cells (fl encCp r.cps)), (11, .cells R), (14, .cells (rnV r.cps.length r))], 15⟩ : St) = ⟨[(2, .lst 1 (y.map encU)), (3, .vptr 0 0), (4, .vptr 1 0), (7, .bool true), (8, .vptr 14 0)], [(0, .cells (runL r)), (1, .cells (ruL u)), (5, .cells (fl encPt r.curve)), (8, .cells (fl encCp r.cps)), (11, .cells (fl encRw r.rows)), (14, .cells (rnV r.cps.length r))], 15⟩ := by rw [hR]
    refine APure.intro Try.func10 rfl (by kernel_rfl) rfl fun g hn hlo0 => ?_
    replace hn : g.n = 236 := hn
    refine ACode.cut 4 (fun _ : Unit => ⟨[(2, .lst 1 (y.map encU)), (3, .vptr 0 0), (4, .vptr 1 0), (7, .bool true), (8, .vptr 14 0)], [(0, .cells (runL r)), (1, .cells (ruL u)), (5, .cells (fl encPt r.curve)), (8, .cells (fl encCp r.cps)), (11, .cells R), (14, .cells (rnV r.cps.length r))], 15⟩) (fun _ => True) (.call (.bool true) <| .call (.bool true) <| .inl Try.f15 <| .val 7 (.rsl 5 0 r.curve.length 2) [(4, none), (5, some (.cells (fl encPt r.curve)))] <| .val 12 (.rsl 8 0 r.cps.length 6) [(7, none), (8, some (.cells (fl encCp r.cps)))] <| .val 17 (.rsl 11 0 r.rows.length 2) [(10, none), (11, some (.cells R))] .loop) hn hlo0 .ret rfl
      ⟨alive_spec, sR, Try.func15, Eq.trans (by kernel_rfl) a1, Eq.trans (by kernel_rfl) a2, Eq.trans (by kernel_rfl) a3, ?_⟩ fun _ _ => eW ▸ wi1 hy hr hC hn hlo0
    intro g' hn' hl'
    replace hn' : g'.n = 40 := hn'
    replace hl' : g'.low 2 := hl'
    refine acode_whileW (fun k : Nat => tw10St r u R k) (fun k => k ≤ r.rows.length) (fun k => r.rows.length - k) 0 (Nat.zero_le _) (Wk.le ?_ (hl'.mono (by decide : 2 ≤ 13))) ?_
    · exact St.le.of ⟨rfl, rfl, rfl, rfl, rfl, rfl, trivial⟩ ⟨by kernel_rfl, (by decide : (0 : Nat) < 13), rfl, by kernel_rfl, (by decide : (1 : Nat) < 13), rfl, by kernel_rfl, (by decide : (2 : Nat) < 13), rfl, by kernel_rfl, (by decide : (3 : Nat) < 13), rfl, by kernel_rfl, (by decide : (5 : Nat) < 13), o5, by kernel_rfl, (by decide : (8 : Nat) < 13), o8, by kernel_rfl, (by decide : (11 : Nat) < 13), hRok, trivial⟩
    · intro k hk
      by_cases hlt : k < r.rows.length
      · refine Exists.elim (getE hlt) fun q hq => ?_
        have e1 := succ64 (k := k) (by omega)
        have ix := ixR2 (h := hget []) (id := 11) hlt
        have ld := ldR2 (h := hget [(11, .cells R)]) (id := 11) (l := r.rows) (q := q) (k := k) (by rw [hR]; rfl) hq
        have ap := app87 (h := hget [(16, .cells [])]) (i := 16) (nid := 23) (l := q.deg) rfl (h4 q (List.mem_of_getElem? hq))
        have st := stR2 (h := hget [(11, .cells R)]) (oid := 11) (cs := R) (off := 0 + k * 2) (n := q.deg.length) (id := 23) rfl (by omega)
        have hset : ∀ (i : Nat) (x : AV), R[i]? = some x → ((R.set (0 + k * 2) (.rsl 23 0 q.deg.length 1))[i]? = some x ∧ x.ok 13 = true) ∨ ∃ n, (R.set (0 + k * 2) (.rsl 23 0 q.deg.length 1))[i]? = some (.rsl 23 0 n 1) ∧ x = .lst 1 (chunks 1 (fl encD q.deg) n) ∧ n * 1 ≤ (fl encD q.deg).length := fun i x hx => by
          by_cases e : 0 + k * 2 = i
          · right
            have hx' : x = .lst 1 (q.deg.map encD) := by
              have := flR_get r.rows k hq
              rw [← hR] at this
              have e' : k * 2 = i := by omega
              rw [e', hx] at this
              exact Option.some.inj this
            refine ⟨q.deg.length, ?_, by rw [hx', fl_chunks (enc := encD) (fun _ => rfl)], by rw [fl_len (enc := encD) (n := 1) (fun _ => rfl)]; omega⟩
            rw [← e, List.getElem?_set_self (by omega)]
          · left
            exact ⟨by rw [List.getElem?_set_ne e]; exact hx, okL_get hRok hx⟩
        exact ACode.vcM (.br 23 true <| .draw 11 <| .val 33 (.vptr 11 (0 + k * 2)) [] <| .val 35 (.lst 1 (q.deg.map encD)) [] <| .val 36 (.rsl 23 0 q.deg.length 1) [(16, none), (23, some (.cells (fl encD q.deg)))] <| .val 37 (.vptr 11 (0 + k * 2)) [] <| .val 1 .undef [(11, some (.cells (R.set (0 + k * 2) (.rsl 23 0 q.deg.length 1))))] .nil) hn' hl' (.roundW .cl)
          ⟨decide_eq_true (Int.ofNat_lt.2 hlt), by kernel_rfl, mixed, by kernel_rfl, Eq.trans (by kernel_rfl) ix, Eq.trans (by kernel_rfl) ld, Eq.trans (by kernel_rfl) ap, by kernel_rfl, Eq.trans (by kernel_rfl) ix, Eq.trans (by kernel_rfl) st, k + 1, hlt, mu1 hlt,
            Wk.frz (c := 13) (id := 23) (esz := 1) (cs := fl encD q.deg) (St.frz.of rfl (by decide) (by kernel_rfl) (fl_ok (fun _ => rfl) _) ⟨by kernel_rfl, rfl, by kernel_rfl, rfl, Eq.trans (by kernel_rfl) (congrArg (AV.int .i64) e1), rfl, trivial⟩
              ⟨⟨(by decide : (0 : Nat) < 13), .inl ⟨by kernel_rfl, rfl⟩⟩, ⟨(by decide : (1 : Nat) < 13), .inl ⟨by kernel_rfl, rfl⟩⟩, ⟨(by decide : (2 : Nat) < 13), .inl ⟨by kernel_rfl, rfl⟩⟩, ⟨(by decide : (3 : Nat) < 13), .inl ⟨by kernel_rfl, rfl⟩⟩, ⟨(by decide : (5 : Nat) < 13), .inl ⟨by kernel_rfl, o5⟩⟩, ⟨(by decide : (8 : Nat) < 13), .inl ⟨by kernel_rfl, o8⟩⟩, ⟨(by decide : (11 : Nat) < 13), .inr ⟨R, R.set (0 + k * 2) (.rsl 23 0 q.deg.length 1), rfl, by kernel_rfl, by simp, hset⟩⟩, trivial⟩) (hl'.mono (by decide : 2 ≤ 13))⟩
      · have hk' : k = r.rows.length := by omega
        exact ACode.vcM (.br 23 false .nil) hn' hl' (.roundW .cl) ⟨decide_eq_false (fun h => hlt (Int.ofNat_lt.1 h)), _, .refl _, .nil, (), trivial,
          Wk.le (St.le.of ⟨by kernel_rfl, rfl, by kernel_rfl, rfl, by kernel_rfl, rfl, by kernel_rfl, rfl, by kernel_rfl, rfl, trivial⟩ ⟨by kernel_rfl, (by decide : (0 : Nat) < 15), by kernel_rfl, by kernel_rfl, (by decide : (1 : Nat) < 15), by kernel_rfl, by kernel_rfl, (by decide : (5 : Nat) < 15), o5', by kernel_rfl, (by decide : (8 : Nat) < 15), o8', by kernel_rfl, (by decide : (11 : Nat) < 15), hRok', by kernel_rfl, (by decide : (14 : Nat) < 15), rfl, trivial⟩) (hlo0.mono (Nat.zero_le _))⟩
  · have hrd' : readyB r u = false := by simpa using hrd
    rw [hrd'] at sR
    exact APure.vc Try.func10 rfl (.call (.bool true) <| .call (.bool false) .nil) rfl rfl ⟨alive_spec, sR, rB rfl⟩
end Go.Proofs.Yticiopkiikcokaa
