import Derived.Test.YticiopkiikcokaaT53
namespace Go.Proofs.Yticiopkiikcokaa
open Go Go.Am
theorem flR_get {q : Rw} : ∀ (l : List Rw) (k : Nat), l[k]? = some q → (fl encRw l)[k * 2]? = some (.lst 1 (q.deg.map encD)) := by
  intro l
  induction l with
  | nil => intro k h; simp at h
  | cons a l ih =>
    intro k h
    have ea : fl encRw (a :: l) = AV.lst 1 (a.deg.map encD) :: AV.int .i64 a.press :: fl encRw l := rfl
    cases k with
    | zero => simp at h; subst h; rw [ea]; rfl
    | succ k =>
      have e : (k + 1) * 2 = k * 2 + 1 + 1 := by omega
      rw [ea, e, List.getElem?_cons_succ, List.getElem?_cons_succ]
      exact ih k (by simpa using h)
theorem ixR {h : Nat → Option AObj} {n k : Nat} (hk : k < n) : aindexAddr Try.prog h 24 (.rsl 9 0 n 2) (.int .i64 (k : Int)) = some (.vptr 9 (0 + k * 2)) := by
  simp only [aindexAddr, ty24, ty89]
  rw [if_pos ⟨trivial, Int.natCast_nonneg _, by simpa using hk⟩]; rfl
theorem ldR {h : Nat → Option AObj} {l : List Rw} {q : Rw} {k : Nat} (h0 : h 9 = some (.cells (fl encRw l))) (hq : l[k]? = some q) : aLoad Try.prog h 87 (.vptr 9 (0 + k * 2)) = some ⟨.lst 1 (q.deg.map encD), []⟩ := by
  have e : ((fl encRw l).drop (0 + k * 2))[0]? = some (.lst 1 (q.deg.map encD)) := by
    rw [List.getElem?_drop]
    have : 0 + k * 2 + 0 = k * 2 := by omega
    rw [this]; exact flR_get l k hq
  have ha : (TD.slice 3).agg = false := rfl
  simp only [aLoad, ty87, h0, aread, ha, Bool.false_eq_true, if_false, e, Option.map_some]
theorem stR {h : Nat → Option AObj} {cs : List AV} {off n id : Nat} (h0 : h 9 = some (.cells cs)) (hl : off + 1 ≤ cs.length) : aStore Try.prog h 87 (.vptr 9 off) (.rsl id 0 n 1) = some ⟨.undef, [(9, some (.cells (cs.set off (.rsl id 0 n 1))))]⟩ := by
  simp only [aStore, ty87, acells, h0]
  rw [if_pos ⟨rfl, hl, rfl⟩]; rfl
def Z28 : List AV := [.int .i64 0, .nil, .nil, .nil, .int .i64 0, .int .i64 0]
def twL (r : Rn) : List AV := [.int .i64 r.id, .rsl 3 0 r.curve.length 2, .rsl 6 0 r.cps.length 6, .rsl 9 0 r.rows.length 2, .int .i64 r.gLo, .int .i64 r.gHi]
theorem thaw_tw {h : Nat → Option AObj} {r : Rn} (h3 : h 3 = some (.cells (fl encPt r.curve))) (h6 : h 6 = some (.cells (fl encCp r.cps))) (h9 : h 9 = some (.cells (fl encRw r.rows))) : thaw 8 h (.agg (twL r)) = some (encRn r, [3, 6, 9]) := by
  have e : thaw 8 h (.agg (twL r)) = (mapO (thaw 7 h) (twL r)).map fun p => (.agg p.1, p.2) := rfl
  have i1 : ∀ n : Int, thaw 7 h (.int .i64 n) = some (.int .i64 n, []) := fun _ => rfl
  have t3 := thaw_fl (n := 2) (d := 5) (fun _ => rfl) (fun _ => rfl) h3
  have t6 := thaw_fl (n := 6) (d := 5) (fun _ => rfl) (fun _ => rfl) h6
  have t9 := thaw_fl (n := 2) (d := 5) (fun _ => rfl) (fun _ => rfl) h9
  rw [e]
  simp only [twL, mapO, i1, t3, t6, t9, Option.map_some, List.nil_append, List.append_nil, List.cons_append]
  rfl
set_option maxHeartbeats 16000000 in
set_option maxRecDepth 100000 in
theorem Twin_spec (r : Rn) (h1 : r.curve.length ≤ 1000) (h2 : r.cps.length ≤ 1000) (h3 : r.rows.length ≤ 1000) (h4 : ∀ q ∈ r.rows, q.deg.length ≤ 1000) : APure Try.prog 15 [encRn r] (encRn r) := by
  have a1 := app22 (h := hget [(0, .cells (runL r)), (1, .cells Z28), (2, .cells [])]) (i := 2) (nid := 3) (l := r.curve) rfl h1
  have a2 := app23 (h := hget [(5, .cells [])]) (i := 5) (nid := 6) (l := r.cps) rfl h2
  have a3 := app24 (h := hget [(8, .cells [])]) (i := 8) (nid := 9) (l := r.rows) rfl h3
  obtain ⟨R, hR⟩ : ∃ R, R = fl encRw r.rows := ⟨_, rfl⟩
  have hRl : R.length = r.rows.length * 2 := by rw [hR]; exact fl_len (enc := encRw) (n := 2) (fun _ => rfl) _
  have hRok : okL 11 R = true := by rw [hR]; exact fl_ok (fun _ => rfl) _
  have hth : thaw 8 (hget [(0, .cells (twL r)), (1, .cells (twL r)), (3, .cells (fl encPt r.curve)), (6, .cells (fl encCp r.cps)), (9, .cells R)]) (.agg (twL r)) = some (encRn r, [3, 6, 9]) := thaw_tw rfl rfl (by rw [hR]; rfl)
  have o3 : okL 11 (fl encPt r.curve) = true := fl_ok (fun _ => rfl) _
  have o6 : okL 11 (fl encCp r.cps) = true := fl_ok (fun _ => rfl) _
  rw [← hR] at a3
  refine APure.vcT Try.func15 (.val 7 (.rsl 3 0 r.curve.length 2) [(2, none), (3, some (.cells (fl encPt r.curve)))] <| .val 12 (.rsl 6 0 r.cps.length 6) [(5, none), (6, some (.cells (fl encCp r.cps)))] <| .val 17 (.rsl 9 0 r.rows.length 2) [(8, none), (9, some (.cells R))] .loop) rfl rfl
    ⟨Eq.trans (by kernel_rfl) a1, Eq.trans (by kernel_rfl) a2, Eq.trans (by kernel_rfl) a3, ?_⟩
  intro g hn hl
  replace hn : g.n = 40 := hn
  replace hl : g.low 0 := hl
  refine acode_whileW (fun k : Nat => ⟨[(1, .vptr 0 0), (2, .vptr 1 0), (3, .int .i64 k)], [(0, .cells (twL r)), (1, .cells Z28), (3, .cells (fl encPt r.curve)), (6, .cells (fl encCp r.cps)), (9, .cells R)], 11⟩) (fun k => k ≤ r.rows.length) (fun k => r.rows.length - k) 0 (Nat.zero_le _) (Wk.le ?_ (hl.mono (Nat.zero_le _))) ?_
  · exact St.le.of ⟨rfl, rfl, rfl, rfl, rfl, rfl, trivial⟩ ⟨by kernel_rfl, (by decide : (0 : Nat) < 11), rfl, by kernel_rfl, (by decide : (1 : Nat) < 11), rfl, by kernel_rfl, (by decide : (3 : Nat) < 11), o3, by kernel_rfl, (by decide : (6 : Nat) < 11), o6, by kernel_rfl, (by decide : (9 : Nat) < 11), hRok, trivial⟩
  · intro k hk
    by_cases hlt : k < r.rows.length
    · refine Exists.elim (getE hlt) fun q hq => ?_
      have e1 := succ64 (k := k) (by omega)
      have ix := congrArg (Option.map fun v => (⟨v, []⟩ : Out)) (ixR (h := hget []) hlt)
      have ld := ldR (h := hget [(9, .cells R)]) (l := r.rows) (q := q) (k := k) (by rw [hR]; rfl) hq
      have ap := app87 (h := hget [(14, .cells [])]) (i := 14) (nid := 21) (l := q.deg) rfl (h4 q (List.mem_of_getElem? hq))
      have st := stR (h := hget [(9, .cells R)]) (cs := R) (off := 0 + k * 2) (n := q.deg.length) (id := 21) rfl (by omega)
      have hset : ∀ (i : Nat) (x : AV), R[i]? = some x → ((R.set (0 + k * 2) (.rsl 21 0 q.deg.length 1))[i]? = some x ∧ x.ok 11 = true) ∨ ∃ n, (R.set (0 + k * 2) (.rsl 21 0 q.deg.length 1))[i]? = some (.rsl 21 0 n 1) ∧ x = .lst 1 (chunks 1 (fl encD q.deg) n) ∧ n * 1 ≤ (fl encD q.deg).length := fun i x hx => by
        by_cases e : 0 + k * 2 = i
        · right
          have hx' : x = .lst 1 (q.deg.map encD) := by
            have := flR_get r.rows k hq
            rw [← hR] at this
            have e' : k * 2 = i := by omega
            rw [e', hx] at this
            exact Option.some.inj this
          refine ⟨q.deg.length, ?_, by rw [hx', fl_chunks (enc := encD) (fun _ => rfl)], by rw [fl_len (enc := encD) (n := 1) (fun _ => rfl)]; omega⟩
          rw [← e, List.getElem?_set_self (by omega)]
        · left
          exact ⟨by rw [List.getElem?_set_ne e]; exact hx, okL_get hRok hx⟩
      exact ACode.vc (.br 23 true <| .draw 11 <| .val 33 (.vptr 9 (0 + k * 2)) [] <| .val 35 (.lst 1 (q.deg.map encD)) [] <| .val 36 (.rsl 21 0 q.deg.length 1) [(14, none), (21, some (.cells (fl encD q.deg)))] <| .val 37 (.vptr 9 (0 + k * 2)) [] <| .val 1 .undef [(9, some (.cells (R.set (0 + k * 2) (.rsl 21 0 q.deg.length 1))))] .nil) hn hl (.roundW .cl)
        ⟨decide_eq_true (Int.ofNat_lt.2 hlt), by kernel_rfl, mixed, by kernel_rfl, Eq.trans (by kernel_rfl) ix, Eq.trans (by kernel_rfl) ld, Eq.trans (by kernel_rfl) ap, by kernel_rfl, Eq.trans (by kernel_rfl) ix, Eq.trans (by kernel_rfl) st, k + 1, hlt, mu1 hlt,
          Wk.frz (c := 11) (id := 21) (esz := 1) (cs := fl encD q.deg) (St.frz.of rfl (by decide) (by kernel_rfl) (fl_ok (fun _ => rfl) _) ⟨by kernel_rfl, rfl, by kernel_rfl, rfl, Eq.trans (by kernel_rfl) (congrArg (AV.int .i64) e1), rfl, trivial⟩
            ⟨⟨(by decide : (0 : Nat) < 11), .inl ⟨by kernel_rfl, rfl⟩⟩, ⟨(by decide : (1 : Nat) < 11), .inl ⟨by kernel_rfl, rfl⟩⟩, ⟨(by decide : (3 : Nat) < 11), .inl ⟨by kernel_rfl, o3⟩⟩, ⟨(by decide : (6 : Nat) < 11), .inl ⟨by kernel_rfl, o6⟩⟩, ⟨(by decide : (9 : Nat) < 11), .inr ⟨R, R.set (0 + k * 2) (.rsl 21 0 q.deg.length 1), rfl, by kernel_rfl, by simp, hset⟩⟩, trivial⟩) (hl.mono (Nat.zero_le _))⟩
    · have hk' : k = r.rows.length := by omega
      exact ACode.vc (.br 23 false .nil) hn hl (.roundW .cl) ⟨decide_eq_false (fun h => hlt (Int.ofNat_lt.1 h)), _, .refl _, .nil, [3, 6, 9], Eq.trans (by kernel_rfl) hth⟩
end Go.Proofs.Yticiopkiikcokaa
