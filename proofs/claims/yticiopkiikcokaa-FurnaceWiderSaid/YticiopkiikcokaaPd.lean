import Derived.Test.YticiopkiikcokaaPb
namespace Go.Proofs.Yticiopkiikcokaa
open Go Go.Am
/-- A map from some whole numbers to true. -/
def wkL (l : List Nat) : List (AV × AV) := l.map fun (i : Nat) => (AV.int .i64 (i : Int), AV.bool true)
theorem wkL_append (l : List Nat) (k : Nat) : wkL l ++ [(.int .i64 (k : Int), .bool true)] = wkL (l ++ [k]) := by simp [wkL]
theorem afind_wk (P : Program) (k : Nat) : ∀ (l : List Nat) (s : Nat), afind P 3 (.int .i64) (.int .i64 (k : Int)) (wkL l) s = some (if k ∈ l then some (l.idxOf k + s, .bool true) else none) := by
  intro l
  induction l with
  | nil => intro s; rfl
  | cons i l ih =>
    intro s
    have e : afind P 3 (.int .i64) (.int .i64 (k : Int)) (wkL (i :: l)) s = match (if (IntKind.i64) = .i64 then some ((k : Int) == (i : Int)) else none) with
      | some true => some (some (s, .bool true))
      | some false => afind P 3 (.int .i64) (.int .i64 (k : Int)) (wkL l) (s + 1)
      | none => none := rfl
    rw [e, if_pos rfl]
    by_cases h : k = i
    · subst h; simp
    · have h1 : ((k : Int) == (i : Int)) = false := by rw [beq_eq_false_iff_ne]; omega
      rw [h1]
      simp only []
      rw [ih (s + 1)]
      have h2 : ¬ i = k := fun e => h e.symm
      by_cases hm : k ∈ l
      · rw [if_pos hm, if_pos (List.mem_cons_of_mem _ hm), List.idxOf_cons, beq_eq_false_iff_ne.2 h2, cond_false]
        have e : List.idxOf k l + (s + 1) = List.idxOf k l + 1 + s := by omega
        rw [e]
      · rw [if_neg hm, if_neg (by simp [hm, h])]
theorem akI (k : Int) : akeyB Try.prog (.int .i64) (.int .i64 k) = true := rfl
theorem wkL_erase {k : Nat} : ∀ l : List Nat, l.Nodup → k ∈ l → (wkL l).eraseIdx (l.idxOf k) = wkL (l.filter (fun i => i != k)) := by
  intro l
  induction l with
  | nil => intro _ h; cases h
  | cons i l ih =>
    intro hn hk
    have hn' := List.nodup_cons.1 hn
    rw [List.idxOf_cons]
    by_cases h : i = k
    · subst h
      have : l.filter (fun j => j != i) = l := List.filter_eq_self.2 fun j hj => by
        have : j ≠ i := fun e => hn'.1 (e ▸ hj)
        simpa using this
      simp [this, wkL]
    · have h1 : (i == k) = false := beq_eq_false_iff_ne.2 h
      have hk' : k ∈ l := by
        rcases List.mem_cons.1 hk with e | e
        · exact absurd e.symm h
        · exact e
      have := ih hn'.2 hk'
      simp only [h1, cond_false, wkL, List.map_cons, List.eraseIdx_cons_succ]
      rw [List.filter_cons_of_pos (by simpa using h)]
      simp only [List.map_cons, List.cons.injEq, true_and]
      exact this
theorem okE_wk (n : Nat) : ∀ l : List Nat, okE n (wkL l) = true := by
  intro l
  induction l with
  | nil => rfl
  | cons i l ih => show (okP n (.int .i64 (i : Int), .bool true) && okE n (wkL l)) = true; rw [ih]; rfl
theorem upd_wk {h : Nat → Option AObj} {l : List Nat} {k : Nat} (h0 : h 0 = some (.map (wkL l))) (hk : k ∉ l) : aMapUpdate Try.prog h 126 (.mref 0) (.int .i64 (k : Int)) (.bool true) = some ⟨.undef, [(0, some (.map (wkL (l ++ [k]))))]⟩ := by
  simp only [aMapUpdate, ty126, ty3, h0]
  rw [if_pos (akI _), afind_wk, if_neg hk]
  simp only [wkL_append]
theorem del_wk {h : Nat → Option AObj} {l : List Nat} {k : Nat} (h0 : h 0 = some (.map (wkL l))) (hn : l.Nodup) (hk : k ∈ l) : aDelete Try.prog h 126 (.mref 0) (.int .i64 (k : Int)) = some ⟨.undef, [(0, some (.map (wkL (l.filter fun i => i != k))))]⟩ := by
  simp only [aDelete, ty126, ty3, h0]
  rw [if_pos (akI _), afind_wk, if_pos hk]
  simp only [Nat.add_zero, wkL_erase l hn hk]
theorem look_wk {h : Nat → Option AObj} (l : List Nat) (k : Nat) : aLookup Try.prog h 126 (.imap (wkL l)) (.int .i64 (k : Int)) false = some (.bool (decide (k ∈ l))) := by
  have hz : azero Try.prog 4 = some (.bool false) := by kernel_rfl
  simp only [aLookup, ty126, ty3, amap]
  rw [if_pos (akI _), afind_wk, hz]
  by_cases hk : k ∈ l
  · simp [hk]
  · simp [hk]
theorem mapOE_wk (f : AV → Option (AV × List Nat)) (h1 : ∀ i : Int, f (.int .i64 i) = some (.int .i64 i, [])) (h2 : f (.bool true) = some (.bool true, [])) : ∀ l : List Nat, mapOE f (wkL l) = some (wkL l, []) := by
  intro l
  induction l with
  | nil => rfl
  | cons i l ih =>
    have : mapOE f ((.int .i64 (i : Int), .bool true) :: wkL l) = some (wkL (i :: l), []) := by
      simp only [mapOE, h1, h2, ih]; rfl
    exact this
theorem thaw_wk {h : Nat → Option AObj} {l : List Nat} (h0 : h 0 = some (.map (wkL l))) : thawF 8 h (.mref 0) = some (.imap (wkL l), [0]) := by
  have : mapOE (thawF 7 h) (wkL l) = some (wkL l, []) := mapOE_wk _ (fun i => rfl) rfl l
  have e : thawF 8 h (.mref 0) = (match h 0 with
    | some (.map es) => (match mapOE (thawF 7 h) es with | some (es', is) => some (.imap es', 0 :: is) | none => none)
    | _ => none) := rfl
  rw [e, h0]
  simp only [this]
/-- Does a couple work in a minute? -/
def wks (c : Cp) (m : Int) : Bool := !(decide (c.brk > 0) && decide (m ≥ c.brk))
def wkAt (r : Rn) (m : Int) (i : Nat) : Bool := match r.cps[i]? with
  | some c => wks c m
  | none => false
theorem wkAt_some {r : Rn} {m : Int} {i : Nat} {c : Cp} (h : r.cps[i]? = some c) : wkAt r m i = wks c m := by unfold wkAt; rw [h]
/-- The couples that work in a minute. -/
def wl (r : Rn) (m : Int) : List Nat := (List.range r.cps.length).filter (wkAt r m)
def wlK (r : Rn) (m : Int) (k : Nat) : List Nat := (List.range r.cps.length).filter fun i => decide (k ≤ i) || wkAt r m i
theorem wlK_zero (r : Rn) (m : Int) : wlK r m 0 = List.range r.cps.length := List.filter_eq_self.2 fun i _ => by simp
theorem wlK_end (r : Rn) (m : Int) : wlK r m r.cps.length = wl r m := List.filter_congr fun i hi => by
  have := List.mem_range.1 hi
  have : ¬ r.cps.length ≤ i := by omega
  simp [this]
theorem wlK_nodup (r : Rn) (m : Int) (k : Nat) : (wlK r m k).Nodup := List.nodup_range.filter _
theorem wlK_mem {r : Rn} {m : Int} {k : Nat} (hk : k < r.cps.length) : k ∈ wlK r m k := List.mem_filter.2 ⟨List.mem_range.2 hk, by simp⟩
theorem wlK_keep {r : Rn} {m : Int} {k : Nat} (h : wkAt r m k = true) : wlK r m (k + 1) = wlK r m k := List.filter_congr fun i _ => by
  by_cases e : i = k
  · subst e; simp [h]
  · have : (k + 1 ≤ i) ↔ (k ≤ i) := by omega
    simp [this]
theorem wlK_del {r : Rn} {m : Int} {k : Nat} (h : wkAt r m k = false) : (wlK r m k).filter (fun i => i != k) = wlK r m (k + 1) := by
  unfold wlK
  rw [List.filter_filter]
  refine List.filter_congr fun i _ => ?_
  by_cases e : i = k
  · subst e; simp [h]
  · have h1 : (k + 1 ≤ i) ↔ (k ≤ i) := by omega
    have h2 : (i != k) = true := by simpa using e
    simp [h1, h2]
set_option maxHeartbeats 8000000 in
set_option maxRecDepth 100000 in
theorem working_spec (r : Rn) (rest : List AV) (m : Int) (hc : r.cps.length ≤ 1000) : APureF Try.prog 75 [.cptr (runL r ++ rest), .int .i64 m] (.imap (wkL (wl r m))) := by
  refine APureF.vc Try.func75 .loop rfl rfl ?_
  intro g hn hl
  refine acode_while (fun k : Nat => ⟨[(0, .cptr (runL r ++ rest)), (1, .int .i64 m), (5, .mref 0), (15, .int .i64 (r.cps.map encCp).length), (16, .int .i64 k)], [(0, .map (wkL (List.range k)))], 1⟩) (fun k => k ≤ r.cps.length) (fun k => r.cps.length - k) 0 (Nat.zero_le _) ?_ (fun _ _ => hl.mono (Nat.zero_le _)) ?_
  · exact St.le.of ⟨rfl, rfl, rfl, rfl, rfl, rfl, rfl, rfl, rfl, rfl, trivial⟩ ⟨rfl, Nat.zero_lt_one, rfl, trivial⟩
  · intro k hk
    by_cases hlt : k < r.cps.length
    · refine ACode.vc (.br 17 true <| .val 0 .undef [(0, some (.map (wkL (List.range k ++ [k]))))] .nil) hn hl (.round .cl) ⟨ltLen hlt, upd_wk (h := hget [(0, .map (wkL (List.range k)))]) (l := List.range k) (k := k) rfl (by simp), k + 1, hlt, mu1 hlt, St.le.of ⟨rfl, rfl, rfl, rfl, rfl, rfl, rfl, rfl, congrArg _ (succ64 (by omega)), rfl, trivial⟩ ⟨?_, Nat.zero_lt_one, okE_wk _ _, trivial⟩⟩
      rw [List.range_succ]; rfl
    · refine ACode.vc (.br 17 false .nil) hn hl (.round .cl) ⟨geLen hlt, _, .refl _, .loop, ?_⟩
      have hk : k = r.cps.length := by omega
      subst hk
      intro g hn hl
      refine acode_while (fun k : Nat => ⟨[(0, .cptr (runL r ++ rest)), (1, .int .i64 m), (5, .mref 0), (27, .int .i64 (r.cps.map encCp).length), (28, .int .i64 k)], [(0, .map (wkL (wlK r m k)))], 1⟩) (fun k => k ≤ r.cps.length) (fun k => r.cps.length - k) 0 (Nat.zero_le _) ?_ (fun _ _ => hl.mono (Nat.zero_le _)) ?_
      · exact St.le.of ⟨rfl, rfl, rfl, rfl, rfl, rfl, rfl, rfl, rfl, rfl, trivial⟩ ⟨by rw [wlK_zero]; rfl, Nat.zero_lt_one, okE_wk _ _, trivial⟩
      · intro k hk
        by_cases hlt : k < r.cps.length
        · obtain ⟨c, hc'⟩ := getE hlt
          have keep : wks c m = true → some (AObj.map (wkL (wlK r m k))) = some (.map (wkL (wlK r m (k + 1)))) := fun h => by rw [wlK_keep (by rw [wkAt_some hc', h])]
          have del : wks c m = false → some (AObj.map (wkL ((wlK r m k).filter fun i => i != k))) = some (.map (wkL (wlK r m (k + 1)))) := fun h => by rw [wlK_del (by rw [wkAt_some hc', h])]
          refine ACode.vc (.br 29 true <| .cells (encCp c) <| .both 42 (.both 46 (.val 0 .undef [(0, some (.map (wkL ((wlK r m k).filter fun i => i != k))))] .nil) .nil) .nil) hn hl (.round .cl)
            ⟨ltLen hlt, idx hc', fun h1 => ⟨fun h2 => ⟨del_wk (h := hget [(0, .map (wkL (wlK r m k)))]) (l := wlK r m k) (k := k) rfl (wlK_nodup r m k) (wlK_mem hlt), k + 1, hlt, mu1 hlt, St.le.of ⟨rfl, rfl, rfl, rfl, rfl, rfl, rfl, rfl, congrArg _ (succ64 (by omega)), rfl, trivial⟩ ⟨del ?_, Nat.zero_lt_one, okE_wk _ _, trivial⟩⟩,
              fun h2 => ⟨k + 1, hlt, mu1 hlt, St.le.of ⟨rfl, rfl, rfl, rfl, rfl, rfl, rfl, rfl, congrArg _ (succ64 (by omega)), rfl, trivial⟩ ⟨keep ?_, Nat.zero_lt_one, okE_wk _ _, trivial⟩⟩⟩,
              fun h1 => ⟨k + 1, hlt, mu1 hlt, St.le.of ⟨rfl, rfl, rfl, rfl, rfl, rfl, rfl, rfl, congrArg _ (succ64 (by omega)), rfl, trivial⟩ ⟨keep ?_, Nat.zero_lt_one, okE_wk _ _, trivial⟩⟩⟩
          · simp at h1 h2; simp [wks, h1, h2]
          · simp at h1 h2; simp [wks, h1, h2]
          · simp at h1; simp [wks]; omega
        · have hk : k = r.cps.length := by omega
          refine ACode.vc (.br 29 false .nil) hn hl (.round .cl) ⟨geLen hlt, _, .refl _, .nil, [0], ?_⟩
          rw [← wlK_end, ← hk]
          exact thaw_wk rfl
theorem wl_len (r : Rn) (m : Int) : (wkL (wl r m)).length = (wl r m).length := by simp [wkL]
def blindB (r : Rn) (m : Int) : Bool := ((wkL (wl r m)).length : Int) == 0
set_option maxHeartbeats 8000000 in
set_option maxRecDepth 100000 in
theorem blind_spec (r : Rn) (rest : List AV) (m : Int) (hc : r.cps.length ≤ 1000) : APure Try.prog 52 [.cptr (runL r ++ rest), .int .i64 m] (.bool (blindB r m)) :=
  APure.vc Try.func52 rfl (.call (.imap (wkL (wl r m))) .nil) rfl rfl ⟨(working_spec r rest m hc).pure, rB rfl⟩
end Go.Proofs.Yticiopkiikcokaa
namespace Go.Proofs.Yticiopkiikcokaa
open Go Go.Am
/-! What a valid run is. -/
theorem cpOk_out {c : Cp} (h : cpOk c = true) : (0 ≤ c.id ∧ c.id ≤ 9999) ∧ (-50 ≤ c.eLo ∧ c.eLo ≤ c.eHi ∧ c.eHi ≤ 50) ∧ (0 ≤ c.lLo ∧ c.lLo ≤ c.lHi ∧ c.lHi ≤ 3) ∧ (0 ≤ c.brk ∧ c.brk ≤ 600) := by
  simp only [cpOk, Bool.and_eq_true, within_iff, spanB_iff] at h
  exact ⟨h.1, h.2.1, h.2.2.1, h.2.2.2⟩
structure RunOk (r : Rn) : Prop where
  curve : curveB r.curve = true
  cl : 1 ≤ r.cps.length ∧ r.cps.length ≤ 8
  rl : 1 ≤ r.rows.length ∧ r.rows.length ≤ 60
  last : (r.rows.length : Int) ≤ lastM r.curve
  cp : ∀ (k : Nat) (c : Cp), r.cps[k]? = some c → (0 ≤ c.id ∧ c.id ≤ 9999) ∧ (-50 ≤ c.eLo ∧ c.eLo ≤ c.eHi ∧ c.eHi ≤ 50) ∧ (0 ≤ c.lLo ∧ c.lLo ≤ c.lHi ∧ c.lHi ≤ 3) ∧ (0 ≤ c.brk ∧ c.brk ≤ 600)
  ids : ∀ (k : Nat) (b c : Cp), r.cps[k]? = some b → r.cps[k + 1]? = some c → b.id < c.id
  row : ∀ (i : Nat) (q : Rw), r.rows[i]? = some q → q.deg.length = r.cps.length ∧ (-100 ≤ q.press ∧ q.press ≤ 100) ∧ ∀ (k : Nat) (d : Int), q.deg[k]? = some d → 0 ≤ d ∧ d ≤ 2000
  gauge : -20 ≤ r.gLo ∧ r.gLo ≤ r.gHi ∧ r.gHi ≤ 20
theorem runB_out {r : Rn} (h : runB r = true) : RunOk r := by
  simp only [runB, Bool.and_eq_true] at h
  obtain ⟨h1, h2, h3, h4, h5, h6⟩ := h
  have h5' := within_iff.1 h5
  have hcap : cap60 (lastM r.curve) ≤ 60 ∧ cap60 (lastM r.curve) ≤ lastM r.curve := by unfold cap60; split <;> omega
  refine ⟨h2, cps_len h4, by omega, by omega, fun k c hc => ?_, fun k b c hb hc => ?_, fun i q hq => ?_, spanB_iff.1 h3⟩
  · simp only [cpsB, Bool.and_eq_true, List.all_eq_true, List.mem_range] at h4
    obtain ⟨hk, _⟩ := List.getElem?_eq_some_iff.1 hc
    have := h4.2 k hk
    unfold cpAt at this
    rw [hc] at this
    simp only [Bool.and_eq_true] at this
    exact cpOk_out this.1
  · simp only [cpsB, Bool.and_eq_true, List.all_eq_true, List.mem_range] at h4
    obtain ⟨hk, _⟩ := List.getElem?_eq_some_iff.1 hc
    have := h4.2 (k + 1) hk
    rw [cpAt_succ hc hb] at this
    simp only [Bool.and_eq_true, decide_eq_true_eq] at this
    exact this.2
  · simp only [rowsB, List.all_eq_true, List.mem_range] at h6
    obtain ⟨hi, _⟩ := List.getElem?_eq_some_iff.1 hq
    have := h6 i hi
    rw [rowAt_some hq] at this
    simp only [rowOk, Bool.and_eq_true, decide_eq_true_eq, within_iff, degsB, List.all_eq_true, List.mem_range] at this
    refine ⟨by omega, this.2.1, fun k d hd => ?_⟩
    obtain ⟨hk, _⟩ := List.getElem?_eq_some_iff.1 hd
    have := this.2.2 k hk
    rw [degAt_some hd] at this
    exact within_iff.1 this
/-! A temperature. -/
def rd (r : Rn) (i : Nat) (k : Nat) : Int := match r.rows[i]? with
  | some q => (q.deg[k]?).getD 0
  | none => 0
def lastOf (r : Rn) (c : Cp) : Int := if c.brk > 0 then (if c.brk - 1 < r.rows.length then c.brk - 1 else r.rows.length) else r.rows.length
/-- Which row a lag reads. -/
def rowIx (m lag last : Int) : Nat := ((if last < m + lag then last else m + lag) - 1).toNat
theorem rowIx_lt {m lag last : Int} {n : Nat} (h1 : 1 ≤ m) (h2 : 0 ≤ lag) (h3 : 1 ≤ last) (h4 : last ≤ n) : rowIx m lag last < n ∧ ((rowIx m lag last : Nat) : Int) = (if last < m + lag then last else m + lag) - 1 := by
  unfold rowIx; split <;> omega
theorem rd_get {r : Rn} (hr : RunOk r) {i k : Nat} (hi : i < r.rows.length) (hk : k < r.cps.length) : ∃ q d, r.rows[i]? = some q ∧ q.deg[k]? = some d ∧ rd r i k = d ∧ 0 ≤ d ∧ d ≤ 2000 := by
  obtain ⟨q, hq⟩ := getE hi
  obtain ⟨h1, _, h2⟩ := hr.row i q hq
  obtain ⟨d, hd⟩ := getE (show k < q.deg.length by omega)
  exact ⟨q, d, hq, hd, by unfold rd; rw [hq]; simp [hd], h2 k d hd⟩
set_option maxHeartbeats 8000000 in
set_option maxRecDepth 100000 in
theorem later_spec {r : Rn} (hr : RunOk r) (rest : List AV) {m lag last : Int} {k : Nat} (h1 : 1 ≤ m) (h1' : m ≤ 1000) (h2 : 0 ≤ lag) (h2' : lag ≤ 1000) (h3 : 1 ≤ last) (h4 : last ≤ r.rows.length) (hk : k < r.cps.length) :
    APure Try.prog 103 [.int .i64 lag, .cptr [.cptr (runL r ++ rest)], .cptr [.int .i64 m], .cptr [.int .i64 last], .cptr [.int .i64 k]] (.int .i64 (rd r (rowIx m lag last) k)) := by
  have hrl := hr.rl
  obtain ⟨hlt, he⟩ := rowIx_lt (lag := lag) h1 h2 h3 h4
  obtain ⟨q, d, hq, hd, e, _⟩ := rd_get hr hlt hk
  have ei : IntKind.i64.wrap ((if last < IntKind.i64.wrap (m + lag) then last else IntKind.i64.wrap (m + lag)) - 1) = ((rowIx m lag last : Nat) : Int) := by
    rw [wrap64 (n := m + lag) (by omega) (by omega), he]
    exact wrap64 (by split <;> omega) (by split <;> omega)
  rw [e]
  exact APure.vc Try.func103 rfl (.draw 15 <| .cells (encRw q) <| .cells (encD d) .nil) rfl rfl ⟨by kernel_rfl, mixed, by kernel_rfl, idxW ei hq, by kernel_rfl, idx hd, rI rfl⟩
/-! Sums of spans. -/
structure Sn where
  lo : Int
  hi : Int
def encS (s : Sn) : List AV := [.int .i64 s.lo, .int .i64 s.hi]
def sumTo (f : Sn → Int) (l : List Sn) (k : Nat) : Int := ((l.take k).map f).sum
theorem sumTo_succ {f : Sn → Int} {l : List Sn} {k : Nat} {s : Sn} (h : l[k]? = some s) : sumTo f l (k + 1) = sumTo f l k + f s := by
  unfold sumTo
  rw [List.take_add_one, h]; simp
theorem sumTo_le {f : Sn → Int} {l : List Sn} (h : ∀ s ∈ l, -1000000000 ≤ f s ∧ f s ≤ 1000000000) : ∀ k, k ≤ l.length → -1000000000 * (k : Int) ≤ sumTo f l k ∧ sumTo f l k ≤ 1000000000 * (k : Int) := by
  intro k
  induction k with
  | zero => intro _; simp [sumTo]
  | succ k ih =>
    intro hk
    obtain ⟨s, hs⟩ := getE (show k < l.length by omega)
    have h1 := ih (by omega)
    have h2 := h s (List.mem_of_getElem? hs)
    rw [sumTo_succ hs]
    omega
set_option maxHeartbeats 8000000 in
set_option maxRecDepth 100000 in
theorem sum_spec (l : List Sn) (hl1 : l.length ≤ 1000) (hb : ∀ s ∈ l, (-1000000000 ≤ s.lo ∧ s.lo ≤ 1000000000) ∧ (-1000000000 ≤ s.hi ∧ s.hi ≤ 1000000000)) :
    APure Try.prog 90 [.lst 2 (l.map encS)] (.agg [.int .i64 ((l.map Sn.lo).sum), .int .i64 ((l.map Sn.hi).sum)]) := by
  have hlo := sumTo_le (f := Sn.lo) (l := l) fun s hs => (hb s hs).1
  have hhi := sumTo_le (f := Sn.hi) (l := l) fun s hs => (hb s hs).2
  refine APure.vc Try.func90 rfl .loop rfl rfl ?_
  intro g hn hl
  refine acode_while (fun k : Nat => ⟨[(0, .lst 2 (l.map encS)), (2, .vptr 0 0), (3, .vptr 1 0), (7, .lst 2 (l.map encS)), (8, .int .i64 (l.map encS).length), (9, .int .i64 k)], [(0, .cells [.int .i64 0, .int .i64 0]), (1, .cells [.int .i64 (sumTo Sn.lo l k), .int .i64 (sumTo Sn.hi l k)])], 2⟩)
    (fun k => k ≤ l.length) (fun k => l.length - k) 0 (Nat.zero_le _) ?_ (fun _ _ => hl.mono (Nat.zero_le _)) ?_
  · exact St.le.of ⟨rfl, rfl, rfl, rfl, rfl, rfl, rfl, rfl, rfl, rfl, rfl, rfl, trivial⟩ ⟨rfl, (by decide : (0 : Nat) < 2), rfl, rfl, (by decide : (1 : Nat) < 2), rfl, trivial⟩
  · intro k hk
    by_cases hlt : k < l.length
    · obtain ⟨s, hs⟩ := getE hlt
      have e1 : IntKind.i64.wrap (sumTo Sn.lo l k + s.lo) = sumTo Sn.lo l (k + 1) := by
        rw [← sumTo_succ hs]; have := hlo (k + 1) hlt; exact wrap64 (by omega) (by omega)
      have e2 : IntKind.i64.wrap (sumTo Sn.hi l k + s.hi) = sumTo Sn.hi l (k + 1) := by
        rw [← sumTo_succ hs]; have := hhi (k + 1) hlt; exact wrap64 (by omega) (by omega)
      have e3 : some (AObj.cells [.int .i64 (IntKind.i64.wrap (sumTo Sn.lo l k + s.lo)), .int .i64 (IntKind.i64.wrap (sumTo Sn.hi l k + s.hi))]) = some (.cells [.int .i64 (sumTo Sn.lo l (k + 1)), .int .i64 (sumTo Sn.hi l (k + 1))]) := by rw [e1, e2]
      exact ACode.vc (.br 10 true <| .cells (encS s) .nil) hn hl (.round .cl) ⟨ltLen hlt, idx hs, k + 1, hlt, mu1 hlt,
        St.le.of ⟨rfl, rfl, rfl, rfl, rfl, rfl, rfl, rfl, rfl, rfl, congrArg _ (succ64 (by omega)), rfl, trivial⟩ ⟨rfl, (by decide : (0 : Nat) < 2), rfl, e3, (by decide : (1 : Nat) < 2), rfl, trivial⟩⟩
    · have hk : k = l.length := by omega
      refine ACode.vc (.br 10 false .nil) hn hl (.round .cl) ⟨geLen hlt, _, .refl _, .nil, trivial, ?_⟩
      have e1 : sumTo Sn.lo l k = (l.map Sn.lo).sum := by unfold sumTo; rw [hk, List.take_length]
      have e2 : sumTo Sn.hi l k = (l.map Sn.hi).sum := by unfold sumTo; rw [hk, List.take_length]
      rw [← e1, ← e2]
      rfl
set_option maxHeartbeats 8000000 in
set_option maxRecDepth 100000 in
theorem lessError_spec {a b lo hi : Int} (h1 : -100000000 ≤ a ∧ a ≤ 100000000) (h2 : -100000000 ≤ b ∧ b ≤ 100000000) (h3 : -1000 ≤ lo ∧ lo ≤ 1000) (h4 : -1000 ≤ hi ∧ hi ≤ 1000) :
    APure Try.prog 104 [.agg [.int .i64 a, .int .i64 b], .agg [.int .i64 lo, .int .i64 hi]] (.agg [.int .i64 (a - hi), .int .i64 (b - lo)]) := by
  have e1 : IntKind.i64.wrap (0 - hi) = -hi := by rw [wrap64 (by omega) (by omega)]; omega
  have e2 : IntKind.i64.wrap (0 - lo) = -lo := by rw [wrap64 (by omega) (by omega)]; omega
  have s := sum_spec [⟨a, b⟩, ⟨-hi, -lo⟩] (by simp) (by simp; omega)
  have e3 : ([⟨a, b⟩, ⟨-hi, -lo⟩] : List Sn).map Sn.lo = [a, -hi] := rfl
  have e4 : ([⟨a, b⟩, ⟨-hi, -lo⟩] : List Sn).map Sn.hi = [b, -lo] := rfl
  rw [e3, e4] at s
  have e5 : [a, -hi].sum = a - hi := by simp; omega
  have e6 : [b, -lo].sum = b - lo := by simp; omega
  rw [e5, e6] at s
  have s' : APure Try.prog 90 [.lst 2 [[.int .i64 a, .int .i64 b], [.int .i64 (IntKind.i64.wrap (0 - hi)), .int .i64 (IntKind.i64.wrap (0 - lo))]]] (.agg [.int .i64 (a - hi), .int .i64 (b - lo)]) := by
    rw [e1, e2]; exact s
  exact APure.vc Try.func104 rfl (.lent (.agg [.int .i64 (a - hi), .int .i64 (b - lo)]) [3] .nil) rfl rfl ⟨⟨[.lst 2 [[.int .i64 a, .int .i64 b], [.int .i64 (IntKind.i64.wrap (0 - hi)), .int .i64 (IntKind.i64.wrap (0 - lo))]]], by kernel_rfl, .inl ⟨s', .inr rfl⟩⟩, trivial, rfl⟩
end Go.Proofs.Yticiopkiikcokaa
namespace Go.Proofs.Yticiopkiikcokaa
open Go Go.Am
def mnK (f : Int → Int) (lo : Int) : Nat → Int
  | 0 => f lo
  | j + 1 => if f (lo + j) < mnK f lo j then f (lo + j) else mnK f lo j
def mxK (f : Int → Int) (lo : Int) : Nat → Int
  | 0 => f lo
  | j + 1 => if f (lo + j) > mxK f lo j then f (lo + j) else mxK f lo j
theorem mnK_rng {f : Int → Int} {lo a b : Int} {n : Nat} (hn : 1 ≤ n) (h : ∀ j : Nat, j < n → a ≤ f (lo + j) ∧ f (lo + j) ≤ b) : ∀ j, j ≤ n → (a ≤ mnK f lo j ∧ mnK f lo j ≤ b) ∧ (a ≤ mxK f lo j ∧ mxK f lo j ≤ b) := by
  intro j
  induction j with
  | zero => intro _; have := h 0 (by omega); simp only [mnK, mxK]; simp at this; exact ⟨this, this⟩
  | succ j ih =>
    intro hj
    have h1 := ih (by omega)
    have h2 := h j (by omega)
    simp only [mnK, mxK]
    constructor <;> split <;> omega
def tmpF (r : Rn) (c : Cp) (m : Int) (k : Nat) (lag : Int) : Int := rd r (rowIx m lag (lastOf r c)) k
def lagN (c : Cp) : Nat := (c.lHi - c.lLo + 1).toNat
def tLo (r : Rn) (m : Int) (k : Nat) : Int := match r.cps[k]? with
  | some c => mnK (tmpF r c m k) c.lLo (lagN c) - c.eHi
  | none => 0
def tHi (r : Rn) (m : Int) (k : Nat) : Int := match r.cps[k]? with
  | some c => mxK (tmpF r c m k) c.lLo (lagN c) - c.eLo
  | none => 0
theorem tLo_some {r : Rn} {m : Int} {k : Nat} {c : Cp} (h : r.cps[k]? = some c) : tLo r m k = mnK (tmpF r c m k) c.lLo (lagN c) - c.eHi := by unfold tLo; rw [h]
theorem tHi_some {r : Rn} {m : Int} {k : Nat} {c : Cp} (h : r.cps[k]? = some c) : tHi r m k = mxK (tmpF r c m k) c.lLo (lagN c) - c.eLo := by unfold tHi; rw [h]
theorem lastOf_rng {r : Rn} (hr : RunOk r) {c : Cp} {m : Int} (h1 : 1 ≤ m) (h2 : m ≤ r.rows.length) (hw : wks c m = true) : 1 ≤ lastOf r c ∧ lastOf r c ≤ r.rows.length ∧ m ≤ lastOf r c := by
  have := hr.rl
  simp only [wks, Bool.not_eq_true', Bool.and_eq_false_iff, decide_eq_false_iff_not] at hw
  unfold lastOf
  split
  · split <;> omega
  · omega
theorem tmpF_rng {r : Rn} (hr : RunOk r) {c : Cp} {m : Int} {k : Nat} (h1 : 1 ≤ m) (h2 : m ≤ r.rows.length) (hc : r.cps[k]? = some c) (hw : wks c m = true) {lag : Int} (hl : 0 ≤ lag) : 0 ≤ tmpF r c m k lag ∧ tmpF r c m k lag ≤ 2000 := by
  obtain ⟨a1, a2, _⟩ := lastOf_rng hr h1 h2 hw
  obtain ⟨hk, _⟩ := List.getElem?_eq_some_iff.1 hc
  obtain ⟨q, d, _, _, e, e2⟩ := rd_get hr (rowIx_lt (lag := lag) h1 hl a1 a2).1 hk
  unfold tmpF; rw [e]; exact e2
theorem lagN_eq {r : Rn} (hr : RunOk r) {k : Nat} {c : Cp} (hc : r.cps[k]? = some c) : 1 ≤ lagN c ∧ lagN c ≤ 4 ∧ ((lagN c : Nat) : Int) = c.lHi - c.lLo + 1 := by
  have := (hr.cp k c hc).2.2.1
  unfold lagN; omega
theorem mm_rng {r : Rn} (hr : RunOk r) {c : Cp} {m : Int} {k : Nat} (h1 : 1 ≤ m) (h2 : m ≤ r.rows.length) (hc : r.cps[k]? = some c) (hw : wks c m = true) : ∀ j, j ≤ lagN c → (0 ≤ mnK (tmpF r c m k) c.lLo j ∧ mnK (tmpF r c m k) c.lLo j ≤ 2000) ∧ (0 ≤ mxK (tmpF r c m k) c.lLo j ∧ mxK (tmpF r c m k) c.lLo j ≤ 2000) :=
  mnK_rng (lagN_eq hr hc).1 fun j _ => tmpF_rng hr h1 h2 hc hw (by have := (hr.cp k c hc).2.2.1; omega)
theorem t_rng {r : Rn} (hr : RunOk r) {c : Cp} {m : Int} {k : Nat} (h1 : 1 ≤ m) (h2 : m ≤ r.rows.length) (hc : r.cps[k]? = some c) (hw : wks c m = true) : (-50 ≤ tLo r m k ∧ tLo r m k ≤ 2050) ∧ (-50 ≤ tHi r m k ∧ tHi r m k ≤ 2050) := by
  have := mm_rng hr h1 h2 hc hw (lagN c) (Nat.le_refl _)
  have h3 := (hr.cp k c hc).2.1
  rw [tLo_some hc, tHi_some hc]; omega
set_option maxHeartbeats 16000000 in
set_option maxRecDepth 100000 in
theorem temperature_spec {r : Rn} (hr : RunOk r) (rest : List AV) {m : Int} {k : Nat} {c : Cp} (h1 : 1 ≤ m) (h2 : m ≤ r.rows.length) (hc : r.cps[k]? = some c) (hw : wks c m = true) :
    APure Try.prog 89 [.cptr (runL r ++ rest), .int .i64 m, .int .i64 k] (.agg [.int .i64 (tLo r m k), .int .i64 (tHi r m k)]) := by
  have hrl := hr.rl
  have hcl := hr.cl
  obtain ⟨hk, _⟩ := List.getElem?_eq_some_iff.1 hc
  have hcp := hr.cp k c hc
  obtain ⟨a1, a2, _⟩ := lastOf_rng hr h1 h2 hw
  obtain ⟨n1, n2, n3⟩ := lagN_eq hr hc
  have hmm := mm_rng hr h1 h2 hc hw
  have hL1 : c.brk > 0 → (if IntKind.i64.wrap (c.brk - 1) < ((r.rows.map encRw).length : Int) then IntKind.i64.wrap (c.brk - 1) else ((r.rows.map encRw).length : Int)) = lastOf r c := fun h => by
    rw [wrap64 (by omega) (by omega), List.length_map]; unfold lastOf; rw [if_pos h]
  have hL2 : ¬ c.brk > 0 → ((r.rows.map encRw).length : Int) = lastOf r c := fun h => by
    rw [List.length_map]; unfold lastOf; rw [if_neg h]
  have s : ∀ {lag L : Int}, L = lastOf r c → 0 ≤ lag → lag ≤ 1000 → APure Try.prog 103 [.int .i64 lag, .cptr [.cptr (runL r ++ rest)], .cptr [.int .i64 m], .cptr [.int .i64 L], .cptr [.int .i64 k]] (.int .i64 (tmpF r c m k lag)) := fun hL h3 h4 => by
    rw [hL]; exact later_spec hr rest h1 (by omega) h3 h4 a1 a2 hk
  have sE := lessError_spec (a := mnK (tmpF r c m k) c.lLo (lagN c)) (b := mxK (tmpF r c m k) c.lLo (lagN c)) (lo := c.eLo) (hi := c.eHi) (by have := hmm (lagN c) (Nat.le_refl _); omega) (by have := hmm (lagN c) (Nat.le_refl _); omega) (by omega) (by omega)
  rw [← tLo_some hc, ← tHi_some hc] at sE
  by_cases hb : c.brk > 0
  · refine APure.vc Try.func89 rfl (.draw 9 <| .cells (encCp c) <| .br 29 true <| .draw 9 <| .lent (.int .i64 (tmpF r c m k c.lLo)) [0, 1, 15, 2] <| .lent (.int .i64 (tmpF r c m k c.lLo)) [0, 1, 15, 2] .loop) rfl rfl
      ⟨by kernel_rfl, mixed, by kernel_rfl, idx hc, by kernel_rfl, decide_eq_true hb, by kernel_rfl, mixed, by kernel_rfl,
        ⟨[.int .i64 c.lLo, .cptr [.cptr (runL r ++ rest)], .cptr [.int .i64 m], .cptr [.int .i64 (if IntKind.i64.wrap (c.brk - 1) < ((r.rows.map encRw).length : Int) then IntKind.i64.wrap (c.brk - 1) else ((r.rows.map encRw).length : Int))], .cptr [.int .i64 k]], by kernel_rfl, .inl ⟨s (hL1 hb) (by omega) (by omega), .inr rfl⟩⟩, by kernel_rfl,
        ⟨[.int .i64 c.lLo, .cptr [.cptr (runL r ++ rest)], .cptr [.int .i64 m], .cptr [.int .i64 (if IntKind.i64.wrap (c.brk - 1) < ((r.rows.map encRw).length : Int) then IntKind.i64.wrap (c.brk - 1) else ((r.rows.map encRw).length : Int))], .cptr [.int .i64 k]], by kernel_rfl, .inl ⟨s (hL1 hb) (by omega) (by omega), .inr rfl⟩⟩, ?_⟩
    have eL := congrArg (fun z => some (AObj.cells [.int .i64 z])) (hL1 hb)
    intro g hn hl
    refine acode_while (fun j : Nat => ⟨[(6, .vptr 3 0), (7, .vptr 12 0), (9, .fn (.func 103) [] [.vptr 0 0, .vptr 1 0, .vptr 15 0, .vptr 2 0]), (10, .int .i64 (mnK (tmpF r c m k) c.lLo j)), (11, .int .i64 (mxK (tmpF r c m k) c.lLo j)), (12, .int .i64 (c.lLo + j))],
        [(0, .cells [.cptr (runL r ++ rest)]), (1, .cells [.int .i64 m]), (2, .cells [.int .i64 k]), (3, .cells [.int .i64 0, .int .i64 0]), (12, .cells (encCp c)), (15, .cells [.int .i64 (lastOf r c)])], 16⟩)
      (fun j => j ≤ lagN c) (fun j => lagN c - j) 0 (Nat.zero_le _) ?_ (fun _ _ => hl.mono (Nat.zero_le _)) ?_
    · exact St.le.of ⟨rfl, rfl, rfl, rfl, rfl, rfl, rfl, rfl, rfl, rfl, (congrArg (AV.int .i64) (show c.lLo = c.lLo + ((0 : Nat) : Int) by omega)), rfl, trivial⟩
        ⟨rfl, (by decide : (0 : Nat) < 16), rfl, rfl, (by decide : (1 : Nat) < 16), rfl, rfl, (by decide : (2 : Nat) < 16), rfl, rfl, (by decide : (3 : Nat) < 16), rfl, rfl, (by decide : (12 : Nat) < 16), rfl, eL, (by decide : (15 : Nat) < 16), rfl, trivial⟩
    · intro j hj
      have e1 : IntKind.i64.wrap (c.lLo + (j : Int) + 1) = c.lLo + ((j + 1 : Nat) : Int) := by rw [wrap64 (by omega) (by omega)]; omega
      by_cases hlt : j < lagN c
      · exact ACode.vc (.br 53 true <| .lent (.int .i64 (tmpF r c m k (c.lLo + j))) [0, 1, 15, 2] <| .lent (.int .i64 (tmpF r c m k (c.lLo + j))) [0, 1, 15, 2] .nil) hn hl (.round .cl)
          ⟨decide_eq_true (show c.lLo + (j : Int) ≤ c.lHi by omega), ⟨[.int .i64 (c.lLo + j), .cptr [.cptr (runL r ++ rest)], .cptr [.int .i64 m], .cptr [.int .i64 (lastOf r c)], .cptr [.int .i64 k]], by kernel_rfl, .inl ⟨s rfl (by omega) (by omega), .inr rfl⟩⟩,
            ⟨[.int .i64 (c.lLo + j), .cptr [.cptr (runL r ++ rest)], .cptr [.int .i64 m], .cptr [.int .i64 (lastOf r c)], .cptr [.int .i64 k]], by kernel_rfl, .inl ⟨s rfl (by omega) (by omega), .inr rfl⟩⟩, j + 1, hlt, mu1 hlt,
            St.le.of ⟨rfl, rfl, rfl, rfl, rfl, rfl, rfl, rfl, rfl, rfl, congrArg _ e1, rfl, trivial⟩
              ⟨rfl, (by decide : (0 : Nat) < 16), rfl, rfl, (by decide : (1 : Nat) < 16), rfl, rfl, (by decide : (2 : Nat) < 16), rfl, rfl, (by decide : (3 : Nat) < 16), rfl, rfl, (by decide : (12 : Nat) < 16), rfl, rfl, (by decide : (15 : Nat) < 16), rfl, trivial⟩⟩
      · have hj' : j = lagN c := by omega
        subst hj'
        exact ACode.vc (.br 53 false .nil) hn hl (.round .cl) ⟨decide_eq_false (show ¬ c.lLo + ((lagN c : Nat) : Int) ≤ c.lHi by omega), _, .refl _, .call (.agg [.int .i64 (tLo r m k), .int .i64 (tHi r m k)]) .nil, sE, trivial, rfl⟩
  · refine APure.vc Try.func89 rfl (.draw 9 <| .cells (encCp c) <| .br 29 false <| .draw 9 <| .lent (.int .i64 (tmpF r c m k c.lLo)) [0, 1, 15, 2] <| .lent (.int .i64 (tmpF r c m k c.lLo)) [0, 1, 15, 2] .loop) rfl rfl
      ⟨by kernel_rfl, mixed, by kernel_rfl, idx hc, by kernel_rfl, decide_eq_false hb, by kernel_rfl, mixed, by kernel_rfl,
        ⟨[.int .i64 c.lLo, .cptr [.cptr (runL r ++ rest)], .cptr [.int .i64 m], .cptr [.int .i64 ((r.rows.map encRw).length : Int)], .cptr [.int .i64 k]], by kernel_rfl, .inl ⟨s (hL2 hb) (by omega) (by omega), .inr rfl⟩⟩, by kernel_rfl,
        ⟨[.int .i64 c.lLo, .cptr [.cptr (runL r ++ rest)], .cptr [.int .i64 m], .cptr [.int .i64 ((r.rows.map encRw).length : Int)], .cptr [.int .i64 k]], by kernel_rfl, .inl ⟨s (hL2 hb) (by omega) (by omega), .inr rfl⟩⟩, ?_⟩
    have eL := congrArg (fun z => some (AObj.cells [.int .i64 z])) (hL2 hb)
    intro g hn hl
    refine acode_while (fun j : Nat => ⟨[(6, .vptr 3 0), (7, .vptr 12 0), (9, .fn (.func 103) [] [.vptr 0 0, .vptr 1 0, .vptr 15 0, .vptr 2 0]), (10, .int .i64 (mnK (tmpF r c m k) c.lLo j)), (11, .int .i64 (mxK (tmpF r c m k) c.lLo j)), (12, .int .i64 (c.lLo + j))],
        [(0, .cells [.cptr (runL r ++ rest)]), (1, .cells [.int .i64 m]), (2, .cells [.int .i64 k]), (3, .cells [.int .i64 0, .int .i64 0]), (12, .cells (encCp c)), (15, .cells [.int .i64 (lastOf r c)])], 16⟩)
      (fun j => j ≤ lagN c) (fun j => lagN c - j) 0 (Nat.zero_le _) ?_ (fun _ _ => hl.mono (Nat.zero_le _)) ?_
    · exact St.le.of ⟨rfl, rfl, rfl, rfl, rfl, rfl, rfl, rfl, rfl, rfl, (congrArg (AV.int .i64) (show c.lLo = c.lLo + ((0 : Nat) : Int) by omega)), rfl, trivial⟩
        ⟨rfl, (by decide : (0 : Nat) < 16), rfl, rfl, (by decide : (1 : Nat) < 16), rfl, rfl, (by decide : (2 : Nat) < 16), rfl, rfl, (by decide : (3 : Nat) < 16), rfl, rfl, (by decide : (12 : Nat) < 16), rfl, eL, (by decide : (15 : Nat) < 16), rfl, trivial⟩
    · intro j hj
      have e1 : IntKind.i64.wrap (c.lLo + (j : Int) + 1) = c.lLo + ((j + 1 : Nat) : Int) := by rw [wrap64 (by omega) (by omega)]; omega
      by_cases hlt : j < lagN c
      · exact ACode.vc (.br 53 true <| .lent (.int .i64 (tmpF r c m k (c.lLo + j))) [0, 1, 15, 2] <| .lent (.int .i64 (tmpF r c m k (c.lLo + j))) [0, 1, 15, 2] .nil) hn hl (.round .cl)
          ⟨decide_eq_true (show c.lLo + (j : Int) ≤ c.lHi by omega), ⟨[.int .i64 (c.lLo + j), .cptr [.cptr (runL r ++ rest)], .cptr [.int .i64 m], .cptr [.int .i64 (lastOf r c)], .cptr [.int .i64 k]], by kernel_rfl, .inl ⟨s rfl (by omega) (by omega), .inr rfl⟩⟩,
            ⟨[.int .i64 (c.lLo + j), .cptr [.cptr (runL r ++ rest)], .cptr [.int .i64 m], .cptr [.int .i64 (lastOf r c)], .cptr [.int .i64 k]], by kernel_rfl, .inl ⟨s rfl (by omega) (by omega), .inr rfl⟩⟩, j + 1, hlt, mu1 hlt,
            St.le.of ⟨rfl, rfl, rfl, rfl, rfl, rfl, rfl, rfl, rfl, rfl, congrArg _ e1, rfl, trivial⟩
              ⟨rfl, (by decide : (0 : Nat) < 16), rfl, rfl, (by decide : (1 : Nat) < 16), rfl, rfl, (by decide : (2 : Nat) < 16), rfl, rfl, (by decide : (3 : Nat) < 16), rfl, rfl, (by decide : (12 : Nat) < 16), rfl, rfl, (by decide : (15 : Nat) < 16), rfl, trivial⟩⟩
      · have hj' : j = lagN c := by omega
        subst hj'
        exact ACode.vc (.br 53 false .nil) hn hl (.round .cl) ⟨decide_eq_false (show ¬ c.lLo + ((lagN c : Nat) : Int) ≤ c.lHi by omega), _, .refl _, .call (.agg [.int .i64 (tLo r m k), .int .i64 (tHi r m k)]) .nil, sE, trivial, rfl⟩
end Go.Proofs.Yticiopkiikcokaa
