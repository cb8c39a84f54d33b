import Derived.Test.YticiopkiikcokaaT31
namespace Go.Proofs.Yticiopkiikcokaa
open Go Go.Am
/-- A map from some whole numbers to true. -/
def wkL (l : List Nat) : List (AV × AV) := l.map fun (i : Nat) => (AV.int .i64 (i : Int), AV.bool true)
theorem wkL_append (l : List Nat) (k : Nat) : wkL l ++ [(.int .i64 (k : Int), .bool true)] = wkL (l ++ [k]) := by simp [wkL]
theorem afind_wk (P : Program) (k : Nat) : ∀ (l : List Nat) (s : Nat), afind P 3 (.int .i64) (.int .i64 (k : Int)) (wkL l) s = some (if k ∈ l then some (l.idxOf k + s, .bool true) else none) := by
  intro l
  induction l with
  | nil => intro s; rfl
  | cons i l ih =>
    intro s
    have e : afind P 3 (.int .i64) (.int .i64 (k : Int)) (wkL (i :: l)) s = match (if (IntKind.i64) = .i64 then some ((k : Int) == (i : Int)) else none) with
      | some true => some (some (s, .bool true))
      | some false => afind P 3 (.int .i64) (.int .i64 (k : Int)) (wkL l) (s + 1)
      | none => none := rfl
    rw [e, if_pos rfl]
    by_cases h : k = i
    · subst h; simp
    · have h1 : ((k : Int) == (i : Int)) = false := by rw [beq_eq_false_iff_ne]; omega
      rw [h1]
      simp only []
      rw [ih (s + 1)]
      have h2 : ¬ i = k := fun e => h e.symm
      by_cases hm : k ∈ l
      · rw [if_pos hm, if_pos (List.mem_cons_of_mem _ hm), List.idxOf_cons, beq_eq_false_iff_ne.2 h2, cond_false]
        have e : List.idxOf k l + (s + 1) = List.idxOf k l + 1 + s := by omega
        rw [e]
      · rw [if_neg hm, if_neg (by simp [hm, h])]
theorem akI (k : Int) : akeyB Try.prog (.int .i64) (.int .i64 k) = true := rfl
theorem wkL_erase {k : Nat} : ∀ l : List Nat, l.Nodup → k ∈ l → (wkL l).eraseIdx (l.idxOf k) = wkL (l.filter (fun i => i != k)) := by
  intro l
  induction l with
  | nil => intro _ h; cases h
  | cons i l ih =>
    intro hn hk
    have hn' := List.nodup_cons.1 hn
    rw [List.idxOf_cons]
    by_cases h : i = k
    · subst h
      have : l.filter (fun j => j != i) = l := List.filter_eq_self.2 fun j hj => by
        have : j ≠ i := fun e => hn'.1 (e ▸ hj)
        simpa using this
      simp [this, wkL]
    · have h1 : (i == k) = false := beq_eq_false_iff_ne.2 h
      have hk' : k ∈ l := by
        rcases List.mem_cons.1 hk with e | e
        · exact absurd e.symm h
        · exact e
      have := ih hn'.2 hk'
      simp only [h1, cond_false, wkL, List.map_cons, List.eraseIdx_cons_succ]
      rw [List.filter_cons_of_pos (by simpa using h)]
      simp only [List.map_cons, List.cons.injEq, true_and]
      exact this
theorem okE_wk (n : Nat) : ∀ l : List Nat, okE n (wkL l) = true := by
  intro l
  induction l with
  | nil => rfl
  | cons i l ih => show (okP n (.int .i64 (i : Int), .bool true) && okE n (wkL l)) = true; rw [ih]; rfl
theorem upd_wk {h : Nat → Option AObj} {l : List Nat} {k : Nat} (h0 : h 0 = some (.map (wkL l))) (hk : k ∉ l) : aMapUpdate Try.prog h 126 (.mref 0) (.int .i64 (k : Int)) (.bool true) = some ⟨.undef, [(0, some (.map (wkL (l ++ [k]))))]⟩ := by
  simp only [aMapUpdate, ty126, ty3, h0]
  rw [if_pos (akI _), afind_wk, if_neg hk]
  simp only [wkL_append]
theorem del_wk {h : Nat → Option AObj} {l : List Nat} {k : Nat} (h0 : h 0 = some (.map (wkL l))) (hn : l.Nodup) (hk : k ∈ l) : aDelete Try.prog h 126 (.mref 0) (.int .i64 (k : Int)) = some ⟨.undef, [(0, some (.map (wkL (l.filter fun i => i != k))))]⟩ := by
  simp only [aDelete, ty126, ty3, h0]
  rw [if_pos (akI _), afind_wk, if_pos hk]
  simp only [Nat.add_zero, wkL_erase l hn hk]
theorem look_wk {h : Nat → Option AObj} (l : List Nat) (k : Nat) : aLookup Try.prog h 126 (.imap (wkL l)) (.int .i64 (k : Int)) false = some (.bool (decide (k ∈ l))) := by
  have hz : azero Try.prog 4 = some (.bool false) := by kernel_rfl
  simp only [aLookup, ty126, ty3, amap]
  rw [if_pos (akI _), afind_wk, hz]
  by_cases hk : k ∈ l
  · simp [hk]
  · simp [hk]
theorem mapOE_wk (f : AV → Option (AV × List Nat)) (h1 : ∀ i : Int, f (.int .i64 i) = some (.int .i64 i, [])) (h2 : f (.bool true) = some (.bool true, [])) : ∀ l : List Nat, mapOE f (wkL l) = some (wkL l, []) := by
  intro l
  induction l with
  | nil => rfl
  | cons i l ih =>
    have : mapOE f ((.int .i64 (i : Int), .bool true) :: wkL l) = some (wkL (i :: l), []) := by
      simp only [mapOE, h1, h2, ih]; rfl
    exact this
theorem thaw_wk {h : Nat → Option AObj} {l : List Nat} (h0 : h 0 = some (.map (wkL l))) : thawF 8 h (.mref 0) = some (.imap (wkL l), [0]) := by
  have : mapOE (thawF 7 h) (wkL l) = some (wkL l, []) := mapOE_wk _ (fun i => rfl) rfl l
  have e : thawF 8 h (.mref 0) = (match h 0 with
    | some (.map es) => (match mapOE (thawF 7 h) es with | some (es', is) => some (.imap es', 0 :: is) | none => none)
    | _ => none) := rfl
  rw [e, h0]
  simp only [this]
/-- Does a couple work in a minute? -/
def wks (c : Cp) (m : Int) : Bool := !(decide (c.brk > 0) && decide (m ≥ c.brk))
def wkAt (r : Rn) (m : Int) (i : Nat) : Bool := match r.cps[i]? with
  | some c => wks c m
  | none => false
theorem wkAt_some {r : Rn} {m : Int} {i : Nat} {c : Cp} (h : r.cps[i]? = some c) : wkAt r m i = wks c m := by unfold wkAt; rw [h]
/-- The couples that work in a minute. -/
def wl (r : Rn) (m : Int) : List Nat := (List.range r.cps.length).filter (wkAt r m)
def wlK (r : Rn) (m : Int) (k : Nat) : List Nat := (List.range r.cps.length).filter fun i => decide (k ≤ i) || wkAt r m i
theorem wlK_zero (r : Rn) (m : Int) : wlK r m 0 = List.range r.cps.length := List.filter_eq_self.2 fun i _ => by simp
theorem wlK_end (r : Rn) (m : Int) : wlK r m r.cps.length = wl r m := List.filter_congr fun i hi => by
  have := List.mem_range.1 hi
  have : ¬ r.cps.length ≤ i := by omega
  simp [this]
theorem wlK_nodup (r : Rn) (m : Int) (k : Nat) : (wlK r m k).Nodup := List.nodup_range.filter _
theorem wlK_mem {r : Rn} {m : Int} {k : Nat} (hk : k < r.cps.length) : k ∈ wlK r m k := List.mem_filter.2 ⟨List.mem_range.2 hk, by simp⟩
theorem wlK_keep {r : Rn} {m : Int} {k : Nat} (h : wkAt r m k = true) : wlK r m (k + 1) = wlK r m k := List.filter_congr fun i _ => by
  by_cases e : i = k
  · subst e; simp [h]
  · have : (k + 1 ≤ i) ↔ (k ≤ i) := by omega
    simp [this]
theorem wlK_del {r : Rn} {m : Int} {k : Nat} (h : wkAt r m k = false) : (wlK r m k).filter (fun i => i != k) = wlK r m (k + 1) := by
  unfold wlK
  rw [List.filter_filter]
  refine List.filter_congr fun i _ => ?_
  by_cases e : i = k
  · subst e; simp [h]
  · have h1 : (k + 1 ≤ i) ↔ (k ≤ i) := by omega
    have h2 : (i != k) = true := by simpa using e
    simp [h1, h2]
set_option maxHeartbeats 8000000 in
set_option maxRecDepth 100000 in
theorem working_spec (r : Rn) (rest : List AV) (m : Int) (hc : r.cps.length ≤ 1000) : APureF Try.prog 75 [.cptr (runL r ++ rest), .int .i64 m] (.imap (wkL (wl r m))) := by
  refine APureF.vc Try.func75 .loop rfl rfl ?_
  intro g hn hl
  refine acode_while (fun k : Nat => ⟨[(0, .cptr (runL r ++ rest)), (1, .int .i64 m), (5, .mref 0), (15, .int .i64 (r.cps.map encCp).length), (16, .int .i64 k)], [(0, .map (wkL (List.range k)))], 1⟩) (fun k => k ≤ r.cps.length) (fun k => r.cps.length - k) 0 (Nat.zero_le _) ?_ (fun _ _ => hl.mono (Nat.zero_le _)) ?_
  · exact St.le.of ⟨rfl, rfl, rfl, rfl, rfl, rfl, rfl, rfl, rfl, rfl, trivial⟩ ⟨rfl, Nat.zero_lt_one, rfl, trivial⟩
  · intro k hk
    by_cases hlt : k < r.cps.length
    · refine ACode.vc (.br 17 true <| .val 0 .undef [(0, some (.map (wkL (List.range k ++ [k]))))] .nil) hn hl (.round .cl) ⟨ltLen hlt, upd_wk (h := hget [(0, .map (wkL (List.range k)))]) (l := List.range k) (k := k) rfl (by simp), k + 1, hlt, mu1 hlt, St.le.of ⟨rfl, rfl, rfl, rfl, rfl, rfl, rfl, rfl, congrArg _ (succ64 (by omega)), rfl, trivial⟩ ⟨?_, Nat.zero_lt_one, okE_wk _ _, trivial⟩⟩
      rw [List.range_succ]; rfl
    · refine ACode.vc (.br 17 false .nil) hn hl (.round .cl) ⟨geLen hlt, _, .refl _, .loop, ?_⟩
      have hk : k = r.cps.length := by omega
      subst hk
      intro g hn hl
      refine acode_while (fun k : Nat => ⟨[(0, .cptr (runL r ++ rest)), (1, .int .i64 m), (5, .mref 0), (27, .int .i64 (r.cps.map encCp).length), (28, .int .i64 k)], [(0, .map (wkL (wlK r m k)))], 1⟩) (fun k => k ≤ r.cps.length) (fun k => r.cps.length - k) 0 (Nat.zero_le _) ?_ (fun _ _ => hl.mono (Nat.zero_le _)) ?_
      · exact St.le.of ⟨rfl, rfl, rfl, rfl, rfl, rfl, rfl, rfl, rfl, rfl, trivial⟩ ⟨by rw [wlK_zero]; rfl, Nat.zero_lt_one, okE_wk _ _, trivial⟩
      · intro k hk
        by_cases hlt : k < r.cps.length
        · obtain ⟨c, hc'⟩ := getE hlt
          have keep : wks c m = true → some (AObj.map (wkL (wlK r m k))) = some (.map (wkL (wlK r m (k + 1)))) := fun h => by rw [wlK_keep (by rw [wkAt_some hc', h])]
          have del : wks c m = false → some (AObj.map (wkL ((wlK r m k).filter fun i => i != k))) = some (.map (wkL (wlK r m (k + 1)))) := fun h => by rw [wlK_del (by rw [wkAt_some hc', h])]
          refine ACode.vc (.br 29 true <| .cells (encCp c) <| .both 42 (.both 46 (.val 0 .undef [(0, some (.map (wkL ((wlK r m k).filter fun i => i != k))))] .nil) .nil) .nil) hn hl (.round .cl)
            ⟨ltLen hlt, idx hc', fun h1 => ⟨fun h2 => ⟨del_wk (h := hget [(0, .map (wkL (wlK r m k)))]) (l := wlK r m k) (k := k) rfl (wlK_nodup r m k) (wlK_mem hlt), k + 1, hlt, mu1 hlt, St.le.of ⟨rfl, rfl, rfl, rfl, rfl, rfl, rfl, rfl, congrArg _ (succ64 (by omega)), rfl, trivial⟩ ⟨del ?_, Nat.zero_lt_one, okE_wk _ _, trivial⟩⟩,
              fun h2 => ⟨k + 1, hlt, mu1 hlt, St.le.of ⟨rfl, rfl, rfl, rfl, rfl, rfl, rfl, rfl, congrArg _ (succ64 (by omega)), rfl, trivial⟩ ⟨keep ?_, Nat.zero_lt_one, okE_wk _ _, trivial⟩⟩⟩,
              fun h1 => ⟨k + 1, hlt, mu1 hlt, St.le.of ⟨rfl, rfl, rfl, rfl, rfl, rfl, rfl, rfl, congrArg _ (succ64 (by omega)), rfl, trivial⟩ ⟨keep ?_, Nat.zero_lt_one, okE_wk _ _, trivial⟩⟩⟩
          · simp at h1 h2; simp [wks, h1, h2]
          · simp at h1 h2; simp [wks, h1, h2]
          · simp at h1; simp [wks]; omega
        · have hk : k = r.cps.length := by omega
          refine ACode.vc (.br 29 false .nil) hn hl (.round .cl) ⟨geLen hlt, _, .refl _, .nil, [0], ?_⟩
          rw [← wlK_end, ← hk]
          exact thaw_wk rfl
theorem wl_len (r : Rn) (m : Int) : (wkL (wl r m)).length = (wl r m).length := by simp [wkL]
def blindB (r : Rn) (m : Int) : Bool := ((wkL (wl r m)).length : Int) == 0
set_option maxHeartbeats 8000000 in
set_option maxRecDepth 100000 in
theorem blind_spec (r : Rn) (rest : List AV) (m : Int) (hc : r.cps.length ≤ 1000) : APure Try.prog 52 [.cptr (runL r ++ rest), .int .i64 m] (.bool (blindB r m)) :=
  APure.vc Try.func52 rfl (.call (.imap (wkL (wl r m))) .nil) rfl rfl ⟨(working_spec r rest m hc).pure, rB rfl⟩
end Go.Proofs.Yticiopkiikcokaa
