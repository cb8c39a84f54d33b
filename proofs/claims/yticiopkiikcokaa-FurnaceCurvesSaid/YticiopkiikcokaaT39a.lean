import Derived.Test.YticiopkiikcokaaT38
import Derived.Test.YticiopkiikcokaaAm18
namespace Go.Proofs.Yticiopkiikcokaa
open Go Go.Am
def flS (xs : List Sn) : List AV := xs.flatMap encS
theorem flS_append (xs : List Sn) (s : Sn) : flS xs ++ [.int .i64 s.lo, .int .i64 s.hi] = flS (xs ++ [s]) := by simp [flS, encS]
theorem flS_length : ∀ xs : List Sn, (flS xs).length = xs.length * 2 := by
  intro xs
  induction xs with
  | nil => rfl
  | cons s xs ih =>
    show (encS s ++ flS xs).length = _
    rw [List.length_append, ih]; simp [encS]; omega
theorem flS_ok (n : Nat) : ∀ xs : List Sn, okL n (flS xs) = true := by
  intro xs
  induction xs with
  | nil => rfl
  | cons s xs ih => show (true && (true && okL n (flS xs))) = true; rw [ih]; rfl
theorem flS_chunks : ∀ xs : List Sn, chunks 2 (flS xs) xs.length = xs.map encS := by
  intro xs
  induction xs with
  | nil => rfl
  | cons s xs ih => show encS s :: chunks 2 (flS xs) xs.length = _; rw [ih]; rfl
theorem mapO_fl (f : AV → Option (AV × List Nat)) (h : ∀ i : Int, f (.int .i64 i) = some (.int .i64 i, [])) : ∀ xs : List Sn, mapO f (flS xs) = some (flS xs, []) := by
  intro xs
  induction xs with
  | nil => rfl
  | cons s xs ih =>
    have : mapO f (.int .i64 s.lo :: .int .i64 s.hi :: flS xs) = some (flS (s :: xs), []) := by
      simp only [mapO, h, ih]; rfl
    exact this
theorem thaw_S {h : Nat → Option AObj} {i : Nat} {xs : List Sn} (h0 : h i = some (.cells (flS xs))) : thawL h [.rsl i 0 xs.length 2] = some ([.lst 2 (xs.map encS)], [i]) := by
  have e : thaw 8 h (.rsl i 0 xs.length 2) = (match h i with
      | some (.cells cs) => if 0 + xs.length * 2 ≤ cs.length then (match mapO (thaw 7 h) cs with | some (cs', is) => some (.lst 2 (chunks 2 (cs'.drop 0) xs.length), i :: is) | none => none) else none
      | _ => none) := rfl
  have e2 : thawL h [.rsl i 0 xs.length 2] = (match thaw 8 h (.rsl i 0 xs.length 2), mapO (thaw 8 h) [] with
      | some (a, is), some (l, js) => some (a :: l, is ++ js)
      | _, _ => none) := rfl
  rw [e2, e, h0]
  simp only []
  rw [if_pos (by rw [flS_length]; omega), mapO_fl (thaw 7 h) (fun i => rfl)]
  simp only [List.drop_zero, flS_chunks, mapO, List.append_nil]
theorem app_S {h : Nat → Option AObj} {i j id : Nat} {xs : List Sn} {s : Sn} (h0 : h i = some (.cells (flS xs))) (h1 : h j = some (.cells [.int .i64 s.lo, .int .i64 s.hi])) (hl : xs.length ≤ 1000) :
    aAppend Try.prog h id 140 140 (.rsl i 0 xs.length 2) (.rsl j 0 1 2) = some ⟨.rsl id 0 (xs.length + 1) 2, [(i, none), (id, some (.cells (flS xs ++ [.int .i64 s.lo, .int .i64 s.hi])))]⟩ := by
  simp only [aAppend, ty140, ty26, srcCells, h0, h1]
  rw [if_pos (by decide)]
  simp [flS_length, cellB]
  omega
def spanAt (r : Rn) (m : Int) (i : Nat) : Sn := ⟨tLo r m i, tHi r m i⟩
def xsK (r : Rn) (m : Int) (k : Nat) : List Sn := ((List.range k).filter (wkAt r m)).map (spanAt r m)
theorem xsK_succ (r : Rn) (m : Int) (k : Nat) : xsK r m (k + 1) = if wkAt r m k = true then xsK r m k ++ [spanAt r m k] else xsK r m k := by
  unfold xsK
  rw [List.range_succ, List.filter_append, List.map_append]
  by_cases h : wkAt r m k = true
  · simp [h]
  · simp [h]
theorem xsK_end (r : Rn) (m : Int) : xsK r m r.cps.length = (wl r m).map (spanAt r m) := rfl
theorem xsK_len (r : Rn) (m : Int) (k : Nat) : (xsK r m k).length ≤ k := by
  unfold xsK; rw [List.length_map]
  have := List.length_filter_le (wkAt r m) (List.range k)
  rw [List.length_range] at this; exact this
theorem mem_wl {r : Rn} {m : Int} {k : Nat} (hk : k < r.cps.length) : decide (k ∈ wl r m) = wkAt r m k := by
  unfold wl
  cases h : wkAt r m k
  · simp [h]
  · simp [h, hk]
theorem xs_rng {r : Rn} (hr : RunOk r) {m : Int} (h1 : 1 ≤ m) (h2 : m ≤ r.rows.length) : ∀ s ∈ (wl r m).map (spanAt r m), (-50 ≤ s.lo ∧ s.lo ≤ 2050) ∧ (-50 ≤ s.hi ∧ s.hi ≤ 2050) := by
  intro s hs
  obtain ⟨i, hi, rfl⟩ := List.mem_map.1 hs
  obtain ⟨hi1, hi2⟩ := List.mem_filter.1 hi
  obtain ⟨c, hc⟩ := getE (List.mem_range.1 hi1)
  exact t_rng hr h1 h2 hc (by rw [← wkAt_some hc]; exact hi2)
def mLo (r : Rn) (m : Int) : Int := (((wl r m).map (spanAt r m)).map Sn.lo).sum * (840 : Int).tdiv ((wl r m).length : Int)
def mHi (r : Rn) (m : Int) : Int := (((wl r m).map (spanAt r m)).map Sn.hi).sum * (840 : Int).tdiv ((wl r m).length : Int)
def meanSt (r : Rn) (rest : List AV) (m : Int) (k : Nat) : List Sn → St
  | [] => ⟨[(0, .cptr (runL r ++ rest)), (1, .int .i64 m), (4, .vptr 0 0), (5, .imap (wkL (wl r m))), (6, .nil), (18, .int .i64 (r.cps.map encCp).length), (19, .int .i64 k)], [(0, .cells [.int .i64 0, .int .i64 0])], 1⟩
  | s :: t => ⟨[(0, .cptr (runL r ++ rest)), (1, .int .i64 m), (4, .vptr 0 0), (5, .imap (wkL (wl r m))), (6, .rsl 1 0 (s :: t).length 2), (18, .int .i64 (r.cps.map encCp).length), (19, .int .i64 k)], [(0, .cells [.int .i64 0, .int .i64 0]), (1, .cells (flS (s :: t)))], 2⟩
theorem sum_rng {l : List Sn} (f : Sn → Int) (h : ∀ s ∈ l, -50 ≤ f s ∧ f s ≤ 2050) : -50 * (l.length : Int) ≤ (l.map f).sum ∧ (l.map f).sum ≤ 2050 * (l.length : Int) := by
  induction l with
  | nil => simp
  | cons s l ih =>
    have h1 := ih fun s hs => h s (List.mem_cons_of_mem _ hs)
    have h2 := h s List.mem_cons_self
    simp only [List.map_cons, List.sum_cons, List.length_cons]
    omega
theorem tdiv840 {n : Int} (h1 : 1 ≤ n) : 0 ≤ (840 : Int).tdiv n ∧ (840 : Int).tdiv n ≤ 840 := by
  rw [Int.tdiv_eq_ediv_of_nonneg (by omega)]
  exact ⟨Int.ediv_nonneg (by omega) (by omega), Int.ediv_le_self _ (by omega)⟩
theorem mul_rng {a q : Int} (h1 : -1000000 ≤ a) (h2 : a ≤ 1000000) (h3 : 0 ≤ q) (h4 : q ≤ 840) : -840000000 ≤ a * q ∧ a * q ≤ 840000000 := by
  have e1 : a * q ≤ 1000000 * q := Int.mul_le_mul_of_nonneg_right h2 h3
  have e2 : -1000000 * q ≤ a * q := Int.mul_le_mul_of_nonneg_right h1 h3
  omega
end Go.Proofs.Yticiopkiikcokaa
