import Derived.Test.YticiopkiikcokaaPd
import Derived.Test.YticiopkiikcokaaN18
import Derived.Test.YticiopkiikcokaaPa
namespace Go.Proofs.Yticiopkiikcokaa
open Go Go.Am
def flS (xs : List Sn) : List AV := xs.flatMap encS
theorem flS_append (xs : List Sn) (s : Sn) : flS xs ++ [.int .i64 s.lo, .int .i64 s.hi] = flS (xs ++ [s]) := by simp [flS, encS]
theorem flS_length : ∀ xs : List Sn, (flS xs).length = xs.length * 2 := by
  intro xs
  induction xs with
  | nil => rfl
  | cons s xs ih =>
    show (encS s ++ flS xs).length = _
    rw [List.length_append, ih]; simp [encS]; omega
theorem flS_ok (n : Nat) : ∀ xs : List Sn, okL n (flS xs) = true := by
  intro xs
  induction xs with
  | nil => rfl
  | cons s xs ih => show (true && (true && okL n (flS xs))) = true; rw [ih]; rfl
theorem flS_chunks : ∀ xs : List Sn, chunks 2 (flS xs) xs.length = xs.map encS := by
  intro xs
  induction xs with
  | nil => rfl
  | cons s xs ih => show encS s :: chunks 2 (flS xs) xs.length = _; rw [ih]; rfl
theorem mapO_fl (f : AV → Option (AV × List Nat)) (h : ∀ i : Int, f (.int .i64 i) = some (.int .i64 i, [])) : ∀ xs : List Sn, mapO f (flS xs) = some (flS xs, []) := by
  intro xs
  induction xs with
  | nil => rfl
  | cons s xs ih =>
    have : mapO f (.int .i64 s.lo :: .int .i64 s.hi :: flS xs) = some (flS (s :: xs), []) := by
      simp only [mapO, h, ih]; rfl
    exact this
theorem thaw_S {h : Nat → Option AObj} {i : Nat} {xs : List Sn} (h0 : h i = some (.cells (flS xs))) : thawL h [.rsl i 0 xs.length 2] = some ([.lst 2 (xs.map encS)], [i]) := by
  have e : thaw 8 h (.rsl i 0 xs.length 2) = (match h i with
      | some (.cells cs) => if 0 + xs.length * 2 ≤ cs.length then (match mapO (thaw 7 h) cs with | some (cs', is) => some (.lst 2 (chunks 2 (cs'.drop 0) xs.length), i :: is) | none => none) else none
      | _ => none) := rfl
  have e2 : thawL h [.rsl i 0 xs.length 2] = (match thaw 8 h (.rsl i 0 xs.length 2), mapO (thaw 8 h) [] with
      | some (a, is), some (l, js) => some (a :: l, is ++ js)
      | _, _ => none) := rfl
  rw [e2, e, h0]
  simp only []
  rw [if_pos (by rw [flS_length]; omega), mapO_fl (thaw 7 h) (fun i => rfl)]
  simp only [List.drop_zero, flS_chunks, mapO, List.append_nil]
theorem app_S {h : Nat → Option AObj} {i j id : Nat} {xs : List Sn} {s : Sn} (h0 : h i = some (.cells (flS xs))) (h1 : h j = some (.cells [.int .i64 s.lo, .int .i64 s.hi])) (hl : xs.length ≤ 1000) :
    aAppend Try.prog h id 140 140 (.rsl i 0 xs.length 2) (.rsl j 0 1 2) = some ⟨.rsl id 0 (xs.length + 1) 2, [(i, none), (id, some (.cells (flS xs ++ [.int .i64 s.lo, .int .i64 s.hi])))]⟩ := by
  simp only [aAppend, ty140, ty26, srcCells, h0, h1]
  rw [if_pos (by decide)]
  simp [flS_length, cellB]
  omega
def spanAt (r : Rn) (m : Int) (i : Nat) : Sn := ⟨tLo r m i, tHi r m i⟩
def xsK (r : Rn) (m : Int) (k : Nat) : List Sn := ((List.range k).filter (wkAt r m)).map (spanAt r m)
theorem xsK_succ (r : Rn) (m : Int) (k : Nat) : xsK r m (k + 1) = if wkAt r m k = true then xsK r m k ++ [spanAt r m k] else xsK r m k := by
  unfold xsK
  rw [List.range_succ, List.filter_append, List.map_append]
  by_cases h : wkAt r m k = true
  · simp [h]
  · simp [h]
theorem xsK_end (r : Rn) (m : Int) : xsK r m r.cps.length = (wl r m).map (spanAt r m) := rfl
theorem xsK_len (r : Rn) (m : Int) (k : Nat) : (xsK r m k).length ≤ k := by
  unfold xsK; rw [List.length_map]
  have := List.length_filter_le (wkAt r m) (List.range k)
  rw [List.length_range] at this; exact this
theorem mem_wl {r : Rn} {m : Int} {k : Nat} (hk : k < r.cps.length) : decide (k ∈ wl r m) = wkAt r m k := by
  unfold wl
  cases h : wkAt r m k
  · simp [h]
  · simp [h, hk]
theorem xs_rng {r : Rn} (hr : RunOk r) {m : Int} (h1 : 1 ≤ m) (h2 : m ≤ r.rows.length) : ∀ s ∈ (wl r m).map (spanAt r m), (-50 ≤ s.lo ∧ s.lo ≤ 2050) ∧ (-50 ≤ s.hi ∧ s.hi ≤ 2050) := by
  intro s hs
  obtain ⟨i, hi, rfl⟩ := List.mem_map.1 hs
  obtain ⟨hi1, hi2⟩ := List.mem_filter.1 hi
  obtain ⟨c, hc⟩ := getE (List.mem_range.1 hi1)
  exact t_rng hr h1 h2 hc (by rw [← wkAt_some hc]; exact hi2)
def mLo (r : Rn) (m : Int) : Int := (((wl r m).map (spanAt r m)).map Sn.lo).sum * (840 : Int).tdiv ((wl r m).length : Int)
def mHi (r : Rn) (m : Int) : Int := (((wl r m).map (spanAt r m)).map Sn.hi).sum * (840 : Int).tdiv ((wl r m).length : Int)
def meanSt (r : Rn) (rest : List AV) (m : Int) (k : Nat) : List Sn → St
  | [] => ⟨[(0, .cptr (runL r ++ rest)), (1, .int .i64 m), (4, .vptr 0 0), (5, .imap (wkL (wl r m))), (6, .nil), (18, .int .i64 (r.cps.map encCp).length), (19, .int .i64 k)], [(0, .cells [.int .i64 0, .int .i64 0])], 1⟩
  | s :: t => ⟨[(0, .cptr (runL r ++ rest)), (1, .int .i64 m), (4, .vptr 0 0), (5, .imap (wkL (wl r m))), (6, .rsl 1 0 (s :: t).length 2), (18, .int .i64 (r.cps.map encCp).length), (19, .int .i64 k)], [(0, .cells [.int .i64 0, .int .i64 0]), (1, .cells (flS (s :: t)))], 2⟩
theorem sum_rng {l : List Sn} (f : Sn → Int) (h : ∀ s ∈ l, -50 ≤ f s ∧ f s ≤ 2050) : -50 * (l.length : Int) ≤ (l.map f).sum ∧ (l.map f).sum ≤ 2050 * (l.length : Int) := by
  induction l with
  | nil => simp
  | cons s l ih =>
    have h1 := ih fun s hs => h s (List.mem_cons_of_mem _ hs)
    have h2 := h s List.mem_cons_self
    simp only [List.map_cons, List.sum_cons, List.length_cons]
    omega
theorem tdiv840 {n : Int} (h1 : 1 ≤ n) : 0 ≤ (840 : Int).tdiv n ∧ (840 : Int).tdiv n ≤ 840 := by
  rw [Int.tdiv_eq_ediv_of_nonneg (by omega)]
  exact ⟨Int.ediv_nonneg (by omega) (by omega), Int.ediv_le_self _ (by omega)⟩
theorem mul_rng {a q : Int} (h1 : -1000000 ≤ a) (h2 : a ≤ 1000000) (h3 : 0 ≤ q) (h4 : q ≤ 840) : -840000000 ≤ a * q ∧ a * q ≤ 840000000 := by
  have e1 : a * q ≤ 1000000 * q := Int.mul_le_mul_of_nonneg_right h2 h3
  have e2 : -1000000 * q ≤ a * q := Int.mul_le_mul_of_nonneg_right h1 h3
  omega
end Go.Proofs.Yticiopkiikcokaa
namespace Go.Proofs.Yticiopkiikcokaa
open Go Go.Am
set_option maxHeartbeats 16000000 in
set_option maxRecDepth 100000 in
theorem mean_spec {r : Rn} (hr : RunOk r) (rest : List AV) {m : Int} (h1 : 1 ≤ m) (h2 : m ≤ r.rows.length) (hb : 1 ≤ (wl r m).length) : APure Try.prog 74 [.cptr (runL r ++ rest), .int .i64 m] (.agg [.int .i64 (mLo r m), .int .i64 (mHi r m)]) := by
  have hcl := hr.cl
  refine APure.vc Try.func74 rfl (.call (.imap (wkL (wl r m))) .loop) rfl rfl ⟨(working_spec r rest m (by omega)).pure, ?_⟩
  intro g hn hl
  refine acode_whileW (fun i : Nat × List Sn => meanSt r rest m i.1 i.2) (fun i => i.1 ≤ r.cps.length ∧ i.2 = xsK r m i.1) (fun i => r.cps.length - i.1) (0, []) ⟨Nat.zero_le _, rfl⟩ (Wk.le ?_ (hl.mono (Nat.zero_le _))) ?_
  · exact St.le.of ⟨rfl, rfl, rfl, rfl, rfl, rfl, rfl, rfl, rfl, rfl, rfl, rfl, rfl, rfl, trivial⟩ ⟨rfl, Nat.zero_lt_one, rfl, trivial⟩
  · rintro ⟨k, xs⟩ ⟨hk, hxs⟩
    simp only at hk hxs
    have hlen : xs.length ≤ k := hxs ▸ xsK_len r m k
    by_cases hlt : k < r.cps.length
    · obtain ⟨c, hc⟩ := getE hlt
      have hmem := mem_wl (r := r) (m := m) hlt
      have hlook := look_wk (h := hget []) (wl r m) k
      rw [hmem] at hlook
      have hnext := xsK_succ r m k
      cases hw : wkAt r m k
      · rw [hw] at hlook
        rw [hw, ← hxs] at hnext
        simp only [Bool.false_eq_true, if_false] at hnext
        rcases xs with _ | ⟨s, t⟩
        · exact ACode.vc (.br 20 true <| .val 24 (.bool false) [] .nil) hn hl (.roundW .cl) ⟨ltLen hlt, congrArg (Option.map fun v => (⟨v, []⟩ : Out)) hlook, (k + 1, []), ⟨hlt, hnext.symm⟩, mu1 hlt, Wk.le (St.le.of ⟨rfl, rfl, rfl, rfl, rfl, rfl, rfl, rfl, rfl, rfl, rfl, rfl, congrArg _ (succ64 (by omega)), rfl, trivial⟩ ⟨rfl, Nat.zero_lt_one, rfl, trivial⟩) (hl.mono (Nat.zero_le _))⟩
        · exact ACode.vc (.br 20 true <| .val 24 (.bool false) [] .nil) hn hl (.roundW .cl) ⟨ltLen hlt, congrArg (Option.map fun v => (⟨v, []⟩ : Out)) hlook, (k + 1, s :: t), ⟨hlt, hnext.symm⟩, mu1 hlt, Wk.le (St.le.of ⟨rfl, rfl, rfl, rfl, rfl, rfl, rfl, rfl, rfl, rfl, rfl, rfl, congrArg _ (succ64 (by omega)), rfl, trivial⟩ ⟨rfl, (by decide : (0 : Nat) < 2), rfl, rfl, (by decide : (1 : Nat) < 2), flS_ok _ _, trivial⟩) (hl.mono (Nat.zero_le _))⟩
      · rw [hw] at hlook
        rw [hw, ← hxs] at hnext
        simp only [if_true] at hnext
        have sT := temperature_spec hr rest h1 h2 hc (by rw [← wkAt_some hc, hw])
        rcases xs with _ | ⟨s, t⟩
        · exact ACode.vc (.br 20 true <| .val 24 (.bool true) [] <| .call (.agg [.int .i64 (tLo r m k), .int .i64 (tHi r m k)]) .nil) hn hl (.roundW .cl)
            ⟨ltLen hlt, congrArg (Option.map fun v => (⟨v, []⟩ : Out)) hlook, sT, (k + 1, [spanAt r m k]), ⟨hlt, hnext.symm⟩, mu1 hlt,
              Wk.ren (c := 1) (b := 2) (St.ren.of rfl (by decide) ⟨.inl ⟨rfl, rfl⟩, .inl ⟨rfl, rfl⟩, .inl ⟨rfl, rfl⟩, .inl ⟨rfl, rfl⟩, .inr ⟨0, 1, 2, rfl, rfl⟩, .inl ⟨rfl, rfl⟩, .inl ⟨congrArg _ (succ64 (by omega)), rfl⟩, trivial⟩ ⟨.inl ⟨(by decide : (0 : Nat) < 1), rfl, rfl⟩, .inr ⟨rfl, rfl, _, rfl, flS_ok 1 [spanAt r m k]⟩, trivial⟩) (hl.mono (Nat.zero_le _))⟩
        · refine ACode.vc (.br 20 true <| .val 24 (.bool true) [] <| .call (.agg [.int .i64 (tLo r m k), .int .i64 (tHi r m k)]) <| .val 31 (.rsl 3 0 ((s :: t).length + 1) 2) [(1, none), (3, some (.cells (flS (s :: t) ++ [.int .i64 (spanAt r m k).lo, .int .i64 (spanAt r m k).hi])))] .nil) hn hl (.roundW .cl)
            ⟨ltLen hlt, congrArg (Option.map fun v => (⟨v, []⟩ : Out)) hlook, sT, Eq.trans (by kernel_rfl) (app_S (h := hget [(0, .cells [.int .i64 0, .int .i64 0]), (1, .cells (flS (s :: t))), (2, .cells [.int .i64 (spanAt r m k).lo, .int .i64 (spanAt r m k).hi])]) (i := 1) (j := 2) (id := 3) (xs := s :: t) (s := spanAt r m k) rfl rfl (by omega)),
              (k + 1, s :: (t ++ [spanAt r m k])), ⟨hlt, hnext.symm⟩, mu1 hlt,
              Wk.ren (c := 1) (b := 3) (St.ren.of rfl (by decide) ⟨.inl ⟨rfl, rfl⟩, .inl ⟨rfl, rfl⟩, .inl ⟨rfl, rfl⟩, .inl ⟨rfl, rfl⟩, .inr ⟨0, (s :: t).length + 1, 2, ?_, rfl⟩, .inl ⟨rfl, rfl⟩, .inl ⟨congrArg _ (succ64 (by omega)), rfl⟩, trivial⟩ ⟨.inl ⟨(by decide : (0 : Nat) < 1), rfl, rfl⟩, .inr ⟨rfl, ?_, _, rfl, flS_ok 1 _⟩, trivial⟩) (hl.mono (Nat.zero_le _))⟩
          · simp
          · exact congrArg (fun z => some (AObj.cells z)) (flS_append (s :: t) (spanAt r m k))
    · have hk' : k = r.cps.length := by omega
      subst hk'
      rw [xsK_end] at hxs
      rcases xs with _ | ⟨s, t⟩
      · have := congrArg List.length hxs
        simp at this; omega
      · have hn2 : (s :: t).length = (wl r m).length := by rw [hxs, List.length_map]
        have hrng := xs_rng hr h1 h2
        rw [← hxs] at hrng
        obtain ⟨A, hA⟩ : ∃ A, A = ((s :: t).map Sn.lo).sum := ⟨_, rfl⟩
        obtain ⟨B, hB⟩ : ∃ B, B = ((s :: t).map Sn.hi).sum := ⟨_, rfl⟩
        obtain ⟨xs, hxe⟩ : ∃ xs, xs = s :: t := ⟨_, rfl⟩
        have sS := sum_spec (s :: t) (by omega) fun s hs => by have := hrng s hs; omega
        have r1 := sum_rng Sn.lo fun s hs => (hrng s hs).1
        have r2 := sum_rng Sn.hi fun s hs => (hrng s hs).2
        rw [← hA, ← hB] at sS
        rw [← hA] at r1
        rw [← hB] at r2
        have hq := tdiv840 (n := ((s :: t).length : Int)) (by omega)
        have eq1 : IntKind.i64.wrap ((840 : Int).tdiv ((s :: t).length : Int)) = (840 : Int).tdiv ((s :: t).length : Int) := wrap64 (by omega) (by omega)
        have p1 := mul_rng (a := A) (by omega) (by omega) hq.1 hq.2
        have p2 := mul_rng (a := B) (by omega) (by omega) hq.1 hq.2
        have e1 : IntKind.i64.wrap (A * IntKind.i64.wrap ((840 : Int).tdiv ((s :: t).length : Int))) = mLo r m := by
          rw [eq1, wrap64 (by omega) (by omega), mLo, ← hxs, hn2, hA]
        have e2 : IntKind.i64.wrap (B * IntKind.i64.wrap ((840 : Int).tdiv ((s :: t).length : Int))) = mHi r m := by
          rw [eq1, wrap64 (by omega) (by omega), mHi, ← hxs, hn2, hB]
        have eF : some (AV.agg [.int .i64 (IntKind.i64.wrap (A * IntKind.i64.wrap ((840 : Int).tdiv ((s :: t).length : Int)))), .int .i64 (IntKind.i64.wrap (B * IntKind.i64.wrap ((840 : Int).tdiv ((s :: t).length : Int))))]) = some (.agg [.int .i64 (mLo r m), .int .i64 (mHi r m)]) := by rw [e1, e2]
        refine ACode.vc (.br 20 false .nil) hn hl (.roundW .cl) ⟨geLen hlt, _, .refl _, .draw 7 <| .lent (.agg [.int .i64 A, .int .i64 B]) [1] <| .nz .nil,
          by kernel_rfl, mixed, by kernel_rfl, ⟨[.lst 2 ((s :: t).map encS)], Eq.trans (by kernel_rfl) (thaw_S (h := hget [(0, .cells [.int .i64 0, .int .i64 0]), (1, .cells (flS (s :: t)))]) rfl), .inl ⟨sS, .inr rfl⟩⟩, (by omega : ((s :: t).length : Int) ≠ 0), by kernel_rfl, trivial, Eq.trans (by kernel_rfl) eF⟩
end Go.Proofs.Yticiopkiikcokaa
namespace Go.Proofs.Yticiopkiikcokaa
open Go Go.Am
def arrL (f : Nat → Sn) : List AV := flS ((List.range 61).map f)
def workL (r : Rn) (mf cf : Nat → Sn) : List AV := runL r ++ (arrL mf ++ arrL cf)
theorem splice_two (cs : List AV) (off : Nat) (x y : AV) : splice cs off [x, y] = (cs.set off x).set (off + 1) y := rfl
theorem splice_flS (s : Sn) : ∀ (xs : List Sn) (i : Nat), i < xs.length → splice (flS xs) (i * 2) [.int .i64 s.lo, .int .i64 s.hi] = flS (xs.set i s) := by
  intro xs
  induction xs with
  | nil => intro i h; simp at h
  | cons a xs ih =>
    intro i h
    have ea : ∀ b ys, flS (b :: ys) = AV.int .i64 b.lo :: AV.int .i64 b.hi :: flS ys := fun _ _ => rfl
    cases i with
    | zero => rw [splice_two, ea]; rfl
    | succ i =>
      have := ih i (by simpa using h)
      rw [splice_two] at this
      have e : (i + 1) * 2 = i * 2 + 1 + 1 := by omega
      rw [splice_two, ea, e, List.set_cons_succ, List.set_cons_succ, List.set_cons_succ, List.set_cons_succ, this, List.set_cons_succ, ea]
theorem splice_right (A B : List AV) (off : Nat) (x y : AV) : splice (A ++ B) (A.length + off) [x, y] = A ++ splice B off [x, y] := by
  rw [splice_two, splice_two, List.set_append_right _ _ (by omega), List.set_append_right _ _ (by omega)]
  have e1 : A.length + off - A.length = off := by omega
  have e2 : A.length + off + 1 - A.length = off + 1 := by omega
  rw [e1, e2]
theorem splice_left (A B : List AV) (off : Nat) (x y : AV) (h : off + 1 < A.length) : splice (A ++ B) off [x, y] = splice A off [x, y] ++ B := by
  rw [splice_two, splice_two, List.set_append_left _ _ (by omega), List.set_append_left _ _ (by rw [List.length_set]; omega)]
def updF (f : Nat → Sn) (i : Nat) (s : Sn) : Nat → Sn := fun j => if j = i then s else f j
theorem map_set (f : Nat → Sn) (i : Nat) (s : Sn) (_hi : i < 61) : ((List.range 61).map f).set i s = (List.range 61).map (updF f i s) := by
  refine List.ext_getElem (by simp) fun j h1 h2 => ?_
  simp only [List.length_set, List.length_map, List.length_range] at h1
  rw [List.getElem_set]
  by_cases e : i = j
  · subst e; simp [updF]
  · rw [if_neg e]
    have : ¬ j = i := fun h => e h.symm
    simp [updF, this]
theorem arrL_len (f : Nat → Sn) : (arrL f).length = 122 := by unfold arrL; rw [flS_length]; simp
theorem splice_m (r : Rn) (mf cf : Nat → Sn) (i : Nat) (s : Sn) (hi : i < 61) : splice (workL r mf cf) (6 + i * 2) [.int .i64 s.lo, .int .i64 s.hi] = workL r (updF mf i s) cf := by
  have h6 : (runL r).length = 6 := rfl
  unfold workL
  rw [← h6, splice_right, splice_left _ _ _ _ _ (by rw [arrL_len]; omega)]
  have : splice (arrL mf) (i * 2) [.int .i64 s.lo, .int .i64 s.hi] = arrL (updF mf i s) := by
    unfold arrL; rw [splice_flS _ _ _ (by simpa using hi), map_set _ _ _ hi]
  rw [this]
theorem splice_c (r : Rn) (mf cf : Nat → Sn) (i : Nat) (s : Sn) (hi : i < 61) : splice (workL r mf cf) (128 + i * 2) [.int .i64 s.lo, .int .i64 s.hi] = workL r mf (updF cf i s) := by
  have h6 : (runL r ++ arrL mf).length = 128 := by rw [List.length_append, arrL_len]; rfl
  unfold workL
  rw [← List.append_assoc, ← List.append_assoc, ← h6, splice_right]
  have : splice (arrL cf) (i * 2) [.int .i64 s.lo, .int .i64 s.hi] = arrL (updF cf i s) := by
    unfold arrL; rw [splice_flS _ _ _ (by simpa using hi), map_set _ _ _ hi]
  rw [this]
theorem workL_len (r : Rn) (mf cf : Nat → Sn) : (workL r mf cf).length = 250 := by
  unfold workL; simp only [List.length_append, arrL_len]; rfl
theorem okL_append (n : Nat) : ∀ a b : List AV, okL n a = true → okL n b = true → okL n (a ++ b) = true := by
  intro a b ha hb
  induction a with
  | nil => exact hb
  | cons x a ih =>
    simp only [okL, Bool.and_eq_true] at ha
    show (x.ok n && okL n (a ++ b)) = true
    rw [ha.1, ih ha.2]; rfl
theorem workL_ok (n : Nat) (r : Rn) (mf cf : Nat → Sn) : okL n (workL r mf cf) = true := okL_append n _ _ rfl (okL_append n _ _ (flS_ok n _) (flS_ok n _))
theorem mapO_ok (n : Nat) (h : Nat → Option AObj) : ∀ l : List AV, okL 0 l = true → mapO (thaw (n + 1) h) l = some (l, []) := by
  intro l
  induction l with
  | nil => intro _; rfl
  | cons a l ih =>
    intro hl
    simp only [okL, Bool.and_eq_true] at hl
    have e : thaw (n + 1) h a = some (a, []) := by unfold thaw; rw [if_pos hl.1]
    simp only [mapO, e, ih hl.2, List.nil_append]
/-- A pointer to what is at work, and a number, lent. -/
theorem thaw_W {h : Nat → Option AObj} {i : Nat} {cs : List AV} {v : Int} (h0 : h i = some (.cells cs)) (hok : okL 0 cs = true) : thawL h [.vptr i 0, .int .i64 v] = some ([.cptr cs, .int .i64 v], [i]) := by
  have e : thaw 8 h (.vptr i 0) = (match h i with
      | some (.cells cs) => (match mapO (thaw 7 h) cs with | some (cs', is) => some (.cptr (cs'.drop 0), i :: is) | none => none)
      | _ => none) := rfl
  have e2 : thawL h [.vptr i 0, .int .i64 v] = (match thaw 8 h (.vptr i 0), mapO (thaw 8 h) [.int .i64 v] with
      | some (a, is), some (l, js) => some (a :: l, is ++ js)
      | _, _ => none) := rfl
  rw [e2, e, h0]
  simp only []
  rw [mapO_ok 6 h cs hok, mapO_ok 7 h [.int .i64 v] rfl]
  rfl
theorem arrIx {h : Nat → Option AObj} {id off : Nat} {i : Int} {k : Nat} (hi : i = (k : Int)) (hk : k < 61) : aindexAddr Try.prog h 99 (.vptr id off) (.int .i64 i) = some (.vptr id (off + k * 2)) := by
  subst hi
  simp only [aindexAddr, ty99, ty26]
  rw [if_pos ⟨Int.natCast_nonneg _, by simpa using hk⟩]; rfl
theorem arrSt {h : Nat → Option AObj} {id off : Nat} {cs : List AV} {s : Sn} (h0 : h id = some (.cells cs)) (hl : off + 2 ≤ cs.length) : aStore Try.prog h 26 (.vptr id off) (.agg [.int .i64 s.lo, .int .i64 s.hi]) = some ⟨.undef, [(id, some (.cells (splice cs off [.int .i64 s.lo, .int .i64 s.hi])))]⟩ := by
  simp only [aStore, ty26, acells, h0]
  rw [if_pos ⟨rfl, hl, rfl⟩]
end Go.Proofs.Yticiopkiikcokaa
namespace Go.Proofs.Yticiopkiikcokaa
open Go Go.Am
def rfParts : Code → Option (Code × Code)
  | .rangeFunc _ _ a b => some (a, b)
  | .seq a b => (match rfParts a with | some p => some p | none => rfParts b)
  | .block _ a => rfParts a
  | _ => none
def cOf (f : Func) : Code := match f.body with | some c => c | none => .skip
def sqR (c : Code) : Code := match c with | .seq _ b => b | c => c
def sqL (c : Code) : Code := match c with | .seq a _ => a | c => c
def blB (c : Code) : Code := match c with | .block _ a => a | c => c
def rfA (c : Code) : Code := match c with | .rangeFunc _ _ a _ => a | c => c
def rfB (c : Code) : Code := match c with | .rangeFunc _ _ _ b => b | c => c
noncomputable def rf51 : Code := blB (sqR (sqL (sqR (sqR (cOf Try.f51)))))
noncomputable def asg51 : Code := rfA rf51
noncomputable def bod51 : Code := rfB rf51
theorem rf51_ok : rfParts (cOf Try.f51) = some (asg51, bod51) := by kernel_rfl
def Z101 : List AV := [.int .i64 0, .nil, .nil, .nil] ++ List.replicate 246 (.int .i64 0)
def zf : Nat → Sn := fun _ => ⟨0, 0⟩
def mfK (r : Rn) (k : Nat) : Nat → Sn := fun i => if 1 ≤ i ∧ i ≤ k ∧ blindB r i = false then ⟨mLo r i, mHi r i⟩ else ⟨0, 0⟩
def cfK (r : Rn) (k : Nat) : Nat → Sn := fun i => if 1 ≤ i ∧ i ≤ k ∧ blindB r i = false then ⟨840 * deg r.curve i, 840 * deg r.curve i⟩ else ⟨0, 0⟩
theorem fK_zero (r : Rn) : mfK r 0 = zf ∧ cfK r 0 = zf := by
  constructor <;> funext i <;> simp only [mfK, cfK, zf] <;> rw [if_neg (by omega)]
theorem fK_blind {r : Rn} {k : Nat} (h : blindB r ((k + 1 : Nat) : Int) = true) : mfK r (k + 1) = mfK r k ∧ cfK r (k + 1) = cfK r k := by
  constructor <;> funext i <;> simp only [mfK, cfK] <;>
  · by_cases e : i = k + 1
    · subst e; rw [if_neg (by rw [h]; simp), if_neg (by omega)]
    · have : (i ≤ k + 1) ↔ (i ≤ k) := by omega
      simp only [this]
theorem fK_sees {r : Rn} {k : Nat} (h : blindB r ((k + 1 : Nat) : Int) = false) : mfK r (k + 1) = updF (mfK r k) (k + 1) ⟨mLo r ((k + 1 : Nat) : Int), mHi r ((k + 1 : Nat) : Int)⟩ ∧
    cfK r (k + 1) = updF (cfK r k) (k + 1) ⟨840 * deg r.curve ((k + 1 : Nat) : Int), 840 * deg r.curve ((k + 1 : Nat) : Int)⟩ := by
  constructor <;> funext i <;> simp only [mfK, cfK, updF] <;>
  · by_cases e : i = k + 1
    · subst e; rw [if_pos ⟨by omega, by omega, h⟩, if_pos rfl]
    · have : (i ≤ k + 1) ↔ (i ≤ k) := by omega
      simp only [this, if_neg e]
theorem blind_len {r : Rn} {m : Int} (h : blindB r m = false) : 1 ≤ (wl r m).length := by
  unfold blindB at h
  rw [wl_len] at h
  simp at h
  cases hl : wl r m with
  | nil => rw [hl] at h; simp at h
  | cons a l => simp
theorem ldW {h : Nat → Option AObj} {i : Nat} {cs : List AV} (h0 : h i = some (.cells cs)) (hl : cs.length = 250) : aLoad Try.prog h 101 (.vptr i 0) = some ⟨.agg cs, []⟩ := by
  simp only [aLoad, ty101, h0, List.drop_zero, aread]
  have ha : (TD.struct [(0, 28, false), (6, 99, false), (128, 99, false)]).agg = true := rfl
  have h2 : 250 ≤ cs.length := by omega
  rw [if_pos ha, if_pos h2, ← hl, List.take_length]; rfl
theorem aresW {S : St} {cs : List AV} (ht : elook S.env 2 = .vptr 1 0) (h : hget S.H 1 = some (.cells cs)) (hl : cs.length = 250) : ares Try.prog S [.cell 2 101] = some (.agg cs) := by
  simp only [ares, aresL, ares1, ht, ldW h hl, Option.map_some]
theorem flS_cellB : ∀ xs : List Sn, (flS xs).all cellB = true := by
  intro xs
  induction xs with
  | nil => rfl
  | cons s xs ih => show (true && (true && (flS xs).all cellB)) = true; rw [ih]; rfl
theorem workL_cellB (r : Rn) (mf cf : Nat → Sn) : (workL r mf cf).all cellB = true := by
  unfold workL arrL
  rw [List.all_append, List.all_append, flS_cellB, flS_cellB]; rfl
theorem splice_all : ∀ (xs A B : List AV), A.length = xs.length → splice (B ++ A) B.length xs = B ++ xs := by
  intro xs
  induction xs with
  | nil => intro A B h; simp at h; subst h; simp [splice]
  | cons x xs ih =>
    intro A B h
    cases A with
    | nil => simp at h
    | cons a A =>
      have e : splice (B ++ a :: A) B.length (x :: xs) = splice ((B ++ a :: A).set B.length x) (B.length + 1) xs := rfl
      rw [e, List.set_append_right _ _ (Nat.le_refl _), Nat.sub_self, List.set_cons_zero]
      have := ih A (B ++ [x]) (by simpa using h)
      simp only [List.append_assoc, List.singleton_append, List.length_append, List.length_singleton] at this
      exact this
theorem Z101_len : Z101.length = 250 := by unfold Z101; rw [List.length_append, List.length_replicate]; rfl
theorem stW1 {cs : List AV} (hl : cs.length = 250) (hc : cs.all cellB = true) : aStore Try.prog (hget [(1, .cells Z101)]) 101 (.vptr 1 0) (.agg cs) = some ⟨.undef, [(1, some (.cells cs))]⟩ := by
  have e : splice Z101 0 cs = cs := splice_all cs Z101 [] (by rw [hl, Z101_len])
  have h2 : 0 + cs.length ≤ Z101.length := by rw [hl, Z101_len]; omega
  simp only [aStore, ty101, acells, hget, if_true]
  rw [if_pos ⟨hl, h2, hc⟩, e]
end Go.Proofs.Yticiopkiikcokaa
namespace Go.Proofs.Yticiopkiikcokaa
open Go Go.Am
theorem boolC (b : Bool) : b = false ∨ b = true := by cases b <;> simp
set_option maxHeartbeats 16000000 in
set_option maxRecDepth 100000 in
theorem atWork_spec {r : Rn} (hr : RunOk r) : APure Try.prog 51 [encRn r] (.agg (workL r (mfK r r.rows.length) (cfK r r.rows.length))) := by
  have hrl := hr.rl
  have hcl := hr.cl
  obtain ⟨hclen, _, _, _⟩ := curveB_out hr.curve
  obtain ⟨p, hp⟩ := getE (show r.curve.length - 1 < r.curve.length by omega)
  have hlast := hr.last
  rw [lastM_some hp] at hlast
  obtain ⟨W, hW⟩ : ∃ W : Nat → List AV, ∀ k, W k = workL r (mfK r k) (cfK r k) := ⟨fun k => workL r (mfK r k) (cfK r k), fun k => rfl⟩
  obtain ⟨V, hV⟩ : ∃ V : Nat → List AV, ∀ k, V k = workL r (mfK r (k + 1)) (cfK r k) := ⟨fun k => workL r (mfK r (k + 1)) (cfK r k), fun k => rfl⟩
  have hok : ∀ n k, okL n (W k) = true := fun n k => by rw [hW]; exact workL_ok _ _ _ _
  have hlen : ∀ k, (W k).length = 250 := fun k => by rw [hW]; exact workL_len _ _ _
  have hW0 : some (AObj.cells (workL r zf zf)) = some (.cells (W 0)) := by rw [hW, (fK_zero r).1, (fK_zero r).2]
  rw [← hW r.rows.length]
  refine APure.vc Try.func51 rfl (.val 2 (.vptr 1 0) [(1, some (.cells Z101))] <| .val 7 (.agg (workL r zf zf)) [] <| .val 3 (.vptr 2 0) [(2, some (.cells Z101))] <| .val 1 .undef [(2, some (.cells (workL r zf zf)))] <| .inl Try.f73 <| .inl Try.f88 <| .loop) rfl (hok 0 _)
    ⟨by kernel_rfl, by kernel_rfl, by kernel_rfl, by kernel_rfl, Try.func73, Try.func88, ?_⟩
  intro g hn hl
  replace hn : g.n = 19 := hn
  replace hl : g.low 6 := hl
  refine acode_whileW (fun k : Nat => ⟨[(0, .yld 5), (1, .vptr 4 0), (9, .int .i64 (r.rows.map encRw).length), (10, .int .i64 k)],
      [(0, .cells (runL r)), (1, .cells Z101), (2, .cells (W k)), (4, .cells [.vptr 2 0]), (5, .loop ⟨.ready, none, 30, [(1, .vptr 0 0), (3, .vptr 2 0)], #[9], asg51, bod51⟩)], 6⟩)
    (fun k => k ≤ r.rows.length) (fun k => r.rows.length - k) 0 (Nat.zero_le _) ?_ ?_
  · refine Wk.trans (Wk.le ?_ hl) (Wk.loopEnv (id := 5) (n := 6) [(1, .vptr 0 0), (3, .vptr 2 0)] rfl ⟨rfl, rfl, rfl, rfl, trivial⟩)
    exact St.le.of ⟨by kernel_rfl, rfl, by kernel_rfl, rfl, by kernel_rfl, rfl, by kernel_rfl, rfl, trivial⟩ ⟨by kernel_rfl, (by decide : (0 : Nat) < 6), rfl, by kernel_rfl, (by decide : (1 : Nat) < 6), by kernel_rfl, Eq.trans (by kernel_rfl) hW0, (by decide : (2 : Nat) < 6), hok _ _, by kernel_rfl, (by decide : (4 : Nat) < 6), rfl, by kernel_rfl, (by decide : (5 : Nat) < 6), rfl, trivial⟩
  · intro k hk
    by_cases hlt : k < r.rows.length
    · have e1 : IntKind.i64.wrap ((k : Int) + 1) = ((k + 1 : Nat) : Int) := succ64 (by omega)
      have sB : APure Try.prog 52 [.cptr (W k), .int .i64 (IntKind.i64.wrap ((k : Int) + 1))] (.bool (blindB r ((k + 1 : Nat) : Int))) := by
        rw [e1, hW]; unfold workL; exact blind_spec r _ _ (by omega)
      have th : thawL (hget [(0, .cells (runL r)), (1, .cells Z101), (2, .cells (W k)), (4, .cells [.vptr 2 0]), (5, .loop ⟨.busy, none, 30, [(1, .vptr 0 0), (3, .vptr 2 0)], #[9], asg51, bod51⟩)]) [.vptr 2 0, .int .i64 (IntKind.i64.wrap ((k : Int) + 1))] = some ([.cptr (W k), .int .i64 (IntKind.i64.wrap ((k : Int) + 1))], [2]) := thaw_W rfl (hok _ _)
      refine Or.elim (boolC (blindB r ((k + 1 : Nat) : Int))) (fun hb => ?_) (fun hb => ?_)
      · rw [hb] at sB
        have f1 := (fK_sees hb).1
        have f2 := (fK_sees hb).2
        have sD : APure Try.prog 47 [.lst 2 (r.curve.map encPt), .int .i64 (IntKind.i64.wrap ((k : Int) + 1))] (.int .i64 (deg r.curve ((k + 1 : Nat) : Int))) := by
          rw [e1]; exact degreeAt_spec hr.curve (by omega) (by omega)
        have sM : APure Try.prog 74 [.cptr (W k), .int .i64 (IntKind.i64.wrap ((k : Int) + 1))] (.agg [.int .i64 (mLo r ((k + 1 : Nat) : Int)), .int .i64 (mHi r ((k + 1 : Nat) : Int))]) := by
          rw [e1, hW]; unfold workL; exact mean_spec hr _ (by omega) (by omega) (blind_len hb)
        have hd := deg_rng hr.curve hp (m := ((k + 1 : Nat) : Int)) (by omega) (by omega)
        have e2 : IntKind.i64.wrap (840 * deg r.curve ((k + 1 : Nat) : Int)) = 840 * deg r.curve ((k + 1 : Nat) : Int) := wrap64 (by omega) (by omega)
        have w1 : splice (W k) (6 + (k + 1) * 2) [.int .i64 (mLo r ((k + 1 : Nat) : Int)), .int .i64 (mHi r ((k + 1 : Nat) : Int))] = V k := by
          rw [hV, hW, f1]; exact splice_m r _ _ (k + 1) ⟨mLo r ((k + 1 : Nat) : Int), mHi r ((k + 1 : Nat) : Int)⟩ (by omega)
        have w2 : splice (V k) (128 + (k + 1) * 2) [.int .i64 (IntKind.i64.wrap (840 * deg r.curve ((k + 1 : Nat) : Int))), .int .i64 (IntKind.i64.wrap (840 * deg r.curve ((k + 1 : Nat) : Int)))] = W (k + 1) := by
          rw [hV, hW, f2, e2]; exact splice_c r _ _ (k + 1) ⟨840 * deg r.curve ((k + 1 : Nat) : Int), 840 * deg r.curve ((k + 1 : Nat) : Int)⟩ (by omega)
        have hVl : (V k).length = 250 := by rw [hV]; exact workL_len _ _ _
        have ix : ∀ off : Nat, (aindexAddr Try.prog (hget []) 99 (.vptr 2 off) (.int .i64 (IntKind.i64.wrap ((k : Int) + 1)))).map (fun v => (⟨v, []⟩ : Out)) = some ⟨.vptr 2 (off + (k + 1) * 2), []⟩ := fun off => by
          rw [arrIx e1 (by omega)]; rfl
        have st1 : aStore Try.prog (hget [(2, .cells (W k))]) 26 (.vptr 2 (6 + (k + 1) * 2)) (.agg [.int .i64 (mLo r ((k + 1 : Nat) : Int)), .int .i64 (mHi r ((k + 1 : Nat) : Int))]) = some ⟨.undef, [(2, some (.cells (V k)))]⟩ := by
          rw [← w1]; exact arrSt (s := ⟨mLo r ((k + 1 : Nat) : Int), mHi r ((k + 1 : Nat) : Int)⟩) rfl (by rw [hlen]; omega)
        have st2 : aStore Try.prog (hget [(2, .cells (V k))]) 26 (.vptr 2 (128 + (k + 1) * 2)) (.agg [.int .i64 (IntKind.i64.wrap (840 * deg r.curve ((k + 1 : Nat) : Int))), .int .i64 (IntKind.i64.wrap (840 * deg r.curve ((k + 1 : Nat) : Int)))]) = some ⟨.undef, [(2, some (.cells (W (k + 1))))]⟩ := by
          rw [← w2]; exact arrSt (s := ⟨IntKind.i64.wrap (840 * deg r.curve ((k + 1 : Nat) : Int)), IntKind.i64.wrap (840 * deg r.curve ((k + 1 : Nat) : Int))⟩) rfl (by rw [hVl]; omega)
        exact ACode.vc (.br 11 true <| .lent (.bool false) [2] <| .call (.int .i64 (deg r.curve ((k + 1 : Nat) : Int))) <| .lent (.agg [.int .i64 (mLo r ((k + 1 : Nat) : Int)), .int .i64 (mHi r ((k + 1 : Nat) : Int))]) [2] <| .val 22 (.vptr 2 (6 + (k + 1) * 2)) [] <|
            .val 1 .undef [(2, some (.cells (V k)))] <| .val 28 (.vptr 2 (128 + (k + 1) * 2)) [] <| .val 1 .undef [(2, some (.cells (W (k + 1))))] .nil) hn hl (.roundW .cl)
          ⟨ltLen hlt, ⟨[.cptr (W k), .int .i64 (IntKind.i64.wrap ((k : Int) + 1))], Eq.trans (by kernel_rfl) th, .inl ⟨sB, .inr rfl⟩⟩, sD,
            ⟨[.cptr (W k), .int .i64 (IntKind.i64.wrap ((k : Int) + 1))], Eq.trans (by kernel_rfl) th, .inl ⟨sM, .inr rfl⟩⟩,
            Eq.trans (by kernel_rfl) (ix 6), Eq.trans (by kernel_rfl) st1, Eq.trans (by kernel_rfl) (ix 128), Eq.trans (by kernel_rfl) st2, k + 1, hlt, mu1 hlt,
            Wk.le (St.le.of ⟨by kernel_rfl, rfl, by kernel_rfl, rfl, by kernel_rfl, rfl, Eq.trans (by kernel_rfl) (congrArg (AV.int .i64) e1), rfl, trivial⟩ ⟨by kernel_rfl, (by decide : (0 : Nat) < 6), rfl, by kernel_rfl, (by decide : (1 : Nat) < 6), by kernel_rfl, by kernel_rfl, (by decide : (2 : Nat) < 6), hok _ _, by kernel_rfl, (by decide : (4 : Nat) < 6), rfl, by kernel_rfl, (by decide : (5 : Nat) < 6), rfl, trivial⟩) hl⟩
      · rw [hb] at sB
        have f1 := (fK_blind hb).1
        have f2 := (fK_blind hb).2
        have eW : some (AObj.cells (W k)) = some (.cells (W (k + 1))) := by rw [hW, hW, f1, f2]
        exact ACode.vc (.br 11 true <| .lent (.bool true) [2] .nil) hn hl (.roundW .cl)
          ⟨ltLen hlt, ⟨[.cptr (W k), .int .i64 (IntKind.i64.wrap ((k : Int) + 1))], Eq.trans (by kernel_rfl) th, .inl ⟨sB, .inr rfl⟩⟩, k + 1, hlt, mu1 hlt,
            Wk.le (St.le.of ⟨by kernel_rfl, rfl, by kernel_rfl, rfl, by kernel_rfl, rfl, Eq.trans (by kernel_rfl) (congrArg (AV.int .i64) e1), rfl, trivial⟩ ⟨by kernel_rfl, (by decide : (0 : Nat) < 6), rfl, by kernel_rfl, (by decide : (1 : Nat) < 6), by kernel_rfl, Eq.trans (by kernel_rfl) eW, (by decide : (2 : Nat) < 6), hok _ _, by kernel_rfl, (by decide : (4 : Nat) < 6), rfl, by kernel_rfl, (by decide : (5 : Nat) < 6), rfl, trivial⟩) hl⟩
    · have hk' : k = r.rows.length := by omega
      subst hk'
      have ld : (aLoad Try.prog (hget [(2, .cells (W r.rows.length))]) 101 (.vptr 2 0)) = some ⟨.agg (W r.rows.length), []⟩ := ldW rfl (hlen _)
      have stW : aStore Try.prog (hget [(1, .cells Z101)]) 101 (.vptr 1 0) (.agg (W r.rows.length)) = some ⟨.undef, [(1, some (.cells (W r.rows.length)))]⟩ := stW1 (hlen _) (by rw [hW]; exact workL_cellB _ _ _)
      exact ACode.vc (.br 11 false .nil) hn hl (.roundW .cl) ⟨geLen hlt, _, .refl _, .val 29 (.agg (W r.rows.length)) [] <| .val 1 .undef [(1, some (.cells (W r.rows.length)))] .nil,
        Eq.trans (by kernel_rfl) ld, Eq.trans (by kernel_rfl) stW, trivial, Eq.trans (by kernel_rfl) (aresW (S := ⟨[(2, .vptr 1 0)], [(1, .cells (W r.rows.length))], 0⟩) rfl rfl (hlen _))⟩
end Go.Proofs.Yticiopkiikcokaa
namespace Go.Proofs.Yticiopkiikcokaa
open Go Go.Am
theorem take_flS (C : List AV) (s : Sn) : ∀ (xs : List Sn) (k : Nat), xs[k]? = some s → ((flS xs ++ C).drop (k * 2)).take 2 = encS s ∧ 2 ≤ ((flS xs ++ C).drop (k * 2)).length := by
  intro xs
  induction xs with
  | nil => intro k h; simp at h
  | cons a xs ih =>
    intro k h
    have ea : flS (a :: xs) ++ C = AV.int .i64 a.lo :: AV.int .i64 a.hi :: (flS xs ++ C) := rfl
    cases k with
    | zero =>
      simp at h; subst h
      rw [ea]
      exact ⟨rfl, by simp⟩
    | succ k =>
      have := ih k (by simpa using h)
      have e : (k + 1) * 2 = k * 2 + 1 + 1 := by omega
      rw [ea, e, List.drop_succ_cons, List.drop_succ_cons]
      exact this
theorem ldM {h : Nat → Option AObj} {i k : Nat} {r : Rn} {mf cf : Nat → Sn} (h0 : h i = some (.cells (workL r mf cf))) (hk : k < 61) : aLoad Try.prog h 26 (.vptr i (6 + k * 2)) = some ⟨.agg (encS (mf k)), []⟩ := by
  have e : (workL r mf cf).drop (6 + k * 2) = (flS ((List.range 61).map mf) ++ arrL cf).drop (k * 2) := by
    have e6 : 6 + k * 2 = k * 2 + 6 := by omega
    rw [e6]; rfl
  have t := take_flS (arrL cf) (mf k) ((List.range 61).map mf) k (by simp [hk])
  simp only [aLoad, ty26, h0, e, aread]
  have ha : (TD.struct [(0, 3, false), (1, 3, false)]).agg = true := rfl
  rw [if_pos ha, if_pos t.2, t.1]; rfl
theorem stW2 {h : Nat → Option AObj} {i : Nat} {cs : List AV} (h0 : h i = some (.cells Z101)) (hl : cs.length = 250) (hc : cs.all cellB = true) : aStore Try.prog h 101 (.vptr i 0) (.agg cs) = some ⟨.undef, [(i, some (.cells cs))]⟩ := by
  have e : splice Z101 0 cs = cs := splice_all cs Z101 [] (by rw [hl, Z101_len])
  have h2 : 0 + cs.length ≤ Z101.length := by rw [hl, Z101_len]; omega
  simp only [aStore, ty101, acells, h0]
  rw [if_pos ⟨hl, h2, hc⟩, e]
theorem mfK_at {r : Rn} {n k : Nat} (h1 : 1 ≤ k) (h2 : k ≤ n) (hb : blindB r (k : Int) = false) : encS (mfK r n k) = [.int .i64 (mLo r k), .int .i64 (mHi r k)] := by
  unfold mfK; rw [if_pos ⟨h1, h2, hb⟩]; rfl
set_option maxHeartbeats 16000000 in
set_option maxRecDepth 100000 in
theorem Mean_blind {r : Rn} (hv : runB r = true) {k : Nat} (h1 : 1 ≤ k) (h2 : k ≤ r.rows.length) (hb : blindB r (k : Int) = true) : APure Try.prog 18 [encRn r, .int .i64 (k : Int)] (.tup [.agg [.int .i64 0, .int .i64 0], .int .i64 2]) := by
  have hr := runB_out hv
  have hcl := hr.cl
  have s1 := isRun_spec r
  rw [hv] at s1
  have s2 : APure Try.prog 45 [.int .i64 (k : Int), .int .i64 1, .int .i64 ((r.rows.map encRw).length : Int)] (.bool true) := by
    have := within_spec k 1 r.rows.length
    rw [within_iff.2 ⟨by omega, by omega⟩] at this
    rw [List.length_map]; exact this
  have s3 := atWork_spec hr
  have s4 : APure Try.prog 52 [.cptr (workL r (mfK r r.rows.length) (cfK r r.rows.length)), .int .i64 (k : Int)] (.bool true) := by
    rw [← hb]; unfold workL; exact blind_spec r _ _ (by omega)
  obtain ⟨W, hW⟩ : ∃ W, W = workL r (mfK r r.rows.length) (cfK r r.rows.length) := ⟨_, rfl⟩
  have hl : W.length = 250 := by rw [hW]; exact workL_len _ _ _
  have hc : W.all cellB = true := by rw [hW]; exact workL_cellB _ _ _
  have hok : okL 0 W = true := by rw [hW]; exact workL_ok _ _ _ _
  rw [← hW] at s3 s4
  have th : thawL (hget [(0, .cells (runL r)), (1, .cells [.int .i64 0, .int .i64 0]), (2, .cells W)]) [.vptr 2 0, .int .i64 (k : Int)] = some ([.cptr W, .int .i64 (k : Int)], [2]) := thaw_W rfl hok
  have st : aStore Try.prog (hget [(0, .cells (runL r)), (1, .cells [.int .i64 0, .int .i64 0]), (2, .cells Z101)]) 101 (.vptr 2 0) (.agg W) = some ⟨.undef, [(2, some (.cells W))]⟩ := stW2 rfl hl hc
  clear hW
  exact APure.vc Try.func18 rfl (.call (.bool true) <| .call (.bool true) <| .call (.agg W) <| .val 6 (.vptr 2 0) [(2, some (.cells Z101))] <| .val 1 .undef [(2, some (.cells W))] <| .lent (.bool true) [2] .nil) rfl rfl
    ⟨s1, s2, s3, by kernel_rfl, Eq.trans (by kernel_rfl) st, ⟨[.cptr W, .int .i64 (k : Int)], Eq.trans (by kernel_rfl) th, .inl ⟨s4, .inr rfl⟩⟩, trivial, by kernel_rfl⟩
set_option maxHeartbeats 16000000 in
set_option maxRecDepth 100000 in
theorem Mean_ok {r : Rn} (hv : runB r = true) {k : Nat} (h1 : 1 ≤ k) (h2 : k ≤ r.rows.length) (hb : blindB r (k : Int) = false) : APure Try.prog 18 [encRn r, .int .i64 (k : Int)] (.tup [.agg [.int .i64 (mLo r k), .int .i64 (mHi r k)], .int .i64 0]) := by
  have hr := runB_out hv
  have hcl := hr.cl
  have hrl := hr.rl
  have s1 := isRun_spec r
  rw [hv] at s1
  have s2 : APure Try.prog 45 [.int .i64 (k : Int), .int .i64 1, .int .i64 ((r.rows.map encRw).length : Int)] (.bool true) := by
    have := within_spec k 1 r.rows.length
    rw [within_iff.2 ⟨by omega, by omega⟩] at this
    rw [List.length_map]; exact this
  have s3 := atWork_spec hr
  have s4 : APure Try.prog 52 [.cptr (workL r (mfK r r.rows.length) (cfK r r.rows.length)), .int .i64 (k : Int)] (.bool false) := by
    rw [← hb]; unfold workL; exact blind_spec r _ _ (by omega)
  obtain ⟨W, hW⟩ : ∃ W, W = workL r (mfK r r.rows.length) (cfK r r.rows.length) := ⟨_, rfl⟩
  have hl : W.length = 250 := by rw [hW]; exact workL_len _ _ _
  have hc : W.all cellB = true := by rw [hW]; exact workL_cellB _ _ _
  have hok : okL 0 W = true := by rw [hW]; exact workL_ok _ _ _ _
  rw [← hW] at s3 s4
  have th : thawL (hget [(0, .cells (runL r)), (1, .cells [.int .i64 0, .int .i64 0]), (2, .cells W)]) [.vptr 2 0, .int .i64 (k : Int)] = some ([.cptr W, .int .i64 (k : Int)], [2]) := thaw_W rfl hok
  have st : aStore Try.prog (hget [(0, .cells (runL r)), (1, .cells [.int .i64 0, .int .i64 0]), (2, .cells Z101)]) 101 (.vptr 2 0) (.agg W) = some ⟨.undef, [(2, some (.cells W))]⟩ := stW2 rfl hl hc
  have ld : aLoad Try.prog (hget [(0, .cells (runL r)), (1, .cells [.int .i64 0, .int .i64 0]), (2, .cells W)]) 26 (.vptr 2 (6 + k * 2)) = some ⟨.agg [.int .i64 (mLo r k), .int .i64 (mHi r k)], []⟩ := by
    rw [← mfK_at h1 h2 hb]; exact ldM (by rw [hW]; rfl) (by omega)
  have ix : (aindexAddr Try.prog (hget [(0, .cells (runL r)), (1, .cells [.int .i64 0, .int .i64 0]), (2, .cells W)]) 99 (.vptr 2 6) (.int .i64 (k : Int))).map (fun v => (⟨v, []⟩ : Out)) = some ⟨.vptr 2 (6 + k * 2), []⟩ := by
    rw [arrIx rfl (by omega)]; rfl
  clear hW
  exact APure.vc Try.func18 rfl (.call (.bool true) <| .call (.bool true) <| .call (.agg W) <| .val 6 (.vptr 2 0) [(2, some (.cells Z101))] <| .val 1 .undef [(2, some (.cells W))] <| .lent (.bool false) [2] <| .val 25 (.vptr 2 (6 + k * 2)) [] <| .val 26 (.agg [.int .i64 (mLo r k), .int .i64 (mHi r k)]) [] .nil) rfl rfl
    ⟨s1, s2, s3, by kernel_rfl, Eq.trans (by kernel_rfl) st, ⟨[.cptr W, .int .i64 (k : Int)], Eq.trans (by kernel_rfl) th, .inl ⟨s4, .inr rfl⟩⟩, Eq.trans (by kernel_rfl) ix, Eq.trans (by kernel_rfl) ld, trivial, by kernel_rfl⟩
end Go.Proofs.Yticiopkiikcokaa
