import Derived.Test.YticiopkiikcokaaPg
import Derived.Test.YticiopkiikcokaaPe
import Derived.Test.YticiopkiikcokaaPc
import Derived.Test.YticiopkiikcokaaPi
import Derived.Test.YticiopkiikcokaaN22
namespace Go.Proofs.Yticiopkiikcokaa
open Go Go.Am Go.Srt
/-! What limits were left, and in which order it is told. -/
def outI (lo hi a b : Int) : Int := if hi < a then 2 else if lo > b then 2 else if lo < a then 1 else if hi > b then 1 else 0
theorem outI_rng (lo hi a b : Int) : 0 ≤ outI lo hi a b ∧ outI lo hi a b ≤ 2 := by unfold outI; split <;> (try split) <;> (try split) <;> (try split) <;> omega
def brk1 (m k c n : Int) : List Br := if n = 0 then [] else [⟨m, k, c, n⟩]
theorem brk1_mem {m k c n : Int} {b : Br} (h : b ∈ brk1 m k c n) : b.m = m ∧ b.k = k ∧ b.c = c ∧ b.n = n := by
  unfold brk1 at h
  split at h
  · cases h
  · simp at h; subst h; exact ⟨rfl, rfl, rfl, rfl⟩
theorem brk1_len (m k c n : Int) : (brk1 m k c n).length ≤ 1 := by unfold brk1; split <;> simp
/-- The part of the last step that has begun, of the first so many. -/
def partK (l : List Sp) (m : Int) : Nat → Int
  | 0 => -1
  | k + 1 => match l[k]? with
    | some s => if s.f ≤ m then s.p else partK l m k
    | none => partK l m k
def partI (u : Ru) (m : Int) : Int := partK u.steps m u.steps.length
def accS (f : Nat → Sn) (p : Sn → Int) (m : Nat) : Int := (((List.range (m + 1)).map f).map p).sum
def mF (r : Rn) : Nat → Sn := mfK r r.rows.length
def cF (r : Rn) : Nat → Sn := cfK r r.rows.length
def kBlind (r : Rn) (m : Nat) : Int := if blindB r m = true then 2 else 0
def kArea (r : Rn) (u : Ru) (m : Nat) : Int := if partI u m < 0 then 0 else outI (1000 * accS (mF r) Sn.lo m) (1000 * accS (mF r) Sn.hi m) ((1000 - partI u m) * accS (cF r) Sn.lo m) ((1000 + partI u m) * accS (cF r) Sn.hi m)
def kSing (r : Rn) (u : Ru) (m i : Nat) : Int := if (m : Int) < u.sFrom then 0 else outI (tLo r m i) (tHi r m i) (deg r.curve m - u.single) (deg r.curve m + u.single)
def pressAt (r : Rn) (m : Nat) : Int := match r.rows[m - 1]? with
  | some q => q.press
  | none => 0
def kPress (r : Rn) (u : Ru) (m : Nat) : Int := if (m : Int) < u.pFrom then 0 else outI (pressAt r m - r.gHi) (pressAt r m - r.gLo) u.pLo u.pHi
def idAt (r : Rn) (i : Nat) : Int := match r.cps[i]? with
  | some c => c.id
  | none => 0
def bB (r : Rn) (m : Nat) : List Br := brk1 m 1 (-1) (kBlind r m)
def bA (r : Rn) (u : Ru) (m : Nat) : List Br := brk1 m 2 (-1) (kArea r u m)
def bSK (r : Rn) (u : Ru) (m : Nat) (k : Nat) : List Br := ((List.range k).filter (wkAt r m)).flatMap fun i => brk1 m 3 (idAt r i) (kSing r u m i)
def bS (r : Rn) (u : Ru) (m : Nat) : List Br := bSK r u m r.cps.length
def bP (r : Rn) (u : Ru) (m : Nat) : List Br := brk1 m 4 (-1) (kPress r u m)
def leftAt (r : Rn) (u : Ru) (m : Nat) : List Br := bB r m ++ (bA r u m ++ (bS r u m ++ bP r u m))
/-- In the order in which it is told. -/
def leftL (r : Rn) (u : Ru) : List Br := (List.range r.rows.length).flatMap fun i => leftAt r u (i + 1)
/-- Limit by limit. -/
def limB (r : Rn) (u : Ru) (j : Nat) (m : Nat) : List Br := match j with
  | 0 => bB r m
  | 1 => bA r u m
  | 2 => bS r u m
  | _ => bP r u m
def rawK (r : Rn) (u : Ru) (j n : Nat) : List Br := (List.range n).flatMap fun i => limB r u j (i + 1)
def rawJ (r : Rn) (u : Ru) (j : Nat) : List Br := (List.range j).flatMap fun i => rawK r u i r.rows.length
theorem rawK_succ (r : Rn) (u : Ru) (j n : Nat) : rawK r u j (n + 1) = rawK r u j n ++ limB r u j (n + 1) := by
  unfold rawK; rw [List.range_succ, List.flatMap_append]; simp
theorem rawJ_succ (r : Rn) (u : Ru) (j : Nat) : rawJ r u (j + 1) = rawJ r u j ++ rawK r u j r.rows.length := by
  unfold rawJ; rw [List.range_succ, List.flatMap_append]; simp
theorem raw_perm (r : Rn) (u : Ru) : (rawJ r u 4).Perm (leftL r u) := by
  have e : rawJ r u 4 = rawK r u 0 r.rows.length ++ (rawK r u 1 r.rows.length ++ (rawK r u 2 r.rows.length ++ rawK r u 3 r.rows.length)) := by
    simp [rawJ, List.range_succ]
  rw [e]
  refine List.Perm.symm ((flat_perm _ _ _).trans (List.Perm.append_left _ ((flat_perm _ _ _).trans (List.Perm.append_left _ (flat_perm _ _ _)))))
theorem mem_bS {r : Rn} {u : Ru} {m k : Nat} {b : Br} (h : b ∈ bSK r u m k) : ∃ i, i < k ∧ wkAt r m i = true ∧ b ∈ brk1 m 3 (idAt r i) (kSing r u m i) := by
  obtain ⟨i, hi, hb⟩ := List.mem_flatMap.1 h
  obtain ⟨h1, h2⟩ := List.mem_filter.1 hi
  exact ⟨i, List.mem_range.1 h1, h2, hb⟩
theorem left_mem {r : Rn} {u : Ru} {m : Nat} {b : Br} (h : b ∈ leftAt r u m) : b.m = (m : Int) := by
  rcases List.mem_append.1 h with h | h
  · exact (brk1_mem h).1
  · rcases List.mem_append.1 h with h | h
    · exact (brk1_mem h).1
    · rcases List.mem_append.1 h with h | h
      · obtain ⟨i, _, _, h⟩ := mem_bS h; exact (brk1_mem h).1
      · exact (brk1_mem h).1
theorem ids_lt {r : Rn} (hr : RunOk r) : ∀ (n i : Nat), i + n + 1 < r.cps.length → idAt r i < idAt r (i + n + 1) := by
  have step : ∀ i, i + 1 < r.cps.length → idAt r i < idAt r (i + 1) := fun i hi => by
    obtain ⟨b, hb⟩ := getE (show i < r.cps.length by omega)
    obtain ⟨c, hc⟩ := getE hi
    have := hr.ids i b c hb hc
    unfold idAt; rw [hb, hc]; exact this
  intro n
  induction n with
  | zero => intro i hi; exact step i hi
  | succ n ih =>
    intro i hi
    have h1 := ih i (by omega)
    have h2 := step (i + n + 1) (by omega)
    have e : i + (n + 1) + 1 = i + n + 1 + 1 := by omega
    rw [e]; omega
theorem ids_mono {r : Rn} (hr : RunOk r) {i j : Nat} (h : i < j) (hj : j < r.cps.length) : idAt r i < idAt r j := by
  obtain ⟨n, rfl⟩ : ∃ n, j = i + n + 1 := ⟨j - i - 1, by omega⟩
  exact ids_lt hr n i hj
theorem bS_sorted {r : Rn} (hr : RunOk r) (u : Ru) (m : Nat) : (bS r u m).Pairwise fun a b => a.c < b.c := by
  unfold bS bSK
  rw [List.pairwise_flatMap]
  refine ⟨fun i _ => ?_, ?_⟩
  · unfold brk1; split <;> simp
  · have hp : ((List.range r.cps.length).filter (wkAt r m)).Pairwise (· < ·) := List.Pairwise.filter _ List.pairwise_lt_range
    refine List.Pairwise.imp_of_mem (fun {i j} hi hj hij => ?_) hp
    intro a ha b hb
    have h1 := (brk1_mem ha).2.2.1
    have h2 := (brk1_mem hb).2.2.1
    have := ids_mono hr hij (List.mem_range.1 (List.mem_filter.1 hj).1)
    omega
theorem leftAt_sorted {r : Rn} (hr : RunOk r) (u : Ru) (m : Nat) : (leftAt r u m).Pairwise fun a b => ltBr a b = true := by
  refine four_sorted (m := (m : Int)) (fun b hb => left_mem hb) (fun b hb => (brk1_mem hb).2.1) (fun b hb => (brk1_mem hb).2.1) (fun b hb => ?_) (fun b hb => (brk1_mem hb).2.1) (brk1_len _ _ _ _) (brk1_len _ _ _ _) (bS_sorted hr u m) (brk1_len _ _ _ _)
  obtain ⟨i, _, _, h⟩ := mem_bS hb; exact (brk1_mem h).2.1
theorem left_sorted {r : Rn} (hr : RunOk r) (u : Ru) : (leftL r u).Pairwise fun a b => ltBr a b = true := by
  unfold leftL
  refine flat_sorted (fun i b hb => ?_) (fun i => leftAt_sorted hr u (i + 1)) _ List.pairwise_lt_range
  have := left_mem hb; omega
/-- What is in order, and of the same things, is what is told. -/
theorem left_uniq {r : Rn} (hr : RunOk r) (u : Ru) {l : List Br} (hp : l.Perm (rawJ r u 4)) (hs : Sd ltBr l) : l = leftL r u :=
  uniq ordBr (hp.trans (raw_perm r u)) (left_sorted hr u) hs
theorem brk1_n {m k c n : Int} (hn : 0 ≤ n ∧ n ≤ 2) {b : Br} (h : b ∈ brk1 m k c n) : 1 ≤ b.n ∧ b.n ≤ 2 := by
  unfold brk1 at h
  split at h
  · cases h
  · simp at h; subst h; simp; omega
theorem kBlind_rng (r : Rn) (m : Nat) : 0 ≤ kBlind r m ∧ kBlind r m ≤ 2 := by unfold kBlind; split <;> omega
theorem kArea_rng (r : Rn) (u : Ru) (m : Nat) : 0 ≤ kArea r u m ∧ kArea r u m ≤ 2 := by
  unfold kArea; split
  · omega
  · exact outI_rng _ _ _ _
theorem kSing_rng (r : Rn) (u : Ru) (m i : Nat) : 0 ≤ kSing r u m i ∧ kSing r u m i ≤ 2 := by
  unfold kSing; split
  · omega
  · exact outI_rng _ _ _ _
theorem kPress_rng (r : Rn) (u : Ru) (m : Nat) : 0 ≤ kPress r u m ∧ kPress r u m ≤ 2 := by
  unfold kPress; split
  · omega
  · exact outI_rng _ _ _ _
theorem leftAt_n {r : Rn} {u : Ru} {m : Nat} {b : Br} (h : b ∈ leftAt r u m) : 1 ≤ b.n ∧ b.n ≤ 2 := by
  rcases List.mem_append.1 h with h | h
  · exact brk1_n (kBlind_rng r m) h
  · rcases List.mem_append.1 h with h | h
    · exact brk1_n (kArea_rng r u m) h
    · rcases List.mem_append.1 h with h | h
      · obtain ⟨i, _, _, h⟩ := mem_bS h; exact brk1_n (kSing_rng r u m i) h
      · exact brk1_n (kPress_rng r u m) h
theorem left_out {r : Rn} {u : Ru} {b : Br} (h : b ∈ leftL r u) : 1 ≤ b.m ∧ b.m ≤ r.rows.length ∧ 1 ≤ b.n ∧ b.n ≤ 2 := by
  obtain ⟨i, hi, hb⟩ := List.mem_flatMap.1 h
  have := left_mem hb
  have := leftAt_n hb
  have := List.mem_range.1 hi
  omega
theorem limB_len {r : Rn} (hr : RunOk r) (u : Ru) (j m : Nat) : (limB r u j m).length ≤ 8 := by
  have hs : (bS r u m).length ≤ 8 := by
    unfold bS bSK
    rw [List.length_flatMap]
    have key : ∀ l : List Nat, (l.map fun i => (brk1 m 3 (idAt r i) (kSing r u m i)).length).sum ≤ l.length := by
      intro l
      induction l with
      | nil => simp
      | cons a l ih => have := brk1_len m 3 (idAt r a) (kSing r u m a); simp; omega
    have h1 := key ((List.range r.cps.length).filter (wkAt r m))
    have h2 := List.length_filter_le (wkAt r m) (List.range r.cps.length)
    rw [List.length_range] at h2
    have := hr.cl; omega
  match j with
  | 0 => exact Nat.le_trans (brk1_len _ _ _ _) (by omega)
  | 1 => exact Nat.le_trans (brk1_len _ _ _ _) (by omega)
  | 2 => exact hs
  | _ + 3 => exact Nat.le_trans (brk1_len _ _ _ _) (by omega)
theorem rawK_len {r : Rn} (hr : RunOk r) (u : Ru) (j : Nat) : ∀ n, (rawK r u j n).length ≤ 8 * n := by
  intro n
  induction n with
  | zero => simp [rawK]
  | succ n ih => rw [rawK_succ, List.length_append]; have := limB_len hr u j (n + 1); omega
theorem rawJ_len {r : Rn} (hr : RunOk r) (u : Ru) : ∀ j, (rawJ r u j).length ≤ 480 * j := by
  intro j
  have hrl := hr.rl
  induction j with
  | zero => simp [rawJ]
  | succ j ih => rw [rawJ_succ, List.length_append]; have := rawK_len hr u j r.rows.length; omega
end Go.Proofs.Yticiopkiikcokaa
namespace Go.Proofs.Yticiopkiikcokaa
open Go Go.Am Go.Srt
set_option maxHeartbeats 8000000 in
set_option maxRecDepth 100000 in
theorem outside_spec (lo hi a b : Int) : APure Try.prog 105 [.agg [.int .i64 lo, .int .i64 hi], .agg [.int .i64 a, .int .i64 b]] (.int .u8 (outI lo hi a b)) := by
  refine APure.vc Try.func105 rfl (.both 10 .nil <| .both 16 .nil <| .both 22 .nil <| .both 28 .nil .nil) rfl rfl ⟨fun h1 => rI ?_, fun h1 => ⟨fun h2 => rI ?_, fun h2 => ⟨fun h3 => rI ?_, fun h3 => ⟨fun h4 => rI ?_, fun h4 => rI ?_⟩⟩⟩⟩
  · have h1 := of_decide_eq_true h1
    rw [outI, if_pos h1]
  · have h1 := of_decide_eq_false h1
    have h2 := of_decide_eq_true h2
    rw [outI, if_neg h1, if_pos h2]
  · have h1 := of_decide_eq_false h1
    have h2 := of_decide_eq_false h2
    have h3 := of_decide_eq_true h3
    rw [outI, if_neg h1, if_neg h2, if_pos h3]
  · have h1 := of_decide_eq_false h1
    have h2 := of_decide_eq_false h2
    have h3 := of_decide_eq_false h3
    have h4 := of_decide_eq_true h4
    rw [outI, if_neg h1, if_neg h2, if_neg h3, if_pos h4]
  · have h1 := of_decide_eq_false h1
    have h2 := of_decide_eq_false h2
    have h3 := of_decide_eq_false h3
    have h4 := of_decide_eq_false h4
    rw [outI, if_neg h1, if_neg h2, if_neg h3, if_neg h4]
theorem pressAt_some {r : Rn} {k : Nat} {q : Rw} (h : r.rows[k - 1]? = some q) : pressAt r k = q.press := by unfold pressAt; rw [h]
set_option maxHeartbeats 8000000 in
set_option maxRecDepth 100000 in
theorem pressure_spec {r : Rn} (hr : RunOk r) (R : List AV) {k : Nat} (h1 : 1 ≤ k) (h2 : k ≤ r.rows.length) : APure Try.prog 106 [.cptr (runL r ++ R), .int .i64 (k : Int)] (.agg [.int .i64 (pressAt r k - r.gHi), .int .i64 (pressAt r k - r.gLo)]) := by
  have hrl := hr.rl
  obtain ⟨q, hq⟩ := getE (show k - 1 < r.rows.length by omega)
  have hp := (hr.row _ q hq).2.1
  have hg := hr.gauge
  have e1 : IntKind.i64.wrap ((k : Int) - 1) = ((k - 1 : Nat) : Int) := by rw [wrap64 (by omega) (by omega)]; omega
  have s := lessError_spec (a := q.press) (b := q.press) (lo := r.gLo) (hi := r.gHi) (by omega) (by omega) (by omega) (by omega)
  rw [pressAt_some hq]
  exact APure.vc Try.func106 rfl (.cells (encRw q) <| .call (.agg [.int .i64 (q.press - r.gHi), .int .i64 (q.press - r.gLo)]) .nil) rfl rfl ⟨idxW e1 hq, s, trivial, rfl⟩
set_option maxHeartbeats 8000000 in
set_option maxRecDepth 100000 in
theorem isBlind_spec {r : Rn} (hr : RunOk r) (R : List AV) (k : Nat) : APure Try.prog 92 [.cptr (runL r ++ R), .int .i64 (k : Int)] (.int .u8 (kBlind r k)) := by
  have hcl := hr.cl
  have s := blind_spec r R (k : Int) (by omega)
  refine APure.vc Try.func92 rfl (.call (.bool (blindB r k)) <| .both 7 .nil .nil) rfl rfl ⟨s, fun h => rI ?_, fun h => rI ?_⟩
  · rw [kBlind, if_pos h]
  · rw [kBlind, if_neg (by rw [h]; simp)]
structure RuOk (u : Ru) : Prop where
  single : 0 ≤ u.single ∧ u.single ≤ 2000
  sFrom : 1 ≤ u.sFrom ∧ u.sFrom ≤ 600
  press : -100 ≤ u.pLo ∧ u.pLo ≤ u.pHi ∧ u.pHi ≤ 100
  pFrom : 1 ≤ u.pFrom ∧ u.pFrom ≤ 600
  len : u.steps.length ≤ 5
  step : ∀ (k : Nat) (s : Sp), u.steps[k]? = some s → (1 ≤ s.f ∧ s.f ≤ 600) ∧ 0 ≤ s.p ∧ s.p ≤ 1000
theorem rulesB_out {u : Ru} (h : rulesB u = true) : RuOk u := by
  simp only [rulesB, stepsB, Bool.and_eq_true, within_iff, spanB_iff, decide_eq_true_eq, List.all_eq_true, List.mem_range] at h
  obtain ⟨⟨h1, h2⟩, h3, h4, h5, h6⟩ := h
  refine ⟨h3, h4, h5, h6, h1, fun k s hs => ?_⟩
  obtain ⟨hk, _⟩ := List.getElem?_eq_some_iff.1 hs
  have := h2 k hk
  unfold spAt at this
  rw [hs] at this
  simp only [Bool.and_eq_true, spOk, within_iff] at this
  exact this.1
theorem partK_rng {u : Ru} (hu : RuOk u) (m : Int) : ∀ k, -1 ≤ partK u.steps m k ∧ partK u.steps m k ≤ 1000 := by
  intro k
  induction k with
  | zero => simp [partK]
  | succ k ih =>
    simp only [partK]
    split
    · rename_i s hs
      have := hu.step k s hs
      split
      · omega
      · exact ih
    · exact ih
set_option maxHeartbeats 8000000 in
set_option maxRecDepth 100000 in
theorem single_spec {r : Rn} (hr : RunOk r) {u : Ru} (hu : RuOk u) (R : List AV) {m i : Nat} (h1 : 1 ≤ m) (h2 : m ≤ r.rows.length) (hw : wkAt r m i = true) (hi : i < r.cps.length) :
    APure Try.prog 96 [.cptr (runL r ++ R), encRu u, .int .i64 (m : Int), .int .i64 (i : Int)] (.int .u8 (kSing r u m i)) := by
  have hrl := hr.rl
  have hus := hu.single
  obtain ⟨c, hc⟩ := getE hi
  rw [wkAt_some hc] at hw
  have s1 := degreeAt_spec hr.curve (m := (m : Int)) (by omega) (by omega)
  have s2 := temperature_spec hr R (m := (m : Int)) (k := i) (c := c) (by omega) (by omega) hc hw
  obtain ⟨hclen, _⟩ := curveB_out hr.curve
  obtain ⟨p, hp⟩ := getE (show r.curve.length - 1 < r.curve.length by omega)
  have hlast := hr.last
  rw [lastM_some hp] at hlast
  have hd := deg_rng hr.curve hp (m := (m : Int)) (by omega) (by omega)
  have e1 : IntKind.i64.wrap (deg r.curve m - u.single) = deg r.curve m - u.single := wrap64 (by omega) (by omega)
  have e2 : IntKind.i64.wrap (deg r.curve m + u.single) = deg r.curve m + u.single := wrap64 (by omega) (by omega)
  have s3 := outside_spec (tLo r m i) (tHi r m i) (IntKind.i64.wrap (deg r.curve m - u.single)) (IntKind.i64.wrap (deg r.curve m + u.single))
  refine APure.vc Try.func96 rfl (.both 13 .nil <| .call (.int .i64 (deg r.curve m)) <| .draw 13 <| .call (.agg [.int .i64 (tLo r m i), .int .i64 (tHi r m i)]) <| .call (.int .u8 (outI (tLo r m i) (tHi r m i) (IntKind.i64.wrap (deg r.curve m - u.single)) (IntKind.i64.wrap (deg r.curve m + u.single)))) .nil) rfl rfl
    ⟨fun h => rI ?_, fun h => ⟨s1, by kernel_rfl, mixed, by kernel_rfl, s2, by kernel_rfl, s3, rI ?_⟩⟩
  · rw [kSing, if_pos (of_decide_eq_true h)]
  · rw [kSing, if_neg (of_decide_eq_false h), e1, e2]
set_option maxHeartbeats 8000000 in
set_option maxRecDepth 100000 in
theorem press_spec {r : Rn} (hr : RunOk r) (u : Ru) (R : List AV) {m : Nat} (h1 : 1 ≤ m) (h2 : m ≤ r.rows.length) :
    APure Try.prog 98 [.cptr (runL r ++ R), encRu u, .int .i64 (m : Int)] (.int .u8 (kPress r u m)) := by
  have s1 := pressure_spec hr R h1 h2
  have s2 := outside_spec (pressAt r m - r.gHi) (pressAt r m - r.gLo) u.pLo u.pHi
  refine APure.vc Try.func98 rfl (.both 10 .nil <| .draw 5 <| .call (.agg [.int .i64 (pressAt r m - r.gHi), .int .i64 (pressAt r m - r.gLo)]) <| .call (.int .u8 (outI (pressAt r m - r.gHi) (pressAt r m - r.gLo) u.pLo u.pHi)) .nil) rfl rfl
    ⟨fun h => rI ?_, fun h => ⟨by kernel_rfl, mixed, by kernel_rfl, s1, by kernel_rfl, s2, rI ?_⟩⟩
  · rw [kPress, if_pos (of_decide_eq_true h)]
  · rw [kPress, if_neg (of_decide_eq_false h)]
end Go.Proofs.Yticiopkiikcokaa
namespace Go.Proofs.Yticiopkiikcokaa
open Go Go.Am Go.Srt
theorem chunks_flS (C : List AV) : ∀ (xs : List Sn) (n : Nat), n ≤ xs.length → chunks 2 (flS xs ++ C) n = (xs.take n).map encS := by
  intro xs
  induction xs with
  | nil => intro n h; simp at h; subst h; rfl
  | cons s xs ih =>
    intro n h
    cases n with
    | zero => rfl
    | succ n =>
      have e : chunks 2 (flS (s :: xs) ++ C) (n + 1) = encS s :: chunks 2 (flS xs ++ C) n := rfl
      rw [e, ih n (by simpa using h)]; rfl
theorem range_take (f : Nat → Sn) {n : Nat} (h : n ≤ 61) : ((List.range 61).map f).take n = (List.range n).map f := by
  rw [← List.map_take, List.take_range, Nat.min_eq_left h]
theorem slArr {h : Nat → Option AObj} {f : Nat → Sn} {C : List AV} {i : Int} {m : Nat} (hi : i = ((m + 1 : Nat) : Int)) (hm : m ≤ 60) : (aSlice Try.prog h 99 (.cptr (arrL f ++ C)) none (some (.int .i64 i))).map (fun v => (⟨v, []⟩ : Out)) = some ⟨.lst 2 (((List.range (m + 1)).map f).map encS), []⟩ := by
  subst hi
  have e1 : abound 61 (some (.int .i64 ((m + 1 : Nat) : Int))) = some (m + 1) := by simp only [abound]; rw [if_pos (Int.natCast_nonneg _)]; rfl
  have hl : (arrL f ++ C).length = 122 + C.length := by rw [List.length_append, arrL_len]
  simp only [aSlice, ty99, ty26, abound]
  rw [if_pos (Int.natCast_nonneg _)]
  simp only [Int.toNat_natCast]
  rw [if_pos ⟨by omega, by omega, by rw [hl]; omega⟩]
  simp only [Nat.zero_mul, List.drop_zero, Nat.sub_zero, Option.map_some]
  rw [arrL, chunks_flS C _ (m + 1) (by simp; omega), range_take f (by omega)]
theorem mean_rng {r : Rn} (hr : RunOk r) {m : Int} (h1 : 1 ≤ m) (h2 : m ≤ r.rows.length) (hb : 1 ≤ (wl r m).length) : (-840000000 ≤ mLo r m ∧ mLo r m ≤ 840000000) ∧ (-840000000 ≤ mHi r m ∧ mHi r m ≤ 840000000) := by
  have hcl := hr.cl
  have hrng := xs_rng hr h1 h2
  have hl : (wl r m).length ≤ 8 := by
    have := List.length_filter_le (wkAt r m) (List.range r.cps.length)
    rw [List.length_range] at this
    unfold wl; omega
  have r1 := sum_rng Sn.lo fun s hs => (hrng s hs).1
  have r2 := sum_rng Sn.hi fun s hs => (hrng s hs).2
  rw [List.length_map] at r1 r2
  have hq := tdiv840 (n := ((wl r m).length : Int)) (by omega)
  unfold mLo mHi
  exact ⟨mul_rng (by omega) (by omega) hq.1 hq.2, mul_rng (by omega) (by omega) hq.1 hq.2⟩
theorem mF_rng {r : Rn} (hr : RunOk r) (i : Nat) : (-840000000 ≤ (mF r i).lo ∧ (mF r i).lo ≤ 840000000) ∧ (-840000000 ≤ (mF r i).hi ∧ (mF r i).hi ≤ 840000000) := by
  unfold mF mfK
  split
  · rename_i h
    exact mean_rng hr (by omega) (by omega) (blind_len h.2.2)
  · simp
theorem cF_rng {r : Rn} (hr : RunOk r) (i : Nat) : (0 ≤ (cF r i).lo ∧ (cF r i).lo ≤ 1680000) ∧ (0 ≤ (cF r i).hi ∧ (cF r i).hi ≤ 1680000) := by
  unfold cF cfK
  split
  · rename_i h
    obtain ⟨hclen, _⟩ := curveB_out hr.curve
    obtain ⟨p, hp⟩ := getE (show r.curve.length - 1 < r.curve.length by omega)
    have hlast := hr.last
    rw [lastM_some hp] at hlast
    have hd := deg_rng hr.curve hp (m := (i : Int)) (by omega) (by omega)
    simp only; omega
  · simp
theorem acc_rng {f : Nat → Sn} {p : Sn → Int} (h : ∀ i, -840000000 ≤ p (f i) ∧ p (f i) ≤ 840000000) {m : Nat} (hm : m ≤ 60) : -61000000000 ≤ accS f p m ∧ accS f p m ≤ 61000000000 := by
  have e : accS f p m = sumTo p ((List.range (m + 1)).map f) ((List.range (m + 1)).map f).length := by unfold accS sumTo; rw [List.take_length]
  have := sumTo_le (f := p) (l := (List.range (m + 1)).map f) (fun s hs => by obtain ⟨i, _, rfl⟩ := List.mem_map.1 hs; have := h i; omega) _ (Nat.le_refl _)
  rw [← e] at this
  simp only [List.length_map, List.length_range] at this
  omega
theorem acc_spec {f : Nat → Sn} (h : ∀ i, (-840000000 ≤ (f i).lo ∧ (f i).lo ≤ 840000000) ∧ (-840000000 ≤ (f i).hi ∧ (f i).hi ≤ 840000000)) {m : Nat} (hm : m ≤ 60) :
    APure Try.prog 90 [.lst 2 (((List.range (m + 1)).map f).map encS)] (.agg [.int .i64 (accS f Sn.lo m), .int .i64 (accS f Sn.hi m)]) :=
  sum_spec _ (by simp; omega) fun s hs => by obtain ⟨i, _, rfl⟩ := List.mem_map.1 hs; have := h i; omega
theorem mulP {p c : Int} (h1 : 0 ≤ p) (h2 : p ≤ 2000) (h3 : -61000000000 ≤ c) (h4 : c ≤ 61000000000) : -122000000000000 ≤ p * c ∧ p * c ≤ 122000000000000 := by
  have e1 : p * c ≤ p * 61000000000 := Int.mul_le_mul_of_nonneg_left h4 h1
  have e2 : p * -61000000000 ≤ p * c := Int.mul_le_mul_of_nonneg_left h3 h1
  omega
set_option maxHeartbeats 16000000 in
set_option maxRecDepth 100000 in
theorem area_spec {r : Rn} (hr : RunOk r) {u : Ru} (hu : RuOk u) {R : List AV} (hR : R = arrL (mF r) ++ arrL (cF r)) {m : Nat} (_h1 : 1 ≤ m) (h2 : m ≤ r.rows.length) :
    APure Try.prog 94 [.cptr (runL r ++ R), encRu u, .int .i64 (m : Int)] (.int .u8 (kArea r u m)) := by
  have hrl := hr.rl
  have hul := hu.len
  have hP := partK_rng hu m
  have ei : IntKind.i64.wrap ((m : Int) + 1) = ((m + 1 : Nat) : Int) := succ64 (by omega)
  have sl1 : (aSlice Try.prog (hget []) 99 (.cptr R) none (some (.int .i64 (IntKind.i64.wrap ((m : Int) + 1))))).map (fun v => (⟨v, []⟩ : Out)) = some ⟨.lst 2 (((List.range (m + 1)).map (mF r)).map encS), []⟩ := by rw [hR]; exact slArr ei (by omega)
  have hR2 : R.drop 122 = arrL (cF r) ++ [] := by rw [hR, List.append_nil, ← arrL_len (mF r), List.drop_left]
  have sl2 : (aSlice Try.prog (hget []) 99 (.cptr (R.drop 122)) none (some (.int .i64 (IntKind.i64.wrap ((m : Int) + 1))))).map (fun v => (⟨v, []⟩ : Out)) = some ⟨.lst 2 (((List.range (m + 1)).map (cF r)).map encS), []⟩ := by rw [hR2]; exact slArr ei (by omega)
  have s1 := acc_spec (f := mF r) (mF_rng hr) (m := m) (by omega)
  have s2 := acc_spec (f := cF r) (fun i => by have := cF_rng hr i; omega) (m := m) (by omega)
  have a1 := acc_rng (f := mF r) (p := Sn.lo) (fun i => (mF_rng hr i).1) (m := m) (by omega)
  have a2 := acc_rng (f := mF r) (p := Sn.hi) (fun i => (mF_rng hr i).2) (m := m) (by omega)
  have a3 := acc_rng (f := cF r) (p := Sn.lo) (fun i => by have := cF_rng hr i; omega) (m := m) (by omega)
  have a4 := acc_rng (f := cF r) (p := Sn.hi) (fun i => by have := cF_rng hr i; omega) (m := m) (by omega)
  have hK : kArea r u m = if partI u m < 0 then 0 else outI (1000 * accS (mF r) Sn.lo m) (1000 * accS (mF r) Sn.hi m) ((1000 - partI u m) * accS (cF r) Sn.lo m) ((1000 + partI u m) * accS (cF r) Sn.hi m) := rfl
  have hPi : -1 ≤ partI u m ∧ partI u m ≤ 1000 := hP u.steps.length
  have hPe : partK u.steps m u.steps.length = partI u m := rfl
  generalize accS (mF r) Sn.lo m = A1 at s1 a1 hK
  generalize accS (mF r) Sn.hi m = A2 at s1 a2 hK
  generalize accS (cF r) Sn.lo m = A3 at s2 a3 hK
  generalize accS (cF r) Sn.hi m = A4 at s2 a4 hK
  generalize kArea r u m = K at hK
  clear hR hR2
  refine APure.vc Try.func94 rfl .loop rfl rfl ?_
  intro g hn hl
  replace hn : g.n = 63 := hn
  replace hl : g.low 0 := hl
  refine acode_while (fun k : Nat => ⟨[(0, .cptr (runL r ++ R)), (2, .int .i64 m), (4, .vptr 0 0), (7, .int .i64 (partK u.steps m k)), (14, .lst 2 (u.steps.map encSp)), (15, .int .i64 (u.steps.map encSp).length), (16, .int .i64 k)], [(0, .cells (ruL u))], 1⟩)
    (fun k => k ≤ u.steps.length) (fun k => u.steps.length - k) 0 (Nat.zero_le _) ?_ (fun _ _ => hl.mono (Nat.zero_le _)) ?_
  · exact St.le.of ⟨rfl, rfl, rfl, rfl, rfl, rfl, rfl, rfl, rfl, rfl, rfl, rfl, rfl, rfl, trivial⟩ ⟨rfl, Nat.zero_lt_one, rfl, trivial⟩
  · intro k hk
    by_cases hlt : k < u.steps.length
    · obtain ⟨s, hs⟩ := getE hlt
      have ek := succ64 (k := k) (by omega)
      have p1 : s.f ≤ m → s.p = partK u.steps m (k + 1) := fun h => by simp only [partK, hs, if_pos h]
      have p2 : ¬ s.f ≤ m → partK u.steps m k = partK u.steps m (k + 1) := fun h => by simp only [partK, hs, if_neg h]
      exact ACode.vc (.br 17 true <| .cells (encSp s) <| .both 23 .nil .nil) hn hl (.round .cl) ⟨ltLen hlt, idx hs,
        fun h => ⟨k + 1, hlt, mu1 hlt, St.le.of ⟨rfl, rfl, rfl, rfl, rfl, rfl, congrArg (AV.int .i64) (p1 (of_decide_eq_true h)), rfl, rfl, rfl, rfl, rfl, congrArg (AV.int .i64) ek, rfl, trivial⟩ ⟨rfl, Nat.zero_lt_one, rfl, trivial⟩⟩,
        fun h => ⟨k + 1, hlt, mu1 hlt, St.le.of ⟨rfl, rfl, rfl, rfl, rfl, rfl, congrArg (AV.int .i64) (p2 (of_decide_eq_false h)), rfl, rfl, rfl, rfl, rfl, congrArg (AV.int .i64) ek, rfl, trivial⟩ ⟨rfl, Nat.zero_lt_one, rfl, trivial⟩⟩⟩
    · have hk' : k = u.steps.length := by omega
      subst hk'
      rw [hPe]
      generalize partI u m = p at hK hPi
      have b1 := wrap64 (n := 1000 * A1) (by omega) (by omega)
      have b2 := wrap64 (n := 1000 * A2) (by omega) (by omega)
      have b3 := wrap64 (n := 1000 - p) (by omega) (by omega)
      have b4 := wrap64 (n := 1000 + p) (by omega) (by omega)
      have m3 := mulP (p := 1000 - p) (c := A3) (by omega) (by omega) a3.1 a3.2
      have m4 : 0 ≤ p → -122000000000000 ≤ (1000 + p) * A4 ∧ (1000 + p) * A4 ≤ 122000000000000 := fun h => mulP (p := 1000 + p) (c := A4) (by omega) (by omega) a4.1 a4.2
      have b5 : IntKind.i64.wrap (IntKind.i64.wrap (1000 - p) * A3) = (1000 - p) * A3 := by rw [b3]; exact wrap64 (by omega) (by omega)
      have b6 : 0 ≤ p → IntKind.i64.wrap (IntKind.i64.wrap (1000 + p) * A4) = (1000 + p) * A4 := fun h => by have := m4 h; rw [b4]; exact wrap64 (by omega) (by omega)
      have s3 := outside_spec (IntKind.i64.wrap (1000 * A1)) (IntKind.i64.wrap (1000 * A2)) (IntKind.i64.wrap (IntKind.i64.wrap (1000 - p) * A3)) (IntKind.i64.wrap (IntKind.i64.wrap (1000 + p) * A4))
      refine ACode.vc (.br 17 false .nil) hn hl (.round .cl) ⟨geLen hlt, _, .refl _, .both 28 .nil <| .draw 16 <| .val 34 (.lst 2 (((List.range (m + 1)).map (mF r)).map encS)) [] <| .call (.agg [.int .i64 A1, .int .i64 A2]) <| .val 41 (.lst 2 (((List.range (m + 1)).map (cF r)).map encS)) [] <| .call (.agg [.int .i64 A3, .int .i64 A4]) <|
        .call (.int .u8 (outI (IntKind.i64.wrap (1000 * A1)) (IntKind.i64.wrap (1000 * A2)) (IntKind.i64.wrap (IntKind.i64.wrap (1000 - p) * A3)) (IntKind.i64.wrap (IntKind.i64.wrap (1000 + p) * A4)))) .nil,
        fun h => rI ?_, fun h => ⟨by kernel_rfl, mixed, by kernel_rfl, Eq.trans (by kernel_rfl) sl1, s1, Eq.trans (by kernel_rfl) sl2, s2, by kernel_rfl, s3, rI ?_⟩⟩
      · rw [hK, if_pos (of_decide_eq_true h)]
      · have h := of_decide_eq_false h
        rw [hK, if_neg h, b1, b2, b5, b6 (by omega)]
end Go.Proofs.Yticiopkiikcokaa
namespace Go.Proofs.Yticiopkiikcokaa
open Go Go.Am Go.Srt
theorem APure.ofNil {P : Program} {f : FuncId} {args : List AV} (esz : Nat) (h : APure P f args .nil) : APure P f args (.lst esz []) := fun κ N w cargs hN hc =>
  (h κ N w cargs hN hc).mono fun _ _ ⟨v, e, h1, h2, h3⟩ => ⟨v, e, h1, h2, by
    cases h3
    exact .lst esz [] none 0 (fun _ _ => Go.undef) (fun _ => rfl) (Nat.le_refl _) (fun i x hx => by simp at hx) (fun i x hx => by simp at hx)⟩
def capW (r : Rn) (R : List AV) : AV := .cptr [.cptr (runL r ++ R)]
def limsL (r : Rn) (u : Ru) (R : List AV) : List (List AV) :=
  [[.int .u8 1, .bool false, .fn (.func 91) [] [capW r R]], [.int .u8 2, .bool false, .fn (.func 93) [] [capW r R, .cptr (ruL u)]], [.int .u8 3, .bool true, .fn (.func 95) [] [capW r R, .cptr (ruL u)]], [.int .u8 4, .bool false, .fn (.func 97) [] [capW r R, .cptr (ruL u)]]]
set_option maxHeartbeats 8000000 in
set_option maxRecDepth 100000 in
theorem lim1 {r : Rn} (hr : RunOk r) (R : List AV) (m : Nat) (c : Int) : APure Try.prog 91 [.int .i64 (m : Int), .int .i64 c, capW r R] (.int .u8 (kBlind r m)) :=
  APure.vc Try.func91 rfl (.call (.int .u8 (kBlind r m)) .nil) rfl rfl ⟨isBlind_spec hr R m, rI rfl⟩
set_option maxHeartbeats 8000000 in
set_option maxRecDepth 100000 in
theorem lim2 {r : Rn} (hr : RunOk r) {u : Ru} (hu : RuOk u) {R : List AV} (hR : R = arrL (mF r) ++ arrL (cF r)) {m : Nat} (h1 : 1 ≤ m) (h2 : m ≤ r.rows.length) (c : Int) : APure Try.prog 93 [.int .i64 (m : Int), .int .i64 c, capW r R, .cptr (ruL u)] (.int .u8 (kArea r u m)) :=
  APure.vc Try.func93 rfl (.call (.int .u8 (kArea r u m)) .nil) rfl rfl ⟨area_spec hr hu hR h1 h2, rI rfl⟩
set_option maxHeartbeats 8000000 in
set_option maxRecDepth 100000 in
theorem lim3 {r : Rn} (hr : RunOk r) {u : Ru} (hu : RuOk u) (R : List AV) {m i : Nat} (h1 : 1 ≤ m) (h2 : m ≤ r.rows.length) (hw : wkAt r m i = true) (hi : i < r.cps.length) : APure Try.prog 95 [.int .i64 (m : Int), .int .i64 (i : Int), capW r R, .cptr (ruL u)] (.int .u8 (kSing r u m i)) :=
  APure.vc Try.func95 rfl (.call (.int .u8 (kSing r u m i)) .nil) rfl rfl ⟨single_spec hr hu R h1 h2 hw hi, rI rfl⟩
set_option maxHeartbeats 8000000 in
set_option maxRecDepth 100000 in
theorem lim4 {r : Rn} (hr : RunOk r) (u : Ru) (R : List AV) {m : Nat} (h1 : 1 ≤ m) (h2 : m ≤ r.rows.length) (c : Int) : APure Try.prog 97 [.int .i64 (m : Int), .int .i64 c, capW r R, .cptr (ruL u)] (.int .u8 (kPress r u m)) :=
  APure.vc Try.func97 rfl (.call (.int .u8 (kPress r u m)) .nil) rfl rfl ⟨press_spec hr u R h1 h2, rI rfl⟩
set_option maxHeartbeats 8000000 in
set_option maxRecDepth 100000 in
theorem limits_spec (r : Rn) (u : Ru) (R : List AV) : APure Try.prog 79 [.cptr (runL r ++ R), encRu u] (.lst 3 (limsL r u R)) :=
  APure.vcT Try.func79 .nil rfl rfl ⟨_, rfl⟩
end Go.Proofs.Yticiopkiikcokaa
namespace Go.Proofs.Yticiopkiikcokaa
open Go Go.Am Go.Srt
set_option maxHeartbeats 8000000 in
set_option maxRecDepth 100000 in
theorem broken1 {r : Rn} (hr : RunOk r) (R : List AV) {m : Nat} :
    APure Try.prog 80 [.cptr (runL r ++ R), .agg [.int .u8 1, .bool false, .fn (.func 91) [] [capW r R]], .int .i64 (m : Int)] (.lst 4 ((brk1 m 1 (-1) (kBlind r m)).map encBr)) := by
  have h := lim1 hr R m (-1)
  generalize kBlind r m = v at h ⊢
  by_cases hv : v = 0
  · subst hv
    have e0 : ((0 : Int) != 0) = false := rfl
    exact APure.ofNil 4 (APure.vcT Try.func80 (.call (.int .u8 0) <| .inl Try.f99 <| .br 8 false .nil) rfl rfl ⟨h, Try.func99, e0, [], rfl⟩)
  · have e0 : (v != 0) = true := by simp [hv]
    have e1 : brk1 m 1 (-1) v = [⟨m, 1, -1, v⟩] := by rw [brk1, if_neg hv]
    rw [e1]
    exact APure.vcT Try.func80 (.call (.int .u8 v) <| .inl Try.f99 <| .br 8 true .nil) rfl rfl ⟨h, Try.func99, e0, _, rfl⟩
set_option maxHeartbeats 8000000 in
set_option maxRecDepth 100000 in
theorem broken2 {r : Rn} (hr : RunOk r) {u : Ru} (hu : RuOk u) {R : List AV} (hR : R = arrL (mF r) ++ arrL (cF r)) {m : Nat} (h1 : 1 ≤ m) (h2 : m ≤ r.rows.length) :
    APure Try.prog 80 [.cptr (runL r ++ R), .agg [.int .u8 2, .bool false, .fn (.func 93) [] [capW r R, .cptr (ruL u)]], .int .i64 (m : Int)] (.lst 4 ((brk1 m 2 (-1) (kArea r u m)).map encBr)) := by
  have h := lim2 hr hu hR h1 h2 (-1)
  generalize kArea r u m = v at h ⊢
  by_cases hv : v = 0
  · subst hv
    have e0 : ((0 : Int) != 0) = false := rfl
    exact APure.ofNil 4 (APure.vcT Try.func80 (.call (.int .u8 0) <| .inl Try.f99 <| .br 8 false .nil) rfl rfl ⟨h, Try.func99, e0, [], rfl⟩)
  · have e0 : (v != 0) = true := by simp [hv]
    have e1 : brk1 m 2 (-1) v = [⟨m, 2, -1, v⟩] := by rw [brk1, if_neg hv]
    rw [e1]
    exact APure.vcT Try.func80 (.call (.int .u8 v) <| .inl Try.f99 <| .br 8 true .nil) rfl rfl ⟨h, Try.func99, e0, _, rfl⟩
set_option maxHeartbeats 8000000 in
set_option maxRecDepth 100000 in
theorem broken4 {r : Rn} (hr : RunOk r) (u : Ru) (R : List AV) {m : Nat} (h1 : 1 ≤ m) (h2 : m ≤ r.rows.length) :
    APure Try.prog 80 [.cptr (runL r ++ R), .agg [.int .u8 4, .bool false, .fn (.func 97) [] [capW r R, .cptr (ruL u)]], .int .i64 (m : Int)] (.lst 4 ((brk1 m 4 (-1) (kPress r u m)).map encBr)) := by
  have h := lim4 hr u R h1 h2 (-1)
  generalize kPress r u m = v at h ⊢
  by_cases hv : v = 0
  · subst hv
    have e0 : ((0 : Int) != 0) = false := rfl
    exact APure.ofNil 4 (APure.vcT Try.func80 (.call (.int .u8 0) <| .inl Try.f99 <| .br 8 false .nil) rfl rfl ⟨h, Try.func99, e0, [], rfl⟩)
  · have e0 : (v != 0) = true := by simp [hv]
    have e1 : brk1 m 4 (-1) v = [⟨m, 4, -1, v⟩] := by rw [brk1, if_neg hv]
    rw [e1]
    exact APure.vcT Try.func80 (.call (.int .u8 v) <| .inl Try.f99 <| .br 8 true .nil) rfl rfl ⟨h, Try.func99, e0, _, rfl⟩
end Go.Proofs.Yticiopkiikcokaa
namespace Go.Proofs.Yticiopkiikcokaa
open Go Go.Am Go.Srt
theorem bSK_succ (r : Rn) (u : Ru) (m k : Nat) : bSK r u m (k + 1) = if wkAt r m k = true then bSK r u m k ++ brk1 m 3 (idAt r k) (kSing r u m k) else bSK r u m k := by
  unfold bSK
  rw [List.range_succ, List.filter_append, List.flatMap_append]
  by_cases h : wkAt r m k = true
  · rw [if_pos h]; simp [h]
  · rw [if_neg h]; simp [h]
theorem bSK_len (r : Rn) (u : Ru) (m : Nat) : ∀ k, (bSK r u m k).length ≤ k := by
  intro k
  induction k with
  | zero => simp [bSK]
  | succ k ih =>
    rw [bSK_succ]
    have := brk1_len m 3 (idAt r k) (kSing r u m k)
    split
    · rw [List.length_append]; omega
    · omega
theorem app_B {h : Nat → Option AObj} {i j id : Nat} {l : List Br} {b : Br} (h0 : h i = some (.cells (brs l))) (h1 : h j = some (.cells (encBr b))) (hl : l.length ≤ 1000) :
    aAppend Try.prog h id 49 49 (.rsl i 0 l.length 4) (.rsl j 0 1 4) = some ⟨.rsl id 0 (l.length + 1) 4, [(i, none), (id, some (.cells (brs l ++ encBr b)))]⟩ := by
  simp only [aAppend, ty49, ty71, srcCells, h0, h1]
  rw [if_pos (by decide)]
  simp [brs_len, encBr, cellB]
  omega
theorem brs_snoc (l : List Br) (b : Br) : brs l ++ encBr b = brs (l ++ [b]) := by rw [brs_app]; simp [brs, fl]
def lim3V (r : Rn) (u : Ru) (R : List AV) : List AV := [.int .u8 3, .bool true, .fn (.func 95) [] [capW r R, .cptr (ruL u)]]
set_option maxHeartbeats 16000000 in
set_option maxRecDepth 100000 in
theorem broken3 {r : Rn} (hr : RunOk r) {u : Ru} (hu : RuOk u) (R : List AV) {m : Nat} (h1 : 1 ≤ m) (h2 : m ≤ r.rows.length) :
    APure Try.prog 80 [.cptr (runL r ++ R), .agg (lim3V r u R), .int .i64 (m : Int)] (.lst 4 ((bS r u m).map encBr)) := by
  have hcl := hr.cl
  refine APure.vcT Try.func80 (.call (.imap (wkL (wl r m))) .loop) rfl rfl ⟨(working_spec r R m (by omega)).pure, ?_⟩
  intro g hn hl
  replace hn : g.n = 55 := hn
  replace hl : g.low 0 := hl
  refine acode_whileW (fun k : Nat => ⟨[(0, .cptr (runL r ++ R)), (4, .vptr 0 0), (5, .vptr 1 0), (7, .vptr 2 0), (8, .fn (.func 99) [] [.vptr 2 0, .vptr 1 0, .vptr 0 0]), (9, .imap (wkL (wl r m))), (30, .int .i64 (r.cps.map encCp).length), (31, .int .i64 k)],
      [(0, .cells (lim3V r u R)), (1, .cells [.int .i64 (m : Int)]), (2, .cells [.rsl 3 0 (bSK r u m k).length 4]), (3, .cells (brs (bSK r u m k)))], 4⟩)
    (fun k => k ≤ r.cps.length) (fun k => r.cps.length - k) 0 (Nat.zero_le _) (Wk.trans (Wk.le ?_ (hl.mono (Nat.zero_le _))) (Wk.ownC 2 0 4 (cs := [.nil]) rfl rfl)) ?_
  · exact St.le.of ⟨rfl, rfl, rfl, rfl, rfl, rfl, rfl, rfl, rfl, rfl, rfl, rfl, rfl, rfl, rfl, rfl, trivial⟩ ⟨rfl, (by decide : (0 : Nat) < 4), rfl, rfl, (by decide : (1 : Nat) < 4), rfl, rfl, (by decide : (2 : Nat) < 4), rfl, rfl, (by decide : (3 : Nat) < 4), rfl, trivial⟩
  · intro k hk
    have hlen := bSK_len r u m k
    by_cases hlt : k < r.cps.length
    · obtain ⟨c, hc⟩ := getE hlt
      have ek := succ64 (k := k) (by omega)
      have hmem := mem_wl (r := r) (m := m) hlt
      have hlook := look_wk (h := hget []) (wl r m) k
      rw [hmem] at hlook
      have hnext := bSK_succ r u m k
      cases hw : wkAt r m k
      · rw [hw] at hlook
        rw [hw, if_neg (by simp)] at hnext
        have q2 := congrArg (fun l : List Br => some (AObj.cells [.rsl 3 0 l.length 4])) hnext.symm
        have q3 := congrArg (fun l : List Br => some (AObj.cells (brs l))) hnext.symm
        exact ACode.vc (.br 32 true <| .val 36 (.bool false) [] .nil) hn hl (.roundW .cl) ⟨ltLen hlt, congrArg (Option.map fun v => (⟨v, []⟩ : Out)) hlook, k + 1, hlt, mu1 hlt,
          Wk.le (St.le.of ⟨rfl, rfl, rfl, rfl, rfl, rfl, rfl, rfl, rfl, rfl, rfl, rfl, rfl, rfl, congrArg (AV.int .i64) ek, rfl, trivial⟩ ⟨rfl, (by decide : (0 : Nat) < 4), rfl, rfl, (by decide : (1 : Nat) < 4), rfl, q2, (by decide : (2 : Nat) < 4), rfl, q3, (by decide : (3 : Nat) < 4), brs_ok _ _, trivial⟩) (hl.mono (Nat.zero_le _))⟩
      · rw [hw] at hlook
        rw [hw, if_pos rfl] at hnext
        have s3 := lim3 hr hu R h1 h2 hw hlt
        have hid : idAt r k = c.id := by unfold idAt; rw [hc]
        rw [hid] at hnext
        generalize kSing r u m k = v at s3 hnext
        by_cases hv : v = 0
        · subst hv
          have e0 : ((0 : Int) != 0) = false := rfl
          have hnext : bSK r u m (k + 1) = bSK r u m k := by rw [hnext, brk1, if_pos rfl, List.append_nil]
          have q2 := congrArg (fun l : List Br => some (AObj.cells [.rsl 3 0 l.length 4])) hnext.symm
          have q3 := congrArg (fun l : List Br => some (AObj.cells (brs l))) hnext.symm
          exact ACode.vc (.br 32 true <| .val 36 (.bool true) [] <| .draw 15 <| .call (.int .u8 0) <| .cells (encCp c) <| .inl Try.f99 <| .br 8 false .nil) hn hl (.roundW .cl)
            ⟨ltLen hlt, congrArg (Option.map fun v => (⟨v, []⟩ : Out)) hlook, by kernel_rfl, mixed, by kernel_rfl, s3, idx hc, by kernel_rfl, Try.func99, e0, k + 1, hlt, mu1 hlt,
            Wk.le (St.le.of ⟨rfl, rfl, rfl, rfl, rfl, rfl, rfl, rfl, rfl, rfl, rfl, rfl, rfl, rfl, congrArg (AV.int .i64) ek, rfl, trivial⟩ ⟨rfl, (by decide : (0 : Nat) < 4), rfl, rfl, (by decide : (1 : Nat) < 4), rfl, q2, (by decide : (2 : Nat) < 4), rfl, q3, (by decide : (3 : Nat) < 4), brs_ok _ _, trivial⟩) (hl.mono (Nat.zero_le _))⟩
        · have e0 : (v != 0) = true := by simp [hv]
          have hnext : bSK r u m (k + 1) = bSK r u m k ++ [⟨m, 3, c.id, v⟩] := by rw [hnext, brk1, if_neg hv]
          have hn1 : (bSK r u m (k + 1)).length = (bSK r u m k).length + 1 := by rw [hnext]; simp
          have ap := app_B (h := hget [(3, .cells (brs (bSK r u m k))), (20, .cells (encBr ⟨m, 3, c.id, v⟩))]) (i := 3) (j := 20) (id := 21) (l := bSK r u m k) (b := ⟨m, 3, c.id, v⟩) rfl rfl (by omega)
          rw [brs_snoc, ← hnext, ← hn1] at ap
          have q3 := brs_ok 3 (bSK r u m (k + 1))
          exact ACode.vc (.br 32 true <| .val 36 (.bool true) [] <| .draw 15 <| .call (.int .u8 v) <| .cells (encCp c) <| .inl Try.f99 <| .br 8 true <| .val 17 (.rsl 21 0 (bSK r u m (k + 1)).length 4) [(3, none), (21, some (.cells (brs (bSK r u m (k + 1)))))] .nil) hn hl (.roundW .cl)
            ⟨ltLen hlt, congrArg (Option.map fun v => (⟨v, []⟩ : Out)) hlook, by kernel_rfl, mixed, by kernel_rfl, s3, idx hc, by kernel_rfl, Try.func99, e0, Eq.trans (by kernel_rfl) ap, k + 1, hlt, mu1 hlt,
              Wk.renC (c := 3) (b := 21) (St.renC.of rfl (.inl (by decide)) ⟨.eq rfl rfl, .eq rfl rfl, .eq rfl rfl, .eq rfl rfl, .eq rfl rfl, .eq rfl rfl, .eq rfl rfl, .eq (congrArg (AV.int .i64) ek) rfl, trivial⟩
                ⟨rvO.same (by decide : (0 : Nat) < 3) rfl rfl, rvO.same (by decide : (1 : Nat) < 3) rfl rfl, rvO.turn (by decide : (2 : Nat) < 3) rfl ⟨.rsl, trivial⟩, rvO.new rfl q3, trivial⟩) (hl.mono (Nat.zero_le _))⟩
    · have hk' : k = r.cps.length := by omega
      subst hk'
      have th := thaw_fl (n := 4) (d := 6) (h := hget [(0, .cells (lim3V r u R)), (1, .cells [.int .i64 (m : Int)]), (2, .cells [.rsl 3 0 (bSK r u m r.cps.length).length 4]), (3, .cells (brs (bSK r u m r.cps.length)))]) (id := 3) (enc := encBr) (l := bSK r u m r.cps.length) (fun _ => rfl) (fun _ => rfl) rfl
      exact ACode.vc (.br 32 false .nil) hn hl (.roundW .cl) ⟨geLen hlt, _, .refl _, .nil, [3], Eq.trans (by kernel_rfl) th⟩
end Go.Proofs.Yticiopkiikcokaa
