import Derived.Test.YticiopkiikcokaaPk
import Derived.Test.YticiopkiikcokaaPo
import Derived.Test.YticiopkiikcokaaPr
import Derived.Test.YticiopkiikcokaaPf
namespace Go.Proofs.Yticiopkiikcokaa
open Go Go.Am Go.Srt
/-! A run of which rows are cut off. -/
def cutR (r : Rn) (n : Nat) : Rn := { r with rows := r.rows.take n }
theorem cut_len {r : Rn} {n : Nat} (h : n ≤ r.rows.length) : (cutR r n).rows.length = n := by
  show (r.rows.take n).length = n
  rw [List.length_take]; omega
theorem cut_get {r : Rn} {n i : Nat} (h : i < n) : (cutR r n).rows[i]? = r.rows[i]? := by
  show (r.rows.take n)[i]? = _
  rw [List.getElem?_take, if_pos h]
theorem cut_rd {r : Rn} {n i : Nat} (h : i < n) (k : Nat) : rd (cutR r n) i k = rd r i k := by
  unfold rd; rw [cut_get h]
theorem last_cut (m lag n N b : Int) (hn : n ≤ N) (h3 : m + lag ≤ n) : (if (if b > 0 then (if b - 1 < n then b - 1 else n) else n) < m + lag then (if b > 0 then (if b - 1 < n then b - 1 else n) else n) else m + lag) = (if (if b > 0 then (if b - 1 < N then b - 1 else N) else N) < m + lag then (if b > 0 then (if b - 1 < N then b - 1 else N) else N) else m + lag) := by
  by_cases hb : b > 0
  · simp only [if_pos hb]
    by_cases h4 : b - 1 < n
    · rw [if_pos h4, if_pos (show b - 1 < N by omega)]
    · rw [if_neg h4, if_neg (show ¬(n < m + lag) by omega)]
      by_cases h5 : b - 1 < N
      · rw [if_pos h5, if_neg (show ¬(b - 1 < m + lag) by omega)]
      · rw [if_neg h5, if_neg (show ¬(N < m + lag) by omega)]
  · simp only [if_neg hb]
    rw [if_neg (show ¬(n < m + lag) by omega), if_neg (show ¬(N < m + lag) by omega)]
theorem cut_ix {r : Rn} {n : Nat} (hn : n ≤ r.rows.length) {c : Cp} {m lag : Int} (h1 : 1 ≤ m) (h2 : 0 ≤ lag) (h3 : m + lag ≤ n) : rowIx m lag (lastOf (cutR r n) c) = rowIx m lag (lastOf r c) ∧ rowIx m lag (lastOf r c) < n := by
  have e := last_cut m lag n r.rows.length c.brk (by omega) h3
  constructor
  · unfold rowIx lastOf
    rw [cut_len hn, e]
  · have : rowIx m lag (lastOf r c) ≤ (m + lag - 1).toNat := by unfold rowIx; split <;> omega
    omega
theorem cut_tmp {r : Rn} {n : Nat} (hn : n ≤ r.rows.length) {c : Cp} {m lag : Int} (h1 : 1 ≤ m) (h2 : 0 ≤ lag) (h3 : m + lag ≤ n) (k : Nat) : tmpF (cutR r n) c m k lag = tmpF r c m k lag := by
  obtain ⟨e, hl⟩ := cut_ix (c := c) hn h1 h2 h3
  unfold tmpF
  rw [e, cut_rd hl]
theorem mn_congr {f g : Int → Int} {lo : Int} : ∀ j : Nat, (f lo = g lo) → (∀ i : Nat, i < j → f (lo + i) = g (lo + i)) → mnK f lo j = mnK g lo j ∧ mxK f lo j = mxK g lo j := by
  intro j
  induction j with
  | zero => intro h _; exact ⟨h, h⟩
  | succ j ih =>
    intro h0 h
    obtain ⟨e1, e2⟩ := ih h0 (fun i hi => h i (by omega))
    have e3 := h j (by omega)
    simp only [mnK, mxK]
    rw [e1, e2, e3]; exact ⟨rfl, rfl⟩
theorem cut_t {r : Rn} (hr : RunOk r) {n : Nat} (hn : n ≤ r.rows.length) {m : Int} (h1 : 1 ≤ m) (h3 : m + 3 ≤ n) (k : Nat) : tLo (cutR r n) m k = tLo r m k ∧ tHi (cutR r n) m k = tHi r m k := by
  unfold tLo tHi
  show (match r.cps[k]? with | some c => _ | none => _) = _ ∧ (match r.cps[k]? with | some c => _ | none => _) = _
  cases hc : r.cps[k]? with
  | none => exact ⟨rfl, rfl⟩
  | some c =>
    have hl := (hr.cp k c hc).2.2.1
    have key := mn_congr (f := tmpF (cutR r n) c m k) (g := tmpF r c m k) (lo := c.lLo) (lagN c) (cut_tmp hn h1 (by omega) (by omega) k) (fun i hi => by
      have : (i : Int) < c.lHi - c.lLo + 1 := by unfold lagN at hi; omega
      exact cut_tmp hn h1 (by omega) (by omega) k)
    simp only
    rw [key.1, key.2]
    exact ⟨rfl, rfl⟩
theorem cut_sp {r : Rn} (hr : RunOk r) {n : Nat} (hn : n ≤ r.rows.length) {m : Int} (h1 : 1 ≤ m) (h3 : m + 3 ≤ n) : spanAt (cutR r n) m = spanAt r m := by
  funext k
  obtain ⟨e1, e2⟩ := cut_t hr hn h1 h3 k
  unfold spanAt
  rw [e1, e2]
theorem cut_mean {r : Rn} (hr : RunOk r) {n : Nat} (hn : n ≤ r.rows.length) {m : Int} (h1 : 1 ≤ m) (h3 : m + 3 ≤ n) : mLo (cutR r n) m = mLo r m ∧ mHi (cutR r n) m = mHi r m := by
  have e := cut_sp hr hn h1 h3
  unfold mLo mHi
  rw [e]
  exact ⟨rfl, rfl⟩
theorem cut_f {r : Rn} (hr : RunOk r) {n : Nat} (hn : n ≤ r.rows.length) {m : Nat} (h3 : m + 3 ≤ n) : mF (cutR r n) m = mF r m ∧ cF (cutR r n) m = cF r m := by
  have hl := cut_len hn
  unfold mF cF mfK cfK
  rw [hl]
  by_cases h : 1 ≤ m ∧ m ≤ r.rows.length ∧ blindB r m = false
  · obtain ⟨e1, e2⟩ := cut_mean hr hn (m := (m : Int)) (by omega) (by omega)
    have h' : 1 ≤ m ∧ m ≤ n ∧ blindB (cutR r n) m = false := ⟨h.1, by omega, h.2.2⟩
    rw [if_pos h, if_pos h, if_pos h', if_pos h', e1, e2]
    exact ⟨rfl, rfl⟩
  · have h' : ¬(1 ≤ m ∧ m ≤ n ∧ blindB (cutR r n) m = false) := fun g => h ⟨g.1, by omega, g.2.2⟩
    rw [if_neg h, if_neg h, if_neg h', if_neg h']
    exact ⟨rfl, rfl⟩
theorem map_range {f g : Nat → Sn} {n : Nat} (h : ∀ i, i < n → f i = g i) : (List.range n).map f = (List.range n).map g :=
  List.map_congr_left fun i hi => h i (List.mem_range.1 hi)
theorem cut_acc {r : Rn} (hr : RunOk r) {n : Nat} (hn : n ≤ r.rows.length) {m : Nat} (h3 : m + 3 ≤ n) (p : Sn → Int) : accS (mF (cutR r n)) p m = accS (mF r) p m ∧ accS (cF (cutR r n)) p m = accS (cF r) p m := by
  unfold accS
  rw [map_range (n := m + 1) fun i hi => (cut_f hr hn (m := i) (by omega)).1, map_range (n := m + 1) fun i hi => (cut_f hr hn (m := i) (by omega)).2]
  exact ⟨rfl, rfl⟩
theorem cut_area {r : Rn} (hr : RunOk r) (u : Ru) {n : Nat} (hn : n ≤ r.rows.length) {m : Nat} (h3 : m + 3 ≤ n) : kArea (cutR r n) u m = kArea r u m := by
  unfold kArea
  rw [(cut_acc hr hn h3 Sn.lo).1, (cut_acc hr hn h3 Sn.lo).2, (cut_acc hr hn h3 Sn.hi).1, (cut_acc hr hn h3 Sn.hi).2]
theorem cut_sing {r : Rn} (hr : RunOk r) (u : Ru) {n : Nat} (hn : n ≤ r.rows.length) {m : Nat} (h1 : 1 ≤ m) (h3 : m + 3 ≤ n) (i : Nat) : kSing (cutR r n) u m i = kSing r u m i := by
  obtain ⟨e1, e2⟩ := cut_t hr hn (m := (m : Int)) (by omega) (by omega) i
  unfold kSing
  rw [e1, e2]
  rfl
theorem cut_press {r : Rn} (u : Ru) {n m : Nat} (h1 : 1 ≤ m) (h3 : m ≤ n) : kPress (cutR r n) u m = kPress r u m := by
  have e : pressAt (cutR r n) m = pressAt r m := by unfold pressAt; rw [cut_get (by omega)]
  unfold kPress
  rw [e]
  rfl
theorem cut_at {r : Rn} (hr : RunOk r) (u : Ru) {n : Nat} (hn : n ≤ r.rows.length) {m : Nat} (h1 : 1 ≤ m) (h3 : m + 3 ≤ n) : leftAt (cutR r n) u m = leftAt r u m := by
  have eS : kSing (cutR r n) u m = kSing r u m := funext (cut_sing hr u hn h1 h3)
  unfold leftAt bA bS bSK bP
  rw [cut_area hr u hn h3, cut_press u h1 (by omega), eS]
  rfl
/-- What is told of the first minutes. -/
def leftN (r : Rn) (u : Ru) (k : Nat) : List Br := (List.range k).flatMap fun i => leftAt r u (i + 1)
theorem leftN_split (r : Rn) (u : Ru) {k : Nat} (h : k ≤ r.rows.length) : ∃ l, leftL r u = leftN r u k ++ l ∧ ∀ b ∈ l, (k : Int) < b.m := by
  obtain ⟨d, hd⟩ : ∃ d, r.rows.length = k + d := ⟨_, (Nat.add_sub_cancel' h).symm⟩
  refine ⟨((List.range d).map (k + ·)).flatMap fun i => leftAt r u (i + 1), ?_, fun b hb => ?_⟩
  · unfold leftL leftN
    rw [hd, List.range_add, List.flatMap_append]
  · obtain ⟨i, hi, hb⟩ := List.mem_flatMap.1 hb
    obtain ⟨j, _, rfl⟩ := List.mem_map.1 hi
    have := left_mem hb
    omega
theorem leftN_le {r : Rn} {u : Ru} {k : Nat} {b : Br} (h : b ∈ leftN r u k) : b.m ≤ (k : Int) := by
  obtain ⟨i, hi, hb⟩ := List.mem_flatMap.1 h
  have := left_mem hb
  have := List.mem_range.1 hi
  omega
theorem cut_N {r : Rn} (hr : RunOk r) (u : Ru) {n : Nat} (hn : n ≤ r.rows.length) {k : Nat} (h : k + 3 ≤ n) : leftN (cutR r n) u k = leftN r u k := by
  unfold leftN
  exact congrArg List.flatten (List.map_congr_left fun i hi => cut_at hr u hn (by omega) (by have := List.mem_range.1 hi; omega))
theorem find_pre {p : Br → Bool} : ∀ (l t : List Br), (∀ b ∈ t, p b = false) → (l ++ t).find? p = l.find? p := by
  intro l t h
  have e : t.find? p = none := List.find?_eq_none.2 fun b hb => by rw [h b hb]; exact Bool.false_ne_true
  rw [List.find?_append, e, Option.or_none]
theorem cut_pair {r : Rn} (hr : RunOk r) (u : Ru) {n : Nat} (hn : n ≤ r.rows.length) {k : Nat} (h : k + 3 ≤ n) : kPair (leftL (cutR r n) u) k = kPair (leftL r u) k := by
  obtain ⟨l, e, hl⟩ := leftN_split r u (k := k) (by omega)
  obtain ⟨l', e', hl'⟩ := leftN_split (cutR r n) u (k := k) (by rw [cut_len hn]; omega)
  have f : ∀ (t : List Br) (x : Int), (∀ b ∈ t, (k : Int) < b.m) → ∀ b ∈ t, firstP k x b = false := fun t x ht b hb => by
    have := ht b hb
    have hd : decide (b.m ≤ (k : Int)) = false := decide_eq_false (by omega)
    simp [firstP, hd]
    try omega
  unfold kPair
  rw [e, e', cut_N hr u hn h, find_pre _ _ (f l 2 hl), find_pre _ _ (f l' 2 hl'), find_pre _ _ (f l 1 hl), find_pre _ _ (f l' 1 hl')]
/-- What is cut off is a run still. -/
theorem cut_run {r : Rn} {n : Nat} (h : runB r = true) (h1 : 1 ≤ n) (hn : n ≤ r.rows.length) : runB (cutR r n) = true := by
  simp only [runB, Bool.and_eq_true, within_iff] at h ⊢
  obtain ⟨a1, a2, a3, a4, a5, a6⟩ := h
  refine ⟨a1, a2, a3, a4, ?_, ?_⟩
  · rw [cut_len hn]
    exact ⟨by omega, Int.le_trans (by omega) a5.2⟩
  · unfold rowsB at a6 ⊢
    rw [cut_len hn, List.all_eq_true] at *
    intro x hx
    have hx' := List.mem_range.1 hx
    have := a6 x (List.mem_range.2 (by omega))
    unfold rowAt at this ⊢
    rw [cut_get hx']
    exact this
theorem cut_check {r : Rn} {u : Ru} {n : Nat} (h : checkI r u = 0) (h1 : 1 ≤ n) (hn : n ≤ r.rows.length) : checkI (cutR r n) u = 0 := by
  unfold checkI at *
  by_cases hb : runB r = true
  · rw [if_pos hb] at h
    rw [if_pos (cut_run hb h1 hn)]
    exact h
  · rw [if_neg hb] at h; exact absurd h (by decide)
/-- The place where the minutes until a certain one end. -/
theorem left_pre {r : Rn} {u : Ru} {k : Nat} (h : k ≤ r.rows.length) : (∀ i b, (leftL r u)[i]? = some b → (b.m ≤ (k : Int) ↔ i < (leftN r u k).length)) ∧ (leftL r u).take (leftN r u k).length = leftN r u k := by
  obtain ⟨l, e, hl⟩ := leftN_split r u h
  refine ⟨fun i b hb => ?_, by rw [e, List.take_left']; rfl⟩
  rw [e] at hb
  by_cases hi : i < (leftN r u k).length
  · rw [List.getElem?_append_left hi] at hb
    exact ⟨fun _ => hi, fun _ => leftN_le (List.mem_of_getElem? hb)⟩
  · rw [List.getElem?_append_right (by omega)] at hb
    have := hl b (List.mem_of_getElem? hb)
    exact ⟨fun g => by omega, fun g => absurd g hi⟩
end Go.Proofs.Yticiopkiikcokaa
namespace Go.Proofs.Yticiopkiikcokaa
open Go Go.Am Go.Srt
theorem slice24 {h : Nat → Option AObj} {xs : List (List AV)} {n : Nat} (hn : n ≤ xs.length) : (aSlice Try.prog h 24 (.lst 2 xs) none (some (.int .i64 (n : Int)))).map (fun v => (⟨v, []⟩ : Out)) = some ⟨.lst 2 (xs.take n), []⟩ := by
  simp [aSlice, ty24, ty89, abound, hn]
theorem slice49 {h : Nat → Option AObj} {xs : List (List AV)} {n : Nat} (hn : n ≤ xs.length) : (aSlice Try.prog h 49 (.lst 4 xs) none (some (.int .i64 (n : Int)))).map (fun v => (⟨v, []⟩ : Out)) = some ⟨.lst 4 (xs.take n), []⟩ := by
  simp [aSlice, ty49, ty71, abound, hn]
def m9St (r : Rn) (u : Ru) (n : Nat) (a b : List Br) (x y : Nat) : St :=
  ⟨[(3, .vptr 0 0), (4, .vptr 1 0), (7, .bool true), (9, .vptr 2 0), (10, .lst 4 (a.map encBr)), (12, .lst 4 (b.map encBr)), (14, .int .i64 ((n : Int) - 3)), (15, .int .i64 (x : Int)), (16, .int .i64 (y : Int))],
    [(0, .cells (runL r)), (1, .cells (ruL u)), (2, .cells (runL (cutR r n)))], 3⟩
theorem m9_le {r : Rn} {u : Ru} {n : Nat} {a b : List Br} {x y : Nat} {S : St} (h3 : elook S.env 3 = .vptr 0 0) (h4 : elook S.env 4 = .vptr 1 0) (h7 : elook S.env 7 = .bool true) (h9 : elook S.env 9 = .vptr 2 0) (h10 : elook S.env 10 = .lst 4 (a.map encBr)) (h12 : elook S.env 12 = .lst 4 (b.map encBr))
    (h14 : elook S.env 14 = .int .i64 ((n : Int) - 3)) (h15 : elook S.env 15 = .int .i64 (x : Int)) (h16 : elook S.env 16 = .int .i64 (y : Int))
    (g0 : hget S.H 0 = some (.cells (runL r))) (g1 : hget S.H 1 = some (.cells (ruL u))) (g2 : hget S.H 2 = some (.cells (runL (cutR r n)))) : (m9St r u n a b x y).le S :=
  St.le.of ⟨h3, rfl, h4, rfl, h7, rfl, h9, rfl, h10, rfl, h12, rfl, h14, rfl, h15, rfl, h16, rfl, trivial⟩ ⟨g0, (by decide : (0 : Nat) < 3), rfl, g1, (by decide : (1 : Nat) < 3), rfl, g2, (by decide : (2 : Nat) < 3), rfl, trivial⟩
/-- How many minutes stand, when so many rows are left. -/
theorem pre9 {r : Rn} (hr : RunOk r) (u : Ru) {n : Nat} (h1 : 1 ≤ n) (hn : n ≤ r.rows.length) : ∃ P : List Br, (∀ i b, (leftL r u)[i]? = some b → decide (b.m ≤ (n : Int) - 3) = decide (i < P.length)) ∧ (∀ i b, (leftL (cutR r n) u)[i]? = some b → decide (b.m ≤ (n : Int) - 3) = decide (i < P.length)) ∧
    (leftL r u).take P.length = P ∧ (leftL (cutR r n) u).take P.length = P ∧ P.length ≤ (leftL r u).length ∧ P.length ≤ (leftL (cutR r n) u).length := by
  have hk : n - 3 ≤ r.rows.length := by omega
  have hk' : n - 3 ≤ (cutR r n).rows.length := by rw [cut_len hn]; omega
  have e : leftN (cutR r n) u (n - 3) = leftN r u (n - 3) := by
    by_cases h : 3 ≤ n
    · exact cut_N hr u hn (by omega)
    · rw [show n - 3 = 0 by omega]; rfl
  obtain ⟨p1, p2⟩ := left_pre (u := u) hk
  obtain ⟨q1, q2⟩ := left_pre (r := cutR r n) (u := u) hk'
  rw [e] at q1 q2
  have len : ∀ {l P : List Br}, l.take P.length = P → P.length ≤ l.length := fun {l P} h => by
    have := congrArg List.length h
    rw [List.length_take] at this
    omega
  have conv : ∀ {b : Br} {i N : Nat}, 1 ≤ b.m → (b.m ≤ ((n - 3 : Nat) : Int) ↔ i < N) → decide (b.m ≤ (n : Int) - 3) = decide (i < N) := fun {b i N} hb h => by
    have : (b.m ≤ (n : Int) - 3) ↔ b.m ≤ ((n - 3 : Nat) : Int) := by omega
    exact decide_eq_decide.2 (this.trans h)
  exact ⟨leftN r u (n - 3), fun i b hb => conv (left_out (List.mem_of_getElem? hb)).1 (p1 i b hb), fun i b hb => conv (left_out (List.mem_of_getElem? hb)).1 (q1 i b hb), p2, q2, len p2, len q2⟩
end Go.Proofs.Yticiopkiikcokaa
namespace Go.Proofs.Yticiopkiikcokaa
open Go Go.Am Go.Srt
theorem rem9 {w : Int} {N : Nat} (h0 : 0 ≤ w) (h1 : w ≤ 255) (hN : 1 ≤ N) (hN' : N ≤ 1000000) : ∃ n : Nat, 1 ≤ n ∧ n ≤ N ∧ IntKind.i64.wrap (1 + (IntKind.i64.wrap w).tmod (N : Int)) = (n : Int) := by
  rw [wrap64 (n := w) (by omega) (by omega), Int.tmod_eq_emod_of_nonneg h0]
  have a1 := Int.emod_nonneg w (show (N : Int) ≠ 0 by omega)
  have a2 := Int.emod_lt_of_pos w (show 0 < (N : Int) by omega)
  exact ⟨(w % (N : Int)).toNat + 1, by omega, by omega, by rw [wrap64 (by omega) (by omega)]; omega⟩
set_option maxHeartbeats 64000000 in
set_option maxRecDepth 100000 in
theorem law9 (r : Rn) (u : Ru) (w : Int) (a0 : 0 ≤ w) (a1 : w ≤ 255) : APure Try.prog 9 [encRn r, encRu u, .int .u8 w] (.bool true) := by
  have sR := ready_spec r u
  by_cases hrd : readyB r u = true
  · rw [hrd] at sR
    have hC := ready_out hrd
    have hr := runB_out (checkI_ok hC).1
    have hrl := hr.rl
    have hcl := hr.cl
    obtain ⟨n, n1, n2, en⟩ := rem9 a0 a1 hrl.1 (by omega)
    have hC' := cut_check hC n1 n2
    have hr' := runB_out (checkI_ok hC').1
    have enz : ((r.rows.map encRw).length : Int) ≠ 0 := by rw [List.length_map]; omega
    have e37 : some (⟨.int .i64 (IntKind.i64.wrap (1 + (IntKind.i64.wrap w).tmod ((r.rows.map encRw).length : Int))), []⟩ : Out) = some ⟨.int .i64 (n : Int), []⟩ := by rw [List.length_map, en]
    have e43 := slice24 (h := fun _ => none) (xs := r.rows.map encRw) (n := n) (by rw [List.length_map]; exact n2)
    have e64 : AV.int .i64 (IntKind.i64.wrap ((n : Int) - 3)) = .int .i64 ((n : Int) - 3) := by rw [wrap64 (by omega) (by omega)]
    have sL := Left_spec r u
    have sL' := Left_spec (cutR r n) u
    unfold leftV at sL sL'
    rw [if_pos hC] at sL
    rw [if_pos hC'] at sL'
    obtain ⟨P, p1, q1, p2, q2, p3, q3⟩ := pre9 hr u n1 n2
    have hlen := leftL_len hr u
    have hlen' := leftL_len hr' u
    have sS := sameBr_spec P (by omega)
    have hK : 4 ≤ n → ∃ K : Int × Int, APure Try.prog 27 [encRn r, encRu u, .int .i64 ((n : Int) - 3)] (.tup [.int .u8 K.1, .int .i64 K.2, .int .i64 0]) ∧ APure Try.prog 27 [encRn (cutR r n), encRu u, .int .i64 ((n : Int) - 3)] (.tup [.int .u8 K.1, .int .i64 K.2, .int .i64 0]) := fun h4 => by
      refine ⟨kPair (leftL r u) ((n : Int) - 3), ?_, ?_⟩
      · have := Kept_spec r u ((n : Int) - 3)
        unfold keptV at this
        rw [if_pos hC, if_pos (within_iff.2 ⟨by omega, by omega⟩)] at this
        exact this
      · have := Kept_spec (cutR r n) u ((n : Int) - 3)
        unfold keptV at this
        rw [if_pos hC', if_pos (within_iff.2 ⟨by omega, by rw [cut_len n2]; omega⟩)] at this
        have e := cut_pair hr u n2 (k := n - 3) (by omega)
        rw [show ((n - 3 : Nat) : Int) = (n : Int) - 3 by omega] at e
        rw [e] at this
        exact this
    have sT := Twin_spec r (by
      obtain ⟨_, _, _, _⟩ := curveB_out hr.curve; omega) (by omega) (by omega) (fun q hq => by
        obtain ⟨i, hi⟩ := List.mem_iff_getElem?.1 hq
        have := (hr.row i q hi).1; omega)
    generalize leftL r u = a at *
    generalize leftL (cutR r n) u = b at *
    have eA : (aSlice Try.prog (fun _ => none) 49 (.lst 4 (a.map encBr)) none (some (.int .i64 (P.length : Int)))).map (fun v => (⟨v, []⟩ : Out)) = some ⟨.lst 4 (P.map encBr), []⟩ := by
      rw [slice49 (by rw [List.length_map]; exact p3), ← List.map_take, p2]
    have eB : (aSlice Try.prog (fun _ => none) 49 (.lst 4 (b.map encBr)) none (some (.int .i64 (P.length : Int)))).map (fun v => (⟨v, []⟩ : Out)) = some ⟨.lst 4 (P.map encBr), []⟩ := by
      rw [slice49 (by rw [List.length_map]; exact q3), ← List.map_take, q2]
    rw [← List.map_take] at e43
    refine APure.vc Try.func9 rfl (.call (.bool true) <| .call (.bool true) <| .nz <| .val 37 (.int .i64 (n : Int)) [] <| .call (encRn r) <| .val 43 (.lst 2 ((cutR r n).rows.map encRw)) [] <| .call (.tup [.lst 4 (a.map encBr), .int .i64 0]) <| .call (.tup [.lst 4 (b.map encBr), .int .i64 0]) .loop) rfl rfl
      ⟨alive_spec, sR, enz, Eq.trans (by kernel_rfl) e37, sT, Eq.trans (by kernel_rfl) e43, sL, sL', ?_⟩
    clear sR sL sL' sT e37 e43 enz hrd hC hC' en a0 a1
    intro g hn hl
    replace hn : g.n = 141 := hn
    have step : ∀ k : Nat, k ≤ 2000 → AV.int .i64 (IntKind.i64.wrap ((k : Int) + 1)) = .int .i64 ((k + 1 : Nat) : Int) := fun k hk => congrArg (AV.int .i64) (succ64 (k := k) (by omega))
    refine acode_while (fun k : Nat => m9St r u n a b k 0) (fun k => k ≤ P.length) (fun k => P.length - k) 0 (Nat.zero_le _) ?_ (fun _ _ => hl.mono (Nat.zero_le _)) ?_
    · exact m9_le rfl rfl rfl rfl rfl rfl (Eq.trans (by kernel_rfl) e64) rfl rfl rfl rfl rfl
    · intro k hk
      by_cases hlt : k < P.length
      · have hka : k < a.length := Nat.lt_of_lt_of_le hlt p3
        refine Exists.elim (getE hka) fun c hc => ?_
        have d77 := (p1 k c hc).trans (decide_eq_true hlt)
        exact ACode.vc (.br 69 true <| .cells (encBr c) <| .br 77 true .nil) hn hl (.round .cl) ⟨ltLen hka, idx hc, d77, k + 1, hlt, mu1 hlt, m9_le rfl rfl rfl rfl rfl rfl rfl (step k (by omega)) rfl rfl rfl rfl⟩
      · have hk' : k = P.length := by omega
        subst hk'
        by_cases hka : P.length < a.length
        · refine Exists.elim (getE hka) fun c hc => ?_
          have d77 := (p1 P.length c hc).trans (decide_eq_false hlt)
          refine ACode.vc (.br 69 true <| .cells (encBr c) <| .br 77 false .nil) hn hl (.round .cl) ⟨ltLen hka, idx hc, d77, _, .refl _, .loop, ?_⟩
          intro g hn hl
          replace hn : g.n = 141 := hn
          replace hl : g.low 0 := hl
          refine acode_while (fun k : Nat => m9St r u n a b P.length k) (fun k => k ≤ P.length) (fun k => P.length - k) 0 (Nat.zero_le _) ?_ (fun _ _ => hl.mono (Nat.zero_le _)) ?_
          · exact m9_le rfl rfl rfl rfl rfl rfl rfl rfl rfl rfl rfl rfl
          · intro k hk
            by_cases hlt : k < P.length
            · have hkb : k < b.length := Nat.lt_of_lt_of_le hlt q3
              refine Exists.elim (getE hkb) fun c hc => ?_
              have d92 := (q1 k c hc).trans (decide_eq_true hlt)
              exact ACode.vc (.br 84 true <| .cells (encBr c) <| .br 92 true .nil) hn hl (.round .cl) ⟨ltLen hkb, idx hc, d92, k + 1, hlt, mu1 hlt, m9_le rfl rfl rfl rfl rfl rfl rfl rfl (step k (by omega)) rfl rfl rfl⟩
            · have hk' : k = P.length := by omega
              subst hk'
              by_cases hkb : P.length < b.length
              · refine Exists.elim (getE hkb) fun c hc => ?_
                have d92 := (q1 P.length c hc).trans (decide_eq_false hlt)
                by_cases h4 : 4 ≤ n
                · have d104 : decide ((n : Int) - 3 < 1) = false := decide_eq_false (by omega)
                  refine Exists.elim (hK h4) fun K hK2 => ?_
                  exact ACode.vc (.br 84 true <| .cells (encBr c) <| .br 92 false .nil) hn hl (.round .cl) ⟨ltLen hkb, idx hc, d92, _, .refl _,
                    .draw 6 <| .val 97 (.lst 4 (P.map encBr)) [] <| .val 100 (.lst 4 (P.map encBr)) [] <| .call (.bool true) <| .br 104 false <| .call (.tup [.int .u8 K.1, .int .i64 K.2, .int .i64 0]) <| .call (.tup [.int .u8 K.1, .int .i64 K.2, .int .i64 0]) <| .br 136 true .nil,
                    by kernel_rfl, mixed, by kernel_rfl, Eq.trans (by kernel_rfl) eA, Eq.trans (by kernel_rfl) eB, by kernel_rfl, sS, d104, hK2.1, hK2.2, beq_self_eq_true _, rB (beq_self_eq_true _)⟩
                · have d104 : decide ((n : Int) - 3 < 1) = true := decide_eq_true (by omega)
                  exact ACode.vc (.br 84 true <| .cells (encBr c) <| .br 92 false .nil) hn hl (.round .cl) ⟨ltLen hkb, idx hc, d92, _, .refl _,
                    .draw 6 <| .val 97 (.lst 4 (P.map encBr)) [] <| .val 100 (.lst 4 (P.map encBr)) [] <| .call (.bool true) <| .br 104 true .nil,
                    by kernel_rfl, mixed, by kernel_rfl, Eq.trans (by kernel_rfl) eA, Eq.trans (by kernel_rfl) eB, by kernel_rfl, sS, d104, rB rfl⟩
              · by_cases h4 : 4 ≤ n
                · have d104 : decide ((n : Int) - 3 < 1) = false := decide_eq_false (by omega)
                  refine Exists.elim (hK h4) fun K hK2 => ?_
                  exact ACode.vc (.br 84 false .nil) hn hl (.round .cl) ⟨geLen hkb, _, .refl _,
                    .draw 6 <| .val 97 (.lst 4 (P.map encBr)) [] <| .val 100 (.lst 4 (P.map encBr)) [] <| .call (.bool true) <| .br 104 false <| .call (.tup [.int .u8 K.1, .int .i64 K.2, .int .i64 0]) <| .call (.tup [.int .u8 K.1, .int .i64 K.2, .int .i64 0]) <| .br 136 true .nil,
                    by kernel_rfl, mixed, by kernel_rfl, Eq.trans (by kernel_rfl) eA, Eq.trans (by kernel_rfl) eB, by kernel_rfl, sS, d104, hK2.1, hK2.2, beq_self_eq_true _, rB (beq_self_eq_true _)⟩
                · have d104 : decide ((n : Int) - 3 < 1) = true := decide_eq_true (by omega)
                  exact ACode.vc (.br 84 false .nil) hn hl (.round .cl) ⟨geLen hkb, _, .refl _,
                    .draw 6 <| .val 97 (.lst 4 (P.map encBr)) [] <| .val 100 (.lst 4 (P.map encBr)) [] <| .call (.bool true) <| .br 104 true .nil,
                    by kernel_rfl, mixed, by kernel_rfl, Eq.trans (by kernel_rfl) eA, Eq.trans (by kernel_rfl) eB, by kernel_rfl, sS, d104, rB rfl⟩
        · refine ACode.vc (.br 69 false .nil) hn hl (.round .cl) ⟨geLen hka, _, .refl _, .loop, ?_⟩
          intro g hn hl
          replace hn : g.n = 141 := hn
          replace hl : g.low 0 := hl
          refine acode_while (fun k : Nat => m9St r u n a b P.length k) (fun k => k ≤ P.length) (fun k => P.length - k) 0 (Nat.zero_le _) ?_ (fun _ _ => hl.mono (Nat.zero_le _)) ?_
          · exact m9_le rfl rfl rfl rfl rfl rfl rfl rfl rfl rfl rfl rfl
          · intro k hk
            by_cases hlt : k < P.length
            · have hkb : k < b.length := Nat.lt_of_lt_of_le hlt q3
              refine Exists.elim (getE hkb) fun c hc => ?_
              have d92 := (q1 k c hc).trans (decide_eq_true hlt)
              exact ACode.vc (.br 84 true <| .cells (encBr c) <| .br 92 true .nil) hn hl (.round .cl) ⟨ltLen hkb, idx hc, d92, k + 1, hlt, mu1 hlt, m9_le rfl rfl rfl rfl rfl rfl rfl rfl (step k (by omega)) rfl rfl rfl⟩
            · have hk' : k = P.length := by omega
              subst hk'
              by_cases hkb : P.length < b.length
              · refine Exists.elim (getE hkb) fun c hc => ?_
                have d92 := (q1 P.length c hc).trans (decide_eq_false hlt)
                by_cases h4 : 4 ≤ n
                · have d104 : decide ((n : Int) - 3 < 1) = false := decide_eq_false (by omega)
                  refine Exists.elim (hK h4) fun K hK2 => ?_
                  exact ACode.vc (.br 84 true <| .cells (encBr c) <| .br 92 false .nil) hn hl (.round .cl) ⟨ltLen hkb, idx hc, d92, _, .refl _,
                    .draw 6 <| .val 97 (.lst 4 (P.map encBr)) [] <| .val 100 (.lst 4 (P.map encBr)) [] <| .call (.bool true) <| .br 104 false <| .call (.tup [.int .u8 K.1, .int .i64 K.2, .int .i64 0]) <| .call (.tup [.int .u8 K.1, .int .i64 K.2, .int .i64 0]) <| .br 136 true .nil,
                    by kernel_rfl, mixed, by kernel_rfl, Eq.trans (by kernel_rfl) eA, Eq.trans (by kernel_rfl) eB, by kernel_rfl, sS, d104, hK2.1, hK2.2, beq_self_eq_true _, rB (beq_self_eq_true _)⟩
                · have d104 : decide ((n : Int) - 3 < 1) = true := decide_eq_true (by omega)
                  exact ACode.vc (.br 84 true <| .cells (encBr c) <| .br 92 false .nil) hn hl (.round .cl) ⟨ltLen hkb, idx hc, d92, _, .refl _,
                    .draw 6 <| .val 97 (.lst 4 (P.map encBr)) [] <| .val 100 (.lst 4 (P.map encBr)) [] <| .call (.bool true) <| .br 104 true .nil,
                    by kernel_rfl, mixed, by kernel_rfl, Eq.trans (by kernel_rfl) eA, Eq.trans (by kernel_rfl) eB, by kernel_rfl, sS, d104, rB rfl⟩
              · by_cases h4 : 4 ≤ n
                · have d104 : decide ((n : Int) - 3 < 1) = false := decide_eq_false (by omega)
                  refine Exists.elim (hK h4) fun K hK2 => ?_
                  exact ACode.vc (.br 84 false .nil) hn hl (.round .cl) ⟨geLen hkb, _, .refl _,
                    .draw 6 <| .val 97 (.lst 4 (P.map encBr)) [] <| .val 100 (.lst 4 (P.map encBr)) [] <| .call (.bool true) <| .br 104 false <| .call (.tup [.int .u8 K.1, .int .i64 K.2, .int .i64 0]) <| .call (.tup [.int .u8 K.1, .int .i64 K.2, .int .i64 0]) <| .br 136 true .nil,
                    by kernel_rfl, mixed, by kernel_rfl, Eq.trans (by kernel_rfl) eA, Eq.trans (by kernel_rfl) eB, by kernel_rfl, sS, d104, hK2.1, hK2.2, beq_self_eq_true _, rB (beq_self_eq_true _)⟩
                · have d104 : decide ((n : Int) - 3 < 1) = true := decide_eq_true (by omega)
                  exact ACode.vc (.br 84 false .nil) hn hl (.round .cl) ⟨geLen hkb, _, .refl _,
                    .draw 6 <| .val 97 (.lst 4 (P.map encBr)) [] <| .val 100 (.lst 4 (P.map encBr)) [] <| .call (.bool true) <| .br 104 true .nil,
                    by kernel_rfl, mixed, by kernel_rfl, Eq.trans (by kernel_rfl) eA, Eq.trans (by kernel_rfl) eB, by kernel_rfl, sS, d104, rB rfl⟩
  · have hrd' : readyB r u = false := by simpa using hrd
    rw [hrd'] at sR
    exact APure.vc Try.func9 rfl (.call (.bool true) <| .call (.bool false) .nil) rfl rfl ⟨alive_spec, sR, rB rfl⟩
end Go.Proofs.Yticiopkiikcokaa
