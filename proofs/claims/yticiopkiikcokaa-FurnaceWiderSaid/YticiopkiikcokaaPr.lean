import Derived.Test.YticiopkiikcokaaPk
import Derived.Test.YticiopkiikcokaaPf
import Derived.Test.YticiopkiikcokaaPq
import Derived.Test.YticiopkiikcokaaN24
namespace Go.Proofs.Yticiopkiikcokaa
open Go Go.Am Go.Srt
set_option maxHeartbeats 8000000 in
set_option maxRecDepth 100000 in
theorem Part_spec {u : Ru} (hul : u.steps.length ≤ 1000) (m : Int) : APure Try.prog 85 [encRu u, .int .i64 m] (.int .i64 (partI u m)) := by
  refine APure.vc Try.func85 rfl .loop rfl rfl ?_
  intro g hn hl
  replace hn : g.n = 29 := hn
  replace hl : g.low 0 := hl
  refine acode_while (fun k : Nat => ⟨[(1, .int .i64 m), (2, .vptr 0 0), (5, .int .i64 (partK u.steps m k)), (6, .int .i64 k)], [(0, .cells (ruL u))], 1⟩) (fun k => k ≤ u.steps.length) (fun k => u.steps.length - k) 0 (Nat.zero_le _) ?_ (fun _ _ => hl.mono (Nat.zero_le _)) ?_
  · exact St.le.of ⟨rfl, rfl, rfl, rfl, rfl, rfl, rfl, rfl, trivial⟩ ⟨rfl, Nat.zero_lt_one, rfl, trivial⟩
  · intro k hk
    by_cases hlt : k < u.steps.length
    · obtain ⟨s, hs⟩ := getE hlt
      have ek := succ64 (k := k) (by omega)
      have q1 : s.f ≤ m → s.p = partK u.steps m (k + 1) := fun h => by simp only [partK, hs, if_pos h]
      have q2 : ¬ s.f ≤ m → partK u.steps m k = partK u.steps m (k + 1) := fun h => by simp only [partK, hs, if_neg h]
      exact ACode.vc (.br 11 true <| .cells (encSp s) <| .both 21 (.cells (encSp s) .nil) .nil) hn hl (.round .cl) ⟨ltLen hlt, idx hs,
        fun h => ⟨idx hs, k + 1, hlt, mu1 hlt, St.le.of ⟨rfl, rfl, rfl, rfl, congrArg (AV.int .i64) (q1 (of_decide_eq_true h)), rfl, congrArg (AV.int .i64) ek, rfl, trivial⟩ ⟨rfl, Nat.zero_lt_one, rfl, trivial⟩⟩,
        fun h => ⟨k + 1, hlt, mu1 hlt, St.le.of ⟨rfl, rfl, rfl, rfl, congrArg (AV.int .i64) (q2 (of_decide_eq_false h)), rfl, congrArg (AV.int .i64) ek, rfl, trivial⟩ ⟨rfl, Nat.zero_lt_one, rfl, trivial⟩⟩⟩
    · have hk' : k = u.steps.length := by omega
      subst hk'
      exact ACode.vc (.br 11 false .nil) hn hl (.round .cl) ⟨geLen hlt, _, .refl _, .nil, rI rfl⟩
set_option maxHeartbeats 8000000 in
set_option maxRecDepth 100000 in
theorem rOutside_spec (lo hi a b : Int) : APure Try.prog 86 [.int .i64 lo, .int .i64 hi, .int .i64 a, .int .i64 b] (.int .u8 (outI lo hi a b)) := by
  refine APure.vc Try.func86 rfl (.both 12 .nil <| .both 16 .nil <| .both 20 .nil <| .both 24 .nil .nil) rfl rfl ⟨fun h1 => rI ?_, fun h1 => ⟨fun h2 => rI ?_, fun h2 => ⟨fun h3 => rI ?_, fun h3 => ⟨fun h4 => rI ?_, fun h4 => rI ?_⟩⟩⟩⟩
  · rw [outI, if_pos (of_decide_eq_true h1)]
  · rw [outI, if_neg (of_decide_eq_false h1), if_pos (of_decide_eq_true h2)]
  · rw [outI, if_neg (of_decide_eq_false h1), if_neg (of_decide_eq_false h2), if_pos (of_decide_eq_true h3)]
  · rw [outI, if_neg (of_decide_eq_false h1), if_neg (of_decide_eq_false h2), if_neg (of_decide_eq_false h3), if_pos (of_decide_eq_true h4)]
  · rw [outI, if_neg (of_decide_eq_false h1), if_neg (of_decide_eq_false h2), if_neg (of_decide_eq_false h3), if_neg (of_decide_eq_false h4)]
theorem ne_same (b : Br) : (!((b.m == b.m) && ((b.k == b.k) && ((b.c == b.c) && (b.n == b.n))))) = false := by simp
set_option maxHeartbeats 8000000 in
set_option maxRecDepth 100000 in
theorem sameBr_spec (l : List Br) (hl0 : l.length ≤ 100000) : APure Try.prog 31 [.lst 4 (l.map encBr), .lst 4 (l.map encBr)] (.bool true) := by
  have hne : (((l.map encBr).length : Int) != ((l.map encBr).length : Int)) = false := by simp
  refine APure.vc Try.func31 rfl (.br 10 false .loop) rfl rfl ⟨hne, ?_⟩
  intro g hn hl
  replace hn : g.n = 26 := hn
  replace hl : g.low 0 := hl
  refine acode_while (fun k : Nat => ⟨[(0, .lst 4 (l.map encBr)), (1, .lst 4 (l.map encBr)), (5, .int .i64 k)], [], 0⟩) (fun k => k ≤ l.length) (fun k => l.length - k) 0 (Nat.zero_le _) ?_ (fun _ _ => hl) ?_
  · exact St.le.of ⟨rfl, rfl, rfl, rfl, rfl, rfl, trivial⟩ trivial
  · intro k hk
    by_cases hlt : k < l.length
    · refine Exists.elim (getE hlt) fun b hb => ?_
      have ek := succ64 (k := k) (by omega)
      have ne := neBr (ne_same b)
      exact ACode.vc (.br 14 true <| .draw 8 <| .cells (encBr b) <| .cells (encBr b) <| .val 25 (.bool false) [] .nil) hn hl (.round .cl) ⟨ltLen hlt, by kernel_rfl, mixed, by kernel_rfl, idx hb, idx hb, by kernel_rfl, Eq.trans (by kernel_rfl) ne,
        k + 1, hlt, mu1 hlt, St.le.of ⟨rfl, rfl, rfl, rfl, congrArg (AV.int .i64) ek, rfl, trivial⟩ trivial⟩
    · exact ACode.vc (.br 14 false .nil) hn hl (.round .cl) ⟨geLen hlt, _, .refl _, .nil, rB rfl⟩
theorem eqSp (s : Sp) : aeqT Try.prog 6 85 (.agg (encSp s)) (.agg (encSp s)) = some true := by
  simp [aeqT, aeqF, ty85, ty3, encSp, apart, TD.agg, andO]
set_option maxHeartbeats 8000000 in
set_option maxRecDepth 100000 in
theorem sameRu_spec (u : Ru) (hl0 : u.steps.length ≤ 100000) : APure Try.prog 32 [encRu u, encRu u] (.bool true) := by
  have n1 : (u.single != u.single) = false := by simp
  have n2 : (u.sFrom != u.sFrom) = false := by simp
  have n3 : (u.pFrom != u.pFrom) = false := by simp
  have n4 : (((u.steps.map encSp).length : Int) != ((u.steps.map encSp).length : Int)) = false := by simp
  have e2 : ((aeqT Try.prog 6 26 (.agg [.int .i64 u.pLo, .int .i64 u.pHi]) (.agg [.int .i64 u.pLo, .int .i64 u.pHi])).map fun b => AV.bool !b).map (fun v => (⟨v, []⟩ : Out)) = some ⟨.bool false, []⟩ := by rw [eqSpan]; rfl
  refine APure.vc Try.func32 rfl (.br 11 false <| .br 18 false <| .val 23 (.bool false) [] <| .br 32 false <| .br 40 false .loop) rfl rfl ⟨n1, n2, Eq.trans (by kernel_rfl) e2, n3, n4, ?_⟩
  intro g hn hl
  replace hn : g.n = 59 := hn
  replace hl : g.low 0 := hl
  refine acode_while (fun k : Nat => ⟨[(2, .vptr 0 0), (3, .vptr 1 0), (5, .int .i64 k)], [(0, .cells (ruL u)), (1, .cells (ruL u))], 2⟩) (fun k => k ≤ u.steps.length) (fun k => u.steps.length - k) 0 (Nat.zero_le _) ?_ (fun _ _ => hl.mono (Nat.zero_le _)) ?_
  · exact St.le.of ⟨rfl, rfl, rfl, rfl, rfl, rfl, trivial⟩ ⟨rfl, (by decide : (0 : Nat) < 2), rfl, rfl, (by decide : (1 : Nat) < 2), rfl, trivial⟩
  · intro k hk
    by_cases hlt : k < u.steps.length
    · refine Exists.elim (getE hlt) fun s hs => ?_
      have ek := succ64 (k := k) (by omega)
      have ne : ((aeqT Try.prog 6 85 (.agg (encSp s)) (.agg (encSp s))).map fun b => AV.bool !b).map (fun v => (⟨v, []⟩ : Out)) = some ⟨.bool false, []⟩ := by rw [eqSp]; rfl
      exact ACode.vc (.br 45 true <| .draw 10 <| .cells (encSp s) <| .cells (encSp s) <| .val 58 (.bool false) [] .nil) hn hl (.round .cl) ⟨ltLen hlt, by kernel_rfl, mixed, by kernel_rfl, idx hs, idx hs, by kernel_rfl, Eq.trans (by kernel_rfl) ne,
        k + 1, hlt, mu1 hlt, St.le.of ⟨rfl, rfl, rfl, rfl, congrArg (AV.int .i64) ek, rfl, trivial⟩ ⟨rfl, (by decide : (0 : Nat) < 2), rfl, rfl, (by decide : (1 : Nat) < 2), rfl, trivial⟩⟩
    · exact ACode.vc (.br 45 false .nil) hn hl (.round .cl) ⟨geLen hlt, _, .refl _, .nil, rB rfl⟩
theorem app29 {h : Nat → Option AObj} {i nid : Nat} {l : List Sp} (h0 : h i = some (.cells [])) (hl : l.length ≤ 1000) : aAppend Try.prog h nid 29 29 (.rsl i 0 0 2) (.lst 2 (l.map encSp)) = some ⟨.rsl nid 0 l.length 2, [(i, none), (nid, some (.cells (fl encSp l)))]⟩ := by
  have hb := fl_cellB (enc := encSp) (fun _ => rfl) l
  simp only [aAppend, ty29, ty85, srcCells, map_all (enc := encSp) (n := 2) (fun _ => rfl) l, fl_flatten, h0]
  simp [hb]; omega
theorem thaw_ru {h : Nat → Option AObj} {u : Ru} (h3 : h 3 = some (.cells (fl encSp u.steps))) : thaw 8 h (.agg [.rsl 3 0 u.steps.length 2, .int .i64 u.single, .int .i64 u.sFrom, .int .i64 u.pLo, .int .i64 u.pHi, .int .i64 u.pFrom]) = some (encRu u, [3]) := by
  have e : thaw 8 h (.agg [.rsl 3 0 u.steps.length 2, .int .i64 u.single, .int .i64 u.sFrom, .int .i64 u.pLo, .int .i64 u.pHi, .int .i64 u.pFrom]) = (mapO (thaw 7 h) [.rsl 3 0 u.steps.length 2, .int .i64 u.single, .int .i64 u.sFrom, .int .i64 u.pLo, .int .i64 u.pHi, .int .i64 u.pFrom]).map fun p => (.agg p.1, p.2) := rfl
  have i1 : ∀ n : Int, thaw 7 h (.int .i64 n) = some (.int .i64 n, []) := fun _ => rfl
  have t3 := thaw_fl (n := 2) (d := 5) (fun _ => rfl) (fun _ => rfl) h3
  rw [e]
  simp only [mapO, i1, t3, Option.map_some, List.append_nil]
  rfl
set_option maxHeartbeats 8000000 in
set_option maxRecDepth 100000 in
theorem TwinRu_spec (u : Ru) (hl0 : u.steps.length ≤ 1000) : APure Try.prog 24 [encRu u] (encRu u) := by
  have ap := app29 (h := hget [(0, .cells (ruL u)), (1, .cells [.nil, .int .i64 0, .int .i64 0, .int .i64 0, .int .i64 0, .int .i64 0]), (2, .cells [])]) (i := 2) (nid := 3) (l := u.steps) rfl hl0
  have th : thaw 8 (hget [(0, .cells [.rsl 3 0 u.steps.length 2, .int .i64 u.single, .int .i64 u.sFrom, .int .i64 u.pLo, .int .i64 u.pHi, .int .i64 u.pFrom]), (1, .cells [.rsl 3 0 u.steps.length 2, .int .i64 u.single, .int .i64 u.sFrom, .int .i64 u.pLo, .int .i64 u.pHi, .int .i64 u.pFrom]), (3, .cells (fl encSp u.steps))])
      (.agg [.rsl 3 0 u.steps.length 2, .int .i64 u.single, .int .i64 u.sFrom, .int .i64 u.pLo, .int .i64 u.pHi, .int .i64 u.pFrom]) = some (encRu u, [3]) := thaw_ru rfl
  exact APure.vcT Try.func24 (.val 6 (.rsl 3 0 u.steps.length 2) [(2, none), (3, some (.cells (fl encSp u.steps)))] .nil) rfl rfl ⟨Eq.trans (by kernel_rfl) ap, [3], Eq.trans (by kernel_rfl) th⟩
theorem Working_lst {r : Rn} (hr : RunOk r) (m : Int) : APure Try.prog 54 [encRn r, .int .i64 m] (.lst 1 ((wl r m).map encN)) := by
  have s := Working_spec hr m
  cases h : wl r m with
  | nil => rw [h] at s; exact APure.ofNil 1 s
  | cons a t => rw [h] at s; exact s
end Go.Proofs.Yticiopkiikcokaa
namespace Go.Proofs.Yticiopkiikcokaa
open Go Go.Am Go.Srt
def dF (r : Rn) (i : Nat) : Int := if 1 ≤ i ∧ i ≤ r.rows.length ∧ blindB r i = false then deg r.curve i else 0
def cu (r : Rn) (k : Nat) : Int := ((List.range (k + 1)).map (dF r)).sum
theorem accS_succ (f : Nat → Sn) (p : Sn → Int) (k : Nat) : accS f p (k + 1) = accS f p k + p (f (k + 1)) := by
  unfold accS
  rw [List.range_succ, List.map_append, List.map_append, List.sum_append]; simp
theorem cu_succ (r : Rn) (k : Nat) : cu r (k + 1) = cu r k + dF r (k + 1) := by
  unfold cu
  rw [List.range_succ, List.map_append, List.sum_append]; simp
theorem accS_zero (f : Nat → Sn) (p : Sn → Int) : accS f p 0 = p (f 0) := by simp [accS]
theorem mF_zero (r : Rn) : mF r 0 = ⟨0, 0⟩ := by unfold mF mfK; rw [if_neg (by omega)]
theorem cF_cu (r : Rn) : ∀ k, accS (cF r) Sn.lo k = 840 * cu r k ∧ accS (cF r) Sn.hi k = 840 * cu r k := by
  have one : ∀ i, (cF r i).lo = 840 * dF r i ∧ (cF r i).hi = 840 * dF r i := fun i => by
    unfold cF cfK dF
    split <;> simp
  intro k
  induction k with
  | zero => rw [accS_zero, accS_zero]; have := one 0; simp only [cu]; simp; omega
  | succ k ih => rw [accS_succ, accS_succ, cu_succ]; have := one (k + 1); omega
theorem at_sees {r : Rn} {k : Nat} (hk : k < r.rows.length) (h : blindB r ((k + 1 : Nat) : Int) = false) :
    accS (mF r) Sn.lo (k + 1) = accS (mF r) Sn.lo k + mLo r ((k + 1 : Nat) : Int) ∧ accS (mF r) Sn.hi (k + 1) = accS (mF r) Sn.hi k + mHi r ((k + 1 : Nat) : Int) ∧ cu r (k + 1) = cu r k + deg r.curve ((k + 1 : Nat) : Int) := by
  rw [accS_succ, accS_succ, cu_succ]
  have e1 : mF r (k + 1) = ⟨mLo r ((k + 1 : Nat) : Int), mHi r ((k + 1 : Nat) : Int)⟩ := by unfold mF mfK; rw [if_pos ⟨by omega, by omega, h⟩]
  have e2 : dF r (k + 1) = deg r.curve ((k + 1 : Nat) : Int) := by unfold dF; rw [if_pos ⟨by omega, by omega, h⟩]
  rw [e1, e2]; exact ⟨rfl, rfl, rfl⟩
theorem at_blind {r : Rn} {k : Nat} (h : blindB r ((k + 1 : Nat) : Int) = true) :
    accS (mF r) Sn.lo (k + 1) = accS (mF r) Sn.lo k ∧ accS (mF r) Sn.hi (k + 1) = accS (mF r) Sn.hi k ∧ cu r (k + 1) = cu r k := by
  rw [accS_succ, accS_succ, cu_succ]
  have e1 : mF r (k + 1) = ⟨0, 0⟩ := by unfold mF mfK; rw [if_neg (by rw [h]; simp)]
  have e2 : dF r (k + 1) = 0 := by unfold dF; rw [if_neg (by rw [h]; simp)]
  rw [e1, e2]; simp
def LK (r : Rn) (u : Ru) (k : Nat) : List Br := (List.range k).flatMap fun i => leftAt r u (i + 1)
theorem LK_succ (r : Rn) (u : Ru) (k : Nat) : LK r u (k + 1) = LK r u k ++ bB r (k + 1) ++ bA r u (k + 1) ++ bS r u (k + 1) ++ bP r u (k + 1) := by
  unfold LK
  rw [List.range_succ, List.flatMap_append]
  simp [leftAt]
theorem bS_len {r : Rn} (hr : RunOk r) (u : Ru) (m : Nat) : (bS r u m).length ≤ 8 := by
  have := bSK_len r u m r.cps.length
  have := hr.cl
  unfold bS; omega
theorem LK_len {r : Rn} (hr : RunOk r) (u : Ru) : ∀ k, (LK r u k).length ≤ 11 * k := by
  intro k
  induction k with
  | zero => simp [LK]
  | succ k ih =>
    rw [LK_succ]
    simp only [List.length_append]
    have h1 : (bB r (k + 1)).length ≤ 1 := brk1_len _ _ _ _
    have h2 : (bA r u (k + 1)).length ≤ 1 := brk1_len _ _ _ _
    have h3 := bS_len hr u (k + 1)
    have h4 : (bP r u (k + 1)).length ≤ 1 := brk1_len _ _ _ _
    omega
def bW (r : Rn) (u : Ru) (m j : Nat) : List Br := ((wl r m).take j).flatMap fun i => brk1 m 3 (idAt r i) (kSing r u m i)
theorem bW_end (r : Rn) (u : Ru) (m : Nat) : bW r u m (wl r m).length = bS r u m := by unfold bW; rw [List.take_length]; rfl
theorem bW_succ {r : Rn} {u : Ru} {m j i : Nat} (h : (wl r m)[j]? = some i) : bW r u m (j + 1) = bW r u m j ++ brk1 m 3 (idAt r i) (kSing r u m i) := by
  unfold bW; rw [List.take_add_one, h, List.flatMap_append]; simp
theorem bW_late {r : Rn} {u : Ru} {m : Nat} (h : (m : Int) < u.sFrom) (j : Nat) : bW r u m j = [] := by
  unfold bW
  rw [List.flatMap_eq_nil_iff]
  intro i _
  rw [kSing, if_pos h, brk1, if_pos rfl]
theorem bW_len (r : Rn) (u : Ru) (m : Nat) : ∀ j, (bW r u m j).length ≤ j := by
  intro j
  induction j with
  | zero => simp [bW]
  | succ j ih =>
    cases h : (wl r m)[j]? with
    | none => have e : bW r u m (j + 1) = bW r u m j := by unfold bW; rw [List.take_add_one, h]; simp
              rw [e]; omega
    | some i => rw [bW_succ h, List.length_append]; have := brk1_len m 3 (idAt r i) (kSing r u m i); omega
theorem wl_at {r : Rn} {m j i : Nat} (h : (wl r m)[j]? = some i) : i < r.cps.length ∧ wkAt r m i = true := by
  obtain ⟨h1, h2⟩ := List.mem_filter.1 (List.mem_of_getElem? h)
  exact ⟨List.mem_range.1 h1, h2⟩
theorem wl_len8 {r : Rn} (hr : RunOk r) (m : Nat) : (wl r m).length ≤ 8 := by
  have := List.length_filter_le (wkAt r m) (List.range r.cps.length)
  rw [List.length_range] at this
  have := hr.cl
  unfold wl; omega
theorem areaA {p c : Int} (h1 : 0 ≤ p) (h2 : p ≤ 1000) (h3 : -1000000000 ≤ c) (h4 : c ≤ 1000000000) :
    IntKind.i64.wrap (IntKind.i64.wrap (IntKind.i64.wrap (c * 840) * 1000) - IntKind.i64.wrap (IntKind.i64.wrap (c * 840) * p)) = (1000 - p) * (840 * c) ∧
    IntKind.i64.wrap (IntKind.i64.wrap (IntKind.i64.wrap (c * 840) * 1000) + IntKind.i64.wrap (IntKind.i64.wrap (c * 840) * p)) = (1000 + p) * (840 * c) := by
  have e1 : IntKind.i64.wrap (c * 840) = c * 840 := wrap64 (by omega) (by omega)
  rw [e1]
  have e2 : IntKind.i64.wrap (c * 840 * 1000) = c * 840 * 1000 := wrap64 (by omega) (by omega)
  rw [e2]
  have b1 : c * 840 * p ≤ 840000000000 * p := Int.mul_le_mul_of_nonneg_right (by omega) h1
  have b2 : -840000000000 * p ≤ c * 840 * p := Int.mul_le_mul_of_nonneg_right (by omega) h1
  have e3 : IntKind.i64.wrap (c * 840 * p) = c * 840 * p := wrap64 (by omega) (by omega)
  rw [e3]
  have m1 : (1000 - p) * (840 * c) = c * 840 * 1000 - c * 840 * p := by rw [Int.sub_mul, Int.mul_comm p, Int.mul_comm 840 c, Int.mul_comm 1000]
  have m2 : (1000 + p) * (840 * c) = c * 840 * 1000 + c * 840 * p := by rw [Int.add_mul, Int.mul_comm p, Int.mul_comm 840 c, Int.mul_comm 1000]
  rw [m1, m2]
  exact ⟨wrap64 (by omega) (by omega), wrap64 (by omega) (by omega)⟩
end Go.Proofs.Yticiopkiikcokaa
