import Derived.Test.YticiopkiikcokaaT36
import Derived.Test.YticiopkiikcokaaT32
namespace Go.Proofs.Yticiopkiikcokaa
open Go Go.Am
/-! What a valid run is. -/
theorem cpOk_out {c : Cp} (h : cpOk c = true) : (0 ≤ c.id ∧ c.id ≤ 9999) ∧ (-50 ≤ c.eLo ∧ c.eLo ≤ c.eHi ∧ c.eHi ≤ 50) ∧ (0 ≤ c.lLo ∧ c.lLo ≤ c.lHi ∧ c.lHi ≤ 3) ∧ (0 ≤ c.brk ∧ c.brk ≤ 600) := by
  simp only [cpOk, Bool.and_eq_true, within_iff, spanB_iff] at h
  exact ⟨h.1, h.2.1, h.2.2.1, h.2.2.2⟩
structure RunOk (r : Rn) : Prop where
  curve : curveB r.curve = true
  cl : 1 ≤ r.cps.length ∧ r.cps.length ≤ 8
  rl : 1 ≤ r.rows.length ∧ r.rows.length ≤ 60
  last : (r.rows.length : Int) ≤ lastM r.curve
  cp : ∀ (k : Nat) (c : Cp), r.cps[k]? = some c → (0 ≤ c.id ∧ c.id ≤ 9999) ∧ (-50 ≤ c.eLo ∧ c.eLo ≤ c.eHi ∧ c.eHi ≤ 50) ∧ (0 ≤ c.lLo ∧ c.lLo ≤ c.lHi ∧ c.lHi ≤ 3) ∧ (0 ≤ c.brk ∧ c.brk ≤ 600)
  ids : ∀ (k : Nat) (b c : Cp), r.cps[k]? = some b → r.cps[k + 1]? = some c → b.id < c.id
  row : ∀ (i : Nat) (q : Rw), r.rows[i]? = some q → q.deg.length = r.cps.length ∧ (-100 ≤ q.press ∧ q.press ≤ 100) ∧ ∀ (k : Nat) (d : Int), q.deg[k]? = some d → 0 ≤ d ∧ d ≤ 2000
  gauge : -20 ≤ r.gLo ∧ r.gLo ≤ r.gHi ∧ r.gHi ≤ 20
theorem runB_out {r : Rn} (h : runB r = true) : RunOk r := by
  simp only [runB, Bool.and_eq_true] at h
  obtain ⟨h1, h2, h3, h4, h5, h6⟩ := h
  have h5' := within_iff.1 h5
  have hcap : cap60 (lastM r.curve) ≤ 60 ∧ cap60 (lastM r.curve) ≤ lastM r.curve := by unfold cap60; split <;> omega
  refine ⟨h2, cps_len h4, by omega, by omega, fun k c hc => ?_, fun k b c hb hc => ?_, fun i q hq => ?_, spanB_iff.1 h3⟩
  · simp only [cpsB, Bool.and_eq_true, List.all_eq_true, List.mem_range] at h4
    obtain ⟨hk, _⟩ := List.getElem?_eq_some_iff.1 hc
    have := h4.2 k hk
    unfold cpAt at this
    rw [hc] at this
    simp only [Bool.and_eq_true] at this
    exact cpOk_out this.1
  · simp only [cpsB, Bool.and_eq_true, List.all_eq_true, List.mem_range] at h4
    obtain ⟨hk, _⟩ := List.getElem?_eq_some_iff.1 hc
    have := h4.2 (k + 1) hk
    rw [cpAt_succ hc hb] at this
    simp only [Bool.and_eq_true, decide_eq_true_eq] at this
    exact this.2
  · simp only [rowsB, List.all_eq_true, List.mem_range] at h6
    obtain ⟨hi, _⟩ := List.getElem?_eq_some_iff.1 hq
    have := h6 i hi
    rw [rowAt_some hq] at this
    simp only [rowOk, Bool.and_eq_true, decide_eq_true_eq, within_iff, degsB, List.all_eq_true, List.mem_range] at this
    refine ⟨by omega, this.2.1, fun k d hd => ?_⟩
    obtain ⟨hk, _⟩ := List.getElem?_eq_some_iff.1 hd
    have := this.2.2 k hk
    rw [degAt_some hd] at this
    exact within_iff.1 this
/-! A temperature. -/
def rd (r : Rn) (i : Nat) (k : Nat) : Int := match r.rows[i]? with
  | some q => (q.deg[k]?).getD 0
  | none => 0
def lastOf (r : Rn) (c : Cp) : Int := if c.brk > 0 then (if c.brk - 1 < r.rows.length then c.brk - 1 else r.rows.length) else r.rows.length
/-- Which row a lag reads. -/
def rowIx (m lag last : Int) : Nat := ((if last < m + lag then last else m + lag) - 1).toNat
theorem rowIx_lt {m lag last : Int} {n : Nat} (h1 : 1 ≤ m) (h2 : 0 ≤ lag) (h3 : 1 ≤ last) (h4 : last ≤ n) : rowIx m lag last < n ∧ ((rowIx m lag last : Nat) : Int) = (if last < m + lag then last else m + lag) - 1 := by
  unfold rowIx; split <;> omega
theorem rd_get {r : Rn} (hr : RunOk r) {i k : Nat} (hi : i < r.rows.length) (hk : k < r.cps.length) : ∃ q d, r.rows[i]? = some q ∧ q.deg[k]? = some d ∧ rd r i k = d ∧ 0 ≤ d ∧ d ≤ 2000 := by
  obtain ⟨q, hq⟩ := getE hi
  obtain ⟨h1, _, h2⟩ := hr.row i q hq
  obtain ⟨d, hd⟩ := getE (show k < q.deg.length by omega)
  exact ⟨q, d, hq, hd, by unfold rd; rw [hq]; simp [hd], h2 k d hd⟩
set_option maxHeartbeats 8000000 in
set_option maxRecDepth 100000 in
theorem later_spec {r : Rn} (hr : RunOk r) (rest : List AV) {m lag last : Int} {k : Nat} (h1 : 1 ≤ m) (h1' : m ≤ 1000) (h2 : 0 ≤ lag) (h2' : lag ≤ 1000) (h3 : 1 ≤ last) (h4 : last ≤ r.rows.length) (hk : k < r.cps.length) :
    APure Try.prog 103 [.int .i64 lag, .cptr [.cptr (runL r ++ rest)], .cptr [.int .i64 m], .cptr [.int .i64 last], .cptr [.int .i64 k]] (.int .i64 (rd r (rowIx m lag last) k)) := by
  have hrl := hr.rl
  obtain ⟨hlt, he⟩ := rowIx_lt (lag := lag) h1 h2 h3 h4
  obtain ⟨q, d, hq, hd, e, _⟩ := rd_get hr hlt hk
  have ei : IntKind.i64.wrap ((if last < IntKind.i64.wrap (m + lag) then last else IntKind.i64.wrap (m + lag)) - 1) = ((rowIx m lag last : Nat) : Int) := by
    rw [wrap64 (n := m + lag) (by omega) (by omega), he]
    exact wrap64 (by split <;> omega) (by split <;> omega)
  rw [e]
  exact APure.vc Try.func103 rfl (.draw 15 <| .cells (encRw q) <| .cells (encD d) .nil) rfl rfl ⟨by kernel_rfl, mixed, by kernel_rfl, idxW ei hq, by kernel_rfl, idx hd, rI rfl⟩
/-! Sums of spans. -/
structure Sn where
  lo : Int
  hi : Int
def encS (s : Sn) : List AV := [.int .i64 s.lo, .int .i64 s.hi]
def sumTo (f : Sn → Int) (l : List Sn) (k : Nat) : Int := ((l.take k).map f).sum
theorem sumTo_succ {f : Sn → Int} {l : List Sn} {k : Nat} {s : Sn} (h : l[k]? = some s) : sumTo f l (k + 1) = sumTo f l k + f s := by
  unfold sumTo
  rw [List.take_add_one, h]; simp
theorem sumTo_le {f : Sn → Int} {l : List Sn} (h : ∀ s ∈ l, -1000000000 ≤ f s ∧ f s ≤ 1000000000) : ∀ k, k ≤ l.length → -1000000000 * (k : Int) ≤ sumTo f l k ∧ sumTo f l k ≤ 1000000000 * (k : Int) := by
  intro k
  induction k with
  | zero => intro _; simp [sumTo]
  | succ k ih =>
    intro hk
    obtain ⟨s, hs⟩ := getE (show k < l.length by omega)
    have h1 := ih (by omega)
    have h2 := h s (List.mem_of_getElem? hs)
    rw [sumTo_succ hs]
    omega
set_option maxHeartbeats 8000000 in
set_option maxRecDepth 100000 in
theorem sum_spec (l : List Sn) (hl1 : l.length ≤ 1000) (hb : ∀ s ∈ l, (-1000000000 ≤ s.lo ∧ s.lo ≤ 1000000000) ∧ (-1000000000 ≤ s.hi ∧ s.hi ≤ 1000000000)) :
    APure Try.prog 90 [.lst 2 (l.map encS)] (.agg [.int .i64 ((l.map Sn.lo).sum), .int .i64 ((l.map Sn.hi).sum)]) := by
  have hlo := sumTo_le (f := Sn.lo) (l := l) fun s hs => (hb s hs).1
  have hhi := sumTo_le (f := Sn.hi) (l := l) fun s hs => (hb s hs).2
  refine APure.vc Try.func90 rfl .loop rfl rfl ?_
  intro g hn hl
  refine acode_while (fun k : Nat => ⟨[(0, .lst 2 (l.map encS)), (2, .vptr 0 0), (3, .vptr 1 0), (7, .lst 2 (l.map encS)), (8, .int .i64 (l.map encS).length), (9, .int .i64 k)], [(0, .cells [.int .i64 0, .int .i64 0]), (1, .cells [.int .i64 (sumTo Sn.lo l k), .int .i64 (sumTo Sn.hi l k)])], 2⟩)
    (fun k => k ≤ l.length) (fun k => l.length - k) 0 (Nat.zero_le _) ?_ (fun _ _ => hl.mono (Nat.zero_le _)) ?_
  · exact St.le.of ⟨rfl, rfl, rfl, rfl, rfl, rfl, rfl, rfl, rfl, rfl, rfl, rfl, trivial⟩ ⟨rfl, (by decide : (0 : Nat) < 2), rfl, rfl, (by decide : (1 : Nat) < 2), rfl, trivial⟩
  · intro k hk
    by_cases hlt : k < l.length
    · obtain ⟨s, hs⟩ := getE hlt
      have e1 : IntKind.i64.wrap (sumTo Sn.lo l k + s.lo) = sumTo Sn.lo l (k + 1) := by
        rw [← sumTo_succ hs]; have := hlo (k + 1) hlt; exact wrap64 (by omega) (by omega)
      have e2 : IntKind.i64.wrap (sumTo Sn.hi l k + s.hi) = sumTo Sn.hi l (k + 1) := by
        rw [← sumTo_succ hs]; have := hhi (k + 1) hlt; exact wrap64 (by omega) (by omega)
      have e3 : some (AObj.cells [.int .i64 (IntKind.i64.wrap (sumTo Sn.lo l k + s.lo)), .int .i64 (IntKind.i64.wrap (sumTo Sn.hi l k + s.hi))]) = some (.cells [.int .i64 (sumTo Sn.lo l (k + 1)), .int .i64 (sumTo Sn.hi l (k + 1))]) := by rw [e1, e2]
      exact ACode.vc (.br 10 true <| .cells (encS s) .nil) hn hl (.round .cl) ⟨ltLen hlt, idx hs, k + 1, hlt, mu1 hlt,
        St.le.of ⟨rfl, rfl, rfl, rfl, rfl, rfl, rfl, rfl, rfl, rfl, congrArg _ (succ64 (by omega)), rfl, trivial⟩ ⟨rfl, (by decide : (0 : Nat) < 2), rfl, e3, (by decide : (1 : Nat) < 2), rfl, trivial⟩⟩
    · have hk : k = l.length := by omega
      refine ACode.vc (.br 10 false .nil) hn hl (.round .cl) ⟨geLen hlt, _, .refl _, .nil, trivial, ?_⟩
      have e1 : sumTo Sn.lo l k = (l.map Sn.lo).sum := by unfold sumTo; rw [hk, List.take_length]
      have e2 : sumTo Sn.hi l k = (l.map Sn.hi).sum := by unfold sumTo; rw [hk, List.take_length]
      rw [← e1, ← e2]
      rfl
set_option maxHeartbeats 8000000 in
set_option maxRecDepth 100000 in
theorem lessError_spec {a b lo hi : Int} (h1 : -100000000 ≤ a ∧ a ≤ 100000000) (h2 : -100000000 ≤ b ∧ b ≤ 100000000) (h3 : -1000 ≤ lo ∧ lo ≤ 1000) (h4 : -1000 ≤ hi ∧ hi ≤ 1000) :
    APure Try.prog 104 [.agg [.int .i64 a, .int .i64 b], .agg [.int .i64 lo, .int .i64 hi]] (.agg [.int .i64 (a - hi), .int .i64 (b - lo)]) := by
  have e1 : IntKind.i64.wrap (0 - hi) = -hi := by rw [wrap64 (by omega) (by omega)]; omega
  have e2 : IntKind.i64.wrap (0 - lo) = -lo := by rw [wrap64 (by omega) (by omega)]; omega
  have s := sum_spec [⟨a, b⟩, ⟨-hi, -lo⟩] (by simp) (by simp; omega)
  have e3 : ([⟨a, b⟩, ⟨-hi, -lo⟩] : List Sn).map Sn.lo = [a, -hi] := rfl
  have e4 : ([⟨a, b⟩, ⟨-hi, -lo⟩] : List Sn).map Sn.hi = [b, -lo] := rfl
  rw [e3, e4] at s
  have e5 : [a, -hi].sum = a - hi := by simp; omega
  have e6 : [b, -lo].sum = b - lo := by simp; omega
  rw [e5, e6] at s
  have s' : APure Try.prog 90 [.lst 2 [[.int .i64 a, .int .i64 b], [.int .i64 (IntKind.i64.wrap (0 - hi)), .int .i64 (IntKind.i64.wrap (0 - lo))]]] (.agg [.int .i64 (a - hi), .int .i64 (b - lo)]) := by
    rw [e1, e2]; exact s
  exact APure.vc Try.func104 rfl (.lent (.agg [.int .i64 (a - hi), .int .i64 (b - lo)]) [3] .nil) rfl rfl ⟨⟨[.lst 2 [[.int .i64 a, .int .i64 b], [.int .i64 (IntKind.i64.wrap (0 - hi)), .int .i64 (IntKind.i64.wrap (0 - lo))]]], by kernel_rfl, .inl ⟨s', .inr rfl⟩⟩, trivial, rfl⟩
end Go.Proofs.Yticiopkiikcokaa
