import Derived.Test.YticiopkiikcokaaPd
import Derived.Test.YticiopkiikcokaaPe
import Derived.Test.YticiopkiikcokaaPc
import Derived.Test.YticiopkiikcokaaPl
namespace Go.Proofs.Yticiopkiikcokaa
open Go Go.Am
def worksB (c : Cp) (m : Int) : Bool := (c.brk == 0) || decide (m < c.brk)
set_option maxHeartbeats 4000000 in
set_option maxRecDepth 100000 in
theorem works_spec (c : Cp) (m : Int) : APure Try.prog 40 [.agg (encCp c), .int .i64 m] (.bool (worksB c m)) := by
  refine APure.vc Try.func40 rfl (.both 8 .nil .nil) rfl rfl ⟨fun h => rB ?_, fun h => rB ?_⟩
  · simp [worksB, h]
  · simp [worksB, h]
theorem works_wks {c : Cp} (h : cpOk c = true) (m : Int) : worksB c m = wks c m := by
  have := (cpOk_out h).2.2.2
  unfold worksB wks
  by_cases e : c.brk = 0
  · simp [e]
  · have h1 : (c.brk == 0) = false := beq_eq_false_iff_ne.2 e
    have h2 : decide (c.brk > 0) = true := decide_eq_true (by omega)
    rw [h1, h2, Bool.false_or, Bool.true_and]
    by_cases h3 : m < c.brk
    · have : ¬ m ≥ c.brk := by omega
      simp [h3, this]
    · have : m ≥ c.brk := by omega
      simp [h3, this]
set_option maxHeartbeats 4000000 in
set_option maxRecDepth 100000 in
theorem span_spec (a b : Int) : APure Try.prog 69 [.int .i64 a, .int .i64 b] (.agg [.int .i64 a, .int .i64 b]) :=
  APure.vc Try.func69 rfl .nil rfl rfl ⟨trivial, rfl⟩
/-! 'shown': all lags from 0 on, those below the least left out. -/
def shLo (f : Int → Int) (lo : Nat) : Nat → Int
  | 0 => 2000
  | j + 1 => if j < lo then shLo f lo j else (if f j < shLo f lo j then f j else shLo f lo j)
def shHi (f : Int → Int) (lo : Nat) : Nat → Int
  | 0 => 0
  | j + 1 => if j < lo then shHi f lo j else (if f j > shHi f lo j then f j else shHi f lo j)
theorem sh_mn {f : Int → Int} {lo : Nat} (h : ∀ j : Nat, 0 ≤ f j ∧ f j ≤ 2000) : (∀ j, j ≤ lo → shLo f lo j = 2000 ∧ shHi f lo j = 0) ∧ ∀ n, shLo f lo (lo + n + 1) = mnK f lo (n + 1) ∧ shHi f lo (lo + n + 1) = mxK f lo (n + 1) := by
  have h0 : ∀ j, j ≤ lo → shLo f lo j = 2000 ∧ shHi f lo j = 0 := by
    intro j
    induction j with
    | zero => intro _; exact ⟨rfl, rfl⟩
    | succ j ih =>
      intro hj
      have := ih (by omega)
      simp only [shLo, shHi]
      rw [if_pos (by omega), if_pos (by omega)]
      exact this
  refine ⟨h0, fun n => ?_⟩
  induction n with
  | zero =>
    have hl := h0 lo (Nat.le_refl _)
    have hf := h lo
    have e : (lo : Int) + ((0 : Nat) : Int) = lo := by omega
    have s1 : shLo f lo (lo + 0 + 1) = if f lo < shLo f lo lo then f lo else shLo f lo lo := by
      show (if lo < lo then _ else _) = _
      rw [if_neg (by omega)]
    have s2 : shHi f lo (lo + 0 + 1) = if f lo > shHi f lo lo then f lo else shHi f lo lo := by
      show (if lo < lo then _ else _) = _
      rw [if_neg (by omega)]
    have m1 : mnK f lo (0 + 1) = if f ((lo : Int) + ((0 : Nat) : Int)) < f lo then f ((lo : Int) + ((0 : Nat) : Int)) else f lo := rfl
    have m2 : mxK f lo (0 + 1) = if f ((lo : Int) + ((0 : Nat) : Int)) > f lo then f ((lo : Int) + ((0 : Nat) : Int)) else f lo := rfl
    rw [s1, s2, m1, m2, hl.1, hl.2, e]
    rw [if_neg (show ¬ f lo < f lo by omega)]
    constructor <;> split <;> omega
  | succ n ih =>
    have e : (lo : Int) + ((n + 1 : Nat) : Int) = ((lo + n + 1 : Nat) : Int) := by omega
    have s1 : shLo f lo (lo + (n + 1) + 1) = if f ((lo + n + 1 : Nat) : Int) < shLo f lo (lo + n + 1) then f ((lo + n + 1 : Nat) : Int) else shLo f lo (lo + n + 1) := by
      show (if lo + n + 1 < lo then _ else _) = _
      rw [if_neg (by omega)]
      rfl
    have s2 : shHi f lo (lo + (n + 1) + 1) = if f ((lo + n + 1 : Nat) : Int) > shHi f lo (lo + n + 1) then f ((lo + n + 1 : Nat) : Int) else shHi f lo (lo + n + 1) := by
      show (if lo + n + 1 < lo then _ else _) = _
      rw [if_neg (by omega)]
      rfl
    have m1 : mnK f lo (n + 1 + 1) = if f ((lo : Int) + ((n + 1 : Nat) : Int)) < mnK f lo (n + 1) then f ((lo : Int) + ((n + 1 : Nat) : Int)) else mnK f lo (n + 1) := rfl
    have m2 : mxK f lo (n + 1 + 1) = if f ((lo : Int) + ((n + 1 : Nat) : Int)) > mxK f lo (n + 1) then f ((lo : Int) + ((n + 1 : Nat) : Int)) else mxK f lo (n + 1) := rfl
    rw [s1, s2, m1, m2, ih.1, ih.2, e]
    exact ⟨rfl, rfl⟩
end Go.Proofs.Yticiopkiikcokaa
namespace Go.Proofs.Yticiopkiikcokaa
open Go Go.Am
set_option maxHeartbeats 16000000 in
set_option maxRecDepth 100000 in
theorem shown_spec {r : Rn} (hr : RunOk r) {m : Int} {k : Nat} {c : Cp} (h1 : 1 ≤ m) (h2 : m ≤ r.rows.length) (hc : r.cps[k]? = some c) (hw : wks c m = true) :
    APure Try.prog 41 [encRn r, .int .i64 k, .int .i64 m] (.agg [.int .i64 (tLo r m k), .int .i64 (tHi r m k)]) := by
  have hrl := hr.rl
  have hcl := hr.cl
  obtain ⟨hk, _⟩ := List.getElem?_eq_some_iff.1 hc
  have hcp := hr.cp k c hc
  obtain ⟨a1, a2, _⟩ := lastOf_rng hr h1 h2 hw
  obtain ⟨n1, n2, n3⟩ := lagN_eq hr hc
  have hmm := mm_rng hr h1 h2 hc hw (lagN c) (Nat.le_refl _)
  have el : ((c.lLo.toNat : Nat) : Int) = c.lLo := by omega
  have hsh := (sh_mn (f := tmpF r c m k) (lo := c.lLo.toNat) fun j => tmpF_rng hr h1 h2 hc hw (Int.natCast_nonneg j)).2
  have eh : IntKind.i64.wrap (c.lHi + 1) = c.lHi + 1 := wrap64 (by omega) (by omega)
  have eb : IntKind.i64.wrap (c.brk - 1) = c.brk - 1 := wrap64 (by omega) (by omega)
  have elen : ((r.rows.map encRw).length : Int) = (r.rows.length : Int) := by rw [List.length_map]
  have p1 : c.brk > 0 → c.brk - 1 < r.rows.length → IntKind.i64.wrap (c.brk - 1) = lastOf r c := fun x y => by rw [eb]; unfold lastOf; rw [if_pos x, if_pos y]
  have p2 : c.brk > 0 → ¬ c.brk - 1 < r.rows.length → ((r.rows.map encRw).length : Int) = lastOf r c := fun x y => by rw [elen]; unfold lastOf; rw [if_pos x, if_neg y]
  have p3 : ¬ c.brk > 0 → ((r.rows.map encRw).length : Int) = lastOf r c := fun x => by rw [elen]; unfold lastOf; rw [if_neg x]
  by_cases hb : c.brk > 0
  · have d1 : decide (c.brk > 0) = true := decide_eq_true hb
    by_cases hb2 : c.brk - 1 < r.rows.length
    · have d2 : decide (IntKind.i64.wrap (c.brk - 1) < ((r.rows.map encRw).length : Int)) = true := by rw [eb, elen]; exact decide_eq_true hb2
      refine APure.vc Try.func41 rfl (.cells (encCp c) <| .br 24 true <| .br 30 true .loop) rfl rfl ⟨idx hc, d1, d2, ?_⟩
      have e8 := congrArg (AV.int .i64) (p1 hb hb2)
      intro g hn hl
      replace hn : g.n = 78 := hn
      replace hl : g.low 0 := hl
      refine acode_while (fun j : Nat => ⟨[(1, .int .i64 k), (2, .int .i64 m), (3, .vptr 0 0), (6, .vptr 1 0), (7, .vptr 2 0), (8, .int .i64 (lastOf r c)), (9, .int .i64 (shLo (tmpF r c m k) c.lLo.toNat j)), (10, .int .i64 (shHi (tmpF r c m k) c.lLo.toNat j)), (37, .int .i64 (c.lHi + 1)), (38, .int .i64 j)], [(0, .cells (runL r)), (1, .cells [.int .i64 0, .int .i64 0]), (2, .cells (encCp c))], 3⟩)
        (fun j => (j : Int) ≤ c.lHi + 1) (fun j => (c.lHi + 1).toNat - j) 0 (by simp; omega) ?_ (fun _ _ => hl.mono (Nat.zero_le _)) ?_
      · exact St.le.of ⟨rfl, rfl, rfl, rfl, rfl, rfl, rfl, rfl, rfl, rfl, Eq.trans (by kernel_rfl) e8, rfl, rfl, rfl, rfl, rfl, Eq.trans (by kernel_rfl) (congrArg (AV.int .i64) eh), rfl, rfl, rfl, trivial⟩ ⟨rfl, (by decide : (0 : Nat) < 3), rfl, rfl, (by decide : (1 : Nat) < 3), rfl, rfl, (by decide : (2 : Nat) < 3), rfl, trivial⟩
      · intro j hj
        have e1 : IntKind.i64.wrap ((j : Int) + 1) = ((j + 1 : Nat) : Int) := succ64 (by omega)
        by_cases hlt : (j : Int) < c.lHi + 1
        · by_cases hlo : (j : Int) < c.lLo
          · have q1 : shLo (tmpF r c m k) c.lLo.toNat j = shLo (tmpF r c m k) c.lLo.toNat (j + 1) := by
              show _ = (if j < c.lLo.toNat then _ else _)
              rw [if_pos (by omega)]
            have q2 : shHi (tmpF r c m k) c.lLo.toNat j = shHi (tmpF r c m k) c.lLo.toNat (j + 1) := by
              show _ = (if j < c.lLo.toNat then _ else _)
              rw [if_pos (by omega)]
            exact ACode.vc (.br 39 true <| .br 45 true .nil) hn hl (.round .cl) ⟨decide_eq_true hlt, decide_eq_true hlo, j + 1, (by omega : ((j + 1 : Nat) : Int) ≤ c.lHi + 1), (by show (c.lHi + 1).toNat - (j + 1) < (c.lHi + 1).toNat - j; omega),
              St.le.of ⟨rfl, rfl, rfl, rfl, rfl, rfl, rfl, rfl, rfl, rfl, rfl, rfl, congrArg _ q1, rfl, congrArg _ q2, rfl, rfl, rfl, congrArg _ e1, rfl, trivial⟩ ⟨rfl, (by decide : (0 : Nat) < 3), rfl, rfl, (by decide : (1 : Nat) < 3), rfl, rfl, (by decide : (2 : Nat) < 3), rfl, trivial⟩⟩
          · have hlag := rowIx_lt (lag := (j : Int)) h1 (Int.natCast_nonneg j) a1 a2
            have ei : IntKind.i64.wrap ((if lastOf r c < IntKind.i64.wrap (m + (j : Int)) then lastOf r c else IntKind.i64.wrap (m + (j : Int))) - 1) = ((rowIx m (j : Int) (lastOf r c) : Nat) : Int) := by
              rw [wrap64 (n := m + (j : Int)) (by omega) (by omega), hlag.2]
              exact wrap64 (by split <;> omega) (by split <;> omega)
            have hrd := rd_get hr hlag.1 hk
            refine Exists.elim hrd fun q hrd => Exists.elim hrd fun d hrd => ?_
            have q1 : (if d < shLo (tmpF r c m k) c.lLo.toNat j then d else shLo (tmpF r c m k) c.lLo.toNat j) = shLo (tmpF r c m k) c.lLo.toNat (j + 1) := by
              have u : shLo (tmpF r c m k) c.lLo.toNat (j + 1) = if j < c.lLo.toNat then shLo (tmpF r c m k) c.lLo.toNat j else (if tmpF r c m k j < shLo (tmpF r c m k) c.lLo.toNat j then tmpF r c m k j else shLo (tmpF r c m k) c.lLo.toNat j) := rfl
              have fd : tmpF r c m k (j : Int) = d := hrd.2.2.1
              rw [u, if_neg (show ¬ j < c.lLo.toNat by omega), fd]
            have q2 : (if d > shHi (tmpF r c m k) c.lLo.toNat j then d else shHi (tmpF r c m k) c.lLo.toNat j) = shHi (tmpF r c m k) c.lLo.toNat (j + 1) := by
              have u : shHi (tmpF r c m k) c.lLo.toNat (j + 1) = if j < c.lLo.toNat then shHi (tmpF r c m k) c.lLo.toNat j else (if tmpF r c m k j > shHi (tmpF r c m k) c.lLo.toNat j then tmpF r c m k j else shHi (tmpF r c m k) c.lLo.toNat j) := rfl
              have fd : tmpF r c m k (j : Int) = d := hrd.2.2.1
              rw [u, if_neg (show ¬ j < c.lLo.toNat by omega), fd]
            exact ACode.vc (.br 39 true <| .br 45 false <| .cells (encRw q) <| .cells (encD d) .nil) hn hl (.round .cl) ⟨decide_eq_true hlt, decide_eq_false hlo, idxW ei hrd.1, idx hrd.2.1, j + 1, (by omega : ((j + 1 : Nat) : Int) ≤ c.lHi + 1), (by show (c.lHi + 1).toNat - (j + 1) < (c.lHi + 1).toNat - j; omega),
              St.le.of ⟨rfl, rfl, rfl, rfl, rfl, rfl, rfl, rfl, rfl, rfl, rfl, rfl, congrArg _ q1, rfl, congrArg _ q2, rfl, rfl, rfl, congrArg _ e1, rfl, trivial⟩ ⟨rfl, (by decide : (0 : Nat) < 3), rfl, rfl, (by decide : (1 : Nat) < 3), rfl, rfl, (by decide : (2 : Nat) < 3), rfl, trivial⟩⟩
        · have hjn : j = c.lLo.toNat + (lagN c - 1) + 1 := by omega
          have v1 : shLo (tmpF r c m k) c.lLo.toNat j = mnK (tmpF r c m k) c.lLo (lagN c) := by
            rw [hjn, (hsh (lagN c - 1)).1, el]; congr 1; omega
          have v2 : shHi (tmpF r c m k) c.lLo.toNat j = mxK (tmpF r c m k) c.lLo (lagN c) := by
            rw [hjn, (hsh (lagN c - 1)).2, el]; congr 1; omega
          have sS := span_spec (IntKind.i64.wrap (shLo (tmpF r c m k) c.lLo.toNat j - c.eHi)) (IntKind.i64.wrap (shHi (tmpF r c m k) c.lLo.toNat j - c.eLo))
          have z1 : IntKind.i64.wrap (shLo (tmpF r c m k) c.lLo.toNat j - c.eHi) = tLo r m k := by rw [v1, wrap64 (by omega) (by omega), tLo_some hc]
          have z2 : IntKind.i64.wrap (shHi (tmpF r c m k) c.lLo.toNat j - c.eLo) = tHi r m k := by rw [v2, wrap64 (by omega) (by omega), tHi_some hc]
          have eF : some (AV.agg [.int .i64 (IntKind.i64.wrap (shLo (tmpF r c m k) c.lLo.toNat j - c.eHi)), .int .i64 (IntKind.i64.wrap (shHi (tmpF r c m k) c.lLo.toNat j - c.eLo))]) = some (.agg [.int .i64 (tLo r m k), .int .i64 (tHi r m k)]) := by rw [z1, z2]
          exact ACode.vc (.br 39 false .nil) hn hl (.round .cl) ⟨decide_eq_false hlt, _, .refl _, .call (.agg [.int .i64 (IntKind.i64.wrap (shLo (tmpF r c m k) c.lLo.toNat j - c.eHi)), .int .i64 (IntKind.i64.wrap (shHi (tmpF r c m k) c.lLo.toNat j - c.eLo))]) .nil, sS, trivial, Eq.trans (by kernel_rfl) eF⟩
    · have d2 : decide (IntKind.i64.wrap (c.brk - 1) < ((r.rows.map encRw).length : Int)) = false := by rw [eb, elen]; exact decide_eq_false hb2
      refine APure.vc Try.func41 rfl (.cells (encCp c) <| .br 24 true <| .br 30 false .loop) rfl rfl ⟨idx hc, d1, d2, ?_⟩
      have e8 := congrArg (AV.int .i64) (p2 hb hb2)
      intro g hn hl
      replace hn : g.n = 78 := hn
      replace hl : g.low 0 := hl
      refine acode_while (fun j : Nat => ⟨[(1, .int .i64 k), (2, .int .i64 m), (3, .vptr 0 0), (6, .vptr 1 0), (7, .vptr 2 0), (8, .int .i64 (lastOf r c)), (9, .int .i64 (shLo (tmpF r c m k) c.lLo.toNat j)), (10, .int .i64 (shHi (tmpF r c m k) c.lLo.toNat j)), (37, .int .i64 (c.lHi + 1)), (38, .int .i64 j)], [(0, .cells (runL r)), (1, .cells [.int .i64 0, .int .i64 0]), (2, .cells (encCp c))], 3⟩)
        (fun j => (j : Int) ≤ c.lHi + 1) (fun j => (c.lHi + 1).toNat - j) 0 (by simp; omega) ?_ (fun _ _ => hl.mono (Nat.zero_le _)) ?_
      · exact St.le.of ⟨rfl, rfl, rfl, rfl, rfl, rfl, rfl, rfl, rfl, rfl, Eq.trans (by kernel_rfl) e8, rfl, rfl, rfl, rfl, rfl, Eq.trans (by kernel_rfl) (congrArg (AV.int .i64) eh), rfl, rfl, rfl, trivial⟩ ⟨rfl, (by decide : (0 : Nat) < 3), rfl, rfl, (by decide : (1 : Nat) < 3), rfl, rfl, (by decide : (2 : Nat) < 3), rfl, trivial⟩
      · intro j hj
        have e1 : IntKind.i64.wrap ((j : Int) + 1) = ((j + 1 : Nat) : Int) := succ64 (by omega)
        by_cases hlt : (j : Int) < c.lHi + 1
        · by_cases hlo : (j : Int) < c.lLo
          · have q1 : shLo (tmpF r c m k) c.lLo.toNat j = shLo (tmpF r c m k) c.lLo.toNat (j + 1) := by
              show _ = (if j < c.lLo.toNat then _ else _)
              rw [if_pos (by omega)]
            have q2 : shHi (tmpF r c m k) c.lLo.toNat j = shHi (tmpF r c m k) c.lLo.toNat (j + 1) := by
              show _ = (if j < c.lLo.toNat then _ else _)
              rw [if_pos (by omega)]
            exact ACode.vc (.br 39 true <| .br 45 true .nil) hn hl (.round .cl) ⟨decide_eq_true hlt, decide_eq_true hlo, j + 1, (by omega : ((j + 1 : Nat) : Int) ≤ c.lHi + 1), (by show (c.lHi + 1).toNat - (j + 1) < (c.lHi + 1).toNat - j; omega),
              St.le.of ⟨rfl, rfl, rfl, rfl, rfl, rfl, rfl, rfl, rfl, rfl, rfl, rfl, congrArg _ q1, rfl, congrArg _ q2, rfl, rfl, rfl, congrArg _ e1, rfl, trivial⟩ ⟨rfl, (by decide : (0 : Nat) < 3), rfl, rfl, (by decide : (1 : Nat) < 3), rfl, rfl, (by decide : (2 : Nat) < 3), rfl, trivial⟩⟩
          · have hlag := rowIx_lt (lag := (j : Int)) h1 (Int.natCast_nonneg j) a1 a2
            have ei : IntKind.i64.wrap ((if lastOf r c < IntKind.i64.wrap (m + (j : Int)) then lastOf r c else IntKind.i64.wrap (m + (j : Int))) - 1) = ((rowIx m (j : Int) (lastOf r c) : Nat) : Int) := by
              rw [wrap64 (n := m + (j : Int)) (by omega) (by omega), hlag.2]
              exact wrap64 (by split <;> omega) (by split <;> omega)
            have hrd := rd_get hr hlag.1 hk
            refine Exists.elim hrd fun q hrd => Exists.elim hrd fun d hrd => ?_
            have q1 : (if d < shLo (tmpF r c m k) c.lLo.toNat j then d else shLo (tmpF r c m k) c.lLo.toNat j) = shLo (tmpF r c m k) c.lLo.toNat (j + 1) := by
              have u : shLo (tmpF r c m k) c.lLo.toNat (j + 1) = if j < c.lLo.toNat then shLo (tmpF r c m k) c.lLo.toNat j else (if tmpF r c m k j < shLo (tmpF r c m k) c.lLo.toNat j then tmpF r c m k j else shLo (tmpF r c m k) c.lLo.toNat j) := rfl
              have fd : tmpF r c m k (j : Int) = d := hrd.2.2.1
              rw [u, if_neg (show ¬ j < c.lLo.toNat by omega), fd]
            have q2 : (if d > shHi (tmpF r c m k) c.lLo.toNat j then d else shHi (tmpF r c m k) c.lLo.toNat j) = shHi (tmpF r c m k) c.lLo.toNat (j + 1) := by
              have u : shHi (tmpF r c m k) c.lLo.toNat (j + 1) = if j < c.lLo.toNat then shHi (tmpF r c m k) c.lLo.toNat j else (if tmpF r c m k j > shHi (tmpF r c m k) c.lLo.toNat j then tmpF r c m k j else shHi (tmpF r c m k) c.lLo.toNat j) := rfl
              have fd : tmpF r c m k (j : Int) = d := hrd.2.2.1
              rw [u, if_neg (show ¬ j < c.lLo.toNat by omega), fd]
            exact ACode.vc (.br 39 true <| .br 45 false <| .cells (encRw q) <| .cells (encD d) .nil) hn hl (.round .cl) ⟨decide_eq_true hlt, decide_eq_false hlo, idxW ei hrd.1, idx hrd.2.1, j + 1, (by omega : ((j + 1 : Nat) : Int) ≤ c.lHi + 1), (by show (c.lHi + 1).toNat - (j + 1) < (c.lHi + 1).toNat - j; omega),
              St.le.of ⟨rfl, rfl, rfl, rfl, rfl, rfl, rfl, rfl, rfl, rfl, rfl, rfl, congrArg _ q1, rfl, congrArg _ q2, rfl, rfl, rfl, congrArg _ e1, rfl, trivial⟩ ⟨rfl, (by decide : (0 : Nat) < 3), rfl, rfl, (by decide : (1 : Nat) < 3), rfl, rfl, (by decide : (2 : Nat) < 3), rfl, trivial⟩⟩
        · have hjn : j = c.lLo.toNat + (lagN c - 1) + 1 := by omega
          have v1 : shLo (tmpF r c m k) c.lLo.toNat j = mnK (tmpF r c m k) c.lLo (lagN c) := by
            rw [hjn, (hsh (lagN c - 1)).1, el]; congr 1; omega
          have v2 : shHi (tmpF r c m k) c.lLo.toNat j = mxK (tmpF r c m k) c.lLo (lagN c) := by
            rw [hjn, (hsh (lagN c - 1)).2, el]; congr 1; omega
          have sS := span_spec (IntKind.i64.wrap (shLo (tmpF r c m k) c.lLo.toNat j - c.eHi)) (IntKind.i64.wrap (shHi (tmpF r c m k) c.lLo.toNat j - c.eLo))
          have z1 : IntKind.i64.wrap (shLo (tmpF r c m k) c.lLo.toNat j - c.eHi) = tLo r m k := by rw [v1, wrap64 (by omega) (by omega), tLo_some hc]
          have z2 : IntKind.i64.wrap (shHi (tmpF r c m k) c.lLo.toNat j - c.eLo) = tHi r m k := by rw [v2, wrap64 (by omega) (by omega), tHi_some hc]
          have eF : some (AV.agg [.int .i64 (IntKind.i64.wrap (shLo (tmpF r c m k) c.lLo.toNat j - c.eHi)), .int .i64 (IntKind.i64.wrap (shHi (tmpF r c m k) c.lLo.toNat j - c.eLo))]) = some (.agg [.int .i64 (tLo r m k), .int .i64 (tHi r m k)]) := by rw [z1, z2]
          exact ACode.vc (.br 39 false .nil) hn hl (.round .cl) ⟨decide_eq_false hlt, _, .refl _, .call (.agg [.int .i64 (IntKind.i64.wrap (shLo (tmpF r c m k) c.lLo.toNat j - c.eHi)), .int .i64 (IntKind.i64.wrap (shHi (tmpF r c m k) c.lLo.toNat j - c.eLo))]) .nil, sS, trivial, Eq.trans (by kernel_rfl) eF⟩
  · have d1 : decide (c.brk > 0) = false := decide_eq_false hb
    refine APure.vc Try.func41 rfl (.cells (encCp c) <| .br 24 false .loop) rfl rfl ⟨idx hc, d1, ?_⟩
    have e8 := congrArg (AV.int .i64) (p3 hb)
    intro g hn hl
    replace hn : g.n = 78 := hn
    replace hl : g.low 0 := hl
    refine acode_while (fun j : Nat => ⟨[(1, .int .i64 k), (2, .int .i64 m), (3, .vptr 0 0), (6, .vptr 1 0), (7, .vptr 2 0), (8, .int .i64 (lastOf r c)), (9, .int .i64 (shLo (tmpF r c m k) c.lLo.toNat j)), (10, .int .i64 (shHi (tmpF r c m k) c.lLo.toNat j)), (37, .int .i64 (c.lHi + 1)), (38, .int .i64 j)], [(0, .cells (runL r)), (1, .cells [.int .i64 0, .int .i64 0]), (2, .cells (encCp c))], 3⟩)
      (fun j => (j : Int) ≤ c.lHi + 1) (fun j => (c.lHi + 1).toNat - j) 0 (by simp; omega) ?_ (fun _ _ => hl.mono (Nat.zero_le _)) ?_
    · exact St.le.of ⟨rfl, rfl, rfl, rfl, rfl, rfl, rfl, rfl, rfl, rfl, Eq.trans (by kernel_rfl) e8, rfl, rfl, rfl, rfl, rfl, Eq.trans (by kernel_rfl) (congrArg (AV.int .i64) eh), rfl, rfl, rfl, trivial⟩ ⟨rfl, (by decide : (0 : Nat) < 3), rfl, rfl, (by decide : (1 : Nat) < 3), rfl, rfl, (by decide : (2 : Nat) < 3), rfl, trivial⟩
    · intro j hj
      have e1 : IntKind.i64.wrap ((j : Int) + 1) = ((j + 1 : Nat) : Int) := succ64 (by omega)
      by_cases hlt : (j : Int) < c.lHi + 1
      · by_cases hlo : (j : Int) < c.lLo
        · have q1 : shLo (tmpF r c m k) c.lLo.toNat j = shLo (tmpF r c m k) c.lLo.toNat (j + 1) := by
            show _ = (if j < c.lLo.toNat then _ else _)
            rw [if_pos (by omega)]
          have q2 : shHi (tmpF r c m k) c.lLo.toNat j = shHi (tmpF r c m k) c.lLo.toNat (j + 1) := by
            show _ = (if j < c.lLo.toNat then _ else _)
            rw [if_pos (by omega)]
          exact ACode.vc (.br 39 true <| .br 45 true .nil) hn hl (.round .cl) ⟨decide_eq_true hlt, decide_eq_true hlo, j + 1, (by omega : ((j + 1 : Nat) : Int) ≤ c.lHi + 1), (by show (c.lHi + 1).toNat - (j + 1) < (c.lHi + 1).toNat - j; omega),
            St.le.of ⟨rfl, rfl, rfl, rfl, rfl, rfl, rfl, rfl, rfl, rfl, rfl, rfl, congrArg _ q1, rfl, congrArg _ q2, rfl, rfl, rfl, congrArg _ e1, rfl, trivial⟩ ⟨rfl, (by decide : (0 : Nat) < 3), rfl, rfl, (by decide : (1 : Nat) < 3), rfl, rfl, (by decide : (2 : Nat) < 3), rfl, trivial⟩⟩
        · have hlag := rowIx_lt (lag := (j : Int)) h1 (Int.natCast_nonneg j) a1 a2
          have ei : IntKind.i64.wrap ((if lastOf r c < IntKind.i64.wrap (m + (j : Int)) then lastOf r c else IntKind.i64.wrap (m + (j : Int))) - 1) = ((rowIx m (j : Int) (lastOf r c) : Nat) : Int) := by
            rw [wrap64 (n := m + (j : Int)) (by omega) (by omega), hlag.2]
            exact wrap64 (by split <;> omega) (by split <;> omega)
          have hrd := rd_get hr hlag.1 hk
          refine Exists.elim hrd fun q hrd => Exists.elim hrd fun d hrd => ?_
          have q1 : (if d < shLo (tmpF r c m k) c.lLo.toNat j then d else shLo (tmpF r c m k) c.lLo.toNat j) = shLo (tmpF r c m k) c.lLo.toNat (j + 1) := by
            have u : shLo (tmpF r c m k) c.lLo.toNat (j + 1) = if j < c.lLo.toNat then shLo (tmpF r c m k) c.lLo.toNat j else (if tmpF r c m k j < shLo (tmpF r c m k) c.lLo.toNat j then tmpF r c m k j else shLo (tmpF r c m k) c.lLo.toNat j) := rfl
            have fd : tmpF r c m k (j : Int) = d := hrd.2.2.1
            rw [u, if_neg (show ¬ j < c.lLo.toNat by omega), fd]
          have q2 : (if d > shHi (tmpF r c m k) c.lLo.toNat j then d else shHi (tmpF r c m k) c.lLo.toNat j) = shHi (tmpF r c m k) c.lLo.toNat (j + 1) := by
            have u : shHi (tmpF r c m k) c.lLo.toNat (j + 1) = if j < c.lLo.toNat then shHi (tmpF r c m k) c.lLo.toNat j else (if tmpF r c m k j > shHi (tmpF r c m k) c.lLo.toNat j then tmpF r c m k j else shHi (tmpF r c m k) c.lLo.toNat j) := rfl
            have fd : tmpF r c m k (j : Int) = d := hrd.2.2.1
            rw [u, if_neg (show ¬ j < c.lLo.toNat by omega), fd]
          exact ACode.vc (.br 39 true <| .br 45 false <| .cells (encRw q) <| .cells (encD d) .nil) hn hl (.round .cl) ⟨decide_eq_true hlt, decide_eq_false hlo, idxW ei hrd.1, idx hrd.2.1, j + 1, (by omega : ((j + 1 : Nat) : Int) ≤ c.lHi + 1), (by show (c.lHi + 1).toNat - (j + 1) < (c.lHi + 1).toNat - j; omega),
            St.le.of ⟨rfl, rfl, rfl, rfl, rfl, rfl, rfl, rfl, rfl, rfl, rfl, rfl, congrArg _ q1, rfl, congrArg _ q2, rfl, rfl, rfl, congrArg _ e1, rfl, trivial⟩ ⟨rfl, (by decide : (0 : Nat) < 3), rfl, rfl, (by decide : (1 : Nat) < 3), rfl, rfl, (by decide : (2 : Nat) < 3), rfl, trivial⟩⟩
      · have hjn : j = c.lLo.toNat + (lagN c - 1) + 1 := by omega
        have v1 : shLo (tmpF r c m k) c.lLo.toNat j = mnK (tmpF r c m k) c.lLo (lagN c) := by
          rw [hjn, (hsh (lagN c - 1)).1, el]; congr 1; omega
        have v2 : shHi (tmpF r c m k) c.lLo.toNat j = mxK (tmpF r c m k) c.lLo (lagN c) := by
          rw [hjn, (hsh (lagN c - 1)).2, el]; congr 1; omega
        have sS := span_spec (IntKind.i64.wrap (shLo (tmpF r c m k) c.lLo.toNat j - c.eHi)) (IntKind.i64.wrap (shHi (tmpF r c m k) c.lLo.toNat j - c.eLo))
        have z1 : IntKind.i64.wrap (shLo (tmpF r c m k) c.lLo.toNat j - c.eHi) = tLo r m k := by rw [v1, wrap64 (by omega) (by omega), tLo_some hc]
        have z2 : IntKind.i64.wrap (shHi (tmpF r c m k) c.lLo.toNat j - c.eLo) = tHi r m k := by rw [v2, wrap64 (by omega) (by omega), tHi_some hc]
        have eF : some (AV.agg [.int .i64 (IntKind.i64.wrap (shLo (tmpF r c m k) c.lLo.toNat j - c.eHi)), .int .i64 (IntKind.i64.wrap (shHi (tmpF r c m k) c.lLo.toNat j - c.eLo))]) = some (.agg [.int .i64 (tLo r m k), .int .i64 (tHi r m k)]) := by rw [z1, z2]
        exact ACode.vc (.br 39 false .nil) hn hl (.round .cl) ⟨decide_eq_false hlt, _, .refl _, .call (.agg [.int .i64 (IntKind.i64.wrap (shLo (tmpF r c m k) c.lLo.toNat j - c.eHi)), .int .i64 (IntKind.i64.wrap (shHi (tmpF r c m k) c.lLo.toNat j - c.eLo))]) .nil, sS, trivial, Eq.trans (by kernel_rfl) eF⟩
end Go.Proofs.Yticiopkiikcokaa
namespace Go.Proofs.Yticiopkiikcokaa
open Go Go.Am
/-- What is so of a value is so of another one. -/
def AWk (a b : AV) : Prop := ∀ (κ : Nat → Option Nat) (av : Nat → Prop) (w : World) (v : Value), VRel κ av w a v → VRel κ av w b v
theorem AWk.rfl {a : AV} : AWk a a := fun _ _ _ _ h => h
theorem AWk.nil (esz : Nat) : AWk .nil (.lst esz []) := fun κ av w v h => by
  cases h
  exact .lst esz [] none 0 (fun _ _ => Go.undef) (fun _ => Eq.refl _) (Nat.le_refl _) (fun i x hx => by simp at hx) (fun i x hx => by simp at hx)
def AWkL : List AV → List AV → Prop
  | [], [] => True
  | a :: xs, b :: ys => AWk a b ∧ AWkL xs ys
  | _, _ => False
theorem AWkL.get : ∀ {xs ys : List AV}, AWkL xs ys → xs.length = ys.length ∧ ∀ (i : Nat) (b : AV), ys[i]? = some b → ∃ a, xs[i]? = some a ∧ AWk a b := by
  intro xs
  induction xs with
  | nil =>
    intro ys h
    cases ys with
    | nil => exact ⟨Eq.refl _, fun i b hb => by simp at hb⟩
    | cons b ys => exact h.elim
  | cons a xs ih =>
    intro ys h
    cases ys with
    | nil => exact h.elim
    | cons b ys =>
      obtain ⟨h1, h2⟩ := ih h.2
      refine ⟨by simp [h1], fun i x hx => ?_⟩
      cases i with
      | zero => simp at hx; subst hx; exact ⟨a, Eq.refl _, h.1⟩
      | succ i => exact h2 i x (by simpa using hx)
theorem AWk.agg {xs ys : List AV} (h : AWkL xs ys) : AWk (.agg xs) (.agg ys) := fun κ av w v hv => by
  obtain ⟨h1, h2⟩ := h.get
  cases hv with
  | agg _ vs u hl hu hv =>
    exact .agg ys vs u (by rw [hl, h1]) (fun i c hc => by obtain ⟨a, ha, _⟩ := h2 i c hc; exact hu i a ha) (fun i c hc => by obtain ⟨a, ha, hw⟩ := h2 i c hc; exact hw _ _ _ _ (hv i a ha))
theorem APure.weak {P : Program} {f : FuncId} {xs ys : List AV} {r : AV} (h : AWkL xs ys) (hp : APure P f ys r) : APure P f xs r := fun κ N w cargs hN hc => by
  obtain ⟨h1, h2⟩ := h.get
  exact hp κ N w cargs hN ⟨by rw [hc.1, h1], fun i b hb => by
    obtain ⟨a, ha, hw⟩ := h2 i b hb
    obtain ⟨u, hu, hur⟩ := hc.2 i a ha
    exact ⟨u, hu, hw _ _ _ _ hur⟩⟩
def U1 : Ru := ⟨[], 0, 1, 0, 0, 1⟩
theorem ready1 (r : Rn) : APure Try.prog 34 [encRn r, .agg [.nil, .int .i64 0, .int .i64 1, .int .i64 0, .int .i64 0, .int .i64 1]] (.bool (readyB r U1)) :=
  APure.weak (ys := [encRn r, encRu U1]) ⟨.rfl, .agg ⟨.nil 2, .rfl, .rfl, .rfl, .rfl, .rfl, trivial⟩, trivial⟩ (ready_spec r U1)
theorem ready1_out {r : Rn} (h : readyB r U1 = true) : runB r = true := by
  simp only [readyB, Bool.and_eq_true, beq_iff_eq] at h
  exact (checkI_ok h.2).1
def loK (r : Rn) (m : Int) (j : Nat) : Int := ((xsK r m j).map Sn.lo).sum
def hiK (r : Rn) (m : Int) (j : Nat) : Int := ((xsK r m j).map Sn.hi).sum
theorem K_yes {r : Rn} {m : Int} {j : Nat} (h : wkAt r m j = true) : loK r m (j + 1) = loK r m j + tLo r m j ∧ hiK r m (j + 1) = hiK r m j + tHi r m j ∧ (xsK r m (j + 1)).length = (xsK r m j).length + 1 := by
  unfold loK hiK
  rw [xsK_succ, if_pos h]
  simp [spanAt]
theorem K_no {r : Rn} {m : Int} {j : Nat} (h : wkAt r m j = false) : loK r m (j + 1) = loK r m j ∧ hiK r m (j + 1) = hiK r m j ∧ (xsK r m (j + 1)).length = (xsK r m j).length := by
  unfold loK hiK
  rw [xsK_succ, if_neg (by rw [h]; simp)]
  exact ⟨rfl, rfl, rfl⟩
theorem K_rng {r : Rn} (hr : RunOk r) {m : Int} (h1 : 1 ≤ m) (h2 : m ≤ r.rows.length) : ∀ j, j ≤ r.cps.length → (-50 * (j : Int) ≤ loK r m j ∧ loK r m j ≤ 2050 * (j : Int)) ∧ (-50 * (j : Int) ≤ hiK r m j ∧ hiK r m j ≤ 2050 * (j : Int)) := by
  intro j
  induction j with
  | zero => intro _; simp [loK, hiK, xsK]
  | succ j ih =>
    intro hj
    have h := ih (by omega)
    obtain ⟨c, hc⟩ := getE (show j < r.cps.length by omega)
    cases hw : wkAt r m j
    · have := K_no hw; omega
    · have hk := K_yes hw
      have ht := t_rng hr h1 h2 hc (by rw [← wkAt_some hc]; exact hw)
      omega
theorem div840 {n : Int} (h1 : 1 ≤ n) (h2 : n ≤ 8) : (840 : Int).tdiv n * n = 840 := by
  have : n = 1 ∨ n = 2 ∨ n = 3 ∨ n = 4 ∨ n = 5 ∨ n = 6 ∨ n = 7 ∨ n = 8 := by omega
  rcases this with rfl | rfl | rfl | rfl | rfl | rfl | rfl | rfl <;> rfl
end Go.Proofs.Yticiopkiikcokaa
