import Derived.Test.YticiopkiikcokaaT38
namespace Go.Proofs.Yticiopkiikcokaa
open Go Go.Am
/-! The reference's temperature: from 9999 down, from -9999 up. -/
def rfLo (f : Int → Int) (lo e : Int) : Nat → Int
  | 0 => 9999
  | j + 1 => if f (lo + j) - e < rfLo f lo e j then f (lo + j) - e else rfLo f lo e j
def rfHi (f : Int → Int) (lo e : Int) : Nat → Int
  | 0 => -9999
  | j + 1 => if f (lo + j) - e > rfHi f lo e j then f (lo + j) - e else rfHi f lo e j
theorem rf_mn {f : Int → Int} {lo a b : Int} (h : ∀ j : Nat, 0 ≤ f (lo + j) ∧ f (lo + j) ≤ 2000) (ha : -50 ≤ a ∧ a ≤ 50) (hb : -50 ≤ b ∧ b ≤ 50) : ∀ n, rfLo f lo a (n + 1) = mnK f lo (n + 1) - a ∧ rfHi f lo b (n + 1) = mxK f lo (n + 1) - b := by
  intro n
  induction n with
  | zero =>
    have h0 := h 0
    have s1 : rfLo f lo a (0 + 1) = if f (lo + ((0 : Nat) : Int)) - a < 9999 then f (lo + ((0 : Nat) : Int)) - a else 9999 := rfl
    have s2 : rfHi f lo b (0 + 1) = if f (lo + ((0 : Nat) : Int)) - b > -9999 then f (lo + ((0 : Nat) : Int)) - b else -9999 := rfl
    have m1 : mnK f lo (0 + 1) = if f (lo + ((0 : Nat) : Int)) < f lo then f (lo + ((0 : Nat) : Int)) else f lo := rfl
    have m2 : mxK f lo (0 + 1) = if f (lo + ((0 : Nat) : Int)) > f lo then f (lo + ((0 : Nat) : Int)) else f lo := rfl
    have e : lo + ((0 : Nat) : Int) = lo := by omega
    rw [e] at s1 s2 m1 m2 h0
    rw [s1, s2, m1, m2, if_pos (show f lo - a < 9999 by omega), if_pos (show f lo - b > -9999 by omega)]
    constructor <;> split <;> rfl
  | succ n ih =>
    have s1 : rfLo f lo a (n + 1 + 1) = if f (lo + ((n + 1 : Nat) : Int)) - a < rfLo f lo a (n + 1) then f (lo + ((n + 1 : Nat) : Int)) - a else rfLo f lo a (n + 1) := rfl
    have s2 : rfHi f lo b (n + 1 + 1) = if f (lo + ((n + 1 : Nat) : Int)) - b > rfHi f lo b (n + 1) then f (lo + ((n + 1 : Nat) : Int)) - b else rfHi f lo b (n + 1) := rfl
    have m1 : mnK f lo (n + 1 + 1) = if f (lo + ((n + 1 : Nat) : Int)) < mnK f lo (n + 1) then f (lo + ((n + 1 : Nat) : Int)) else mnK f lo (n + 1) := rfl
    have m2 : mxK f lo (n + 1 + 1) = if f (lo + ((n + 1 : Nat) : Int)) > mxK f lo (n + 1) then f (lo + ((n + 1 : Nat) : Int)) else mxK f lo (n + 1) := rfl
    rw [s1, s2, m1, m2, ih.1, ih.2]
    constructor
    · by_cases hc : f (lo + ((n + 1 : Nat) : Int)) < mnK f lo (n + 1)
      · rw [if_pos hc, if_pos (by omega)]
      · rw [if_neg hc, if_neg (by omega)]
    · by_cases hc : f (lo + ((n + 1 : Nat) : Int)) > mxK f lo (n + 1)
      · rw [if_pos hc, if_pos (by omega)]
      · rw [if_neg hc, if_neg (by omega)]
theorem rf_rng {f : Int → Int} {lo a b : Int} (h : ∀ j : Nat, 0 ≤ f (lo + j) ∧ f (lo + j) ≤ 2000) (ha : -50 ≤ a ∧ a ≤ 50) (hb : -50 ≤ b ∧ b ≤ 50) : ∀ n, (-9999 ≤ rfLo f lo a n ∧ rfLo f lo a n ≤ 9999) ∧ (-9999 ≤ rfHi f lo b n ∧ rfHi f lo b n ≤ 9999) := by
  intro n
  induction n with
  | zero => simp [rfLo, rfHi]
  | succ n ih =>
    have hn := h n
    simp only [rfLo, rfHi]
    constructor <;> split <;> omega
set_option maxHeartbeats 16000000 in
set_option maxRecDepth 100000 in
theorem True_spec {r : Rn} (hr : RunOk r) {m : Int} {k : Nat} {c : Cp} (h1 : 1 ≤ m) (h2 : m ≤ r.rows.length) (hc : r.cps[k]? = some c) (hw : wks c m = true) :
    APure Try.prog 77 [encRn r, .int .i64 k, .int .i64 m] (.agg [.int .i64 (tLo r m k), .int .i64 (tHi r m k)]) := by
  have hrl := hr.rl
  have hcl := hr.cl
  obtain ⟨hk, _⟩ := List.getElem?_eq_some_iff.1 hc
  have hcp := hr.cp k c hc
  obtain ⟨a1, a2, _⟩ := lastOf_rng hr h1 h2 hw
  obtain ⟨n1, n2, n3⟩ := lagN_eq hr hc
  have hf : ∀ j : Nat, 0 ≤ tmpF r c m k (c.lLo + j) ∧ tmpF r c m k (c.lLo + j) ≤ 2000 := fun j => tmpF_rng hr h1 h2 hc hw (by omega)
  have hend := rf_mn (f := tmpF r c m k) (lo := c.lLo) (a := c.eHi) (b := c.eLo) hf (by omega) (by omega) (lagN c - 1)
  have en : lagN c - 1 + 1 = lagN c := by omega
  rw [en, ← tLo_some hc, ← tHi_some hc] at hend
  have eb : IntKind.i64.wrap (c.brk - 1) = c.brk - 1 := wrap64 (by omega) (by omega)
  have elen : ((r.rows.map encRw).length : Int) = (r.rows.length : Int) := by rw [List.length_map]
  have hlast : (c.brk > 0 → lastOf r c = if c.brk - 1 < r.rows.length then c.brk - 1 else r.rows.length) ∧ (¬ c.brk > 0 → lastOf r c = r.rows.length) := by
    unfold lastOf
    exact ⟨fun h => if_pos h, fun h => if_neg h⟩
  refine APure.vc Try.func77 rfl (.cells (encCp c) .loop) rfl rfl ⟨idx hc, ?_⟩
  intro g hn hl
  replace hn : g.n = 71 := hn
  replace hl : g.low 0 := hl
  refine acode_while (fun j : Nat => ⟨[(1, .int .i64 k), (2, .int .i64 m), (3, .vptr 0 0), (6, .vptr 1 0), (7, .vptr 2 0), (8, .vptr 4 0), (9, .int .i64 (c.lLo + j))], [(0, .cells (runL r)), (1, .cells [.int .i64 0, .int .i64 0]), (2, .cells (encCp c)), (4, .cells [.int .i64 (rfLo (tmpF r c m k) c.lLo c.eHi j), .int .i64 (rfHi (tmpF r c m k) c.lLo c.eLo j)])], 5⟩)
    (fun j => j ≤ lagN c) (fun j => lagN c - j) 0 (Nat.zero_le _) ?_ (fun _ _ => hl.mono (Nat.zero_le _)) ?_
  · exact St.le.of ⟨rfl, rfl, rfl, rfl, rfl, rfl, rfl, rfl, rfl, rfl, rfl, rfl, congrArg (AV.int .i64) (show c.lLo = c.lLo + ((0 : Nat) : Int) by omega), rfl, trivial⟩ ⟨rfl, (by decide : (0 : Nat) < 5), rfl, rfl, (by decide : (1 : Nat) < 5), rfl, rfl, (by decide : (2 : Nat) < 5), rfl, rfl, (by decide : (4 : Nat) < 5), rfl, trivial⟩
  · intro j hj
    by_cases hlt : j < lagN c
    · have e1 : IntKind.i64.wrap (c.lLo + (j : Int) + 1) = c.lLo + ((j + 1 : Nat) : Int) := by rw [wrap64 (by omega) (by omega)]; omega
      have hlag := rowIx_lt (lag := c.lLo + (j : Int)) h1 (by omega) a1 a2
      have hrd := rd_get hr hlag.1 hk
      refine Exists.elim hrd fun q hrd => Exists.elim hrd fun d hrd => ?_
      have fd : tmpF r c m k (c.lLo + (j : Int)) = d := hrd.2.2.1
      have hd := hrd.2.2.2
      have hX : IntKind.i64.wrap (m + (c.lLo + (j : Int))) = m + (c.lLo + (j : Int)) := wrap64 (by omega) (by omega)
      have w1 : IntKind.i64.wrap (d - c.eHi) = d - c.eHi := wrap64 (by omega) (by omega)
      have w2 : IntKind.i64.wrap (d - c.eLo) = d - c.eLo := wrap64 (by omega) (by omega)
      have u1 : (if IntKind.i64.wrap (d - c.eHi) < rfLo (tmpF r c m k) c.lLo c.eHi j then IntKind.i64.wrap (d - c.eHi) else rfLo (tmpF r c m k) c.lLo c.eHi j) = rfLo (tmpF r c m k) c.lLo c.eHi (j + 1) := by
        have u : rfLo (tmpF r c m k) c.lLo c.eHi (j + 1) = if tmpF r c m k (c.lLo + j) - c.eHi < rfLo (tmpF r c m k) c.lLo c.eHi j then tmpF r c m k (c.lLo + j) - c.eHi else rfLo (tmpF r c m k) c.lLo c.eHi j := rfl
        rw [u, fd, w1]
      have u2 : (if IntKind.i64.wrap (d - c.eLo) > rfHi (tmpF r c m k) c.lLo c.eLo j then IntKind.i64.wrap (d - c.eLo) else rfHi (tmpF r c m k) c.lLo c.eLo j) = rfHi (tmpF r c m k) c.lLo c.eLo (j + 1) := by
        have u : rfHi (tmpF r c m k) c.lLo c.eLo (j + 1) = if tmpF r c m k (c.lLo + j) - c.eLo > rfHi (tmpF r c m k) c.lLo c.eLo j then tmpF r c m k (c.lLo + j) - c.eLo else rfHi (tmpF r c m k) c.lLo c.eLo j := rfl
        rw [u, fd, w2]
      have uu : some (AObj.cells [.int .i64 (if IntKind.i64.wrap (d - c.eHi) < rfLo (tmpF r c m k) c.lLo c.eHi j then IntKind.i64.wrap (d - c.eHi) else rfLo (tmpF r c m k) c.lLo c.eHi j), .int .i64 (if IntKind.i64.wrap (d - c.eLo) > rfHi (tmpF r c m k) c.lLo c.eLo j then IntKind.i64.wrap (d - c.eLo) else rfHi (tmpF r c m k) c.lLo c.eLo j)]) = some (.cells [.int .i64 (rfLo (tmpF r c m k) c.lLo c.eHi (j + 1)), .int .i64 (rfHi (tmpF r c m k) c.lLo c.eLo (j + 1))]) := by rw [u1, u2]
      by_cases hb : c.brk > 0
      · have ei : IntKind.i64.wrap ((if IntKind.i64.wrap (c.brk - 1) < (if ((r.rows.map encRw).length : Int) < IntKind.i64.wrap (m + (c.lLo + (j : Int))) then ((r.rows.map encRw).length : Int) else IntKind.i64.wrap (m + (c.lLo + (j : Int)))) then IntKind.i64.wrap (c.brk - 1) else (if ((r.rows.map encRw).length : Int) < IntKind.i64.wrap (m + (c.lLo + (j : Int))) then ((r.rows.map encRw).length : Int) else IntKind.i64.wrap (m + (c.lLo + (j : Int))))) - 1) = ((rowIx m (c.lLo + (j : Int)) (lastOf r c) : Nat) : Int) := by
          rw [hX, eb, elen, hlag.2]
          have hL := hlast.1 hb
          have hz : ((if c.brk - 1 < (if (r.rows.length : Int) < m + (c.lLo + (j : Int)) then (r.rows.length : Int) else m + (c.lLo + (j : Int))) then c.brk - 1 else (if (r.rows.length : Int) < m + (c.lLo + (j : Int)) then (r.rows.length : Int) else m + (c.lLo + (j : Int)))) - 1) = (if lastOf r c < m + (c.lLo + (j : Int)) then lastOf r c else m + (c.lLo + (j : Int))) - 1 := by
            rw [hL]
            split <;> split <;> (try split) <;> (try split) <;> omega
          rw [hz]
          exact wrap64 (by split <;> omega) (by split <;> omega)
        exact ACode.vc (.br 25 true <| .br 37 true <| .cells (encRw q) <| .cells (encD d) .nil) hn hl (.round .cl)
          ⟨decide_eq_true (show c.lLo + (j : Int) ≤ c.lHi by omega), decide_eq_true hb, idxW ei hrd.1, idx hrd.2.1, j + 1, hlt, mu1 hlt,
            St.le.of ⟨rfl, rfl, rfl, rfl, rfl, rfl, rfl, rfl, rfl, rfl, rfl, rfl, congrArg _ e1, rfl, trivial⟩ ⟨rfl, (by decide : (0 : Nat) < 5), rfl, rfl, (by decide : (1 : Nat) < 5), rfl, rfl, (by decide : (2 : Nat) < 5), rfl, Eq.trans (by kernel_rfl) uu, (by decide : (4 : Nat) < 5), rfl, trivial⟩⟩
      · have ei : IntKind.i64.wrap ((if ((r.rows.map encRw).length : Int) < IntKind.i64.wrap (m + (c.lLo + (j : Int))) then ((r.rows.map encRw).length : Int) else IntKind.i64.wrap (m + (c.lLo + (j : Int)))) - 1) = ((rowIx m (c.lLo + (j : Int)) (lastOf r c) : Nat) : Int) := by
          rw [hX, elen, hlag.2, hlast.2 hb]
          exact wrap64 (by split <;> omega) (by split <;> omega)
        exact ACode.vc (.br 25 true <| .br 37 false <| .cells (encRw q) <| .cells (encD d) .nil) hn hl (.round .cl)
          ⟨decide_eq_true (show c.lLo + (j : Int) ≤ c.lHi by omega), decide_eq_false hb, idxW ei hrd.1, idx hrd.2.1, j + 1, hlt, mu1 hlt,
            St.le.of ⟨rfl, rfl, rfl, rfl, rfl, rfl, rfl, rfl, rfl, rfl, rfl, rfl, congrArg _ e1, rfl, trivial⟩ ⟨rfl, (by decide : (0 : Nat) < 5), rfl, rfl, (by decide : (1 : Nat) < 5), rfl, rfl, (by decide : (2 : Nat) < 5), rfl, Eq.trans (by kernel_rfl) uu, (by decide : (4 : Nat) < 5), rfl, trivial⟩⟩
    · have hj' : j = lagN c := by omega
      subst hj'
      have eF : some (AV.agg [.int .i64 (rfLo (tmpF r c m k) c.lLo c.eHi (lagN c)), .int .i64 (rfHi (tmpF r c m k) c.lLo c.eLo (lagN c))]) = some (.agg [.int .i64 (tLo r m k), .int .i64 (tHi r m k)]) := by rw [hend.1, hend.2]
      exact ACode.vc (.br 25 false .nil) hn hl (.round .cl) ⟨decide_eq_false (show ¬ c.lLo + ((lagN c : Nat) : Int) ≤ c.lHi by omega), _, .refl _, .nil, trivial, Eq.trans (by kernel_rfl) eF⟩
end Go.Proofs.Yticiopkiikcokaa
