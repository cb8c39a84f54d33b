import Derived.Test.YticiopkiikcokaaPd
import Derived.Test.YticiopkiikcokaaPm
import Derived.Test.YticiopkiikcokaaPe
import Derived.Test.YticiopkiikcokaaPc
import Derived.Test.YticiopkiikcokaaPv
import Derived.Test.YticiopkiikcokaaPb
namespace Go.Proofs.Yticiopkiikcokaa
open Go Go.Am
/-! The reference's temperature: from 9999 down, from -9999 up. -/
def rfLo (f : Int → Int) (lo e : Int) : Nat → Int
  | 0 => 9999
  | j + 1 => if f (lo + j) - e < rfLo f lo e j then f (lo + j) - e else rfLo f lo e j
def rfHi (f : Int → Int) (lo e : Int) : Nat → Int
  | 0 => -9999
  | j + 1 => if f (lo + j) - e > rfHi f lo e j then f (lo + j) - e else rfHi f lo e j
theorem rf_mn {f : Int → Int} {lo a b : Int} (h : ∀ j : Nat, 0 ≤ f (lo + j) ∧ f (lo + j) ≤ 2000) (ha : -50 ≤ a ∧ a ≤ 50) (hb : -50 ≤ b ∧ b ≤ 50) : ∀ n, rfLo f lo a (n + 1) = mnK f lo (n + 1) - a ∧ rfHi f lo b (n + 1) = mxK f lo (n + 1) - b := by
  intro n
  induction n with
  | zero =>
    have h0 := h 0
    have s1 : rfLo f lo a (0 + 1) = if f (lo + ((0 : Nat) : Int)) - a < 9999 then f (lo + ((0 : Nat) : Int)) - a else 9999 := rfl
    have s2 : rfHi f lo b (0 + 1) = if f (lo + ((0 : Nat) : Int)) - b > -9999 then f (lo + ((0 : Nat) : Int)) - b else -9999 := rfl
    have m1 : mnK f lo (0 + 1) = if f (lo + ((0 : Nat) : Int)) < f lo then f (lo + ((0 : Nat) : Int)) else f lo := rfl
    have m2 : mxK f lo (0 + 1) = if f (lo + ((0 : Nat) : Int)) > f lo then f (lo + ((0 : Nat) : Int)) else f lo := rfl
    have e : lo + ((0 : Nat) : Int) = lo := by omega
    rw [e] at s1 s2 m1 m2 h0
    rw [s1, s2, m1, m2, if_pos (show f lo - a < 9999 by omega), if_pos (show f lo - b > -9999 by omega)]
    constructor <;> split <;> rfl
  | succ n ih =>
    have s1 : rfLo f lo a (n + 1 + 1) = if f (lo + ((n + 1 : Nat) : Int)) - a < rfLo f lo a (n + 1) then f (lo + ((n + 1 : Nat) : Int)) - a else rfLo f lo a (n + 1) := rfl
    have s2 : rfHi f lo b (n + 1 + 1) = if f (lo + ((n + 1 : Nat) : Int)) - b > rfHi f lo b (n + 1) then f (lo + ((n + 1 : Nat) : Int)) - b else rfHi f lo b (n + 1) := rfl
    have m1 : mnK f lo (n + 1 + 1) = if f (lo + ((n + 1 : Nat) : Int)) < mnK f lo (n + 1) then f (lo + ((n + 1 : Nat) : Int)) else mnK f lo (n + 1) := rfl
    have m2 : mxK f lo (n + 1 + 1) = if f (lo + ((n + 1 : Nat) : Int)) > mxK f lo (n + 1) then f (lo + ((n + 1 : Nat) : Int)) else mxK f lo (n + 1) := rfl
    rw [s1, s2, m1, m2, ih.1, ih.2]
    constructor
    · by_cases hc : f (lo + ((n + 1 : Nat) : Int)) < mnK f lo (n + 1)
      · rw [if_pos hc, if_pos (by omega)]
      · rw [if_neg hc, if_neg (by omega)]
    · by_cases hc : f (lo + ((n + 1 : Nat) : Int)) > mxK f lo (n + 1)
      · rw [if_pos hc, if_pos (by omega)]
      · rw [if_neg hc, if_neg (by omega)]
theorem rf_rng {f : Int → Int} {lo a b : Int} (h : ∀ j : Nat, 0 ≤ f (lo + j) ∧ f (lo + j) ≤ 2000) (ha : -50 ≤ a ∧ a ≤ 50) (hb : -50 ≤ b ∧ b ≤ 50) : ∀ n, (-9999 ≤ rfLo f lo a n ∧ rfLo f lo a n ≤ 9999) ∧ (-9999 ≤ rfHi f lo b n ∧ rfHi f lo b n ≤ 9999) := by
  intro n
  induction n with
  | zero => simp [rfLo, rfHi]
  | succ n ih =>
    have hn := h n
    simp only [rfLo, rfHi]
    constructor <;> split <;> omega
set_option maxHeartbeats 16000000 in
set_option maxRecDepth 100000 in
theorem True_spec {r : Rn} (hr : RunOk r) {m : Int} {k : Nat} {c : Cp} (h1 : 1 ≤ m) (h2 : m ≤ r.rows.length) (hc : r.cps[k]? = some c) (hw : wks c m = true) :
    APure Try.prog 77 [encRn r, .int .i64 k, .int .i64 m] (.agg [.int .i64 (tLo r m k), .int .i64 (tHi r m k)]) := by
  have hrl := hr.rl
  have hcl := hr.cl
  obtain ⟨hk, _⟩ := List.getElem?_eq_some_iff.1 hc
  have hcp := hr.cp k c hc
  obtain ⟨a1, a2, _⟩ := lastOf_rng hr h1 h2 hw
  obtain ⟨n1, n2, n3⟩ := lagN_eq hr hc
  have hf : ∀ j : Nat, 0 ≤ tmpF r c m k (c.lLo + j) ∧ tmpF r c m k (c.lLo + j) ≤ 2000 := fun j => tmpF_rng hr h1 h2 hc hw (by omega)
  have hend := rf_mn (f := tmpF r c m k) (lo := c.lLo) (a := c.eHi) (b := c.eLo) hf (by omega) (by omega) (lagN c - 1)
  have en : lagN c - 1 + 1 = lagN c := by omega
  rw [en, ← tLo_some hc, ← tHi_some hc] at hend
  have eb : IntKind.i64.wrap (c.brk - 1) = c.brk - 1 := wrap64 (by omega) (by omega)
  have elen : ((r.rows.map encRw).length : Int) = (r.rows.length : Int) := by rw [List.length_map]
  have hlast : (c.brk > 0 → lastOf r c = if c.brk - 1 < r.rows.length then c.brk - 1 else r.rows.length) ∧ (¬ c.brk > 0 → lastOf r c = r.rows.length) := by
    unfold lastOf
    exact ⟨fun h => if_pos h, fun h => if_neg h⟩
  refine APure.vc Try.func77 rfl (.cells (encCp c) .loop) rfl rfl ⟨idx hc, ?_⟩
  intro g hn hl
  replace hn : g.n = 71 := hn
  replace hl : g.low 0 := hl
  refine acode_while (fun j : Nat => ⟨[(1, .int .i64 k), (2, .int .i64 m), (3, .vptr 0 0), (6, .vptr 1 0), (7, .vptr 2 0), (8, .vptr 4 0), (9, .int .i64 (c.lLo + j))], [(0, .cells (runL r)), (1, .cells [.int .i64 0, .int .i64 0]), (2, .cells (encCp c)), (4, .cells [.int .i64 (rfLo (tmpF r c m k) c.lLo c.eHi j), .int .i64 (rfHi (tmpF r c m k) c.lLo c.eLo j)])], 5⟩)
    (fun j => j ≤ lagN c) (fun j => lagN c - j) 0 (Nat.zero_le _) ?_ (fun _ _ => hl.mono (Nat.zero_le _)) ?_
  · exact St.le.of ⟨rfl, rfl, rfl, rfl, rfl, rfl, rfl, rfl, rfl, rfl, rfl, rfl, congrArg (AV.int .i64) (show c.lLo = c.lLo + ((0 : Nat) : Int) by omega), rfl, trivial⟩ ⟨rfl, (by decide : (0 : Nat) < 5), rfl, rfl, (by decide : (1 : Nat) < 5), rfl, rfl, (by decide : (2 : Nat) < 5), rfl, rfl, (by decide : (4 : Nat) < 5), rfl, trivial⟩
  · intro j hj
    by_cases hlt : j < lagN c
    · have e1 : IntKind.i64.wrap (c.lLo + (j : Int) + 1) = c.lLo + ((j + 1 : Nat) : Int) := by rw [wrap64 (by omega) (by omega)]; omega
      have hlag := rowIx_lt (lag := c.lLo + (j : Int)) h1 (by omega) a1 a2
      have hrd := rd_get hr hlag.1 hk
      refine Exists.elim hrd fun q hrd => Exists.elim hrd fun d hrd => ?_
      have fd : tmpF r c m k (c.lLo + (j : Int)) = d := hrd.2.2.1
      have hd := hrd.2.2.2
      have hX : IntKind.i64.wrap (m + (c.lLo + (j : Int))) = m + (c.lLo + (j : Int)) := wrap64 (by omega) (by omega)
      have w1 : IntKind.i64.wrap (d - c.eHi) = d - c.eHi := wrap64 (by omega) (by omega)
      have w2 : IntKind.i64.wrap (d - c.eLo) = d - c.eLo := wrap64 (by omega) (by omega)
      have u1 : (if IntKind.i64.wrap (d - c.eHi) < rfLo (tmpF r c m k) c.lLo c.eHi j then IntKind.i64.wrap (d - c.eHi) else rfLo (tmpF r c m k) c.lLo c.eHi j) = rfLo (tmpF r c m k) c.lLo c.eHi (j + 1) := by
        have u : rfLo (tmpF r c m k) c.lLo c.eHi (j + 1) = if tmpF r c m k (c.lLo + j) - c.eHi < rfLo (tmpF r c m k) c.lLo c.eHi j then tmpF r c m k (c.lLo + j) - c.eHi else rfLo (tmpF r c m k) c.lLo c.eHi j := rfl
        rw [u, fd, w1]
      have u2 : (if IntKind.i64.wrap (d - c.eLo) > rfHi (tmpF r c m k) c.lLo c.eLo j then IntKind.i64.wrap (d - c.eLo) else rfHi (tmpF r c m k) c.lLo c.eLo j) = rfHi (tmpF r c m k) c.lLo c.eLo (j + 1) := by
        have u : rfHi (tmpF r c m k) c.lLo c.eLo (j + 1) = if tmpF r c m k (c.lLo + j) - c.eLo > rfHi (tmpF r c m k) c.lLo c.eLo j then tmpF r c m k (c.lLo + j) - c.eLo else rfHi (tmpF r c m k) c.lLo c.eLo j := rfl
        rw [u, fd, w2]
      have uu : some (AObj.cells [.int .i64 (if IntKind.i64.wrap (d - c.eHi) < rfLo (tmpF r c m k) c.lLo c.eHi j then IntKind.i64.wrap (d - c.eHi) else rfLo (tmpF r c m k) c.lLo c.eHi j), .int .i64 (if IntKind.i64.wrap (d - c.eLo) > rfHi (tmpF r c m k) c.lLo c.eLo j then IntKind.i64.wrap (d - c.eLo) else rfHi (tmpF r c m k) c.lLo c.eLo j)]) = some (.cells [.int .i64 (rfLo (tmpF r c m k) c.lLo c.eHi (j + 1)), .int .i64 (rfHi (tmpF r c m k) c.lLo c.eLo (j + 1))]) := by rw [u1, u2]
      by_cases hb : c.brk > 0
      · have ei : IntKind.i64.wrap ((if IntKind.i64.wrap (c.brk - 1) < (if ((r.rows.map encRw).length : Int) < IntKind.i64.wrap (m + (c.lLo + (j : Int))) then ((r.rows.map encRw).length : Int) else IntKind.i64.wrap (m + (c.lLo + (j : Int)))) then IntKind.i64.wrap (c.brk - 1) else (if ((r.rows.map encRw).length : Int) < IntKind.i64.wrap (m + (c.lLo + (j : Int))) then ((r.rows.map encRw).length : Int) else IntKind.i64.wrap (m + (c.lLo + (j : Int))))) - 1) = ((rowIx m (c.lLo + (j : Int)) (lastOf r c) : Nat) : Int) := by
          rw [hX, eb, elen, hlag.2]
          have hL := hlast.1 hb
          have hz : ((if c.brk - 1 < (if (r.rows.length : Int) < m + (c.lLo + (j : Int)) then (r.rows.length : Int) else m + (c.lLo + (j : Int))) then c.brk - 1 else (if (r.rows.length : Int) < m + (c.lLo + (j : Int)) then (r.rows.length : Int) else m + (c.lLo + (j : Int)))) - 1) = (if lastOf r c < m + (c.lLo + (j : Int)) then lastOf r c else m + (c.lLo + (j : Int))) - 1 := by
            rw [hL]
            split <;> split <;> (try split) <;> (try split) <;> omega
          rw [hz]
          exact wrap64 (by split <;> omega) (by split <;> omega)
        exact ACode.vc (.br 25 true <| .br 37 true <| .cells (encRw q) <| .cells (encD d) .nil) hn hl (.round .cl)
          ⟨decide_eq_true (show c.lLo + (j : Int) ≤ c.lHi by omega), decide_eq_true hb, idxW ei hrd.1, idx hrd.2.1, j + 1, hlt, mu1 hlt,
            St.le.of ⟨rfl, rfl, rfl, rfl, rfl, rfl, rfl, rfl, rfl, rfl, rfl, rfl, congrArg _ e1, rfl, trivial⟩ ⟨rfl, (by decide : (0 : Nat) < 5), rfl, rfl, (by decide : (1 : Nat) < 5), rfl, rfl, (by decide : (2 : Nat) < 5), rfl, Eq.trans (by kernel_rfl) uu, (by decide : (4 : Nat) < 5), rfl, trivial⟩⟩
      · have ei : IntKind.i64.wrap ((if ((r.rows.map encRw).length : Int) < IntKind.i64.wrap (m + (c.lLo + (j : Int))) then ((r.rows.map encRw).length : Int) else IntKind.i64.wrap (m + (c.lLo + (j : Int)))) - 1) = ((rowIx m (c.lLo + (j : Int)) (lastOf r c) : Nat) : Int) := by
          rw [hX, elen, hlag.2, hlast.2 hb]
          exact wrap64 (by split <;> omega) (by split <;> omega)
        exact ACode.vc (.br 25 true <| .br 37 false <| .cells (encRw q) <| .cells (encD d) .nil) hn hl (.round .cl)
          ⟨decide_eq_true (show c.lLo + (j : Int) ≤ c.lHi by omega), decide_eq_false hb, idxW ei hrd.1, idx hrd.2.1, j + 1, hlt, mu1 hlt,
            St.le.of ⟨rfl, rfl, rfl, rfl, rfl, rfl, rfl, rfl, rfl, rfl, rfl, rfl, congrArg _ e1, rfl, trivial⟩ ⟨rfl, (by decide : (0 : Nat) < 5), rfl, rfl, (by decide : (1 : Nat) < 5), rfl, rfl, (by decide : (2 : Nat) < 5), rfl, Eq.trans (by kernel_rfl) uu, (by decide : (4 : Nat) < 5), rfl, trivial⟩⟩
    · have hj' : j = lagN c := by omega
      subst hj'
      have eF : some (AV.agg [.int .i64 (rfLo (tmpF r c m k) c.lLo c.eHi (lagN c)), .int .i64 (rfHi (tmpF r c m k) c.lLo c.eLo (lagN c))]) = some (.agg [.int .i64 (tLo r m k), .int .i64 (tHi r m k)]) := by rw [hend.1, hend.2]
      exact ACode.vc (.br 25 false .nil) hn hl (.round .cl) ⟨decide_eq_false (show ¬ c.lLo + ((lagN c : Nat) : Int) ≤ c.lHi by omega), _, .refl _, .nil, trivial, Eq.trans (by kernel_rfl) eF⟩
end Go.Proofs.Yticiopkiikcokaa
namespace Go.Proofs.Yticiopkiikcokaa
open Go Go.Am
theorem works_wk {c : Cp} (h : 0 ≤ c.brk) (m : Int) : worksB c m = wks c m := by
  unfold worksB wks
  by_cases e : c.brk = 0
  · simp [e]
  · have h1 : (c.brk == 0) = false := beq_eq_false_iff_ne.2 e
    have h2 : decide (c.brk > 0) = true := decide_eq_true (by omega)
    rw [h1, h2, Bool.false_or, Bool.true_and]
    by_cases h3 : m < c.brk
    · have : ¬ m ≥ c.brk := by omega
      simp [h3, this]
    · have : m ≥ c.brk := by omega
      simp [h3, this]
theorem boolC2 (b : Bool) : b = false ∨ b = true := by cases b <;> simp
/-! The reference's list of couples that work. -/
def encN (i : Nat) : List AV := [.int .i64 (i : Int)]
def flI (l : List Nat) : List AV := l.map fun (i : Nat) => AV.int .i64 (i : Int)
theorem flI_append (l : List Nat) (i : Nat) : flI l ++ [.int .i64 (i : Int)] = flI (l ++ [i]) := by simp [flI]
theorem flI_length (l : List Nat) : (flI l).length = l.length := by simp [flI]
theorem flI_ok (n : Nat) : ∀ l : List Nat, okL n (flI l) = true := by
  intro l
  induction l with
  | nil => rfl
  | cons s l ih => show (true && okL n (flI l)) = true; rw [ih]; rfl
theorem flI_chunks : ∀ l : List Nat, chunks 1 (flI l) l.length = l.map encN := by
  intro l
  induction l with
  | nil => rfl
  | cons s l ih => show encN s :: chunks 1 (flI l) l.length = _; rw [ih]; rfl
theorem mapO_fi (f : AV → Option (AV × List Nat)) (h : ∀ i : Int, f (.int .i64 i) = some (.int .i64 i, [])) : ∀ l : List Nat, mapO f (flI l) = some (flI l, []) := by
  intro l
  induction l with
  | nil => rfl
  | cons s l ih =>
    have : mapO f (.int .i64 (s : Int) :: flI l) = some (flI (s :: l), []) := by
      simp only [mapO, h, ih]; rfl
    exact this
theorem thaw_I {h : Nat → Option AObj} {i : Nat} {l : List Nat} (h0 : h i = some (.cells (flI l))) : thaw 8 h (.rsl i 0 l.length 1) = some (.lst 1 (l.map encN), [i]) := by
  have e : thaw 8 h (.rsl i 0 l.length 1) = (match h i with
      | some (.cells cs) => if 0 + l.length * 1 ≤ cs.length then (match mapO (thaw 7 h) cs with | some (cs', is) => some (.lst 1 (chunks 1 (cs'.drop 0) l.length), i :: is) | none => none) else none
      | _ => none) := rfl
  rw [e, h0]
  simp only []
  rw [if_pos (by rw [flI_length]; omega), mapO_fi (thaw 7 h) (fun i => rfl)]
  simp only [List.drop_zero, flI_chunks]
theorem app_I {h : Nat → Option AObj} {i j id : Nat} {l : List Nat} {s : Nat} (h0 : h i = some (.cells (flI l))) (h1 : h j = some (.cells [.int .i64 (s : Int)])) (hl : l.length ≤ 1000) :
    aAppend Try.prog h id 87 87 (.rsl i 0 l.length 1) (.rsl j 0 1 1) = some ⟨.rsl id 0 (l.length + 1) 1, [(i, none), (id, some (.cells (flI l ++ [.int .i64 (s : Int)])))]⟩ := by
  simp only [aAppend, ty87, ty3, srcCells, h0, h1]
  rw [if_pos (by decide)]
  simp [flI_length, cellB]
  omega
def nlK (r : Rn) (m : Int) (k : Nat) : List Nat := (List.range k).filter (wkAt r m)
theorem nlK_succ (r : Rn) (m : Int) (k : Nat) : nlK r m (k + 1) = if wkAt r m k = true then nlK r m k ++ [k] else nlK r m k := by
  unfold nlK
  rw [List.range_succ, List.filter_append]
  by_cases h : wkAt r m k = true
  · simp [h]
  · simp [h]
theorem nlK_len (r : Rn) (m : Int) (k : Nat) : (nlK r m k).length ≤ k := by
  have := List.length_filter_le (wkAt r m) (List.range k)
  rw [List.length_range] at this; exact this
def wlV : List Nat → AV
  | [] => .nil
  | a :: t => .lst 1 ((a :: t).map encN)
def wkSt (r : Rn) (m : Int) (k : Nat) : List Nat → St
  | [] => ⟨[(1, .int .i64 m), (2, .vptr 0 0), (5, .nil), (6, .int .i64 k)], [(0, .cells (runL r))], 1⟩
  | s :: t => ⟨[(1, .int .i64 m), (2, .vptr 0 0), (5, .rsl 1 0 (s :: t).length 1), (6, .int .i64 k)], [(0, .cells (runL r)), (1, .cells (flI (s :: t)))], 2⟩
set_option maxHeartbeats 16000000 in
set_option maxRecDepth 100000 in
theorem Working_spec {r : Rn} (hr : RunOk r) (m : Int) : APure Try.prog 54 [encRn r, .int .i64 m] (wlV (wl r m)) := by
  have hcl := hr.cl
  have hrok : (wlV (wl r m)).ok 0 = true := by unfold wlV; split <;> rfl
  refine APure.vcT Try.func54 .loop rfl hrok ?_
  intro g hn hl
  replace hn : g.n = 26 := hn
  replace hl : g.low 0 := hl
  refine acode_whileW (fun i : Nat × List Nat => wkSt r m i.1 i.2) (fun i => i.1 ≤ r.cps.length ∧ i.2 = nlK r m i.1) (fun i => r.cps.length - i.1) (0, []) ⟨Nat.zero_le _, rfl⟩ (Wk.le ?_ (hl.mono (Nat.zero_le _))) ?_
  · exact St.le.of ⟨rfl, rfl, rfl, rfl, rfl, rfl, rfl, rfl, trivial⟩ ⟨rfl, Nat.zero_lt_one, rfl, trivial⟩
  · rintro ⟨k, xs⟩ ⟨hk, hxs⟩
    simp only at hk hxs
    have hlen : xs.length ≤ k := hxs ▸ nlK_len r m k
    by_cases hlt : k < r.cps.length
    · refine Exists.elim (getE hlt) fun c hc => ?_
      have hcp := hr.cp k c hc
      have sW := works_spec c m
      rw [works_wk hcp.2.2.2.1, ← wkAt_some (r := r) (m := m) hc] at sW
      have hnext := nlK_succ r m k
      refine Or.elim (boolC2 (wkAt r m k)) (fun hw => ?_) (fun hw => ?_)
      · rw [hw] at sW
        rw [hw, ← hxs] at hnext
        simp only [Bool.false_eq_true, if_false] at hnext
        cases xs with
        | nil =>
          exact ACode.vc (.br 11 true <| .cells (encCp c) <| .call (.bool false) .nil) hn hl (.roundW .cl) ⟨ltLen hlt, idx hc, sW, (k + 1, []), ⟨hlt, hnext.symm⟩, mu1 hlt, Wk.le (St.le.of ⟨rfl, rfl, rfl, rfl, rfl, rfl, congrArg _ (succ64 (by omega)), rfl, trivial⟩ ⟨rfl, Nat.zero_lt_one, rfl, trivial⟩) (hl.mono (Nat.zero_le _))⟩
        | cons s t =>
          exact ACode.vc (.br 11 true <| .cells (encCp c) <| .call (.bool false) .nil) hn hl (.roundW .cl) ⟨ltLen hlt, idx hc, sW, (k + 1, s :: t), ⟨hlt, hnext.symm⟩, mu1 hlt, Wk.le (St.le.of ⟨rfl, rfl, rfl, rfl, rfl, rfl, congrArg _ (succ64 (by omega)), rfl, trivial⟩ ⟨rfl, (by decide : (0 : Nat) < 2), rfl, rfl, (by decide : (1 : Nat) < 2), flI_ok _ _, trivial⟩) (hl.mono (Nat.zero_le _))⟩
      · rw [hw] at sW
        rw [hw, ← hxs] at hnext
        simp only [if_true] at hnext
        cases xs with
        | nil =>
          exact ACode.vc (.br 11 true <| .cells (encCp c) <| .call (.bool true) .nil) hn hl (.roundW .cl)
            ⟨ltLen hlt, idx hc, sW, (k + 1, [k]), ⟨hlt, hnext.symm⟩, mu1 hlt,
              Wk.ren (c := 1) (b := 2) (St.ren.of rfl (by decide) ⟨.inl ⟨rfl, rfl⟩, .inl ⟨rfl, rfl⟩, .inr ⟨0, 1, 1, rfl, rfl⟩, .inl ⟨congrArg _ (succ64 (by omega)), rfl⟩, trivial⟩ ⟨.inl ⟨(by decide : (0 : Nat) < 1), rfl, rfl⟩, .inr ⟨rfl, rfl, _, rfl, flI_ok 1 [k]⟩, trivial⟩) (hl.mono (Nat.zero_le _))⟩
        | cons s t =>
          have hap := app_I (h := hget [(0, .cells (runL r)), (1, .cells (flI (s :: t))), (2, .cells [.int .i64 (k : Int)])]) (i := 1) (j := 2) (id := 3) (l := s :: t) (s := k) rfl rfl (by omega)
          have efl : some (AObj.cells (flI (s :: t) ++ [.int .i64 (k : Int)])) = some (.cells (flI (s :: (t ++ [k])))) := congrArg (fun z => some (AObj.cells z)) (flI_append (s :: t) k)
          have elen : AV.rsl 1 0 (s :: (t ++ [k])).length 1 = AV.rsl 1 0 ((s :: t).length + 1) 1 := by simp
          exact ACode.vc (.br 11 true <| .cells (encCp c) <| .call (.bool true) <| .val 24 (.rsl 3 0 ((s :: t).length + 1) 1) [(1, none), (3, some (.cells (flI (s :: t) ++ [.int .i64 (k : Int)])))] .nil) hn hl (.roundW .cl)
            ⟨ltLen hlt, idx hc, sW, Eq.trans (by kernel_rfl) hap, (k + 1, s :: (t ++ [k])), ⟨hlt, hnext.symm⟩, mu1 hlt,
              Wk.ren (c := 1) (b := 3) (St.ren.of rfl (by decide) ⟨.inl ⟨rfl, rfl⟩, .inl ⟨rfl, rfl⟩, .inr ⟨0, (s :: t).length + 1, 1, elen, rfl⟩, .inl ⟨congrArg _ (succ64 (by omega)), rfl⟩, trivial⟩ ⟨.inl ⟨(by decide : (0 : Nat) < 1), rfl, rfl⟩, .inr ⟨rfl, Eq.trans (by kernel_rfl) efl, _, rfl, flI_ok 1 _⟩, trivial⟩) (hl.mono (Nat.zero_le _))⟩
    · have hk' : k = r.cps.length := by omega
      have hwl : xs = wl r m := by rw [hxs, hk']; rfl
      rw [← hwl]
      cases xs with
      | nil => exact ACode.vc (.br 11 false .nil) hn hl (.roundW .cl) ⟨geLen hlt, _, .refl _, .nil, [], rfl⟩
      | cons s t => exact ACode.vc (.br 11 false .nil) hn hl (.roundW .cl) ⟨geLen hlt, _, .refl _, .nil, [1], thaw_I (h := hget [(0, .cells (runL r)), (1, .cells (flI (s :: t)))]) rfl⟩
end Go.Proofs.Yticiopkiikcokaa
namespace Go.Proofs.Yticiopkiikcokaa
open Go Go.Am
theorem wlV_lst {l : List Nat} (h : 1 ≤ l.length) : wlV l = .lst 1 (l.map encN) := by
  cases l with
  | nil => simp at h
  | cons a t => rfl
set_option maxHeartbeats 16000000 in
set_option maxRecDepth 100000 in
theorem rmean_spec {r : Rn} (hr : RunOk r) {m : Int} (h1 : 1 ≤ m) (h2 : m ≤ r.rows.length) (hb : 1 ≤ (wl r m).length) : APure Try.prog 55 [encRn r, .int .i64 m] (.agg [.int .i64 (mLo r m), .int .i64 (mHi r m)]) := by
  have hcl := hr.cl
  have sW := Working_spec hr m
  rw [wlV_lst hb] at sW
  have hlen : (wl r m).length ≤ 8 := by have := List.length_filter_le (wkAt r m) (List.range r.cps.length); rw [List.length_range] at this; unfold wl; omega
  have hrng := xs_rng hr h1 h2
  obtain ⟨L, hL⟩ : ∃ L, L = (wl r m).map (spanAt r m) := ⟨_, rfl⟩
  rw [← hL] at hrng
  have hLl : L.length = (wl r m).length := by rw [hL, List.length_map]
  have b1 := sumTo_le (f := Sn.lo) (l := L) fun s hs => by have := hrng s hs; omega
  have b2 := sumTo_le (f := Sn.hi) (l := L) fun s hs => by have := hrng s hs; omega
  have hat : ∀ (p i : Nat), (wl r m)[p]? = some i → (∃ c, r.cps[i]? = some c ∧ wks c m = true) ∧ L[p]? = some (spanAt r m i) := fun p i h => by
    obtain ⟨hi1, hi2⟩ := List.mem_filter.1 (List.mem_of_getElem? h)
    obtain ⟨c, hc⟩ := getE (List.mem_range.1 hi1)
    exact ⟨⟨c, hc, by rw [← wkAt_some hc]; exact hi2⟩, by rw [hL, List.getElem?_map, h]; rfl⟩
  have r1 := sum_rng (l := L) Sn.lo fun s hs => (hrng s hs).1
  have r2 := sum_rng (l := L) Sn.hi fun s hs => (hrng s hs).2
  have hq := tdiv840 (n := ((wl r m).length : Int)) (by omega)
  have q1 : IntKind.i64.wrap ((840 : Int).tdiv ((wl r m).length : Int)) = (840 : Int).tdiv ((wl r m).length : Int) := wrap64 (by omega) (by omega)
  have p1 := mul_rng (a := (L.map Sn.lo).sum) (by omega) (by omega) hq.1 hq.2
  have p2 := mul_rng (a := (L.map Sn.hi).sum) (by omega) (by omega) hq.1 hq.2
  have hN : (((wl r m).map encN).length : Int) = ((wl r m).length : Int) := by rw [List.length_map]
  have t1 : sumTo Sn.lo L (wl r m).length = (L.map Sn.lo).sum := by unfold sumTo; rw [← hLl, List.take_length]
  have t2 : sumTo Sn.hi L (wl r m).length = (L.map Sn.hi).sum := by unfold sumTo; rw [← hLl, List.take_length]
  have e1 : IntKind.i64.wrap (sumTo Sn.lo L (wl r m).length * IntKind.i64.wrap ((840 : Int).tdiv (((wl r m).map encN).length : Int))) = mLo r m := by
    rw [hN, q1, t1, wrap64 (by omega) (by omega), mLo, ← hL]
  have e2 : IntKind.i64.wrap (sumTo Sn.hi L (wl r m).length * IntKind.i64.wrap ((840 : Int).tdiv (((wl r m).map encN).length : Int))) = mHi r m := by
    rw [hN, q1, t2, wrap64 (by omega) (by omega), mHi, ← hL]
  have eF : some (AV.agg [.int .i64 (IntKind.i64.wrap (sumTo Sn.lo L (wl r m).length * IntKind.i64.wrap ((840 : Int).tdiv (((wl r m).map encN).length : Int)))), .int .i64 (IntKind.i64.wrap (sumTo Sn.hi L (wl r m).length * IntKind.i64.wrap ((840 : Int).tdiv (((wl r m).map encN).length : Int))))]) = some (.agg [.int .i64 (mLo r m), .int .i64 (mHi r m)]) := by rw [e1, e2]
  have hnz : (((wl r m).map encN).length : Int) ≠ 0 := by rw [hN]; omega
  clear e1 e2 t1 t2 p1 p2 q1
  refine APure.vc Try.func55 rfl (.call (.lst 1 ((wl r m).map encN)) .loop) rfl rfl ⟨sW, ?_⟩
  intro g hn hl
  replace hn : g.n = 45 := hn
  replace hl : g.low 0 := hl
  refine acode_while (fun p : Nat => ⟨[(1, .int .i64 m), (2, .vptr 0 0), (4, .vptr 1 0), (5, .lst 1 ((wl r m).map encN)), (6, .int .i64 (sumTo Sn.lo L p)), (7, .int .i64 (sumTo Sn.hi L p)), (8, .int .i64 p)], [(0, .cells (runL r)), (1, .cells [.int .i64 0, .int .i64 0])], 2⟩)
    (fun p => p ≤ (wl r m).length) (fun p => (wl r m).length - p) 0 (Nat.zero_le _) ?_ (fun _ _ => hl.mono (Nat.zero_le _)) ?_
  · exact St.le.of ⟨rfl, rfl, rfl, rfl, rfl, rfl, rfl, rfl, rfl, rfl, rfl, rfl, rfl, rfl, trivial⟩ ⟨rfl, (by decide : (0 : Nat) < 2), rfl, rfl, (by decide : (1 : Nat) < 2), rfl, trivial⟩
  · intro p hp
    by_cases hlt : p < (wl r m).length
    · refine Exists.elim (getE hlt) fun i hi => ?_
      have ha := hat p i hi
      refine Exists.elim ha.1 fun c hc => ?_
      have sT := True_spec hr h1 h2 hc.1 hc.2
      have u1 := sumTo_succ (f := Sn.lo) ha.2
      have u2 := sumTo_succ (f := Sn.hi) ha.2
      have v1 := b1 (p + 1) (by omega)
      have v2 := b2 (p + 1) (by omega)
      have w1 : AV.int .i64 (IntKind.i64.wrap (sumTo Sn.lo L p + tLo r m i)) = .int .i64 (sumTo Sn.lo L (p + 1)) := by
        have : sumTo Sn.lo L p + tLo r m i = sumTo Sn.lo L (p + 1) := u1.symm
        rw [this, wrap64 (by omega) (by omega)]
      have w2 : AV.int .i64 (IntKind.i64.wrap (sumTo Sn.hi L p + tHi r m i)) = .int .i64 (sumTo Sn.hi L (p + 1)) := by
        have : sumTo Sn.hi L p + tHi r m i = sumTo Sn.hi L (p + 1) := u2.symm
        rw [this, wrap64 (by omega) (by omega)]
      exact ACode.vc (.br 16 true <| .draw 8 <| .cells (encN i) <| .call (.agg [.int .i64 (tLo r m i), .int .i64 (tHi r m i)]) .nil) hn hl (.round .cl) ⟨ltLen hlt, by kernel_rfl, mixed, by kernel_rfl, idx hi, sT, by kernel_rfl, p + 1, hlt, mu1 hlt,
        St.le.of ⟨rfl, rfl, rfl, rfl, rfl, rfl, rfl, rfl, Eq.trans (by kernel_rfl) w1, rfl, Eq.trans (by kernel_rfl) w2, rfl, Eq.trans (by kernel_rfl) (congrArg (AV.int .i64) (succ64 (by omega))), rfl, trivial⟩ ⟨rfl, (by decide : (0 : Nat) < 2), rfl, rfl, (by decide : (1 : Nat) < 2), rfl, trivial⟩⟩
    · have hp' : p = (wl r m).length := by omega
      subst hp'
      exact ACode.vc (.br 16 false .nil) hn hl (.round .cl) ⟨geLen hlt, _, .refl _, .draw 10 <| .nz <| .nz .nil, by kernel_rfl, mixed, by kernel_rfl, hnz, hnz, by kernel_rfl, trivial, Eq.trans (by kernel_rfl) eF⟩
/-- What Mean answers. -/
def meanV (r : Rn) (m : Int) : AV :=
  if runB r = true then (if within m 1 r.rows.length = true then (if blindB r m = true then .tup [.agg [.int .i64 0, .int .i64 0], .int .i64 2] else .tup [.agg [.int .i64 (mLo r m), .int .i64 (mHi r m)], .int .i64 0]) else .tup [.agg [.int .i64 0, .int .i64 0], .int .i64 2]) else .tup [.agg [.int .i64 0, .int .i64 0], .int .i64 11]
set_option maxHeartbeats 16000000 in
set_option maxRecDepth 100000 in
theorem Mean_spec (r : Rn) (m : Int) : APure Try.prog 18 [encRn r, .int .i64 m] (meanV r m) := by
  have s1 := isRun_spec r
  have s2 : APure Try.prog 45 [.int .i64 m, .int .i64 1, .int .i64 ((r.rows.map encRw).length : Int)] (.bool (within m 1 r.rows.length)) := by
    rw [List.length_map]; exact within_spec _ _ _
  unfold meanV
  split
  · rename_i hv
    rw [hv] at s1
    split
    · rename_i hw
      have hw' := within_iff.1 hw
      obtain ⟨k, hk⟩ : ∃ k : Nat, m = (k : Int) := ⟨m.toNat, by omega⟩
      subst hk
      split
      · rename_i hb; exact Mean_blind hv (by omega) (by omega) hb
      · rename_i hb; exact Mean_ok hv (by omega) (by omega) (by simpa using hb)
    · rename_i hw
      have hw' : within m 1 r.rows.length = false := by simpa using hw
      rw [hw'] at s2
      exact APure.vc Try.func18 rfl (.call (.bool true) <| .call (.bool false) .nil) rfl rfl ⟨s1, s2, trivial, by kernel_rfl⟩
  · rename_i hv
    have hv' : runB r = false := by simpa using hv
    rw [hv'] at s1
    exact APure.vc Try.func18 rfl (.call (.bool false) .nil) rfl rfl ⟨s1, trivial, by kernel_rfl⟩
set_option maxHeartbeats 16000000 in
set_option maxRecDepth 100000 in
theorem rMean_spec (r : Rn) (m : Int) : APure Try.prog 19 [encRn r, .int .i64 m] (meanV r m) := by
  have s1 := rRun_spec r
  have s2 : APure Try.prog 48 [.int .i64 m, .int .i64 1, .int .i64 ((r.rows.map encRw).length : Int)] (.bool (within m 1 r.rows.length)) := by
    rw [List.length_map]; exact rwithin_spec _ _ _
  unfold meanV
  split
  · rename_i hv
    rw [hv] at s1
    have hr := runB_out hv
    split
    · rename_i hw
      rw [hw] at s2
      have hw' := within_iff.1 hw
      have s3 := Working_spec hr m
      split
      · rename_i hb
        have hl0 : wl r m = [] := by
          unfold blindB at hb
          rw [wl_len] at hb
          cases hl : wl r m with
          | nil => rfl
          | cons a l => rw [hl] at hb; simp at hb; omega
        rw [hl0] at s3
        exact APure.vc Try.func19 rfl (.call (.bool true) <| .call (.bool true) <| .call .nil <| .br 22 true .nil) rfl rfl ⟨s1, s2, s3, rfl, trivial, by kernel_rfl⟩
      · rename_i hb
        have hb' : blindB r m = false := by simpa using hb
        have hl := blind_len hb'
        rw [wlV_lst hl] at s3
        have hne : ((((wl r m).map encN).length : Int) == 0) = false := by rw [List.length_map, beq_eq_false_iff_ne]; omega
        have s4 := rmean_spec hr hw'.1 hw'.2 hl
        exact APure.vc Try.func19 rfl (.call (.bool true) <| .call (.bool true) <| .call (.lst 1 ((wl r m).map encN)) <| .br 22 false <| .call (.agg [.int .i64 (mLo r m), .int .i64 (mHi r m)]) .nil) rfl rfl ⟨s1, s2, s3, hne, s4, trivial, by kernel_rfl⟩
    · rename_i hw
      have hw' : within m 1 r.rows.length = false := by simpa using hw
      rw [hw'] at s2
      exact APure.vc Try.func19 rfl (.call (.bool true) <| .call (.bool false) .nil) rfl rfl ⟨s1, s2, trivial, by kernel_rfl⟩
  · rename_i hv
    have hv' : runB r = false := by simpa using hv
    rw [hv'] at s1
    exact APure.vc Try.func19 rfl (.call (.bool false) .nil) rfl rfl ⟨s1, trivial, by kernel_rfl⟩
end Go.Proofs.Yticiopkiikcokaa
namespace Go.Proofs.Yticiopkiikcokaa
open Go Go.Am
set_option maxHeartbeats 16000000 in
set_option maxRecDepth 100000 in
theorem Degree_spec {l : List Pt} (hc : curveB l = true) {p : Pt} (hp : l[l.length - 1]? = some p) {m : Int} (h0 : 0 ≤ m) (h1 : m ≤ p.m) : APure Try.prog 49 [.lst 2 (l.map encPt), .int .i64 m] (.int .i64 (deg l m)) := by
  obtain ⟨hlen, ⟨p0, hp0, hp0m⟩, hpt, hst⟩ := curveB_out hc
  have hpr := hpt _ _ hp
  refine APure.vc Try.func49 rfl .loop rfl rfl ?_
  intro g hn hl
  replace hn : g.n = 53 := hn
  replace hl : g.low 0 := hl
  refine acode_while (fun k : Nat => ⟨[(0, .lst 2 (l.map encPt)), (1, .int .i64 m), (5, .int .i64 ((k + 1 : Nat) : Int))], [], 0⟩) (fun k => k + 1 ≤ l.length ∧ ∀ a, l[k]? = some a → a.m ≤ m) (fun k => l.length - k) 0 ⟨by omega, fun a ha => by rw [hp0] at ha; cases ha; omega⟩ ?_ (fun _ _ => hl) ?_
  · exact St.le.of ⟨rfl, rfl, rfl, rfl, rfl, rfl, trivial⟩ trivial
  · rintro k ⟨hk1, hk2⟩
    refine Exists.elim (getE (show k < l.length by omega)) fun a ha => ?_
    have ham := hk2 a ha
    by_cases hlt : k + 1 < l.length
    · refine Exists.elim (getE hlt) fun b hb => ?_
      have hs := hst _ _ _ ha hb
      have hw := wrapDeg (hpt _ _ ha) (hpt _ _ hb) hs (m := m) ham (by omega)
      refine ACode.vc (.br 11 true <| .draw 12 <| .cells (encPt a) <| .cells (encPt b) <| .both 26 (.draw 18 <| .nz .nil) .nil) hn hl (.round .cl)
        ⟨ltLen hlt, by kernel_rfl, mixed, by kernel_rfl, idxW (pred64 (by omega)) ha, idx hb, by kernel_rfl, fun h => ⟨by kernel_rfl, mixed, by kernel_rfl, (?_ : IntKind.i64.wrap (b.m - a.m) ≠ 0), by kernel_rfl, _, .refl _, .nil, rI ?_⟩,
          fun h => ⟨k + 1, ⟨hlt, ?_⟩, mu1 (by omega), St.le.of ⟨rfl, rfl, rfl, rfl, congrArg _ (succ64 (by omega)), rfl, trivial⟩ trivial⟩⟩
      · rw [hw.1]; omega
      · have hmb := of_decide_eq_true h
        rw [deg_where hc h0 ha hb ham (fun _ => hmb)]
        exact hw.2
      · have hmb := of_decide_eq_false h
        intro a' ha'
        rw [hb] at ha'
        cases ha'
        omega
    · have hk : k = l.length - 1 := by omega
      have hap : a = p := by rw [hk, hp] at ha; exact (Option.some.inj ha).symm
      have hpi : IntKind.i64.wrap (((l.map encPt).length : Int) - 1) = ((l.length - 1 : Nat) : Int) := by
        rw [List.length_map, wrap64 (by omega) (by omega)]; omega
      have he : m = p.m := by rw [hap] at ham; omega
      refine ACode.vc (.br 11 false .nil) hn hl (.round .cl) ⟨geLen hlt, _, .refl _, .cells (encPt p) .nil, idxW hpi hp, rI ?_⟩
      rw [he, deg_at hc hp]
def atV (l : List Pt) (m : Int) : AV :=
  if curveB l = true then (if within m 0 (lastM l) = true then .tup [.int .i64 (deg l m), .int .i64 0] else .tup [.int .i64 0, .int .i64 2]) else .tup [.int .i64 0, .int .i64 10]
theorem At_spec (l : List Pt) (m : Int) : APure Try.prog 16 [.lst 2 (l.map encPt), .int .i64 m] (atV l m) := by
  unfold atV
  split
  · rename_i hc
    obtain ⟨hlen, _⟩ := curveB_out hc
    obtain ⟨p, hp⟩ := getE (show l.length - 1 < l.length by omega)
    rw [lastM_some hp]
    split
    · rename_i hw; have := within_iff.1 hw; exact at_ok hc hp this.1 this.2
    · rename_i hw; exact at_arg hc hp (by simpa using hw)
  · rename_i hc; exact at_curve (by simpa using hc) m
set_option maxHeartbeats 16000000 in
set_option maxRecDepth 100000 in
theorem rAt_spec (l : List Pt) (m : Int) : APure Try.prog 17 [.lst 2 (l.map encPt), .int .i64 m] (atV l m) := by
  have s1 := rCurve_spec l
  unfold atV
  split
  · rename_i hc
    rw [hc] at s1
    obtain ⟨hlen, _⟩ := curveB_out hc
    obtain ⟨p, hp⟩ := getE (show l.length - 1 < l.length by omega)
    have hpi : IntKind.i64.wrap (((l.map encPt).length : Int) - 1) = ((l.length - 1 : Nat) : Int) := by
      rw [List.length_map, wrap64 (by omega) (by omega)]; omega
    have s2 := rwithin_spec m 0 p.m
    rw [lastM_some hp]
    split
    · rename_i hw
      rw [hw] at s2
      have := within_iff.1 hw
      exact APure.vc Try.func17 rfl (.call (.bool true) <| .cells (encPt p) <| .call (.bool true) <| .call (.int .i64 (deg l m)) .nil) rfl rfl ⟨s1, idxW hpi hp, s2, Degree_spec hc hp this.1 this.2, trivial, rfl⟩
    · rename_i hw
      have hw' : within m 0 p.m = false := by simpa using hw
      rw [hw'] at s2
      exact APure.vc Try.func17 rfl (.call (.bool true) <| .cells (encPt p) <| .call (.bool false) .nil) rfl rfl ⟨s1, idxW hpi hp, s2, trivial, rfl⟩
  · rename_i hc
    have hc' : curveB l = false := by simpa using hc
    rw [hc'] at s1
    exact APure.vc Try.func17 rfl (.call (.bool false) .nil) rfl rfl ⟨s1, trivial, rfl⟩
end Go.Proofs.Yticiopkiikcokaa
