import Derived.Test.YticiopkiikcokaaT37
namespace Go.Proofs.Yticiopkiikcokaa
open Go Go.Am
def mnK (f : Int → Int) (lo : Int) : Nat → Int
  | 0 => f lo
  | j + 1 => if f (lo + j) < mnK f lo j then f (lo + j) else mnK f lo j
def mxK (f : Int → Int) (lo : Int) : Nat → Int
  | 0 => f lo
  | j + 1 => if f (lo + j) > mxK f lo j then f (lo + j) else mxK f lo j
theorem mnK_rng {f : Int → Int} {lo a b : Int} {n : Nat} (hn : 1 ≤ n) (h : ∀ j : Nat, j < n → a ≤ f (lo + j) ∧ f (lo + j) ≤ b) : ∀ j, j ≤ n → (a ≤ mnK f lo j ∧ mnK f lo j ≤ b) ∧ (a ≤ mxK f lo j ∧ mxK f lo j ≤ b) := by
  intro j
  induction j with
  | zero => intro _; have := h 0 (by omega); simp only [mnK, mxK]; simp at this; exact ⟨this, this⟩
  | succ j ih =>
    intro hj
    have h1 := ih (by omega)
    have h2 := h j (by omega)
    simp only [mnK, mxK]
    constructor <;> split <;> omega
def tmpF (r : Rn) (c : Cp) (m : Int) (k : Nat) (lag : Int) : Int := rd r (rowIx m lag (lastOf r c)) k
def lagN (c : Cp) : Nat := (c.lHi - c.lLo + 1).toNat
def tLo (r : Rn) (m : Int) (k : Nat) : Int := match r.cps[k]? with
  | some c => mnK (tmpF r c m k) c.lLo (lagN c) - c.eHi
  | none => 0
def tHi (r : Rn) (m : Int) (k : Nat) : Int := match r.cps[k]? with
  | some c => mxK (tmpF r c m k) c.lLo (lagN c) - c.eLo
  | none => 0
theorem tLo_some {r : Rn} {m : Int} {k : Nat} {c : Cp} (h : r.cps[k]? = some c) : tLo r m k = mnK (tmpF r c m k) c.lLo (lagN c) - c.eHi := by unfold tLo; rw [h]
theorem tHi_some {r : Rn} {m : Int} {k : Nat} {c : Cp} (h : r.cps[k]? = some c) : tHi r m k = mxK (tmpF r c m k) c.lLo (lagN c) - c.eLo := by unfold tHi; rw [h]
theorem lastOf_rng {r : Rn} (hr : RunOk r) {c : Cp} {m : Int} (h1 : 1 ≤ m) (h2 : m ≤ r.rows.length) (hw : wks c m = true) : 1 ≤ lastOf r c ∧ lastOf r c ≤ r.rows.length ∧ m ≤ lastOf r c := by
  have := hr.rl
  simp only [wks, Bool.not_eq_true', Bool.and_eq_false_iff, decide_eq_false_iff_not] at hw
  unfold lastOf
  split
  · split <;> omega
  · omega
theorem tmpF_rng {r : Rn} (hr : RunOk r) {c : Cp} {m : Int} {k : Nat} (h1 : 1 ≤ m) (h2 : m ≤ r.rows.length) (hc : r.cps[k]? = some c) (hw : wks c m = true) {lag : Int} (hl : 0 ≤ lag) : 0 ≤ tmpF r c m k lag ∧ tmpF r c m k lag ≤ 2000 := by
  obtain ⟨a1, a2, _⟩ := lastOf_rng hr h1 h2 hw
  obtain ⟨hk, _⟩ := List.getElem?_eq_some_iff.1 hc
  obtain ⟨q, d, _, _, e, e2⟩ := rd_get hr (rowIx_lt (lag := lag) h1 hl a1 a2).1 hk
  unfold tmpF; rw [e]; exact e2
theorem lagN_eq {r : Rn} (hr : RunOk r) {k : Nat} {c : Cp} (hc : r.cps[k]? = some c) : 1 ≤ lagN c ∧ lagN c ≤ 4 ∧ ((lagN c : Nat) : Int) = c.lHi - c.lLo + 1 := by
  have := (hr.cp k c hc).2.2.1
  unfold lagN; omega
theorem mm_rng {r : Rn} (hr : RunOk r) {c : Cp} {m : Int} {k : Nat} (h1 : 1 ≤ m) (h2 : m ≤ r.rows.length) (hc : r.cps[k]? = some c) (hw : wks c m = true) : ∀ j, j ≤ lagN c → (0 ≤ mnK (tmpF r c m k) c.lLo j ∧ mnK (tmpF r c m k) c.lLo j ≤ 2000) ∧ (0 ≤ mxK (tmpF r c m k) c.lLo j ∧ mxK (tmpF r c m k) c.lLo j ≤ 2000) :=
  mnK_rng (lagN_eq hr hc).1 fun j _ => tmpF_rng hr h1 h2 hc hw (by have := (hr.cp k c hc).2.2.1; omega)
theorem t_rng {r : Rn} (hr : RunOk r) {c : Cp} {m : Int} {k : Nat} (h1 : 1 ≤ m) (h2 : m ≤ r.rows.length) (hc : r.cps[k]? = some c) (hw : wks c m = true) : (-50 ≤ tLo r m k ∧ tLo r m k ≤ 2050) ∧ (-50 ≤ tHi r m k ∧ tHi r m k ≤ 2050) := by
  have := mm_rng hr h1 h2 hc hw (lagN c) (Nat.le_refl _)
  have h3 := (hr.cp k c hc).2.1
  rw [tLo_some hc, tHi_some hc]; omega
set_option maxHeartbeats 16000000 in
set_option maxRecDepth 100000 in
theorem temperature_spec {r : Rn} (hr : RunOk r) (rest : List AV) {m : Int} {k : Nat} {c : Cp} (h1 : 1 ≤ m) (h2 : m ≤ r.rows.length) (hc : r.cps[k]? = some c) (hw : wks c m = true) :
    APure Try.prog 89 [.cptr (runL r ++ rest), .int .i64 m, .int .i64 k] (.agg [.int .i64 (tLo r m k), .int .i64 (tHi r m k)]) := by
  have hrl := hr.rl
  have hcl := hr.cl
  obtain ⟨hk, _⟩ := List.getElem?_eq_some_iff.1 hc
  have hcp := hr.cp k c hc
  obtain ⟨a1, a2, _⟩ := lastOf_rng hr h1 h2 hw
  obtain ⟨n1, n2, n3⟩ := lagN_eq hr hc
  have hmm := mm_rng hr h1 h2 hc hw
  have hL1 : c.brk > 0 → (if IntKind.i64.wrap (c.brk - 1) < ((r.rows.map encRw).length : Int) then IntKind.i64.wrap (c.brk - 1) else ((r.rows.map encRw).length : Int)) = lastOf r c := fun h => by
    rw [wrap64 (by omega) (by omega), List.length_map]; unfold lastOf; rw [if_pos h]
  have hL2 : ¬ c.brk > 0 → ((r.rows.map encRw).length : Int) = lastOf r c := fun h => by
    rw [List.length_map]; unfold lastOf; rw [if_neg h]
  have s : ∀ {lag L : Int}, L = lastOf r c → 0 ≤ lag → lag ≤ 1000 → APure Try.prog 103 [.int .i64 lag, .cptr [.cptr (runL r ++ rest)], .cptr [.int .i64 m], .cptr [.int .i64 L], .cptr [.int .i64 k]] (.int .i64 (tmpF r c m k lag)) := fun hL h3 h4 => by
    rw [hL]; exact later_spec hr rest h1 (by omega) h3 h4 a1 a2 hk
  have sE := lessError_spec (a := mnK (tmpF r c m k) c.lLo (lagN c)) (b := mxK (tmpF r c m k) c.lLo (lagN c)) (lo := c.eLo) (hi := c.eHi) (by have := hmm (lagN c) (Nat.le_refl _); omega) (by have := hmm (lagN c) (Nat.le_refl _); omega) (by omega) (by omega)
  rw [← tLo_some hc, ← tHi_some hc] at sE
  by_cases hb : c.brk > 0
  · refine APure.vc Try.func89 rfl (.draw 9 <| .cells (encCp c) <| .br 29 true <| .draw 9 <| .lent (.int .i64 (tmpF r c m k c.lLo)) [0, 1, 15, 2] <| .lent (.int .i64 (tmpF r c m k c.lLo)) [0, 1, 15, 2] .loop) rfl rfl
      ⟨by kernel_rfl, mixed, by kernel_rfl, idx hc, by kernel_rfl, decide_eq_true hb, by kernel_rfl, mixed, by kernel_rfl,
        ⟨[.int .i64 c.lLo, .cptr [.cptr (runL r ++ rest)], .cptr [.int .i64 m], .cptr [.int .i64 (if IntKind.i64.wrap (c.brk - 1) < ((r.rows.map encRw).length : Int) then IntKind.i64.wrap (c.brk - 1) else ((r.rows.map encRw).length : Int))], .cptr [.int .i64 k]], by kernel_rfl, .inl ⟨s (hL1 hb) (by omega) (by omega), .inr rfl⟩⟩, by kernel_rfl,
        ⟨[.int .i64 c.lLo, .cptr [.cptr (runL r ++ rest)], .cptr [.int .i64 m], .cptr [.int .i64 (if IntKind.i64.wrap (c.brk - 1) < ((r.rows.map encRw).length : Int) then IntKind.i64.wrap (c.brk - 1) else ((r.rows.map encRw).length : Int))], .cptr [.int .i64 k]], by kernel_rfl, .inl ⟨s (hL1 hb) (by omega) (by omega), .inr rfl⟩⟩, ?_⟩
    have eL := congrArg (fun z => some (AObj.cells [.int .i64 z])) (hL1 hb)
    intro g hn hl
    refine acode_while (fun j : Nat => ⟨[(6, .vptr 3 0), (7, .vptr 12 0), (9, .fn (.func 103) [] [.vptr 0 0, .vptr 1 0, .vptr 15 0, .vptr 2 0]), (10, .int .i64 (mnK (tmpF r c m k) c.lLo j)), (11, .int .i64 (mxK (tmpF r c m k) c.lLo j)), (12, .int .i64 (c.lLo + j))],
        [(0, .cells [.cptr (runL r ++ rest)]), (1, .cells [.int .i64 m]), (2, .cells [.int .i64 k]), (3, .cells [.int .i64 0, .int .i64 0]), (12, .cells (encCp c)), (15, .cells [.int .i64 (lastOf r c)])], 16⟩)
      (fun j => j ≤ lagN c) (fun j => lagN c - j) 0 (Nat.zero_le _) ?_ (fun _ _ => hl.mono (Nat.zero_le _)) ?_
    · exact St.le.of ⟨rfl, rfl, rfl, rfl, rfl, rfl, rfl, rfl, rfl, rfl, (congrArg (AV.int .i64) (show c.lLo = c.lLo + ((0 : Nat) : Int) by omega)), rfl, trivial⟩
        ⟨rfl, (by decide : (0 : Nat) < 16), rfl, rfl, (by decide : (1 : Nat) < 16), rfl, rfl, (by decide : (2 : Nat) < 16), rfl, rfl, (by decide : (3 : Nat) < 16), rfl, rfl, (by decide : (12 : Nat) < 16), rfl, eL, (by decide : (15 : Nat) < 16), rfl, trivial⟩
    · intro j hj
      have e1 : IntKind.i64.wrap (c.lLo + (j : Int) + 1) = c.lLo + ((j + 1 : Nat) : Int) := by rw [wrap64 (by omega) (by omega)]; omega
      by_cases hlt : j < lagN c
      · exact ACode.vc (.br 53 true <| .lent (.int .i64 (tmpF r c m k (c.lLo + j))) [0, 1, 15, 2] <| .lent (.int .i64 (tmpF r c m k (c.lLo + j))) [0, 1, 15, 2] .nil) hn hl (.round .cl)
          ⟨decide_eq_true (show c.lLo + (j : Int) ≤ c.lHi by omega), ⟨[.int .i64 (c.lLo + j), .cptr [.cptr (runL r ++ rest)], .cptr [.int .i64 m], .cptr [.int .i64 (lastOf r c)], .cptr [.int .i64 k]], by kernel_rfl, .inl ⟨s rfl (by omega) (by omega), .inr rfl⟩⟩,
            ⟨[.int .i64 (c.lLo + j), .cptr [.cptr (runL r ++ rest)], .cptr [.int .i64 m], .cptr [.int .i64 (lastOf r c)], .cptr [.int .i64 k]], by kernel_rfl, .inl ⟨s rfl (by omega) (by omega), .inr rfl⟩⟩, j + 1, hlt, mu1 hlt,
            St.le.of ⟨rfl, rfl, rfl, rfl, rfl, rfl, rfl, rfl, rfl, rfl, congrArg _ e1, rfl, trivial⟩
              ⟨rfl, (by decide : (0 : Nat) < 16), rfl, rfl, (by decide : (1 : Nat) < 16), rfl, rfl, (by decide : (2 : Nat) < 16), rfl, rfl, (by decide : (3 : Nat) < 16), rfl, rfl, (by decide : (12 : Nat) < 16), rfl, rfl, (by decide : (15 : Nat) < 16), rfl, trivial⟩⟩
      · have hj' : j = lagN c := by omega
        subst hj'
        exact ACode.vc (.br 53 false .nil) hn hl (.round .cl) ⟨decide_eq_false (show ¬ c.lLo + ((lagN c : Nat) : Int) ≤ c.lHi by omega), _, .refl _, .call (.agg [.int .i64 (tLo r m k), .int .i64 (tHi r m k)]) .nil, sE, trivial, rfl⟩
  · refine APure.vc Try.func89 rfl (.draw 9 <| .cells (encCp c) <| .br 29 false <| .draw 9 <| .lent (.int .i64 (tmpF r c m k c.lLo)) [0, 1, 15, 2] <| .lent (.int .i64 (tmpF r c m k c.lLo)) [0, 1, 15, 2] .loop) rfl rfl
      ⟨by kernel_rfl, mixed, by kernel_rfl, idx hc, by kernel_rfl, decide_eq_false hb, by kernel_rfl, mixed, by kernel_rfl,
        ⟨[.int .i64 c.lLo, .cptr [.cptr (runL r ++ rest)], .cptr [.int .i64 m], .cptr [.int .i64 ((r.rows.map encRw).length : Int)], .cptr [.int .i64 k]], by kernel_rfl, .inl ⟨s (hL2 hb) (by omega) (by omega), .inr rfl⟩⟩, by kernel_rfl,
        ⟨[.int .i64 c.lLo, .cptr [.cptr (runL r ++ rest)], .cptr [.int .i64 m], .cptr [.int .i64 ((r.rows.map encRw).length : Int)], .cptr [.int .i64 k]], by kernel_rfl, .inl ⟨s (hL2 hb) (by omega) (by omega), .inr rfl⟩⟩, ?_⟩
    have eL := congrArg (fun z => some (AObj.cells [.int .i64 z])) (hL2 hb)
    intro g hn hl
    refine acode_while (fun j : Nat => ⟨[(6, .vptr 3 0), (7, .vptr 12 0), (9, .fn (.func 103) [] [.vptr 0 0, .vptr 1 0, .vptr 15 0, .vptr 2 0]), (10, .int .i64 (mnK (tmpF r c m k) c.lLo j)), (11, .int .i64 (mxK (tmpF r c m k) c.lLo j)), (12, .int .i64 (c.lLo + j))],
        [(0, .cells [.cptr (runL r ++ rest)]), (1, .cells [.int .i64 m]), (2, .cells [.int .i64 k]), (3, .cells [.int .i64 0, .int .i64 0]), (12, .cells (encCp c)), (15, .cells [.int .i64 (lastOf r c)])], 16⟩)
      (fun j => j ≤ lagN c) (fun j => lagN c - j) 0 (Nat.zero_le _) ?_ (fun _ _ => hl.mono (Nat.zero_le _)) ?_
    · exact St.le.of ⟨rfl, rfl, rfl, rfl, rfl, rfl, rfl, rfl, rfl, rfl, (congrArg (AV.int .i64) (show c.lLo = c.lLo + ((0 : Nat) : Int) by omega)), rfl, trivial⟩
        ⟨rfl, (by decide : (0 : Nat) < 16), rfl, rfl, (by decide : (1 : Nat) < 16), rfl, rfl, (by decide : (2 : Nat) < 16), rfl, rfl, (by decide : (3 : Nat) < 16), rfl, rfl, (by decide : (12 : Nat) < 16), rfl, eL, (by decide : (15 : Nat) < 16), rfl, trivial⟩
    · intro j hj
      have e1 : IntKind.i64.wrap (c.lLo + (j : Int) + 1) = c.lLo + ((j + 1 : Nat) : Int) := by rw [wrap64 (by omega) (by omega)]; omega
      by_cases hlt : j < lagN c
      · exact ACode.vc (.br 53 true <| .lent (.int .i64 (tmpF r c m k (c.lLo + j))) [0, 1, 15, 2] <| .lent (.int .i64 (tmpF r c m k (c.lLo + j))) [0, 1, 15, 2] .nil) hn hl (.round .cl)
          ⟨decide_eq_true (show c.lLo + (j : Int) ≤ c.lHi by omega), ⟨[.int .i64 (c.lLo + j), .cptr [.cptr (runL r ++ rest)], .cptr [.int .i64 m], .cptr [.int .i64 (lastOf r c)], .cptr [.int .i64 k]], by kernel_rfl, .inl ⟨s rfl (by omega) (by omega), .inr rfl⟩⟩,
            ⟨[.int .i64 (c.lLo + j), .cptr [.cptr (runL r ++ rest)], .cptr [.int .i64 m], .cptr [.int .i64 (lastOf r c)], .cptr [.int .i64 k]], by kernel_rfl, .inl ⟨s rfl (by omega) (by omega), .inr rfl⟩⟩, j + 1, hlt, mu1 hlt,
            St.le.of ⟨rfl, rfl, rfl, rfl, rfl, rfl, rfl, rfl, rfl, rfl, congrArg _ e1, rfl, trivial⟩
              ⟨rfl, (by decide : (0 : Nat) < 16), rfl, rfl, (by decide : (1 : Nat) < 16), rfl, rfl, (by decide : (2 : Nat) < 16), rfl, rfl, (by decide : (3 : Nat) < 16), rfl, rfl, (by decide : (12 : Nat) < 16), rfl, rfl, (by decide : (15 : Nat) < 16), rfl, trivial⟩⟩
      · have hj' : j = lagN c := by omega
        subst hj'
        exact ACode.vc (.br 53 false .nil) hn hl (.round .cl) ⟨decide_eq_false (show ¬ c.lLo + ((lagN c : Nat) : Int) ≤ c.lHi by omega), _, .refl _, .call (.agg [.int .i64 (tLo r m k), .int .i64 (tHi r m k)]) .nil, sE, trivial, rfl⟩
end Go.Proofs.Yticiopkiikcokaa
