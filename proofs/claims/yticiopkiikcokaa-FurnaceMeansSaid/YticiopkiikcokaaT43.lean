import Derived.Test.YticiopkiikcokaaT42
namespace Go.Proofs.Yticiopkiikcokaa
open Go Go.Am
set_option maxHeartbeats 16000000 in
set_option maxRecDepth 100000 in
theorem shown_spec {r : Rn} (hr : RunOk r) {m : Int} {k : Nat} {c : Cp} (h1 : 1 ≤ m) (h2 : m ≤ r.rows.length) (hc : r.cps[k]? = some c) (hw : wks c m = true) :
    APure Try.prog 41 [encRn r, .int .i64 k, .int .i64 m] (.agg [.int .i64 (tLo r m k), .int .i64 (tHi r m k)]) := by
  have hrl := hr.rl
  have hcl := hr.cl
  obtain ⟨hk, _⟩ := List.getElem?_eq_some_iff.1 hc
  have hcp := hr.cp k c hc
  obtain ⟨a1, a2, _⟩ := lastOf_rng hr h1 h2 hw
  obtain ⟨n1, n2, n3⟩ := lagN_eq hr hc
  have hmm := mm_rng hr h1 h2 hc hw (lagN c) (Nat.le_refl _)
  have el : ((c.lLo.toNat : Nat) : Int) = c.lLo := by omega
  have hsh := (sh_mn (f := tmpF r c m k) (lo := c.lLo.toNat) fun j => tmpF_rng hr h1 h2 hc hw (Int.natCast_nonneg j)).2
  have eh : IntKind.i64.wrap (c.lHi + 1) = c.lHi + 1 := wrap64 (by omega) (by omega)
  have eb : IntKind.i64.wrap (c.brk - 1) = c.brk - 1 := wrap64 (by omega) (by omega)
  have elen : ((r.rows.map encRw).length : Int) = (r.rows.length : Int) := by rw [List.length_map]
  have p1 : c.brk > 0 → c.brk - 1 < r.rows.length → IntKind.i64.wrap (c.brk - 1) = lastOf r c := fun x y => by rw [eb]; unfold lastOf; rw [if_pos x, if_pos y]
  have p2 : c.brk > 0 → ¬ c.brk - 1 < r.rows.length → ((r.rows.map encRw).length : Int) = lastOf r c := fun x y => by rw [elen]; unfold lastOf; rw [if_pos x, if_neg y]
  have p3 : ¬ c.brk > 0 → ((r.rows.map encRw).length : Int) = lastOf r c := fun x => by rw [elen]; unfold lastOf; rw [if_neg x]
  by_cases hb : c.brk > 0
  · have d1 : decide (c.brk > 0) = true := decide_eq_true hb
    by_cases hb2 : c.brk - 1 < r.rows.length
    · have d2 : decide (IntKind.i64.wrap (c.brk - 1) < ((r.rows.map encRw).length : Int)) = true := by rw [eb, elen]; exact decide_eq_true hb2
      refine APure.vc Try.func41 rfl (.cells (encCp c) <| .br 24 true <| .br 30 true .loop) rfl rfl ⟨idx hc, d1, d2, ?_⟩
      have e8 := congrArg (AV.int .i64) (p1 hb hb2)
      intro g hn hl
      replace hn : g.n = 78 := hn
      replace hl : g.low 0 := hl
      refine acode_while (fun j : Nat => ⟨[(1, .int .i64 k), (2, .int .i64 m), (3, .vptr 0 0), (6, .vptr 1 0), (7, .vptr 2 0), (8, .int .i64 (lastOf r c)), (9, .int .i64 (shLo (tmpF r c m k) c.lLo.toNat j)), (10, .int .i64 (shHi (tmpF r c m k) c.lLo.toNat j)), (37, .int .i64 (c.lHi + 1)), (38, .int .i64 j)], [(0, .cells (runL r)), (1, .cells [.int .i64 0, .int .i64 0]), (2, .cells (encCp c))], 3⟩)
        (fun j => (j : Int) ≤ c.lHi + 1) (fun j => (c.lHi + 1).toNat - j) 0 (by simp; omega) ?_ (fun _ _ => hl.mono (Nat.zero_le _)) ?_
      · exact St.le.of ⟨rfl, rfl, rfl, rfl, rfl, rfl, rfl, rfl, rfl, rfl, Eq.trans (by kernel_rfl) e8, rfl, rfl, rfl, rfl, rfl, Eq.trans (by kernel_rfl) (congrArg (AV.int .i64) eh), rfl, rfl, rfl, trivial⟩ ⟨rfl, (by decide : (0 : Nat) < 3), rfl, rfl, (by decide : (1 : Nat) < 3), rfl, rfl, (by decide : (2 : Nat) < 3), rfl, trivial⟩
      · intro j hj
        have e1 : IntKind.i64.wrap ((j : Int) + 1) = ((j + 1 : Nat) : Int) := succ64 (by omega)
        by_cases hlt : (j : Int) < c.lHi + 1
        · by_cases hlo : (j : Int) < c.lLo
          · have q1 : shLo (tmpF r c m k) c.lLo.toNat j = shLo (tmpF r c m k) c.lLo.toNat (j + 1) := by
              show _ = (if j < c.lLo.toNat then _ else _)
              rw [if_pos (by omega)]
            have q2 : shHi (tmpF r c m k) c.lLo.toNat j = shHi (tmpF r c m k) c.lLo.toNat (j + 1) := by
              show _ = (if j < c.lLo.toNat then _ else _)
              rw [if_pos (by omega)]
            exact ACode.vc (.br 39 true <| .br 45 true .nil) hn hl (.round .cl) ⟨decide_eq_true hlt, decide_eq_true hlo, j + 1, (by omega : ((j + 1 : Nat) : Int) ≤ c.lHi + 1), (by show (c.lHi + 1).toNat - (j + 1) < (c.lHi + 1).toNat - j; omega),
              St.le.of ⟨rfl, rfl, rfl, rfl, rfl, rfl, rfl, rfl, rfl, rfl, rfl, rfl, congrArg _ q1, rfl, congrArg _ q2, rfl, rfl, rfl, congrArg _ e1, rfl, trivial⟩ ⟨rfl, (by decide : (0 : Nat) < 3), rfl, rfl, (by decide : (1 : Nat) < 3), rfl, rfl, (by decide : (2 : Nat) < 3), rfl, trivial⟩⟩
          · have hlag := rowIx_lt (lag := (j : Int)) h1 (Int.natCast_nonneg j) a1 a2
            have ei : IntKind.i64.wrap ((if lastOf r c < IntKind.i64.wrap (m + (j : Int)) then lastOf r c else IntKind.i64.wrap (m + (j : Int))) - 1) = ((rowIx m (j : Int) (lastOf r c) : Nat) : Int) := by
              rw [wrap64 (n := m + (j : Int)) (by omega) (by omega), hlag.2]
              exact wrap64 (by split <;> omega) (by split <;> omega)
            have hrd := rd_get hr hlag.1 hk
            refine Exists.elim hrd fun q hrd => Exists.elim hrd fun d hrd => ?_
            have q1 : (if d < shLo (tmpF r c m k) c.lLo.toNat j then d else shLo (tmpF r c m k) c.lLo.toNat j) = shLo (tmpF r c m k) c.lLo.toNat (j + 1) := by
              have u : shLo (tmpF r c m k) c.lLo.toNat (j + 1) = if j < c.lLo.toNat then shLo (tmpF r c m k) c.lLo.toNat j else (if tmpF r c m k j < shLo (tmpF r c m k) c.lLo.toNat j then tmpF r c m k j else shLo (tmpF r c m k) c.lLo.toNat j) := rfl
              have fd : tmpF r c m k (j : Int) = d := hrd.2.2.1
              rw [u, if_neg (show ¬ j < c.lLo.toNat by omega), fd]
            have q2 : (if d > shHi (tmpF r c m k) c.lLo.toNat j then d else shHi (tmpF r c m k) c.lLo.toNat j) = shHi (tmpF r c m k) c.lLo.toNat (j + 1) := by
              have u : shHi (tmpF r c m k) c.lLo.toNat (j + 1) = if j < c.lLo.toNat then shHi (tmpF r c m k) c.lLo.toNat j else (if tmpF r c m k j > shHi (tmpF r c m k) c.lLo.toNat j then tmpF r c m k j else shHi (tmpF r c m k) c.lLo.toNat j) := rfl
              have fd : tmpF r c m k (j : Int) = d := hrd.2.2.1
              rw [u, if_neg (show ¬ j < c.lLo.toNat by omega), fd]
            exact ACode.vc (.br 39 true <| .br 45 false <| .cells (encRw q) <| .cells (encD d) .nil) hn hl (.round .cl) ⟨decide_eq_true hlt, decide_eq_false hlo, idxW ei hrd.1, idx hrd.2.1, j + 1, (by omega : ((j + 1 : Nat) : Int) ≤ c.lHi + 1), (by show (c.lHi + 1).toNat - (j + 1) < (c.lHi + 1).toNat - j; omega),
              St.le.of ⟨rfl, rfl, rfl, rfl, rfl, rfl, rfl, rfl, rfl, rfl, rfl, rfl, congrArg _ q1, rfl, congrArg _ q2, rfl, rfl, rfl, congrArg _ e1, rfl, trivial⟩ ⟨rfl, (by decide : (0 : Nat) < 3), rfl, rfl, (by decide : (1 : Nat) < 3), rfl, rfl, (by decide : (2 : Nat) < 3), rfl, trivial⟩⟩
        · have hjn : j = c.lLo.toNat + (lagN c - 1) + 1 := by omega
          have v1 : shLo (tmpF r c m k) c.lLo.toNat j = mnK (tmpF r c m k) c.lLo (lagN c) := by
            rw [hjn, (hsh (lagN c - 1)).1, el]; congr 1; omega
          have v2 : shHi (tmpF r c m k) c.lLo.toNat j = mxK (tmpF r c m k) c.lLo (lagN c) := by
            rw [hjn, (hsh (lagN c - 1)).2, el]; congr 1; omega
          have sS := span_spec (IntKind.i64.wrap (shLo (tmpF r c m k) c.lLo.toNat j - c.eHi)) (IntKind.i64.wrap (shHi (tmpF r c m k) c.lLo.toNat j - c.eLo))
          have z1 : IntKind.i64.wrap (shLo (tmpF r c m k) c.lLo.toNat j - c.eHi) = tLo r m k := by rw [v1, wrap64 (by omega) (by omega), tLo_some hc]
          have z2 : IntKind.i64.wrap (shHi (tmpF r c m k) c.lLo.toNat j - c.eLo) = tHi r m k := by rw [v2, wrap64 (by omega) (by omega), tHi_some hc]
          have eF : some (AV.agg [.int .i64 (IntKind.i64.wrap (shLo (tmpF r c m k) c.lLo.toNat j - c.eHi)), .int .i64 (IntKind.i64.wrap (shHi (tmpF r c m k) c.lLo.toNat j - c.eLo))]) = some (.agg [.int .i64 (tLo r m k), .int .i64 (tHi r m k)]) := by rw [z1, z2]
          exact ACode.vc (.br 39 false .nil) hn hl (.round .cl) ⟨decide_eq_false hlt, _, .refl _, .call (.agg [.int .i64 (IntKind.i64.wrap (shLo (tmpF r c m k) c.lLo.toNat j - c.eHi)), .int .i64 (IntKind.i64.wrap (shHi (tmpF r c m k) c.lLo.toNat j - c.eLo))]) .nil, sS, trivial, Eq.trans (by kernel_rfl) eF⟩
    · have d2 : decide (IntKind.i64.wrap (c.brk - 1) < ((r.rows.map encRw).length : Int)) = false := by rw [eb, elen]; exact decide_eq_false hb2
      refine APure.vc Try.func41 rfl (.cells (encCp c) <| .br 24 true <| .br 30 false .loop) rfl rfl ⟨idx hc, d1, d2, ?_⟩
      have e8 := congrArg (AV.int .i64) (p2 hb hb2)
      intro g hn hl
      replace hn : g.n = 78 := hn
      replace hl : g.low 0 := hl
      refine acode_while (fun j : Nat => ⟨[(1, .int .i64 k), (2, .int .i64 m), (3, .vptr 0 0), (6, .vptr 1 0), (7, .vptr 2 0), (8, .int .i64 (lastOf r c)), (9, .int .i64 (shLo (tmpF r c m k) c.lLo.toNat j)), (10, .int .i64 (shHi (tmpF r c m k) c.lLo.toNat j)), (37, .int .i64 (c.lHi + 1)), (38, .int .i64 j)], [(0, .cells (runL r)), (1, .cells [.int .i64 0, .int .i64 0]), (2, .cells (encCp c))], 3⟩)
        (fun j => (j : Int) ≤ c.lHi + 1) (fun j => (c.lHi + 1).toNat - j) 0 (by simp; omega) ?_ (fun _ _ => hl.mono (Nat.zero_le _)) ?_
      · exact St.le.of ⟨rfl, rfl, rfl, rfl, rfl, rfl, rfl, rfl, rfl, rfl, Eq.trans (by kernel_rfl) e8, rfl, rfl, rfl, rfl, rfl, Eq.trans (by kernel_rfl) (congrArg (AV.int .i64) eh), rfl, rfl, rfl, trivial⟩ ⟨rfl, (by decide : (0 : Nat) < 3), rfl, rfl, (by decide : (1 : Nat) < 3), rfl, rfl, (by decide : (2 : Nat) < 3), rfl, trivial⟩
      · intro j hj
        have e1 : IntKind.i64.wrap ((j : Int) + 1) = ((j + 1 : Nat) : Int) := succ64 (by omega)
        by_cases hlt : (j : Int) < c.lHi + 1
        · by_cases hlo : (j : Int) < c.lLo
          · have q1 : shLo (tmpF r c m k) c.lLo.toNat j = shLo (tmpF r c m k) c.lLo.toNat (j + 1) := by
              show _ = (if j < c.lLo.toNat then _ else _)
              rw [if_pos (by omega)]
            have q2 : shHi (tmpF r c m k) c.lLo.toNat j = shHi (tmpF r c m k) c.lLo.toNat (j + 1) := by
              show _ = (if j < c.lLo.toNat then _ else _)
              rw [if_pos (by omega)]
            exact ACode.vc (.br 39 true <| .br 45 true .nil) hn hl (.round .cl) ⟨decide_eq_true hlt, decide_eq_true hlo, j + 1, (by omega : ((j + 1 : Nat) : Int) ≤ c.lHi + 1), (by show (c.lHi + 1).toNat - (j + 1) < (c.lHi + 1).toNat - j; omega),
              St.le.of ⟨rfl, rfl, rfl, rfl, rfl, rfl, rfl, rfl, rfl, rfl, rfl, rfl, congrArg _ q1, rfl, congrArg _ q2, rfl, rfl, rfl, congrArg _ e1, rfl, trivial⟩ ⟨rfl, (by decide : (0 : Nat) < 3), rfl, rfl, (by decide : (1 : Nat) < 3), rfl, rfl, (by decide : (2 : Nat) < 3), rfl, trivial⟩⟩
          · have hlag := rowIx_lt (lag := (j : Int)) h1 (Int.natCast_nonneg j) a1 a2
            have ei : IntKind.i64.wrap ((if lastOf r c < IntKind.i64.wrap (m + (j : Int)) then lastOf r c else IntKind.i64.wrap (m + (j : Int))) - 1) = ((rowIx m (j : Int) (lastOf r c) : Nat) : Int) := by
              rw [wrap64 (n := m + (j : Int)) (by omega) (by omega), hlag.2]
              exact wrap64 (by split <;> omega) (by split <;> omega)
            have hrd := rd_get hr hlag.1 hk
            refine Exists.elim hrd fun q hrd => Exists.elim hrd fun d hrd => ?_
            have q1 : (if d < shLo (tmpF r c m k) c.lLo.toNat j then d else shLo (tmpF r c m k) c.lLo.toNat j) = shLo (tmpF r c m k) c.lLo.toNat (j + 1) := by
              have u : shLo (tmpF r c m k) c.lLo.toNat (j + 1) = if j < c.lLo.toNat then shLo (tmpF r c m k) c.lLo.toNat j else (if tmpF r c m k j < shLo (tmpF r c m k) c.lLo.toNat j then tmpF r c m k j else shLo (tmpF r c m k) c.lLo.toNat j) := rfl
              have fd : tmpF r c m k (j : Int) = d := hrd.2.2.1
              rw [u, if_neg (show ¬ j < c.lLo.toNat by omega), fd]
            have q2 : (if d > shHi (tmpF r c m k) c.lLo.toNat j then d else shHi (tmpF r c m k) c.lLo.toNat j) = shHi (tmpF r c m k) c.lLo.toNat (j + 1) := by
              have u : shHi (tmpF r c m k) c.lLo.toNat (j + 1) = if j < c.lLo.toNat then shHi (tmpF r c m k) c.lLo.toNat j else (if tmpF r c m k j > shHi (tmpF r c m k) c.lLo.toNat j then tmpF r c m k j else shHi (tmpF r c m k) c.lLo.toNat j) := rfl
              have fd : tmpF r c m k (j : Int) = d := hrd.2.2.1
              rw [u, if_neg (show ¬ j < c.lLo.toNat by omega), fd]
            exact ACode.vc (.br 39 true <| .br 45 false <| .cells (encRw q) <| .cells (encD d) .nil) hn hl (.round .cl) ⟨decide_eq_true hlt, decide_eq_false hlo, idxW ei hrd.1, idx hrd.2.1, j + 1, (by omega : ((j + 1 : Nat) : Int) ≤ c.lHi + 1), (by show (c.lHi + 1).toNat - (j + 1) < (c.lHi + 1).toNat - j; omega),
              St.le.of ⟨rfl, rfl, rfl, rfl, rfl, rfl, rfl, rfl, rfl, rfl, rfl, rfl, congrArg _ q1, rfl, congrArg _ q2, rfl, rfl, rfl, congrArg _ e1, rfl, trivial⟩ ⟨rfl, (by decide : (0 : Nat) < 3), rfl, rfl, (by decide : (1 : Nat) < 3), rfl, rfl, (by decide : (2 : Nat) < 3), rfl, trivial⟩⟩
        · have hjn : j = c.lLo.toNat + (lagN c - 1) + 1 := by omega
          have v1 : shLo (tmpF r c m k) c.lLo.toNat j = mnK (tmpF r c m k) c.lLo (lagN c) := by
            rw [hjn, (hsh (lagN c - 1)).1, el]; congr 1; omega
          have v2 : shHi (tmpF r c m k) c.lLo.toNat j = mxK (tmpF r c m k) c.lLo (lagN c) := by
            rw [hjn, (hsh (lagN c - 1)).2, el]; congr 1; omega
          have sS := span_spec (IntKind.i64.wrap (shLo (tmpF r c m k) c.lLo.toNat j - c.eHi)) (IntKind.i64.wrap (shHi (tmpF r c m k) c.lLo.toNat j - c.eLo))
          have z1 : IntKind.i64.wrap (shLo (tmpF r c m k) c.lLo.toNat j - c.eHi) = tLo r m k := by rw [v1, wrap64 (by omega) (by omega), tLo_some hc]
          have z2 : IntKind.i64.wrap (shHi (tmpF r c m k) c.lLo.toNat j - c.eLo) = tHi r m k := by rw [v2, wrap64 (by omega) (by omega), tHi_some hc]
          have eF : some (AV.agg [.int .i64 (IntKind.i64.wrap (shLo (tmpF r c m k) c.lLo.toNat j - c.eHi)), .int .i64 (IntKind.i64.wrap (shHi (tmpF r c m k) c.lLo.toNat j - c.eLo))]) = some (.agg [.int .i64 (tLo r m k), .int .i64 (tHi r m k)]) := by rw [z1, z2]
          exact ACode.vc (.br 39 false .nil) hn hl (.round .cl) ⟨decide_eq_false hlt, _, .refl _, .call (.agg [.int .i64 (IntKind.i64.wrap (shLo (tmpF r c m k) c.lLo.toNat j - c.eHi)), .int .i64 (IntKind.i64.wrap (shHi (tmpF r c m k) c.lLo.toNat j - c.eLo))]) .nil, sS, trivial, Eq.trans (by kernel_rfl) eF⟩
  · have d1 : decide (c.brk > 0) = false := decide_eq_false hb
    refine APure.vc Try.func41 rfl (.cells (encCp c) <| .br 24 false .loop) rfl rfl ⟨idx hc, d1, ?_⟩
    have e8 := congrArg (AV.int .i64) (p3 hb)
    intro g hn hl
    replace hn : g.n = 78 := hn
    replace hl : g.low 0 := hl
    refine acode_while (fun j : Nat => ⟨[(1, .int .i64 k), (2, .int .i64 m), (3, .vptr 0 0), (6, .vptr 1 0), (7, .vptr 2 0), (8, .int .i64 (lastOf r c)), (9, .int .i64 (shLo (tmpF r c m k) c.lLo.toNat j)), (10, .int .i64 (shHi (tmpF r c m k) c.lLo.toNat j)), (37, .int .i64 (c.lHi + 1)), (38, .int .i64 j)], [(0, .cells (runL r)), (1, .cells [.int .i64 0, .int .i64 0]), (2, .cells (encCp c))], 3⟩)
      (fun j => (j : Int) ≤ c.lHi + 1) (fun j => (c.lHi + 1).toNat - j) 0 (by simp; omega) ?_ (fun _ _ => hl.mono (Nat.zero_le _)) ?_
    · exact St.le.of ⟨rfl, rfl, rfl, rfl, rfl, rfl, rfl, rfl, rfl, rfl, Eq.trans (by kernel_rfl) e8, rfl, rfl, rfl, rfl, rfl, Eq.trans (by kernel_rfl) (congrArg (AV.int .i64) eh), rfl, rfl, rfl, trivial⟩ ⟨rfl, (by decide : (0 : Nat) < 3), rfl, rfl, (by decide : (1 : Nat) < 3), rfl, rfl, (by decide : (2 : Nat) < 3), rfl, trivial⟩
    · intro j hj
      have e1 : IntKind.i64.wrap ((j : Int) + 1) = ((j + 1 : Nat) : Int) := succ64 (by omega)
      by_cases hlt : (j : Int) < c.lHi + 1
      · by_cases hlo : (j : Int) < c.lLo
        · have q1 : shLo (tmpF r c m k) c.lLo.toNat j = shLo (tmpF r c m k) c.lLo.toNat (j + 1) := by
            show _ = (if j < c.lLo.toNat then _ else _)
            rw [if_pos (by omega)]
          have q2 : shHi (tmpF r c m k) c.lLo.toNat j = shHi (tmpF r c m k) c.lLo.toNat (j + 1) := by
            show _ = (if j < c.lLo.toNat then _ else _)
            rw [if_pos (by omega)]
          exact ACode.vc (.br 39 true <| .br 45 true .nil) hn hl (.round .cl) ⟨decide_eq_true hlt, decide_eq_true hlo, j + 1, (by omega : ((j + 1 : Nat) : Int) ≤ c.lHi + 1), (by show (c.lHi + 1).toNat - (j + 1) < (c.lHi + 1).toNat - j; omega),
            St.le.of ⟨rfl, rfl, rfl, rfl, rfl, rfl, rfl, rfl, rfl, rfl, rfl, rfl, congrArg _ q1, rfl, congrArg _ q2, rfl, rfl, rfl, congrArg _ e1, rfl, trivial⟩ ⟨rfl, (by decide : (0 : Nat) < 3), rfl, rfl, (by decide : (1 : Nat) < 3), rfl, rfl, (by decide : (2 : Nat) < 3), rfl, trivial⟩⟩
        · have hlag := rowIx_lt (lag := (j : Int)) h1 (Int.natCast_nonneg j) a1 a2
          have ei : IntKind.i64.wrap ((if lastOf r c < IntKind.i64.wrap (m + (j : Int)) then lastOf r c else IntKind.i64.wrap (m + (j : Int))) - 1) = ((rowIx m (j : Int) (lastOf r c) : Nat) : Int) := by
            rw [wrap64 (n := m + (j : Int)) (by omega) (by omega), hlag.2]
            exact wrap64 (by split <;> omega) (by split <;> omega)
          have hrd := rd_get hr hlag.1 hk
          refine Exists.elim hrd fun q hrd => Exists.elim hrd fun d hrd => ?_
          have q1 : (if d < shLo (tmpF r c m k) c.lLo.toNat j then d else shLo (tmpF r c m k) c.lLo.toNat j) = shLo (tmpF r c m k) c.lLo.toNat (j + 1) := by
            have u : shLo (tmpF r c m k) c.lLo.toNat (j + 1) = if j < c.lLo.toNat then shLo (tmpF r c m k) c.lLo.toNat j else (if tmpF r c m k j < shLo (tmpF r c m k) c.lLo.toNat j then tmpF r c m k j else shLo (tmpF r c m k) c.lLo.toNat j) := rfl
            have fd : tmpF r c m k (j : Int) = d := hrd.2.2.1
            rw [u, if_neg (show ¬ j < c.lLo.toNat by omega), fd]
          have q2 : (if d > shHi (tmpF r c m k) c.lLo.toNat j then d else shHi (tmpF r c m k) c.lLo.toNat j) = shHi (tmpF r c m k) c.lLo.toNat (j + 1) := by
            have u : shHi (tmpF r c m k) c.lLo.toNat (j + 1) = if j < c.lLo.toNat then shHi (tmpF r c m k) c.lLo.toNat j else (if tmpF r c m k j > shHi (tmpF r c m k) c.lLo.toNat j then tmpF r c m k j else shHi (tmpF r c m k) c.lLo.toNat j) := rfl
            have fd : tmpF r c m k (j : Int) = d := hrd.2.2.1
            rw [u, if_neg (show ¬ j < c.lLo.toNat by omega), fd]
          exact ACode.vc (.br 39 true <| .br 45 false <| .cells (encRw q) <| .cells (encD d) .nil) hn hl (.round .cl) ⟨decide_eq_true hlt, decide_eq_false hlo, idxW ei hrd.1, idx hrd.2.1, j + 1, (by omega : ((j + 1 : Nat) : Int) ≤ c.lHi + 1), (by show (c.lHi + 1).toNat - (j + 1) < (c.lHi + 1).toNat - j; omega),
            St.le.of ⟨rfl, rfl, rfl, rfl, rfl, rfl, rfl, rfl, rfl, rfl, rfl, rfl, congrArg _ q1, rfl, congrArg _ q2, rfl, rfl, rfl, congrArg _ e1, rfl, trivial⟩ ⟨rfl, (by decide : (0 : Nat) < 3), rfl, rfl, (by decide : (1 : Nat) < 3), rfl, rfl, (by decide : (2 : Nat) < 3), rfl, trivial⟩⟩
      · have hjn : j = c.lLo.toNat + (lagN c - 1) + 1 := by omega
        have v1 : shLo (tmpF r c m k) c.lLo.toNat j = mnK (tmpF r c m k) c.lLo (lagN c) := by
          rw [hjn, (hsh (lagN c - 1)).1, el]; congr 1; omega
        have v2 : shHi (tmpF r c m k) c.lLo.toNat j = mxK (tmpF r c m k) c.lLo (lagN c) := by
          rw [hjn, (hsh (lagN c - 1)).2, el]; congr 1; omega
        have sS := span_spec (IntKind.i64.wrap (shLo (tmpF r c m k) c.lLo.toNat j - c.eHi)) (IntKind.i64.wrap (shHi (tmpF r c m k) c.lLo.toNat j - c.eLo))
        have z1 : IntKind.i64.wrap (shLo (tmpF r c m k) c.lLo.toNat j - c.eHi) = tLo r m k := by rw [v1, wrap64 (by omega) (by omega), tLo_some hc]
        have z2 : IntKind.i64.wrap (shHi (tmpF r c m k) c.lLo.toNat j - c.eLo) = tHi r m k := by rw [v2, wrap64 (by omega) (by omega), tHi_some hc]
        have eF : some (AV.agg [.int .i64 (IntKind.i64.wrap (shLo (tmpF r c m k) c.lLo.toNat j - c.eHi)), .int .i64 (IntKind.i64.wrap (shHi (tmpF r c m k) c.lLo.toNat j - c.eLo))]) = some (.agg [.int .i64 (tLo r m k), .int .i64 (tHi r m k)]) := by rw [z1, z2]
        exact ACode.vc (.br 39 false .nil) hn hl (.round .cl) ⟨decide_eq_false hlt, _, .refl _, .call (.agg [.int .i64 (IntKind.i64.wrap (shLo (tmpF r c m k) c.lLo.toNat j - c.eHi)), .int .i64 (IntKind.i64.wrap (shHi (tmpF r c m k) c.lLo.toNat j - c.eLo))]) .nil, sS, trivial, Eq.trans (by kernel_rfl) eF⟩
end Go.Proofs.Yticiopkiikcokaa
