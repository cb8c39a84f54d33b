import Derived.Test.YticiopkiikcokaaT31
import Derived.Test.YticiopkiikcokaaT37
namespace Go.Proofs.Yticiopkiikcokaa
open Go Go.Am
theorem eqSpan (a b : Int) (d : Nat) : aeqT Try.prog (d + 2) 26 (.agg [.int .i64 a, .int .i64 b]) (.agg [.int .i64 a, .int .i64 b]) = some true := by
  simp [aeqT, aeqF, ty26, ty3, apart, TD.agg, andO]
theorem eqPt (p : Pt) : aeqT Try.prog 6 93 (.agg (encPt p)) (.agg (encPt p)) = some true := by
  simp [aeqT, aeqF, ty93, ty3, encPt, apart, TD.agg, andO]
theorem eqCp (c : Cp) : aeqT Try.prog 6 76 (.agg (encCp c)) (.agg (encCp c)) = some true := by
  simp [aeqT, aeqF, ty76, ty26, ty3, encCp, apart, TD.agg, andO]
set_option maxHeartbeats 8000000 in
set_option maxRecDepth 100000 in
theorem SameInts_spec (l : List Int) (hl1 : l.length ≤ 1000) : APure Try.prog 58 [.lst 1 (l.map encD), .lst 1 (l.map encD)] (.bool true) := by
  have hne : (((l.map encD).length : Int) != ((l.map encD).length : Int)) = false := by simp
  refine APure.vc Try.func58 rfl (.br 10 false .loop) rfl rfl ⟨hne, ?_⟩
  intro g hn hl
  replace hn : g.n = 26 := hn
  replace hl : g.low 0 := hl
  refine acode_while (fun k : Nat => ⟨[(0, .lst 1 (l.map encD)), (1, .lst 1 (l.map encD)), (5, .int .i64 k)], [], 0⟩) (fun k => k ≤ l.length) (fun k => l.length - k) 0 (Nat.zero_le _) ?_ (fun _ _ => hl) ?_
  · exact St.le.of ⟨rfl, rfl, rfl, rfl, rfl, rfl, trivial⟩ trivial
  · intro k hk
    by_cases hlt : k < l.length
    · refine Exists.elim (getE hlt) fun d hd => ?_
      have hd' : (d != d) = false := by simp
      exact ACode.vc (.br 14 true <| .draw 8 <| .cells (encD d) <| .cells (encD d) <| .br 25 false .nil) hn hl (.round .cl) ⟨ltLen hlt, by kernel_rfl, mixed, by kernel_rfl, idx hd, idx hd, by kernel_rfl, hd', k + 1, hlt, mu1 hlt, St.le.of ⟨rfl, rfl, rfl, rfl, congrArg _ (succ64 (by omega)), rfl, trivial⟩ trivial⟩
    · exact ACode.vc (.br 14 false .nil) hn hl (.round .cl) ⟨geLen hlt, _, .refl _, .nil, rB rfl⟩
set_option maxHeartbeats 8000000 in
set_option maxRecDepth 100000 in
theorem SamePoints_spec (l : List Pt) (hl1 : l.length ≤ 1000) : APure Try.prog 23 [.lst 2 (l.map encPt), .lst 2 (l.map encPt)] (.bool true) := by
  have hne : (((l.map encPt).length : Int) != ((l.map encPt).length : Int)) = false := by simp
  refine APure.vc Try.func23 rfl (.br 10 false .loop) rfl rfl ⟨hne, ?_⟩
  intro g hn hl
  replace hn : g.n = 26 := hn
  replace hl : g.low 0 := hl
  refine acode_while (fun k : Nat => ⟨[(0, .lst 2 (l.map encPt)), (1, .lst 2 (l.map encPt)), (5, .int .i64 k)], [], 0⟩) (fun k => k ≤ l.length) (fun k => l.length - k) 0 (Nat.zero_le _) ?_ (fun _ _ => hl) ?_
  · exact St.le.of ⟨rfl, rfl, rfl, rfl, rfl, rfl, trivial⟩ trivial
  · intro k hk
    by_cases hlt : k < l.length
    · refine Exists.elim (getE hlt) fun p hp => ?_
      have he : ((aeqT Try.prog 6 93 (.agg (encPt p)) (.agg (encPt p))).map fun b => AV.bool !b).map (fun v => (⟨v, []⟩ : Out)) = some ⟨.bool false, []⟩ := by rw [eqPt]; rfl
      exact ACode.vc (.br 14 true <| .draw 8 <| .cells (encPt p) <| .cells (encPt p) <| .val 25 (.bool false) [] .nil) hn hl (.round .cl) ⟨ltLen hlt, by kernel_rfl, mixed, by kernel_rfl, idx hp, idx hp, by kernel_rfl, Eq.trans (by kernel_rfl) he, k + 1, hlt, mu1 hlt, St.le.of ⟨rfl, rfl, rfl, rfl, congrArg _ (succ64 (by omega)), rfl, trivial⟩ trivial⟩
    · exact ACode.vc (.br 14 false .nil) hn hl (.round .cl) ⟨geLen hlt, _, .refl _, .nil, rB rfl⟩
end Go.Proofs.Yticiopkiikcokaa
namespace Go.Proofs.Yticiopkiikcokaa
open Go Go.Am
set_option maxHeartbeats 16000000 in
set_option maxRecDepth 100000 in
theorem Same_spec (r : Rn) (h1 : r.curve.length ≤ 1000) (h2 : r.cps.length ≤ 1000) (h3 : r.rows.length ≤ 1000) (h4 : ∀ q ∈ r.rows, q.deg.length ≤ 1000) : APure Try.prog 22 [encRn r, encRn r] (.bool true) := by
  have e1 : (r.id != r.id) = false := by simp
  have s1 := SamePoints_spec r.curve h1
  have e2 : ((aeqT Try.prog 6 26 (.agg [.int .i64 r.gLo, .int .i64 r.gHi]) (.agg [.int .i64 r.gLo, .int .i64 r.gHi])).map fun b => AV.bool !b).map (fun v => (⟨v, []⟩ : Out)) = some ⟨.bool false, []⟩ := by rw [eqSpan]; rfl
  have e3 : (((r.cps.map encCp).length : Int) != ((r.cps.map encCp).length : Int)) = false := by simp
  have e4 : (((r.rows.map encRw).length : Int) != ((r.rows.map encRw).length : Int)) = false := by simp
  refine APure.vc Try.func22 rfl (.br 12 false <| .call (.bool true) <| .val 25 (.bool false) [] <| .br 36 false <| .br 44 false .loop) rfl rfl ⟨e1, s1, Eq.trans (by kernel_rfl) e2, e3, e4, ?_⟩
  intro g hn hl
  replace hn : g.n = 99 := hn
  replace hl : g.low 0 := hl
  refine acode_while (fun k : Nat => ⟨[(2, .vptr 0 0), (3, .vptr 1 0), (5, .int .i64 k)], [(0, .cells (runL r)), (1, .cells (runL r))], 2⟩) (fun k => k ≤ r.cps.length) (fun k => r.cps.length - k) 0 (Nat.zero_le _) ?_ (fun _ _ => hl.mono (Nat.zero_le _)) ?_
  · exact St.le.of ⟨rfl, rfl, rfl, rfl, rfl, rfl, trivial⟩ ⟨rfl, (by decide : (0 : Nat) < 2), rfl, rfl, (by decide : (1 : Nat) < 2), rfl, trivial⟩
  · intro k hk
    by_cases hlt : k < r.cps.length
    · refine Exists.elim (getE hlt) fun c hc => ?_
      have ec : ((aeqT Try.prog 6 76 (.agg (encCp c)) (.agg (encCp c))).map fun b => AV.bool !b).map (fun v => (⟨v, []⟩ : Out)) = some ⟨.bool false, []⟩ := by rw [eqCp]; rfl
      exact ACode.vc (.br 49 true <| .draw 10 <| .cells (encCp c) <| .cells (encCp c) <| .val 62 (.bool false) [] .nil) hn hl (.round .cl) ⟨ltLen hlt, by kernel_rfl, mixed, by kernel_rfl, idx hc, idx hc, by kernel_rfl, Eq.trans (by kernel_rfl) ec, k + 1, hlt, mu1 hlt,
        St.le.of ⟨rfl, rfl, rfl, rfl, congrArg _ (succ64 (by omega)), rfl, trivial⟩ ⟨rfl, (by decide : (0 : Nat) < 2), rfl, rfl, (by decide : (1 : Nat) < 2), rfl, trivial⟩⟩
    · refine ACode.vc (.br 49 false .nil) hn hl (.round .cl) ⟨geLen hlt, _, .refl _, .loop, ?_⟩
      intro g hn hl
      replace hn : g.n = 99 := hn
      replace hl : g.low 0 := hl
      refine acode_while (fun k : Nat => ⟨[(2, .vptr 0 0), (3, .vptr 1 0), (6, .int .i64 k)], [(0, .cells (runL r)), (1, .cells (runL r))], 2⟩) (fun k => k ≤ r.rows.length) (fun k => r.rows.length - k) 0 (Nat.zero_le _) ?_ (fun _ _ => hl.mono (Nat.zero_le _)) ?_
      · exact St.le.of ⟨rfl, rfl, rfl, rfl, rfl, rfl, trivial⟩ ⟨rfl, (by decide : (0 : Nat) < 2), rfl, rfl, (by decide : (1 : Nat) < 2), rfl, trivial⟩
      · intro k hk
        by_cases hlt : k < r.rows.length
        · refine Exists.elim (getE hlt) fun q hq => ?_
          have s2 := SameInts_spec q.deg (h4 q (List.mem_of_getElem? hq))
          have e5 : (q.press != q.press) = false := by simp
          exact ACode.vc (.br 67 true <| .draw 26 <| .cells (encRw q) <| .cells (encRw q) <| .br 83 false <| .cells (encRw q) <| .cells (encRw q) <| .call (.bool true) .nil) hn hl (.round .cl) ⟨ltLen hlt, by kernel_rfl, mixed, by kernel_rfl, idx hq, idx hq, e5, idx hq, idx hq, by kernel_rfl, s2, k + 1, hlt, mu1 hlt,
            St.le.of ⟨rfl, rfl, rfl, rfl, congrArg _ (succ64 (by omega)), rfl, trivial⟩ ⟨rfl, (by decide : (0 : Nat) < 2), rfl, rfl, (by decide : (1 : Nat) < 2), rfl, trivial⟩⟩
        · exact ACode.vc (.br 67 false .nil) hn hl (.round .cl) ⟨geLen hlt, _, .refl _, .nil, rB rfl⟩
end Go.Proofs.Yticiopkiikcokaa
