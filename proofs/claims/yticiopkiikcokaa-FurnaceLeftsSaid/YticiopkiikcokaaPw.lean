import Derived.Test.YticiopkiikcokaaPf
import Derived.Test.YticiopkiikcokaaPq
import Derived.Test.YticiopkiikcokaaPc
namespace Go.Proofs.Yticiopkiikcokaa
open Go Go.Am
theorem atV_tup (l : List Pt) (m : Int) : ∃ x y : Int, atV l m = .tup [.int .i64 x, .int .i64 y] := by
  unfold atV
  split
  · split
    · exact ⟨_, _, rfl⟩
    · exact ⟨_, _, rfl⟩
  · exact ⟨_, _, rfl⟩
theorem meanV_tup (r : Rn) (m : Int) : ∃ x y z : Int, meanV r m = .tup [.agg [.int .i64 x, .int .i64 y], .int .i64 z] := by
  unfold meanV
  split
  · split
    · split
      · exact ⟨_, _, _, rfl⟩
      · exact ⟨_, _, _, rfl⟩
    · exact ⟨_, _, _, rfl⟩
  · exact ⟨_, _, _, rfl⟩
theorem small_out {r : Rn} {u : Ru} (h : smallB r u = true) : r.curve.length ≤ 15 ∧ r.cps.length ≤ 12 ∧ r.rows.length ≤ 80 ∧ ∀ q ∈ r.rows, q.deg.length ≤ 1000 := by
  simp only [smallB, Bool.and_eq_true, decide_eq_true_eq, List.all_eq_true, List.mem_range] at h
  obtain ⟨h1, h2, h3, _, h5⟩ := h
  refine ⟨h1, h2, h3, fun q hq => ?_⟩
  obtain ⟨i, hi, e⟩ := List.mem_iff_getElem.1 hq
  have := h5 i hi
  have hg : r.rows[i]? = some q := by rw [List.getElem?_eq_getElem hi, e]
  unfold gAt at this
  rw [hg] at this
  simp at this
  omega
theorem thaw_two {h : Nat → Option AObj} {l : List Pt} {b : AV} (h0 : h 3 = some (.cells (fl encPt l))) (hb : b.ok 0 = true) : thawL h [.rsl 3 0 l.length 2, b] = some ([.lst 2 (l.map encPt), b], [3]) := by
  have t3 := thaw_fl (n := 2) (d := 6) (enc := encPt) (fun _ => rfl) (fun _ => rfl) h0
  have e2 : thaw 8 h b = some (b, []) := by unfold thaw; rw [if_pos hb]
  have e : thawL h [.rsl 3 0 l.length 2, b] = (match thaw 8 h (.rsl 3 0 l.length 2), mapO (thaw 8 h) [b] with
      | some (a, is), some (l, js) => some (a :: l, is ++ js)
      | _, _ => none) := rfl
  rw [e, t3]
  simp only [mapO, e2, List.append_nil]
set_option maxHeartbeats 16000000 in
set_option maxRecDepth 100000 in
theorem law3 (l : List Pt) (r : Rn) (u : Ru) (m : Int) : APure Try.prog 3 [.lst 2 (l.map encPt), encRn r, encRu u, .int .i64 m] (.bool true) := by
  have sG := great_spec r u
  cases hs : smallB r u
  · rw [hs] at sG
    exact APure.vc Try.func3 rfl (.call (.bool true) .nil) rfl rfl ⟨sG, rB rfl⟩
  · rw [hs] at sG
    obtain ⟨z1, z2, z3, z4⟩ := small_out hs
    by_cases hl : l.length ≤ 30
    · have h26 : decide (((l.map encPt).length : Int) > 30) = false := by rw [List.length_map]; exact decide_eq_false (by omega)
      have sT := Twin_spec r (by omega) (by omega) (by omega) z4
      have ap := app22 (h := hget [(0, .cells (runL r)), (1, .cells (ruL u)), (2, .cells [])]) (i := 2) (nid := 3) (l := l) rfl (by omega)
      obtain ⟨x, y, hA⟩ := atV_tup l m
      have sA := At_spec l m
      have sA' := rAt_spec l m
      rw [hA] at sA sA'
      obtain ⟨p, q, z, hM⟩ := meanV_tup r m
      have sM := Mean_spec r m
      have sM' := rMean_spec r m
      rw [hM] at sM sM'
      have sC := check_spec r u
      have sC' := rCheck_spec r u
      obtain ⟨C, hC⟩ : ∃ C, C = checkI r u := ⟨_, rfl⟩
      rw [← hC] at sC sC'
      have sS := Same_spec r (by omega) (by omega) (by omega) z4
      have sP := SamePoints_spec l (by omega)
      have t1 := thaw_two (h := hget [(0, .cells (runL r)), (1, .cells (ruL u)), (3, .cells (fl encPt l)), (4, .cells (runL r))]) (l := l) (b := .int .i64 m) rfl rfl
      have t2 := thaw_two (h := hget [(0, .cells (runL r)), (1, .cells (ruL u)), (3, .cells (fl encPt l)), (4, .cells (runL r)), (6, .cells [.int .i64 p, .int .i64 q]), (8, .cells [.int .i64 p, .int .i64 q])]) (l := l) (b := .lst 2 (l.map encPt)) rfl rfl
      have e26 : ((aeqT Try.prog 6 26 (.agg [.int .i64 p, .int .i64 q]) (.agg [.int .i64 p, .int .i64 q])).map AV.bool).map (fun v => (⟨v, []⟩ : Out)) = some ⟨.bool true, []⟩ := by rw [eqSpan]; rfl
      have b1 : (x == x) = true := beq_self_eq_true _
      have b2 : (y == y) = true := beq_self_eq_true _
      have b3 : (z == z) = true := beq_self_eq_true _
      have b4 : (C == C) = true := beq_self_eq_true _
      exact APure.vc Try.func3 rfl (.call (.bool false) <| .br 26 false <| .call (encRn r) <| .val 31 (.rsl 3 0 l.length 2) [(2, none), (3, some (.cells (fl encPt l)))] <| .lent (.tup [.int .i64 x, .int .i64 y]) [3] <| .call (.tup [.int .i64 x, .int .i64 y]) <|
          .call (.tup [.agg [.int .i64 p, .int .i64 q], .int .i64 z]) <| .call (.tup [.agg [.int .i64 p, .int .i64 q], .int .i64 z]) <| .draw 35 <| .br 59 true <| .br 64 true <| .val 67 (.bool true) [] <| .br 74 true <| .call (.int .i64 C) <| .call (.int .i64 C) <| .br 83 true <| .call (.bool true) <| .lent (.bool true) [3] .nil) rfl rfl
        ⟨sG, h26, sT, Eq.trans (by kernel_rfl) ap, ⟨[.lst 2 (l.map encPt), .int .i64 m], Eq.trans (by kernel_rfl) t1, .inl ⟨sA, .inr rfl⟩⟩, sA', sM, sM', by kernel_rfl, mixed, by kernel_rfl, b1, b2, Eq.trans (by kernel_rfl) e26, b3, sC, sC', b4, sS, by kernel_rfl,
          ⟨[.lst 2 (l.map encPt), .lst 2 (l.map encPt)], Eq.trans (by kernel_rfl) t2, .inl ⟨sP, .inr rfl⟩⟩, rB rfl⟩
    · have h26 : decide (((l.map encPt).length : Int) > 30) = true := by rw [List.length_map]; exact decide_eq_true (by omega)
      exact APure.vc Try.func3 rfl (.call (.bool false) <| .br 26 true .nil) rfl rfl ⟨sG, h26, rB rfl⟩
end Go.Proofs.Yticiopkiikcokaa
