import Derived.Test.YtcdcgbgmpmaipaaBs5
namespace Go.Proofs.Ytcdcgbgmpmaipaa
open Go Go.Am
theorem thaw_r {h : Nat → Option AObj} {id : Nat} {r : List Int} (h0 : h id = some (.cells (fl encI r))) : thaw 8 h (.rsl id 0 r.length 1) = some (encR r, [id]) :=
  thaw_fl (n := 1) (d := 6) (fun _ => rfl) (fun _ => rfl) h0
theorem thaw_k {h : Nat → Option AObj} {a : AV} (ha : a.ok 0 = true) : thaw 8 h a = some (a, []) := by unfold thaw; rw [if_pos ha]
theorem thaw3 {h : Nat → Option AObj} {id : Nat} {r : List Int} {a c : AV} (ha : a.ok 0 = true) (hc : c.ok 0 = true) (h0 : h id = some (.cells (fl encI r))) : thawL h [a, .rsl id 0 r.length 1, c] = some ([a, encR r, c], [id]) := by
  have e : thawL h [a, .rsl id 0 r.length 1, c] = mapO (thaw 8 h) [a, .rsl id 0 r.length 1, c] := rfl
  rw [e]
  simp only [mapO, thaw_k ha, thaw_k hc, thaw_r h0, List.append_nil, List.nil_append]
theorem thaw4 {h : Nat → Option AObj} {id : Nat} {r : List Int} {a c d : AV} (ha : a.ok 0 = true) (hc : c.ok 0 = true) (hd : d.ok 0 = true) (h0 : h id = some (.cells (fl encI r))) : thawL h [a, .rsl id 0 r.length 1, c, d] = some ([a, encR r, c, d], [id]) := by
  have e : thawL h [a, .rsl id 0 r.length 1, c, d] = mapO (thaw 8 h) [a, .rsl id 0 r.length 1, c, d] := rfl
  rw [e]
  simp only [mapO, thaw_k ha, thaw_k hc, thaw_k hd, thaw_r h0, List.append_nil, List.nil_append]
theorem thaw2 {h : Nat → Option AObj} {id : Nat} {r : List Int} {c : AV} (hc : c.ok 0 = true) (h0 : h id = some (.cells (fl encI r))) : thawL h [.rsl id 0 r.length 1, c] = some ([encR r, c], [id]) := by
  have e : thawL h [.rsl id 0 r.length 1, c] = mapO (thaw 8 h) [.rsl id 0 r.length 1, c] := rfl
  rw [e]
  simp only [mapO, thaw_k hc, thaw_r h0, List.append_nil, List.nil_append]
theorem eqS (a b : Int) : ((aeqT Try.prog 6 27 (.agg [.int .i64 a, .int .i64 b]) (.agg [.int .i64 a, .int .i64 b])).map AV.bool).map (fun v => (⟨v, []⟩ : Out)) = some ⟨.bool true, []⟩ := by
  rw [eqSpan]; simp
set_option maxHeartbeats 8000000 in
set_option maxRecDepth 100000 in
theorem law_smokes (l : Lp) (r : List Int) (i a b : Int) : APure Try.prog 3 [encLp l, encR r, .int .i64 i, .int .i64 a, .int .i64 b] (.bool true) := by
  have sG := Great_spec r
  by_cases hg : r.length > 150
  · rw [decide_eq_true hg] at sG
    exact APure.vc Try.func3 rfl (.call (.bool true) .nil) rfl rfl ⟨sG, rB rfl⟩
  · rw [decide_eq_false hg] at sG
    have ap := app_ints (h := hget [(0, .cells [.int .i64 l.before, .int .i64 l.after]), (1, .cells [])]) (i := 1) (nid := 2) (l := r) rfl (by omega)
    have s1 := Clean_spec l r i
    have s2 := rClean_spec l r i
    have s3 := Dark_spec l r i
    have s4 := rDark_spec l r i
    have s5 := Smoke_spec l r a b
    have s6 := rSmoke_spec l r a b
    have s7 := SameInts_spec r (by omega)
    generalize cleanI l r i = A at *
    generalize darkI l r i = B at *
    generalize smokeI l r a b = C at *
    have nA : (A.2 == A.2) = true := by simp
    have nB : (B.2 == B.2) = true := by simp
    have nC : (C.2 == C.2) = true := by simp
    exact APure.vc Try.func3 rfl (.call (.bool false) <| .val 28 (.rsl 2 0 r.length 1) [(1, none), (2, some (.cells (fl encI r)))] <| .lent (encE A) [2] <| .call (encE A) <| .lent (encE B) [2] <| .call (encE B) <| .lent (encE C) [2] <| .call (encE C) <|
        .val 75 (.bool true) [] <| .br 81 true <| .val 84 (.bool true) [] <| .br 91 true <| .val 94 (.bool true) [] <| .br 101 true <| .lent (.bool true) [2] .nil) rfl rfl
      ⟨sG, Eq.trans (by kernel_rfl) ap, ⟨_, thaw3 rfl rfl rfl, .inl ⟨s1, .inr rfl⟩⟩, s2, ⟨_, thaw3 rfl rfl rfl, .inl ⟨s3, .inr rfl⟩⟩, s4, ⟨_, thaw4 rfl rfl rfl rfl, .inl ⟨s5, .inr rfl⟩⟩, s6,
        Eq.trans (by kernel_rfl) (eqS A.1.1 A.1.2), nA, Eq.trans (by kernel_rfl) (eqS B.1.1 B.1.2), nB, Eq.trans (by kernel_rfl) (eqS C.1.1 C.1.2), nC, ⟨_, thaw2 rfl rfl, .inl ⟨s7, .inr rfl⟩⟩, rB rfl⟩
end Go.Proofs.Ytcdcgbgmpmaipaa
