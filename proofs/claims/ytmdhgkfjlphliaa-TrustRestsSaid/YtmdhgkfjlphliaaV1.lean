/-
  WHAT IS VALID OF RECORDS AND LETTERS: Check.
-/
import Derived.Test.YtmdhgkfjlphliaaS1
namespace Go.Proofs.Ytmdhgkfjlphliaa
open Go Go.Am
set_option maxRecDepth 100000
set_option maxHeartbeats 4000000
theorem within_spec (L : List Int) (lo hi : Int) (hL : L.length ≤ 1000000) : APure Try.prog 67 [.agg [.int .i64 lo, .int .i64 hi], .lst 1 (L.map encI)] (.bool (L.all (inB lo hi))) := by
  refine APure.vc Try.func67 rfl .loop rfl rfl ?_
  intro g hn hl
  replace hn : g.n = 24 := hn
  replace hl : g.low 0 := hl
  refine acode_while (fun k : Nat => ⟨[(2, .vptr 0 0), (7, .lst 1 (L.map encI)), (8, .int .i64 (L.map encI).length), (9, .int .i64 k)], [(0, .cells [.int .i64 lo, .int .i64 hi])], 1⟩) (fun k => k ≤ L.length ∧ (L.take k).all (inB lo hi) = true) (fun k => L.length - k) 0 ⟨Nat.zero_le _, rfl⟩ ?_ (fun _ _ => hl.mono (Nat.zero_le _)) ?_
  · exact St.le.of ⟨rfl, rfl, rfl, rfl, rfl, rfl, rfl, rfl, trivial⟩ ⟨rfl, (by decide : (0 : Nat) < 1), rfl, trivial⟩
  · rintro k ⟨hk1, hk2⟩
    by_cases hlt : k < L.length
    · refine Exists.elim (getE hlt) fun x hx => ?_
      have ek := congrArg (AV.int .i64) (succ64 (k := k) (by omega))
      have b1 : decide (x < lo) = true → L.all (inB lo hi) = false := fun h => all_bad hx (by simp at h; simp [inB]; omega)
      have b2 : decide (x > hi) = true → L.all (inB lo hi) = false := fun h => all_bad hx (by simp at h; simp [inB]; omega)
      have b3 : decide (x < lo) = false → decide (x > hi) = false → (L.take (k + 1)).all (inB lo hi) = true := fun h h' => by
        rw [take_all hx, hk2]; simp at h h'; simp [inB]; omega
      exact ACode.vc (.br 10 true <| .cells (encI x) <| .both 17 .nil (.both 22 .nil .nil)) hn hl (.round .cl)
        ⟨ltLen hlt, idx hx, fun h => ⟨_, .refl _, .nil, rB (b1 h).symm⟩, fun h => ⟨fun h' => ⟨_, .refl _, .nil, rB (b2 h').symm⟩, fun h' => ⟨k + 1, ⟨hlt, b3 h h'⟩, mu1 hlt,
          St.le.of ⟨rfl, rfl, rfl, rfl, rfl, rfl, ek, rfl, trivial⟩ ⟨rfl, (by decide : (0 : Nat) < 1), rfl, trivial⟩⟩⟩⟩
    · have hk' : k = L.length := by omega
      have e : true = L.all (inB lo hi) := by rw [hk', List.take_length] at hk2; exact hk2.symm
      exact ACode.vc (.br 10 false .nil) hn hl (.round .cl) ⟨geLen hlt, _, .refl _, .nil, rB e⟩
theorem within1_spec (x lo hi : Int) : APure Try.prog 67 [.agg [.int .i64 lo, .int .i64 hi], .lst 1 [encI x]] (.bool (inB lo hi x)) := by
  have := within_spec [x] lo hi (by simp); simpa using this
theorem upTo_spec (n : Int) : APure Try.prog 68 [.int .i64 n] (.agg [.int .i64 0, .int .i64 n]) := APure.vc Try.func68 rfl .nil rfl rfl ⟨trivial, rfl⟩
theorem oneTo_spec (n : Int) : APure Try.prog 87 [.int .i64 n] (.agg [.int .i64 1, .int .i64 n]) := APure.vc Try.func87 rfl .nil rfl rfl ⟨trivial, rfl⟩
/-- The place of what is first. -/
def fndV {α : Type} (p : α → Bool) (l : List α) : Int := match l.findIdx? p with | none => -1 | some i => (i : Int)
theorem fndV_hit {α : Type} {p : α → Bool} {l : List α} {k : Nat} {x : α} (hx : l[k]? = some x) (h0 : ∀ y ∈ l.take k, p y = false) (h1 : p x = true) : fndV p l = k := by
  unfold fndV
  obtain ⟨hk, hxe⟩ := List.getElem?_eq_some_iff.1 hx
  have : l.findIdx? p = some k := List.findIdx?_eq_some_iff_getElem.2 ⟨hk, by rw [hxe]; exact h1, fun j hj => by
    have : l[j] ∈ l.take k := by
      rw [List.mem_take_iff_getElem]
      exact ⟨j, by omega, rfl⟩
    simpa using h0 _ this⟩
  rw [this]
theorem fndV_none {α : Type} {p : α → Bool} {l : List α} (h0 : ∀ y ∈ l, p y = false) : fndV p l = -1 := by
  unfold fndV
  rw [List.findIdx?_eq_none_iff.2 h0]
theorem fndV_any {α : Type} (p : α → Bool) (l : List α) : decide (fndV p l ≥ 0) = l.any p := by
  unfold fndV
  cases h : l.findIdx? p with
  | none => rw [List.findIdx?_eq_none_iff] at h; symm; simpa using h
  | some i =>
    obtain ⟨h1, h2, _⟩ := List.findIdx?_eq_some_iff_getElem.1 h
    simp only [show ((i : Int) ≥ 0) from Int.natCast_nonneg i, decide_true]
    exact (List.any_eq_true.2 ⟨_, List.getElem_mem h1, h2⟩).symm
theorem take_no {α : Type} {p : α → Bool} {l : List α} {k : Nat} {x : α} (hx : l[k]? = some x) (h0 : ∀ y ∈ l.take k, p y = false) (hb : p x = false) : ∀ y ∈ l.take (k + 1), p y = false := fun y hy => by
  rw [List.take_add_one, hx] at hy
  rcases List.mem_append.1 hy with hy | hy
  · exact h0 y hy
  · simp at hy; subst hy; exact hb
def isId (d : Int) (y : Rcd) : Bool := y.id == d
def noWay (ids : List Int) (w : List Int) : Bool := !wayB ids w
theorem areIn1_spec (x : Rcd) (d : Int) : APure Try.prog 92 [encRc x, .cptr [.int .i64 d]] (.bool (isId d x)) := APure.vc Try.func92 rfl .nil rfl rfl (rB rfl)
theorem rcIdx_spec (l : List Rcd) (d : Int) (hl : l.length ≤ 1000) : APure Try.prog 110 [encRs l, .fn (.func 92) [] [.cptr [.int .i64 d]]] (.int .i64 (fndV (isId d) l)) := by
  refine APure.vc Try.func110 rfl .loop rfl rfl ?_
  intro g hn hl'
  replace hn : g.n = 19 := hn
  replace hl' : g.low 0 := hl'
  refine acode_while (fun k : Nat => ⟨[(0, encRs l), (1, .fn (.func 92) [] [.cptr [.int .i64 d]]), (7, .int .i64 (l.map cRc).length), (8, .int .i64 k)], [], 0⟩) (fun k => k ≤ l.length ∧ ∀ y ∈ l.take k, (isId d) y = false) (fun k => l.length - k) 0 ⟨Nat.zero_le _, fun y hy => by simp at hy⟩ ?_ (fun _ _ => hl') ?_
  · exact St.le.of ⟨rfl, rfl, rfl, rfl, rfl, rfl, rfl, rfl, trivial⟩ trivial
  · rintro k ⟨hk1, hk2⟩
    by_cases hlt : k < l.length
    · refine Exists.elim (getE hlt) fun x hx => ?_
      have ek := congrArg (AV.int .i64) (succ64 (k := k) (by omega))
      have s := areIn1_spec x d
      cases hb : (isId d) x
      · rw [hb] at s
        exact ACode.vc (.br 9 true <| .cells (cRc x) <| .call (.bool false) .nil) hn hl' (.round .cl) ⟨ltLen hlt, idx hx, s, k + 1, ⟨hlt, take_no hx hk2 hb⟩, mu1 hlt,
          St.le.of ⟨rfl, rfl, rfl, rfl, rfl, rfl, ek, rfl, trivial⟩ trivial⟩
      · rw [hb] at s
        exact ACode.vc (.br 9 true <| .cells (cRc x) <| .call (.bool true) .nil) hn hl' (.round .cl) ⟨ltLen hlt, idx hx, s, _, .refl _, .nil, rI (fndV_hit hx hk2 hb).symm⟩
    · have hk' : k = l.length := by omega
      exact ACode.vc (.br 9 false .nil) hn hl' (.round .cl) ⟨geLen hlt, _, .refl _, .nil, rI (fndV_none (by rw [hk', List.take_length] at hk2; exact hk2)).symm⟩
theorem rcHas_spec (l : List Rcd) (d : Int) (hl : l.length ≤ 1000) : APure Try.prog 88 [encRs l, .fn (.func 92) [] [.cptr [.int .i64 d]]] (.bool (l.any (isId d))) := by
  have s := rcIdx_spec l d hl
  exact APure.vc Try.func88 rfl (.call (.int .i64 (fndV (isId d) l)) .nil) rfl rfl ⟨s, rB (fndV_any _ l)⟩
theorem any_ids (r : List Rcd) (d : Int) : r.any (isId d) = (idsR r).contains d := by
  unfold idsR
  induction r with
  | nil => rfl
  | cons x r ih => simp only [List.any_cons, List.map_cons, List.contains_cons, ih, isId]; rw [Bool.beq_comm]
theorem areIn_spec (r : List Rcd) (ids : List Int) (hr : r.length ≤ 1000) (hi : ids.length ≤ 1000) : APure Try.prog 60 [encRs r, encR ids] (.bool (ids.all fun i => (idsR r).contains i)) := by
  refine APure.vc Try.func60 rfl .loop rfl rfl ?_
  intro g hn hl
  replace hn : g.n = 18 := hn
  replace hl : g.low 0 := hl
  refine acode_while (fun k : Nat => ⟨[(0, encRs r), (7, encR ids), (8, .int .i64 (ids.map encI).length), (9, .int .i64 k)], [], 0⟩) (fun k => k ≤ ids.length ∧ (ids.take k).all (fun i => (idsR r).contains i) = true) (fun k => ids.length - k) 0 ⟨Nat.zero_le _, rfl⟩ ?_ (fun _ _ => hl) ?_
  · exact St.le.of ⟨rfl, rfl, rfl, rfl, rfl, rfl, rfl, rfl, trivial⟩ trivial
  · rintro k ⟨hk1, hk2⟩
    by_cases hlt : k < ids.length
    · refine Exists.elim (getE hlt) fun x hx => ?_
      have ek := congrArg (AV.int .i64) (succ64 (k := k) (by omega))
      have s := rcHas_spec r x hr
      rw [any_ids] at s
      cases hb : (idsR r).contains x
      · rw [hb] at s
        exact ACode.vc (.br 10 true <| .cells (encI x) <| .lent (.bool false) [0] .nil) hn hl (.round .cl) ⟨ltLen hlt, idx hx, ⟨_, by kernel_rfl, .inl ⟨s, .inr rfl⟩⟩, _, .refl _, .nil, rB (all_bad hx hb).symm⟩
      · rw [hb] at s
        exact ACode.vc (.br 10 true <| .cells (encI x) <| .lent (.bool true) [0] .nil) hn hl (.round .cl) ⟨ltLen hlt, idx hx, ⟨_, by kernel_rfl, .inl ⟨s, .inr rfl⟩⟩, k + 1, ⟨hlt, by rw [take_all hx, hk2, hb]; rfl⟩, mu1 hlt,
          St.le.of ⟨rfl, rfl, rfl, rfl, rfl, rfl, ek, rfl, trivial⟩ trivial⟩
    · have hk' : k = ids.length := by omega
      have e : true = ids.all (fun i => (idsR r).contains i) := by rw [hk', List.take_length] at hk2; exact hk2.symm
      exact ACode.vc (.br 10 false .nil) hn hl (.round .cl) ⟨geLen hlt, _, .refl _, .nil, rB e⟩
theorem areIn_one (r : List Rcd) (x : Int) (hr : r.length ≤ 1000) : APure Try.prog 60 [encRs r, .lst 1 [encI x]] (.bool ((idsR r).contains x)) := by
  have := areIn_spec r [x] hr (by simp); simpa [encR] using this
theorem rcId_spec (x : Rcd) : APure Try.prog 74 [.agg (cRc x)] (.int .i64 x.id) := APure.vc Try.func74 rfl .nil rfl rfl (rI rfl)
theorem rcById_spec (l : List Rcd) (hlen : l.length ≤ 1000) : APure Try.prog 73 [encRs l, .fn (.func 74) [] []] (.bool (incF 0 (l.map fun x => x.id))) := by
  refine APure.vc Try.func73 rfl .loop rfl rfl ?_
  intro g hn hl
  replace hn : g.n = 27 := hn
  replace hl : g.low 0 := hl
  refine acode_while (fun k : Nat × Int => ⟨[(1, .fn (.func 74) [] []), (5, .int .i64 k.2), (8, encRs l), (9, .int .i64 (l.map cRc).length), (10, .int .i64 k.1)], [], 0⟩) (fun k => (k.1 ≤ l.length ∧ 0 ≤ k.2) ∧ incF 0 (l.map fun x => x.id) = incF k.2 ((l.drop k.1).map fun x => x.id)) (fun k => l.length - k.1) (0, 0) ⟨⟨Nat.zero_le _, Int.le_refl _⟩, rfl⟩ ?_ (fun _ _ => hl) ?_
  · exact St.le.of ⟨rfl, rfl, rfl, rfl, rfl, rfl, rfl, rfl, rfl, rfl, trivial⟩ trivial
  · rintro ⟨k, L⟩ ⟨⟨hk1, hL⟩, hk2⟩
    replace hk1 : k ≤ l.length := hk1
    replace hL : 0 ≤ L := hL
    replace hk2 : incF 0 (l.map fun x => x.id) = incF L ((l.drop k).map fun x => x.id) := hk2
    by_cases hlt : k < l.length
    · refine Exists.elim (getE hlt) fun x hx => ?_
      have ek := congrArg (AV.int .i64) (succ64 (k := k) (by omega))
      have s := rcId_spec x
      have w := within1_spec (x.id) L 9999
      rw [drop_cons hx] at hk2
      replace hk2 : incF 0 (l.map fun x => x.id) = (inB L 9999 (x.id) && incF (x.id + 1) ((l.drop (k + 1)).map fun x => x.id)) := hk2
      cases hb : inB L 9999 (x.id)
      · rw [hb] at w hk2
        exact ACode.vc (.br 11 true <| .cells (cRc x) <| .call (.int .i64 (x.id)) <| .lent (.bool false) [2] .nil) hn hl (.round .cl) ⟨ltLen hlt, idx hx, s, ⟨_, by kernel_rfl, .inl ⟨w, .inr rfl⟩⟩, _, .refl _, .nil, rB hk2.symm⟩
      · rw [hb] at w hk2
        rw [Bool.true_and] at hk2
        have hL1 : 0 ≤ IntKind.i64.wrap (x.id + 1) := by
          have := inB_iff.1 hb
          rw [wrap64 (by omega) (by omega)]; omega
        exact ACode.vc (.br 11 true <| .cells (cRc x) <| .call (.int .i64 (x.id)) <| .lent (.bool true) [2] <| .call (.int .i64 (x.id)) .nil) hn hl (.round .cl) ⟨ltLen hlt, idx hx, s, ⟨_, by kernel_rfl, .inl ⟨w, .inr rfl⟩⟩, s, (k + 1, IntKind.i64.wrap (x.id + 1)), ⟨⟨hlt, hL1⟩, by
            have hz : -9223372036854775808 ≤ x.id + 1 := by have := (inB_iff.1 hb).1; omega
            rw [show IntKind.i64.wrap (x.id + 1) = x.id + 1 from wrap64 hz (by have := (inB_iff.1 hb).2; omega)]; exact hk2⟩, mu1 hlt,
          St.le.of ⟨rfl, rfl, rfl, rfl, rfl, rfl, rfl, rfl, ek, rfl, trivial⟩ trivial⟩
    · have hk' : k = l.length := by omega
      have e : true = incF 0 (l.map fun x => x.id) := by rw [hk2, hk', List.drop_length]; rfl
      exact ACode.vc (.br 11 false .nil) hn hl (.round .cl) ⟨geLen hlt, _, .refl _, .nil, rB e⟩
theorem ltId_spec (x : Ltr) : APure Try.prog 77 [.agg (cLt x)] (.int .i64 x.id) := APure.vc Try.func77 rfl .nil rfl rfl (rI rfl)
theorem ltById_spec (l : List Ltr) (hlen : l.length ≤ 1000) : APure Try.prog 76 [encLs l, .fn (.func 77) [] []] (.bool (incF 0 (l.map fun x => x.id))) := by
  refine APure.vc Try.func76 rfl .loop rfl rfl ?_
  intro g hn hl
  replace hn : g.n = 27 := hn
  replace hl : g.low 0 := hl
  refine acode_while (fun k : Nat × Int => ⟨[(1, .fn (.func 77) [] []), (5, .int .i64 k.2), (8, encLs l), (9, .int .i64 (l.map cLt).length), (10, .int .i64 k.1)], [], 0⟩) (fun k => (k.1 ≤ l.length ∧ 0 ≤ k.2) ∧ incF 0 (l.map fun x => x.id) = incF k.2 ((l.drop k.1).map fun x => x.id)) (fun k => l.length - k.1) (0, 0) ⟨⟨Nat.zero_le _, Int.le_refl _⟩, rfl⟩ ?_ (fun _ _ => hl) ?_
  · exact St.le.of ⟨rfl, rfl, rfl, rfl, rfl, rfl, rfl, rfl, rfl, rfl, trivial⟩ trivial
  · rintro ⟨k, L⟩ ⟨⟨hk1, hL⟩, hk2⟩
    replace hk1 : k ≤ l.length := hk1
    replace hL : 0 ≤ L := hL
    replace hk2 : incF 0 (l.map fun x => x.id) = incF L ((l.drop k).map fun x => x.id) := hk2
    by_cases hlt : k < l.length
    · refine Exists.elim (getE hlt) fun x hx => ?_
      have ek := congrArg (AV.int .i64) (succ64 (k := k) (by omega))
      have s := ltId_spec x
      have w := within1_spec (x.id) L 9999
      rw [drop_cons hx] at hk2
      replace hk2 : incF 0 (l.map fun x => x.id) = (inB L 9999 (x.id) && incF (x.id + 1) ((l.drop (k + 1)).map fun x => x.id)) := hk2
      cases hb : inB L 9999 (x.id)
      · rw [hb] at w hk2
        exact ACode.vc (.br 11 true <| .cells (cLt x) <| .call (.int .i64 (x.id)) <| .lent (.bool false) [2] .nil) hn hl (.round .cl) ⟨ltLen hlt, idx hx, s, ⟨_, by kernel_rfl, .inl ⟨w, .inr rfl⟩⟩, _, .refl _, .nil, rB hk2.symm⟩
      · rw [hb] at w hk2
        rw [Bool.true_and] at hk2
        have hL1 : 0 ≤ IntKind.i64.wrap (x.id + 1) := by
          have := inB_iff.1 hb
          rw [wrap64 (by omega) (by omega)]; omega
        exact ACode.vc (.br 11 true <| .cells (cLt x) <| .call (.int .i64 (x.id)) <| .lent (.bool true) [2] <| .call (.int .i64 (x.id)) .nil) hn hl (.round .cl) ⟨ltLen hlt, idx hx, s, ⟨_, by kernel_rfl, .inl ⟨w, .inr rfl⟩⟩, s, (k + 1, IntKind.i64.wrap (x.id + 1)), ⟨⟨hlt, hL1⟩, by
            have hz : -9223372036854775808 ≤ x.id + 1 := by have := (inB_iff.1 hb).1; omega
            rw [show IntKind.i64.wrap (x.id + 1) = x.id + 1 from wrap64 hz (by have := (inB_iff.1 hb).2; omega)]; exact hk2⟩, mu1 hlt,
          St.le.of ⟨rfl, rfl, rfl, rfl, rfl, rfl, rfl, rfl, ek, rfl, trivial⟩ trivial⟩
    · have hk' : k = l.length := by omega
      have e : true = incF 0 (l.map fun x => x.id) := by rw [hk2, hk', List.drop_length]; rfl
      exact ACode.vc (.br 11 false .nil) hn hl (.round .cl) ⟨geLen hlt, _, .refl _, .nil, rB e⟩
theorem inId_spec (x : Int) : APure Try.prog 123 [.int .i64 x] (.int .i64 x) := APure.vc Try.func123 rfl .nil rfl rfl (rI rfl)
theorem inById_spec (l : List Int) (hlen : l.length ≤ 1000) : APure Try.prog 122 [encR l, .fn (.func 123) [] []] (.bool (incF 0 (l.map fun x => x))) := by
  refine APure.vc Try.func122 rfl .loop rfl rfl ?_
  intro g hn hl
  replace hn : g.n = 27 := hn
  replace hl : g.low 0 := hl
  refine acode_while (fun k : Nat × Int => ⟨[(1, .fn (.func 123) [] []), (5, .int .i64 k.2), (8, encR l), (9, .int .i64 (l.map encI).length), (10, .int .i64 k.1)], [], 0⟩) (fun k => (k.1 ≤ l.length ∧ 0 ≤ k.2) ∧ incF 0 (l.map fun x => x) = incF k.2 ((l.drop k.1).map fun x => x)) (fun k => l.length - k.1) (0, 0) ⟨⟨Nat.zero_le _, Int.le_refl _⟩, rfl⟩ ?_ (fun _ _ => hl) ?_
  · exact St.le.of ⟨rfl, rfl, rfl, rfl, rfl, rfl, rfl, rfl, rfl, rfl, trivial⟩ trivial
  · rintro ⟨k, L⟩ ⟨⟨hk1, hL⟩, hk2⟩
    replace hk1 : k ≤ l.length := hk1
    replace hL : 0 ≤ L := hL
    replace hk2 : incF 0 (l.map fun x => x) = incF L ((l.drop k).map fun x => x) := hk2
    by_cases hlt : k < l.length
    · refine Exists.elim (getE hlt) fun x hx => ?_
      have ek := congrArg (AV.int .i64) (succ64 (k := k) (by omega))
      have s := inId_spec x
      have w := within1_spec (x) L 9999
      rw [drop_cons hx] at hk2
      replace hk2 : incF 0 (l.map fun x => x) = (inB L 9999 (x) && incF (x + 1) ((l.drop (k + 1)).map fun x => x)) := hk2
      cases hb : inB L 9999 (x)
      · rw [hb] at w hk2
        exact ACode.vc (.br 11 true <| .cells (encI x) <| .call (.int .i64 (x)) <| .lent (.bool false) [0] .nil) hn hl (.round .cl) ⟨ltLen hlt, idx hx, s, ⟨_, by kernel_rfl, .inl ⟨w, .inr rfl⟩⟩, _, .refl _, .nil, rB hk2.symm⟩
      · rw [hb] at w hk2
        rw [Bool.true_and] at hk2
        have hL1 : 0 ≤ IntKind.i64.wrap (x + 1) := by
          have := inB_iff.1 hb
          rw [wrap64 (by omega) (by omega)]; omega
        exact ACode.vc (.br 11 true <| .cells (encI x) <| .call (.int .i64 (x)) <| .lent (.bool true) [0] <| .call (.int .i64 (x)) .nil) hn hl (.round .cl) ⟨ltLen hlt, idx hx, s, ⟨_, by kernel_rfl, .inl ⟨w, .inr rfl⟩⟩, s, (k + 1, IntKind.i64.wrap (x + 1)), ⟨⟨hlt, hL1⟩, by
            have hz : -9223372036854775808 ≤ x + 1 := by have := (inB_iff.1 hb).1; omega
            rw [show IntKind.i64.wrap (x + 1) = x + 1 from wrap64 hz (by have := (inB_iff.1 hb).2; omega)]; exact hk2⟩, mu1 hlt,
          St.le.of ⟨rfl, rfl, rfl, rfl, rfl, rfl, rfl, rfl, ek, rfl, trivial⟩ trivial⟩
    · have hk' : k = l.length := by omega
      have e : true = incF 0 (l.map fun x => x) := by rw [hk2, hk', List.drop_length]; rfl
      exact ACode.vc (.br 11 false .nil) hn hl (.round .cl) ⟨geLen hlt, _, .refl _, .nil, rB e⟩
theorem isWay_spec (w : List Int) (r : List Rcd) (hr : r.length ≤ 1000) : APure Try.prog 107 [encR w, encRs r] (.bool (wayB (idsR r) w)) := by
  have w0 := within1_spec ((w.map encI).length : Int) 1 4
  have o4 := oneTo_spec 4
  have hlen : ((w.map encI).length : Int) = w.length := by rw [List.length_map]
  cases h1 : inB 1 4 ((w.map encI).length : Int)
  · rw [h1] at w0
    rw [hlen] at h1
    exact APure.vc Try.func107 rfl (.call (.agg [.int .i64 1, .int .i64 4]) <| .lent (.bool false) [0] .nil) rfl rfl ⟨o4, ⟨_, by kernel_rfl, .inl ⟨w0, .inr rfl⟩⟩, rB (by simp [wayB, h1])⟩
  · rw [h1] at w0
    rw [hlen] at h1
    have hw4 := inB_iff.1 h1
    have sb := inById_spec w (by omega)
    rw [show (w.map fun x => x) = w by simp] at sb
    have si := areIn_spec r w hr (by omega)
    cases h2 : incF 0 w
    · rw [h2] at sb
      exact APure.vc Try.func107 rfl (.call (.agg [.int .i64 1, .int .i64 4]) <| .lent (.bool true) [0] <| .call (.bool false) .nil) rfl rfl ⟨o4, ⟨_, by kernel_rfl, .inl ⟨w0, .inr rfl⟩⟩, sb, rB (by simp [wayB, h2])⟩
    · rw [h2] at sb
      exact APure.vc Try.func107 rfl (.call (.agg [.int .i64 1, .int .i64 4]) <| .lent (.bool true) [0] <| .call (.bool true) <| .call (.bool (w.all fun i => (idsR r).contains i)) .nil) rfl rfl ⟨o4, ⟨_, by kernel_rfl, .inl ⟨w0, .inr rfl⟩⟩, sb, si, rB (by simp [wayB, h1, h2])⟩
theorem wrong_spec (w : List Int) (r : List Rcd) (hr : r.length ≤ 1000) : APure Try.prog 106 [encR w, .cptr [encRs r]] (.bool (noWay (idsR r) w)) :=
  APure.vc Try.func106 rfl (.call (.bool (wayB (idsR r) w)) .nil) rfl rfl ⟨isWay_spec w r hr, rB rfl⟩
theorem wyIdx_spec (l : List (List Int)) (r : List Rcd) (hr : r.length ≤ 1000) (hl : l.length ≤ 1000) : APure Try.prog 120 [encWs l, .fn (.func 106) [] [.cptr [encRs r]]] (.int .i64 (fndV (noWay (idsR r)) l)) := by
  refine APure.vc Try.func120 rfl .loop rfl rfl ?_
  intro g hn hl'
  replace hn : g.n = 19 := hn
  replace hl' : g.low 0 := hl'
  refine acode_while (fun k : Nat => ⟨[(0, encWs l), (1, .fn (.func 106) [] [.cptr [encRs r]]), (7, .int .i64 (l.map cW).length), (8, .int .i64 k)], [], 0⟩) (fun k => k ≤ l.length ∧ ∀ y ∈ l.take k, (noWay (idsR r)) y = false) (fun k => l.length - k) 0 ⟨Nat.zero_le _, fun y hy => by simp at hy⟩ ?_ (fun _ _ => hl') ?_
  · exact St.le.of ⟨rfl, rfl, rfl, rfl, rfl, rfl, rfl, rfl, trivial⟩ trivial
  · rintro k ⟨hk1, hk2⟩
    by_cases hlt : k < l.length
    · refine Exists.elim (getE hlt) fun x hx => ?_
      have ek := congrArg (AV.int .i64) (succ64 (k := k) (by omega))
      have s := wrong_spec x r hr
      cases hb : (noWay (idsR r)) x
      · rw [hb] at s
        exact ACode.vc (.br 9 true <| .cells (cW x) <| .call (.bool false) .nil) hn hl' (.round .cl) ⟨ltLen hlt, idx hx, s, k + 1, ⟨hlt, take_no hx hk2 hb⟩, mu1 hlt,
          St.le.of ⟨rfl, rfl, rfl, rfl, rfl, rfl, ek, rfl, trivial⟩ trivial⟩
      · rw [hb] at s
        exact ACode.vc (.br 9 true <| .cells (cW x) <| .call (.bool true) .nil) hn hl' (.round .cl) ⟨ltLen hlt, idx hx, s, _, .refl _, .nil, rI (fndV_hit hx hk2 hb).symm⟩
    · have hk' : k = l.length := by omega
      exact ACode.vc (.br 9 false .nil) hn hl' (.round .cl) ⟨geLen hlt, _, .refl _, .nil, rI (fndV_none (by rw [hk', List.take_length] at hk2; exact hk2)).symm⟩
theorem wyHas_spec (l : List (List Int)) (r : List Rcd) (hr : r.length ≤ 1000) (hl : l.length ≤ 1000) : APure Try.prog 98 [encWs l, .fn (.func 106) [] [.cptr [encRs r]]] (.bool (l.any (noWay (idsR r)))) := by
  have s := wyIdx_spec l r hr hl
  exact APure.vc Try.func98 rfl (.call (.int .i64 (fndV (noWay (idsR r)) l)) .nil) rfl rfl ⟨s, rB (fndV_any _ l)⟩
theorem any_not (ids : List Int) (l : List (List Int)) : (!l.any (noWay ids)) = l.all (wayB ids) := by
  induction l with
  | nil => rfl
  | cons a l ih => simp only [List.any_cons, List.all_cons, Bool.not_or, noWay, Bool.not_not, ← ih]
theorem waysB_spec (x : Rcd) (r : List Rcd) (hr : r.length ≤ 1000) : APure Try.prog 75 [encRc x, encRs r] (.bool (waysB (idsR r) x)) := by
  have o3 := oneTo_spec 3
  have hlen : ((x.ways.map cW).length : Int) = x.ways.length := by rw [List.length_map]
  have hk := x.kd.isLt
  by_cases k1 : x.kd.val = 1
  · have e1 : ((x.kd.val : Int) == 1) = true := by rw [k1]; rfl
    have er : (((x.ways.map cW).length : Int) == 0) = waysB (idsR r) x := by
      rw [hlen]; unfold waysB; rw [if_pos (.inl k1)]; exact decide_eq_decide.2 (by omega)
    exact APure.vc Try.func75 rfl (.br 8 true <| .br 8 true .nil) rfl rfl ⟨e1, e1, rB er⟩
  have n1 : ((x.kd.val : Int) == 1) = false := beq_eq_false_iff_ne.2 (by omega)
  by_cases k2 : x.kd.val = 2
  · have e1 : ((x.kd.val : Int) == 2) = true := by rw [k2]; rfl
    have er : (((x.ways.map cW).length : Int) == 0) = waysB (idsR r) x := by
      rw [hlen]; unfold waysB; rw [if_pos (.inr k2)]; exact decide_eq_decide.2 (by omega)
    exact APure.vc Try.func75 rfl (.br 8 false <| .br 8 true .nil) rfl rfl ⟨n1, e1, rB er⟩
  have n2 : ((x.kd.val : Int) == 2) = false := beq_eq_false_iff_ne.2 (by omega)
  have fin : x.kd.val = 3 ∨ x.kd.val = 4 → waysB (idsR r) x = (inB 1 3 x.ways.length && x.ways.all (wayB (idsR r))) := fun h => by
    unfold waysB; rw [if_neg (by omega), if_pos h]
  have w0 := within1_spec ((x.ways.map cW).length : Int) 1 3
  by_cases k3 : x.kd.val = 3
  · have e1 : ((x.kd.val : Int) == 3) = true := by rw [k3]; rfl
    have fin := fin (.inl k3)
    cases h1 : inB 1 3 ((x.ways.map cW).length : Int)
    · rw [h1] at w0
      rw [hlen] at h1
      exact APure.vc Try.func75 rfl (.br 8 false <| .br 8 false <| .br 15 true <| .br 15 true <| .draw 10 <| .call (.agg [.int .i64 1, .int .i64 3]) <| .lent (.bool false) [6] .nil) rfl rfl ⟨n1, n2, e1, e1, by kernel_rfl, mixed, by kernel_rfl, o3, ⟨_, by kernel_rfl, .inl ⟨w0, .inr rfl⟩⟩, by kernel_rfl, rB (by rw [fin, h1]; rfl)⟩
    · rw [h1] at w0
      rw [hlen] at h1
      have hw3 := inB_iff.1 h1
      have sw := wyHas_spec x.ways r hr (by omega)
      exact APure.vc Try.func75 rfl (.br 8 false <| .br 8 false <| .br 15 true <| .br 15 true <| .draw 10 <| .call (.agg [.int .i64 1, .int .i64 3]) <| .lent (.bool true) [6] <| .lent (.bool (x.ways.any (noWay (idsR r)))) [1] .nil) rfl rfl ⟨n1, n2, e1, e1, by kernel_rfl, mixed, by kernel_rfl, o3, ⟨_, by kernel_rfl, .inl ⟨w0, .inr rfl⟩⟩, by kernel_rfl, ⟨_, by kernel_rfl, .inl ⟨sw, .inr rfl⟩⟩, rB (by rw [fin, h1, any_not]; rfl)⟩
  have n3 : ((x.kd.val : Int) == 3) = false := beq_eq_false_iff_ne.2 (by omega)
  by_cases k4 : x.kd.val = 4
  · have e1 : ((x.kd.val : Int) == 4) = true := by rw [k4]; rfl
    have fin := fin (.inr k4)
    cases h1 : inB 1 3 ((x.ways.map cW).length : Int)
    · rw [h1] at w0
      rw [hlen] at h1
      exact APure.vc Try.func75 rfl (.br 8 false <| .br 8 false <| .br 15 false <| .br 15 true <| .draw 10 <| .call (.agg [.int .i64 1, .int .i64 3]) <| .lent (.bool false) [6] .nil) rfl rfl ⟨n1, n2, n3, e1, by kernel_rfl, mixed, by kernel_rfl, o3, ⟨_, by kernel_rfl, .inl ⟨w0, .inr rfl⟩⟩, by kernel_rfl, rB (by rw [fin, h1]; rfl)⟩
    · rw [h1] at w0
      rw [hlen] at h1
      have hw3 := inB_iff.1 h1
      have sw := wyHas_spec x.ways r hr (by omega)
      exact APure.vc Try.func75 rfl (.br 8 false <| .br 8 false <| .br 15 false <| .br 15 true <| .draw 10 <| .call (.agg [.int .i64 1, .int .i64 3]) <| .lent (.bool true) [6] <| .lent (.bool (x.ways.any (noWay (idsR r)))) [1] .nil) rfl rfl ⟨n1, n2, n3, e1, by kernel_rfl, mixed, by kernel_rfl, o3, ⟨_, by kernel_rfl, .inl ⟨w0, .inr rfl⟩⟩, by kernel_rfl, ⟨_, by kernel_rfl, .inl ⟨sw, .inr rfl⟩⟩, rB (by rw [fin, h1, any_not]; rfl)⟩
  have n4 : ((x.kd.val : Int) == 4) = false := beq_eq_false_iff_ne.2 (by omega)
  exact APure.vc Try.func75 rfl (.br 8 false <| .br 8 false <| .br 15 false <| .br 15 false .nil) rfl rfl ⟨n1, n2, n3, n4, rB (by unfold waysB; rw [if_neg (by omega), if_neg (by omega)])⟩
theorem slRc {h : Nat → Option AObj} {l : List Rcd} {k : Nat} (hk : k ≤ l.length) : (aSlice Try.prog h 22 (encRs l) none (some (.int .i64 (k : Int)))).map (fun v => (⟨v, []⟩ : Out)) = some ⟨encRs (l.take k), []⟩ := by
  simp only [encRs, aSlice, ty22, ty62, abound]
  simp [hk, List.map_take]
theorem waysI_all {r : List Rcd} : waysI [] r = allI (fun k x => waysB ((idsR r).take k) x) r := by
  rw [Bool.eq_iff_iff, waysI_iff, allI_iff]
  simp only [List.nil_append]
theorem idsR_take (r : List Rcd) (k : Nat) : idsR (r.take k) = (idsR r).take k := by unfold idsR; rw [List.map_take]
theorem areRecords_spec (r : List Rcd) : APure Try.prog 49 [encRs r] (.bool (recsB r)) := by
  have hlen : ((r.map cRc).length : Int) = r.length := by rw [List.length_map]
  by_cases h12 : r.length ≤ 12
  · have d7 : decide (((r.map cRc).length : Int) > 12) = false := decide_eq_false (by omega)
    have sb := rcById_spec r (by omega)
    cases h2 : incF 0 (r.map fun x => x.id)
    · rw [h2] at sb
      exact APure.vc Try.func49 rfl (.br 8 false <| .call (.bool false) .nil) rfl rfl ⟨d7, sb, rB (by unfold recsB idsR; rw [h2, Bool.and_false]; rfl)⟩
    · rw [h2] at sb
      have er : recsB r = allI (fun k x => waysB ((idsR r).take k) x) r := by
        unfold recsB; rw [waysI_all, show incF 0 (idsR r) = true from h2, decide_eq_true h12]; rfl
      rw [er]
      refine APure.vc Try.func49 rfl (.br 8 false <| .call (.bool true) .loop) rfl rfl ⟨d7, sb, ?_⟩
      intro g hn hl
      replace hn : g.n = 27 := hn
      replace hl : g.low 0 := hl
      refine acode_while (fun k : Nat => ⟨[(0, encRs r), (13, encRs r), (14, .int .i64 (r.map cRc).length), (15, .int .i64 k)], [], 0⟩) (fun k => k ≤ r.length ∧ allI (fun k x => waysB ((idsR r).take k) x) (r.take k) = true) (fun k => r.length - k) 0 ⟨Nat.zero_le _, rfl⟩ ?_ (fun _ _ => hl) ?_
      · exact St.le.of ⟨by kernel_rfl, rfl, by kernel_rfl, rfl, by kernel_rfl, rfl, by kernel_rfl, rfl, trivial⟩ trivial
      · rintro k ⟨hk1, hk2⟩
        by_cases hlt : k < r.length
        · refine Exists.elim (getE hlt) fun x hx => ?_
          have ek := congrArg (AV.int .i64) (succ64 (k := k) (by omega))
          have s := waysB_spec x (r.take k) (by rw [List.length_take]; omega)
          rw [idsR_take] at s
          have sl := slRc (h := hget []) (l := r) (k := k) hk1
          cases hb : waysB ((idsR r).take k) x
          · rw [hb] at s
            exact ACode.vc (.br 16 true <| .cells (cRc x) <| .draw 4 <| .val 23 (encRs (r.take k)) [] <| .call (.bool false) .nil) hn hl (.round .cl) ⟨ltLen hlt, idx hx, by kernel_rfl, mixed, by kernel_rfl, Eq.trans (by kernel_rfl) sl, by kernel_rfl, s, _, .refl _, .nil, rB (allI_bad hx hb).symm⟩
          · rw [hb] at s
            exact ACode.vc (.br 16 true <| .cells (cRc x) <| .draw 4 <| .val 23 (encRs (r.take k)) [] <| .call (.bool true) .nil) hn hl (.round .cl) ⟨ltLen hlt, idx hx, by kernel_rfl, mixed, by kernel_rfl, Eq.trans (by kernel_rfl) sl, by kernel_rfl, s, k + 1, ⟨hlt, by rw [allI_take hx, hk2, hb]; rfl⟩, mu1 hlt,
              St.le.of ⟨by kernel_rfl, rfl, by kernel_rfl, rfl, by kernel_rfl, rfl, Eq.trans (by kernel_rfl) ek, rfl, trivial⟩ trivial⟩
        · have hk' : k = r.length := by omega
          exact ACode.vc (.br 16 false .nil) hn hl (.round .cl) ⟨geLen hlt, _, .refl _, .nil, rB (by rw [hk', List.take_length] at hk2; exact hk2.symm)⟩
  · have d7 : decide (((r.map cRc).length : Int) > 12) = true := decide_eq_true (by omega)
    exact APure.vc Try.func49 rfl (.br 8 true .nil) rfl rfl ⟨d7, rB (by unfold recsB; rw [decide_eq_false h12]; rfl)⟩
theorem areLetters_spec (l : List Ltr) (r : List Rcd) (hr : r.length ≤ 1000) : APure Try.prog 50 [encLs l, encRs r] (.bool (letsB r l)) := by
  have hlen : ((l.map cLt).length : Int) = l.length := by rw [List.length_map]
  by_cases h12 : l.length ≤ 20
  · have d7 : decide (((l.map cLt).length : Int) > 20) = false := decide_eq_false (by omega)
    have sb := ltById_spec l (by omega)
    cases h2 : incF 0 (l.map fun x => x.id)
    · rw [h2] at sb
      exact APure.vc Try.func50 rfl (.br 11 false <| .call (.bool false) .nil) rfl rfl ⟨d7, sb, rB (by unfold letsB idsL; rw [h2, Bool.and_false]; rfl)⟩
    · rw [h2] at sb
      have er : letsB r l = l.all (letB r) := by
        unfold letsB; rw [show incF 0 (idsL l) = true from h2, decide_eq_true h12]; rfl
      rw [er]
      refine APure.vc Try.func50 rfl (.br 11 false <| .call (.bool true) .loop) rfl rfl ⟨d7, sb, ?_⟩
      intro g hn hl
      replace hn : g.n = 47 := hn
      replace hl : g.low 0 := hl
      refine acode_while (fun k : Nat => ⟨[(1, encRs r), (16, encLs l), (17, .int .i64 (l.map cLt).length), (18, .int .i64 k)], [], 0⟩) (fun k => k ≤ l.length ∧ (l.take k).all (letB r) = true) (fun k => l.length - k) 0 ⟨Nat.zero_le _, rfl⟩ ?_ (fun _ _ => hl) ?_
      · exact St.le.of ⟨by kernel_rfl, rfl, by kernel_rfl, rfl, by kernel_rfl, rfl, by kernel_rfl, rfl, trivial⟩ trivial
      · rintro k ⟨hk1, hk2⟩
        by_cases hlt : k < l.length
        · refine Exists.elim (getE hlt) fun x hx => ?_
          have ek := congrArg (AV.int .i64) (succ64 (k := k) (by omega))
          have wD := within1_spec x.day 0 100000
          have wK := within1_spec (IntKind.i64.wrap (x.kd.val : Int)) 1 2
          have hk9 := x.kd.isLt
          have eK : IntKind.i64.wrap (x.kd.val : Int) = (x.kd.val : Int) := wrap64 (by omega) (by omega)
          have sA := areIn_one r x.about hr
          have uD := upTo_spec 100000
          have bad : letB r x = false → some (AV.bool false) = some (AV.bool (l.all (letB r))) := fun h => by rw [all_bad hx h]
          cases c1 : inB 0 100000 x.day
          · rw [c1] at wD
            exact ACode.vc (.br 19 true <| .cells (cLt x) <| .draw 20 <| .call (.agg [.int .i64 0, .int .i64 100000]) <| .lent (.bool false) [7] .nil) hn hl (.round .cl) ⟨ltLen hlt, idx hx, by kernel_rfl, mixed, by kernel_rfl, uD, ⟨_, by kernel_rfl, .inl ⟨wD, .inr rfl⟩⟩, by kernel_rfl, _, .refl _, .nil, trivial, bad (by unfold letB; rw [c1]; rfl)⟩
          · rw [c1] at wD
            cases c2 : inB 1 2 (IntKind.i64.wrap (x.kd.val : Int))
            · rw [c2] at wK
              exact ACode.vc (.br 19 true <| .cells (cLt x) <| .draw 20 <| .call (.agg [.int .i64 0, .int .i64 100000]) <| .lent (.bool true) [7] <| .lent (.bool false) [15] .nil) hn hl (.round .cl) ⟨ltLen hlt, idx hx, by kernel_rfl, mixed, by kernel_rfl, uD, ⟨_, by kernel_rfl, .inl ⟨wD, .inr rfl⟩⟩, ⟨_, by kernel_rfl, .inl ⟨wK, .inr rfl⟩⟩, by kernel_rfl, _, .refl _, .nil, trivial, bad (by unfold letB; rw [eK] at c2; rw [c1, c2]; rfl)⟩
            · rw [c2] at wK
              cases c3 : (idsR r).contains x.about
              · rw [c3] at sA
                exact ACode.vc (.br 19 true <| .cells (cLt x) <| .draw 20 <| .call (.agg [.int .i64 0, .int .i64 100000]) <| .lent (.bool true) [7] <| .lent (.bool true) [15] <| .lent (.bool false) [23] .nil) hn hl (.round .cl) ⟨ltLen hlt, idx hx, by kernel_rfl, mixed, by kernel_rfl, uD, ⟨_, by kernel_rfl, .inl ⟨wD, .inr rfl⟩⟩, ⟨_, by kernel_rfl, .inl ⟨wK, .inr rfl⟩⟩, by kernel_rfl, ⟨_, by kernel_rfl, .inl ⟨sA, .inr rfl⟩⟩, _, .refl _, .nil, trivial, bad (by unfold letB; rw [c3, Bool.and_false])⟩
              · rw [c3] at sA
                have good : (l.take (k + 1)).all (letB r) = true := by rw [take_all hx, hk2]; unfold letB; rw [eK] at c2; rw [c1, c2, c3]; rfl
                exact ACode.vc (.br 19 true <| .cells (cLt x) <| .draw 20 <| .call (.agg [.int .i64 0, .int .i64 100000]) <| .lent (.bool true) [7] <| .lent (.bool true) [15] <| .lent (.bool true) [23] .nil) hn hl (.round .cl) ⟨ltLen hlt, idx hx, by kernel_rfl, mixed, by kernel_rfl, uD, ⟨_, by kernel_rfl, .inl ⟨wD, .inr rfl⟩⟩, ⟨_, by kernel_rfl, .inl ⟨wK, .inr rfl⟩⟩, by kernel_rfl, ⟨_, by kernel_rfl, .inl ⟨sA, .inr rfl⟩⟩, k + 1, ⟨hlt, good⟩, mu1 hlt,
                  St.le.of ⟨by kernel_rfl, rfl, by kernel_rfl, rfl, by kernel_rfl, rfl, Eq.trans (by kernel_rfl) ek, rfl, trivial⟩ trivial⟩
        · have hk' : k = l.length := by omega
          exact ACode.vc (.br 19 false .nil) hn hl (.round .cl) ⟨geLen hlt, _, .refl _, .nil, rB (by rw [hk', List.take_length] at hk2; exact hk2.symm)⟩
  · have d7 : decide (((l.map cLt).length : Int) > 20) = true := decide_eq_true (by omega)
    exact APure.vc Try.func50 rfl (.br 11 true .nil) rfl rfl ⟨d7, rB (by unfold letsB; rw [decide_eq_false h12]; rfl)⟩
theorem Check_spec (r : List Rcd) (l : List Ltr) : APure Try.prog 14 [encRs r, encLs l] (.int .i64 (checkV r l)) := by
  have s1 := areRecords_spec r
  cases h1 : recsB r
  · rw [h1] at s1
    exact APure.vc Try.func14 rfl (.call (.bool false) .nil) rfl rfl ⟨s1, rI (by simp [checkV, h1])⟩
  · rw [h1] at s1
    have s2 := areLetters_spec l r (by have := (recs_nodup h1).2.2; omega)
    cases h2 : letsB r l
    · rw [h2] at s2
      exact APure.vc Try.func14 rfl (.call (.bool true) <| .call (.bool false) .nil) rfl rfl ⟨s1, s2, rI (by simp [checkV, h1, h2])⟩
    · rw [h2] at s2
      exact APure.vc Try.func14 rfl (.call (.bool true) <| .call (.bool true) .nil) rfl rfl ⟨s1, s2, rI (by simp [checkV, h1, h2])⟩
end Go.Proofs.Ytmdhgkfjlphliaa
