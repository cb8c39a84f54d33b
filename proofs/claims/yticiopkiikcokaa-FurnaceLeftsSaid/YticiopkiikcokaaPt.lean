import Derived.Test.YticiopkiikcokaaPs
import Derived.Test.YticiopkiikcokaaPn
import Derived.Test.YticiopkiikcokaaPw
namespace Go.Proofs.Yticiopkiikcokaa
open Go Go.Am Go.Srt
set_option maxHeartbeats 8000000 in
set_option maxRecDepth 100000 in
theorem rLeft_spec (r : Rn) (u : Ru) : APure Try.prog 26 [encRn r, encRu u] (leftV r u) := by
  have s := rCheck_spec r u
  unfold leftV
  by_cases hC : checkI r u = 0
  · rw [if_pos hC]
    rw [hC] at s
    obtain ⟨h1, h2⟩ := checkI_ok hC
    have sL := rleft_spec (runB_out h1) (rulesB_out h2)
    generalize leftL r u = l at sL ⊢
    exact APure.vc Try.func26 rfl (.call (.int .i64 0) <| .br 11 false <| .call (.lst 4 (l.map encBr)) .nil) rfl rfl ⟨s, rfl, sL, trivial, rfl⟩
  · rw [if_neg hC]
    generalize checkI r u = C at s hC ⊢
    have e : (C != 0) = true := by simp [hC]
    exact APure.vc Try.func26 rfl (.call (.int .i64 C) <| .br 11 true .nil) rfl rfl ⟨s, e, trivial, rfl⟩
set_option maxHeartbeats 8000000 in
set_option maxRecDepth 100000 in
theorem rCounts_spec (r : Rn) (u : Ru) : APure Try.prog 30 [encRn r, encRu u] (countV r u) := by
  have s := rCheck_spec r u
  unfold countV
  by_cases hC : checkI r u = 0
  · rw [if_pos hC]
    rw [hC] at s
    obtain ⟨h1, h2⟩ := checkI_ok hC
    have hr := runB_out h1
    have hrl := hr.rl
    have sL := rleft_spec hr (rulesB_out h2)
    rw [count_eq]
    have ho := fun b (hb : b ∈ leftL r u) => left_out hb
    generalize leftL r u = l at sL ho ⊢
    cases l with
    | nil =>
      have e : some (AV.tup [.int .i64 ((r.rows.map encRw).length : Int), .int .i64 0]) = some (.tup [.int .i64 (r.rows.length : Int), .int .i64 0]) := by rw [List.length_map]
      exact APure.vc Try.func30 rfl (.call (.int .i64 0) <| .br 12 false <| .call (.lst 4 (([] : List Br).map encBr)) <| .br 19 false .nil) rfl rfl ⟨s, rfl, sL, rfl, trivial, Eq.trans (by kernel_rfl) e⟩
    | cons a l =>
      have hb := ho a List.mem_cons_self
      have d : decide ((((a :: l).map encBr).length : Int) > 0) = true := decide_eq_true (by rw [List.length_map, List.length_cons]; omega)
      have hi : 0 ≤ (0 : Int) ∧ ((a :: l).map encBr)[(0 : Int).toNat]? = some (encBr a) := ⟨by omega, rfl⟩
      have e : some (AV.tup [.int .i64 (IntKind.i64.wrap (a.m - 1)), .int .i64 0]) = some (.tup [.int .i64 (a.m - 1), .int .i64 0]) := by rw [wrap64 (by omega) (by omega)]
      exact APure.vc Try.func30 rfl (.call (.int .i64 0) <| .br 12 false <| .call (.lst 4 ((a :: l).map encBr)) <| .br 19 true <| .cells (encBr a) .nil) rfl rfl ⟨s, rfl, sL, d, hi, trivial, Eq.trans (by kernel_rfl) e⟩
  · rw [if_neg hC]
    generalize checkI r u = C at s hC ⊢
    have e : (C != 0) = true := by simp [hC]
    exact APure.vc Try.func30 rfl (.call (.int .i64 C) <| .br 12 true .nil) rfl rfl ⟨s, e, trivial, rfl⟩
/-- In order: what is late comes last. -/
theorem left_mono {r : Rn} (hr : RunOk r) {u : Ru} {i j : Nat} {a b : Br} (ha : (leftL r u)[i]? = some a) (hb : (leftL r u)[j]? = some b) (h : i ≤ j) : a.m ≤ b.m := by
  rcases Nat.eq_or_lt_of_le h with rfl | h
  · rw [ha] at hb; cases hb; omega
  · obtain ⟨hi, e1⟩ := List.getElem?_eq_some_iff.1 ha
    obtain ⟨hj, e2⟩ := List.getElem?_eq_some_iff.1 hb
    have hs := (List.pairwise_iff_getElem.1 (left_sorted hr u)) i j hi hj h
    rw [e1, e2, ltBr_iff] at hs; omega
/-- What is known before a breach that was not looked at yet. -/
def kSt (l : List Br) (_t : Int) (k : Nat) : Int × Int := if k = 0 then (2, 0) else (1, match l[0]? with | some b => b.m | none => 0)
theorem kSt_end {r : Rn} (hr : RunOk r) {u : Ru} {t : Int} {k : Nat} (hb : ∀ (i : Nat) a, i < k → (leftL r u)[i]? = some a → a.m ≤ t ∧ (a.n == 2) = false) (hk : k ≤ (leftL r u).length) (he : k = (leftL r u).length ∨ ∃ b, (leftL r u)[k]? = some b ∧ b.m > t) :
    kPair (leftL r u) t = kSt (leftL r u) t k := by
  have late : ∀ (i : Nat) a, k ≤ i → (leftL r u)[i]? = some a → p1 t a = false := fun i a hi ha => by
    rcases he with he | ⟨b, hb', hbt⟩
    · obtain ⟨h, _⟩ := List.getElem?_eq_some_iff.1 ha; omega
    · have := left_mono hr hb' ha hi
      have h2 : a.m > t := by omega
      simp [p1, h2]
  have no2 : (leftL r u).find? (p2 t) = none := by
    refine find_no (Nat.le_refl _) fun i a _ ha => ?_
    by_cases h : i < k
    · unfold p2; rw [(hb i a h ha).2, Bool.and_false]
    · unfold p2; rw [late i a (by omega) ha]; rfl
  unfold kPair kSt
  rw [find2, find1, no2]
  simp only
  by_cases h0 : k = 0
  · rw [if_pos h0, find_no (Nat.le_refl _) fun i a _ ha => late i a (by omega) ha]
  · rw [if_neg h0]
    obtain ⟨b, hb0⟩ := getE (show 0 < (leftL r u).length by omega)
    have hp : p1 t b = true := by
      have := (hb 0 b (by omega) hb0).1
      have h2 : ¬ b.m > t := by omega
      simp [p1, h2]
    rw [find_at hb0 hp fun i a hi => absurd hi (Nat.not_lt_zero _), hb0]
theorem kSt_two {r : Rn} (_hr : RunOk r) {u : Ru} {t : Int} {k : Nat} {b : Br} (hb : ∀ (i : Nat) a, i < k → (leftL r u)[i]? = some a → a.m ≤ t ∧ (a.n == 2) = false) (h : (leftL r u)[k]? = some b) (h1 : b.m ≤ t) (h2 : (b.n == 2) = true) : kPair (leftL r u) t = (0, b.m) := by
  unfold kPair
  rw [find2, find_at h (p := p2 t) (by
    have h3 : ¬ b.m > t := by omega
    unfold p2 p1; rw [h2]; simp [h3]) fun i a hi ha => by unfold p2; rw [(hb i a hi ha).2, Bool.and_false]]
end Go.Proofs.Yticiopkiikcokaa
namespace Go.Proofs.Yticiopkiikcokaa
open Go Go.Am Go.Srt
set_option maxHeartbeats 16000000 in
set_option maxRecDepth 100000 in
theorem rKept_spec (r : Rn) (u : Ru) (t : Int) : APure Try.prog 28 [encRn r, encRu u, .int .i64 t] (keptV r u t) := by
  have s := rCheck_spec r u
  unfold keptV
  by_cases hC : checkI r u = 0
  · rw [if_pos hC]
    rw [hC] at s
    obtain ⟨h1, h2⟩ := checkI_ok hC
    have hr := runB_out h1
    have hrl := hr.rl
    have sL := rleft_spec hr (rulesB_out h2)
    have hlen := leftL_len hr u
    have sW := rwithin_spec t 0 r.rows.length
    have sW' : APure Try.prog 48 [.int .i64 t, .int .i64 0, .int .i64 ((r.rows.map encRw).length : Int)] (.bool (within t 0 r.rows.length)) := by rw [List.length_map]; exact sW
    by_cases hw : within t 0 r.rows.length = true
    · rw [if_pos hw]
      rw [hw] at sW'
      have hend := fun k hb hk he => kSt_end hr (u := u) (t := t) (k := k) hb hk he
      have htwo := fun k b hb h h1 h2 => kSt_two hr (u := u) (t := t) (k := k) (b := b) hb h h1 h2
      generalize leftL r u = l at *
      refine APure.vc Try.func28 rfl (.call (.int .i64 0) <| .br 18 false <| .call (.bool true) <| .call (.lst 4 (l.map encBr)) .loop) rfl rfl ⟨s, rfl, sW', sL, ?_⟩
      clear s sW sW' sL hC h1 h2
      intro g hn hl
      replace hn : g.n = 62 := hn
      replace hl : g.low 0 := hl
      refine acode_while (fun k : Nat => ⟨[(2, .int .i64 t), (10, .int .u8 (kSt l t k).1), (11, .int .i64 (kSt l t k).2), (12, .lst 4 (l.map encBr)), (13, .int .i64 (k : Int))], [], 0⟩)
        (fun k => k ≤ l.length ∧ ∀ (i : Nat) a, i < k → l[i]? = some a → a.m ≤ t ∧ (a.n == 2) = false) (fun k => l.length - k) 0 ⟨Nat.zero_le _, fun i a hi => absurd hi (Nat.not_lt_zero _)⟩ ?_ (fun _ _ => hl) ?_
      · exact St.le.of ⟨rfl, rfl, rfl, rfl, rfl, rfl, rfl, rfl, rfl, rfl, trivial⟩ trivial
      · rintro k ⟨hk1, hk2⟩
        by_cases hlt : k < l.length
        · refine Exists.elim (getE hlt) fun b hb => ?_
          have ek := congrArg (AV.int .i64) (succ64 (k := k) (by omega))
          by_cases hbt : b.m > t
          · have e := hend k hk2 hk1 (.inr ⟨b, hb, hbt⟩)
            have eF : some (AV.tup [.int .u8 (kSt l t k).1, .int .i64 (kSt l t k).2, .int .i64 0]) = some (kTup (kPair l t) 0) := by rw [e]; rfl
            exact ACode.vc (.br 32 true <| .cells (encBr b) <| .br 41 true .nil) hn hl (.round .cl) ⟨ltLen hlt, idx hb, decide_eq_true hbt, _, .refl _, .nil, trivial, Eq.trans (by kernel_rfl) eF⟩
          · have d41 : decide (b.m > t) = false := decide_eq_false hbt
            have hle : b.m ≤ t := by omega
            have yes : (b.n == 2) = true → some (AV.tup [.int .u8 0, .int .i64 b.m, .int .i64 0]) = some (kTup (kPair l t) 0) := fun h => by rw [htwo k b hk2 hb hle h]; rfl
            have next : (b.n == 2) = false → ∀ (i : Nat) a, i < k + 1 → l[i]? = some a → a.m ≤ t ∧ (a.n == 2) = false := fun h i a hi ha => by
              rcases Nat.lt_succ_iff_lt_or_eq.1 hi with h' | rfl
              · exact hk2 i a h' ha
              · rw [hb] at ha; cases ha; exact ⟨hle, h⟩
            by_cases h0 : k = 0
            · subst h0
              have q1 : AV.int .i64 b.m = .int .i64 (kSt l t (0 + 1)).2 := by unfold kSt; rw [if_neg (by omega), hb]
              exact ACode.vc (.br 32 true <| .cells (encBr b) <| .br 41 false <| .br 43 true <| .draw 6 <| .cells (encBr b) <| .cells (encBr b) <| .both 54 (.draw 6 <| .cells (encBr b) .nil) .nil) hn hl (.round .cl)
                ⟨ltLen hlt, idx hb, d41, rfl, by kernel_rfl, mixed, by kernel_rfl, idx hb, by kernel_rfl, idx hb, fun h => ⟨by kernel_rfl, mixed, by kernel_rfl, idx hb, by kernel_rfl, _, .refl _, .nil, trivial, Eq.trans (by kernel_rfl) (yes h)⟩,
                  fun h => ⟨0 + 1, ⟨hlt, next h⟩, mu1 hlt, St.le.of ⟨rfl, rfl, rfl, rfl, q1, rfl, rfl, rfl, ek, rfl, trivial⟩ trivial⟩⟩
            · have e43 : ((kSt l t k).1 == 2) = false := by unfold kSt; rw [if_neg h0]; rfl
              have eq : kSt l t k = kSt l t (k + 1) := by unfold kSt; rw [if_neg h0, if_neg (by omega)]
              have q0 := congrArg (fun z : Int × Int => AV.int .u8 z.1) eq
              have q1 := congrArg (fun z : Int × Int => AV.int .i64 z.2) eq
              exact ACode.vc (.br 32 true <| .cells (encBr b) <| .br 41 false <| .br 43 false <| .cells (encBr b) <| .both 54 (.draw 6 <| .cells (encBr b) .nil) .nil) hn hl (.round .cl)
                ⟨ltLen hlt, idx hb, d41, e43, idx hb, fun h => ⟨by kernel_rfl, mixed, by kernel_rfl, idx hb, by kernel_rfl, _, .refl _, .nil, trivial, Eq.trans (by kernel_rfl) (yes h)⟩,
                  fun h => ⟨k + 1, ⟨hlt, next h⟩, mu1 hlt, St.le.of ⟨rfl, rfl, q0, rfl, q1, rfl, rfl, rfl, ek, rfl, trivial⟩ trivial⟩⟩
        · have e := hend k hk2 hk1 (.inl (by omega))
          have eF : some (AV.tup [.int .u8 (kSt l t k).1, .int .i64 (kSt l t k).2, .int .i64 0]) = some (kTup (kPair l t) 0) := by rw [e]; rfl
          exact ACode.vc (.br 32 false .nil) hn hl (.round .cl) ⟨geLen hlt, _, .refl _, .nil, trivial, Eq.trans (by kernel_rfl) eF⟩
    · rw [if_neg hw]
      have hw' : within t 0 r.rows.length = false := by simpa using hw
      rw [hw'] at sW'
      exact APure.vc Try.func28 rfl (.call (.int .i64 0) <| .br 18 false <| .call (.bool false) .nil) rfl rfl ⟨s, rfl, sW', trivial, rfl⟩
  · rw [if_neg hC]
    generalize checkI r u = C at s hC ⊢
    have e : (C != 0) = true := by simp [hC]
    exact APure.vc Try.func28 rfl (.call (.int .i64 C) <| .br 18 true .nil) rfl rfl ⟨s, e, trivial, rfl⟩
theorem keptV_tup (r : Rn) (u : Ru) (t : Int) : ∃ a b e : Int, keptV r u t = .tup [.int .u8 a, .int .i64 b, .int .i64 e] := by
  unfold keptV
  split
  · split
    · exact ⟨_, _, _, rfl⟩
    · exact ⟨_, _, _, rfl⟩
  · exact ⟨_, _, _, rfl⟩
theorem countV_tup (r : Rn) (u : Ru) : ∃ a e : Int, countV r u = .tup [.int .i64 a, .int .i64 e] := by
  unfold countV
  split
  · exact ⟨_, _, rfl⟩
  · exact ⟨_, _, rfl⟩
theorem sameNil : APure Try.prog 31 [.nil, .nil] (.bool true) := APure.weak (ys := [.lst 4 [], .lst 4 []]) ⟨.nil 4, .nil 4, trivial⟩ (sameBr_spec [] (by simp))
theorem leftV_tup (r : Rn) (u : Ru) : ∃ (x : AV) (e : Int), leftV r u = .tup [x, .int .i64 e] ∧ x.ok 0 = true ∧ APure Try.prog 31 [x, x] (.bool true) := by
  unfold leftV
  split
  · rename_i h
    exact ⟨_, _, rfl, rfl, sameBr_spec _ (by have := leftL_len (runB_out (checkI_ok h).1) u; omega)⟩
  · exact ⟨_, _, rfl, rfl, sameNil⟩
theorem small_steps {r : Rn} {u : Ru} (h : smallB r u = true) : u.steps.length ≤ 10 := by
  simp only [smallB, Bool.and_eq_true, decide_eq_true_eq] at h
  exact h.2.2.2.1
end Go.Proofs.Yticiopkiikcokaa
