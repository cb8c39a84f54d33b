/-
  WHAT IS VALID OF HEADS AND HEAT; WHEN BULBS BURST.
-/
import Derived.Test.YtcbdggmojnnbdaaDoorS0
import Derived.Test.YtcbdggmojnnbdaaDoorSp1
namespace Go.Proofs.YtcbdggmojnnbdaaDoor
open Go Go.Am
set_option maxRecDepth 100000
set_option maxHeartbeats 4000000
theorem within_spec (L : List Int) (lo hi : Int) (hL : L.length ≤ 1000000) : APure Tryd.prog 70 [.agg [.int .i64 lo, .int .i64 hi], .lst 1 (L.map encI)] (.bool (L.all (inB lo hi))) := by
  refine APure.vc Tryd.func70 rfl .loop rfl rfl ?_
  intro g hn hl
  replace hn : g.n = 24 := hn
  replace hl : g.low 0 := hl
  refine acode_while (fun k : Nat => ⟨[(2, .vptr 0 0), (7, .lst 1 (L.map encI)), (8, .int .i64 (L.map encI).length), (9, .int .i64 k)], [(0, .cells [.int .i64 lo, .int .i64 hi])], 1⟩) (fun k => k ≤ L.length ∧ (L.take k).all (inB lo hi) = true) (fun k => L.length - k) 0 ⟨Nat.zero_le _, rfl⟩ ?_ (fun _ _ => hl.mono (Nat.zero_le _)) ?_
  · exact St.le.of ⟨rfl, rfl, rfl, rfl, rfl, rfl, rfl, rfl, trivial⟩ ⟨rfl, (by decide : (0 : Nat) < 1), rfl, trivial⟩
  · rintro k ⟨hk1, hk2⟩
    by_cases hlt : k < L.length
    · refine Exists.elim (getE hlt) fun x hx => ?_
      have ek := congrArg (AV.int .i64) (succ64 (k := k) (by omega))
      have b1 : decide (x < lo) = true → L.all (inB lo hi) = false := fun h => all_bad hx (by simp at h; simp [inB]; omega)
      have b2 : decide (x > hi) = true → L.all (inB lo hi) = false := fun h => all_bad hx (by simp at h; simp [inB]; omega)
      have b3 : decide (x < lo) = false → decide (x > hi) = false → (L.take (k + 1)).all (inB lo hi) = true := fun h h' => by
        rw [take_all hx, hk2]; simp at h h'; simp [inB]; omega
      exact ACode.vc (.br 10 true <| .cells (encI x) <| .both 17 .nil (.both 22 .nil .nil)) hn hl (.round .cl)
        ⟨ltLen hlt, idx hx, fun h => ⟨_, .refl _, .nil, rB (b1 h).symm⟩, fun h => ⟨fun h' => ⟨_, .refl _, .nil, rB (b2 h').symm⟩, fun h' => ⟨k + 1, ⟨hlt, b3 h h'⟩, mu1 hlt,
          St.le.of ⟨rfl, rfl, rfl, rfl, rfl, rfl, ek, rfl, trivial⟩ ⟨rfl, (by decide : (0 : Nat) < 1), rfl, trivial⟩⟩⟩⟩
    · have hk' : k = L.length := by omega
      have e : true = L.all (inB lo hi) := by rw [hk', List.take_length] at hk2; exact hk2.symm
      exact ACode.vc (.br 10 false .nil) hn hl (.round .cl) ⟨geLen hlt, _, .refl _, .nil, rB e⟩
theorem within1_spec (x lo hi : Int) : APure Tryd.prog 70 [.agg [.int .i64 lo, .int .i64 hi], .lst 1 [encI x]] (.bool (inB lo hi x)) := by
  have := within_spec [x] lo hi (by simp); simpa using this
theorem upTo_spec (n : Int) : APure Tryd.prog 71 [.int .i64 n] (.agg [.int .i64 0, .int .i64 n]) := APure.vc Tryd.func71 rfl .nil rfl rfl ⟨trivial, rfl⟩
theorem oneTo_spec (n : Int) : APure Tryd.prog 74 [.int .i64 n] (.agg [.int .i64 1, .int .i64 n]) := APure.vc Tryd.func74 rfl .nil rfl rfl ⟨trivial, rfl⟩
theorem isSpan_spec (lo hi m : Int) : APure Tryd.prog 75 [.agg [.int .i64 lo, .int .i64 hi], .int .i64 m] (.bool (spB lo hi m)) := by
  have u := upTo_spec m
  have w : APure Tryd.prog 70 [.agg [.int .i64 0, .int .i64 m], .lst 1 [encI lo, encI hi]] (.bool (inB 0 m lo && inB 0 m hi)) := by
    have := within_spec [lo, hi] 0 m (by simp); simpa using this
  cases h : (inB 0 m lo && inB 0 m hi)
  · rw [h] at w
    exact APure.vc Tryd.func75 rfl (.draw 13 <| .call (.agg [.int .i64 0, .int .i64 m]) <| .lent (.bool false) [7] .nil) rfl rfl
      ⟨by kernel_rfl, mixed, by kernel_rfl, u, ⟨_, by kernel_rfl, .inl ⟨w, .inr rfl⟩⟩, by kernel_rfl, rB (by symm; simp [inB] at h; simp [spB]; omega)⟩
  · rw [h] at w
    exact APure.vc Tryd.func75 rfl (.draw 13 <| .call (.agg [.int .i64 0, .int .i64 m]) <| .lent (.bool true) [7] .nil) rfl rfl
      ⟨by kernel_rfl, mixed, by kernel_rfl, u, ⟨_, by kernel_rfl, .inl ⟨w, .inr rfl⟩⟩, by kernel_rfl, rB (by simp [inB] at h; exact decide_eq_decide.2 (by omega))⟩
theorem isHead_spec (h : Hh) (n : Int) : APure Tryd.prog 49 [encHh h, .int .i64 n] (.bool (headB n h)) := by
  have w1 := within1_spec h.id 0 9999
  have w2 := within1_spec h.node 1 n
  have w3 := within1_spec h.need 1 500
  have w4 := within1_spec h.least 0 100000
  have s5 := isSpan_spec h.bLo h.bHi 2000
  have s6 := isSpan_spec h.sLo h.sHi 10
  cases h1 : inB 0 9999 h.id
  · rw [h1] at w1
    exact APure.vc Tryd.func49 rfl (.draw 25 <| .call (.agg [.int .i64 0, .int .i64 9999]) <| .lent (.bool false) [4] <| .nil) rfl rfl
      ⟨by kernel_rfl, mixed, by kernel_rfl, upTo_spec _, ⟨_, by kernel_rfl, .inl ⟨w1, .inr rfl⟩⟩, by kernel_rfl, rB (by simp [headB, bulbB, h1])⟩
  · rw [h1] at w1
    cases h2 : inB 1 n h.node
    · rw [h2] at w2
      exact APure.vc Tryd.func49 rfl (.draw 25 <| .call (.agg [.int .i64 0, .int .i64 9999]) <| .lent (.bool true) [4] <| .call (.agg [.int .i64 1, .int .i64 n]) <| .lent (.bool false) [11] <| .nil) rfl rfl
        ⟨by kernel_rfl, mixed, by kernel_rfl, upTo_spec _, ⟨_, by kernel_rfl, .inl ⟨w1, .inr rfl⟩⟩, oneTo_spec _, ⟨_, by kernel_rfl, .inl ⟨w2, .inr rfl⟩⟩, by kernel_rfl, rB (by simp [headB, bulbB, h1, h2])⟩
    · rw [h2] at w2
      cases h3 : inB 1 500 h.need
      · rw [h3] at w3
        exact APure.vc Tryd.func49 rfl (.draw 25 <| .call (.agg [.int .i64 0, .int .i64 9999]) <| .lent (.bool true) [4] <| .call (.agg [.int .i64 1, .int .i64 n]) <| .lent (.bool true) [11] <| .call (.agg [.int .i64 1, .int .i64 500]) <| .lent (.bool false) [18] <| .nil) rfl rfl
          ⟨by kernel_rfl, mixed, by kernel_rfl, upTo_spec _, ⟨_, by kernel_rfl, .inl ⟨w1, .inr rfl⟩⟩, oneTo_spec _, ⟨_, by kernel_rfl, .inl ⟨w2, .inr rfl⟩⟩, oneTo_spec _, ⟨_, by kernel_rfl, .inl ⟨w3, .inr rfl⟩⟩, by kernel_rfl, rB (by simp [headB, bulbB, h1, h2, h3])⟩
      · rw [h3] at w3
        cases h4 : inB 0 100000 h.least
        · rw [h4] at w4
          exact APure.vc Tryd.func49 rfl (.draw 25 <| .call (.agg [.int .i64 0, .int .i64 9999]) <| .lent (.bool true) [4] <| .call (.agg [.int .i64 1, .int .i64 n]) <| .lent (.bool true) [11] <| .call (.agg [.int .i64 1, .int .i64 500]) <| .lent (.bool true) [18] <| .call (.agg [.int .i64 0, .int .i64 100000]) <| .lent (.bool false) [25] <| .nil) rfl rfl
            ⟨by kernel_rfl, mixed, by kernel_rfl, upTo_spec _, ⟨_, by kernel_rfl, .inl ⟨w1, .inr rfl⟩⟩, oneTo_spec _, ⟨_, by kernel_rfl, .inl ⟨w2, .inr rfl⟩⟩, oneTo_spec _, ⟨_, by kernel_rfl, .inl ⟨w3, .inr rfl⟩⟩, upTo_spec _, by kernel_rfl, ⟨_, by kernel_rfl, .inl ⟨w4, .inr rfl⟩⟩, rB (by simp [headB, bulbB, h1, h2, h3, h4])⟩
        · rw [h4] at w4
          cases h5 : spB h.bLo h.bHi 2000
          · rw [h5] at s5
            exact APure.vc Tryd.func49 rfl (.draw 25 <| .call (.agg [.int .i64 0, .int .i64 9999]) <| .lent (.bool true) [4] <| .call (.agg [.int .i64 1, .int .i64 n]) <| .lent (.bool true) [11] <| .call (.agg [.int .i64 1, .int .i64 500]) <| .lent (.bool true) [18] <| .call (.agg [.int .i64 0, .int .i64 100000]) <| .lent (.bool true) [25] <| .call (.bool false) <| .nil) rfl rfl
              ⟨by kernel_rfl, mixed, by kernel_rfl, upTo_spec _, ⟨_, by kernel_rfl, .inl ⟨w1, .inr rfl⟩⟩, oneTo_spec _, ⟨_, by kernel_rfl, .inl ⟨w2, .inr rfl⟩⟩, oneTo_spec _, ⟨_, by kernel_rfl, .inl ⟨w3, .inr rfl⟩⟩, upTo_spec _, by kernel_rfl, ⟨_, by kernel_rfl, .inl ⟨w4, .inr rfl⟩⟩, s5, rB (by simp [headB, bulbB, h1, h2, h3, h4, h5])⟩
          · rw [h5] at s5
            cases h6 : spB h.sLo h.sHi 10
            · rw [h6] at s6
              exact APure.vc Tryd.func49 rfl (.draw 25 <| .call (.agg [.int .i64 0, .int .i64 9999]) <| .lent (.bool true) [4] <| .call (.agg [.int .i64 1, .int .i64 n]) <| .lent (.bool true) [11] <| .call (.agg [.int .i64 1, .int .i64 500]) <| .lent (.bool true) [18] <| .call (.agg [.int .i64 0, .int .i64 100000]) <| .lent (.bool true) [25] <| .call (.bool true) <| .call (.bool false) <| .nil) rfl rfl
                ⟨by kernel_rfl, mixed, by kernel_rfl, upTo_spec _, ⟨_, by kernel_rfl, .inl ⟨w1, .inr rfl⟩⟩, oneTo_spec _, ⟨_, by kernel_rfl, .inl ⟨w2, .inr rfl⟩⟩, oneTo_spec _, ⟨_, by kernel_rfl, .inl ⟨w3, .inr rfl⟩⟩, upTo_spec _, by kernel_rfl, ⟨_, by kernel_rfl, .inl ⟨w4, .inr rfl⟩⟩, s5, s6, rB (by simp [headB, bulbB, h1, h2, h3, h4, h5, h6])⟩
            · rw [h6] at s6
              exact APure.vc Tryd.func49 rfl (.draw 25 <| .call (.agg [.int .i64 0, .int .i64 9999]) <| .lent (.bool true) [4] <| .call (.agg [.int .i64 1, .int .i64 n]) <| .lent (.bool true) [11] <| .call (.agg [.int .i64 1, .int .i64 500]) <| .lent (.bool true) [18] <| .call (.agg [.int .i64 0, .int .i64 100000]) <| .lent (.bool true) [25] <| .call (.bool true) <| .call (.bool true) <| .nil) rfl rfl
                ⟨by kernel_rfl, mixed, by kernel_rfl, upTo_spec _, ⟨_, by kernel_rfl, .inl ⟨w1, .inr rfl⟩⟩, oneTo_spec _, ⟨_, by kernel_rfl, .inl ⟨w2, .inr rfl⟩⟩, oneTo_spec _, ⟨_, by kernel_rfl, .inl ⟨w3, .inr rfl⟩⟩, upTo_spec _, by kernel_rfl, ⟨_, by kernel_rfl, .inl ⟨w4, .inr rfl⟩⟩, s5, s6, rB (by simp [headB, bulbB, h1, h2, h3, h4, h5, h6])⟩
theorem isHeat_spec (l : List Int) : APure Tryd.prog 50 [encR l] (.bool (heatB l)) := by
  by_cases hl : l.length ≤ 60
  · have d6 : decide ((((l.map encI).length : Nat) : Int) ≤ 60) = true := by simp; omega
    exact APure.vc Tryd.func50 rfl (.br 6 true <| .call (.agg [.int .i64 0, .int .i64 2000]) <| .call (.bool (l.all (inB 0 2000))) .nil) rfl rfl
      ⟨d6, upTo_spec _, within_spec l 0 2000 (by omega), rB (by simp [heatB, hl])⟩
  · have d6 : decide ((((l.map encI).length : Nat) : Int) ≤ 60) = false := by simp; omega
    exact APure.vc Tryd.func50 rfl (.br 6 false .nil) rfl rfl ⟨d6, rB (by simp [heatB, hl])⟩
/-- The place of what is first. -/
def idxV (p : Int → Bool) (l : List Int) : Int := match l.findIdx? p with | none => -1 | some i => (i : Int)
theorem idxV_hit {p : Int → Bool} {l : List Int} {k : Nat} {x : Int} (hx : l[k]? = some x) (h0 : ∀ y ∈ l.take k, p y = false) (h1 : p x = true) : idxV p l = k := by
  unfold idxV
  obtain ⟨hk, hxe⟩ := List.getElem?_eq_some_iff.1 hx
  have : l.findIdx? p = some k := List.findIdx?_eq_some_iff_getElem.2 ⟨hk, by rw [hxe]; exact h1, fun j hj => by
    have : l[j] ∈ l.take k := by
      rw [List.mem_take_iff_getElem]
      exact ⟨j, by omega, rfl⟩
    simpa using h0 _ this⟩
  rw [this]
theorem idxV_none {p : Int → Bool} {l : List Int} (h0 : ∀ y ∈ l, p y = false) : idxV p l = -1 := by
  unfold idxV
  rw [List.findIdx?_eq_none_iff.2 h0]
theorem minute1_spec (x d : Int) : APure Tryd.prog 96 [.int .i64 x, .cptr [.int .i64 d]] (.bool (decide (d ≤ x))) :=
  APure.vc Tryd.func96 rfl .nil rfl rfl (rB rfl)
theorem IndexFunc_spec (l : List Int) (d : Int) (hl : l.length ≤ 1000) : APure Tryd.prog 95 [encR l, .fn (.func 96) [] [.cptr [.int .i64 d]]] (.int .i64 (idxV (fun x => decide (d ≤ x)) l)) := by
  refine APure.vc Tryd.func95 rfl .loop rfl rfl ?_
  intro g hn hl'
  replace hn : g.n = 19 := hn
  replace hl' : g.low 0 := hl'
  refine acode_while (fun k : Nat => ⟨[(0, encR l), (1, .fn (.func 96) [] [.cptr [.int .i64 d]]), (7, .int .i64 (l.map encI).length), (8, .int .i64 k)], [], 0⟩) (fun k => k ≤ l.length ∧ ∀ y ∈ l.take k, decide (d ≤ y) = false) (fun k => l.length - k) 0 ⟨Nat.zero_le _, fun y hy => by simp at hy⟩ ?_ (fun _ _ => hl') ?_
  · exact St.le.of ⟨rfl, rfl, rfl, rfl, rfl, rfl, rfl, rfl, trivial⟩ trivial
  · rintro k ⟨hk1, hk2⟩
    by_cases hlt : k < l.length
    · refine Exists.elim (getE hlt) fun x hx => ?_
      have ek := congrArg (AV.int .i64) (succ64 (k := k) (by omega))
      have s := minute1_spec x d
      cases hb : decide (d ≤ x)
      · rw [hb] at s
        have hk3 : ∀ y ∈ l.take (k + 1), decide (d ≤ y) = false := fun y hy => by
          rw [List.take_add_one, hx] at hy
          rcases List.mem_append.1 hy with hy | hy
          · exact hk2 y hy
          · simp at hy; subst hy; exact hb
        exact ACode.vc (.br 9 true <| .cells (encI x) <| .call (.bool false) .nil) hn hl' (.round .cl) ⟨ltLen hlt, idx hx, s, k + 1, ⟨hlt, hk3⟩, mu1 hlt,
          St.le.of ⟨rfl, rfl, rfl, rfl, rfl, rfl, ek, rfl, trivial⟩ trivial⟩
      · rw [hb] at s
        exact ACode.vc (.br 9 true <| .cells (encI x) <| .call (.bool true) .nil) hn hl' (.round .cl) ⟨ltLen hlt, idx hx, s, _, .refl _, .nil, rI (idxV_hit hx hk2 hb).symm⟩
    · have hk' : k = l.length := by omega
      exact ACode.vc (.br 9 false .nil) hn hl' (.round .cl) ⟨geLen hlt, _, .refl _, .nil, rI (idxV_none (by rw [hk', List.take_length] at hk2; exact hk2)).symm⟩
theorem minute_spec (d late : Int) (l : List Int) (hl : l.length ≤ 1000) (h0 : 0 ≤ late) (h1 : late ≤ 1000) : APure Tryd.prog 76 [.int .i64 d, .int .i64 late, encR l] (.int .i64 (burstV l d late)) := by
  have s := IndexFunc_spec l d hl
  have hlen : ((l.map encI).length : Int) = l.length := by simp
  cases hf : l.findIdx? fun x => decide (d ≤ x) with
  | none =>
    have e1 : idxV (fun x => decide (d ≤ x)) l = -1 := by unfold idxV; rw [hf]
    have e2 : burstV l d late = 0 := by unfold burstV; rw [hf]
    rw [e1] at s
    rw [e2]
    exact APure.vc Tryd.func76 rfl (.lent (.int .i64 (-1)) [0] .nil) rfl rfl ⟨⟨_, by kernel_rfl, .inl ⟨s, .inr rfl⟩⟩, trivial, rfl⟩
  | some i =>
    have hi : i < l.length := (List.findIdx?_eq_some_iff_getElem.1 hf).1
    have e1 : idxV (fun x => decide (d ≤ x)) l = (i : Int) := by unfold idxV; rw [hf]
    have w1 : IntKind.i64.wrap ((i : Int) + 1) = (i : Int) + 1 := wrap64 (by omega) (by omega)
    have w2 : IntKind.i64.wrap (IntKind.i64.wrap ((i : Int) + 1) + late) = (i : Int) + 1 + late := by rw [w1, wrap64 (by omega) (by omega)]
    rw [e1] at s
    have d13 : decide ((i : Int) < 0) = false := decide_eq_false (by omega)
    by_cases c : (i : Int) + 1 + late > l.length
    · have e2 : burstV l d late = 0 := by unfold burstV; rw [hf]; simp only; rw [if_pos c]
      have d21 : decide (IntKind.i64.wrap (IntKind.i64.wrap ((i : Int) + 1) + late) > ((l.map encI).length : Int)) = true := by rw [w2, hlen]; exact decide_eq_true c
      rw [e2]
      exact APure.vc Tryd.func76 rfl (.lent (.int .i64 i) [0] <| .br 13 false <| .br 21 true .nil) rfl rfl ⟨⟨_, by kernel_rfl, .inl ⟨s, .inr rfl⟩⟩, d13, d21, trivial, rfl⟩
    · have e2 : burstV l d late = (i : Int) + 1 + late := by unfold burstV; rw [hf]; simp only; rw [if_neg c]
      have d21 : decide (IntKind.i64.wrap (IntKind.i64.wrap ((i : Int) + 1) + late) > ((l.map encI).length : Int)) = false := by rw [w2, hlen]; exact decide_eq_false c
      exact APure.vc Tryd.func76 rfl (.lent (.int .i64 i) [0] <| .br 13 false <| .br 21 false .nil) rfl rfl ⟨⟨_, by kernel_rfl, .inl ⟨s, .inr rfl⟩⟩, d13, d21, rI (by rw [w2, e2])⟩
theorem bursts_spec (h : Hh) (l : List Int) (hl : l.length ≤ 1000) (h1 : 0 ≤ h.sLo ∧ h.sLo ≤ 1000) (h2 : 0 ≤ h.sHi ∧ h.sHi ≤ 1000) : APure Tryd.prog 51 [encHh h, encR l] (.tup [.int .i64 (burstV l h.bLo h.sLo), .int .i64 (burstV l h.bHi h.sHi)]) := by
  have s1 := minute_spec h.bLo h.sLo l hl h1.1 h1.2
  have s2 := minute_spec h.bHi h.sHi l hl h2.1 h2.2
  exact APure.vc Tryd.func51 rfl (.draw 15 <| .call (.int .i64 (burstV l h.bLo h.sLo)) <| .call (.int .i64 (burstV l h.bHi h.sHi)) .nil) rfl rfl ⟨by kernel_rfl, mixed, by kernel_rfl, s1, by kernel_rfl, s2, trivial, rfl⟩
def encB3 (p : Int × Int × Int) : AV := .tup [.int .i64 p.1, .int .i64 p.2.1, .int .i64 p.2.2]
theorem Bursts_spec (h : Hh) (l : List Int) : APure Tryd.prog 20 [encHh h, encR l] (encB3 (burstsI h l)) := by
  have s1 := isHead_spec h 12
  have s2 := isHeat_spec l
  cases h1 : headB 12 h
  · rw [h1] at s1
    have e : burstsI h l = (0, 0, 50) := by simp [burstsI, h1]
    rw [e]
    exact APure.vc Tryd.func20 rfl (.call (.bool false) .nil) rfl rfl ⟨s1, trivial, rfl⟩
  · rw [h1] at s1
    cases h2 : heatB l
    · rw [h2] at s2
      have e : burstsI h l = (0, 0, 51) := by simp [burstsI, h1, h2]
      rw [e]
      exact APure.vc Tryd.func20 rfl (.call (.bool true) <| .call (.bool false) .nil) rfl rfl ⟨s1, s2, trivial, rfl⟩
    · rw [h2] at s2
      have ho := headB_iff.1 h1
      have hh := heatB_iff.1 h2
      have hs := ho.s
      have hl := hh.len
      have s3 := bursts_spec h l (by omega) (by omega) (by omega)
      have e : burstsI h l = (burstV l h.bLo h.sLo, burstV l h.bHi h.sHi, 0) := by simp [burstsI, h1, h2]
      rw [e]
      exact APure.vc Tryd.func20 rfl (.call (.bool true) <| .call (.bool true) <| .call (.tup [.int .i64 (burstV l h.bLo h.sLo), .int .i64 (burstV l h.bHi h.sHi)]) .nil) rfl rfl ⟨s1, s2, s3, trivial, rfl⟩
end Go.Proofs.YtcbdggmojnnbdaaDoor
