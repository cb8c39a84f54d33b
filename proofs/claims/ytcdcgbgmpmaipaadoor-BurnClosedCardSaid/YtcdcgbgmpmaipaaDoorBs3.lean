import Derived.Test.YtcdcgbgmpmaipaaDoorBp2
namespace Go.Proofs.YtcdcgbgmpmaipaaDoor
open Go Go.Am
set_option maxRecDepth 100000
theorem rwithin_spec (n lo hi : Int) : APure Tryd.prog 43 [.int .i64 n, .int .i64 lo, .int .i64 hi] (.bool (inB lo hi n)) := by
  refine APure.vc Tryd.func43 rfl (.both 10 .nil .nil) rfl rfl ⟨fun h => rB ?_, fun h => rB ?_⟩
  all_goals simp at h
  all_goals simp [inB, h]
  all_goals omega
theorem Great_spec (r : List Int) : APure Tryd.prog 11 [encR r] (.bool (decide (r.length > 150))) :=
  APure.vc Tryd.func11 rfl .nil rfl rfl (rB (by rw [List.length_map]; exact decide_eq_decide.2 (by omega)))
set_option maxRecDepth 100000 in
theorem SameInts_spec (l : List Int) (hl1 : l.length ≤ 100000) : APure Tryd.prog 20 [encR l, encR l] (.bool true) := by
  have hne : (((l.map encI).length : Int) != ((l.map encI).length : Int)) = false := by simp
  refine APure.vc Tryd.func20 rfl (.br 10 false .loop) rfl rfl ⟨hne, ?_⟩
  intro g hn hl
  replace hn : g.n = 26 := hn
  replace hl : g.low 0 := hl
  refine acode_while (fun k : Nat => ⟨[(0, encR l), (1, encR l), (5, .int .i64 k)], [], 0⟩) (fun k => k ≤ l.length) (fun k => l.length - k) 0 (Nat.zero_le _) ?_ (fun _ _ => hl) ?_
  · exact St.le.of ⟨rfl, rfl, rfl, rfl, rfl, rfl, trivial⟩ trivial
  · intro k hk
    by_cases hlt : k < l.length
    · refine Exists.elim (getE hlt) fun x hx => ?_
      have ek := congrArg (AV.int .i64) (succ64 (k := k) (by omega))
      have ne : (x != x) = false := by simp
      exact ACode.vc (.br 14 true <| .draw 8 <| .cells (encI x) <| .cells (encI x) <| .br 25 false .nil) hn hl (.round .cl) ⟨ltLen hlt, by kernel_rfl, mixed, by kernel_rfl, idx hx, idx hx, by kernel_rfl, ne, k + 1, hlt, mu1 hlt,
        St.le.of ⟨rfl, rfl, rfl, rfl, ek, rfl, trivial⟩ trivial⟩
    · exact ACode.vc (.br 14 false .nil) hn hl (.round .cl) ⟨geLen hlt, _, .refl _, .nil, rB rfl⟩
theorem rLamp_spec (l : Lp) : APure Tryd.prog 62 [encLp l] (.bool (lampB l)) := by
  have w1 := rwithin_spec l.before 1 1000000
  have w2 := rwithin_spec l.after 1 l.before
  cases h : inB 1 1000000 l.before
  · rw [h] at w1
    exact APure.vc Tryd.func62 rfl (.call (.bool false) .nil) rfl rfl ⟨w1, rB (by simp [lampB, h])⟩
  · rw [h] at w1
    exact APure.vc Tryd.func62 rfl (.call (.bool true) <| .call (.bool (inB 1 l.before l.after)) .nil) rfl rfl ⟨w1, w2, rB (by simp [lampB, h])⟩
set_option maxRecDepth 100000 in
theorem rreads_spec (r : List Int) (m : Int) : APure Tryd.prog 55 [encR r, .int .i64 m] (.bool (readsB r m)) := by
  by_cases hl : r.length ≤ 120
  · have d8 : decide ((((r.map encI).length : Nat) : Int) > 120) = false := by simp; omega
    refine APure.vc Tryd.func55 rfl (.br 8 false .loop) rfl rfl ⟨d8, ?_⟩
    intro g hn hl'
    replace hn : g.n = 22 := hn
    replace hl' : g.low 0 := hl'
    refine acode_while (fun k : Nat => ⟨[(0, encR r), (1, .int .i64 m), (5, .int .i64 k)], [], 0⟩) (fun k => k ≤ r.length ∧ (r.take k).all (inB 0 m) = true) (fun k => r.length - k) 0 ⟨Nat.zero_le _, rfl⟩ ?_ (fun _ _ => hl') ?_
    · exact St.le.of ⟨rfl, rfl, rfl, rfl, rfl, rfl, trivial⟩ trivial
    · rintro k ⟨hk1, hk2⟩
      by_cases hlt : k < r.length
      · refine Exists.elim (getE hlt) fun x hx => ?_
        have ek := congrArg (AV.int .i64) (succ64 (k := k) (by omega))
        have s := rwithin_spec x 0 m
        cases hb : inB 0 m x
        · rw [hb] at s
          have e : false = readsB r m := by simp [readsB, all_bad hx hb]
          exact ACode.vc (.br 12 true <| .cells (encI x) <| .call (.bool false) .nil) hn hl' (.round .cl) ⟨ltLen hlt, idx hx, s, _, .refl _, .nil, rB e⟩
        · rw [hb] at s
          exact ACode.vc (.br 12 true <| .cells (encI x) <| .call (.bool true) .nil) hn hl' (.round .cl) ⟨ltLen hlt, idx hx, s, k + 1, ⟨hlt, by rw [take_all hx, hk2, hb]; rfl⟩, mu1 hlt,
            St.le.of ⟨rfl, rfl, rfl, rfl, ek, rfl, trivial⟩ trivial⟩
      · have hk' : k = r.length := by omega
        have e : true = readsB r m := by rw [hk', List.take_length] at hk2; simp only [readsB, hk2, decide_eq_true hl]; rfl
        exact ACode.vc (.br 12 false .nil) hn hl' (.round .cl) ⟨geLen hlt, _, .refl _, .nil, rB e⟩
  · have d8 : decide ((((r.map encI).length : Nat) : Int) > 120) = true := by simp; omega
    exact APure.vc Tryd.func55 rfl (.br 8 true .nil) rfl rfl ⟨d8, rB (by simp [readsB, hl])⟩
theorem Lights_spec (l : Lp) (r : List Int) : APure Tryd.prog 37 [encLp l, encR r] (.int .i64 (lightsI l r)) := by
  have s1 := rLamp_spec l
  have s2 := rreads_spec r l.before
  cases h1 : lampB l
  · rw [h1] at s1
    exact APure.vc Tryd.func37 rfl (.call (.bool false) .nil) rfl rfl ⟨s1, rI (by simp [lightsI, h1])⟩
  · rw [h1] at s1
    cases h2 : readsB r l.before
    · rw [h2] at s2
      exact APure.vc Tryd.func37 rfl (.call (.bool true) <| .call (.bool false) .nil) rfl rfl ⟨s1, s2, rI (by simp [lightsI, h1, h2])⟩
    · rw [h2] at s2
      exact APure.vc Tryd.func37 rfl (.call (.bool true) <| .call (.bool true) .nil) rfl rfl ⟨s1, s2, rI (by simp [lightsI, h1, h2])⟩
end Go.Proofs.YtcdcgbgmpmaipaaDoor
