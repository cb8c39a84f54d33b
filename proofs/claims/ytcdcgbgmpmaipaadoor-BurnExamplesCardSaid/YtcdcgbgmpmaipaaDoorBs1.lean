import Derived.Test.YtcdcgbgmpmaipaaDoorBp2
namespace Go.Proofs.YtcdcgbgmpmaipaaDoor
open Go Go.Am
set_option maxRecDepth 100000
set_option maxRecDepth 100000 in
theorem within_spec (L : List Int) (lo hi : Int) (hL : L.length ≤ 1000000) : APure Tryd.prog 63 [.agg [.int .i64 lo, .int .i64 hi], .lst 1 (L.map encI)] (.bool (L.all (inB lo hi))) := by
  refine APure.vc Tryd.func63 rfl .loop rfl rfl ?_
  intro g hn hl
  replace hn : g.n = 24 := hn
  replace hl : g.low 0 := hl
  refine acode_while (fun k : Nat => ⟨[(2, .vptr 0 0), (7, .lst 1 (L.map encI)), (8, .int .i64 (L.map encI).length), (9, .int .i64 k)], [(0, .cells [.int .i64 lo, .int .i64 hi])], 1⟩) (fun k => k ≤ L.length ∧ (L.take k).all (inB lo hi) = true) (fun k => L.length - k) 0 ⟨Nat.zero_le _, rfl⟩ ?_ (fun _ _ => hl.mono (Nat.zero_le _)) ?_
  · exact St.le.of ⟨rfl, rfl, rfl, rfl, rfl, rfl, rfl, rfl, trivial⟩ ⟨rfl, (by decide : (0 : Nat) < 1), rfl, trivial⟩
  · rintro k ⟨hk1, hk2⟩
    by_cases hlt : k < L.length
    · refine Exists.elim (getE hlt) fun x hx => ?_
      have ek := congrArg (AV.int .i64) (succ64 (k := k) (by omega))
      have b1 : decide (x < lo) = true → L.all (inB lo hi) = false := fun h => all_bad hx (by simp at h; simp [inB]; omega)
      have b2 : decide (x > hi) = true → L.all (inB lo hi) = false := fun h => all_bad hx (by simp at h; simp [inB]; omega)
      have b3 : decide (x < lo) = false → decide (x > hi) = false → (L.take (k + 1)).all (inB lo hi) = true := fun h h' => by
        rw [take_all hx, hk2]; simp at h h'; simp [inB]; omega
      exact ACode.vc (.br 10 true <| .cells (encI x) <| .both 17 .nil (.both 22 .nil .nil)) hn hl (.round .cl)
        ⟨ltLen hlt, idx hx, fun h => ⟨_, .refl _, .nil, rB (b1 h).symm⟩, fun h => ⟨fun h' => ⟨_, .refl _, .nil, rB (b2 h').symm⟩, fun h' => ⟨k + 1, ⟨hlt, b3 h h'⟩, mu1 hlt,
          St.le.of ⟨rfl, rfl, rfl, rfl, rfl, rfl, ek, rfl, trivial⟩ ⟨rfl, (by decide : (0 : Nat) < 1), rfl, trivial⟩⟩⟩⟩
    · have hk' : k = L.length := by omega
      have e : true = L.all (inB lo hi) := by rw [hk', List.take_length] at hk2; exact hk2.symm
      exact ACode.vc (.br 10 false .nil) hn hl (.round .cl) ⟨geLen hlt, _, .refl _, .nil, rB e⟩
theorem upTo_spec (n : Int) : APure Tryd.prog 64 [.int .i64 n] (.agg [.int .i64 0, .int .i64 n]) :=
  APure.vc Tryd.func64 rfl .nil rfl rfl ⟨trivial, rfl⟩
theorem areReads_spec (r : List Int) (m : Int) : APure Tryd.prog 53 [encR r, .int .i64 m] (.bool (readsB r m)) := by
  have u := upTo_spec m
  have w := within_spec r 0 m
  have e1 : ∀ h : decide ((((r.map encI).length : Nat) : Int) ≤ 120) = true, r.length ≤ 120 := fun h => by simp at h; omega
  refine APure.vc Tryd.func53 rfl (.both 8 (.call (.agg [.int .i64 0, .int .i64 m]) <| .call (.bool (r.all (inB 0 m))) .nil) .nil) rfl rfl
    ⟨fun h => ⟨u, w (by have := e1 h; omega), rB ?_⟩, fun h => rB ?_⟩
  · have := e1 h; simp [readsB, this]
  · simp at h; simp [readsB]; omega
theorem isLamp_spec (l : Lp) : APure Tryd.prog 74 [encLp l] (.bool (lampB l)) := by
  have w1 : APure Tryd.prog 63 [.agg [.int .i64 1, .int .i64 1000000], .lst 1 [encI l.before]] (.bool (inB 1 1000000 l.before)) := by
    have := within_spec [l.before] 1 1000000 (by simp); simpa using this
  have w2 : APure Tryd.prog 63 [.agg [.int .i64 1, .int .i64 l.before], .lst 1 [encI l.after]] (.bool (inB 1 l.before l.after)) := by
    have := within_spec [l.after] 1 l.before (by simp); simpa using this
  cases h : inB 1 1000000 l.before
  · rw [h] at w1
    exact APure.vc Tryd.func74 rfl (.lent (.bool false) [1] .nil) rfl rfl ⟨⟨_, by kernel_rfl, .inl ⟨w1, .inr rfl⟩⟩, rB (by simp [lampB, h])⟩
  · rw [h] at w1
    exact APure.vc Tryd.func74 rfl (.lent (.bool true) [1] <| .lent (.bool (inB 1 l.before l.after)) [2] .nil) rfl rfl ⟨⟨_, by kernel_rfl, .inl ⟨w1, .inr rfl⟩⟩, ⟨_, by kernel_rfl, .inl ⟨w2, .inr rfl⟩⟩, rB (by simp [lampB, h])⟩
theorem checkLamp_spec (l : Lp) (r : List Int) : APure Tryd.prog 59 [encLp l, encR r] (.int .i64 (lightsI l r)) := by
  have s1 := isLamp_spec l
  have s2 := areReads_spec r l.before
  cases h1 : lampB l
  · rw [h1] at s1
    exact APure.vc Tryd.func59 rfl (.call (.bool false) .nil) rfl rfl ⟨s1, rI (by simp [lightsI, h1])⟩
  · rw [h1] at s1
    cases h2 : readsB r l.before
    · rw [h2] at s2
      exact APure.vc Tryd.func59 rfl (.call (.bool true) <| .call (.bool false) .nil) rfl rfl ⟨s1, s2, rI (by simp [lightsI, h1, h2])⟩
    · rw [h2] at s2
      exact APure.vc Tryd.func59 rfl (.call (.bool true) <| .call (.bool true) .nil) rfl rfl ⟨s1, s2, rI (by simp [lightsI, h1, h2])⟩
theorem isSecond_spec (i : Int) (n : Nat) (hn : n ≤ 1000000) : APure Tryd.prog 40 [.int .i64 i, .int .i64 n] (.bool (decide (0 ≤ i ∧ i < n))) := by
  have e : IntKind.i64.wrap ((n : Int) - 1) = (n : Int) - 1 := wrap64 (by omega) (by omega)
  have u := upTo_spec (IntKind.i64.wrap ((n : Int) - 1))
  have w : APure Tryd.prog 63 [.agg [.int .i64 0, .int .i64 (IntKind.i64.wrap ((n : Int) - 1))], .lst 1 [encI i]] (.bool (inB 0 (n - 1) i)) := by
    have := within_spec [i] 0 (n - 1) (by simp); rw [e]; simpa using this
  exact APure.vc Tryd.func40 rfl (.call (.agg [.int .i64 0, .int .i64 (IntKind.i64.wrap ((n : Int) - 1))]) <| .lent (.bool (inB 0 (n - 1) i)) [0] .nil) rfl rfl
    ⟨u, ⟨_, by kernel_rfl, .inl ⟨w, .inr rfl⟩⟩, rB (by simp only [inB]; exact decide_eq_decide.2 (by omega))⟩
theorem areSeconds_spec (a b : Int) (n : Nat) : APure Tryd.prog 45 [.int .i64 a, .int .i64 b, .int .i64 n] (.bool (decide (0 ≤ a ∧ a ≤ b ∧ b ≤ n))) := by
  have u := upTo_spec (n : Int)
  have w : APure Tryd.prog 63 [.agg [.int .i64 0, .int .i64 n], .lst 1 [encI a, encI b]] (.bool (inB 0 n a && inB 0 n b)) := by
    have := within_spec [a, b] 0 n (by simp); simpa using this
  cases h : (inB 0 n a && inB 0 n b)
  · rw [h] at w
    exact APure.vc Tryd.func45 rfl (.call (.agg [.int .i64 0, .int .i64 n]) <| .lent (.bool false) [0] .nil) rfl rfl
      ⟨u, ⟨_, by kernel_rfl, .inl ⟨w, .inr rfl⟩⟩, rB (by symm; simp [inB] at h; simp; omega)⟩
  · rw [h] at w
    exact APure.vc Tryd.func45 rfl (.call (.agg [.int .i64 0, .int .i64 n]) <| .lent (.bool true) [0] .nil) rfl rfl
      ⟨u, ⟨_, by kernel_rfl, .inl ⟨w, .inr rfl⟩⟩, rB (by simp [inB] at h; exact decide_eq_decide.2 (by omega))⟩
set_option maxRecDepth 100000 in
theorem Max_spec (x : Int) (L : List Int) (hL : L.length ≤ 1000000) : APure Tryd.prog 75 [.lst 1 ((x :: L).map encI)] (.int .i64 (maxL x L)) := by
  have d7 : decide (((((x :: L).map encI).length : Nat) : Int) < 1) = false := by simp; omega
  have i0 : 0 ≤ (0 : Int) ∧ ((x :: L).map encI)[(0 : Int).toNat]? = some (encI x) := ⟨Int.le_refl _, rfl⟩
  refine APure.vc Tryd.func75 rfl (.br 7 false <| .cells (encI x) .loop) rfl rfl ⟨d7, i0, ?_⟩
  intro g hn hl
  replace hn : g.n = 25 := hn
  replace hl : g.low 0 := hl
  refine acode_while (fun k : Nat => ⟨[(0, .lst 1 ((x :: L).map encI)), (3, .int .i64 (maxL x (L.take k))), (4, .int .i64 (k + 1 : Nat))], [], 0⟩) (fun k => k ≤ L.length) (fun k => L.length - k) 0 (Nat.zero_le _) ?_ (fun _ _ => hl) ?_
  · exact St.le.of ⟨rfl, rfl, rfl, rfl, rfl, rfl, trivial⟩ trivial
  · intro k hk
    by_cases hlt : k < L.length
    · refine Exists.elim (getE hlt) fun y hy => ?_
      have hy' : (x :: L)[k + 1]? = some y := hy
      have ek := congrArg (AV.int .i64) (succ64 (k := k + 1) (by omega))
      have em : AV.int .i64 (if y > maxL x (L.take k) then y else maxL x (L.take k)) = .int .i64 (maxL x (L.take (k + 1))) := by
        rw [ifmax, List.take_add_one, hy]; simp [maxL]
      have d15 : decide (((k + 1 : Nat) : Int) < ((((x :: L).map encI).length : Nat) : Int)) = true := by simp; omega
      exact ACode.vc (.br 15 true <| .cells (encI y) .nil) hn hl (.round .cl) ⟨d15, idx hy', k + 1, hlt, mu1 hlt, St.le.of ⟨rfl, rfl, em, rfl, ek, rfl, trivial⟩ trivial⟩
    · have hk' : k = L.length := by omega
      have d15 : decide (((k + 1 : Nat) : Int) < ((((x :: L).map encI).length : Nat) : Int)) = false := by simp; omega
      exact ACode.vc (.br 15 false .nil) hn hl (.round .cl) ⟨d15, _, .refl _, .nil, rI (by rw [hk', List.take_length])⟩
theorem darkOf_spec (a c : Int) (h0 : 0 ≤ a) (h1 : 1 ≤ c) (h2 : a ≤ c) (h3 : c ≤ 1000000) : APure Tryd.prog 73 [.int .i64 a, .int .i64 c] (.int .i64 (darkV a c)) := by
  have e1 : IntKind.i64.wrap (1000 * a) = 1000 * a := wrap64 (by omega) (by omega)
  have hr := dark_rng h0 h1 h2
  have e2 : IntKind.i64.wrap ((1000 * a).tdiv c) = (1000 * a).tdiv c := wrap64 (by omega) (by omega)
  have e3 : IntKind.i64.wrap (1000 - (1000 * a).tdiv c) = 1000 - (1000 * a).tdiv c := wrap64 (by omega) (by omega)
  exact APure.vc Tryd.func73 rfl (.nz .nil) rfl rfl ⟨by omega, rI (by rw [e1, e2, e3]; rfl)⟩
end Go.Proofs.YtcdcgbgmpmaipaaDoor
