import Derived.Test.YtcdcgbgmpmaipaaDoorD20
namespace Go.Proofs.YtcdcgbgmpmaipaaDoor
open Go Go.Am
set_option maxRecDepth 100000
set_option maxHeartbeats 16000000
/-! ### Plain: a truth lies in what is told -/
theorem arr_true {lo hi tr : Nat → Int} {v : Int} {N : Nat} {A : Sn × Bool} (hlo : ∀ k, lo k ≤ tr k) (hhi : ∀ k, tr k ≤ hi k) (hA : ArrOk lo hi v N A) :
    (∀ i, i < N → v ≤ tr i → (∀ k, k < i → tr k < v) → 0 ≤ A.1.1 ∧ A.1.1 ≤ i ∧ (i : Int) ≤ A.1.2) ∧ (A.2 = true → ∃ e, e < N ∧ v ≤ tr e) := by
  cases hA with
  | none h0 => exact ⟨fun i hi' hv _ => by have := h0 i hi'; have := hhi i; omega, fun h => by cases h⟩
  | sure f e h1 h2 h3 h4 h5 h6 h7 =>
    refine ⟨fun i hi' hv hk => ?_, fun _ => ⟨e, h2, by have := hlo e; omega⟩⟩
    refine ⟨Int.natCast_nonneg _, ?_, ?_⟩
    · rcases Nat.lt_or_ge i f with hl | hl
      · have := h4 i hl; have := hhi i; omega
      · show (f : Int) ≤ i; omega
    · rcases Nat.lt_or_ge e i with hl | hl
      · have := hk e hl; have := hlo e; omega
      · show (i : Int) ≤ e; omega
  | may f e h1 h2 h3 h4 h5 h6 h7 =>
    refine ⟨fun i hi' hv hk => ?_, fun h => by cases h⟩
    refine ⟨Int.natCast_nonneg _, ?_, ?_⟩
    · rcases Nat.lt_or_ge i f with hl | hl
      · have := h4 i hl; have := hhi i; omega
      · show (f : Int) ≤ i; omega
    · rcases Nat.lt_or_ge e i with hl | hl
      · have := h7 i hl hi'; have := hhi i; omega
      · show (i : Int) ≤ e; omega
theorem true_first {h : Hd} {r y : List Int} (ho : Ok h r) (hy : ∀ x ∈ y, 0 ≤ x ∧ x < 4294967296) (v : Int) :
    (∀ i, i < secN h r → v ≤ trV h r y i → (∀ k, k < i → trV h r y k < v) → knownI h r v ≠ 0 ∧ (firstS h r v).1 ≤ i ∧ (i : Int) ≤ (firstS h r v).2) ∧ ((∀ k, k < secN h r → trV h r y k < v) → knownI h r v ≠ 2) := by
  obtain ⟨A1, A2⟩ := arr_true (fun k => (trV_rng ho hy k).1) (fun k => (trV_rng ho hy k).2) (arrV_ok ho (trLag h y) v)
  have lm := (trLag_mem ho.h hy).1
  refine ⟨fun i hi hv hk => ?_, fun hk h2 => ?_⟩
  · obtain ⟨a1, a2, a3⟩ := A1 i hi hv hk
    have hm : trLag h y ∈ mayL h r v := may_mem.2 ⟨lm, a1⟩
    have hne : mayL h r v ≠ [] := List.ne_nil_of_mem hm
    have := (firstS_spec ho hne).1 _ hm
    refine ⟨fun h0 => ?_, by omega, by omega⟩
    rcases knownI_cases h r v with ⟨_, m⟩ | ⟨k, _⟩ | ⟨k, _⟩
    · exact hne m
    · omega
    · omega
  · rcases knownI_cases h r v with ⟨k, _⟩ | ⟨k, _⟩ | ⟨_, _, sw⟩
    · omega
    · omega
    · obtain ⟨e, he, hv⟩ := A2 (sw _ lm)
      have := hk e he; omega
theorem true_sum {h : Hd} {r y : List Int} (ho : Ok h r) (hy : ∀ x ∈ y, 0 ≤ x ∧ x < 4294967296) (a n : Nat) (hn : n ≤ 120) :
    (sumV h r a n).1 ≤ sumF (trV h r y) a n ∧ sumF (trV h r y) a n ≤ (sumV h r a n).2 := by
  have s := (sumV_spec ho a n hn).1 _ (trLag_mem ho.h hy).1
  have l1 := sumF_le (fun k => (trV_rng ho hy k).1) a n
  have l2 := sumF_le (fun k => (trV_rng ho hy k).2) a n
  have e1 : (sumS h r a n (trLag h y)).1 = sumF (aLo h r (trLag h y)) a n := rfl
  have e2 : (sumS h r a n (trLag h y)).2 = sumF (aHi h r (trLag h y)) a n := rfl
  omega
theorem law_true (h : Hd) (r y : List Int) (hy : ∀ x ∈ y, 0 ≤ x ∧ x < 4294967296) (x : Int) (x1 : 0 ≤ x) (x2 : x ≤ 255) (z : Int) (z1 : 0 ≤ z) (z2 : z ≤ 255) (v : Int) :
    APure Tryd.prog 5 [encHd h, encR r, .lst 1 (y.map encU), .int .u8 x, .int .u8 z, .int .i64 v] (.bool true) := by
  have sA := alive_spec
  have sR := ready_spec h r
  by_cases h0 : checkI h r = 0
  · rw [decide_eq_true h0] at sR
    have ho := checkI_ok.1 h0
    have hN := secN_le ho
    have sT := truth_spec h r y ho hy
    obtain ⟨n1, x', x1', _, x2'⟩ := modN x1 x2 hN
    obtain ⟨_, z', z1', _, z2'⟩ := modN z1 z2 hN
    obtain ⟨a, ea⟩ : ∃ a : Nat, a = min x' z' := ⟨_, rfl⟩
    obtain ⟨b, eb⟩ : ∃ b : Nat, b = max x' z' := ⟨_, rfl⟩
    have hab : a ≤ b ∧ b ≤ secN h r := by omega
    have hT : ∀ k, k < secN h r → (trL h r y (secN h r))[k]? = some (trV h r y k) := fun k hk => trL_get h r y hk
    have hlen := trL_len h r y (secN h r)
    have v16 : some (⟨.int .i64 ((IntKind.i64.wrap x).tmod (IntKind.i64.wrap ((secN h r : Int) + 1))), []⟩ : Out) = some ⟨.int .i64 x', []⟩ := by rw [x2']
    have v17 : some (⟨.int .i64 ((IntKind.i64.wrap z).tmod (IntKind.i64.wrap ((secN h r : Int) + 1))), []⟩ : Out) = some ⟨.int .i64 z', []⟩ := by rw [z2']
    have v57 : some (⟨.int .i64 (if (z' : Int) < (x' : Int) then (z' : Int) else (x' : Int)), []⟩ : Out) = some ⟨.int .i64 a, []⟩ := by rw [ifmin]; congr 2; congr 1; omega
    have v60 : some (⟨.int .i64 (if (z' : Int) > (x' : Int) then (z' : Int) else (x' : Int)), []⟩ : Out) = some ⟨.int .i64 b, []⟩ := by rw [ifmax]; congr 2; congr 1; omega
    have sH : ∀ k : Nat, k < secN h r → APure Tryd.prog 12 [encHd h, encR r, .int .i64 k] (encE (sumV h r k 1, 0)) := fun k hk => by
      have := Heat_spec h r k
      rwa [show heatI h r k = (sumV h r k 1, 0) by simp only [heatI, h0, if_true, if_pos (show 0 ≤ (k : Int) ∧ (k : Int) < secN h r by omega), Int.toNat_natCast]] at this
    have sS : APure Tryd.prog 14 [encHd h, encR r, .int .i64 a, .int .i64 b] (encE (sumV h r a (b - a), 0)) := by
      have := Sum_spec h r a b
      rwa [show sumI h r a b = (sumV h r a (b - a), 0) by simp only [sumI, h0, if_true, if_pos (show 0 ≤ (a : Int) ∧ (a : Int) ≤ b ∧ (b : Int) ≤ secN h r by omega), Int.toNat_natCast, show ((b : Int) - (a : Int)).toNat = b - a by omega]] at this
    have sF : ¬ v < 1 → APure Tryd.prog 16 [encHd h, encR r, .int .i64 v] (encF (firstS h r v, knownI h r v, 0)) := fun hv => by
      have := First_spec h r v
      rwa [show firstI h r v = (firstS h r v, knownI h r v, 0) by simp only [firstI, h0, if_true, if_pos (show 1 ≤ v by omega)]] at this
    have tH : ∀ k, (sumV h r k 1).1 ≤ trV h r y k ∧ trV h r y k ≤ (sumV h r k 1).2 := fun k => by
      have := true_sum ho hy k 1 (by decide)
      rwa [sumF_one] at this
    have tS := true_sum ho hy a (b - a) (by omega)
    have tR := fun m => sumF_rng (f := trV h r y) (B := 300300000000000) (fun k => by have := trV_rng ho hy k; have := a_rng ho (trLag h y) k; omega) a m
    obtain ⟨tF, tF2⟩ := true_first ho hy v
    have kc := knownI_cases h r v
    have k2 : decide (knownI h r v > 2) = false := decide_eq_false (by rcases kc with ⟨k, _⟩ | ⟨k, _⟩ | ⟨k, _⟩ <;> omega)
    clear kc ho h0 hy
    generalize firstS h r v = F at *
    generalize knownI h r v = n at *
    generalize sumV h r a (b - a) = S at *
    generalize trL h r y (secN h r) = T at *
    generalize trV h r y = V at *
    generalize secN h r = N at *
    have v44 : some (⟨.int .i64 ((T.map encI).length : Nat), []⟩ : Out) = some ⟨.int .i64 (N : Nat), []⟩ := by rw [List.length_map, hlen]
    refine APure.vc Tryd.func5 rfl (.call (.bool true) <| .call (.bool true) <| .call (encR T) <| .val 44 (.int .i64 N) [] <| .draw 11 <| .nz <| .nz <| .val 16 (.int .i64 x') [] <| .val 17 (.int .i64 z') [] <| .val 57 (.int .i64 a) [] <| .val 60 (.int .i64 b) [] .loop) rfl rfl
      ⟨sA, sR, sT, v44, by kernel_rfl, mixed, by kernel_rfl, n1, n1, v16, by kernel_rfl, v17, v57, v60, ?_⟩
    intro g hn hl
    replace hn : g.n = 172 := hn
    replace hl : g.low 0 := hl
    refine acode_while (fun j : Nat => ⟨[(1, encR r), (5, .int .i64 v), (6, .vptr 0 0), (13, .bool true), (14, encR T), (16, .int .i64 a), (17, .int .i64 b), (18, .int .i64 (sumF V a j)), (19, .int .i64 (a + j : Nat))], [(0, .cells (hdL h))], 1⟩)
      (fun j => a + j ≤ b) (fun j => b - (a + j)) 0 hab.1 ?_ (fun _ _ => hl.mono (Nat.zero_le _)) ?_
    · exact St.le.of ⟨rfl, rfl, rfl, rfl, rfl, rfl, rfl, rfl, rfl, rfl, rfl, rfl, rfl, rfl, rfl, rfl, rfl, rfl, trivial⟩ ⟨rfl, (by decide : (0 : Nat) < 1), rfl, trivial⟩
    · intro j hj
      by_cases hlt : a + j < b
      · have hjN : a + j < N := by omega
        have hx := hT (a + j) hjN
        have hx1 := tH (a + j)
        have sH1 := sH (a + j) hjN
        have r0 := tR j
        have r1 := tR (j + 1)
        have e1 : sumF V a (j + 1) = sumF V a j + V (a + j) := rfl
        have v99 : some (⟨.int .i64 (IntKind.i64.wrap (sumF V a j + V (a + j))), []⟩ : Out) = some ⟨.int .i64 (sumF V a (j + 1)), []⟩ := by
          rw [← e1, wrap64 (by omega) (by omega)]
        have ek : AV.int .i64 (IntKind.i64.wrap (((a + j : Nat) : Int) + 1)) = .int .i64 ((a + (j + 1) : Nat) : Int) := congrArg (AV.int .i64) (succ64 (k := a + j) (by omega))
        have mu : b - (a + (j + 1)) < b - (a + j) := by omega
        clear r0 r1 e1
        generalize sumV h r (a + j) 1 = s at *
        generalize V (a + j) = w at *
        have d85 : decide (w < s.1) = false := decide_eq_false (by omega)
        have d93 : decide (w > s.2) = false := decide_eq_false (by omega)
        have d64 : decide (((a + j : Nat) : Int) < (b : Int)) = true := decide_eq_true (by omega)
        exact ACode.vc (.br 64 true <| .call (encE (s, 0)) <| .draw 18 <| .cells (encI w) <| .br 85 false <| .cells (encI w) <| .br 93 false <| .cells (encI w) <| .val 99 (.int .i64 (sumF V a (j + 1))) [] .nil) hn hl (.round .cl)
          ⟨d64, sH1, by kernel_rfl, mixed, by kernel_rfl, idx hx, d85, idx hx, by kernel_rfl, d93, idx hx, v99, j + 1, hlt, mu, St.le.of ⟨rfl, rfl, rfl, rfl, rfl, rfl, rfl, rfl, rfl, rfl, rfl, rfl, rfl, rfl, rfl, rfl, ek, rfl, trivial⟩ ⟨rfl, (by decide : (0 : Nat) < 1), rfl, trivial⟩⟩
      · have hjb : a + j = b := by omega
        have hj' : b - a = j := by omega
        rw [hj'] at tS
        have d64 : decide (((a + j : Nat) : Int) < (b : Int)) = false := decide_eq_false (by omega)
        have d116 : decide (sumF V a j < S.1) = false := decide_eq_false (by omega)
        have d121 : decide (sumF V a j > S.2) = false := decide_eq_false (by omega)
        by_cases hv : v < 1
        · have d123 := decide_eq_true hv
          exact ACode.vc (.br 64 false .nil) hn hl (.round .cl) ⟨d64, _, .refl _, .call (encE (S, 0)) <| .br 116 false <| .br 121 false <| .br 123 true .nil, sS, d116, d121, d123, rB rfl⟩
        · have d123 := decide_eq_false hv
          refine ACode.vc (.br 64 false .nil) hn hl (.round .cl) ⟨d64, _, .refl _, .call (encE (S, 0)) <| .br 116 false <| .br 121 false <| .br 123 false <| .call (encF (F, n, 0)) <| .br 138 false <| .val 140 (.int .i64 N) [] .loop, sS, d116, d121, d123, sF hv, k2, v44, ?_⟩
          intro g hn hl
          replace hn : g.n = 172 := hn
          replace hl : g.low 0 := hl
          refine acode_while (fun k : Nat => ⟨[(5, .int .i64 v), (13, .bool true), (24, .vptr 3 0), (25, .int .u8 n), (139, encR T), (140, .int .i64 N), (141, .int .i64 k)], [(3, .cells [.int .i64 F.1, .int .i64 F.2])], 4⟩)
            (fun k => k ≤ N ∧ ∀ i, i < k → V i < v) (fun k => N - k) 0 ⟨Nat.zero_le _, fun i hi => absurd hi (Nat.not_lt_zero _)⟩ ?_ (fun _ _ => hl.mono (Nat.zero_le _)) ?_
          · exact St.le.of ⟨rfl, rfl, rfl, rfl, rfl, rfl, rfl, rfl, rfl, rfl, rfl, rfl, rfl, rfl, trivial⟩ ⟨rfl, (by decide : (3 : Nat) < 4), rfl, trivial⟩
          · rintro k ⟨hk1, hk2⟩
            by_cases hkN : k < N
            · have hx := hT k hkN
              have d142 : decide ((k : Int) < (N : Int)) = true := decide_eq_true (by omega)
              by_cases hw : V k ≥ v
              · have d148 := decide_eq_true hw
                obtain ⟨t1, t2, t3⟩ := tF k hkN hw hk2
                have d154 : (n != 0) = true := by simp [t1]
                have d160 : decide ((k : Int) ≥ F.1) = true := decide_eq_true t2
                have dE : (decide ((k : Int) ≤ F.2)) = true := decide_eq_true t3
                exact ACode.vc (.br 142 true <| .cells (encI (V k)) <| .br 148 true <| .br 154 true <| .br 160 true .nil) hn hl (.round .cl) ⟨d142, idx hx, d148, d154, d160, _, .refl _, .nil, rB dE⟩
              · have d148 := decide_eq_false hw
                have ek : AV.int .i64 (IntKind.i64.wrap ((k : Int) + 1)) = .int .i64 ((k + 1 : Nat) : Int) := congrArg (AV.int .i64) (succ64 (k := k) (by omega))
                exact ACode.vc (.br 142 true <| .cells (encI (V k)) <| .br 148 false .nil) hn hl (.round .cl) ⟨d142, idx hx, d148, k + 1, ⟨hkN, fun i hi => by
                  rcases Nat.lt_or_ge i k with hl | hl
                  · exact hk2 i hl
                  · rw [show i = k by omega]; omega⟩, mu1 hkN, St.le.of ⟨rfl, rfl, rfl, rfl, rfl, rfl, rfl, rfl, rfl, rfl, rfl, rfl, ek, rfl, trivial⟩ ⟨rfl, (by decide : (3 : Nat) < 4), rfl, trivial⟩⟩
            · have hkN' : k = N := by omega
              subst hkN'
              have d142 : decide ((k : Int) < (k : Int)) = false := decide_eq_false (by omega)
              have dE : (n != 2) = true := by have := tF2 hk2; simp [this]
              exact ACode.vc (.br 142 false .nil) hn hl (.round .cl) ⟨d142, _, .refl _, .nil, rB dE⟩
  · rw [decide_eq_false h0] at sR
    exact APure.vc Tryd.func5 rfl (.call (.bool true) <| .call (.bool false) .nil) rfl rfl (kmp (by kernel_rfl) <| And.intro sA <| And.intro sR <| And.intro trivial rTrue)
end Go.Proofs.YtcdcgbgmpmaipaaDoor
