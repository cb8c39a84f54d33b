import Derived.Test.YtcdcgbgmpmaipaaDoorD27
namespace Go.Proofs.YtcdcgbgmpmaipaaDoor
open Go Go.Am
set_option maxRecDepth 100000
set_option maxHeartbeats 64000000
theorem OI.init (LO HI : Nat → Nat → Int) (lo N a m : Nat) (S F : Sn) (n w : Int) : OI LO HI lo N a m S F n w 0 (false, false, n == 0, n == 0, true) :=
  ⟨fun _ hi => absurd hi (Nat.not_lt_zero _), fun _ hi => absurd hi (Nat.not_lt_zero _), fun h => by simp [h], fun _ hi => absurd hi (Nat.not_lt_zero _), fun h => by simp [h], fun _ hi => absurd hi (Nat.not_lt_zero _), by simp⟩
theorem II.init (LO HI : Nat → Int) (N : Nat) (F : Sn) (w : Int) (b22 b23 : Bool) : II LO HI N F w b22 b23 0 (b22, b23, false) :=
  ⟨Nat.zero_le _, fun h => h, fun h => h, fun _ hi => absurd hi (Nat.not_lt_zero _), fun _ hi => absurd hi (Nat.not_lt_zero _), by simp⟩
theorem orT {b c : Bool} (h : b = true) : AV.bool true = .bool (b || c) := by rw [h]; rfl
theorem orF {b c : Bool} (h : b = false) : AV.bool c = .bool (b || c) := by rw [h]; rfl
theorem anT {b c : Bool} (h : b = true) : AV.bool c = .bool (b && c) := by rw [h]; rfl
theorem anF {b c : Bool} (h : b = false) : AV.bool false = .bool (b && c) := by rw [h]; rfl
theorem law_ends (h : Hd) (r : List Int) (x : Int) (x1 : 0 ≤ x) (x2 : x ≤ 255) (z : Int) (z1 : 0 ≤ z) (z2 : z ≤ 255) (v : Int) :
    APure Tryd.prog 6 [encHd h, encR r, .int .u8 x, .int .u8 z, .int .i64 v] (.bool true) := by
  have sA := alive_spec
  have sR := ready_spec h r
  by_cases h0 : checkI h r = 0
  · rw [decide_eq_true h0] at sR
    have ho := checkI_ok.1 h0
    have hN := secN_le ho
    have sN := rSeconds_spec h r ho
    obtain ⟨n1, x', x1', _, x2'⟩ := modN x1 x2 hN
    obtain ⟨_, z', z1', _, z2'⟩ := modN z1 z2 hN
    obtain ⟨a, ea⟩ : ∃ a : Nat, a = min x' z' := ⟨_, rfl⟩
    obtain ⟨b, eb⟩ : ∃ b : Nat, b = max x' z' := ⟨_, rfl⟩
    obtain ⟨w, ew⟩ : ∃ w, w = max v 1 := ⟨_, rfl⟩
    have hab : a ≤ b ∧ b ≤ secN h r := by omega
    have v13 : some (⟨.int .i64 ((IntKind.i64.wrap x).tmod (IntKind.i64.wrap ((secN h r : Int) + 1))), []⟩ : Out) = some ⟨.int .i64 x', []⟩ := by rw [x2']
    have v14 : some (⟨.int .i64 ((IntKind.i64.wrap z).tmod (IntKind.i64.wrap ((secN h r : Int) + 1))), []⟩ : Out) = some ⟨.int .i64 z', []⟩ := by rw [z2']
    have v58 : some (⟨.int .i64 (if (z' : Int) < (x' : Int) then (z' : Int) else (x' : Int)), []⟩ : Out) = some ⟨.int .i64 a, []⟩ := by rw [ifmin]; congr 2; congr 1; omega
    have v61 : some (⟨.int .i64 (if (z' : Int) > (x' : Int) then (z' : Int) else (x' : Int)), []⟩ : Out) = some ⟨.int .i64 b, []⟩ := by rw [ifmax]; congr 2; congr 1; omega
    have v73 : some (⟨.int .i64 (if 1 > v then 1 else v), []⟩ : Out) = some ⟨.int .i64 w, []⟩ := by rw [ifmax, ew]
    have sS : APure Tryd.prog 14 [encHd h, encR r, .int .i64 a, .int .i64 b] (encE (sumV h r a (b - a), 0)) := by
      have := Sum_spec h r a b
      rwa [show sumI h r a b = (sumV h r a (b - a), 0) by simp only [sumI, h0, if_true, if_pos (show 0 ≤ (a : Int) ∧ (a : Int) ≤ b ∧ (b : Int) ≤ secN h r by omega), Int.toNat_natCast, show ((b : Int) - (a : Int)).toNat = b - a by omega]] at this
    have sF : APure Tryd.prog 16 [encHd h, encR r, .int .i64 w] (encF (firstS h r w, knownI h r w, 0)) := by
      have := First_spec h r w
      rwa [show firstI h r w = (firstS h r w, knownI h r w, 0) by simp only [firstI, h0, if_true, if_pos (show 1 ≤ w by omega)]] at this
    obtain ⟨lo, hi, elo, ehi, hle, h30, hL⟩ := lags_rng ho.h
    have sL : ∀ lag : Nat, lag ≤ hi → APure Tryd.prog 34 [encHd h, encR r, .int .i64 lag, .bool false] (encR (enL (aLo h r lag) (secN h r))) := fun lag hl => ends_lo h r lag ho (by omega)
    have sH : ∀ lag : Nat, lag ≤ hi → APure Tryd.prog 34 [encHd h, encR r, .int .i64 lag, .bool true] (encR (enL (aHi h r lag) (secN h r))) := fun lag hl => ends_hi h r lag ho (by omega)
    have mem : ∀ i, i < hi + 1 - lo → lo + i ∈ lagsN h := fun i hi' => by rw [hL, List.mem_range'_1]; omega
    have mem' : ∀ lag ∈ lagsN h, ∃ i, i < hi + 1 - lo ∧ lag = lo + i := fun lag hl => by rw [hL, List.mem_range'_1] at hl; exact ⟨lag - lo, by omega, by omega⟩
    obtain ⟨p1, ⟨l2, m2, p2⟩, ⟨l3, m3, p3⟩⟩ := sumV_spec ho a (b - a) (by omega)
    obtain ⟨i2, i2', e2⟩ := mem' l2 m2
    obtain ⟨i3, i3', e3⟩ := mem' l3 m3
    subst e2 e3
    have q1 : ∀ i, i < hi + 1 - lo → (sumV h r a (b - a)).1 ≤ sumF (aLo h r (lo + i)) a (b - a) ∧ sumF (aHi h r (lo + i)) a (b - a) ≤ (sumV h r a (b - a)).2 := fun i hi' => p1 _ (mem i hi')
    have q2 : sumF (aLo h r (lo + i2)) a (b - a) = (sumV h r a (b - a)).1 := p2
    have q3 : sumF (aHi h r (lo + i3)) a (b - a) = (sumV h r a (b - a)).2 := p3
    obtain ⟨f0, f1, f2⟩ := ends_first ho w
    have g0 : ∀ _ : Unit, knownI h r w = 0 → ∀ i, i < hi + 1 - lo → ∀ k, k < secN h r → aHi h r (lo + i) k < w := fun _ e i hi' => (f0 e).2 _ (mem i hi')
    have gF : ∀ _ : Unit, knownI h r w = 0 → firstS h r w = (0, 0) := fun _ e => (f0 e).1
    have g1 : ∀ _ : Unit, knownI h r w ≠ 0 → ∃ i, i < hi + 1 - lo ∧ ∃ k, k < secN h r ∧ Hit (aLo h r (lo + i)) (aHi h r (lo + i)) w k ∧ (k : Int) = (firstS h r w).1 := fun _ e => by
      obtain ⟨⟨lag, hl, k, hk, hh, he⟩, _⟩ := f1 e
      obtain ⟨i, hi', rfl⟩ := mem' lag hl
      exact ⟨i, hi', k, hk, hh, he⟩
    have g2 : ∀ _ : Unit, knownI h r w ≠ 0 → ∃ i, i < hi + 1 - lo ∧ ∃ k, k < secN h r ∧ Hit (aLo h r (lo + i)) (aHi h r (lo + i)) w k ∧ (k : Int) = (firstS h r w).2 := fun _ e => by
      obtain ⟨_, lag, hl, k, hk, hh, he⟩ := f1 e
      obtain ⟨i, hi', rfl⟩ := mem' lag hl
      exact ⟨i, hi', k, hk, hh, he⟩
    have g3 : (∀ i, i < hi + 1 - lo → ∃ k, k < secN h r ∧ w ≤ aLo h r (lo + i) k) ↔ knownI h r w = 2 := by
      rw [← f2]
      exact ⟨fun hx lag hl => by obtain ⟨i, hi', rfl⟩ := mem' lag hl; exact hx i hi', fun hx i hi' => hx _ (mem i hi')⟩
    have rL := fun lag m => sumF_rng (f := aLo h r lag) (B := 300300000000000) (fun k => by have := a_rng ho lag k; omega) a m
    have rH := fun lag m => sumF_rng (f := aHi h r lag) (B := 300300000000000) (fun k => by have := a_rng ho lag k; omega) a m
    clear f0 f1 f2 p1 p2 p3 m2 m3 mem mem' hL h0 ho ew ea eb x1' z1' x2' z2' x1 x2 z1 z2
    generalize firstS h r w = F at *
    generalize knownI h r w = n at *
    generalize sumV h r a (b - a) = S at *
    generalize aLo h r = LO at *
    generalize aHi h r = HI at *
    generalize secN h r = N at *
    refine APure.vc Tryd.func6 rfl (.call (.bool true) <| .call (.bool true) <| .call (.int .i64 N) <| .draw 11 <| .nz <| .nz <| .val 13 (.int .i64 x') [] <| .val 14 (.int .i64 z') [] <| .val 58 (.int .i64 a) [] <| .val 61 (.int .i64 b) [] <| .call (encE (S, 0)) <| .val 73 (.int .i64 w) [] <| .call (encF (F, n, 0)) .loop) rfl rfl
      ⟨sA, sR, sN, by kernel_rfl, mixed, by kernel_rfl, n1, n1, v13, by kernel_rfl, v14, v58, v61, sS, v73, sF, ?_⟩
    clear v13 v14 v58 v61 v73 sA sR sN sS sF n1
    intro g hn hl
    replace hn : g.n = 220 := hn
    replace hl : g.low 0 := hl
    have hl16 : g.low 16 := hl.mono (Nat.zero_le _)
    refine acode_while (fun i : Nat × Bool × Bool × Bool × Bool × Bool => oSt h r w N a b S F n (lo + i.1) i.2.1 i.2.2.1 i.2.2.2.1 i.2.2.2.2.1 i.2.2.2.2.2 [])
      (fun i => lo + i.1 ≤ hi + 1 ∧ OI LO HI lo N a (b - a) S F n w i.1 i.2) (fun i => hi + 1 - (lo + i.1)) (0, false, false, n == 0, n == 0, true) ⟨Nat.le_succ_of_le hle, OI.init LO HI lo N a (b - a) S F n w⟩ ?_ (fun _ _ => hl16) ?_
    · exact oSt_le rfl rfl rfl rfl rfl rfl rfl rfl rfl rfl rfl rfl rfl rfl rfl (congrArg (AV.int .i64) elo) trivial rfl rfl rfl
    · rintro ⟨j, b20, b21, b22, b23, b24⟩ ⟨hj, I⟩
      replace hj : lo + j ≤ hi + 1 := hj
      replace I : OI LO HI lo N a (b - a) S F n w j (b20, b21, b22, b23, b24) := I
      by_cases hlt : lo + j ≤ hi
      · have d95 : decide (((lo + j : Nat) : Int) ≤ h.lHi) = true := decide_eq_true (by omega)
        have sL1 := sL (lo + j) hlt
        have sH1 := sH (lo + j) hlt
        obtain ⟨q11, q12⟩ := q1 j (by omega)
        have gz := fun e => g0 () e j (by omega)
        have gL : ∀ k, k < N → (enL (LO (lo + j)) N)[k]? = some (LO (lo + j) k) := fun k hk => enL_get _ hk
        have gH : ∀ k, k < N → (enL (HI (lo + j)) N)[k]? = some (HI (lo + j) k) := fun k hk => enL_get _ hk
        refine ACode.cut 0 (fun _ : Unit => oSt h r w N a b S F n (lo + j) b20 b21 b22 b23 b24 []) (fun _ => True) (.br 95 true .nil) hn hl (.round .cl) rfl ⟨d95, (), trivial, Wk.le (oSt_le rfl rfl rfl rfl rfl rfl rfl rfl rfl rfl rfl rfl rfl rfl rfl rfl trivial rfl rfl rfl) hl16⟩ fun _ _ => ?_
        refine acode_mid (fun q : Bool × Bool × Bool × Bool × Bool => oSt h r w N a b S F n (lo + j) q.1 q.2.1 q.2.2.1 q.2.2.2.1 q.2.2.2.2 []) (fun q => OI LO HI lo N a (b - a) S F n w (j + 1) q) (acode_block ?_) fun q hq => ?_
        · -- the sums
          refine ACode.cut 2 (fun _ : Unit => oSt h r w N a b S F n (lo + j) b20 b21 b22 b23 b24 [(26, encR (enL (LO (lo + j)) N)), (27, encR (enL (HI (lo + j)) N)), (28, .int .i64 (sumF (LO (lo + j)) a (b - a))), (29, .int .i64 (sumF (HI (lo + j)) a (b - a)))]) (fun _ => True)
            (.draw 7 <| .call (encR (enL (LO (lo + j)) N)) <| .call (encR (enL (HI (lo + j)) N)) .loop) hn hl (.inBlock (.mid (.round .cl))) rfl ⟨by kernel_rfl, mixed, by kernel_rfl, sL1, by kernel_rfl, sH1, ?_⟩ fun _ _ => ?_
          · intro g' hn' hl'
            replace hn' : g'.n = 220 := hn'
            replace hl' : g'.low 0 := hl'
            refine acode_while (fun i : Nat => oSt h r w N a b S F n (lo + j) b20 b21 b22 b23 b24 [(26, encR (enL (LO (lo + j)) N)), (27, encR (enL (HI (lo + j)) N)), (28, .int .i64 (sumF (LO (lo + j)) a i)), (29, .int .i64 (sumF (HI (lo + j)) a i)), (30, .int .i64 (a + i : Nat))])
              (fun i => a + i ≤ b) (fun i => b - (a + i)) 0 hab.1 ?_ (fun _ _ => hl'.mono (Nat.zero_le _)) ?_
            · exact oSt_le rfl rfl rfl rfl rfl rfl rfl rfl rfl rfl rfl rfl rfl rfl rfl rfl ⟨rfl, rfl, rfl, rfl, rfl, rfl, rfl, rfl, rfl, rfl, trivial⟩ rfl rfl rfl
            · intro i hi'
              by_cases hib : a + i < b
              · have d109 : decide (((a + i : Nat) : Int) < (b : Int)) = true := decide_eq_true (by omega)
                have xL := gL (a + i) (by omega)
                have xH := gH (a + i) (by omega)
                have r1 := rL (lo + j) (i + 1)
                have r2 := rH (lo + j) (i + 1)
                have eL : sumF (LO (lo + j)) a (i + 1) = sumF (LO (lo + j)) a i + LO (lo + j) (a + i) := rfl
                have eH : sumF (HI (lo + j)) a (i + 1) = sumF (HI (lo + j)) a i + HI (lo + j) (a + i) := rfl
                have v117 : some (⟨.int .i64 (IntKind.i64.wrap (sumF (LO (lo + j)) a i + LO (lo + j) (a + i))), []⟩ : Out) = some ⟨.int .i64 (sumF (LO (lo + j)) a (i + 1)), []⟩ := by rw [← eL, wrap64 (by omega) (by omega)]
                have v123 : some (⟨.int .i64 (IntKind.i64.wrap (sumF (HI (lo + j)) a i + HI (lo + j) (a + i))), []⟩ : Out) = some ⟨.int .i64 (sumF (HI (lo + j)) a (i + 1)), []⟩ := by rw [← eH, wrap64 (by omega) (by omega)]
                have ek : AV.int .i64 (IntKind.i64.wrap (((a + i : Nat) : Int) + 1)) = .int .i64 ((a + (i + 1) : Nat) : Int) := congrArg (AV.int .i64) (succ64 (k := a + i) (by omega))
                have mu : b - (a + (i + 1)) < b - (a + i) := by omega
                exact ACode.vc (.br 109 true <| .cells (encI (LO (lo + j) (a + i))) <| .val 117 (.int .i64 (sumF (LO (lo + j)) a (i + 1))) [] <| .cells (encI (HI (lo + j) (a + i))) <| .val 123 (.int .i64 (sumF (HI (lo + j)) a (i + 1))) [] .nil) hn' hl' (.round .cl)
                  ⟨d109, idx xL, v117, idx xH, v123, i + 1, hib, mu, oSt_le rfl rfl rfl rfl rfl rfl rfl rfl rfl rfl rfl rfl rfl rfl rfl rfl ⟨rfl, rfl, rfl, rfl, rfl, rfl, rfl, rfl, ek, rfl, trivial⟩ rfl rfl rfl⟩
              · have d109 : decide (((a + i : Nat) : Int) < (b : Int)) = false := decide_eq_false (by omega)
                have ei : i = b - a := by omega
                subst ei
                exact ACode.vc (.br 109 false .nil) hn' hl' (.round .cl) ⟨d109, _, .refl _, .nil, (), trivial, Wk.le (oSt_le rfl rfl rfl rfl rfl rfl rfl rfl rfl rfl rfl rfl rfl rfl rfl rfl ⟨rfl, rfl, rfl, rfl, rfl, rfl, rfl, rfl, trivial⟩ rfl rfl rfl) hl16⟩
          · -- the least and the greatest
            generalize hXe : sumF (LO (lo + j)) a (b - a) = X at *
            generalize hYe : sumF (HI (lo + j)) a (b - a) = Y at *
            have d142 : decide (X < S.1) = false := decide_eq_false (by omega)
            have d147 : decide (Y > S.2) = false := decide_eq_false (by omega)
            refine ACode.cut 1 (fun _ : Unit => oSt h r w N a b S F n (lo + j) (b20 || X == S.1) (b21 || Y == S.2) b22 b23 b24 [(26, encR (enL (LO (lo + j)) N)), (27, encR (enL (HI (lo + j)) N))]) (fun _ => True)
              (.draw 15 <| .br 142 false <| .br 147 false .nil) hn hl (.inBlock (.mid (.round .cl))) rfl ?_ fun _ _ => ?_
            · clear I
              cases b20 <;> cases b21 <;> exact ⟨by kernel_rfl, mixed, by kernel_rfl, by kernel_rfl, d142, d147, (), trivial, Wk.le (oSt_le rfl rfl rfl rfl rfl rfl rfl rfl rfl rfl rfl rfl rfl rfl rfl rfl ⟨rfl, rfl, rfl, rfl, trivial⟩ rfl rfl rfl) hl16⟩
            refine ACode.cut 1 (fun q : Bool × Bool × Bool => oSt h r w N a b S F n (lo + j) (b20 || X == S.1) (b21 || Y == S.2) q.1 q.2.1 b24 [(31, .bool q.2.2)]) (fun q => II (LO (lo + j)) (HI (lo + j)) N F w b22 b23 N q)
              .loop hn hl (.inBlock (.mid (.round .cl))) rfl ?_ fun q hq => ?_
            · intro g' hn' hl'
              replace hn' : g'.n = 220 := hn'
              replace hl' : g'.low 0 := hl'
              refine acode_while (fun i : Nat × Bool × Bool × Bool => oSt h r w N a b S F n (lo + j) (b20 || X == S.1) (b21 || Y == S.2) i.2.1 i.2.2.1 b24 [(26, encR (enL (LO (lo + j)) N)), (27, encR (enL (HI (lo + j)) N)), (31, .bool i.2.2.2), (148, .int .i64 N), (149, .int .i64 (i.1 : Nat))])
                (fun i => II (LO (lo + j)) (HI (lo + j)) N F w b22 b23 i.1 i.2) (fun i => N - i.1) (0, b22, b23, false) (II.init _ _ N F w b22 b23) ?_ (fun _ _ => hl'.mono (Nat.zero_le _)) ?_
              · exact oSt_le rfl rfl rfl rfl rfl rfl rfl rfl rfl rfl rfl rfl rfl rfl rfl rfl ⟨rfl, rfl, rfl, rfl, rfl, rfl, rfl, rfl, rfl, rfl, trivial⟩ rfl rfl rfl
              · rintro ⟨i, c22, c23, c31⟩ J
                replace J : II (LO (lo + j)) (HI (lo + j)) N F w b22 b23 i (c22, c23, c31) := J
                by_cases hiN : i < N
                · have d150 : decide ((i : Int) < (N : Int)) = true := decide_eq_true (by omega)
                  have xL := gL i hiN
                  have xH := gH i hiN
                  have ek : AV.int .i64 (IntKind.i64.wrap ((i : Int) + 1)) = .int .i64 ((i + 1 : Nat) : Int) := congrArg (AV.int .i64) (succ64 (k := i) (by omega))
                  have mu : N - (i + 1) < N - i := by omega
                  by_cases hw : HI (lo + j) i ≥ w
                  · have dw := decide_eq_true hw
                    by_cases hc : c31 = true
                    · have J' := J.miss hiN (.inr hc)
                      clear J I
                      subst hc
                      exact ACode.vc (.br 150 true <| .cells (encI (HI (lo + j) i)) <| .br 158 true .nil) hn' hl' (.round .cl) ⟨d150, idx xH, dw, (i + 1, c22, c23, true || decide (LO (lo + j) i ≥ w)), J', mu, oSt_le rfl rfl rfl rfl rfl rfl rfl rfl rfl rfl rfl rfl rfl rfl rfl rfl ⟨rfl, rfl, rfl, rfl, rfl, rfl, rfl, rfl, ek, rfl, trivial⟩ rfl rfl rfl⟩
                    · have hc : c31 = false := by simpa using hc
                      subst hc
                      have J' := J.hit hiN
                      have d177 : (n == 0) = false := by rw [beq_eq_false_iff_ne]; exact fun e => by have := gz e i hiN; omega
                      clear J I
                      cases c22 <;> cases c23 <;> exact ACode.vc (.br 150 true <| .cells (encI (HI (lo + j) i)) <| .br 158 true <| .draw 15 <| .br 177 false <| .cells (encI (LO (lo + j) i)) .nil) hn' hl' (.round .cl)
                        ⟨d150, idx xH, dw, by kernel_rfl, mixed, by kernel_rfl, by kernel_rfl, d177, idx xL, (i + 1, _ || (i : Int) == F.1, _ || (i : Int) == F.2, decide (LO (lo + j) i ≥ w)), J', mu, oSt_le rfl rfl rfl rfl rfl rfl rfl rfl rfl rfl rfl rfl rfl rfl rfl rfl ⟨rfl, rfl, rfl, rfl, rfl, rfl, rfl, rfl, ek, rfl, trivial⟩ rfl rfl rfl⟩
                  · have dw := decide_eq_false hw
                    have J' := J.miss hiN (.inl (by omega))
                    clear J I
                    cases c31
                    · exact ACode.vc (.br 150 true <| .cells (encI (HI (lo + j) i)) <| .br 158 false <| .cells (encI (LO (lo + j) i)) .nil) hn' hl' (.round .cl) ⟨d150, idx xH, dw, idx xL, (i + 1, c22, c23, false || decide (LO (lo + j) i ≥ w)), J', mu, oSt_le rfl rfl rfl rfl rfl rfl rfl rfl rfl rfl rfl rfl rfl rfl rfl rfl ⟨rfl, rfl, rfl, rfl, rfl, rfl, rfl, rfl, ek, rfl, trivial⟩ rfl rfl rfl⟩
                    · exact ACode.vc (.br 150 true <| .cells (encI (HI (lo + j) i)) <| .br 158 false .nil) hn' hl' (.round .cl) ⟨d150, idx xH, dw, (i + 1, c22, c23, true || decide (LO (lo + j) i ≥ w)), J', mu, oSt_le rfl rfl rfl rfl rfl rfl rfl rfl rfl rfl rfl rfl rfl rfl rfl rfl ⟨rfl, rfl, rfl, rfl, rfl, rfl, rfl, rfl, ek, rfl, trivial⟩ rfl rfl rfl⟩
                · have d150 : decide ((i : Int) < (N : Int)) = false := decide_eq_false (by omega)
                  have ei : i = N := by have := J.le; omega
                  rw [ei] at J
                  exact ACode.vc (.br 150 false .nil) hn' hl' (.round .cl) ⟨d150, _, .refl _, .nil, (c22, c23, c31), J, Wk.le (oSt_le rfl rfl rfl rfl rfl rfl rfl rfl rfl rfl rfl rfl rfl rfl rfl rfl ⟨rfl, rfl, trivial⟩ rfl rfl rfl) hl16⟩
            · subst hXe hYe
              exact ACode.vc (.both 189 .nil .nil) hn hl (.inBlock (.mid (.round .cl))) ⟨fun h24 => ⟨(_, _, _, _, _), I.step (c22 := q.1) (c23 := q.2.1) (c31 := q.2.2) hq, Wk.le (oSt_le rfl rfl rfl rfl rfl rfl rfl rfl rfl rfl rfl rfl rfl rfl (anT h24) rfl trivial rfl rfl rfl) hl16⟩, fun h24 => ⟨(_, _, _, _, _), I.step (c22 := q.1) (c23 := q.2.1) (c31 := q.2.2) hq, Wk.le (oSt_le rfl rfl rfl rfl rfl rfl rfl rfl rfl rfl rfl rfl rfl rfl (anF h24) rfl trivial rfl rfl rfl) hl16⟩⟩
        · have ek : AV.int .i64 (IntKind.i64.wrap (((lo + j : Nat) : Int) + 1)) = .int .i64 ((lo + (j + 1) : Nat) : Int) := congrArg (AV.int .i64) (succ64 (k := lo + j) (by omega))
          have mu : hi + 1 - (lo + (j + 1)) < hi + 1 - (lo + j) := by omega
          exact ACode.vc .nil hn hl (.round .cl) ⟨(j + 1, q), ⟨Nat.succ_le_succ hlt, hq⟩, mu, oSt_le rfl rfl rfl rfl rfl rfl rfl rfl rfl rfl rfl rfl rfl rfl rfl ek trivial rfl rfl rfl⟩
      · have d95 : decide (((lo + j : Nat) : Int) ≤ h.lHi) = false := decide_eq_false (by omega)
        have ej : j = hi + 1 - lo := by omega
        rw [ej] at I
        have h20 : b20 = true := I.x i2 i2' q2
        have h21 : b21 = true := I.y i3 i3' q3
        have h22 : b22 = true := by
          by_cases e : n = 0
          · exact I.e0 e
          · obtain ⟨i, hi', k, hk, hh, he⟩ := g1 () e
            exact I.e i hi' k hk hh he
        have h23 : b23 = true := by
          by_cases e : n = 0
          · exact I.l0 e
          · obtain ⟨i, hi', k, hk, hh, he⟩ := g2 () e
            exact I.l i hi' k hk hh he
        have h24 : b24 = true ↔ n = 2 := Iff.trans I.s g3
        have d211 : ((n == 2) == b24) = true := by
          rw [beq_iff_eq]
          cases b24
          · rw [beq_eq_false_iff_ne]; exact fun e => by have := h24.2 e; cases this
          · rw [beq_iff_eq]; exact h24.1 rfl
        clear I h24
        subst h20 h21 h22 h23
        by_cases e : n = 0
        · have d214 : (n != 0) = false := by simp [e]
          have eF := gF () e
          have q217 := eqSs F.1 F.2 0 0
          rw [show (F.1 == 0 && F.2 == 0) = true by rw [eF]; rfl] at q217
          exact ACode.vc (.br 95 false .nil) hn hl (.round .cl) ⟨d95, _, .refl _, .br 211 true <| .br 214 false <| .val 217 (.bool true) [] .nil, d211, d214, Eq.trans (by kernel_rfl) q217, rB rfl⟩
        · have d214 : (n != 0) = true := by simp [e]
          exact ACode.vc (.br 95 false .nil) hn hl (.round .cl) ⟨d95, _, .refl _, .br 211 true <| .br 214 true .nil, d211, d214, rB rfl⟩
  · rw [decide_eq_false h0] at sR
    exact APure.vc Tryd.func6 rfl (.call (.bool true) <| .call (.bool false) .nil) rfl rfl (kmp (by kernel_rfl) <| And.intro sA <| And.intro sR <| And.intro trivial rTrue)
end Go.Proofs.YtcdcgbgmpmaipaaDoor
