import Derived.Test.YtcdcgbgmpmaipaaDoorD14
namespace Go.Proofs.YtcdcgbgmpmaipaaDoor
open Go Go.Am
set_option maxRecDepth 100000
set_option maxHeartbeats 16000000
theorem neS (a b c d : Int) : ((aeqT Tryd.prog 6 23 (.agg [.int .i64 a, .int .i64 b]) (.agg [.int .i64 c, .int .i64 d])).map fun b => AV.bool !b).map (fun v => (⟨v, []⟩ : Out)) = some ⟨.bool !(a == c && b == d), []⟩ := by rw [eqSpan]; rfl
theorem eqSs (a b c d : Int) : ((aeqT Tryd.prog 6 23 (.agg [.int .i64 a, .int .i64 b]) (.agg [.int .i64 c, .int .i64 d])).map AV.bool).map (fun v => (⟨v, []⟩ : Out)) = some ⟨.bool (a == c && b == d), []⟩ := by rw [eqSpan]; rfl
theorem tm_rng {a b : Int} (h : 0 ≤ a) (hb : 0 < b) : 0 ≤ a.tmod b ∧ a.tmod b < b := by
  rw [Int.tmod_eq_emod_of_nonneg h]
  exact ⟨Int.emod_nonneg _ (by omega), Int.emod_lt_of_pos _ hb⟩
/-- A byte, taken by the number of seconds and one. -/
theorem modN {x : Int} {N : Nat} (h0 : 0 ≤ x) (h1 : x ≤ 255) (hN : N ≤ 120) : IntKind.i64.wrap ((N : Int) + 1) ≠ 0 ∧ ∃ k : Nat, k ≤ N ∧ (k : Int) = x.tmod ((N : Int) + 1) ∧ (IntKind.i64.wrap x).tmod (IntKind.i64.wrap ((N : Int) + 1)) = (k : Int) := by
  have e1 : IntKind.i64.wrap ((N : Int) + 1) = (N : Int) + 1 := wrap64 (by omega) (by omega)
  have e2 : IntKind.i64.wrap x = x := wrap64 (by omega) (by omega)
  have := tm_rng h0 (show 0 < (N : Int) + 1 by omega)
  rw [e1, e2]
  exact ⟨by omega, (x.tmod ((N : Int) + 1)).toNat, by omega, by omega, by omega⟩
theorem closed_core (h : Hd) (r : List Int) (x y z : Int) (hx : 0 ≤ x ∧ x ≤ 255) (hy : 0 ≤ y ∧ y ≤ 255) (hz : 0 ≤ z ∧ z ≤ 255) (h0 : checkI h r = 0) : APure Tryd.prog 7 [encHd h, encR r, .int .u8 x, .int .u8 y, .int .u8 z] (.bool true) := by
  have sA := alive_spec
  have sR := ready_spec h r
  rw [decide_eq_true h0] at sR
  have ho := checkI_ok.1 h0
  have sN := rSeconds_spec h r ho
  have hN := secN_le ho
  obtain ⟨n1, x', x1, _, x2⟩ := modN hx.1 hx.2 hN
  obtain ⟨_, y', y1, _, y2⟩ := modN hy.1 hy.2 hN
  obtain ⟨_, z', z1, _, z2⟩ := modN hz.1 hz.2 hN
  obtain ⟨a, ea⟩ : ∃ a : Nat, a = min (min x' y') z' := ⟨_, rfl⟩
  obtain ⟨c, ec⟩ : ∃ c : Nat, c = max (max x' y') z' := ⟨_, rfl⟩
  obtain ⟨b, eb⟩ : ∃ b : Nat, b = x' + y' + z' - a - c := ⟨_, rfl⟩
  have hab : a ≤ b ∧ b ≤ c ∧ c ≤ secN h r := by omega
  have v13 : some (⟨.int .i64 ((IntKind.i64.wrap x).tmod (IntKind.i64.wrap ((secN h r : Int) + 1))), []⟩ : Out) = some ⟨.int .i64 x', []⟩ := by rw [x2]
  have v14 : some (⟨.int .i64 ((IntKind.i64.wrap y).tmod (IntKind.i64.wrap ((secN h r : Int) + 1))), []⟩ : Out) = some ⟨.int .i64 y', []⟩ := by rw [y2]
  have v15 : some (⟨.int .i64 ((IntKind.i64.wrap z).tmod (IntKind.i64.wrap ((secN h r : Int) + 1))), []⟩ : Out) = some ⟨.int .i64 z', []⟩ := by rw [z2]
  have v62 : some (⟨.int .i64 (if (z' : Int) < (if (y' : Int) < (x' : Int) then (y' : Int) else (x' : Int)) then (z' : Int) else (if (y' : Int) < (x' : Int) then (y' : Int) else (x' : Int))), []⟩ : Out) = some ⟨.int .i64 a, []⟩ := by
    rw [ifmin, ifmin]; congr 2; congr 1; omega
  have v66 : some (⟨.int .i64 (if (z' : Int) > (if (y' : Int) > (x' : Int) then (y' : Int) else (x' : Int)) then (z' : Int) else (if (y' : Int) > (x' : Int) then (y' : Int) else (x' : Int))), []⟩ : Out) = some ⟨.int .i64 c, []⟩ := by
    rw [ifmax, ifmax]; congr 2; congr 1; omega
  have v75 : some (⟨.int .i64 (IntKind.i64.wrap (IntKind.i64.wrap (IntKind.i64.wrap (IntKind.i64.wrap ((x' : Int) + (y' : Int)) + (z' : Int)) - (a : Int)) - (c : Int))), []⟩ : Out) = some ⟨.int .i64 b, []⟩ := by
    rw [wrap64 (n := (x' : Int) + (y' : Int)) (by omega) (by omega), wrap64 (n := (x' : Int) + (y' : Int) + (z' : Int)) (by omega) (by omega), wrap64 (n := (x' : Int) + (y' : Int) + (z' : Int) - (a : Int)) (by omega) (by omega), wrap64 (by omega) (by omega)]
    congr 2; congr 1; omega
  have sum : ∀ (m n : Nat), m ≤ n → n ≤ secN h r → APure Tryd.prog 14 [encHd h, encR r, .int .i64 m, .int .i64 n] (encE (sumV h r m (n - m), 0)) := fun m n h1 h2 => by
    have := Sum_spec h r m n
    rwa [show sumI h r m n = (sumV h r m (n - m), 0) by simp only [sumI, h0, if_true, if_pos (show 0 ≤ (m : Int) ∧ (m : Int) ≤ n ∧ (n : Int) ≤ secN h r by omega), Int.toNat_natCast, show ((n : Int) - (m : Int)).toNat = n - m by omega]] at this
  have s1 := sum a b (by omega) (by omega)
  have s2 := sum b c (by omega) (by omega)
  have s3 := sum a c (by omega) (by omega)
  have s4 := sum b b (by omega) (by omega)
  rw [Nat.sub_self, sumV_zero ho] at s4
  have cl := sumV_close ho a (b - a) (c - b) (by omega)
  have kn := fun hk => sumV_known ho hk a (b - a) (c - b) (by omega)
  rw [show a + (b - a) = b by omega, show b - a + (c - b) = c - a by omega] at cl kn
  have rp := sumV_rng ho a (b - a) (by omega)
  have rq := sumV_rng ho b (c - b) (by omega)
  have s5 : b < secN h r → APure Tryd.prog 12 [encHd h, encR r, .int .i64 b] (encE (sumV h r b 1, 0)) := fun hb => by
    have := Heat_spec h r b
    rwa [show heatI h r b = (sumV h r b 1, 0) by simp only [heatI, h0, if_true, if_pos (show 0 ≤ (b : Int) ∧ (b : Int) < secN h r by omega), Int.toNat_natCast]] at this
  have s6 : b < secN h r → APure Tryd.prog 14 [encHd h, encR r, .int .i64 b, .int .i64 (IntKind.i64.wrap ((b : Int) + 1))] (encE (sumV h r b 1, 0)) := fun hb => by
    rw [succ64 (by omega)]
    have := sum b (b + 1) (by omega) (by omega)
    rwa [show b + 1 - b = 1 by omega] at this
  clear sum
  generalize sumV h r a (b - a) = p at *
  generalize sumV h r b (c - b) = q at *
  generalize sumV h r a (c - a) = s at *
  generalize sumV h r b 1 = t at *
  generalize secN h r = N at *
  have w1 : IntKind.i64.wrap (p.1 + q.1) = p.1 + q.1 := wrap64 (by omega) (by omega)
  have w2 : IntKind.i64.wrap (p.2 + q.2) = p.2 + q.2 := wrap64 (by omega) (by omega)
  have d137 : decide (s.1 < IntKind.i64.wrap (p.1 + q.1)) = false := decide_eq_false (by rw [w1]; omega)
  have d146 : decide (s.2 > IntKind.i64.wrap (p.2 + q.2)) = false := decide_eq_false (by rw [w2]; omega)
  have eqt : (t.1 == t.1 && t.2 == t.2) = true := by simp
  have q201 := eqSs t.1 t.2 t.1 t.2
  rw [eqt] at q201
  have q125 := neS 0 0 0 0
  have sp := span_spec (IntKind.i64.wrap (p.1 + q.1)) (IntKind.i64.wrap (p.2 + q.2))
  have q167 := neS s.1 s.2 (IntKind.i64.wrap (p.1 + q.1)) (IntKind.i64.wrap (p.2 + q.2))
  have kn' : (h.lLo == h.lHi) = true → (!(s.1 == IntKind.i64.wrap (p.1 + q.1) && s.2 == IntKind.i64.wrap (p.2 + q.2))) = false := fun hk => by
    rw [w1, w2, kn (by simpa using hk)]; simp
  clear ho cl kn rp rq hx hy hz n1
  have n1 : IntKind.i64.wrap ((N : Int) + 1) ≠ 0 := by rw [wrap64 (by omega) (by omega)]; omega
  by_cases hk : (h.lLo == h.lHi) = true
  · rw [kn' hk] at q167
    by_cases hbN : b = N
    · have d171 : ((b : Int) == (N : Int)) = true := by simp [hbN]
      exact APure.vc Tryd.func7 rfl (.call (.bool true) <| .call (.bool true) <| .call (.int .i64 N) <| .draw 17 <| .nz <| .nz <| .nz <| .val 13 (.int .i64 x') [] <| .val 14 (.int .i64 y') [] <| .val 15 (.int .i64 z') [] <| .val 62 (.int .i64 a) [] <| .val 66 (.int .i64 c) [] <| .val 75 (.int .i64 b) [] <|
          .call (encE (p, 0)) <| .call (encE (q, 0)) <| .call (encE (s, 0)) <| .call (encE ((0, 0), 0)) <| .val 125 (.bool false) [] <| .br 137 false <| .br 146 false <| .draw 20 <| .br 154 true <| .call (encS (IntKind.i64.wrap (p.1 + q.1), IntKind.i64.wrap (p.2 + q.2))) <| .val 167 (.bool false) [] <| .br 171 true .nil) rfl rfl
        (kmp (by kernel_rfl) <| And.intro sA <| And.intro sR <| And.intro sN <| And.intro tTrue <| And.intro mixed <| And.intro (Eq.refl (17 : Nat)) <| And.intro n1 <| And.intro n1 <| And.intro n1 <| And.intro v13 <| And.intro v14 <| And.intro tTrue <| And.intro v15 <| And.intro v62 <| And.intro v66 <| And.intro v75 <| And.intro s1 <| And.intro s2 <| And.intro s3 <| And.intro s4 <| And.intro q125 <| And.intro d137 <| And.intro d146 <| And.intro tTrue <| And.intro mixed <| And.intro (Eq.refl (20 : Nat)) <| And.intro hk <| And.intro sp <| And.intro tTrue <| And.intro q167 <| And.intro d171 <| And.intro trivial rTrue)
    · have d171 : ((b : Int) == (N : Int)) = false := by rw [beq_eq_false_iff_ne]; omega
      have hlt : b < N := by omega
      exact APure.vc Tryd.func7 rfl (.call (.bool true) <| .call (.bool true) <| .call (.int .i64 N) <| .draw 17 <| .nz <| .nz <| .nz <| .val 13 (.int .i64 x') [] <| .val 14 (.int .i64 y') [] <| .val 15 (.int .i64 z') [] <| .val 62 (.int .i64 a) [] <| .val 66 (.int .i64 c) [] <| .val 75 (.int .i64 b) [] <|
          .call (encE (p, 0)) <| .call (encE (q, 0)) <| .call (encE (s, 0)) <| .call (encE ((0, 0), 0)) <| .val 125 (.bool false) [] <| .br 137 false <| .br 146 false <| .draw 20 <| .br 154 true <| .call (encS (IntKind.i64.wrap (p.1 + q.1), IntKind.i64.wrap (p.2 + q.2))) <| .val 167 (.bool false) [] <| .br 171 false <|
          .call (encE (t, 0)) <| .call (encE (t, 0)) <| .val 201 (.bool true) [] .nil) rfl rfl
        (kmp (by kernel_rfl) <| And.intro sA <| And.intro sR <| And.intro sN <| And.intro tTrue <| And.intro mixed <| And.intro (Eq.refl (17 : Nat)) <| And.intro n1 <| And.intro n1 <| And.intro n1 <| And.intro v13 <| And.intro v14 <| And.intro tTrue <| And.intro v15 <| And.intro v62 <| And.intro v66 <| And.intro v75 <| And.intro s1 <| And.intro s2 <| And.intro s3 <| And.intro s4 <| And.intro q125 <| And.intro d137 <| And.intro d146 <| And.intro tTrue <| And.intro mixed <| And.intro (Eq.refl (20 : Nat)) <| And.intro hk <| And.intro sp <| And.intro tTrue <| And.intro q167 <| And.intro d171 <| And.intro (s5 hlt) <| And.intro (s6 hlt) <| And.intro q201 <| And.intro trivial rTrue)
  · have hk : (h.lLo == h.lHi) = false := by simpa using hk
    by_cases hbN : b = N
    · have d171 : ((b : Int) == (N : Int)) = true := by simp [hbN]
      exact APure.vc Tryd.func7 rfl (.call (.bool true) <| .call (.bool true) <| .call (.int .i64 N) <| .draw 17 <| .nz <| .nz <| .nz <| .val 13 (.int .i64 x') [] <| .val 14 (.int .i64 y') [] <| .val 15 (.int .i64 z') [] <| .val 62 (.int .i64 a) [] <| .val 66 (.int .i64 c) [] <| .val 75 (.int .i64 b) [] <|
          .call (encE (p, 0)) <| .call (encE (q, 0)) <| .call (encE (s, 0)) <| .call (encE ((0, 0), 0)) <| .val 125 (.bool false) [] <| .br 137 false <| .br 146 false <| .draw 20 <| .br 154 false <| .br 171 true .nil) rfl rfl
        (kmp (by kernel_rfl) <| And.intro sA <| And.intro sR <| And.intro sN <| And.intro tTrue <| And.intro mixed <| And.intro (Eq.refl (17 : Nat)) <| And.intro n1 <| And.intro n1 <| And.intro n1 <| And.intro v13 <| And.intro v14 <| And.intro tTrue <| And.intro v15 <| And.intro v62 <| And.intro v66 <| And.intro v75 <| And.intro s1 <| And.intro s2 <| And.intro s3 <| And.intro s4 <| And.intro q125 <| And.intro d137 <| And.intro d146 <| And.intro tTrue <| And.intro mixed <| And.intro (Eq.refl (20 : Nat)) <| And.intro hk <| And.intro tTrue <| And.intro d171 <| And.intro trivial rTrue)
    · have d171 : ((b : Int) == (N : Int)) = false := by rw [beq_eq_false_iff_ne]; omega
      have hlt : b < N := by omega
      exact APure.vc Tryd.func7 rfl (.call (.bool true) <| .call (.bool true) <| .call (.int .i64 N) <| .draw 17 <| .nz <| .nz <| .nz <| .val 13 (.int .i64 x') [] <| .val 14 (.int .i64 y') [] <| .val 15 (.int .i64 z') [] <| .val 62 (.int .i64 a) [] <| .val 66 (.int .i64 c) [] <| .val 75 (.int .i64 b) [] <|
          .call (encE (p, 0)) <| .call (encE (q, 0)) <| .call (encE (s, 0)) <| .call (encE ((0, 0), 0)) <| .val 125 (.bool false) [] <| .br 137 false <| .br 146 false <| .draw 20 <| .br 154 false <| .br 171 false <|
          .call (encE (t, 0)) <| .call (encE (t, 0)) <| .val 201 (.bool true) [] .nil) rfl rfl
        (kmp (by kernel_rfl) <| And.intro sA <| And.intro sR <| And.intro sN <| And.intro tTrue <| And.intro mixed <| And.intro (Eq.refl (17 : Nat)) <| And.intro n1 <| And.intro n1 <| And.intro n1 <| And.intro v13 <| And.intro v14 <| And.intro tTrue <| And.intro v15 <| And.intro v62 <| And.intro v66 <| And.intro v75 <| And.intro s1 <| And.intro s2 <| And.intro s3 <| And.intro s4 <| And.intro q125 <| And.intro d137 <| And.intro d146 <| And.intro tTrue <| And.intro mixed <| And.intro (Eq.refl (20 : Nat)) <| And.intro hk <| And.intro tTrue <| And.intro d171 <| And.intro (s5 hlt) <| And.intro (s6 hlt) <| And.intro q201 <| And.intro trivial rTrue)
theorem law_closed (h : Hd) (r : List Int) (x : Int) (hx1 : 0 ≤ x) (hx2 : x ≤ 255) (y : Int) (hy1 : 0 ≤ y) (hy2 : y ≤ 255) (z : Int) (hz1 : 0 ≤ z) (hz2 : z ≤ 255) : APure Tryd.prog 7 [encHd h, encR r, .int .u8 x, .int .u8 y, .int .u8 z] (.bool true) := by
  by_cases h0 : checkI h r = 0
  · exact closed_core h r x y z ⟨hx1, hx2⟩ ⟨hy1, hy2⟩ ⟨hz1, hz2⟩ h0
  · have sR := ready_spec h r
    rw [decide_eq_false h0] at sR
    exact APure.vc Tryd.func7 rfl (.call (.bool true) <| .call (.bool false) .nil) rfl rfl (kmp (by kernel_rfl) <| And.intro alive_spec <| And.intro sR <| And.intro trivial rTrue)
end Go.Proofs.YtcdcgbgmpmaipaaDoor
