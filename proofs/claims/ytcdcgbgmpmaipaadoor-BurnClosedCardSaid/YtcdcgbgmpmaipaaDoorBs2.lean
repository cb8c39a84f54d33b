import Derived.Test.YtcdcgbgmpmaipaaDoorBs1
namespace Go.Proofs.YtcdcgbgmpmaipaaDoor
open Go Go.Am
set_option maxRecDepth 100000
def encBm (l : Lp) (r : List Int) : AV := .agg [.int .i64 l.before, .int .i64 l.after, encR r]
def encE (p : Sn × Int) : AV := .tup [encS p.1, .int .i64 p.2]
theorem slice_from {h : Nat → Option AObj} {r : List Int} {i : Nat} (hi : i ≤ r.length) : (aSlice Tryd.prog h 26 (.lst 1 (r.map encI)) (some (.int .i64 (i : Int))) none).map (fun v => (⟨v, []⟩ : Out)) = some ⟨.lst 1 ((r.drop i).map encI), []⟩ := by
  simp [aSlice, ty26, ty3, abound, hi, List.map_drop, List.take_of_length_le]
theorem clean_spec (l : Lp) (r : List Int) (i : Nat) (hr : r.length ≤ 120) (hi : i < r.length) : APure Tryd.prog 61 [encBm l r, .int .i64 i] (encS (cleanV l r i, l.before)) := by
  refine Exists.elim (getE hi) fun x hx => ?_
  have ed := drop_cons hx
  have sM := Max_spec x (r.drop (i + 1)) (by simp; omega)
  rw [← ed] at sM
  have es := slice_from (h := hget [(0, .cells [.int .i64 l.before, .int .i64 l.after, encR r]), (1, .cells [.int .i64 0, .int .i64 0])]) (Nat.le_of_lt hi)
  have ev : (if maxL x (r.drop (i + 1)) > l.after then maxL x (r.drop (i + 1)) else l.after) = cleanV l r i := by
    rw [ifmax, cleanV, ed]
    show max l.after _ = maxL (max l.after x) _
    rw [maxL_max]
  exact APure.vc Tryd.func61 rfl (.draw 12 <| .val 11 (.lst 1 ((r.drop i).map encI)) [] <| .call (.int .i64 (maxL x (r.drop (i + 1)))) .nil) rfl rfl
    ⟨by kernel_rfl, mixed, by kernel_rfl, Eq.trans (by kernel_rfl) es, sM, by kernel_rfl, rS ev rfl⟩
theorem dark_spec (l : Lp) (r : List Int) (i : Nat) (ho : LOk l r) (hi : i < r.length) : APure Tryd.prog 58 [encBm l r, .int .i64 i] (encS (darkS l r i)) := by
  have hx := rd_get hi
  have hr := ho.r.el _ (List.mem_of_getElem? hx)
  have hb := ho.b
  have hc := clean_rng ho i
  have hg := clean_ge (l := l) hi
  have s1 := clean_spec l r i ho.r.len hi
  have s2 := darkOf_spec (rd r i) (cleanV l r i) hr.1 hc.1 hg (by omega)
  have s3 := darkOf_spec (rd r i) l.before hr.1 hb.1 hr.2 hb.2
  exact APure.vc Tryd.func58 rfl (.draw 10 <| .call (encS (cleanV l r i, l.before)) <| .cells (encI (rd r i)) <| .draw 7 <| .call (.int .i64 (darkV (rd r i) (cleanV l r i))) <| .call (.int .i64 (darkV (rd r i) l.before)) .nil) rfl rfl
    ⟨by kernel_rfl, mixed, by kernel_rfl, s1, idx hx, by kernel_rfl, by kernel_rfl, mixed, by kernel_rfl, s2, by kernel_rfl, s3, trivial, rfl⟩
theorem darkS_rng {l : Lp} {r : List Int} (ho : LOk l r) {i : Nat} (hi : i < r.length) : (0 ≤ (darkS l r i).1 ∧ (darkS l r i).1 ≤ 1000) ∧ 0 ≤ (darkS l r i).2 ∧ (darkS l r i).2 ≤ 1000 := by
  have hx := rd_get hi
  have hr := ho.r.el _ (List.mem_of_getElem? hx)
  have hc := clean_rng ho i
  exact ⟨darkV_rng hr.1 hc.1 (clean_ge hi), darkV_rng hr.1 ho.b.1 hr.2⟩
theorem sumF_rngL {f : Nat → Int} {B : Int} {a : Nat} : ∀ {n : Nat}, (∀ i, a ≤ i → i < a + n → 0 ≤ f i ∧ f i ≤ B) → 0 ≤ sumF f a n ∧ sumF f a n ≤ n * B
  | 0, _ => by simp [sumF]
  | n + 1, h => by
    have h1 := sumF_rngL (f := f) (B := B) (a := a) (n := n) fun i h1 h2 => h i h1 (by omega)
    have h2 := h (a + n) (by omega) (by omega)
    have e : ((n + 1 : Nat) : Int) * B = n * B + B := by rw [Int.natCast_add, Int.add_mul]; simp
    simp only [sumF, e]
    omega
set_option maxRecDepth 100000 in
theorem total_dark_spec (l : Lp) (r : List Int) (a n : Nat) (ho : LOk l r) (hb : a + n ≤ r.length) : APure Tryd.prog 60 [.int .i64 a, .int .i64 (a + n : Nat), .fn (.func 58) [encBm l r] []] (encS (smokeS l r a n)) := by
  have hlen := ho.r.len
  have ew : IntKind.i64.wrap (((a + n : Nat) : Int) - (a : Int)) = (n : Int) := by rw [wrap64 (by omega) (by omega)]; omega
  refine APure.vc Tryd.func60 rfl .loop rfl rfl ?_
  intro g hn hl
  replace hn : g.n = 34 := hn
  replace hl : g.low 0 := hl
  refine acode_while (fun k : Nat => ⟨[(0, .int .i64 a), (2, .fn (.func 58) [encBm l r] []), (6, .vptr 0 0), (7, .vptr 1 0), (12, .int .i64 n), (13, .int .i64 k)], [(0, .cells [.int .i64 0, .int .i64 0]), (1, .cells [.int .i64 (smokeS l r a k).1, .int .i64 (smokeS l r a k).2])], 2⟩)
    (fun k => k ≤ n) (fun k => n - k) 0 (Nat.zero_le _) ?_ (fun _ _ => hl.mono (Nat.zero_le _)) ?_
  · exact St.le.of ⟨rfl, rfl, rfl, rfl, rfl, rfl, rfl, rfl, congrArg (AV.int .i64) ew, rfl, rfl, rfl, trivial⟩ ⟨rfl, (by decide : (0 : Nat) < 2), rfl, rfl, (by decide : (1 : Nat) < 2), rfl, trivial⟩
  · intro k hk
    by_cases hlt : k < n
    · have ek := congrArg (AV.int .i64) (succ64 (k := k) (by omega))
      have d14 : decide ((k : Int) < (n : Int)) = true := decide_eq_true (by omega)
      have ea : IntKind.i64.wrap ((a : Int) + (k : Int)) = ((a + k : Nat) : Int) := by rw [wrap64 (by omega) (by omega)]; omega
      have s : APure Tryd.prog 58 [encBm l r, .int .i64 (IntKind.i64.wrap ((a : Int) + (k : Int)))] (encS (darkS l r (a + k))) := by
        rw [ea]; exact dark_spec l r (a + k) ho (by omega)
      have q := darkS_rng ho (i := a + k) (by omega)
      have q1 : 0 ≤ (smokeS l r a k).1 ∧ (smokeS l r a k).1 ≤ k * 1000 := sumF_rngL fun i h1 h2 => (darkS_rng ho (i := i) (by omega)).1
      have q2 : 0 ≤ (smokeS l r a k).2 ∧ (smokeS l r a k).2 ≤ k * 1000 := sumF_rngL fun i h1 h2 => (darkS_rng ho (i := i) (by omega)).2
      have w1 : IntKind.i64.wrap ((smokeS l r a k).1 + (darkS l r (a + k)).1) = (smokeS l r a (k + 1)).1 := wrap64 (by omega) (by omega)
      have w2 : IntKind.i64.wrap ((smokeS l r a k).2 + (darkS l r (a + k)).2) = (smokeS l r a (k + 1)).2 := wrap64 (by omega) (by omega)
      have eo : some (AObj.cells [.int .i64 (IntKind.i64.wrap ((smokeS l r a k).1 + (darkS l r (a + k)).1)), .int .i64 (IntKind.i64.wrap ((smokeS l r a k).2 + (darkS l r (a + k)).2))]) = some (.cells [.int .i64 (smokeS l r a (k + 1)).1, .int .i64 (smokeS l r a (k + 1)).2]) := by rw [w1, w2]
      exact ACode.vc (.br 14 true <| .call (encS (darkS l r (a + k))) .nil) hn hl (.round .cl) ⟨d14, s, k + 1, hlt, mu1 hlt,
        St.le.of ⟨rfl, rfl, rfl, rfl, rfl, rfl, rfl, rfl, rfl, rfl, ek, rfl, trivial⟩ ⟨rfl, (by decide : (0 : Nat) < 2), rfl, eo, (by decide : (1 : Nat) < 2), rfl, trivial⟩⟩
    · have hk' : k = n := by omega
      subst hk'
      have d14 : decide ((k : Int) < (k : Int)) = false := decide_eq_false (by omega)
      exact ACode.vc (.br 14 false .nil) hn hl (.round .cl) ⟨d14, _, .refl _, .nil, trivial, rfl⟩
theorem isSec (r : List Int) (i : Int) (hr : r.length ≤ 120) : APure Tryd.prog 40 [.int .i64 i, .int .i64 ((r.map encI).length : Nat)] (.bool (decide (0 ≤ i ∧ i < r.length))) := by
  rw [List.length_map]; exact isSecond_spec i r.length (by omega)
theorem inSecond_spec {fid : Nat} {l : Lp} {r : List Int} {i : Int} (v : Sn) (hfid : fid = 61 ∨ fid = 58) (hv : LOk l r → 0 ≤ i → i < r.length → APure Tryd.prog fid [encBm l r, .int .i64 i] (encS v)) :
    APure Tryd.prog 57 [encLp l, encR r, .int .i64 i, .fn (.func fid) [] []] (encE (inSecI l r i v)) := by
  have s1 := checkLamp_spec l r
  by_cases h0 : lightsI l r = 0
  · have ho := lightsI_ok.1 h0
    have d15 : (lightsI l r != 0) = false := by simp [h0]
    have s2 := isSec r i ho.r.len
    by_cases hi : 0 ≤ i ∧ i < r.length
    · rw [decide_eq_true hi] at s2
      have s3 := hv ho hi.1 hi.2
      have e : inSecI l r i v = (v, 0) := by simp [inSecI, h0, hi]
      rw [e]
      rcases hfid with rfl | rfl
      · exact APure.vc Tryd.func57 rfl (.call (.int .i64 (lightsI l r)) <| .br 15 false <| .call (.bool true) <| .call (encS v) .nil) rfl rfl ⟨s1, d15, s2, s3, trivial, rfl⟩
      · exact APure.vc Tryd.func57 rfl (.call (.int .i64 (lightsI l r)) <| .br 15 false <| .call (.bool true) <| .call (encS v) .nil) rfl rfl ⟨s1, d15, s2, s3, trivial, rfl⟩
    · rw [decide_eq_false hi] at s2
      have e : inSecI l r i v = ((0, 0), 2) := by simp only [inSecI, h0, if_true, if_neg hi]
      rw [e]
      rcases hfid with rfl | rfl
      all_goals exact APure.vc Tryd.func57 rfl (.call (.int .i64 (lightsI l r)) <| .br 15 false <| .call (.bool false) .nil) rfl rfl ⟨s1, d15, s2, trivial, rfl⟩
  · have d15 : (lightsI l r != 0) = true := by simp [h0]
    have e : inSecI l r i v = ((0, 0), lightsI l r) := by simp only [inSecI, if_neg h0]
    rw [e]
    rcases hfid with rfl | rfl
    all_goals exact APure.vc Tryd.func57 rfl (.call (.int .i64 (lightsI l r)) <| .br 15 true .nil) rfl rfl ⟨s1, d15, trivial, rfl⟩
theorem Clean_spec (l : Lp) (r : List Int) (i : Int) : APure Tryd.prog 30 [encLp l, encR r, .int .i64 i] (encE (cleanI l r i)) := by
  have s : APure Tryd.prog 57 [encLp l, encR r, .int .i64 i, .fn (.func 61) [] []] (encE (cleanI l r i)) := inSecond_spec _ (.inl rfl) fun ho h0 h1 => by
    obtain ⟨k, rfl⟩ := Int.eq_ofNat_of_zero_le h0
    exact clean_spec l r k ho.r.len (by omega)
  exact APure.vc Tryd.func30 rfl (.call (encE (cleanI l r i)) .nil) rfl rfl ⟨s, trivial, rfl⟩
theorem Dark_spec (l : Lp) (r : List Int) (i : Int) : APure Tryd.prog 27 [encLp l, encR r, .int .i64 i] (encE (darkI l r i)) := by
  have s : APure Tryd.prog 57 [encLp l, encR r, .int .i64 i, .fn (.func 58) [] []] (encE (darkI l r i)) := inSecond_spec _ (.inr rfl) fun ho h0 h1 => by
    obtain ⟨k, rfl⟩ := Int.eq_ofNat_of_zero_le h0
    exact dark_spec l r k ho (by omega)
  exact APure.vc Tryd.func27 rfl (.call (encE (darkI l r i)) .nil) rfl rfl ⟨s, trivial, rfl⟩
theorem Smoke_spec (l : Lp) (r : List Int) (a b : Int) : APure Tryd.prog 29 [encLp l, encR r, .int .i64 a, .int .i64 b] (encE (smokeI l r a b)) := by
  have s1 := checkLamp_spec l r
  by_cases h0 : lightsI l r = 0
  · have ho := lightsI_ok.1 h0
    have d15 : (lightsI l r != 0) = false := by simp [h0]
    have s2 : APure Tryd.prog 45 [.int .i64 a, .int .i64 b, .int .i64 ((r.map encI).length : Nat)] (.bool (decide (0 ≤ a ∧ a ≤ b ∧ b ≤ r.length))) := by
      rw [List.length_map]; exact areSeconds_spec a b r.length
    by_cases hi : 0 ≤ a ∧ a ≤ b ∧ b ≤ r.length
    · rw [decide_eq_true hi] at s2
      obtain ⟨m, rfl⟩ := Int.eq_ofNat_of_zero_le hi.1
      obtain ⟨n, rfl⟩ : ∃ n : Nat, b = ((m + n : Nat) : Int) := ⟨(b - m).toNat, by omega⟩
      have e : smokeI l r (m : Int) ((m + n : Nat) : Int) = (smokeS l r m n, 0) := by
        have : (((m + n : Nat) : Int) - (m : Int)).toNat = n := by omega
        simp only [smokeI, h0, if_true, if_pos hi, Int.toNat_natCast, this]
      have s3 := total_dark_spec l r m n ho (by omega)
      rw [e]
      exact APure.vc Tryd.func29 rfl (.call (.int .i64 (lightsI l r)) <| .br 15 false <| .call (.bool true) <| .call (encS (smokeS l r m n)) .nil) rfl rfl ⟨s1, d15, s2, s3, trivial, rfl⟩
    · rw [decide_eq_false hi] at s2
      have e : smokeI l r a b = ((0, 0), 2) := by simp only [smokeI, h0, if_true, if_neg hi]
      rw [e]
      exact APure.vc Tryd.func29 rfl (.call (.int .i64 (lightsI l r)) <| .br 15 false <| .call (.bool false) .nil) rfl rfl ⟨s1, d15, s2, trivial, rfl⟩
  · have d15 : (lightsI l r != 0) = true := by simp [h0]
    have e : smokeI l r a b = ((0, 0), lightsI l r) := by simp only [smokeI, if_neg h0]
    rw [e]
    exact APure.vc Tryd.func29 rfl (.call (.int .i64 (lightsI l r)) <| .br 15 true .nil) rfl rfl ⟨s1, d15, trivial, rfl⟩
end Go.Proofs.YtcdcgbgmpmaipaaDoor
