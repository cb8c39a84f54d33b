import Derived.Test.YtcdcgbgmpmaipaaDoorBp2
namespace Go.Proofs.YtcdcgbgmpmaipaaDoor
open Go Go.Am
set_option maxRecDepth 100000
set_option maxRecDepth 100000 in
theorem within_spec (L : List Int) (lo hi : Int) (hL : L.length ≤ 1000000) : APure Tryd.prog 63 [.agg [.int .i64 lo, .int .i64 hi], .lst 1 (L.map encI)] (.bool (L.all (inB lo hi))) := by
  refine APure.vc Tryd.func63 rfl .loop rfl rfl ?_
  intro g hn hl
  replace hn : g.n = 24 := hn
  replace hl : g.low 0 := hl
  refine acode_while (fun k : Nat => ⟨[(2, .vptr 0 0), (7, .lst 1 (L.map encI)), (8, .int .i64 (L.map encI).length), (9, .int .i64 k)], [(0, .cells [.int .i64 lo, .int .i64 hi])], 1⟩) (fun k => k ≤ L.length ∧ (L.take k).all (inB lo hi) = true) (fun k => L.length - k) 0 ⟨Nat.zero_le _, rfl⟩ ?_ (fun _ _ => hl.mono (Nat.zero_le _)) ?_
  · exact St.le.of ⟨rfl, rfl, rfl, rfl, rfl, rfl, rfl, rfl, trivial⟩ ⟨rfl, (by decide : (0 : Nat) < 1), rfl, trivial⟩
  · rintro k ⟨hk1, hk2⟩
    by_cases hlt : k < L.length
    · refine Exists.elim (getE hlt) fun x hx => ?_
      have ek := congrArg (AV.int .i64) (succ64 (k := k) (by omega))
      have b1 : decide (x < lo) = true → L.all (inB lo hi) = false := fun h => all_bad hx (by simp at h; simp [inB]; omega)
      have b2 : decide (x > hi) = true → L.all (inB lo hi) = false := fun h => all_bad hx (by simp at h; simp [inB]; omega)
      have b3 : decide (x < lo) = false → decide (x > hi) = false → (L.take (k + 1)).all (inB lo hi) = true := fun h h' => by
        rw [take_all hx, hk2]; simp at h h'; simp [inB]; omega
      exact ACode.vc (.br 10 true <| .cells (encI x) <| .both 17 .nil (.both 22 .nil .nil)) hn hl (.round .cl)
        ⟨ltLen hlt, idx hx, fun h => ⟨_, .refl _, .nil, rB (b1 h).symm⟩, fun h => ⟨fun h' => ⟨_, .refl _, .nil, rB (b2 h').symm⟩, fun h' => ⟨k + 1, ⟨hlt, b3 h h'⟩, mu1 hlt,
          St.le.of ⟨rfl, rfl, rfl, rfl, rfl, rfl, ek, rfl, trivial⟩ ⟨rfl, (by decide : (0 : Nat) < 1), rfl, trivial⟩⟩⟩⟩
    · have hk' : k = L.length := by omega
      have e : true = L.all (inB lo hi) := by rw [hk', List.take_length] at hk2; exact hk2.symm
      exact ACode.vc (.br 10 false .nil) hn hl (.round .cl) ⟨geLen hlt, _, .refl _, .nil, rB e⟩
theorem upTo_spec (n : Int) : APure Tryd.prog 64 [.int .i64 n] (.agg [.int .i64 0, .int .i64 n]) :=
  APure.vc Tryd.func64 rfl .nil rfl rfl ⟨trivial, rfl⟩
theorem areReads_spec (r : List Int) (m : Int) : APure Tryd.prog 53 [encR r, .int .i64 m] (.bool (readsB r m)) := by
  have u := upTo_spec m
  have w := within_spec r 0 m
  have e1 : ∀ h : decide ((((r.map encI).length : Nat) : Int) ≤ 120) = true, r.length ≤ 120 := fun h => by simp at h; omega
  refine APure.vc Tryd.func53 rfl (.both 8 (.call (.agg [.int .i64 0, .int .i64 m]) <| .call (.bool (r.all (inB 0 m))) .nil) .nil) rfl rfl
    ⟨fun h => ⟨u, w (by have := e1 h; omega), rB ?_⟩, fun h => rB ?_⟩
  · have := e1 h; simp [readsB, this]
  · simp at h; simp [readsB]; omega
theorem isLamp_spec (l : Lp) : APure Tryd.prog 74 [encLp l] (.bool (lampB l)) := by
  have w1 : APure Tryd.prog 63 [.agg [.int .i64 1, .int .i64 1000000], .lst 1 [encI l.before]] (.bool (inB 1 1000000 l.before)) := by
    have := within_spec [l.before] 1 1000000 (by simp); simpa using this
  have w2 : APure Tryd.prog 63 [.agg [.int .i64 1, .int .i64 l.before], .lst 1 [encI l.after]] (.bool (inB 1 l.before l.after)) := by
    have := within_spec [l.after] 1 l.before (by simp); simpa using this
  cases h : inB 1 1000000 l.before
  · rw [h] at w1
    exact APure.vc Tryd.func74 rfl (.lent (.bool false) [1] .nil) rfl rfl ⟨⟨_, by kernel_rfl, .inl ⟨w1, .inr rfl⟩⟩, rB (by simp [lampB, h])⟩
  · rw [h] at w1
    exact APure.vc Tryd.func74 rfl (.lent (.bool true) [1] <| .lent (.bool (inB 1 l.before l.after)) [2] .nil) rfl rfl ⟨⟨_, by kernel_rfl, .inl ⟨w1, .inr rfl⟩⟩, ⟨_, by kernel_rfl, .inl ⟨w2, .inr rfl⟩⟩, rB (by simp [lampB, h])⟩
theorem checkLamp_spec (l : Lp) (r : List Int) : APure Tryd.prog 59 [encLp l, encR r] (.int .i64 (lightsI l r)) := by
  have s1 := isLamp_spec l
  have s2 := areReads_spec r l.before
  cases h1 : lampB l
  · rw [h1] at s1
    exact APure.vc Tryd.func59 rfl (.call (.bool false) .nil) rfl rfl ⟨s1, rI (by simp [lightsI, h1])⟩
  · rw [h1] at s1
    cases h2 : readsB r l.before
    · rw [h2] at s2
      exact APure.vc Tryd.func59 rfl (.call (.bool true) <| .call (.bool false) .nil) rfl rfl ⟨s1, s2, rI (by simp [lightsI, h1, h2])⟩
    · rw [h2] at s2
      exact APure.vc Tryd.func59 rfl (.call (.bool true) <| .call (.bool true) .nil) rfl rfl ⟨s1, s2, rI (by simp [lightsI, h1, h2])⟩
theorem isSecond_spec (i : Int) (n : Nat) (hn : n ≤ 1000000) : APure Tryd.prog 40 [.int .i64 i, .int .i64 n] (.bool (decide (0 ≤ i ∧ i < n))) := by
  have e : IntKind.i64.wrap ((n : Int) - 1) = (n : Int) - 1 := wrap64 (by omega) (by omega)
  have u := upTo_spec (IntKind.i64.wrap ((n : Int) - 1))
  have w : APure Tryd.prog 63 [.agg [.int .i64 0, .int .i64 (IntKind.i64.wrap ((n : Int) - 1))], .lst 1 [encI i]] (.bool (inB 0 (n - 1) i)) := by
    have := within_spec [i] 0 (n - 1) (by simp); rw [e]; simpa using this
  exact APure.vc Tryd.func40 rfl (.call (.agg [.int .i64 0, .int .i64 (IntKind.i64.wrap ((n : Int) - 1))]) <| .lent (.bool (inB 0 (n - 1) i)) [0] .nil) rfl rfl
    ⟨u, ⟨_, by kernel_rfl, .inl ⟨w, .inr rfl⟩⟩, rB (by simp only [inB]; exact decide_eq_decide.2 (by omega))⟩
theorem areSeconds_spec (a b : Int) (n : Nat) : APure Tryd.prog 45 [.int .i64 a, .int .i64 b, .int .i64 n] (.bool (decide (0 ≤ a ∧ a ≤ b ∧ b ≤ n))) := by
  have u := upTo_spec (n : Int)
  have w : APure Tryd.prog 63 [.agg [.int .i64 0, .int .i64 n], .lst 1 [encI a, encI b]] (.bool (inB 0 n a && inB 0 n b)) := by
    have := within_spec [a, b] 0 n (by simp); simpa using this
  cases h : (inB 0 n a && inB 0 n b)
  · rw [h] at w
    exact APure.vc Tryd.func45 rfl (.call (.agg [.int .i64 0, .int .i64 n]) <| .lent (.bool false) [0] .nil) rfl rfl
      ⟨u, ⟨_, by kernel_rfl, .inl ⟨w, .inr rfl⟩⟩, rB (by symm; simp [inB] at h; simp; omega)⟩
  · rw [h] at w
    exact APure.vc Tryd.func45 rfl (.call (.agg [.int .i64 0, .int .i64 n]) <| .lent (.bool true) [0] .nil) rfl rfl
      ⟨u, ⟨_, by kernel_rfl, .inl ⟨w, .inr rfl⟩⟩, rB (by simp [inB] at h; exact decide_eq_decide.2 (by omega))⟩
set_option maxRecDepth 100000 in
theorem Max_spec (x : Int) (L : List Int) (hL : L.length ≤ 1000000) : APure Tryd.prog 75 [.lst 1 ((x :: L).map encI)] (.int .i64 (maxL x L)) := by
  have d7 : decide (((((x :: L).map encI).length : Nat) : Int) < 1) = false := by simp; omega
  have i0 : 0 ≤ (0 : Int) ∧ ((x :: L).map encI)[(0 : Int).toNat]? = some (encI x) := ⟨Int.le_refl _, rfl⟩
  refine APure.vc Tryd.func75 rfl (.br 7 false <| .cells (encI x) .loop) rfl rfl ⟨d7, i0, ?_⟩
  intro g hn hl
  replace hn : g.n = 25 := hn
  replace hl : g.low 0 := hl
  refine acode_while (fun k : Nat => ⟨[(0, .lst 1 ((x :: L).map encI)), (3, .int .i64 (maxL x (L.take k))), (4, .int .i64 (k + 1 : Nat))], [], 0⟩) (fun k => k ≤ L.length) (fun k => L.length - k) 0 (Nat.zero_le _) ?_ (fun _ _ => hl) ?_
  · exact St.le.of ⟨rfl, rfl, rfl, rfl, rfl, rfl, trivial⟩ trivial
  · intro k hk
    by_cases hlt : k < L.length
    · refine Exists.elim (getE hlt) fun y hy => ?_
      have hy' : (x :: L)[k + 1]? = some y := hy
      have ek := congrArg (AV.int .i64) (succ64 (k := k + 1) (by omega))
      have em : AV.int .i64 (if y > maxL x (L.take k) then y else maxL x (L.take k)) = .int .i64 (maxL x (L.take (k + 1))) := by
        rw [ifmax, List.take_add_one, hy]; simp [maxL]
      have d15 : decide (((k + 1 : Nat) : Int) < ((((x :: L).map encI).length : Nat) : Int)) = true := by simp; omega
      exact ACode.vc (.br 15 true <| .cells (encI y) .nil) hn hl (.round .cl) ⟨d15, idx hy', k + 1, hlt, mu1 hlt, St.le.of ⟨rfl, rfl, em, rfl, ek, rfl, trivial⟩ trivial⟩
    · have hk' : k = L.length := by omega
      have d15 : decide (((k + 1 : Nat) : Int) < ((((x :: L).map encI).length : Nat) : Int)) = false := by simp; omega
      exact ACode.vc (.br 15 false .nil) hn hl (.round .cl) ⟨d15, _, .refl _, .nil, rI (by rw [hk', List.take_length])⟩
theorem darkOf_spec (a c : Int) (h0 : 0 ≤ a) (h1 : 1 ≤ c) (h2 : a ≤ c) (h3 : c ≤ 1000000) : APure Tryd.prog 73 [.int .i64 a, .int .i64 c] (.int .i64 (darkV a c)) := by
  have e1 : IntKind.i64.wrap (1000 * a) = 1000 * a := wrap64 (by omega) (by omega)
  have hr := dark_rng h0 h1 h2
  have e2 : IntKind.i64.wrap ((1000 * a).tdiv c) = (1000 * a).tdiv c := wrap64 (by omega) (by omega)
  have e3 : IntKind.i64.wrap (1000 - (1000 * a).tdiv c) = 1000 - (1000 * a).tdiv c := wrap64 (by omega) (by omega)
  exact APure.vc Tryd.func73 rfl (.nz .nil) rfl rfl ⟨by omega, rI (by rw [e1, e2, e3]; rfl)⟩
end Go.Proofs.YtcdcgbgmpmaipaaDoor
namespace Go.Proofs.YtcdcgbgmpmaipaaDoor
open Go Go.Am
set_option maxRecDepth 100000
def encBm (l : Lp) (r : List Int) : AV := .agg [.int .i64 l.before, .int .i64 l.after, encR r]
def encE (p : Sn × Int) : AV := .tup [encS p.1, .int .i64 p.2]
theorem slice_from {h : Nat → Option AObj} {r : List Int} {i : Nat} (hi : i ≤ r.length) : (aSlice Tryd.prog h 26 (.lst 1 (r.map encI)) (some (.int .i64 (i : Int))) none).map (fun v => (⟨v, []⟩ : Out)) = some ⟨.lst 1 ((r.drop i).map encI), []⟩ := by
  simp [aSlice, ty26, ty3, abound, hi, List.map_drop, List.take_of_length_le]
theorem clean_spec (l : Lp) (r : List Int) (i : Nat) (hr : r.length ≤ 120) (hi : i < r.length) : APure Tryd.prog 61 [encBm l r, .int .i64 i] (encS (cleanV l r i, l.before)) := by
  refine Exists.elim (getE hi) fun x hx => ?_
  have ed := drop_cons hx
  have sM := Max_spec x (r.drop (i + 1)) (by simp; omega)
  rw [← ed] at sM
  have es := slice_from (h := hget [(0, .cells [.int .i64 l.before, .int .i64 l.after, encR r]), (1, .cells [.int .i64 0, .int .i64 0])]) (Nat.le_of_lt hi)
  have ev : (if maxL x (r.drop (i + 1)) > l.after then maxL x (r.drop (i + 1)) else l.after) = cleanV l r i := by
    rw [ifmax, cleanV, ed]
    show max l.after _ = maxL (max l.after x) _
    rw [maxL_max]
  exact APure.vc Tryd.func61 rfl (.draw 12 <| .val 11 (.lst 1 ((r.drop i).map encI)) [] <| .call (.int .i64 (maxL x (r.drop (i + 1)))) .nil) rfl rfl
    ⟨by kernel_rfl, mixed, by kernel_rfl, Eq.trans (by kernel_rfl) es, sM, by kernel_rfl, rS ev rfl⟩
theorem dark_spec (l : Lp) (r : List Int) (i : Nat) (ho : LOk l r) (hi : i < r.length) : APure Tryd.prog 58 [encBm l r, .int .i64 i] (encS (darkS l r i)) := by
  have hx := rd_get hi
  have hr := ho.r.el _ (List.mem_of_getElem? hx)
  have hb := ho.b
  have hc := clean_rng ho i
  have hg := clean_ge (l := l) hi
  have s1 := clean_spec l r i ho.r.len hi
  have s2 := darkOf_spec (rd r i) (cleanV l r i) hr.1 hc.1 hg (by omega)
  have s3 := darkOf_spec (rd r i) l.before hr.1 hb.1 hr.2 hb.2
  exact APure.vc Tryd.func58 rfl (.draw 10 <| .call (encS (cleanV l r i, l.before)) <| .cells (encI (rd r i)) <| .draw 7 <| .call (.int .i64 (darkV (rd r i) (cleanV l r i))) <| .call (.int .i64 (darkV (rd r i) l.before)) .nil) rfl rfl
    ⟨by kernel_rfl, mixed, by kernel_rfl, s1, idx hx, by kernel_rfl, by kernel_rfl, mixed, by kernel_rfl, s2, by kernel_rfl, s3, trivial, rfl⟩
theorem darkS_rng {l : Lp} {r : List Int} (ho : LOk l r) {i : Nat} (hi : i < r.length) : (0 ≤ (darkS l r i).1 ∧ (darkS l r i).1 ≤ 1000) ∧ 0 ≤ (darkS l r i).2 ∧ (darkS l r i).2 ≤ 1000 := by
  have hx := rd_get hi
  have hr := ho.r.el _ (List.mem_of_getElem? hx)
  have hc := clean_rng ho i
  exact ⟨darkV_rng hr.1 hc.1 (clean_ge hi), darkV_rng hr.1 ho.b.1 hr.2⟩
theorem sumF_rngL {f : Nat → Int} {B : Int} {a : Nat} : ∀ {n : Nat}, (∀ i, a ≤ i → i < a + n → 0 ≤ f i ∧ f i ≤ B) → 0 ≤ sumF f a n ∧ sumF f a n ≤ n * B
  | 0, _ => by simp [sumF]
  | n + 1, h => by
    have h1 := sumF_rngL (f := f) (B := B) (a := a) (n := n) fun i h1 h2 => h i h1 (by omega)
    have h2 := h (a + n) (by omega) (by omega)
    have e : ((n + 1 : Nat) : Int) * B = n * B + B := by rw [Int.natCast_add, Int.add_mul]; simp
    simp only [sumF, e]
    omega
set_option maxRecDepth 100000 in
theorem total_dark_spec (l : Lp) (r : List Int) (a n : Nat) (ho : LOk l r) (hb : a + n ≤ r.length) : APure Tryd.prog 60 [.int .i64 a, .int .i64 (a + n : Nat), .fn (.func 58) [encBm l r] []] (encS (smokeS l r a n)) := by
  have hlen := ho.r.len
  have ew : IntKind.i64.wrap (((a + n : Nat) : Int) - (a : Int)) = (n : Int) := by rw [wrap64 (by omega) (by omega)]; omega
  refine APure.vc Tryd.func60 rfl .loop rfl rfl ?_
  intro g hn hl
  replace hn : g.n = 34 := hn
  replace hl : g.low 0 := hl
  refine acode_while (fun k : Nat => ⟨[(0, .int .i64 a), (2, .fn (.func 58) [encBm l r] []), (6, .vptr 0 0), (7, .vptr 1 0), (12, .int .i64 n), (13, .int .i64 k)], [(0, .cells [.int .i64 0, .int .i64 0]), (1, .cells [.int .i64 (smokeS l r a k).1, .int .i64 (smokeS l r a k).2])], 2⟩)
    (fun k => k ≤ n) (fun k => n - k) 0 (Nat.zero_le _) ?_ (fun _ _ => hl.mono (Nat.zero_le _)) ?_
  · exact St.le.of ⟨rfl, rfl, rfl, rfl, rfl, rfl, rfl, rfl, congrArg (AV.int .i64) ew, rfl, rfl, rfl, trivial⟩ ⟨rfl, (by decide : (0 : Nat) < 2), rfl, rfl, (by decide : (1 : Nat) < 2), rfl, trivial⟩
  · intro k hk
    by_cases hlt : k < n
    · have ek := congrArg (AV.int .i64) (succ64 (k := k) (by omega))
      have d14 : decide ((k : Int) < (n : Int)) = true := decide_eq_true (by omega)
      have ea : IntKind.i64.wrap ((a : Int) + (k : Int)) = ((a + k : Nat) : Int) := by rw [wrap64 (by omega) (by omega)]; omega
      have s : APure Tryd.prog 58 [encBm l r, .int .i64 (IntKind.i64.wrap ((a : Int) + (k : Int)))] (encS (darkS l r (a + k))) := by
        rw [ea]; exact dark_spec l r (a + k) ho (by omega)
      have q := darkS_rng ho (i := a + k) (by omega)
      have q1 : 0 ≤ (smokeS l r a k).1 ∧ (smokeS l r a k).1 ≤ k * 1000 := sumF_rngL fun i h1 h2 => (darkS_rng ho (i := i) (by omega)).1
      have q2 : 0 ≤ (smokeS l r a k).2 ∧ (smokeS l r a k).2 ≤ k * 1000 := sumF_rngL fun i h1 h2 => (darkS_rng ho (i := i) (by omega)).2
      have w1 : IntKind.i64.wrap ((smokeS l r a k).1 + (darkS l r (a + k)).1) = (smokeS l r a (k + 1)).1 := wrap64 (by omega) (by omega)
      have w2 : IntKind.i64.wrap ((smokeS l r a k).2 + (darkS l r (a + k)).2) = (smokeS l r a (k + 1)).2 := wrap64 (by omega) (by omega)
      have eo : some (AObj.cells [.int .i64 (IntKind.i64.wrap ((smokeS l r a k).1 + (darkS l r (a + k)).1)), .int .i64 (IntKind.i64.wrap ((smokeS l r a k).2 + (darkS l r (a + k)).2))]) = some (.cells [.int .i64 (smokeS l r a (k + 1)).1, .int .i64 (smokeS l r a (k + 1)).2]) := by rw [w1, w2]
      exact ACode.vc (.br 14 true <| .call (encS (darkS l r (a + k))) .nil) hn hl (.round .cl) ⟨d14, s, k + 1, hlt, mu1 hlt,
        St.le.of ⟨rfl, rfl, rfl, rfl, rfl, rfl, rfl, rfl, rfl, rfl, ek, rfl, trivial⟩ ⟨rfl, (by decide : (0 : Nat) < 2), rfl, eo, (by decide : (1 : Nat) < 2), rfl, trivial⟩⟩
    · have hk' : k = n := by omega
      subst hk'
      have d14 : decide ((k : Int) < (k : Int)) = false := decide_eq_false (by omega)
      exact ACode.vc (.br 14 false .nil) hn hl (.round .cl) ⟨d14, _, .refl _, .nil, trivial, rfl⟩
theorem isSec (r : List Int) (i : Int) (hr : r.length ≤ 120) : APure Tryd.prog 40 [.int .i64 i, .int .i64 ((r.map encI).length : Nat)] (.bool (decide (0 ≤ i ∧ i < r.length))) := by
  rw [List.length_map]; exact isSecond_spec i r.length (by omega)
theorem inSecond_spec {fid : Nat} {l : Lp} {r : List Int} {i : Int} (v : Sn) (hfid : fid = 61 ∨ fid = 58) (hv : LOk l r → 0 ≤ i → i < r.length → APure Tryd.prog fid [encBm l r, .int .i64 i] (encS v)) :
    APure Tryd.prog 57 [encLp l, encR r, .int .i64 i, .fn (.func fid) [] []] (encE (inSecI l r i v)) := by
  have s1 := checkLamp_spec l r
  by_cases h0 : lightsI l r = 0
  · have ho := lightsI_ok.1 h0
    have d15 : (lightsI l r != 0) = false := by simp [h0]
    have s2 := isSec r i ho.r.len
    by_cases hi : 0 ≤ i ∧ i < r.length
    · rw [decide_eq_true hi] at s2
      have s3 := hv ho hi.1 hi.2
      have e : inSecI l r i v = (v, 0) := by simp [inSecI, h0, hi]
      rw [e]
      rcases hfid with rfl | rfl
      · exact APure.vc Tryd.func57 rfl (.call (.int .i64 (lightsI l r)) <| .br 15 false <| .call (.bool true) <| .call (encS v) .nil) rfl rfl ⟨s1, d15, s2, s3, trivial, rfl⟩
      · exact APure.vc Tryd.func57 rfl (.call (.int .i64 (lightsI l r)) <| .br 15 false <| .call (.bool true) <| .call (encS v) .nil) rfl rfl ⟨s1, d15, s2, s3, trivial, rfl⟩
    · rw [decide_eq_false hi] at s2
      have e : inSecI l r i v = ((0, 0), 2) := by simp only [inSecI, h0, if_true, if_neg hi]
      rw [e]
      rcases hfid with rfl | rfl
      all_goals exact APure.vc Tryd.func57 rfl (.call (.int .i64 (lightsI l r)) <| .br 15 false <| .call (.bool false) .nil) rfl rfl ⟨s1, d15, s2, trivial, rfl⟩
  · have d15 : (lightsI l r != 0) = true := by simp [h0]
    have e : inSecI l r i v = ((0, 0), lightsI l r) := by simp only [inSecI, if_neg h0]
    rw [e]
    rcases hfid with rfl | rfl
    all_goals exact APure.vc Tryd.func57 rfl (.call (.int .i64 (lightsI l r)) <| .br 15 true .nil) rfl rfl ⟨s1, d15, trivial, rfl⟩
theorem Clean_spec (l : Lp) (r : List Int) (i : Int) : APure Tryd.prog 30 [encLp l, encR r, .int .i64 i] (encE (cleanI l r i)) := by
  have s : APure Tryd.prog 57 [encLp l, encR r, .int .i64 i, .fn (.func 61) [] []] (encE (cleanI l r i)) := inSecond_spec _ (.inl rfl) fun ho h0 h1 => by
    obtain ⟨k, rfl⟩ := Int.eq_ofNat_of_zero_le h0
    exact clean_spec l r k ho.r.len (by omega)
  exact APure.vc Tryd.func30 rfl (.call (encE (cleanI l r i)) .nil) rfl rfl ⟨s, trivial, rfl⟩
theorem Dark_spec (l : Lp) (r : List Int) (i : Int) : APure Tryd.prog 27 [encLp l, encR r, .int .i64 i] (encE (darkI l r i)) := by
  have s : APure Tryd.prog 57 [encLp l, encR r, .int .i64 i, .fn (.func 58) [] []] (encE (darkI l r i)) := inSecond_spec _ (.inr rfl) fun ho h0 h1 => by
    obtain ⟨k, rfl⟩ := Int.eq_ofNat_of_zero_le h0
    exact dark_spec l r k ho (by omega)
  exact APure.vc Tryd.func27 rfl (.call (encE (darkI l r i)) .nil) rfl rfl ⟨s, trivial, rfl⟩
theorem Smoke_spec (l : Lp) (r : List Int) (a b : Int) : APure Tryd.prog 29 [encLp l, encR r, .int .i64 a, .int .i64 b] (encE (smokeI l r a b)) := by
  have s1 := checkLamp_spec l r
  by_cases h0 : lightsI l r = 0
  · have ho := lightsI_ok.1 h0
    have d15 : (lightsI l r != 0) = false := by simp [h0]
    have s2 : APure Tryd.prog 45 [.int .i64 a, .int .i64 b, .int .i64 ((r.map encI).length : Nat)] (.bool (decide (0 ≤ a ∧ a ≤ b ∧ b ≤ r.length))) := by
      rw [List.length_map]; exact areSeconds_spec a b r.length
    by_cases hi : 0 ≤ a ∧ a ≤ b ∧ b ≤ r.length
    · rw [decide_eq_true hi] at s2
      obtain ⟨m, rfl⟩ := Int.eq_ofNat_of_zero_le hi.1
      obtain ⟨n, rfl⟩ : ∃ n : Nat, b = ((m + n : Nat) : Int) := ⟨(b - m).toNat, by omega⟩
      have e : smokeI l r (m : Int) ((m + n : Nat) : Int) = (smokeS l r m n, 0) := by
        have : (((m + n : Nat) : Int) - (m : Int)).toNat = n := by omega
        simp only [smokeI, h0, if_true, if_pos hi, Int.toNat_natCast, this]
      have s3 := total_dark_spec l r m n ho (by omega)
      rw [e]
      exact APure.vc Tryd.func29 rfl (.call (.int .i64 (lightsI l r)) <| .br 15 false <| .call (.bool true) <| .call (encS (smokeS l r m n)) .nil) rfl rfl ⟨s1, d15, s2, s3, trivial, rfl⟩
    · rw [decide_eq_false hi] at s2
      have e : smokeI l r a b = ((0, 0), 2) := by simp only [smokeI, h0, if_true, if_neg hi]
      rw [e]
      exact APure.vc Tryd.func29 rfl (.call (.int .i64 (lightsI l r)) <| .br 15 false <| .call (.bool false) .nil) rfl rfl ⟨s1, d15, s2, trivial, rfl⟩
  · have d15 : (lightsI l r != 0) = true := by simp [h0]
    have e : smokeI l r a b = ((0, 0), lightsI l r) := by simp only [smokeI, if_neg h0]
    rw [e]
    exact APure.vc Tryd.func29 rfl (.call (.int .i64 (lightsI l r)) <| .br 15 true .nil) rfl rfl ⟨s1, d15, trivial, rfl⟩
end Go.Proofs.YtcdcgbgmpmaipaaDoor
namespace Go.Proofs.YtcdcgbgmpmaipaaDoor
open Go Go.Am
set_option maxRecDepth 100000
theorem rwithin_spec (n lo hi : Int) : APure Tryd.prog 43 [.int .i64 n, .int .i64 lo, .int .i64 hi] (.bool (inB lo hi n)) := by
  refine APure.vc Tryd.func43 rfl (.both 10 .nil .nil) rfl rfl ⟨fun h => rB ?_, fun h => rB ?_⟩
  all_goals simp at h
  all_goals simp [inB, h]
  all_goals omega
theorem Great_spec (r : List Int) : APure Tryd.prog 11 [encR r] (.bool (decide (r.length > 150))) :=
  APure.vc Tryd.func11 rfl .nil rfl rfl (rB (by rw [List.length_map]; exact decide_eq_decide.2 (by omega)))
set_option maxRecDepth 100000 in
theorem SameInts_spec (l : List Int) (hl1 : l.length ≤ 100000) : APure Tryd.prog 20 [encR l, encR l] (.bool true) := by
  have hne : (((l.map encI).length : Int) != ((l.map encI).length : Int)) = false := by simp
  refine APure.vc Tryd.func20 rfl (.br 10 false .loop) rfl rfl ⟨hne, ?_⟩
  intro g hn hl
  replace hn : g.n = 26 := hn
  replace hl : g.low 0 := hl
  refine acode_while (fun k : Nat => ⟨[(0, encR l), (1, encR l), (5, .int .i64 k)], [], 0⟩) (fun k => k ≤ l.length) (fun k => l.length - k) 0 (Nat.zero_le _) ?_ (fun _ _ => hl) ?_
  · exact St.le.of ⟨rfl, rfl, rfl, rfl, rfl, rfl, trivial⟩ trivial
  · intro k hk
    by_cases hlt : k < l.length
    · refine Exists.elim (getE hlt) fun x hx => ?_
      have ek := congrArg (AV.int .i64) (succ64 (k := k) (by omega))
      have ne : (x != x) = false := by simp
      exact ACode.vc (.br 14 true <| .draw 8 <| .cells (encI x) <| .cells (encI x) <| .br 25 false .nil) hn hl (.round .cl) ⟨ltLen hlt, by kernel_rfl, mixed, by kernel_rfl, idx hx, idx hx, by kernel_rfl, ne, k + 1, hlt, mu1 hlt,
        St.le.of ⟨rfl, rfl, rfl, rfl, ek, rfl, trivial⟩ trivial⟩
    · exact ACode.vc (.br 14 false .nil) hn hl (.round .cl) ⟨geLen hlt, _, .refl _, .nil, rB rfl⟩
theorem rLamp_spec (l : Lp) : APure Tryd.prog 62 [encLp l] (.bool (lampB l)) := by
  have w1 := rwithin_spec l.before 1 1000000
  have w2 := rwithin_spec l.after 1 l.before
  cases h : inB 1 1000000 l.before
  · rw [h] at w1
    exact APure.vc Tryd.func62 rfl (.call (.bool false) .nil) rfl rfl ⟨w1, rB (by simp [lampB, h])⟩
  · rw [h] at w1
    exact APure.vc Tryd.func62 rfl (.call (.bool true) <| .call (.bool (inB 1 l.before l.after)) .nil) rfl rfl ⟨w1, w2, rB (by simp [lampB, h])⟩
set_option maxRecDepth 100000 in
theorem rreads_spec (r : List Int) (m : Int) : APure Tryd.prog 55 [encR r, .int .i64 m] (.bool (readsB r m)) := by
  by_cases hl : r.length ≤ 120
  · have d8 : decide ((((r.map encI).length : Nat) : Int) > 120) = false := by simp; omega
    refine APure.vc Tryd.func55 rfl (.br 8 false .loop) rfl rfl ⟨d8, ?_⟩
    intro g hn hl'
    replace hn : g.n = 22 := hn
    replace hl' : g.low 0 := hl'
    refine acode_while (fun k : Nat => ⟨[(0, encR r), (1, .int .i64 m), (5, .int .i64 k)], [], 0⟩) (fun k => k ≤ r.length ∧ (r.take k).all (inB 0 m) = true) (fun k => r.length - k) 0 ⟨Nat.zero_le _, rfl⟩ ?_ (fun _ _ => hl') ?_
    · exact St.le.of ⟨rfl, rfl, rfl, rfl, rfl, rfl, trivial⟩ trivial
    · rintro k ⟨hk1, hk2⟩
      by_cases hlt : k < r.length
      · refine Exists.elim (getE hlt) fun x hx => ?_
        have ek := congrArg (AV.int .i64) (succ64 (k := k) (by omega))
        have s := rwithin_spec x 0 m
        cases hb : inB 0 m x
        · rw [hb] at s
          have e : false = readsB r m := by simp [readsB, all_bad hx hb]
          exact ACode.vc (.br 12 true <| .cells (encI x) <| .call (.bool false) .nil) hn hl' (.round .cl) ⟨ltLen hlt, idx hx, s, _, .refl _, .nil, rB e⟩
        · rw [hb] at s
          exact ACode.vc (.br 12 true <| .cells (encI x) <| .call (.bool true) .nil) hn hl' (.round .cl) ⟨ltLen hlt, idx hx, s, k + 1, ⟨hlt, by rw [take_all hx, hk2, hb]; rfl⟩, mu1 hlt,
            St.le.of ⟨rfl, rfl, rfl, rfl, ek, rfl, trivial⟩ trivial⟩
      · have hk' : k = r.length := by omega
        have e : true = readsB r m := by rw [hk', List.take_length] at hk2; simp only [readsB, hk2, decide_eq_true hl]; rfl
        exact ACode.vc (.br 12 false .nil) hn hl' (.round .cl) ⟨geLen hlt, _, .refl _, .nil, rB e⟩
  · have d8 : decide ((((r.map encI).length : Nat) : Int) > 120) = true := by simp; omega
    exact APure.vc Tryd.func55 rfl (.br 8 true .nil) rfl rfl ⟨d8, rB (by simp [readsB, hl])⟩
theorem Lights_spec (l : Lp) (r : List Int) : APure Tryd.prog 37 [encLp l, encR r] (.int .i64 (lightsI l r)) := by
  have s1 := rLamp_spec l
  have s2 := rreads_spec r l.before
  cases h1 : lampB l
  · rw [h1] at s1
    exact APure.vc Tryd.func37 rfl (.call (.bool false) .nil) rfl rfl ⟨s1, rI (by simp [lightsI, h1])⟩
  · rw [h1] at s1
    cases h2 : readsB r l.before
    · rw [h2] at s2
      exact APure.vc Tryd.func37 rfl (.call (.bool true) <| .call (.bool false) .nil) rfl rfl ⟨s1, s2, rI (by simp [lightsI, h1, h2])⟩
    · rw [h2] at s2
      exact APure.vc Tryd.func37 rfl (.call (.bool true) <| .call (.bool true) .nil) rfl rfl ⟨s1, s2, rI (by simp [lightsI, h1, h2])⟩
end Go.Proofs.YtcdcgbgmpmaipaaDoor
