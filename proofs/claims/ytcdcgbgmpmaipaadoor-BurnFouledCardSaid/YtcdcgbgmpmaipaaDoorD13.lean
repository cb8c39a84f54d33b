import Derived.Test.YtcdcgbgmpmaipaaDoorD11
namespace Go.Proofs.YtcdcgbgmpmaipaaDoor
open Go Go.Am
/-! ### Plain: what sums and levels are -/
theorem lagsN_ne (h : Hd) : lagsN h ≠ [] := by unfold lagsN; simp [List.range'_succ]
theorem mem_lags {h : Hd} (ho : HoodOk h) {lag : Nat} : lag ∈ lagsN h ↔ h.lLo ≤ lag ∧ (lag : Int) ≤ h.lHi := by
  obtain ⟨lo, hi, elo, ehi, hle, h30, hL⟩ := lags_rng ho
  rw [hL, List.mem_range'_1, elo, ehi]; omega
theorem sumV_spec {h : Hd} {r : List Int} (ho : Ok h r) (a n : Nat) (hn : n ≤ 120) :
    (∀ lag ∈ lagsN h, (sumV h r a n).1 ≤ (sumS h r a n lag).1 ∧ (sumS h r a n lag).2 ≤ (sumV h r a n).2) ∧ (∃ lag ∈ lagsN h, (sumS h r a n lag).1 = (sumV h r a n).1) ∧ ∃ lag ∈ lagsN h, (sumS h r a n lag).2 = (sumV h r a n).2 := by
  have hs : ∀ s ∈ (lagsN h).map (sumS h r a n), 0 ≤ s.2 := fun s hs => by
    obtain ⟨lag, _, rfl⟩ := List.mem_map.1 hs
    have := sumS_rng ho a n lag hn; omega
  obtain ⟨h0, h1, ⟨x, hx, hx'⟩, ⟨y, hy, hy'⟩⟩ := widL_spec (l := (lagsN h).map (sumS h r a n)) (by simpa using lagsN_ne h) hs
  have e : sumV h r a n = widL ((lagsN h).map (sumS h r a n)) := by unfold sumV widZ; rw [if_neg h0]
  rw [e]
  refine ⟨fun lag hl => h1 _ (List.mem_map_of_mem hl), ?_, ?_⟩
  · obtain ⟨lag, hl, rfl⟩ := List.mem_map.1 hx; exact ⟨lag, hl, hx'⟩
  · obtain ⟨lag, hl, rfl⟩ := List.mem_map.1 hy; exact ⟨lag, hl, hy'⟩
theorem sumS_add (h : Hd) (r : List Int) (a m n lag : Nat) : (sumS h r a (m + n) lag).1 = (sumS h r a m lag).1 + (sumS h r (a + m) n lag).1 ∧ (sumS h r a (m + n) lag).2 = (sumS h r a m lag).2 + (sumS h r (a + m) n lag).2 :=
  ⟨sumF_add _ _ _ _, sumF_add _ _ _ _⟩
theorem sumV_close {h : Hd} {r : List Int} (ho : Ok h r) (a m n : Nat) (hn : m + n ≤ 120) :
    (sumV h r a m).1 + (sumV h r (a + m) n).1 ≤ (sumV h r a (m + n)).1 ∧ (sumV h r a (m + n)).2 ≤ (sumV h r a m).2 + (sumV h r (a + m) n).2 := by
  obtain ⟨p1, _, _⟩ := sumV_spec ho a m (by omega)
  obtain ⟨q1, _, _⟩ := sumV_spec ho (a + m) n (by omega)
  obtain ⟨_, ⟨x, hx, hx'⟩, ⟨y, hy, hy'⟩⟩ := sumV_spec ho a (m + n) hn
  have ax := sumS_add h r a m n x
  have ay := sumS_add h r a m n y
  have := p1 x hx
  have := q1 x hx
  have := p1 y hy
  have := q1 y hy
  omega
theorem sumV_known {h : Hd} {r : List Int} (ho : Ok h r) (hk : h.lLo = h.lHi) (a m n : Nat) (hn : m + n ≤ 120) :
    sumV h r a (m + n) = ((sumV h r a m).1 + (sumV h r (a + m) n).1, (sumV h r a m).2 + (sumV h r (a + m) n).2) := by
  obtain ⟨lo, hi, elo, ehi, hle, h30, hL⟩ := lags_rng ho.h
  have e : lo = hi := by omega
  have one : ∀ lag ∈ lagsN h, lag = lo := fun lag hl => by rw [hL, List.mem_range'_1] at hl; omega
  obtain ⟨_, ⟨x, hx, hx'⟩, ⟨x2, hx2, hx2'⟩⟩ := sumV_spec ho a m (by omega)
  obtain ⟨_, ⟨y, hy, hy'⟩, ⟨y2, hy2, hy2'⟩⟩ := sumV_spec ho (a + m) n (by omega)
  obtain ⟨_, ⟨z, hz, hz'⟩, ⟨z2, hz2, hz2'⟩⟩ := sumV_spec ho a (m + n) hn
  rw [one x hx] at hx'
  rw [one x2 hx2] at hx2'
  rw [one y hy] at hy'
  rw [one y2 hy2] at hy2'
  rw [one z hz] at hz'
  rw [one z2 hz2] at hz2'
  have := sumS_add h r a m n lo
  refine Prod.ext ?_ ?_ <;> simp only <;> omega
theorem sumV_zero {h : Hd} {r : List Int} (ho : Ok h r) (a : Nat) : sumV h r a 0 = (0, 0) := by
  obtain ⟨_, ⟨x, hx, hx'⟩, ⟨y, hy, hy'⟩⟩ := sumV_spec ho a 0 (by omega)
  refine Prod.ext ?_ ?_
  · exact hx'.symm
  · exact hy'.symm
theorem sumV_rng {h : Hd} {r : List Int} (ho : Ok h r) (a n : Nat) (hn : n ≤ 120) : 0 ≤ (sumV h r a n).1 ∧ (sumV h r a n).1 ≤ 36036000000000000 ∧ 0 ≤ (sumV h r a n).2 ∧ (sumV h r a n).2 ≤ 36036000000000000 := by
  obtain ⟨_, ⟨x, hx, hx'⟩, ⟨y, hy, hy'⟩⟩ := sumV_spec ho a n hn
  have := sumS_rng ho a n x hn
  have := sumS_rng ho a n y hn
  omega
/-- What an arrival tells. -/
inductive ArrOk (lo hi : Nat → Int) (v : Int) (N : Nat) : Sn × Bool → Prop
  | none (h : ∀ k, k < N → hi k < v) : ArrOk lo hi v N ((-1, -1), false)
  | sure (f e : Nat) (h1 : f ≤ e) (h2 : e < N) (h3 : v ≤ hi f) (h4 : ∀ k, k < f → hi k < v) (h5 : v ≤ hi e) (h6 : v ≤ lo e) (h7 : ∀ k, k < e → lo k < v) : ArrOk lo hi v N (((f : Int), (e : Int)), true)
  | may (f e : Nat) (h1 : f ≤ e) (h2 : e < N) (h3 : v ≤ hi f) (h4 : ∀ k, k < f → hi k < v) (h5 : v ≤ hi e) (h6 : ∀ k, k < N → lo k < v) (h7 : ∀ k, e < k → k < N → hi k < v) : ArrOk lo hi v N (((f : Int), (e : Int)), false)
theorem arr_ok {h : Hd} {r : List Int} (ho : Ok h r) (lag : Nat) (v : Int) : ∀ N, ArrOk (aLo h r lag) (aHi h r lag) v N (arrK h r lag v N)
  | 0 => .none fun k hk => absurd hk (Nat.not_lt_zero _)
  | N + 1 => by
    have ih := arr_ok ho lag v N
    have hh := arr_hit (h := h) (r := r) (lag := lag) (v := v) (k := N)
    have hm := arr_miss (h := h) (r := r) (lag := lag) (v := v) (k := N)
    have hs := arr_stay (h := h) (r := r) (lag := lag) (v := v) (k := N)
    have hle := fun k => (a_rng ho lag k).2.1
    generalize arrK h r lag v = A at *
    generalize aLo h r lag = lo at *
    generalize aHi h r lag = hi at *
    generalize hX : A N = X at ih
    rw [hX] at hh hm hs
    have lt : ∀ k, k < N + 1 → k < N ∨ k = N := fun k hk => by omega
    cases ih with
    | none h0 =>
      by_cases c : v ≤ hi N
      · rw [hh rfl c]
        have e : joinP (-1, -1) ((N : Int), (N : Int)) = ((N : Int), (N : Int)) := by simp [joinP]
        rw [e]
        by_cases d : v ≤ lo N
        · rw [decide_eq_true d]; exact .sure N N (Nat.le_refl _) (Nat.lt_succ_self _) c h0 c d fun k hk => by have := h0 k hk; have := hle k; omega
        · rw [decide_eq_false d]; exact .may N N (Nat.le_refl _) (Nat.lt_succ_self _) c h0 c (fun k hk => by
            rcases lt k hk with hk | rfl
            · have := h0 k hk; have := hle k; omega
            · omega) fun k h1 h2 => by omega
      · rw [hm rfl (by omega)]
        exact .none fun k hk => by
          rcases lt k hk with hk | rfl
          · exact h0 k hk
          · omega
    | sure f e h1 h2 h3 h4 h5 h6 h7 =>
      rw [hs rfl (N + 1) (by omega)]
      exact .sure f e h1 (by omega) h3 h4 h5 h6 h7
    | may f e h1 h2 h3 h4 h5 h6 h7 =>
      by_cases c : v ≤ hi N
      · rw [hh rfl c]
        have ej : joinP ((f : Int), (e : Int)) ((N : Int), (N : Int)) = ((f : Int), (N : Int)) := by
          unfold joinP
          rw [if_neg fun x => by have := congrArg Prod.fst x; simp at this]
          refine Prod.ext ?_ ?_ <;> simp only <;> omega
        rw [ej]
        by_cases d : v ≤ lo N
        · rw [decide_eq_true d]; exact .sure f N (by omega) (Nat.lt_succ_self _) h3 h4 c d h6
        · rw [decide_eq_false d]; exact .may f N (by omega) (Nat.lt_succ_self _) h3 h4 c (fun k hk => by
            rcases lt k hk with hk | rfl
            · exact h6 k hk
            · omega) fun k h1 h2 => by omega
      · rw [hm rfl (by omega)]
        exact .may f e h1 (by omega) h3 h4 h5 (fun k hk => by
            rcases lt k hk with hk | rfl
            · exact h6 k hk
            · have := hle k; omega) fun k k1 k2 => by
          rcases lt k k2 with hk | rfl
          · exact h7 k k1 hk
          · omega
theorem arrV_ok {h : Hd} {r : List Int} (ho : Ok h r) (lag : Nat) (v : Int) : ArrOk (aLo h r lag) (aHi h r lag) v (secN h r) (arrV h r v lag) := arr_ok ho lag v (secN h r)
theorem may_mem {h : Hd} {r : List Int} {v : Int} {lag : Nat} : lag ∈ mayL h r v ↔ lag ∈ lagsN h ∧ 0 ≤ (arrV h r v lag).1.1 := by
  unfold mayL
  rw [List.mem_filter]
  simp [mayB]
theorem firstS_spec {h : Hd} {r : List Int} (ho : Ok h r) {v : Int} (hm : mayL h r v ≠ []) :
    (∀ lag ∈ mayL h r v, (firstS h r v).1 ≤ (arrV h r v lag).1.1 ∧ (arrV h r v lag).1.2 ≤ (firstS h r v).2) ∧ (∃ lag ∈ mayL h r v, (arrV h r v lag).1.1 = (firstS h r v).1) ∧ ∃ lag ∈ mayL h r v, (arrV h r v lag).1.2 = (firstS h r v).2 := by
  have hs : secN h r ≤ 120 := by have := ho.r.len; unfold secN; omega
  have hp : ∀ s ∈ (mayL h r v).map (fun lag => (arrV h r v lag).1), 0 ≤ s.2 := fun s hx => by
    obtain ⟨lag, hl, rfl⟩ := List.mem_map.1 hx
    have := arrV_rng h r v lag hs hl
    omega
  obtain ⟨h0, h1, ⟨x, hx, hx'⟩, ⟨y, hy, hy'⟩⟩ := widL_spec (l := (mayL h r v).map fun lag => (arrV h r v lag).1) (by simpa using hm) hp
  have e : firstS h r v = widL ((mayL h r v).map fun lag => (arrV h r v lag).1) := by unfold firstS widZ; rw [if_neg h0]
  rw [e]
  refine ⟨fun lag hl => h1 _ (List.mem_map_of_mem (f := fun lag => (arrV h r v lag).1) hl), ?_, ?_⟩
  · obtain ⟨lag, hl, rfl⟩ := List.mem_map.1 hx; exact ⟨lag, hl, hx'⟩
  · obtain ⟨lag, hl, rfl⟩ := List.mem_map.1 hy; exact ⟨lag, hl, hy'⟩
theorem knownI_cases (h : Hd) (r : List Int) (v : Int) : (knownI h r v = 0 ∧ mayL h r v = []) ∨ (knownI h r v = 1 ∧ mayL h r v ≠ [] ∧ ∃ lag ∈ lagsN h, (arrV h r v lag).2 = false) ∨ (knownI h r v = 2 ∧ mayL h r v ≠ [] ∧ ∀ lag ∈ lagsN h, (arrV h r v lag).2 = true) := by
  unfold knownI
  cases hm : mayL h r v with
  | nil => left; simp
  | cons a l =>
    right
    rw [if_neg (by simp)]
    cases hb : (lagsN h).all fun lag => (arrV h r v lag).2
    · left
      obtain ⟨lag, hl, hf⟩ := List.all_eq_false.1 hb
      exact ⟨by simp, by simp, lag, hl, by simpa using hf⟩
    · right
      exact ⟨by simp, by simp, fun lag hl => List.all_eq_true.1 hb lag hl⟩
/-- A level that is lower. -/
theorem arr_lower {lo hi : Nat → Int} {v w : Int} {N : Nat} {A B : Sn × Bool} (hvw : v ≤ w) (hA : ArrOk lo hi v N A) (hB : ArrOk lo hi w N B) :
    (B.2 = true → A.2 = true) ∧ (0 ≤ B.1.1 → 0 ≤ A.1.1 ∧ A.1.1 ≤ B.1.1) ∧ (B.2 = true → A.1.2 ≤ B.1.2) := by
  have key : ∀ f : Nat, f < N → w ≤ hi f → 0 ≤ A.1.1 ∧ A.1.1 ≤ f := fun f hf hw => by
    cases hA with
    | none h0 => have := h0 f hf; omega
    | sure f' e h1 h2 h3 h4 h5 h6 h7 =>
      refine ⟨Int.natCast_nonneg _, ?_⟩
      rcases Nat.lt_or_ge f f' with hl | hl
      · have := h4 f hl; omega
      · show (f' : Int) ≤ f; omega
    | may f' e h1 h2 h3 h4 h5 h6 h7 =>
      refine ⟨Int.natCast_nonneg _, ?_⟩
      rcases Nat.lt_or_ge f f' with hl | hl
      · have := h4 f hl; omega
      · show (f' : Int) ≤ f; omega
  have key2 : ∀ e : Nat, e < N → w ≤ lo e → w ≤ hi e → A.2 = true ∧ A.1.2 ≤ e := fun e he hw hw' => by
    cases hA with
    | none h0 => have := h0 e he; omega
    | sure f' e' h1 h2 h3 h4 h5 h6 h7 =>
      refine ⟨rfl, ?_⟩
      rcases Nat.lt_or_ge e e' with hl | hl
      · have := h7 e hl; omega
      · show (e' : Int) ≤ e; omega
    | may f' e' h1 h2 h3 h4 h5 h6 h7 => have := h6 e he; omega
  cases hB with
  | none h0 => exact ⟨fun h => (by cases h), fun h => by simp at h, fun h => by cases h⟩
  | sure f e h1 h2 h3 h4 h5 h6 h7 => exact ⟨fun _ => (key2 e h2 h6 h5).1, fun _ => key f (by omega) h3, fun _ => (key2 e h2 h6 h5).2⟩
  | may f e h1 h2 h3 h4 h5 h6 h7 => exact ⟨fun h => (by cases h), fun _ => key f (by omega) h3, fun h => by cases h⟩
theorem level_ok {h : Hd} {r : List Int} (ho : Ok h r) {v w : Int} (hvw : v ≤ w) : knownI h r w ≤ knownI h r v ∧ (knownI h r w ≠ 0 → (firstS h r v).1 ≤ (firstS h r w).1) ∧ (knownI h r w = 2 → (firstS h r v).2 ≤ (firstS h r w).2) := by
  have hA := fun lag => arr_lower hvw (arrV_ok ho lag v) (arrV_ok ho lag w)
  have hm : ∀ lag, lag ∈ mayL h r w → lag ∈ mayL h r v := fun lag hl => by
    rw [may_mem] at hl ⊢
    exact ⟨hl.1, ((hA lag).2.1 hl.2).1⟩
  have hne : mayL h r w ≠ [] → mayL h r v ≠ [] := fun hx e => by
    obtain ⟨lag, l, hl⟩ := List.exists_cons_of_ne_nil hx
    have := hm lag (by rw [hl]; simp)
    rw [e] at this; cases this
  have h2 : mayL h r w ≠ [] → (firstS h r v).1 ≤ (firstS h r w).1 := fun hx => by
    obtain ⟨_, ⟨x, hx1, hx2⟩, _⟩ := firstS_spec ho hx
    have := (firstS_spec ho (hne hx)).1 x (hm x hx1)
    have := ((hA x).2.1 (may_mem.1 hx1).2).2
    omega
  rcases knownI_cases h r w with ⟨kw, mw⟩ | ⟨kw, mw, _⟩ | ⟨kw, mw, sw⟩
  · rw [kw]
    refine ⟨?_, fun h => absurd rfl h, fun h => by cases h⟩
    rcases knownI_cases h r v with ⟨k, _⟩ | ⟨k, _⟩ | ⟨k, _⟩ <;> rw [k] <;> decide
  · rw [kw]
    refine ⟨?_, fun _ => h2 mw, fun h => by cases h⟩
    rcases knownI_cases h r v with ⟨_, k⟩ | ⟨k, _⟩ | ⟨k, _⟩
    · exact absurd k (hne mw)
    · rw [k]; decide
    · rw [k]; decide
  · rw [kw]
    refine ⟨?_, fun _ => h2 mw, fun _ => ?_⟩
    · rcases knownI_cases h r v with ⟨_, k⟩ | ⟨_, _, lag, hl, hf⟩ | ⟨k, _⟩
      · exact absurd k (hne mw)
      · have := (hA lag).1 (sw lag hl); rw [hf] at this; cases this
      · rw [k]; decide
    · obtain ⟨_, _, ⟨y, hy, hy'⟩⟩ := firstS_spec ho (hne mw)
      have hyl := (may_mem.1 hy).1
      have h3 := (hA y).2.2 (sw y hyl)
      have hyw : y ∈ mayL h r w := may_mem.2 ⟨hyl, by
        have := sw y hyl
        rcases arrK_rng h r y w (secN h r) with ⟨_, e⟩ | hr
        · exact absurd this (by show ¬ (arrK h r y w (secN h r)).2 = true; rw [e]; simp)
        · exact hr.1⟩
      have := ((firstS_spec ho mw).1 y hyw).2
      omega
end Go.Proofs.YtcdcgbgmpmaipaaDoor
