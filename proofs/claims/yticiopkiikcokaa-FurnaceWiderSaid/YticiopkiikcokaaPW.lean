import Derived.Test.YticiopkiikcokaaPY
namespace Go.Proofs.Yticiopkiikcokaa
open Go Go.Am Go.Srt
/-! Wider errors and lags. -/
structure Wide (r r' : Rn) : Prop where
  curve : r'.curve = r.curve
  rows : r'.rows = r.rows
  gLo : r'.gLo = r.gLo
  gHi : r.gHi ≤ r'.gHi
  len : r'.cps.length = r.cps.length
  cp : ∀ (k : Nat) (c c' : Cp), r.cps[k]? = some c → r'.cps[k]? = some c' → c'.id = c.id ∧ c'.brk = c.brk ∧ c'.eLo ≤ c.eLo ∧ c.eHi ≤ c'.eHi ∧ c'.lLo ≤ c.lLo ∧ c.lHi ≤ c'.lHi
theorem Wide.get {r r' : Rn} (h : Wide r r') (k : Nat) : (r.cps[k]? = none ∧ r'.cps[k]? = none) ∨ ∃ c c', r.cps[k]? = some c ∧ r'.cps[k]? = some c' := by
  cases e : r.cps[k]? with
  | none =>
    refine .inl ⟨rfl, ?_⟩
    rw [List.getElem?_eq_none_iff] at e ⊢; rw [h.len]; exact e
  | some c =>
    obtain ⟨hk, _⟩ := List.getElem?_eq_some_iff.1 e
    obtain ⟨c', e'⟩ := getE (show k < r'.cps.length by rw [h.len]; exact hk)
    exact .inr ⟨c, c', rfl, e'⟩
theorem wide_wk {r r' : Rn} (h : Wide r r') (m : Int) (i : Nat) : wkAt r' m i = wkAt r m i := by
  unfold wkAt
  rcases h.get i with ⟨e, e'⟩ | ⟨c, c', e, e'⟩
  · rw [e, e']
  · rw [e, e']
    obtain ⟨_, hb, _⟩ := h.cp i c c' e e'
    show wks c' m = wks c m
    unfold wks; rw [hb]
theorem wide_wl {r r' : Rn} (h : Wide r r') (m : Int) : wl r' m = wl r m := by
  unfold wl
  rw [h.len]
  exact List.filter_congr fun i _ => wide_wk h m i
theorem wide_blind {r r' : Rn} (h : Wide r r') (m : Int) : blindB r' m = blindB r m := by unfold blindB; rw [wide_wl h]
theorem wide_id {r r' : Rn} (h : Wide r r') (i : Nat) : idAt r' i = idAt r i := by
  unfold idAt
  rcases h.get i with ⟨e, e'⟩ | ⟨c, c', e, e'⟩
  · rw [e, e']
  · rw [e, e']; exact (h.cp i c c' e e').1
theorem mn_at {f : Int → Int} {lo : Int} : ∀ {n j : Nat}, j < n → mnK f lo n ≤ f (lo + j) := by
  intro n
  induction n with
  | zero => intro j h; omega
  | succ n ih =>
    intro j h
    simp only [mnK]
    by_cases e : j = n
    · subst e; split <;> omega
    · have := ih (show j < n by omega); split <;> omega
theorem mx_at {f : Int → Int} {lo : Int} : ∀ {n j : Nat}, j < n → f (lo + j) ≤ mxK f lo n := by
  intro n
  induction n with
  | zero => intro j h; omega
  | succ n ih =>
    intro j h
    simp only [mxK]
    by_cases e : j = n
    · subst e; split <;> omega
    · have := ih (show j < n by omega); split <;> omega
theorem mn_ge {f : Int → Int} {lo x : Int} : ∀ {n : Nat}, 1 ≤ n → (∀ j : Nat, j < n → x ≤ f (lo + j)) → x ≤ mnK f lo n := by
  intro n
  induction n with
  | zero => intro h; omega
  | succ n ih =>
    intro _ h
    simp only [mnK]
    have h1 := h n (by omega)
    by_cases e : n = 0
    · subst e
      have h0 := h 0 (by omega)
      have e0 : mnK f lo 0 = f lo := rfl
      have : lo + ((0 : Nat) : Int) = lo := by omega
      rw [this] at h0
      split
      · rw [this]; exact h0
      · rw [e0]; exact h0
    · have := ih (by omega) fun j hj => h j (by omega)
      split <;> omega
theorem mx_le {f : Int → Int} {lo x : Int} : ∀ {n : Nat}, 1 ≤ n → (∀ j : Nat, j < n → f (lo + j) ≤ x) → mxK f lo n ≤ x := by
  intro n
  induction n with
  | zero => intro h; omega
  | succ n ih =>
    intro _ h
    simp only [mxK]
    have h1 := h n (by omega)
    by_cases e : n = 0
    · subst e
      have h0 := h 0 (by omega)
      have e0 : mxK f lo 0 = f lo := rfl
      have : lo + ((0 : Nat) : Int) = lo := by omega
      rw [this] at h0
      split
      · rw [this]; exact h0
      · rw [e0]; exact h0
    · have := ih (by omega) fun j hj => h j (by omega)
      split <;> omega
theorem wide_t {r r' : Rn} (hr : RunOk r) (h : Wide r r') (m : Int) (i : Nat) : tLo r' m i ≤ tLo r m i ∧ tHi r m i ≤ tHi r' m i := by
  rcases h.get i with ⟨e, e'⟩ | ⟨c, c', e, e'⟩
  · unfold tLo tHi; rw [e, e']; exact ⟨Int.le_refl _, Int.le_refl _⟩
  · obtain ⟨_, hb, h1, h2, h3, h4⟩ := h.cp i c c' e e'
    have hl := (hr.cp i c e).2.2.1
    have ef : tmpF r' c' m i = tmpF r c m i := by
      funext lag
      unfold tmpF lastOf rd
      rw [hb, h.rows]
    rw [tLo_some e, tLo_some e', tHi_some e, tHi_some e', ef]
    have g1 : mnK (tmpF r c m i) c'.lLo (lagN c') ≤ mnK (tmpF r c m i) c.lLo (lagN c) := by
      refine mn_ge (by unfold lagN; omega) fun j hj => ?_
      have hj' : j < lagN c := hj
      unfold lagN at hj'
      have := mn_at (f := tmpF r c m i) (lo := c'.lLo) (n := lagN c') (j := (c.lLo + j - c'.lLo).toNat) (by unfold lagN; omega)
      have e2 : c'.lLo + (((c.lLo + j - c'.lLo).toNat : Nat) : Int) = c.lLo + j := by omega
      rw [e2] at this; exact this
    have g2 : mxK (tmpF r c m i) c.lLo (lagN c) ≤ mxK (tmpF r c m i) c'.lLo (lagN c') := by
      refine mx_le (by unfold lagN; omega) fun j hj => ?_
      have hj' : j < lagN c := hj
      unfold lagN at hj'
      have := mx_at (f := tmpF r c m i) (lo := c'.lLo) (n := lagN c') (j := (c.lLo + j - c'.lLo).toNat) (by unfold lagN; omega)
      have e2 : c'.lLo + (((c.lLo + j - c'.lLo).toNat : Nat) : Int) = c.lLo + j := by omega
      rw [e2] at this; exact this
    omega
theorem sum_le {α : Type} {f g : α → Int} : ∀ {l : List α}, (∀ a ∈ l, f a ≤ g a) → (l.map f).sum ≤ (l.map g).sum := by
  intro l
  induction l with
  | nil => intro _; exact Int.le_refl _
  | cons a l ih =>
    intro h
    have h1 := h a List.mem_cons_self
    have h2 := ih fun x hx => h x (List.mem_cons_of_mem _ hx)
    simp only [List.map_cons, List.sum_cons]; omega
theorem wide_m {r r' : Rn} (hr : RunOk r) (h : Wide r r') (m : Int) : mLo r' m ≤ mLo r m ∧ mHi r m ≤ mHi r' m := by
  have hd : 0 ≤ (840 : Int).tdiv ((wl r m).length : Int) := Int.tdiv_nonneg (by decide) (by omega)
  unfold mLo mHi
  rw [wide_wl h, List.map_map, List.map_map, List.map_map, List.map_map]
  exact ⟨Int.mul_le_mul_of_nonneg_right (sum_le fun i _ => (wide_t hr h m i).1) hd, Int.mul_le_mul_of_nonneg_right (sum_le fun i _ => (wide_t hr h m i).2) hd⟩
theorem t_le {r : Rn} (hr : RunOk r) (m : Int) (i : Nat) : tLo r m i ≤ tHi r m i := by
  cases e : r.cps[i]? with
  | none => unfold tLo tHi; rw [e]; exact Int.le_refl _
  | some c =>
    have h := hr.cp i c e
    have h1 := h.2.1
    have h2 := h.2.2.1
    rw [tLo_some e, tHi_some e]
    have g1 := mn_at (f := tmpF r c m i) (lo := c.lLo) (n := lagN c) (j := 0) (by unfold lagN; omega)
    have g2 := mx_at (f := tmpF r c m i) (lo := c.lLo) (n := lagN c) (j := 0) (by unfold lagN; omega)
    omega
theorem m_le {r : Rn} (hr : RunOk r) (m : Int) : mLo r m ≤ mHi r m := by
  have hd : 0 ≤ (840 : Int).tdiv ((wl r m).length : Int) := Int.tdiv_nonneg (by decide) (by omega)
  unfold mLo mHi
  rw [List.map_map, List.map_map]
  exact Int.mul_le_mul_of_nonneg_right (sum_le fun i _ => t_le hr m i) hd
theorem acc_le {r : Rn} (hr : RunOk r) (m : Nat) : accS (mF r) Sn.lo m ≤ accS (mF r) Sn.hi m := by
  unfold accS
  rw [List.map_map, List.map_map]
  refine sum_le fun i _ => ?_
  show (mF r i).lo ≤ (mF r i).hi
  unfold mF mfK
  by_cases c : 1 ≤ i ∧ i ≤ r.rows.length ∧ blindB r i = false
  · rw [if_pos c]; exact m_le hr i
  · rw [if_neg c]; exact Int.le_refl _
theorem wide_f {r r' : Rn} (hr : RunOk r) (h : Wide r r') (i : Nat) : ((mF r' i).lo ≤ (mF r i).lo ∧ (mF r i).hi ≤ (mF r' i).hi) ∧ cF r' i = cF r i := by
  unfold mF mfK cF cfK
  rw [h.rows, h.curve, wide_blind h]
  by_cases c : 1 ≤ i ∧ i ≤ r.rows.length ∧ blindB r i = false
  · rw [if_pos c, if_pos c, if_pos c]; exact ⟨wide_m hr h i, rfl⟩
  · rw [if_neg c, if_neg c, if_neg c]; exact ⟨⟨Int.le_refl _, Int.le_refl _⟩, rfl⟩
theorem wide_acc {r r' : Rn} (hr : RunOk r) (h : Wide r r') (m : Nat) : accS (mF r') Sn.lo m ≤ accS (mF r) Sn.lo m ∧ accS (mF r) Sn.hi m ≤ accS (mF r') Sn.hi m := by
  unfold accS
  rw [List.map_map, List.map_map, List.map_map, List.map_map]
  exact ⟨sum_le fun i _ => (wide_f hr h i).1.1, sum_le fun i _ => (wide_f hr h i).1.2⟩
/-- One is told of a wider one. -/
def W2 (n n' : Int) : Prop := (1 ≤ n → 1 ≤ n') ∧ (n' = 2 → n = 2)
theorem outI_wide {lo hi lo' hi' a b : Int} (h1 : lo' ≤ lo) (h2 : hi ≤ hi') (h3 : lo ≤ hi) : W2 (outI lo hi a b) (outI lo' hi' a b) := by
  unfold W2 outI
  refine ⟨fun h => ?_, fun h => ?_⟩
  · by_cases c1 : hi' < a
    · rw [if_pos c1]; omega
    · rw [if_neg c1]
      by_cases c2 : lo' > b
      · rw [if_pos c2]; omega
      · rw [if_neg c2]
        by_cases c3 : lo' < a
        · rw [if_pos c3]; omega
        · rw [if_neg c3]
          by_cases c4 : hi' > b
          · rw [if_pos c4]; omega
          · rw [if_neg c4]
            rw [if_neg (by omega), if_neg (by omega), if_neg (by omega), if_neg (by omega)] at h
            omega
  · by_cases c1 : hi' < a
    · rw [if_pos (by omega)]
    · rw [if_neg c1] at h
      by_cases c2 : lo' > b
      · by_cases d : hi < a
        · rw [if_pos d]
        · rw [if_neg d, if_pos (by omega)]
      · rw [if_neg c2] at h
        by_cases c3 : lo' < a
        · rw [if_pos c3] at h; omega
        · rw [if_neg c3] at h
          split at h <;> omega
theorem W2.refl (n : Int) : W2 n n := ⟨fun h => h, fun h => h⟩
theorem wide_area {r r' : Rn} (hr : RunOk r) (h : Wide r r') (u : Ru) (m : Nat) : W2 (kArea r u m) (kArea r' u m) := by
  obtain ⟨a1, a2⟩ := wide_acc hr h m
  have ec : cF r' = cF r := by funext i; exact (wide_f hr h i).2
  unfold kArea
  rw [ec]
  by_cases c : partI u m < 0
  · rw [if_pos c, if_pos c]; exact .refl _
  · rw [if_neg c, if_neg c]; exact outI_wide (by omega) (by omega) (by have := acc_le hr m; omega)
theorem wide_sing {r r' : Rn} (hr : RunOk r) (h : Wide r r') (u : Ru) (m i : Nat) : W2 (kSing r u m i) (kSing r' u m i) := by
  obtain ⟨a1, a2⟩ := wide_t hr h m i
  unfold kSing
  rw [h.curve]
  by_cases c : (m : Int) < u.sFrom
  · rw [if_pos c, if_pos c]; exact .refl _
  · rw [if_neg c, if_neg c]; exact outI_wide a1 a2 (t_le hr m i)
theorem wide_press {r r' : Rn} (hr : RunOk r) (h : Wide r r') (u : Ru) (m : Nat) : W2 (kPress r u m) (kPress r' u m) := by
  have ep : pressAt r' m = pressAt r m := by unfold pressAt; rw [h.rows]
  have h1 := h.gHi
  unfold kPress
  rw [ep, h.gLo]
  by_cases c : (m : Int) < u.pFrom
  · rw [if_pos c, if_pos c]; exact .refl _
  · rw [if_neg c, if_neg c]; exact outI_wide (by omega) (Int.le_refl _) (by have := hr.gauge; omega)
theorem brk1_at {m k c n : Int} (h : n ≠ 0) : (⟨m, k, c, n⟩ : Br) ∈ brk1 m k c n := by unfold brk1; rw [if_neg h]; exact List.mem_cons_self
theorem brk1_wide {m k c n n' : Int} (h : W2 n n') (hn : 0 ≤ n) {e : Br} (he : e ∈ brk1 m k c n) : ∃ e' ∈ brk1 m k c n', kEq e e' = true ∧ (e'.n = 2 → e.n = 2) := by
  obtain ⟨e1, e2, e3, e4⟩ := brk1_mem he
  have hx : n ≠ 0 := fun h => by rw [h] at he; simp [brk1] at he
  have := h.1 (by omega)
  exact ⟨⟨m, k, c, n'⟩, brk1_at (by omega), kEq_iff.2 ⟨e1, e2, e3⟩, fun q => e4.trans (h.2 q)⟩
theorem brk1_back {m k c n n' : Int} (h : W2 n n') {e : Br} (he : e ∈ brk1 m k c n') (h2 : e.n = 2) : ∃ e' ∈ brk1 m k c n, kEq e e' = true ∧ e'.n = 2 := by
  obtain ⟨e1, e2, e3, e4⟩ := brk1_mem he
  have := h.2 (e4.symm.trans h2)
  exact ⟨⟨m, k, c, n⟩, brk1_at (by omega), kEq_iff.2 ⟨e1, e2, e3⟩, this⟩
theorem wide_kBlind {r r' : Rn} (h : Wide r r') (m : Nat) : kBlind r' m = kBlind r m := by unfold kBlind; rw [wide_blind h]
theorem left_wide {r r' : Rn} (hr : RunOk r) (h : Wide r r') (u : Ru) {e : Br} (he : e ∈ leftL r u) : ∃ e' ∈ leftL r' u, kEq e e' = true ∧ (e'.n = 2 → e.n = 2) := by
  obtain ⟨i, hi, he⟩ := List.mem_flatMap.1 he
  have key : ∃ e' ∈ leftAt r' u (i + 1), kEq e e' = true ∧ (e'.n = 2 → e.n = 2) := by
    unfold leftAt at he ⊢
    rcases List.mem_append.1 he with he | he
    · obtain ⟨x, hx, h1⟩ := brk1_wide (n' := kBlind r' (i + 1)) (by rw [wide_kBlind h]; exact .refl _) (kBlind_rng _ _).1 he
      exact ⟨x, List.mem_append.2 (.inl hx), h1⟩
    · rcases List.mem_append.1 he with he | he
      · obtain ⟨x, hx, h1⟩ := brk1_wide (wide_area hr h u (i + 1)) (kArea_rng _ _ _).1 he
        exact ⟨x, List.mem_append.2 (.inr (List.mem_append.2 (.inl hx))), h1⟩
      · rcases List.mem_append.1 he with he | he
        · obtain ⟨j, hj, hw, he⟩ := mem_bS he
          obtain ⟨x, hx, h1⟩ := brk1_wide (wide_sing hr h u (i + 1) j) (kSing_rng _ _ _ _).1 he
          rw [← wide_id h] at hx
          exact ⟨x, List.mem_append.2 (.inr (List.mem_append.2 (.inr (List.mem_append.2 (.inl (List.mem_flatMap.2 ⟨j, List.mem_filter.2 ⟨List.mem_range.2 (by rw [h.len]; exact hj), by rw [wide_wk h]; exact hw⟩, hx⟩)))))), h1⟩
        · obtain ⟨x, hx, h1⟩ := brk1_wide (wide_press hr h u (i + 1)) (kPress_rng _ _ _).1 he
          exact ⟨x, List.mem_append.2 (.inr (List.mem_append.2 (.inr (List.mem_append.2 (.inr hx))))), h1⟩
  obtain ⟨x, hx, h1⟩ := key
  exact ⟨x, List.mem_flatMap.2 ⟨i, by rw [h.rows]; exact hi, hx⟩, h1⟩
theorem left_back {r r' : Rn} (hr : RunOk r) (h : Wide r r') (u : Ru) {e : Br} (he : e ∈ leftL r' u) (h2 : e.n = 2) : ∃ e' ∈ leftL r u, kEq e e' = true ∧ e'.n = 2 := by
  obtain ⟨i, hi, he⟩ := List.mem_flatMap.1 he
  rw [h.rows] at hi
  have key : ∃ e' ∈ leftAt r u (i + 1), kEq e e' = true ∧ e'.n = 2 := by
    unfold leftAt at he ⊢
    rcases List.mem_append.1 he with he | he
    · obtain ⟨x, hx, h1⟩ := brk1_back (n := kBlind r (i + 1)) (n' := kBlind r' (i + 1)) (by rw [wide_kBlind h]; exact .refl _) he h2
      exact ⟨x, List.mem_append.2 (.inl hx), h1⟩
    · rcases List.mem_append.1 he with he | he
      · obtain ⟨x, hx, h1⟩ := brk1_back (wide_area hr h u (i + 1)) he h2
        exact ⟨x, List.mem_append.2 (.inr (List.mem_append.2 (.inl hx))), h1⟩
      · rcases List.mem_append.1 he with he | he
        · obtain ⟨j, hj, hw, he⟩ := mem_bS he
          rw [wide_id h] at he
          rw [h.len] at hj
          rw [wide_wk h] at hw
          obtain ⟨x, hx, h1⟩ := brk1_back (wide_sing hr h u (i + 1) j) he h2
          exact ⟨x, List.mem_append.2 (.inr (List.mem_append.2 (.inr (List.mem_append.2 (.inl (List.mem_flatMap.2 ⟨j, List.mem_filter.2 ⟨List.mem_range.2 hj, hw⟩, hx⟩)))))), h1⟩
        · obtain ⟨x, hx, h1⟩ := brk1_back (wide_press hr h u (i + 1)) he h2
          exact ⟨x, List.mem_append.2 (.inr (List.mem_append.2 (.inr (List.mem_append.2 (.inr hx))))), h1⟩
  obtain ⟨x, hx, h1⟩ := key
  exact ⟨x, List.mem_flatMap.2 ⟨i, hi, hx⟩, h1⟩
theorem among_wide {r r' : Rn} (hr : RunOk r) (hr' : RunOk r') (h : Wide r r') (u : Ru) : amongB (leftL r u) (leftL r' u) = true := by
  refine among_yes fun i b hi hb => ?_
  obtain ⟨x, hx, h1, _⟩ := left_wide hr h u (List.mem_of_getElem? hb)
  have hn := (left_out hx).2.2.1
  rw [uq_look h1 (uq_left hr' u) hx, beq_eq_false_iff_ne]; omega
theorem look_wide {r r' : Rn} (hr : RunOk r) (h : Wide r r') (u : Ru) {e : Br} (he : e ∈ leftL r' u) (h2 : e.n = 2) : lookN (leftL r u) e = 2 := by
  obtain ⟨x, hx, h1, h3⟩ := left_back hr h u he h2
  rw [uq_look h1 (uq_left hr u) hx, h3]
theorem count_wide {r r' : Rn} (hr : RunOk r) (hr' : RunOk r') (h : Wide r r') (u : Ru) : countI r' u ≤ countI r u := by
  have h0 := count_rng (r := r') u
  unfold countI at h0 ⊢
  rw [h.rows] at h0 ⊢
  cases e : (leftL r u).find? (firstP r.rows.length 1) with
  | none => exact h0.2
  | some b =>
    have hb := List.mem_of_find?_eq_some e
    have hbp := List.find?_some e
    obtain ⟨x, hx, h1, _⟩ := left_wide hr h u hb
    have hm := left_out hx
    obtain ⟨k1, _, _⟩ := kEq_iff.1 h1
    have hbm : b.m ≤ r.rows.length := by simp [firstP] at hbp; exact hbp.1
    have hp : firstP r.rows.length 1 x = true := by simp [firstP]; omega
    cases e2 : (leftL r' u).find? (firstP r.rows.length 1) with
    | none => exact absurd hp (List.find?_eq_none.1 e2 x hx)
    | some b' =>
      have := find_min (left_sorted hr' u) e2 hx hp
      show b'.m - 1 ≤ b.m - 1
      omega
end Go.Proofs.Yticiopkiikcokaa

namespace Go.Proofs.Yticiopkiikcokaa
open Go Go.Am Go.Srt
/-! Couples whose errors and lags are written. -/
theorem cps_len6 (l : List Cp) : (fl encCp l).length = l.length * 6 := fl_len (enc := encCp) (n := 6) (fun _ => rfl) l
theorem cps_split {P R : List Cp} {c : Cp} {A B : List AV} {v : AV} (h : encCp c = A ++ v :: B) : fl encCp (P ++ c :: R) = (fl encCp P ++ A) ++ ([v] ++ (B ++ fl encCp R)) := by simp [fl, h]
theorem cps_alen {P : List Cp} {A : List AV} {k j : Nat} (hP : P.length = k) (hA : A.length = j) : (fl encCp P ++ A).length = 0 + k * 6 + j := by
  rw [List.length_append, cps_len6, hP, hA]; omega
theorem ixC {h : Nat → Option AObj} {id n k : Nat} (hk : k < n) : (aindexAddr Try.prog h 23 (.rsl id 0 n 6) (.int .i64 (k : Int))).map (fun v => (⟨v, []⟩ : Out)) = some ⟨.vptr id (0 + k * 6), []⟩ := by
  simp only [aindexAddr, ty23, ty76]
  rw [if_pos ⟨trivial, Int.natCast_nonneg _, by simpa using hk⟩]; rfl
theorem ldC {h : Nat → Option AObj} {id k j : Nat} {l : List Cp} {c : Cp} {n : Int} {A B : List AV} (h0 : h id = some (.cells (fl encCp l))) (hk : l[k]? = some c) (hc : encCp c = A ++ .int .i64 n :: B) (hA : A.length = j) : aLoad Try.prog h 3 (.vptr id (0 + k * 6 + j)) = some ⟨.int .i64 n, []⟩ := by
  obtain ⟨P, R, rfl, hP⟩ := split1 hk
  have e : (fl encCp (P ++ c :: R)).drop (0 + k * 6 + j) = .int .i64 n :: (B ++ fl encCp R) := by
    rw [cps_split hc, ← cps_alen hP hA, List.drop_left]; rfl
  simp only [aLoad, ty3, h0, e]
  rfl
theorem stC {h : Nat → Option AObj} {id k j : Nat} {l : List Cp} {c c' : Cp} {n p : Int} {A B : List AV} (h0 : h id = some (.cells (fl encCp l))) (hk : l[k]? = some c) (hc : encCp c = A ++ .int .i64 n :: B) (hc' : encCp c' = A ++ .int .i64 p :: B) (hA : A.length = j) :
    aStore Try.prog h 3 (.vptr id (0 + k * 6 + j)) (.int .i64 p) = some ⟨.undef, [(id, some (.cells (fl encCp (l.set k c'))))]⟩ := by
  obtain ⟨P, R, rfl, hP⟩ := split1 hk
  have e : splice (fl encCp (P ++ c :: R)) (0 + k * 6 + j) [.int .i64 p] = fl encCp ((P ++ c :: R).set k c') := by
    rw [set1 hP.symm, cps_split hc, cps_split hc', ← cps_alen hP hA]
    exact splice_mid _ _ _ _ rfl
  have h6 : j + 1 ≤ 6 := by
    have := congrArg List.length hc
    simp [encCp, hA] at this; omega
  have hl : 0 + k * 6 + j + [AV.int .i64 p].length ≤ (fl encCp (P ++ c :: R)).length := by
    rw [cps_len6, List.length_append, List.length_cons, hP]; show 0 + k * 6 + j + 1 ≤ (k + (R.length + 1)) * 6; omega
  simp only [aStore, ty3, acells, h0]
  rw [if_pos ⟨rfl, hl, rfl⟩, e]
def wideC (y : List Int) (k : Nat) (c : Cp) : Cp := ⟨c.id, c.eLo - (chs y k).tmod (c.eLo + 50 + 1), c.eHi + (chs y (k + 1)).tmod (50 - c.eHi + 1), c.lLo - (chs y (k + 2)).tmod (c.lLo + 1), c.lHi + (chs y (k + 3)).tmod (3 - c.lHi + 1), c.brk⟩
def cpsK (y : List Int) (l : List Cp) : Nat → List Cp
  | 0 => l
  | k + 1 => match l[k]? with
    | some c => (cpsK y l k).set k (wideC y k c)
    | none => cpsK y l k
theorem cpsK_len (y : List Int) (l : List Cp) : ∀ k, (cpsK y l k).length = l.length := by
  intro k
  induction k with
  | zero => rfl
  | succ k ih =>
    simp only [cpsK]
    cases l[k]? with
    | none => exact ih
    | some s => rw [List.length_set]; exact ih
theorem cpsK_ge (y : List Int) (l : List Cp) : ∀ k j, k ≤ j → (cpsK y l k)[j]? = l[j]? := by
  intro k
  induction k with
  | zero => intro j _; rfl
  | succ k ih =>
    intro j hj
    simp only [cpsK]
    cases l[k]? with
    | none => exact ih j (by omega)
    | some s => rw [List.getElem?_set_ne (by omega)]; exact ih j (by omega)
theorem cpsK_lt (y : List Int) (l : List Cp) {j : Nat} {c : Cp} (hs : l[j]? = some c) : ∀ k, j < k → (cpsK y l k)[j]? = some (wideC y j c) := by
  intro k
  induction k with
  | zero => intro h; exact absurd h (Nat.not_lt_zero _)
  | succ k ih =>
    intro hj
    simp only [cpsK]
    by_cases e : j = k
    · subst e
      rw [hs]
      obtain ⟨h1, _⟩ := List.getElem?_eq_some_iff.1 hs
      exact List.getElem?_set_self (by rw [cpsK_len]; exact h1)
    · have := ih (by omega)
      cases l[k]? with
      | none => exact this
      | some s' => show ((cpsK y l k).set k _)[j]? = _; rw [List.getElem?_set_ne (by omega)]; exact this
theorem wideC_ok {y : List Int} (hy : ∀ x ∈ y, 0 ≤ x ∧ x < 4294967296) (k : Nat) {c : Cp} (h : cpOk c = true) : cpOk (wideC y k c) = true ∧ (wideC y k c).id = c.id ∧ (wideC y k c).brk = c.brk ∧ (wideC y k c).eLo ≤ c.eLo ∧ c.eHi ≤ (wideC y k c).eHi ∧ (wideC y k c).lLo ≤ c.lLo ∧ c.lHi ≤ (wideC y k c).lHi := by
  obtain ⟨g0, g1, g2, g3⟩ := cpOk_out h
  have a1 := tm_rng (chs_rng hy k).1 (show 0 < c.eLo + 50 + 1 by omega)
  have a2 := tm_rng (chs_rng hy (k + 1)).1 (show 0 < 50 - c.eHi + 1 by omega)
  have a3 := tm_rng (chs_rng hy (k + 2)).1 (show 0 < c.lLo + 1 by omega)
  have a4 := tm_rng (chs_rng hy (k + 3)).1 (show 0 < 3 - c.lHi + 1 by omega)
  refine ⟨?_, rfl, rfl, ?_, ?_, ?_, ?_⟩
  · simp only [cpOk, wideC, Bool.and_eq_true, within_iff, spanB_iff]; omega
  · show c.eLo - _ ≤ c.eLo; omega
  · show c.eHi ≤ c.eHi + _; omega
  · show c.lLo - _ ≤ c.lLo; omega
  · show c.lHi ≤ c.lHi + _; omega
/-- The run, wider. -/
def wideR (y : List Int) (r : Rn) : Rn := ⟨r.id, r.curve, cpsK y r.cps r.cps.length, r.rows, r.gLo, r.gHi + (chs y 4).tmod (20 - r.gHi + 1)⟩
theorem cps_at {r : Rn} (h : runB r = true) {k : Nat} {c : Cp} (hc : r.cps[k]? = some c) : cpOk c = true ∧ cpAt r.cps k = true := by
  simp only [runB, Bool.and_eq_true] at h
  obtain ⟨_, _, _, h4, _, _⟩ := h
  simp only [cpsB, Bool.and_eq_true, List.all_eq_true, List.mem_range] at h4
  obtain ⟨hk, _⟩ := List.getElem?_eq_some_iff.1 hc
  have h5 := h4.2 k hk
  refine ⟨?_, h5⟩
  unfold cpAt at h5
  rw [hc] at h5
  simp only [Bool.and_eq_true] at h5
  exact h5.1
theorem wide_ok {y : List Int} (hy : ∀ x ∈ y, 0 ≤ x ∧ x < 4294967296) {r : Rn} (h : runB r = true) : Wide r (wideR y r) := by
  have g := (runB_out h).gauge
  have a := tm_rng (chs_rng hy 4).1 (show 0 < 20 - r.gHi + 1 by omega)
  refine ⟨rfl, rfl, rfl, ?_, cpsK_len y _ _, fun k c c' h1 h2 => ?_⟩
  · show r.gHi ≤ r.gHi + _; omega
  · obtain ⟨hk, _⟩ := List.getElem?_eq_some_iff.1 h1
    have e := cpsK_lt y r.cps h1 _ hk
    have e2 : (cpsK y r.cps r.cps.length)[k]? = some c' := h2
    rw [e] at e2
    cases e2
    exact (wideC_ok hy k (cps_at h h1).1).2
theorem wide_run {y : List Int} (hy : ∀ x ∈ y, 0 ≤ x ∧ x < 4294967296) {r : Rn} (h : runB r = true) : runB (wideR y r) = true := by
  have g := (runB_out h).gauge
  have a := tm_rng (chs_rng hy 4).1 (show 0 < 20 - r.gHi + 1 by omega)
  have hat := fun k c hc => cps_at h (k := k) (c := c) hc
  have el : (wideR y r).cps.length = r.cps.length := cpsK_len y _ _
  simp only [runB, Bool.and_eq_true] at h ⊢
  obtain ⟨h1, h2, h3, h4, h5, h6⟩ := h
  refine ⟨h1, h2, ?_, ?_, h5, by rw [el]; exact h6⟩
  · rw [spanB_iff]; show -20 ≤ r.gLo ∧ r.gLo ≤ r.gHi + _ ∧ r.gHi + _ ≤ 20; omega
  · simp only [cpsB, Bool.and_eq_true, List.all_eq_true, List.mem_range] at h4 ⊢
    refine ⟨by rw [el]; exact h4.1, fun i hi => ?_⟩
    rw [el] at hi
    obtain ⟨c, hc⟩ := getE hi
    have e : (wideR y r).cps[i]? = some (wideC y i c) := cpsK_lt y r.cps hc _ hi
    obtain ⟨q1, q2⟩ := hat i c hc
    unfold cpAt at q2 ⊢
    rw [hc] at q2
    rw [e]
    simp only [Bool.and_eq_true] at q2 ⊢
    refine ⟨(wideC_ok hy i q1).1, ?_⟩
    by_cases h0 : i = 0
    · subst h0; rfl
    · obtain ⟨b, hb⟩ := getE (show i - 1 < r.cps.length by omega)
      have e2 : (wideR y r).cps[i - 1]? = some (wideC y (i - 1) b) := cpsK_lt y r.cps hb _ (by omega)
      have h7 := q2.2
      rw [hb] at h7
      rw [e2]
      exact h7
theorem wide_check {y : List Int} (hy : ∀ x ∈ y, 0 ≤ x ∧ x < 4294967296) {r : Rn} {u : Ru} (h : checkI r u = 0) : checkI (wideR y r) u = 0 := by
  obtain ⟨h1, h2⟩ := checkI_ok h
  unfold checkI
  rw [if_pos (wide_run hy h1), if_pos h2]
theorem twm {c M : Int} (h0 : 0 ≤ c) (h1 : c < 4294967296) (hM : 0 ≤ M) (hM' : M ≤ 3000) {a : Int} (ha : -100 ≤ a) (ha' : a ≤ 3000) : IntKind.i64.wrap (M + 1) ≠ 0 ∧
    some (⟨.int .i64 (IntKind.i64.wrap (a - (IntKind.i64.wrap c).tmod (IntKind.i64.wrap (M + 1)))), []⟩ : Out) = some ⟨.int .i64 (a - c.tmod (M + 1)), []⟩ := by
  have e1 : IntKind.i64.wrap (M + 1) = M + 1 := wrap64 (by omega) (by omega)
  have e2 : IntKind.i64.wrap c = c := wrap64 (by omega) (by omega)
  have := tm_rng h0 (show 0 < M + 1 by omega)
  rw [e1, e2, wrap64 (by omega) (by omega)]
  exact ⟨by omega, rfl⟩
end Go.Proofs.Yticiopkiikcokaa
