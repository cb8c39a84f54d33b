import Derived.Test.YticiopkiikcokaaMa
/-
  PLAIN THEORY OF A STABLE SORT BY BLOCKS AND MERGES IN PLACE.
-/
namespace Go.Srt
variable {α : Type}
/-- An order that is told by what is less. -/
structure SOrd (lt : α → α → Bool) : Prop where
  asym : ∀ a b, lt a b = true → lt b a = false
  tr : ∀ a b c, lt b a = false → lt c b = false → lt c a = false
abbrev le (lt : α → α → Bool) (a b : α) : Prop := lt b a = false
abbrev Sd (lt : α → α → Bool) (l : List α) : Prop := l.Pairwise (le lt)
variable {lt : α → α → Bool}
theorem Sd.all_le_last (h : SOrd lt) {U : List α} {u : α} (hs : Sd lt (U ++ [u])) : ∀ w ∈ U ++ [u], le lt w u := by
  intro w hw
  rcases List.mem_append.1 hw with hw | hw
  · exact (List.pairwise_append.1 hs).2.2 w hw u List.mem_cons_self
  · simp at hw; subst hw
    show lt w w = false
    cases e : lt w w
    · rfl
    · have := h.asym _ _ e; rw [e] at this; cases this
theorem Sd.head_le_all (h : SOrd lt) {V : List α} {v : α} (hs : Sd lt (v :: V)) : ∀ w ∈ v :: V, le lt v w := by
  intro w hw
  rcases List.mem_cons.1 hw with hw | hw
  · subst hw
    show lt w w = false
    cases e : lt w w
    · rfl
    · have := h.asym _ _ e; rw [e] at this; cases this
  · exact (List.pairwise_cons.1 hs).1 w hw
/-- A thing is put where it belongs. -/
theorem ins_done (h : SOrd lt) {U V : List α} {x : α} (hs : Sd lt (U ++ V)) (hV : ∀ v ∈ V, lt x v = true) (hU : ∀ U' u, U = U' ++ [u] → lt x u = false) : Sd lt (U ++ x :: V) := by
  have hp := List.pairwise_append.1 hs
  refine List.pairwise_append.2 ⟨hp.1, List.pairwise_cons.2 ⟨fun v hv => h.asym _ _ (hV v hv), hp.2.1⟩, fun w hw v hv => ?_⟩
  rcases List.mem_cons.1 hv with hv | hv
  · subst hv
    rcases List.eq_nil_or_concat U with e | ⟨U', u, e⟩
    · subst e; cases hw
    · subst e
      rw [List.concat_eq_append] at hw hp hU
      have h1 : le lt w u := Sd.all_le_last h hp.1 w hw
      exact h.tr _ _ _ h1 (hU U' u rfl)
  · exact hp.2.2 w hw v hv
/-- The halves of a merge. -/
theorem halves (h : SOrd lt) {A1 A2 B1 B2 L R : List α} (hA : Sd lt (A1 ++ A2)) (hB : Sd lt (B1 ++ B2))
    (h1 : ∀ A' a b B', A1 = A' ++ [a] → B2 = b :: B' → lt b a = false) (h2 : ∀ A' a b B', A2 = a :: A' → B1 = B' ++ [b] → lt b a = true)
    (hL : L.Perm (A1 ++ B1)) (hLs : Sd lt L) (hR : R.Perm (A2 ++ B2)) (hRs : Sd lt R) : Sd lt (L ++ R) ∧ (L ++ R).Perm (A1 ++ A2 ++ (B1 ++ B2)) := by
  have pA := List.pairwise_append.1 hA
  have pB := List.pairwise_append.1 hB
  refine ⟨List.pairwise_append.2 ⟨hLs, hRs, fun x hx y hy => ?_⟩, ?_⟩
  · rcases List.mem_append.1 (hL.mem_iff.1 hx) with hx | hx <;> rcases List.mem_append.1 (hR.mem_iff.1 hy) with hy | hy
    · exact pA.2.2 x hx y hy
    · rcases List.eq_nil_or_concat A1 with e | ⟨A', a, e⟩
      · subst e; cases hx
      · rw [List.concat_eq_append] at e
        cases B2 with
        | nil => cases hy
        | cons b B' =>
          subst e
          exact h.tr _ _ _ (h.tr _ _ _ (Sd.all_le_last h pA.1 x hx) (h1 A' a b B' rfl rfl)) (Sd.head_le_all h pB.2.1 y hy)
    · cases A2 with
      | nil => cases hy
      | cons a A' =>
        rcases List.eq_nil_or_concat B1 with e | ⟨B', b, e⟩
        · subst e; cases hx
        · rw [List.concat_eq_append] at e
          subst e
          exact h.tr _ _ _ (h.tr _ _ _ (Sd.all_le_last h pB.1 x hx) (h.asym _ _ (h2 A' a b B' rfl rfl))) (Sd.head_le_all h pA.2.1 y hy)
    · exact pB.2.2 x hx y hy
  · refine (hL.append hR).trans ?_
    rw [List.append_assoc, List.append_assoc]
    refine List.Perm.append_left A1 ?_
    rw [← List.append_assoc, ← List.append_assoc]
    exact List.Perm.append_right B2 List.perm_append_comm
/-- A thing moved behind what is less, before the rest. -/
theorem one_left (h : SOrd lt) {B1 B2 : List α} {x : α} (hB : Sd lt (B1 ++ B2)) (h1 : ∀ B' b, B1 = B' ++ [b] → lt b x = true) (h2 : ∀ b B', B2 = b :: B' → lt b x = false) : Sd lt (B1 ++ x :: B2) := by
  have pB := List.pairwise_append.1 hB
  refine List.pairwise_append.2 ⟨pB.1, List.pairwise_cons.2 ⟨fun y hy => ?_, pB.2.1⟩, fun w hw y hy => ?_⟩
  · cases B2 with
    | nil => cases hy
    | cons b B' => exact h.tr _ _ _ (h2 b B' rfl) (Sd.head_le_all h pB.2.1 y hy)
  · rcases List.mem_cons.1 hy with hy | hy
    · subst hy
      rcases List.eq_nil_or_concat B1 with e | ⟨B', b, e⟩
      · subst e; cases hw
      · rw [List.concat_eq_append] at e
        subst e
        exact h.tr _ _ _ (Sd.all_le_last h pB.1 w hw) (h.asym _ _ (h1 B' b rfl))
    · exact pB.2.2 w hw y hy
/-- One at the right, put behind all that is not greater. -/
theorem one_right (h : SOrd lt) {A1 A2 : List α} {x : α} (hA : Sd lt (A1 ++ A2)) (h1 : ∀ A' a, A1 = A' ++ [a] → lt x a = false) (h2 : ∀ a A', A2 = a :: A' → lt x a = true) : Sd lt (A1 ++ x :: A2) := by
  have pA := List.pairwise_append.1 hA
  refine ins_done h hA (fun v hv => ?_) h1
  cases A2 with
  | nil => cases hv
  | cons a A' =>
    have e1 := h2 a A' rfl
    have e2 := Sd.head_le_all h pA.2.1 v hv
    cases e : lt x v
    · exfalso
      have := h.tr _ _ _ e2 e
      rw [e1] at this; cases this
    · rfl
/-- A block of width w. -/
def Ch (lt : α → α → Bool) (w : Nat) (l : List α) (j : Nat) : Prop := Sd lt ((l.drop (j * w)).take w)
theorem Ch.low {w j : Nat} {X S Y S' : List α} (hj : (j + 1) * w ≤ X.length) : Ch lt w (X ++ S' ++ Y) j ↔ Ch lt w (X ++ S ++ Y) j := by
  have key : ∀ Z : List α, (((X ++ Z).drop (j * w)).take w) = (X.drop (j * w)).take w := fun Z => by
    have e : (j + 1) * w = j * w + w := by rw [Nat.succ_mul]
    rw [List.drop_append_of_le_length (by omega), List.take_append_of_le_length (by rw [List.length_drop]; omega)]
  unfold Ch
  rw [List.append_assoc, List.append_assoc, key, key]
theorem Ch.high {w j : Nat} {X S Y S' : List α} (hS : S'.length = S.length) (hj : X.length + S.length ≤ j * w) : Ch lt w (X ++ S' ++ Y) j ↔ Ch lt w (X ++ S ++ Y) j := by
  have key : ∀ Z : List α, Z.length = S.length → ((X ++ Z ++ Y).drop (j * w)) = Y.drop (j * w - (X.length + S.length)) := fun Z hZ => by
    rw [List.drop_append, List.drop_eq_nil_of_le (by rw [List.length_append]; omega), List.nil_append, List.length_append, hZ]
  unfold Ch
  rw [key S' hS, key S rfl]
theorem Ch.mid {w j : Nat} {X S Y : List α} (hX : X.length = j * w) (hS : S.length = w ∨ S.length ≤ w ∧ Y = []) : Ch lt w (X ++ S ++ Y) j ↔ Sd lt S := by
  unfold Ch
  rw [List.append_assoc, ← hX, List.drop_left]
  rcases hS with hS | ⟨hS, rfl⟩
  · rw [← hS, List.take_left]
  · rw [List.append_nil, List.take_of_length_le hS]
theorem split3 {l : List α} {a b : Nat} (hab : a ≤ b) (hb : b ≤ l.length) : ∃ X S Y, l = X ++ S ++ Y ∧ X.length = a ∧ S.length = b - a := by
  refine ⟨l.take a, (l.drop a).take (b - a), l.drop b, ?_, by simp; omega, by simp; omega⟩
  have e1 : l.drop b = (l.drop a).drop (b - a) := by rw [List.drop_drop]; congr 1; omega
  rw [List.append_assoc, e1, List.take_append_drop, List.take_append_drop]
theorem split2 {l : List α} {a : Nat} (ha : a ≤ l.length) : ∃ X Y, l = X ++ Y ∧ X.length = a :=
  ⟨l.take a, l.drop a, (List.take_append_drop a l).symm, by simp; omega⟩
/-- Two orders of the same things, one of them strict: the same. -/
theorem uniq (ho : SOrd lt) : ∀ {l l' : List α}, l'.Perm l → l.Pairwise (fun a b => lt a b = true) → Sd lt l' → l' = l := by
  intro l
  induction l with
  | nil => intro l' hp _ _; exact List.perm_nil.1 hp
  | cons a l ih =>
    intro l' hp h1 h2
    cases l' with
    | nil => exact absurd (List.nil_perm.1 hp) (by simp)
    | cons b l' =>
      have ha : a ∈ b :: l' := hp.mem_iff.2 List.mem_cons_self
      have hb : b ∈ a :: l := hp.mem_iff.1 List.mem_cons_self
      have e : b = a := by
        rcases List.mem_cons.1 hb with e | hb
        · exact e
        · have e1 := (List.pairwise_cons.1 h1).1 b hb
          have e2 := Sd.head_le_all ho h2 a ha
          rw [show lt a b = false from e2] at e1; cases e1
      subst e
      rw [ih (List.Perm.cons_inv hp) (List.pairwise_cons.1 h1).2 (List.pairwise_cons.1 h2).2]
theorem flat_perm {β : Type} (f g : β → List α) : ∀ l : List β, (l.flatMap fun x => f x ++ g x).Perm (l.flatMap f ++ l.flatMap g) := by
  intro l
  induction l with
  | nil => simp
  | cons a l ih =>
    simp only [List.flatMap_cons]
    have h := List.Perm.append_left (f a ++ g a) ih
    refine h.trans ?_
    simp only [List.append_assoc]
    refine List.Perm.append_left (f a) ?_
    rw [← List.append_assoc, ← List.append_assoc]
    exact List.Perm.append_right _ List.perm_append_comm
/-- Two places are exchanged. -/
theorem get1 {P R : List α} {x : α} {i : Nat} (hi : i = P.length) : (P ++ x :: R)[i]? = some x := by subst hi; simp
theorem get2 {P Q R : List α} {x y : α} {j : Nat} (hj : j = P.length + 1 + Q.length) : (P ++ x :: (Q ++ y :: R))[j]? = some y := by
  have e : P ++ x :: (Q ++ y :: R) = (P ++ x :: Q) ++ y :: R := by simp
  rw [e]; exact get1 (by simp [hj]; omega)
theorem set1 {P R : List α} {x z : α} {i : Nat} (hi : i = P.length) : (P ++ x :: R).set i z = P ++ z :: R := by
  subst hi; rw [List.set_append_right _ _ (Nat.le_refl _)]; simp
theorem set2 {P Q R : List α} {x y z : α} {j : Nat} (hj : j = P.length + 1 + Q.length) : (P ++ x :: (Q ++ y :: R)).set j z = P ++ x :: (Q ++ z :: R) := by
  have e : ∀ y, P ++ x :: (Q ++ y :: R) = (P ++ x :: Q) ++ y :: R := fun y => by simp
  rw [e, set1 (by simp [hj]; omega), ← e]
theorem swap2 {P Q R : List α} {x y : α} {i j : Nat} (hi : i = P.length) (hj : j = P.length + 1 + Q.length) : ((P ++ x :: (Q ++ y :: R)).set i y).set j x = P ++ y :: (Q ++ x :: R) := by
  rw [set1 hi, set2 hj]
theorem swap2' {P Q R : List α} {x y : α} {i j : Nat} (hi : i = P.length) (hj : j = P.length + 1 + Q.length) : ((P ++ x :: (Q ++ y :: R)).set j x).set i y = P ++ y :: (Q ++ x :: R) := by
  rw [set2 hj, set1 hi]
/-- Ranges that are exchanged, so far. -/
def swr (X A M B Y : List α) (k : Nat) : List α := X ++ (B.take k ++ (A.drop k ++ (M ++ (A.take k ++ (B.drop k ++ Y)))))
theorem swr_zero (X A M B Y : List α) : swr X A M B Y 0 = X ++ (A ++ (M ++ (B ++ Y))) := by simp [swr]
theorem swr_end {X A M B Y : List α} (h : A.length = B.length) : swr X A M B Y B.length = X ++ (B ++ (M ++ (A ++ Y))) := by
  unfold swr; rw [← h, List.take_length, List.drop_length, h, List.take_length, List.drop_length]; simp
theorem swr_split {X A M B Y : List α} {k : Nat} (h : A.length = B.length) (hk : k < B.length) : ∃ P Q R x y, P.length = X.length + k ∧ P.length + 1 + Q.length = X.length + A.length + M.length + k ∧
    swr X A M B Y k = P ++ x :: (Q ++ y :: R) ∧ swr X A M B Y (k + 1) = P ++ y :: (Q ++ x :: R) := by
  obtain ⟨x, hx⟩ : ∃ x, A[k]? = some x := ⟨_, List.getElem?_eq_getElem (by omega)⟩
  obtain ⟨y, hy⟩ : ∃ y, B[k]? = some y := ⟨_, List.getElem?_eq_getElem hk⟩
  have dA : A.drop k = x :: A.drop (k + 1) := by
    obtain ⟨h1, h2⟩ := List.getElem?_eq_some_iff.1 hx
    rw [List.drop_eq_getElem_cons h1, h2]
  have dB : B.drop k = y :: B.drop (k + 1) := by
    obtain ⟨h1, h2⟩ := List.getElem?_eq_some_iff.1 hy
    rw [List.drop_eq_getElem_cons h1, h2]
  refine ⟨X ++ B.take k, A.drop (k + 1) ++ (M ++ A.take k), B.drop (k + 1) ++ Y, x, y, ?_, ?_, ?_, ?_⟩
  · simp; omega
  · simp; omega
  · unfold swr; rw [dA, dB]; simp
  · unfold swr; rw [List.take_add_one, List.take_add_one, hx, hy]; simp
theorem Ch.none {w j : Nat} {l : List α} (h : l.length ≤ j * w) : Ch lt w l j := by
  unfold Ch; rw [List.drop_eq_nil_of_le h]; simp
theorem Ch.all {w : Nat} {l : List α} (h : l.length ≤ w) (hc : Ch lt w l 0) : Sd lt l := by
  unfold Ch at hc; rw [Nat.zero_mul, List.drop_zero, List.take_of_length_le h] at hc; exact hc
theorem blk1 {w k : Nat} {X S Y S' : List α} (h : ∀ j, j < k → Ch lt w (X ++ S ++ Y) j) (hX : X.length = k * w) (hS : S.length = w ∨ S.length ≤ w ∧ Y = []) (hp : S'.Perm S) (hs : Sd lt S') :
    ∀ j, j < k + 1 → Ch lt w (X ++ S' ++ Y) j := by
  intro j hj
  have hl := hp.length_eq
  by_cases e : j = k
  · subst e; exact (Ch.mid hX (by rw [hl]; exact hS)).2 hs
  · refine (Ch.low ?_).2 (h j (by omega))
    rw [hX]; exact Nat.mul_le_mul_right w (by omega)
theorem mrg1 {w k : Nat} {X A B Y : List α} (h1 : ∀ j, j < k → Ch lt (2 * w) (X ++ (A ++ B) ++ Y) j) (h2 : ∀ j, 2 * k ≤ j → Ch lt w (X ++ (A ++ B) ++ Y) j) (hX : X.length = k * (2 * w)) (hA : A.length = w)
    (hB : B.length = w ∨ B.length ≤ w ∧ Y = []) : Sd lt A ∧ Sd lt B ∧ ∀ S' : List α, S'.Perm (A ++ B) → Sd lt S' → (∀ j, j < k + 1 → Ch lt (2 * w) (X ++ S' ++ Y) j) ∧ ∀ j, 2 * (k + 1) ≤ j → Ch lt w (X ++ S' ++ Y) j := by
  have e2 : k * (2 * w) = 2 * k * w := by rw [Nat.mul_comm 2 k, Nat.mul_assoc]
  refine ⟨?_, ?_, fun S' hp hs => ⟨?_, fun j hj => ?_⟩⟩
  · have := h2 (2 * k) (Nat.le_refl _)
    have e : X ++ (A ++ B) ++ Y = X ++ A ++ (B ++ Y) := by simp
    rw [e] at this
    exact (Ch.mid (by rw [hX, e2]) (.inl hA)).1 this
  · have := h2 (2 * k + 1) (by omega)
    have e : X ++ (A ++ B) ++ Y = X ++ A ++ B ++ Y := by simp
    rw [e] at this
    refine (Ch.mid ?_ hB).1 this
    rw [List.length_append, hX, hA, e2, Nat.add_mul (2 * k) 1 w, Nat.one_mul]
  · refine blk1 h1 hX ?_ hp hs
    rw [List.length_append, hA]
    rcases hB with hB | ⟨hB, hY⟩
    · left; omega
    · right; exact ⟨by omega, hY⟩
  · have hl := hp.length_eq
    rcases hB with hB | ⟨hB, hY⟩
    · refine (Ch.high hl ?_).2 (h2 j (by omega))
      rw [hX, e2, List.length_append, hA, hB]
      calc 2 * k * w + (w + w) = (2 * (k + 1)) * w := by rw [Nat.mul_add 2, Nat.add_mul]; omega
        _ ≤ j * w := Nat.mul_le_mul_right w hj
    · refine Ch.none ?_
      subst hY
      simp only [List.length_append, List.append_nil] at hl ⊢
      rw [hX, e2, hl, hA]
      calc 2 * k * w + (w + B.length) ≤ (2 * (k + 1)) * w := by rw [Nat.mul_add 2, Nat.add_mul]; omega
        _ ≤ j * w := Nat.mul_le_mul_right w hj
theorem mrg0 {w k : Nat} {l : List α} (hn : l.length ≤ k * (2 * w) + w) (h : Ch lt w l (2 * k)) : Ch lt (2 * w) l k := by
  have e2 : k * (2 * w) = 2 * k * w := by rw [Nat.mul_comm 2 k, Nat.mul_assoc]
  unfold Ch at h ⊢
  rw [← e2, List.take_of_length_le (by rw [List.length_drop]; omega)] at h
  rw [List.take_of_length_le (by rw [List.length_drop]; omega)]
  exact h
end Go.Srt
