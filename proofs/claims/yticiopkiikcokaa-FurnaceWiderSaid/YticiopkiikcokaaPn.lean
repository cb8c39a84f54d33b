import Derived.Test.YticiopkiikcokaaPk
import Derived.Test.YticiopkiikcokaaPm
namespace Go.Proofs.Yticiopkiikcokaa
open Go Go.Am Go.Srt
/-- The minute of the first of the first so many that is so. -/
def fK (p : Br → Bool) (l : List Br) (k : Nat) : Int := match (l.take k).find? p with
  | some b => b.m
  | none => 0
theorem fK_no {p : Br → Bool} {l : List Br} {k : Nat} {b : Br} (hb : l[k]? = some b) (h : p b = false) : fK p l k = fK p l (k + 1) := by
  unfold fK
  rw [List.take_add_one, hb, List.find?_append]
  simp [h]
theorem fK_first {p : Br → Bool} {l : List Br} {k : Nat} {b : Br} (hm : ∀ a ∈ l, 1 ≤ a.m) (hb : l[k]? = some b) (h : p b = true) (h0 : fK p l k = 0) : b.m = fK p l (k + 1) := by
  unfold fK at h0 ⊢
  rw [List.take_add_one, hb, List.find?_append]
  cases hf : (l.take k).find? p with
  | none => simp [h]
  | some a =>
    rw [hf] at h0
    have := hm a (List.mem_of_mem_take (List.mem_of_find?_eq_some hf))
    simp only at h0; omega
theorem fK_more {p : Br → Bool} {l : List Br} {k : Nat} (h0 : fK p l k ≠ 0) : fK p l k = fK p l (k + 1) := by
  unfold fK at h0 ⊢
  rw [List.take_add_one, List.find?_append]
  cases hf : (l.take k).find? p with
  | none => rw [hf] at h0; exact absurd rfl h0
  | some a => simp
theorem fK_end (p : Br → Bool) (l : List Br) : fK p l l.length = match l.find? p with | some b => b.m | none => 0 := by unfold fK; rw [List.take_length]
theorem find_congr {p q : Br → Bool} : ∀ {l : List Br}, (∀ b ∈ l, p b = q b) → l.find? p = l.find? q := by
  intro l
  induction l with
  | nil => intro _; rfl
  | cons a l ih =>
    intro h
    rw [List.find?_cons, List.find?_cons, h a List.mem_cons_self, ih fun b hb => h b (List.mem_cons_of_mem _ hb)]
def p1 (t : Int) (b : Br) : Bool := !decide (b.m > t)
def p2 (t : Int) (b : Br) : Bool := p1 t b && (b.n == 2)
theorem find1 {r : Rn} {u : Ru} (t : Int) : (leftL r u).find? (firstP t 1) = (leftL r u).find? (p1 t) := find_congr fun b hb => by
  have := left_out hb
  unfold firstP p1
  by_cases h : b.m > t
  · have h2 : ¬ b.m ≤ t := by omega
    simp [h, h2]
  · have h2 : b.m ≤ t := by omega
    have h3 : b.n ≥ 1 := by omega
    simp [h, h2, h3]
theorem find2 {r : Rn} {u : Ru} (t : Int) : (leftL r u).find? (firstP t 2) = (leftL r u).find? (p2 t) := find_congr fun b hb => by
  have := left_out hb
  unfold firstP p2 p1
  by_cases h : b.m > t
  · have h2 : ¬ b.m ≤ t := by omega
    simp [h, h2]
  · have h2 : b.m ≤ t := by omega
    by_cases h3 : b.n = 2
    · simp [h, h2, h3]
    · have h4 : ¬ b.n ≥ 2 := by omega
      simp [h, h2, h3, h4]
theorem head_le {r : Rn} (hr : RunOk r) {u : Ru} {a b : Br} {l : List Br} (h : leftL r u = a :: l) (hb : b ∈ leftL r u) : a.m ≤ b.m := by
  have hs := left_sorted hr u
  rw [h] at hs hb
  rcases List.mem_cons.1 hb with rfl | hb
  · omega
  · have := (List.pairwise_cons.1 hs).1 b hb
    rw [ltBr_iff] at this; omega
theorem count_eq {r : Rn} {u : Ru} : countI r u = match leftL r u with | [] => (r.rows.length : Int) | a :: _ => a.m - 1 := by
  unfold countI
  cases h : leftL r u with
  | nil => rfl
  | cons a l =>
    have := left_out (r := r) (u := u) (b := a) (by rw [h]; exact List.mem_cons_self)
    have hp : firstP r.rows.length 1 a = true := by
      unfold firstP
      have h1 : a.m ≤ r.rows.length := by omega
      have h2 : a.n ≥ 1 := by omega
      simp [h1, h2]
    rw [List.find?_cons, hp]
theorem count_rng {r : Rn} (u : Ru) : 0 ≤ countI r u ∧ countI r u ≤ r.rows.length := by
  rw [count_eq]
  cases h : leftL r u with
  | nil => simp
  | cons a l =>
    have := left_out (r := r) (u := u) (b := a) (by rw [h]; exact List.mem_cons_self)
    simp only; omega
/-- What is kept until a minute, by what is told. -/
theorem kept_cases {r : Rn} (hr : RunOk r) (u : Ru) {t : Int} (ht : t ≤ r.rows.length) :
    (∃ b, kPair (leftL r u) t = (0, b.m) ∧ 1 ≤ b.m ∧ fK (p2 t) (leftL r u) (leftL r u).length = b.m ∧ fK (p1 t) (leftL r u) (leftL r u).length ≠ 0 ∧ decide (t ≤ countI r u) = false ∧ b ∈ leftL r u ∧ p2 t b = true) ∨
    (∃ b, kPair (leftL r u) t = (1, b.m) ∧ 1 ≤ b.m ∧ fK (p2 t) (leftL r u) (leftL r u).length = 0 ∧ fK (p1 t) (leftL r u) (leftL r u).length = b.m ∧ decide (t ≤ countI r u) = false ∧ b ∈ leftL r u ∧ p1 t b = true) ∨
    (kPair (leftL r u) t = (2, 0) ∧ fK (p2 t) (leftL r u) (leftL r u).length = 0 ∧ fK (p1 t) (leftL r u) (leftL r u).length = 0 ∧ decide (t ≤ countI r u) = true) := by
  unfold kPair
  rw [find1, find2, fK_end, fK_end]
  have late : ∀ b ∈ leftL r u, p1 t b = true → decide (t ≤ countI r u) = false := fun b hb hp => by
    have hp : ¬ b.m > t := by simpa [p1] using hp
    refine decide_eq_false ?_
    rw [count_eq]
    cases h : leftL r u with
    | nil => rw [h] at hb; cases hb
    | cons a l => have := head_le hr h hb; simp only; omega
  cases h2 : (leftL r u).find? (p2 t) with
  | some b =>
    have hb := List.mem_of_find?_eq_some h2
    have hp := List.find?_some h2
    have hp1 : p1 t b = true := by
      have := hp
      unfold p2 at this
      rw [Bool.and_eq_true] at this; exact this.1
    refine .inl ⟨b, rfl, (left_out hb).1, rfl, ?_, late b hb hp1, hb, hp⟩
    cases h1 : (leftL r u).find? (p1 t) with
    | none => rw [List.find?_eq_none] at h1; exact absurd hp1 (h1 b hb)
    | some a => have := left_out (List.mem_of_find?_eq_some h1); simp only; omega
  | none =>
    cases h1 : (leftL r u).find? (p1 t) with
    | some b =>
      have hb := List.mem_of_find?_eq_some h1
      exact .inr (.inl ⟨b, rfl, (left_out hb).1, rfl, rfl, late b hb (List.find?_some h1), hb, List.find?_some h1⟩)
    | none =>
      refine .inr (.inr ⟨rfl, rfl, rfl, decide_eq_true ?_⟩)
      rw [count_eq]
      rw [List.find?_eq_none] at h1
      cases h : leftL r u with
      | nil => exact ht
      | cons a l =>
        have := h1 a (by rw [h]; exact List.mem_cons_self)
        simp [p1] at this
        simp only; omega
theorem kPair_rng (l : List Br) (t : Int) : 0 ≤ (kPair l t).1 ∧ (kPair l t).1 ≤ 2 := by
  unfold kPair
  split
  · simp
  · split <;> simp
theorem later_le {r : Rn} (hr : RunOk r) (u : Ru) {t t' : Int} (h : t ≤ t') (h1 : t' ≤ r.rows.length) : (kPair (leftL r u) t').1 ≤ (kPair (leftL r u) t).1 := by
  rcases kept_cases hr u (t := t) (by omega) with ⟨b, e, _, _, _, _, hb, hp⟩ | ⟨b, e, _, _, _, _, hb, hp⟩ | ⟨e, _⟩
  · rw [e]
    have hp' : p2 t' b = true := by
      simp only [p2, p1, Bool.and_eq_true, Bool.not_eq_true', decide_eq_false_iff_not, beq_iff_eq] at hp ⊢
      exact ⟨by omega, hp.2⟩
    unfold kPair
    rw [find2]
    cases h2 : (leftL r u).find? (p2 t') with
    | some a => simp
    | none => rw [List.find?_eq_none] at h2; exact absurd hp' (h2 b hb)
  · rw [e]
    have hp' : p1 t' b = true := by
      simp only [p1, Bool.not_eq_true', decide_eq_false_iff_not] at hp ⊢
      omega
    unfold kPair
    rw [find1]
    cases h2 : (leftL r u).find? (firstP t' 2) with
    | some a => simp
    | none =>
      cases h3 : (leftL r u).find? (p1 t') with
      | some a => simp
      | none => rw [List.find?_eq_none] at h3; exact absurd hp' (h3 b hb)
  · rw [e]; exact (kPair_rng _ _).2
end Go.Proofs.Yticiopkiikcokaa
