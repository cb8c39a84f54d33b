/-
  THE ORDER OF LETTERS: plain theory.
-/
import Derived.Test.YtmdhgkfjlphliaaT5
namespace Go.Proofs.Ytmdhgkfjlphliaa
open Go Go.Am
theorem latV_top (p : Ltr → Bool) : ∀ (l : List Ltr) (o : Option Ltr), (∀ z, o = some z → p z = true) →
    (latV p o l = none → o = none ∧ ∀ x ∈ l, p x = false) ∧
    ∀ y, latV p o l = some y → (o = some y ∨ y ∈ l) ∧ p y = true ∧ (∀ x ∈ l, p x = true → x.day ≤ y.day) ∧ ∀ z, o = some z → z.day ≤ y.day := by
  intro l
  induction l with
  | nil =>
    intro o ho
    refine ⟨fun h => ⟨h, fun x hx => by cases hx⟩, fun y hy => ⟨.inl hy, ho y hy, fun x hx => (by cases hx), fun z hz => ?_⟩⟩
    have hy : o = some y := hy
    rw [hy] at hz; cases hz; exact Int.le_refl _
  | cons x l ih =>
    intro o ho
    cases hp : p x
    · have e : latV p o (x :: l) = latV p o l := by
        show latV p (if p x && aftB o x then some x else o) l = _
        rw [hp]; rfl
      obtain ⟨h1, h2⟩ := ih o ho
      rw [e]
      refine ⟨fun h => ⟨(h1 h).1, fun z hz => ?_⟩, fun y hy => ?_⟩
      · rcases List.mem_cons.1 hz with rfl | hz
        · exact hp
        · exact (h1 h).2 z hz
      · obtain ⟨q1, q2, q3, q4⟩ := h2 y hy
        refine ⟨q1.imp id (List.mem_cons_of_mem _), q2, fun z hz hpz => ?_, q4⟩
        rcases List.mem_cons.1 hz with rfl | hz
        · rw [hp] at hpz; cases hpz
        · exact q3 z hz hpz
    · cases ha : aftB o x
      · have e : latV p o (x :: l) = latV p o l := by
          show latV p (if p x && aftB o x then some x else o) l = _
          rw [hp, ha]; rfl
        cases o with
        | none => cases ha
        | some w =>
          have hlt : ¬ w.day ≤ x.day := of_decide_eq_false ha
          obtain ⟨h1, h2⟩ := ih (some w) ho
          rw [e]
          refine ⟨fun h => (by have := (h1 h).1; cases this), fun y hy => ?_⟩
          obtain ⟨q1, q2, q3, q4⟩ := h2 y hy
          refine ⟨q1.imp id (List.mem_cons_of_mem _), q2, fun z hz hpz => ?_, q4⟩
          rcases List.mem_cons.1 hz with rfl | hz
          · have := q4 w rfl; omega
          · exact q3 z hz hpz
      · have e : latV p o (x :: l) = latV p (some x) l := by
          show latV p (if p x && aftB o x then some x else o) l = _
          rw [hp, ha]; rfl
        obtain ⟨h1, h2⟩ := ih (some x) fun z hz => by cases hz; exact hp
        rw [e]
        refine ⟨fun h => (by have := (h1 h).1; cases this), fun y hy => ?_⟩
        obtain ⟨q1, q2, q3, q4⟩ := h2 y hy
        have hxy := q4 x rfl
        refine ⟨.inr ?_, q2, fun z hz hpz => ?_, fun z hz => ?_⟩
        · rcases q1 with q | q
          · cases q; exact List.mem_cons_self
          · exact List.mem_cons_of_mem _ q
        · rcases List.mem_cons.1 hz with rfl | hz
          · exact hxy
          · exact q3 z hz hpz
        · subst hz
          have : z.day ≤ x.day := of_decide_eq_true ha
          omega
theorem lastL_none {l : List Ltr} {d i : Int} (h : lastL l d i = none) : ∀ x ∈ l, x.about = i → ¬ x.day ≤ d := by
  intro x hx ha hd
  have := ((latV_top _ l none fun z hz => by cases hz).1 h).2 x hx
  rw [decide_eq_true ha, decide_eq_true hd] at this
  cases this
theorem lastL_some {l : List Ltr} {d i : Int} {y : Ltr} (h : lastL l d i = some y) : y ∈ l ∧ y.about = i ∧ y.day ≤ d ∧ ∀ x ∈ l, x.about = i → x.day ≤ d → x.day ≤ y.day := by
  obtain ⟨q1, q2, q3, _⟩ := (latV_top _ l none fun z hz => by cases hz).2 y h
  rw [Bool.and_eq_true] at q2
  refine ⟨q1.resolve_left fun h => (by cases h), of_decide_eq_true q2.1, of_decide_eq_true q2.2, fun x hx ha hd => q3 x hx ?_⟩
  rw [decide_eq_true ha, decide_eq_true hd]; rfl
/-- Two lists have the same letters, but for their Ids. -/
def SameL (l l' : List Ltr) : Prop := (∀ x ∈ l, ∃ y ∈ l', y.about = x.about ∧ y.day = x.day ∧ y.kd = x.kd) ∧ ∀ y ∈ l', ∃ x ∈ l, x.about = y.about ∧ x.day = y.day ∧ x.kd = y.kd
/-- Of letters of which no two speak of the same on the same day, the order does not matter. -/
theorem gone_any {l l' : List Ltr} (hs : SameL l l') (hd : ∀ x ∈ l, ∀ y ∈ l, x.about = y.about → x.day = y.day → x.kd = y.kd) (d i : Int) : goneV l' d i = goneV l d i := by
  unfold goneV
  cases h : lastL l d i with
  | none =>
    cases h' : lastL l' d i with
    | none => rfl
    | some y =>
      obtain ⟨q1, q2, q3, _⟩ := lastL_some h'
      obtain ⟨x, hx, e1, e2, _⟩ := hs.2 y q1
      exact absurd (by omega) (lastL_none h x hx (e1.trans q2))
  | some x =>
    obtain ⟨p1, p2, p3, p4⟩ := lastL_some h
    cases h' : lastL l' d i with
    | none =>
      obtain ⟨y, hy, e1, e2, _⟩ := hs.1 x p1
      exact absurd (by omega) (lastL_none h' y hy (e1.trans p2))
    | some y =>
      obtain ⟨q1, q2, q3, q4⟩ := lastL_some h'
      obtain ⟨z, hz, e1, e2, e3⟩ := hs.2 y q1
      obtain ⟨w, hw, f1, f2, f3⟩ := hs.1 x p1
      have g1 := p4 z hz (e1.trans q2) (by omega)
      have g2 := q4 w hw (f1.trans p2) (by omega)
      have e := hd x p1 z hz (by omega) (by omega)
      show decide (y.kd.val = 1) = decide (x.kd.val = 1)
      rw [e, e3]
/-- Letters turned: those from the k-th on first, their Ids given anew. -/
def turnL (l : List Ltr) (k : Nat) (t : Int) : List Ltr := (l.drop k ++ l.take k).zipIdx.map fun p => { p.1 with id := 7 * (p.2 : Int) + t }
theorem turn_mem {l : List Ltr} {k : Nat} {t : Int} {y : Ltr} : y ∈ turnL l k t → ∃ x ∈ l, x.about = y.about ∧ x.day = y.day ∧ x.kd = y.kd := by
  intro h
  unfold turnL at h
  obtain ⟨p, hp, e⟩ := List.mem_map.1 h
  have hm : p.1 ∈ l.drop k ++ l.take k := (List.mem_zipIdx' hp).2 ▸ List.getElem_mem _
  refine ⟨p.1, ?_, ?_⟩
  · rcases List.mem_append.1 hm with hm | hm
    · exact List.mem_of_mem_drop hm
    · exact List.mem_of_mem_take hm
  · rw [← e]; exact ⟨rfl, rfl, rfl⟩
theorem mem_turn {l : List Ltr} {k : Nat} {t : Int} {x : Ltr} (hx : x ∈ l) : ∃ y ∈ turnL l k t, y.about = x.about ∧ y.day = x.day ∧ y.kd = x.kd := by
  have hm : x ∈ l.drop k ++ l.take k := by
    rw [← List.take_append_drop k l] at hx
    rcases List.mem_append.1 hx with h | h
    · exact List.mem_append_right _ h
    · exact List.mem_append_left _ h
  obtain ⟨i, hi, e⟩ := List.mem_iff_getElem.1 hm
  refine ⟨{ x with id := 7 * (i : Int) + t }, ?_, rfl, rfl, rfl⟩
  unfold turnL
  refine List.mem_map.2 ⟨(x, i), ?_, rfl⟩
  rw [List.mem_zipIdx_iff_getElem?]
  rw [List.getElem?_eq_getElem hi, e]
theorem turn_same (l : List Ltr) (k : Nat) (t : Int) : SameL l (turnL l k t) := ⟨fun _ hx => mem_turn hx, fun _ hy => turn_mem hy⟩
theorem turn_len (l : List Ltr) (k : Nat) (t : Int) : (turnL l k t).length = l.length := by
  unfold turnL
  rw [List.length_map, List.length_zipIdx, List.length_append, List.length_drop, List.length_take]
  omega
theorem turn_id {l : List Ltr} {k : Nat} {t : Int} {i : Nat} (hi : i < (idsL (turnL l k t)).length) : (idsL (turnL l k t))[i] = 7 * (i : Int) + t := by
  unfold idsL turnL
  simp
theorem turn_ok {r : List Rcd} {l : List Ltr} (h : letsB r l = true) (k : Nat) {t : Int} (h0 : 0 ≤ t) (h1 : t ≤ 255) : letsB r (turnL l k t) = true := by
  simp only [letsB, Bool.and_eq_true, List.all_eq_true, decide_eq_true_eq] at h ⊢
  have hil : (idsL (turnL l k t)).length = l.length := by unfold idsL; rw [List.length_map, turn_len]
  refine ⟨⟨by rw [turn_len]; exact h.1.1, incF_of (fun x hx => ?_) ?_⟩, fun y hy => ?_⟩
  · obtain ⟨i, hi, e⟩ := List.mem_iff_getElem.1 hx
    rw [turn_id] at e
    omega
  · rw [List.pairwise_iff_getElem]
    intro i j hi hj hij
    rw [turn_id, turn_id]; omega
  · obtain ⟨x, hx, e1, e2, e3⟩ := turn_mem hy
    have := h.2 x hx
    unfold letB at this ⊢
    rw [← e1, ← e2, ← e3]; exact this
end Go.Proofs.Ytmdhgkfjlphliaa
