import Derived.Test.YtjoagmjijbfjkaaGreatDoorAmS
/-
  SPANS THAT ARE JOINED: plain theory.
-/
namespace Go.Proofs.YtjoagmjijbfjkaaGreatDoor
open Go Go.Am
abbrev Spn := Int × Int
def inS (s : Spn) (n : Int) : Prop := s.1 ≤ n ∧ n ≤ s.2
def inL (l : List Spn) (n : Int) : Prop := ∃ s ∈ l, inS s n
/-- Spans in increasing order, as few as there can be. -/
def canS : List Spn → Prop
  | [] => True
  | [s] => s.1 ≤ s.2
  | s :: t :: l => s.1 ≤ s.2 ∧ s.2 + 1 < t.1 ∧ canS (t :: l)
theorem canS_cons {s : Spn} {l : List Spn} (h : canS (s :: l)) : s.1 ≤ s.2 ∧ canS l ∧ ∀ t ∈ l, s.2 + 1 < t.1 := by
  induction l generalizing s with
  | nil => exact ⟨h, trivial, fun t ht => by cases ht⟩
  | cons t l ih =>
    obtain ⟨h1, h2, h3⟩ := h
    obtain ⟨q1, q2, q3⟩ := ih h3
    refine ⟨h1, h3, fun u hu => ?_⟩
    rcases List.mem_cons.1 hu with rfl | hu
    · exact h2
    · have := q3 u hu; omega
theorem canS_of {s : Spn} {l : List Spn} (h1 : s.1 ≤ s.2) (h2 : canS l) (h3 : ∀ t, l.head? = some t → s.2 + 1 < t.1) : canS (s :: l) := by
  cases l with
  | nil => exact h1
  | cons t l => exact ⟨h1, h3 t rfl, h2⟩
/-- What numbers they have tells them. -/
theorem canS_ext : ∀ {l m : List Spn}, canS l → canS m → (∀ n, inL l n ↔ inL m n) → l = m := by
  intro l
  induction l with
  | nil =>
    intro m _ hm h
    cases m with
    | nil => rfl
    | cons t m =>
      have := canS_cons hm
      obtain ⟨s, hs, _⟩ := (h t.1).2 ⟨t, List.mem_cons_self, Int.le_refl _, this.1⟩
      cases hs
  | cons s l ih =>
    intro m hl hm h
    obtain ⟨a1, a2, a3⟩ := canS_cons hl
    cases m with
    | nil =>
      obtain ⟨t, ht, _⟩ := (h s.1).1 ⟨s, List.mem_cons_self, Int.le_refl _, a1⟩
      cases ht
    | cons t m =>
      obtain ⟨b1, b2, b3⟩ := canS_cons hm
      have lo : ∀ {s : Spn} {l : List Spn}, (∀ t ∈ l, s.2 + 1 < t.1) → s.1 ≤ s.2 → ∀ n, inL (s :: l) n → s.1 ≤ n := fun {s l} h3 h1 n ⟨u, hu, q⟩ => by
        rcases List.mem_cons.1 hu with rfl | hu
        · exact q.1
        · have := h3 u hu; have := q.1; omega
      have e1 : s.1 = t.1 := by
        have p := lo b3 b1 s.1 ((h s.1).1 ⟨s, List.mem_cons_self, Int.le_refl _, a1⟩)
        have q := lo a3 a1 t.1 ((h t.1).2 ⟨t, List.mem_cons_self, Int.le_refl _, b1⟩)
        omega
      have hi : ∀ {s t : Spn} {l m : List Spn}, s.1 = t.1 → s.1 ≤ s.2 → t.1 ≤ t.2 → (∀ u ∈ m, t.2 + 1 < u.1) → (∀ n, inL (s :: l) n → inL (t :: m) n) → s.2 ≤ t.2 := fun {s t l m} e h1 h2 h3 hh => by
        refine Classical.byContradiction fun hn => ?_
        obtain ⟨u, hu, q⟩ := hh (t.2 + 1) ⟨s, List.mem_cons_self, by show s.1 ≤ t.2 + 1; omega, by show t.2 + 1 ≤ s.2; omega⟩
        rcases List.mem_cons.1 hu with rfl | hu
        · have := q.2; omega
        · have := h3 u hu; have := q.1; omega
      have e2 : s.2 = t.2 := by
        have p := hi e1 a1 b1 b3 (fun n hn => (h n).1 hn)
        have q := hi e1.symm b1 a1 a3 (fun n hn => (h n).2 hn)
        omega
      have est : s = t := Prod.ext e1 e2
      subst est
      rw [ih a2 b2 fun n => ?_]
      constructor
      · rintro ⟨u, hu, q⟩
        obtain ⟨w, hw, q2⟩ := (h n).1 ⟨u, List.mem_cons_of_mem _ hu, q⟩
        rcases List.mem_cons.1 hw with rfl | hw
        · have := a3 u hu; have := q.1; have := q2.2; omega
        · exact ⟨w, hw, q2⟩
      · rintro ⟨u, hu, q⟩
        obtain ⟨w, hw, q2⟩ := (h n).2 ⟨u, List.mem_cons_of_mem _ hu, q⟩
        rcases List.mem_cons.1 hw with rfl | hw
        · have := b3 u hu; have := q.1; have := q2.2; omega
        · exact ⟨w, hw, q2⟩
/-! ### joining, from the left, with the last span at hand -/
/-- The spans before the last one, and the last one, if there is one. -/
def joinV : List Spn → List Spn → List Spn
  | acc, [] => acc
  | acc, s :: l => joinV (match acc.getLast? with
    | none => [s]
    | some t => if s.1 ≤ t.2 + 1 then acc.dropLast ++ [(t.1, max t.2 s.2)] else acc ++ [s]) l
def nxtJ (acc : List Spn) (s : Spn) : List Spn := match acc.getLast? with
  | none => [s]
  | some t => if s.1 ≤ t.2 + 1 then acc.dropLast ++ [(t.1, max t.2 s.2)] else acc ++ [s]
theorem joinV_cons (acc : List Spn) (s : Spn) (l : List Spn) : joinV acc (s :: l) = joinV (nxtJ acc s) l := rfl
/-- Spans before a last one stay apart. -/
theorem canS_app : ∀ {p : List Spn} {t : Spn}, canS (p ++ [t]) ↔ canS p ∧ t.1 ≤ t.2 ∧ ∀ u ∈ p, u.2 + 1 < t.1 := by
  intro p
  induction p with
  | nil => intro t; exact ⟨fun h => ⟨trivial, h, fun u hu => by cases hu⟩, fun h => h.2.1⟩
  | cons a p ih =>
    intro t
    constructor
    · intro h
      obtain ⟨h1, h2, h3⟩ := canS_cons (l := p ++ [t]) h
      obtain ⟨q1, q2, q3⟩ := ih.1 h2
      refine ⟨canS_of h1 q1 fun u hu => h3 u (List.mem_append_left _ (List.mem_of_mem_head? hu)), q2, fun u hu => ?_⟩
      rcases List.mem_cons.1 hu with rfl | hu
      · exact h3 t (List.mem_append_right _ List.mem_cons_self)
      · exact q3 u hu
    · rintro ⟨h1, h2, h3⟩
      obtain ⟨q1, q2, q3⟩ := canS_cons h1
      refine canS_of (l := p ++ [t]) q1 (ih.2 ⟨q2, h2, fun u hu => h3 u (List.mem_cons_of_mem _ hu)⟩) fun u hu => ?_
      cases p with
      | nil => cases hu; exact h3 a List.mem_cons_self
      | cons b p => cases hu; exact q3 _ List.mem_cons_self
theorem last_split {α : Type} {l : List α} {t : α} (h : l.getLast? = some t) : l = l.dropLast ++ [t] := by
  obtain ⟨ys, e⟩ := List.getLast?_eq_some_iff.1 h
  rw [e]; simp
theorem nxtJ_ok {acc : List Spn} {s : Spn} (hc : canS acc) (hs : s.1 ≤ s.2) (hlo : ∀ u ∈ acc, u.1 ≤ s.1) : canS (nxtJ acc s) ∧ (∀ n, inL (nxtJ acc s) n ↔ inL acc n ∨ inS s n) ∧ ∀ u ∈ nxtJ acc s, u.1 ≤ s.1 := by
  unfold nxtJ
  cases h : acc.getLast? with
  | none =>
    rw [List.getLast?_eq_none_iff] at h
    subst h
    refine ⟨hs, fun n => ⟨?_, ?_⟩, fun u hu => ?_⟩
    · rintro ⟨u, hu, q⟩; rw [List.mem_singleton.1 hu] at q; exact .inr q
    · rintro (⟨u, hu, _⟩ | q)
      · cases hu
      · exact ⟨s, List.mem_cons_self, q⟩
    · rw [List.mem_singleton.1 hu]; exact Int.le_refl _
  | some t =>
    have e := last_split h
    generalize acc.dropLast = p at e
    subst e
    obtain ⟨c1, c2, c3⟩ := canS_app.1 hc
    have ht := hlo t (List.mem_append_right _ List.mem_cons_self)
    by_cases hj : s.1 ≤ t.2 + 1
    · simp only [if_pos hj]
      refine ⟨canS_app.2 ⟨c1, by show t.1 ≤ max t.2 s.2; omega, c3⟩, fun n => ⟨?_, ?_⟩, fun u hu => ?_⟩
      · rintro ⟨u, hu, q⟩
        rcases List.mem_append.1 hu with hu | hu
        · exact .inl ⟨u, List.mem_append_left _ hu, q⟩
        · rw [List.mem_singleton.1 hu] at q
          have q1 : t.1 ≤ n := q.1
          have q2 : n ≤ max t.2 s.2 := q.2
          by_cases h1 : n ≤ t.2
          · exact .inl ⟨t, List.mem_append_right _ List.mem_cons_self, q1, h1⟩
          · exact .inr ⟨by omega, by omega⟩
      · rintro (⟨u, hu, q⟩ | q)
        · rcases List.mem_append.1 hu with hu | hu
          · exact ⟨u, List.mem_append_left _ hu, q⟩
          · rw [List.mem_singleton.1 hu] at q
            exact ⟨_, List.mem_append_right _ List.mem_cons_self, q.1, by show n ≤ max t.2 s.2; have := q.2; omega⟩
        · exact ⟨_, List.mem_append_right _ List.mem_cons_self, by show t.1 ≤ n; have := q.1; omega, by show n ≤ max t.2 s.2; have := q.2; omega⟩
      · rcases List.mem_append.1 hu with hu | hu
        · exact hlo u (List.mem_append_left _ hu)
        · rw [List.mem_singleton.1 hu]; exact ht
    · simp only [if_neg hj]
      refine ⟨canS_app.2 ⟨hc, hs, fun u hu => ?_⟩, fun n => ⟨?_, ?_⟩, fun u hu => ?_⟩
      · rcases List.mem_append.1 hu with hu | hu
        · have := c3 u hu; omega
        · rw [List.mem_singleton.1 hu]; omega
      · rintro ⟨u, hu, q⟩
        rcases List.mem_append.1 hu with hu | hu
        · exact .inl ⟨u, hu, q⟩
        · rw [List.mem_singleton.1 hu] at q; exact .inr q
      · rintro (⟨u, hu, q⟩ | q)
        · exact ⟨u, List.mem_append_left _ hu, q⟩
        · exact ⟨s, List.mem_append_right _ List.mem_cons_self, q⟩
      · rcases List.mem_append.1 hu with hu | hu
        · exact hlo u hu
        · rw [List.mem_singleton.1 hu]; exact Int.le_refl _
theorem joinV_ok : ∀ (l acc : List Spn), canS acc → (∀ s ∈ l, s.1 ≤ s.2) → l.Pairwise (fun a b => a.1 ≤ b.1) → (∀ u ∈ acc, ∀ s ∈ l, u.1 ≤ s.1) → canS (joinV acc l) ∧ ∀ n, inL (joinV acc l) n ↔ inL acc n ∨ inL l n := by
  intro l
  induction l with
  | nil => intro acc hc _ _ _; exact ⟨hc, fun n => ⟨.inl, fun h => h.elim id fun ⟨u, hu, _⟩ => by cases hu⟩⟩
  | cons s l ih =>
    intro acc hc hs hp hlo
    rw [joinV_cons]
    obtain ⟨h1, h2, h3⟩ := nxtJ_ok hc (hs s List.mem_cons_self) fun u hu => hlo u hu s List.mem_cons_self
    obtain ⟨q1, q2⟩ := ih (nxtJ acc s) h1 (fun t ht => hs t (List.mem_cons_of_mem _ ht)) hp.of_cons fun u hu t ht => by
      have a := h3 u hu
      have b := List.rel_of_pairwise_cons hp ht
      omega
    refine ⟨q1, fun n => ?_⟩
    rw [q2, h2]
    constructor
    · rintro ((h | h) | ⟨u, hu, q⟩)
      · exact .inl h
      · exact .inr ⟨s, List.mem_cons_self, h⟩
      · exact .inr ⟨u, List.mem_cons_of_mem _ hu, q⟩
    · rintro (h | ⟨u, hu, q⟩)
      · exact .inl (.inl h)
      · rcases List.mem_cons.1 hu with rfl | hu
        · exact .inl (.inr q)
        · exact .inr ⟨u, hu, q⟩
/-- In whatever order spans are joined that have the same numbers, the same comes out. -/
theorem joinV_same {l m : List Spn} (hl : ∀ s ∈ l, s.1 ≤ s.2) (hm : ∀ s ∈ m, s.1 ≤ s.2) (pl : l.Pairwise (fun a b => a.1 ≤ b.1)) (pm : m.Pairwise (fun a b => a.1 ≤ b.1)) (h : ∀ n, inL l n ↔ inL m n) : joinV [] l = joinV [] m := by
  obtain ⟨a1, a2⟩ := joinV_ok l [] trivial hl pl fun u hu => by cases hu
  obtain ⟨b1, b2⟩ := joinV_ok m [] trivial hm pm fun u hu => by cases hu
  have none : ∀ n, ¬ inL [] n := fun n ⟨u, hu, _⟩ => by cases hu
  refine canS_ext a1 b1 fun n => ?_
  rw [a2, b2]
  constructor
  · rintro (h1 | h1)
    · exact absurd h1 (none n)
    · exact .inr ((h n).1 h1)
  · rintro (h1 | h1)
    · exact absurd h1 (none n)
    · exact .inr ((h n).2 h1)
end Go.Proofs.YtjoagmjijbfjkaaGreatDoor
/-
  HOW FAR ROOMS ARE: plain theory. Floyd's table and the reference's rounds say the same.
-/
namespace Go.Proofs.YtjoagmjijbfjkaaGreatDoor
open Go Go.Am
abbrev Edg := Nat × Nat × Int
abbrev Tm := Option Int
/-- A gate goes from a to b, from either side. -/
def St1 (E : List Edg) (a b : Nat) (w : Int) : Prop := (a, b, w) ∈ E ∨ (b, a, w) ∈ E
theorem St1.symm {E : List Edg} {a b : Nat} {w : Int} (h : St1 E a b w) : St1 E b a w := Or.symm h
/-- A way from a to b that takes c, by rooms in between of which S is so. -/
inductive Way (E : List Edg) (S : Nat → Prop) : Nat → Nat → Int → Prop
  | none (a : Nat) : Way E S a a 0
  | one {a b : Nat} {w : Int} : St1 E a b w → Way E S a b w
  | cons {a x b : Nat} {w c : Int} : St1 E a x w → S x → Way E S x b c → Way E S a b (w + c)
theorem Way.mono {E : List Edg} {S T : Nat → Prop} (h : ∀ x, S x → T x) {a b : Nat} {c : Int} (q : Way E S a b c) : Way E T a b c := by
  induction q with
  | none a => exact .none a
  | one s => exact .one s
  | cons s hx _ ih => exact .cons s (h _ hx) ih
/-- A way by rooms below k + 1 is one by rooms below k, or goes by k. -/
theorem Way.cut {E : List Edg} (hE : ∀ a b w, St1 E a b w → 0 ≤ w) {k : Nat} {a b : Nat} {c : Int} (q : Way E (fun x => x < k + 1) a b c) :
    Way E (fun x => x < k) a b c ∨ ∃ c1 c2, c1 + c2 ≤ c ∧ Way E (fun x => x < k) a k c1 ∧ Way E (fun x => x < k) k b c2 := by
  induction q with
  | none a => exact .inl (.none a)
  | one s => exact .inl (.one s)
  | @cons a x b w c s hx _ ih =>
    rcases Nat.lt_or_ge x k with hk | hk
    · rcases ih with h | ⟨c1, c2, h, h1, h2⟩
      · exact .inl (.cons s hk h)
      · exact .inr ⟨w + c1, c2, by omega, .cons s hk h1, h2⟩
    · have hk2 : x = k := by omega
      subst hk2
      rcases ih with h | ⟨c1, c2, h, h1, h2⟩
      · exact .inr ⟨w, c, Int.le_refl _, .one s, h⟩
      · refine .inr ⟨w, c2, ?_, .one s, h2⟩
        have : 0 ≤ c1 := by
          have key : ∀ {S : Nat → Prop} {a b : Nat} {c : Int}, Way E S a b c → 0 ≤ c := by
            intro S a b c q
            induction q with
            | none a => exact Int.le_refl _
            | one s => exact hE _ _ _ s
            | cons s _ _ ih => have := hE _ _ _ s; omega
          exact key h1
        omega
def befT (t o : Tm) : Bool := match t, o with
  | .none, _ => false
  | .some _, .none => true
  | .some a, .some b => decide (a < b)
def soonT (a b : Tm) : Tm := if befT b a then b else a
def andT (a b : Tm) : Tm := match a, b with
  | .some x, .some y => .some (x + y)
  | _, _ => .none
/-- A time of at most so long. -/
def leN (t : Tm) (c : Int) : Prop := ∃ d, t = some d ∧ d ≤ c
theorem leN.mono {t : Tm} {c d : Int} (h : leN t c) (q : c ≤ d) : leN t d := by obtain ⟨x, rfl, hx⟩ := h; exact ⟨x, rfl, by omega⟩
theorem soon_l {a b : Tm} {c : Int} (h : leN a c) : leN (soonT a b) c := by
  obtain ⟨x, rfl, hx⟩ := h
  unfold soonT
  cases b with
  | none => exact ⟨x, rfl, hx⟩
  | some y =>
    show leN (if decide (y < x) = true then some y else some x) c
    rcases Int.lt_or_le y x with q | q
    · rw [if_pos (decide_eq_true q)]; exact ⟨y, rfl, by omega⟩
    · rw [if_neg (by rw [decide_eq_true_eq]; omega)]; exact ⟨x, rfl, hx⟩
theorem soon_r {a b : Tm} {c : Int} (h : leN b c) : leN (soonT a b) c := by
  obtain ⟨y, rfl, hy⟩ := h
  unfold soonT
  cases a with
  | none => exact ⟨y, rfl, hy⟩
  | some x =>
    show leN (if decide (y < x) = true then some y else some x) c
    rcases Int.lt_or_le y x with q | q
    · rw [if_pos (decide_eq_true q)]; exact ⟨y, rfl, hy⟩
    · rw [if_neg (by rw [decide_eq_true_eq]; omega)]; exact ⟨x, rfl, by omega⟩
theorem soon_eq (a b : Tm) : soonT a b = a ∨ soonT a b = b := by
  unfold soonT; split
  · exact .inr rfl
  · exact .inl rfl
theorem and_le {a b : Tm} {c d : Int} (h : leN a c) (q : leN b d) : leN (andT a b) (c + d) := by
  obtain ⟨x, rfl, hx⟩ := h; obtain ⟨y, rfl, hy⟩ := q
  exact ⟨x + y, rfl, by omega⟩
abbrev Tab := Nat → Nat → Tm
def setT (F : Tab) (a b : Nat) (t : Tm) : Tab := fun x y => if x = a ∧ y = b then t else F x y
/-- One room by which ways go: all pairs of some list, in place. -/
def stepF (k : Nat) (F : Tab) (p : Nat × Nat) : Tab := setT F p.1 p.2 (soonT (F p.1 p.2) (andT (F p.1 k) (F k p.2)))
def roundF (k : Nat) (F : Tab) (l : List (Nat × Nat)) : Tab := l.foldl (stepF k) F
theorem stepF_le {k : Nat} {F : Tab} {p : Nat × Nat} {a b : Nat} {c : Int} (h : leN (F a b) c) : leN (stepF k F p a b) c := by
  unfold stepF setT
  split
  · rename_i e; obtain ⟨rfl, rfl⟩ := e; exact soon_l h
  · exact h
theorem roundF_le {k : Nat} : ∀ {l : List (Nat × Nat)} {F : Tab} {a b : Nat} {c : Int}, leN (F a b) c → leN (roundF k F l a b) c := by
  intro l
  induction l with
  | nil => intro F a b c h; exact h
  | cons p l ih => intro F a b c h; exact ih (stepF_le h)
theorem roundF_new {k : Nat} : ∀ {l : List (Nat × Nat)} {F : Tab} {a b : Nat} {c d : Int}, (a, b) ∈ l → leN (F a k) c → leN (F k b) d → leN (roundF k F l a b) (c + d) := by
  intro l
  induction l with
  | nil => intro F a b c d h; cases h
  | cons p l ih =>
    intro F a b c d h h1 h2
    rcases List.mem_cons.1 h with rfl | h
    · refine roundF_le (l := l) ?_
      unfold stepF setT
      rw [if_pos ⟨rfl, rfl⟩]
      exact soon_r (and_le h1 h2)
    · exact ih h (stepF_le h1) (stepF_le h2)
/-- What a table says there is. -/
def sndF (E : List Edg) (F : Tab) : Prop := ∀ a b c, F a b = some c → Way E (fun _ => True) a b c
theorem Way.trans {E : List Edg} {a x b : Nat} {c d : Int} (p : Way E (fun _ => True) a x c) (q : Way E (fun _ => True) x b d) : Way E (fun _ => True) a b (c + d) := by
  induction p with
  | none a => rw [Int.zero_add]; exact q
  | one s => exact .cons s trivial q
  | cons s _ _ ih => rw [Int.add_assoc]; exact .cons s trivial (ih q)
/-- The same, of the rooms below n alone. -/
def sndN (E : List Edg) (n : Nat) (F : Tab) : Prop := ∀ a b c, a < n → b < n → F a b = some c → Way E (fun _ => True) a b c
theorem stepF_snd {E : List Edg} {n k : Nat} {F : Tab} {p : Nat × Nat} (hk : k < n) (_hp : p.1 < n ∧ p.2 < n) (h : sndN E n F) : sndN E n (stepF k F p) := by
  intro a b c ha hb e
  unfold stepF setT at e
  split at e
  · rename_i q; obtain ⟨rfl, rfl⟩ := q
    rcases soon_eq (F p.1 p.2) (andT (F p.1 k) (F k p.2)) with r | r
    · rw [r] at e; exact h _ _ _ ha hb e
    · rw [r] at e
      cases e1 : F p.1 k with
      | none => rw [e1] at e; cases e
      | some x =>
        cases e2 : F k p.2 with
        | none => rw [e1, e2] at e; cases e
        | some y =>
          rw [e1, e2] at e
          have : x + y = c := Option.some.inj e
          subst this
          exact (h _ _ _ ha hk e1).trans (h _ _ _ hk hb e2)
  · exact h _ _ _ ha hb e
theorem roundF_snd {E : List Edg} {n k : Nat} (hk : k < n) : ∀ {l : List (Nat × Nat)} {F : Tab}, (∀ p ∈ l, p.1 < n ∧ p.2 < n) → sndN E n F → sndN E n (roundF k F l) := by
  intro l
  induction l with
  | nil => intro F _ h; exact h
  | cons p l ih => intro F hl h; exact ih (fun q hq => hl q (List.mem_cons_of_mem _ hq)) (stepF_snd hk (hl p List.mem_cons_self) h)
/-- Rooms by which ways go, one after the other. -/
def floydV (l : List (Nat × Nat)) : Nat → Tab → Tab
  | 0, F => F
  | k + 1, F => roundF k (floydV l k F) l
theorem floyd_snd {E : List Edg} {n : Nat} {l : List (Nat × Nat)} (hl : ∀ p ∈ l, p.1 < n ∧ p.2 < n) {F : Tab} (h : sndN E n F) : ∀ k, k ≤ n → sndN E n (floydV l k F) := by
  intro k
  induction k with
  | zero => intro _; exact h
  | succ k ih => intro hk; exact roundF_snd (by omega) hl (ih (by omega))
theorem floyd_le {E : List Edg} (hE : ∀ a b w, St1 E a b w → 0 ≤ w) {n : Nat} {l : List (Nat × Nat)} (hl : ∀ a b, a < n → b < n → (a, b) ∈ l) {F : Tab}
    (h0 : ∀ a, a < n → leN (F a a) 0) (h1 : ∀ a b w, St1 E a b w → leN (F a b) w) :
    ∀ k, k ≤ n → ∀ a b c, a < n → b < n → Way E (fun x => x < k) a b c → leN (floydV l k F a b) c := by
  intro k
  induction k with
  | zero =>
    intro _ a b c ha hb q
    cases q with
    | none => exact h0 a ha
    | one s => exact h1 _ _ _ s
    | cons s hx _ => exact absurd hx (Nat.not_lt_zero _)
  | succ k ih =>
    intro hk a b c ha hb q
    rcases q.cut hE with q | ⟨c1, c2, hc, q1, q2⟩
    · exact roundF_le (ih (by omega) a b c ha hb q)
    · exact (roundF_new (hl a b ha hb) (ih (by omega) a k c1 ha (by omega) q1) (ih (by omega) k b c2 (by omega) hb q2)).mono hc
/-- Ways stay among the rooms. -/
theorem Way.inN {E : List Edg} {n : Nat} (hn : ∀ a b w, St1 E a b w → a < n ∧ b < n) {S : Nat → Prop} {a b : Nat} {c : Int} (q : Way E S a b c) : Way E (fun x => x < n) a b c := by
  induction q with
  | none a => exact .none a
  | one s => exact .one s
  | cons s _ _ ih => exact .cons s (hn _ _ _ s).2 ih
end Go.Proofs.YtjoagmjijbfjkaaGreatDoor
/-
  HOW FAR ROOMS ARE, as the reference works it out: plain theory.
-/
namespace Go.Proofs.YtjoagmjijbfjkaaGreatDoor
open Go Go.Am
/-- Rooms of a way, from its end back to r. -/
inductive Pth (E : List Edg) (r : Nat) : List Nat → Int → Prop
  | one : Pth E r [r] 0
  | cons {a x : Nat} {l : List Nat} {w c : Int} : St1 E a x w → Pth E r (x :: l) c → Pth E r (a :: x :: l) (w + c)
theorem Pth.way {E : List Edg} {r : Nat} : ∀ {l : List Nat} {c : Int}, Pth E r l c → ∀ {a m}, l = a :: m → Way E (fun _ => True) a r c := by
  intro l c h
  induction h with
  | one => intro a m e; cases e; exact .none r
  | cons s _ ih => intro a m e; cases e; exact .cons s trivial (ih rfl)
theorem Pth.nonneg {E : List Edg} (hE : ∀ a b w, St1 E a b w → 0 ≤ w) {r : Nat} {l : List Nat} {c : Int} (h : Pth E r l c) : 0 ≤ c := by
  induction h with
  | one => exact Int.le_refl _
  | cons s _ ih => have := hE _ _ _ s; omega
/-- What is left of a way from a room of it on. -/
theorem Pth.from {E : List Edg} (hE : ∀ a b w, St1 E a b w → 0 ≤ w) {r : Nat} {l : List Nat} {c : Int} (h : Pth E r l c) :
    ∀ {a : Nat}, a ∈ l → ∃ m d, Pth E r (a :: m) d ∧ d ≤ c ∧ (l.Nodup → (a :: m).Nodup) := by
  induction h with
  | one =>
    intro a ha
    rw [List.mem_singleton] at ha; subst ha
    exact ⟨[], 0, .one, Int.le_refl _, id⟩
  | @cons x y l w c s q ih =>
    intro a ha
    rcases List.mem_cons.1 ha with rfl | ha
    · exact ⟨y :: l, w + c, .cons s q, Int.le_refl _, id⟩
    · obtain ⟨m, d, h1, h2, h3⟩ := ih ha
      have := hE _ _ _ s
      exact ⟨m, d, h1, by omega, fun hn => h3 (List.nodup_cons.1 hn).2⟩
/-- Each way has one that meets no room twice and takes no longer. -/
theorem Way.simple {E : List Edg} (hE : ∀ a b w, St1 E a b w → 0 ≤ w) {S : Nat → Prop} {a r : Nat} {c : Int} (q : Way E S a r c) :
    ∃ m d, Pth E r (a :: m) d ∧ d ≤ c ∧ (a :: m).Nodup := by
  have key : ∀ {a x : Nat} {w c : Int} {m : List Nat} {d : Int}, St1 E a x w → Pth E r (x :: m) d → d ≤ c → (x :: m).Nodup →
      ∃ m d, Pth E r (a :: m) d ∧ d ≤ w + c ∧ (a :: m).Nodup := by
    intro a x w c m d s p hd hn
    have hw := hE _ _ _ s
    by_cases ha : a ∈ x :: m
    · obtain ⟨m2, d2, h1, h2, h3⟩ := p.from hE ha
      exact ⟨m2, d2, h1, by omega, h3 hn⟩
    · exact ⟨x :: m, w + d, .cons s p, by omega, List.nodup_cons.2 ⟨ha, hn⟩⟩
  induction q with
  | none a => exact ⟨[], 0, .one, Int.le_refl _, by simp⟩
  | @one a b w s =>
    obtain ⟨m, d, h1, h2, h3⟩ := key (c := 0) s (.one) (Int.le_refl _) (by simp)
    exact ⟨m, d, h1, by omega, h3⟩
  | cons s _ _ ih =>
    obtain ⟨m, d, h1, h2, h3⟩ := ih key
    exact key s h1 h2 h3
theorem Pth.inN {E : List Edg} {n : Nat} (hn : ∀ a b w, St1 E a b w → a < n ∧ b < n) {r : Nat} (hr : r < n) {l : List Nat} {c : Int} (h : Pth E r l c) : ∀ x ∈ l, x < n := by
  induction h with
  | one => intro x hx; rw [List.mem_singleton] at hx; subst hx; exact hr
  | cons s _ ih =>
    intro x hx
    rcases List.mem_cons.1 hx with rfl | hx
    · exact (hn _ _ _ s).1
    · exact ih x hx
theorem nodup_len : ∀ {n : Nat} {l : List Nat}, l.Nodup → (∀ x ∈ l, x < n) → l.length ≤ n := by
  intro n
  induction n with
  | zero =>
    intro l _ h
    cases l with
    | nil => exact Nat.le_refl _
    | cons x l => exact absurd (h x List.mem_cons_self) (Nat.not_lt_zero _)
  | succ n ih =>
    intro l hn h
    by_cases hm : n ∈ l
    · have h1 : (l.erase n).length ≤ n := ih (hn.erase n) (fun x hx => by
        have hx2 := (List.Nodup.mem_erase_iff hn).1 hx
        have := h x hx2.2
        have := hx2.1
        omega)
      rw [List.length_erase_of_mem hm] at h1
      have : 0 < l.length := List.length_pos_of_mem hm
      omega
    · exact Nat.le_succ_of_le (ih hn (fun x hx => by
        have := h x hx
        have : x ≠ n := fun e => hm (e ▸ hx)
        omega))
abbrev Row := Nat → Int
/-- One gate, both of its sides at once. -/
def stepB (d : Row) (e : Edg) : Row := fun x =>
  if x = e.2.1 then min (d e.2.1) (d e.1 + e.2.2) else if x = e.1 then min (d e.1) (d e.2.1 + e.2.2) else d x
def roundB (E : List Edg) (d : Row) : Row := E.foldl stepB d
def bellV (E : List Edg) : Nat → Row → Row
  | 0, d => d
  | k + 1, d => roundB E (bellV E k d)
theorem stepB_le (d : Row) (e : Edg) (x : Nat) : stepB d e x ≤ d x := by
  unfold stepB
  split
  · rename_i h; subst h; omega
  · split
    · rename_i h; subst h; omega
    · exact Int.le_refl _
theorem roundB_le : ∀ (E : List Edg) (d : Row) (x : Nat), roundB E d x ≤ d x := by
  intro E
  induction E with
  | nil => intro d x; exact Int.le_refl _
  | cons e E ih => intro d x; exact Int.le_trans (ih (stepB d e) x) (stepB_le d e x)
theorem roundB_new : ∀ {E : List Edg} {d0 d : Row} {a b : Nat} {w : Int}, a ≠ b → (∀ x, d x ≤ d0 x) → St1 E a b w → roundB E d a ≤ d0 b + w := by
  intro E
  induction E with
  | nil => intro d0 d a b w _ _ h; rcases h with h | h <;> cases h
  | cons e E ih =>
    intro d0 d a b w hab hd h
    have hd2 : ∀ x, stepB d e x ≤ d0 x := fun x => Int.le_trans (stepB_le d e x) (hd x)
    have hb := hd b
    rcases h with h | h
    · rcases List.mem_cons.1 h with rfl | h
      · refine Int.le_trans (roundB_le E _ a) ?_
        unfold stepB
        show (if a = b then _ else if a = a then _ else _) ≤ _
        rw [if_neg hab, if_pos rfl]
        show min (d a) (d b + w) ≤ _
        omega
      · exact ih hab hd2 (.inl h)
    · rcases List.mem_cons.1 h with rfl | h
      · refine Int.le_trans (roundB_le E _ a) ?_
        unfold stepB
        show (if a = a then _ else _) ≤ _
        rw [if_pos rfl]
        show min (d a) (d b + w) ≤ _
        omega
      · exact ih hab hd2 (.inr h)
theorem bell_le {E : List Edg} (hne : ∀ a b w, St1 E a b w → a ≠ b) {r : Nat} {d : Row} (h0 : d r ≤ 0) :
    ∀ {l : List Nat} {c : Int}, Pth E r l c → ∀ {a m}, l = a :: m → ∀ k, m.length ≤ k → bellV E k d a ≤ c := by
  intro l c h
  induction h with
  | one =>
    intro a m e k _
    cases e
    induction k with
    | zero => exact h0
    | succ k ih => exact Int.le_trans (roundB_le E _ _) (ih (Nat.zero_le _))
  | @cons a x l w c s q ih =>
    intro a2 m e k hk
    cases e
    cases k with
    | zero => exact absurd hk (Nat.not_succ_le_zero _)
    | succ k =>
      have h1 := ih rfl k (by simpa using hk)
      have h2 := roundB_new (E := E) (d0 := bellV E k d) (d := bellV E k d) (hne _ _ _ s) (fun _ => Int.le_refl _) s
      show roundB E (bellV E k d) a ≤ _
      omega
/-- What a row says there is; N is never. -/
def sndB (E : List Edg) (N : Int) (r : Nat) (d : Row) : Prop := ∀ x, d x ≤ N ∧ (d x < N → Way E (fun _ => True) x r (d x))
theorem stepB_snd {E : List Edg} (hE : ∀ a b w, St1 E a b w → 0 ≤ w) {N : Int} {r : Nat} {d : Row} {e : Edg} (he : e ∈ E) (h : sndB E N r d) : sndB E N r (stepB d e) := by
  intro x
  have hw : 0 ≤ e.2.2 := hE e.1 e.2.1 e.2.2 (.inl he)
  refine ⟨Int.le_trans (stepB_le d e x) (h x).1, ?_⟩
  unfold stepB
  split
  · rename_i hx
    subst hx
    intro hlt
    rcases Int.lt_or_le (d e.1 + e.2.2) (d e.2.1) with q | q
    · rw [Int.min_eq_right (Int.le_of_lt q)] at hlt ⊢
      rw [Int.add_comm]
      exact .cons (.inr he) trivial ((h e.1).2 (by omega))
    · rw [Int.min_eq_left q] at hlt ⊢
      exact (h _).2 hlt
  · split
    · rename_i hx
      subst hx
      intro hlt
      rcases Int.lt_or_le (d e.2.1 + e.2.2) (d e.1) with q | q
      · rw [Int.min_eq_right (Int.le_of_lt q)] at hlt ⊢
        rw [Int.add_comm]
        exact .cons (.inl he) trivial ((h e.2.1).2 (by omega))
      · rw [Int.min_eq_left q] at hlt ⊢
        exact (h _).2 hlt
    · exact (h x).2
theorem roundB_snd {E : List Edg} (hE : ∀ a b w, St1 E a b w → 0 ≤ w) {N : Int} {r : Nat} : ∀ {L : List Edg} {d : Row}, (∀ e ∈ L, e ∈ E) → sndB E N r d → sndB E N r (roundB L d) := by
  intro L
  induction L with
  | nil => intro d _ h; exact h
  | cons e L ih => intro d hL h; exact ih (fun q hq => hL q (List.mem_cons_of_mem _ hq)) (stepB_snd hE (hL e List.mem_cons_self) h)
theorem bell_snd {E : List Edg} (hE : ∀ a b w, St1 E a b w → 0 ≤ w) {N : Int} {r : Nat} {d : Row} (h : sndB E N r d) : ∀ k, sndB E N r (bellV E k d) := by
  intro k
  induction k with
  | zero => exact h
  | succ k ih => exact roundB_snd hE (fun _ h => h) ih
/-- Between two times as they are told here and there. -/
def asB (N : Int) (t : Tm) : Int := match t with | .none => N | .some c => c
/-- Floyd's table and the reference's row say the same. -/
theorem floyd_bell {E : List Edg} (hE : ∀ a b w, St1 E a b w → 0 ≤ w) {n : Nat} (hn : ∀ a b w, St1 E a b w → a < n ∧ b < n) (hne : ∀ a b w, St1 E a b w → a ≠ b)
    {l : List (Nat × Nat)} (hl : ∀ a b, a < n → b < n → (a, b) ∈ l) (hl2 : ∀ p ∈ l, p.1 < n ∧ p.2 < n)
    {F : Tab} (h0 : ∀ a, a < n → leN (F a a) 0) (h1 : ∀ a b w, St1 E a b w → leN (F a b) w) (hs : sndN E n F)
    {r : Nat} (hr : r < n) {N : Int} {d : Row} (hd0 : d r ≤ 0) (hds : sndB E N r d)
    (hN : ∀ a m c, Pth E r (a :: m) c → (a :: m).Nodup → c < N) {x : Nat} (hx : x < n) :
    bellV E n d x = asB N (floydV l n F r x) := by
  have rev : ∀ {a b : Nat} {c : Int}, Way E (fun _ => True) a b c → Way E (fun _ => True) b a c := by
    intro a b c q
    induction q with
    | none a => exact .none a
    | one s => exact .one s.symm
    | cons s _ _ ih => rw [Int.add_comm]; exact ih.trans (.one s.symm)
  -- what Floyd's table tells the row doesn't exceed
  have fb : ∀ c, floydV l n F r x = some c → bellV E n d x ≤ c := by
    intro c hc
    have w := rev (floyd_snd hl2 hs n (Nat.le_refl _) r x c hr hx hc)
    obtain ⟨m, e, p1, p2, p3⟩ := w.simple hE
    have len := nodup_len p3 (p1.inN hn hr)
    have := bell_le hne hd0 p1 rfl n (by simp only [List.length_cons] at len; omega)
    omega
  have bf : bellV E n d x < N → leN (floydV l n F r x) (bellV E n d x) := by
    intro h
    have w := rev ((bell_snd hE hds n x).2 h)
    exact floyd_le hE hl h0 h1 n (Nat.le_refl _) r x _ hr hx (w.inN hn)
  have top := (bell_snd hE hds n x).1
  cases hf : floydV l n F r x with
  | none =>
    show bellV E n d x = N
    rcases Int.lt_or_le (bellV E n d x) N with h | h
    · obtain ⟨y, hy, _⟩ := bf h
      rw [hf] at hy; cases hy
    · omega
  | some c =>
    show bellV E n d x = c
    have hc := fb c hf
    -- c is less than never
    have w := rev (floyd_snd hl2 hs n (Nat.le_refl _) r x c hr hx hf)
    obtain ⟨m, e, p1, p2, p3⟩ := w.simple hE
    have eN := hN _ _ _ p1 p3
    have len := nodup_len p3 (p1.inN hn hr)
    have be := bell_le hne hd0 p1 rfl n (by simp only [List.length_cons] at len; omega)
    obtain ⟨y, hy, hy2⟩ := bf (by omega)
    rw [hf] at hy
    have : c = y := Option.some.inj hy
    omega
/-- A simple way takes at most as many delays as there are rooms. -/
theorem Pth.bound {E : List Edg} {D : Int} (hD : ∀ a b w, St1 E a b w → w ≤ D) {r : Nat} {l : List Nat} {c : Int} (h : Pth E r l c) : ∀ {a m}, l = a :: m → c ≤ D * m.length := by
  induction h with
  | one => intro a m e; cases e; simp
  | @cons a x l w c s q ih =>
    intro a2 m e
    cases e
    have h1 := ih rfl
    have h2 := hD _ _ _ s
    rw [List.length_cons, Int.natCast_succ, Int.mul_add, Int.mul_one]
    omega
end Go.Proofs.YtjoagmjijbfjkaaGreatDoor
/-
  MINUTES AS SPANS, as the reference tells them: plain theory.
-/
namespace Go.Proofs.YtjoagmjijbfjkaaGreatDoor
open Go Go.Am
/-- One minute more. -/
def nxtR (f : Nat → Bool) (k : Nat) (acc : List Spn) : List Spn :=
  let a := if f k && (k == 0 || !f (k - 1)) then acc ++ [((k : Int), (0 : Int))] else acc
  if f k then a.dropLast ++ [((a.getLast?.getD (0, 0)).1, (k : Int))] else a
def runV (f : Nat → Bool) : Nat → List Spn
  | 0 => []
  | k + 1 => nxtR f k (runV f k)
theorem inL_app {l m : List Spn} {n : Int} : inL (l ++ m) n ↔ inL l n ∨ inL m n := by
  constructor
  · rintro ⟨s, hs, h⟩
    rcases List.mem_append.1 hs with hs | hs
    · exact .inl ⟨s, hs, h⟩
    · exact .inr ⟨s, hs, h⟩
  · rintro (⟨s, hs, h⟩ | ⟨s, hs, h⟩)
    · exact ⟨s, List.mem_append_left _ hs, h⟩
    · exact ⟨s, List.mem_append_right _ hs, h⟩
theorem inL_one {s : Spn} {n : Int} : inL [s] n ↔ inS s n :=
  ⟨fun ⟨t, ht, h⟩ => by rw [List.mem_singleton] at ht; exact ht ▸ h, fun h => ⟨s, List.mem_singleton.2 rfl, h⟩⟩
theorem runV_ok (f : Nat → Bool) : ∀ k, canS (runV f k) ∧ (∀ n, inL (runV f k) n ↔ ∃ m : Nat, n = m ∧ m < k ∧ f m = true) ∧ (∀ s ∈ runV f k, s.2 < k) ∧
    (∀ j, k = j + 1 → f j = true → ∃ (p : List Spn) (t : Spn), runV f k = p ++ [t] ∧ t.2 = (j : Int)) ∧ (∀ j, k = j + 1 → f j = false → ∀ s ∈ runV f k, s.2 < j) := by
  intro k
  induction k with
  | zero =>
    refine ⟨trivial, fun n => ⟨fun ⟨s, hs, _⟩ => (List.not_mem_nil hs).elim, fun ⟨m, _, h, _⟩ => absurd h (Nat.not_lt_zero _)⟩, fun s hs => (List.not_mem_nil hs).elim, fun j h _ => absurd h (by omega), fun j h _ => absurd h (by omega)⟩
  | succ k ih =>
    obtain ⟨i1, i2, i3, i4, i5⟩ := ih
    have old : f k = false → runV f (k + 1) = runV f k := by
      intro h
      show nxtR f k _ = _
      unfold nxtR
      simp [h]
    have new : f k = true → (k = 0 ∨ f (k - 1) = false) → runV f (k + 1) = runV f k ++ [((k : Int), (k : Int))] := by
      intro h q
      show nxtR f k _ = _
      unfold nxtR
      have : (f k && (k == 0 || !f (k - 1))) = true := by
        rcases q with q | q
        · subst q; simp [h]
        · simp [h, q]
      dsimp only
      rw [if_pos h, if_pos this, List.dropLast_concat, List.getLast?_concat]
      rfl
    have more : f k = true → k ≠ 0 → f (k - 1) = true → ∀ p t, runV f k = p ++ [t] → runV f (k + 1) = p ++ [(t.1, (k : Int))] := by
      intro h h0 q p t e
      show nxtR f k _ = _
      unfold nxtR
      have : (f k && (k == 0 || !f (k - 1))) = false := by simp [h, h0, q]
      rw [e]
      dsimp only
      rw [if_pos h, if_neg (by rw [this]; exact Bool.false_ne_true), List.dropLast_concat, List.getLast?_concat]
      rfl
    by_cases h : f k = true
    · by_cases q : k = 0 ∨ f (k - 1) = false
      · have e := new h q
        have below : ∀ s ∈ runV f k, s.2 + 1 < (k : Int) := by
          intro s hs
          rcases q with q | q
          · subst q; exact (List.not_mem_nil hs).elim
          · cases k with
            | zero => exact (List.not_mem_nil hs).elim
            | succ j =>
              have := i5 j rfl q s hs
              omega
        rw [e]
        refine ⟨canS_app.2 ⟨i1, Int.le_refl _, below⟩, fun n => ?_, fun s hs => ?_, fun j hj _ => ⟨_, _, rfl, ?_⟩, fun j hj hf => ?_⟩
        · rw [inL_app, inL_one, i2 n]
          constructor
          · rintro (⟨m, e1, e2, e3⟩ | ⟨e1, e2⟩)
            · exact ⟨m, e1, by omega, e3⟩
            · exact ⟨k, Int.le_antisymm e2 e1, Nat.lt_succ_self _, h⟩
          · rintro ⟨m, e1, e2, e3⟩
            rcases Nat.lt_or_ge m k with hm | hm
            · exact .inl ⟨m, e1, hm, e3⟩
            · have : m = k := by omega
              subst this
              exact .inr ⟨by rw [e1]; exact Int.le_refl _, by rw [e1]; exact Int.le_refl _⟩
        · rcases List.mem_append.1 hs with hs | hs
          · have := i3 s hs; omega
          · rw [List.mem_singleton] at hs; subst hs; show (k : Int) < _; omega
        · show (k : Int) = j; omega
        · have : j = k := by omega
          subst this; rw [h] at hf; cases hf
      · have h0 : k ≠ 0 := fun e => q (.inl e)
        have h1 : f (k - 1) = true := by
          cases hh : f (k - 1) with
          | true => rfl
          | false => exact absurd (.inr hh) q
        obtain ⟨p, t, e0, ht⟩ := i4 (k - 1) (by omega) h1
        have e := more h h0 h1 p t e0
        rw [e0] at i1 i2 i3
        obtain ⟨c1, c2, c3⟩ := canS_app.1 i1
        rw [e]
        refine ⟨canS_app.2 ⟨c1, ?_, c3⟩, fun n => ?_, fun s hs => ?_, fun j hj _ => ⟨_, _, rfl, ?_⟩, fun j hj hf => ?_⟩
        · show t.1 ≤ (k : Int); omega
        · rw [inL_app, inL_one]
          have := i2 n
          rw [inL_app, inL_one] at this
          constructor
          · rintro (e1 | ⟨e1, e2⟩)
            · obtain ⟨m, m1, m2, m3⟩ := this.1 (.inl e1)
              exact ⟨m, m1, by omega, m3⟩
            · have e1 : t.1 ≤ n := e1
              have e2 : n ≤ (k : Int) := e2
              rcases Int.lt_or_le n k with hlt | hge
              · obtain ⟨m, m1, m2, m3⟩ := this.1 (.inr ⟨e1, by omega⟩)
                exact ⟨m, m1, by omega, m3⟩
              · exact ⟨k, by omega, by omega, h⟩
          · rintro ⟨m, m1, m2, m3⟩
            rcases Nat.lt_or_ge m k with hm | hm
            · rcases this.2 ⟨m, m1, hm, m3⟩ with q | ⟨q1, q2⟩
              · exact .inl q
              · exact .inr ⟨q1, by show n ≤ (k : Int); omega⟩
            · exact .inr ⟨by show t.1 ≤ n; omega, by show n ≤ (k : Int); omega⟩
        · rcases List.mem_append.1 hs with hs | hs
          · have := i3 s (List.mem_append_left _ hs); omega
          · rw [List.mem_singleton] at hs; subst hs; show (k : Int) < _; omega
        · show (k : Int) = j; omega
        · have : j = k := by omega
          subst this; rw [h] at hf; cases hf
    · have h : f k = false := by
        cases hh : f k with
        | true => exact absurd hh h
        | false => rfl
      rw [old h]
      refine ⟨i1, fun n => ?_, fun s hs => ?_, fun j hj hf => ?_, fun j hj hf s hs => ?_⟩
      · rw [i2 n]
        constructor
        · rintro ⟨m, e1, e2, e3⟩; exact ⟨m, e1, by omega, e3⟩
        · rintro ⟨m, e1, e2, e3⟩
          refine ⟨m, e1, ?_, e3⟩
          rcases Nat.lt_or_ge m k with hm | hm
          · exact hm
          · have : m = k := by omega
            subst this; rw [h] at e3; cases e3
      · have := i3 s hs; omega
      · have : j = k := by omega
        subst this; rw [h] at hf; cases hf
      · have := i3 s hs; omega
/-- The program's spans joined are the reference's runs. -/
theorem join_run {l : List Spn} (hl : ∀ s ∈ l, s.1 ≤ s.2) (pl : l.Pairwise (fun a b => a.1 ≤ b.1)) {f : Nat → Bool} {k : Nat}
    (h : ∀ n, inL l n ↔ ∃ m : Nat, n = m ∧ m < k ∧ f m = true) : joinV [] l = runV f k := by
  obtain ⟨j1, j2⟩ := joinV_ok l [] trivial hl pl (fun u hu => (List.not_mem_nil hu).elim)
  obtain ⟨r1, r2, _⟩ := runV_ok f k
  refine canS_ext j1 r1 (fun n => ?_)
  rw [j2 n, r2 n, ← h n]
  exact ⟨fun q => q.elim (fun ⟨s, hs, _⟩ => (List.not_mem_nil hs).elim) id, .inr⟩
end Go.Proofs.YtjoagmjijbfjkaaGreatDoor
/-
  WHAT A MARK SAYS: the program's spans, the reference's windows, and what the laws ask of a truth. Plain theory.
-/
namespace Go.Proofs.YtjoagmjijbfjkaaGreatDoor
open Go Go.Am
structure Mrk where
  id : Int
  kind : Int
  room : Nat
  other : Nat
  lo : Int
  hi : Int
  long : Int
def inT (t : Tm) (lo hi : Int) : Spn := match t with | .none => (1, 0) | .some d => (lo - d, hi - d)
def untilT (t : Tm) (m : Int) : Spn := match t with | .none => (1, 0) | .some d => (0, m - d)
def afterT (t : Tm) (m : Int) : Spn := match t with | .none => (0, 600) | .some d => (m + 1 - d, 600)
/-- What the program takes for the minutes of a mark. -/
def saysV (m : Mrk) (fin : Int) (r o : Tm) : Spn :=
  if m.kind = 1 then inT r m.lo m.hi else if m.kind = 2 then afterT r m.lo else if m.kind = 3 then untilT r m.hi
  else if m.kind = 4 then untilT r (fin - m.long) else if m.kind = 5 then afterT r (fin - m.long)
  else if befT r o then (0, 600) else (1, 0)
/-- What the reference takes for them. -/
def windV (N : Int) (m : Mrk) (fin : Int) (d e : Int) : Spn :=
  if m.kind = 1 then (if d < N then (m.lo - d, m.hi - d) else (1, 0))
  else if m.kind = 2 then (if d < N then (m.lo + 1 - d, fin) else (0, fin))
  else if m.kind = 3 then (if d < N then (0, m.hi - d) else (1, 0))
  else if m.kind = 4 then (if d < N then (0, fin - m.long - d) else (1, 0))
  else if m.kind = 5 then (if d < N then (fin - m.long + 1 - d, fin) else (0, fin))
  else (if d < N ∧ d < e then (0, fin) else (1, 0))
def overV (a b : Spn) : Spn := (max a.1 b.1, min a.2 b.2)
theorem over_iff {a b : Spn} {n : Int} : inS (overV a b) n ↔ inS a n ∧ inS b n := by
  unfold inS overV
  show max a.1 b.1 ≤ n ∧ n ≤ min a.2 b.2 ↔ _
  omega
theorem bef_as {N : Int} {r o : Tm} (hr : ∀ c, r = some c → c < N) (ho : ∀ c, o = some c → c < N) : befT r o = true ↔ asB N r < N ∧ asB N r < asB N o := by
  cases r with
  | none =>
    show false = true ↔ N < N ∧ N < asB N o
    exact ⟨fun h => (Bool.false_ne_true h).elim, fun h => absurd h.1 (Int.lt_irrefl _)⟩
  | some c =>
    have := hr c rfl
    cases o with
    | none =>
      show true = true ↔ c < N ∧ c < N
      exact ⟨fun _ => ⟨this, this⟩, fun _ => rfl⟩
    | some d =>
      show decide (c < d) = true ↔ c < N ∧ c < d
      rw [decide_eq_true_eq]
      exact ⟨fun h => ⟨this, h⟩, fun h => h.2⟩
/-- Within the minutes up to the end they are the same. -/
theorem says_wind {N : Int} {m : Mrk} {fin : Int} (hf : fin ≤ 600) {r o : Tm} (hr : ∀ c, r = some c → c < N) (ho : ∀ c, o = some c → c < N) {a : Spn} (ha : a.2 ≤ fin) :
    overV a (saysV m fin r o) = overV a (windV N m fin (asB N r) (asB N o)) := by
  have hb := bef_as hr ho
  unfold saysV windV
  have aft : ∀ k : Int, overV a (afterT r k) = overV a (if asB N r < N then (k + 1 - asB N r, fin) else (0, fin)) := by
    intro k
    cases r with
    | none =>
      show overV a (0, 600) = overV a (if N < N then _ else (0, fin))
      rw [if_neg (Int.lt_irrefl _)]
      unfold overV
      rw [Int.min_eq_left (by show a.2 ≤ 600; omega), Int.min_eq_left ha]
    | some c =>
      show overV a (k + 1 - c, 600) = overV a (if c < N then (k + 1 - c, fin) else (0, fin))
      rw [if_pos (hr c rfl)]
      unfold overV
      rw [Int.min_eq_left (by show a.2 ≤ 600; omega), Int.min_eq_left ha]
  have unt : ∀ k : Int, untilT r k = (if asB N r < N then (0, k - asB N r) else (1, 0)) := by
    intro k
    cases r with
    | none => show _ = (if N < N then _ else _); rw [if_neg (Int.lt_irrefl _)]; rfl
    | some c => show _ = (if c < N then _ else _); rw [if_pos (hr c rfl)]; rfl
  have inn : inT r m.lo m.hi = (if asB N r < N then (m.lo - asB N r, m.hi - asB N r) else (1, 0)) := by
    cases r with
    | none => show _ = (if N < N then _ else _); rw [if_neg (Int.lt_irrefl _)]; rfl
    | some c => show _ = (if c < N then _ else _); rw [if_pos (hr c rfl)]; rfl
  by_cases h1 : m.kind = 1
  · rw [if_pos h1, if_pos h1, inn]
  rw [if_neg h1, if_neg h1]
  by_cases h2 : m.kind = 2
  · rw [if_pos h2, if_pos h2, aft]
  rw [if_neg h2, if_neg h2]
  by_cases h3 : m.kind = 3
  · rw [if_pos h3, if_pos h3, unt]
  rw [if_neg h3, if_neg h3]
  by_cases h4 : m.kind = 4
  · rw [if_pos h4, if_pos h4, unt]
  rw [if_neg h4, if_neg h4]
  by_cases h5 : m.kind = 5
  · rw [if_pos h5, if_pos h5, aft]
  rw [if_neg h5, if_neg h5]
  by_cases h6 : befT r o = true
  · rw [if_pos h6, if_pos (hb.1 h6)]
    unfold overV
    rw [Int.min_eq_left (by show a.2 ≤ 600; omega), Int.min_eq_left ha]
  · rw [if_neg h6, if_neg (fun q => h6 (hb.2 q))]
/-- What the laws ask of a mark, if the fire comes into its rooms at these minutes; N is never. -/
def soV (N : Int) (m : Mrk) (fin : Int) (c e : Int) : Prop :=
  if m.kind = 1 then m.lo ≤ c ∧ c ≤ m.hi else if m.kind = 2 then m.lo < c else if m.kind = 3 then c ≤ m.hi
  else if m.kind = 4 then c ≠ N ∧ m.long ≤ fin - c else if m.kind = 5 then c = N ∨ fin - c < m.long else c < e
/-- When the fire comes. -/
def whenV (N n : Int) (t : Tm) : Int := match t with | .none => N | .some c => n + c
theorem says_so {N : Int} {m : Mrk} {fin n : Int} (hn : 0 ≤ n) (hnf : n ≤ fin) (hf : fin ≤ 600) {r o : Tm} (hr : ∀ c, r = some c → n + c < N) (ho : ∀ c, o = some c → n + c < N)
    (hm : m.lo < N ∧ m.hi < N) : inS (saysV m fin r o) n ↔ soV N m fin (whenV N n r) (whenV N n o) := by
  unfold saysV soV inS
  cases r with
  | none =>
    show _ ↔ (if m.kind = 1 then m.lo ≤ N ∧ N ≤ m.hi else if m.kind = 2 then m.lo < N else if m.kind = 3 then N ≤ m.hi
      else if m.kind = 4 then N ≠ N ∧ m.long ≤ fin - N else if m.kind = 5 then N = N ∨ fin - N < m.long else N < whenV N n o)
    have : ¬ N < whenV N n o := by
      cases o with
      | none => exact Int.lt_irrefl _
      | some c => have := ho c rfl; show ¬ N < n + c; omega
    by_cases h1 : m.kind = 1
    · simp only [if_pos h1, inT]; omega
    by_cases h2 : m.kind = 2
    · simp only [if_neg h1, if_pos h2, afterT]; omega
    by_cases h3 : m.kind = 3
    · simp only [if_neg h1, if_neg h2, if_pos h3, untilT]; omega
    by_cases h4 : m.kind = 4
    · simp only [if_neg h1, if_neg h2, if_neg h3, if_pos h4, untilT]; omega
    by_cases h5 : m.kind = 5
    · simp only [if_neg h1, if_neg h2, if_neg h3, if_neg h4, if_pos h5, afterT]; exact ⟨fun _ => .inl trivial, fun _ => ⟨hn, by omega⟩⟩
    simp only [if_neg h1, if_neg h2, if_neg h3, if_neg h4, if_neg h5, befT, this, iff_false]
    simp only [Bool.false_eq_true, if_false]
    omega
  | some d =>
    have hd := hr d rfl
    show _ ↔ (if m.kind = 1 then m.lo ≤ n + d ∧ n + d ≤ m.hi else if m.kind = 2 then m.lo < n + d else if m.kind = 3 then n + d ≤ m.hi
      else if m.kind = 4 then n + d ≠ N ∧ m.long ≤ fin - (n + d) else if m.kind = 5 then n + d = N ∨ fin - (n + d) < m.long else n + d < whenV N n o)
    by_cases h1 : m.kind = 1
    · simp only [if_pos h1, inT]; omega
    by_cases h2 : m.kind = 2
    · simp only [if_neg h1, if_pos h2, afterT]; omega
    by_cases h3 : m.kind = 3
    · simp only [if_neg h1, if_neg h2, if_pos h3, untilT]; omega
    by_cases h4 : m.kind = 4
    · simp only [if_neg h1, if_neg h2, if_neg h3, if_pos h4, untilT]; omega
    by_cases h5 : m.kind = 5
    · simp only [if_neg h1, if_neg h2, if_neg h3, if_neg h4, if_pos h5, afterT]; omega
    simp only [if_neg h1, if_neg h2, if_neg h3, if_neg h4, if_neg h5]
    cases o with
    | none =>
      show ((if true = true then ((0 : Int), (600 : Int)) else (1, 0)).1 ≤ n ∧ n ≤ (if true = true then ((0 : Int), (600 : Int)) else (1, 0)).2) ↔ n + d < N
      rw [if_pos rfl]
      show 0 ≤ n ∧ n ≤ 600 ↔ _
      omega
    | some e =>
      show ((if decide (d < e) = true then ((0 : Int), (600 : Int)) else (1, 0)).1 ≤ n ∧ n ≤ (if decide (d < e) = true then ((0 : Int), (600 : Int)) else (1, 0)).2) ↔ n + d < n + e
      rcases Int.lt_or_le d e with q | q
      · rw [if_pos (decide_eq_true q)]; show 0 ≤ n ∧ n ≤ 600 ↔ _; omega
      · rw [if_neg (by rw [decide_eq_true_eq]; omega)]; show 1 ≤ n ∧ n ≤ 0 ↔ _; omega
/-- All marks of a list, from the minutes up to the end. -/
def allV (fin : Int) (f : Nat → Tm) (a : Spn) (l : List Mrk) : Spn := l.foldl (fun a m => overV a (saysV m fin (f m.room) (f m.other))) a
theorem allV_iff {fin : Int} {f : Nat → Tm} {n : Int} : ∀ {l : List Mrk} {a : Spn}, inS (allV fin f a l) n ↔ inS a n ∧ ∀ m ∈ l, inS (saysV m fin (f m.room) (f m.other)) n := by
  intro l
  induction l with
  | nil => intro a; exact ⟨fun h => ⟨h, fun m hm => (List.not_mem_nil hm).elim⟩, fun h => h.1⟩
  | cons m l ih =>
    intro a
    show inS (allV fin f (overV a _) l) n ↔ _
    rw [ih, over_iff, List.forall_mem_cons, and_assoc]
theorem allV_le {fin : Int} {f : Nat → Tm} : ∀ {l : List Mrk} {a : Spn}, a.1 ≤ (allV fin f a l).1 ∧ (allV fin f a l).2 ≤ a.2 := by
  intro l
  induction l with
  | nil => intro a; exact ⟨Int.le_refl _, Int.le_refl _⟩
  | cons m l ih =>
    intro a
    have := ih (a := overV a (saysV m fin (f m.room) (f m.other)))
    exact ⟨Int.le_trans (Int.le_max_left _ _) this.1, Int.le_trans this.2 (Int.min_le_left _ _)⟩
/-- The program stops at a mark that leaves nothing: then all marks leave nothing. -/
theorem allV_none {fin : Int} {f : Nat → Tm} {l : List Mrk} {a : Spn} (h : a.2 < a.1) : (allV fin f a l).2 < (allV fin f a l).1 := by
  have := allV_le (fin := fin) (f := f) (l := l) (a := a); omega
theorem all_wind {N : Int} {fin : Int} (hf : fin ≤ 600) {f : Nat → Tm} (hr : ∀ x c, f x = some c → c < N) : ∀ {l : List Mrk} {a : Spn}, a.2 ≤ fin →
    allV fin f a l = l.foldl (fun a m => overV a (windV N m fin (asB N (f m.room)) (asB N (f m.other)))) a := by
  intro l
  induction l with
  | nil => intro a _; rfl
  | cons m l ih =>
    intro a ha
    show allV fin f (overV a _) l = List.foldl _ (overV a _) l
    rw [← says_wind hf (hr _) (hr _) ha]
    exact ih (Int.le_trans (Int.min_le_left _ _) ha)
end Go.Proofs.YtjoagmjijbfjkaaGreatDoor
/-
  WHEN THE FIRE COMES, as the laws work it out: plain theory.
-/
namespace Go.Proofs.YtjoagmjijbfjkaaGreatDoor
open Go Go.Am
/-- One side of a gate. -/
def sideC (N : Int) (d : Row) (a b : Nat) (w : Int) : Row := if d a ≠ N then fun x => if x = b then min (d b) (d a + w) else d x else d
def stepC (N : Int) (d : Row) (e : Edg) : Row := sideC N (sideC N d e.1 e.2.1 e.2.2) e.2.1 e.1 e.2.2
def roundC (N : Int) (E : List Edg) (d : Row) : Row := E.foldl (stepC N) d
def comeV (N : Int) (E : List Edg) : Nat → Row → Row
  | 0, d => d
  | k + 1, d => roundC N E (comeV N E k d)
theorem sideC_le (N : Int) (d : Row) (a b : Nat) (w : Int) (x : Nat) : sideC N d a b w x ≤ d x := by
  unfold sideC
  split
  · show (if x = b then _ else _) ≤ _
    split
    · rename_i h; subst h; exact Int.min_le_left _ _
    · exact Int.le_refl _
  · exact Int.le_refl _
theorem stepC_le (N : Int) (d : Row) (e : Edg) (x : Nat) : stepC N d e x ≤ d x :=
  Int.le_trans (sideC_le N _ e.2.1 e.1 e.2.2 x) (sideC_le N d e.1 e.2.1 e.2.2 x)
theorem roundC_le (N : Int) : ∀ (E : List Edg) (d : Row) (x : Nat), roundC N E d x ≤ d x := by
  intro E
  induction E with
  | nil => intro d x; exact Int.le_refl _
  | cons e E ih => intro d x; exact Int.le_trans (ih (stepC N d e) x) (stepC_le N d e x)
theorem sideC_new {N : Int} {d : Row} {a b : Nat} {w : Int} (h : d a ≠ N) : sideC N d a b w b ≤ d a + w := by
  unfold sideC
  rw [if_pos h]
  show (if b = b then min (d b) (d a + w) else _) ≤ _
  rw [if_pos rfl]
  exact Int.min_le_right _ _
theorem stepC_new {N : Int} {d : Row} {e : Edg} : (d e.1 < N → stepC N d e e.2.1 ≤ d e.1 + e.2.2) ∧ (d e.2.1 < N → stepC N d e e.1 ≤ d e.2.1 + e.2.2) := by
  refine ⟨fun h => ?_, fun h => ?_⟩
  · exact Int.le_trans (sideC_le N _ _ _ _ _) (sideC_new (by omega))
  · have h2 := sideC_le N d e.1 e.2.1 e.2.2 e.2.1
    have := sideC_new (N := N) (d := sideC N d e.1 e.2.1 e.2.2) (a := e.2.1) (b := e.1) (w := e.2.2) (by omega)
    unfold stepC
    omega
theorem roundC_new {N : Int} : ∀ {E : List Edg} {d0 d : Row} {a b : Nat} {w : Int}, (∀ x, d x ≤ d0 x) → d0 b < N → St1 E a b w → roundC N E d a ≤ d0 b + w := by
  intro E
  induction E with
  | nil => intro d0 d a b w _ _ h; rcases h with h | h <;> cases h
  | cons e E ih =>
    intro d0 d a b w hd hN h
    have hd2 : ∀ x, stepC N d e x ≤ d0 x := fun x => Int.le_trans (stepC_le N d e x) (hd x)
    have hb := hd b
    rcases h with h | h
    · rcases List.mem_cons.1 h with rfl | h
      · refine Int.le_trans (roundC_le N E _ a) ?_
        have := (stepC_new (N := N) (d := d) (e := (a, b, w))).2 (by show d b < N; omega)
        have : stepC N d (a, b, w) a ≤ d b + w := this
        omega
      · exact ih hd2 hN (.inl h)
    · rcases List.mem_cons.1 h with rfl | h
      · refine Int.le_trans (roundC_le N E _ a) ?_
        have := (stepC_new (N := N) (d := d) (e := (b, a, w))).1 (by show d b < N; omega)
        have : stepC N d (b, a, w) a ≤ d b + w := this
        omega
      · exact ih hd2 hN (.inr h)
/-- From minute n on, by ways that take less than never. -/
theorem come_le {E : List Edg} (hE : ∀ a b w, St1 E a b w → 0 ≤ w) {N n : Int} {r : Nat} {d : Row} (h0 : d r ≤ n) :
    ∀ {l : List Nat} {c : Int}, Pth E r l c → n + c < N → ∀ {a m}, l = a :: m → ∀ k, m.length ≤ k → comeV N E k d a ≤ n + c := by
  intro l c h
  induction h with
  | one =>
    intro _ a m e k _
    cases e
    rw [Int.add_zero]
    induction k with
    | zero => exact h0
    | succ k ih => exact Int.le_trans (roundC_le N E _ _) (ih (Nat.zero_le _))
  | @cons a x l w c s q ih =>
    intro hN a2 m e k hk
    cases e
    have hw := hE _ _ _ s
    cases k with
    | zero => exact absurd hk (Nat.not_succ_le_zero _)
    | succ k =>
      have h1 := ih (by omega) rfl k (by simpa using hk)
      have h2 := roundC_new (N := N) (E := E) (d0 := comeV N E k d) (d := comeV N E k d) (fun _ => Int.le_refl _) (by omega) s
      show roundC N E (comeV N E k d) a ≤ _
      omega
def sndC (E : List Edg) (N n : Int) (r : Nat) (d : Row) : Prop := ∀ x, d x ≤ N ∧ (d x < N → Way E (fun _ => True) x r (d x - n))
theorem sideC_snd {E : List Edg} (_hE : ∀ a b w, St1 E a b w → 0 ≤ w) {N n : Int} {r : Nat} {d : Row} {a b : Nat} {w : Int} (s : St1 E b a w) (h : sndC E N n r d) : sndC E N n r (sideC N d a b w) := by
  intro x
  refine ⟨Int.le_trans (sideC_le N d a b w x) (h x).1, ?_⟩
  unfold sideC
  split
  · rename_i ha
    show (if x = b then min (d b) (d a + w) else d x) < N → Way E _ x r ((if x = b then min (d b) (d a + w) else d x) - n)
    split
    · rename_i hx
      subst hx
      intro hlt
      rcases Int.lt_or_le (d a + w) (d x) with q | q
      · rw [Int.min_eq_right (Int.le_of_lt q)] at hlt ⊢
        have e : d a + w - n = w + (d a - n) := by omega
        rw [e]
        exact .cons s trivial ((h a).2 (by have := (h a).1; omega))
      · rw [Int.min_eq_left q] at hlt ⊢
        exact (h x).2 hlt
    · exact (h x).2
  · exact (h x).2
theorem roundC_snd {E : List Edg} (hE : ∀ a b w, St1 E a b w → 0 ≤ w) {N n : Int} {r : Nat} : ∀ {L : List Edg} {d : Row}, (∀ e ∈ L, e ∈ E) → sndC E N n r d → sndC E N n r (roundC N L d) := by
  intro L
  induction L with
  | nil => intro d _ h; exact h
  | cons e L ih =>
    intro d hL h
    have he := hL e List.mem_cons_self
    exact ih (fun q hq => hL q (List.mem_cons_of_mem _ hq)) (sideC_snd hE (.inl he) (sideC_snd hE (.inr he) h))
theorem come_snd {E : List Edg} (hE : ∀ a b w, St1 E a b w → 0 ≤ w) {N n : Int} {r : Nat} {d : Row} (h : sndC E N n r d) : ∀ k, sndC E N n r (comeV N E k d) := by
  intro k
  induction k with
  | zero => exact h
  | succ k ih => exact roundC_snd hE (fun _ h => h) ih
theorem Way.rev {E : List Edg} {a b : Nat} {c : Int} (q : Way E (fun _ => True) a b c) : Way E (fun _ => True) b a c := by
  induction q with
  | none a => exact .none a
  | one s => exact .one s.symm
  | cons s _ _ ih => rw [Int.add_comm]; exact ih.trans (.one s.symm)
/-- Floyd's table and the laws' minutes say the same. -/
theorem floyd_come {E : List Edg} (hE : ∀ a b w, St1 E a b w → 0 ≤ w) {m0 : Nat} (hn : ∀ a b w, St1 E a b w → a < m0 ∧ b < m0)
    {l : List (Nat × Nat)} (hl : ∀ a b, a < m0 → b < m0 → (a, b) ∈ l) (hl2 : ∀ p ∈ l, p.1 < m0 ∧ p.2 < m0)
    {F : Tab} (h0 : ∀ a, a < m0 → leN (F a a) 0) (h1 : ∀ a b w, St1 E a b w → leN (F a b) w) (hs : sndN E m0 F)
    {r : Nat} (hr : r < m0) {N n : Int} {d : Row} (hd0 : d r ≤ n) (hds : sndC E N n r d)
    (hN : ∀ a m c, Pth E r (a :: m) c → (a :: m).Nodup → n + c < N) {x : Nat} (hx : x < m0) :
    comeV N E m0 d x = whenV N n (floydV l m0 F r x) := by
  have fb : ∀ c, floydV l m0 F r x = some c → comeV N E m0 d x ≤ n + c ∧ comeV N E m0 d x < N := by
    intro c hc
    have w := (floyd_snd hl2 hs m0 (Nat.le_refl _) r x c hr hx hc).rev
    obtain ⟨m, e, p1, p2, p3⟩ := w.simple hE
    have len := nodup_len p3 (p1.inN hn hr)
    have lt := hN _ _ _ p1 p3
    have := come_le hE hd0 p1 lt rfl m0 (by simp only [List.length_cons] at len; omega)
    exact ⟨by omega, by omega⟩
  have bf : comeV N E m0 d x < N → leN (floydV l m0 F r x) (comeV N E m0 d x - n) := by
    intro h
    have w := ((come_snd hE hds m0 x).2 h).rev
    exact floyd_le hE hl h0 h1 m0 (Nat.le_refl _) r x _ hr hx (w.inN hn)
  have top := (come_snd hE hds m0 x).1
  cases hf : floydV l m0 F r x with
  | none =>
    show comeV N E m0 d x = N
    rcases Int.lt_or_le (comeV N E m0 d x) N with h | h
    · obtain ⟨y, hy, _⟩ := bf h
      rw [hf] at hy; cases hy
    · omega
  | some c =>
    show comeV N E m0 d x = n + c
    obtain ⟨hc, hlt⟩ := fb c hf
    obtain ⟨y, hy, hy2⟩ := bf hlt
    rw [hf] at hy
    have : c = y := Option.some.inj hy
    omega
end Go.Proofs.YtjoagmjijbfjkaaGreatDoor
/-
  WHERE FLOYD'S TABLE BEGINS, and all three as one: plain theory.
-/
namespace Go.Proofs.YtjoagmjijbfjkaaGreatDoor
open Go Go.Am
def gateF (F : Tab) (e : Edg) : Tab := setT (setT F e.1 e.2.1 (soonT (F e.1 e.2.1) (some e.2.2))) e.2.1 e.1 (soonT (F e.1 e.2.1) (some e.2.2))
/-- Where the program's table begins: no ways between two of the n rooms. -/
def noneF (n : Nat) : Tab := fun a b => if a < n ∧ b < n ∧ a ≠ b then none else some 0
def baseF (n : Nat) (E : List Edg) : Tab := E.foldl gateF (noneF n)
/-- The program's table of rooms below n. -/
def farV (E : List Edg) (l : List (Nat × Nat)) (n : Nat) : Tab := floydV l n (baseF n E)
def symF (F : Tab) : Prop := ∀ a b, F a b = F b a
theorem gateF_at {F : Tab} (h : symF F) (e : Edg) (a b : Nat) :
    gateF F e a b = if (a = e.1 ∧ b = e.2.1) ∨ (a = e.2.1 ∧ b = e.1) then soonT (F a b) (some e.2.2) else F a b := by
  unfold gateF setT
  by_cases h1 : a = e.2.1 ∧ b = e.1
  · rw [if_pos h1, if_pos (.inr h1), h1.1, h1.2, h e.2.1 e.1]
  · rw [if_neg h1]
    by_cases h2 : a = e.1 ∧ b = e.2.1
    · rw [if_pos h2, if_pos (.inl h2), h2.1, h2.2]
    · rw [if_neg h2, if_neg (fun q => q.elim h2 h1)]
theorem gateF_sym {F : Tab} (h : symF F) (e : Edg) : symF (gateF F e) := by
  intro a b
  rw [gateF_at h, gateF_at h, h b a]
  by_cases q : (a = e.1 ∧ b = e.2.1) ∨ (a = e.2.1 ∧ b = e.1)
  · rw [if_pos q, if_pos (q.elim (fun q => .inr ⟨q.2, q.1⟩) (fun q => .inl ⟨q.2, q.1⟩))]
  · rw [if_neg q, if_neg (fun p => q (p.elim (fun p => .inr ⟨p.2, p.1⟩) (fun p => .inl ⟨p.2, p.1⟩)))]
theorem gateF_le {F : Tab} (h : symF F) {e : Edg} {a b : Nat} {c : Int} (q : leN (F a b) c) : leN (gateF F e a b) c := by
  rw [gateF_at h]; split
  · exact soon_l q
  · exact q
theorem gates_le : ∀ (L : List Edg) (F : Tab), symF F → (∀ a b c, leN (F a b) c → leN (L.foldl gateF F a b) c) ∧ symF (L.foldl gateF F) ∧ ∀ a b w, St1 L a b w → leN (L.foldl gateF F a b) w := by
  intro L
  induction L with
  | nil => intro F h; exact ⟨fun _ _ _ q => q, h, fun a b w q => by rcases q with q | q <;> cases q⟩
  | cons e L ih =>
    intro F h
    obtain ⟨i1, i2, i3⟩ := ih (gateF F e) (gateF_sym h e)
    refine ⟨fun a b c q => i1 a b c (gateF_le h q), i2, fun a b w q => ?_⟩
    have hit : ∀ a b, ((a = e.1 ∧ b = e.2.1) ∨ (a = e.2.1 ∧ b = e.1)) → leN (gateF F e a b) e.2.2 := by
      intro a b q
      rw [gateF_at h, if_pos q]
      exact soon_r ⟨_, rfl, Int.le_refl _⟩
    rcases q with q | q
    · rcases List.mem_cons.1 q with rfl | q
      · exact i1 _ _ _ (hit a b (.inl ⟨rfl, rfl⟩))
      · exact i3 a b w (.inl q)
    · rcases List.mem_cons.1 q with rfl | q
      · exact i1 _ _ _ (hit a b (.inr ⟨rfl, rfl⟩))
      · exact i3 a b w (.inr q)
theorem gates_snd {E : List Edg} {n : Nat} : ∀ (L : List Edg) (F : Tab), (∀ e ∈ L, e ∈ E) → symF F → sndN E n F → sndN E n (L.foldl gateF F) := by
  intro L
  induction L with
  | nil => intro F _ _ h; exact h
  | cons e L ih =>
    intro F hL hs h
    refine ih (gateF F e) (fun q hq => hL q (List.mem_cons_of_mem _ hq)) (gateF_sym hs e) ?_
    intro a b c ha hb q
    rw [gateF_at hs] at q
    split at q
    · rename_i ab
      rcases soon_eq (F a b) (some e.2.2) with r | r
      · rw [r] at q; exact h a b c ha hb q
      · rw [r] at q
        have : e.2.2 = c := Option.some.inj q
        subst this
        have he := hL e List.mem_cons_self
        rcases ab with ⟨rfl, rfl⟩ | ⟨rfl, rfl⟩
        · exact .one (.inl he)
        · exact .one (.inr he)
    · exact h a b c ha hb q
theorem noneF_sym (n : Nat) : symF (noneF n) := by
  intro a b
  unfold noneF
  by_cases h : a < n ∧ b < n ∧ a ≠ b
  · rw [if_pos h, if_pos ⟨h.2.1, h.1, fun q => h.2.2 q.symm⟩]
  · rw [if_neg h, if_neg (fun q => h ⟨q.2.1, q.1, fun r => q.2.2 r.symm⟩)]
theorem noneF_snd (E : List Edg) (n : Nat) : sndN E n (noneF n) := by
  intro a b c ha hb q
  unfold noneF at q
  split at q
  · cases q
  · rename_i h
    have e : a = b := Classical.byContradiction fun r => h ⟨ha, hb, r⟩
    subst e
    have : (0 : Int) = c := Option.some.inj q
    subst this
    exact .none a
/-- What is asked of the gates of a valid scene. -/
structure GOk (n : Nat) (E : List Edg) : Prop where
  lo : ∀ a b w, St1 E a b w → 0 ≤ w
  hi : ∀ a b w, St1 E a b w → w ≤ 60
  room : ∀ a b w, St1 E a b w → a < n ∧ b < n
  ne : ∀ a b w, St1 E a b w → a ≠ b
theorem base_ok {n : Nat} (E : List Edg) : (∀ a, a < n → leN (baseF n E a a) 0) ∧ (∀ a b w, St1 E a b w → leN (baseF n E a b) w) ∧ sndN E n (baseF n E) := by
  obtain ⟨h1, _, h3⟩ := gates_le E (noneF n) (noneF_sym n)
  refine ⟨fun a _ => h1 a a 0 ⟨0, by unfold noneF; rw [if_neg (fun h => h.2.2 rfl)], Int.le_refl _⟩, h3, gates_snd E (noneF n) (fun _ h => h) (noneF_sym n) (noneF_snd E n)⟩
/-- All pairs of rooms. -/
def pairsOf (n : Nat) : List (Nat × Nat) := (List.range n).flatMap fun a => (List.range n).map fun b => (a, b)
theorem pairs_mem {n a b : Nat} : (a, b) ∈ pairsOf n ↔ a < n ∧ b < n := by
  unfold pairsOf
  constructor
  · intro h
    obtain ⟨x, hx, h⟩ := List.mem_flatMap.1 h
    obtain ⟨y, hy, h⟩ := List.mem_map.1 h
    cases h
    exact ⟨List.mem_range.1 hx, List.mem_range.1 hy⟩
  · rintro ⟨ha, hb⟩
    exact List.mem_flatMap.2 ⟨a, List.mem_range.2 ha, List.mem_map.2 ⟨b, List.mem_range.2 hb, rfl⟩⟩
theorem simple_le {n : Nat} {E : List Edg} (h : GOk n E) {r : Nat} (hr : r < n) {a : Nat} {m : List Nat} {c : Int} (p : Pth E r (a :: m) c) (q : (a :: m).Nodup) : c ≤ 60 * n := by
  have h1 := p.bound h.hi rfl
  have h2 := nodup_len q (p.inN h.room hr)
  simp only [List.length_cons] at h2
  omega
/-- The reference's row, from nothing but the room. -/
theorem far_bell {n : Nat} {E : List Edg} (h : GOk n E) {r x : Nat} (hr : r < n) (hx : x < n) {N : Int} (hN : 60 * (n : Int) < N) :
    bellV E n (fun y => if y = r then 0 else N) x = asB N (farV E (pairsOf n) n r x) := by
  obtain ⟨b1, b2, b3⟩ := base_ok (n := n) E
  refine floyd_bell h.lo h.room h.ne (fun a b ha hb => pairs_mem.2 ⟨ha, hb⟩) (fun p hp => (pairs_mem (a := p.1) (b := p.2)).1 hp) b1 b2 b3 hr (by show (if r = r then (0 : Int) else N) ≤ 0; rw [if_pos rfl]; exact Int.le_refl _)
    (fun y => ?_) (fun a m c p q => by have := simple_le h hr p q; omega) hx
  show (if y = r then (0 : Int) else N) ≤ N ∧ ((if y = r then (0 : Int) else N) < N → Way E _ y r (if y = r then (0 : Int) else N))
  by_cases e : y = r
  · rw [if_pos e]; subst e; exact ⟨by omega, fun _ => .none y⟩
  · rw [if_neg e]; exact ⟨Int.le_refl _, fun q => absurd q (Int.lt_irrefl _)⟩
/-- The laws' minutes. -/
theorem far_come {n : Nat} {E : List Edg} (h : GOk n E) {r x : Nat} (hr : r < n) (hx : x < n) {N t : Int} (hN : t + 60 * (n : Int) < N) :
    comeV N E n (fun y => if y = r then t else N) x = whenV N t (farV E (pairsOf n) n r x) := by
  obtain ⟨b1, b2, b3⟩ := base_ok (n := n) E
  refine floyd_come h.lo h.room (fun a b ha hb => pairs_mem.2 ⟨ha, hb⟩) (fun p hp => (pairs_mem (a := p.1) (b := p.2)).1 hp) b1 b2 b3 hr (by show (if r = r then t else N) ≤ t; rw [if_pos rfl]; exact Int.le_refl _)
    (fun y => ?_) (fun a m c p q => by have := simple_le h hr p q; omega) hx
  show (if y = r then t else N) ≤ N ∧ ((if y = r then t else N) < N → Way E _ y r ((if y = r then t else N) - t))
  by_cases e : y = r
  · rw [if_pos e]; subst e; refine ⟨by omega, fun _ => ?_⟩; rw [Int.sub_self]; exact .none y
  · rw [if_neg e]; exact ⟨Int.le_refl _, fun q => absurd q (Int.lt_irrefl _)⟩
/-- No time of the table is longer. -/
theorem far_lt {n : Nat} {E : List Edg} (h : GOk n E) {r x : Nat} (hr : r < n) (hx : x < n) {c : Int} (e : farV E (pairsOf n) n r x = some c) : 0 ≤ c ∧ c ≤ 60 * n := by
  obtain ⟨b1, b2, b3⟩ := base_ok (n := n) E
  have w := (floyd_snd (fun p hp => (pairs_mem (a := p.1) (b := p.2)).1 hp) b3 n (Nat.le_refl _) r x c hr hx e)
  have key : ∀ {S : Nat → Prop} {a b : Nat} {c : Int}, Way E S a b c → 0 ≤ c := by
    intro S a b c q
    induction q with
    | none a => exact Int.le_refl _
    | one s => exact h.lo _ _ _ s
    | cons s _ _ ih => have := h.lo _ _ _ s; omega
  refine ⟨key w, ?_⟩
  obtain ⟨m, d, p1, p2, p3⟩ := w.rev.simple h.lo
  have hd := simple_le h hr p1 p3
  obtain ⟨y, hy, hy2⟩ := floyd_le h.lo (fun a b ha hb => pairs_mem.2 ⟨ha, hb⟩) b1 b2 n (Nat.le_refl _) r x d hr hx ((p1.way rfl).rev.inN h.room)
  have : c = y := Option.some.inj (e.symm.trans hy)
  omega
end Go.Proofs.YtjoagmjijbfjkaaGreatDoor
/-
  LISTS OF DELAYS IN THEIR ORDER: plain theory.
-/
namespace Go.Proofs.YtjoagmjijbfjkaaGreatDoor
open Go Go.Am
/-- The first list. -/
def leastD (g : List Spn) : List Int := g.map (·.1)
/-- The next list. -/
def nextD : List Spn → List Int → Option (List Int)
  | s :: g, d :: ds => match nextD g ds with
    | some e => some (d :: e)
    | none => if d < s.2 then some ((d + 1) :: leastD g) else none
  | _, _ => none
/-- n + 1 blocks, from delay d on. -/
def blockD (L : List (List Int)) (d : Int) : Nat → List (List Int)
  | 0 => L.map (d :: ·)
  | n + 1 => L.map (d :: ·) ++ blockD L (d + 1) n
def allD : List Spn → List (List Int)
  | [] => [[]]
  | s :: g => blockD (allD g) s.1 (s.2 - s.1).toNat
/-- Each list is followed by the next one, the last one by none. -/
def runD (nx : List Int → Option (List Int)) : List (List Int) → Prop
  | [] => False
  | [a] => nx a = none
  | a :: b :: l => nx a = some b ∧ runD nx (b :: l)
theorem run_last {g : List Spn} {s : Spn} {d : Int} (h : ¬ d < s.2) : ∀ {L : List (List Int)}, runD (nextD g) L → runD (nextD (s :: g)) (L.map (d :: ·)) := by
  intro L
  induction L with
  | nil => exact id
  | cons a L ih =>
    cases L with
    | nil =>
      intro q
      have q : nextD g a = none := q
      show nextD (s :: g) (d :: a) = none
      unfold nextD; rw [q]
      exact if_neg h
    | cons b L =>
      intro q
      obtain ⟨q1, q2⟩ := q
      refine ⟨?_, ih q2⟩
      show nextD (s :: g) (d :: a) = some (d :: b)
      unfold nextD; rw [q1]
theorem run_more {g : List Spn} {s : Spn} {d : Int} (h : d < s.2) {M : List (List Int)} (hM : runD (nextD (s :: g)) (((d + 1) :: leastD g) :: M)) :
    ∀ {L : List (List Int)}, runD (nextD g) L → runD (nextD (s :: g)) (L.map (d :: ·) ++ ((d + 1) :: leastD g) :: M) := by
  intro L
  induction L with
  | nil => exact False.elim
  | cons a L ih =>
    cases L with
    | nil =>
      intro q
      have q : nextD g a = none := q
      refine ⟨?_, hM⟩
      show nextD (s :: g) (d :: a) = _
      unfold nextD; rw [q]
      exact if_pos h
    | cons b L =>
      intro q
      obtain ⟨q1, q2⟩ := q
      refine ⟨?_, ih q2⟩
      show nextD (s :: g) (d :: a) = some (d :: b)
      unfold nextD; rw [q1]
theorem block_run {g : List Spn} {s : Spn} {L t : List (List Int)} (hL : runD (nextD g) L) (e : L = leastD g :: t) :
    ∀ (n : Nat) (d : Int), s.2 = d + n → (∃ u, blockD L d n = (d :: leastD g) :: u) ∧ runD (nextD (s :: g)) (blockD L d n) := by
  intro n
  induction n with
  | zero =>
    intro d h
    refine ⟨⟨t.map (d :: ·), by rw [e]; rfl⟩, run_last (by omega) hL⟩
  | succ n ih =>
    intro d h
    obtain ⟨⟨u, hu⟩, q⟩ := ih (d + 1) (by omega)
    refine ⟨⟨t.map (d :: ·) ++ blockD L (d + 1) n, by rw [e]; rfl⟩, ?_⟩
    show runD _ (L.map (d :: ·) ++ blockD L (d + 1) n)
    rw [hu] at q ⊢
    exact run_more (by omega) q hL
theorem all_run : ∀ {g : List Spn}, (∀ s ∈ g, s.1 ≤ s.2) → (∃ t, allD g = leastD g :: t) ∧ runD (nextD g) (allD g) := by
  intro g
  induction g with
  | nil => intro _; exact ⟨⟨[], rfl⟩, rfl⟩
  | cons s g ih =>
    intro h
    obtain ⟨⟨t, e⟩, q⟩ := ih (fun x hx => h x (List.mem_cons_of_mem _ hx))
    have hs := h s List.mem_cons_self
    exact block_run q e (s.2 - s.1).toNat s.1 (by omega)
/-- Delays that there can be. -/
def areD : List Spn → List Int → Prop
  | [], [] => True
  | s :: g, d :: ds => inS s d ∧ areD g ds
  | _, _ => False
theorem block_mem {L : List (List Int)} {ds : List Int} : ∀ {n : Nat} {d : Int}, ds ∈ blockD L d n ↔ ∃ x l, ds = x :: l ∧ d ≤ x ∧ x ≤ d + n ∧ l ∈ L := by
  intro n
  induction n with
  | zero =>
    intro d
    show ds ∈ L.map (d :: ·) ↔ _
    rw [List.mem_map]
    constructor
    · rintro ⟨l, hl, rfl⟩; exact ⟨d, l, rfl, Int.le_refl _, by omega, hl⟩
    · rintro ⟨x, l, rfl, h1, h2, h3⟩
      have : x = d := by omega
      subst this; exact ⟨l, h3, rfl⟩
  | succ n ih =>
    intro d
    show ds ∈ L.map (d :: ·) ++ blockD L (d + 1) n ↔ _
    rw [List.mem_append, List.mem_map, ih]
    constructor
    · rintro (⟨l, hl, rfl⟩ | ⟨x, l, rfl, h1, h2, h3⟩)
      · exact ⟨d, l, rfl, Int.le_refl _, by omega, hl⟩
      · exact ⟨x, l, rfl, by omega, by omega, h3⟩
    · rintro ⟨x, l, rfl, h1, h2, h3⟩
      by_cases h : x = d
      · subst h; exact .inl ⟨l, h3, rfl⟩
      · exact .inr ⟨x, l, rfl, by omega, by omega, h3⟩
theorem all_mem : ∀ {g : List Spn} {ds : List Int}, (∀ s ∈ g, s.1 ≤ s.2) → (ds ∈ allD g ↔ areD g ds) := by
  intro g
  induction g with
  | nil =>
    intro ds _
    show ds ∈ [[]] ↔ _
    rw [List.mem_singleton]
    cases ds with
    | nil => exact ⟨fun _ => trivial, fun _ => rfl⟩
    | cons d ds => exact ⟨fun h => (List.cons_ne_nil _ _ h).elim, False.elim⟩
  | cons s g ih =>
    intro ds h
    have hs := h s List.mem_cons_self
    show ds ∈ blockD (allD g) s.1 (s.2 - s.1).toNat ↔ _
    rw [block_mem]
    cases ds with
    | nil => exact ⟨fun ⟨_, _, e, _⟩ => (List.cons_ne_nil _ _ e.symm).elim, False.elim⟩
    | cons d ds =>
      constructor
      · rintro ⟨x, l, e, h1, h2, h3⟩
        cases e
        exact ⟨⟨h1, by omega⟩, (ih fun y hy => h y (List.mem_cons_of_mem _ hy)).1 h3⟩
      · rintro ⟨h1, h2⟩
        have a1 := h1.1; have a2 := h1.2
        exact ⟨d, ds, rfl, h1.1, by omega, (ih fun y hy => h y (List.mem_cons_of_mem _ hy)).2 h2⟩
/-- The first delay that differs is less. -/
def befD : List Int → List Int → Prop
  | a :: l, b :: m => a < b ∨ a = b ∧ befD l m
  | _, _ => False
theorem block_ord {L : List (List Int)} (h : L.Pairwise befD) : ∀ {n : Nat} {d : Int}, (blockD L d n).Pairwise befD := by
  have one : ∀ d : Int, (L.map (d :: ·)).Pairwise befD := by
    intro d
    rw [List.pairwise_map]
    exact h.imp fun q => .inr ⟨rfl, q⟩
  intro n
  induction n with
  | zero => intro d; exact one d
  | succ n ih =>
    intro d
    show (L.map (d :: ·) ++ blockD L (d + 1) n).Pairwise befD
    rw [List.pairwise_append]
    refine ⟨one d, ih, fun a ha b hb => ?_⟩
    obtain ⟨l, _, rfl⟩ := List.mem_map.1 ha
    obtain ⟨x, m, rfl, h1, _, _⟩ := block_mem.1 hb
    exact .inl (by omega)
theorem all_ord : ∀ g : List Spn, (allD g).Pairwise befD := by
  intro g
  induction g with
  | nil => exact List.pairwise_singleton _ _
  | cons s g ih => exact block_ord ih
/-- The first one of which something is so. -/
theorem first_ord {g : List Spn} {p : List Int → Bool} {ds : List Int} (h : (allD g).find? p = some ds) : ds ∈ allD g ∧ p ds = true ∧ ∀ e ∈ allD g, p e = true → e = ds ∨ befD ds e := by
  obtain ⟨hp, l, m, e, hl⟩ := List.find?_eq_some_iff_append.1 h
  have ho := all_ord g
  rw [e] at ho ⊢
  refine ⟨List.mem_append_right _ List.mem_cons_self, hp, fun x hx hpx => ?_⟩
  rcases List.mem_append.1 hx with hx | hx
  · have := hl x hx
    rw [hpx] at this; cases this
  · rcases List.mem_cons.1 hx with rfl | hx
    · exact .inl rfl
    · exact .inr ((List.pairwise_cons.1 (List.pairwise_append.1 ho).2.1).1 x hx)
end Go.Proofs.YtjoagmjijbfjkaaGreatDoor
/-
  THE NEXT LIST OF DELAYS, AS IT IS MADE IN PLACE: plain theory.
-/
namespace Go.Proofs.YtjoagmjijbfjkaaGreatDoor
open Go Go.Am
theorem next_take : ∀ {i : Nat} {g : List Spn} {ds e : List Int}, i ≤ g.length → i ≤ ds.length → nextD (g.drop i) (ds.drop i) = some e → nextD g ds = some (ds.take i ++ e) := by
  intro i
  induction i with
  | zero => intro g ds e _ _ h; exact h
  | succ i ih =>
    intro g ds e h1 h2 h
    cases g with
    | nil => exact absurd h1 (Nat.not_succ_le_zero _)
    | cons s g =>
      cases ds with
      | nil => exact absurd h2 (Nat.not_succ_le_zero _)
      | cons d ds =>
        have q := ih (Nat.le_of_succ_le_succ h1) (Nat.le_of_succ_le_succ h2) h
        show nextD (s :: g) (d :: ds) = _
        unfold nextD; rw [q]; rfl
/-- All from i on were the last ones: what stands at i - 1? -/
theorem next_at {g : List Spn} {ds : List Int} (hl : ds.length = g.length) {i : Nat} (hi : i < g.length) (h : nextD (g.drop (i + 1)) (ds.drop (i + 1)) = none) :
    (ds[i]! < (g[i]!).2 → nextD g ds = some (ds.take i ++ (ds[i]! + 1) :: (leastD g).drop (i + 1))) ∧
    (¬ ds[i]! < (g[i]!).2 → nextD (g.drop i) (ds.drop i) = none) := by
  have hi2 : i < ds.length := by omega
  have eg : g.drop i = g[i]! :: g.drop (i + 1) := by rw [List.drop_eq_getElem_cons hi, getElem!_pos g i hi]
  have ed : ds.drop i = ds[i]! :: ds.drop (i + 1) := by rw [List.drop_eq_getElem_cons hi2, getElem!_pos ds i hi2]
  refine ⟨fun q => ?_, fun q => ?_⟩
  · refine next_take (by omega) (by omega) ?_
    rw [eg, ed]
    unfold nextD; rw [h]
    show (if ds[i]! < (g[i]!).2 then some ((ds[i]! + 1) :: leastD (g.drop (i + 1))) else none) = _
    rw [if_pos q]
    unfold leastD
    rw [List.map_drop]
  · rw [eg, ed]
    unfold nextD; rw [h]
    exact if_neg q
theorem next_nil {g : List Spn} {ds : List Int} (hl : ds.length = g.length) : nextD (g.drop g.length) (ds.drop g.length) = none := by
  rw [List.drop_length, ← hl, List.drop_length]; rfl
theorem next_len : ∀ {g : List Spn} {ds e : List Int}, ds.length = g.length → nextD g ds = some e → e.length = g.length := by
  intro g
  induction g with
  | nil => intro ds e _ h; cases ds <;> cases h
  | cons s g ih =>
    intro ds e hl h
    cases ds with
    | nil => cases h
    | cons d ds =>
      unfold nextD at h
      cases q : nextD g ds with
      | some f =>
        rw [q] at h
        cases h
        show f.length + 1 = g.length + 1
        rw [ih (Nat.succ.inj hl) q]
      | none =>
        rw [q] at h
        have h : (if d < s.2 then some ((d + 1) :: leastD g) else none) = some e := h
        split at h
        · cases h
          show (leastD g).length + 1 = g.length + 1
          unfold leastD; rw [List.length_map]
        · cases h
/-- How many lists there are. -/
theorem block_len (L : List (List Int)) : ∀ (n : Nat) (d : Int), (blockD L d n).length = (n + 1) * L.length := by
  intro n
  induction n with
  | zero => intro d; show (L.map _).length = _; rw [List.length_map, Nat.zero_add, Nat.one_mul]
  | succ n ih => intro d; show (L.map _ ++ blockD L (d + 1) n).length = _; rw [List.length_append, List.length_map, ih, Nat.succ_mul (n + 1), Nat.add_comm]
theorem all_len : ∀ {g : List Spn}, (∀ s ∈ g, s.2 ≤ s.1 + 2) → (allD g).length ≤ 3 ^ g.length := by
  intro g
  induction g with
  | nil => intro _; exact Nat.le_refl _
  | cons s g ih =>
    intro h
    have h1 := ih fun x hx => h x (List.mem_cons_of_mem _ hx)
    have hs := h s List.mem_cons_self
    show (blockD (allD g) s.1 (s.2 - s.1).toNat).length ≤ 3 ^ (g.length + 1)
    rw [block_len, Nat.pow_succ, Nat.mul_comm _ 3]
    exact Nat.mul_le_mul (by omega) h1
end Go.Proofs.YtjoagmjijbfjkaaGreatDoor
/-
  THE FEWEST MARKS: the first of sorted sets is the best of all sets, one after the other. Plain theory.
-/
namespace Go.Proofs.YtjoagmjijbfjkaaGreatDoor
open Go Go.Am
/-- A strict order of the sets below n. -/
structure OrdN (n : Nat) (lt : Nat → Nat → Bool) : Prop where
  self : ∀ a, a < n → lt a a = false
  trans : ∀ a b c, a < n → b < n → c < n → lt a b = true → lt b c = true → lt a c = true
  tot : ∀ a b, a < n → b < n → lt a b = false → lt b a = false → a = b
def isMin (n : Nat) (lt : Nat → Nat → Bool) (p : Nat → Bool) (s : Nat) : Prop := s < n ∧ p s = true ∧ ∀ t, t < n → p t = true → lt t s = false
theorem min_one {n : Nat} {lt : Nat → Nat → Bool} (h : OrdN n lt) {p : Nat → Bool} {s t : Nat} (hs : isMin n lt p s) (ht : isMin n lt p t) : s = t :=
  h.tot s t hs.1 ht.1 (ht.2.2 s hs.1 hs.2.1) (hs.2.2 t ht.1 ht.2.1)
/-- The first one of a sorted list of all sets. -/
theorem min_sorted {n : Nat} {lt : Nat → Nat → Bool} (h : OrdN n lt) {p : Nat → Bool} {l : List Nat} (hl : ∀ a, a ∈ l ↔ a < n) (hs : l.Pairwise (fun a b => lt b a = false)) {s : Nat}
    (hf : l.find? p = some s) : isMin n lt p s := by
  obtain ⟨hp, x, y, e, hx⟩ := List.find?_eq_some_iff_append.1 hf
  have hsl : s ∈ l := by rw [e]; exact List.mem_append_right _ List.mem_cons_self
  refine ⟨(hl s).1 hsl, hp, fun t ht hpt => ?_⟩
  have htl := (hl t).2 ht
  rw [e] at htl hs
  rcases List.mem_append.1 htl with q | q
  · have := hx t q
    rw [hpt] at this; cases this
  · rcases List.mem_cons.1 q with rfl | q
    · exact h.self t ht
    · exact (List.pairwise_cons.1 (List.pairwise_append.1 hs).2.1).1 t q
/-- The best of all below k, and one more. -/
def bestN (lt : Nat → Nat → Bool) (p : Nat → Bool) (of : Nat) : Nat → Nat
  | 0 => of
  | k + 1 => if lt k (bestN lt p of k) && p k then k else bestN lt p of k
theorem best_facts {n : Nat} {lt : Nat → Nat → Bool} (h : OrdN n lt) {p : Nat → Bool} {of : Nat} (ho : of < n) (hp : p of = true) :
    ∀ k, k ≤ n → bestN lt p of k < n ∧ p (bestN lt p of k) = true ∧ lt of (bestN lt p of k) = false ∧ ∀ t, t < k → p t = true → lt t (bestN lt p of k) = false := by
  intro k
  induction k with
  | zero => intro _; exact ⟨ho, hp, h.self of ho, fun t ht => absurd ht (Nat.not_lt_zero _)⟩
  | succ k ih =>
    intro hk
    obtain ⟨i1, i2, i3, i4⟩ := ih (by omega)
    unfold bestN
    cases c : (lt k (bestN lt p of k) && p k)
    · rw [if_neg Bool.false_ne_true]
      refine ⟨i1, i2, i3, fun t ht hpt => ?_⟩
      rcases Nat.lt_or_ge t k with q | q
      · exact i4 t q hpt
      · have : t = k := by omega
        subst this
        rw [hpt, Bool.and_true] at c
        exact c
    · rw [if_pos rfl]
      obtain ⟨c1, c2⟩ := Bool.and_eq_true_iff.1 c
      have keep : ∀ t, t < n → lt t (bestN lt p of k) = false → lt t k = false := by
        intro t ht hlt
        cases q : lt t k
        · rfl
        · rw [h.trans t k _ ht (by omega) i1 q c1] at hlt; cases hlt
      refine ⟨by omega, c2, keep of ho i3, fun t ht hpt => ?_⟩
      rcases Nat.lt_or_ge t k with q | q
      · exact keep t (by omega) (i4 t q hpt)
      · have : t = k := by omega
        subst this
        exact h.self t (by omega)
/-- The reference begins with all marks, which are the last set, and asks those before it. -/
theorem best_min {n : Nat} {lt : Nat → Nat → Bool} {p : Nat → Bool} (h : OrdN (n + 1) lt) (hp : p n = true) : isMin (n + 1) lt p (bestN lt p n n) := by
  obtain ⟨h1, h2, h3, h4⟩ := best_facts h (Nat.lt_succ_self n) hp n (by omega)
  refine ⟨h1, h2, fun t ht hpt => ?_⟩
  rcases Nat.lt_or_ge t n with q | q
  · exact h4 t q hpt
  · have : t = n := by omega
    subst this; exact h3
theorem find_best {n : Nat} {lt : Nat → Nat → Bool} {p : Nat → Bool} (h : OrdN (n + 1) lt) (hp : p n = true) {l : List Nat} (hl : ∀ a, a ∈ l ↔ a < n + 1)
    (hs : l.Pairwise (fun a b => lt b a = false)) : l.find? p = some (bestN lt p n n) := by
  cases hf : l.find? p with
  | none =>
    have := List.find?_eq_none.1 hf n ((hl n).2 (Nat.lt_succ_self n))
    exact absurd hp this
  | some s => rw [min_one h (min_sorted h hl hs hf) (best_min h hp)]
end Go.Proofs.YtjoagmjijbfjkaaGreatDoor
/-
  THE ORDER OF SETS OF MARKS: plain theory.
-/
namespace Go.Proofs.YtjoagmjijbfjkaaGreatDoor
open Go Go.Am
def lexD : List Int → List Int → Bool
  | x :: a, y :: b => if x = y then lexD a b else decide (x < y)
  | _, _ => false
def ahdD (a b : List Int) : Bool := if a.length = b.length then lexD a b else decide (a.length < b.length)
theorem lexD_self : ∀ a : List Int, lexD a a = false := by
  intro a
  induction a with
  | nil => rfl
  | cons x a ih => unfold lexD; rw [if_pos rfl]; exact ih
theorem lexD_pre (x y : List Int) : ∀ p : List Int, lexD (p ++ x) (p ++ y) = lexD x y := by
  intro p
  induction p with
  | nil => rfl
  | cons a p ih =>
    have e : lexD (a :: (p ++ x)) (a :: (p ++ y)) = lexD (p ++ x) (p ++ y) := if_pos rfl
    exact e.trans ih
theorem lexD_trans : ∀ {a b c : List Int}, lexD a b = true → lexD b c = true → lexD a c = true := by
  intro a
  induction a with
  | nil => intro b c h; cases b <;> cases h
  | cons x a ih =>
    intro b c h1 h2
    cases b with
    | nil => cases h1
    | cons y b =>
      cases c with
      | nil => cases h2
      | cons z c =>
        unfold lexD at h1 h2 ⊢
        by_cases e1 : x = y
        · rw [if_pos e1] at h1
          by_cases e2 : y = z
          · rw [if_pos e2] at h2
            rw [if_pos (e1.trans e2)]; exact ih h1 h2
          · rw [if_neg e2] at h2
            have := of_decide_eq_true h2
            rw [if_neg (by omega)]; exact decide_eq_true (by omega)
        · rw [if_neg e1] at h1
          have h3 := of_decide_eq_true h1
          by_cases e2 : y = z
          · rw [if_neg (by omega)]; exact decide_eq_true (by omega)
          · rw [if_neg e2] at h2
            have h4 := of_decide_eq_true h2
            rw [if_neg (by omega)]; exact decide_eq_true (by omega)
theorem lexD_tot : ∀ {a b : List Int}, a.length = b.length → lexD a b = false → lexD b a = false → a = b := by
  intro a
  induction a with
  | nil => intro b h _ _; exact (List.eq_nil_of_length_eq_zero h.symm).symm
  | cons x a ih =>
    intro b h h1 h2
    cases b with
    | nil => cases h
    | cons y b =>
      unfold lexD at h1 h2
      by_cases e : x = y
      · subst e
        rw [if_pos rfl] at h1 h2
        rw [ih (by simpa using h) h1 h2]
      · rw [if_neg e] at h1
        rw [if_neg (Ne.symm e)] at h2
        have := of_decide_eq_false h1
        have := of_decide_eq_false h2
        omega
theorem ahdD_self (a : List Int) : ahdD a a = false := by unfold ahdD; rw [if_pos rfl]; exact lexD_self a
theorem ahdD_trans {a b c : List Int} (h1 : ahdD a b = true) (h2 : ahdD b c = true) : ahdD a c = true := by
  unfold ahdD at *
  by_cases e1 : a.length = b.length
  · rw [if_pos e1] at h1
    by_cases e2 : b.length = c.length
    · rw [if_pos e2] at h2
      rw [if_pos (e1.trans e2)]; exact lexD_trans h1 h2
    · rw [if_neg e2] at h2
      rw [if_neg (by omega), e1]; exact h2
  · rw [if_neg e1] at h1
    have h3 := of_decide_eq_true h1
    by_cases e2 : b.length = c.length
    · rw [if_neg (by omega)]; exact decide_eq_true (by omega)
    · rw [if_neg e2] at h2
      have h4 := of_decide_eq_true h2
      rw [if_neg (by omega)]; exact decide_eq_true (by omega)
theorem ahdD_tot {a b : List Int} (h1 : ahdD a b = false) (h2 : ahdD b a = false) : a = b := by
  unfold ahdD at *
  by_cases e : a.length = b.length
  · rw [if_pos e] at h1
    rw [if_pos e.symm] at h2
    exact lexD_tot e h1 h2
  · rw [if_neg e] at h1
    rw [if_neg (Ne.symm e)] at h2
    have := of_decide_eq_false h1
    have := of_decide_eq_false h2
    omega
/-! ### the lowest bit -/
/-- Places of a set of at most eight marks. -/
def posD (s : Nat) : List Nat := (List.range 8).filter fun i => s.testBit i
def popD (s : Nat) : Nat := (List.range 8).countP fun i => s.testBit i
/-- The program's order of sets below 256. -/
def ordD (a b : Nat) : Bool :=
  if popD a ≠ popD b then decide (popD a < popD b)
  else let x := a ^^^ b; let m := x &&& ((256 - x) &&& 255); decide (b &&& m < a &&& m)
def ordL (a b : List Nat) : Bool := ahdD (a.map fun (n : Nat) => (n : Int)) (b.map fun (n : Nat) => (n : Int))
theorem lex_map (f : Nat → Int) : ∀ {a b : List Nat}, (∀ x y, x ∈ a → y ∈ b → (f x < f y ↔ x < y) ∧ (f x = f y ↔ x = y)) → lexD (a.map f) (b.map f) = lexD (a.map fun (n : Nat) => (n : Int)) (b.map fun (n : Nat) => (n : Int)) := by
  intro a
  induction a with
  | nil => intro b _; cases b <;> rfl
  | cons x a ih =>
    intro b h
    cases b with
    | nil => rfl
    | cons y b =>
      obtain ⟨h1, h2⟩ := h x y List.mem_cons_self List.mem_cons_self
      have q := ih (b := b) fun u v hu hv => h u v (List.mem_cons_of_mem _ hu) (List.mem_cons_of_mem _ hv)
      simp only [List.map_cons, lexD]
      by_cases e : x = y
      · subst e; simp [q]
      · have e1 : ¬ f x = f y := fun p => e (h2.1 p)
        have e2 : ¬ (x : Int) = y := fun p => e (Int.ofNat.inj p)
        simp only [e1, e2, if_false]
        by_cases lt : x < y
        · simp [h1.2 lt, lt]
        · have : ¬ f x < f y := fun p => lt (h1.1 p)
          simp [this, lt]
theorem posD_mem {s i : Nat} : i ∈ posD s ↔ i < 8 ∧ s.testBit i = true := by unfold posD; rw [List.mem_filter, List.mem_range]
theorem posD_inj {a b : Nat} (ha : a < 256) (hb : b < 256) (h : posD a = posD b) : a = b := by
  refine Nat.eq_of_testBit_eq fun i => ?_
  by_cases hi : i < 8
  · have := @posD_mem a i
    rw [h, posD_mem] at this
    cases p : a.testBit i <;> cases q : b.testBit i
    · rfl
    · rw [p, q] at this; exact absurd (this.1 ⟨hi, rfl⟩).2 Bool.false_ne_true
    · rw [p, q] at this; exact absurd (this.2 ⟨hi, rfl⟩).2 Bool.false_ne_true
    · rfl
  · have pw : 256 ≤ 2 ^ i := by
      have : 2 ^ 8 ≤ 2 ^ i := Nat.pow_le_pow_right (by decide) (by omega)
      exact this
    rw [Nat.testBit_lt_two_pow (by omega), Nat.testBit_lt_two_pow (by omega)]
theorem ordL_ord : OrdN 256 (fun a b => ordL (posD a) (posD b)) := by
  refine ⟨fun a _ => ahdD_self _, fun a b c _ _ _ h1 h2 => ahdD_trans h1 h2, fun a b ha hb h1 h2 => posD_inj ha hb ?_⟩
  have e := ahdD_tot h1 h2
  exact (List.map_inj_right (f := fun (n : Nat) => (n : Int)) (fun x y h => Int.ofNat.inj h)).1 e
theorem ord_all : ((List.range 256).all fun a => (List.range 256).all fun b => ordD a b == ordL (posD a) (posD b)) = true := by decide +kernel
theorem ord_eq {a b : Nat} (ha : a < 256) (hb : b < 256) : ordD a b = ordL (posD a) (posD b) := by
  have h := List.all_eq_true.1 (List.all_eq_true.1 ord_all a (List.mem_range.2 ha)) b (List.mem_range.2 hb)
  exact eq_of_beq h
theorem ordD_ord : OrdN 256 ordD := by
  have h := ordL_ord
  refine ⟨fun a ha => ?_, fun a b c ha hb hc h1 h2 => ?_, fun a b ha hb h1 h2 => ?_⟩
  · rw [ord_eq ha ha]; exact h.self a ha
  · rw [ord_eq ha hb] at h1; rw [ord_eq hb hc] at h2; rw [ord_eq ha hc]; exact h.trans a b c ha hb hc h1 h2
  · rw [ord_eq ha hb] at h1; rw [ord_eq hb ha] at h2; exact h.tot a b ha hb h1 h2
theorem OrdN.le {n m : Nat} {lt : Nat → Nat → Bool} (h : OrdN m lt) (q : n ≤ m) : OrdN n lt :=
  ⟨fun a ha => h.self a (by omega), fun a b c ha hb hc => h.trans a b c (by omega) (by omega) (by omega), fun a b ha hb => h.tot a b (by omega) (by omega)⟩
end Go.Proofs.YtjoagmjijbfjkaaGreatDoor
/-
  SCENES, AND WHAT THE PROGRAM TELLS OF THEM: plain specifications.
-/
namespace Go.Proofs.YtjoagmjijbfjkaaGreatDoor
open Go Go.Am
structure Gt where
  a : Int
  b : Int
  lo : Int
  hi : Int
structure Mk where
  id : Int
  kd : Fin 256
  room : Int
  other : Int
  lo : Int
  hi : Int
  long : Int
structure Scn where
  rooms : Int
  gates : List Gt
  fin : Int
  marks : List Mk
instance : Inhabited Gt := ⟨⟨0, 0, 0, 0⟩⟩
instance : Inhabited Mk := ⟨⟨0, 0, 0, 0, 0, 0, 0⟩⟩
def encI (x : Int) : List AV := [.int .i64 x]
def encR (r : List Int) : AV := .lst 1 (r.map encI)
def kO (k : Fin 256) : AV := .int .u8 (k.val : Int)
def cGt (g : Gt) : List AV := [.int .i64 g.a, .int .i64 g.b, .int .i64 g.lo, .int .i64 g.hi]
def cMk (m : Mk) : List AV := [.int .i64 m.id, kO m.kd, .int .i64 m.room, .int .i64 m.other, .int .i64 m.lo, .int .i64 m.hi, .int .i64 m.long]
def encGs (l : List Gt) : AV := .lst 4 (l.map cGt)
def encMs (l : List Mk) : AV := .lst 7 (l.map cMk)
def cSc (s : Scn) : List AV := [.int .i64 s.rooms, encGs s.gates, .int .i64 s.fin, encMs s.marks]
def encSc (s : Scn) : AV := .agg (cSc s)
def cSp (s : Spn) : List AV := [.int .i64 s.1, .int .i64 s.2]
def encSp (s : Spn) : AV := .agg (cSp s)
def encSps (l : List Spn) : AV := .lst 2 (l.map cSp)
def cTm (t : Tm) : List AV := [.int .i64 (t.getD 0), .bool t.isNone]
def encTm (t : Tm) : AV := .agg (cTm t)
/-! ### what is valid -/
def inB (lo hi n : Int) : Bool := decide (lo ≤ n ∧ n ≤ hi)
theorem inB_iff {lo hi n : Int} : inB lo hi n = true ↔ lo ≤ n ∧ n ≤ hi := by simp [inB]
/-- Numbers that increase, from one on, up to 9999. -/
def incF (least : Int) : List Int → Bool
  | [] => true
  | x :: l => inB least 9999 x && incF (x + 1) l
def isR (n x : Int) : Bool := inB 0 (n - 1) x
def spanB (g lo hi : Int) : Bool := inB 0 g lo && inB 0 g hi && decide (lo ≤ hi)
def gtB (n : Int) (g : Gt) : Bool := isR n g.a && (isR n g.b && (!(g.a == g.b) && (spanB 60 g.lo g.hi && !decide (g.hi - g.lo > 2))))
def usB (n : Int) (m : Mk) : Bool :=
  if m.kd.val = 6 then (isR n m.other && !(m.other == m.room)) && ((m.lo == 0 && m.hi == 0) && m.long == 0)
  else if m.kd.val = 4 ∨ m.kd.val = 5 then m.other == 0 && ((m.lo == 0 && m.hi == 0) && inB 0 600 m.long)
  else if m.kd.val = 1 ∨ m.kd.val = 2 ∨ m.kd.val = 3 then m.other == 0 && (spanB 600 m.lo m.hi && m.long == 0)
  else false
def mkB (n : Int) (m : Mk) : Bool := isR n m.room && usB n m
def marksB (n : Int) (least : Int) : List Mk → Bool
  | [] => true
  | m :: l => inB least 9999 m.id && (mkB n m && marksB n (m.id + 1) l)
def scB (s : Scn) : Bool := inB 1 6 s.rooms && (inB 0 600 s.fin && ((decide (s.gates.length ≤ 6) && s.gates.all (gtB s.rooms)) && (decide (s.marks.length ≤ 8) && marksB s.rooms 0 s.marks)))
theorem marksB_iff {n : Int} : ∀ {l : List Mk} {L : Int}, marksB n L l = true ↔ incF L (l.map (·.id)) = true ∧ ∀ m ∈ l, mkB n m = true := by
  intro l
  induction l with
  | nil => intro L; exact ⟨fun _ => ⟨rfl, fun m h => (List.not_mem_nil h).elim⟩, fun _ => rfl⟩
  | cons m l ih =>
    intro L
    simp only [marksB, incF, List.map_cons, Bool.and_eq_true, ih, List.forall_mem_cons]
    constructor
    · rintro ⟨a, b, c, d⟩; exact ⟨⟨a, c⟩, b, d⟩
    · rintro ⟨⟨a, c⟩, b, d⟩; exact ⟨a, b, c, d⟩
/-- What a valid scene has. -/
structure ScOk (s : Scn) : Prop where
  rooms : 1 ≤ s.rooms ∧ s.rooms ≤ 6
  fin : 0 ≤ s.fin ∧ s.fin ≤ 600
  gl : s.gates.length ≤ 6
  gs : ∀ g ∈ s.gates, gtB s.rooms g = true
  ml : s.marks.length ≤ 8
  inc : incF 0 (s.marks.map (·.id)) = true
  ms : ∀ m ∈ s.marks, mkB s.rooms m = true
theorem scB_iff {s : Scn} : scB s = true ↔ ScOk s := by
  simp only [scB, Bool.and_eq_true, decide_eq_true_eq, inB_iff, List.all_eq_true, marksB_iff]
  exact ⟨fun ⟨a, b, ⟨c, d⟩, e, f, g⟩ => ⟨a, b, c, d, e, f, g⟩, fun h => ⟨h.rooms, h.fin, ⟨h.gl, h.gs⟩, h.ml, h.inc, h.ms⟩⟩
theorem gtB_iff {n : Int} {g : Gt} : gtB n g = true ↔ (0 ≤ g.a ∧ g.a ≤ n - 1) ∧ (0 ≤ g.b ∧ g.b ≤ n - 1) ∧ g.a ≠ g.b ∧ ((0 ≤ g.lo ∧ g.lo ≤ 60) ∧ (0 ≤ g.hi ∧ g.hi ≤ 60) ∧ g.lo ≤ g.hi) ∧ g.hi - g.lo ≤ 2 := by
  simp only [gtB, isR, spanB, Bool.and_eq_true, inB_iff, Bool.not_eq_true', beq_eq_false_iff_ne, decide_eq_true_eq, decide_eq_false_iff_not, and_assoc, Int.not_lt, ne_eq, gt_iff_lt]
/-! ### how far rooms are, by some delays -/
def nR (s : Scn) : Nat := s.rooms.toNat
def spG (g : Gt) : Spn := (g.lo, g.hi)
def gSp (gs : List Gt) : List Spn := gs.map spG
def edgOf (g : Gt) (d : Int) : Edg := (g.a.toNat, g.b.toNat, d)
def edgs (gs : List Gt) (ds : List Int) : List Edg := gs.zipWith edgOf ds
def farP (s : Scn) (ds : List Int) : Tab := farV (edgs s.gates ds) (pairsOf (nR s)) (nR s)
/-! ### marks of a set -/
def pickS (ms : List Mk) (set : Nat) : List Mk := ms.zipIdx.filterMap fun p => if set.testBit p.2 then some p.1 else none
theorem pick_nil (set : Nat) : pickS [] set = [] := rfl
theorem pick_snoc (ms : List Mk) (m : Mk) (set : Nat) : pickS (ms ++ [m]) set = pickS ms set ++ (if set.testBit ms.length then [m] else []) := by
  unfold pickS
  rw [List.zipIdx_append, List.filterMap_append]
  congr 1
  simp only [List.zipIdx_cons, List.zipIdx_nil, Nat.zero_add]
  cases h : set.testBit ms.length <;> simp [h]
theorem take_snoc {α : Type} {l : List α} {k : Nat} {a : α} (h : l[k]? = some a) : l.take (k + 1) = l.take k ++ [a] := by
  rw [List.take_add_one, h]; rfl
theorem pick_take {ms : List Mk} {k : Nat} {m : Mk} (h : ms[k]? = some m) (set : Nat) : pickS (ms.take (k + 1)) set = pickS (ms.take k) set ++ (if set.testBit k then [m] else []) := by
  have hk : k < ms.length := by
    rcases Nat.lt_or_ge k ms.length with q | q
    · exact q
    · rw [List.getElem?_eq_none q] at h; cases h
  rw [take_snoc h, pick_snoc, List.length_take, Nat.min_eq_left (by omega)]
def mrk (m : Mk) : Mrk := ⟨m.id, m.kd.val, m.room.toNat, m.other.toNat, m.lo, m.hi, m.long⟩
def mrks (ms : List Mk) : List Mrk := ms.map mrk
/-- The minutes of a course. -/
def winM (fin : Int) (f : Nat → Tm) (ms : List Mk) (set : Nat) : Spn := allV fin f (0, fin) (mrks (pickS ms set))
theorem win_take {fin : Int} {f : Nat → Tm} {ms : List Mk} {k : Nat} {m : Mk} (h : ms[k]? = some m) (set : Nat) :
    winM fin f (ms.take (k + 1)) set = if set.testBit k then overV (winM fin f (ms.take k) set) (saysV (mrk m) fin (f (mrk m).room) (f (mrk m).other)) else winM fin f (ms.take k) set := by
  unfold winM
  rw [pick_take h]
  cases set.testBit k
  · simp
  · simp [mrks, allV, List.foldl_append]
abbrev Crs := List Int × Tab
def crsP (s : Scn) : List Crs := (allD (gSp s.gates)).map fun ds => (ds, farP s ds)
def okW (w : Spn) : Bool := decide (w.1 ≤ w.2)
def trC (fin : Int) (ms : List Mk) (room set : Nat) (c : Crs) : Option (List Int × Spn) :=
  if okW (winM fin (c.2 room) ms set) then some (c.1, winM fin (c.2 room) ms set) else none
/-- The truths of a room, if the marks of a set are asked. -/
def trS (s : Scn) (room set : Nat) : List (List Int × Spn) := (crsP s).filterMap (trC s.fin s.marks room set)
def allN (s : Scn) : Nat := 2 ^ s.marks.length - 1
def srtS (l : List Spn) : List Spn := l.mergeSort fun a b => decide (a.1 ≤ b.1)
def toldP (s : Scn) (room : Nat) : List Spn := joinV [] (srtS ((trS s room (allN s)).map (·.2)))
def exB (s : Scn) (room set : Nat) : Bool := (trS s room set).isEmpty
def exAll (s : Scn) (set : Nat) : Bool := (List.range (nR s)).all fun r => exB s r set
def roomsN (s : Scn) : List Nat := (List.range (nR s)).filter fun r => !exB s r (allN s)
def roomsP (s : Scn) : List Int := (roomsN s).map fun (r : Nat) => (r : Int)
def truP (s : Scn) (room : Nat) (minute : Int) : Option (List Int) := ((trS s room (allN s)).find? fun t => inB t.2.1 t.2.2 minute).map (·.1)
def idsP (s : Scn) (set : Nat) : List Int := (pickS s.marks set).map (·.id)
def fewP (s : Scn) (p : Nat → Bool) : Option (List Int) := if p (allN s) then some (idsP s (bestN ordD p (allN s) (allN s))) else none
def whyP (s : Scn) (room : Nat) : Option (List Int) := fewP s (exB s room)
def agP (s : Scn) : Option (List Int) := fewP s (exAll s)
/-! ### what is answered -/
def ckE (s : Scn) : Int := if scB s then 0 else 90
def rmE (s : Scn) (room : Int) : Int := if scB s then (if isR s.rooms room then 0 else 2) else 90
def mnV (s : Scn) (room : Int) : List Spn := if rmE s room = 0 then toldP s room.toNat else []
def rsV (s : Scn) : List Int := if scB s then roomsP s else []
def nmV (s : Scn) : Int × Int := if scB s then (match roomsP s with | [] => (0, 91) | [r] => (r, 0) | _ => (0, 6)) else (0, 90)
def tvE (s : Scn) (room minute : Int) : Int := if rmE s room = 0 then (match truP s room.toNat minute with | some _ => 0 | none => 91) else rmE s room
def tvV (s : Scn) (room minute : Int) : List Int := if rmE s room = 0 then (truP s room.toNat minute).getD [] else []
def wyE (s : Scn) (room : Int) : Int := if rmE s room = 0 then (match whyP s room.toNat with | some _ => 0 | none => 8) else rmE s room
def wyV (s : Scn) (room : Int) : List Int := if rmE s room = 0 then (whyP s room.toNat).getD [] else []
def agV (s : Scn) : List Int := if scB s then (agP s).getD [] else []
end Go.Proofs.YtjoagmjijbfjkaaGreatDoor
/-
  WHAT IS TOLD OF SCENES: facts. Plain.
-/
namespace Go.Proofs.YtjoagmjijbfjkaaGreatDoor
open Go Go.Am
theorem inL_perm {l m : List Spn} (h : l.Perm m) (n : Int) : inL l n ↔ inL m n :=
  ⟨fun ⟨s, hs, q⟩ => ⟨s, h.mem_iff.1 hs, q⟩, fun ⟨s, hs, q⟩ => ⟨s, h.mem_iff.2 hs, q⟩⟩
theorem srtS_perm (l : List Spn) : (srtS l).Perm l := List.mergeSort_perm _ _
theorem srtS_ord (l : List Spn) : (srtS l).Pairwise (fun a b => a.1 ≤ b.1) := by
  have h := List.pairwise_mergeSort (le := fun (a b : Spn) => decide (a.1 ≤ b.1)) (fun a b c h1 h2 => by simp at *; omega) (fun a b => by simp; omega) l
  exact h.imp fun q => by simpa using q
/-- All spans of truths are spans. -/
theorem tr_ok {s : Scn} {room set : Nat} {t : List Int × Spn} (h : t ∈ trS s room set) : t.2.1 ≤ t.2.2 := by
  unfold trS at h
  obtain ⟨c, _, hc⟩ := List.mem_filterMap.1 h
  unfold trC at hc
  split at hc
  · rename_i q; cases hc; exact of_decide_eq_true q
  · cases hc
/-- Whatever order spans come in, the same is told. -/
theorem told_any {l m : List Spn} (hl : ∀ s ∈ l, s.1 ≤ s.2) (hp : m.Perm l) (hm : m.Pairwise fun a b => a.1 ≤ b.1) : joinV [] m = joinV [] (srtS l) :=
  joinV_same (fun s hs => hl s (hp.mem_iff.1 hs)) (fun s hs => hl s ((srtS_perm l).mem_iff.1 hs)) hm (srtS_ord l) fun n => (inL_perm hp n).trans (inL_perm (srtS_perm l) n).symm
theorem told_ok (s : Scn) (room : Nat) : canS (toldP s room) ∧ ∀ n, inL (toldP s room) n ↔ ∃ t ∈ trS s room (allN s), inS t.2 n := by
  have hs : ∀ x ∈ (trS s room (allN s)).map (·.2), x.1 ≤ x.2 := fun x hx => by
    obtain ⟨t, ht, rfl⟩ := List.mem_map.1 hx
    exact tr_ok ht
  obtain ⟨h1, h2⟩ := joinV_ok (srtS ((trS s room (allN s)).map (·.2))) [] trivial (fun x hx => hs x ((srtS_perm _).mem_iff.1 hx)) (srtS_ord _) (fun u hu => (List.not_mem_nil hu).elim)
  refine ⟨h1, fun n => ?_⟩
  show inL (joinV _ _) n ↔ _
  rw [h2, inL_perm (srtS_perm _)]
  constructor
  · rintro (⟨u, hu, _⟩ | ⟨u, hu, q⟩)
    · cases hu
    · obtain ⟨t, ht, rfl⟩ := List.mem_map.1 hu
      exact ⟨t, ht, q⟩
  · rintro ⟨t, ht, q⟩
    exact .inr ⟨_, List.mem_map.2 ⟨t, ht, rfl⟩, q⟩
theorem mem_tr {s : Scn} {room set : Nat} {t : List Int × Spn} : t ∈ trS s room set ↔ t.1 ∈ allD (gSp s.gates) ∧ t.2 = winM s.fin (farP s t.1 room) s.marks set ∧ t.2.1 ≤ t.2.2 := by
  unfold trS crsP
  rw [List.filterMap_map, List.mem_filterMap]
  constructor
  · rintro ⟨ds, hd, h⟩
    simp only [Function.comp_apply, trC] at h
    split at h
    · rename_i q; cases h; exact ⟨hd, rfl, of_decide_eq_true q⟩
    · cases h
  · rintro ⟨h1, h2, h3⟩
    refine ⟨t.1, h1, ?_⟩
    simp only [Function.comp_apply, trC]
    rw [← h2, if_pos (show okW t.2 = true from decide_eq_true h3)]
theorem told_iff {s : Scn} {room : Nat} {n : Int} : inL (toldP s room) n ↔ ∃ ds ∈ allD (gSp s.gates), inS (winM s.fin (farP s ds room) s.marks (allN s)) n := by
  rw [(told_ok s room).2]
  constructor
  · rintro ⟨t, ht, q⟩
    obtain ⟨h1, h2, _⟩ := mem_tr.1 ht
    exact ⟨t.1, h1, h2 ▸ q⟩
  · rintro ⟨ds, h, q⟩
    exact ⟨(ds, _), mem_tr.2 ⟨h, rfl, Int.le_trans q.1 q.2⟩, q⟩
theorem told_nil {s : Scn} {room : Nat} : toldP s room = [] ↔ exB s room (allN s) = true := by
  unfold exB
  rw [List.isEmpty_iff]
  constructor
  · intro h
    refine List.eq_nil_iff_forall_not_mem.2 fun t ht => ?_
    obtain ⟨u, hu, _⟩ := ((told_ok s room).2 t.2.1).2 ⟨t, ht, Int.le_refl _, tr_ok ht⟩
    rw [h] at hu; cases hu
  · intro h
    refine List.eq_nil_iff_forall_not_mem.2 fun u hu => ?_
    have hc : u.1 ≤ u.2 := by
      have key : ∀ {l : List Spn}, canS l → ∀ u ∈ l, u.1 ≤ u.2 := by
        intro l
        induction l with
        | nil => intro _ u hu; cases hu
        | cons a l ih =>
          intro h u hu
          obtain ⟨h1, h2, _⟩ := canS_cons h
          rcases List.mem_cons.1 hu with rfl | hu
          · exact h1
          · exact ih h2 u hu
      exact key (told_ok s room).1 u hu
    obtain ⟨t, ht, _⟩ := ((told_ok s room).2 u.1).1 ⟨u, hu, Int.le_refl _, hc⟩
    rw [h] at ht; cases ht
theorem mem_rooms {s : Scn} {r : Nat} : r ∈ roomsN s ↔ r < nR s ∧ exB s r (allN s) = false := by
  unfold roomsN
  rw [List.mem_filter, List.mem_range, Bool.not_eq_true']
/-! ### sets of marks -/
theorem mem_pick {ms : List Mk} {set : Nat} {m : Mk} : m ∈ pickS ms set ↔ ∃ i, ms[i]? = some m ∧ set.testBit i = true := by
  unfold pickS
  rw [List.mem_filterMap]
  constructor
  · rintro ⟨⟨a, i⟩, h, q⟩
    rw [List.mem_zipIdx_iff_getElem?] at h
    dsimp only at q h
    split at q
    · rename_i b; cases q; exact ⟨i, h, b⟩
    · cases q
  · rintro ⟨i, h, b⟩
    exact ⟨(m, i), List.mem_zipIdx_iff_getElem?.2 h, by simp [b]⟩
theorem win_iff {fin : Int} {f : Nat → Tm} {ms : List Mk} {set : Nat} {n : Int} : inS (winM fin f ms set) n ↔ (0 ≤ n ∧ n ≤ fin) ∧ ∀ m ∈ pickS ms set, inS (saysV (mrk m) fin (f (mrk m).room) (f (mrk m).other)) n := by
  unfold winM
  rw [allV_iff]
  constructor
  · rintro ⟨h1, h2⟩
    exact ⟨h1, fun m hm => h2 _ (List.mem_map.2 ⟨m, hm, rfl⟩)⟩
  · rintro ⟨h1, h2⟩
    refine ⟨h1, fun m hm => ?_⟩
    obtain ⟨x, hx, rfl⟩ := List.mem_map.1 hm
    exact h2 x hx
theorem ex_iff {s : Scn} {room set : Nat} : exB s room set = true ↔ ∀ ds ∈ allD (gSp s.gates), ∀ n, ¬ inS (winM s.fin (farP s ds room) s.marks set) n := by
  unfold exB
  rw [List.isEmpty_iff, List.eq_nil_iff_forall_not_mem]
  constructor
  · intro h ds hd n q
    exact h (ds, _) (mem_tr.2 ⟨hd, rfl, Int.le_trans q.1 q.2⟩)
  · intro h t ht
    obtain ⟨h1, h2, h3⟩ := mem_tr.1 ht
    exact h t.1 h1 t.2.1 (h2 ▸ ⟨Int.le_refl _, h3⟩)
theorem ex_mono {s : Scn} {room a b : Nat} (hab : ∀ i, a.testBit i = true → b.testBit i = true) (h : exB s room a = true) : exB s room b = true := by
  rw [ex_iff] at h ⊢
  intro ds hd n q
  refine h ds hd n (win_iff.2 ⟨(win_iff.1 q).1, fun m hm => ?_⟩)
  obtain ⟨i, h1, h2⟩ := mem_pick.1 hm
  exact (win_iff.1 q).2 m (mem_pick.2 ⟨i, h1, hab i h2⟩)
theorem pick_all (ms : List Mk) : ∀ (k : Nat), ms.length ≤ k → pickS ms (2 ^ k - 1) = ms := by
  intro k hk
  have key : ∀ j, j ≤ ms.length → pickS (ms.take j) (2 ^ k - 1) = ms.take j := by
    intro j
    induction j with
    | zero => intro _; rfl
    | succ j ih =>
      intro hj
      have hx : ms[j]? = some ms[j] := List.getElem?_eq_getElem (by omega)
      rw [pick_take hx, ih (by omega), take_snoc hx, Nat.testBit_two_pow_sub_one, decide_eq_true (show j < k by omega)]
      rfl
  have := key ms.length (Nat.le_refl _)
  rwa [List.take_length] at this
end Go.Proofs.YtjoagmjijbfjkaaGreatDoor
/-
  TRUTHS, AS THE LAWS ASK OF THEM: facts. Plain.
-/
namespace Go.Proofs.YtjoagmjijbfjkaaGreatDoor
open Go Go.Am
theorem mem_edgs : ∀ {gs : List Gt} {ds : List Int} {e : Edg}, areD (gSp gs) ds → e ∈ edgs gs ds → ∃ g ∈ gs, e.1 = g.a.toNat ∧ e.2.1 = g.b.toNat ∧ g.lo ≤ e.2.2 ∧ e.2.2 ≤ g.hi := by
  intro gs
  induction gs with
  | nil => intro ds e _ h; cases h
  | cons g gs ih =>
    intro ds e hd h
    cases ds with
    | nil => cases h
    | cons d ds =>
      obtain ⟨h1, h2⟩ := hd
      rcases List.mem_cons.1 (show e ∈ edgOf g d :: edgs gs ds from h) with rfl | h
      · exact ⟨g, List.mem_cons_self, rfl, rfl, h1.1, h1.2⟩
      · obtain ⟨x, hx, q⟩ := ih h2 h
        exact ⟨x, List.mem_cons_of_mem _ hx, q⟩
theorem sp_le {s : Scn} (h : ScOk s) : ∀ x ∈ gSp s.gates, x.1 ≤ x.2 := fun x hx => by
  obtain ⟨g, hg, rfl⟩ := List.mem_map.1 hx
  exact (gtB_iff.1 (h.gs g hg)).2.2.2.1.2.2
theorem sp_two {s : Scn} (h : ScOk s) : ∀ x ∈ gSp s.gates, x.2 ≤ x.1 + 2 := fun x hx => by
  obtain ⟨g, hg, rfl⟩ := List.mem_map.1 hx
  have := (gtB_iff.1 (h.gs g hg)).2.2.2.2
  show g.hi ≤ g.lo + 2; omega
theorem nR_eq {s : Scn} (h : ScOk s) : (nR s : Int) = s.rooms ∧ 1 ≤ nR s ∧ nR s ≤ 6 := by
  have := h.rooms
  unfold nR; omega
theorem gok_of {s : Scn} (h : ScOk s) {ds : List Int} (hd : areD (gSp s.gates) ds) : GOk (nR s) (edgs s.gates ds) := by
  have hn := nR_eq h
  have key : ∀ a b w, St1 (edgs s.gates ds) a b w → (0 ≤ w ∧ w ≤ 60) ∧ (a < nR s ∧ b < nR s) ∧ a ≠ b := by
    intro a b w q
    rcases q with q | q
    · obtain ⟨g, hg, e1, e2, l1, l2⟩ := mem_edgs hd q
      obtain ⟨g1, g2, g3, g4, g5⟩ := gtB_iff.1 (h.gs g hg)
      have e1 : a = g.a.toNat := e1
      have e2 : b = g.b.toNat := e2
      have l1 : g.lo ≤ w := l1
      have l2 : w ≤ g.hi := l2
      omega
    · obtain ⟨g, hg, e1, e2, l1, l2⟩ := mem_edgs hd q
      obtain ⟨g1, g2, g3, g4, g5⟩ := gtB_iff.1 (h.gs g hg)
      have e1 : b = g.a.toNat := e1
      have e2 : a = g.b.toNat := e2
      have l1 : g.lo ≤ w := l1
      have l2 : w ≤ g.hi := l2
      omega
  exact ⟨fun a b w q => (key a b w q).1.1, fun a b w q => (key a b w q).1.2, fun a b w q => (key a b w q).2.1, fun a b w q => (key a b w q).2.2⟩
theorem mem_all {s : Scn} (h : ScOk s) {ds : List Int} : ds ∈ allD (gSp s.gates) ↔ areD (gSp s.gates) ds := all_mem (sp_le h)
theorem far_le {s : Scn} (h : ScOk s) {ds : List Int} (hd : areD (gSp s.gates) ds) {r x : Nat} (hr : r < nR s) (hx : x < nR s) {c : Int} (e : farP s ds r x = some c) : 0 ≤ c ∧ c ≤ 360 := by
  have := far_lt (gok_of h hd) hr hx e
  have hn := nR_eq h
  omega
/-- What is asked of the rooms of marks. -/
theorem mk_rooms {s : Scn} (h : ScOk s) {m : Mk} (hm : m ∈ s.marks) : (mrk m).room < nR s ∧ (mrk m).other < nR s ∧ (m.lo ≤ 600 ∧ m.hi ≤ 600) ∧ (0 ≤ m.room ∧ 0 ≤ m.other) ∧ 1 ≤ m.kd.val ∧ m.kd.val ≤ 6 ∧ (0 ≤ m.lo ∧ 0 ≤ m.hi ∧ 0 ≤ m.long ∧ m.long ≤ 600) := by
  have hn := nR_eq h
  have q := h.ms m hm
  simp only [mkB, isR, Bool.and_eq_true, inB_iff] at q
  obtain ⟨q1, q2⟩ := q
  unfold mrk
  dsimp only
  unfold usB at q2
  split at q2
  · rename_i k
    simp only [isR, Bool.and_eq_true, inB_iff, Bool.not_eq_true', beq_iff_eq, beq_eq_false_iff_ne] at q2
    omega
  · split at q2
    · rename_i k
      simp only [Bool.and_eq_true, inB_iff, beq_iff_eq] at q2
      omega
    · split at q2
      · rename_i k
        simp only [Bool.and_eq_true, spanB, inB_iff, beq_iff_eq, decide_eq_true_eq] at q2
        omega
      · cases q2
abbrev nvr : Int := 1073741824
def soB (m : Mk) (fin c e : Int) : Bool :=
  if m.kd.val = 1 then decide (c ≥ m.lo) && decide (c ≤ m.hi) else if m.kd.val = 2 then decide (c > m.lo) else if m.kd.val = 3 then decide (c ≤ m.hi)
  else if m.kd.val = 4 then !(c == nvr) && decide (fin - c ≥ m.long) else if m.kd.val = 5 then c == nvr || decide (fin - c < m.long) else decide (c < e)
theorem soB_iff {m : Mk} {fin c e : Int} : soB m fin c e = true ↔ soV nvr (mrk m) fin c e := by
  unfold soB soV mrk
  dsimp only
  by_cases h1 : m.kd.val = 1
  · rw [if_pos h1, if_pos (show ((m.kd.val : Nat) : Int) = 1 by omega)]; simp
  rw [if_neg h1, if_neg (show ¬ ((m.kd.val : Nat) : Int) = 1 by omega)]
  by_cases h2 : m.kd.val = 2
  · rw [if_pos h2, if_pos (show ((m.kd.val : Nat) : Int) = 2 by omega)]; simp
  rw [if_neg h2, if_neg (show ¬ ((m.kd.val : Nat) : Int) = 2 by omega)]
  by_cases h3 : m.kd.val = 3
  · rw [if_pos h3, if_pos (show ((m.kd.val : Nat) : Int) = 3 by omega)]; simp
  rw [if_neg h3, if_neg (show ¬ ((m.kd.val : Nat) : Int) = 3 by omega)]
  by_cases h4 : m.kd.val = 4
  · rw [if_pos h4, if_pos (show ((m.kd.val : Nat) : Int) = 4 by omega)]; simp
  rw [if_neg h4, if_neg (show ¬ ((m.kd.val : Nat) : Int) = 4 by omega)]
  by_cases h5 : m.kd.val = 5
  · rw [if_pos h5, if_pos (show ((m.kd.val : Nat) : Int) = 5 by omega)]; simp
  rw [if_neg h5, if_neg (show ¬ ((m.kd.val : Nat) : Int) = 5 by omega)]; simp
/-- When the fire comes into a room, as the laws work it out. -/
def rowAt (room : Nat) (minute : Int) : Row := fun y => if y = room then minute else nvr
def comeP (s : Scn) (ds : List Int) (room : Nat) (minute : Int) : Row := comeV nvr (edgs s.gates ds) (nR s) (rowAt room minute)
theorem come_when {s : Scn} (h : ScOk s) {ds : List Int} (hd : areD (gSp s.gates) ds) {r x : Nat} (hr : r < nR s) (hx : x < nR s) {t : Int} (ht : t ≤ 600) : comeP s ds r t x = whenV nvr t (farP s ds r x) := by
  have hn := nR_eq h
  exact far_come (gok_of h hd) hr hx (by show t + 60 * (nR s : Int) < 1073741824; omega)
theorem win_so {s : Scn} (h : ScOk s) {ms : List Mk} (hms : ∀ m ∈ ms, m ∈ s.marks) {ds : List Int} (hd : areD (gSp s.gates) ds) {r : Nat} (hr : r < nR s) {t : Int} :
    (∀ m ∈ ms, inS (saysV (mrk m) s.fin (farP s ds r (mrk m).room) (farP s ds r (mrk m).other)) t) ∧ (0 ≤ t ∧ t ≤ s.fin) ↔
    (∀ m ∈ ms, soB m s.fin (comeP s ds r t (mrk m).room) (comeP s ds r t (mrk m).other) = true) ∧ (0 ≤ t ∧ t ≤ s.fin) := by
  have hf := h.fin
  have one : ∀ m ∈ ms, 0 ≤ t → t ≤ s.fin → (inS (saysV (mrk m) s.fin (farP s ds r (mrk m).room) (farP s ds r (mrk m).other)) t ↔ soB m s.fin (comeP s ds r t (mrk m).room) (comeP s ds r t (mrk m).other) = true) := by
    intro m hm h0 h1
    obtain ⟨m1, m2, m3, _⟩ := mk_rooms h (hms m hm)
    rw [soB_iff, come_when h hd hr m1 (by omega), come_when h hd hr m2 (by omega)]
    refine says_so h0 h1 hf.2 (fun c e => ?_) (fun c e => ?_) ⟨?_, ?_⟩
    · have := far_le h hd hr m1 e; show t + c < 1073741824; omega
    · have := far_le h hd hr m2 e; show t + c < 1073741824; omega
    · show m.lo < 1073741824; omega
    · show m.hi < 1073741824; omega
  constructor
  · rintro ⟨q, h0, h1⟩
    exact ⟨fun m hm => (one m hm h0 h1).1 (q m hm), h0, h1⟩
  · rintro ⟨q, h0, h1⟩
    exact ⟨fun m hm => (one m hm h0 h1).2 (q m hm), h0, h1⟩
/-- What the laws ask of a room, a minute and delays. -/
def trueB (s : Scn) (room : Nat) (t : Int) (ds : List Int) : Prop :=
  (0 ≤ t ∧ t ≤ s.fin) ∧ areD (gSp s.gates) ds ∧ ∀ m ∈ s.marks, soB m s.fin (comeP s ds room t (mrk m).room) (comeP s ds room t (mrk m).other) = true
theorem all_bits (s : Scn) : pickS s.marks (allN s) = s.marks := pick_all _ _ (Nat.le_refl _)
theorem true_iff {s : Scn} (h : ScOk s) {room : Nat} (hr : room < nR s) {t : Int} {ds : List Int} : trueB s room t ds ↔ areD (gSp s.gates) ds ∧ inS (winM s.fin (farP s ds room) s.marks (allN s)) t := by
  unfold trueB
  rw [win_iff, all_bits]
  constructor
  · rintro ⟨h1, h2, h3⟩
    have := (win_so h (fun _ q => q) h2 hr).2 ⟨h3, h1⟩
    exact ⟨h2, h1, this.1⟩
  · rintro ⟨h2, h1, h3⟩
    have := (win_so h (fun _ q => q) h2 hr).1 ⟨h3, h1⟩
    exact ⟨h1, h2, this.1⟩
theorem told_true {s : Scn} (h : ScOk s) {room : Nat} (hr : room < nR s) {t : Int} : inL (toldP s room) t ↔ ∃ ds, trueB s room t ds := by
  rw [told_iff]
  exact ⟨fun ⟨ds, h1, h2⟩ => ⟨ds, (true_iff h hr).2 ⟨(mem_all h).1 h1, h2⟩⟩, fun ⟨ds, q⟩ => ⟨ds, (mem_all h).2 ((true_iff h hr).1 q).1, ((true_iff h hr).1 q).2⟩⟩
theorem tru_some {s : Scn} (h : ScOk s) {room : Nat} (hr : room < nR s) {t : Int} {ds : List Int} (e : truP s room t = some ds) : trueB s room t ds ∧ ∀ e, trueB s room t e → e = ds ∨ befD ds e := by
  unfold truP at e
  cases hf : (trS s room (allN s)).find? (fun p => inB p.2.1 p.2.2 t) with
  | none => rw [hf] at e; cases e
  | some p =>
    rw [hf] at e
    cases e
    obtain ⟨hp, l, m, e, hl⟩ := List.find?_eq_some_iff_append.1 hf
    have hin : p ∈ trS s room (allN s) := by rw [e]; exact List.mem_append_right _ List.mem_cons_self
    obtain ⟨p1, p2, _⟩ := mem_tr.1 hin
    refine ⟨(true_iff h hr).2 ⟨(mem_all h).1 p1, p2 ▸ inB_iff.1 hp⟩, fun d hd => ?_⟩
    obtain ⟨d1, d2⟩ := (true_iff h hr).1 hd
    have din : (d, winM s.fin (farP s d room) s.marks (allN s)) ∈ trS s room (allN s) := mem_tr.2 ⟨(mem_all h).2 d1, rfl, Int.le_trans d2.1 d2.2⟩
    have ord : (trS s room (allN s)).Pairwise fun a b => befD a.1 b.1 := by
      unfold trS crsP
      rw [List.filterMap_map]
      refine List.Pairwise.filterMap _ (fun a a' hb b hb1 b' hb2 => ?_) (all_ord (gSp s.gates))
      simp only [Function.comp_apply, trC] at hb1 hb2
      split at hb1
      · split at hb2
        · cases hb1; cases hb2; exact hb
        · cases hb2
      · cases hb1
    rw [e] at din ord
    rcases List.mem_append.1 din with q | q
    · have := hl _ q
      have q2 : inB (winM s.fin (farP s d room) s.marks (allN s)).1 (winM s.fin (farP s d room) s.marks (allN s)).2 t = true := inB_iff.2 d2
      simp [q2] at this
    · rcases List.mem_cons.1 q with q | q
      · exact .inl (by rw [← q])
      · exact .inr ((List.pairwise_cons.1 (List.pairwise_append.1 ord).2.1).1 _ q)
theorem tru_none {s : Scn} (_h : ScOk s) {room : Nat} (_hr : room < nR s) {t : Int} : truP s room t = none ↔ ¬ inL (toldP s room) t := by
  rw [(told_ok s room).2]
  unfold truP
  rw [Option.map_eq_none_iff, List.find?_eq_none]
  constructor
  · rintro q ⟨p, hp, hi⟩
    exact q p hp (inB_iff.2 hi)
  · intro q p hp hi
    exact q ⟨p, hp, inB_iff.1 hi⟩
end Go.Proofs.YtjoagmjijbfjkaaGreatDoor
/-
  THE FEWEST MARKS: facts. Plain.
-/
namespace Go.Proofs.YtjoagmjijbfjkaaGreatDoor
open Go Go.Am
/-- Some marks, and no others, exclude a room. -/
def exM (s : Scn) (room : Nat) (ms : List Mk) : Bool := (allD (gSp s.gates)).all fun ds => !okW (allV s.fin (farP s ds room) (0, s.fin) (mrks ms))
theorem exB_M (s : Scn) (room set : Nat) : exB s room set = exM s room (pickS s.marks set) := by
  have e : exB s room set = true ↔ exM s room (pickS s.marks set) = true := by
    rw [ex_iff]
    unfold exM
    rw [List.all_eq_true]
    constructor
    · intro h ds hd
      cases q : okW (allV s.fin (farP s ds room) (0, s.fin) (mrks (pickS s.marks set))) with
      | false => rfl
      | true => exact absurd ⟨Int.le_refl _, of_decide_eq_true q⟩ (h ds hd _)
    · intro h ds hd n q
      have := h ds hd
      rw [Bool.not_eq_true'] at this
      exact absurd (Int.le_trans q.1 q.2) (of_decide_eq_false this)
  cases h1 : exB s room set <;> cases h2 : exM s room (pickS s.marks set)
  · rfl
  · exact absurd (e.2 h2) (by rw [h1]; exact Bool.false_ne_true)
  · exact absurd (e.1 h1) (by rw [h2]; exact Bool.false_ne_true)
  · rfl
/-- A scene with other marks. -/
def wM (s : Scn) (ms : List Mk) : Scn := { s with marks := ms }
theorem ex_wM (s : Scn) (room : Nat) (ms : List Mk) : exB (wM s ms) room (allN (wM s ms)) = exM s room ms := by
  rw [exB_M, all_bits]; rfl
theorem allD_ne {s : Scn} (h : ScOk s) : ∃ ds, ds ∈ allD (gSp s.gates) := by
  obtain ⟨⟨t, e⟩, _⟩ := all_run (sp_le h)
  exact ⟨_, by rw [e]; exact List.mem_cons_self⟩
theorem ex_none {s : Scn} (h : ScOk s) (room : Nat) : exM s room [] = false := by
  obtain ⟨ds, hd⟩ := allD_ne h
  unfold exM
  rw [List.all_eq_false]
  refine ⟨ds, hd, ?_⟩
  have : okW (allV s.fin (farP s ds room) (0, s.fin) (mrks [])) = true := decide_eq_true h.fin.1
  rw [this]; decide
theorem exM_mono {s : Scn} {room : Nat} {a b : List Mk} (hab : ∀ m ∈ a, m ∈ b) (h : exM s room a = true) : exM s room b = true := by
  unfold exM at h ⊢
  rw [List.all_eq_true] at h ⊢
  intro ds hd
  cases q : okW (allV s.fin (farP s ds room) (0, s.fin) (mrks b)) with
  | false => rfl
  | true =>
    have q1 := of_decide_eq_true q
    have i := allV_iff.1 (show inS (allV s.fin (farP s ds room) (0, s.fin) (mrks b)) _ from ⟨Int.le_refl _, q1⟩)
    have j : inS (allV s.fin (farP s ds room) (0, s.fin) (mrks a)) (allV s.fin (farP s ds room) (0, s.fin) (mrks b)).1 := allV_iff.2 ⟨i.1, fun m hm => by
      obtain ⟨x, hx, rfl⟩ := List.mem_map.1 hm
      exact i.2 _ (List.mem_map.2 ⟨x, hab x hx, rfl⟩)⟩
    have k := h ds hd
    rw [Bool.not_eq_true'] at k
    exact absurd (Int.le_trans j.1 j.2) (of_decide_eq_false k)
/-! ### sets and their lists -/
theorem pick_cons (m : Mk) (ms : List Mk) (b : Nat) (set : Nat) (hb : b < 2) : pickS (m :: ms) (2 * set + b) = (if b = 1 then [m] else []) ++ pickS ms set := by
  have hz : (m :: ms).zipIdx = (m, 0) :: (ms.zipIdx).map (fun p => (p.1, p.2 + 1)) := by
    rw [List.zipIdx_cons, Nat.zero_add, List.zipIdx_succ]
  unfold pickS
  rw [hz, List.filterMap_cons, List.filterMap_map]
  have h0 : (2 * set + b).testBit 0 = decide (b = 1) := by
    rw [Nat.testBit_zero]
    congr 1
    exact propext ⟨fun q => by omega, fun q => by omega⟩
  have hs : ∀ i, (2 * set + b).testBit (i + 1) = set.testBit i := fun i => by
    rw [Nat.testBit_succ]
    congr 1; omega
  have e : ((fun p : Mk × Nat => if (2 * set + b).testBit p.2 = true then some p.1 else none) ∘ fun p : Mk × Nat => (p.1, p.2 + 1)) = fun p : Mk × Nat => if set.testBit p.2 = true then some p.1 else none := by
    funext p
    simp only [Function.comp_apply, hs]
  rw [e]
  simp only [h0, decide_eq_true_eq]
  by_cases q : b = 1
  · simp [q]
  · simp [q]
theorem sub_set : ∀ {ms sub : List Mk}, List.Sublist sub ms → ∃ set, set < 2 ^ ms.length ∧ pickS ms set = sub := by
  intro ms sub h
  induction h with
  | slnil => exact ⟨0, by decide, rfl⟩
  | @cons l₁ l₂ a _ ih =>
    obtain ⟨k, h1, h2⟩ := ih
    refine ⟨2 * k + 0, by rw [List.length_cons, Nat.pow_succ]; omega, ?_⟩
    rw [pick_cons _ _ 0 k (by decide), h2]; rfl
  | @cons_cons l₁ l₂ a _ ih =>
    obtain ⟨k, h1, h2⟩ := ih
    refine ⟨2 * k + 1, by rw [List.length_cons, Nat.pow_succ]; omega, ?_⟩
    rw [pick_cons _ _ 1 k (by decide), h2]; rfl
theorem pick_sub (set : Nat) : ∀ ms : List Mk, List.Sublist (pickS ms set) ms := by
  intro ms
  induction ms generalizing set with
  | nil => exact .slnil
  | cons m ms ih =>
    have e : set = 2 * (set / 2) + set % 2 := by omega
    rw [e, pick_cons _ _ _ _ (Nat.mod_lt _ (by decide))]
    by_cases q : set % 2 = 1
    · rw [if_pos q]; exact (ih _).cons_cons m
    · rw [if_neg q]; exact (ih _).cons m
/-- The places of a set's marks. -/
theorem pick_pos : ∀ (ms : List Mk) (set : Nat), set < 2 ^ ms.length → ms.length ≤ 8 → pickS ms set = (posD set).map (fun i => ms.getD i default) := by
  intro ms set hs hl
  have h1 : posD set = (List.range ms.length).filter fun i => set.testBit i := by
    unfold posD
    have : List.range 8 = List.range ms.length ++ (List.range (8 - ms.length)).map (ms.length + ·) := by
      rw [← List.range_add]; congr 1; omega
    rw [this, List.filter_append]
    have z : ((List.range (8 - ms.length)).map (ms.length + ·)).filter (fun i => set.testBit i) = [] := by
      rw [List.filter_eq_nil_iff]
      intro i hi
      obtain ⟨j, _, rfl⟩ := List.mem_map.1 hi
      rw [Nat.testBit_lt_two_pow (Nat.lt_of_lt_of_le hs (Nat.pow_le_pow_right (by decide) (by omega)))]
      decide
    rw [z, List.append_nil]
  rw [h1]
  have key : ∀ k, k ≤ ms.length → pickS (ms.take k) set = ((List.range k).filter fun i => set.testBit i).map (fun i => ms.getD i default) := by
    intro k
    induction k with
    | zero => intro _; rfl
    | succ k ih =>
      intro hk
      have hx : ms[k]? = some ms[k] := List.getElem?_eq_getElem (by omega)
      have hd : ms.getD k default = ms[k] := by rw [List.getD_eq_getElem?_getD, hx]; rfl
      rw [pick_take hx, ih (by omega), List.range_succ, List.filter_append, List.map_append]
      congr 1
      cases q : set.testBit k
      · simp [q]
      · simp [q, hx]
  have := key ms.length (Nat.le_refl _)
  rwa [List.take_length] at this
theorem pos_len (set : Nat) : (posD set).length = popD set := by unfold posD popD; rw [List.countP_eq_length_filter]
theorem ids_inc : ∀ {l : List Mk} {L : Int}, incF L (l.map (·.id)) = true → (∀ m ∈ l, L ≤ m.id) ∧ l.Pairwise fun a b => a.id < b.id := by
  intro l
  induction l with
  | nil => intro L _; exact ⟨fun m h => (List.not_mem_nil h).elim, .nil⟩
  | cons m l ih =>
    intro L h
    simp only [List.map_cons, incF, Bool.and_eq_true, inB_iff] at h
    obtain ⟨i1, i2⟩ := ih h.2
    refine ⟨fun x hx => ?_, List.pairwise_cons.2 ⟨fun x hx => by have := i1 x hx; omega, i2⟩⟩
    rcases List.mem_cons.1 hx with rfl | hx
    · exact h.1.1
    · have := i1 x hx; omega
/-- The order of sets is that of the lists of their Ids. -/
theorem ord_ids {s : Scn} (h : ScOk s) {a b : Nat} (ha : a < 2 ^ s.marks.length) (hb : b < 2 ^ s.marks.length) : ordD a b = ahdD (idsP s a) (idsP s b) := by
  have p8 : 2 ^ s.marks.length ≤ 256 := by
    have := Nat.pow_le_pow_right (n := 2) (by decide) h.ml
    exact this
  rw [ord_eq (by omega) (by omega)]
  unfold ordL idsP
  rw [pick_pos _ _ ha h.ml, pick_pos _ _ hb h.ml, List.map_map, List.map_map]
  unfold ahdD
  simp only [List.length_map]
  have bnd : ∀ {c i : Nat}, c < 2 ^ s.marks.length → i ∈ posD c → i < s.marks.length := by
    intro c i hc hi
    refine Classical.byContradiction fun q => ?_
    have := (posD_mem.1 hi).2
    rw [Nat.testBit_lt_two_pow (Nat.lt_of_lt_of_le hc (Nat.pow_le_pow_right (by decide) (by omega)))] at this
    cases this
  have hinc := (ids_inc h.inc).2
  have mono : ∀ {i j : Nat}, i < s.marks.length → j < s.marks.length → i < j → (s.marks.getD i default).id < (s.marks.getD j default).id := by
    intro i j hi hj hij
    rw [List.getD_eq_getElem?_getD, List.getElem?_eq_getElem hi, List.getD_eq_getElem?_getD, List.getElem?_eq_getElem hj]
    exact List.pairwise_iff_getElem.1 hinc i j hi hj hij
  have e : lexD ((posD a).map fun (i : Nat) => (s.marks.getD i default).id) ((posD b).map fun (i : Nat) => (s.marks.getD i default).id) = lexD ((posD a).map fun (n : Nat) => (n : Int)) ((posD b).map fun (n : Nat) => (n : Int)) := by
    refine lex_map _ fun x y hx hy => ?_
    have hx := bnd ha hx
    have hy := bnd hb hy
    rcases Nat.lt_trichotomy x y with q | q | q
    · have := mono hx hy q
      exact ⟨⟨fun _ => q, fun _ => this⟩, ⟨fun e => by omega, fun e => by omega⟩⟩
    · subst q
      exact ⟨⟨fun e => absurd e (Int.lt_irrefl _), fun e => absurd e (Nat.lt_irrefl _)⟩, ⟨fun _ => rfl, fun _ => rfl⟩⟩
    · have := mono hy hx q
      exact ⟨⟨fun e => by omega, fun e => by omega⟩, ⟨fun e => by omega, fun e => by omega⟩⟩
  have e2 : ((fun x : Mk => x.id) ∘ fun i => s.marks.getD i default) = fun (i : Nat) => (s.marks.getD i default).id := rfl
  rw [e2, e]
/-- What is told is the first of the fewest. -/
theorem few_min {s : Scn} (h : ScOk s) {p : Nat → Bool} {w : List Int} (e : fewP s p = some w) : ∃ b, w = idsP s b ∧ b < 2 ^ s.marks.length ∧ p b = true ∧ ∀ t, t < 2 ^ s.marks.length → p t = true → ordD t b = false := by
  unfold fewP at e
  split at e
  · rename_i hp
    cases e
    have p8 : 2 ^ s.marks.length ≤ 256 := Nat.pow_le_pow_right (n := 2) (by decide) h.ml
    have p1 : 0 < 2 ^ s.marks.length := Nat.pow_pos (by decide)
    have en : allN s + 1 = 2 ^ s.marks.length := by unfold allN; omega
    have m := best_min (ordD_ord.le (show allN s + 1 ≤ 256 by omega)) hp
    rw [en] at m
    exact ⟨_, rfl, m.1, m.2.1, m.2.2⟩
  · cases e
theorem few_none {s : Scn} {p : Nat → Bool} : fewP s p = none ↔ p (allN s) = false := by
  unfold fewP
  cases p (allN s) <;> simp
/-! ### the marks with some Ids -/
def withG : List Mk → List Int → List Mk × List Int
  | [], ids => ([], ids)
  | _ :: _, [] => ([], [])
  | m :: ms, i :: ids => if i = m.id then (m :: (withG ms ids).1, (withG ms ids).2) else withG ms (i :: ids)
theorem withG_nil (ms : List Mk) : withG ms [] = ([], []) := by cases ms <;> rfl
theorem withG_sub : ∀ {ms sub : List Mk}, List.Sublist sub ms → ms.Pairwise (fun a b => a.id < b.id) → withG ms (sub.map (·.id)) = (sub, []) := by
  intro ms sub h
  induction h with
  | slnil => intro _; rfl
  | @cons l₁ l₂ a q ih =>
    intro hp
    obtain ⟨h1, h2⟩ := List.pairwise_cons.1 hp
    cases l₁ with
    | nil => exact withG_nil _
    | cons x l =>
      have hx := h1 x (q.subset List.mem_cons_self)
      show (if x.id = a.id then _ else withG l₂ (x.id :: l.map (·.id))) = _
      rw [if_neg (by omega)]
      exact ih h2
  | @cons_cons l₁ l₂ a q ih =>
    intro hp
    obtain ⟨h1, h2⟩ := List.pairwise_cons.1 hp
    show (if a.id = a.id then (a :: (withG l₂ (l₁.map (·.id))).1, (withG l₂ (l₁.map (·.id))).2) else _) = _
    rw [if_pos rfl, ih h2]
end Go.Proofs.YtjoagmjijbfjkaaGreatDoor
/-
  HOW THE PROGRAM FILLS ITS TABLE: plain.
-/
namespace Go.Proofs.YtjoagmjijbfjkaaGreatDoor
open Go Go.Am
def nevF (n a b : Nat) : Tab := fun x y => if (x < a ∨ (x = a ∧ y < b)) ∧ y < n ∧ x ≠ y then none else some 0
theorem nev_zero (n : Nat) : nevF n 0 0 = fun _ _ => some 0 := by
  funext x y; unfold nevF; rw [if_neg]; omega
theorem nev_row (n a : Nat) : nevF n a n = nevF n (a + 1) 0 := by
  funext x y; unfold nevF
  by_cases h : (x < a ∨ (x = a ∧ y < n)) ∧ y < n ∧ x ≠ y
  · rw [if_pos h, if_pos (by omega)]
  · rw [if_neg h, if_neg (by omega)]
theorem nev_all (n : Nat) : nevF n n 0 = noneF n := by
  funext x y; unfold nevF noneF
  by_cases h : x < n ∧ y < n ∧ x ≠ y
  · rw [if_pos h, if_pos (by omega)]
  · rw [if_neg h, if_neg (by omega)]
theorem nev_ne {n a b : Nat} (hb : b < n) (h : a ≠ b) : setT (nevF n a b) a b none = nevF n a (b + 1) := by
  funext x y; unfold nevF setT
  by_cases e : x = a ∧ y = b
  · rw [if_pos e, if_pos (by omega)]
  · rw [if_neg e]
    show (if (x < a ∨ (x = a ∧ y < b)) ∧ y < n ∧ x ≠ y then (none : Tm) else some 0) = _
    by_cases q : (x < a ∨ (x = a ∧ y < b)) ∧ y < n ∧ x ≠ y
    · rw [if_pos q, if_pos (by omega)]
    · rw [if_neg q, if_neg (by omega)]
theorem nev_eq (n a : Nat) : nevF n a a = nevF n a (a + 1) := by
  funext x y; unfold nevF
  by_cases q : (x < a ∨ (x = a ∧ y < a)) ∧ y < n ∧ x ≠ y
  · rw [if_pos q, if_pos (by omega)]
  · rw [if_neg q, if_neg (by omega)]
/-! ### the gates -/
def gatK (n : Nat) (gs : List Gt) (ds : List Int) (k : Nat) : Tab := ((edgs gs ds).take k).foldl gateF (noneF n)
theorem edgs_get : ∀ {gs : List Gt} {ds : List Int} {k : Nat} {g : Gt} {d : Int}, gs[k]? = some g → ds[k]? = some d → (edgs gs ds)[k]? = some (edgOf g d) := by
  intro gs ds k g d h1 h2
  unfold edgs
  rw [List.getElem?_zipWith, h1, h2]
theorem gatK_succ {n : Nat} {gs : List Gt} {ds : List Int} {k : Nat} {g : Gt} {d : Int} (h1 : gs[k]? = some g) (h2 : ds[k]? = some d) : gatK n gs ds (k + 1) = gateF (gatK n gs ds k) (edgOf g d) := by
  unfold gatK
  rw [take_snoc (edgs_get h1 h2), List.foldl_append]; rfl
theorem gatK_all {n : Nat} {gs : List Gt} {ds : List Int} {k : Nat} (h : (edgs gs ds).length ≤ k) : gatK n gs ds k = baseF n (edgs gs ds) := by
  unfold gatK baseF
  rw [List.take_of_length_le h]
/-! ### Floyd, pair by pair -/
def preP (n a b : Nat) : List (Nat × Nat) := ((List.range a).flatMap fun x => (List.range n).map fun y => (x, y)) ++ (List.range b).map fun y => (a, y)
theorem preP_zero (n : Nat) : preP n 0 0 = [] := rfl
theorem preP_succ (n a b : Nat) : preP n a (b + 1) = preP n a b ++ [(a, b)] := by
  unfold preP
  rw [List.range_succ, List.map_append, List.append_assoc]; rfl
theorem preP_row (n a : Nat) : preP n a n = preP n (a + 1) 0 := by
  unfold preP
  rw [List.range_succ, List.flatMap_append]; simp
theorem preP_all (n : Nat) : preP n n 0 = pairsOf n := by
  unfold preP pairsOf; simp
theorem preP_mem {n a b : Nat} (ha : a ≤ n) (hb : b ≤ n) (h : a < n ∨ b = 0) : ∀ p ∈ preP n a b, p.1 < n ∧ p.2 < n := by
  intro p hp
  unfold preP at hp
  rcases List.mem_append.1 hp with hp | hp
  · obtain ⟨x, hx, hp⟩ := List.mem_flatMap.1 hp
    obtain ⟨y, hy, rfl⟩ := List.mem_map.1 hp
    have := List.mem_range.1 hx; have := List.mem_range.1 hy
    exact ⟨by show x < n; omega, by show y < n; omega⟩
  · obtain ⟨y, hy, rfl⟩ := List.mem_map.1 hp
    have := List.mem_range.1 hy
    exact ⟨by show a < n; omega, by show y < n; omega⟩
def flK (n : Nat) (F : Tab) (k a b : Nat) : Tab := roundF k (floydV (pairsOf n) k F) (preP n a b)
theorem flK_zero (n : Nat) (F : Tab) : flK n F 0 0 0 = F := rfl
theorem flK_succ (n : Nat) (F : Tab) (k a b : Nat) : flK n F k a (b + 1) = stepF k (flK n F k a b) (a, b) := by
  unfold flK roundF
  rw [preP_succ, List.foldl_append]; rfl
theorem flK_row (n : Nat) (F : Tab) (k a : Nat) : flK n F k a n = flK n F k (a + 1) 0 := by unfold flK; rw [preP_row]
theorem flK_all (n : Nat) (F : Tab) (k : Nat) : flK n F k n 0 = flK n F (k + 1) 0 0 := by
  unfold flK
  rw [preP_all]; rfl
theorem flK_end (n : Nat) (F : Tab) : flK n F n 0 0 = floydV (pairsOf n) n F := rfl
/-- Times that are bounded, none on the diagonal. -/
structure BdF (n : Nat) (M : Int) (F : Tab) : Prop where
  diag : ∀ x, x < n → F x x = some 0
  bd : ∀ x y c, F x y = some c → 0 ≤ c ∧ c ≤ M
theorem soon_zero {t : Tm} (h : ∀ c, t = some c → 0 ≤ c) : soonT (some 0) t = some 0 := by
  unfold soonT
  cases t with
  | none => rfl
  | some c =>
    have := h c rfl
    show (if decide (c < 0) = true then _ else _) = _
    rw [if_neg (by rw [decide_eq_true_eq]; omega)]
theorem soon_self (t : Tm) : soonT t (andT t (some 0)) = t := by
  unfold soonT
  cases t with
  | none => rfl
  | some c =>
    show (if decide (c + 0 < c) = true then _ else _) = _
    rw [if_neg (by rw [decide_eq_true_eq]; omega)]
theorem soon_self2 (t : Tm) : soonT t (andT (some 0) t) = t := by
  unfold soonT
  cases t with
  | none => rfl
  | some c =>
    show (if decide (0 + c < c) = true then _ else _) = _
    rw [if_neg (by rw [decide_eq_true_eq]; omega)]
theorem and_some {a b : Tm} {c : Int} (h : andT a b = some c) : ∃ x y, a = some x ∧ b = some y ∧ c = x + y := by
  cases a with
  | none => cases b <;> cases h
  | some x =>
    cases b with
    | none => cases h
    | some y => cases h; exact ⟨x, y, rfl, rfl, rfl⟩
theorem round_inv {n k : Nat} (hk : k < n) {M : Int} {F : Tab} (h : BdF n M F) : ∀ (l : List (Nat × Nat)), (∀ p ∈ l, p.1 < n ∧ p.2 < n) →
    (∀ x, x < n → roundF k F l x k = F x k) ∧ (∀ y, y < n → roundF k F l k y = F k y) ∧ BdF n (2 * M) (roundF k F l) := by
  suffices key : ∀ (l : List (Nat × Nat)) (G : Tab), (∀ p ∈ l, p.1 < n ∧ p.2 < n) → ((∀ x, x < n → G x k = F x k) ∧ (∀ y, y < n → G k y = F k y) ∧ BdF n (2 * M) G) →
      (∀ x, x < n → roundF k G l x k = F x k) ∧ (∀ y, y < n → roundF k G l k y = F k y) ∧ BdF n (2 * M) (roundF k G l) from
    fun l hl => key l F hl ⟨fun _ _ => rfl, fun _ _ => rfl, h.diag, fun x y c e => by have := h.bd x y c e; omega⟩
  intro l
  induction l with
  | nil => intro G _ q; exact q
  | cons p l ih =>
    intro G hl hG
    obtain ⟨i1, i2, i3⟩ := hG
    have hp := hl p List.mem_cons_self
    refine ih (stepF k G p) (fun q hq => hl q (List.mem_cons_of_mem _ hq)) ?_
    obtain ⟨a, b⟩ := p
    have ga := i1 a hp.1
    have gb := i2 b hp.2
    have hkk : G k k = some 0 := i3.diag k hk
    -- the new entry
    have new : stepF k G (a, b) a b = soonT (G a b) (andT (G a k) (G k b)) := by unfold stepF setT; rw [if_pos ⟨rfl, rfl⟩]
    have old : ∀ x y, ¬ (x = a ∧ y = b) → stepF k G (a, b) x y = G x y := fun x y q => by unfold stepF setT; rw [if_neg q]
    have nn : ∀ c, andT (G a k) (G k b) = some c → 0 ≤ c ∧ c ≤ 2 * M := fun c q => by
      obtain ⟨x, y, h1, h2, rfl⟩ := and_some q
      rw [ga] at h1; rw [gb] at h2
      have := h.bd _ _ _ h1; have := h.bd _ _ _ h2
      omega
    refine ⟨fun x hx => ?_, fun y hy => ?_, fun x hx => ?_, fun x y c q => ?_⟩
    · by_cases q : x = a ∧ k = b
      · obtain ⟨rfl, rfl⟩ := q
        rw [new, hkk, soon_self]; exact i1 _ hx
      · rw [old _ _ q]; exact i1 x hx
    · by_cases q : k = a ∧ y = b
      · obtain ⟨rfl, rfl⟩ := q
        rw [new, hkk, soon_self2]; exact i2 _ hy
      · rw [old _ _ q]; exact i2 y hy
    · by_cases q : x = a ∧ x = b
      · obtain ⟨rfl, rfl⟩ := q
        rw [new, i3.diag x hx]; exact soon_zero (fun c hc => (nn c hc).1)
      · rw [old _ _ q]; exact i3.diag x hx
    · by_cases r : x = a ∧ y = b
      · obtain ⟨rfl, rfl⟩ := r
        rw [new] at q
        rcases soon_eq (G x y) (andT (G x k) (G k y)) with s | s
        · rw [s] at q; exact i3.bd _ _ _ q
        · rw [s] at q; exact nn c q
      · rw [old _ _ r] at q; exact i3.bd _ _ _ q
theorem floyd_bd {n : Nat} {F : Tab} (h : BdF n 60 F) : ∀ k, k ≤ n → BdF n (60 * 2 ^ k) (floydV (pairsOf n) k F) := by
  intro k
  induction k with
  | zero => intro _; show BdF n (60 * 2 ^ 0) F; simpa using h
  | succ k ih =>
    intro hk
    have := (round_inv (show k < n by omega) (ih (by omega)) (pairsOf n) fun p hp => pairs_mem.1 (show (p.1, p.2) ∈ pairsOf n from hp)).2.2
    have e : (2 : Int) * (60 * 2 ^ k) = 60 * 2 ^ (k + 1) := by rw [Int.pow_succ]; omega
    rw [e] at this
    exact this
/-- What is asked of the times that are added. -/
theorem flK_sm {n : Nat} (hn : n ≤ 6) {F : Tab} (h : BdF n 60 F) {k a b : Nat} (hk : k < n) (ha : a < n) (hb : b ≤ n) :
    (∀ x c, x < n → flK n F k a b x k = some c → 0 ≤ c ∧ c ≤ 1000000) ∧ (∀ y c, y < n → flK n F k a b k y = some c → 0 ≤ c ∧ c ≤ 1000000) := by
  have h1 := floyd_bd h k (by omega)
  obtain ⟨r1, r2, _⟩ := round_inv hk h1 (preP n a b) (preP_mem (by omega) hb (.inl ha))
  have hM : (60 : Int) * 2 ^ k ≤ 1000000 := by
    have : k = 0 ∨ k = 1 ∨ k = 2 ∨ k = 3 ∨ k = 4 ∨ k = 5 := by omega
    rcases this with rfl | rfl | rfl | rfl | rfl | rfl <;> decide
  refine ⟨fun x c hx q => ?_, fun y c hy q => ?_⟩
  · unfold flK at q; rw [r1 x hx] at q
    have := h1.bd _ _ _ q; omega
  · unfold flK at q; rw [r2 y hy] at q
    have := h1.bd _ _ _ q; omega
theorem base_bd {n : Nat} {E : List Edg} (hE : ∀ e ∈ E, 0 ≤ e.2.2 ∧ e.2.2 ≤ 60 ∧ e.1 ≠ e.2.1) : BdF n 60 (baseF n E) := by
  unfold baseF
  have key : ∀ (L : List Edg) (F : Tab), (∀ e ∈ L, 0 ≤ e.2.2 ∧ e.2.2 ≤ 60 ∧ e.1 ≠ e.2.1) → BdF n 60 F → BdF n 60 (L.foldl gateF F) := by
    intro L
    induction L with
    | nil => intro F _ h; exact h
    | cons e L ih =>
      intro F hL h
      have he := hL e List.mem_cons_self
      refine ih (gateF F e) (fun q hq => hL q (List.mem_cons_of_mem _ hq)) ⟨fun x hx => ?_, fun x y c q => ?_⟩
      · unfold gateF setT
        rw [if_neg (fun q => he.2.2 (q.2.symm.trans q.1)), if_neg (fun q => he.2.2 (q.1.symm.trans q.2))]
        exact h.diag x hx
      · have new : ∀ c, soonT (F e.1 e.2.1) (some e.2.2) = some c → 0 ≤ c ∧ c ≤ 60 := fun c q => by
          rcases soon_eq (F e.1 e.2.1) (some e.2.2) with s | s
          · rw [s] at q; exact h.bd _ _ _ q
          · rw [s] at q; cases q; exact ⟨he.1, he.2.1⟩
        unfold gateF setT at q
        split at q
        · exact new c q
        · split at q
          · exact new c q
          · exact h.bd _ _ _ q
  refine key E (noneF n) hE ⟨fun x _ => ?_, fun x y c q => ?_⟩
  · unfold noneF; rw [if_neg (fun q => q.2.2 rfl)]
  · unfold noneF at q; split at q
    · cases q
    · cases q; omega
end Go.Proofs.YtjoagmjijbfjkaaGreatDoor
/-
  WHAT THE LAWS SAY: rooms, names, scenes without marks. Plain.
-/
namespace Go.Proofs.YtjoagmjijbfjkaaGreatDoor
open Go Go.Am
theorem why_none {s : Scn} {room : Nat} : whyP s room = none ↔ exB s room (allN s) = false := few_none
theorem why_some {s : Scn} (h : ScOk s) {room : Nat} {w : List Int} (e : whyP s room = some w) : w ≠ [] := by
  obtain ⟨b, rfl, _, hp, _⟩ := few_min h e
  intro q
  unfold idsP at q
  rw [List.map_eq_nil_iff] at q
  rw [exB_M, q, ex_none h] at hp
  cases hp
theorem rm_of {s : Scn} (h : ScOk s) {room : Nat} (hr : room < nR s) : rmE s (room : Int) = 0 := by
  have hn := nR_eq h
  unfold rmE
  rw [if_pos (scB_iff.2 h)]
  exact if_pos (inB_iff.2 (show 0 ≤ (room : Int) ∧ (room : Int) ≤ s.rooms - 1 by omega))
theorem mem_roomsP {s : Scn} {room : Nat} : (room : Int) ∈ roomsP s ↔ room < nR s ∧ exB s room (allN s) = false := by
  unfold roomsP
  rw [List.mem_map]
  constructor
  · rintro ⟨r, hr, e⟩
    have : r = room := Int.ofNat.inj e
    subst this
    exact mem_rooms.1 hr
  · intro q
    exact ⟨room, mem_rooms.2 q, rfl⟩
theorem named_is {s : Scn} (_h : ScOk s) {room : Nat} (hr : room < nR s) : ((roomsP s).contains (room : Int)) = (match whyP s room with | some _ => false | none => true) := by
  cases hw : whyP s room with
  | none =>
    rw [List.contains_iff_mem.2]
    exact mem_roomsP.2 ⟨hr, why_none.1 hw⟩
  | some w =>
    cases q : (roomsP s).contains (room : Int) with
    | false => rfl
    | true =>
      have := (mem_roomsP.1 (List.contains_iff_mem.1 q)).2
      rw [why_none.2 this] at hw; cases hw
/-! ### without marks -/
theorem scOk_marks {s : Scn} (h : ScOk s) : ScOk (wM s []) := ⟨h.rooms, h.fin, h.gl, h.gs, Nat.zero_le _, rfl, fun m hm => by cases hm⟩
theorem free_told {s : Scn} (h : ScOk s) {room : Nat} : toldP (wM s []) room = [(0, s.fin)] := by
  have h0 := scOk_marks h
  refine canS_ext (told_ok _ room).1 (show (0 : Int) ≤ s.fin from h.fin.1) fun n => ?_
  rw [told_iff]
  constructor
  · rintro ⟨ds, _, q⟩
    have q := (win_iff.1 q).1
    exact ⟨_, List.mem_cons_self, q⟩
  · rintro ⟨u, hu, q⟩
    rw [List.mem_singleton] at hu
    subst hu
    obtain ⟨ds, hd⟩ := allD_ne h0
    refine ⟨ds, hd, win_iff.2 ⟨q, fun m hm => ?_⟩⟩
    obtain ⟨i, hi, _⟩ := mem_pick.1 hm
    cases hi
theorem free_rooms {s : Scn} (h : ScOk s) : (roomsP (wM s [])).length = nR s := by
  have e : roomsN (wM s []) = List.range (nR s) := by
    unfold roomsN
    refine List.filter_eq_self.2 fun r _ => ?_
    rw [exB_M]
    have : pickS (wM s []).marks (allN (wM s [])) = [] := rfl
    rw [this, ex_none (scOk_marks h)]; rfl
  unfold roomsP
  rw [e, List.length_map, List.length_range]
theorem far_diag {s : Scn} (h : ScOk s) {ds : List Int} (hd : areD (gSp s.gates) ds) {r : Nat} (hr : r < nR s) : farP s ds r r = some 0 := by
  refine (floyd_bd (n := nR s) (base_bd (E := edgs s.gates ds) fun e he => ?_) (nR s) (Nat.le_refl _)).diag r hr
  obtain ⟨g, hg, e1, e2, l1, l2⟩ := mem_edgs hd he
  obtain ⟨g1, g2, g3, g4, g5⟩ := gtB_iff.1 (h.gs g hg)
  omega
/-- A clock in a room, known to the minute. -/
theorem clock_told {s : Scn} (h : ScOk s) {room : Nat} (hr : room < nR s) {m : Mk} {t : Int} (hm : m ∈ s.marks) (hk : m.kd.val = 1) (hroom : m.room = (room : Int)) (hlo : m.lo = t) (hhi : m.hi = t) :
    toldP s room = [] ∨ toldP s room = [(t, t)] := by
  have only : ∀ n, inL (toldP s room) n → n = t := by
    intro n hn
    obtain ⟨ds, hd, q⟩ := told_iff.1 hn
    have q := (win_iff.1 q).2 m (by rw [all_bits]; exact hm)
    have e0 : (mrk m).room = room := by show m.room.toNat = room; omega
    rw [e0, far_diag h ((mem_all h).1 hd) hr] at q
    unfold saysV at q
    rw [if_pos (show (mrk m).kind = 1 by show ((m.kd.val : Nat) : Int) = 1; omega)] at q
    have q1 : m.lo - 0 ≤ n := q.1
    have q2 : n ≤ m.hi - 0 := q.2
    omega
  have hc := (told_ok s room).1
  generalize toldP s room = l at *
  cases l with
  | nil => exact .inl rfl
  | cons u l =>
    obtain ⟨c1, c2, c3⟩ := canS_cons hc
    have u1 := only u.1 ⟨u, List.mem_cons_self, Int.le_refl _, c1⟩
    have u2 := only u.2 ⟨u, List.mem_cons_self, c1, Int.le_refl _⟩
    cases l with
    | nil => exact .inr (by rw [show u = (t, t) from Prod.ext u1 u2])
    | cons v l =>
      have v0 := (canS_cons c2).1
      have v1 := only v.1 ⟨v, List.mem_cons_of_mem _ List.mem_cons_self, Int.le_refl _, v0⟩
      have := c3 v List.mem_cons_self
      omega
/-! ### the map of what is told -/
theorem sub_filter {α : Type} {p : α → Bool} : ∀ {l L : List α}, List.Sublist l L → L.Nodup → (∀ x ∈ l, p x = true) → (∀ x ∈ L, p x = true → x ∈ l) → l = L.filter p := by
  intro l L h
  induction h with
  | slnil => intro _ _ _; rfl
  | @cons l L a _ ih =>
    intro hn h1 h2
    obtain ⟨n1, n2⟩ := List.nodup_cons.1 hn
    have hp : p a = false := by
      cases q : p a with
      | false => rfl
      | true =>
        rename_i hs
        exact absurd (hs.subset (h2 a List.mem_cons_self q)) n1
    rw [List.filter_cons_of_neg (by rw [hp]; exact Bool.false_ne_true)]
    exact ih n2 h1 fun x hx q => h2 x (List.mem_cons_of_mem _ hx) q
  | @cons_cons l L a hs ih =>
    intro hn h1 h2
    obtain ⟨n1, n2⟩ := List.nodup_cons.1 hn
    rw [List.filter_cons_of_pos (h1 a List.mem_cons_self), ← ih n2 (fun x hx => h1 x (List.mem_cons_of_mem _ hx)) fun x hx q => ?_]
    rcases List.mem_cons.1 (h2 x (List.mem_cons_of_mem _ hx) q) with e | e
    · subst e; exact absurd hx n1
    · exact e
def neR (s : Scn) (r : Nat) : Bool := !(toldP s r).isEmpty
theorem neR_rooms (s : Scn) : (List.range (nR s)).filter (neR s) = roomsN s := by
  unfold roomsN
  refine List.filter_congr fun r _ => ?_
  unfold neR
  have e := told_nil (s := s) (room := r)
  cases h1 : exB s r (allN s) with
  | true => rw [e.2 h1]; rfl
  | false =>
    cases h2 : toldP s r with
    | nil => rw [e.1 h2] at h1; cases h1
    | cons a l => rfl
end Go.Proofs.YtjoagmjijbfjkaaGreatDoor
/-
  FEWER MARKS: what the laws of witnesses say. Plain.
-/
namespace Go.Proofs.YtjoagmjijbfjkaaGreatDoor
open Go Go.Am
theorem incF_weak : ∀ {l : List Int} {L M : Int}, incF L l = true → M ≤ L → incF M l = true := by
  intro l L M h q
  cases l with
  | nil => rfl
  | cons x l =>
    simp only [incF, Bool.and_eq_true, inB_iff] at h ⊢
    exact ⟨⟨by omega, h.1.2⟩, h.2⟩
theorem incF_sub : ∀ {ms sub : List Mk}, List.Sublist sub ms → ∀ {L : Int}, incF L (ms.map (·.id)) = true → incF L (sub.map (·.id)) = true := by
  intro ms sub h
  induction h with
  | slnil => intro L h; exact h
  | @cons l₁ l₂ a _ ih =>
    intro L h
    simp only [List.map_cons, incF, Bool.and_eq_true, inB_iff] at h
    exact incF_weak (ih h.2) (by omega)
  | @cons_cons l₁ l₂ a _ ih =>
    intro L h
    simp only [List.map_cons, incF, Bool.and_eq_true] at h ⊢
    exact ⟨h.1, ih h.2⟩
theorem scOk_sub {s : Scn} (h : ScOk s) {ms : List Mk} (hs : List.Sublist ms s.marks) : ScOk (wM s ms) :=
  ⟨h.rooms, h.fin, h.gl, h.gs, Nat.le_trans hs.length_le h.ml, incF_sub hs h.inc, fun m hm => h.ms m (hs.subset hm)⟩
theorem rooms_nil {s : Scn} {ms : List Mk} : roomsP (wM s ms) = [] ↔ ∀ r, r < nR s → exM s r ms = true := by
  unfold roomsP
  rw [List.map_eq_nil_iff, List.eq_nil_iff_forall_not_mem]
  constructor
  · intro q r hr
    cases e : exM s r ms with
    | true => rfl
    | false =>
      exact absurd (mem_rooms.2 (show r < nR (wM s ms) ∧ exB (wM s ms) r (allN (wM s ms)) = false from ⟨hr, by rw [ex_wM]; exact e⟩)) (q r)
  · intro q r hr
    have := mem_rooms.1 hr
    have h2 := this.2
    rw [ex_wM, q r this.1] at h2
    cases h2
theorem exAll_iff {s : Scn} {set : Nat} : exAll s set = true ↔ roomsP (wM s (pickS s.marks set)) = [] := by
  rw [rooms_nil]
  unfold exAll
  rw [List.all_eq_true]
  constructor
  · intro q r hr
    rw [← exB_M]; exact q r (List.mem_range.2 hr)
  · intro q r hr
    rw [exB_M]; exact q r (List.mem_range.1 hr)
theorem wM_self (s : Scn) : wM s s.marks = s := rfl
theorem ag_none {s : Scn} : agP s = none ↔ roomsP s ≠ [] := by
  unfold agP
  rw [few_none]
  have e := exAll_iff (s := s) (set := allN s)
  rw [all_bits, wM_self] at e
  constructor
  · intro h q
    rw [e.2 q] at h; cases h
  · intro h
    cases q : exAll s (allN s) with
    | false => rfl
    | true => exact absurd (e.1 q) h
/-- Fewer marks than the fewest do not. -/
theorem few_less {s : Scn} (h : ScOk s) {p : Nat → Bool} {b : Nat} (hb : b < 2 ^ s.marks.length) (hmin : ∀ t, t < 2 ^ s.marks.length → p t = true → ordD t b = false)
    {sub : List Mk} (hsub : List.Sublist sub s.marks) : ∃ t, t < 2 ^ s.marks.length ∧ pickS s.marks t = sub ∧ (p t = true → (pickS s.marks b).length ≤ sub.length ∧ (sub.length = (pickS s.marks b).length → lexD (sub.map (·.id)) (idsP s b) = false)) := by
  obtain ⟨t, ht, e⟩ := sub_set hsub
  refine ⟨t, ht, e, fun hp => ?_⟩
  have q := hmin t ht hp
  rw [ord_ids h ht hb] at q
  unfold ahdD at q
  have l1 : (idsP s t).length = sub.length := by unfold idsP; rw [List.length_map, e]
  have l2 : (idsP s b).length = (pickS s.marks b).length := by unfold idsP; rw [List.length_map]
  split at q
  · rename_i hl
    rw [l1, l2] at hl
    refine ⟨by omega, fun _ => ?_⟩
    unfold idsP at q ⊢
    rwa [e] at q
  · rename_i hl
    rw [l1, l2] at hl q
    have := of_decide_eq_false q
    exact ⟨by omega, fun e => absurd e hl⟩
theorem erase_sub {α : Type} (l : List α) (i : Nat) : List.Sublist (l.eraseIdx i) l := List.eraseIdx_sublist l i
theorem erase_map {α β : Type} (f : α → β) (l : List α) (i : Nat) : (l.map f).eraseIdx i = (l.eraseIdx i).map f := by
  induction l generalizing i with
  | nil => rfl
  | cons a l ih =>
    cases i with
    | zero => rfl
    | succ i => simp only [List.map_cons, List.eraseIdx_cons_succ]; rw [ih]
theorem erase_len {α : Type} {l : List α} {i : Nat} (h : i < l.length) : (l.eraseIdx i).length + 1 = l.length := by rw [List.length_eraseIdx, if_pos h]; omega
structure AgF (s : Scn) (w : List Int) (sub : List Mk) : Prop where
  ids : w = sub.map (·.id)
  ne : w ≠ []
  sl : List.Sublist sub s.marks
  nil : roomsP (wM s sub) = []
  less : ∀ i, i < w.length → roomsP (wM s (sub.eraseIdx i)) ≠ []
theorem ag_some {s : Scn} (h : ScOk s) {w : List Int} (e : agP s = some w) : ∃ sub, AgF s w sub := by
  obtain ⟨b, rfl, hb, hp, hmin⟩ := few_min h e
  have hn := nR_eq h
  have hnil := exAll_iff.1 hp
  refine ⟨pickS s.marks b, rfl, fun q => ?_, pick_sub b _, hnil, fun i hi q => ?_⟩
  · unfold idsP at q
    rw [List.map_eq_nil_iff] at q
    rw [q] at hnil
    have := rooms_nil.1 hnil 0 (by omega)
    rw [ex_none h] at this; cases this
  · have hi : i < (pickS s.marks b).length := by unfold idsP at hi; rwa [List.length_map] at hi
    obtain ⟨t, _, et, hl⟩ := few_less h hb hmin ((erase_sub (pickS s.marks b) i).trans (pick_sub b _))
    have := (hl (exAll_iff.2 (by rw [et]; exact q))).1
    have := erase_len hi
    omega
structure WyF (s : Scn) (room : Nat) (w : List Int) (sub : List Mk) : Prop where
  ids : w = sub.map (·.id)
  ne : w ≠ []
  sl : List.Sublist sub s.marks
  ex : exM s room sub = true
  less : ∀ i, i < w.length → exM s room (sub.eraseIdx i) = false
  min : ∀ o, List.Sublist o s.marks → exM s room o = true → sub.length ≤ o.length ∧ (o.length = sub.length → lexD (o.map (·.id)) w = false)
theorem why_F {s : Scn} (h : ScOk s) {room : Nat} {w : List Int} (e : whyP s room = some w) : ∃ sub, WyF s room w sub := by
  have hne := why_some h e
  obtain ⟨b, rfl, hb, hp, hmin⟩ := few_min h e
  rw [exB_M] at hp
  have key : ∀ o, List.Sublist o s.marks → exM s room o = true → (pickS s.marks b).length ≤ o.length ∧ (o.length = (pickS s.marks b).length → lexD (o.map (·.id)) (idsP s b) = false) := by
    intro o ho hx
    obtain ⟨t, _, et, hl⟩ := few_less h hb hmin ho
    exact hl (by rw [exB_M, et]; exact hx)
  refine ⟨pickS s.marks b, rfl, hne, pick_sub b _, hp, fun i hi => ?_, key⟩
  have hi : i < (pickS s.marks b).length := by unfold idsP at hi; rwa [List.length_map] at hi
  cases q : exM s room ((pickS s.marks b).eraseIdx i) with
  | false => rfl
  | true =>
    have := (key _ ((erase_sub _ i).trans (pick_sub b _)) q).1
    have := erase_len hi
    omega
/-- What is told by fewer marks. -/
theorem told_wM {s : Scn} {room : Nat} {ms : List Mk} : toldP (wM s ms) room = [] ↔ exM s room ms = true := by rw [told_nil, ex_wM]
/-- The first difference. -/
theorem lex_first : ∀ {a b : List Int}, lexD a b = false → ∀ i x y, a.take i = b.take i → a[i]? = some x → b[i]? = some y → x ≠ y → y < x := by
  intro a
  induction a with
  | nil => intro b _ i x y _ h; simp at h
  | cons u a ih =>
    intro b h i x y ht hx hy hne
    cases b with
    | nil => simp at hy
    | cons v b =>
      cases i with
      | zero =>
        simp only [List.getElem?_cons_zero, Option.some.injEq] at hx hy
        subst hx; subst hy
        unfold lexD at h
        rw [if_neg hne] at h
        have := of_decide_eq_false h
        omega
      | succ i =>
        simp only [List.take_succ_cons, List.cons.injEq] at ht
        obtain ⟨e1, e2⟩ := ht
        subst e1
        unfold lexD at h
        rw [if_pos rfl] at h
        exact ih h i x y e2 (by simpa using hx) (by simpa using hy) hne
end Go.Proofs.YtjoagmjijbfjkaaGreatDoor
