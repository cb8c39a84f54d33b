import Derived.Test.YtmllgnnhblhfeaaDoorAmS
/-
  SPANS THAT ARE JOINED: plain theory.
-/
namespace Go.Proofs.YtmllgnnhblhfeaaDoor
open Go Go.Am
abbrev Spn := Int × Int
def inS (s : Spn) (n : Int) : Prop := s.1 ≤ n ∧ n ≤ s.2
def inL (l : List Spn) (n : Int) : Prop := ∃ s ∈ l, inS s n
/-- Spans in increasing order, as few as there can be. -/
def canS : List Spn → Prop
  | [] => True
  | [s] => s.1 ≤ s.2
  | s :: t :: l => s.1 ≤ s.2 ∧ s.2 + 1 < t.1 ∧ canS (t :: l)
theorem canS_cons {s : Spn} {l : List Spn} (h : canS (s :: l)) : s.1 ≤ s.2 ∧ canS l ∧ ∀ t ∈ l, s.2 + 1 < t.1 := by
  induction l generalizing s with
  | nil => exact ⟨h, trivial, fun t ht => by cases ht⟩
  | cons t l ih =>
    obtain ⟨h1, h2, h3⟩ := h
    obtain ⟨q1, q2, q3⟩ := ih h3
    refine ⟨h1, h3, fun u hu => ?_⟩
    rcases List.mem_cons.1 hu with rfl | hu
    · exact h2
    · have := q3 u hu; omega
theorem canS_of {s : Spn} {l : List Spn} (h1 : s.1 ≤ s.2) (h2 : canS l) (h3 : ∀ t, l.head? = some t → s.2 + 1 < t.1) : canS (s :: l) := by
  cases l with
  | nil => exact h1
  | cons t l => exact ⟨h1, h3 t rfl, h2⟩
/-- What numbers they have tells them. -/
theorem canS_ext : ∀ {l m : List Spn}, canS l → canS m → (∀ n, inL l n ↔ inL m n) → l = m := by
  intro l
  induction l with
  | nil =>
    intro m _ hm h
    cases m with
    | nil => rfl
    | cons t m =>
      have := canS_cons hm
      obtain ⟨s, hs, _⟩ := (h t.1).2 ⟨t, List.mem_cons_self, Int.le_refl _, this.1⟩
      cases hs
  | cons s l ih =>
    intro m hl hm h
    obtain ⟨a1, a2, a3⟩ := canS_cons hl
    cases m with
    | nil =>
      obtain ⟨t, ht, _⟩ := (h s.1).1 ⟨s, List.mem_cons_self, Int.le_refl _, a1⟩
      cases ht
    | cons t m =>
      obtain ⟨b1, b2, b3⟩ := canS_cons hm
      have lo : ∀ {s : Spn} {l : List Spn}, (∀ t ∈ l, s.2 + 1 < t.1) → s.1 ≤ s.2 → ∀ n, inL (s :: l) n → s.1 ≤ n := fun {s l} h3 h1 n ⟨u, hu, q⟩ => by
        rcases List.mem_cons.1 hu with rfl | hu
        · exact q.1
        · have := h3 u hu; have := q.1; omega
      have e1 : s.1 = t.1 := by
        have p := lo b3 b1 s.1 ((h s.1).1 ⟨s, List.mem_cons_self, Int.le_refl _, a1⟩)
        have q := lo a3 a1 t.1 ((h t.1).2 ⟨t, List.mem_cons_self, Int.le_refl _, b1⟩)
        omega
      have hi : ∀ {s t : Spn} {l m : List Spn}, s.1 = t.1 → s.1 ≤ s.2 → t.1 ≤ t.2 → (∀ u ∈ m, t.2 + 1 < u.1) → (∀ n, inL (s :: l) n → inL (t :: m) n) → s.2 ≤ t.2 := fun {s t l m} e h1 h2 h3 hh => by
        refine Classical.byContradiction fun hn => ?_
        obtain ⟨u, hu, q⟩ := hh (t.2 + 1) ⟨s, List.mem_cons_self, by show s.1 ≤ t.2 + 1; omega, by show t.2 + 1 ≤ s.2; omega⟩
        rcases List.mem_cons.1 hu with rfl | hu
        · have := q.2; omega
        · have := h3 u hu; have := q.1; omega
      have e2 : s.2 = t.2 := by
        have p := hi e1 a1 b1 b3 (fun n hn => (h n).1 hn)
        have q := hi e1.symm b1 a1 a3 (fun n hn => (h n).2 hn)
        omega
      have est : s = t := Prod.ext e1 e2
      subst est
      rw [ih a2 b2 fun n => ?_]
      constructor
      · rintro ⟨u, hu, q⟩
        obtain ⟨w, hw, q2⟩ := (h n).1 ⟨u, List.mem_cons_of_mem _ hu, q⟩
        rcases List.mem_cons.1 hw with rfl | hw
        · have := a3 u hu; have := q.1; have := q2.2; omega
        · exact ⟨w, hw, q2⟩
      · rintro ⟨u, hu, q⟩
        obtain ⟨w, hw, q2⟩ := (h n).2 ⟨u, List.mem_cons_of_mem _ hu, q⟩
        rcases List.mem_cons.1 hw with rfl | hw
        · have := b3 u hu; have := q.1; have := q2.2; omega
        · exact ⟨w, hw, q2⟩
/-! ### joining, from the left, with the last span at hand -/
/-- The spans before the last one, and the last one, if there is one. -/
def joinV : List Spn → List Spn → List Spn
  | acc, [] => acc
  | acc, s :: l => joinV (match acc.getLast? with
    | none => [s]
    | some t => if s.1 ≤ t.2 + 1 then acc.dropLast ++ [(t.1, max t.2 s.2)] else acc ++ [s]) l
def nxtJ (acc : List Spn) (s : Spn) : List Spn := match acc.getLast? with
  | none => [s]
  | some t => if s.1 ≤ t.2 + 1 then acc.dropLast ++ [(t.1, max t.2 s.2)] else acc ++ [s]
theorem joinV_cons (acc : List Spn) (s : Spn) (l : List Spn) : joinV acc (s :: l) = joinV (nxtJ acc s) l := rfl
/-- Spans before a last one stay apart. -/
theorem canS_app : ∀ {p : List Spn} {t : Spn}, canS (p ++ [t]) ↔ canS p ∧ t.1 ≤ t.2 ∧ ∀ u ∈ p, u.2 + 1 < t.1 := by
  intro p
  induction p with
  | nil => intro t; exact ⟨fun h => ⟨trivial, h, fun u hu => by cases hu⟩, fun h => h.2.1⟩
  | cons a p ih =>
    intro t
    constructor
    · intro h
      obtain ⟨h1, h2, h3⟩ := canS_cons (l := p ++ [t]) h
      obtain ⟨q1, q2, q3⟩ := ih.1 h2
      refine ⟨canS_of h1 q1 fun u hu => h3 u (List.mem_append_left _ (List.mem_of_mem_head? hu)), q2, fun u hu => ?_⟩
      rcases List.mem_cons.1 hu with rfl | hu
      · exact h3 t (List.mem_append_right _ List.mem_cons_self)
      · exact q3 u hu
    · rintro ⟨h1, h2, h3⟩
      obtain ⟨q1, q2, q3⟩ := canS_cons h1
      refine canS_of (l := p ++ [t]) q1 (ih.2 ⟨q2, h2, fun u hu => h3 u (List.mem_cons_of_mem _ hu)⟩) fun u hu => ?_
      cases p with
      | nil => cases hu; exact h3 a List.mem_cons_self
      | cons b p => cases hu; exact q3 _ List.mem_cons_self
theorem last_split {α : Type} {l : List α} {t : α} (h : l.getLast? = some t) : l = l.dropLast ++ [t] := by
  obtain ⟨ys, e⟩ := List.getLast?_eq_some_iff.1 h
  rw [e]; simp
theorem nxtJ_ok {acc : List Spn} {s : Spn} (hc : canS acc) (hs : s.1 ≤ s.2) (hlo : ∀ u ∈ acc, u.1 ≤ s.1) : canS (nxtJ acc s) ∧ (∀ n, inL (nxtJ acc s) n ↔ inL acc n ∨ inS s n) ∧ ∀ u ∈ nxtJ acc s, u.1 ≤ s.1 := by
  unfold nxtJ
  cases h : acc.getLast? with
  | none =>
    rw [List.getLast?_eq_none_iff] at h
    subst h
    refine ⟨hs, fun n => ⟨?_, ?_⟩, fun u hu => ?_⟩
    · rintro ⟨u, hu, q⟩; rw [List.mem_singleton.1 hu] at q; exact .inr q
    · rintro (⟨u, hu, _⟩ | q)
      · cases hu
      · exact ⟨s, List.mem_cons_self, q⟩
    · rw [List.mem_singleton.1 hu]; exact Int.le_refl _
  | some t =>
    have e := last_split h
    generalize acc.dropLast = p at e
    subst e
    obtain ⟨c1, c2, c3⟩ := canS_app.1 hc
    have ht := hlo t (List.mem_append_right _ List.mem_cons_self)
    by_cases hj : s.1 ≤ t.2 + 1
    · simp only [if_pos hj]
      refine ⟨canS_app.2 ⟨c1, by show t.1 ≤ max t.2 s.2; omega, c3⟩, fun n => ⟨?_, ?_⟩, fun u hu => ?_⟩
      · rintro ⟨u, hu, q⟩
        rcases List.mem_append.1 hu with hu | hu
        · exact .inl ⟨u, List.mem_append_left _ hu, q⟩
        · rw [List.mem_singleton.1 hu] at q
          have q1 : t.1 ≤ n := q.1
          have q2 : n ≤ max t.2 s.2 := q.2
          by_cases h1 : n ≤ t.2
          · exact .inl ⟨t, List.mem_append_right _ List.mem_cons_self, q1, h1⟩
          · exact .inr ⟨by omega, by omega⟩
      · rintro (⟨u, hu, q⟩ | q)
        · rcases List.mem_append.1 hu with hu | hu
          · exact ⟨u, List.mem_append_left _ hu, q⟩
          · rw [List.mem_singleton.1 hu] at q
            exact ⟨_, List.mem_append_right _ List.mem_cons_self, q.1, by show n ≤ max t.2 s.2; have := q.2; omega⟩
        · exact ⟨_, List.mem_append_right _ List.mem_cons_self, by show t.1 ≤ n; have := q.1; omega, by show n ≤ max t.2 s.2; have := q.2; omega⟩
      · rcases List.mem_append.1 hu with hu | hu
        · exact hlo u (List.mem_append_left _ hu)
        · rw [List.mem_singleton.1 hu]; exact ht
    · simp only [if_neg hj]
      refine ⟨canS_app.2 ⟨hc, hs, fun u hu => ?_⟩, fun n => ⟨?_, ?_⟩, fun u hu => ?_⟩
      · rcases List.mem_append.1 hu with hu | hu
        · have := c3 u hu; omega
        · rw [List.mem_singleton.1 hu]; omega
      · rintro ⟨u, hu, q⟩
        rcases List.mem_append.1 hu with hu | hu
        · exact .inl ⟨u, hu, q⟩
        · rw [List.mem_singleton.1 hu] at q; exact .inr q
      · rintro (⟨u, hu, q⟩ | q)
        · exact ⟨u, List.mem_append_left _ hu, q⟩
        · exact ⟨s, List.mem_append_right _ List.mem_cons_self, q⟩
      · rcases List.mem_append.1 hu with hu | hu
        · exact hlo u hu
        · rw [List.mem_singleton.1 hu]; exact Int.le_refl _
theorem joinV_ok : ∀ (l acc : List Spn), canS acc → (∀ s ∈ l, s.1 ≤ s.2) → l.Pairwise (fun a b => a.1 ≤ b.1) → (∀ u ∈ acc, ∀ s ∈ l, u.1 ≤ s.1) → canS (joinV acc l) ∧ ∀ n, inL (joinV acc l) n ↔ inL acc n ∨ inL l n := by
  intro l
  induction l with
  | nil => intro acc hc _ _ _; exact ⟨hc, fun n => ⟨.inl, fun h => h.elim id fun ⟨u, hu, _⟩ => by cases hu⟩⟩
  | cons s l ih =>
    intro acc hc hs hp hlo
    rw [joinV_cons]
    obtain ⟨h1, h2, h3⟩ := nxtJ_ok hc (hs s List.mem_cons_self) fun u hu => hlo u hu s List.mem_cons_self
    obtain ⟨q1, q2⟩ := ih (nxtJ acc s) h1 (fun t ht => hs t (List.mem_cons_of_mem _ ht)) hp.of_cons fun u hu t ht => by
      have a := h3 u hu
      have b := List.rel_of_pairwise_cons hp ht
      omega
    refine ⟨q1, fun n => ?_⟩
    rw [q2, h2]
    constructor
    · rintro ((h | h) | ⟨u, hu, q⟩)
      · exact .inl h
      · exact .inr ⟨s, List.mem_cons_self, h⟩
      · exact .inr ⟨u, List.mem_cons_of_mem _ hu, q⟩
    · rintro (h | ⟨u, hu, q⟩)
      · exact .inl (.inl h)
      · rcases List.mem_cons.1 hu with rfl | hu
        · exact .inl (.inr q)
        · exact .inr ⟨u, hu, q⟩
/-- In whatever order spans are joined that have the same numbers, the same comes out. -/
theorem joinV_same {l m : List Spn} (hl : ∀ s ∈ l, s.1 ≤ s.2) (hm : ∀ s ∈ m, s.1 ≤ s.2) (pl : l.Pairwise (fun a b => a.1 ≤ b.1)) (pm : m.Pairwise (fun a b => a.1 ≤ b.1)) (h : ∀ n, inL l n ↔ inL m n) : joinV [] l = joinV [] m := by
  obtain ⟨a1, a2⟩ := joinV_ok l [] trivial hl pl fun u hu => by cases hu
  obtain ⟨b1, b2⟩ := joinV_ok m [] trivial hm pm fun u hu => by cases hu
  have none : ∀ n, ¬ inL [] n := fun n ⟨u, hu, _⟩ => by cases hu
  refine canS_ext a1 b1 fun n => ?_
  rw [a2, b2]
  constructor
  · rintro (h1 | h1)
    · exact absurd h1 (none n)
    · exact .inr ((h n).1 h1)
  · rintro (h1 | h1)
    · exact absurd h1 (none n)
    · exact .inr ((h n).2 h1)
end Go.Proofs.YtmllgnnhblhfeaaDoor
/-
  HOW FAR ROOMS ARE: plain theory. Floyd's table and the reference's rounds say the same.
-/
namespace Go.Proofs.YtmllgnnhblhfeaaDoor
open Go Go.Am
abbrev Edg := Nat × Nat × Int
abbrev Tm := Option Int
/-- A gate goes from a to b, from either side. -/
def St1 (E : List Edg) (a b : Nat) (w : Int) : Prop := (a, b, w) ∈ E ∨ (b, a, w) ∈ E
theorem St1.symm {E : List Edg} {a b : Nat} {w : Int} (h : St1 E a b w) : St1 E b a w := Or.symm h
/-- A way from a to b that takes c, by rooms in between of which S is so. -/
inductive Way (E : List Edg) (S : Nat → Prop) : Nat → Nat → Int → Prop
  | none (a : Nat) : Way E S a a 0
  | one {a b : Nat} {w : Int} : St1 E a b w → Way E S a b w
  | cons {a x b : Nat} {w c : Int} : St1 E a x w → S x → Way E S x b c → Way E S a b (w + c)
theorem Way.mono {E : List Edg} {S T : Nat → Prop} (h : ∀ x, S x → T x) {a b : Nat} {c : Int} (q : Way E S a b c) : Way E T a b c := by
  induction q with
  | none a => exact .none a
  | one s => exact .one s
  | cons s hx _ ih => exact .cons s (h _ hx) ih
/-- A way by rooms below k + 1 is one by rooms below k, or goes by k. -/
theorem Way.cut {E : List Edg} (hE : ∀ a b w, St1 E a b w → 0 ≤ w) {k : Nat} {a b : Nat} {c : Int} (q : Way E (fun x => x < k + 1) a b c) :
    Way E (fun x => x < k) a b c ∨ ∃ c1 c2, c1 + c2 ≤ c ∧ Way E (fun x => x < k) a k c1 ∧ Way E (fun x => x < k) k b c2 := by
  induction q with
  | none a => exact .inl (.none a)
  | one s => exact .inl (.one s)
  | @cons a x b w c s hx _ ih =>
    rcases Nat.lt_or_ge x k with hk | hk
    · rcases ih with h | ⟨c1, c2, h, h1, h2⟩
      · exact .inl (.cons s hk h)
      · exact .inr ⟨w + c1, c2, by omega, .cons s hk h1, h2⟩
    · have hk2 : x = k := by omega
      subst hk2
      rcases ih with h | ⟨c1, c2, h, h1, h2⟩
      · exact .inr ⟨w, c, Int.le_refl _, .one s, h⟩
      · refine .inr ⟨w, c2, ?_, .one s, h2⟩
        have : 0 ≤ c1 := by
          have key : ∀ {S : Nat → Prop} {a b : Nat} {c : Int}, Way E S a b c → 0 ≤ c := by
            intro S a b c q
            induction q with
            | none a => exact Int.le_refl _
            | one s => exact hE _ _ _ s
            | cons s _ _ ih => have := hE _ _ _ s; omega
          exact key h1
        omega
def befT (t o : Tm) : Bool := match t, o with
  | .none, _ => false
  | .some _, .none => true
  | .some a, .some b => decide (a < b)
def soonT (a b : Tm) : Tm := if befT b a then b else a
def andT (a b : Tm) : Tm := match a, b with
  | .some x, .some y => .some (x + y)
  | _, _ => .none
/-- A time of at most so long. -/
def leN (t : Tm) (c : Int) : Prop := ∃ d, t = some d ∧ d ≤ c
theorem leN.mono {t : Tm} {c d : Int} (h : leN t c) (q : c ≤ d) : leN t d := by obtain ⟨x, rfl, hx⟩ := h; exact ⟨x, rfl, by omega⟩
theorem soon_l {a b : Tm} {c : Int} (h : leN a c) : leN (soonT a b) c := by
  obtain ⟨x, rfl, hx⟩ := h
  unfold soonT
  cases b with
  | none => exact ⟨x, rfl, hx⟩
  | some y =>
    show leN (if decide (y < x) = true then some y else some x) c
    rcases Int.lt_or_le y x with q | q
    · rw [if_pos (decide_eq_true q)]; exact ⟨y, rfl, by omega⟩
    · rw [if_neg (by rw [decide_eq_true_eq]; omega)]; exact ⟨x, rfl, hx⟩
theorem soon_r {a b : Tm} {c : Int} (h : leN b c) : leN (soonT a b) c := by
  obtain ⟨y, rfl, hy⟩ := h
  unfold soonT
  cases a with
  | none => exact ⟨y, rfl, hy⟩
  | some x =>
    show leN (if decide (y < x) = true then some y else some x) c
    rcases Int.lt_or_le y x with q | q
    · rw [if_pos (decide_eq_true q)]; exact ⟨y, rfl, hy⟩
    · rw [if_neg (by rw [decide_eq_true_eq]; omega)]; exact ⟨x, rfl, by omega⟩
theorem soon_eq (a b : Tm) : soonT a b = a ∨ soonT a b = b := by
  unfold soonT; split
  · exact .inr rfl
  · exact .inl rfl
theorem and_le {a b : Tm} {c d : Int} (h : leN a c) (q : leN b d) : leN (andT a b) (c + d) := by
  obtain ⟨x, rfl, hx⟩ := h; obtain ⟨y, rfl, hy⟩ := q
  exact ⟨x + y, rfl, by omega⟩
abbrev Tab := Nat → Nat → Tm
def setT (F : Tab) (a b : Nat) (t : Tm) : Tab := fun x y => if x = a ∧ y = b then t else F x y
/-- One room by which ways go: all pairs of some list, in place. -/
def stepF (k : Nat) (F : Tab) (p : Nat × Nat) : Tab := setT F p.1 p.2 (soonT (F p.1 p.2) (andT (F p.1 k) (F k p.2)))
def roundF (k : Nat) (F : Tab) (l : List (Nat × Nat)) : Tab := l.foldl (stepF k) F
theorem stepF_le {k : Nat} {F : Tab} {p : Nat × Nat} {a b : Nat} {c : Int} (h : leN (F a b) c) : leN (stepF k F p a b) c := by
  unfold stepF setT
  split
  · rename_i e; obtain ⟨rfl, rfl⟩ := e; exact soon_l h
  · exact h
theorem roundF_le {k : Nat} : ∀ {l : List (Nat × Nat)} {F : Tab} {a b : Nat} {c : Int}, leN (F a b) c → leN (roundF k F l a b) c := by
  intro l
  induction l with
  | nil => intro F a b c h; exact h
  | cons p l ih => intro F a b c h; exact ih (stepF_le h)
theorem roundF_new {k : Nat} : ∀ {l : List (Nat × Nat)} {F : Tab} {a b : Nat} {c d : Int}, (a, b) ∈ l → leN (F a k) c → leN (F k b) d → leN (roundF k F l a b) (c + d) := by
  intro l
  induction l with
  | nil => intro F a b c d h; cases h
  | cons p l ih =>
    intro F a b c d h h1 h2
    rcases List.mem_cons.1 h with rfl | h
    · refine roundF_le (l := l) ?_
      unfold stepF setT
      rw [if_pos ⟨rfl, rfl⟩]
      exact soon_r (and_le h1 h2)
    · exact ih h (stepF_le h1) (stepF_le h2)
/-- What a table says there is. -/
def sndF (E : List Edg) (F : Tab) : Prop := ∀ a b c, F a b = some c → Way E (fun _ => True) a b c
theorem Way.trans {E : List Edg} {a x b : Nat} {c d : Int} (p : Way E (fun _ => True) a x c) (q : Way E (fun _ => True) x b d) : Way E (fun _ => True) a b (c + d) := by
  induction p with
  | none a => rw [Int.zero_add]; exact q
  | one s => exact .cons s trivial q
  | cons s _ _ ih => rw [Int.add_assoc]; exact .cons s trivial (ih q)
/-- The same, of the rooms below n alone. -/
def sndN (E : List Edg) (n : Nat) (F : Tab) : Prop := ∀ a b c, a < n → b < n → F a b = some c → Way E (fun _ => True) a b c
theorem stepF_snd {E : List Edg} {n k : Nat} {F : Tab} {p : Nat × Nat} (hk : k < n) (_hp : p.1 < n ∧ p.2 < n) (h : sndN E n F) : sndN E n (stepF k F p) := by
  intro a b c ha hb e
  unfold stepF setT at e
  split at e
  · rename_i q; obtain ⟨rfl, rfl⟩ := q
    rcases soon_eq (F p.1 p.2) (andT (F p.1 k) (F k p.2)) with r | r
    · rw [r] at e; exact h _ _ _ ha hb e
    · rw [r] at e
      cases e1 : F p.1 k with
      | none => rw [e1] at e; cases e
      | some x =>
        cases e2 : F k p.2 with
        | none => rw [e1, e2] at e; cases e
        | some y =>
          rw [e1, e2] at e
          have : x + y = c := Option.some.inj e
          subst this
          exact (h _ _ _ ha hk e1).trans (h _ _ _ hk hb e2)
  · exact h _ _ _ ha hb e
theorem roundF_snd {E : List Edg} {n k : Nat} (hk : k < n) : ∀ {l : List (Nat × Nat)} {F : Tab}, (∀ p ∈ l, p.1 < n ∧ p.2 < n) → sndN E n F → sndN E n (roundF k F l) := by
  intro l
  induction l with
  | nil => intro F _ h; exact h
  | cons p l ih => intro F hl h; exact ih (fun q hq => hl q (List.mem_cons_of_mem _ hq)) (stepF_snd hk (hl p List.mem_cons_self) h)
/-- Rooms by which ways go, one after the other. -/
def floydV (l : List (Nat × Nat)) : Nat → Tab → Tab
  | 0, F => F
  | k + 1, F => roundF k (floydV l k F) l
theorem floyd_snd {E : List Edg} {n : Nat} {l : List (Nat × Nat)} (hl : ∀ p ∈ l, p.1 < n ∧ p.2 < n) {F : Tab} (h : sndN E n F) : ∀ k, k ≤ n → sndN E n (floydV l k F) := by
  intro k
  induction k with
  | zero => intro _; exact h
  | succ k ih => intro hk; exact roundF_snd (by omega) hl (ih (by omega))
theorem floyd_le {E : List Edg} (hE : ∀ a b w, St1 E a b w → 0 ≤ w) {n : Nat} {l : List (Nat × Nat)} (hl : ∀ a b, a < n → b < n → (a, b) ∈ l) {F : Tab}
    (h0 : ∀ a, a < n → leN (F a a) 0) (h1 : ∀ a b w, St1 E a b w → leN (F a b) w) :
    ∀ k, k ≤ n → ∀ a b c, a < n → b < n → Way E (fun x => x < k) a b c → leN (floydV l k F a b) c := by
  intro k
  induction k with
  | zero =>
    intro _ a b c ha hb q
    cases q with
    | none => exact h0 a ha
    | one s => exact h1 _ _ _ s
    | cons s hx _ => exact absurd hx (Nat.not_lt_zero _)
  | succ k ih =>
    intro hk a b c ha hb q
    rcases q.cut hE with q | ⟨c1, c2, hc, q1, q2⟩
    · exact roundF_le (ih (by omega) a b c ha hb q)
    · exact (roundF_new (hl a b ha hb) (ih (by omega) a k c1 ha (by omega) q1) (ih (by omega) k b c2 (by omega) hb q2)).mono hc
/-- Ways stay among the rooms. -/
theorem Way.inN {E : List Edg} {n : Nat} (hn : ∀ a b w, St1 E a b w → a < n ∧ b < n) {S : Nat → Prop} {a b : Nat} {c : Int} (q : Way E S a b c) : Way E (fun x => x < n) a b c := by
  induction q with
  | none a => exact .none a
  | one s => exact .one s
  | cons s _ _ ih => exact .cons s (hn _ _ _ s).2 ih
end Go.Proofs.YtmllgnnhblhfeaaDoor
/-
  HOW FAR ROOMS ARE, as the reference works it out: plain theory.
-/
namespace Go.Proofs.YtmllgnnhblhfeaaDoor
open Go Go.Am
/-- Rooms of a way, from its end back to r. -/
inductive Pth (E : List Edg) (r : Nat) : List Nat → Int → Prop
  | one : Pth E r [r] 0
  | cons {a x : Nat} {l : List Nat} {w c : Int} : St1 E a x w → Pth E r (x :: l) c → Pth E r (a :: x :: l) (w + c)
theorem Pth.way {E : List Edg} {r : Nat} : ∀ {l : List Nat} {c : Int}, Pth E r l c → ∀ {a m}, l = a :: m → Way E (fun _ => True) a r c := by
  intro l c h
  induction h with
  | one => intro a m e; cases e; exact .none r
  | cons s _ ih => intro a m e; cases e; exact .cons s trivial (ih rfl)
theorem Pth.nonneg {E : List Edg} (hE : ∀ a b w, St1 E a b w → 0 ≤ w) {r : Nat} {l : List Nat} {c : Int} (h : Pth E r l c) : 0 ≤ c := by
  induction h with
  | one => exact Int.le_refl _
  | cons s _ ih => have := hE _ _ _ s; omega
/-- What is left of a way from a room of it on. -/
theorem Pth.from {E : List Edg} (hE : ∀ a b w, St1 E a b w → 0 ≤ w) {r : Nat} {l : List Nat} {c : Int} (h : Pth E r l c) :
    ∀ {a : Nat}, a ∈ l → ∃ m d, Pth E r (a :: m) d ∧ d ≤ c ∧ (l.Nodup → (a :: m).Nodup) := by
  induction h with
  | one =>
    intro a ha
    rw [List.mem_singleton] at ha; subst ha
    exact ⟨[], 0, .one, Int.le_refl _, id⟩
  | @cons x y l w c s q ih =>
    intro a ha
    rcases List.mem_cons.1 ha with rfl | ha
    · exact ⟨y :: l, w + c, .cons s q, Int.le_refl _, id⟩
    · obtain ⟨m, d, h1, h2, h3⟩ := ih ha
      have := hE _ _ _ s
      exact ⟨m, d, h1, by omega, fun hn => h3 (List.nodup_cons.1 hn).2⟩
/-- Each way has one that meets no room twice and takes no longer. -/
theorem Way.simple {E : List Edg} (hE : ∀ a b w, St1 E a b w → 0 ≤ w) {S : Nat → Prop} {a r : Nat} {c : Int} (q : Way E S a r c) :
    ∃ m d, Pth E r (a :: m) d ∧ d ≤ c ∧ (a :: m).Nodup := by
  have key : ∀ {a x : Nat} {w c : Int} {m : List Nat} {d : Int}, St1 E a x w → Pth E r (x :: m) d → d ≤ c → (x :: m).Nodup →
      ∃ m d, Pth E r (a :: m) d ∧ d ≤ w + c ∧ (a :: m).Nodup := by
    intro a x w c m d s p hd hn
    have hw := hE _ _ _ s
    by_cases ha : a ∈ x :: m
    · obtain ⟨m2, d2, h1, h2, h3⟩ := p.from hE ha
      exact ⟨m2, d2, h1, by omega, h3 hn⟩
    · exact ⟨x :: m, w + d, .cons s p, by omega, List.nodup_cons.2 ⟨ha, hn⟩⟩
  induction q with
  | none a => exact ⟨[], 0, .one, Int.le_refl _, by simp⟩
  | @one a b w s =>
    obtain ⟨m, d, h1, h2, h3⟩ := key (c := 0) s (.one) (Int.le_refl _) (by simp)
    exact ⟨m, d, h1, by omega, h3⟩
  | cons s _ _ ih =>
    obtain ⟨m, d, h1, h2, h3⟩ := ih key
    exact key s h1 h2 h3
theorem Pth.inN {E : List Edg} {n : Nat} (hn : ∀ a b w, St1 E a b w → a < n ∧ b < n) {r : Nat} (hr : r < n) {l : List Nat} {c : Int} (h : Pth E r l c) : ∀ x ∈ l, x < n := by
  induction h with
  | one => intro x hx; rw [List.mem_singleton] at hx; subst hx; exact hr
  | cons s _ ih =>
    intro x hx
    rcases List.mem_cons.1 hx with rfl | hx
    · exact (hn _ _ _ s).1
    · exact ih x hx
theorem nodup_len : ∀ {n : Nat} {l : List Nat}, l.Nodup → (∀ x ∈ l, x < n) → l.length ≤ n := by
  intro n
  induction n with
  | zero =>
    intro l _ h
    cases l with
    | nil => exact Nat.le_refl _
    | cons x l => exact absurd (h x List.mem_cons_self) (Nat.not_lt_zero _)
  | succ n ih =>
    intro l hn h
    by_cases hm : n ∈ l
    · have h1 : (l.erase n).length ≤ n := ih (hn.erase n) (fun x hx => by
        have hx2 := (List.Nodup.mem_erase_iff hn).1 hx
        have := h x hx2.2
        have := hx2.1
        omega)
      rw [List.length_erase_of_mem hm] at h1
      have : 0 < l.length := List.length_pos_of_mem hm
      omega
    · exact Nat.le_succ_of_le (ih hn (fun x hx => by
        have := h x hx
        have : x ≠ n := fun e => hm (e ▸ hx)
        omega))
abbrev Row := Nat → Int
/-- One gate, both of its sides at once. -/
def stepB (d : Row) (e : Edg) : Row := fun x =>
  if x = e.2.1 then min (d e.2.1) (d e.1 + e.2.2) else if x = e.1 then min (d e.1) (d e.2.1 + e.2.2) else d x
def roundB (E : List Edg) (d : Row) : Row := E.foldl stepB d
def bellV (E : List Edg) : Nat → Row → Row
  | 0, d => d
  | k + 1, d => roundB E (bellV E k d)
theorem stepB_le (d : Row) (e : Edg) (x : Nat) : stepB d e x ≤ d x := by
  unfold stepB
  split
  · rename_i h; subst h; omega
  · split
    · rename_i h; subst h; omega
    · exact Int.le_refl _
theorem roundB_le : ∀ (E : List Edg) (d : Row) (x : Nat), roundB E d x ≤ d x := by
  intro E
  induction E with
  | nil => intro d x; exact Int.le_refl _
  | cons e E ih => intro d x; exact Int.le_trans (ih (stepB d e) x) (stepB_le d e x)
theorem roundB_new : ∀ {E : List Edg} {d0 d : Row} {a b : Nat} {w : Int}, a ≠ b → (∀ x, d x ≤ d0 x) → St1 E a b w → roundB E d a ≤ d0 b + w := by
  intro E
  induction E with
  | nil => intro d0 d a b w _ _ h; rcases h with h | h <;> cases h
  | cons e E ih =>
    intro d0 d a b w hab hd h
    have hd2 : ∀ x, stepB d e x ≤ d0 x := fun x => Int.le_trans (stepB_le d e x) (hd x)
    have hb := hd b
    rcases h with h | h
    · rcases List.mem_cons.1 h with rfl | h
      · refine Int.le_trans (roundB_le E _ a) ?_
        unfold stepB
        show (if a = b then _ else if a = a then _ else _) ≤ _
        rw [if_neg hab, if_pos rfl]
        show min (d a) (d b + w) ≤ _
        omega
      · exact ih hab hd2 (.inl h)
    · rcases List.mem_cons.1 h with rfl | h
      · refine Int.le_trans (roundB_le E _ a) ?_
        unfold stepB
        show (if a = a then _ else _) ≤ _
        rw [if_pos rfl]
        show min (d a) (d b + w) ≤ _
        omega
      · exact ih hab hd2 (.inr h)
theorem bell_le {E : List Edg} (hne : ∀ a b w, St1 E a b w → a ≠ b) {r : Nat} {d : Row} (h0 : d r ≤ 0) :
    ∀ {l : List Nat} {c : Int}, Pth E r l c → ∀ {a m}, l = a :: m → ∀ k, m.length ≤ k → bellV E k d a ≤ c := by
  intro l c h
  induction h with
  | one =>
    intro a m e k _
    cases e
    induction k with
    | zero => exact h0
    | succ k ih => exact Int.le_trans (roundB_le E _ _) (ih (Nat.zero_le _))
  | @cons a x l w c s q ih =>
    intro a2 m e k hk
    cases e
    cases k with
    | zero => exact absurd hk (Nat.not_succ_le_zero _)
    | succ k =>
      have h1 := ih rfl k (by simpa using hk)
      have h2 := roundB_new (E := E) (d0 := bellV E k d) (d := bellV E k d) (hne _ _ _ s) (fun _ => Int.le_refl _) s
      show roundB E (bellV E k d) a ≤ _
      omega
/-- What a row says there is; N is never. -/
def sndB (E : List Edg) (N : Int) (r : Nat) (d : Row) : Prop := ∀ x, d x ≤ N ∧ (d x < N → Way E (fun _ => True) x r (d x))
theorem stepB_snd {E : List Edg} (hE : ∀ a b w, St1 E a b w → 0 ≤ w) {N : Int} {r : Nat} {d : Row} {e : Edg} (he : e ∈ E) (h : sndB E N r d) : sndB E N r (stepB d e) := by
  intro x
  have hw : 0 ≤ e.2.2 := hE e.1 e.2.1 e.2.2 (.inl he)
  refine ⟨Int.le_trans (stepB_le d e x) (h x).1, ?_⟩
  unfold stepB
  split
  · rename_i hx
    subst hx
    intro hlt
    rcases Int.lt_or_le (d e.1 + e.2.2) (d e.2.1) with q | q
    · rw [Int.min_eq_right (Int.le_of_lt q)] at hlt ⊢
      rw [Int.add_comm]
      exact .cons (.inr he) trivial ((h e.1).2 (by omega))
    · rw [Int.min_eq_left q] at hlt ⊢
      exact (h _).2 hlt
  · split
    · rename_i hx
      subst hx
      intro hlt
      rcases Int.lt_or_le (d e.2.1 + e.2.2) (d e.1) with q | q
      · rw [Int.min_eq_right (Int.le_of_lt q)] at hlt ⊢
        rw [Int.add_comm]
        exact .cons (.inl he) trivial ((h e.2.1).2 (by omega))
      · rw [Int.min_eq_left q] at hlt ⊢
        exact (h _).2 hlt
    · exact (h x).2
theorem roundB_snd {E : List Edg} (hE : ∀ a b w, St1 E a b w → 0 ≤ w) {N : Int} {r : Nat} : ∀ {L : List Edg} {d : Row}, (∀ e ∈ L, e ∈ E) → sndB E N r d → sndB E N r (roundB L d) := by
  intro L
  induction L with
  | nil => intro d _ h; exact h
  | cons e L ih => intro d hL h; exact ih (fun q hq => hL q (List.mem_cons_of_mem _ hq)) (stepB_snd hE (hL e List.mem_cons_self) h)
theorem bell_snd {E : List Edg} (hE : ∀ a b w, St1 E a b w → 0 ≤ w) {N : Int} {r : Nat} {d : Row} (h : sndB E N r d) : ∀ k, sndB E N r (bellV E k d) := by
  intro k
  induction k with
  | zero => exact h
  | succ k ih => exact roundB_snd hE (fun _ h => h) ih
/-- Between two times as they are told here and there. -/
def asB (N : Int) (t : Tm) : Int := match t with | .none => N | .some c => c
/-- Floyd's table and the reference's row say the same. -/
theorem floyd_bell {E : List Edg} (hE : ∀ a b w, St1 E a b w → 0 ≤ w) {n : Nat} (hn : ∀ a b w, St1 E a b w → a < n ∧ b < n) (hne : ∀ a b w, St1 E a b w → a ≠ b)
    {l : List (Nat × Nat)} (hl : ∀ a b, a < n → b < n → (a, b) ∈ l) (hl2 : ∀ p ∈ l, p.1 < n ∧ p.2 < n)
    {F : Tab} (h0 : ∀ a, a < n → leN (F a a) 0) (h1 : ∀ a b w, St1 E a b w → leN (F a b) w) (hs : sndN E n F)
    {r : Nat} (hr : r < n) {N : Int} {d : Row} (hd0 : d r ≤ 0) (hds : sndB E N r d)
    (hN : ∀ a m c, Pth E r (a :: m) c → (a :: m).Nodup → c < N) {x : Nat} (hx : x < n) :
    bellV E n d x = asB N (floydV l n F r x) := by
  have rev : ∀ {a b : Nat} {c : Int}, Way E (fun _ => True) a b c → Way E (fun _ => True) b a c := by
    intro a b c q
    induction q with
    | none a => exact .none a
    | one s => exact .one s.symm
    | cons s _ _ ih => rw [Int.add_comm]; exact ih.trans (.one s.symm)
  -- what Floyd's table tells the row doesn't exceed
  have fb : ∀ c, floydV l n F r x = some c → bellV E n d x ≤ c := by
    intro c hc
    have w := rev (floyd_snd hl2 hs n (Nat.le_refl _) r x c hr hx hc)
    obtain ⟨m, e, p1, p2, p3⟩ := w.simple hE
    have len := nodup_len p3 (p1.inN hn hr)
    have := bell_le hne hd0 p1 rfl n (by simp only [List.length_cons] at len; omega)
    omega
  have bf : bellV E n d x < N → leN (floydV l n F r x) (bellV E n d x) := by
    intro h
    have w := rev ((bell_snd hE hds n x).2 h)
    exact floyd_le hE hl h0 h1 n (Nat.le_refl _) r x _ hr hx (w.inN hn)
  have top := (bell_snd hE hds n x).1
  cases hf : floydV l n F r x with
  | none =>
    show bellV E n d x = N
    rcases Int.lt_or_le (bellV E n d x) N with h | h
    · obtain ⟨y, hy, _⟩ := bf h
      rw [hf] at hy; cases hy
    · omega
  | some c =>
    show bellV E n d x = c
    have hc := fb c hf
    -- c is less than never
    have w := rev (floyd_snd hl2 hs n (Nat.le_refl _) r x c hr hx hf)
    obtain ⟨m, e, p1, p2, p3⟩ := w.simple hE
    have eN := hN _ _ _ p1 p3
    have len := nodup_len p3 (p1.inN hn hr)
    have be := bell_le hne hd0 p1 rfl n (by simp only [List.length_cons] at len; omega)
    obtain ⟨y, hy, hy2⟩ := bf (by omega)
    rw [hf] at hy
    have : c = y := Option.some.inj hy
    omega
/-- A simple way takes at most as many delays as there are rooms. -/
theorem Pth.bound {E : List Edg} {D : Int} (hD : ∀ a b w, St1 E a b w → w ≤ D) {r : Nat} {l : List Nat} {c : Int} (h : Pth E r l c) : ∀ {a m}, l = a :: m → c ≤ D * m.length := by
  induction h with
  | one => intro a m e; cases e; simp
  | @cons a x l w c s q ih =>
    intro a2 m e
    cases e
    have h1 := ih rfl
    have h2 := hD _ _ _ s
    rw [List.length_cons, Int.natCast_succ, Int.mul_add, Int.mul_one]
    omega
end Go.Proofs.YtmllgnnhblhfeaaDoor
/-
  MINUTES AS SPANS, as the reference tells them: plain theory.
-/
namespace Go.Proofs.YtmllgnnhblhfeaaDoor
open Go Go.Am
/-- One minute more. -/
def nxtR (f : Nat → Bool) (k : Nat) (acc : List Spn) : List Spn :=
  let a := if f k && (k == 0 || !f (k - 1)) then acc ++ [((k : Int), (0 : Int))] else acc
  if f k then a.dropLast ++ [((a.getLast?.getD (0, 0)).1, (k : Int))] else a
def runV (f : Nat → Bool) : Nat → List Spn
  | 0 => []
  | k + 1 => nxtR f k (runV f k)
theorem inL_app {l m : List Spn} {n : Int} : inL (l ++ m) n ↔ inL l n ∨ inL m n := by
  constructor
  · rintro ⟨s, hs, h⟩
    rcases List.mem_append.1 hs with hs | hs
    · exact .inl ⟨s, hs, h⟩
    · exact .inr ⟨s, hs, h⟩
  · rintro (⟨s, hs, h⟩ | ⟨s, hs, h⟩)
    · exact ⟨s, List.mem_append_left _ hs, h⟩
    · exact ⟨s, List.mem_append_right _ hs, h⟩
theorem inL_one {s : Spn} {n : Int} : inL [s] n ↔ inS s n :=
  ⟨fun ⟨t, ht, h⟩ => by rw [List.mem_singleton] at ht; exact ht ▸ h, fun h => ⟨s, List.mem_singleton.2 rfl, h⟩⟩
theorem runV_ok (f : Nat → Bool) : ∀ k, canS (runV f k) ∧ (∀ n, inL (runV f k) n ↔ ∃ m : Nat, n = m ∧ m < k ∧ f m = true) ∧ (∀ s ∈ runV f k, s.2 < k) ∧
    (∀ j, k = j + 1 → f j = true → ∃ (p : List Spn) (t : Spn), runV f k = p ++ [t] ∧ t.2 = (j : Int)) ∧ (∀ j, k = j + 1 → f j = false → ∀ s ∈ runV f k, s.2 < j) := by
  intro k
  induction k with
  | zero =>
    refine ⟨trivial, fun n => ⟨fun ⟨s, hs, _⟩ => (List.not_mem_nil hs).elim, fun ⟨m, _, h, _⟩ => absurd h (Nat.not_lt_zero _)⟩, fun s hs => (List.not_mem_nil hs).elim, fun j h _ => absurd h (by omega), fun j h _ => absurd h (by omega)⟩
  | succ k ih =>
    obtain ⟨i1, i2, i3, i4, i5⟩ := ih
    have old : f k = false → runV f (k + 1) = runV f k := by
      intro h
      show nxtR f k _ = _
      unfold nxtR
      simp [h]
    have new : f k = true → (k = 0 ∨ f (k - 1) = false) → runV f (k + 1) = runV f k ++ [((k : Int), (k : Int))] := by
      intro h q
      show nxtR f k _ = _
      unfold nxtR
      have : (f k && (k == 0 || !f (k - 1))) = true := by
        rcases q with q | q
        · subst q; simp [h]
        · simp [h, q]
      dsimp only
      rw [if_pos h, if_pos this, List.dropLast_concat, List.getLast?_concat]
      rfl
    have more : f k = true → k ≠ 0 → f (k - 1) = true → ∀ p t, runV f k = p ++ [t] → runV f (k + 1) = p ++ [(t.1, (k : Int))] := by
      intro h h0 q p t e
      show nxtR f k _ = _
      unfold nxtR
      have : (f k && (k == 0 || !f (k - 1))) = false := by simp [h, h0, q]
      rw [e]
      dsimp only
      rw [if_pos h, if_neg (by rw [this]; exact Bool.false_ne_true), List.dropLast_concat, List.getLast?_concat]
      rfl
    by_cases h : f k = true
    · by_cases q : k = 0 ∨ f (k - 1) = false
      · have e := new h q
        have below : ∀ s ∈ runV f k, s.2 + 1 < (k : Int) := by
          intro s hs
          rcases q with q | q
          · subst q; exact (List.not_mem_nil hs).elim
          · cases k with
            | zero => exact (List.not_mem_nil hs).elim
            | succ j =>
              have := i5 j rfl q s hs
              omega
        rw [e]
        refine ⟨canS_app.2 ⟨i1, Int.le_refl _, below⟩, fun n => ?_, fun s hs => ?_, fun j hj _ => ⟨_, _, rfl, ?_⟩, fun j hj hf => ?_⟩
        · rw [inL_app, inL_one, i2 n]
          constructor
          · rintro (⟨m, e1, e2, e3⟩ | ⟨e1, e2⟩)
            · exact ⟨m, e1, by omega, e3⟩
            · exact ⟨k, Int.le_antisymm e2 e1, Nat.lt_succ_self _, h⟩
          · rintro ⟨m, e1, e2, e3⟩
            rcases Nat.lt_or_ge m k with hm | hm
            · exact .inl ⟨m, e1, hm, e3⟩
            · have : m = k := by omega
              subst this
              exact .inr ⟨by rw [e1]; exact Int.le_refl _, by rw [e1]; exact Int.le_refl _⟩
        · rcases List.mem_append.1 hs with hs | hs
          · have := i3 s hs; omega
          · rw [List.mem_singleton] at hs; subst hs; show (k : Int) < _; omega
        · show (k : Int) = j; omega
        · have : j = k := by omega
          subst this; rw [h] at hf; cases hf
      · have h0 : k ≠ 0 := fun e => q (.inl e)
        have h1 : f (k - 1) = true := by
          cases hh : f (k - 1) with
          | true => rfl
          | false => exact absurd (.inr hh) q
        obtain ⟨p, t, e0, ht⟩ := i4 (k - 1) (by omega) h1
        have e := more h h0 h1 p t e0
        rw [e0] at i1 i2 i3
        obtain ⟨c1, c2, c3⟩ := canS_app.1 i1
        rw [e]
        refine ⟨canS_app.2 ⟨c1, ?_, c3⟩, fun n => ?_, fun s hs => ?_, fun j hj _ => ⟨_, _, rfl, ?_⟩, fun j hj hf => ?_⟩
        · show t.1 ≤ (k : Int); omega
        · rw [inL_app, inL_one]
          have := i2 n
          rw [inL_app, inL_one] at this
          constructor
          · rintro (e1 | ⟨e1, e2⟩)
            · obtain ⟨m, m1, m2, m3⟩ := this.1 (.inl e1)
              exact ⟨m, m1, by omega, m3⟩
            · have e1 : t.1 ≤ n := e1
              have e2 : n ≤ (k : Int) := e2
              rcases Int.lt_or_le n k with hlt | hge
              · obtain ⟨m, m1, m2, m3⟩ := this.1 (.inr ⟨e1, by omega⟩)
                exact ⟨m, m1, by omega, m3⟩
              · exact ⟨k, by omega, by omega, h⟩
          · rintro ⟨m, m1, m2, m3⟩
            rcases Nat.lt_or_ge m k with hm | hm
            · rcases this.2 ⟨m, m1, hm, m3⟩ with q | ⟨q1, q2⟩
              · exact .inl q
              · exact .inr ⟨q1, by show n ≤ (k : Int); omega⟩
            · exact .inr ⟨by show t.1 ≤ n; omega, by show n ≤ (k : Int); omega⟩
        · rcases List.mem_append.1 hs with hs | hs
          · have := i3 s (List.mem_append_left _ hs); omega
          · rw [List.mem_singleton] at hs; subst hs; show (k : Int) < _; omega
        · show (k : Int) = j; omega
        · have : j = k := by omega
          subst this; rw [h] at hf; cases hf
    · have h : f k = false := by
        cases hh : f k with
        | true => exact absurd hh h
        | false => rfl
      rw [old h]
      refine ⟨i1, fun n => ?_, fun s hs => ?_, fun j hj hf => ?_, fun j hj hf s hs => ?_⟩
      · rw [i2 n]
        constructor
        · rintro ⟨m, e1, e2, e3⟩; exact ⟨m, e1, by omega, e3⟩
        · rintro ⟨m, e1, e2, e3⟩
          refine ⟨m, e1, ?_, e3⟩
          rcases Nat.lt_or_ge m k with hm | hm
          · exact hm
          · have : m = k := by omega
            subst this; rw [h] at e3; cases e3
      · have := i3 s hs; omega
      · have : j = k := by omega
        subst this; rw [h] at hf; cases hf
      · have := i3 s hs; omega
/-- The program's spans joined are the reference's runs. -/
theorem join_run {l : List Spn} (hl : ∀ s ∈ l, s.1 ≤ s.2) (pl : l.Pairwise (fun a b => a.1 ≤ b.1)) {f : Nat → Bool} {k : Nat}
    (h : ∀ n, inL l n ↔ ∃ m : Nat, n = m ∧ m < k ∧ f m = true) : joinV [] l = runV f k := by
  obtain ⟨j1, j2⟩ := joinV_ok l [] trivial hl pl (fun u hu => (List.not_mem_nil hu).elim)
  obtain ⟨r1, r2, _⟩ := runV_ok f k
  refine canS_ext j1 r1 (fun n => ?_)
  rw [j2 n, r2 n, ← h n]
  exact ⟨fun q => q.elim (fun ⟨s, hs, _⟩ => (List.not_mem_nil hs).elim) id, .inr⟩
end Go.Proofs.YtmllgnnhblhfeaaDoor
/-
  WHAT A MARK SAYS: the program's spans, the reference's windows, and what the laws ask of a truth. Plain theory.
-/
namespace Go.Proofs.YtmllgnnhblhfeaaDoor
open Go Go.Am
structure Mrk where
  id : Int
  kind : Int
  room : Nat
  other : Nat
  lo : Int
  hi : Int
  long : Int
def inT (t : Tm) (lo hi : Int) : Spn := match t with | .none => (1, 0) | .some d => (lo - d, hi - d)
def untilT (t : Tm) (m : Int) : Spn := match t with | .none => (1, 0) | .some d => (0, m - d)
def afterT (t : Tm) (m : Int) : Spn := match t with | .none => (0, 600) | .some d => (m + 1 - d, 600)
/-- What the program takes for the minutes of a mark. -/
def saysV (m : Mrk) (fin : Int) (r o : Tm) : Spn :=
  if m.kind = 1 then inT r m.lo m.hi else if m.kind = 2 then afterT r m.lo else if m.kind = 3 then untilT r m.hi
  else if m.kind = 4 then untilT r (fin - m.long) else if m.kind = 5 then afterT r (fin - m.long)
  else if befT r o then (0, 600) else (1, 0)
/-- What the reference takes for them. -/
def windV (N : Int) (m : Mrk) (fin : Int) (d e : Int) : Spn :=
  if m.kind = 1 then (if d < N then (m.lo - d, m.hi - d) else (1, 0))
  else if m.kind = 2 then (if d < N then (m.lo + 1 - d, fin) else (0, fin))
  else if m.kind = 3 then (if d < N then (0, m.hi - d) else (1, 0))
  else if m.kind = 4 then (if d < N then (0, fin - m.long - d) else (1, 0))
  else if m.kind = 5 then (if d < N then (fin - m.long + 1 - d, fin) else (0, fin))
  else (if d < N ∧ d < e then (0, fin) else (1, 0))
def overV (a b : Spn) : Spn := (max a.1 b.1, min a.2 b.2)
theorem over_iff {a b : Spn} {n : Int} : inS (overV a b) n ↔ inS a n ∧ inS b n := by
  unfold inS overV
  show max a.1 b.1 ≤ n ∧ n ≤ min a.2 b.2 ↔ _
  omega
theorem bef_as {N : Int} {r o : Tm} (hr : ∀ c, r = some c → c < N) (ho : ∀ c, o = some c → c < N) : befT r o = true ↔ asB N r < N ∧ asB N r < asB N o := by
  cases r with
  | none =>
    show false = true ↔ N < N ∧ N < asB N o
    exact ⟨fun h => (Bool.false_ne_true h).elim, fun h => absurd h.1 (Int.lt_irrefl _)⟩
  | some c =>
    have := hr c rfl
    cases o with
    | none =>
      show true = true ↔ c < N ∧ c < N
      exact ⟨fun _ => ⟨this, this⟩, fun _ => rfl⟩
    | some d =>
      show decide (c < d) = true ↔ c < N ∧ c < d
      rw [decide_eq_true_eq]
      exact ⟨fun h => ⟨this, h⟩, fun h => h.2⟩
/-- Within the minutes up to the end they are the same. -/
theorem says_wind {N : Int} {m : Mrk} {fin : Int} (hf : fin ≤ 600) {r o : Tm} (hr : ∀ c, r = some c → c < N) (ho : ∀ c, o = some c → c < N) {a : Spn} (ha : a.2 ≤ fin) :
    overV a (saysV m fin r o) = overV a (windV N m fin (asB N r) (asB N o)) := by
  have hb := bef_as hr ho
  unfold saysV windV
  have aft : ∀ k : Int, overV a (afterT r k) = overV a (if asB N r < N then (k + 1 - asB N r, fin) else (0, fin)) := by
    intro k
    cases r with
    | none =>
      show overV a (0, 600) = overV a (if N < N then _ else (0, fin))
      rw [if_neg (Int.lt_irrefl _)]
      unfold overV
      rw [Int.min_eq_left (by show a.2 ≤ 600; omega), Int.min_eq_left ha]
    | some c =>
      show overV a (k + 1 - c, 600) = overV a (if c < N then (k + 1 - c, fin) else (0, fin))
      rw [if_pos (hr c rfl)]
      unfold overV
      rw [Int.min_eq_left (by show a.2 ≤ 600; omega), Int.min_eq_left ha]
  have unt : ∀ k : Int, untilT r k = (if asB N r < N then (0, k - asB N r) else (1, 0)) := by
    intro k
    cases r with
    | none => show _ = (if N < N then _ else _); rw [if_neg (Int.lt_irrefl _)]; rfl
    | some c => show _ = (if c < N then _ else _); rw [if_pos (hr c rfl)]; rfl
  have inn : inT r m.lo m.hi = (if asB N r < N then (m.lo - asB N r, m.hi - asB N r) else (1, 0)) := by
    cases r with
    | none => show _ = (if N < N then _ else _); rw [if_neg (Int.lt_irrefl _)]; rfl
    | some c => show _ = (if c < N then _ else _); rw [if_pos (hr c rfl)]; rfl
  by_cases h1 : m.kind = 1
  · rw [if_pos h1, if_pos h1, inn]
  rw [if_neg h1, if_neg h1]
  by_cases h2 : m.kind = 2
  · rw [if_pos h2, if_pos h2, aft]
  rw [if_neg h2, if_neg h2]
  by_cases h3 : m.kind = 3
  · rw [if_pos h3, if_pos h3, unt]
  rw [if_neg h3, if_neg h3]
  by_cases h4 : m.kind = 4
  · rw [if_pos h4, if_pos h4, unt]
  rw [if_neg h4, if_neg h4]
  by_cases h5 : m.kind = 5
  · rw [if_pos h5, if_pos h5, aft]
  rw [if_neg h5, if_neg h5]
  by_cases h6 : befT r o = true
  · rw [if_pos h6, if_pos (hb.1 h6)]
    unfold overV
    rw [Int.min_eq_left (by show a.2 ≤ 600; omega), Int.min_eq_left ha]
  · rw [if_neg h6, if_neg (fun q => h6 (hb.2 q))]
/-- What the laws ask of a mark, if the fire comes into its rooms at these minutes; N is never. -/
def soV (N : Int) (m : Mrk) (fin : Int) (c e : Int) : Prop :=
  if m.kind = 1 then m.lo ≤ c ∧ c ≤ m.hi else if m.kind = 2 then m.lo < c else if m.kind = 3 then c ≤ m.hi
  else if m.kind = 4 then c ≠ N ∧ m.long ≤ fin - c else if m.kind = 5 then c = N ∨ fin - c < m.long else c < e
/-- When the fire comes. -/
def whenV (N n : Int) (t : Tm) : Int := match t with | .none => N | .some c => n + c
theorem says_so {N : Int} {m : Mrk} {fin n : Int} (hn : 0 ≤ n) (hnf : n ≤ fin) (hf : fin ≤ 600) {r o : Tm} (hr : ∀ c, r = some c → n + c < N) (ho : ∀ c, o = some c → n + c < N)
    (hm : m.lo < N ∧ m.hi < N) : inS (saysV m fin r o) n ↔ soV N m fin (whenV N n r) (whenV N n o) := by
  unfold saysV soV inS
  cases r with
  | none =>
    show _ ↔ (if m.kind = 1 then m.lo ≤ N ∧ N ≤ m.hi else if m.kind = 2 then m.lo < N else if m.kind = 3 then N ≤ m.hi
      else if m.kind = 4 then N ≠ N ∧ m.long ≤ fin - N else if m.kind = 5 then N = N ∨ fin - N < m.long else N < whenV N n o)
    have : ¬ N < whenV N n o := by
      cases o with
      | none => exact Int.lt_irrefl _
      | some c => have := ho c rfl; show ¬ N < n + c; omega
    by_cases h1 : m.kind = 1
    · simp only [if_pos h1, inT]; omega
    by_cases h2 : m.kind = 2
    · simp only [if_neg h1, if_pos h2, afterT]; omega
    by_cases h3 : m.kind = 3
    · simp only [if_neg h1, if_neg h2, if_pos h3, untilT]; omega
    by_cases h4 : m.kind = 4
    · simp only [if_neg h1, if_neg h2, if_neg h3, if_pos h4, untilT]; omega
    by_cases h5 : m.kind = 5
    · simp only [if_neg h1, if_neg h2, if_neg h3, if_neg h4, if_pos h5, afterT]; exact ⟨fun _ => .inl trivial, fun _ => ⟨hn, by omega⟩⟩
    simp only [if_neg h1, if_neg h2, if_neg h3, if_neg h4, if_neg h5, befT, this, iff_false]
    simp only [Bool.false_eq_true, if_false]
    omega
  | some d =>
    have hd := hr d rfl
    show _ ↔ (if m.kind = 1 then m.lo ≤ n + d ∧ n + d ≤ m.hi else if m.kind = 2 then m.lo < n + d else if m.kind = 3 then n + d ≤ m.hi
      else if m.kind = 4 then n + d ≠ N ∧ m.long ≤ fin - (n + d) else if m.kind = 5 then n + d = N ∨ fin - (n + d) < m.long else n + d < whenV N n o)
    by_cases h1 : m.kind = 1
    · simp only [if_pos h1, inT]; omega
    by_cases h2 : m.kind = 2
    · simp only [if_neg h1, if_pos h2, afterT]; omega
    by_cases h3 : m.kind = 3
    · simp only [if_neg h1, if_neg h2, if_pos h3, untilT]; omega
    by_cases h4 : m.kind = 4
    · simp only [if_neg h1, if_neg h2, if_neg h3, if_pos h4, untilT]; omega
    by_cases h5 : m.kind = 5
    · simp only [if_neg h1, if_neg h2, if_neg h3, if_neg h4, if_pos h5, afterT]; omega
    simp only [if_neg h1, if_neg h2, if_neg h3, if_neg h4, if_neg h5]
    cases o with
    | none =>
      show ((if true = true then ((0 : Int), (600 : Int)) else (1, 0)).1 ≤ n ∧ n ≤ (if true = true then ((0 : Int), (600 : Int)) else (1, 0)).2) ↔ n + d < N
      rw [if_pos rfl]
      show 0 ≤ n ∧ n ≤ 600 ↔ _
      omega
    | some e =>
      show ((if decide (d < e) = true then ((0 : Int), (600 : Int)) else (1, 0)).1 ≤ n ∧ n ≤ (if decide (d < e) = true then ((0 : Int), (600 : Int)) else (1, 0)).2) ↔ n + d < n + e
      rcases Int.lt_or_le d e with q | q
      · rw [if_pos (decide_eq_true q)]; show 0 ≤ n ∧ n ≤ 600 ↔ _; omega
      · rw [if_neg (by rw [decide_eq_true_eq]; omega)]; show 1 ≤ n ∧ n ≤ 0 ↔ _; omega
/-- All marks of a list, from the minutes up to the end. -/
def allV (fin : Int) (f : Nat → Tm) (a : Spn) (l : List Mrk) : Spn := l.foldl (fun a m => overV a (saysV m fin (f m.room) (f m.other))) a
theorem allV_iff {fin : Int} {f : Nat → Tm} {n : Int} : ∀ {l : List Mrk} {a : Spn}, inS (allV fin f a l) n ↔ inS a n ∧ ∀ m ∈ l, inS (saysV m fin (f m.room) (f m.other)) n := by
  intro l
  induction l with
  | nil => intro a; exact ⟨fun h => ⟨h, fun m hm => (List.not_mem_nil hm).elim⟩, fun h => h.1⟩
  | cons m l ih =>
    intro a
    show inS (allV fin f (overV a _) l) n ↔ _
    rw [ih, over_iff, List.forall_mem_cons, and_assoc]
theorem allV_le {fin : Int} {f : Nat → Tm} : ∀ {l : List Mrk} {a : Spn}, a.1 ≤ (allV fin f a l).1 ∧ (allV fin f a l).2 ≤ a.2 := by
  intro l
  induction l with
  | nil => intro a; exact ⟨Int.le_refl _, Int.le_refl _⟩
  | cons m l ih =>
    intro a
    have := ih (a := overV a (saysV m fin (f m.room) (f m.other)))
    exact ⟨Int.le_trans (Int.le_max_left _ _) this.1, Int.le_trans this.2 (Int.min_le_left _ _)⟩
/-- The program stops at a mark that leaves nothing: then all marks leave nothing. -/
theorem allV_none {fin : Int} {f : Nat → Tm} {l : List Mrk} {a : Spn} (h : a.2 < a.1) : (allV fin f a l).2 < (allV fin f a l).1 := by
  have := allV_le (fin := fin) (f := f) (l := l) (a := a); omega
theorem all_wind {N : Int} {fin : Int} (hf : fin ≤ 600) {f : Nat → Tm} (hr : ∀ x c, f x = some c → c < N) : ∀ {l : List Mrk} {a : Spn}, a.2 ≤ fin →
    allV fin f a l = l.foldl (fun a m => overV a (windV N m fin (asB N (f m.room)) (asB N (f m.other)))) a := by
  intro l
  induction l with
  | nil => intro a _; rfl
  | cons m l ih =>
    intro a ha
    show allV fin f (overV a _) l = List.foldl _ (overV a _) l
    rw [← says_wind hf (hr _) (hr _) ha]
    exact ih (Int.le_trans (Int.min_le_left _ _) ha)
end Go.Proofs.YtmllgnnhblhfeaaDoor
/-
  WHEN THE FIRE COMES, as the laws work it out: plain theory.
-/
namespace Go.Proofs.YtmllgnnhblhfeaaDoor
open Go Go.Am
/-- One side of a gate. -/
def sideC (N : Int) (d : Row) (a b : Nat) (w : Int) : Row := if d a ≠ N then fun x => if x = b then min (d b) (d a + w) else d x else d
def stepC (N : Int) (d : Row) (e : Edg) : Row := sideC N (sideC N d e.1 e.2.1 e.2.2) e.2.1 e.1 e.2.2
def roundC (N : Int) (E : List Edg) (d : Row) : Row := E.foldl (stepC N) d
def comeV (N : Int) (E : List Edg) : Nat → Row → Row
  | 0, d => d
  | k + 1, d => roundC N E (comeV N E k d)
theorem sideC_le (N : Int) (d : Row) (a b : Nat) (w : Int) (x : Nat) : sideC N d a b w x ≤ d x := by
  unfold sideC
  split
  · show (if x = b then _ else _) ≤ _
    split
    · rename_i h; subst h; exact Int.min_le_left _ _
    · exact Int.le_refl _
  · exact Int.le_refl _
theorem stepC_le (N : Int) (d : Row) (e : Edg) (x : Nat) : stepC N d e x ≤ d x :=
  Int.le_trans (sideC_le N _ e.2.1 e.1 e.2.2 x) (sideC_le N d e.1 e.2.1 e.2.2 x)
theorem roundC_le (N : Int) : ∀ (E : List Edg) (d : Row) (x : Nat), roundC N E d x ≤ d x := by
  intro E
  induction E with
  | nil => intro d x; exact Int.le_refl _
  | cons e E ih => intro d x; exact Int.le_trans (ih (stepC N d e) x) (stepC_le N d e x)
theorem sideC_new {N : Int} {d : Row} {a b : Nat} {w : Int} (h : d a ≠ N) : sideC N d a b w b ≤ d a + w := by
  unfold sideC
  rw [if_pos h]
  show (if b = b then min (d b) (d a + w) else _) ≤ _
  rw [if_pos rfl]
  exact Int.min_le_right _ _
theorem stepC_new {N : Int} {d : Row} {e : Edg} : (d e.1 < N → stepC N d e e.2.1 ≤ d e.1 + e.2.2) ∧ (d e.2.1 < N → stepC N d e e.1 ≤ d e.2.1 + e.2.2) := by
  refine ⟨fun h => ?_, fun h => ?_⟩
  · exact Int.le_trans (sideC_le N _ _ _ _ _) (sideC_new (by omega))
  · have h2 := sideC_le N d e.1 e.2.1 e.2.2 e.2.1
    have := sideC_new (N := N) (d := sideC N d e.1 e.2.1 e.2.2) (a := e.2.1) (b := e.1) (w := e.2.2) (by omega)
    unfold stepC
    omega
theorem roundC_new {N : Int} : ∀ {E : List Edg} {d0 d : Row} {a b : Nat} {w : Int}, (∀ x, d x ≤ d0 x) → d0 b < N → St1 E a b w → roundC N E d a ≤ d0 b + w := by
  intro E
  induction E with
  | nil => intro d0 d a b w _ _ h; rcases h with h | h <;> cases h
  | cons e E ih =>
    intro d0 d a b w hd hN h
    have hd2 : ∀ x, stepC N d e x ≤ d0 x := fun x => Int.le_trans (stepC_le N d e x) (hd x)
    have hb := hd b
    rcases h with h | h
    · rcases List.mem_cons.1 h with rfl | h
      · refine Int.le_trans (roundC_le N E _ a) ?_
        have := (stepC_new (N := N) (d := d) (e := (a, b, w))).2 (by show d b < N; omega)
        have : stepC N d (a, b, w) a ≤ d b + w := this
        omega
      · exact ih hd2 hN (.inl h)
    · rcases List.mem_cons.1 h with rfl | h
      · refine Int.le_trans (roundC_le N E _ a) ?_
        have := (stepC_new (N := N) (d := d) (e := (b, a, w))).1 (by show d b < N; omega)
        have : stepC N d (b, a, w) a ≤ d b + w := this
        omega
      · exact ih hd2 hN (.inr h)
/-- From minute n on, by ways that take less than never. -/
theorem come_le {E : List Edg} (hE : ∀ a b w, St1 E a b w → 0 ≤ w) {N n : Int} {r : Nat} {d : Row} (h0 : d r ≤ n) :
    ∀ {l : List Nat} {c : Int}, Pth E r l c → n + c < N → ∀ {a m}, l = a :: m → ∀ k, m.length ≤ k → comeV N E k d a ≤ n + c := by
  intro l c h
  induction h with
  | one =>
    intro _ a m e k _
    cases e
    rw [Int.add_zero]
    induction k with
    | zero => exact h0
    | succ k ih => exact Int.le_trans (roundC_le N E _ _) (ih (Nat.zero_le _))
  | @cons a x l w c s q ih =>
    intro hN a2 m e k hk
    cases e
    have hw := hE _ _ _ s
    cases k with
    | zero => exact absurd hk (Nat.not_succ_le_zero _)
    | succ k =>
      have h1 := ih (by omega) rfl k (by simpa using hk)
      have h2 := roundC_new (N := N) (E := E) (d0 := comeV N E k d) (d := comeV N E k d) (fun _ => Int.le_refl _) (by omega) s
      show roundC N E (comeV N E k d) a ≤ _
      omega
def sndC (E : List Edg) (N n : Int) (r : Nat) (d : Row) : Prop := ∀ x, d x ≤ N ∧ (d x < N → Way E (fun _ => True) x r (d x - n))
theorem sideC_snd {E : List Edg} (_hE : ∀ a b w, St1 E a b w → 0 ≤ w) {N n : Int} {r : Nat} {d : Row} {a b : Nat} {w : Int} (s : St1 E b a w) (h : sndC E N n r d) : sndC E N n r (sideC N d a b w) := by
  intro x
  refine ⟨Int.le_trans (sideC_le N d a b w x) (h x).1, ?_⟩
  unfold sideC
  split
  · rename_i ha
    show (if x = b then min (d b) (d a + w) else d x) < N → Way E _ x r ((if x = b then min (d b) (d a + w) else d x) - n)
    split
    · rename_i hx
      subst hx
      intro hlt
      rcases Int.lt_or_le (d a + w) (d x) with q | q
      · rw [Int.min_eq_right (Int.le_of_lt q)] at hlt ⊢
        have e : d a + w - n = w + (d a - n) := by omega
        rw [e]
        exact .cons s trivial ((h a).2 (by have := (h a).1; omega))
      · rw [Int.min_eq_left q] at hlt ⊢
        exact (h x).2 hlt
    · exact (h x).2
  · exact (h x).2
theorem roundC_snd {E : List Edg} (hE : ∀ a b w, St1 E a b w → 0 ≤ w) {N n : Int} {r : Nat} : ∀ {L : List Edg} {d : Row}, (∀ e ∈ L, e ∈ E) → sndC E N n r d → sndC E N n r (roundC N L d) := by
  intro L
  induction L with
  | nil => intro d _ h; exact h
  | cons e L ih =>
    intro d hL h
    have he := hL e List.mem_cons_self
    exact ih (fun q hq => hL q (List.mem_cons_of_mem _ hq)) (sideC_snd hE (.inl he) (sideC_snd hE (.inr he) h))
theorem come_snd {E : List Edg} (hE : ∀ a b w, St1 E a b w → 0 ≤ w) {N n : Int} {r : Nat} {d : Row} (h : sndC E N n r d) : ∀ k, sndC E N n r (comeV N E k d) := by
  intro k
  induction k with
  | zero => exact h
  | succ k ih => exact roundC_snd hE (fun _ h => h) ih
theorem Way.rev {E : List Edg} {a b : Nat} {c : Int} (q : Way E (fun _ => True) a b c) : Way E (fun _ => True) b a c := by
  induction q with
  | none a => exact .none a
  | one s => exact .one s.symm
  | cons s _ _ ih => rw [Int.add_comm]; exact ih.trans (.one s.symm)
/-- Floyd's table and the laws' minutes say the same. -/
theorem floyd_come {E : List Edg} (hE : ∀ a b w, St1 E a b w → 0 ≤ w) {m0 : Nat} (hn : ∀ a b w, St1 E a b w → a < m0 ∧ b < m0)
    {l : List (Nat × Nat)} (hl : ∀ a b, a < m0 → b < m0 → (a, b) ∈ l) (hl2 : ∀ p ∈ l, p.1 < m0 ∧ p.2 < m0)
    {F : Tab} (h0 : ∀ a, a < m0 → leN (F a a) 0) (h1 : ∀ a b w, St1 E a b w → leN (F a b) w) (hs : sndN E m0 F)
    {r : Nat} (hr : r < m0) {N n : Int} {d : Row} (hd0 : d r ≤ n) (hds : sndC E N n r d)
    (hN : ∀ a m c, Pth E r (a :: m) c → (a :: m).Nodup → n + c < N) {x : Nat} (hx : x < m0) :
    comeV N E m0 d x = whenV N n (floydV l m0 F r x) := by
  have fb : ∀ c, floydV l m0 F r x = some c → comeV N E m0 d x ≤ n + c ∧ comeV N E m0 d x < N := by
    intro c hc
    have w := (floyd_snd hl2 hs m0 (Nat.le_refl _) r x c hr hx hc).rev
    obtain ⟨m, e, p1, p2, p3⟩ := w.simple hE
    have len := nodup_len p3 (p1.inN hn hr)
    have lt := hN _ _ _ p1 p3
    have := come_le hE hd0 p1 lt rfl m0 (by simp only [List.length_cons] at len; omega)
    exact ⟨by omega, by omega⟩
  have bf : comeV N E m0 d x < N → leN (floydV l m0 F r x) (comeV N E m0 d x - n) := by
    intro h
    have w := ((come_snd hE hds m0 x).2 h).rev
    exact floyd_le hE hl h0 h1 m0 (Nat.le_refl _) r x _ hr hx (w.inN hn)
  have top := (come_snd hE hds m0 x).1
  cases hf : floydV l m0 F r x with
  | none =>
    show comeV N E m0 d x = N
    rcases Int.lt_or_le (comeV N E m0 d x) N with h | h
    · obtain ⟨y, hy, _⟩ := bf h
      rw [hf] at hy; cases hy
    · omega
  | some c =>
    show comeV N E m0 d x = n + c
    obtain ⟨hc, hlt⟩ := fb c hf
    obtain ⟨y, hy, hy2⟩ := bf hlt
    rw [hf] at hy
    have : c = y := Option.some.inj hy
    omega
end Go.Proofs.YtmllgnnhblhfeaaDoor
/-
  WHERE FLOYD'S TABLE BEGINS, and all three as one: plain theory.
-/
namespace Go.Proofs.YtmllgnnhblhfeaaDoor
open Go Go.Am
def gateF (F : Tab) (e : Edg) : Tab := setT (setT F e.1 e.2.1 (soonT (F e.1 e.2.1) (some e.2.2))) e.2.1 e.1 (soonT (F e.1 e.2.1) (some e.2.2))
/-- Where the program's table begins: no ways between two of the n rooms. -/
def noneF (n : Nat) : Tab := fun a b => if a < n ∧ b < n ∧ a ≠ b then none else some 0
def baseF (n : Nat) (E : List Edg) : Tab := E.foldl gateF (noneF n)
/-- The program's table of rooms below n. -/
def farV (E : List Edg) (l : List (Nat × Nat)) (n : Nat) : Tab := floydV l n (baseF n E)
def symF (F : Tab) : Prop := ∀ a b, F a b = F b a
theorem gateF_at {F : Tab} (h : symF F) (e : Edg) (a b : Nat) :
    gateF F e a b = if (a = e.1 ∧ b = e.2.1) ∨ (a = e.2.1 ∧ b = e.1) then soonT (F a b) (some e.2.2) else F a b := by
  unfold gateF setT
  by_cases h1 : a = e.2.1 ∧ b = e.1
  · rw [if_pos h1, if_pos (.inr h1), h1.1, h1.2, h e.2.1 e.1]
  · rw [if_neg h1]
    by_cases h2 : a = e.1 ∧ b = e.2.1
    · rw [if_pos h2, if_pos (.inl h2), h2.1, h2.2]
    · rw [if_neg h2, if_neg (fun q => q.elim h2 h1)]
theorem gateF_sym {F : Tab} (h : symF F) (e : Edg) : symF (gateF F e) := by
  intro a b
  rw [gateF_at h, gateF_at h, h b a]
  by_cases q : (a = e.1 ∧ b = e.2.1) ∨ (a = e.2.1 ∧ b = e.1)
  · rw [if_pos q, if_pos (q.elim (fun q => .inr ⟨q.2, q.1⟩) (fun q => .inl ⟨q.2, q.1⟩))]
  · rw [if_neg q, if_neg (fun p => q (p.elim (fun p => .inr ⟨p.2, p.1⟩) (fun p => .inl ⟨p.2, p.1⟩)))]
theorem gateF_le {F : Tab} (h : symF F) {e : Edg} {a b : Nat} {c : Int} (q : leN (F a b) c) : leN (gateF F e a b) c := by
  rw [gateF_at h]; split
  · exact soon_l q
  · exact q
theorem gates_le : ∀ (L : List Edg) (F : Tab), symF F → (∀ a b c, leN (F a b) c → leN (L.foldl gateF F a b) c) ∧ symF (L.foldl gateF F) ∧ ∀ a b w, St1 L a b w → leN (L.foldl gateF F a b) w := by
  intro L
  induction L with
  | nil => intro F h; exact ⟨fun _ _ _ q => q, h, fun a b w q => by rcases q with q | q <;> cases q⟩
  | cons e L ih =>
    intro F h
    obtain ⟨i1, i2, i3⟩ := ih (gateF F e) (gateF_sym h e)
    refine ⟨fun a b c q => i1 a b c (gateF_le h q), i2, fun a b w q => ?_⟩
    have hit : ∀ a b, ((a = e.1 ∧ b = e.2.1) ∨ (a = e.2.1 ∧ b = e.1)) → leN (gateF F e a b) e.2.2 := by
      intro a b q
      rw [gateF_at h, if_pos q]
      exact soon_r ⟨_, rfl, Int.le_refl _⟩
    rcases q with q | q
    · rcases List.mem_cons.1 q with rfl | q
      · exact i1 _ _ _ (hit a b (.inl ⟨rfl, rfl⟩))
      · exact i3 a b w (.inl q)
    · rcases List.mem_cons.1 q with rfl | q
      · exact i1 _ _ _ (hit a b (.inr ⟨rfl, rfl⟩))
      · exact i3 a b w (.inr q)
theorem gates_snd {E : List Edg} {n : Nat} : ∀ (L : List Edg) (F : Tab), (∀ e ∈ L, e ∈ E) → symF F → sndN E n F → sndN E n (L.foldl gateF F) := by
  intro L
  induction L with
  | nil => intro F _ _ h; exact h
  | cons e L ih =>
    intro F hL hs h
    refine ih (gateF F e) (fun q hq => hL q (List.mem_cons_of_mem _ hq)) (gateF_sym hs e) ?_
    intro a b c ha hb q
    rw [gateF_at hs] at q
    split at q
    · rename_i ab
      rcases soon_eq (F a b) (some e.2.2) with r | r
      · rw [r] at q; exact h a b c ha hb q
      · rw [r] at q
        have : e.2.2 = c := Option.some.inj q
        subst this
        have he := hL e List.mem_cons_self
        rcases ab with ⟨rfl, rfl⟩ | ⟨rfl, rfl⟩
        · exact .one (.inl he)
        · exact .one (.inr he)
    · exact h a b c ha hb q
theorem noneF_sym (n : Nat) : symF (noneF n) := by
  intro a b
  unfold noneF
  by_cases h : a < n ∧ b < n ∧ a ≠ b
  · rw [if_pos h, if_pos ⟨h.2.1, h.1, fun q => h.2.2 q.symm⟩]
  · rw [if_neg h, if_neg (fun q => h ⟨q.2.1, q.1, fun r => q.2.2 r.symm⟩)]
theorem noneF_snd (E : List Edg) (n : Nat) : sndN E n (noneF n) := by
  intro a b c ha hb q
  unfold noneF at q
  split at q
  · cases q
  · rename_i h
    have e : a = b := Classical.byContradiction fun r => h ⟨ha, hb, r⟩
    subst e
    have : (0 : Int) = c := Option.some.inj q
    subst this
    exact .none a
/-- What is asked of the gates of a valid scene. -/
structure GOk (n : Nat) (E : List Edg) : Prop where
  lo : ∀ a b w, St1 E a b w → 0 ≤ w
  hi : ∀ a b w, St1 E a b w → w ≤ 60
  room : ∀ a b w, St1 E a b w → a < n ∧ b < n
  ne : ∀ a b w, St1 E a b w → a ≠ b
theorem base_ok {n : Nat} (E : List Edg) : (∀ a, a < n → leN (baseF n E a a) 0) ∧ (∀ a b w, St1 E a b w → leN (baseF n E a b) w) ∧ sndN E n (baseF n E) := by
  obtain ⟨h1, _, h3⟩ := gates_le E (noneF n) (noneF_sym n)
  refine ⟨fun a _ => h1 a a 0 ⟨0, by unfold noneF; rw [if_neg (fun h => h.2.2 rfl)], Int.le_refl _⟩, h3, gates_snd E (noneF n) (fun _ h => h) (noneF_sym n) (noneF_snd E n)⟩
/-- All pairs of rooms. -/
def pairsOf (n : Nat) : List (Nat × Nat) := (List.range n).flatMap fun a => (List.range n).map fun b => (a, b)
theorem pairs_mem {n a b : Nat} : (a, b) ∈ pairsOf n ↔ a < n ∧ b < n := by
  unfold pairsOf
  constructor
  · intro h
    obtain ⟨x, hx, h⟩ := List.mem_flatMap.1 h
    obtain ⟨y, hy, h⟩ := List.mem_map.1 h
    cases h
    exact ⟨List.mem_range.1 hx, List.mem_range.1 hy⟩
  · rintro ⟨ha, hb⟩
    exact List.mem_flatMap.2 ⟨a, List.mem_range.2 ha, List.mem_map.2 ⟨b, List.mem_range.2 hb, rfl⟩⟩
theorem simple_le {n : Nat} {E : List Edg} (h : GOk n E) {r : Nat} (hr : r < n) {a : Nat} {m : List Nat} {c : Int} (p : Pth E r (a :: m) c) (q : (a :: m).Nodup) : c ≤ 60 * n := by
  have h1 := p.bound h.hi rfl
  have h2 := nodup_len q (p.inN h.room hr)
  simp only [List.length_cons] at h2
  omega
/-- The reference's row, from nothing but the room. -/
theorem far_bell {n : Nat} {E : List Edg} (h : GOk n E) {r x : Nat} (hr : r < n) (hx : x < n) {N : Int} (hN : 60 * (n : Int) < N) :
    bellV E n (fun y => if y = r then 0 else N) x = asB N (farV E (pairsOf n) n r x) := by
  obtain ⟨b1, b2, b3⟩ := base_ok (n := n) E
  refine floyd_bell h.lo h.room h.ne (fun a b ha hb => pairs_mem.2 ⟨ha, hb⟩) (fun p hp => (pairs_mem (a := p.1) (b := p.2)).1 hp) b1 b2 b3 hr (by show (if r = r then (0 : Int) else N) ≤ 0; rw [if_pos rfl]; exact Int.le_refl _)
    (fun y => ?_) (fun a m c p q => by have := simple_le h hr p q; omega) hx
  show (if y = r then (0 : Int) else N) ≤ N ∧ ((if y = r then (0 : Int) else N) < N → Way E _ y r (if y = r then (0 : Int) else N))
  by_cases e : y = r
  · rw [if_pos e]; subst e; exact ⟨by omega, fun _ => .none y⟩
  · rw [if_neg e]; exact ⟨Int.le_refl _, fun q => absurd q (Int.lt_irrefl _)⟩
/-- The laws' minutes. -/
theorem far_come {n : Nat} {E : List Edg} (h : GOk n E) {r x : Nat} (hr : r < n) (hx : x < n) {N t : Int} (hN : t + 60 * (n : Int) < N) :
    comeV N E n (fun y => if y = r then t else N) x = whenV N t (farV E (pairsOf n) n r x) := by
  obtain ⟨b1, b2, b3⟩ := base_ok (n := n) E
  refine floyd_come h.lo h.room (fun a b ha hb => pairs_mem.2 ⟨ha, hb⟩) (fun p hp => (pairs_mem (a := p.1) (b := p.2)).1 hp) b1 b2 b3 hr (by show (if r = r then t else N) ≤ t; rw [if_pos rfl]; exact Int.le_refl _)
    (fun y => ?_) (fun a m c p q => by have := simple_le h hr p q; omega) hx
  show (if y = r then t else N) ≤ N ∧ ((if y = r then t else N) < N → Way E _ y r ((if y = r then t else N) - t))
  by_cases e : y = r
  · rw [if_pos e]; subst e; refine ⟨by omega, fun _ => ?_⟩; rw [Int.sub_self]; exact .none y
  · rw [if_neg e]; exact ⟨Int.le_refl _, fun q => absurd q (Int.lt_irrefl _)⟩
/-- No time of the table is longer. -/
theorem far_lt {n : Nat} {E : List Edg} (h : GOk n E) {r x : Nat} (hr : r < n) (hx : x < n) {c : Int} (e : farV E (pairsOf n) n r x = some c) : 0 ≤ c ∧ c ≤ 60 * n := by
  obtain ⟨b1, b2, b3⟩ := base_ok (n := n) E
  have w := (floyd_snd (fun p hp => (pairs_mem (a := p.1) (b := p.2)).1 hp) b3 n (Nat.le_refl _) r x c hr hx e)
  have key : ∀ {S : Nat → Prop} {a b : Nat} {c : Int}, Way E S a b c → 0 ≤ c := by
    intro S a b c q
    induction q with
    | none a => exact Int.le_refl _
    | one s => exact h.lo _ _ _ s
    | cons s _ _ ih => have := h.lo _ _ _ s; omega
  refine ⟨key w, ?_⟩
  obtain ⟨m, d, p1, p2, p3⟩ := w.rev.simple h.lo
  have hd := simple_le h hr p1 p3
  obtain ⟨y, hy, hy2⟩ := floyd_le h.lo (fun a b ha hb => pairs_mem.2 ⟨ha, hb⟩) b1 b2 n (Nat.le_refl _) r x d hr hx ((p1.way rfl).rev.inN h.room)
  have : c = y := Option.some.inj (e.symm.trans hy)
  omega
end Go.Proofs.YtmllgnnhblhfeaaDoor
/-
  LISTS OF DELAYS IN THEIR ORDER: plain theory.
-/
namespace Go.Proofs.YtmllgnnhblhfeaaDoor
open Go Go.Am
/-- The first list. -/
def leastD (g : List Spn) : List Int := g.map (·.1)
/-- The next list. -/
def nextD : List Spn → List Int → Option (List Int)
  | s :: g, d :: ds => match nextD g ds with
    | some e => some (d :: e)
    | none => if d < s.2 then some ((d + 1) :: leastD g) else none
  | _, _ => none
/-- n + 1 blocks, from delay d on. -/
def blockD (L : List (List Int)) (d : Int) : Nat → List (List Int)
  | 0 => L.map (d :: ·)
  | n + 1 => L.map (d :: ·) ++ blockD L (d + 1) n
def allD : List Spn → List (List Int)
  | [] => [[]]
  | s :: g => blockD (allD g) s.1 (s.2 - s.1).toNat
/-- Each list is followed by the next one, the last one by none. -/
def runD (nx : List Int → Option (List Int)) : List (List Int) → Prop
  | [] => False
  | [a] => nx a = none
  | a :: b :: l => nx a = some b ∧ runD nx (b :: l)
theorem run_last {g : List Spn} {s : Spn} {d : Int} (h : ¬ d < s.2) : ∀ {L : List (List Int)}, runD (nextD g) L → runD (nextD (s :: g)) (L.map (d :: ·)) := by
  intro L
  induction L with
  | nil => exact id
  | cons a L ih =>
    cases L with
    | nil =>
      intro q
      have q : nextD g a = none := q
      show nextD (s :: g) (d :: a) = none
      unfold nextD; rw [q]
      exact if_neg h
    | cons b L =>
      intro q
      obtain ⟨q1, q2⟩ := q
      refine ⟨?_, ih q2⟩
      show nextD (s :: g) (d :: a) = some (d :: b)
      unfold nextD; rw [q1]
theorem run_more {g : List Spn} {s : Spn} {d : Int} (h : d < s.2) {M : List (List Int)} (hM : runD (nextD (s :: g)) (((d + 1) :: leastD g) :: M)) :
    ∀ {L : List (List Int)}, runD (nextD g) L → runD (nextD (s :: g)) (L.map (d :: ·) ++ ((d + 1) :: leastD g) :: M) := by
  intro L
  induction L with
  | nil => exact False.elim
  | cons a L ih =>
    cases L with
    | nil =>
      intro q
      have q : nextD g a = none := q
      refine ⟨?_, hM⟩
      show nextD (s :: g) (d :: a) = _
      unfold nextD; rw [q]
      exact if_pos h
    | cons b L =>
      intro q
      obtain ⟨q1, q2⟩ := q
      refine ⟨?_, ih q2⟩
      show nextD (s :: g) (d :: a) = some (d :: b)
      unfold nextD; rw [q1]
theorem block_run {g : List Spn} {s : Spn} {L t : List (List Int)} (hL : runD (nextD g) L) (e : L = leastD g :: t) :
    ∀ (n : Nat) (d : Int), s.2 = d + n → (∃ u, blockD L d n = (d :: leastD g) :: u) ∧ runD (nextD (s :: g)) (blockD L d n) := by
  intro n
  induction n with
  | zero =>
    intro d h
    refine ⟨⟨t.map (d :: ·), by rw [e]; rfl⟩, run_last (by omega) hL⟩
  | succ n ih =>
    intro d h
    obtain ⟨⟨u, hu⟩, q⟩ := ih (d + 1) (by omega)
    refine ⟨⟨t.map (d :: ·) ++ blockD L (d + 1) n, by rw [e]; rfl⟩, ?_⟩
    show runD _ (L.map (d :: ·) ++ blockD L (d + 1) n)
    rw [hu] at q ⊢
    exact run_more (by omega) q hL
theorem all_run : ∀ {g : List Spn}, (∀ s ∈ g, s.1 ≤ s.2) → (∃ t, allD g = leastD g :: t) ∧ runD (nextD g) (allD g) := by
  intro g
  induction g with
  | nil => intro _; exact ⟨⟨[], rfl⟩, rfl⟩
  | cons s g ih =>
    intro h
    obtain ⟨⟨t, e⟩, q⟩ := ih (fun x hx => h x (List.mem_cons_of_mem _ hx))
    have hs := h s List.mem_cons_self
    exact block_run q e (s.2 - s.1).toNat s.1 (by omega)
/-- Delays that there can be. -/
def areD : List Spn → List Int → Prop
  | [], [] => True
  | s :: g, d :: ds => inS s d ∧ areD g ds
  | _, _ => False
theorem block_mem {L : List (List Int)} {ds : List Int} : ∀ {n : Nat} {d : Int}, ds ∈ blockD L d n ↔ ∃ x l, ds = x :: l ∧ d ≤ x ∧ x ≤ d + n ∧ l ∈ L := by
  intro n
  induction n with
  | zero =>
    intro d
    show ds ∈ L.map (d :: ·) ↔ _
    rw [List.mem_map]
    constructor
    · rintro ⟨l, hl, rfl⟩; exact ⟨d, l, rfl, Int.le_refl _, by omega, hl⟩
    · rintro ⟨x, l, rfl, h1, h2, h3⟩
      have : x = d := by omega
      subst this; exact ⟨l, h3, rfl⟩
  | succ n ih =>
    intro d
    show ds ∈ L.map (d :: ·) ++ blockD L (d + 1) n ↔ _
    rw [List.mem_append, List.mem_map, ih]
    constructor
    · rintro (⟨l, hl, rfl⟩ | ⟨x, l, rfl, h1, h2, h3⟩)
      · exact ⟨d, l, rfl, Int.le_refl _, by omega, hl⟩
      · exact ⟨x, l, rfl, by omega, by omega, h3⟩
    · rintro ⟨x, l, rfl, h1, h2, h3⟩
      by_cases h : x = d
      · subst h; exact .inl ⟨l, h3, rfl⟩
      · exact .inr ⟨x, l, rfl, by omega, by omega, h3⟩
theorem all_mem : ∀ {g : List Spn} {ds : List Int}, (∀ s ∈ g, s.1 ≤ s.2) → (ds ∈ allD g ↔ areD g ds) := by
  intro g
  induction g with
  | nil =>
    intro ds _
    show ds ∈ [[]] ↔ _
    rw [List.mem_singleton]
    cases ds with
    | nil => exact ⟨fun _ => trivial, fun _ => rfl⟩
    | cons d ds => exact ⟨fun h => (List.cons_ne_nil _ _ h).elim, False.elim⟩
  | cons s g ih =>
    intro ds h
    have hs := h s List.mem_cons_self
    show ds ∈ blockD (allD g) s.1 (s.2 - s.1).toNat ↔ _
    rw [block_mem]
    cases ds with
    | nil => exact ⟨fun ⟨_, _, e, _⟩ => (List.cons_ne_nil _ _ e.symm).elim, False.elim⟩
    | cons d ds =>
      constructor
      · rintro ⟨x, l, e, h1, h2, h3⟩
        cases e
        exact ⟨⟨h1, by omega⟩, (ih fun y hy => h y (List.mem_cons_of_mem _ hy)).1 h3⟩
      · rintro ⟨h1, h2⟩
        have a1 := h1.1; have a2 := h1.2
        exact ⟨d, ds, rfl, h1.1, by omega, (ih fun y hy => h y (List.mem_cons_of_mem _ hy)).2 h2⟩
/-- The first delay that differs is less. -/
def befD : List Int → List Int → Prop
  | a :: l, b :: m => a < b ∨ a = b ∧ befD l m
  | _, _ => False
theorem block_ord {L : List (List Int)} (h : L.Pairwise befD) : ∀ {n : Nat} {d : Int}, (blockD L d n).Pairwise befD := by
  have one : ∀ d : Int, (L.map (d :: ·)).Pairwise befD := by
    intro d
    rw [List.pairwise_map]
    exact h.imp fun q => .inr ⟨rfl, q⟩
  intro n
  induction n with
  | zero => intro d; exact one d
  | succ n ih =>
    intro d
    show (L.map (d :: ·) ++ blockD L (d + 1) n).Pairwise befD
    rw [List.pairwise_append]
    refine ⟨one d, ih, fun a ha b hb => ?_⟩
    obtain ⟨l, _, rfl⟩ := List.mem_map.1 ha
    obtain ⟨x, m, rfl, h1, _, _⟩ := block_mem.1 hb
    exact .inl (by omega)
theorem all_ord : ∀ g : List Spn, (allD g).Pairwise befD := by
  intro g
  induction g with
  | nil => exact List.pairwise_singleton _ _
  | cons s g ih => exact block_ord ih
/-- The first one of which something is so. -/
theorem first_ord {g : List Spn} {p : List Int → Bool} {ds : List Int} (h : (allD g).find? p = some ds) : ds ∈ allD g ∧ p ds = true ∧ ∀ e ∈ allD g, p e = true → e = ds ∨ befD ds e := by
  obtain ⟨hp, l, m, e, hl⟩ := List.find?_eq_some_iff_append.1 h
  have ho := all_ord g
  rw [e] at ho ⊢
  refine ⟨List.mem_append_right _ List.mem_cons_self, hp, fun x hx hpx => ?_⟩
  rcases List.mem_append.1 hx with hx | hx
  · have := hl x hx
    rw [hpx] at this; cases this
  · rcases List.mem_cons.1 hx with rfl | hx
    · exact .inl rfl
    · exact .inr ((List.pairwise_cons.1 (List.pairwise_append.1 ho).2.1).1 x hx)
end Go.Proofs.YtmllgnnhblhfeaaDoor
/-
  THE NEXT LIST OF DELAYS, AS IT IS MADE IN PLACE: plain theory.
-/
namespace Go.Proofs.YtmllgnnhblhfeaaDoor
open Go Go.Am
theorem next_take : ∀ {i : Nat} {g : List Spn} {ds e : List Int}, i ≤ g.length → i ≤ ds.length → nextD (g.drop i) (ds.drop i) = some e → nextD g ds = some (ds.take i ++ e) := by
  intro i
  induction i with
  | zero => intro g ds e _ _ h; exact h
  | succ i ih =>
    intro g ds e h1 h2 h
    cases g with
    | nil => exact absurd h1 (Nat.not_succ_le_zero _)
    | cons s g =>
      cases ds with
      | nil => exact absurd h2 (Nat.not_succ_le_zero _)
      | cons d ds =>
        have q := ih (Nat.le_of_succ_le_succ h1) (Nat.le_of_succ_le_succ h2) h
        show nextD (s :: g) (d :: ds) = _
        unfold nextD; rw [q]; rfl
/-- All from i on were the last ones: what stands at i - 1? -/
theorem next_at {g : List Spn} {ds : List Int} (hl : ds.length = g.length) {i : Nat} (hi : i < g.length) (h : nextD (g.drop (i + 1)) (ds.drop (i + 1)) = none) :
    (ds[i]! < (g[i]!).2 → nextD g ds = some (ds.take i ++ (ds[i]! + 1) :: (leastD g).drop (i + 1))) ∧
    (¬ ds[i]! < (g[i]!).2 → nextD (g.drop i) (ds.drop i) = none) := by
  have hi2 : i < ds.length := by omega
  have eg : g.drop i = g[i]! :: g.drop (i + 1) := by rw [List.drop_eq_getElem_cons hi, getElem!_pos g i hi]
  have ed : ds.drop i = ds[i]! :: ds.drop (i + 1) := by rw [List.drop_eq_getElem_cons hi2, getElem!_pos ds i hi2]
  refine ⟨fun q => ?_, fun q => ?_⟩
  · refine next_take (by omega) (by omega) ?_
    rw [eg, ed]
    unfold nextD; rw [h]
    show (if ds[i]! < (g[i]!).2 then some ((ds[i]! + 1) :: leastD (g.drop (i + 1))) else none) = _
    rw [if_pos q]
    unfold leastD
    rw [List.map_drop]
  · rw [eg, ed]
    unfold nextD; rw [h]
    exact if_neg q
theorem next_nil {g : List Spn} {ds : List Int} (hl : ds.length = g.length) : nextD (g.drop g.length) (ds.drop g.length) = none := by
  rw [List.drop_length, ← hl, List.drop_length]; rfl
theorem next_len : ∀ {g : List Spn} {ds e : List Int}, ds.length = g.length → nextD g ds = some e → e.length = g.length := by
  intro g
  induction g with
  | nil => intro ds e _ h; cases ds <;> cases h
  | cons s g ih =>
    intro ds e hl h
    cases ds with
    | nil => cases h
    | cons d ds =>
      unfold nextD at h
      cases q : nextD g ds with
      | some f =>
        rw [q] at h
        cases h
        show f.length + 1 = g.length + 1
        rw [ih (Nat.succ.inj hl) q]
      | none =>
        rw [q] at h
        have h : (if d < s.2 then some ((d + 1) :: leastD g) else none) = some e := h
        split at h
        · cases h
          show (leastD g).length + 1 = g.length + 1
          unfold leastD; rw [List.length_map]
        · cases h
/-- How many lists there are. -/
theorem block_len (L : List (List Int)) : ∀ (n : Nat) (d : Int), (blockD L d n).length = (n + 1) * L.length := by
  intro n
  induction n with
  | zero => intro d; show (L.map _).length = _; rw [List.length_map, Nat.zero_add, Nat.one_mul]
  | succ n ih => intro d; show (L.map _ ++ blockD L (d + 1) n).length = _; rw [List.length_append, List.length_map, ih, Nat.succ_mul (n + 1), Nat.add_comm]
theorem all_len : ∀ {g : List Spn}, (∀ s ∈ g, s.2 ≤ s.1 + 2) → (allD g).length ≤ 3 ^ g.length := by
  intro g
  induction g with
  | nil => intro _; exact Nat.le_refl _
  | cons s g ih =>
    intro h
    have h1 := ih fun x hx => h x (List.mem_cons_of_mem _ hx)
    have hs := h s List.mem_cons_self
    show (blockD (allD g) s.1 (s.2 - s.1).toNat).length ≤ 3 ^ (g.length + 1)
    rw [block_len, Nat.pow_succ, Nat.mul_comm _ 3]
    exact Nat.mul_le_mul (by omega) h1
end Go.Proofs.YtmllgnnhblhfeaaDoor
/-
  THE FEWEST MARKS: the first of sorted sets is the best of all sets, one after the other. Plain theory.
-/
namespace Go.Proofs.YtmllgnnhblhfeaaDoor
open Go Go.Am
/-- A strict order of the sets below n. -/
structure OrdN (n : Nat) (lt : Nat → Nat → Bool) : Prop where
  self : ∀ a, a < n → lt a a = false
  trans : ∀ a b c, a < n → b < n → c < n → lt a b = true → lt b c = true → lt a c = true
  tot : ∀ a b, a < n → b < n → lt a b = false → lt b a = false → a = b
def isMin (n : Nat) (lt : Nat → Nat → Bool) (p : Nat → Bool) (s : Nat) : Prop := s < n ∧ p s = true ∧ ∀ t, t < n → p t = true → lt t s = false
theorem min_one {n : Nat} {lt : Nat → Nat → Bool} (h : OrdN n lt) {p : Nat → Bool} {s t : Nat} (hs : isMin n lt p s) (ht : isMin n lt p t) : s = t :=
  h.tot s t hs.1 ht.1 (ht.2.2 s hs.1 hs.2.1) (hs.2.2 t ht.1 ht.2.1)
/-- The first one of a sorted list of all sets. -/
theorem min_sorted {n : Nat} {lt : Nat → Nat → Bool} (h : OrdN n lt) {p : Nat → Bool} {l : List Nat} (hl : ∀ a, a ∈ l ↔ a < n) (hs : l.Pairwise (fun a b => lt b a = false)) {s : Nat}
    (hf : l.find? p = some s) : isMin n lt p s := by
  obtain ⟨hp, x, y, e, hx⟩ := List.find?_eq_some_iff_append.1 hf
  have hsl : s ∈ l := by rw [e]; exact List.mem_append_right _ List.mem_cons_self
  refine ⟨(hl s).1 hsl, hp, fun t ht hpt => ?_⟩
  have htl := (hl t).2 ht
  rw [e] at htl hs
  rcases List.mem_append.1 htl with q | q
  · have := hx t q
    rw [hpt] at this; cases this
  · rcases List.mem_cons.1 q with rfl | q
    · exact h.self t ht
    · exact (List.pairwise_cons.1 (List.pairwise_append.1 hs).2.1).1 t q
/-- The best of all below k, and one more. -/
def bestN (lt : Nat → Nat → Bool) (p : Nat → Bool) (of : Nat) : Nat → Nat
  | 0 => of
  | k + 1 => if lt k (bestN lt p of k) && p k then k else bestN lt p of k
theorem best_facts {n : Nat} {lt : Nat → Nat → Bool} (h : OrdN n lt) {p : Nat → Bool} {of : Nat} (ho : of < n) (hp : p of = true) :
    ∀ k, k ≤ n → bestN lt p of k < n ∧ p (bestN lt p of k) = true ∧ lt of (bestN lt p of k) = false ∧ ∀ t, t < k → p t = true → lt t (bestN lt p of k) = false := by
  intro k
  induction k with
  | zero => intro _; exact ⟨ho, hp, h.self of ho, fun t ht => absurd ht (Nat.not_lt_zero _)⟩
  | succ k ih =>
    intro hk
    obtain ⟨i1, i2, i3, i4⟩ := ih (by omega)
    unfold bestN
    cases c : (lt k (bestN lt p of k) && p k)
    · rw [if_neg Bool.false_ne_true]
      refine ⟨i1, i2, i3, fun t ht hpt => ?_⟩
      rcases Nat.lt_or_ge t k with q | q
      · exact i4 t q hpt
      · have : t = k := by omega
        subst this
        rw [hpt, Bool.and_true] at c
        exact c
    · rw [if_pos rfl]
      obtain ⟨c1, c2⟩ := Bool.and_eq_true_iff.1 c
      have keep : ∀ t, t < n → lt t (bestN lt p of k) = false → lt t k = false := by
        intro t ht hlt
        cases q : lt t k
        · rfl
        · rw [h.trans t k _ ht (by omega) i1 q c1] at hlt; cases hlt
      refine ⟨by omega, c2, keep of ho i3, fun t ht hpt => ?_⟩
      rcases Nat.lt_or_ge t k with q | q
      · exact keep t (by omega) (i4 t q hpt)
      · have : t = k := by omega
        subst this
        exact h.self t (by omega)
/-- The reference begins with all marks, which are the last set, and asks those before it. -/
theorem best_min {n : Nat} {lt : Nat → Nat → Bool} {p : Nat → Bool} (h : OrdN (n + 1) lt) (hp : p n = true) : isMin (n + 1) lt p (bestN lt p n n) := by
  obtain ⟨h1, h2, h3, h4⟩ := best_facts h (Nat.lt_succ_self n) hp n (by omega)
  refine ⟨h1, h2, fun t ht hpt => ?_⟩
  rcases Nat.lt_or_ge t n with q | q
  · exact h4 t q hpt
  · have : t = n := by omega
    subst this; exact h3
theorem find_best {n : Nat} {lt : Nat → Nat → Bool} {p : Nat → Bool} (h : OrdN (n + 1) lt) (hp : p n = true) {l : List Nat} (hl : ∀ a, a ∈ l ↔ a < n + 1)
    (hs : l.Pairwise (fun a b => lt b a = false)) : l.find? p = some (bestN lt p n n) := by
  cases hf : l.find? p with
  | none =>
    have := List.find?_eq_none.1 hf n ((hl n).2 (Nat.lt_succ_self n))
    exact absurd hp this
  | some s => rw [min_one h (min_sorted h hl hs hf) (best_min h hp)]
end Go.Proofs.YtmllgnnhblhfeaaDoor
/-
  THE ORDER OF SETS OF MARKS: plain theory.
-/
namespace Go.Proofs.YtmllgnnhblhfeaaDoor
open Go Go.Am
def lexD : List Int → List Int → Bool
  | x :: a, y :: b => if x = y then lexD a b else decide (x < y)
  | _, _ => false
def ahdD (a b : List Int) : Bool := if a.length = b.length then lexD a b else decide (a.length < b.length)
theorem lexD_self : ∀ a : List Int, lexD a a = false := by
  intro a
  induction a with
  | nil => rfl
  | cons x a ih => unfold lexD; rw [if_pos rfl]; exact ih
theorem lexD_pre (x y : List Int) : ∀ p : List Int, lexD (p ++ x) (p ++ y) = lexD x y := by
  intro p
  induction p with
  | nil => rfl
  | cons a p ih =>
    have e : lexD (a :: (p ++ x)) (a :: (p ++ y)) = lexD (p ++ x) (p ++ y) := if_pos rfl
    exact e.trans ih
theorem lexD_trans : ∀ {a b c : List Int}, lexD a b = true → lexD b c = true → lexD a c = true := by
  intro a
  induction a with
  | nil => intro b c h; cases b <;> cases h
  | cons x a ih =>
    intro b c h1 h2
    cases b with
    | nil => cases h1
    | cons y b =>
      cases c with
      | nil => cases h2
      | cons z c =>
        unfold lexD at h1 h2 ⊢
        by_cases e1 : x = y
        · rw [if_pos e1] at h1
          by_cases e2 : y = z
          · rw [if_pos e2] at h2
            rw [if_pos (e1.trans e2)]; exact ih h1 h2
          · rw [if_neg e2] at h2
            have := of_decide_eq_true h2
            rw [if_neg (by omega)]; exact decide_eq_true (by omega)
        · rw [if_neg e1] at h1
          have h3 := of_decide_eq_true h1
          by_cases e2 : y = z
          · rw [if_neg (by omega)]; exact decide_eq_true (by omega)
          · rw [if_neg e2] at h2
            have h4 := of_decide_eq_true h2
            rw [if_neg (by omega)]; exact decide_eq_true (by omega)
theorem lexD_tot : ∀ {a b : List Int}, a.length = b.length → lexD a b = false → lexD b a = false → a = b := by
  intro a
  induction a with
  | nil => intro b h _ _; exact (List.eq_nil_of_length_eq_zero h.symm).symm
  | cons x a ih =>
    intro b h h1 h2
    cases b with
    | nil => cases h
    | cons y b =>
      unfold lexD at h1 h2
      by_cases e : x = y
      · subst e
        rw [if_pos rfl] at h1 h2
        rw [ih (by simpa using h) h1 h2]
      · rw [if_neg e] at h1
        rw [if_neg (Ne.symm e)] at h2
        have := of_decide_eq_false h1
        have := of_decide_eq_false h2
        omega
theorem ahdD_self (a : List Int) : ahdD a a = false := by unfold ahdD; rw [if_pos rfl]; exact lexD_self a
theorem ahdD_trans {a b c : List Int} (h1 : ahdD a b = true) (h2 : ahdD b c = true) : ahdD a c = true := by
  unfold ahdD at *
  by_cases e1 : a.length = b.length
  · rw [if_pos e1] at h1
    by_cases e2 : b.length = c.length
    · rw [if_pos e2] at h2
      rw [if_pos (e1.trans e2)]; exact lexD_trans h1 h2
    · rw [if_neg e2] at h2
      rw [if_neg (by omega), e1]; exact h2
  · rw [if_neg e1] at h1
    have h3 := of_decide_eq_true h1
    by_cases e2 : b.length = c.length
    · rw [if_neg (by omega)]; exact decide_eq_true (by omega)
    · rw [if_neg e2] at h2
      have h4 := of_decide_eq_true h2
      rw [if_neg (by omega)]; exact decide_eq_true (by omega)
theorem ahdD_tot {a b : List Int} (h1 : ahdD a b = false) (h2 : ahdD b a = false) : a = b := by
  unfold ahdD at *
  by_cases e : a.length = b.length
  · rw [if_pos e] at h1
    rw [if_pos e.symm] at h2
    exact lexD_tot e h1 h2
  · rw [if_neg e] at h1
    rw [if_neg (Ne.symm e)] at h2
    have := of_decide_eq_false h1
    have := of_decide_eq_false h2
    omega
/-! ### the lowest bit -/
/-- Places of a set of at most eight marks. -/
def posD (s : Nat) : List Nat := (List.range 8).filter fun i => s.testBit i
def popD (s : Nat) : Nat := (List.range 8).countP fun i => s.testBit i
/-- The program's order of sets below 256. -/
def ordD (a b : Nat) : Bool :=
  if popD a ≠ popD b then decide (popD a < popD b)
  else let x := a ^^^ b; let m := x &&& ((256 - x) &&& 255); decide (b &&& m < a &&& m)
def ordL (a b : List Nat) : Bool := ahdD (a.map fun (n : Nat) => (n : Int)) (b.map fun (n : Nat) => (n : Int))
theorem lex_map (f : Nat → Int) : ∀ {a b : List Nat}, (∀ x y, x ∈ a → y ∈ b → (f x < f y ↔ x < y) ∧ (f x = f y ↔ x = y)) → lexD (a.map f) (b.map f) = lexD (a.map fun (n : Nat) => (n : Int)) (b.map fun (n : Nat) => (n : Int)) := by
  intro a
  induction a with
  | nil => intro b _; cases b <;> rfl
  | cons x a ih =>
    intro b h
    cases b with
    | nil => rfl
    | cons y b =>
      obtain ⟨h1, h2⟩ := h x y List.mem_cons_self List.mem_cons_self
      have q := ih (b := b) fun u v hu hv => h u v (List.mem_cons_of_mem _ hu) (List.mem_cons_of_mem _ hv)
      simp only [List.map_cons, lexD]
      by_cases e : x = y
      · subst e; simp [q]
      · have e1 : ¬ f x = f y := fun p => e (h2.1 p)
        have e2 : ¬ (x : Int) = y := fun p => e (Int.ofNat.inj p)
        simp only [e1, e2, if_false]
        by_cases lt : x < y
        · simp [h1.2 lt, lt]
        · have : ¬ f x < f y := fun p => lt (h1.1 p)
          simp [this, lt]
theorem posD_mem {s i : Nat} : i ∈ posD s ↔ i < 8 ∧ s.testBit i = true := by unfold posD; rw [List.mem_filter, List.mem_range]
theorem posD_inj {a b : Nat} (ha : a < 256) (hb : b < 256) (h : posD a = posD b) : a = b := by
  refine Nat.eq_of_testBit_eq fun i => ?_
  by_cases hi : i < 8
  · have := @posD_mem a i
    rw [h, posD_mem] at this
    cases p : a.testBit i <;> cases q : b.testBit i
    · rfl
    · rw [p, q] at this; exact absurd (this.1 ⟨hi, rfl⟩).2 Bool.false_ne_true
    · rw [p, q] at this; exact absurd (this.2 ⟨hi, rfl⟩).2 Bool.false_ne_true
    · rfl
  · have pw : 256 ≤ 2 ^ i := by
      have : 2 ^ 8 ≤ 2 ^ i := Nat.pow_le_pow_right (by decide) (by omega)
      exact this
    rw [Nat.testBit_lt_two_pow (by omega), Nat.testBit_lt_two_pow (by omega)]
theorem ordL_ord : OrdN 256 (fun a b => ordL (posD a) (posD b)) := by
  refine ⟨fun a _ => ahdD_self _, fun a b c _ _ _ h1 h2 => ahdD_trans h1 h2, fun a b ha hb h1 h2 => posD_inj ha hb ?_⟩
  have e := ahdD_tot h1 h2
  exact (List.map_inj_right (f := fun (n : Nat) => (n : Int)) (fun x y h => Int.ofNat.inj h)).1 e
theorem ord_all : ((List.range 256).all fun a => (List.range 256).all fun b => ordD a b == ordL (posD a) (posD b)) = true := by decide +kernel
theorem ord_eq {a b : Nat} (ha : a < 256) (hb : b < 256) : ordD a b = ordL (posD a) (posD b) := by
  have h := List.all_eq_true.1 (List.all_eq_true.1 ord_all a (List.mem_range.2 ha)) b (List.mem_range.2 hb)
  exact eq_of_beq h
theorem ordD_ord : OrdN 256 ordD := by
  have h := ordL_ord
  refine ⟨fun a ha => ?_, fun a b c ha hb hc h1 h2 => ?_, fun a b ha hb h1 h2 => ?_⟩
  · rw [ord_eq ha ha]; exact h.self a ha
  · rw [ord_eq ha hb] at h1; rw [ord_eq hb hc] at h2; rw [ord_eq ha hc]; exact h.trans a b c ha hb hc h1 h2
  · rw [ord_eq ha hb] at h1; rw [ord_eq hb ha] at h2; exact h.tot a b ha hb h1 h2
theorem OrdN.le {n m : Nat} {lt : Nat → Nat → Bool} (h : OrdN m lt) (q : n ≤ m) : OrdN n lt :=
  ⟨fun a ha => h.self a (by omega), fun a b c ha hb hc => h.trans a b c (by omega) (by omega) (by omega), fun a b ha hb => h.tot a b (by omega) (by omega)⟩
end Go.Proofs.YtmllgnnhblhfeaaDoor
