import Derived.Test.YtmllgnnhblhfeaaDoorNR
/-
  HOW THE PROGRAM FILLS ITS TABLE: plain.
-/
namespace Go.Proofs.YtmllgnnhblhfeaaDoor
open Go Go.Am
def nevF (n a b : Nat) : Tab := fun x y => if (x < a ∨ (x = a ∧ y < b)) ∧ y < n ∧ x ≠ y then none else some 0
theorem nev_zero (n : Nat) : nevF n 0 0 = fun _ _ => some 0 := by
  funext x y; unfold nevF; rw [if_neg]; omega
theorem nev_row (n a : Nat) : nevF n a n = nevF n (a + 1) 0 := by
  funext x y; unfold nevF
  by_cases h : (x < a ∨ (x = a ∧ y < n)) ∧ y < n ∧ x ≠ y
  · rw [if_pos h, if_pos (by omega)]
  · rw [if_neg h, if_neg (by omega)]
theorem nev_all (n : Nat) : nevF n n 0 = noneF n := by
  funext x y; unfold nevF noneF
  by_cases h : x < n ∧ y < n ∧ x ≠ y
  · rw [if_pos h, if_pos (by omega)]
  · rw [if_neg h, if_neg (by omega)]
theorem nev_ne {n a b : Nat} (hb : b < n) (h : a ≠ b) : setT (nevF n a b) a b none = nevF n a (b + 1) := by
  funext x y; unfold nevF setT
  by_cases e : x = a ∧ y = b
  · rw [if_pos e, if_pos (by omega)]
  · rw [if_neg e]
    show (if (x < a ∨ (x = a ∧ y < b)) ∧ y < n ∧ x ≠ y then (none : Tm) else some 0) = _
    by_cases q : (x < a ∨ (x = a ∧ y < b)) ∧ y < n ∧ x ≠ y
    · rw [if_pos q, if_pos (by omega)]
    · rw [if_neg q, if_neg (by omega)]
theorem nev_eq (n a : Nat) : nevF n a a = nevF n a (a + 1) := by
  funext x y; unfold nevF
  by_cases q : (x < a ∨ (x = a ∧ y < a)) ∧ y < n ∧ x ≠ y
  · rw [if_pos q, if_pos (by omega)]
  · rw [if_neg q, if_neg (by omega)]
/-! ### the gates -/
def gatK (n : Nat) (gs : List Gt) (ds : List Int) (k : Nat) : Tab := ((edgs gs ds).take k).foldl gateF (noneF n)
theorem edgs_get : ∀ {gs : List Gt} {ds : List Int} {k : Nat} {g : Gt} {d : Int}, gs[k]? = some g → ds[k]? = some d → (edgs gs ds)[k]? = some (edgOf g d) := by
  intro gs ds k g d h1 h2
  unfold edgs
  rw [List.getElem?_zipWith, h1, h2]
theorem gatK_succ {n : Nat} {gs : List Gt} {ds : List Int} {k : Nat} {g : Gt} {d : Int} (h1 : gs[k]? = some g) (h2 : ds[k]? = some d) : gatK n gs ds (k + 1) = gateF (gatK n gs ds k) (edgOf g d) := by
  unfold gatK
  rw [take_snoc (edgs_get h1 h2), List.foldl_append]; rfl
theorem gatK_all {n : Nat} {gs : List Gt} {ds : List Int} {k : Nat} (h : (edgs gs ds).length ≤ k) : gatK n gs ds k = baseF n (edgs gs ds) := by
  unfold gatK baseF
  rw [List.take_of_length_le h]
/-! ### Floyd, pair by pair -/
def preP (n a b : Nat) : List (Nat × Nat) := ((List.range a).flatMap fun x => (List.range n).map fun y => (x, y)) ++ (List.range b).map fun y => (a, y)
theorem preP_zero (n : Nat) : preP n 0 0 = [] := rfl
theorem preP_succ (n a b : Nat) : preP n a (b + 1) = preP n a b ++ [(a, b)] := by
  unfold preP
  rw [List.range_succ, List.map_append, List.append_assoc]; rfl
theorem preP_row (n a : Nat) : preP n a n = preP n (a + 1) 0 := by
  unfold preP
  rw [List.range_succ, List.flatMap_append]; simp
theorem preP_all (n : Nat) : preP n n 0 = pairsOf n := by
  unfold preP pairsOf; simp
theorem preP_mem {n a b : Nat} (ha : a ≤ n) (hb : b ≤ n) (h : a < n ∨ b = 0) : ∀ p ∈ preP n a b, p.1 < n ∧ p.2 < n := by
  intro p hp
  unfold preP at hp
  rcases List.mem_append.1 hp with hp | hp
  · obtain ⟨x, hx, hp⟩ := List.mem_flatMap.1 hp
    obtain ⟨y, hy, rfl⟩ := List.mem_map.1 hp
    have := List.mem_range.1 hx; have := List.mem_range.1 hy
    exact ⟨by show x < n; omega, by show y < n; omega⟩
  · obtain ⟨y, hy, rfl⟩ := List.mem_map.1 hp
    have := List.mem_range.1 hy
    exact ⟨by show a < n; omega, by show y < n; omega⟩
def flK (n : Nat) (F : Tab) (k a b : Nat) : Tab := roundF k (floydV (pairsOf n) k F) (preP n a b)
theorem flK_zero (n : Nat) (F : Tab) : flK n F 0 0 0 = F := rfl
theorem flK_succ (n : Nat) (F : Tab) (k a b : Nat) : flK n F k a (b + 1) = stepF k (flK n F k a b) (a, b) := by
  unfold flK roundF
  rw [preP_succ, List.foldl_append]; rfl
theorem flK_row (n : Nat) (F : Tab) (k a : Nat) : flK n F k a n = flK n F k (a + 1) 0 := by unfold flK; rw [preP_row]
theorem flK_all (n : Nat) (F : Tab) (k : Nat) : flK n F k n 0 = flK n F (k + 1) 0 0 := by
  unfold flK
  rw [preP_all]; rfl
theorem flK_end (n : Nat) (F : Tab) : flK n F n 0 0 = floydV (pairsOf n) n F := rfl
/-- Times that are bounded, none on the diagonal. -/
structure BdF (n : Nat) (M : Int) (F : Tab) : Prop where
  diag : ∀ x, x < n → F x x = some 0
  bd : ∀ x y c, F x y = some c → 0 ≤ c ∧ c ≤ M
theorem soon_zero {t : Tm} (h : ∀ c, t = some c → 0 ≤ c) : soonT (some 0) t = some 0 := by
  unfold soonT
  cases t with
  | none => rfl
  | some c =>
    have := h c rfl
    show (if decide (c < 0) = true then _ else _) = _
    rw [if_neg (by rw [decide_eq_true_eq]; omega)]
theorem soon_self (t : Tm) : soonT t (andT t (some 0)) = t := by
  unfold soonT
  cases t with
  | none => rfl
  | some c =>
    show (if decide (c + 0 < c) = true then _ else _) = _
    rw [if_neg (by rw [decide_eq_true_eq]; omega)]
theorem soon_self2 (t : Tm) : soonT t (andT (some 0) t) = t := by
  unfold soonT
  cases t with
  | none => rfl
  | some c =>
    show (if decide (0 + c < c) = true then _ else _) = _
    rw [if_neg (by rw [decide_eq_true_eq]; omega)]
theorem and_some {a b : Tm} {c : Int} (h : andT a b = some c) : ∃ x y, a = some x ∧ b = some y ∧ c = x + y := by
  cases a with
  | none => cases b <;> cases h
  | some x =>
    cases b with
    | none => cases h
    | some y => cases h; exact ⟨x, y, rfl, rfl, rfl⟩
theorem round_inv {n k : Nat} (hk : k < n) {M : Int} {F : Tab} (h : BdF n M F) : ∀ (l : List (Nat × Nat)), (∀ p ∈ l, p.1 < n ∧ p.2 < n) →
    (∀ x, x < n → roundF k F l x k = F x k) ∧ (∀ y, y < n → roundF k F l k y = F k y) ∧ BdF n (2 * M) (roundF k F l) := by
  suffices key : ∀ (l : List (Nat × Nat)) (G : Tab), (∀ p ∈ l, p.1 < n ∧ p.2 < n) → ((∀ x, x < n → G x k = F x k) ∧ (∀ y, y < n → G k y = F k y) ∧ BdF n (2 * M) G) →
      (∀ x, x < n → roundF k G l x k = F x k) ∧ (∀ y, y < n → roundF k G l k y = F k y) ∧ BdF n (2 * M) (roundF k G l) from
    fun l hl => key l F hl ⟨fun _ _ => rfl, fun _ _ => rfl, h.diag, fun x y c e => by have := h.bd x y c e; omega⟩
  intro l
  induction l with
  | nil => intro G _ q; exact q
  | cons p l ih =>
    intro G hl hG
    obtain ⟨i1, i2, i3⟩ := hG
    have hp := hl p List.mem_cons_self
    refine ih (stepF k G p) (fun q hq => hl q (List.mem_cons_of_mem _ hq)) ?_
    obtain ⟨a, b⟩ := p
    have ga := i1 a hp.1
    have gb := i2 b hp.2
    have hkk : G k k = some 0 := i3.diag k hk
    -- the new entry
    have new : stepF k G (a, b) a b = soonT (G a b) (andT (G a k) (G k b)) := by unfold stepF setT; rw [if_pos ⟨rfl, rfl⟩]
    have old : ∀ x y, ¬ (x = a ∧ y = b) → stepF k G (a, b) x y = G x y := fun x y q => by unfold stepF setT; rw [if_neg q]
    have nn : ∀ c, andT (G a k) (G k b) = some c → 0 ≤ c ∧ c ≤ 2 * M := fun c q => by
      obtain ⟨x, y, h1, h2, rfl⟩ := and_some q
      rw [ga] at h1; rw [gb] at h2
      have := h.bd _ _ _ h1; have := h.bd _ _ _ h2
      omega
    refine ⟨fun x hx => ?_, fun y hy => ?_, fun x hx => ?_, fun x y c q => ?_⟩
    · by_cases q : x = a ∧ k = b
      · obtain ⟨rfl, rfl⟩ := q
        rw [new, hkk, soon_self]; exact i1 _ hx
      · rw [old _ _ q]; exact i1 x hx
    · by_cases q : k = a ∧ y = b
      · obtain ⟨rfl, rfl⟩ := q
        rw [new, hkk, soon_self2]; exact i2 _ hy
      · rw [old _ _ q]; exact i2 y hy
    · by_cases q : x = a ∧ x = b
      · obtain ⟨rfl, rfl⟩ := q
        rw [new, i3.diag x hx]; exact soon_zero (fun c hc => (nn c hc).1)
      · rw [old _ _ q]; exact i3.diag x hx
    · by_cases r : x = a ∧ y = b
      · obtain ⟨rfl, rfl⟩ := r
        rw [new] at q
        rcases soon_eq (G x y) (andT (G x k) (G k y)) with s | s
        · rw [s] at q; exact i3.bd _ _ _ q
        · rw [s] at q; exact nn c q
      · rw [old _ _ r] at q; exact i3.bd _ _ _ q
theorem floyd_bd {n : Nat} {F : Tab} (h : BdF n 60 F) : ∀ k, k ≤ n → BdF n (60 * 2 ^ k) (floydV (pairsOf n) k F) := by
  intro k
  induction k with
  | zero => intro _; show BdF n (60 * 2 ^ 0) F; simpa using h
  | succ k ih =>
    intro hk
    have := (round_inv (show k < n by omega) (ih (by omega)) (pairsOf n) fun p hp => pairs_mem.1 (show (p.1, p.2) ∈ pairsOf n from hp)).2.2
    have e : (2 : Int) * (60 * 2 ^ k) = 60 * 2 ^ (k + 1) := by rw [Int.pow_succ]; omega
    rw [e] at this
    exact this
/-- What is asked of the times that are added. -/
theorem flK_sm {n : Nat} (hn : n ≤ 6) {F : Tab} (h : BdF n 60 F) {k a b : Nat} (hk : k < n) (ha : a < n) (hb : b ≤ n) :
    (∀ x c, x < n → flK n F k a b x k = some c → 0 ≤ c ∧ c ≤ 1000000) ∧ (∀ y c, y < n → flK n F k a b k y = some c → 0 ≤ c ∧ c ≤ 1000000) := by
  have h1 := floyd_bd h k (by omega)
  obtain ⟨r1, r2, _⟩ := round_inv hk h1 (preP n a b) (preP_mem (by omega) hb (.inl ha))
  have hM : (60 : Int) * 2 ^ k ≤ 1000000 := by
    have : k = 0 ∨ k = 1 ∨ k = 2 ∨ k = 3 ∨ k = 4 ∨ k = 5 := by omega
    rcases this with rfl | rfl | rfl | rfl | rfl | rfl <;> decide
  refine ⟨fun x c hx q => ?_, fun y c hy q => ?_⟩
  · unfold flK at q; rw [r1 x hx] at q
    have := h1.bd _ _ _ q; omega
  · unfold flK at q; rw [r2 y hy] at q
    have := h1.bd _ _ _ q; omega
theorem base_bd {n : Nat} {E : List Edg} (hE : ∀ e ∈ E, 0 ≤ e.2.2 ∧ e.2.2 ≤ 60 ∧ e.1 ≠ e.2.1) : BdF n 60 (baseF n E) := by
  unfold baseF
  have key : ∀ (L : List Edg) (F : Tab), (∀ e ∈ L, 0 ≤ e.2.2 ∧ e.2.2 ≤ 60 ∧ e.1 ≠ e.2.1) → BdF n 60 F → BdF n 60 (L.foldl gateF F) := by
    intro L
    induction L with
    | nil => intro F _ h; exact h
    | cons e L ih =>
      intro F hL h
      have he := hL e List.mem_cons_self
      refine ih (gateF F e) (fun q hq => hL q (List.mem_cons_of_mem _ hq)) ⟨fun x hx => ?_, fun x y c q => ?_⟩
      · unfold gateF setT
        rw [if_neg (fun q => he.2.2 (q.2.symm.trans q.1)), if_neg (fun q => he.2.2 (q.1.symm.trans q.2))]
        exact h.diag x hx
      · have new : ∀ c, soonT (F e.1 e.2.1) (some e.2.2) = some c → 0 ≤ c ∧ c ≤ 60 := fun c q => by
          rcases soon_eq (F e.1 e.2.1) (some e.2.2) with s | s
          · rw [s] at q; exact h.bd _ _ _ q
          · rw [s] at q; cases q; exact ⟨he.1, he.2.1⟩
        unfold gateF setT at q
        split at q
        · exact new c q
        · split at q
          · exact new c q
          · exact h.bd _ _ _ q
  refine key E (noneF n) hE ⟨fun x _ => ?_, fun x y c q => ?_⟩
  · unfold noneF; rw [if_neg (fun q => q.2.2 rfl)]
  · unfold noneF at q; split at q
    · cases q
    · cases q; omega
end Go.Proofs.YtmllgnnhblhfeaaDoor
