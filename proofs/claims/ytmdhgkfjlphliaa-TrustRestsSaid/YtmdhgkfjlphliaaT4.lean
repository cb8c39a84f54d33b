import Derived.Test.YtmdhgkfjlphliaaAmS
/-
  RECORDS, LETTERS, MOVES: plain specifications.
-/
namespace Go.Proofs.Ytmdhgkfjlphliaa
open Go Go.Am
structure Rcd where
  id : Int
  kd : Fin 256
  ways : List (List Int)
structure Ltr where
  id : Int
  day : Int
  about : Int
  kd : Fin 256
structure Mov where
  id : Int
  batch : Int
  kd : Fin 256
  n : Int
instance : Inhabited Rcd := ⟨⟨0, 0, []⟩⟩
instance : Inhabited Ltr := ⟨⟨0, 0, 0, 0⟩⟩
instance : Inhabited Mov := ⟨⟨0, 0, 0, 0⟩⟩
abbrev Sn := Int × Int
def encI (x : Int) : List AV := [.int .i64 x]
def encR (r : List Int) : AV := .lst 1 (r.map encI)
def encS (s : Sn) : AV := .agg [.int .i64 s.1, .int .i64 s.2]
def cW (w : List Int) : List AV := [encR w]
def encWs (w : List (List Int)) : AV := .lst 1 (w.map cW)
def kO (k : Fin 256) : AV := .int .u8 (k.val : Int)
def cRc (r : Rcd) : List AV := [.int .i64 r.id, kO r.kd, encWs r.ways]
def cLt (l : Ltr) : List AV := [.int .i64 l.id, .int .i64 l.day, .int .i64 l.about, kO l.kd]
def cMv (m : Mov) : List AV := [.int .i64 m.id, .int .i64 m.batch, kO m.kd, .int .i64 m.n]
def encRs (l : List Rcd) : AV := .lst 3 (l.map cRc)
def encLs (l : List Ltr) : AV := .lst 4 (l.map cLt)
def encMs (l : List Mov) : AV := .lst 4 (l.map cMv)
def encRc (r : Rcd) : AV := .agg (cRc r)
def encLt (l : Ltr) : AV := .agg (cLt l)
def encMv (m : Mov) : AV := .agg (cMv m)
def inB (lo hi n : Int) : Bool := decide (lo ≤ n ∧ n ≤ hi)
theorem inB_iff {lo hi n : Int} : inB lo hi n = true ↔ lo ≤ n ∧ n ≤ hi := by simp [inB]
/-! ### what is valid -/
def idsR (r : List Rcd) : List Int := r.map (·.id)
def idsL (l : List Ltr) : List Int := l.map (·.id)
def idsM (l : List Mov) : List Int := l.map (·.id)
/-- Numbers that increase, from one on, up to 9999. -/
def incF (least : Int) : List Int → Bool
  | [] => true
  | x :: l => inB least 9999 x && incF (x + 1) l
def wayB (bef : List Int) (w : List Int) : Bool := inB 1 4 w.length && incF 0 w && w.all fun i => bef.contains i
def waysB (bef : List Int) (r : Rcd) : Bool :=
  if r.kd.val = 1 ∨ r.kd.val = 2 then decide (r.ways.length = 0)
  else if r.kd.val = 3 ∨ r.kd.val = 4 then inB 1 3 r.ways.length && r.ways.all (wayB bef)
  else false
def waysI (bef : List Int) : List Rcd → Bool
  | [] => true
  | r :: l => waysB bef r && waysI (bef ++ [r.id]) l
def recsB (r : List Rcd) : Bool := decide (r.length ≤ 12) && incF 0 (idsR r) && waysI [] r
def letB (r : List Rcd) (l : Ltr) : Bool := inB 0 100000 l.day && inB 1 2 l.kd.val && (idsR r).contains l.about
def letsB (r : List Rcd) (l : List Ltr) : Bool := decide (l.length ≤ 20) && incF 0 (idsL l) && l.all (letB r)
def checkV (r : List Rcd) (l : List Ltr) : Int := if recsB r = false then 80 else if letsB r l = false then 81 else 0
/-! ### what is withdrawn, what holds -/
/-- Whether a letter is no earlier than the one that was found. -/
def aftB (o : Option Ltr) (x : Ltr) : Bool := match o with
  | none => true
  | some y => decide (y.day ≤ x.day)
def latV (p : Ltr → Bool) : Option Ltr → List Ltr → Option Ltr
  | o, [] => o
  | o, x :: l => latV p (if p x && aftB o x then some x else o) l
def lastL (ls : List Ltr) (day id : Int) : Option Ltr := latV (fun l => decide (l.about = id) && decide (l.day ≤ day)) none ls
def goneV (ls : List Ltr) (day id : Int) : Bool := match lastL ls day id with
  | none => false
  | some x => decide (x.kd.val = 1)
def standsB (so : Int → Bool) (ways : List (List Int)) : Bool := ways.isEmpty || ways.any fun w => w.all so
def heldV (g : Int → Bool) : List Int → List Rcd → List Int
  | acc, [] => acc
  | acc, x :: r => heldV g (if !g x.id && standsB (fun i => acc.contains i) x.ways then acc ++ [x.id] else acc) r
def holdsV (r : List Rcd) (ls : List Ltr) (day : Int) : List Int := (idsR r).filter fun i => (heldV (goneV ls day) [] r).contains i
end Go.Proofs.Ytmdhgkfjlphliaa
/-
  WHAT HOLDS: plain theory.
-/
namespace Go.Proofs.Ytmdhgkfjlphliaa
open Go Go.Am
theorem latV_app (p : Ltr → Bool) : ∀ (l m : List Ltr) (o : Option Ltr), latV p o (l ++ m) = latV p (latV p o l) m := by
  intro l m
  induction l with
  | nil => intro o; rfl
  | cons x l ih => intro o; exact ih _
theorem latV_p (p : Ltr → Bool) : ∀ (l : List Ltr) (o : Option Ltr), (∀ y, o = some y → p y = true) → ∀ y, latV p o l = some y → p y = true := by
  intro l
  induction l with
  | nil => intro o h; exact h
  | cons x l ih =>
    intro o h
    refine ih _ fun y hy => ?_
    cases h1 : (p x && aftB o x)
    · rw [h1] at hy; exact h y hy
    · rw [h1] at hy
      cases hy
      rw [Bool.and_eq_true] at h1
      exact h1.1
theorem lastL_p {ls : List Ltr} {d id : Int} {y : Ltr} (h : lastL ls d id = some y) : y.about = id ∧ y.day ≤ d := by
  have := latV_p _ ls none (fun y h => by cases h) y h
  simpa using this
theorem latV_no {p : Ltr → Bool} : ∀ (l : List Ltr) (o : Option Ltr), (∀ x ∈ l, p x = false) → latV p o l = o := by
  intro l
  induction l with
  | nil => intro o _; rfl
  | cons x l ih =>
    intro o h
    unfold latV
    rw [h x List.mem_cons_self]
    exact ih o fun y hy => h y (List.mem_cons_of_mem _ hy)
theorem lastL_snoc (ls : List Ltr) (x : Ltr) (d id : Int) (hx : x.day = d) : lastL (ls ++ [x]) d id = if x.about = id then some x else lastL ls d id := by
  have e : lastL (ls ++ [x]) d id = latV (fun l => decide (l.about = id) && decide (l.day ≤ d)) (lastL ls d id) [x] := latV_app _ ls [x] none
  rw [e]
  by_cases h : x.about = id
  · rw [if_pos h]
    have hp : (decide (x.about = id) && decide (x.day ≤ d)) = true := by rw [decide_eq_true h, decide_eq_true (by omega)]; rfl
    cases h2 : lastL ls d id with
    | none => simp only [latV, hp]; rfl
    | some y =>
      have := (lastL_p h2).2
      simp only [latV, hp, aftB, decide_eq_true (show y.day ≤ x.day by omega)]; rfl
  · rw [if_neg h]
    exact latV_no _ _ fun y hy => by rw [List.mem_singleton.1 hy, decide_eq_false h]; rfl
theorem goneV_snoc (ls : List Ltr) (x : Ltr) (d id : Int) (hx : x.day = d) : goneV (ls ++ [x]) d id = if x.about = id then decide (x.kd.val = 1) else goneV ls d id := by
  unfold goneV
  rw [lastL_snoc ls x d id hx]
  by_cases h : x.about = id
  · rw [if_pos h, if_pos h]
  · rw [if_neg h, if_neg h]
/-! ### more is withdrawn, less holds -/
theorem standsB_mono {so so' : Int → Bool} (h : ∀ i, so i = true → so' i = true) {w : List (List Int)} (hs : standsB so w = true) : standsB so' w = true := by
  unfold standsB at *
  simp only [Bool.or_eq_true, List.any_eq_true, List.all_eq_true] at *
  rcases hs with h1 | ⟨v, hv, h2⟩
  · exact .inl h1
  · exact .inr ⟨v, hv, fun i hi => h i (h2 i hi)⟩
theorem held_acc (g : Int → Bool) : ∀ (r : List Rcd) (acc : List Int), ∀ i ∈ acc, i ∈ heldV g acc r := by
  intro r
  induction r with
  | nil => intro acc i h; exact h
  | cons x r ih =>
    intro acc i h
    refine ih _ i ?_
    split
    · exact List.mem_append_left _ h
    · exact h
theorem held_mono {g g' : Int → Bool} (hg : ∀ i, g i = true → g' i = true) : ∀ (r : List Rcd) (acc acc' : List Int), (∀ i ∈ acc', i ∈ acc) → ∀ i ∈ heldV g' acc' r, i ∈ heldV g acc r := by
  intro r
  induction r with
  | nil => intro acc acc' h i hi; exact h i hi
  | cons x r ih =>
    intro acc acc' h
    refine ih _ _ fun i hi => ?_
    split at hi
    · rename_i h1
      simp only [Bool.and_eq_true] at h1
      have h2 : (!g x.id && standsB (fun i => acc.contains i) x.ways) = true := by
        rw [Bool.and_eq_true]
        refine ⟨?_, standsB_mono (fun j hj => ?_) h1.2⟩
        · cases h3 : g x.id
          · rfl
          · rw [hg _ h3] at h1; exact absurd h1.1 (by decide)
        · exact List.contains_iff_mem.2 (h j (List.contains_iff_mem.1 hj))
      rw [if_pos h2]
      rcases List.mem_append.1 hi with h3 | h3
      · exact List.mem_append_left _ (h i h3)
      · exact List.mem_append_right _ h3
    · split
      · exact List.mem_append_left _ (h i hi)
      · exact h i hi
/-- Records whose Id is withdrawn don't hold. -/
theorem held_in {g : Int → Bool} : ∀ (r : List Rcd) (acc : List Int), ∀ i ∈ heldV g acc r, i ∈ acc ∨ (g i = false ∧ ∃ x ∈ r, x.id = i) := by
  intro r
  induction r with
  | nil => intro acc i h; exact .inl h
  | cons x r ih =>
    intro acc i h
    rcases ih _ i h with h1 | ⟨h1, y, hy, h2⟩
    · split at h1
      · rename_i h2
        rcases List.mem_append.1 h1 with h3 | h3
        · exact .inl h3
        · have h4 := List.mem_singleton.1 h3
          subst h4
          simp only [Bool.and_eq_true] at h2
          exact .inr ⟨by cases h5 : g x.id <;> simp_all, x, List.mem_cons_self, rfl⟩
      · exact .inl h1
    · exact .inr ⟨h1, y, List.mem_cons_of_mem _ hy, h2⟩
/-- The same with one more withdrawn, if this one did not hold. -/
theorem held_same {g g' : Int → Bool} {id : Int} (hg : ∀ i, i ≠ id → g' i = g i) (hi : g' id = true) : ∀ (r : List Rcd) (acc : List Int), id ∉ heldV g acc r → heldV g' acc r = heldV g acc r := by
  intro r
  induction r with
  | nil => intro acc _; rfl
  | cons x r ih =>
    intro acc h
    have h0 : id ∉ heldV g (if (!g x.id && standsB (fun i => acc.contains i) x.ways) = true then acc ++ [x.id] else acc) r := h
    have e : (!g' x.id && standsB (fun i => acc.contains i) x.ways) = (!g x.id && standsB (fun i => acc.contains i) x.ways) := by
      by_cases hx : x.id = id
      · rw [hx, hi]
        cases h1 : (!g id && standsB (fun i => acc.contains i) x.ways)
        · rfl
        · rw [hx, if_pos h1] at h0
          exact absurd (held_acc g r _ id (List.mem_append_right _ List.mem_cons_self)) h0
      · rw [hg _ hx]
    have h1 := ih _ h0
    show heldV g' (if (!g' x.id && standsB (fun i => acc.contains i) x.ways) = true then acc ++ [x.id] else acc) r = _
    rw [e]
    exact h1
theorem held_ext {g g' : Int → Bool} (hg : ∀ i, g' i = g i) (r : List Rcd) (acc : List Int) : heldV g' acc r = heldV g acc r := by
  rw [funext hg]
/-! ### what is valid -/
theorem incF_lt : ∀ {l : List Int} {a : Int}, incF a l = true → ∀ x ∈ l, a ≤ x ∧ x ≤ 9999 := by
  intro l
  induction l with
  | nil => intro a _ x hx; cases hx
  | cons y l ih =>
    intro a h x hx
    simp only [incF, Bool.and_eq_true, inB_iff] at h
    rcases List.mem_cons.1 hx with rfl | hx
    · exact h.1
    · have := ih h.2 x hx
      omega
theorem incF_sorted : ∀ {l : List Int} {a : Int}, incF a l = true → l.Pairwise (· < ·) := by
  intro l
  induction l with
  | nil => intro a _; exact .nil
  | cons y l ih =>
    intro a h
    simp only [incF, Bool.and_eq_true] at h
    exact .cons (fun x hx => by have := incF_lt h.2 x hx; omega) (ih h.2)
theorem incF_of : ∀ {l : List Int} {a : Int}, (∀ x ∈ l, a ≤ x ∧ x ≤ 9999) → l.Pairwise (· < ·) → incF a l = true := by
  intro l
  induction l with
  | nil => intro a _ _; rfl
  | cons y l ih =>
    intro a h hp
    simp only [incF, Bool.and_eq_true, inB_iff]
    exact ⟨h y List.mem_cons_self, ih (fun x hx => ⟨by have := List.rel_of_pairwise_cons hp hx; omega, (h x (List.mem_cons_of_mem _ hx)).2⟩) hp.of_cons⟩
theorem incF_app : ∀ (l m : List Int) (a : Int), incF a (l ++ m) = true → incF a l = true := by
  intro l m
  induction l with
  | nil => intro a _; rfl
  | cons y l ih =>
    intro a h
    simp only [List.cons_append, incF, Bool.and_eq_true] at h ⊢
    exact ⟨h.1, ih _ h.2⟩
theorem waysI_app : ∀ (l m : List Rcd) (bef : List Int), waysI bef (l ++ m) = (waysI bef l && waysI (bef ++ idsR l) m) := by
  intro l
  induction l with
  | nil => intro m bef; simp [waysI, idsR]
  | cons x l ih =>
    intro m bef
    simp only [List.cons_append, waysI, ih, Bool.and_assoc, idsR, List.map_cons, List.append_assoc, List.nil_append]
/-- What records of valid ways name comes before them. -/
theorem waysB_mem {bef : List Int} {r : Rcd} (h : waysB bef r = true) {w : List Int} (hw : w ∈ r.ways) {i : Int} (hi : i ∈ w) : i ∈ bef := by
  unfold waysB at h
  split at h
  · have := of_decide_eq_true h
    rw [List.length_eq_zero_iff] at this
    rw [this] at hw; cases hw
  · split at h
    · simp only [Bool.and_eq_true, List.all_eq_true, wayB] at h
      exact List.contains_iff_mem.1 ((h.2 w hw).2 i hi)
    · cases h
/-- A record holds just if it is not withdrawn and stands by those that hold. -/
theorem held_stands (g : Int → Bool) : ∀ (r : List Rcd) (bef acc : List Int), (∀ i ∈ acc, i ∈ bef) → waysI bef r = true → (bef ++ idsR r).Nodup → ∀ x ∈ r, (x.id ∈ heldV g acc r ↔ g x.id = false ∧ standsB (fun i => (heldV g acc r).contains i) x.ways = true) := by
  intro r
  induction r with
  | nil => intro bef acc _ _ _ x hx; cases hx
  | cons y r ih =>
    intro bef acc hsub hv hnd x hx
    simp only [waysI, Bool.and_eq_true] at hv
    generalize hA : (if (!g y.id && standsB (fun i => acc.contains i) y.ways) = true then acc ++ [y.id] else acc) = acc'
    have e : heldV g acc (y :: r) = heldV g acc' r := by rw [← hA]; rfl
    rw [e]
    have hnd' : (bef ++ [y.id] ++ idsR r).Nodup := by simpa [idsR] using hnd
    have hsub' : ∀ i ∈ acc', i ∈ bef ++ [y.id] := by
      intro i hi
      rw [← hA] at hi
      split at hi
      · rcases List.mem_append.1 hi with h | h
        · exact List.mem_append_left _ (hsub i h)
        · exact List.mem_append_right _ h
      · exact List.mem_append_left _ (hsub i hi)
    -- what comes before is known
    have hk : ∀ i ∈ bef ++ [y.id], (i ∈ heldV g acc' r ↔ i ∈ acc') := fun i hi => ⟨fun h => by
      rcases held_in r acc' i h with h1 | ⟨_, z, hz, h2⟩
      · exact h1
      · exact absurd (List.mem_map.2 ⟨z, hz, h2⟩) (fun h3 => (List.nodup_append.1 hnd').2.2 _ hi _ h3 rfl), held_acc g r acc' i⟩
    rcases List.mem_cons.1 hx with rfl | hx
    · have hyb : x.id ∉ bef := fun h => (List.nodup_append.1 hnd).2.2 _ h _ (List.mem_map.2 ⟨x, List.mem_cons_self, rfl⟩) rfl
      have hya : x.id ∉ acc := fun h => hyb (hsub _ h)
      have es : standsB (fun i => (heldV g acc' r).contains i) x.ways = standsB (fun i => acc.contains i) x.ways := by
        unfold standsB
        congr 1
        rw [Bool.eq_iff_iff]
        simp only [List.any_eq_true, List.all_eq_true]
        have : ∀ w ∈ x.ways, ∀ i ∈ w, ((heldV g acc' r).contains i = true ↔ acc.contains i = true) := fun w hw i hi => by
          have hb := waysB_mem hv.1 hw hi
          have hne : i ≠ x.id := fun h => hyb (h ▸ hb)
          rw [List.contains_iff_mem, List.contains_iff_mem, hk i (List.mem_append_left _ hb), ← hA]
          split
          · simp [hne]
          · rfl
        exact ⟨fun ⟨w, hw, h⟩ => ⟨w, hw, fun i hi => (this w hw i hi).1 (h i hi)⟩, fun ⟨w, hw, h⟩ => ⟨w, hw, fun i hi => (this w hw i hi).2 (h i hi)⟩⟩
      rw [es, hk _ (List.mem_append_right _ List.mem_cons_self), ← hA]
      cases h1 : g x.id <;> cases h2 : standsB (fun i => acc.contains i) x.ways <;> simp [hya]
    · exact ih (bef ++ [y.id]) acc' hsub' hv.2 hnd' x hx
theorem recs_nodup {r : List Rcd} (h : recsB r = true) : (idsR r).Nodup ∧ waysI [] r = true ∧ r.length ≤ 12 := by
  simp only [recsB, Bool.and_eq_true, decide_eq_true_eq] at h
  exact ⟨(incF_sorted h.1.2).imp (fun h => by omega), h.2, h.1.1⟩
theorem held_iff {r : List Rcd} (h : recsB r = true) (g : Int → Bool) {x : Rcd} (hx : x ∈ r) : x.id ∈ heldV g [] r ↔ g x.id = false ∧ standsB (fun i => (heldV g [] r).contains i) x.ways = true :=
  held_stands g r [] [] (fun _ h => h) (recs_nodup h).2.1 (by simpa using (recs_nodup h).1) x hx
end Go.Proofs.Ytmdhgkfjlphliaa
/-
  WHAT IS VALID, AS THE REFERENCE ASKS IT.
-/
namespace Go.Proofs.Ytmdhgkfjlphliaa
open Go Go.Am
def allI {α : Type} (f : Nat → α → Bool) (l : List α) : Bool := l.zipIdx.all fun p => f p.2 p.1
theorem allI_take {α : Type} {f : Nat → α → Bool} {l : List α} {k : Nat} {a : α} (h : l[k]? = some a) : allI f (l.take (k + 1)) = (allI f (l.take k) && f k a) := by
  have hk : k < l.length := by
    rcases Nat.lt_or_ge k l.length with h' | h'
    · exact h'
    · rw [List.getElem?_eq_none h'] at h; cases h
  unfold allI
  rw [List.take_add_one, h, List.zipIdx_append, List.all_append, List.length_take, Nat.min_eq_left (by omega)]
  simp
theorem allI_iff {α : Type} {f : Nat → α → Bool} {l : List α} : allI f l = true ↔ ∀ k a, l[k]? = some a → f k a = true := by
  unfold allI
  rw [List.all_eq_true]
  constructor
  · intro h k a hk
    exact h (a, k) (List.mem_zipIdx_iff_getElem?.2 hk)
  · rintro h ⟨a, k⟩ hm
    exact h k a (List.mem_zipIdx_iff_getElem?.1 hm)
theorem allI_bad {α : Type} {f : Nat → α → Bool} {l : List α} {k : Nat} {a : α} (h : l[k]? = some a) (hf : f k a = false) : allI f l = false := by
  cases hb : allI f l
  · rfl
  · rw [allI_iff.1 hb k a h] at hf; cases hf
def incI (ids : List Int) (k : Nat) (x : Int) : Bool := decide (k = 0) || decide (ids.getD (k - 1) 0 < x)
def needR (ids : List Int) (x : Int) (w : List Int) (k : Nat) (i : Int) : Bool := decide (i < x) && (ids.contains i && incI w k i)
def wayR (ids : List Int) (x : Int) (w : List Int) : Bool := inB 1 4 w.length && allI (needR ids x w) w
def kindR (x : Rcd) : Bool := if x.kd.val ≤ 2 then decide (x.ways.length = 0) else inB 1 3 x.ways.length
def recI (ids : List Int) (k : Nat) (x : Rcd) : Bool := (inB 0 9999 x.id && (incI ids k x.id && inB 1 4 x.kd.val)) && (kindR x && x.ways.all (wayR ids x.id))
def recsR (r : List Rcd) : Bool := decide (r.length ≤ 12) && allI (recI (idsR r)) r
theorem incI_sorted {l : List Int} (h : ∀ k x, l[k]? = some x → incI l k x = true) : l.Pairwise (· < ·) := by
  rw [List.pairwise_iff_getElem]
  have key : ∀ d i (hi : i < l.length) (hj : i + d + 1 < l.length), l[i] < l[i + d + 1] := by
    intro d
    induction d with
    | zero =>
      intro i hi hj
      have := h (i + 1) l[i + 1] (List.getElem?_eq_getElem hj)
      simp only [incI, Nat.add_sub_cancel, List.getD_eq_getElem?_getD, List.getElem?_eq_getElem hi, Option.getD_some, Bool.or_eq_true, decide_eq_true_eq] at this
      rcases this with h1 | h1
      · omega
      · exact h1
    | succ d ih =>
      intro i hi hj
      have h1 := ih i hi (by omega)
      have := h (i + (d + 1) + 1) l[i + (d + 1) + 1] (List.getElem?_eq_getElem hj)
      have e : i + (d + 1) + 1 - 1 = i + d + 1 := by omega
      simp only [incI, e, List.getD_eq_getElem?_getD, List.getElem?_eq_getElem (show i + d + 1 < l.length by omega), Option.getD_some, Bool.or_eq_true, decide_eq_true_eq] at this
      rcases this with h2 | h2
      · omega
      · omega
  intro i j hi hj hij
  obtain ⟨d, rfl⟩ : ∃ d, j = i + d + 1 := ⟨j - i - 1, by omega⟩
  exact key d i hi hj
theorem sorted_incI {l : List Int} (h : l.Pairwise (· < ·)) {k : Nat} {x : Int} (hx : l[k]? = some x) : incI l k x = true := by
  cases k with
  | zero => rfl
  | succ k =>
    obtain ⟨hk, hxe⟩ := List.getElem?_eq_some_iff.1 hx
    have h1 := List.pairwise_iff_getElem.1 h k (k + 1) (by omega) hk (by omega)
    simp only [incI, Nat.add_sub_cancel, List.getD_eq_getElem?_getD, List.getElem?_eq_getElem (show k < l.length by omega), Option.getD_some, Bool.or_eq_true, decide_eq_true_eq]
    rw [hxe] at h1
    exact .inr h1
theorem sorted_take {l : List Int} (h : l.Pairwise (· < ·)) {k : Nat} {x i : Int} (hx : l[k]? = some x) : i ∈ l.take k ↔ i < x ∧ i ∈ l := by
  obtain ⟨hk, hxe⟩ := List.getElem?_eq_some_iff.1 hx
  constructor
  · intro hi
    obtain ⟨j, hj, e⟩ := List.mem_take_iff_getElem.1 hi
    have h1 := List.pairwise_iff_getElem.1 h j k (by omega) hk (by omega)
    rw [hxe, e] at h1
    exact ⟨h1, List.mem_of_mem_take hi⟩
  · rintro ⟨h1, h2⟩
    obtain ⟨j, hj, e⟩ := List.mem_iff_getElem.1 h2
    rw [List.mem_take_iff_getElem]
    refine ⟨j, ?_, e⟩
    rcases Nat.lt_or_ge j k with h3 | h3
    · omega
    · rcases Nat.lt_or_ge k j with h4 | h4
      · have h5 := List.pairwise_iff_getElem.1 h k j hk hj h4
        rw [hxe, e] at h5; omega
      · have : j = k := by omega
        subst this
        rw [hxe] at e; omega
theorem waysI_iff : ∀ (r : List Rcd) (bef : List Int), waysI bef r = true ↔ ∀ k x, r[k]? = some x → waysB (bef ++ (idsR r).take k) x = true := by
  intro r
  induction r with
  | nil => intro bef; simp [waysI]
  | cons y r ih =>
    intro bef
    simp only [waysI, Bool.and_eq_true, ih]
    constructor
    · rintro ⟨h1, h2⟩ k x hx
      cases k with
      | zero => simp at hx; subst hx; simpa using h1
      | succ k =>
        have := h2 k x (by simpa using hx)
        simpa [idsR] using this
    · intro h
      refine ⟨by simpa using h 0 y rfl, fun k x hx => ?_⟩
      have := h (k + 1) x (by simpa using hx)
      simpa [idsR] using this
theorem wayR_eq {ids : List Int} (hs : ids.Pairwise (· < ·)) (hb : ∀ i ∈ ids, 0 ≤ i ∧ i ≤ 9999) {k : Nat} {x : Int} (hx : ids[k]? = some x) (w : List Int) : wayR ids x w = wayB (ids.take k) w := by
  rw [Bool.eq_iff_iff]
  simp only [wayR, wayB, Bool.and_eq_true, allI_iff, List.all_eq_true, List.contains_iff_mem, needR, decide_eq_true_eq]
  constructor
  · rintro ⟨h1, h2⟩
    have hm : ∀ i ∈ w, i ∈ ids.take k := fun i hi => by
      obtain ⟨n, hn, e⟩ := List.mem_iff_getElem.1 hi
      have := h2 n i (by rw [List.getElem?_eq_getElem hn, e])
      exact (sorted_take hs hx).2 ⟨this.1, this.2.1⟩
    exact ⟨⟨h1, incF_of (fun i hi => hb i (List.mem_of_mem_take (hm i hi))) (incI_sorted fun n i hn => (h2 n i hn).2.2)⟩, hm⟩
  · rintro ⟨⟨h1, h2⟩, h3⟩
    refine ⟨h1, fun n i hn => ?_⟩
    have := (sorted_take hs hx).1 (h3 i (List.mem_of_getElem? hn))
    exact ⟨this.1, this.2, sorted_incI (incF_sorted h2) hn⟩
theorem waysB_eq {ids : List Int} (hs : ids.Pairwise (· < ·)) (hb : ∀ i ∈ ids, 0 ≤ i ∧ i ≤ 9999) {k : Nat} {x : Rcd} (hx : ids[k]? = some x.id) : waysB (ids.take k) x = (inB 1 4 x.kd.val && (kindR x && x.ways.all (wayR ids x.id))) := by
  have e : x.ways.all (wayR ids x.id) = x.ways.all (wayB (ids.take k)) := by congr 1; funext w; exact wayR_eq hs hb hx w
  rw [e]
  unfold waysB kindR inB
  have hk := x.kd.isLt
  generalize x.kd.val = v at *
  by_cases h1 : v = 1 ∨ v = 2
  · rw [if_pos h1, if_pos (by omega), decide_eq_true (show (1 : Int) ≤ v ∧ (v : Int) ≤ 4 by omega)]
    cases hw : x.ways with
    | nil => rfl
    | cons a l => rfl
  · rw [if_neg h1]
    by_cases h2 : v = 3 ∨ v = 4
    · rw [if_pos h2, if_neg (by omega), decide_eq_true (show (1 : Int) ≤ v ∧ (v : Int) ≤ 4 by omega)]; rfl
    · rw [if_neg h2, decide_eq_false (show ¬ ((1 : Int) ≤ v ∧ (v : Int) ≤ 4) by omega)]; rfl
theorem recsR_eq (r : List Rcd) : recsR r = recsB r := by
  rw [Bool.eq_iff_iff]
  have hid : ∀ (k : Nat) (x : Rcd), r[k]? = some x → (idsR r)[k]? = some x.id := fun k x h => by unfold idsR; rw [List.getElem?_map, h]; rfl
  have hid' : ∀ (k : Nat) (i : Int), (idsR r)[k]? = some i → ∃ x : Rcd, r[k]? = some x ∧ x.id = i := fun k i h => by
    unfold idsR at h; rw [List.getElem?_map] at h
    cases h1 : r[k]? with
    | none => rw [h1] at h; cases h
    | some x => rw [h1] at h; cases h; exact ⟨x, rfl, rfl⟩
  simp only [recsR, recsB, Bool.and_eq_true, decide_eq_true_eq, allI_iff, and_assoc]
  refine and_congr_right fun _ => ?_
  constructor
  · intro h
    have hb : ∀ i ∈ idsR r, 0 ≤ i ∧ i ≤ 9999 := fun i hi => by
      obtain ⟨k, hk, e⟩ := List.mem_iff_getElem.1 hi
      obtain ⟨x, hx, e2⟩ := hid' k i (by rw [List.getElem?_eq_getElem hk, e])
      have := h k x hx
      simp only [recI, Bool.and_eq_true, inB_iff] at this
      rw [← e2]; exact this.1.1
    have hs : (idsR r).Pairwise (· < ·) := incI_sorted fun k i hk => by
      obtain ⟨x, hx, e2⟩ := hid' k i hk
      have := h k x hx
      simp only [recI, Bool.and_eq_true] at this
      rw [← e2]; exact this.1.2.1
    refine ⟨incF_of hb hs, (waysI_iff r []).2 fun k x hx => ?_⟩
    rw [List.nil_append, waysB_eq hs hb (hid k x hx)]
    have := h k x hx
    simp only [recI, Bool.and_eq_true] at this ⊢
    exact ⟨this.1.2.2, this.2⟩
  · rintro ⟨h1, h2⟩ k x hx
    have hs := incF_sorted h1
    have hb := incF_lt h1
    have h3 := (waysI_iff r []).1 h2 k x hx
    rw [List.nil_append, waysB_eq hs hb (hid k x hx)] at h3
    simp only [recI, Bool.and_eq_true, inB_iff] at h3 ⊢
    exact ⟨⟨hb _ (List.mem_of_getElem? (hid k x hx)), sorted_incI hs (hid k x hx), h3.1⟩, h3.2⟩
def letJ (r : List Rcd) (ids : List Int) (k : Nat) (x : Ltr) : Bool := (inB 0 9999 x.id && incI ids k x.id) && letB r x
def letsR (r : List Rcd) (l : List Ltr) : Bool := decide (l.length ≤ 20) && allI (letJ r (idsL l)) l
theorem inc_eq {α : Type} (f : α → Int) (l : List α) : incF 0 (l.map f) = allI (fun k x => inB 0 9999 (f x) && incI (l.map f) k (f x)) l := by
  rw [Bool.eq_iff_iff, allI_iff]
  have hid : ∀ (k : Nat) (x : α), l[k]? = some x → (l.map f)[k]? = some (f x) := fun k x h => by rw [List.getElem?_map, h]; rfl
  have hid' : ∀ (k : Nat) (i : Int), (l.map f)[k]? = some i → ∃ x : α, l[k]? = some x ∧ f x = i := fun k i h => by
    rw [List.getElem?_map] at h
    cases h1 : l[k]? with
    | none => rw [h1] at h; cases h
    | some x => rw [h1] at h; cases h; exact ⟨x, rfl, rfl⟩
  constructor
  · intro h k x hx
    rw [Bool.and_eq_true, inB_iff]
    exact ⟨incF_lt h _ (List.mem_of_getElem? (hid k x hx)), sorted_incI (incF_sorted h) (hid k x hx)⟩
  · intro h
    refine incF_of (fun i hi => ?_) (incI_sorted fun k i hk => ?_)
    · obtain ⟨k, hk, e⟩ := List.mem_iff_getElem.1 hi
      obtain ⟨x, hx, e2⟩ := hid' k i (by rw [List.getElem?_eq_getElem hk, e])
      have := h k x hx
      rw [Bool.and_eq_true, inB_iff] at this
      rw [← e2]; exact this.1
    · obtain ⟨x, hx, e2⟩ := hid' k i hk
      have := h k x hx
      rw [Bool.and_eq_true] at this
      rw [← e2]; exact this.2
theorem allI_const {α : Type} {f : α → Bool} {l : List α} : allI (fun _ x => f x) l = l.all f := by
  rw [Bool.eq_iff_iff, allI_iff, List.all_eq_true]
  exact ⟨fun h x hx => by
    obtain ⟨k, hk, e⟩ := List.mem_iff_getElem.1 hx
    exact h k x (by rw [List.getElem?_eq_getElem hk, e]), fun h k x hx => h x (List.mem_of_getElem? hx)⟩
theorem allI_and {α : Type} (f g : Nat → α → Bool) (l : List α) : allI (fun i a => f i a && g i a) l = (allI f l && allI g l) := by
  rw [Bool.eq_iff_iff, Bool.and_eq_true, allI_iff, allI_iff, allI_iff]
  simp only [Bool.and_eq_true]
  exact ⟨fun h => ⟨fun k a hk => (h k a hk).1, fun k a hk => (h k a hk).2⟩, fun h k a hk => ⟨h.1 k a hk, h.2 k a hk⟩⟩
theorem letsR_eq (r : List Rcd) (l : List Ltr) : letsR r l = letsB r l := by
  unfold letsR letsB
  rw [show (idsL l) = l.map (·.id) from rfl, inc_eq, Bool.and_assoc, ← allI_const (f := letB r), ← allI_and]
  rfl
end Go.Proofs.Ytmdhgkfjlphliaa
/-
  SETS OF RECORDS AS BITS: plain theory.
-/
namespace Go.Proofs.Ytmdhgkfjlphliaa
open Go Go.Am
/-- The set of the numbers below n of which something is so. -/
def setN (p : Nat → Bool) : Nat → Nat
  | 0 => 0
  | n + 1 => setN p n ||| (if p n then 2 ^ n else 0)
theorem setN_bit (p : Nat → Bool) : ∀ n i, (setN p n).testBit i = (decide (i < n) && p i) := by
  intro n
  induction n with
  | zero => intro i; simp [setN]
  | succ n ih =>
    intro i
    simp only [setN, Nat.testBit_or, ih]
    by_cases h : i = n
    · subst h
      cases hp : p i <;> simp
    · have : (if p n = true then 2 ^ n else 0).testBit i = false := by
        split
        · rw [Nat.testBit_two_pow]; exact decide_eq_false (fun e => h e.symm)
        · exact Nat.zero_testBit i
      rw [this, Bool.or_false]
      congr 1
      exact decide_eq_decide.2 (by omega)
theorem setN_lt (p : Nat → Bool) (n : Nat) : setN p n < 2 ^ n := by
  refine Nat.lt_pow_two_of_testBit _ fun i hi => ?_
  rw [setN_bit, decide_eq_false (by omega)]; rfl
theorem setN_congr {p q : Nat → Bool} : ∀ n, (∀ i, i < n → p i = q i) → setN p n = setN q n := by
  intro n
  induction n with
  | zero => intro _; rfl
  | succ n ih => intro h; simp only [setN, ih fun i hi => h i (by omega), h n (by omega)]
theorem setN_of {S n : Nat} (h : S < 2 ^ n) : S = setN (fun i => S.testBit i) n := by
  refine Nat.eq_of_testBit_eq fun i => ?_
  rw [setN_bit]
  by_cases hi : i < n
  · rw [decide_eq_true hi]; rfl
  · rw [decide_eq_false hi, Bool.false_and]
    exact Nat.testBit_lt_two_pow (Nat.lt_of_lt_of_le h (Nat.pow_le_pow_right (by omega) (by omega)))
/-- What one set has and the other has not. -/
def lessN (a b : Nat) : Nat := a ^^^ (a &&& b)
theorem lessN_bit (a b i : Nat) : (lessN a b).testBit i = (a.testBit i && !b.testBit i) := by
  unfold lessN
  rw [Nat.testBit_xor, Nat.testBit_and]
  cases a.testBit i <;> cases b.testBit i <;> rfl
def idA (r : List Rcd) (i : Nat) : Int := (r.getD i default).id
/-- The Ids of a set of records. -/
def idsOf (r : List Rcd) (S : Nat) : List Int := ((List.range r.length).filter fun i => S.testBit i).map (idA r)
def idsK (r : List Rcd) (S k : Nat) : List Int := ((List.range k).filter fun i => S.testBit i).map (idA r)
theorem idsK_succ (r : List Rcd) (S k : Nat) : idsK r S (k + 1) = if S.testBit k then idsK r S k ++ [idA r k] else idsK r S k := by
  unfold idsK
  rw [List.range_succ, List.filter_append, List.map_append]
  cases h : S.testBit k <;> simp [h]
theorem idsK_len (r : List Rcd) (S k : Nat) : (idsK r S k).length ≤ k := by
  unfold idsK
  rw [List.length_map]
  exact Nat.le_trans (List.length_filter_le _ _) (by simp)
theorem idsR_eq (r : List Rcd) : idsR r = (List.range r.length).map (idA r) := by
  refine List.ext_getElem? fun i => ?_
  unfold idsR
  rw [List.getElem?_map, List.getElem?_map]
  by_cases h : i < r.length
  · rw [List.getElem?_range h, List.getElem?_eq_getElem h]
    simp [idA, List.getD_eq_getElem?_getD, h]
  · rw [List.getElem?_eq_none (by omega), List.getElem?_eq_none (by simp; omega)]; rfl
theorem idsOf_setN (r : List Rcd) (q : Int → Bool) : idsOf r (setN (fun i => q (idA r i)) r.length) = (idsR r).filter q := by
  unfold idsOf
  rw [idsR_eq, List.filter_map]
  congr 1
  refine List.filter_congr fun i hi => ?_
  rw [setN_bit, decide_eq_true (List.mem_range.1 hi)]; rfl
/-! ### what holds, step by step -/
theorem held_app (g : Int → Bool) : ∀ (r s : List Rcd) (acc : List Int), heldV g acc (r ++ s) = heldV g (heldV g acc r) s := by
  intro r s
  induction r with
  | nil => intro acc; rfl
  | cons x r ih => intro acc; exact ih _
def accV (g : Int → Bool) (r : List Rcd) (k : Nat) : List Int := heldV g [] (r.take k)
def stepB (g : Int → Bool) (r : List Rcd) (k : Nat) (x : Rcd) : Bool := !g x.id && standsB (fun i => (accV g r k).contains i) x.ways
theorem accV_succ (g : Int → Bool) {r : List Rcd} {k : Nat} {x : Rcd} (hx : r[k]? = some x) : accV g r (k + 1) = if stepB g r k x then accV g r k ++ [x.id] else accV g r k := by
  unfold accV stepB
  rw [List.take_add_one, hx, held_app]
  rfl
theorem accV_all (g : Int → Bool) (r : List Rcd) : accV g r r.length = heldV g [] r := by unfold accV; rw [List.take_length]
theorem accV_mem {g : Int → Bool} {r : List Rcd} {k : Nat} {i : Int} (h : i ∈ accV g r k) : i ∈ (idsR r).take k := by
  rcases held_in _ _ i h with h1 | ⟨_, x, hx, e⟩
  · cases h1
  · rw [← e]; unfold idsR; rw [← List.map_take]; exact List.mem_map.2 ⟨x, hx, rfl⟩
theorem accV_len (g : Int → Bool) (r : List Rcd) : ∀ k, (accV g r k).length ≤ k := by
  intro k
  induction k with
  | zero => exact Nat.le_refl 0
  | succ k ih =>
    cases hx : r[k]? with
    | none =>
      have e : r.take (k + 1) = r.take k := by rw [List.take_add_one, hx]; simp
      unfold accV at *
      rw [e]; omega
    | some x =>
      rw [accV_succ g hx]
      split
      · rw [List.length_append]; simp; omega
      · omega
theorem nodup_at {l : List Int} (h : l.Nodup) {k : Nat} {x : Int} (hx : l[k]? = some x) : x ∉ l.take k ∧ x ∉ l.drop (k + 1) := by
  have e : l = l.take k ++ x :: l.drop (k + 1) := by
    have hk : k < l.length := by
      rcases Nat.lt_or_ge k l.length with h' | h'
      · exact h'
      · rw [List.getElem?_eq_none h'] at hx; cases hx
    rw [List.getElem?_eq_getElem hk] at hx
    cases hx
    rw [← List.drop_eq_getElem_cons hk, List.take_append_drop]
  rw [e] at h
  have h1 := List.nodup_append.1 h
  exact ⟨fun hm => h1.2.2 x hm x List.mem_cons_self rfl, (List.nodup_cons.1 h1.2.1).1⟩
theorem idsR_get {r : List Rcd} {k : Nat} {x : Rcd} (hx : r[k]? = some x) : (idsR r)[k]? = some x.id := by unfold idsR; rw [List.getElem?_map, hx]; rfl
theorem idA_get {r : List Rcd} {k : Nat} {x : Rcd} (hx : r[k]? = some x) : idA r k = x.id := by unfold idA; rw [List.getD_eq_getElem?_getD, hx]; rfl
theorem step_new {g : Int → Bool} {r : List Rcd} (hn : (idsR r).Nodup) {k : Nat} {x : Rcd} (hx : r[k]? = some x) : x.id ∉ accV g r k := fun h => (nodup_at hn (idsR_get hx)).1 (accV_mem h)
theorem step_held {g : Int → Bool} {r : List Rcd} (hn : (idsR r).Nodup) {k : Nat} {x : Rcd} (hx : r[k]? = some x) : (heldV g [] r).contains x.id = stepB g r k x := by
  have e : heldV g [] r = heldV g (accV g r (k + 1)) (r.drop (k + 1)) := by
    unfold accV; rw [← held_app, List.take_append_drop]
  rw [Bool.eq_iff_iff, List.contains_iff_mem, e]
  have hs := accV_succ g hx
  constructor
  · intro h
    rcases held_in _ _ _ h with h1 | ⟨_, y, hy, e2⟩
    · rw [hs] at h1
      cases hc : stepB g r k x
      · rw [hc] at h1; exact absurd h1 (step_new hn hx)
      · rfl
    · refine absurd ?_ (nodup_at hn (idsR_get hx)).2
      rw [← e2]; unfold idsR; rw [← List.map_drop]; exact List.mem_map.2 ⟨y, hy, rfl⟩
  · intro h
    refine held_acc _ _ _ _ ?_
    rw [hs, if_pos h]
    exact List.mem_append_right _ List.mem_cons_self
/-- The set of the records that hold, so far. -/
def setK (g : Int → Bool) (r : List Rcd) (k : Nat) : Nat := setN (fun i => (heldV g [] r).contains (idA r i)) k
theorem setK_succ {g : Int → Bool} {r : List Rcd} (hn : (idsR r).Nodup) {k : Nat} {x : Rcd} (hx : r[k]? = some x) : setK g r (k + 1) = if stepB g r k x then setK g r k ||| 2 ^ k else setK g r k := by
  unfold setK
  rw [setN]
  simp only [idA_get hx, step_held hn hx]
  split
  · rfl
  · exact Nat.or_zero _
theorem setK_lt (g : Int → Bool) (r : List Rcd) (k : Nat) : setK g r k < 2 ^ k := setN_lt _ _
def goneL (ls : List Ltr) (day : Int) (r : List Rcd) : List Int := (idsR r).filter (goneV ls day)
/-- What a record takes with it. -/
def withG (g : Int → Bool) (id : Int) (i : Int) : Bool := decide (i = id) || g i
def takesV (g : Int → Bool) (r : List Rcd) (id : Int) : List Int := (idsR r).filter fun i => (heldV g [] r).contains i && !(heldV (withG g id) [] r).contains i
theorem takes_set (g : Int → Bool) (r : List Rcd) (id : Int) : idsOf r (lessN (setK g r r.length) (setK (withG g id) r r.length)) = takesV g r id := by
  unfold takesV
  rw [← idsOf_setN]
  congr 1
  refine Nat.eq_of_testBit_eq fun i => ?_
  rw [lessN_bit, setN_bit]
  unfold setK
  rw [setN_bit, setN_bit]
  cases decide (i < r.length) <;> rfl
end Go.Proofs.Ytmdhgkfjlphliaa
