/-
  HEAT, SUMS, LEVELS, SMOKE: plain specifications.
-/
import Derived.Test.YtcdcgbgmpmaipaaDoorAmS
namespace Go.Proofs.YtcdcgbgmpmaipaaDoor
open Go Go.Am
structure Hd where
  bLo : Int
  bHi : Int
  fLo : Int
  fHi : Int
  jLo : Int
  jHi : Int
  lLo : Int
  lHi : Int
  dr : Int
abbrev Sn := Int × Int
def encHd (h : Hd) : AV := .agg [.int .i64 h.bLo, .int .i64 h.bHi, .int .i64 h.fLo, .int .i64 h.fHi, .int .i64 h.jLo, .int .i64 h.jHi, .int .i64 h.lLo, .int .i64 h.lHi, .int .i64 h.dr]
def encI (x : Int) : List AV := [.int .i64 x]
def encR (r : List Int) : AV := .lst 1 (r.map encI)
def encS (s : Sn) : AV := .agg [.int .i64 s.1, .int .i64 s.2]
def spB (lo hi m : Int) : Bool := decide (0 ≤ lo ∧ lo ≤ hi ∧ hi ≤ m)
def hoodB (h : Hd) : Bool := spB h.bLo h.bHi 1000000 && (spB h.fLo h.fHi 10000 && (spB h.jLo h.jHi 30000 && (spB h.lLo h.lHi 30 && decide (0 ≤ h.dr ∧ h.dr ≤ 1000))))
def inB (lo hi n : Int) : Bool := decide (lo ≤ n ∧ n ≤ hi)
def readsB (r : List Int) (m : Int) : Bool := decide (r.length ≤ 120) && r.all (inB 0 m)
def checkI (h : Hd) (r : List Int) : Int := if hoodB h then (if readsB r 1000000 then 0 else 41) else 40
structure HoodOk (h : Hd) : Prop where
  b : 0 ≤ h.bLo ∧ h.bLo ≤ h.bHi ∧ h.bHi ≤ 1000000
  f : 0 ≤ h.fLo ∧ h.fLo ≤ h.fHi ∧ h.fHi ≤ 10000
  j : 0 ≤ h.jLo ∧ h.jLo ≤ h.jHi ∧ h.jHi ≤ 30000
  l : 0 ≤ h.lLo ∧ h.lLo ≤ h.lHi ∧ h.lHi ≤ 30
  d : 0 ≤ h.dr ∧ h.dr ≤ 1000
theorem hoodB_iff {h : Hd} : hoodB h = true ↔ HoodOk h := by
  simp only [hoodB, spB, Bool.and_eq_true, decide_eq_true_eq]
  exact ⟨fun ⟨a, b, c, d, e⟩ => ⟨a, b, c, d, e⟩, fun ⟨a, b, c, d, e⟩ => ⟨a, b, c, d, e⟩⟩
structure ReadsOk (r : List Int) (m : Int) : Prop where
  len : r.length ≤ 120
  el : ∀ x ∈ r, 0 ≤ x ∧ x ≤ m
theorem readsB_iff {r : List Int} {m : Int} : readsB r m = true ↔ ReadsOk r m := by
  simp only [readsB, Bool.and_eq_true, decide_eq_true_eq, List.all_eq_true, inB]
  exact ⟨fun ⟨a, b⟩ => ⟨a, b⟩, fun ⟨a, b⟩ => ⟨a, b⟩⟩
structure Ok (h : Hd) (r : List Int) : Prop where
  h : HoodOk h
  r : ReadsOk r 1000000
theorem checkI_ok {h : Hd} {r : List Int} : checkI h r = 0 ↔ Ok h r := by
  unfold checkI
  cases h1 : hoodB h <;> cases h2 : readsB r 1000000 <;> simp
  · exact fun ⟨a, _⟩ => by rw [hoodB_iff.2 a] at h1; cases h1
  · exact fun ⟨a, _⟩ => by rw [hoodB_iff.2 a] at h1; cases h1
  · exact fun ⟨_, a⟩ => by rw [readsB_iff.2 a] at h2; cases h2
  · exact ⟨hoodB_iff.1 h1, readsB_iff.1 h2⟩
def rd (r : List Int) (i : Nat) : Int := r.getD i 0
theorem rd_get {r : List Int} {i : Nat} (h : i < r.length) : r[i]? = some (rd r i) := by
  unfold rd; rw [List.getD_eq_getElem?_getD, List.getElem?_eq_getElem h]; rfl
theorem rd_rng {r : List Int} {m : Int} (h : ReadsOk r m) (hm : 0 ≤ m) (i : Nat) : 0 ≤ rd r i ∧ rd r i ≤ m := by
  rcases Nat.lt_or_ge i r.length with hi | hi
  · exact h.el _ (List.mem_of_getElem? (rd_get hi))
  · unfold rd; rw [List.getD_eq_getElem?_getD, List.getElem?_eq_none hi]; exact ⟨Int.le_refl _, hm⟩
/-- Seconds of heat. -/
def secN (h : Hd) (r : List Int) : Nat := r.length - h.lHi.toNat
def mLo (h : Hd) (r : List Int) (lag i : Nat) : Int := max 0 (h.bLo - h.dr - rd r (i + lag))
def mHi (h : Hd) (r : List Int) (lag i : Nat) : Int := max 0 (h.bHi + h.dr - rd r (i + lag))
def aLo (h : Hd) (r : List Int) (lag i : Nat) : Int := h.jLo * h.fLo * mLo h r lag i
def aHi (h : Hd) (r : List Int) (lag i : Nat) : Int := h.jHi * h.fHi * mHi h r lag i
theorem mul_rng {a b A B : Int} (h0 : 0 ≤ a) (h1 : a ≤ A) (k0 : 0 ≤ b) (k1 : b ≤ B) : 0 ≤ a * b ∧ a * b ≤ A * B :=
  ⟨Int.mul_nonneg h0 k0, Int.mul_le_mul h1 k1 k0 (Int.le_trans h0 h1)⟩
theorem m_rng {h : Hd} {r : List Int} (ho : Ok h r) (lag i : Nat) : 0 ≤ mLo h r lag i ∧ mLo h r lag i ≤ mHi h r lag i ∧ mHi h r lag i ≤ 1001000 := by
  have := rd_rng ho.r (by omega) (i + lag)
  have := ho.h.b
  have := ho.h.d
  unfold mLo mHi
  omega
theorem fac_rng {h : Hd} (ho : HoodOk h) : 0 ≤ h.jLo * h.fLo ∧ h.jLo * h.fLo ≤ h.jHi * h.fHi ∧ h.jHi * h.fHi ≤ 300000000 := by
  have hf := ho.f
  have hj := ho.j
  have h1 := mul_rng hj.1 hj.2.1 hf.1 hf.2.1
  have h2 := mul_rng (show 0 ≤ h.jHi by omega) hj.2.2 (show 0 ≤ h.fHi by omega) hf.2.2
  exact ⟨h1.1, h1.2, h2.2⟩
theorem a_rng {h : Hd} {r : List Int} (ho : Ok h r) (lag i : Nat) : 0 ≤ aLo h r lag i ∧ aLo h r lag i ≤ aHi h r lag i ∧ aHi h r lag i ≤ 300300000000000 := by
  have hm := m_rng ho lag i
  have hf := fac_rng ho.h
  have h1 := mul_rng hf.1 hf.2.1 hm.1 hm.2.1
  have h2 := mul_rng (show 0 ≤ h.jHi * h.fHi by omega) hf.2.2 (show 0 ≤ mHi h r lag i by omega) hm.2.2
  exact ⟨h1.1, h1.2, h2.2⟩
/-- The sum of n numbers from a on. -/
def sumF (f : Nat → Int) (a : Nat) : Nat → Int
  | 0 => 0
  | n + 1 => sumF f a n + f (a + n)
theorem sumF_rng {f : Nat → Int} {B : Int} (h : ∀ i, 0 ≤ f i ∧ f i ≤ B) (a : Nat) : ∀ n, 0 ≤ sumF f a n ∧ sumF f a n ≤ n * B
  | 0 => by simp [sumF]
  | n + 1 => by
    have h1 := sumF_rng h a n
    have h2 := h (a + n)
    have e : ((n + 1 : Nat) : Int) * B = n * B + B := by rw [Int.natCast_add, Int.add_mul]; simp
    simp only [sumF, e]
    omega
theorem sumF_le {f g : Nat → Int} (h : ∀ i, f i ≤ g i) (a : Nat) : ∀ n, sumF f a n ≤ sumF g a n
  | 0 => Int.le_refl _
  | n + 1 => Int.add_le_add (sumF_le h a n) (h _)
theorem sumF_one (f : Nat → Int) (a : Nat) : sumF f a 1 = f a := by simp [sumF]
theorem sumF_add (f : Nat → Int) (a m : Nat) : ∀ n, sumF f a (m + n) = sumF f a m + sumF f (a + m) n
  | 0 => by simp [sumF]
  | n + 1 => by
    show sumF f a (m + n) + f (a + (m + n)) = sumF f a m + (sumF f (a + m) n + f (a + m + n))
    rw [sumF_add f a m n, Nat.add_assoc a m n, Int.add_assoc]
/-! ### the widest of spans -/
def joinP (a b : Sn) : Sn := if a = (-1, -1) then b else (min a.1 b.1, max a.2 b.2)
def widL (l : List Sn) : Sn := l.foldl joinP (-1, -1)
def widZ (l : List Sn) : Sn := if widL l = (-1, -1) then (0, 0) else widL l
theorem snocRec {α : Type} {p : List α → Prop} (h0 : p []) (h1 : ∀ l a, p l → p (l ++ [a])) (l : List α) : p l := by
  have key : ∀ l : List α, p l.reverse := by
    intro l
    induction l with
    | nil => exact h0
    | cons a l ih => rw [List.reverse_cons]; exact h1 _ _ ih
  simpa using key l.reverse
theorem widL_snoc (l : List Sn) (s : Sn) : widL (l ++ [s]) = joinP (widL l) s := by simp [widL]
theorem joinP_rng {a b : Sn} {B : Int} (ha : a = (-1, -1) ∨ 0 ≤ a.1 ∧ a.1 ≤ a.2 ∧ a.2 ≤ B) (hb : 0 ≤ b.1 ∧ b.1 ≤ b.2 ∧ b.2 ≤ B) : 0 ≤ (joinP a b).1 ∧ (joinP a b).1 ≤ (joinP a b).2 ∧ (joinP a b).2 ≤ B := by
  unfold joinP
  split
  · exact hb
  · rename_i h
    have ha := ha.resolve_left h
    simp only
    omega
theorem widL_rng {l : List Sn} {B : Int} (h : ∀ s ∈ l, 0 ≤ s.1 ∧ s.1 ≤ s.2 ∧ s.2 ≤ B) : (l = [] ∧ widL l = (-1, -1)) ∨ (l ≠ [] ∧ 0 ≤ (widL l).1 ∧ (widL l).1 ≤ (widL l).2 ∧ (widL l).2 ≤ B) := by
  induction l using snocRec with
  | h0 => exact .inl ⟨rfl, rfl⟩
  | h1 l s ih =>
    refine .inr ⟨by simp, ?_⟩
    rw [widL_snoc]
    refine joinP_rng ?_ (h s (by simp))
    rcases ih fun s hs => h s (by simp [hs]) with h1 | h1
    · exact .inl h1.2
    · exact .inr h1.2
theorem joinP_comm (z x y : Sn) (hx : 0 ≤ x.2) (hy : 0 ≤ y.2) : joinP (joinP z x) y = joinP (joinP z y) x := by
  have ne : ∀ a : Sn, 0 ≤ a.2 → a ≠ (-1, -1) := fun a h e => by rw [e] at h; simp at h
  by_cases hz : z = (-1, -1)
  · have e1 : joinP z x = x := by simp [joinP, hz]
    have e2 : joinP z y = y := by simp [joinP, hz]
    rw [e1, e2]
    simp only [joinP, if_neg (ne x hx), if_neg (ne y hy)]
    rw [Int.min_comm, Int.max_comm]
  · have e1 : joinP z x = (min z.1 x.1, max z.2 x.2) := by simp [joinP, hz]
    have e2 : joinP z y = (min z.1 y.1, max z.2 y.2) := by simp [joinP, hz]
    rw [e1, e2]
    simp only [joinP]
    rw [if_neg (ne _ (show 0 ≤ max z.2 x.2 by omega)), if_neg (ne _ (show 0 ≤ max z.2 y.2 by omega))]
    simp only [Prod.mk.injEq]
    omega
theorem widL_perm {l l' : List Sn} (hp : l.Perm l') (h : ∀ s ∈ l, 0 ≤ s.2) : widL l = widL l' :=
  hp.foldl_eq' (fun x hx y hy z => joinP_comm z x y (h x hx) (h y hy)) _
theorem widL_spec {l : List Sn} (hne : l ≠ []) (h : ∀ s ∈ l, 0 ≤ s.2) : widL l ≠ (-1, -1) ∧ (∀ s ∈ l, (widL l).1 ≤ s.1 ∧ s.2 ≤ (widL l).2) ∧ (∃ s ∈ l, s.1 = (widL l).1) ∧ ∃ s ∈ l, s.2 = (widL l).2 := by
  have ne : ∀ a : Sn, 0 ≤ a.2 → a ≠ (-1, -1) := fun a h e => by rw [e] at h; simp at h
  induction l using snocRec with
  | h0 => exact absurd rfl hne
  | h1 l s ih =>
    rw [widL_snoc]
    have hs : 0 ≤ s.2 := h s (by simp)
    by_cases hl : l = []
    · subst hl
      have e : joinP (widL []) s = s := by simp [joinP, widL]
      rw [e]
      exact ⟨ne s hs, fun t ht => by simp at ht; subst ht; exact ⟨Int.le_refl _, Int.le_refl _⟩, ⟨s, by simp, rfl⟩, ⟨s, by simp, rfl⟩⟩
    · obtain ⟨i0, i1, ⟨a, ha, ha'⟩, ⟨b, hb, hb'⟩⟩ := ih hl fun s hs => h s (by simp [hs])
      have e : joinP (widL l) s = (min (widL l).1 s.1, max (widL l).2 s.2) := by simp [joinP, i0]
      rw [e]
      refine ⟨ne _ (show 0 ≤ max (widL l).2 s.2 by omega), fun t ht => ?_, ?_, ?_⟩
      · simp only [List.mem_append, List.mem_singleton] at ht
        rcases ht with ht | rfl
        · have := i1 t ht; simp only; omega
        · simp only; omega
      · by_cases hc : (widL l).1 ≤ s.1
        · exact ⟨a, by simp [ha], by simp only; omega⟩
        · exact ⟨s, by simp, by simp only; omega⟩
      · by_cases hc : s.2 ≤ (widL l).2
        · exact ⟨b, by simp [hb], by simp only; omega⟩
        · exact ⟨s, by simp, by simp only; omega⟩
/-- All lags. -/
def lagsN (h : Hd) : List Nat := List.range' h.lLo.toNat ((h.lHi - h.lLo).toNat + 1)
def sumS (h : Hd) (r : List Int) (a n lag : Nat) : Sn := (sumF (aLo h r lag) a n, sumF (aHi h r lag) a n)
def sumV (h : Hd) (r : List Int) (a n : Nat) : Sn := widZ ((lagsN h).map (sumS h r a n))
def heatI (h : Hd) (r : List Int) (i : Int) : Sn × Int := if checkI h r = 0 then (if 0 ≤ i ∧ i < secN h r then (sumV h r i.toNat 1, 0) else ((0, 0), 2)) else ((0, 0), checkI h r)
def sumI (h : Hd) (r : List Int) (a b : Int) : Sn × Int := if checkI h r = 0 then (if 0 ≤ a ∧ a ≤ b ∧ b ≤ secN h r then (sumV h r a.toNat (b - a).toNat, 0) else ((0, 0), 2)) else ((0, 0), checkI h r)
/-! ### levels -/
/-- The seconds in which a level may be reached first with a lag, of the first k seconds, and whether it is for sure. -/
def arrK (h : Hd) (r : List Int) (lag : Nat) (v : Int) : Nat → Sn × Bool
  | 0 => ((-1, -1), false)
  | k + 1 => if (arrK h r lag v k).2 then arrK h r lag v k else if aHi h r lag k < v then arrK h r lag v k else
    ((if (arrK h r lag v k).1.1 < 0 then (k : Int) else (arrK h r lag v k).1.1, (k : Int)), decide (v ≤ aLo h r lag k))
def arrV (h : Hd) (r : List Int) (v : Int) (lag : Nat) : Sn × Bool := arrK h r lag v (secN h r)
def mayB (h : Hd) (r : List Int) (v : Int) (lag : Nat) : Bool := decide (0 ≤ (arrV h r v lag).1.1)
def mayL (h : Hd) (r : List Int) (v : Int) : List Nat := (lagsN h).filter (mayB h r v)
def firstS (h : Hd) (r : List Int) (v : Int) : Sn := widZ ((mayL h r v).map fun lag => (arrV h r v lag).1)
def knownI (h : Hd) (r : List Int) (v : Int) : Int := if (mayL h r v).isEmpty then 0 else if (lagsN h).all fun lag => (arrV h r v lag).2 then 2 else 1
def firstI (h : Hd) (r : List Int) (v : Int) : Sn × Int × Int := if checkI h r = 0 then (if 1 ≤ v then (firstS h r v, knownI h r v, 0) else ((0, 0), 0, 2)) else ((0, 0), 0, checkI h r)
theorem arrK_rng (h : Hd) (r : List Int) (lag : Nat) (v : Int) : ∀ k, ((arrK h r lag v k).1 = (-1, -1) ∧ (arrK h r lag v k).2 = false) ∨ (0 ≤ (arrK h r lag v k).1.1 ∧ (arrK h r lag v k).1.1 ≤ (arrK h r lag v k).1.2 ∧ (arrK h r lag v k).1.2 < k)
  | 0 => .inl ⟨rfl, rfl⟩
  | k + 1 => by
    have ih := arrK_rng h r lag v k
    unfold arrK
    split
    · rcases ih with ih | ih
      · exact .inl ih
      · exact .inr (by omega)
    · split
      · rcases ih with ih | ih
        · exact .inl ih
        · exact .inr (by omega)
      · right
        rcases ih with ih | ih
        · rw [ih.1]; simp; omega
        · rw [if_neg (by omega)]; simp only; omega
/-! ### smoke -/
structure Lp where
  before : Int
  after : Int
def encLp (l : Lp) : AV := .agg [.int .i64 l.before, .int .i64 l.after]
def lampB (l : Lp) : Bool := inB 1 1000000 l.before && inB 1 l.before l.after
def lightsI (l : Lp) (r : List Int) : Int := if lampB l then (if readsB r l.before then 0 else 41) else 42
structure LOk (l : Lp) (r : List Int) : Prop where
  b : 1 ≤ l.before ∧ l.before ≤ 1000000
  a : 1 ≤ l.after ∧ l.after ≤ l.before
  r : ReadsOk r l.before
theorem lightsI_ok {l : Lp} {r : List Int} : lightsI l r = 0 ↔ LOk l r := by
  unfold lightsI
  cases h1 : lampB l <;> cases h2 : readsB r l.before <;> simp
  · exact fun ⟨a, b, _⟩ => by simp [lampB, inB, a, b] at h1
  · exact fun ⟨a, b, _⟩ => by simp [lampB, inB, a, b] at h1
  · exact fun ⟨_, _, a⟩ => by rw [readsB_iff.2 a] at h2; cases h2
  · simp only [lampB, inB, Bool.and_eq_true, decide_eq_true_eq] at h1
    exact ⟨h1.1, h1.2, readsB_iff.1 h2⟩
/-- The greatest of some numbers and one more. -/
def maxL (m : Int) (l : List Int) : Int := l.foldl max m
def cleanV (l : Lp) (r : List Int) (i : Nat) : Int := maxL l.after (r.drop i)
def darkV (light clean : Int) : Int := 1000 - (1000 * light).tdiv clean
def darkS (l : Lp) (r : List Int) (i : Nat) : Sn := (darkV (rd r i) (cleanV l r i), darkV (rd r i) l.before)
def smokeS (l : Lp) (r : List Int) (a n : Nat) : Sn := (sumF (fun i => (darkS l r i).1) a n, sumF (fun i => (darkS l r i).2) a n)
def inSecI (l : Lp) (r : List Int) (i : Int) (v : Sn) : Sn × Int := if lightsI l r = 0 then (if 0 ≤ i ∧ i < r.length then (v, 0) else ((0, 0), 2)) else ((0, 0), lightsI l r)
def cleanI (l : Lp) (r : List Int) (i : Int) : Sn × Int := inSecI l r i (cleanV l r i.toNat, l.before)
def darkI (l : Lp) (r : List Int) (i : Int) : Sn × Int := inSecI l r i (darkS l r i.toNat)
def smokeI (l : Lp) (r : List Int) (a b : Int) : Sn × Int := if lightsI l r = 0 then (if 0 ≤ a ∧ a ≤ b ∧ b ≤ r.length then (smokeS l r a.toNat (b - a).toNat, 0) else ((0, 0), 2)) else ((0, 0), lightsI l r)
theorem maxL_ge (m : Int) (l : List Int) : m ≤ maxL m l ∧ ∀ x ∈ l, x ≤ maxL m l := by
  induction l generalizing m with
  | nil => exact ⟨Int.le_refl _, fun x hx => by cases hx⟩
  | cons a l ih =>
    obtain ⟨h1, h2⟩ := ih (max m a)
    refine ⟨?_, fun x hx => ?_⟩
    · show m ≤ maxL (max m a) l; omega
    · show x ≤ maxL (max m a) l
      rcases List.mem_cons.1 hx with rfl | hx
      · omega
      · exact h2 x hx
theorem maxL_le {m B : Int} {l : List Int} (hm : m ≤ B) (h : ∀ x ∈ l, x ≤ B) : maxL m l ≤ B := by
  induction l generalizing m with
  | nil => exact hm
  | cons a l ih => exact ih (m := max m a) (by have := h a (by simp); omega) fun x hx => h x (by simp [hx])
theorem maxL_max (m k : Int) (l : List Int) : maxL (max m k) l = max m (maxL k l) := by
  induction l generalizing k with
  | nil => rfl
  | cons a l ih =>
    show maxL (max (max m k) a) l = max m (maxL (max k a) l)
    rw [← ih, Int.max_assoc]
theorem clean_rng {l : Lp} {r : List Int} (h : LOk l r) (i : Nat) : 1 ≤ cleanV l r i ∧ l.after ≤ cleanV l r i ∧ cleanV l r i ≤ l.before := by
  have h1 := maxL_ge l.after (r.drop i)
  have h2 := maxL_le (m := l.after) (B := l.before) (l := r.drop i) h.a.2 fun x hx => (h.r.el x (List.mem_of_mem_drop hx)).2
  have := h.a
  unfold cleanV
  omega
theorem clean_ge {l : Lp} {r : List Int} {i : Nat} (hi : i < r.length) : rd r i ≤ cleanV l r i :=
  (maxL_ge l.after (r.drop i)).2 _ (List.mem_of_getElem? (i := 0) (by rw [List.getElem?_drop]; simpa using rd_get hi))
theorem dark_rng {a c : Int} (h0 : 0 ≤ a) (h1 : 1 ≤ c) (h2 : a ≤ c) : 0 ≤ (1000 * a).tdiv c ∧ (1000 * a).tdiv c ≤ 1000 := by
  rw [Int.tdiv_eq_ediv_of_nonneg (by omega)]
  refine ⟨Int.ediv_nonneg (by omega) (by omega), ?_⟩
  refine Int.ediv_le_of_le_mul (by omega) ?_
  exact Int.mul_le_mul_of_nonneg_left h2 (by omega)
theorem darkV_rng {a c : Int} (h0 : 0 ≤ a) (h1 : 1 ≤ c) (h2 : a ≤ c) : 0 ≤ darkV a c ∧ darkV a c ≤ 1000 := by
  have := dark_rng h0 h1 h2
  unfold darkV; omega
end Go.Proofs.YtcdcgbgmpmaipaaDoor
