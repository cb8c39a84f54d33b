import Derived.Test.YtcbdggmojnnbdaaDoorAmS
/-
  NETS, BULBS, FIRES: plain specifications.
-/
namespace Go.Proofs.YtcbdggmojnnbdaaDoor
open Go Go.Am
structure Pp where
  fr : Int
  to : Int
  lo : Int
  hi : Int
structure Hh where
  id : Int
  node : Int
  need : Int
  least : Int
  bLo : Int
  bHi : Int
  sLo : Int
  sHi : Int
structure Pm where
  lo : Int
  hi : Int
  sl : Int
structure Nt where
  ps : List Pp
  hs : List Hh
  pm : List Pm
  out : Int
  tLo : Int
  tHi : Int
  mins : Int
instance : Inhabited Pp := ⟨⟨0, 0, 0, 0⟩⟩
instance : Inhabited Hh := ⟨⟨0, 0, 0, 0, 0, 0, 0, 0⟩⟩
instance : Inhabited Pm := ⟨⟨0, 0, 0⟩⟩
abbrev Sn := Int × Int
def encI (x : Int) : List AV := [.int .i64 x]
def encR (r : List Int) : AV := .lst 1 (r.map encI)
def cS (s : Sn) : List AV := [.int .i64 s.1, .int .i64 s.2]
def encS (s : Sn) : AV := .agg [.int .i64 s.1, .int .i64 s.2]
def encSs (r : List Sn) : AV := .lst 2 (r.map cS)
def cP (p : Pp) : List AV := [.int .i64 p.fr, .int .i64 p.to, .int .i64 p.lo, .int .i64 p.hi]
def cH (h : Hh) : List AV := [.int .i64 h.id, .int .i64 h.node, .int .i64 h.need, .int .i64 h.least, .int .i64 h.bLo, .int .i64 h.bHi, .int .i64 h.sLo, .int .i64 h.sHi]
def cM (p : Pm) : List AV := [.int .i64 p.lo, .int .i64 p.hi, .int .i64 p.sl]
def encP (l : List Pp) : AV := .lst 4 (l.map cP)
def encH (l : List Hh) : AV := .lst 8 (l.map cH)
def encM (l : List Pm) : AV := .lst 3 (l.map cM)
def cN (n : Nt) : List AV := [encP n.ps, encH n.hs, encM n.pm, .int .i64 n.out, .int .i64 n.tLo, .int .i64 n.tHi, .int .i64 n.mins]
def encN (n : Nt) : AV := .agg (cN n)
def encHh (h : Hh) : AV := .agg (cH h)
def spB (lo hi m : Int) : Bool := decide (0 ≤ lo ∧ lo ≤ hi ∧ hi ≤ m)
def inB (lo hi n : Int) : Bool := decide (lo ≤ n ∧ n ≤ hi)
/-! ### lists by their indices -/
def allI {α : Type} (f : Nat → α → Bool) (l : List α) : Bool := l.zipIdx.all fun p => f p.2 p.1
theorem allI_take {α : Type} {f : Nat → α → Bool} {l : List α} {k : Nat} {a : α} (h : l[k]? = some a) : allI f (l.take (k + 1)) = (allI f (l.take k) && f k a) := by
  have hk : k < l.length := by
    rcases Nat.lt_or_ge k l.length with h' | h'
    · exact h'
    · rw [List.getElem?_eq_none h'] at h; cases h
  unfold allI
  rw [List.take_add_one, h, List.zipIdx_append, List.all_append, List.length_take, Nat.min_eq_left (by omega)]
  simp
theorem allI_iff {α : Type} {f : Nat → α → Bool} {l : List α} : allI f l = true ↔ ∀ k a, l[k]? = some a → f k a = true := by
  unfold allI
  rw [List.all_eq_true]
  constructor
  · intro h k a hk
    exact h (a, k) (List.mem_zipIdx_iff_getElem?.2 hk)
  · rintro h ⟨a, k⟩ hm
    exact h k a (List.mem_zipIdx_iff_getElem?.1 hm)
theorem allI_bad {α : Type} {f : Nat → α → Bool} {l : List α} {k : Nat} {a : α} (h : l[k]? = some a) (hf : f k a = false) : allI f l = false := by
  cases hb : allI f l
  · rfl
  · rw [allI_iff.1 hb k a h] at hf; cases hf
theorem allI_and {α : Type} (f g : Nat → α → Bool) (l : List α) : allI (fun i a => f i a && g i a) l = (allI f l && allI g l) := by
  rw [Bool.eq_iff_iff, Bool.and_eq_true, allI_iff, allI_iff, allI_iff]
  simp only [Bool.and_eq_true]
  exact ⟨fun h => ⟨fun k a hk => (h k a hk).1, fun k a hk => (h k a hk).2⟩, fun h k a hk => ⟨h.1 k a hk, h.2 k a hk⟩⟩
/-! ### what is valid -/
def pipeB (i : Nat) (p : Pp) : Bool := decide (p.to = i + 1) && (inB 0 i p.fr && spB p.lo p.hi 1000)
def bulbB (h : Hh) : Bool := inB 0 9999 h.id && (inB 1 500 h.need && (inB 0 100000 h.least && (spB h.bLo h.bHi 2000 && spB h.sLo h.sHi 10)))
def headB (n : Int) (h : Hh) : Bool := bulbB h && inB 1 n h.node
def idAt (hs : List Hh) (i : Nat) : Int := (hs.getD i default).id
def headI (hs : List Hh) (n : Int) (i : Nat) (h : Hh) : Bool := headB n h && !(decide (0 < i) && decide (h.id ≤ idAt hs (i - 1)))
def pumpB (p : Pm) : Bool := spB p.lo p.hi 100000 && inB 0 100 p.sl
def pipesB (l : List Pp) : Bool := inB 1 12 l.length && allI pipeB l
def headsB (l : List Hh) (n : Int) : Bool := inB 1 8 l.length && allI (headI l n) l
def pumpsB (l : List Pm) : Bool := inB 1 4 l.length && l.all pumpB
def netB (n : Nt) : Bool := pipesB n.ps && (headsB n.hs n.ps.length && (pumpsB n.pm && (inB 0 ((n.pm.length : Int) - 1) n.out && (spB n.tLo n.tHi 1000000 && inB 0 600 n.mins))))
def checkI (n : Nt) : Int := if netB n then 0 else 50
def incI (l : List Int) (i : Nat) (x : Int) : Bool := !(decide (0 < i) && decide (x ≤ l.getD (i - 1) 0))
def incB (l : List Int) : Bool := allI (incI l) l
def hasId (n : Nt) (x : Int) : Bool := n.hs.any fun h => h.id == x
def openB (n : Nt) (l : List Int) : Bool := l.all (hasId n) && incB l
def outB (n : Nt) (l : List Int) : Bool := decide ((l.length : Int) ≤ n.out) && (l.all (inB 0 ((n.pm.length : Int) - 1)) && incB l)
def heatB (l : List Int) : Bool := decide (l.length ≤ 60) && l.all (inB 0 2000)
/-! ### bulbs -/
def burstV (l : List Int) (d late : Int) : Int := match l.findIdx? fun x => decide (d ≤ x) with
  | none => 0
  | some i => if (i : Int) + 1 + late > l.length then 0 else (i : Int) + 1 + late
def burstsI (h : Hh) (l : List Int) : Int × Int × Int := if headB 12 h then (if heatB l then (burstV l h.bLo h.sLo, burstV l h.bHi h.sHi, 0) else (0, 0, 51)) else (0, 0, 50)
structure HeadOk (n : Int) (h : Hh) : Prop where
  id : 0 ≤ h.id ∧ h.id ≤ 9999
  node : 1 ≤ h.node ∧ h.node ≤ n
  need : 1 ≤ h.need ∧ h.need ≤ 500
  least : 0 ≤ h.least ∧ h.least ≤ 100000
  b : 0 ≤ h.bLo ∧ h.bLo ≤ h.bHi ∧ h.bHi ≤ 2000
  s : 0 ≤ h.sLo ∧ h.sLo ≤ h.sHi ∧ h.sHi ≤ 10
theorem headB_iff {n : Int} {h : Hh} : headB n h = true ↔ HeadOk n h := by
  simp only [headB, bulbB, spB, inB, Bool.and_eq_true, decide_eq_true_eq]
  exact ⟨fun ⟨⟨a, b, c, d, e⟩, f⟩ => ⟨a, f, b, c, d, e⟩, fun ⟨a, f, b, c, d, e⟩ => ⟨⟨a, b, c, d, e⟩, f⟩⟩
structure HeatOk (l : List Int) : Prop where
  len : l.length ≤ 60
  el : ∀ x ∈ l, 0 ≤ x ∧ x ≤ 2000
theorem heatB_iff {l : List Int} : heatB l = true ↔ HeatOk l := by
  simp only [heatB, inB, Bool.and_eq_true, decide_eq_true_eq, List.all_eq_true]
  exact ⟨fun ⟨a, b⟩ => ⟨a, b⟩, fun ⟨a, b⟩ => ⟨a, b⟩⟩
structure PipeOk (i : Nat) (p : Pp) : Prop where
  to : p.to = i + 1
  fr : 0 ≤ p.fr ∧ p.fr ≤ i
  f : 0 ≤ p.lo ∧ p.lo ≤ p.hi ∧ p.hi ≤ 1000
structure PumpOk (p : Pm) : Prop where
  f : 0 ≤ p.lo ∧ p.lo ≤ p.hi ∧ p.hi ≤ 100000
  s : 0 ≤ p.sl ∧ p.sl ≤ 100
structure NetOk (n : Nt) : Prop where
  pl : 1 ≤ n.ps.length ∧ n.ps.length ≤ 12
  p : ∀ (i : Nat) (p : Pp), n.ps[i]? = some p → PipeOk i p
  hl : 1 ≤ n.hs.length ∧ n.hs.length ≤ 8
  h : ∀ (i : Nat) (h : Hh), n.hs[i]? = some h → HeadOk n.ps.length h
  inc : ∀ (i : Nat) (h k : Hh), n.hs[i]? = some h → n.hs[i + 1]? = some k → h.id < k.id
  ml : 1 ≤ n.pm.length ∧ n.pm.length ≤ 4
  m : ∀ p ∈ n.pm, PumpOk p
  out : 0 ≤ n.out ∧ n.out ≤ (n.pm.length : Int) - 1
  t : 0 ≤ n.tLo ∧ n.tLo ≤ n.tHi ∧ n.tHi ≤ 1000000
  mins : 0 ≤ n.mins ∧ n.mins ≤ 600
theorem netB_iff {n : Nt} : netB n = true ↔ NetOk n := by
  simp only [netB, pipesB, headsB, pumpsB, inB, spB, Bool.and_eq_true, decide_eq_true_eq, allI_iff, List.all_eq_true]
  constructor
  · rintro ⟨⟨a, b⟩, ⟨c, d⟩, ⟨e, f⟩, g, t, m⟩
    refine ⟨by omega, fun i p hp => ?_, by omega, fun i h hh => ?_, fun i h k h1 h2 => ?_, by omega, fun p hp => ?_, g, t, m⟩
    · have := b i p hp
      simp only [pipeB, inB, spB, Bool.and_eq_true, decide_eq_true_eq] at this
      exact ⟨this.1, this.2.1, this.2.2⟩
    · have := d i h hh
      simp only [headI, Bool.and_eq_true] at this
      exact headB_iff.1 this.1
    · have := d (i + 1) k h2
      simp only [headI, Bool.and_eq_true, idAt, List.getD_eq_getElem?_getD, Nat.add_sub_cancel, h1] at this
      simpa using this.2
    · have := f p hp
      simp only [pumpB, inB, spB, Bool.and_eq_true, decide_eq_true_eq] at this
      exact ⟨this.1, this.2⟩
  · intro o
    have hp := o.pl
    have hh := o.hl
    have hm := o.ml
    refine ⟨⟨by omega, fun i p hp => ?_⟩, ⟨by omega, fun i h hh => ?_⟩, ⟨by omega, fun p hp => ?_⟩, o.out, o.t, o.mins⟩
    · have := o.p i p hp
      simp only [pipeB, inB, spB, Bool.and_eq_true, decide_eq_true_eq]
      exact ⟨this.to, this.fr, this.f⟩
    · simp only [headI, Bool.and_eq_true]
      refine ⟨headB_iff.2 (o.h i h hh), ?_⟩
      cases i with
      | zero => rfl
      | succ i =>
        have hi : i < n.hs.length := by
          rcases Nat.lt_or_ge (i + 1) n.hs.length with h' | h'
          · omega
          · rw [List.getElem?_eq_none h'] at hh; cases hh
        have := o.inc i _ h (List.getElem?_eq_getElem hi) hh
        simp only [idAt, List.getD_eq_getElem?_getD, Nat.add_sub_cancel, List.getElem?_eq_getElem hi, Option.getD_some]
        simp; omega
    · have := o.m p hp
      simp only [pumpB, inB, spB, Bool.and_eq_true, decide_eq_true_eq]
      exact ⟨this.f, this.s⟩
theorem checkI_ok {n : Nt} : checkI n = 0 ↔ NetOk n := by
  rw [← netB_iff]
  unfold checkI
  cases netB n <;> simp
end Go.Proofs.YtcbdggmojnnbdaaDoor
/-
  FLOWS AND PRESSURES: plain specifications.
-/
namespace Go.Proofs.YtcbdggmojnnbdaaDoor
open Go Go.Am
def pAt (ps : List Pp) (i : Nat) : Pp := ps.getD i default
/-- The pipe i is on the way from the pumps to a node. -/
def onF (ps : List Pp) : Nat → Nat → Nat → Bool
  | 0, _, _ => false
  | f + 1, node, i => decide (node ≠ 0) && (decide (node - 1 = i) || onF ps f (pAt ps (node - 1)).fr.toNat i)
def onP (ps : List Pp) (node i : Nat) : Bool := onF ps node node i
/-- All pipes lead on. -/
def Tree (ps : List Pp) : Prop := ∀ i p, ps[i]? = some p → PipeOk i p
theorem Tree.fr {ps : List Pp} (h : Tree ps) {node : Nat} (_h1 : 1 ≤ node) : (pAt ps (node - 1)).fr.toNat ≤ node - 1 := by
  unfold pAt
  rw [List.getD_eq_getElem?_getD]
  cases hp : ps[node - 1]? with
  | none => exact Nat.zero_le _
  | some p => have := (h _ p hp).fr; simp only [Option.getD_some]; omega
theorem Tree.frI {ps : List Pp} (h : Tree ps) {i : Nat} {p : Pp} (hp : ps[i]? = some p) : p.fr = ((pAt ps i).fr.toNat : Int) ∧ (pAt ps i) = p := by
  have e : pAt ps i = p := by unfold pAt; rw [List.getD_eq_getElem?_getD, hp]; rfl
  rw [e]
  have := (h _ p hp).fr
  exact ⟨by omega, rfl⟩
theorem onF_lt {ps : List Pp} (h : Tree ps) : ∀ (f node i : Nat), onF ps f node i = true → i < node := by
  intro f
  induction f with
  | zero => intro node i hi; cases hi
  | succ f ih =>
    intro node i hi
    simp only [onF, Bool.and_eq_true, Bool.or_eq_true, decide_eq_true_eq] at hi
    rcases hi.2 with e | e
    · omega
    · have := ih _ _ e
      have := h.fr (node := node) (by omega)
      omega
theorem onF_fuel {ps : List Pp} (h : Tree ps) : ∀ (f node i : Nat), node ≤ f → onF ps f node i = onF ps node node i := by
  intro f
  induction f using Nat.strongRecOn with
  | _ f ih =>
    intro node i hn
    cases node with
    | zero => cases f <;> simp [onF]
    | succ node =>
      cases f with
      | zero => omega
      | succ f =>
        have hf := h.fr (node := node + 1) (by omega)
        simp only [onF]
        rw [ih f (by omega) _ _ (by omega), ← ih node (by omega) _ _ (by omega)]
theorem onP_zero (ps : List Pp) (i : Nat) : onP ps 0 i = false := rfl
theorem onP_lt {ps : List Pp} (h : Tree ps) {node i : Nat} (hi : onP ps node i = true) : i < node := onF_lt h _ _ _ hi
theorem onP_step {ps : List Pp} (h : Tree ps) {node : Nat} (h1 : 1 ≤ node) (i : Nat) : onP ps node i = (decide (node - 1 = i) || onP ps (pAt ps (node - 1)).fr.toNat i) := by
  obtain ⟨k, rfl⟩ : ∃ k, node = k + 1 := ⟨node - 1, by omega⟩
  have hf := h.fr h1
  unfold onP
  show (decide (k + 1 ≠ 0) && (decide (k + 1 - 1 = i) || onF ps k _ i)) = _
  rw [onF_fuel h k _ i (by omega)]
  simp
/-! ### sums over indices -/
def sumI (f : Nat → Int) : Nat → Int
  | 0 => 0
  | n + 1 => sumI f n + f n
theorem sumI_congr {f g : Nat → Int} : ∀ {n : Nat}, (∀ i, i < n → f i = g i) → sumI f n = sumI g n
  | 0, _ => rfl
  | n + 1, h => by rw [sumI, sumI, sumI_congr fun i hi => h i (by omega), h n (by omega)]
theorem sumI_zero {f : Nat → Int} : ∀ {n : Nat}, (∀ i, i < n → f i = 0) → sumI f n = 0
  | 0, _ => rfl
  | n + 1, h => by rw [sumI, sumI_zero fun i hi => h i (by omega), h n (by omega)]; rfl
theorem sumI_add (f g : Nat → Int) : ∀ n : Nat, sumI (fun i => f i + g i) n = sumI f n + sumI g n
  | 0 => rfl
  | n + 1 => by rw [sumI, sumI, sumI, sumI_add f g n]; omega
theorem sumI_rng {f : Nat → Int} {B : Int} : ∀ {n : Nat}, (∀ i, i < n → 0 ≤ f i ∧ f i ≤ B) → 0 ≤ sumI f n ∧ sumI f n ≤ n * B
  | 0, _ => by simp [sumI]
  | n + 1, h => by
    have h1 := sumI_rng (f := f) (B := B) (n := n) fun i hi => h i (by omega)
    have h2 := h n (by omega)
    have e : ((n + 1 : Nat) : Int) * B = n * B + B := by rw [Int.natCast_add, Int.add_mul]; simp
    simp only [sumI, e]
    omega
theorem sumI_le {f g : Nat → Int} : ∀ {n : Nat}, (∀ i, i < n → f i ≤ g i) → sumI f n ≤ sumI g n
  | 0, _ => Int.le_refl _
  | n + 1, h => Int.add_le_add (sumI_le fun i hi => h i (by omega)) (h n (by omega))
theorem sumI_one (f : Nat → Int) (a : Nat) : ∀ n : Nat, sumI (fun i => if a = i then f i else 0) n = if a < n then f a else 0
  | 0 => by simp [sumI]
  | n + 1 => by
    rw [sumI, sumI_one f a n]
    by_cases h : a = n
    · subst h; simp
    · rw [if_neg h]
      by_cases h2 : a < n
      · rw [if_pos h2, if_pos (by omega)]; omega
      · rw [if_neg h2, if_neg (by omega)]; rfl
/-- The sum over a way. -/
def wayS (ps : List Pp) (f : Nat → Int) (node : Nat) : Int := sumI (fun i => if onP ps node i then f i else 0) ps.length
theorem wayS_zero (ps : List Pp) (f : Nat → Int) : wayS ps f 0 = 0 := sumI_zero fun i _ => by rw [onP_zero]; rfl
theorem wayS_step {ps : List Pp} (h : Tree ps) (f : Nat → Int) {node : Nat} (h1 : 1 ≤ node) (h2 : node ≤ ps.length) : wayS ps f node = f (node - 1) + wayS ps f (pAt ps (node - 1)).fr.toNat := by
  unfold wayS
  have e := sumI_one f (node - 1) ps.length
  rw [if_pos (by omega)] at e
  rw [← e, ← sumI_add]
  refine sumI_congr fun i _ => ?_
  rw [onP_step h h1]
  by_cases c : node - 1 = i
  · have : onP ps (pAt ps (node - 1)).fr.toNat i = false := by
      cases hb : onP ps (pAt ps (node - 1)).fr.toNat i
      · rfl
      · have := onP_lt h hb
        have := h.fr h1
        omega
    rw [this, decide_eq_true c, if_pos c]; simp
  · rw [decide_eq_false c, if_neg c]; simp
/-! ### flows -/
def opened (n : Nt) (l : List Int) : List Hh := n.hs.filter fun h => l.contains h.id
def needS : List Hh → Int
  | [] => 0
  | h :: l => h.need + needS l
theorem needS_app (a b : List Hh) : needS (a ++ b) = needS a + needS b := by
  induction a with
  | nil => simp [needS]
  | cons x a ih => simp only [List.cons_append, needS, ih]; omega
theorem needS_rng {l : List Hh} (h : ∀ x ∈ l, 1 ≤ x.need ∧ x.need ≤ 500) : 0 ≤ needS l ∧ needS l ≤ 500 * l.length := by
  induction l with
  | nil => simp [needS]
  | cons x l ih =>
    have := ih fun y hy => h y (by simp [hy])
    have := h x (by simp)
    simp only [needS, List.length_cons]
    omega
/-- The flow of the pipe i. -/
def flowAt (ps : List Pp) (hs : List Hh) (i : Nat) : Int := needS (hs.filter fun h => onP ps h.node.toNat i)
def flowsL (ps : List Pp) (hs : List Hh) : List Int := (List.range ps.length).map (flowAt ps hs)
theorem flowAt_nil (ps : List Pp) (i : Nat) : flowAt ps [] i = 0 := rfl
theorem flowAt_snoc (ps : List Pp) (hs : List Hh) (h : Hh) (i : Nat) : flowAt ps (hs ++ [h]) i = flowAt ps hs i + if onP ps h.node.toNat i then h.need else 0 := by
  unfold flowAt
  rw [List.filter_append, needS_app]
  congr 1
  cases hb : onP ps h.node.toNat i <;> simp [hb, needS]
theorem flowAt_rng {ps : List Pp} {hs : List Hh} (h : ∀ x ∈ hs, 1 ≤ x.need ∧ x.need ≤ 500) (i : Nat) : 0 ≤ flowAt ps hs i ∧ flowAt ps hs i ≤ needS hs := by
  unfold flowAt
  induction hs with
  | nil => simp [needS]
  | cons x l ih =>
    have := ih fun y hy => h y (by simp [hy])
    have := h x (by simp)
    simp only [List.filter_cons]
    split <;> simp only [needS] <;> omega
theorem flowsL_len (ps : List Pp) (hs : List Hh) : (flowsL ps hs).length = ps.length := by simp [flowsL]
theorem flowsL_get {ps : List Pp} {hs : List Hh} {i : Nat} (hi : i < ps.length) : (flowsL ps hs)[i]? = some (flowAt ps hs i) := by
  simp [flowsL, hi]
theorem flowsL_nil (ps : List Pp) : flowsL ps [] = List.replicate ps.length 0 := by
  refine List.ext_getElem? fun i => ?_
  by_cases hi : i < ps.length
  · rw [flowsL_get hi, List.getElem?_replicate, if_pos hi]; rfl
  · rw [List.getElem?_eq_none (by rw [flowsL_len]; omega), List.getElem?_replicate, if_neg hi]
/-- What flows by a way, added. -/
def addP (ps : List Pp) (node : Nat) (d : Int) (fl : List Int) : List Int := (List.range fl.length).map fun i => fl.getD i 0 + if onP ps node i then d else 0
theorem addP_len (ps : List Pp) (node : Nat) (d : Int) (fl : List Int) : (addP ps node d fl).length = fl.length := by simp [addP]
theorem addP_get {ps : List Pp} {node : Nat} {d : Int} {fl : List Int} {i : Nat} (hi : i < fl.length) : (addP ps node d fl)[i]? = some (fl.getD i 0 + if onP ps node i then d else 0) := by
  simp [addP, hi]
theorem addP_zero (ps : List Pp) (d : Int) (fl : List Int) : addP ps 0 d fl = fl := by
  refine List.ext_getElem? fun i => ?_
  by_cases hi : i < fl.length
  · rw [addP_get hi, onP_zero, List.getD_eq_getElem?_getD, List.getElem?_eq_getElem hi]; simp
  · rw [List.getElem?_eq_none (by rw [addP_len]; omega), List.getElem?_eq_none (by omega)]
theorem addP_step {ps : List Pp} (h : Tree ps) {node : Nat} (h1 : 1 ≤ node) (d : Int) {fl : List Int} (_h2 : node ≤ fl.length) :
    addP ps (pAt ps (node - 1)).fr.toNat d (fl.set (node - 1) (fl.getD (node - 1) 0 + d)) = addP ps node d fl := by
  refine List.ext_getElem? fun i => ?_
  by_cases hi : i < fl.length
  · rw [addP_get (by simpa using hi), addP_get hi, onP_step h h1, List.getD_eq_getElem?_getD, List.getElem?_set]
    by_cases c : node - 1 = i
    · have : onP ps (pAt ps (node - 1)).fr.toNat i = false := by
        cases hb : onP ps (pAt ps (node - 1)).fr.toNat i
        · rfl
        · have := onP_lt h hb
          have := h.fr h1
          omega
      rw [this, if_pos c, decide_eq_true c, c, if_pos hi]; simp
    · rw [if_neg c, decide_eq_false c, ← List.getD_eq_getElem?_getD]; simp
  · rw [List.getElem?_eq_none (by rw [addP_len]; simp; omega), List.getElem?_eq_none (by rw [addP_len]; omega)]
theorem flowsL_snoc (ps : List Pp) (hs : List Hh) (h : Hh) : flowsL ps (hs ++ [h]) = addP ps h.node.toNat h.need (flowsL ps hs) := by
  refine List.ext_getElem? fun i => ?_
  by_cases hi : i < ps.length
  · rw [flowsL_get hi, addP_get (by rw [flowsL_len]; exact hi), flowAt_snoc, List.getD_eq_getElem?_getD, flowsL_get hi]; rfl
  · rw [List.getElem?_eq_none (by rw [flowsL_len]; omega), List.getElem?_eq_none (by rw [addP_len, flowsL_len]; omega)]
/-! ### pressures -/
def giveM (b : Bool) (m : Pm) : Int := if b then m.hi else m.lo
def takeP (b : Bool) (p : Pp) : Int := if b then p.lo else p.hi
def tankV (b : Bool) (n : Nt) : Int := if b then n.tHi else n.tLo
/-- Divided, and rounded up. -/
def upDiv (a k : Int) : Int := (a + k - 1).tdiv k
def lossV (b : Bool) (ps : List Pp) (fl : List Int) (i : Nat) : Int := upDiv (takeP b (pAt ps i) * fl.getD i 0 * fl.getD i 0) 1000
def shareV (n : Nt) (flow : Int) (o : List Int) : Int := upDiv flow ((n.pm.length : Int) - o.length)
def pumpV (b : Bool) (sh : Int) (m : Pm) : Int := giveM b m - m.sl * sh
def minF (m : Int) (l : List Int) : Int := l.foldl min m
/-- The pumps that work, of the first k. -/
def works (o : List Int) (pm : List Pm) (k : Nat) : List Pm := ((pm.zipIdx.take k).filter fun p => !o.contains (p.2 : Int)).map (·.1)
def pumpsV (b : Bool) (n : Nt) (flow : Int) (o : List Int) : Int := minF 200000 ((works o n.pm n.pm.length).map (pumpV b (shareV n flow o)))
def nodeV (b : Bool) (n : Nt) (hs : List Hh) (o : List Int) (node : Nat) : Int := pumpsV b n (needS hs) o - wayS n.ps (lossV b n.ps (flowsL n.ps hs)) node
def pressV (b : Bool) (n : Nt) (hs : List Hh) (o : List Int) (h : Hh) : Int := nodeV b n hs o h.node.toNat
/-- Who lacks water: a head, or the tank. -/
def lackV (b : Bool) (n : Nt) (hs : List Hh) (o : List Int) : Option Int := match hs.find? fun h => decide (pressV b n hs o h < h.least) with
  | some h => some h.id
  | none => if tankV b n < needS hs * n.mins then some (-1) else none
/-- Lists of so many more, from one on. -/
def combos (to : Nat) : Nat → Nat → List Int → List (List Int)
  | 0, _, o => [o]
  | c + 1, fr, o => (List.range' fr (to - fr)).flatMap fun i => combos to c (i + 1) (o ++ [(i : Int)])
def outsV (to out : Nat) : List (List Int) := (List.range (out + 1)).flatMap fun c => combos to c 0 []
structure Lk where
  known : Int
  head : Int
  out : List Int
def getsV (n : Nt) (hs : List Hh) : Lk := match (outsV n.pm.length n.out.toNat).find? fun o => (lackV false n hs o).isSome with
  | none => ⟨2, 0, []⟩
  | some o => ⟨if (outsV n.pm.length n.out.toNat).any fun o => (lackV true n hs o).isNone then 1 else 0, (lackV false n hs o).getD 0, o⟩
def flowsI (n : Nt) (l : List Int) : List Int × Int := if netB n then (if openB n l then (flowsL n.ps (opened n l), 0) else ([], 2)) else ([], 50)
def pressI (n : Nt) (l o : List Int) : List Sn × Int := if netB n then (if openB n l then (if outB n o then ((opened n l).map fun h => (pressV false n (opened n l) o h, pressV true n (opened n l) o h), 0) else ([], 2)) else ([], 2)) else ([], 50)
def getsI (n : Nt) (l : List Int) : Lk × Int := if netB n then (if openB n l then (getsV n (opened n l), 0) else (⟨0, 0, []⟩, 2)) else (⟨0, 0, []⟩, 50)
end Go.Proofs.YtcbdggmojnnbdaaDoor
/-
  BULBS, AND WATER THAT IS CONSERVED: plain facts.
-/
namespace Go.Proofs.YtcbdggmojnnbdaaDoor
open Go Go.Am
theorem burst_some {l : List Int} {d late : Int} (_h0 : 0 ≤ late) (hb : 0 < burstV l d late) : ∃ i : Nat, i < l.length ∧ (∃ x, l[i]? = some x ∧ d ≤ x) ∧ (∀ j x, j < i → l[j]? = some x → x < d) ∧ burstV l d late = (i : Int) + 1 + late ∧ (i : Int) + 1 + late ≤ l.length := by
  unfold burstV at hb ⊢
  cases hf : l.findIdx? fun x => decide (d ≤ x) with
  | none => rw [hf] at hb; simp at hb
  | some i =>
    rw [hf] at hb
    simp only at hb ⊢
    obtain ⟨hi, hx, hlt⟩ := List.findIdx?_eq_some_iff_getElem.1 hf
    by_cases c : (i : Int) + 1 + late > l.length
    · rw [if_pos c] at hb; omega
    · rw [if_neg c]
      refine ⟨i, hi, ⟨_, List.getElem?_eq_getElem hi, by simpa using hx⟩, fun j x hj hx' => ?_, rfl, by omega⟩
      have := hlt j hj
      rw [List.getElem?_eq_getElem (by omega)] at hx'
      cases hx'
      simpa using this
theorem burst_rng (l : List Int) (d late : Int) (h0 : 0 ≤ late) : 0 ≤ burstV l d late ∧ burstV l d late ≤ l.length := by
  by_cases h : 0 < burstV l d late
  · obtain ⟨i, _, _, _, e, h1⟩ := burst_some h0 h
    omega
  · unfold burstV at h ⊢
    split at h
    · simp
    · split at h <;> omega
theorem burst_mono {l k : List Int} {d e late soon : Int} (hl : l.length = k.length) (h0 : 0 ≤ soon) (h1 : soon ≤ late) (hd : ∀ (i : Nat) x y, l[i]? = some x → k[i]? = some y → d ≤ x → e ≤ y) (hb : 0 < burstV l d late) :
    0 < burstV k e soon ∧ burstV k e soon ≤ burstV l d late := by
  obtain ⟨i, hi, ⟨x, hx, hdx⟩, _, ev, hle⟩ := burst_some (by omega) hb
  have hy : k[i]? = some k[i] := List.getElem?_eq_getElem (by omega)
  have hey := hd i x _ hx hy hdx
  rw [ev]
  unfold burstV
  cases hf : k.findIdx? fun x => decide (e ≤ x) with
  | none =>
    have := List.findIdx?_eq_none_iff.1 hf _ (List.mem_of_getElem? hy)
    simp at this; omega
  | some j =>
    obtain ⟨hj, hx', hlt⟩ := List.findIdx?_eq_some_iff_getElem.1 hf
    have hji : j ≤ i := by
      rcases Nat.lt_or_ge i j with h | h
      · have := hlt i h
        simp at this; omega
      · exact h
    simp only
    rw [if_neg (by omega)]
    omega
/-! ### water -/
def hitI (b : Bool) : Int := if b then 1 else 0
theorem way_node {ps : List Pp} (h : Tree ps) (k : Nat) : ∀ m : Nat, m ≤ ps.length → wayS ps (fun i => hitI (decide ((pAt ps i).fr.toNat = k))) m + hitI (decide (m = k)) = if k = 0 then 1 else hitI (onP ps m (k - 1)) := by
  intro m
  induction m using Nat.strongRecOn with
  | _ m ih =>
    intro hm
    cases m with
    | zero =>
      rw [wayS_zero]
      by_cases hk : k = 0
      · subst hk; rfl
      · rw [if_neg hk, onP_zero, decide_eq_false (Ne.symm hk)]; rfl
    | succ m =>
      have hf := h.fr (node := m + 1) (by omega)
      have i1 := ih _ (show (pAt ps (m + 1 - 1)).fr.toNat < m + 1 by omega) (by omega)
      rw [wayS_step h _ (by omega) hm]
      by_cases hk : k = 0
      · subst hk
        rw [if_pos rfl] at i1 ⊢
        have : hitI (decide (m + 1 = 0)) = 0 := rfl
        omega
      · rw [if_neg hk] at i1 ⊢
        rw [onP_step h (show 1 ≤ m + 1 by omega)]
        by_cases hc : m + 1 = k
        · have hn : onP ps (pAt ps (m + 1 - 1)).fr.toNat (k - 1) = false := by
            cases hb : onP ps (pAt ps (m + 1 - 1)).fr.toNat (k - 1)
            · rfl
            · have := onP_lt h hb; omega
          rw [hn] at i1 ⊢
          rw [decide_eq_true hc, decide_eq_true (show m + 1 - 1 = k - 1 by omega)]
          simp only [hitI, Bool.true_or, if_true] at i1 ⊢
          simp at i1 ⊢
          omega
        · rw [decide_eq_false hc, decide_eq_false (show ¬ m + 1 - 1 = k - 1 by omega)]
          simp only [Bool.false_or]
          have : hitI false = 0 := rfl
          omega
def needF (hs : List Hh) (c : Hh → Bool) : Int := needS (hs.filter c)
theorem needF_cons (h : Hh) (hs : List Hh) (c : Hh → Bool) : needF (h :: hs) c = h.need * hitI (c h) + needF hs c := by
  unfold needF hitI
  cases hc : c h <;> simp [hc, needS]
theorem sumI_mul (a : Int) (f : Nat → Int) : ∀ n : Nat, sumI (fun i => a * f i) n = a * sumI f n
  | 0 => by simp [sumI]
  | n + 1 => by rw [sumI, sumI, sumI_mul a f n, Int.mul_add]
theorem sumI_swap (ps : List Pp) (c : Nat → Bool) (n : Nat) : ∀ hs : List Hh, sumI (fun i => if c i then flowAt ps hs i else 0) n = (hs.map fun h => h.need * sumI (fun i => if onP ps h.node.toNat i then hitI (c i) else 0) n).sum
  | [] => by rw [sumI_zero (fun i _ => by rw [flowAt_nil]; simp)]; rfl
  | h :: hs => by
    rw [List.map_cons, List.sum_cons, ← sumI_swap ps c n hs, ← sumI_mul, ← sumI_add]
    refine sumI_congr fun i _ => ?_
    have e := needF_cons h hs (fun h => onP ps h.node.toNat i)
    have e1 : flowAt ps (h :: hs) i = needF (h :: hs) (fun h => onP ps h.node.toNat i) := rfl
    have e2 : flowAt ps hs i = needF hs (fun h => onP ps h.node.toNat i) := rfl
    rw [e1, e2, e]
    cases c i <;> cases onP ps h.node.toNat i <;> simp [hitI]
theorem water_ok {ps : List Pp} (h : Tree ps) (k : Nat) : ∀ (hs : List Hh), (∀ x ∈ hs, x.node.toNat ≤ ps.length) → sumI (fun i => if decide ((pAt ps i).fr.toNat = k) then flowAt ps hs i else 0) ps.length + needF hs (fun x => decide (x.node.toNat = k)) = if k = 0 then needS hs else flowAt ps hs (k - 1)
  | [], _ => by
    rw [sumI_zero (fun i _ => by rw [flowAt_nil]; simp)]
    by_cases hk : k = 0 <;> simp [hk, needF, needS, flowAt_nil]
  | x :: hs, hn => by
    have ih := water_ok h k hs fun y hy => hn y (by simp [hy])
    have w := way_node h k x.node.toNat (hn x (by simp))
    rw [sumI_swap] at ih ⊢
    rw [List.map_cons, List.sum_cons, needF_cons]
    have e : wayS ps (fun i => hitI (decide ((pAt ps i).fr.toNat = k))) x.node.toNat = sumI (fun i => if onP ps x.node.toNat i then hitI (decide ((pAt ps i).fr.toNat = k)) else 0) ps.length := rfl
    rw [← e]
    have e2 : flowAt ps (x :: hs) (k - 1) = x.need * hitI (onP ps x.node.toNat (k - 1)) + flowAt ps hs (k - 1) := needF_cons x hs _
    generalize wayS ps (fun i => hitI (decide ((pAt ps i).fr.toNat = k))) x.node.toNat = W at *
    have e3 : x.need * W + x.need * hitI (decide (x.node.toNat = k)) = x.need * (if k = 0 then 1 else hitI (onP ps x.node.toNat (k - 1))) := by rw [← Int.mul_add, w]
    by_cases hk : k = 0
    · rw [if_pos hk] at ih e3 ⊢
      simp only [needS]
      omega
    · rw [if_neg hk] at ih e3 ⊢
      rw [e2]
      omega
end Go.Proofs.YtcbdggmojnnbdaaDoor
