/-
  FLOWS AND PRESSURES: plain specifications.
-/
import Derived.Test.YtcbdggmojnnbdaaDoorSp1
namespace Go.Proofs.YtcbdggmojnnbdaaDoor
open Go Go.Am
def pAt (ps : List Pp) (i : Nat) : Pp := ps.getD i default
/-- The pipe i is on the way from the pumps to a node. -/
def onF (ps : List Pp) : Nat → Nat → Nat → Bool
  | 0, _, _ => false
  | f + 1, node, i => decide (node ≠ 0) && (decide (node - 1 = i) || onF ps f (pAt ps (node - 1)).fr.toNat i)
def onP (ps : List Pp) (node i : Nat) : Bool := onF ps node node i
/-- All pipes lead on. -/
def Tree (ps : List Pp) : Prop := ∀ i p, ps[i]? = some p → PipeOk i p
theorem Tree.fr {ps : List Pp} (h : Tree ps) {node : Nat} (_h1 : 1 ≤ node) : (pAt ps (node - 1)).fr.toNat ≤ node - 1 := by
  unfold pAt
  rw [List.getD_eq_getElem?_getD]
  cases hp : ps[node - 1]? with
  | none => exact Nat.zero_le _
  | some p => have := (h _ p hp).fr; simp only [Option.getD_some]; omega
theorem Tree.frI {ps : List Pp} (h : Tree ps) {i : Nat} {p : Pp} (hp : ps[i]? = some p) : p.fr = ((pAt ps i).fr.toNat : Int) ∧ (pAt ps i) = p := by
  have e : pAt ps i = p := by unfold pAt; rw [List.getD_eq_getElem?_getD, hp]; rfl
  rw [e]
  have := (h _ p hp).fr
  exact ⟨by omega, rfl⟩
theorem onF_lt {ps : List Pp} (h : Tree ps) : ∀ (f node i : Nat), onF ps f node i = true → i < node := by
  intro f
  induction f with
  | zero => intro node i hi; cases hi
  | succ f ih =>
    intro node i hi
    simp only [onF, Bool.and_eq_true, Bool.or_eq_true, decide_eq_true_eq] at hi
    rcases hi.2 with e | e
    · omega
    · have := ih _ _ e
      have := h.fr (node := node) (by omega)
      omega
theorem onF_fuel {ps : List Pp} (h : Tree ps) : ∀ (f node i : Nat), node ≤ f → onF ps f node i = onF ps node node i := by
  intro f
  induction f using Nat.strongRecOn with
  | _ f ih =>
    intro node i hn
    cases node with
    | zero => cases f <;> simp [onF]
    | succ node =>
      cases f with
      | zero => omega
      | succ f =>
        have hf := h.fr (node := node + 1) (by omega)
        simp only [onF]
        rw [ih f (by omega) _ _ (by omega), ← ih node (by omega) _ _ (by omega)]
theorem onP_zero (ps : List Pp) (i : Nat) : onP ps 0 i = false := rfl
theorem onP_lt {ps : List Pp} (h : Tree ps) {node i : Nat} (hi : onP ps node i = true) : i < node := onF_lt h _ _ _ hi
theorem onP_step {ps : List Pp} (h : Tree ps) {node : Nat} (h1 : 1 ≤ node) (i : Nat) : onP ps node i = (decide (node - 1 = i) || onP ps (pAt ps (node - 1)).fr.toNat i) := by
  obtain ⟨k, rfl⟩ : ∃ k, node = k + 1 := ⟨node - 1, by omega⟩
  have hf := h.fr h1
  unfold onP
  show (decide (k + 1 ≠ 0) && (decide (k + 1 - 1 = i) || onF ps k _ i)) = _
  rw [onF_fuel h k _ i (by omega)]
  simp
/-! ### sums over indices -/
def sumI (f : Nat → Int) : Nat → Int
  | 0 => 0
  | n + 1 => sumI f n + f n
theorem sumI_congr {f g : Nat → Int} : ∀ {n : Nat}, (∀ i, i < n → f i = g i) → sumI f n = sumI g n
  | 0, _ => rfl
  | n + 1, h => by rw [sumI, sumI, sumI_congr fun i hi => h i (by omega), h n (by omega)]
theorem sumI_zero {f : Nat → Int} : ∀ {n : Nat}, (∀ i, i < n → f i = 0) → sumI f n = 0
  | 0, _ => rfl
  | n + 1, h => by rw [sumI, sumI_zero fun i hi => h i (by omega), h n (by omega)]; rfl
theorem sumI_add (f g : Nat → Int) : ∀ n : Nat, sumI (fun i => f i + g i) n = sumI f n + sumI g n
  | 0 => rfl
  | n + 1 => by rw [sumI, sumI, sumI, sumI_add f g n]; omega
theorem sumI_rng {f : Nat → Int} {B : Int} : ∀ {n : Nat}, (∀ i, i < n → 0 ≤ f i ∧ f i ≤ B) → 0 ≤ sumI f n ∧ sumI f n ≤ n * B
  | 0, _ => by simp [sumI]
  | n + 1, h => by
    have h1 := sumI_rng (f := f) (B := B) (n := n) fun i hi => h i (by omega)
    have h2 := h n (by omega)
    have e : ((n + 1 : Nat) : Int) * B = n * B + B := by rw [Int.natCast_add, Int.add_mul]; simp
    simp only [sumI, e]
    omega
theorem sumI_le {f g : Nat → Int} : ∀ {n : Nat}, (∀ i, i < n → f i ≤ g i) → sumI f n ≤ sumI g n
  | 0, _ => Int.le_refl _
  | n + 1, h => Int.add_le_add (sumI_le fun i hi => h i (by omega)) (h n (by omega))
theorem sumI_one (f : Nat → Int) (a : Nat) : ∀ n : Nat, sumI (fun i => if a = i then f i else 0) n = if a < n then f a else 0
  | 0 => by simp [sumI]
  | n + 1 => by
    rw [sumI, sumI_one f a n]
    by_cases h : a = n
    · subst h; simp
    · rw [if_neg h]
      by_cases h2 : a < n
      · rw [if_pos h2, if_pos (by omega)]; omega
      · rw [if_neg h2, if_neg (by omega)]; rfl
/-- The sum over a way. -/
def wayS (ps : List Pp) (f : Nat → Int) (node : Nat) : Int := sumI (fun i => if onP ps node i then f i else 0) ps.length
theorem wayS_zero (ps : List Pp) (f : Nat → Int) : wayS ps f 0 = 0 := sumI_zero fun i _ => by rw [onP_zero]; rfl
theorem wayS_step {ps : List Pp} (h : Tree ps) (f : Nat → Int) {node : Nat} (h1 : 1 ≤ node) (h2 : node ≤ ps.length) : wayS ps f node = f (node - 1) + wayS ps f (pAt ps (node - 1)).fr.toNat := by
  unfold wayS
  have e := sumI_one f (node - 1) ps.length
  rw [if_pos (by omega)] at e
  rw [← e, ← sumI_add]
  refine sumI_congr fun i _ => ?_
  rw [onP_step h h1]
  by_cases c : node - 1 = i
  · have : onP ps (pAt ps (node - 1)).fr.toNat i = false := by
      cases hb : onP ps (pAt ps (node - 1)).fr.toNat i
      · rfl
      · have := onP_lt h hb
        have := h.fr h1
        omega
    rw [this, decide_eq_true c, if_pos c]; simp
  · rw [decide_eq_false c, if_neg c]; simp
/-! ### flows -/
def opened (n : Nt) (l : List Int) : List Hh := n.hs.filter fun h => l.contains h.id
def needS : List Hh → Int
  | [] => 0
  | h :: l => h.need + needS l
theorem needS_app (a b : List Hh) : needS (a ++ b) = needS a + needS b := by
  induction a with
  | nil => simp [needS]
  | cons x a ih => simp only [List.cons_append, needS, ih]; omega
theorem needS_rng {l : List Hh} (h : ∀ x ∈ l, 1 ≤ x.need ∧ x.need ≤ 500) : 0 ≤ needS l ∧ needS l ≤ 500 * l.length := by
  induction l with
  | nil => simp [needS]
  | cons x l ih =>
    have := ih fun y hy => h y (by simp [hy])
    have := h x (by simp)
    simp only [needS, List.length_cons]
    omega
/-- The flow of the pipe i. -/
def flowAt (ps : List Pp) (hs : List Hh) (i : Nat) : Int := needS (hs.filter fun h => onP ps h.node.toNat i)
def flowsL (ps : List Pp) (hs : List Hh) : List Int := (List.range ps.length).map (flowAt ps hs)
theorem flowAt_nil (ps : List Pp) (i : Nat) : flowAt ps [] i = 0 := rfl
theorem flowAt_snoc (ps : List Pp) (hs : List Hh) (h : Hh) (i : Nat) : flowAt ps (hs ++ [h]) i = flowAt ps hs i + if onP ps h.node.toNat i then h.need else 0 := by
  unfold flowAt
  rw [List.filter_append, needS_app]
  congr 1
  cases hb : onP ps h.node.toNat i <;> simp [hb, needS]
theorem flowAt_rng {ps : List Pp} {hs : List Hh} (h : ∀ x ∈ hs, 1 ≤ x.need ∧ x.need ≤ 500) (i : Nat) : 0 ≤ flowAt ps hs i ∧ flowAt ps hs i ≤ needS hs := by
  unfold flowAt
  induction hs with
  | nil => simp [needS]
  | cons x l ih =>
    have := ih fun y hy => h y (by simp [hy])
    have := h x (by simp)
    simp only [List.filter_cons]
    split <;> simp only [needS] <;> omega
theorem flowsL_len (ps : List Pp) (hs : List Hh) : (flowsL ps hs).length = ps.length := by simp [flowsL]
theorem flowsL_get {ps : List Pp} {hs : List Hh} {i : Nat} (hi : i < ps.length) : (flowsL ps hs)[i]? = some (flowAt ps hs i) := by
  simp [flowsL, hi]
theorem flowsL_nil (ps : List Pp) : flowsL ps [] = List.replicate ps.length 0 := by
  refine List.ext_getElem? fun i => ?_
  by_cases hi : i < ps.length
  · rw [flowsL_get hi, List.getElem?_replicate, if_pos hi]; rfl
  · rw [List.getElem?_eq_none (by rw [flowsL_len]; omega), List.getElem?_replicate, if_neg hi]
/-- What flows by a way, added. -/
def addP (ps : List Pp) (node : Nat) (d : Int) (fl : List Int) : List Int := (List.range fl.length).map fun i => fl.getD i 0 + if onP ps node i then d else 0
theorem addP_len (ps : List Pp) (node : Nat) (d : Int) (fl : List Int) : (addP ps node d fl).length = fl.length := by simp [addP]
theorem addP_get {ps : List Pp} {node : Nat} {d : Int} {fl : List Int} {i : Nat} (hi : i < fl.length) : (addP ps node d fl)[i]? = some (fl.getD i 0 + if onP ps node i then d else 0) := by
  simp [addP, hi]
theorem addP_zero (ps : List Pp) (d : Int) (fl : List Int) : addP ps 0 d fl = fl := by
  refine List.ext_getElem? fun i => ?_
  by_cases hi : i < fl.length
  · rw [addP_get hi, onP_zero, List.getD_eq_getElem?_getD, List.getElem?_eq_getElem hi]; simp
  · rw [List.getElem?_eq_none (by rw [addP_len]; omega), List.getElem?_eq_none (by omega)]
theorem addP_step {ps : List Pp} (h : Tree ps) {node : Nat} (h1 : 1 ≤ node) (d : Int) {fl : List Int} (_h2 : node ≤ fl.length) :
    addP ps (pAt ps (node - 1)).fr.toNat d (fl.set (node - 1) (fl.getD (node - 1) 0 + d)) = addP ps node d fl := by
  refine List.ext_getElem? fun i => ?_
  by_cases hi : i < fl.length
  · rw [addP_get (by simpa using hi), addP_get hi, onP_step h h1, List.getD_eq_getElem?_getD, List.getElem?_set]
    by_cases c : node - 1 = i
    · have : onP ps (pAt ps (node - 1)).fr.toNat i = false := by
        cases hb : onP ps (pAt ps (node - 1)).fr.toNat i
        · rfl
        · have := onP_lt h hb
          have := h.fr h1
          omega
      rw [this, if_pos c, decide_eq_true c, c, if_pos hi]; simp
    · rw [if_neg c, decide_eq_false c, ← List.getD_eq_getElem?_getD]; simp
  · rw [List.getElem?_eq_none (by rw [addP_len]; simp; omega), List.getElem?_eq_none (by rw [addP_len]; omega)]
theorem flowsL_snoc (ps : List Pp) (hs : List Hh) (h : Hh) : flowsL ps (hs ++ [h]) = addP ps h.node.toNat h.need (flowsL ps hs) := by
  refine List.ext_getElem? fun i => ?_
  by_cases hi : i < ps.length
  · rw [flowsL_get hi, addP_get (by rw [flowsL_len]; exact hi), flowAt_snoc, List.getD_eq_getElem?_getD, flowsL_get hi]; rfl
  · rw [List.getElem?_eq_none (by rw [flowsL_len]; omega), List.getElem?_eq_none (by rw [addP_len, flowsL_len]; omega)]
/-! ### pressures -/
def giveM (b : Bool) (m : Pm) : Int := if b then m.hi else m.lo
def takeP (b : Bool) (p : Pp) : Int := if b then p.lo else p.hi
def tankV (b : Bool) (n : Nt) : Int := if b then n.tHi else n.tLo
/-- Divided, and rounded up. -/
def upDiv (a k : Int) : Int := (a + k - 1).tdiv k
def lossV (b : Bool) (ps : List Pp) (fl : List Int) (i : Nat) : Int := upDiv (takeP b (pAt ps i) * fl.getD i 0 * fl.getD i 0) 1000
def shareV (n : Nt) (flow : Int) (o : List Int) : Int := upDiv flow ((n.pm.length : Int) - o.length)
def pumpV (b : Bool) (sh : Int) (m : Pm) : Int := giveM b m - m.sl * sh
def minF (m : Int) (l : List Int) : Int := l.foldl min m
/-- The pumps that work, of the first k. -/
def works (o : List Int) (pm : List Pm) (k : Nat) : List Pm := ((pm.zipIdx.take k).filter fun p => !o.contains (p.2 : Int)).map (·.1)
def pumpsV (b : Bool) (n : Nt) (flow : Int) (o : List Int) : Int := minF 200000 ((works o n.pm n.pm.length).map (pumpV b (shareV n flow o)))
def nodeV (b : Bool) (n : Nt) (hs : List Hh) (o : List Int) (node : Nat) : Int := pumpsV b n (needS hs) o - wayS n.ps (lossV b n.ps (flowsL n.ps hs)) node
def pressV (b : Bool) (n : Nt) (hs : List Hh) (o : List Int) (h : Hh) : Int := nodeV b n hs o h.node.toNat
/-- Who lacks water: a head, or the tank. -/
def lackV (b : Bool) (n : Nt) (hs : List Hh) (o : List Int) : Option Int := match hs.find? fun h => decide (pressV b n hs o h < h.least) with
  | some h => some h.id
  | none => if tankV b n < needS hs * n.mins then some (-1) else none
/-- Lists of so many more, from one on. -/
def combos (to : Nat) : Nat → Nat → List Int → List (List Int)
  | 0, _, o => [o]
  | c + 1, fr, o => (List.range' fr (to - fr)).flatMap fun i => combos to c (i + 1) (o ++ [(i : Int)])
def outsV (to out : Nat) : List (List Int) := (List.range (out + 1)).flatMap fun c => combos to c 0 []
structure Lk where
  known : Int
  head : Int
  out : List Int
def getsV (n : Nt) (hs : List Hh) : Lk := match (outsV n.pm.length n.out.toNat).find? fun o => (lackV false n hs o).isSome with
  | none => ⟨2, 0, []⟩
  | some o => ⟨if (outsV n.pm.length n.out.toNat).any fun o => (lackV true n hs o).isNone then 1 else 0, (lackV false n hs o).getD 0, o⟩
def flowsI (n : Nt) (l : List Int) : List Int × Int := if netB n then (if openB n l then (flowsL n.ps (opened n l), 0) else ([], 2)) else ([], 50)
def pressI (n : Nt) (l o : List Int) : List Sn × Int := if netB n then (if openB n l then (if outB n o then ((opened n l).map fun h => (pressV false n (opened n l) o h, pressV true n (opened n l) o h), 0) else ([], 2)) else ([], 2)) else ([], 50)
def getsI (n : Nt) (l : List Int) : Lk × Int := if netB n then (if openB n l then (getsV n (opened n l), 0) else (⟨0, 0, []⟩, 2)) else (⟨0, 0, []⟩, 50)
end Go.Proofs.YtcbdggmojnnbdaaDoor
