/-
  BULBS, AND WATER THAT IS CONSERVED: plain facts.
-/
import Derived.Test.YtcbdggmojnnbdaaDoorSp2
namespace Go.Proofs.YtcbdggmojnnbdaaDoor
open Go Go.Am
theorem burst_some {l : List Int} {d late : Int} (_h0 : 0 ≤ late) (hb : 0 < burstV l d late) : ∃ i : Nat, i < l.length ∧ (∃ x, l[i]? = some x ∧ d ≤ x) ∧ (∀ j x, j < i → l[j]? = some x → x < d) ∧ burstV l d late = (i : Int) + 1 + late ∧ (i : Int) + 1 + late ≤ l.length := by
  unfold burstV at hb ⊢
  cases hf : l.findIdx? fun x => decide (d ≤ x) with
  | none => rw [hf] at hb; simp at hb
  | some i =>
    rw [hf] at hb
    simp only at hb ⊢
    obtain ⟨hi, hx, hlt⟩ := List.findIdx?_eq_some_iff_getElem.1 hf
    by_cases c : (i : Int) + 1 + late > l.length
    · rw [if_pos c] at hb; omega
    · rw [if_neg c]
      refine ⟨i, hi, ⟨_, List.getElem?_eq_getElem hi, by simpa using hx⟩, fun j x hj hx' => ?_, rfl, by omega⟩
      have := hlt j hj
      rw [List.getElem?_eq_getElem (by omega)] at hx'
      cases hx'
      simpa using this
theorem burst_rng (l : List Int) (d late : Int) (h0 : 0 ≤ late) : 0 ≤ burstV l d late ∧ burstV l d late ≤ l.length := by
  by_cases h : 0 < burstV l d late
  · obtain ⟨i, _, _, _, e, h1⟩ := burst_some h0 h
    omega
  · unfold burstV at h ⊢
    split at h
    · simp
    · split at h <;> omega
theorem burst_mono {l k : List Int} {d e late soon : Int} (hl : l.length = k.length) (h0 : 0 ≤ soon) (h1 : soon ≤ late) (hd : ∀ (i : Nat) x y, l[i]? = some x → k[i]? = some y → d ≤ x → e ≤ y) (hb : 0 < burstV l d late) :
    0 < burstV k e soon ∧ burstV k e soon ≤ burstV l d late := by
  obtain ⟨i, hi, ⟨x, hx, hdx⟩, _, ev, hle⟩ := burst_some (by omega) hb
  have hy : k[i]? = some k[i] := List.getElem?_eq_getElem (by omega)
  have hey := hd i x _ hx hy hdx
  rw [ev]
  unfold burstV
  cases hf : k.findIdx? fun x => decide (e ≤ x) with
  | none =>
    have := List.findIdx?_eq_none_iff.1 hf _ (List.mem_of_getElem? hy)
    simp at this; omega
  | some j =>
    obtain ⟨hj, hx', hlt⟩ := List.findIdx?_eq_some_iff_getElem.1 hf
    have hji : j ≤ i := by
      rcases Nat.lt_or_ge i j with h | h
      · have := hlt i h
        simp at this; omega
      · exact h
    simp only
    rw [if_neg (by omega)]
    omega
/-! ### water -/
def hitI (b : Bool) : Int := if b then 1 else 0
theorem way_node {ps : List Pp} (h : Tree ps) (k : Nat) : ∀ m : Nat, m ≤ ps.length → wayS ps (fun i => hitI (decide ((pAt ps i).fr.toNat = k))) m + hitI (decide (m = k)) = if k = 0 then 1 else hitI (onP ps m (k - 1)) := by
  intro m
  induction m using Nat.strongRecOn with
  | _ m ih =>
    intro hm
    cases m with
    | zero =>
      rw [wayS_zero]
      by_cases hk : k = 0
      · subst hk; rfl
      · rw [if_neg hk, onP_zero, decide_eq_false (Ne.symm hk)]; rfl
    | succ m =>
      have hf := h.fr (node := m + 1) (by omega)
      have i1 := ih _ (show (pAt ps (m + 1 - 1)).fr.toNat < m + 1 by omega) (by omega)
      rw [wayS_step h _ (by omega) hm]
      by_cases hk : k = 0
      · subst hk
        rw [if_pos rfl] at i1 ⊢
        have : hitI (decide (m + 1 = 0)) = 0 := rfl
        omega
      · rw [if_neg hk] at i1 ⊢
        rw [onP_step h (show 1 ≤ m + 1 by omega)]
        by_cases hc : m + 1 = k
        · have hn : onP ps (pAt ps (m + 1 - 1)).fr.toNat (k - 1) = false := by
            cases hb : onP ps (pAt ps (m + 1 - 1)).fr.toNat (k - 1)
            · rfl
            · have := onP_lt h hb; omega
          rw [hn] at i1 ⊢
          rw [decide_eq_true hc, decide_eq_true (show m + 1 - 1 = k - 1 by omega)]
          simp only [hitI, Bool.true_or, if_true] at i1 ⊢
          simp at i1 ⊢
          omega
        · rw [decide_eq_false hc, decide_eq_false (show ¬ m + 1 - 1 = k - 1 by omega)]
          simp only [Bool.false_or]
          have : hitI false = 0 := rfl
          omega
def needF (hs : List Hh) (c : Hh → Bool) : Int := needS (hs.filter c)
theorem needF_cons (h : Hh) (hs : List Hh) (c : Hh → Bool) : needF (h :: hs) c = h.need * hitI (c h) + needF hs c := by
  unfold needF hitI
  cases hc : c h <;> simp [hc, needS]
theorem sumI_mul (a : Int) (f : Nat → Int) : ∀ n : Nat, sumI (fun i => a * f i) n = a * sumI f n
  | 0 => by simp [sumI]
  | n + 1 => by rw [sumI, sumI, sumI_mul a f n, Int.mul_add]
theorem sumI_swap (ps : List Pp) (c : Nat → Bool) (n : Nat) : ∀ hs : List Hh, sumI (fun i => if c i then flowAt ps hs i else 0) n = (hs.map fun h => h.need * sumI (fun i => if onP ps h.node.toNat i then hitI (c i) else 0) n).sum
  | [] => by rw [sumI_zero (fun i _ => by rw [flowAt_nil]; simp)]; rfl
  | h :: hs => by
    rw [List.map_cons, List.sum_cons, ← sumI_swap ps c n hs, ← sumI_mul, ← sumI_add]
    refine sumI_congr fun i _ => ?_
    have e := needF_cons h hs (fun h => onP ps h.node.toNat i)
    have e1 : flowAt ps (h :: hs) i = needF (h :: hs) (fun h => onP ps h.node.toNat i) := rfl
    have e2 : flowAt ps hs i = needF hs (fun h => onP ps h.node.toNat i) := rfl
    rw [e1, e2, e]
    cases c i <;> cases onP ps h.node.toNat i <;> simp [hitI]
theorem water_ok {ps : List Pp} (h : Tree ps) (k : Nat) : ∀ (hs : List Hh), (∀ x ∈ hs, x.node.toNat ≤ ps.length) → sumI (fun i => if decide ((pAt ps i).fr.toNat = k) then flowAt ps hs i else 0) ps.length + needF hs (fun x => decide (x.node.toNat = k)) = if k = 0 then needS hs else flowAt ps hs (k - 1)
  | [], _ => by
    rw [sumI_zero (fun i _ => by rw [flowAt_nil]; simp)]
    by_cases hk : k = 0 <;> simp [hk, needF, needS, flowAt_nil]
  | x :: hs, hn => by
    have ih := water_ok h k hs fun y hy => hn y (by simp [hy])
    have w := way_node h k x.node.toNat (hn x (by simp))
    rw [sumI_swap] at ih ⊢
    rw [List.map_cons, List.sum_cons, needF_cons]
    have e : wayS ps (fun i => hitI (decide ((pAt ps i).fr.toNat = k))) x.node.toNat = sumI (fun i => if onP ps x.node.toNat i then hitI (decide ((pAt ps i).fr.toNat = k)) else 0) ps.length := rfl
    rw [← e]
    have e2 : flowAt ps (x :: hs) (k - 1) = x.need * hitI (onP ps x.node.toNat (k - 1)) + flowAt ps hs (k - 1) := needF_cons x hs _
    generalize wayS ps (fun i => hitI (decide ((pAt ps i).fr.toNat = k))) x.node.toNat = W at *
    have e3 : x.need * W + x.need * hitI (decide (x.node.toNat = k)) = x.need * (if k = 0 then 1 else hitI (onP ps x.node.toNat (k - 1))) := by rw [← Int.mul_add, w]
    by_cases hk : k = 0
    · rw [if_pos hk] at ih e3 ⊢
      simp only [needS]
      omega
    · rw [if_neg hk] at ih e3 ⊢
      rw [e2]
      omega
end Go.Proofs.YtcbdggmojnnbdaaDoor
