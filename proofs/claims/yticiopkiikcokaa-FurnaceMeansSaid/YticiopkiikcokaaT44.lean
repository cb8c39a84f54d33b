import Derived.Test.YticiopkiikcokaaT43
import Derived.Test.YticiopkiikcokaaT41
import Derived.Test.YticiopkiikcokaaT35
import Derived.Test.YticiopkiikcokaaAl
namespace Go.Proofs.Yticiopkiikcokaa
open Go Go.Am
/-- What is so of a value is so of another one. -/
def AWk (a b : AV) : Prop := ∀ (κ : Nat → Option Nat) (av : Nat → Prop) (w : World) (v : Value), VRel κ av w a v → VRel κ av w b v
theorem AWk.rfl {a : AV} : AWk a a := fun _ _ _ _ h => h
theorem AWk.nil (esz : Nat) : AWk .nil (.lst esz []) := fun κ av w v h => by
  cases h
  exact .lst esz [] none 0 (fun _ _ => Go.undef) (fun _ => Eq.refl _) (Nat.le_refl _) (fun i x hx => by simp at hx) (fun i x hx => by simp at hx)
def AWkL : List AV → List AV → Prop
  | [], [] => True
  | a :: xs, b :: ys => AWk a b ∧ AWkL xs ys
  | _, _ => False
theorem AWkL.get : ∀ {xs ys : List AV}, AWkL xs ys → xs.length = ys.length ∧ ∀ (i : Nat) (b : AV), ys[i]? = some b → ∃ a, xs[i]? = some a ∧ AWk a b := by
  intro xs
  induction xs with
  | nil =>
    intro ys h
    cases ys with
    | nil => exact ⟨Eq.refl _, fun i b hb => by simp at hb⟩
    | cons b ys => exact h.elim
  | cons a xs ih =>
    intro ys h
    cases ys with
    | nil => exact h.elim
    | cons b ys =>
      obtain ⟨h1, h2⟩ := ih h.2
      refine ⟨by simp [h1], fun i x hx => ?_⟩
      cases i with
      | zero => simp at hx; subst hx; exact ⟨a, Eq.refl _, h.1⟩
      | succ i => exact h2 i x (by simpa using hx)
theorem AWk.agg {xs ys : List AV} (h : AWkL xs ys) : AWk (.agg xs) (.agg ys) := fun κ av w v hv => by
  obtain ⟨h1, h2⟩ := h.get
  cases hv with
  | agg _ vs u hl hu hv =>
    exact .agg ys vs u (by rw [hl, h1]) (fun i c hc => by obtain ⟨a, ha, _⟩ := h2 i c hc; exact hu i a ha) (fun i c hc => by obtain ⟨a, ha, hw⟩ := h2 i c hc; exact hw _ _ _ _ (hv i a ha))
theorem APure.weak {P : Program} {f : FuncId} {xs ys : List AV} {r : AV} (h : AWkL xs ys) (hp : APure P f ys r) : APure P f xs r := fun κ N w cargs hN hc => by
  obtain ⟨h1, h2⟩ := h.get
  exact hp κ N w cargs hN ⟨by rw [hc.1, h1], fun i b hb => by
    obtain ⟨a, ha, hw⟩ := h2 i b hb
    obtain ⟨u, hu, hur⟩ := hc.2 i a ha
    exact ⟨u, hu, hw _ _ _ _ hur⟩⟩
def U1 : Ru := ⟨[], 0, 1, 0, 0, 1⟩
theorem ready1 (r : Rn) : APure Try.prog 34 [encRn r, .agg [.nil, .int .i64 0, .int .i64 1, .int .i64 0, .int .i64 0, .int .i64 1]] (.bool (readyB r U1)) :=
  APure.weak (ys := [encRn r, encRu U1]) ⟨.rfl, .agg ⟨.nil 2, .rfl, .rfl, .rfl, .rfl, .rfl, trivial⟩, trivial⟩ (ready_spec r U1)
theorem ready1_out {r : Rn} (h : readyB r U1 = true) : runB r = true := by
  simp only [readyB, Bool.and_eq_true, beq_iff_eq] at h
  exact (checkI_ok h.2).1
def loK (r : Rn) (m : Int) (j : Nat) : Int := ((xsK r m j).map Sn.lo).sum
def hiK (r : Rn) (m : Int) (j : Nat) : Int := ((xsK r m j).map Sn.hi).sum
theorem K_yes {r : Rn} {m : Int} {j : Nat} (h : wkAt r m j = true) : loK r m (j + 1) = loK r m j + tLo r m j ∧ hiK r m (j + 1) = hiK r m j + tHi r m j ∧ (xsK r m (j + 1)).length = (xsK r m j).length + 1 := by
  unfold loK hiK
  rw [xsK_succ, if_pos h]
  simp [spanAt]
theorem K_no {r : Rn} {m : Int} {j : Nat} (h : wkAt r m j = false) : loK r m (j + 1) = loK r m j ∧ hiK r m (j + 1) = hiK r m j ∧ (xsK r m (j + 1)).length = (xsK r m j).length := by
  unfold loK hiK
  rw [xsK_succ, if_neg (by rw [h]; simp)]
  exact ⟨rfl, rfl, rfl⟩
theorem K_rng {r : Rn} (hr : RunOk r) {m : Int} (h1 : 1 ≤ m) (h2 : m ≤ r.rows.length) : ∀ j, j ≤ r.cps.length → (-50 * (j : Int) ≤ loK r m j ∧ loK r m j ≤ 2050 * (j : Int)) ∧ (-50 * (j : Int) ≤ hiK r m j ∧ hiK r m j ≤ 2050 * (j : Int)) := by
  intro j
  induction j with
  | zero => intro _; simp [loK, hiK, xsK]
  | succ j ih =>
    intro hj
    have h := ih (by omega)
    obtain ⟨c, hc⟩ := getE (show j < r.cps.length by omega)
    cases hw : wkAt r m j
    · have := K_no hw; omega
    · have hk := K_yes hw
      have ht := t_rng hr h1 h2 hc (by rw [← wkAt_some hc]; exact hw)
      omega
theorem div840 {n : Int} (h1 : 1 ≤ n) (h2 : n ≤ 8) : (840 : Int).tdiv n * n = 840 := by
  have : n = 1 ∨ n = 2 ∨ n = 3 ∨ n = 4 ∨ n = 5 ∨ n = 6 ∨ n = 7 ∨ n = 8 := by omega
  rcases this with rfl | rfl | rfl | rfl | rfl | rfl | rfl | rfl <;> rfl
end Go.Proofs.Yticiopkiikcokaa
