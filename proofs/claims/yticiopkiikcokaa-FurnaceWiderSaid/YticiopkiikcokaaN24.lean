import Derived.Test.YticiopkiikcokaaN22
/-
  A CODE THAT IS CUT: what comes first is walked through, what comes behind it begins with a state of one's own choice.
-/
namespace Go.Am
/-- The first k pieces of a sequence, and the rest. -/
def ctake : Nat → Code → Code
  | 0, .seq x _ => x
  | k + 1, .seq x y => .seq x (ctake k y)
  | _, c => c
def cdrop : Nat → Code → Code
  | 0, .seq _ y => y
  | k + 1, .seq _ y => cdrop k y
  | _, c => c
/-- There are more than k pieces, one behind. -/
def cuts : Nat → Code → Bool
  | 0, .seq _ _ => true
  | k + 1, .seq _ y => cuts k y
  | _, _ => false
section
variable {P : Program} {ro : Option Nat} {g : G} {Q : AX → St → Prop} {S : St} {n nx0 : Nat}
theorem ACode.wk {A S : St} {c : Code} (h : Wk g A S) (hc : ACode P ro g c Q A) : ACode P ro g c Q S := fun κ a w hr => by
  obtain ⟨κ', h1⟩ := h κ a w hr
  exact hc κ' a w h1
theorem EClosed.seq {y : Code} (hQ : EClosed Q) : EClosed (AX.then (ACode P ro g y Q) Q) := fun x S S' he h => by
  cases x with
  | norm => exact ACode.congr h he
  | _ => exact hQ _ _ _ he h
theorem EClosed.inBlock {id : Nat} (hQ : EClosed Q) : EClosed (AX.inBlock id Q) := fun x S S' he h => by
  cases x with
  | exit i =>
    simp only [AX.inBlock] at h ⊢
    split
    · rename_i e; rw [if_pos e] at h; exact hQ _ _ _ he h
    · rename_i e; rw [if_neg e] at h; exact hQ _ _ _ he h
  | _ => exact hQ _ _ _ he h
/-- What is to be had where a cut is made. -/
def Mid (g : G) {ι : Type} (st : ι → St) (I : ι → Prop) (Q : AX → St → Prop) (x : AX) (S' : St) : Prop := match x with
  | .norm => ∃ i, I i ∧ Wk g (st i) S'
  | x => Q x S'
theorem EClosed.mid {ι : Type} {st : ι → St} {I : ι → Prop} (hQ : EClosed Q) : EClosed (Mid g st I Q) := fun x S S' he h => by
  cases x with
  | norm => obtain ⟨i, hi, hw⟩ := h; exact ⟨i, hi, hw.congr he⟩
  | _ => exact hQ _ _ _ he h
theorem acode_mid {ι : Type} (st : ι → St) (I : ι → Prop) {a b : Code} (h1 : ACode P ro g a (Mid g st I Q) S) (h2 : ∀ i, I i → ACode P ro g b Q (st i)) : ACode P ro g (.seq a b) Q S :=
  acode_seq (h1.mono fun x S' h => by
    cases x with
    | norm => obtain ⟨i, hi, hw⟩ := h; exact ACode.wk hw (h2 i hi)
    | _ => exact h)
theorem vPre_sound {X : VX} (hX : VXOk P X) (hn : g.n = n) (hlow : g.low nx0) (hQ : EClosed Q) {ι : Type} (st : ι → St) (I : ι → Prop) : ∀ (k : Nat) (c : Code) (S : St) (τ : Tp), cuts k c = true →
    (vCode P X n nx0 none (ctake k c) S τ fun x S' _ => Mid g st I Q x S') → (∀ i, I i → ACode P none g (cdrop k c) Q (st i)) → ACode P none g c Q S := by
  intro k
  induction k with
  | zero =>
    intro c S τ hk h hb
    cases c with
    | seq x y =>
      refine acode_seq (vCode_sound (rid := none) (ro := none) hX hn hlow rfl x S τ _ h fun e S' _ h1 S'' he => ?_)
      cases e with
      | norm =>
        obtain ⟨i, hi, hw⟩ := h1
        exact ACode.wk (hw.congr he) (hb i hi)
      | _ => exact hQ _ _ _ he h1
    | _ => cases hk
  | succ k ih =>
    intro c S τ hk h hb
    cases c with
    | seq x y =>
      simp only [ctake, vCode] at h
      refine acode_seq (vCode_sound (rid := none) (ro := none) hX hn hlow rfl x S τ _ h fun e S' τ' h1 S'' he => ?_)
      cases e with
      | norm => exact ACode.congr (ih y S' τ' hk h1 hb) he
      | _ => exact hQ _ _ _ he h1
    | _ => cases hk
/-- Cut behind k + 1 pieces. -/
theorem ACode.cut (k : Nat) {ι : Type} (st : ι → St) (I : ι → Prop) (τ : Tp) {c : Code} (hn : g.n = n) (hlow : g.low nx0) (hQ : EClosed Q) (hk : cuts k c = true)
    (h : vCode P (vxm P 4) n nx0 none (ctake k c) S τ fun x S' _ => Mid g st I Q x S') (hb : ∀ i, I i → ACode P none g (cdrop k c) Q (st i)) : ACode P none g c Q S :=
  vPre_sound (vxm_ok P 4) hn hlow hQ st I k c S τ hk h hb
end
end Go.Am
