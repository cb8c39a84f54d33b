import Derived.Test.YtepbiedolkghhaaGreatS0
/-
  SETS AS MAPS, AND THEIR LISTS.
-/
namespace Go.Proofs.YtepbiedolkghhaaGreat
open Go Go.Am
set_option maxRecDepth 100000
set_option maxHeartbeats 4000000
def entO (x : Int) : AV × AV := (.int .i64 x, .bool true)
def entsO (l : List Int) : List (AV × AV) := l.map entO
theorem okE_entsO (n : Nat) : ∀ l : List Int, okE n (entsO l) = true := by
  intro l
  induction l with
  | nil => rfl
  | cons a l ih => show (okP n (entO a) && okE n (entsO l)) = true; rw [ih]; rfl
theorem mapOE_O (n : Nat) (h : Nat → Option AObj) : ∀ l : List Int, mapOE (thaw (n + 1) h) (entsO l) = some (entsO l, []) := by
  intro l
  induction l with
  | nil => rfl
  | cons a l ih =>
    show mapOE (thaw (n + 1) h) (entO a :: entsO l) = some (entO a :: entsO l, [])
    have h1 : thaw (n + 1) h (entO a).1 = some ((entO a).1, []) := by unfold thaw; exact if_pos rfl
    have h2 : thaw (n + 1) h (entO a).2 = some ((entO a).2, []) := by unfold thaw; exact if_pos rfl
    generalize entO a = p at h1 h2 ⊢
    simp only [mapOE, h1, h2, ih, List.nil_append]
theorem thaw_O {h : Nat → Option AObj} {i : Nat} {l : List Int} (h0 : h i = some (.map (entsO l))) : thaw 8 h (.mref i) = some (.imap (entsO l), [i]) := by
  have e : thaw 8 h (.mref i) = (match h i with
      | some (.map es) => (match mapOE (thaw 7 h) es with | some (es', is) => some (.imap es', i :: is) | none => none)
      | _ => none) := rfl
  rw [e, h0]
  simp only []
  rw [mapOE_O 6]
theorem afindO (x : Int) : ∀ (l : List Int) (i : Nat), afind Tryz.prog 3 (.int .i64) (.int .i64 x) (entsO l) i = some (if x ∈ l then some (i + l.idxOf x, .bool true) else none) := by
  intro l
  induction l with
  | nil => intro i; rfl
  | cons a l ih =>
    intro i
    show (match akeq Tryz.prog 3 (.int .i64) (.int .i64 x) (.int .i64 a) with
      | some true => some (some (i, (entO a).2))
      | some false => afind Tryz.prog 3 (.int .i64) (.int .i64 x) (entsO l) (i + 1)
      | none => none) = _
    have hk : akeq Tryz.prog 3 (.int .i64) (.int .i64 x) (.int .i64 a) = some (decide (x = a)) := by
      show (if IntKind.i64 = IntKind.i64 then some (x == a) else none) = _
      rw [if_pos rfl]
      congr 1
    rw [hk]
    by_cases e : x = a
    · subst e
      simp [entO]
    · rw [decide_eq_false e]
      simp only []
      rw [ih (i + 1)]
      by_cases hm : x ∈ l
      · rw [if_pos hm, if_pos (List.mem_cons_of_mem _ hm), show (a :: l).idxOf x = l.idxOf x + 1 from by rw [List.idxOf_cons, show (a == x) = false from by rw [beq_eq_false_iff_ne]; exact Ne.symm e]; rfl]
        congr 2
        rw [Nat.add_assoc, Nat.add_comm 1]
      · rw [if_neg hm, if_neg (by simp [e, hm])]
theorem updO {h : Nat → Option AObj} {i : Nat} {l : List Int} {x : Int} (h0 : h i = some (.map (entsO l))) (hl : x ∉ l) :
    aMapUpdate Tryz.prog h 36 (.mref i) (.int .i64 x) (.bool true) = some ⟨.undef, [(i, some (.map (entsO (l ++ [x]))))]⟩ := by
  simp only [aMapUpdate, ty36, ty3, h0]
  rw [if_pos (show akeyB Tryz.prog (.int .i64) (.int .i64 x) = true from rfl), afindO, if_neg hl]
  simp [entsO, entO]
theorem lookO {h : Nat → Option AObj} {l : List Int} {x : Int} : aLookup Tryz.prog h 36 (.imap (entsO l)) (.int .i64 x) false = some (.bool (l.contains x)) := by
  have hz : azero Tryz.prog 4 = some (.bool false) := by kernel_rfl
  have ha : amap h (.imap (entsO l)) = some (entsO l) := rfl
  simp only [aLookup, ty36, ty3, ha]
  rw [if_pos (show akeyB Tryz.prog (.int .i64) (.int .i64 x) = true from rfl), afindO, hz]
  by_cases hm : x ∈ l
  · rw [if_pos hm, show l.contains x = true from by simpa using hm]; rfl
  · rw [if_neg hm, show l.contains x = false from by simpa using hm]; rfl
theorem nxtO {l : List Int} {p : Nat → AV × AV → Prop} (h : ∀ j x, l[j]? = some x → p j (entO x)) : ∀ j e, (entsO l)[j]? = some e → p j e := fun j e he => by
  unfold entsO at he
  rw [List.getElem?_map] at he
  cases hl : l[j]? with
  | none => rw [hl] at he; cases he
  | some x => rw [hl] at he; cases he; exact h j x hl
theorem okIter (n : Nat) (c : Option Int) (l : List Int) : okO n (.iter (c.map entO) (entsO l)) = true := by
  show (okE n (c.map entO).toList && okE n (entsO l)) = true
  rw [okE_entsO]
  cases c <;> rfl
end Go.Proofs.YtepbiedolkghhaaGreat
