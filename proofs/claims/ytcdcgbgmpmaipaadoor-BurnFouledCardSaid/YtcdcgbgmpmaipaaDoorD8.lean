import Derived.Test.YtcdcgbgmpmaipaaDoorD7
namespace Go.Proofs.YtcdcgbgmpmaipaaDoor
open Go Go.Am
set_option maxRecDepth 100000
set_option maxHeartbeats 4000000
/-- An entry of the arrivals' map. -/
def entA (F : Nat → Sn × Bool) (lag : Nat) : AV × AV := (.int .i64 (lag : Int), encAr (F lag))
def entsA (F : Nat → Sn × Bool) (l : List Nat) : List (AV × AV) := l.map (entA F)
theorem okE_entsA (F : Nat → Sn × Bool) (n : Nat) : ∀ l : List Nat, okE n (entsA F l) = true := by
  intro l
  induction l with
  | nil => rfl
  | cons a l ih => show (okP n (entA F a) && okE n (entsA F l)) = true; rw [ih]; rfl
theorem mapOE_ok (n : Nat) (h : Nat → Option AObj) (F : Nat → Sn × Bool) : ∀ l : List Nat, mapOE (thaw (n + 1) h) (entsA F l) = some (entsA F l, []) := by
  intro l
  induction l with
  | nil => rfl
  | cons a l ih =>
    show mapOE (thaw (n + 1) h) (entA F a :: entsA F l) = some (entA F a :: entsA F l, [])
    have h1 : thaw (n + 1) h (entA F a).1 = some ((entA F a).1, []) := by unfold thaw; exact if_pos rfl
    have h2 : thaw (n + 1) h (entA F a).2 = some ((entA F a).2, []) := by unfold thaw; exact if_pos rfl
    generalize entA F a = p at h1 h2 ⊢
    simp only [mapOE, h1, h2, ih, List.nil_append]
theorem thaw_map {h : Nat → Option AObj} {i : Nat} {F : Nat → Sn × Bool} {l : List Nat} (h0 : h i = some (.map (entsA F l))) : thaw 8 h (.mref i) = some (.imap (entsA F l), [i]) := by
  have e : thaw 8 h (.mref i) = (match h i with
      | some (.map es) => (match mapOE (thaw 7 h) es with | some (es', is) => some (.imap es', i :: is) | none => none)
      | _ => none) := rfl
  rw [e, h0]
  simp only []
  rw [mapOE_ok 6]
theorem afindA (F : Nat → Sn × Bool) (lag : Nat) : ∀ (l : List Nat) (i : Nat), afind Tryd.prog 3 (.int .i64) (.int .i64 (lag : Int)) (entsA F l) i = some (if lag ∈ l then some (i + l.idxOf lag, encAr (F lag)) else none) := by
  intro l
  induction l with
  | nil => intro i; rfl
  | cons a l ih =>
    intro i
    show (match akeq Tryd.prog 3 (.int .i64) (.int .i64 (lag : Int)) (.int .i64 (a : Int)) with
      | some true => some (some (i, (entA F a).2))
      | some false => afind Tryd.prog 3 (.int .i64) (.int .i64 (lag : Int)) (entsA F l) (i + 1)
      | none => none) = _
    have hk : akeq Tryd.prog 3 (.int .i64) (.int .i64 (lag : Int)) (.int .i64 (a : Int)) = some (decide (lag = a)) := by
      show (if IntKind.i64 = IntKind.i64 then some ((lag : Int) == (a : Int)) else none) = _
      rw [if_pos rfl]
      congr 1
      by_cases e : lag = a
      · subst e; simp
      · rw [decide_eq_false e, beq_eq_false_iff_ne]; omega
    rw [hk]
    by_cases e : lag = a
    · subst e
      simp [entA]
    · rw [decide_eq_false e]
      simp only []
      rw [ih (i + 1)]
      by_cases hm : lag ∈ l
      · rw [if_pos hm, if_pos (List.mem_cons_of_mem _ hm), show (a :: l).idxOf lag = l.idxOf lag + 1 from by rw [List.idxOf_cons, show (a == lag) = false from by rw [beq_eq_false_iff_ne]; exact Ne.symm e]; rfl]
        congr 2
        rw [Nat.add_assoc, Nat.add_comm 1]
      · rw [if_neg hm, if_neg (by simp [e, hm])]
theorem updA {h : Nat → Option AObj} {i : Nat} {F : Nat → Sn × Bool} {l : List Nat} {lag : Nat} (h0 : h i = some (.map (entsA F l))) (hl : lag ∉ l) :
    aMapUpdate Tryd.prog h 73 (.mref i) (.int .i64 (lag : Int)) (encAr (F lag)) = some ⟨.undef, [(i, some (.map (entsA F (l ++ [lag]))))]⟩ := by
  simp only [aMapUpdate, ty73, ty3, h0]
  rw [if_pos (show akeyB Tryd.prog (.int .i64) (.int .i64 (lag : Int)) = true from rfl), afindA, if_neg hl]
  simp [entsA, entA]
theorem lookA {h : Nat → Option AObj} {F : Nat → Sn × Bool} {l : List Nat} {lag : Nat} : aLookup Tryd.prog h 73 (.imap (entsA F l)) (.int .i64 (lag : Int)) false = some (encAr (if lag ∈ l then F lag else ((0, 0), false))) := by
  have hz : azero Tryd.prog 80 = some (encAr ((0, 0), false)) := by kernel_rfl
  have ha : amap h (.imap (entsA F l)) = some (entsA F l) := rfl
  simp only [aLookup, ty73, ty3, ha]
  rw [if_pos (show akeyB Tryd.prog (.int .i64) (.int .i64 (lag : Int)) = true from rfl), afindA, hz]
  by_cases hm : lag ∈ l
  · rw [if_pos hm, if_pos hm]; rfl
  · rw [if_neg hm, if_neg hm]; rfl
end Go.Proofs.YtcdcgbgmpmaipaaDoor
