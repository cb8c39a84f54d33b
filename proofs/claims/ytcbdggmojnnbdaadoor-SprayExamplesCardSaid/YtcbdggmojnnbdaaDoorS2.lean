/-
  SETS AS MAPS, AND THEIR LISTS.
-/
import Derived.Test.YtcbdggmojnnbdaaDoorS1
namespace Go.Proofs.YtcbdggmojnnbdaaDoor
open Go Go.Am Go.Srt
set_option maxRecDepth 100000
set_option maxHeartbeats 4000000
def entO (x : Int) : AV × AV := (.int .i64 x, .bool true)
def entsO (l : List Int) : List (AV × AV) := l.map entO
theorem okE_entsO (n : Nat) : ∀ l : List Int, okE n (entsO l) = true := by
  intro l
  induction l with
  | nil => rfl
  | cons a l ih => show (okP n (entO a) && okE n (entsO l)) = true; rw [ih]; rfl
theorem mapOE_O (n : Nat) (h : Nat → Option AObj) : ∀ l : List Int, mapOE (thaw (n + 1) h) (entsO l) = some (entsO l, []) := by
  intro l
  induction l with
  | nil => rfl
  | cons a l ih =>
    show mapOE (thaw (n + 1) h) (entO a :: entsO l) = some (entO a :: entsO l, [])
    have h1 : thaw (n + 1) h (entO a).1 = some ((entO a).1, []) := by unfold thaw; exact if_pos rfl
    have h2 : thaw (n + 1) h (entO a).2 = some ((entO a).2, []) := by unfold thaw; exact if_pos rfl
    generalize entO a = p at h1 h2 ⊢
    simp only [mapOE, h1, h2, ih, List.nil_append]
theorem thaw_O {h : Nat → Option AObj} {i : Nat} {l : List Int} (h0 : h i = some (.map (entsO l))) : thaw 8 h (.mref i) = some (.imap (entsO l), [i]) := by
  have e : thaw 8 h (.mref i) = (match h i with
      | some (.map es) => (match mapOE (thaw 7 h) es with | some (es', is) => some (.imap es', i :: is) | none => none)
      | _ => none) := rfl
  rw [e, h0]
  simp only []
  rw [mapOE_O 6]
theorem afindO (x : Int) : ∀ (l : List Int) (i : Nat), afind Tryd.prog 3 (.int .i64) (.int .i64 x) (entsO l) i = some (if x ∈ l then some (i + l.idxOf x, .bool true) else none) := by
  intro l
  induction l with
  | nil => intro i; rfl
  | cons a l ih =>
    intro i
    show (match akeq Tryd.prog 3 (.int .i64) (.int .i64 x) (.int .i64 a) with
      | some true => some (some (i, (entO a).2))
      | some false => afind Tryd.prog 3 (.int .i64) (.int .i64 x) (entsO l) (i + 1)
      | none => none) = _
    have hk : akeq Tryd.prog 3 (.int .i64) (.int .i64 x) (.int .i64 a) = some (decide (x = a)) := by
      show (if IntKind.i64 = IntKind.i64 then some (x == a) else none) = _
      rw [if_pos rfl]
      congr 1
    rw [hk]
    by_cases e : x = a
    · subst e
      simp [entO]
    · rw [decide_eq_false e]
      simp only []
      rw [ih (i + 1)]
      by_cases hm : x ∈ l
      · rw [if_pos hm, if_pos (List.mem_cons_of_mem _ hm), show (a :: l).idxOf x = l.idxOf x + 1 from by rw [List.idxOf_cons, show (a == x) = false from by rw [beq_eq_false_iff_ne]; exact Ne.symm e]; rfl]
        congr 2
        rw [Nat.add_assoc, Nat.add_comm 1]
      · rw [if_neg hm, if_neg (by simp [e, hm])]
theorem updO {h : Nat → Option AObj} {i : Nat} {l : List Int} {x : Int} (h0 : h i = some (.map (entsO l))) (hl : x ∉ l) :
    aMapUpdate Tryd.prog h 98 (.mref i) (.int .i64 x) (.bool true) = some ⟨.undef, [(i, some (.map (entsO (l ++ [x]))))]⟩ := by
  simp only [aMapUpdate, ty98, ty3, h0]
  rw [if_pos (show akeyB Tryd.prog (.int .i64) (.int .i64 x) = true from rfl), afindO, if_neg hl]
  simp [entsO, entO]
theorem lookO {h : Nat → Option AObj} {l : List Int} {x : Int} : aLookup Tryd.prog h 98 (.imap (entsO l)) (.int .i64 x) false = some (.bool (l.contains x)) := by
  have hz : azero Tryd.prog 4 = some (.bool false) := by kernel_rfl
  have ha : amap h (.imap (entsO l)) = some (entsO l) := rfl
  simp only [aLookup, ty98, ty3, ha]
  rw [if_pos (show akeyB Tryd.prog (.int .i64) (.int .i64 x) = true from rfl), afindO, hz]
  by_cases hm : x ∈ l
  · rw [if_pos hm, show l.contains x = true from by simpa using hm]; rfl
  · rw [if_neg hm, show l.contains x = false from by simpa using hm]; rfl
theorem nxtO {l : List Int} {p : Nat → AV × AV → Prop} (h : ∀ j x, l[j]? = some x → p j (entO x)) : ∀ j e, (entsO l)[j]? = some e → p j e := fun j e he => by
  unfold entsO at he
  rw [List.getElem?_map] at he
  cases hl : l[j]? with
  | none => rw [hl] at he; cases he
  | some x => rw [hl] at he; cases he; exact h j x hl
theorem okIter (n : Nat) (c : Option Int) (l : List Int) : okO n (.iter (c.map entO) (entsO l)) = true := by
  show (okE n (c.map entO).toList && okE n (entsO l)) = true
  rw [okE_entsO]
  cases c <;> rfl
/-! ### sorting -/
theorem Len_spec (n : Nat) (h : n ≤ 12) : ∃ v : Int, APure Tryd.prog 111 [.int .u64 n] (.int .i64 v) := by
  match n, h with
  | 0, _ => exact ⟨0, .runK .nil 100 30 (by kernel_rfl)⟩
  | 1, _ => exact ⟨1, .runK .nil 100 30 (by kernel_rfl)⟩
  | 2, _ => exact ⟨2, .runK .nil 100 30 (by kernel_rfl)⟩
  | 3, _ => exact ⟨2, .runK .nil 100 30 (by kernel_rfl)⟩
  | 4, _ => exact ⟨3, .runK .nil 100 30 (by kernel_rfl)⟩
  | 5, _ => exact ⟨3, .runK .nil 100 30 (by kernel_rfl)⟩
  | 6, _ => exact ⟨3, .runK .nil 100 30 (by kernel_rfl)⟩
  | 7, _ => exact ⟨3, .runK .nil 100 30 (by kernel_rfl)⟩
  | 8, _ => exact ⟨4, .runK .nil 100 30 (by kernel_rfl)⟩
  | 9, _ => exact ⟨4, .runK .nil 100 30 (by kernel_rfl)⟩
  | 10, _ => exact ⟨4, .runK .nil 100 30 (by kernel_rfl)⟩
  | 11, _ => exact ⟨4, .runK .nil 100 30 (by kernel_rfl)⟩
  | 12, _ => exact ⟨4, .runK .nil 100 30 (by kernel_rfl)⟩
  | n + 13, h => omega
def SrtQ (S : List Int) (cs' : List AV) : Prop := ∃ S', S'.Perm S ∧ Sd ltI S' ∧ cs' = iL S'
theorem SrtQ.ok {S : List Int} {cs : List AV} (h : SrtQ S cs) : okL 0 cs = true := by
  obtain ⟨S', _, _, e⟩ := h
  rw [e]; exact iL_ok 0 S'
theorem pdq_spec (S : List Int) (v : Int) {N : Nat} (hN : N = S.length) (hs : N ≤ 12) :
    AMut Tryd.prog Tryd.f110 N 1 [.int .i64 0, .int .i64 N, .int .i64 v] (iL S) .undef (SrtQ S) := by
  have sI := ins_spec S hN (by omega)
  have d23 : decide (IntKind.i64.wrap ((N : Int) - 0) ≤ 12) = true := decide_eq_true (by rw [wrap64 (by omega) (by omega)]; omega)
  refine AMut.vc .loop ?_
  intro g hn hl
  replace hn : g.n = 134 := hn
  replace hl : g.low 1 := hl
  refine acode_while (fun _ : Unit => ⟨[(0, .rsl 0 0 N 1), (1, .int .i64 0), (2, .int .i64 N)], [(0, .cells (iL S))], 1⟩) (fun _ => True) (fun _ => 0) () trivial ?_ (fun _ _ => hl) ?_
  · exact St.le.of ⟨rfl, rfl, rfl, rfl, rfl, rfl, trivial⟩ ⟨rfl, Nat.zero_lt_one, iL_ok _ _, trivial⟩
  · rintro _ _
    exact ACode.vcM (.br 23 true <| .inl Tryd.f114 <| .nz .nil) hn hl (.round .cl) ⟨d23, Tryd.func114,
      AMut.use sI rfl rfl (iL_ok 0 S) (fun _ h => SrtQ.ok h) rfl fun cs' hQ => ⟨_, .refl _, .nil, rfl, _, rfl, hQ⟩⟩
theorem Sort_spec (S : List Int) {N : Nat} (hN : N = S.length) (hs : N ≤ 12) : AMut Tryd.prog Tryd.f103 N 1 [] (iL S) .undef (SrtQ S) := by
  obtain ⟨v, hv⟩ := Len_spec N hs
  have sP := pdq_spec S v hN hs
  have ew : IntKind.u64.wrap (N : Int) = (N : Int) := by
    unfold IntKind.wrap
    have e1 : (2 : Int) ^ IntKind.u64.bits = 18446744073709551616 := by decide
    simp only [e1, IntKind.signed, Bool.false_and]
    have : (N : Int) % 18446744073709551616 = N := Int.emod_eq_of_lt (by omega) (by omega)
    rw [this]; rfl
  rw [← ew] at hv
  exact AMut.vc (.call (.int .i64 v) <| .inl Tryd.f110 <| .nz .nil) ⟨hv, Tryd.func110,
    AMut.use sP rfl rfl (iL_ok 0 S) (fun _ h => SrtQ.ok h) rfl fun cs' hQ => ⟨rfl, _, rfl, hQ⟩⟩
end Go.Proofs.YtcbdggmojnnbdaaDoor
