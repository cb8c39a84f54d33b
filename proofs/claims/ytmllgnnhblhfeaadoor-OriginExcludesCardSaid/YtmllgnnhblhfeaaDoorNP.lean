import Derived.Test.YtmllgnnhblhfeaaDoorNV
/-
  WHAT IS TOLD OF SCENES: facts. Plain.
-/
namespace Go.Proofs.YtmllgnnhblhfeaaDoor
open Go Go.Am
theorem inL_perm {l m : List Spn} (h : l.Perm m) (n : Int) : inL l n ↔ inL m n :=
  ⟨fun ⟨s, hs, q⟩ => ⟨s, h.mem_iff.1 hs, q⟩, fun ⟨s, hs, q⟩ => ⟨s, h.mem_iff.2 hs, q⟩⟩
theorem srtS_perm (l : List Spn) : (srtS l).Perm l := List.mergeSort_perm _ _
theorem srtS_ord (l : List Spn) : (srtS l).Pairwise (fun a b => a.1 ≤ b.1) := by
  have h := List.pairwise_mergeSort (le := fun (a b : Spn) => decide (a.1 ≤ b.1)) (fun a b c h1 h2 => by simp at *; omega) (fun a b => by simp; omega) l
  exact h.imp fun q => by simpa using q
/-- All spans of truths are spans. -/
theorem tr_ok {s : Scn} {room set : Nat} {t : List Int × Spn} (h : t ∈ trS s room set) : t.2.1 ≤ t.2.2 := by
  unfold trS at h
  obtain ⟨c, _, hc⟩ := List.mem_filterMap.1 h
  unfold trC at hc
  split at hc
  · rename_i q; cases hc; exact of_decide_eq_true q
  · cases hc
/-- Whatever order spans come in, the same is told. -/
theorem told_any {l m : List Spn} (hl : ∀ s ∈ l, s.1 ≤ s.2) (hp : m.Perm l) (hm : m.Pairwise fun a b => a.1 ≤ b.1) : joinV [] m = joinV [] (srtS l) :=
  joinV_same (fun s hs => hl s (hp.mem_iff.1 hs)) (fun s hs => hl s ((srtS_perm l).mem_iff.1 hs)) hm (srtS_ord l) fun n => (inL_perm hp n).trans (inL_perm (srtS_perm l) n).symm
theorem told_ok (s : Scn) (room : Nat) : canS (toldP s room) ∧ ∀ n, inL (toldP s room) n ↔ ∃ t ∈ trS s room (allN s), inS t.2 n := by
  have hs : ∀ x ∈ (trS s room (allN s)).map (·.2), x.1 ≤ x.2 := fun x hx => by
    obtain ⟨t, ht, rfl⟩ := List.mem_map.1 hx
    exact tr_ok ht
  obtain ⟨h1, h2⟩ := joinV_ok (srtS ((trS s room (allN s)).map (·.2))) [] trivial (fun x hx => hs x ((srtS_perm _).mem_iff.1 hx)) (srtS_ord _) (fun u hu => (List.not_mem_nil hu).elim)
  refine ⟨h1, fun n => ?_⟩
  show inL (joinV _ _) n ↔ _
  rw [h2, inL_perm (srtS_perm _)]
  constructor
  · rintro (⟨u, hu, _⟩ | ⟨u, hu, q⟩)
    · cases hu
    · obtain ⟨t, ht, rfl⟩ := List.mem_map.1 hu
      exact ⟨t, ht, q⟩
  · rintro ⟨t, ht, q⟩
    exact .inr ⟨_, List.mem_map.2 ⟨t, ht, rfl⟩, q⟩
theorem mem_tr {s : Scn} {room set : Nat} {t : List Int × Spn} : t ∈ trS s room set ↔ t.1 ∈ allD (gSp s.gates) ∧ t.2 = winM s.fin (farP s t.1 room) s.marks set ∧ t.2.1 ≤ t.2.2 := by
  unfold trS crsP
  rw [List.filterMap_map, List.mem_filterMap]
  constructor
  · rintro ⟨ds, hd, h⟩
    simp only [Function.comp_apply, trC] at h
    split at h
    · rename_i q; cases h; exact ⟨hd, rfl, of_decide_eq_true q⟩
    · cases h
  · rintro ⟨h1, h2, h3⟩
    refine ⟨t.1, h1, ?_⟩
    simp only [Function.comp_apply, trC]
    rw [← h2, if_pos (show okW t.2 = true from decide_eq_true h3)]
theorem told_iff {s : Scn} {room : Nat} {n : Int} : inL (toldP s room) n ↔ ∃ ds ∈ allD (gSp s.gates), inS (winM s.fin (farP s ds room) s.marks (allN s)) n := by
  rw [(told_ok s room).2]
  constructor
  · rintro ⟨t, ht, q⟩
    obtain ⟨h1, h2, _⟩ := mem_tr.1 ht
    exact ⟨t.1, h1, h2 ▸ q⟩
  · rintro ⟨ds, h, q⟩
    exact ⟨(ds, _), mem_tr.2 ⟨h, rfl, Int.le_trans q.1 q.2⟩, q⟩
theorem told_nil {s : Scn} {room : Nat} : toldP s room = [] ↔ exB s room (allN s) = true := by
  unfold exB
  rw [List.isEmpty_iff]
  constructor
  · intro h
    refine List.eq_nil_iff_forall_not_mem.2 fun t ht => ?_
    obtain ⟨u, hu, _⟩ := ((told_ok s room).2 t.2.1).2 ⟨t, ht, Int.le_refl _, tr_ok ht⟩
    rw [h] at hu; cases hu
  · intro h
    refine List.eq_nil_iff_forall_not_mem.2 fun u hu => ?_
    have hc : u.1 ≤ u.2 := by
      have key : ∀ {l : List Spn}, canS l → ∀ u ∈ l, u.1 ≤ u.2 := by
        intro l
        induction l with
        | nil => intro _ u hu; cases hu
        | cons a l ih =>
          intro h u hu
          obtain ⟨h1, h2, _⟩ := canS_cons h
          rcases List.mem_cons.1 hu with rfl | hu
          · exact h1
          · exact ih h2 u hu
      exact key (told_ok s room).1 u hu
    obtain ⟨t, ht, _⟩ := ((told_ok s room).2 u.1).1 ⟨u, hu, Int.le_refl _, hc⟩
    rw [h] at ht; cases ht
theorem mem_rooms {s : Scn} {r : Nat} : r ∈ roomsN s ↔ r < nR s ∧ exB s r (allN s) = false := by
  unfold roomsN
  rw [List.mem_filter, List.mem_range, Bool.not_eq_true']
/-! ### sets of marks -/
theorem mem_pick {ms : List Mk} {set : Nat} {m : Mk} : m ∈ pickS ms set ↔ ∃ i, ms[i]? = some m ∧ set.testBit i = true := by
  unfold pickS
  rw [List.mem_filterMap]
  constructor
  · rintro ⟨⟨a, i⟩, h, q⟩
    rw [List.mem_zipIdx_iff_getElem?] at h
    dsimp only at q h
    split at q
    · rename_i b; cases q; exact ⟨i, h, b⟩
    · cases q
  · rintro ⟨i, h, b⟩
    exact ⟨(m, i), List.mem_zipIdx_iff_getElem?.2 h, by simp [b]⟩
theorem win_iff {fin : Int} {f : Nat → Tm} {ms : List Mk} {set : Nat} {n : Int} : inS (winM fin f ms set) n ↔ (0 ≤ n ∧ n ≤ fin) ∧ ∀ m ∈ pickS ms set, inS (saysV (mrk m) fin (f (mrk m).room) (f (mrk m).other)) n := by
  unfold winM
  rw [allV_iff]
  constructor
  · rintro ⟨h1, h2⟩
    exact ⟨h1, fun m hm => h2 _ (List.mem_map.2 ⟨m, hm, rfl⟩)⟩
  · rintro ⟨h1, h2⟩
    refine ⟨h1, fun m hm => ?_⟩
    obtain ⟨x, hx, rfl⟩ := List.mem_map.1 hm
    exact h2 x hx
theorem ex_iff {s : Scn} {room set : Nat} : exB s room set = true ↔ ∀ ds ∈ allD (gSp s.gates), ∀ n, ¬ inS (winM s.fin (farP s ds room) s.marks set) n := by
  unfold exB
  rw [List.isEmpty_iff, List.eq_nil_iff_forall_not_mem]
  constructor
  · intro h ds hd n q
    exact h (ds, _) (mem_tr.2 ⟨hd, rfl, Int.le_trans q.1 q.2⟩)
  · intro h t ht
    obtain ⟨h1, h2, h3⟩ := mem_tr.1 ht
    exact h t.1 h1 t.2.1 (h2 ▸ ⟨Int.le_refl _, h3⟩)
theorem ex_mono {s : Scn} {room a b : Nat} (hab : ∀ i, a.testBit i = true → b.testBit i = true) (h : exB s room a = true) : exB s room b = true := by
  rw [ex_iff] at h ⊢
  intro ds hd n q
  refine h ds hd n (win_iff.2 ⟨(win_iff.1 q).1, fun m hm => ?_⟩)
  obtain ⟨i, h1, h2⟩ := mem_pick.1 hm
  exact (win_iff.1 q).2 m (mem_pick.2 ⟨i, h1, hab i h2⟩)
theorem pick_all (ms : List Mk) : ∀ (k : Nat), ms.length ≤ k → pickS ms (2 ^ k - 1) = ms := by
  intro k hk
  have key : ∀ j, j ≤ ms.length → pickS (ms.take j) (2 ^ k - 1) = ms.take j := by
    intro j
    induction j with
    | zero => intro _; rfl
    | succ j ih =>
      intro hj
      have hx : ms[j]? = some ms[j] := List.getElem?_eq_getElem (by omega)
      rw [pick_take hx, ih (by omega), take_snoc hx, Nat.testBit_two_pow_sub_one, decide_eq_true (show j < k by omega)]
      rfl
  have := key ms.length (Nat.le_refl _)
  rwa [List.take_length] at this
end Go.Proofs.YtmllgnnhblhfeaaDoor
