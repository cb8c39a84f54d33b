import Derived.Test.YticiopkiikcokaaT30
namespace Go.Proofs.Yticiopkiikcokaa
open Go Go.Am
def degAt (l : List Int) (i : Nat) : Bool := match l[i]? with
  | some d => within d 0 2000
  | none => false
def degsB (l : List Int) : Bool := (List.range l.length).all (degAt l)
def rowOk (n : Int) (r : Rw) : Bool := decide ((r.deg.length : Int) = n) && (within r.press (-100) 100 && degsB r.deg)
def rowAt (l : List Rw) (n : Int) (i : Nat) : Bool := match l[i]? with
  | some r => rowOk n r
  | none => false
def rowsB (l : List Rw) (n : Int) : Bool := (List.range l.length).all (rowAt l n)
theorem rowAt_some {l : List Rw} {n : Int} {i : Nat} {r : Rw} (h : l[i]? = some r) : rowAt l n i = rowOk n r := by unfold rowAt; rw [h]
theorem degAt_some {l : List Int} {i : Nat} {r : Int} (h : l[i]? = some r) : degAt l i = within r 0 2000 := by unfold degAt; rw [h]
theorem step_all {p : Nat → Bool} {k : Nat} (h : ∀ i, i < k → p i = true) (hk : p k = true) : ∀ i, i < k + 1 → p i = true := fun i hi => by
  rcases Nat.lt_succ_iff_lt_or_eq.1 hi with h' | rfl
  · exact h i h'
  · exact hk
theorem ltLen {α : Type} {l : List α} {enc : α → List AV} {k : Nat} (h : k < l.length) : decide ((k : Int) < ((l.map enc).length : Int)) = true := by simpa using h
theorem geLen {α : Type} {l : List α} {enc : α → List AV} {k : Nat} (h : ¬ k < l.length) : decide ((k : Int) < ((l.map enc).length : Int)) = false := by simpa using h
theorem succ64 {k : Nat} (h : k < 1000000) : IntKind.i64.wrap ((k : Int) + 1) = ((k + 1 : Nat) : Int) := wrap64 (by omega) (by omega)
theorem pred64 {j : Nat} (h : j < 1000000) : IntKind.i64.wrap (((j + 1 : Nat) : Int) - 1) = (j : Int) := by rw [wrap64 (by omega) (by omega)]; omega
theorem mu1 {n k : Nat} (h : k < n) : n - (k + 1) < n - k := by omega
set_option maxHeartbeats 4000000 in
set_option maxRecDepth 100000 in
theorem areRows_spec (l : List Rw) (n : Int) (hl1 : l.length ≤ 1000) (hn1 : n ≤ 1000) : APure Try.prog 72 [.lst 2 (l.map encRw), .int .i64 n] (.bool (rowsB l n)) := by
  refine APure.vc Try.func72 rfl .loop rfl rfl ?_
  intro g hn hl
  refine acode_while (fun k : Nat => ⟨[(0, .lst 2 (l.map encRw)), (1, .int .i64 n), (5, .int .i64 k), (10, .lst 2 (l.map encRw)), (11, .int .i64 (l.map encRw).length), (12, .int .i64 k)], [], 0⟩) (fun k => k ≤ l.length ∧ ∀ i, i < k → rowAt l n i = true) (fun k => l.length - k) 0 ⟨Nat.zero_le _, fun i hi => absurd hi (Nat.not_lt_zero _)⟩ ?_ (fun _ _ => hl) ?_
  · exact St.le.of ⟨rfl, rfl, rfl, rfl, rfl, rfl, rfl, rfl, rfl, rfl, rfl, rfl, trivial⟩ trivial
  · rintro k ⟨hk1, hk2⟩
    by_cases hlt : k < l.length
    · obtain ⟨r, hr⟩ := getE hlt
      have bad : rowAt l n k = false → ((k : Int) == ((l.map encRw).length : Int)) = rowsB l n := fun h => by
        rw [rowsB, all_bad hlt h, List.length_map, beq_eq_false_iff_ne]; omega
      have s1 := within_spec r.press (-100) 100
      refine ACode.vc (.br 13 true <| .cells (encRw r) <| .both 21 .nil <| .call (.bool (within r.press (-100) 100)) <| .both 26 .nil .loop) hn hl (.round .cl)
        ⟨ltLen hlt, idx hr, fun h => ⟨_, .refl _, .nil, rB (bad ?_)⟩, fun h1 => ⟨s1, fun h2 => ⟨_, .refl _, .nil, rB (bad ?_)⟩, fun h2 => ?_⟩⟩
      · rw [rowAt_some hr]; simp at h; simp [rowOk, h]
      · rw [rowAt_some hr]; simp at h2; simp [rowOk, h2]
      · intro g hn hl
        simp at h1 h2
        refine acode_while (fun i : Nat => ⟨[(0, .lst 2 (l.map encRw)), (1, .int .i64 n), (5, .int .i64 k), (10, .lst 2 (l.map encRw)), (11, .int .i64 (l.map encRw).length), (12, .int .i64 k), (28, .lst 1 (r.deg.map encD)), (29, .int .i64 (r.deg.map encD).length), (30, .int .i64 i)], [], 0⟩) (fun i => i ≤ r.deg.length ∧ ∀ j, j < i → degAt r.deg j = true) (fun i => r.deg.length - i) 0 ⟨Nat.zero_le _, fun i hi => absurd hi (Nat.not_lt_zero _)⟩ ?_ (fun _ _ => hl) ?_
        · exact St.le.of ⟨rfl, rfl, rfl, rfl, rfl, rfl, rfl, rfl, rfl, rfl, rfl, rfl, rfl, rfl, rfl, rfl, rfl, rfl, trivial⟩ trivial
        · rintro i ⟨hi1, hi2⟩
          by_cases hit : i < r.deg.length
          · obtain ⟨d, hd⟩ := getE hit
            have s2 := within_spec d 0 2000
            refine ACode.vc (.br 31 true <| .cells (encD d) <| .call (.bool (within d 0 2000)) <| .both 36 .nil .nil) hn hl (.round .cl)
              ⟨ltLen hit, idx hd, s2, fun h => ⟨_, .refl _, .nil, _, .refl _, .nil, rB (bad ?_)⟩, fun h => ⟨i + 1, ⟨hit, step_all hi2 ?_⟩, mu1 hit, St.le.of ⟨rfl, rfl, rfl, rfl, rfl, rfl, rfl, rfl, rfl, rfl, rfl, rfl, rfl, rfl, rfl, rfl, congrArg _ (succ64 (by omega)), rfl, trivial⟩ trivial⟩⟩
            · simp at h
              have : degsB r.deg = false := all_bad hit (by rw [degAt_some hd, h])
              rw [rowAt_some hr]; simp [rowOk, this]
            · simp at h; rw [degAt_some hd, h]
          · refine ACode.vc (.br 31 false .nil) hn hl (.round .cl) ⟨geLen hit, _, .refl _, .nil, k + 1, ⟨hlt, step_all hk2 ?_⟩, mu1 hlt, St.le.of ⟨rfl, rfl, rfl, rfl, congrArg _ (succ64 (by omega)), rfl, rfl, rfl, rfl, rfl, congrArg _ (succ64 (by omega)), rfl, trivial⟩ trivial⟩
            rw [rowAt_some hr]
            have : degsB r.deg = true := all_ok (by omega) hi2
            simp [rowOk, h1, h2, this]
    · refine ACode.vc (.br 13 false .nil) hn hl (.round .cl) ⟨geLen hlt, _, .refl _, .nil, rB ?_⟩
      have : k = l.length := by omega
      subst this
      rw [rowsB, all_ok (Nat.le_refl _) hk2, List.length_map]; simp
end Go.Proofs.Yticiopkiikcokaa
