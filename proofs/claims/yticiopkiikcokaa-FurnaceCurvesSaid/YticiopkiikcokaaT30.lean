import Derived.Test.YticiopkiikcokaaT22
namespace Go.Proofs.Yticiopkiikcokaa
open Go Go.Am
def spanB (lo hi a b : Int) : Bool := decide (a ≤ lo ∧ lo ≤ hi ∧ hi ≤ b)
theorem spanB_iff {lo hi a b : Int} : spanB lo hi a b = true ↔ a ≤ lo ∧ lo ≤ hi ∧ hi ≤ b := by simp [spanB]
structure Cp where
  id : Int
  eLo : Int
  eHi : Int
  lLo : Int
  lHi : Int
  brk : Int
def encCp (c : Cp) : List AV := [.int .i64 c.id, .int .i64 c.eLo, .int .i64 c.eHi, .int .i64 c.lLo, .int .i64 c.lHi, .int .i64 c.brk]
structure Rw where
  deg : List Int
  press : Int
def encD (d : Int) : List AV := [.int .i64 d]
def encRw (r : Rw) : List AV := [.lst 1 (r.deg.map encD), .int .i64 r.press]
structure Rn where
  id : Int
  curve : List Pt
  cps : List Cp
  rows : List Rw
  gLo : Int
  gHi : Int
def runL (r : Rn) : List AV := [.int .i64 r.id, .lst 2 (r.curve.map encPt), .lst 6 (r.cps.map encCp), .lst 2 (r.rows.map encRw), .int .i64 r.gLo, .int .i64 r.gHi]
def encRn (r : Rn) : AV := .agg (runL r)
set_option maxHeartbeats 4000000 in
set_option maxRecDepth 100000 in
theorem isSpan_spec (lo hi a b : Int) : APure Try.prog 70 [.agg [.int .i64 lo, .int .i64 hi], .int .i64 a, .int .i64 b] (.bool (spanB lo hi a b)) := by
  refine APure.vc Try.func70 rfl (.both 11 (.both 18 .nil .nil) .nil) rfl rfl ⟨fun h1 => ⟨fun h2 => rB ?_, fun h2 => rB ?_⟩, fun h1 => rB ?_⟩
  · simp at h1 h2; simp [spanB, h1, h2]
  · simp at h1 h2; simp [spanB]; omega
  · simp at h1; simp [spanB]; omega
set_option maxHeartbeats 4000000 in
set_option maxRecDepth 100000 in
theorem spanned_spec (lo hi a b : Int) : APure Try.prog 76 [.agg [.int .i64 lo, .int .i64 hi], .int .i64 a, .int .i64 b] (.bool (spanB lo hi a b)) := by
  refine APure.vc Try.func76 rfl (.both 11 (.both 18 .nil .nil) .nil) rfl rfl ⟨fun h1 => ⟨fun h2 => rB ?_, fun h2 => rB ?_⟩, fun h1 => rB ?_⟩
  · simp at h1 h2; simp [spanB, h1, h2]
  · simp at h1 h2; simp [spanB]; omega
  · simp at h1; simp [spanB]; omega
def cpOk (c : Cp) : Bool := within c.id 0 9999 && (spanB c.eLo c.eHi (-50) 50 && (spanB c.lLo c.lHi 0 3 && within c.brk 0 600))
set_option maxHeartbeats 4000000 in
set_option maxRecDepth 100000 in
theorem isCouple_spec (c : Cp) : APure Try.prog 87 [.agg (encCp c)] (.bool (cpOk c)) := by
  have s1 := within_spec c.id 0 9999
  have s2 := isSpan_spec c.eLo c.eHi (-50) 50
  have s3 := isSpan_spec c.lLo c.lHi 0 3
  have s4 := within_spec c.brk 0 600
  cases h1 : within c.id 0 9999
  · rw [h1] at s1
    exact APure.vc Try.func87 rfl (.call (.bool false) .nil) rfl rfl ⟨s1, rB (by simp [cpOk, h1])⟩
  · rw [h1] at s1
    cases h2 : spanB c.eLo c.eHi (-50) 50
    · rw [h2] at s2
      exact APure.vc Try.func87 rfl (.call (.bool true) <| .call (.bool false) .nil) rfl rfl ⟨s1, s2, rB (by simp [cpOk, h2])⟩
    · rw [h2] at s2
      cases h3 : spanB c.lLo c.lHi 0 3
      · rw [h3] at s3
        exact APure.vc Try.func87 rfl (.call (.bool true) <| .call (.bool true) <| .call (.bool false) .nil) rfl rfl ⟨s1, s2, s3, rB (by simp [cpOk, h3])⟩
      · rw [h3] at s3
        exact APure.vc Try.func87 rfl (.call (.bool true) <| .call (.bool true) <| .call (.bool true) <| .call (.bool (within c.brk 0 600)) .nil) rfl rfl ⟨s1, s2, s3, s4, rB (by simp [cpOk, h1, h2, h3])⟩
def cpAt (l : List Cp) (i : Nat) : Bool := match l[i]? with
  | some c => cpOk c && (i == 0 || (match l[i-1]? with | some b => decide (b.id < c.id) | none => false))
  | none => false
def cpsB (l : List Cp) : Bool := within l.length 1 8 && (List.range l.length).all (cpAt l)
theorem all_bad {p : Nat → Bool} {n k : Nat} (hk : k < n) (h : p k = false) : (List.range n).all p = false := by
  rw [List.all_eq_false]; exact ⟨k, List.mem_range.2 hk, by simp [h]⟩
theorem all_ok {p : Nat → Bool} {n k : Nat} (hk : n ≤ k) (h : ∀ i, i < k → p i = true) : (List.range n).all p = true := by
  rw [List.all_eq_true]; intro x hx; exact h x (Nat.lt_of_lt_of_le (List.mem_range.1 hx) hk)
theorem cpAt_zero {l : List Cp} {c : Cp} (h : l[0]? = some c) : cpAt l 0 = cpOk c := by unfold cpAt; rw [h]; simp
theorem cpAt_succ {l : List Cp} {b c : Cp} {j : Nat} (h : l[j + 1]? = some c) (hb : l[j]? = some b) : cpAt l (j + 1) = (cpOk c && decide (b.id < c.id)) := by unfold cpAt; rw [h]; simp [hb]
theorem cpAt_bad {l : List Cp} {c : Cp} {j : Nat} (h : l[j]? = some c) (hb : cpOk c = false) : cpAt l j = false := by unfold cpAt; rw [h]; simp [hb]
/-- An element by an index. -/
theorem idx {α : Type} {l : List α} {enc : α → List AV} {k : Nat} {a : α} (h : l[k]? = some a) : 0 ≤ (k : Int) ∧ (l.map enc)[(k : Int).toNat]? = some (enc a) := ⟨Int.natCast_nonneg _, by rw [Int.toNat_natCast, List.getElem?_map, h]; rfl⟩
theorem idxW {α : Type} {l : List α} {enc : α → List AV} {k : Nat} {a : α} {n : Int} (hn : n = (k : Int)) (h : l[k]? = some a) : 0 ≤ n ∧ (l.map enc)[n.toNat]? = some (enc a) := by subst hn; exact idx h
theorem getE {α : Type} {l : List α} {k : Nat} (h : k < l.length) : ∃ a, l[k]? = some a := ⟨_, List.getElem?_eq_getElem h⟩
set_option maxHeartbeats 4000000 in
set_option maxRecDepth 100000 in
theorem areCouples_spec (l : List Cp) : APure Try.prog 71 [.lst 6 (l.map encCp)] (.bool (cpsB l)) := by
  have hA : APure Try.prog 45 [.int .i64 ((l.map encCp).length : Int), .int .i64 1, .int .i64 8] (.bool (within l.length 1 8)) := by
    have := within_spec l.length 1 8
    simpa using this
  cases hw : within l.length 1 8
  · rw [hw] at hA
    exact APure.vc Try.func71 rfl (.call (.bool false) .nil) rfl rfl ⟨hA, rB (by simp [cpsB, hw])⟩
  · rw [hw] at hA
    have hlen := within_iff.1 hw
    refine APure.vc Try.func71 rfl (.call (.bool true) .loop) rfl rfl ⟨hA, ?_⟩
    intro g hn hl
    refine acode_while (fun k : Nat => ⟨[(0, .lst 6 (l.map encCp)), (9, .lst 6 (l.map encCp)), (10, .int .i64 (l.map encCp).length), (11, .int .i64 k)], [], 0⟩) (fun k => k ≤ l.length ∧ ∀ i, i < k → cpAt l i = true) (fun k => l.length - k) 0 ⟨Nat.zero_le _, fun i hi => absurd hi (Nat.not_lt_zero _)⟩ ?_ (fun _ _ => hl) ?_
    · exact St.le.of ⟨rfl, rfl, rfl, rfl, rfl, rfl, rfl, rfl, trivial⟩ trivial
    · rintro k ⟨hk1, hk2⟩
      by_cases hlt : k < l.length
      · obtain ⟨c, hc⟩ := getE hlt
        have h12 : decide ((k : Int) < ((l.map encCp).length : Int)) = true := by simpa using hlt
        have sC := isCouple_spec c
        have h2 : IntKind.i64.wrap ((k : Int) + 1) = ((k + 1 : Nat) : Int) := wrap64 (by omega) (by omega)
        have step : cpAt l k = true → ∀ i, i < k + 1 → cpAt l i = true := fun h i hi => by
          rcases Nat.lt_succ_iff_lt_or_eq.1 hi with h' | rfl
          · exact hk2 i h'
          · exact h
        cases hA : cpOk c
        · rw [hA] at sC
          exact ACode.vc (.br 12 true <| .cells (encCp c) <| .draw 15 <| .call (.bool false) .nil) hn hl (.round .cl) ⟨h12, idx hc, by kernel_rfl, mixed, by kernel_rfl, sC, by kernel_rfl, _, .refl _, .nil, rB (by simp [cpsB, all_bad hlt (cpAt_bad hc hA)])⟩
        · rw [hA] at sC
          rcases Nat.eq_zero_or_pos k with h0 | h0
          · subst h0
            exact ACode.vc (.br 12 true <| .cells (encCp c) <| .draw 15 <| .call (.bool true) <| .br 22 false .nil) hn hl (.round .cl) ⟨h12, idx hc, by kernel_rfl, mixed, by kernel_rfl, sC, (by rfl : decide (((0 : Nat) : Int) > 0) = false), by kernel_rfl, 0 + 1, ⟨by omega, step (by rw [cpAt_zero hc, hA])⟩, (by show l.length - (0 + 1) < l.length - 0; omega), St.le.of ⟨rfl, rfl, rfl, rfl, rfl, rfl, congrArg _ h2, rfl, trivial⟩ trivial⟩
          · obtain ⟨j, rfl⟩ : ∃ j, k = j + 1 := ⟨k - 1, by omega⟩
            obtain ⟨b, hb⟩ := getE (show j < l.length by omega)
            have e1 : IntKind.i64.wrap (((j + 1 : Nat) : Int) - 1) = (j : Int) := by rw [wrap64 (by omega) (by omega)]; omega
            have h40 : decide (((j + 1 : Nat) : Int) > 0) = true := decide_eq_true (by omega)
            refine ACode.vc (.br 12 true <| .cells (encCp c) <| .draw 15 <| .call (.bool true) <| .br 22 true <| .cells (encCp b) <| .both 33 .nil .nil) hn hl (.round .cl)
              ⟨h12, idx hc, by kernel_rfl, mixed, by kernel_rfl, sC, h40, idxW e1 hb, by kernel_rfl, fun h => ⟨_, .refl _, .nil, rB ?_⟩, fun h => ⟨j + 1 + 1, ⟨by omega, step ?_⟩, (by show l.length - (j + 1 + 1) < l.length - (j + 1); omega), St.le.of ⟨rfl, rfl, rfl, rfl, rfl, rfl, congrArg _ h2, rfl, trivial⟩ trivial⟩⟩
            · have : cpAt l (j + 1) = false := by rw [cpAt_succ hc hb]; simp at h; simp; omega
              simp [cpsB, all_bad hlt this]
            · rw [cpAt_succ hc hb, hA]; simp at h; simp; omega
      · refine ACode.vc (.br 12 false .nil) hn hl (.round .cl) ⟨(?_ : decide ((k : Int) < ((l.map encCp).length : Int)) = false), _, .refl _, .nil, rB ?_⟩
        · simpa using hlt
        · simp [cpsB, hw, all_ok (show l.length ≤ k by omega) hk2]
end Go.Proofs.Yticiopkiikcokaa
