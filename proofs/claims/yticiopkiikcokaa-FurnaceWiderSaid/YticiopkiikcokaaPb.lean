import Derived.Test.YticiopkiikcokaaPa
namespace Go.Proofs.Yticiopkiikcokaa
open Go Go.Am
def spanB (lo hi a b : Int) : Bool := decide (a ≤ lo ∧ lo ≤ hi ∧ hi ≤ b)
theorem spanB_iff {lo hi a b : Int} : spanB lo hi a b = true ↔ a ≤ lo ∧ lo ≤ hi ∧ hi ≤ b := by simp [spanB]
structure Cp where
  id : Int
  eLo : Int
  eHi : Int
  lLo : Int
  lHi : Int
  brk : Int
def encCp (c : Cp) : List AV := [.int .i64 c.id, .int .i64 c.eLo, .int .i64 c.eHi, .int .i64 c.lLo, .int .i64 c.lHi, .int .i64 c.brk]
structure Rw where
  deg : List Int
  press : Int
def encD (d : Int) : List AV := [.int .i64 d]
def encRw (r : Rw) : List AV := [.lst 1 (r.deg.map encD), .int .i64 r.press]
structure Rn where
  id : Int
  curve : List Pt
  cps : List Cp
  rows : List Rw
  gLo : Int
  gHi : Int
def runL (r : Rn) : List AV := [.int .i64 r.id, .lst 2 (r.curve.map encPt), .lst 6 (r.cps.map encCp), .lst 2 (r.rows.map encRw), .int .i64 r.gLo, .int .i64 r.gHi]
def encRn (r : Rn) : AV := .agg (runL r)
set_option maxHeartbeats 4000000 in
set_option maxRecDepth 100000 in
theorem isSpan_spec (lo hi a b : Int) : APure Try.prog 70 [.agg [.int .i64 lo, .int .i64 hi], .int .i64 a, .int .i64 b] (.bool (spanB lo hi a b)) := by
  refine APure.vc Try.func70 rfl (.both 11 (.both 18 .nil .nil) .nil) rfl rfl ⟨fun h1 => ⟨fun h2 => rB ?_, fun h2 => rB ?_⟩, fun h1 => rB ?_⟩
  · simp at h1 h2; simp [spanB, h1, h2]
  · simp at h1 h2; simp [spanB]; omega
  · simp at h1; simp [spanB]; omega
set_option maxHeartbeats 4000000 in
set_option maxRecDepth 100000 in
theorem spanned_spec (lo hi a b : Int) : APure Try.prog 76 [.agg [.int .i64 lo, .int .i64 hi], .int .i64 a, .int .i64 b] (.bool (spanB lo hi a b)) := by
  refine APure.vc Try.func76 rfl (.both 11 (.both 18 .nil .nil) .nil) rfl rfl ⟨fun h1 => ⟨fun h2 => rB ?_, fun h2 => rB ?_⟩, fun h1 => rB ?_⟩
  · simp at h1 h2; simp [spanB, h1, h2]
  · simp at h1 h2; simp [spanB]; omega
  · simp at h1; simp [spanB]; omega
def cpOk (c : Cp) : Bool := within c.id 0 9999 && (spanB c.eLo c.eHi (-50) 50 && (spanB c.lLo c.lHi 0 3 && within c.brk 0 600))
set_option maxHeartbeats 4000000 in
set_option maxRecDepth 100000 in
theorem isCouple_spec (c : Cp) : APure Try.prog 87 [.agg (encCp c)] (.bool (cpOk c)) := by
  have s1 := within_spec c.id 0 9999
  have s2 := isSpan_spec c.eLo c.eHi (-50) 50
  have s3 := isSpan_spec c.lLo c.lHi 0 3
  have s4 := within_spec c.brk 0 600
  cases h1 : within c.id 0 9999
  · rw [h1] at s1
    exact APure.vc Try.func87 rfl (.call (.bool false) .nil) rfl rfl ⟨s1, rB (by simp [cpOk, h1])⟩
  · rw [h1] at s1
    cases h2 : spanB c.eLo c.eHi (-50) 50
    · rw [h2] at s2
      exact APure.vc Try.func87 rfl (.call (.bool true) <| .call (.bool false) .nil) rfl rfl ⟨s1, s2, rB (by simp [cpOk, h2])⟩
    · rw [h2] at s2
      cases h3 : spanB c.lLo c.lHi 0 3
      · rw [h3] at s3
        exact APure.vc Try.func87 rfl (.call (.bool true) <| .call (.bool true) <| .call (.bool false) .nil) rfl rfl ⟨s1, s2, s3, rB (by simp [cpOk, h3])⟩
      · rw [h3] at s3
        exact APure.vc Try.func87 rfl (.call (.bool true) <| .call (.bool true) <| .call (.bool true) <| .call (.bool (within c.brk 0 600)) .nil) rfl rfl ⟨s1, s2, s3, s4, rB (by simp [cpOk, h1, h2, h3])⟩
def cpAt (l : List Cp) (i : Nat) : Bool := match l[i]? with
  | some c => cpOk c && (i == 0 || (match l[i-1]? with | some b => decide (b.id < c.id) | none => false))
  | none => false
def cpsB (l : List Cp) : Bool := within l.length 1 8 && (List.range l.length).all (cpAt l)
theorem all_bad {p : Nat → Bool} {n k : Nat} (hk : k < n) (h : p k = false) : (List.range n).all p = false := by
  rw [List.all_eq_false]; exact ⟨k, List.mem_range.2 hk, by simp [h]⟩
theorem all_ok {p : Nat → Bool} {n k : Nat} (hk : n ≤ k) (h : ∀ i, i < k → p i = true) : (List.range n).all p = true := by
  rw [List.all_eq_true]; intro x hx; exact h x (Nat.lt_of_lt_of_le (List.mem_range.1 hx) hk)
theorem cpAt_zero {l : List Cp} {c : Cp} (h : l[0]? = some c) : cpAt l 0 = cpOk c := by unfold cpAt; rw [h]; simp
theorem cpAt_succ {l : List Cp} {b c : Cp} {j : Nat} (h : l[j + 1]? = some c) (hb : l[j]? = some b) : cpAt l (j + 1) = (cpOk c && decide (b.id < c.id)) := by unfold cpAt; rw [h]; simp [hb]
theorem cpAt_bad {l : List Cp} {c : Cp} {j : Nat} (h : l[j]? = some c) (hb : cpOk c = false) : cpAt l j = false := by unfold cpAt; rw [h]; simp [hb]
/-- An element by an index. -/
theorem idx {α : Type} {l : List α} {enc : α → List AV} {k : Nat} {a : α} (h : l[k]? = some a) : 0 ≤ (k : Int) ∧ (l.map enc)[(k : Int).toNat]? = some (enc a) := ⟨Int.natCast_nonneg _, by rw [Int.toNat_natCast, List.getElem?_map, h]; rfl⟩
theorem idxW {α : Type} {l : List α} {enc : α → List AV} {k : Nat} {a : α} {n : Int} (hn : n = (k : Int)) (h : l[k]? = some a) : 0 ≤ n ∧ (l.map enc)[n.toNat]? = some (enc a) := by subst hn; exact idx h
theorem getE {α : Type} {l : List α} {k : Nat} (h : k < l.length) : ∃ a, l[k]? = some a := ⟨_, List.getElem?_eq_getElem h⟩
set_option maxHeartbeats 4000000 in
set_option maxRecDepth 100000 in
theorem areCouples_spec (l : List Cp) : APure Try.prog 71 [.lst 6 (l.map encCp)] (.bool (cpsB l)) := by
  have hA : APure Try.prog 45 [.int .i64 ((l.map encCp).length : Int), .int .i64 1, .int .i64 8] (.bool (within l.length 1 8)) := by
    have := within_spec l.length 1 8
    simpa using this
  cases hw : within l.length 1 8
  · rw [hw] at hA
    exact APure.vc Try.func71 rfl (.call (.bool false) .nil) rfl rfl ⟨hA, rB (by simp [cpsB, hw])⟩
  · rw [hw] at hA
    have hlen := within_iff.1 hw
    refine APure.vc Try.func71 rfl (.call (.bool true) .loop) rfl rfl ⟨hA, ?_⟩
    intro g hn hl
    refine acode_while (fun k : Nat => ⟨[(0, .lst 6 (l.map encCp)), (9, .lst 6 (l.map encCp)), (10, .int .i64 (l.map encCp).length), (11, .int .i64 k)], [], 0⟩) (fun k => k ≤ l.length ∧ ∀ i, i < k → cpAt l i = true) (fun k => l.length - k) 0 ⟨Nat.zero_le _, fun i hi => absurd hi (Nat.not_lt_zero _)⟩ ?_ (fun _ _ => hl) ?_
    · exact St.le.of ⟨rfl, rfl, rfl, rfl, rfl, rfl, rfl, rfl, trivial⟩ trivial
    · rintro k ⟨hk1, hk2⟩
      by_cases hlt : k < l.length
      · obtain ⟨c, hc⟩ := getE hlt
        have h12 : decide ((k : Int) < ((l.map encCp).length : Int)) = true := by simpa using hlt
        have sC := isCouple_spec c
        have h2 : IntKind.i64.wrap ((k : Int) + 1) = ((k + 1 : Nat) : Int) := wrap64 (by omega) (by omega)
        have step : cpAt l k = true → ∀ i, i < k + 1 → cpAt l i = true := fun h i hi => by
          rcases Nat.lt_succ_iff_lt_or_eq.1 hi with h' | rfl
          · exact hk2 i h'
          · exact h
        cases hA : cpOk c
        · rw [hA] at sC
          exact ACode.vc (.br 12 true <| .cells (encCp c) <| .draw 15 <| .call (.bool false) .nil) hn hl (.round .cl) ⟨h12, idx hc, by kernel_rfl, mixed, by kernel_rfl, sC, by kernel_rfl, _, .refl _, .nil, rB (by simp [cpsB, all_bad hlt (cpAt_bad hc hA)])⟩
        · rw [hA] at sC
          rcases Nat.eq_zero_or_pos k with h0 | h0
          · subst h0
            exact ACode.vc (.br 12 true <| .cells (encCp c) <| .draw 15 <| .call (.bool true) <| .br 22 false .nil) hn hl (.round .cl) ⟨h12, idx hc, by kernel_rfl, mixed, by kernel_rfl, sC, (by rfl : decide (((0 : Nat) : Int) > 0) = false), by kernel_rfl, 0 + 1, ⟨by omega, step (by rw [cpAt_zero hc, hA])⟩, (by show l.length - (0 + 1) < l.length - 0; omega), St.le.of ⟨rfl, rfl, rfl, rfl, rfl, rfl, congrArg _ h2, rfl, trivial⟩ trivial⟩
          · obtain ⟨j, rfl⟩ : ∃ j, k = j + 1 := ⟨k - 1, by omega⟩
            obtain ⟨b, hb⟩ := getE (show j < l.length by omega)
            have e1 : IntKind.i64.wrap (((j + 1 : Nat) : Int) - 1) = (j : Int) := by rw [wrap64 (by omega) (by omega)]; omega
            have h40 : decide (((j + 1 : Nat) : Int) > 0) = true := decide_eq_true (by omega)
            refine ACode.vc (.br 12 true <| .cells (encCp c) <| .draw 15 <| .call (.bool true) <| .br 22 true <| .cells (encCp b) <| .both 33 .nil .nil) hn hl (.round .cl)
              ⟨h12, idx hc, by kernel_rfl, mixed, by kernel_rfl, sC, h40, idxW e1 hb, by kernel_rfl, fun h => ⟨_, .refl _, .nil, rB ?_⟩, fun h => ⟨j + 1 + 1, ⟨by omega, step ?_⟩, (by show l.length - (j + 1 + 1) < l.length - (j + 1); omega), St.le.of ⟨rfl, rfl, rfl, rfl, rfl, rfl, congrArg _ h2, rfl, trivial⟩ trivial⟩⟩
            · have : cpAt l (j + 1) = false := by rw [cpAt_succ hc hb]; simp at h; simp; omega
              simp [cpsB, all_bad hlt this]
            · rw [cpAt_succ hc hb, hA]; simp at h; simp; omega
      · refine ACode.vc (.br 12 false .nil) hn hl (.round .cl) ⟨(?_ : decide ((k : Int) < ((l.map encCp).length : Int)) = false), _, .refl _, .nil, rB ?_⟩
        · simpa using hlt
        · simp [cpsB, hw, all_ok (show l.length ≤ k by omega) hk2]
end Go.Proofs.Yticiopkiikcokaa
namespace Go.Proofs.Yticiopkiikcokaa
open Go Go.Am
def degAt (l : List Int) (i : Nat) : Bool := match l[i]? with
  | some d => within d 0 2000
  | none => false
def degsB (l : List Int) : Bool := (List.range l.length).all (degAt l)
def rowOk (n : Int) (r : Rw) : Bool := decide ((r.deg.length : Int) = n) && (within r.press (-100) 100 && degsB r.deg)
def rowAt (l : List Rw) (n : Int) (i : Nat) : Bool := match l[i]? with
  | some r => rowOk n r
  | none => false
def rowsB (l : List Rw) (n : Int) : Bool := (List.range l.length).all (rowAt l n)
theorem rowAt_some {l : List Rw} {n : Int} {i : Nat} {r : Rw} (h : l[i]? = some r) : rowAt l n i = rowOk n r := by unfold rowAt; rw [h]
theorem degAt_some {l : List Int} {i : Nat} {r : Int} (h : l[i]? = some r) : degAt l i = within r 0 2000 := by unfold degAt; rw [h]
theorem step_all {p : Nat → Bool} {k : Nat} (h : ∀ i, i < k → p i = true) (hk : p k = true) : ∀ i, i < k + 1 → p i = true := fun i hi => by
  rcases Nat.lt_succ_iff_lt_or_eq.1 hi with h' | rfl
  · exact h i h'
  · exact hk
theorem ltLen {α : Type} {l : List α} {enc : α → List AV} {k : Nat} (h : k < l.length) : decide ((k : Int) < ((l.map enc).length : Int)) = true := by simpa using h
theorem geLen {α : Type} {l : List α} {enc : α → List AV} {k : Nat} (h : ¬ k < l.length) : decide ((k : Int) < ((l.map enc).length : Int)) = false := by simpa using h
theorem succ64 {k : Nat} (h : k < 1000000) : IntKind.i64.wrap ((k : Int) + 1) = ((k + 1 : Nat) : Int) := wrap64 (by omega) (by omega)
theorem pred64 {j : Nat} (h : j < 1000000) : IntKind.i64.wrap (((j + 1 : Nat) : Int) - 1) = (j : Int) := by rw [wrap64 (by omega) (by omega)]; omega
theorem mu1 {n k : Nat} (h : k < n) : n - (k + 1) < n - k := by omega
set_option maxHeartbeats 4000000 in
set_option maxRecDepth 100000 in
theorem areRows_spec (l : List Rw) (n : Int) (hl1 : l.length ≤ 1000) (hn1 : n ≤ 1000) : APure Try.prog 72 [.lst 2 (l.map encRw), .int .i64 n] (.bool (rowsB l n)) := by
  refine APure.vc Try.func72 rfl .loop rfl rfl ?_
  intro g hn hl
  refine acode_while (fun k : Nat => ⟨[(0, .lst 2 (l.map encRw)), (1, .int .i64 n), (5, .int .i64 k), (10, .lst 2 (l.map encRw)), (11, .int .i64 (l.map encRw).length), (12, .int .i64 k)], [], 0⟩) (fun k => k ≤ l.length ∧ ∀ i, i < k → rowAt l n i = true) (fun k => l.length - k) 0 ⟨Nat.zero_le _, fun i hi => absurd hi (Nat.not_lt_zero _)⟩ ?_ (fun _ _ => hl) ?_
  · exact St.le.of ⟨rfl, rfl, rfl, rfl, rfl, rfl, rfl, rfl, rfl, rfl, rfl, rfl, trivial⟩ trivial
  · rintro k ⟨hk1, hk2⟩
    by_cases hlt : k < l.length
    · obtain ⟨r, hr⟩ := getE hlt
      have bad : rowAt l n k = false → ((k : Int) == ((l.map encRw).length : Int)) = rowsB l n := fun h => by
        rw [rowsB, all_bad hlt h, List.length_map, beq_eq_false_iff_ne]; omega
      have s1 := within_spec r.press (-100) 100
      refine ACode.vc (.br 13 true <| .cells (encRw r) <| .both 21 .nil <| .call (.bool (within r.press (-100) 100)) <| .both 26 .nil .loop) hn hl (.round .cl)
        ⟨ltLen hlt, idx hr, fun h => ⟨_, .refl _, .nil, rB (bad ?_)⟩, fun h1 => ⟨s1, fun h2 => ⟨_, .refl _, .nil, rB (bad ?_)⟩, fun h2 => ?_⟩⟩
      · rw [rowAt_some hr]; simp at h; simp [rowOk, h]
      · rw [rowAt_some hr]; simp at h2; simp [rowOk, h2]
      · intro g hn hl
        simp at h1 h2
        refine acode_while (fun i : Nat => ⟨[(0, .lst 2 (l.map encRw)), (1, .int .i64 n), (5, .int .i64 k), (10, .lst 2 (l.map encRw)), (11, .int .i64 (l.map encRw).length), (12, .int .i64 k), (28, .lst 1 (r.deg.map encD)), (29, .int .i64 (r.deg.map encD).length), (30, .int .i64 i)], [], 0⟩) (fun i => i ≤ r.deg.length ∧ ∀ j, j < i → degAt r.deg j = true) (fun i => r.deg.length - i) 0 ⟨Nat.zero_le _, fun i hi => absurd hi (Nat.not_lt_zero _)⟩ ?_ (fun _ _ => hl) ?_
        · exact St.le.of ⟨rfl, rfl, rfl, rfl, rfl, rfl, rfl, rfl, rfl, rfl, rfl, rfl, rfl, rfl, rfl, rfl, rfl, rfl, trivial⟩ trivial
        · rintro i ⟨hi1, hi2⟩
          by_cases hit : i < r.deg.length
          · obtain ⟨d, hd⟩ := getE hit
            have s2 := within_spec d 0 2000
            refine ACode.vc (.br 31 true <| .cells (encD d) <| .call (.bool (within d 0 2000)) <| .both 36 .nil .nil) hn hl (.round .cl)
              ⟨ltLen hit, idx hd, s2, fun h => ⟨_, .refl _, .nil, _, .refl _, .nil, rB (bad ?_)⟩, fun h => ⟨i + 1, ⟨hit, step_all hi2 ?_⟩, mu1 hit, St.le.of ⟨rfl, rfl, rfl, rfl, rfl, rfl, rfl, rfl, rfl, rfl, rfl, rfl, rfl, rfl, rfl, rfl, congrArg _ (succ64 (by omega)), rfl, trivial⟩ trivial⟩⟩
            · simp at h
              have : degsB r.deg = false := all_bad hit (by rw [degAt_some hd, h])
              rw [rowAt_some hr]; simp [rowOk, this]
            · simp at h; rw [degAt_some hd, h]
          · refine ACode.vc (.br 31 false .nil) hn hl (.round .cl) ⟨geLen hit, _, .refl _, .nil, k + 1, ⟨hlt, step_all hk2 ?_⟩, mu1 hlt, St.le.of ⟨rfl, rfl, rfl, rfl, congrArg _ (succ64 (by omega)), rfl, rfl, rfl, rfl, rfl, congrArg _ (succ64 (by omega)), rfl, trivial⟩ trivial⟩
            rw [rowAt_some hr]
            have : degsB r.deg = true := all_ok (by omega) hi2
            simp [rowOk, h1, h2, this]
    · refine ACode.vc (.br 13 false .nil) hn hl (.round .cl) ⟨geLen hlt, _, .refl _, .nil, rB ?_⟩
      have : k = l.length := by omega
      subst this
      rw [rowsB, all_ok (Nat.le_refl _) hk2, List.length_map]; simp
end Go.Proofs.Yticiopkiikcokaa
namespace Go.Proofs.Yticiopkiikcokaa
open Go Go.Am
def lastM (l : List Pt) : Int := match l[l.length - 1]? with
  | some p => p.m
  | none => 0
theorem lastM_some {l : List Pt} {p : Pt} (h : l[l.length - 1]? = some p) : lastM l = p.m := by unfold lastM; rw [h]
theorem lastM_spec {l : List Pt} (hc : curveB l = true) : APure Try.prog 46 [.lst 2 (l.map encPt)] (.int .i64 (lastM l)) := by
  obtain ⟨hlen, _⟩ := curveB_out hc
  obtain ⟨p, hp⟩ := getE (show l.length - 1 < l.length by omega)
  rw [lastM_some hp]
  exact lastMinute_spec l p hp (by omega) (by omega)
def cap60 (n : Int) : Int := if n < 60 then n else 60
def runB (r : Rn) : Bool := within r.id 0 9999 && (curveB r.curve && (spanB r.gLo r.gHi (-20) 20 && (cpsB r.cps && (within r.rows.length 1 (cap60 (lastM r.curve)) && rowsB r.rows r.cps.length))))
theorem cps_len {l : List Cp} (h : cpsB l = true) : 1 ≤ l.length ∧ l.length ≤ 8 := by
  simp only [cpsB, Bool.and_eq_true] at h
  have := within_iff.1 h.1; omega
theorem cap60_le (n : Int) : cap60 n ≤ 60 := by unfold cap60; split <;> omega
set_option maxHeartbeats 8000000 in
set_option maxRecDepth 100000 in
theorem isRun_spec (r : Rn) : APure Try.prog 50 [encRn r] (.bool (runB r)) := by
  have s1 := within_spec r.id 0 9999
  have s2 := isCurve_spec r.curve
  have s3 := isSpan_spec r.gLo r.gHi (-20) 20
  have s4 := areCouples_spec r.cps
  have s6 : APure Try.prog 45 [.int .i64 ((r.rows.map encRw).length : Int), .int .i64 1, .int .i64 (cap60 (lastM r.curve))] (.bool (within r.rows.length 1 (cap60 (lastM r.curve)))) := by
    rw [List.length_map]; exact within_spec _ _ _
  have s7 : r.rows.length ≤ 1000 → r.cps.length ≤ 1000 → APure Try.prog 72 [.lst 2 (r.rows.map encRw), .int .i64 ((r.cps.map encCp).length : Int)] (.bool (rowsB r.rows r.cps.length)) := fun h1 h2 => by
    rw [List.length_map]; exact areRows_spec _ _ h1 (by omega)
  refine APure.vc Try.func50 rfl (.draw 34 <| .call (.bool (within r.id 0 9999)) <| .both 6 (.call (.bool (curveB r.curve)) <| .both 11 (.call (.bool (spanB r.gLo r.gHi (-20) 20)) <| .both 16 (.call (.bool (cpsB r.cps)) <|
      .both 21 (.call (.int .i64 (lastM r.curve)) <| .call (.bool (within r.rows.length 1 (cap60 (lastM r.curve)))) <| .both 31 (.call (.bool (rowsB r.rows r.cps.length)) .nil) .nil) .nil) .nil) .nil) .nil) rfl rfl
    ⟨by kernel_rfl, mixed, by kernel_rfl, s1, fun h1 => ⟨s2, fun h2 => ⟨s3, fun h3 => ⟨s4, fun h4 => ⟨lastM_spec h2, s6, fun h5 => ⟨by kernel_rfl, s7 ?_ ?_, rB ?_⟩, fun h5 => ⟨by kernel_rfl, rB ?_⟩⟩, fun h4 => ⟨by kernel_rfl, rB ?_⟩⟩, fun h3 => ⟨by kernel_rfl, rB ?_⟩⟩, fun h2 => ⟨by kernel_rfl, rB ?_⟩⟩, fun h1 => ⟨by kernel_rfl, rB ?_⟩⟩
  · have := within_iff.1 h5; have := cap60_le (lastM r.curve); omega
  · have := cps_len h4; omega
  · simp [runB, h1, h2, h3, h4, h5]
  · simp [runB, h1, h2, h3, h4, h5]
  · simp [runB, h1, h2, h3, h4]
  · simp [runB, h1, h2, h3]
  · simp [runB, h1, h2]
  · simp [runB, h1]
end Go.Proofs.Yticiopkiikcokaa
namespace Go.Proofs.Yticiopkiikcokaa
open Go Go.Am
structure Sp where
  f : Int
  p : Int
def encSp (s : Sp) : List AV := [.int .i64 s.f, .int .i64 s.p]
structure Ru where
  steps : List Sp
  single : Int
  sFrom : Int
  pLo : Int
  pHi : Int
  pFrom : Int
def ruL (u : Ru) : List AV := [.lst 2 (u.steps.map encSp), .int .i64 u.single, .int .i64 u.sFrom, .int .i64 u.pLo, .int .i64 u.pHi, .int .i64 u.pFrom]
def encRu (u : Ru) : AV := .agg (ruL u)
def spOk (s : Sp) : Bool := within s.f 1 600 && within s.p 0 1000
def spAt (l : List Sp) (i : Nat) : Bool := match l[i]? with
  | some c => spOk c && (i == 0 || (match l[i-1]? with | some b => decide (b.f < c.f) | none => false))
  | none => false
def stepsB (l : List Sp) : Bool := decide (l.length ≤ 5) && (List.range l.length).all (spAt l)
theorem spAt_zero {l : List Sp} {c : Sp} (h : l[0]? = some c) : spAt l 0 = spOk c := by unfold spAt; rw [h]; simp
theorem spAt_succ {l : List Sp} {b c : Sp} {j : Nat} (h : l[j + 1]? = some c) (hb : l[j]? = some b) : spAt l (j + 1) = (spOk c && decide (b.f < c.f)) := by unfold spAt; rw [h]; simp [hb]
theorem spAt_bad {l : List Sp} {c : Sp} {j : Nat} (h : l[j]? = some c) (hb : spOk c = false) : spAt l j = false := by unfold spAt; rw [h]; simp [hb]
set_option maxHeartbeats 8000000 in
set_option maxRecDepth 100000 in
theorem areSteps_spec (l : List Sp) : APure Try.prog 78 [.lst 2 (l.map encSp)] (.bool (stepsB l)) := by
  refine APure.vc Try.func78 rfl (.both 7 .nil .loop) rfl rfl ⟨fun h => rB ?_, fun h => ?_⟩
  · simp at h; simp [stepsB]; intro h'; omega
  · simp at h
    intro g hn hl
    refine acode_while (fun k : Nat => ⟨[(0, .lst 2 (l.map encSp)), (8, .lst 2 (l.map encSp)), (9, .int .i64 (l.map encSp).length), (10, .int .i64 k)], [], 0⟩) (fun k => k ≤ l.length ∧ ∀ i, i < k → spAt l i = true) (fun k => l.length - k) 0 ⟨Nat.zero_le _, fun i hi => absurd hi (Nat.not_lt_zero _)⟩ ?_ (fun _ _ => hl) ?_
    · exact St.le.of ⟨rfl, rfl, rfl, rfl, rfl, rfl, rfl, rfl, trivial⟩ trivial
    · rintro k ⟨hk1, hk2⟩
      by_cases hlt : k < l.length
      · obtain ⟨c, hc⟩ := getE hlt
        have s1 := within_spec c.f 1 600
        have s2 := within_spec c.p 0 1000
        have bad : spAt l k = false → false = stepsB l := fun h => by simp [stepsB, all_bad hlt h]
        rcases Nat.eq_zero_or_pos k with h0 | h0
        · subst h0
          refine ACode.vc (.br 11 true <| .cells (encSp c) <| .call (.bool (within c.f 1 600)) <| .both 19 .nil <| .call (.bool (within c.p 0 1000)) <| .both 24 .nil <| .draw 11 <| .br 27 false .nil) hn hl (.round .cl)
            ⟨ltLen hlt, idx hc, s1, fun h1 => ⟨_, .refl _, .nil, rB (bad ?_)⟩, fun h1 => ⟨s2, fun h2 => ⟨_, .refl _, .nil, rB (bad ?_)⟩, fun h2 => ⟨by kernel_rfl, mixed, by kernel_rfl, (by rfl : decide (((0 : Nat) : Int) > 0) = false), by kernel_rfl, 0 + 1, ⟨hlt, step_all hk2 ?_⟩, mu1 hlt, St.le.of ⟨rfl, rfl, rfl, rfl, rfl, rfl, congrArg _ (succ64 (by omega)), rfl, trivial⟩ trivial⟩⟩⟩
          · simp at h1; exact spAt_bad hc (by simp [spOk, h1])
          · simp at h2; exact spAt_bad hc (by simp [spOk, h2])
          · simp at h1 h2; rw [spAt_zero hc]; simp [spOk, h1, h2]
        · obtain ⟨j, rfl⟩ : ∃ j, k = j + 1 := ⟨k - 1, by omega⟩
          obtain ⟨b, hb⟩ := getE (show j < l.length by omega)
          have h40 : decide (((j + 1 : Nat) : Int) > 0) = true := decide_eq_true (by omega)
          refine ACode.vc (.br 11 true <| .cells (encSp c) <| .call (.bool (within c.f 1 600)) <| .both 19 .nil <| .call (.bool (within c.p 0 1000)) <| .both 24 .nil <| .draw 11 <| .br 27 true <| .cells (encSp b) <| .both 37 .nil .nil) hn hl (.round .cl)
            ⟨ltLen hlt, idx hc, s1, fun h1 => ⟨_, .refl _, .nil, rB (bad ?_)⟩, fun h1 => ⟨s2, fun h2 => ⟨_, .refl _, .nil, rB (bad ?_)⟩, fun h2 => ⟨by kernel_rfl, mixed, by kernel_rfl, h40, idxW (pred64 (by omega)) hb, by kernel_rfl, fun h3 => ⟨_, .refl _, .nil, rB (bad ?_)⟩, fun h3 => ⟨j + 1 + 1, ⟨hlt, step_all hk2 ?_⟩, mu1 hlt, St.le.of ⟨rfl, rfl, rfl, rfl, rfl, rfl, congrArg _ (succ64 (by omega)), rfl, trivial⟩ trivial⟩⟩⟩⟩
          · simp at h1; exact spAt_bad hc (by simp [spOk, h1])
          · simp at h2; exact spAt_bad hc (by simp [spOk, h2])
          · simp at h3; rw [spAt_succ hc hb]; simp; intro; omega
          · simp at h1 h2 h3; rw [spAt_succ hc hb]; simp [spOk, h1, h2]; omega
      · refine ACode.vc (.br 11 false .nil) hn hl (.round .cl) ⟨geLen hlt, _, .refl _, .nil, rB ?_⟩
        rw [stepsB, all_ok (show l.length ≤ k by omega) hk2]; simp; omega
def rulesB (u : Ru) : Bool := stepsB u.steps && (within u.single 0 2000 && (within u.sFrom 1 600 && (spanB u.pLo u.pHi (-100) 100 && within u.pFrom 1 600)))
set_option maxHeartbeats 8000000 in
set_option maxRecDepth 100000 in
theorem areRules_spec (u : Ru) : APure Try.prog 56 [encRu u] (.bool (rulesB u)) := by
  have s1 := areSteps_spec u.steps
  have s2 := within_spec u.single 0 2000
  have s3 := within_spec u.sFrom 1 600
  have s4 := isSpan_spec u.pLo u.pHi (-100) 100
  have s5 := within_spec u.pFrom 1 600
  refine APure.vc Try.func56 rfl (.call (.bool (stepsB u.steps)) <| .both 6 (.call (.bool (within u.single 0 2000)) <| .both 11 (.call (.bool (within u.sFrom 1 600)) <| .both 16 (.call (.bool (spanB u.pLo u.pHi (-100) 100)) <| .both 21 (.call (.bool (within u.pFrom 1 600)) .nil) .nil) .nil) .nil) .nil) rfl rfl
    ⟨s1, fun h1 => ⟨s2, fun h2 => ⟨s3, fun h3 => ⟨s4, fun h4 => ⟨s5, rB ?_⟩, fun h4 => rB ?_⟩, fun h3 => rB ?_⟩, fun h2 => rB ?_⟩, fun h1 => rB ?_⟩
  · simp [rulesB, h1, h2, h3, h4]
  · simp [rulesB, h1, h2, h3, h4]
  · simp [rulesB, h1, h2, h3]
  · simp [rulesB, h1, h2]
  · simp [rulesB, h1]
def checkI (r : Rn) (u : Ru) : Int := if runB r = true then (if rulesB u = true then 0 else 12) else 11
set_option maxHeartbeats 8000000 in
set_option maxRecDepth 100000 in
theorem check_spec (r : Rn) (u : Ru) : APure Try.prog 20 [encRn r, encRu u] (.int .i64 (checkI r u)) := by
  have s1 := isRun_spec r
  have s2 := areRules_spec u
  refine APure.vc Try.func20 rfl (.call (.bool (runB r)) <| .both 7 .nil <| .call (.bool (rulesB u)) <| .both 10 .nil .nil) rfl rfl ⟨s1, fun h1 => rI ?_, fun h1 => ⟨s2, fun h2 => rI ?_, fun h2 => rI ?_⟩⟩
  · simp at h1; simp [checkI, h1]
  · simp at h1 h2; simp [checkI, h1, h2]
  · simp at h1 h2; simp [checkI, h1, h2]
end Go.Proofs.Yticiopkiikcokaa
