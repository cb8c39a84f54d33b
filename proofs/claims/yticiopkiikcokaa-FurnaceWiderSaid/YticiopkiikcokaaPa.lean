import Derived.Test.YticiopkiikcokaaNTy
import Derived.Test.YticiopkiikcokaaN17
namespace Go.Proofs.Yticiopkiikcokaa
open Go Go.Am
theorem rB {b b' : Bool} (h : b = b') : True ∧ some (AV.bool b) = some (AV.bool b') := ⟨trivial, h ▸ rfl⟩
theorem rI {b b' : Int} {k : IntKind} (h : b = b') : True ∧ some (AV.int k b) = some (AV.int k b') := ⟨trivial, h ▸ rfl⟩
def within (n lo hi : Int) : Bool := decide (lo ≤ n ∧ n ≤ hi)
theorem within_spec (n lo hi : Int) : APure Try.prog 45 [.int .i64 n, .int .i64 lo, .int .i64 hi] (.bool (within n lo hi)) := by
  refine APure.vc Try.func45 rfl (.both 10 .nil .nil) rfl rfl ⟨fun h => rB ?_, fun h => rB ?_⟩
  all_goals simp at h
  all_goals simp [within, h]
  all_goals omega
theorem rwithin_spec (n lo hi : Int) : APure Try.prog 48 [.int .i64 n, .int .i64 lo, .int .i64 hi] (.bool (within n lo hi)) := by
  refine APure.vc Try.func48 rfl (.both 10 .nil .nil) rfl rfl ⟨fun h => rB ?_, fun h => rB ?_⟩
  all_goals simp at h
  all_goals simp [within, h]
  all_goals omega
structure Pt where
  m : Int
  d : Int
def encPt (p : Pt) : List AV := [.int .i64 p.m, .int .i64 p.d]
set_option maxRecDepth 10000 in
theorem lastMinute_spec (l : List Pt) (p : Pt) (hp : l[l.length - 1]? = some p) (hl : 1 ≤ l.length) (hm : l.length ≤ 1000000) : APure Try.prog 46 [.lst 2 (l.map encPt)] (.int .i64 p.m) := by
  refine APure.vc Try.func46 rfl (.cells (encPt p) .nil) rfl rfl ?_
  have e : IntKind.i64.wrap (((l.map encPt).length : Int) - 1) = ((l.length - 1 : Nat) : Int) := by
    rw [List.length_map, wrap64 (by omega) (by omega)]; omega
  refine ⟨(⟨?_, ?_⟩ : 0 ≤ IntKind.i64.wrap (((l.map encPt).length : Int) - 1) ∧ (l.map encPt)[(IntKind.i64.wrap (((l.map encPt).length : Int) - 1)).toNat]? = some (encPt p)), rI rfl⟩
  · rw [e]; exact Int.natCast_nonneg _
  · rw [e, Int.toNat_natCast, List.getElem?_map, hp]; rfl
def okAt (l : List Pt) (i : Nat) : Bool := match l[i]? with
  | some p => within p.m 0 600 && within p.d 0 2000 && (i == 0 || (match l[i-1]? with | some q => decide (q.m < p.m) && decide (q.d ≤ p.d) | none => false))
  | none => false
def curveB (l : List Pt) : Bool := within l.length 2 10 && ((l[0]?).map (·.m) == some 0) && (List.range l.length).all (okAt l)
theorem within_iff {n lo hi : Int} : within n lo hi = true ↔ lo ≤ n ∧ n ≤ hi := by simp [within]
theorem curveB_bad {l : List Pt} {k : Nat} (hk : k < l.length) (h : okAt l k = false) : curveB l = false := by
  have : (List.range l.length).all (okAt l) = false := by
    rw [List.all_eq_false]; exact ⟨k, List.mem_range.2 hk, by simp [h]⟩
  simp [curveB, this]
theorem okAt_zero {l : List Pt} {q : Pt} (hq : l[0]? = some q) : okAt l 0 = (within q.m 0 600 && within q.d 0 2000) := by
  unfold okAt; rw [hq]; simp
theorem okAt_some {l : List Pt} {q : Pt} {k : Nat} (hq : l[k]? = some q) (h : (within q.m 0 600 && within q.d 0 2000) = false) : okAt l k = false := by
  unfold okAt; rw [hq]; simp only [h, Bool.false_and]
theorem okAt_succ {l : List Pt} {q r : Pt} {j : Nat} (hq : l[j + 1]? = some q) (hr : l[j]? = some r) : okAt l (j + 1) = (within q.m 0 600 && within q.d 0 2000 && (decide (r.m < q.m) && decide (r.d ≤ q.d))) := by
  unfold okAt; rw [hq]; simp [hr]

set_option maxHeartbeats 4000000 in
set_option maxRecDepth 100000 in
theorem rCurve_spec (l : List Pt) : APure Try.prog 43 [.lst 2 (l.map encPt)] (.bool (curveB l)) := by
  have hA : APure Try.prog 48 [.int .i64 ((l.map encPt).length : Int), .int .i64 2, .int .i64 10] (.bool (within l.length 2 10)) := by
    have := rwithin_spec l.length 2 10
    simpa using this
  cases hw : within l.length 2 10
  · rw [hw] at hA
    refine APure.vc Try.func43 rfl (.call (.bool false) .nil) rfl rfl ⟨hA, rB ?_⟩
    simp [curveB, hw]
  · rw [hw] at hA
    have hlen := within_iff.1 hw
    obtain ⟨p, hp⟩ : ∃ p, l[0]? = some p := ⟨_, List.getElem?_eq_getElem (by omega)⟩
    have hp' : 0 ≤ (0 : Int) ∧ (l.map encPt)[(0 : Int).toNat]? = some (encPt p) := ⟨Int.le_refl _, by rw [List.getElem?_map]; exact congrArg _ hp⟩
    refine APure.vc Try.func43 rfl (.call (.bool true) (.cells (encPt p) (.both 14 .nil .loop))) rfl rfl ⟨hA, hp', fun h => rB ?_, fun h => ?_⟩
    · simp at h; simp [curveB, hp, hw, h]
    · intro g hn hl
      refine acode_while (fun k : Nat => ⟨[(0, .lst 2 (l.map encPt)), (3, .int .i64 k)], [], 0⟩) (fun k => k ≤ l.length ∧ ∀ i, i < k → okAt l i = true) (fun k => l.length - k) 0 ⟨Nat.zero_le _, fun i hi => absurd hi (Nat.not_lt_zero _)⟩ ?_ (fun _ _ => hl) ?_
      · exact St.le.of ⟨rfl, rfl, rfl, rfl, trivial⟩ trivial
      · intro k hk
        obtain ⟨hk1, hk2⟩ := hk
        by_cases hlt : k < l.length
        · obtain ⟨q, hq⟩ : ∃ q, l[k]? = some q := ⟨_, List.getElem?_eq_getElem hlt⟩
          have hq' : 0 ≤ (k : Int) ∧ (l.map encPt)[(k : Int).toNat]? = some (encPt q) := ⟨Int.natCast_nonneg _, by rw [Int.toNat_natCast, List.getElem?_map, hq]; rfl⟩
          have h18 : decide ((k : Int) < ((l.map encPt).length : Int)) = true := by simpa using hlt
          have sA := rwithin_spec q.m 0 600
          have sB := rwithin_spec q.d 0 2000
          cases hA : within q.m 0 600
          · rw [hA] at sA
            refine ACode.vc (.br 18 true <| .draw 44 (.cells (encPt q) (.call (.bool false) .nil))) hn hl (.round .cl) ⟨h18, by kernel_rfl, mixed, by kernel_rfl, hq', sA, by kernel_rfl, ⟨_, .refl _, .nil, rB ?_⟩⟩
            exact (curveB_bad hlt (okAt_some hq (by simp [hA]))).symm
          · rw [hA] at sA
            cases hB : within q.d 0 2000
            · rw [hB] at sB
              refine ACode.vc (.br 18 true <| .draw 44 (.cells (encPt q) (.call (.bool true) (.cells (encPt q) (.call (.bool false) .nil))))) hn hl (.round .cl) ⟨h18, by kernel_rfl, mixed, by kernel_rfl, hq', sA, hq', sB, by kernel_rfl, ⟨_, .refl _, .nil, rB ?_⟩⟩
              exact (curveB_bad hlt (okAt_some hq (by simp [hB]))).symm
            · rw [hB] at sB
              have h2 : IntKind.i64.wrap ((k : Int) + 1) = ((k + 1 : Nat) : Int) := wrap64 (by omega) (by omega)
              rcases Nat.eq_zero_or_pos k with h0 | h0
              · refine ACode.vc (.br 18 true <| .draw 44 (.cells (encPt q) (.call (.bool true) (.cells (encPt q) (.call (.bool true) (.br 40 false .nil)))))) hn hl (.round .cl)
                  ⟨h18, by kernel_rfl, mixed, by kernel_rfl, hq', sA, hq', sB, (?_ : decide ((k : Int) > 0) = false), by kernel_rfl, ⟨k + 1, ⟨by omega, fun i hi => ?_⟩, (by show l.length - (k + 1) < l.length - k; omega), St.le.of ⟨rfl, rfl, congrArg _ h2, rfl, trivial⟩ trivial⟩⟩
                · simp [h0]
                · have : i = k := by omega
                  subst this
                  subst h0
                  rw [okAt_zero hq, hA, hB]; rfl
              · obtain ⟨j, rfl⟩ : ∃ j, k = j + 1 := ⟨k - 1, by omega⟩
                obtain ⟨r, hr⟩ : ∃ r, l[j]? = some r := ⟨_, List.getElem?_eq_getElem (by omega)⟩
                have e1 : IntKind.i64.wrap (((j + 1 : Nat) : Int) - 1) = (j : Int) := by rw [wrap64 (by omega) (by omega)]; omega
                have hr' : 0 ≤ IntKind.i64.wrap (((j + 1 : Nat) : Int) - 1) ∧ (l.map encPt)[(IntKind.i64.wrap (((j + 1 : Nat) : Int) - 1)).toNat]? = some (encPt r) := by
                  rw [e1]; exact ⟨Int.natCast_nonneg _, by rw [Int.toNat_natCast, List.getElem?_map, hr]; rfl⟩
                have h40 : decide (((j + 1 : Nat) : Int) > 0) = true := decide_eq_true (by omega)
                cases hm : decide (q.m ≤ r.m)
                · refine ACode.vc (.br 18 true <| .draw 44 <| .cells (encPt q) <| .call (.bool true) <| .cells (encPt q) <| .call (.bool true) <| .br 40 true <| .cells (encPt q) <| .cells (encPt r) <| .br 53 false <| .cells (encPt q) <| .cells (encPt r) <| .both 68 .nil .nil) hn hl (.round .cl)
                    ⟨h18, by kernel_rfl, mixed, by kernel_rfl, hq', sA, hq', sB, h40, hq', hr', hm, hq', hr', by kernel_rfl, fun h => ⟨_, .refl _, .nil, rB ?_⟩, fun h => ⟨j + 1 + 1, ⟨by omega, fun i hi => ?_⟩, (by show l.length - (j + 1 + 1) < l.length - (j + 1); omega), St.le.of ⟨rfl, rfl, congrArg _ h2, rfl, trivial⟩ trivial⟩⟩
                  · refine (curveB_bad hlt ?_).symm
                    rw [okAt_succ hq hr]
                    simp only [decide_eq_true_eq] at h
                    simp; omega
                  · rcases Nat.lt_succ_iff_lt_or_eq.1 hi with h' | rfl
                    · exact hk2 i h'
                    · simp only [decide_eq_false_iff_not] at hm h
                      rw [okAt_succ hq hr, hA, hB]
                      simp; omega
                · refine ACode.vc (.br 18 true <| .draw 44 (.cells (encPt q) (.call (.bool true) (.cells (encPt q) (.call (.bool true) (.br 40 true (.cells (encPt q) (.cells (encPt r) (.br 53 true .nil))))))))) hn hl (.round .cl)
                    ⟨h18, by kernel_rfl, mixed, by kernel_rfl, hq', sA, hq', sB, h40, hq', hr', hm, by kernel_rfl, ⟨_, .refl _, .nil, rB ?_⟩⟩
                  refine (curveB_bad hlt ?_).symm
                  rw [okAt_succ hq hr]
                  simp only [decide_eq_true_eq] at hm
                  simp; omega
        · refine ACode.vc (.br 18 false .nil) hn hl (.round .cl) ⟨(?_ : decide ((k : Int) < ((l.map encPt).length : Int)) = false), ⟨_, .refl _, .nil, rB ?_⟩⟩
          · simpa using hlt
          · have : k = l.length := by omega
            subst this
            have : (List.range l.length).all (okAt l) = true := by
              rw [List.all_eq_true]; intro x hx; exact hk2 x (List.mem_range.1 hx)
            simp at h
            simp [curveB, hp, hw, h, this]
end Go.Proofs.Yticiopkiikcokaa
namespace Go.Proofs.Yticiopkiikcokaa
open Go Go.Am
set_option maxHeartbeats 4000000 in
set_option maxRecDepth 100000 in
theorem isCurve_spec (l : List Pt) : APure Try.prog 44 [.lst 2 (l.map encPt)] (.bool (curveB l)) := by
  have hA : APure Try.prog 45 [.int .i64 ((l.map encPt).length : Int), .int .i64 2, .int .i64 10] (.bool (within l.length 2 10)) := by
    have := within_spec l.length 2 10
    simpa using this
  cases hw : within l.length 2 10
  · rw [hw] at hA
    refine APure.vc Try.func44 rfl (.call (.bool false) .nil) rfl rfl ⟨hA, rB ?_⟩
    simp [curveB, hw]
  · rw [hw] at hA
    have hlen := within_iff.1 hw
    obtain ⟨p, hp⟩ : ∃ p, l[0]? = some p := ⟨_, List.getElem?_eq_getElem (by omega)⟩
    have hp' : 0 ≤ (0 : Int) ∧ (l.map encPt)[(0 : Int).toNat]? = some (encPt p) := ⟨Int.le_refl _, by rw [List.getElem?_map]; exact congrArg _ hp⟩
    refine APure.vc Try.func44 rfl (.call (.bool true) (.cells (encPt p) (.both 15 .nil .loop))) rfl rfl ⟨hA, hp', fun h => rB ?_, fun h => ?_⟩
    · simp at h; simp [curveB, hp, hw, h]
    · intro g hn hl
      refine acode_while (fun k : Nat => ⟨[(0, .lst 2 (l.map encPt)), (16, .lst 2 (l.map encPt)), (17, .int .i64 (l.map encPt).length), (18, .int .i64 k)], [], 0⟩) (fun k => k ≤ l.length ∧ ∀ i, i < k → okAt l i = true) (fun k => l.length - k) 0 ⟨Nat.zero_le _, fun i hi => absurd hi (Nat.not_lt_zero _)⟩ ?_ (fun _ _ => hl) ?_
      · exact St.le.of ⟨rfl, rfl, rfl, rfl, rfl, rfl, rfl, rfl, trivial⟩ trivial
      · intro k hk
        obtain ⟨hk1, hk2⟩ := hk
        by_cases hlt : k < l.length
        · obtain ⟨q, hq⟩ : ∃ q, l[k]? = some q := ⟨_, List.getElem?_eq_getElem hlt⟩
          have hq' : 0 ≤ (k : Int) ∧ (l.map encPt)[(k : Int).toNat]? = some (encPt q) := ⟨Int.natCast_nonneg _, by rw [Int.toNat_natCast, List.getElem?_map, hq]; rfl⟩
          have h19 : decide ((k : Int) < ((l.map encPt).length : Int)) = true := by simpa using hlt
          have sA := within_spec q.m 0 600
          have sB := within_spec q.d 0 2000
          cases hA : within q.m 0 600
          · rw [hA] at sA
            refine ACode.vc (.br 19 true <| .cells (encPt q) <| .call (.bool false) .nil) hn hl (.round .cl) ⟨h19, hq', sA, ⟨_, .refl _, .nil, rB ?_⟩⟩
            exact (curveB_bad hlt (okAt_some hq (by simp [hA]))).symm
          · rw [hA] at sA
            cases hB : within q.d 0 2000
            · rw [hB] at sB
              refine ACode.vc (.br 19 true <| .cells (encPt q) <| .call (.bool true) <| .call (.bool false) .nil) hn hl (.round .cl) ⟨h19, hq', sA, sB, ⟨_, .refl _, .nil, rB ?_⟩⟩
              exact (curveB_bad hlt (okAt_some hq (by simp [hB]))).symm
            · rw [hB] at sB
              have h2 : IntKind.i64.wrap ((k : Int) + 1) = ((k + 1 : Nat) : Int) := wrap64 (by omega) (by omega)
              rcases Nat.eq_zero_or_pos k with h0 | h0
              · refine ACode.vc (.br 19 true <| .cells (encPt q) <| .call (.bool true) <| .call (.bool true) <| .draw 21 <| .br 35 false .nil) hn hl (.round .cl)
                  ⟨h19, hq', sA, sB, by kernel_rfl, mixed, by kernel_rfl, (?_ : decide ((k : Int) > 0) = false), by kernel_rfl, ⟨k + 1, ⟨by omega, fun i hi => ?_⟩, (by show l.length - (k + 1) < l.length - k; omega), St.le.of ⟨rfl, rfl, rfl, rfl, rfl, rfl, congrArg _ h2, rfl, trivial⟩ trivial⟩⟩
                · simp [h0]
                · have : i = k := by omega
                  subst this
                  subst h0
                  rw [okAt_zero hq, hA, hB]; rfl
              · obtain ⟨j, rfl⟩ : ∃ j, k = j + 1 := ⟨k - 1, by omega⟩
                obtain ⟨r, hr⟩ : ∃ r, l[j]? = some r := ⟨_, List.getElem?_eq_getElem (by omega)⟩
                have e1 : IntKind.i64.wrap (((j + 1 : Nat) : Int) - 1) = (j : Int) := by rw [wrap64 (by omega) (by omega)]; omega
                have hr' : 0 ≤ IntKind.i64.wrap (((j + 1 : Nat) : Int) - 1) ∧ (l.map encPt)[(IntKind.i64.wrap (((j + 1 : Nat) : Int) - 1)).toNat]? = some (encPt r) := by
                  rw [e1]; exact ⟨Int.natCast_nonneg _, by rw [Int.toNat_natCast, List.getElem?_map, hr]; rfl⟩
                have h40 : decide (((j + 1 : Nat) : Int) > 0) = true := decide_eq_true (by omega)
                cases hm : decide (q.m ≤ r.m)
                · refine ACode.vc (.br 19 true <| .cells (encPt q) <| .call (.bool true) <| .call (.bool true) <| .draw 21 <| .br 35 true <| .cells (encPt r) <| .br 45 false <| .cells (encPt r) <| .both 56 .nil .nil) hn hl (.round .cl)
                    ⟨h19, hq', sA, sB, by kernel_rfl, mixed, by kernel_rfl, h40, hr', hm, hr', by kernel_rfl, fun h => ⟨_, .refl _, .nil, rB ?_⟩, fun h => ⟨j + 1 + 1, ⟨by omega, fun i hi => ?_⟩, (by show l.length - (j + 1 + 1) < l.length - (j + 1); omega), St.le.of ⟨rfl, rfl, rfl, rfl, rfl, rfl, congrArg _ h2, rfl, trivial⟩ trivial⟩⟩
                  · refine (curveB_bad hlt ?_).symm
                    rw [okAt_succ hq hr]
                    simp only [decide_eq_true_eq] at h
                    simp; omega
                  · rcases Nat.lt_succ_iff_lt_or_eq.1 hi with h' | rfl
                    · exact hk2 i h'
                    · simp only [decide_eq_false_iff_not] at hm h
                      rw [okAt_succ hq hr, hA, hB]
                      simp; omega
                · refine ACode.vc (.br 19 true <| .cells (encPt q) <| .call (.bool true) <| .call (.bool true) <| .draw 21 <| .br 35 true <| .cells (encPt r) <| .br 45 true .nil) hn hl (.round .cl)
                    ⟨h19, hq', sA, sB, by kernel_rfl, mixed, by kernel_rfl, h40, hr', hm, by kernel_rfl, ⟨_, .refl _, .nil, rB ?_⟩⟩
                  refine (curveB_bad hlt ?_).symm
                  rw [okAt_succ hq hr]
                  simp only [decide_eq_true_eq] at hm
                  simp; omega
        · refine ACode.vc (.br 19 false .nil) hn hl (.round .cl) ⟨(?_ : decide ((k : Int) < ((l.map encPt).length : Int)) = false), ⟨_, .refl _, .nil, rB ?_⟩⟩
          · simpa using hlt
          · have : k = l.length := by omega
            subst this
            have : (List.range l.length).all (okAt l) = true := by
              rw [List.all_eq_true]; intro x hx; exact hk2 x (List.mem_range.1 hx)
            simp at h
            simp [curveB, hp, hw, h, this]
end Go.Proofs.Yticiopkiikcokaa
namespace Go.Proofs.Yticiopkiikcokaa
open Go Go.Am
theorem curveB_out {l : List Pt} (h : curveB l = true) : (2 ≤ l.length ∧ l.length ≤ 10) ∧ (∃ p : Pt, l[0]? = some p ∧ p.m = 0) ∧
    (∀ (k : Nat) (q : Pt), l[k]? = some q → 0 ≤ q.m ∧ q.m ≤ 600 ∧ 0 ≤ q.d ∧ q.d ≤ 2000) ∧ (∀ (j : Nat) (r q : Pt), l[j]? = some r → l[j + 1]? = some q → r.m < q.m ∧ r.d ≤ q.d) := by
  simp only [curveB, Bool.and_eq_true, List.all_eq_true, List.mem_range, beq_iff_eq] at h
  obtain ⟨⟨h1, h2⟩, h3⟩ := h
  have hlen := within_iff.1 h1
  refine ⟨⟨by omega, by omega⟩, ?_, ?_, ?_⟩
  · cases hp : l[0]? with
    | none => rw [hp] at h2; cases h2
    | some p => rw [hp] at h2; exact ⟨p, rfl, Option.some.inj h2⟩
  · intro k q hq
    obtain ⟨hk, -⟩ := List.getElem?_eq_some_iff.1 hq
    have := h3 k hk
    unfold okAt at this
    rw [hq] at this
    simp only [Bool.and_eq_true] at this
    have a := within_iff.1 this.1.1
    have b := within_iff.1 this.1.2
    exact ⟨a.1, a.2, b.1, b.2⟩
  · intro j r q hr hq
    obtain ⟨hk, -⟩ := List.getElem?_eq_some_iff.1 hq
    have := h3 (j + 1) hk
    rw [okAt_succ hq hr] at this
    simp only [Bool.and_eq_true, decide_eq_true_eq] at this
    exact this.2
def seekI (l : List Pt) (m : Int) : Nat → Nat
  | 0 => 0
  | i + 1 => match l[i + 1]? with
    | some a => if m < a.m then seekI l m i else i + 1
    | none => i + 1
def degB (a b : Pt) (m : Int) : Int := a.d + ((b.d - a.d) * (m - a.m)).tdiv (b.m - a.m)
def deg (l : List Pt) (m : Int) : Int :=
  match l[seekI l m (l.length - 2)]?, l[seekI l m (l.length - 2) + 1]? with
  | some a, some b => degB a b m
  | _, _ => 0
theorem seekI_stop {l : List Pt} {m : Int} {k : Nat} {a : Pt} (ha : l[k]? = some a) (h : ¬ m < a.m) : seekI l m k = k := by
  cases k with
  | zero => rfl
  | succ k => simp only [seekI, ha, if_neg h]
theorem seekI_step {l : List Pt} {m : Int} {k : Nat} {a : Pt} (ha : l[k + 1]? = some a) (h : m < a.m) : seekI l m (k + 1) = seekI l m k := by
  simp only [seekI, ha, if_pos h]
theorem wrapDeg {a b : Pt} {m : Int} (h1 : 0 ≤ a.m ∧ a.m ≤ 600 ∧ 0 ≤ a.d ∧ a.d ≤ 2000) (h2 : 0 ≤ b.m ∧ b.m ≤ 600 ∧ 0 ≤ b.d ∧ b.d ≤ 2000) (h3 : a.m < b.m ∧ a.d ≤ b.d) (h4 : a.m ≤ m) (h5 : m ≤ 600) :
    IntKind.i64.wrap (b.m - a.m) = b.m - a.m ∧
    IntKind.i64.wrap (a.d + IntKind.i64.wrap ((IntKind.i64.wrap (IntKind.i64.wrap (b.d - a.d) * IntKind.i64.wrap (m - a.m))).tdiv (IntKind.i64.wrap (b.m - a.m)))) = degB a b m := by
  have e1 : IntKind.i64.wrap (b.m - a.m) = b.m - a.m := wrap64 (by omega) (by omega)
  have e2 : IntKind.i64.wrap (b.d - a.d) = b.d - a.d := wrap64 (by omega) (by omega)
  have e3 : IntKind.i64.wrap (m - a.m) = m - a.m := wrap64 (by omega) (by omega)
  have p0 : 0 ≤ (b.d - a.d) * (m - a.m) := Int.mul_nonneg (by omega) (by omega)
  have p1 : (b.d - a.d) * (m - a.m) ≤ 2000 * 600 := Int.mul_le_mul (by omega) (by omega) (by omega) (by omega)
  have q0 : 0 ≤ ((b.d - a.d) * (m - a.m)).tdiv (b.m - a.m) := Int.tdiv_nonneg p0 (by omega)
  have q1 : ((b.d - a.d) * (m - a.m)).tdiv (b.m - a.m) ≤ (b.d - a.d) * (m - a.m) := by
    rw [Int.tdiv_eq_ediv_of_nonneg p0]; exact Int.ediv_le_self _ p0
  refine ⟨e1, ?_⟩
  rw [e1, e2, e3, wrap64 (n := (b.d - a.d) * (m - a.m)) (by omega) (by omega), wrap64 (n := ((b.d - a.d) * (m - a.m)).tdiv (b.m - a.m)) (by omega) (by omega)]
  exact wrap64 (by omega) (by omega)
set_option maxHeartbeats 4000000 in
set_option maxRecDepth 100000 in
theorem degreeAt_spec {l : List Pt} (hc : curveB l = true) {m : Int} (hm0 : 0 ≤ m) (hm6 : m ≤ 600) : APure Try.prog 47 [.lst 2 (l.map encPt), .int .i64 m] (.int .i64 (deg l m)) := by
  obtain ⟨hlen, ⟨p0, hp0, hp0m⟩, hpt, hst⟩ := curveB_out hc
  refine APure.vc Try.func47 rfl .loop rfl rfl ?_
  intro g hn hl
  have e0 : IntKind.i64.wrap (((l.map encPt).length : Int) - 2) = ((l.length - 2 : Nat) : Int) := by
    rw [List.length_map, wrap64 (by omega) (by omega)]; omega
  refine acode_while (fun k : Nat => ⟨[(0, .lst 2 (l.map encPt)), (1, .int .i64 m), (5, .int .i64 k)], [], 0⟩) (fun k => k ≤ l.length - 2 ∧ seekI l m k = seekI l m (l.length - 2)) (fun k => k) (l.length - 2) ⟨Nat.le_refl _, rfl⟩ ?_ (fun _ _ => hl) ?_
  · exact St.le.of ⟨rfl, rfl, rfl, rfl, congrArg _ e0, rfl, trivial⟩ trivial
  · intro k hk
    obtain ⟨hk1, hk2⟩ := hk
    obtain ⟨a, ha⟩ : ∃ a, l[k]? = some a := ⟨_, List.getElem?_eq_getElem (by omega)⟩
    obtain ⟨b, hb⟩ : ∃ b, l[k + 1]? = some b := ⟨_, List.getElem?_eq_getElem (by omega)⟩
    have ha' : 0 ≤ (k : Int) ∧ (l.map encPt)[(k : Int).toNat]? = some (encPt a) := ⟨Int.natCast_nonneg _, by rw [Int.toNat_natCast, List.getElem?_map, ha]; rfl⟩
    have e1 : IntKind.i64.wrap ((k : Int) + 1) = ((k + 1 : Nat) : Int) := wrap64 (by omega) (by omega)
    have hb' : 0 ≤ IntKind.i64.wrap ((k : Int) + 1) ∧ (l.map encPt)[(IntKind.i64.wrap ((k : Int) + 1)).toNat]? = some (encPt b) := by
      rw [e1]; exact ⟨Int.natCast_nonneg _, by rw [Int.toNat_natCast, List.getElem?_map, hb]; rfl⟩
    cases h17 : decide (a.m > m)
    · have h := of_decide_eq_false h17
      have hst' := hst _ _ _ ha hb
      have hw := wrapDeg (hpt _ _ ha) (hpt _ _ hb) hst' (m := m) (by omega) hm6
      refine ACode.vc (.cells (encPt a) <| .br 17 false .nil) hn hl (.round .cl) ⟨ha', h17, _, .refl _, .draw 12 <| .cells (encPt a) <| .cells (encPt b) <| .draw 18 <| .nz .nil,
        by kernel_rfl, mixed, by kernel_rfl, ha', hb', by kernel_rfl, by kernel_rfl, mixed, by kernel_rfl, (?_ : IntKind.i64.wrap (b.m - a.m) ≠ 0), by kernel_rfl, rI ?_⟩
      · rw [hw.1]; omega
      · have e : deg l m = degB a b m := by
          unfold deg
          rw [← hk2, seekI_stop ha (by omega), ha, hb]
        rw [e]; exact hw.2
    · have h := of_decide_eq_true h17
      obtain ⟨j, rfl⟩ : ∃ j, k = j + 1 := by
        cases k with
        | zero => rw [hp0] at ha; cases ha; omega
        | succ j => exact ⟨j, rfl⟩
      have e2 : IntKind.i64.wrap (((j + 1 : Nat) : Int) - 1) = (j : Int) := by rw [wrap64 (by omega) (by omega)]; omega
      refine ACode.vc (.cells (encPt a) <| .br 17 true .nil) hn hl (.round .cl) ⟨ha', h17, j, ⟨by omega, ?_⟩, Nat.lt_succ_self j, St.le.of ⟨rfl, rfl, rfl, rfl, congrArg _ e2, rfl, trivial⟩ trivial⟩
      rw [← hk2, seekI_step ha h]
end Go.Proofs.Yticiopkiikcokaa
namespace Go.Proofs.Yticiopkiikcokaa
open Go Go.Am
theorem curve_mono {l : List Pt} (hc : curveB l = true) : ∀ (n i : Nat) (p q : Pt), l[i]? = some p → l[i + n + 1]? = some q → p.m < q.m ∧ p.d ≤ q.d := by
  obtain ⟨_, _, _, hst⟩ := curveB_out hc
  intro n
  induction n with
  | zero => intro i p q hp hq; exact hst i p q hp hq
  | succ n ih =>
    intro i p q hp hq
    obtain ⟨hlt, _⟩ := List.getElem?_eq_some_iff.1 hq
    obtain ⟨r, hr⟩ : ∃ r, l[i + n + 1]? = some r := ⟨_, List.getElem?_eq_getElem (by omega)⟩
    have h1 := ih i p r hp hr
    have h2 := hst (i + n + 1) r q hr (by rw [← hq]; congr 1)
    omega
theorem curve_lt {l : List Pt} (hc : curveB l = true) {i j : Nat} {p q : Pt} (hp : l[i]? = some p) (hq : l[j]? = some q) (h : i < j) : p.m < q.m ∧ p.d ≤ q.d := by
  obtain ⟨n, rfl⟩ : ∃ n, j = i + n + 1 := ⟨j - i - 1, by omega⟩
  exact curve_mono hc n i p q hp hq
theorem seekI_spec {l : List Pt} (hc : curveB l = true) {m : Int} (hm : 0 ≤ m) : ∀ k, k < l.length → seekI l m k ≤ k ∧ (∃ a, l[seekI l m k]? = some a ∧ a.m ≤ m) ∧ ∀ j, seekI l m k < j → j ≤ k → ∀ q, l[j]? = some q → m < q.m := by
  obtain ⟨hlen, ⟨p0, hp0, hp0m⟩, hpt, hst⟩ := curveB_out hc
  intro k
  induction k with
  | zero => intro _; exact ⟨Nat.le_refl _, ⟨p0, hp0, by omega⟩, fun j h1 h2 => by omega⟩
  | succ k ih =>
    intro hk
    obtain ⟨a, ha⟩ : ∃ a, l[k + 1]? = some a := ⟨_, List.getElem?_eq_getElem (by omega)⟩
    by_cases h : m < a.m
    · rw [seekI_step ha h]
      obtain ⟨h1, h2, h3⟩ := ih (by omega)
      refine ⟨by omega, h2, fun j hj1 hj2 q hq => ?_⟩
      by_cases hj : j ≤ k
      · exact h3 j hj1 hj q hq
      · have : j = k + 1 := by omega
        subst this
        rw [ha] at hq; cases hq; exact h
    · rw [seekI_stop ha h]
      exact ⟨Nat.le_refl _, ⟨a, ha, by omega⟩, fun j h1 h2 => by omega⟩
theorem seekI_eq {l : List Pt} (hc : curveB l = true) {m : Int} {k : Nat} {a : Pt} (hm : 0 ≤ m) (ha : l[k]? = some a) (hk : k + 1 < l.length) (h1 : a.m ≤ m) (h2 : k + 2 < l.length → ∀ b, l[k + 1]? = some b → m < b.m) : seekI l m (l.length - 2) = k := by
  obtain ⟨hlen, _, hpt, hst⟩ := curveB_out hc
  obtain ⟨s1, ⟨c, hcs, hcm⟩, s3⟩ := seekI_spec hc hm (l.length - 2) (by omega)
  rcases Nat.lt_trichotomy (seekI l m (l.length - 2)) k with h | h | h
  · have := s3 k h (by omega) a ha; omega
  · exact h
  · obtain ⟨b, hb⟩ : ∃ b, l[k + 1]? = some b := ⟨_, List.getElem?_eq_getElem (by omega)⟩
    have hlt := h2 (by omega) b hb
    rcases Nat.lt_or_ge (k + 1) (seekI l m (l.length - 2)) with h' | h'
    · have := curve_lt hc hb hcs h'; omega
    · have : seekI l m (l.length - 2) = k + 1 := by omega
      rw [this, hb] at hcs; cases hcs; omega
theorem deg_where {l : List Pt} (hc : curveB l = true) {m : Int} {k : Nat} {a b : Pt} (hm : 0 ≤ m) (ha : l[k]? = some a) (hb : l[k + 1]? = some b) (h1 : a.m ≤ m) (h2 : k + 2 < l.length → m < b.m) : deg l m = degB a b m := by
  obtain ⟨hk, _⟩ := List.getElem?_eq_some_iff.1 hb
  unfold deg
  rw [seekI_eq hc hm ha hk h1 (fun h b' hb' => by rw [hb] at hb'; cases hb'; exact h2 h), ha, hb]
theorem degB_lo (a b : Pt) : degB a b a.m = a.d := by simp [degB]
theorem degB_hi {a b : Pt} (h : a.m < b.m) : degB a b b.m = b.d := by
  unfold degB
  rw [Int.mul_tdiv_cancel _ (by omega)]; omega
theorem deg_at {l : List Pt} (hc : curveB l = true) {i : Nat} {p : Pt} (hp : l[i]? = some p) : deg l p.m = p.d := by
  obtain ⟨hlen, ⟨p0, hp0, hp0m⟩, hpt, hst⟩ := curveB_out hc
  obtain ⟨hi, _⟩ := List.getElem?_eq_some_iff.1 hp
  by_cases h : i + 1 < l.length
  · obtain ⟨b, hb⟩ : ∃ b, l[i + 1]? = some b := ⟨_, List.getElem?_eq_getElem h⟩
    rw [deg_where hc (hpt _ _ hp).1 hp hb (Int.le_refl _) (fun _ => (hst _ _ _ hp hb).1), degB_lo]
  · obtain ⟨j, rfl⟩ : ∃ j, i = j + 1 := ⟨i - 1, by omega⟩
    obtain ⟨a, ha⟩ : ∃ a, l[j]? = some a := ⟨_, List.getElem?_eq_getElem (by omega)⟩
    have := hst _ _ _ ha hp
    rw [deg_where hc (hpt _ _ hp).1 ha hp (by omega) (fun h' => by omega), degB_hi this.1]
theorem degB_off {a b : Pt} {m : Int} (h1 : a.m ≤ m) (h2 : a.m < b.m) (h3 : a.d ≤ b.d) : 0 ≤ (b.d - a.d) * (m - a.m) - (degB a b m - a.d) * (b.m - a.m) ∧ (b.d - a.d) * (m - a.m) - (degB a b m - a.d) * (b.m - a.m) < b.m - a.m := by
  have p0 : 0 ≤ (b.d - a.d) * (m - a.m) := Int.mul_nonneg (by omega) (by omega)
  have e : degB a b m - a.d = ((b.d - a.d) * (m - a.m)) / (b.m - a.m) := by
    unfold degB; rw [Int.tdiv_eq_ediv_of_nonneg p0]; omega
  rw [e]
  have h := Int.mul_ediv_add_emod ((b.d - a.d) * (m - a.m)) (b.m - a.m)
  have h4 := Int.emod_nonneg ((b.d - a.d) * (m - a.m)) (by omega : b.m - a.m ≠ 0)
  have h5 := Int.emod_lt_of_pos ((b.d - a.d) * (m - a.m)) (by omega : 0 < b.m - a.m)
  have e2 : (b.d - a.d) * (m - a.m) / (b.m - a.m) * (b.m - a.m) = (b.m - a.m) * ((b.d - a.d) * (m - a.m) / (b.m - a.m)) := Int.mul_comm _ _
  rw [e2]; omega
theorem degB_mono {a b : Pt} {m m' : Int} (h1 : a.m ≤ m) (h2 : a.m < b.m) (h3 : a.d ≤ b.d) (h : m ≤ m') : degB a b m ≤ degB a b m' := by
  have p0 : 0 ≤ (b.d - a.d) * (m - a.m) := Int.mul_nonneg (by omega) (by omega)
  have p1 : 0 ≤ (b.d - a.d) * (m' - a.m) := Int.mul_nonneg (by omega) (by omega)
  have p2 : (b.d - a.d) * (m - a.m) ≤ (b.d - a.d) * (m' - a.m) := Int.mul_le_mul_of_nonneg_left (by omega) (by omega)
  unfold degB
  rw [Int.tdiv_eq_ediv_of_nonneg p0, Int.tdiv_eq_ediv_of_nonneg p1]
  have := Int.ediv_le_ediv (show 0 < b.m - a.m by omega) p2
  omega
theorem degB_rng {a b : Pt} {m : Int} (h1 : a.m ≤ m) (h2 : a.m < b.m) (h3 : a.d ≤ b.d) (h : m ≤ b.m) : a.d ≤ degB a b m ∧ degB a b m ≤ b.d := by
  have x := degB_mono (Int.le_refl _) h2 h3 h1
  have y := degB_mono h1 h2 h3 h
  rw [degB_lo] at x; rw [degB_hi h2] at y; exact ⟨x, y⟩
theorem deg_seg {l : List Pt} (hc : curveB l = true) {p : Pt} (hp : l[l.length - 1]? = some p) {m : Int} (hm : 0 ≤ m) (hm2 : m < p.m) : ∃ (k : Nat) (a b : Pt), l[k]? = some a ∧ l[k + 1]? = some b ∧ a.m ≤ m ∧ m < b.m := by
  obtain ⟨hlen, _, hpt, hst⟩ := curveB_out hc
  obtain ⟨s1, ⟨c, hcs, hcm⟩, s3⟩ := seekI_spec hc hm (l.length - 1) (by omega)
  have hne : seekI l m (l.length - 1) ≠ l.length - 1 := fun h => by rw [h, hp] at hcs; cases hcs; omega
  obtain ⟨b, hb⟩ : ∃ b, l[seekI l m (l.length - 1) + 1]? = some b := ⟨_, List.getElem?_eq_getElem (by omega)⟩
  exact ⟨_, c, b, hcs, hb, hcm, s3 _ (by omega) (by omega) b hb⟩
theorem deg_mono {l : List Pt} (hc : curveB l = true) {p : Pt} (hp : l[l.length - 1]? = some p) {m : Int} (hm : 0 ≤ m) (hm2 : m < p.m) : deg l m ≤ deg l (m + 1) := by
  obtain ⟨k, a, b, ha, hb, h1, h2⟩ := deg_seg hc hp hm hm2
  obtain ⟨hlen, _, hpt, hst⟩ := curveB_out hc
  have hs := hst _ _ _ ha hb
  rw [deg_where hc hm ha hb h1 (fun _ => h2)]
  by_cases h : m + 1 < b.m
  · rw [deg_where hc (by omega) ha hb (by omega) (fun _ => h)]
    exact degB_mono h1 hs.1 hs.2 (by omega)
  · have e : m + 1 = b.m := by omega
    rw [e, deg_at hc hb]
    exact (degB_rng h1 hs.1 hs.2 (by omega)).2
theorem deg_rng {l : List Pt} (hc : curveB l = true) {p : Pt} (hp : l[l.length - 1]? = some p) {m : Int} (hm : 0 ≤ m) (hm2 : m ≤ p.m) : 0 ≤ deg l m ∧ deg l m ≤ 2000 := by
  obtain ⟨hlen, _, hpt, hst⟩ := curveB_out hc
  by_cases h : m = p.m
  · subst h; rw [deg_at hc hp]; have := hpt _ _ hp; omega
  · obtain ⟨k, a, b, ha, hb, h1, h2⟩ := deg_seg hc hp hm (by omega)
    have hs := hst _ _ _ ha hb
    rw [deg_where hc hm ha hb h1 (fun _ => h2)]
    have := degB_rng h1 hs.1 hs.2 (by omega)
    have x := hpt _ _ ha
    have y := hpt _ _ hb
    omega
end Go.Proofs.Yticiopkiikcokaa
