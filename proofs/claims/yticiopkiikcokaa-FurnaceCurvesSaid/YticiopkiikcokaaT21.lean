import Derived.Test.YticiopkiikcokaaTy
import Derived.Test.YticiopkiikcokaaAm17
namespace Go.Proofs.Yticiopkiikcokaa
open Go Go.Am
theorem rB {b b' : Bool} (h : b = b') : True ∧ some (AV.bool b) = some (AV.bool b') := ⟨trivial, h ▸ rfl⟩
theorem rI {b b' : Int} {k : IntKind} (h : b = b') : True ∧ some (AV.int k b) = some (AV.int k b') := ⟨trivial, h ▸ rfl⟩
def within (n lo hi : Int) : Bool := decide (lo ≤ n ∧ n ≤ hi)
theorem within_spec (n lo hi : Int) : APure Try.prog 45 [.int .i64 n, .int .i64 lo, .int .i64 hi] (.bool (within n lo hi)) := by
  refine APure.vc Try.func45 rfl (.both 10 .nil .nil) rfl rfl ⟨fun h => rB ?_, fun h => rB ?_⟩
  all_goals simp at h
  all_goals simp [within, h]
  all_goals omega
theorem rwithin_spec (n lo hi : Int) : APure Try.prog 48 [.int .i64 n, .int .i64 lo, .int .i64 hi] (.bool (within n lo hi)) := by
  refine APure.vc Try.func48 rfl (.both 10 .nil .nil) rfl rfl ⟨fun h => rB ?_, fun h => rB ?_⟩
  all_goals simp at h
  all_goals simp [within, h]
  all_goals omega
structure Pt where
  m : Int
  d : Int
def encPt (p : Pt) : List AV := [.int .i64 p.m, .int .i64 p.d]
set_option maxRecDepth 10000 in
theorem lastMinute_spec (l : List Pt) (p : Pt) (hp : l[l.length - 1]? = some p) (hl : 1 ≤ l.length) (hm : l.length ≤ 1000000) : APure Try.prog 46 [.lst 2 (l.map encPt)] (.int .i64 p.m) := by
  refine APure.vc Try.func46 rfl (.cells (encPt p) .nil) rfl rfl ?_
  have e : IntKind.i64.wrap (((l.map encPt).length : Int) - 1) = ((l.length - 1 : Nat) : Int) := by
    rw [List.length_map, wrap64 (by omega) (by omega)]; omega
  refine ⟨(⟨?_, ?_⟩ : 0 ≤ IntKind.i64.wrap (((l.map encPt).length : Int) - 1) ∧ (l.map encPt)[(IntKind.i64.wrap (((l.map encPt).length : Int) - 1)).toNat]? = some (encPt p)), rI rfl⟩
  · rw [e]; exact Int.natCast_nonneg _
  · rw [e, Int.toNat_natCast, List.getElem?_map, hp]; rfl
def okAt (l : List Pt) (i : Nat) : Bool := match l[i]? with
  | some p => within p.m 0 600 && within p.d 0 2000 && (i == 0 || (match l[i-1]? with | some q => decide (q.m < p.m) && decide (q.d ≤ p.d) | none => false))
  | none => false
def curveB (l : List Pt) : Bool := within l.length 2 10 && ((l[0]?).map (·.m) == some 0) && (List.range l.length).all (okAt l)
theorem within_iff {n lo hi : Int} : within n lo hi = true ↔ lo ≤ n ∧ n ≤ hi := by simp [within]
theorem curveB_bad {l : List Pt} {k : Nat} (hk : k < l.length) (h : okAt l k = false) : curveB l = false := by
  have : (List.range l.length).all (okAt l) = false := by
    rw [List.all_eq_false]; exact ⟨k, List.mem_range.2 hk, by simp [h]⟩
  simp [curveB, this]
theorem okAt_zero {l : List Pt} {q : Pt} (hq : l[0]? = some q) : okAt l 0 = (within q.m 0 600 && within q.d 0 2000) := by
  unfold okAt; rw [hq]; simp
theorem okAt_some {l : List Pt} {q : Pt} {k : Nat} (hq : l[k]? = some q) (h : (within q.m 0 600 && within q.d 0 2000) = false) : okAt l k = false := by
  unfold okAt; rw [hq]; simp only [h, Bool.false_and]
theorem okAt_succ {l : List Pt} {q r : Pt} {j : Nat} (hq : l[j + 1]? = some q) (hr : l[j]? = some r) : okAt l (j + 1) = (within q.m 0 600 && within q.d 0 2000 && (decide (r.m < q.m) && decide (r.d ≤ q.d))) := by
  unfold okAt; rw [hq]; simp [hr]

set_option maxHeartbeats 4000000 in
set_option maxRecDepth 100000 in
theorem rCurve_spec (l : List Pt) : APure Try.prog 43 [.lst 2 (l.map encPt)] (.bool (curveB l)) := by
  have hA : APure Try.prog 48 [.int .i64 ((l.map encPt).length : Int), .int .i64 2, .int .i64 10] (.bool (within l.length 2 10)) := by
    have := rwithin_spec l.length 2 10
    simpa using this
  cases hw : within l.length 2 10
  · rw [hw] at hA
    refine APure.vc Try.func43 rfl (.call (.bool false) .nil) rfl rfl ⟨hA, rB ?_⟩
    simp [curveB, hw]
  · rw [hw] at hA
    have hlen := within_iff.1 hw
    obtain ⟨p, hp⟩ : ∃ p, l[0]? = some p := ⟨_, List.getElem?_eq_getElem (by omega)⟩
    have hp' : 0 ≤ (0 : Int) ∧ (l.map encPt)[(0 : Int).toNat]? = some (encPt p) := ⟨Int.le_refl _, by rw [List.getElem?_map]; exact congrArg _ hp⟩
    refine APure.vc Try.func43 rfl (.call (.bool true) (.cells (encPt p) (.both 14 .nil .loop))) rfl rfl ⟨hA, hp', fun h => rB ?_, fun h => ?_⟩
    · simp at h; simp [curveB, hp, hw, h]
    · intro g hn hl
      refine acode_while (fun k : Nat => ⟨[(0, .lst 2 (l.map encPt)), (3, .int .i64 k)], [], 0⟩) (fun k => k ≤ l.length ∧ ∀ i, i < k → okAt l i = true) (fun k => l.length - k) 0 ⟨Nat.zero_le _, fun i hi => absurd hi (Nat.not_lt_zero _)⟩ ?_ (fun _ _ => hl) ?_
      · exact St.le.of ⟨rfl, rfl, rfl, rfl, trivial⟩ trivial
      · intro k hk
        obtain ⟨hk1, hk2⟩ := hk
        by_cases hlt : k < l.length
        · obtain ⟨q, hq⟩ : ∃ q, l[k]? = some q := ⟨_, List.getElem?_eq_getElem hlt⟩
          have hq' : 0 ≤ (k : Int) ∧ (l.map encPt)[(k : Int).toNat]? = some (encPt q) := ⟨Int.natCast_nonneg _, by rw [Int.toNat_natCast, List.getElem?_map, hq]; rfl⟩
          have h18 : decide ((k : Int) < ((l.map encPt).length : Int)) = true := by simpa using hlt
          have sA := rwithin_spec q.m 0 600
          have sB := rwithin_spec q.d 0 2000
          cases hA : within q.m 0 600
          · rw [hA] at sA
            refine ACode.vc (.br 18 true <| .draw 44 (.cells (encPt q) (.call (.bool false) .nil))) hn hl (.round .cl) ⟨h18, by kernel_rfl, mixed, by kernel_rfl, hq', sA, by kernel_rfl, ⟨_, .refl _, .nil, rB ?_⟩⟩
            exact (curveB_bad hlt (okAt_some hq (by simp [hA]))).symm
          · rw [hA] at sA
            cases hB : within q.d 0 2000
            · rw [hB] at sB
              refine ACode.vc (.br 18 true <| .draw 44 (.cells (encPt q) (.call (.bool true) (.cells (encPt q) (.call (.bool false) .nil))))) hn hl (.round .cl) ⟨h18, by kernel_rfl, mixed, by kernel_rfl, hq', sA, hq', sB, by kernel_rfl, ⟨_, .refl _, .nil, rB ?_⟩⟩
              exact (curveB_bad hlt (okAt_some hq (by simp [hB]))).symm
            · rw [hB] at sB
              have h2 : IntKind.i64.wrap ((k : Int) + 1) = ((k + 1 : Nat) : Int) := wrap64 (by omega) (by omega)
              rcases Nat.eq_zero_or_pos k with h0 | h0
              · refine ACode.vc (.br 18 true <| .draw 44 (.cells (encPt q) (.call (.bool true) (.cells (encPt q) (.call (.bool true) (.br 40 false .nil)))))) hn hl (.round .cl)
                  ⟨h18, by kernel_rfl, mixed, by kernel_rfl, hq', sA, hq', sB, (?_ : decide ((k : Int) > 0) = false), by kernel_rfl, ⟨k + 1, ⟨by omega, fun i hi => ?_⟩, (by show l.length - (k + 1) < l.length - k; omega), St.le.of ⟨rfl, rfl, congrArg _ h2, rfl, trivial⟩ trivial⟩⟩
                · simp [h0]
                · have : i = k := by omega
                  subst this
                  subst h0
                  rw [okAt_zero hq, hA, hB]; rfl
              · obtain ⟨j, rfl⟩ : ∃ j, k = j + 1 := ⟨k - 1, by omega⟩
                obtain ⟨r, hr⟩ : ∃ r, l[j]? = some r := ⟨_, List.getElem?_eq_getElem (by omega)⟩
                have e1 : IntKind.i64.wrap (((j + 1 : Nat) : Int) - 1) = (j : Int) := by rw [wrap64 (by omega) (by omega)]; omega
                have hr' : 0 ≤ IntKind.i64.wrap (((j + 1 : Nat) : Int) - 1) ∧ (l.map encPt)[(IntKind.i64.wrap (((j + 1 : Nat) : Int) - 1)).toNat]? = some (encPt r) := by
                  rw [e1]; exact ⟨Int.natCast_nonneg _, by rw [Int.toNat_natCast, List.getElem?_map, hr]; rfl⟩
                have h40 : decide (((j + 1 : Nat) : Int) > 0) = true := decide_eq_true (by omega)
                cases hm : decide (q.m ≤ r.m)
                · refine ACode.vc (.br 18 true <| .draw 44 <| .cells (encPt q) <| .call (.bool true) <| .cells (encPt q) <| .call (.bool true) <| .br 40 true <| .cells (encPt q) <| .cells (encPt r) <| .br 53 false <| .cells (encPt q) <| .cells (encPt r) <| .both 68 .nil .nil) hn hl (.round .cl)
                    ⟨h18, by kernel_rfl, mixed, by kernel_rfl, hq', sA, hq', sB, h40, hq', hr', hm, hq', hr', by kernel_rfl, fun h => ⟨_, .refl _, .nil, rB ?_⟩, fun h => ⟨j + 1 + 1, ⟨by omega, fun i hi => ?_⟩, (by show l.length - (j + 1 + 1) < l.length - (j + 1); omega), St.le.of ⟨rfl, rfl, congrArg _ h2, rfl, trivial⟩ trivial⟩⟩
                  · refine (curveB_bad hlt ?_).symm
                    rw [okAt_succ hq hr]
                    simp only [decide_eq_true_eq] at h
                    simp; omega
                  · rcases Nat.lt_succ_iff_lt_or_eq.1 hi with h' | rfl
                    · exact hk2 i h'
                    · simp only [decide_eq_false_iff_not] at hm h
                      rw [okAt_succ hq hr, hA, hB]
                      simp; omega
                · refine ACode.vc (.br 18 true <| .draw 44 (.cells (encPt q) (.call (.bool true) (.cells (encPt q) (.call (.bool true) (.br 40 true (.cells (encPt q) (.cells (encPt r) (.br 53 true .nil))))))))) hn hl (.round .cl)
                    ⟨h18, by kernel_rfl, mixed, by kernel_rfl, hq', sA, hq', sB, h40, hq', hr', hm, by kernel_rfl, ⟨_, .refl _, .nil, rB ?_⟩⟩
                  refine (curveB_bad hlt ?_).symm
                  rw [okAt_succ hq hr]
                  simp only [decide_eq_true_eq] at hm
                  simp; omega
        · refine ACode.vc (.br 18 false .nil) hn hl (.round .cl) ⟨(?_ : decide ((k : Int) < ((l.map encPt).length : Int)) = false), ⟨_, .refl _, .nil, rB ?_⟩⟩
          · simpa using hlt
          · have : k = l.length := by omega
            subst this
            have : (List.range l.length).all (okAt l) = true := by
              rw [List.all_eq_true]; intro x hx; exact hk2 x (List.mem_range.1 hx)
            simp at h
            simp [curveB, hp, hw, h, this]
end Go.Proofs.Yticiopkiikcokaa
