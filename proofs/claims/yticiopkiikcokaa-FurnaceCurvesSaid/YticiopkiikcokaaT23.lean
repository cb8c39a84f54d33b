import Derived.Test.YticiopkiikcokaaT21
namespace Go.Proofs.Yticiopkiikcokaa
open Go Go.Am
theorem curveB_out {l : List Pt} (h : curveB l = true) : (2 ≤ l.length ∧ l.length ≤ 10) ∧ (∃ p : Pt, l[0]? = some p ∧ p.m = 0) ∧
    (∀ (k : Nat) (q : Pt), l[k]? = some q → 0 ≤ q.m ∧ q.m ≤ 600 ∧ 0 ≤ q.d ∧ q.d ≤ 2000) ∧ (∀ (j : Nat) (r q : Pt), l[j]? = some r → l[j + 1]? = some q → r.m < q.m ∧ r.d ≤ q.d) := by
  simp only [curveB, Bool.and_eq_true, List.all_eq_true, List.mem_range, beq_iff_eq] at h
  obtain ⟨⟨h1, h2⟩, h3⟩ := h
  have hlen := within_iff.1 h1
  refine ⟨⟨by omega, by omega⟩, ?_, ?_, ?_⟩
  · cases hp : l[0]? with
    | none => rw [hp] at h2; cases h2
    | some p => rw [hp] at h2; exact ⟨p, rfl, Option.some.inj h2⟩
  · intro k q hq
    obtain ⟨hk, -⟩ := List.getElem?_eq_some_iff.1 hq
    have := h3 k hk
    unfold okAt at this
    rw [hq] at this
    simp only [Bool.and_eq_true] at this
    have a := within_iff.1 this.1.1
    have b := within_iff.1 this.1.2
    exact ⟨a.1, a.2, b.1, b.2⟩
  · intro j r q hr hq
    obtain ⟨hk, -⟩ := List.getElem?_eq_some_iff.1 hq
    have := h3 (j + 1) hk
    rw [okAt_succ hq hr] at this
    simp only [Bool.and_eq_true, decide_eq_true_eq] at this
    exact this.2
def seekI (l : List Pt) (m : Int) : Nat → Nat
  | 0 => 0
  | i + 1 => match l[i + 1]? with
    | some a => if m < a.m then seekI l m i else i + 1
    | none => i + 1
def degB (a b : Pt) (m : Int) : Int := a.d + ((b.d - a.d) * (m - a.m)).tdiv (b.m - a.m)
def deg (l : List Pt) (m : Int) : Int :=
  match l[seekI l m (l.length - 2)]?, l[seekI l m (l.length - 2) + 1]? with
  | some a, some b => degB a b m
  | _, _ => 0
theorem seekI_stop {l : List Pt} {m : Int} {k : Nat} {a : Pt} (ha : l[k]? = some a) (h : ¬ m < a.m) : seekI l m k = k := by
  cases k with
  | zero => rfl
  | succ k => simp only [seekI, ha, if_neg h]
theorem seekI_step {l : List Pt} {m : Int} {k : Nat} {a : Pt} (ha : l[k + 1]? = some a) (h : m < a.m) : seekI l m (k + 1) = seekI l m k := by
  simp only [seekI, ha, if_pos h]
theorem wrapDeg {a b : Pt} {m : Int} (h1 : 0 ≤ a.m ∧ a.m ≤ 600 ∧ 0 ≤ a.d ∧ a.d ≤ 2000) (h2 : 0 ≤ b.m ∧ b.m ≤ 600 ∧ 0 ≤ b.d ∧ b.d ≤ 2000) (h3 : a.m < b.m ∧ a.d ≤ b.d) (h4 : a.m ≤ m) (h5 : m ≤ 600) :
    IntKind.i64.wrap (b.m - a.m) = b.m - a.m ∧
    IntKind.i64.wrap (a.d + IntKind.i64.wrap ((IntKind.i64.wrap (IntKind.i64.wrap (b.d - a.d) * IntKind.i64.wrap (m - a.m))).tdiv (IntKind.i64.wrap (b.m - a.m)))) = degB a b m := by
  have e1 : IntKind.i64.wrap (b.m - a.m) = b.m - a.m := wrap64 (by omega) (by omega)
  have e2 : IntKind.i64.wrap (b.d - a.d) = b.d - a.d := wrap64 (by omega) (by omega)
  have e3 : IntKind.i64.wrap (m - a.m) = m - a.m := wrap64 (by omega) (by omega)
  have p0 : 0 ≤ (b.d - a.d) * (m - a.m) := Int.mul_nonneg (by omega) (by omega)
  have p1 : (b.d - a.d) * (m - a.m) ≤ 2000 * 600 := Int.mul_le_mul (by omega) (by omega) (by omega) (by omega)
  have q0 : 0 ≤ ((b.d - a.d) * (m - a.m)).tdiv (b.m - a.m) := Int.tdiv_nonneg p0 (by omega)
  have q1 : ((b.d - a.d) * (m - a.m)).tdiv (b.m - a.m) ≤ (b.d - a.d) * (m - a.m) := by
    rw [Int.tdiv_eq_ediv_of_nonneg p0]; exact Int.ediv_le_self _ p0
  refine ⟨e1, ?_⟩
  rw [e1, e2, e3, wrap64 (n := (b.d - a.d) * (m - a.m)) (by omega) (by omega), wrap64 (n := ((b.d - a.d) * (m - a.m)).tdiv (b.m - a.m)) (by omega) (by omega)]
  exact wrap64 (by omega) (by omega)
set_option maxHeartbeats 4000000 in
set_option maxRecDepth 100000 in
theorem degreeAt_spec {l : List Pt} (hc : curveB l = true) {m : Int} (hm0 : 0 ≤ m) (hm6 : m ≤ 600) : APure Try.prog 47 [.lst 2 (l.map encPt), .int .i64 m] (.int .i64 (deg l m)) := by
  obtain ⟨hlen, ⟨p0, hp0, hp0m⟩, hpt, hst⟩ := curveB_out hc
  refine APure.vc Try.func47 rfl .loop rfl rfl ?_
  intro g hn hl
  have e0 : IntKind.i64.wrap (((l.map encPt).length : Int) - 2) = ((l.length - 2 : Nat) : Int) := by
    rw [List.length_map, wrap64 (by omega) (by omega)]; omega
  refine acode_while (fun k : Nat => ⟨[(0, .lst 2 (l.map encPt)), (1, .int .i64 m), (5, .int .i64 k)], [], 0⟩) (fun k => k ≤ l.length - 2 ∧ seekI l m k = seekI l m (l.length - 2)) (fun k => k) (l.length - 2) ⟨Nat.le_refl _, rfl⟩ ?_ (fun _ _ => hl) ?_
  · exact St.le.of ⟨rfl, rfl, rfl, rfl, congrArg _ e0, rfl, trivial⟩ trivial
  · intro k hk
    obtain ⟨hk1, hk2⟩ := hk
    obtain ⟨a, ha⟩ : ∃ a, l[k]? = some a := ⟨_, List.getElem?_eq_getElem (by omega)⟩
    obtain ⟨b, hb⟩ : ∃ b, l[k + 1]? = some b := ⟨_, List.getElem?_eq_getElem (by omega)⟩
    have ha' : 0 ≤ (k : Int) ∧ (l.map encPt)[(k : Int).toNat]? = some (encPt a) := ⟨Int.natCast_nonneg _, by rw [Int.toNat_natCast, List.getElem?_map, ha]; rfl⟩
    have e1 : IntKind.i64.wrap ((k : Int) + 1) = ((k + 1 : Nat) : Int) := wrap64 (by omega) (by omega)
    have hb' : 0 ≤ IntKind.i64.wrap ((k : Int) + 1) ∧ (l.map encPt)[(IntKind.i64.wrap ((k : Int) + 1)).toNat]? = some (encPt b) := by
      rw [e1]; exact ⟨Int.natCast_nonneg _, by rw [Int.toNat_natCast, List.getElem?_map, hb]; rfl⟩
    cases h17 : decide (a.m > m)
    · have h := of_decide_eq_false h17
      have hst' := hst _ _ _ ha hb
      have hw := wrapDeg (hpt _ _ ha) (hpt _ _ hb) hst' (m := m) (by omega) hm6
      refine ACode.vc (.cells (encPt a) <| .br 17 false .nil) hn hl (.round .cl) ⟨ha', h17, _, .refl _, .draw 12 <| .cells (encPt a) <| .cells (encPt b) <| .draw 18 <| .nz .nil,
        by kernel_rfl, mixed, by kernel_rfl, ha', hb', by kernel_rfl, by kernel_rfl, mixed, by kernel_rfl, (?_ : IntKind.i64.wrap (b.m - a.m) ≠ 0), by kernel_rfl, rI ?_⟩
      · rw [hw.1]; omega
      · have e : deg l m = degB a b m := by
          unfold deg
          rw [← hk2, seekI_stop ha (by omega), ha, hb]
        rw [e]; exact hw.2
    · have h := of_decide_eq_true h17
      obtain ⟨j, rfl⟩ : ∃ j, k = j + 1 := by
        cases k with
        | zero => rw [hp0] at ha; cases ha; omega
        | succ j => exact ⟨j, rfl⟩
      have e2 : IntKind.i64.wrap (((j + 1 : Nat) : Int) - 1) = (j : Int) := by rw [wrap64 (by omega) (by omega)]; omega
      refine ACode.vc (.cells (encPt a) <| .br 17 true .nil) hn hl (.round .cl) ⟨ha', h17, j, ⟨by omega, ?_⟩, Nat.lt_succ_self j, St.le.of ⟨rfl, rfl, rfl, rfl, congrArg _ e2, rfl, trivial⟩ trivial⟩
      rw [← hk2, seekI_step ha h]
end Go.Proofs.Yticiopkiikcokaa
