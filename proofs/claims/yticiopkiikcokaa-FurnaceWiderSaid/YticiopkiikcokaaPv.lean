import Derived.Test.YticiopkiikcokaaPa
import Derived.Test.YticiopkiikcokaaPl
namespace Go.Proofs.Yticiopkiikcokaa
open Go Go.Am
set_option maxHeartbeats 4000000 in
set_option maxRecDepth 100000 in
theorem at_ok {l : List Pt} (hc : curveB l = true) {p : Pt} (hp : l[l.length - 1]? = some p) {m : Int} (h0 : 0 ≤ m) (h1 : m ≤ p.m) : APure Try.prog 16 [.lst 2 (l.map encPt), .int .i64 m] (.tup [.int .i64 (deg l m), .int .i64 0]) := by
  obtain ⟨hlen, _, hpt, hst⟩ := curveB_out hc
  have s1 := isCurve_spec l
  rw [hc] at s1
  have s2 := lastMinute_spec l p hp (by omega) (by omega)
  have s3 := within_spec m 0 p.m
  have e3 : within m 0 p.m = true := within_iff.2 ⟨h0, h1⟩
  rw [e3] at s3
  have s4 := degreeAt_spec hc h0 (by have := hpt _ _ hp; omega : m ≤ 600)
  exact APure.vc Try.func16 rfl (.call (.bool true) <| .call (.int .i64 p.m) <| .call (.bool true) <| .call (.int .i64 (deg l m)) .nil) rfl rfl ⟨s1, s2, s3, s4, trivial, rfl⟩
set_option maxHeartbeats 4000000 in
set_option maxRecDepth 100000 in
theorem at_curve {l : List Pt} (hc : curveB l = false) (m : Int) : APure Try.prog 16 [.lst 2 (l.map encPt), .int .i64 m] (.tup [.int .i64 0, .int .i64 10]) := by
  have s1 := isCurve_spec l
  rw [hc] at s1
  exact APure.vc Try.func16 rfl (.call (.bool false) .nil) rfl rfl ⟨s1, trivial, rfl⟩
set_option maxHeartbeats 4000000 in
set_option maxRecDepth 100000 in
theorem at_arg {l : List Pt} (hc : curveB l = true) {p : Pt} (hp : l[l.length - 1]? = some p) {m : Int} (h : within m 0 p.m = false) : APure Try.prog 16 [.lst 2 (l.map encPt), .int .i64 m] (.tup [.int .i64 0, .int .i64 2]) := by
  obtain ⟨hlen, _, hpt, hst⟩ := curveB_out hc
  have s1 := isCurve_spec l
  rw [hc] at s1
  have s2 := lastMinute_spec l p hp (by omega) (by omega)
  have s3 := within_spec m 0 p.m
  rw [h] at s3
  exact APure.vc Try.func16 rfl (.call (.bool true) <| .call (.int .i64 p.m) <| .call (.bool false) .nil) rfl rfl ⟨s1, s2, s3, trivial, rfl⟩
theorem off_ok {r q : Pt} {m : Int} (h1 : 0 ≤ r.m ∧ r.m ≤ 600 ∧ 0 ≤ r.d ∧ r.d ≤ 2000) (h2 : 0 ≤ q.m ∧ q.m ≤ 600 ∧ 0 ≤ q.d ∧ q.d ≤ 2000) (h3 : r.m < q.m ∧ r.d ≤ q.d) (h4 : r.m ≤ m) (h5 : m < q.m) :
    decide (IntKind.i64.wrap (IntKind.i64.wrap (IntKind.i64.wrap (q.d - r.d) * IntKind.i64.wrap (m - r.m)) - IntKind.i64.wrap (IntKind.i64.wrap (degB r q m - r.d) * IntKind.i64.wrap (q.m - r.m))) < 0) = false ∧
    decide (IntKind.i64.wrap (IntKind.i64.wrap (IntKind.i64.wrap (q.d - r.d) * IntKind.i64.wrap (m - r.m)) - IntKind.i64.wrap (IntKind.i64.wrap (degB r q m - r.d) * IntKind.i64.wrap (q.m - r.m))) ≥ IntKind.i64.wrap (q.m - r.m)) = false := by
  have hr := degB_rng h4 h3.1 h3.2 (by omega)
  have ho := degB_off h4 h3.1 h3.2
  have p0 : 0 ≤ (q.d - r.d) * (m - r.m) := Int.mul_nonneg (by omega) (by omega)
  have p1 : (q.d - r.d) * (m - r.m) ≤ 2000 * 600 := Int.mul_le_mul (by omega) (by omega) (by omega) (by omega)
  have p2 : 0 ≤ (degB r q m - r.d) * (q.m - r.m) := Int.mul_nonneg (by omega) (by omega)
  have p3 : (degB r q m - r.d) * (q.m - r.m) ≤ 2000 * 600 := Int.mul_le_mul (by omega) (by omega) (by omega) (by omega)
  rw [wrap64 (n := q.d - r.d) (by omega) (by omega), wrap64 (n := m - r.m) (by omega) (by omega), wrap64 (n := degB r q m - r.d) (by omega) (by omega), wrap64 (n := q.m - r.m) (by omega) (by omega),
    wrap64 (n := (q.d - r.d) * (m - r.m)) (by omega) (by omega), wrap64 (n := (degB r q m - r.d) * (q.m - r.m)) (by omega) (by omega), wrap64 (n := (q.d - r.d) * (m - r.m) - (degB r q m - r.d) * (q.m - r.m)) (by omega) (by omega)]
  constructor
  · exact decide_eq_false (by omega)
  · exact decide_eq_false (by omega)
set_option maxHeartbeats 8000000 in
set_option maxRecDepth 100000 in
theorem law13 (l : List Pt) (w : Int) (w0 : 0 ≤ w) (w1 : w ≤ 65535) : APure Try.prog 13 [.lst 2 (l.map encPt), .int .u16 w] (.bool true) := by
  have sC := rCurve_spec l
  cases hc : curveB l
  · rw [hc] at sC
    exact APure.vc Try.func13 rfl (.call (.bool true) <| .call (.bool false) .nil) rfl rfl ⟨alive_spec, sC, rB rfl⟩
  · rw [hc] at sC
    obtain ⟨hlen, ⟨p0, hp0, hp0m⟩, hpt, hst⟩ := curveB_out hc
    obtain ⟨p, hp⟩ : ∃ p, l[l.length - 1]? = some p := ⟨_, List.getElem?_eq_getElem (by omega)⟩
    have hpr := hpt _ _ hp
    have ei : IntKind.i64.wrap (((l.map encPt).length : Int) - 1) = ((l.length - 1 : Nat) : Int) := by
      rw [List.length_map, wrap64 (by omega) (by omega)]; omega
    have hidx : 0 ≤ IntKind.i64.wrap (((l.map encPt).length : Int) - 1) ∧ (l.map encPt)[(IntKind.i64.wrap (((l.map encPt).length : Int) - 1)).toNat]? = some (encPt p) := by
      rw [ei]; exact ⟨Int.natCast_nonneg _, by rw [Int.toNat_natCast, List.getElem?_map, hp]; rfl⟩
    have ew : IntKind.i64.wrap w = w := wrap64 (by omega) (by omega)
    have el : IntKind.i64.wrap (p.m + 1) = p.m + 1 := wrap64 (by omega) (by omega)
    obtain ⟨M, hM⟩ : ∃ M, M = w.tmod (p.m + 1) := ⟨_, rfl⟩
    have M0 : 0 ≤ M := by rw [hM, Int.tmod_eq_emod_of_nonneg w0]; exact Int.emod_nonneg _ (by omega)
    have M1 : M ≤ p.m := by rw [hM, Int.tmod_eq_emod_of_nonneg w0]; have := Int.emod_lt_of_pos w (show 0 < p.m + 1 by omega); omega
    have eM : (IntKind.i64.wrap w).tmod (IntKind.i64.wrap (p.m + 1)) = M := by rw [ew, el, hM]
    have hnz : IntKind.i64.wrap (p.m + 1) ≠ 0 := by rw [el]; omega
    have sAt : APure Try.prog 16 [.lst 2 (l.map encPt), .int .i64 ((IntKind.i64.wrap w).tmod (IntKind.i64.wrap (p.m + 1)))] (.tup [.int .i64 (deg l M), .int .i64 0]) := by
      rw [eM]; exact at_ok hc hp M0 M1
    refine APure.vc Try.func13 rfl (.call (.bool true) <| .call (.bool true) <| .cells (encPt p) <| .nz <| .call (.tup [.int .i64 (deg l M), .int .i64 0]) .loop) rfl rfl ⟨alive_spec, sC, hidx, hnz, sAt, ?_⟩
    intro g hn hl
    refine acode_while (fun k : Nat => ⟨[(0, .lst 2 (l.map encPt)), (5, .bool true), (6, .int .i64 p.m), (7, .int .i64 M), (8, .int .i64 (deg l M)), (44, .lst 2 (l.map encPt)), (45, .int .i64 (l.map encPt).length), (46, .int .i64 k)], [], 0⟩) (fun k => k ≤ l.length) (fun k => l.length - k) 0 (Nat.zero_le _) ?_ (fun _ _ => hl) ?_
    · exact St.le.of ⟨rfl, rfl, rfl, rfl, rfl, rfl, congrArg _ eM, rfl, rfl, rfl, rfl, rfl, rfl, rfl, rfl, rfl, trivial⟩ trivial
    · intro k hk
      by_cases hlt : k < l.length
      · obtain ⟨q, hq⟩ : ∃ q, l[k]? = some q := ⟨_, List.getElem?_eq_getElem hlt⟩
        have hq' : 0 ≤ (k : Int) ∧ (l.map encPt)[(k : Int).toNat]? = some (encPt q) := ⟨Int.natCast_nonneg _, by rw [Int.toNat_natCast, List.getElem?_map, hq]; rfl⟩
        have h47 : decide ((k : Int) < ((l.map encPt).length : Int)) = true := by simpa using hlt
        have h2 : IntKind.i64.wrap ((k : Int) + 1) = ((k + 1 : Nat) : Int) := wrap64 (by omega) (by omega)
        rcases Nat.eq_zero_or_pos k with h0 | h0
        · subst h0
          have h62 : (((0 : Nat) : Int) == 0) = true := rfl
          cases h55 : (q.m == M)
          · refine ACode.vc (.br 47 true <| .cells (encPt q) <| .br 55 false <| .br 63 true <| .nil) hn hl (.round .cl) ⟨h47, hq', h55, h62, 0 + 1, hlt, (by show l.length - (0 + 1) < l.length - 0; omega), St.le.of ⟨rfl, rfl, rfl, rfl, rfl, rfl, rfl, rfl, rfl, rfl, rfl, rfl, rfl, rfl, congrArg _ h2, rfl, trivial⟩ trivial⟩
          · have h60 : (deg l M != q.d) = false := by
              have := eq_of_beq h55
              rw [← this, deg_at hc hq]; simp
            refine ACode.vc (.br 47 true <| .cells (encPt q) <| .br 55 true <| .br 60 false <| .br 63 true <| .nil) hn hl (.round .cl) ⟨h47, hq', h55, h60, h62, 0 + 1, hlt, (by show l.length - (0 + 1) < l.length - 0; omega), St.le.of ⟨rfl, rfl, rfl, rfl, rfl, rfl, rfl, rfl, rfl, rfl, rfl, rfl, rfl, rfl, congrArg _ h2, rfl, trivial⟩ trivial⟩
        · obtain ⟨j, rfl⟩ : ∃ j, k = j + 1 := ⟨k - 1, by omega⟩
          obtain ⟨r, hr⟩ : ∃ r, l[j]? = some r := ⟨_, List.getElem?_eq_getElem (by omega)⟩
          have e1 : IntKind.i64.wrap (((j + 1 : Nat) : Int) - 1) = (j : Int) := by rw [wrap64 (by omega) (by omega)]; omega
          have hr' : 0 ≤ IntKind.i64.wrap (((j + 1 : Nat) : Int) - 1) ∧ (l.map encPt)[(IntKind.i64.wrap (((j + 1 : Nat) : Int) - 1)).toNat]? = some (encPt r) := by
            rw [e1]; exact ⟨Int.natCast_nonneg _, by rw [Int.toNat_natCast, List.getElem?_map, hr]; rfl⟩
          have h63 : (((j + 1 : Nat) : Int) == 0) = false := by rw [beq_eq_false_iff_ne]; omega
          have hs := hst _ _ _ hr hq
          have hnext : j + 1 + 1 ≤ l.length := hlt
          have hmu : l.length - (j + 1 + 1) < l.length - (j + 1) := by omega
          cases h55 : (q.m == M)
          · have hne : q.m ≠ M := by simpa using h55
            cases h72 : decide (r.m > M)
            · cases h77 : decide (q.m ≤ M)
              · have ha := of_decide_eq_false h72
                have hb := of_decide_eq_false h77
                have hdeg : deg l M = degB r q M := deg_where hc M0 hr hq (by omega) (fun _ => by omega)
                obtain ⟨o1, o2⟩ := off_ok (hpt _ _ hr) (hpt _ _ hq) hs (show r.m ≤ M by omega) (show M < q.m by omega)
                rw [← hdeg] at o1 o2
                refine ACode.vc (.br 47 true <| .cells (encPt q) <| .br 55 false <| .br 63 false <| .cells (encPt r) <| .br 73 false <| .br 78 false <| .cells (encPt r) <| .br 108 false <| .br 112 false <| .nil) hn hl (.round .cl)
                  ⟨h47, hq', h55, h63, hr', h72, h77, hr', o1, o2, j + 1 + 1, hnext, hmu, St.le.of ⟨rfl, rfl, rfl, rfl, rfl, rfl, rfl, rfl, rfl, rfl, rfl, rfl, rfl, rfl, congrArg _ h2, rfl, trivial⟩ trivial⟩
              · refine ACode.vc (.br 47 true <| .cells (encPt q) <| .br 55 false <| .br 63 false <| .cells (encPt r) <| .br 73 false <| .br 78 true <| .nil) hn hl (.round .cl)
                  ⟨h47, hq', h55, h63, hr', h72, h77, j + 1 + 1, hnext, hmu, St.le.of ⟨rfl, rfl, rfl, rfl, rfl, rfl, rfl, rfl, rfl, rfl, rfl, rfl, rfl, rfl, congrArg _ h2, rfl, trivial⟩ trivial⟩
            · refine ACode.vc (.br 47 true <| .cells (encPt q) <| .br 55 false <| .br 63 false <| .cells (encPt r) <| .br 73 true <| .nil) hn hl (.round .cl)
                ⟨h47, hq', h55, h63, hr', h72, j + 1 + 1, hnext, hmu, St.le.of ⟨rfl, rfl, rfl, rfl, rfl, rfl, rfl, rfl, rfl, rfl, rfl, rfl, rfl, rfl, congrArg _ h2, rfl, trivial⟩ trivial⟩
          · have he := eq_of_beq h55
            have h60 : (deg l M != q.d) = false := by
              rw [← he, deg_at hc hq]; simp
            have h72 : decide (r.m > M) = false := decide_eq_false (by omega)
            have h77 : decide (q.m ≤ M) = true := decide_eq_true (by omega)
            refine ACode.vc (.br 47 true <| .cells (encPt q) <| .br 55 true <| .br 60 false <| .br 63 false <| .cells (encPt r) <| .br 73 false <| .br 78 true <| .nil) hn hl (.round .cl)
              ⟨h47, hq', h55, h60, h63, hr', h72, h77, j + 1 + 1, hnext, hmu, St.le.of ⟨rfl, rfl, rfl, rfl, rfl, rfl, rfl, rfl, rfl, rfl, rfl, rfl, rfl, rfl, congrArg _ h2, rfl, trivial⟩ trivial⟩
      · have h47 : decide ((k : Int) < ((l.map encPt).length : Int)) = false := by simpa using hlt
        cases h116 : (M == p.m)
        · have hne : M ≠ p.m := by simpa using h116
          have e2 : IntKind.i64.wrap (M + 1) = M + 1 := wrap64 (by omega) (by omega)
          have sAt2 : APure Try.prog 16 [.lst 2 (l.map encPt), .int .i64 (IntKind.i64.wrap (M + 1))] (.tup [.int .i64 (deg l (M + 1)), .int .i64 0]) := by
            rw [e2]; exact at_ok hc hp (by omega) (by omega)
          have hmono := deg_mono hc hp M0 (by omega)
          exact ACode.vc (.br 47 false .nil) hn hl (.round .cl) ⟨h47, _, .refl _, .br 116 false <| .call (.tup [.int .i64 (deg l (M + 1)), .int .i64 0]) .nil, h116, sAt2, rB (decide_eq_true hmono)⟩
        · exact ACode.vc (.br 47 false .nil) hn hl (.round .cl) ⟨h47, _, .refl _, .br 116 true .nil, h116, rB rfl⟩
end Go.Proofs.Yticiopkiikcokaa
