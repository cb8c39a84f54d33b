import Derived.Test.YtcdcgbgmpmaipaaDoorD24
import Derived.Test.YtcdcgbgmpmaipaaDoorE2
namespace Go.Proofs.YtcdcgbgmpmaipaaDoor
open Go Go.Am
set_option maxRecDepth 100000
set_option maxHeartbeats 16000000
def widH (h : Hd) (y : List Int) : Hd where
  bLo := h.bLo - (chs y 0).tmod (h.bLo + 1)
  bHi := h.bHi + (chs y 1).tmod (1000000 - h.bHi + 1)
  fLo := h.fLo - (chs y 2).tmod (h.fLo + 1)
  fHi := h.fHi + (chs y 3).tmod (10000 - h.fHi + 1)
  jLo := h.jLo - (chs y 4).tmod (h.jLo + 1)
  jHi := h.jHi + (chs y 5).tmod (30000 - h.jHi + 1)
  lLo := h.lLo - (chs y 6).tmod (h.lLo + 1)
  lHi := h.lHi
  dr := h.dr + (chs y 7).tmod (1000 - h.dr + 1)
theorem law_wider (h : Hd) (r : List Int) (y : List Int) (hy : ∀ x ∈ y, 0 ≤ x ∧ x < 4294967296) (x : Int) (x1 : 0 ≤ x) (x2 : x ≤ 255) (v : Int) : APure Tryd.prog 9 [encHd h, encR r, .lst 1 (y.map encU), .int .u8 x, .int .i64 v] (.bool true) := by
  have sA := alive_spec
  have sR := ready_spec h r
  by_cases h0 : checkI h r = 0
  · rw [decide_eq_true h0] at sR
    have ho := checkI_ok.1 h0
    by_cases hv : v < 1
    · have d38 : decide (v < 1) = true := decide_eq_true hv
      exact APure.vc Tryd.func9 rfl (.call (.bool true) <| .call (.bool true) <| .br 38 true .nil) rfl rfl (kmp (by kernel_rfl) <| And.intro sA <| And.intro sR <| And.intro d38 <| And.intro trivial rTrue)
    · have d38 : decide (v < 1) = false := decide_eq_false hv
      have c0 : APure Tryd.prog 36 [.lst 1 (y.map encU), .int .i64 0] (.int .i64 (chs y 0)) := choose_spec y hy 0
      have c1 : APure Tryd.prog 36 [.lst 1 (y.map encU), .int .i64 1] (.int .i64 (chs y 1)) := choose_spec y hy 1
      have c2 : APure Tryd.prog 36 [.lst 1 (y.map encU), .int .i64 2] (.int .i64 (chs y 2)) := choose_spec y hy 2
      have c3 : APure Tryd.prog 36 [.lst 1 (y.map encU), .int .i64 3] (.int .i64 (chs y 3)) := choose_spec y hy 3
      have c4 : APure Tryd.prog 36 [.lst 1 (y.map encU), .int .i64 4] (.int .i64 (chs y 4)) := choose_spec y hy 4
      have c5 : APure Tryd.prog 36 [.lst 1 (y.map encU), .int .i64 5] (.int .i64 (chs y 5)) := choose_spec y hy 5
      have c6 : APure Tryd.prog 36 [.lst 1 (y.map encU), .int .i64 6] (.int .i64 (chs y 6)) := choose_spec y hy 6
      have c7 : APure Tryd.prog 36 [.lst 1 (y.map encU), .int .i64 7] (.int .i64 (chs y 7)) := choose_spec y hy 7
      obtain ⟨n0, v0, l0, u0⟩ := subE (chs_rng hy 0).1 (chs_rng hy 0).2 (show 0 ≤ h.bLo by have := ho.h.b; omega) (show h.bLo ≤ 1000000 by have := ho.h.b; omega)
      obtain ⟨n1, v1, l1, u1⟩ := addE (chs_rng hy 1).1 (chs_rng hy 1).2 (show 0 ≤ h.bHi by have := ho.h.b; omega) (show h.bHi ≤ 1000000 by have := ho.h.b; omega) (by omega)
      obtain ⟨n2, v2, l2, u2⟩ := subE (chs_rng hy 2).1 (chs_rng hy 2).2 (show 0 ≤ h.fLo by have := ho.h.f; omega) (show h.fLo ≤ 1000000 by have := ho.h.f; omega)
      obtain ⟨n3, v3, l3, u3⟩ := addE (chs_rng hy 3).1 (chs_rng hy 3).2 (show 0 ≤ h.fHi by have := ho.h.f; omega) (show h.fHi ≤ 10000 by have := ho.h.f; omega) (by omega)
      obtain ⟨n4, v4, l4, u4⟩ := subE (chs_rng hy 4).1 (chs_rng hy 4).2 (show 0 ≤ h.jLo by have := ho.h.j; omega) (show h.jLo ≤ 1000000 by have := ho.h.j; omega)
      obtain ⟨n5, v5, l5, u5⟩ := addE (chs_rng hy 5).1 (chs_rng hy 5).2 (show 0 ≤ h.jHi by have := ho.h.j; omega) (show h.jHi ≤ 30000 by have := ho.h.j; omega) (by omega)
      obtain ⟨n6, v6, l6, u6⟩ := subE (chs_rng hy 6).1 (chs_rng hy 6).2 (show 0 ≤ h.lLo by have := ho.h.l; omega) (show h.lLo ≤ 1000000 by have := ho.h.l; omega)
      obtain ⟨n7, v7, l7, u7⟩ := addE (chs_rng hy 7).1 (chs_rng hy 7).2 (show 0 ≤ h.dr by have := ho.h.d; omega) (show h.dr ≤ 1000 by have := ho.h.d; omega) (by omega)
      have hW : Wid h (widH h y) := ⟨⟨u0, l1⟩, ⟨u2, l3⟩, ⟨u4, l5⟩, ⟨u6, rfl⟩, l7⟩
      have hoW : Ok (widH h y) r := ⟨⟨⟨l0, by have := ho.h.b; show h.bLo - _ ≤ h.bHi + _; omega, u1⟩, ⟨l2, by have := ho.h.f; show h.fLo - _ ≤ h.fHi + _; omega, u3⟩, ⟨l4, by have := ho.h.j; show h.jLo - _ ≤ h.jHi + _; omega, u5⟩,
        ⟨l6, by have := ho.h.l; show h.lLo - _ ≤ h.lHi; omega, ho.h.l.2.2⟩, ⟨by have := ho.h.d; show 0 ≤ h.dr + _; omega, u7⟩⟩, ho.r⟩
      have hw0 : checkI (widH h y) r = 0 := checkI_ok.2 hoW
      have hsN := secN_wid r hW
      have hN := secN_le ho
      have sN := rSeconds_spec h r ho
      have p1 := span_spec (widH h y).bLo (widH h y).bHi
      have p2 := span_spec (widH h y).fLo (widH h y).fHi
      have p3 := span_spec (widH h y).jLo (widH h y).jHi
      have f1 := First_spec h r v
      have f2 := First_spec (widH h y) r v
      rw [show firstI h r v = (firstS h r v, knownI h r v, 0) by simp only [firstI, h0, if_true, if_pos (show 1 ≤ v by omega)]] at f1
      rw [show firstI (widH h y) r v = (firstS (widH h y) r v, knownI (widH h y) r v, 0) by simp only [firstI, hw0, if_true, if_pos (show 1 ≤ v by omega)]] at f2
      obtain ⟨k1, k2⟩ := wider_ok hW ho hoW v
      have g1 : ∀ k : Nat, k < secN h r → APure Tryd.prog 12 [encHd h, encR r, .int .i64 k] (encE (sumV h r k 1, 0)) := fun k hk => by
        have := Heat_spec h r k
        rwa [show heatI h r k = (sumV h r k 1, 0) by simp only [heatI, h0, if_true, if_pos (show 0 ≤ (k : Int) ∧ (k : Int) < secN h r by omega), Int.toNat_natCast]] at this
      have g2 : ∀ k : Nat, k < secN h r → APure Tryd.prog 12 [encHd (widH h y), encR r, .int .i64 k] (encE (sumV (widH h y) r k 1, 0)) := fun k hk => by
        have := Heat_spec (widH h y) r k
        rwa [show heatI (widH h y) r k = (sumV (widH h y) r k 1, 0) by simp only [heatI, hw0, if_true, hsN, if_pos (show 0 ≤ (k : Int) ∧ (k : Int) < secN h r by omega), Int.toNat_natCast]] at this
      have g3 : APure Tryd.prog 14 [encHd h, encR r, .int .i64 0, .int .i64 (secN h r)] (encE (sumV h r 0 (secN h r), 0)) := by
        have := Sum_spec h r 0 (secN h r)
        rwa [show sumI h r 0 (secN h r) = (sumV h r 0 (secN h r), 0) by simp only [sumI, h0, if_true, if_pos (show (0 : Int) ≤ 0 ∧ (0 : Int) ≤ secN h r ∧ (secN h r : Int) ≤ secN h r by omega), Int.sub_zero, Int.toNat_natCast]; rfl] at this
      have g4 : APure Tryd.prog 14 [encHd (widH h y), encR r, .int .i64 0, .int .i64 (secN h r)] (encE (sumV (widH h y) r 0 (secN h r), 0)) := by
        have := Sum_spec (widH h y) r 0 (secN h r)
        rwa [show sumI (widH h y) r 0 (secN h r) = (sumV (widH h y) r 0 (secN h r), 0) by simp only [sumI, hw0, if_true, hsN, if_pos (show (0 : Int) ≤ 0 ∧ (0 : Int) ≤ secN h r ∧ (secN h r : Int) ≤ secN h r by omega), Int.sub_zero, Int.toNat_natCast]; rfl] at this
      have sw := fun (k : Nat) => sum_wid hW ho hoW k 1 (by omega)
      have sz := sum_wid hW ho hoW 0 (secN h r) (by omega)
      clear hW hoW hsN hw0 l0 l1 l2 l3 l4 l5 l6 l7 u0 u1 u2 u3 u4 u5 u6 u7 ho h0
      generalize firstS h r v = F at *
      generalize firstS (widH h y) r v = G at *
      generalize knownI h r v = m at *
      generalize knownI (widH h y) r v = n at *
      generalize sumV h r 0 (secN h r) = s at *
      generalize sumV (widH h y) r 0 (secN h r) = t at *
      generalize secN h r = N at *
      have q268 : decide (t.1 ≤ s.1) = true := decide_eq_true sz.1
      have dE : some (AV.bool (decide (t.2 ≥ s.2))) = some (.bool true) := by rw [decide_eq_true sz.2]
      by_cases hn1 : n = 1
      · have d171 : (n != 1) = false := by simp [hn1]
        by_cases hm0 : m = 0
        · have d180 : (m != 0) = false := by simp [hm0]
          by_cases hz : N = 0
          · have d196 : ((N : Int) == 0) = true := by simp [hz]
            exact APure.vc Tryd.func9 rfl (.call (.bool true) <| .call (.bool true) <| .br 38 false <| .draw 23 <| .call (.int .i64 (chs y 0)) <| .nz <| .val 54 (.int .i64 (widH h y).bLo) [] <| .call (.int .i64 (chs y 1)) <| .nz <| .val 66 (.int .i64 (widH h y).bHi) [] <| .call (encS ((widH h y).bLo, (widH h y).bHi)) <| .draw 23 <| .call (.int .i64 (chs y 2)) <| .nz <| .val 79 (.int .i64 (widH h y).fLo) [] <| .call (.int .i64 (chs y 3)) <| .nz <| .val 91 (.int .i64 (widH h y).fHi) [] <| .call (encS ((widH h y).fLo, (widH h y).fHi)) <| .draw 23 <| .call (.int .i64 (chs y 4)) <| .nz <| .val 104 (.int .i64 (widH h y).jLo) [] <| .call (.int .i64 (chs y 5)) <| .nz <| .val 116 (.int .i64 (widH h y).jHi) [] <| .call (encS ((widH h y).jLo, (widH h y).jHi)) <| .draw 10 <| .call (.int .i64 (chs y 6)) <| .nz <| .val 129 (.int .i64 (widH h y).lLo) [] <| .draw 9 <| .call (.int .i64 (chs y 7)) <| .nz <| .val 141 (.int .i64 (widH h y).dr) [] <| .call (.int .i64 N) <| .call (encF (F, m, 0)) <| .call (encF (G, n, 0)) <| .br 171 false <| .br 180 false <| .br 196 true .nil) rfl rfl
              (kmp (by kernel_rfl) <| And.intro sA <| And.intro sR <| And.intro d38 <| And.intro tTrue <| And.intro mixed <| And.intro (Eq.refl (23 : Nat)) <| And.intro c0 <| And.intro n0 <| And.intro v0 <| And.intro c1 <| And.intro n1 <| And.intro v1 <| And.intro tTrue <| And.intro p1 <| And.intro tTrue <| And.intro mixed <| And.intro (Eq.refl (23 : Nat)) <| And.intro c2 <| And.intro n2 <| And.intro v2 <| And.intro c3 <| And.intro n3 <| And.intro v3 <| And.intro tTrue <| And.intro p2 <| And.intro tTrue <| And.intro mixed <| And.intro (Eq.refl (23 : Nat)) <| And.intro c4 <| And.intro n4 <| And.intro v4 <| And.intro c5 <| And.intro n5 <| And.intro v5 <| And.intro tTrue <| And.intro p3 <| And.intro tTrue <| And.intro mixed <| And.intro (Eq.refl (10 : Nat)) <| And.intro c6 <| And.intro n6 <| And.intro tTrue <| And.intro v6 <| And.intro tTrue <| And.intro mixed <| And.intro (Eq.refl (9 : Nat)) <| And.intro c7 <| And.intro n7 <| And.intro tTrue <| And.intro v7 <| And.intro sN <| And.intro f1 <| And.intro f2 <| And.intro d171 <| And.intro d180 <| And.intro d196 <| And.intro trivial rTrue)
          · have d196 : ((N : Int) == 0) = false := by simp [hz]
            have hN0 : (N : Int) ≠ 0 := by omega
            have hx := tm_rng x1 (show 0 < (N : Int) by omega)
            obtain ⟨k, ek⟩ : ∃ k : Nat, (k : Int) = x.tmod (N : Int) := ⟨(x.tmod (N : Int)).toNat, by omega⟩
            have v20 : some (⟨.int .i64 ((IntKind.i64.wrap x).tmod (N : Int)), []⟩ : Out) = some ⟨.int .i64 k, []⟩ := by rw [wrap64 (n := x) (by omega) (by omega), ek]
            have G1 := g1 k (by omega)
            have G2 := g2 k (by omega)
            have q254 : decide ((sumV (widH h y) r k 1).1 ≤ (sumV h r k 1).1) = true := decide_eq_true (sw k).1
            have q261 : decide ((sumV (widH h y) r k 1).2 ≥ (sumV h r k 1).2) = true := decide_eq_true (sw k).2
            generalize sumV h r k 1 = p at *
            generalize sumV (widH h y) r k 1 = q at *
            exact APure.vc Tryd.func9 rfl (.call (.bool true) <| .call (.bool true) <| .br 38 false <| .draw 23 <| .call (.int .i64 (chs y 0)) <| .nz <| .val 54 (.int .i64 (widH h y).bLo) [] <| .call (.int .i64 (chs y 1)) <| .nz <| .val 66 (.int .i64 (widH h y).bHi) [] <| .call (encS ((widH h y).bLo, (widH h y).bHi)) <| .draw 23 <| .call (.int .i64 (chs y 2)) <| .nz <| .val 79 (.int .i64 (widH h y).fLo) [] <| .call (.int .i64 (chs y 3)) <| .nz <| .val 91 (.int .i64 (widH h y).fHi) [] <| .call (encS ((widH h y).fLo, (widH h y).fHi)) <| .draw 23 <| .call (.int .i64 (chs y 4)) <| .nz <| .val 104 (.int .i64 (widH h y).jLo) [] <| .call (.int .i64 (chs y 5)) <| .nz <| .val 116 (.int .i64 (widH h y).jHi) [] <| .call (encS ((widH h y).jLo, (widH h y).jHi)) <| .draw 10 <| .call (.int .i64 (chs y 6)) <| .nz <| .val 129 (.int .i64 (widH h y).lLo) [] <| .draw 9 <| .call (.int .i64 (chs y 7)) <| .nz <| .val 141 (.int .i64 (widH h y).dr) [] <| .call (.int .i64 N) <| .call (encF (F, m, 0)) <| .call (encF (G, n, 0)) <| .br 171 false <| .br 180 false <| .br 196 false <| .nz <| .val 20 (.int .i64 k) [] <| .call (encE (p, 0)) <| .call (encE (q, 0)) <| .call (encE (s, 0)) <| .call (encE (t, 0)) <| .br 254 true <| .br 261 true <| .br 268 true .nil) rfl rfl
              (kmp (by kernel_rfl) <| And.intro sA <| And.intro sR <| And.intro d38 <| And.intro tTrue <| And.intro mixed <| And.intro (Eq.refl (23 : Nat)) <| And.intro c0 <| And.intro n0 <| And.intro v0 <| And.intro c1 <| And.intro n1 <| And.intro v1 <| And.intro tTrue <| And.intro p1 <| And.intro tTrue <| And.intro mixed <| And.intro (Eq.refl (23 : Nat)) <| And.intro c2 <| And.intro n2 <| And.intro v2 <| And.intro c3 <| And.intro n3 <| And.intro v3 <| And.intro tTrue <| And.intro p2 <| And.intro tTrue <| And.intro mixed <| And.intro (Eq.refl (23 : Nat)) <| And.intro c4 <| And.intro n4 <| And.intro v4 <| And.intro c5 <| And.intro n5 <| And.intro v5 <| And.intro tTrue <| And.intro p3 <| And.intro tTrue <| And.intro mixed <| And.intro (Eq.refl (10 : Nat)) <| And.intro c6 <| And.intro n6 <| And.intro tTrue <| And.intro v6 <| And.intro tTrue <| And.intro mixed <| And.intro (Eq.refl (9 : Nat)) <| And.intro c7 <| And.intro n7 <| And.intro tTrue <| And.intro v7 <| And.intro sN <| And.intro f1 <| And.intro f2 <| And.intro d171 <| And.intro d180 <| And.intro d196 <| And.intro hN0 <| And.intro v20 <| And.intro G1 <| And.intro G2 <| And.intro g3 <| And.intro g4 <| And.intro q254 <| And.intro q261 <| And.intro q268 <| And.intro trivial dE)
        · have d180 : (m != 0) = true := by simp [hm0]
          obtain ⟨b1, b2⟩ := k2 hm0
          have d186 : decide (G.1 > F.1) = false := decide_eq_false (by omega)
          have d194 : decide (G.2 < F.2) = false := decide_eq_false (by omega)
          by_cases hz : N = 0
          · have d196 : ((N : Int) == 0) = true := by simp [hz]
            exact APure.vc Tryd.func9 rfl (.call (.bool true) <| .call (.bool true) <| .br 38 false <| .draw 23 <| .call (.int .i64 (chs y 0)) <| .nz <| .val 54 (.int .i64 (widH h y).bLo) [] <| .call (.int .i64 (chs y 1)) <| .nz <| .val 66 (.int .i64 (widH h y).bHi) [] <| .call (encS ((widH h y).bLo, (widH h y).bHi)) <| .draw 23 <| .call (.int .i64 (chs y 2)) <| .nz <| .val 79 (.int .i64 (widH h y).fLo) [] <| .call (.int .i64 (chs y 3)) <| .nz <| .val 91 (.int .i64 (widH h y).fHi) [] <| .call (encS ((widH h y).fLo, (widH h y).fHi)) <| .draw 23 <| .call (.int .i64 (chs y 4)) <| .nz <| .val 104 (.int .i64 (widH h y).jLo) [] <| .call (.int .i64 (chs y 5)) <| .nz <| .val 116 (.int .i64 (widH h y).jHi) [] <| .call (encS ((widH h y).jLo, (widH h y).jHi)) <| .draw 10 <| .call (.int .i64 (chs y 6)) <| .nz <| .val 129 (.int .i64 (widH h y).lLo) [] <| .draw 9 <| .call (.int .i64 (chs y 7)) <| .nz <| .val 141 (.int .i64 (widH h y).dr) [] <| .call (.int .i64 N) <| .call (encF (F, m, 0)) <| .call (encF (G, n, 0)) <| .br 171 false <| .br 180 true <| .br 186 false <| .br 194 false <| .br 196 true .nil) rfl rfl
              (kmp (by kernel_rfl) <| And.intro sA <| And.intro sR <| And.intro d38 <| And.intro tTrue <| And.intro mixed <| And.intro (Eq.refl (23 : Nat)) <| And.intro c0 <| And.intro n0 <| And.intro v0 <| And.intro c1 <| And.intro n1 <| And.intro v1 <| And.intro tTrue <| And.intro p1 <| And.intro tTrue <| And.intro mixed <| And.intro (Eq.refl (23 : Nat)) <| And.intro c2 <| And.intro n2 <| And.intro v2 <| And.intro c3 <| And.intro n3 <| And.intro v3 <| And.intro tTrue <| And.intro p2 <| And.intro tTrue <| And.intro mixed <| And.intro (Eq.refl (23 : Nat)) <| And.intro c4 <| And.intro n4 <| And.intro v4 <| And.intro c5 <| And.intro n5 <| And.intro v5 <| And.intro tTrue <| And.intro p3 <| And.intro tTrue <| And.intro mixed <| And.intro (Eq.refl (10 : Nat)) <| And.intro c6 <| And.intro n6 <| And.intro tTrue <| And.intro v6 <| And.intro tTrue <| And.intro mixed <| And.intro (Eq.refl (9 : Nat)) <| And.intro c7 <| And.intro n7 <| And.intro tTrue <| And.intro v7 <| And.intro sN <| And.intro f1 <| And.intro f2 <| And.intro d171 <| And.intro d180 <| And.intro d186 <| And.intro d194 <| And.intro d196 <| And.intro trivial rTrue)
          · have d196 : ((N : Int) == 0) = false := by simp [hz]
            have hN0 : (N : Int) ≠ 0 := by omega
            have hx := tm_rng x1 (show 0 < (N : Int) by omega)
            obtain ⟨k, ek⟩ : ∃ k : Nat, (k : Int) = x.tmod (N : Int) := ⟨(x.tmod (N : Int)).toNat, by omega⟩
            have v20 : some (⟨.int .i64 ((IntKind.i64.wrap x).tmod (N : Int)), []⟩ : Out) = some ⟨.int .i64 k, []⟩ := by rw [wrap64 (n := x) (by omega) (by omega), ek]
            have G1 := g1 k (by omega)
            have G2 := g2 k (by omega)
            have q254 : decide ((sumV (widH h y) r k 1).1 ≤ (sumV h r k 1).1) = true := decide_eq_true (sw k).1
            have q261 : decide ((sumV (widH h y) r k 1).2 ≥ (sumV h r k 1).2) = true := decide_eq_true (sw k).2
            generalize sumV h r k 1 = p at *
            generalize sumV (widH h y) r k 1 = q at *
            exact APure.vc Tryd.func9 rfl (.call (.bool true) <| .call (.bool true) <| .br 38 false <| .draw 23 <| .call (.int .i64 (chs y 0)) <| .nz <| .val 54 (.int .i64 (widH h y).bLo) [] <| .call (.int .i64 (chs y 1)) <| .nz <| .val 66 (.int .i64 (widH h y).bHi) [] <| .call (encS ((widH h y).bLo, (widH h y).bHi)) <| .draw 23 <| .call (.int .i64 (chs y 2)) <| .nz <| .val 79 (.int .i64 (widH h y).fLo) [] <| .call (.int .i64 (chs y 3)) <| .nz <| .val 91 (.int .i64 (widH h y).fHi) [] <| .call (encS ((widH h y).fLo, (widH h y).fHi)) <| .draw 23 <| .call (.int .i64 (chs y 4)) <| .nz <| .val 104 (.int .i64 (widH h y).jLo) [] <| .call (.int .i64 (chs y 5)) <| .nz <| .val 116 (.int .i64 (widH h y).jHi) [] <| .call (encS ((widH h y).jLo, (widH h y).jHi)) <| .draw 10 <| .call (.int .i64 (chs y 6)) <| .nz <| .val 129 (.int .i64 (widH h y).lLo) [] <| .draw 9 <| .call (.int .i64 (chs y 7)) <| .nz <| .val 141 (.int .i64 (widH h y).dr) [] <| .call (.int .i64 N) <| .call (encF (F, m, 0)) <| .call (encF (G, n, 0)) <| .br 171 false <| .br 180 true <| .br 186 false <| .br 194 false <| .br 196 false <| .nz <| .val 20 (.int .i64 k) [] <| .call (encE (p, 0)) <| .call (encE (q, 0)) <| .call (encE (s, 0)) <| .call (encE (t, 0)) <| .br 254 true <| .br 261 true <| .br 268 true .nil) rfl rfl
              (kmp (by kernel_rfl) <| And.intro sA <| And.intro sR <| And.intro d38 <| And.intro tTrue <| And.intro mixed <| And.intro (Eq.refl (23 : Nat)) <| And.intro c0 <| And.intro n0 <| And.intro v0 <| And.intro c1 <| And.intro n1 <| And.intro v1 <| And.intro tTrue <| And.intro p1 <| And.intro tTrue <| And.intro mixed <| And.intro (Eq.refl (23 : Nat)) <| And.intro c2 <| And.intro n2 <| And.intro v2 <| And.intro c3 <| And.intro n3 <| And.intro v3 <| And.intro tTrue <| And.intro p2 <| And.intro tTrue <| And.intro mixed <| And.intro (Eq.refl (23 : Nat)) <| And.intro c4 <| And.intro n4 <| And.intro v4 <| And.intro c5 <| And.intro n5 <| And.intro v5 <| And.intro tTrue <| And.intro p3 <| And.intro tTrue <| And.intro mixed <| And.intro (Eq.refl (10 : Nat)) <| And.intro c6 <| And.intro n6 <| And.intro tTrue <| And.intro v6 <| And.intro tTrue <| And.intro mixed <| And.intro (Eq.refl (9 : Nat)) <| And.intro c7 <| And.intro n7 <| And.intro tTrue <| And.intro v7 <| And.intro sN <| And.intro f1 <| And.intro f2 <| And.intro d171 <| And.intro d180 <| And.intro d186 <| And.intro d194 <| And.intro d196 <| And.intro hN0 <| And.intro v20 <| And.intro G1 <| And.intro G2 <| And.intro g3 <| And.intro g4 <| And.intro q254 <| And.intro q261 <| And.intro q268 <| And.intro trivial dE)
      · have d171 : (n != 1) = true := by simp [hn1]
        have d177 : (m != n) = false := by simp [k1 hn1]
        by_cases hm0 : m = 0
        · have d180 : (m != 0) = false := by simp [hm0]
          by_cases hz : N = 0
          · have d196 : ((N : Int) == 0) = true := by simp [hz]
            exact APure.vc Tryd.func9 rfl (.call (.bool true) <| .call (.bool true) <| .br 38 false <| .draw 23 <| .call (.int .i64 (chs y 0)) <| .nz <| .val 54 (.int .i64 (widH h y).bLo) [] <| .call (.int .i64 (chs y 1)) <| .nz <| .val 66 (.int .i64 (widH h y).bHi) [] <| .call (encS ((widH h y).bLo, (widH h y).bHi)) <| .draw 23 <| .call (.int .i64 (chs y 2)) <| .nz <| .val 79 (.int .i64 (widH h y).fLo) [] <| .call (.int .i64 (chs y 3)) <| .nz <| .val 91 (.int .i64 (widH h y).fHi) [] <| .call (encS ((widH h y).fLo, (widH h y).fHi)) <| .draw 23 <| .call (.int .i64 (chs y 4)) <| .nz <| .val 104 (.int .i64 (widH h y).jLo) [] <| .call (.int .i64 (chs y 5)) <| .nz <| .val 116 (.int .i64 (widH h y).jHi) [] <| .call (encS ((widH h y).jLo, (widH h y).jHi)) <| .draw 10 <| .call (.int .i64 (chs y 6)) <| .nz <| .val 129 (.int .i64 (widH h y).lLo) [] <| .draw 9 <| .call (.int .i64 (chs y 7)) <| .nz <| .val 141 (.int .i64 (widH h y).dr) [] <| .call (.int .i64 N) <| .call (encF (F, m, 0)) <| .call (encF (G, n, 0)) <| .br 171 true <| .br 177 false <| .br 180 false <| .br 196 true .nil) rfl rfl
              (kmp (by kernel_rfl) <| And.intro sA <| And.intro sR <| And.intro d38 <| And.intro tTrue <| And.intro mixed <| And.intro (Eq.refl (23 : Nat)) <| And.intro c0 <| And.intro n0 <| And.intro v0 <| And.intro c1 <| And.intro n1 <| And.intro v1 <| And.intro tTrue <| And.intro p1 <| And.intro tTrue <| And.intro mixed <| And.intro (Eq.refl (23 : Nat)) <| And.intro c2 <| And.intro n2 <| And.intro v2 <| And.intro c3 <| And.intro n3 <| And.intro v3 <| And.intro tTrue <| And.intro p2 <| And.intro tTrue <| And.intro mixed <| And.intro (Eq.refl (23 : Nat)) <| And.intro c4 <| And.intro n4 <| And.intro v4 <| And.intro c5 <| And.intro n5 <| And.intro v5 <| And.intro tTrue <| And.intro p3 <| And.intro tTrue <| And.intro mixed <| And.intro (Eq.refl (10 : Nat)) <| And.intro c6 <| And.intro n6 <| And.intro tTrue <| And.intro v6 <| And.intro tTrue <| And.intro mixed <| And.intro (Eq.refl (9 : Nat)) <| And.intro c7 <| And.intro n7 <| And.intro tTrue <| And.intro v7 <| And.intro sN <| And.intro f1 <| And.intro f2 <| And.intro d171 <| And.intro d177 <| And.intro d180 <| And.intro d196 <| And.intro trivial rTrue)
          · have d196 : ((N : Int) == 0) = false := by simp [hz]
            have hN0 : (N : Int) ≠ 0 := by omega
            have hx := tm_rng x1 (show 0 < (N : Int) by omega)
            obtain ⟨k, ek⟩ : ∃ k : Nat, (k : Int) = x.tmod (N : Int) := ⟨(x.tmod (N : Int)).toNat, by omega⟩
            have v20 : some (⟨.int .i64 ((IntKind.i64.wrap x).tmod (N : Int)), []⟩ : Out) = some ⟨.int .i64 k, []⟩ := by rw [wrap64 (n := x) (by omega) (by omega), ek]
            have G1 := g1 k (by omega)
            have G2 := g2 k (by omega)
            have q254 : decide ((sumV (widH h y) r k 1).1 ≤ (sumV h r k 1).1) = true := decide_eq_true (sw k).1
            have q261 : decide ((sumV (widH h y) r k 1).2 ≥ (sumV h r k 1).2) = true := decide_eq_true (sw k).2
            generalize sumV h r k 1 = p at *
            generalize sumV (widH h y) r k 1 = q at *
            exact APure.vc Tryd.func9 rfl (.call (.bool true) <| .call (.bool true) <| .br 38 false <| .draw 23 <| .call (.int .i64 (chs y 0)) <| .nz <| .val 54 (.int .i64 (widH h y).bLo) [] <| .call (.int .i64 (chs y 1)) <| .nz <| .val 66 (.int .i64 (widH h y).bHi) [] <| .call (encS ((widH h y).bLo, (widH h y).bHi)) <| .draw 23 <| .call (.int .i64 (chs y 2)) <| .nz <| .val 79 (.int .i64 (widH h y).fLo) [] <| .call (.int .i64 (chs y 3)) <| .nz <| .val 91 (.int .i64 (widH h y).fHi) [] <| .call (encS ((widH h y).fLo, (widH h y).fHi)) <| .draw 23 <| .call (.int .i64 (chs y 4)) <| .nz <| .val 104 (.int .i64 (widH h y).jLo) [] <| .call (.int .i64 (chs y 5)) <| .nz <| .val 116 (.int .i64 (widH h y).jHi) [] <| .call (encS ((widH h y).jLo, (widH h y).jHi)) <| .draw 10 <| .call (.int .i64 (chs y 6)) <| .nz <| .val 129 (.int .i64 (widH h y).lLo) [] <| .draw 9 <| .call (.int .i64 (chs y 7)) <| .nz <| .val 141 (.int .i64 (widH h y).dr) [] <| .call (.int .i64 N) <| .call (encF (F, m, 0)) <| .call (encF (G, n, 0)) <| .br 171 true <| .br 177 false <| .br 180 false <| .br 196 false <| .nz <| .val 20 (.int .i64 k) [] <| .call (encE (p, 0)) <| .call (encE (q, 0)) <| .call (encE (s, 0)) <| .call (encE (t, 0)) <| .br 254 true <| .br 261 true <| .br 268 true .nil) rfl rfl
              (kmp (by kernel_rfl) <| And.intro sA <| And.intro sR <| And.intro d38 <| And.intro tTrue <| And.intro mixed <| And.intro (Eq.refl (23 : Nat)) <| And.intro c0 <| And.intro n0 <| And.intro v0 <| And.intro c1 <| And.intro n1 <| And.intro v1 <| And.intro tTrue <| And.intro p1 <| And.intro tTrue <| And.intro mixed <| And.intro (Eq.refl (23 : Nat)) <| And.intro c2 <| And.intro n2 <| And.intro v2 <| And.intro c3 <| And.intro n3 <| And.intro v3 <| And.intro tTrue <| And.intro p2 <| And.intro tTrue <| And.intro mixed <| And.intro (Eq.refl (23 : Nat)) <| And.intro c4 <| And.intro n4 <| And.intro v4 <| And.intro c5 <| And.intro n5 <| And.intro v5 <| And.intro tTrue <| And.intro p3 <| And.intro tTrue <| And.intro mixed <| And.intro (Eq.refl (10 : Nat)) <| And.intro c6 <| And.intro n6 <| And.intro tTrue <| And.intro v6 <| And.intro tTrue <| And.intro mixed <| And.intro (Eq.refl (9 : Nat)) <| And.intro c7 <| And.intro n7 <| And.intro tTrue <| And.intro v7 <| And.intro sN <| And.intro f1 <| And.intro f2 <| And.intro d171 <| And.intro d177 <| And.intro d180 <| And.intro d196 <| And.intro hN0 <| And.intro v20 <| And.intro G1 <| And.intro G2 <| And.intro g3 <| And.intro g4 <| And.intro q254 <| And.intro q261 <| And.intro q268 <| And.intro trivial dE)
        · have d180 : (m != 0) = true := by simp [hm0]
          obtain ⟨b1, b2⟩ := k2 hm0
          have d186 : decide (G.1 > F.1) = false := decide_eq_false (by omega)
          have d194 : decide (G.2 < F.2) = false := decide_eq_false (by omega)
          by_cases hz : N = 0
          · have d196 : ((N : Int) == 0) = true := by simp [hz]
            exact APure.vc Tryd.func9 rfl (.call (.bool true) <| .call (.bool true) <| .br 38 false <| .draw 23 <| .call (.int .i64 (chs y 0)) <| .nz <| .val 54 (.int .i64 (widH h y).bLo) [] <| .call (.int .i64 (chs y 1)) <| .nz <| .val 66 (.int .i64 (widH h y).bHi) [] <| .call (encS ((widH h y).bLo, (widH h y).bHi)) <| .draw 23 <| .call (.int .i64 (chs y 2)) <| .nz <| .val 79 (.int .i64 (widH h y).fLo) [] <| .call (.int .i64 (chs y 3)) <| .nz <| .val 91 (.int .i64 (widH h y).fHi) [] <| .call (encS ((widH h y).fLo, (widH h y).fHi)) <| .draw 23 <| .call (.int .i64 (chs y 4)) <| .nz <| .val 104 (.int .i64 (widH h y).jLo) [] <| .call (.int .i64 (chs y 5)) <| .nz <| .val 116 (.int .i64 (widH h y).jHi) [] <| .call (encS ((widH h y).jLo, (widH h y).jHi)) <| .draw 10 <| .call (.int .i64 (chs y 6)) <| .nz <| .val 129 (.int .i64 (widH h y).lLo) [] <| .draw 9 <| .call (.int .i64 (chs y 7)) <| .nz <| .val 141 (.int .i64 (widH h y).dr) [] <| .call (.int .i64 N) <| .call (encF (F, m, 0)) <| .call (encF (G, n, 0)) <| .br 171 true <| .br 177 false <| .br 180 true <| .br 186 false <| .br 194 false <| .br 196 true .nil) rfl rfl
              (kmp (by kernel_rfl) <| And.intro sA <| And.intro sR <| And.intro d38 <| And.intro tTrue <| And.intro mixed <| And.intro (Eq.refl (23 : Nat)) <| And.intro c0 <| And.intro n0 <| And.intro v0 <| And.intro c1 <| And.intro n1 <| And.intro v1 <| And.intro tTrue <| And.intro p1 <| And.intro tTrue <| And.intro mixed <| And.intro (Eq.refl (23 : Nat)) <| And.intro c2 <| And.intro n2 <| And.intro v2 <| And.intro c3 <| And.intro n3 <| And.intro v3 <| And.intro tTrue <| And.intro p2 <| And.intro tTrue <| And.intro mixed <| And.intro (Eq.refl (23 : Nat)) <| And.intro c4 <| And.intro n4 <| And.intro v4 <| And.intro c5 <| And.intro n5 <| And.intro v5 <| And.intro tTrue <| And.intro p3 <| And.intro tTrue <| And.intro mixed <| And.intro (Eq.refl (10 : Nat)) <| And.intro c6 <| And.intro n6 <| And.intro tTrue <| And.intro v6 <| And.intro tTrue <| And.intro mixed <| And.intro (Eq.refl (9 : Nat)) <| And.intro c7 <| And.intro n7 <| And.intro tTrue <| And.intro v7 <| And.intro sN <| And.intro f1 <| And.intro f2 <| And.intro d171 <| And.intro d177 <| And.intro d180 <| And.intro d186 <| And.intro d194 <| And.intro d196 <| And.intro trivial rTrue)
          · have d196 : ((N : Int) == 0) = false := by simp [hz]
            have hN0 : (N : Int) ≠ 0 := by omega
            have hx := tm_rng x1 (show 0 < (N : Int) by omega)
            obtain ⟨k, ek⟩ : ∃ k : Nat, (k : Int) = x.tmod (N : Int) := ⟨(x.tmod (N : Int)).toNat, by omega⟩
            have v20 : some (⟨.int .i64 ((IntKind.i64.wrap x).tmod (N : Int)), []⟩ : Out) = some ⟨.int .i64 k, []⟩ := by rw [wrap64 (n := x) (by omega) (by omega), ek]
            have G1 := g1 k (by omega)
            have G2 := g2 k (by omega)
            have q254 : decide ((sumV (widH h y) r k 1).1 ≤ (sumV h r k 1).1) = true := decide_eq_true (sw k).1
            have q261 : decide ((sumV (widH h y) r k 1).2 ≥ (sumV h r k 1).2) = true := decide_eq_true (sw k).2
            generalize sumV h r k 1 = p at *
            generalize sumV (widH h y) r k 1 = q at *
            exact APure.vc Tryd.func9 rfl (.call (.bool true) <| .call (.bool true) <| .br 38 false <| .draw 23 <| .call (.int .i64 (chs y 0)) <| .nz <| .val 54 (.int .i64 (widH h y).bLo) [] <| .call (.int .i64 (chs y 1)) <| .nz <| .val 66 (.int .i64 (widH h y).bHi) [] <| .call (encS ((widH h y).bLo, (widH h y).bHi)) <| .draw 23 <| .call (.int .i64 (chs y 2)) <| .nz <| .val 79 (.int .i64 (widH h y).fLo) [] <| .call (.int .i64 (chs y 3)) <| .nz <| .val 91 (.int .i64 (widH h y).fHi) [] <| .call (encS ((widH h y).fLo, (widH h y).fHi)) <| .draw 23 <| .call (.int .i64 (chs y 4)) <| .nz <| .val 104 (.int .i64 (widH h y).jLo) [] <| .call (.int .i64 (chs y 5)) <| .nz <| .val 116 (.int .i64 (widH h y).jHi) [] <| .call (encS ((widH h y).jLo, (widH h y).jHi)) <| .draw 10 <| .call (.int .i64 (chs y 6)) <| .nz <| .val 129 (.int .i64 (widH h y).lLo) [] <| .draw 9 <| .call (.int .i64 (chs y 7)) <| .nz <| .val 141 (.int .i64 (widH h y).dr) [] <| .call (.int .i64 N) <| .call (encF (F, m, 0)) <| .call (encF (G, n, 0)) <| .br 171 true <| .br 177 false <| .br 180 true <| .br 186 false <| .br 194 false <| .br 196 false <| .nz <| .val 20 (.int .i64 k) [] <| .call (encE (p, 0)) <| .call (encE (q, 0)) <| .call (encE (s, 0)) <| .call (encE (t, 0)) <| .br 254 true <| .br 261 true <| .br 268 true .nil) rfl rfl
              (kmp (by kernel_rfl) <| And.intro sA <| And.intro sR <| And.intro d38 <| And.intro tTrue <| And.intro mixed <| And.intro (Eq.refl (23 : Nat)) <| And.intro c0 <| And.intro n0 <| And.intro v0 <| And.intro c1 <| And.intro n1 <| And.intro v1 <| And.intro tTrue <| And.intro p1 <| And.intro tTrue <| And.intro mixed <| And.intro (Eq.refl (23 : Nat)) <| And.intro c2 <| And.intro n2 <| And.intro v2 <| And.intro c3 <| And.intro n3 <| And.intro v3 <| And.intro tTrue <| And.intro p2 <| And.intro tTrue <| And.intro mixed <| And.intro (Eq.refl (23 : Nat)) <| And.intro c4 <| And.intro n4 <| And.intro v4 <| And.intro c5 <| And.intro n5 <| And.intro v5 <| And.intro tTrue <| And.intro p3 <| And.intro tTrue <| And.intro mixed <| And.intro (Eq.refl (10 : Nat)) <| And.intro c6 <| And.intro n6 <| And.intro tTrue <| And.intro v6 <| And.intro tTrue <| And.intro mixed <| And.intro (Eq.refl (9 : Nat)) <| And.intro c7 <| And.intro n7 <| And.intro tTrue <| And.intro v7 <| And.intro sN <| And.intro f1 <| And.intro f2 <| And.intro d171 <| And.intro d177 <| And.intro d180 <| And.intro d186 <| And.intro d194 <| And.intro d196 <| And.intro hN0 <| And.intro v20 <| And.intro G1 <| And.intro G2 <| And.intro g3 <| And.intro g4 <| And.intro q254 <| And.intro q261 <| And.intro q268 <| And.intro trivial dE)
  · rw [decide_eq_false h0] at sR
    exact APure.vc Tryd.func9 rfl (.call (.bool true) <| .call (.bool false) .nil) rfl rfl (kmp (by kernel_rfl) <| And.intro sA <| And.intro sR <| And.intro trivial rTrue)
end Go.Proofs.YtcdcgbgmpmaipaaDoor
