import Derived.Test.YtcdcgbgmpmaipaaDoorD14
namespace Go.Proofs.YtcdcgbgmpmaipaaDoor
open Go Go.Am
set_option maxRecDepth 100000
set_option maxHeartbeats 16000000
theorem at_spec (h : Hd) (r : List Int) (i lag : Nat) (ho : Ok h r) (hi : i + lag < r.length) : APure Tryd.prog 51 [encHd h, encR r, .int .i64 i, .int .i64 lag] (encS (aLo h r lag i, aHi h r lag i)) := by
  have hlen := ho.r.len
  have ea : IntKind.i64.wrap ((i : Int) + (lag : Int)) = ((i + lag : Nat) : Int) := by rw [wrap64 (by omega) (by omega)]; omega
  have hx := rd_get hi
  have hr := rd_rng ho.r (by omega) (i + lag)
  have hb := ho.h.b
  have hd := ho.h.d
  have hf := fac_rng ho.h
  have ha := a_rng ho lag i
  have hm := m_rng ho lag i
  have e1 : IntKind.i64.wrap (IntKind.i64.wrap (h.bLo - rd r (i + lag)) - h.dr) = h.bLo - h.dr - rd r (i + lag) := by
    rw [wrap64 (n := h.bLo - rd r (i + lag)) (by omega) (by omega), wrap64 (by omega) (by omega)]; omega
  have e2 : IntKind.i64.wrap (IntKind.i64.wrap (h.bHi - rd r (i + lag)) + h.dr) = h.bHi + h.dr - rd r (i + lag) := by
    rw [wrap64 (n := h.bHi - rd r (i + lag)) (by omega) (by omega), wrap64 (by omega) (by omega)]; omega
  have f1 : IntKind.i64.wrap (h.jLo * h.fLo) = h.jLo * h.fLo := wrap64 (by omega) (by omega)
  have f2 : IntKind.i64.wrap (h.jHi * h.fHi) = h.jHi * h.fHi := wrap64 (by omega) (by omega)
  have g1 : IntKind.i64.wrap (h.jLo * h.fLo * mLo h r lag i) = aLo h r lag i := wrap64 (by have : aLo h r lag i = h.jLo * h.fLo * mLo h r lag i := rfl; omega) (by have : aLo h r lag i = h.jLo * h.fLo * mLo h r lag i := rfl; omega)
  have g2 : IntKind.i64.wrap (h.jHi * h.fHi * mHi h r lag i) = aHi h r lag i := wrap64 (by have : aHi h r lag i = h.jHi * h.fHi * mHi h r lag i := rfl; omega) (by have : aHi h r lag i = h.jHi * h.fHi * mHi h r lag i := rfl; omega)
  exact APure.vc Tryd.func51 rfl (.cells (encI (rd r (i + lag))) .nil) rfl rfl ⟨idxW ea hx, rS (by rw [e1, f1, ifmax]; exact g1) (by rw [e2, f2, ifmax]; exact g2)⟩
/-- The reference's own. -/
def oK (S : Nat → Sn) (lo k : Nat) : Sn := if k = 0 then (0, 0) else wdK S lo k
theorem rsum_spec (h : Hd) (r : List Int) (a n : Nat) (ho : Ok h r) (hb : a + n ≤ secN h r) : APure Tryd.prog 44 [encHd h, encR r, .int .i64 a, .int .i64 (a + n : Nat)] (encS (sumV h r a n)) := by
  obtain ⟨lo, hi, elo, ehi, hle, h30, hL⟩ := lags_rng ho.h
  have hs := secN_le ho
  have hsN : secN h r = r.length - hi := by unfold secN; omega
  have hin : ∀ j k : Nat, j < n → k < hi - lo + 1 → a + j + (lo + k) < r.length := fun j k h1 h2 => by omega
  have sAt : ∀ j k, j < n → k < hi - lo + 1 → APure Tryd.prog 51 [encHd h, encR r, .int .i64 (a + j : Nat), .int .i64 (lo + k : Nat)] (encS (aLo h r (lo + k) (a + j), aHi h r (lo + k) (a + j))) := fun j k h1 h2 => at_spec h r (a + j) (lo + k) ho (hin j k h1 h2)
  have hq : ∀ k j, j ≤ n → 0 ≤ (sumS h r a j (lo + k)).1 ∧ (sumS h r a j (lo + k)).1 ≤ (sumS h r a j (lo + k)).2 ∧ (sumS h r a j (lo + k)).2 ≤ 36036000000000000 := fun k j hj => sumS_rng ho a j (lo + k) (by omega)
  have ha : ∀ k j, 0 ≤ aLo h r (lo + k) (a + j) ∧ aLo h r (lo + k) (a + j) ≤ aHi h r (lo + k) (a + j) ∧ aHi h r (lo + k) (a + j) ≤ 300300000000000 := fun k j => a_rng ho (lo + k) (a + j)
  have hone : ∀ k j, sumS h r a (j + 1) (lo + k) = ((sumS h r a j (lo + k)).1 + aLo h r (lo + k) (a + j), (sumS h r a j (lo + k)).2 + aHi h r (lo + k) (a + j)) := fun k j => rfl
  have hz : ∀ k, sumS h r a 0 (lo + k) = (0, 0) := fun k => rfl
  have hV : sumV h r a n = oK (sumS h r a n) lo (hi - lo + 1) := by
    have e : sumV h r a n = widL ((lagsN h).map (sumS h r a n)) := by
      obtain ⟨h0, _⟩ := widL_spec (l := (lagsN h).map (sumS h r a n)) (by simpa using lagsN_ne h) fun s hs => by
        obtain ⟨lag, _, rfl⟩ := List.mem_map.1 hs
        have := sumS_rng ho a n lag (by omega); omega
      unfold sumV widZ; rw [if_neg h0]
    rw [e, hL]; unfold oK wdK; rw [if_neg (by omega)]
  have hO : ∀ k, k < hi - lo + 1 → oK (sumS h r a n) lo (k + 1) = if k = 0 then sumS h r a n (lo + k) else (min (oK (sumS h r a n) lo k).1 (sumS h r a n (lo + k)).1, max (oK (sumS h r a n) lo k).2 (sumS h r a n (lo + k)).2) := fun k hk => by
    unfold oK
    rw [if_neg (by omega), wdK_succ]
    by_cases k0 : k = 0
    · rw [if_pos k0, k0]; simp [wdK, widL, joinP]
    · rw [if_neg k0, if_neg k0]
      unfold joinP
      rw [if_neg fun e => ?_]
      rcases widL_rng (l := (List.range' lo k).map (sumS h r a n)) (B := 36036000000000000) fun s hs => by
          obtain ⟨lag, _, rfl⟩ := List.mem_map.1 hs
          exact sumS_rng ho a n lag (by omega) with ⟨e', _⟩ | ⟨_, e', _⟩
      · have := congrArg List.length e'; simp at this; omega
      · unfold wdK at e; rw [e] at e'; simp at e'
  have hO0 : oK (sumS h r a n) lo 0 = (0, 0) := rfl
  rw [hV]
  have han : a + n ≤ 120 := by omega
  clear hV hL hin hb hs hsN
  generalize oK (sumS h r a n) lo = O at *
  obtain ⟨S, hS⟩ : ∃ S : Nat → Nat → Sn, ∀ j k, S j k = sumS h r a j (lo + k) := ⟨fun j k => sumS h r a j (lo + k), fun _ _ => rfl⟩
  obtain ⟨L, hLd⟩ : ∃ L : Nat → Nat → Int, ∀ j k, L j k = aLo h r (lo + k) (a + j) := ⟨fun j k => aLo h r (lo + k) (a + j), fun _ _ => rfl⟩
  obtain ⟨U, hUd⟩ : ∃ U : Nat → Nat → Int, ∀ j k, U j k = aHi h r (lo + k) (a + j) := ⟨fun j k => aHi h r (lo + k) (a + j), fun _ _ => rfl⟩
  simp only [← hS, ← hLd, ← hUd] at *
  clear hS hLd hUd
  have e0 : AV.int .i64 h.lLo = .int .i64 (lo + 0 : Nat) := congrArg _ elo
  refine APure.vc Tryd.func44 rfl .loop rfl rfl ?_
  intro g hn hl
  replace hn : g.n = 65 := hn
  replace hl : g.low 0 := hl
  refine acode_while (fun k : Nat => ⟨[(1, encR r), (2, .int .i64 a), (3, .int .i64 (a + n : Nat)), (4, .vptr 0 0), (8, .vptr 1 0), (9, .vptr 2 0), (10, .int .i64 (lo + k : Nat))],
      [(0, .cells [.int .i64 h.bLo, .int .i64 h.bHi, .int .i64 h.fLo, .int .i64 h.fHi, .int .i64 h.jLo, .int .i64 h.jHi, .int .i64 h.lLo, .int .i64 h.lHi, .int .i64 h.dr]), (1, .cells [.int .i64 0, .int .i64 0]), (2, .cells [.int .i64 (O k).1, .int .i64 (O k).2])], 3⟩)
    (fun k => k ≤ hi - lo + 1) (fun k => hi - lo + 1 - k) 0 (Nat.zero_le _) ?_ (fun _ _ => hl.mono (Nat.zero_le _)) ?_
  · have o0 : some (AObj.cells [.int .i64 0, .int .i64 0]) = some (.cells [.int .i64 (O 0).1, .int .i64 (O 0).2]) := by rw [hO0]
    exact St.le.of ⟨rfl, rfl, rfl, rfl, rfl, rfl, rfl, rfl, rfl, rfl, rfl, rfl, e0, rfl, trivial⟩ ⟨rfl, (by decide : (0 : Nat) < 3), rfl, rfl, (by decide : (1 : Nat) < 3), rfl, o0, (by decide : (2 : Nat) < 3), rfl, trivial⟩
  · intro k hk
    by_cases hlt : k < hi - lo + 1
    · have d21 : decide (((lo + k : Nat) : Int) ≤ h.lHi) = true := decide_eq_true (by omega)
      refine ACode.vc (.br 21 true .loop) hn hl (.round .cl) ⟨d21, ?_⟩
      intro g hn hl
      replace hn : g.n = 65 := hn
      replace hl : g.low 0 := hl
      refine acode_while (fun j : Nat => ⟨[(1, encR r), (2, .int .i64 a), (3, .int .i64 (a + n : Nat)), (4, .vptr 0 0), (8, .vptr 1 0), (9, .vptr 2 0), (10, .int .i64 (lo + k : Nat)), (11, .vptr 3 0), (12, .int .i64 (a + j : Nat))],
          [(0, .cells [.int .i64 h.bLo, .int .i64 h.bHi, .int .i64 h.fLo, .int .i64 h.fHi, .int .i64 h.jLo, .int .i64 h.jHi, .int .i64 h.lLo, .int .i64 h.lHi, .int .i64 h.dr]), (1, .cells [.int .i64 0, .int .i64 0]), (2, .cells [.int .i64 (O k).1, .int .i64 (O k).2]), (3, .cells [.int .i64 (S j k).1, .int .i64 (S j k).2])], 4⟩)
        (fun j => j ≤ n) (fun j => n - j) 0 (Nat.zero_le _) ?_ (fun _ _ => hl.mono (Nat.zero_le _)) ?_
      · have o0 : some (AObj.cells [.int .i64 0, .int .i64 0]) = some (.cells [.int .i64 (S 0 k).1, .int .i64 (S 0 k).2]) := by rw [hz]
        exact St.le.of ⟨rfl, rfl, rfl, rfl, rfl, rfl, rfl, rfl, rfl, rfl, rfl, rfl, rfl, rfl, rfl, rfl, rfl, rfl, trivial⟩ ⟨rfl, (by decide : (0 : Nat) < 4), rfl, rfl, (by decide : (1 : Nat) < 4), rfl, rfl, (by decide : (2 : Nat) < 4), rfl, o0, (by decide : (3 : Nat) < 4), rfl, trivial⟩
      · intro j hj
        by_cases hjt : j < n
        · have d27 : decide (((a + j : Nat) : Int) < ((a + n : Nat) : Int)) = true := decide_eq_true (by omega)
          have ek := congrArg (AV.int .i64) (succ64 (k := a + j) (by omega))
          have q1 := hq k j hj
          have q2 := ha k j
          have eo : some (AObj.cells [.int .i64 (IntKind.i64.wrap ((S j k).1 + L j k)), .int .i64 (IntKind.i64.wrap ((S j k).2 + U j k))]) = some (.cells [.int .i64 (S (j + 1) k).1, .int .i64 (S (j + 1) k).2]) := by
            rw [hone, wrap64 (n := (S j k).1 + L j k) (by omega) (by omega), wrap64 (n := (S j k).2 + U j k) (by omega) (by omega)]
          exact ACode.vc (.br 27 true <| .call (encS (L j k, U j k)) .nil) hn hl (.round .cl) ⟨d27, sAt j k hjt hlt, j + 1, hjt, mu1 hjt,
            St.le.of ⟨rfl, rfl, rfl, rfl, rfl, rfl, rfl, rfl, rfl, rfl, rfl, rfl, rfl, rfl, rfl, rfl, ek, rfl, trivial⟩ ⟨rfl, (by decide : (0 : Nat) < 4), rfl, rfl, (by decide : (1 : Nat) < 4), rfl, rfl, (by decide : (2 : Nat) < 4), rfl, Eq.trans (by kernel_rfl) eo, (by decide : (3 : Nat) < 4), rfl, trivial⟩⟩
        · have hj' : j = n := by omega
          subst hj'
          have d27 : decide (((a + j : Nat) : Int) < ((a + j : Nat) : Int)) = false := decide_eq_false (by omega)
          have ek := congrArg (AV.int .i64) (succ64 (k := lo + k) (by omega))
          have hOk := hO k hlt
          by_cases k0 : k = 0
          · have d51 : (((lo + k : Nat) : Int) == h.lLo) = true := by rw [elo, k0]; simp
            rw [if_pos k0] at hOk
            have eo : some (AObj.cells [.int .i64 (if (S j k).1 < (S j k).1 then (S j k).1 else (S j k).1), .int .i64 (if (S j k).2 > (S j k).2 then (S j k).2 else (S j k).2)]) = some (.cells [.int .i64 (O (k + 1)).1, .int .i64 (O (k + 1)).2]) := by rw [hOk]; simp
            exact ACode.vc (.br 27 false .nil) hn hl (.round .cl) ⟨d27, _, .refl _, .br 51 true .nil, d51, k + 1, hlt, mu1 hlt,
              St.le.of ⟨rfl, rfl, rfl, rfl, rfl, rfl, rfl, rfl, rfl, rfl, rfl, rfl, ek, rfl, trivial⟩ ⟨rfl, (by decide : (0 : Nat) < 3), rfl, rfl, (by decide : (1 : Nat) < 3), rfl, Eq.trans (by kernel_rfl) eo, (by decide : (2 : Nat) < 3), rfl, trivial⟩⟩
          · have d51 : (((lo + k : Nat) : Int) == h.lLo) = false := by rw [elo, beq_eq_false_iff_ne]; omega
            rw [if_neg k0] at hOk
            have eo : some (AObj.cells [.int .i64 (if (S j k).1 < (O k).1 then (S j k).1 else (O k).1), .int .i64 (if (S j k).2 > (O k).2 then (S j k).2 else (O k).2)]) = some (.cells [.int .i64 (O (k + 1)).1, .int .i64 (O (k + 1)).2]) := by rw [hOk, ifmin, ifmax]
            exact ACode.vc (.br 27 false .nil) hn hl (.round .cl) ⟨d27, _, .refl _, .br 51 false .nil, d51, k + 1, hlt, mu1 hlt,
              St.le.of ⟨rfl, rfl, rfl, rfl, rfl, rfl, rfl, rfl, rfl, rfl, rfl, rfl, ek, rfl, trivial⟩ ⟨rfl, (by decide : (0 : Nat) < 3), rfl, rfl, (by decide : (1 : Nat) < 3), rfl, Eq.trans (by kernel_rfl) eo, (by decide : (2 : Nat) < 3), rfl, trivial⟩⟩
    · have hk' : k = hi - lo + 1 := by omega
      subst hk'
      have d21 : decide (((lo + (hi - lo + 1) : Nat) : Int) ≤ h.lHi) = false := decide_eq_false (by omega)
      exact ACode.vc (.br 21 false .nil) hn hl (.round .cl) ⟨d21, _, .refl _, .nil, trivial, by kernel_rfl⟩
end Go.Proofs.YtcdcgbgmpmaipaaDoor
namespace Go.Proofs.YtcdcgbgmpmaipaaDoor
open Go Go.Am
set_option maxRecDepth 100000
set_option maxHeartbeats 16000000
theorem rInB (i : Int) (n : Nat) (hn : n ≤ 1000000) : APure Tryd.prog 43 [.int .i64 i, .int .i64 0, .int .i64 (IntKind.i64.wrap ((n : Int) - 1))] (.bool (decide (0 ≤ i ∧ i < n))) := by
  have e : IntKind.i64.wrap ((n : Int) - 1) = (n : Int) - 1 := wrap64 (by omega) (by omega)
  rw [e]
  have := rwithin_spec i 0 ((n : Int) - 1)
  have e2 : inB 0 ((n : Int) - 1) i = decide (0 ≤ i ∧ i < n) := decide_eq_decide.2 (by omega)
  rwa [e2] at this
theorem rHeat_spec (h : Hd) (r : List Int) (i : Int) : APure Tryd.prog 13 [encHd h, encR r, .int .i64 i] (encE (heatI h r i)) := by
  have s1 := rCheck_spec h r
  by_cases h0 : checkI h r = 0
  · have ho := checkI_ok.1 h0
    have hs := secN_le ho
    have d13 : (checkI h r != 0) = false := by simp [h0]
    have s2 := rSeconds_spec h r ho
    have s3 := rInB i (secN h r) (by omega)
    by_cases hi : 0 ≤ i ∧ i < secN h r
    · rw [decide_eq_true hi] at s3
      have e : heatI h r i = (sumV h r i.toNat 1, 0) := by simp only [heatI, h0, if_true, if_pos hi]
      rw [e]
      obtain ⟨k, rfl⟩ := Int.eq_ofNat_of_zero_le hi.1
      have s4 : APure Tryd.prog 44 [encHd h, encR r, .int .i64 (k : Int), .int .i64 (IntKind.i64.wrap ((k : Int) + 1))] (encS (sumV h r k 1)) := by rw [succ64 (by omega)]; exact rsum_spec h r k 1 ho (by omega)
      rw [show ((k : Int)).toNat = k from Int.toNat_natCast _]
      generalize checkI h r = C at s1 d13
      generalize sumV h r k 1 = X at *
      generalize secN h r = N at *
      exact APure.vc Tryd.func13 rfl (.call (.int .i64 C) <| .br 13 false <| .call (.int .i64 N) <| .call (.bool true) <| .call (encS X) .nil) rfl rfl ⟨s1, d13, s2, s3, s4, trivial, by kernel_rfl⟩
    · rw [decide_eq_false hi] at s3
      have e : heatI h r i = ((0, 0), 2) := by simp only [heatI, h0, if_true, if_neg hi]
      rw [e]
      generalize checkI h r = C at s1 d13
      generalize secN h r = N at *
      exact APure.vc Tryd.func13 rfl (.call (.int .i64 C) <| .br 13 false <| .call (.int .i64 N) <| .call (.bool false) .nil) rfl rfl ⟨s1, d13, s2, s3, trivial, by kernel_rfl⟩
  · have d13 : (checkI h r != 0) = true := by simp [h0]
    have e : heatI h r i = ((0, 0), checkI h r) := by simp only [heatI, if_neg h0]
    rw [e]
    generalize checkI h r = C at s1 d13 ⊢
    exact APure.vc Tryd.func13 rfl (.call (.int .i64 C) <| .br 13 true .nil) rfl rfl ⟨s1, d13, trivial, by kernel_rfl⟩
theorem rSum_spec (h : Hd) (r : List Int) (a b : Int) : APure Tryd.prog 15 [encHd h, encR r, .int .i64 a, .int .i64 b] (encE (sumI h r a b)) := by
  have s1 := rCheck_spec h r
  by_cases h0 : checkI h r = 0
  · have ho := checkI_ok.1 h0
    have hs := secN_le ho
    have d15 : (checkI h r != 0) = false := by simp [h0]
    have s2 := rSeconds_spec h r ho
    by_cases hi : 0 ≤ a ∧ a ≤ b ∧ b ≤ secN h r
    · have d20 : decide (a < 0) = false := decide_eq_false (by omega)
      have d25 : decide (b < a) = false := decide_eq_false (by omega)
      have d31 : decide (b > (secN h r : Int)) = false := decide_eq_false (by omega)
      obtain ⟨m, rfl⟩ := Int.eq_ofNat_of_zero_le hi.1
      obtain ⟨n, rfl⟩ : ∃ n : Nat, b = ((m + n : Nat) : Int) := ⟨(b - m).toNat, by omega⟩
      have e : sumI h r (m : Int) ((m + n : Nat) : Int) = (sumV h r m n, 0) := by
        have : (((m + n : Nat) : Int) - (m : Int)).toNat = n := by omega
        simp only [sumI, h0, if_true, if_pos hi, Int.toNat_natCast, this]
      have s4 := rsum_spec h r m n ho (by omega)
      rw [e]
      generalize checkI h r = C at s1 d15
      generalize sumV h r m n = X at *
      generalize secN h r = N at *
      exact APure.vc Tryd.func15 rfl (.call (.int .i64 C) <| .br 15 false <| .br 20 false <| .br 25 false <| .call (.int .i64 N) <| .br 31 false <| .call (encS X) .nil) rfl rfl ⟨s1, d15, d20, d25, s2, d31, s4, trivial, by kernel_rfl⟩
    · have e : sumI h r a b = ((0, 0), 2) := by simp only [sumI, h0, if_true, if_neg hi]
      rw [e]
      generalize checkI h r = C at s1 d15
      generalize secN h r = N at *
      exact APure.vc Tryd.func15 rfl (.call (.int .i64 C) <| .br 15 false <| .both 20 .nil (.both 25 .nil (.call (.int .i64 N) <| .both 31 .nil .nil))) rfl rfl
        ⟨s1, d15, fun _ => ⟨trivial, by kernel_rfl⟩, fun h1 => ⟨fun _ => ⟨trivial, by kernel_rfl⟩, fun h2 => ⟨s2, fun _ => ⟨trivial, by kernel_rfl⟩, fun h3 => absurd (show 0 ≤ a ∧ a ≤ b ∧ b ≤ N by simp at h1 h2 h3; omega) hi⟩⟩⟩
  · have d15 : (checkI h r != 0) = true := by simp [h0]
    have e : sumI h r a b = ((0, 0), checkI h r) := by simp only [sumI, if_neg h0]
    rw [e]
    generalize checkI h r = C at s1 d15 ⊢
    exact APure.vc Tryd.func15 rfl (.call (.int .i64 C) <| .br 15 true .nil) rfl rfl ⟨s1, d15, trivial, by kernel_rfl⟩
end Go.Proofs.YtcdcgbgmpmaipaaDoor
