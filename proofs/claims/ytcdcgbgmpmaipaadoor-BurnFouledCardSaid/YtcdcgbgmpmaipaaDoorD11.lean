import Derived.Test.YtcdcgbgmpmaipaaDoorD10
namespace Go.Proofs.YtcdcgbgmpmaipaaDoor
open Go Go.Am
set_option maxRecDepth 100000
set_option maxHeartbeats 4000000
noncomputable def asgK : Code := rfA Tryd.f50
noncomputable def bodK : Code := rfB Tryd.f50
theorem arrV_rng (h : Hd) (r : List Int) (v : Int) (lag : Nat) (hs : secN h r ≤ 120) : lag ∈ mayL h r v → 0 ≤ (arrV h r v lag).1.1 ∧ (arrV h r v lag).1.1 ≤ (arrV h r v lag).1.2 ∧ (arrV h r v lag).1.2 ≤ 1000 := fun hm => by
  have h1 := (List.mem_filter.1 hm).2
  simp only [mayB, decide_eq_true_eq] at h1
  rcases arrK_rng h r lag v (secN h r) with ⟨e, _⟩ | hr
  · have e' : (arrV h r v lag).1 = (-1, -1) := e
    rw [e'] at h1; simp at h1
  · have e' : arrK h r lag v (secN h r) = arrV h r v lag := rfl
    rw [e'] at hr
    omega
theorem not_may {h : Hd} {r : List Int} {v : Int} {lag : Nat} (hl : lag ∈ lagsN h) (hm : lag ∉ mayL h r v) : (arrV h r v lag).2 = false := by
  have h1 : mayB h r v lag = false := by
    cases hb : mayB h r v lag
    · rfl
    · exact absurd (List.mem_filter.2 ⟨hl, hb⟩) hm
  rcases arrK_rng h r lag v (secN h r) with ⟨_, e⟩ | hr
  · exact e
  · have e' : arrK h r lag v (secN h r) = arrV h r v lag := rfl
    rw [e'] at hr
    simp [mayB] at h1; omega
theorem known_spec (h : Hd) (r : List Int) (v : Int) (ho : Ok h r) : APure Tryd.prog 50 [encDt h r, .imap (entsA (arrV h r v) (mayL h r v))] (.int .u8 (knownI h r v)) := by
  obtain ⟨lo, hi, elo, ehi, hle, h30, hL⟩ := lags_rng ho.h
  have sL := lags_spec h r
  have hlen : (entsA (arrV h r v) (mayL h r v)).length = (mayL h r v).length := by simp [entsA]
  by_cases he : mayL h r v = []
  · have d8 : ((((entsA (arrV h r v) (mayL h r v)).length : Nat) : Int) == 0) = true := by rw [hlen, he]; rfl
    have e : knownI h r v = 0 := by simp [knownI, he]
    rw [e]
    generalize entsA (arrV h r v) (mayL h r v) = es at *
    exact APure.vc Tryd.func50 rfl (.br 8 true .nil) rfl rfl ⟨d8, trivial, by kernel_rfl⟩
  · have d8 : ((((entsA (arrV h r v) (mayL h r v)).length : Nat) : Int) == 0) = false := by
      rw [hlen, beq_eq_false_iff_ne]
      intro e
      exact he (List.eq_nil_of_length_eq_zero (by omega))
    have e0 : AV.int .i64 h.lLo = .int .i64 (lo + 0 : Nat) := congrArg _ elo
    obtain ⟨V, hV⟩ : ∃ V : Nat → Sn × Bool, ∀ k, V k = if lo + k ∈ mayL h r v then arrV h r v (lo + k) else ((0, 0), false) := ⟨_, fun _ => rfl⟩
    have lk : ∀ k, (aLookup Tryd.prog (hget []) 73 (.imap (entsA (arrV h r v) (mayL h r v))) (.int .i64 (lo + k : Nat)) false).map (fun v => (⟨v, []⟩ : Out)) = some ⟨encAr (V k), []⟩ := fun k => by
      rw [lookA, hV]; rfl
    have hV2 : ∀ k, k < hi - lo + 1 → (V k).2 = (arrV h r v (lo + k)).2 := fun k hk => by
      rw [hV]
      by_cases hm : lo + k ∈ mayL h r v
      · rw [if_pos hm]
      · rw [if_neg hm, not_may (by rw [hL, List.mem_range'_1]; omega) hm]
    have hK : knownI h r v = if (List.range' lo (hi - lo + 1)).all fun lag => (arrV h r v lag).2 then 2 else 1 := by
      unfold knownI
      rw [if_neg (by simpa using he), hL]
    rw [hK]
    have hbad : ∀ k, k < hi - lo + 1 → (arrV h r v (lo + k)).2 = false → (if (List.range' lo (hi - lo + 1)).all (fun lag => (arrV h r v lag).2) then (2 : Int) else 1) = 1 := fun k hk hf => by
      refine if_neg fun hx => ?_
      rw [List.all_eq_true] at hx
      have := hx (lo + k) (by rw [List.mem_range'_1]; omega)
      rw [hf] at this; cases this
    have hgood : (∀ i, i < hi - lo + 1 → (arrV h r v (lo + i)).2 = true) → (if (List.range' lo (hi - lo + 1)).all (fun lag => (arrV h r v lag).2) then (2 : Int) else 1) = 2 := fun hg => by
      refine if_pos (List.all_eq_true.2 fun x hx => ?_)
      rw [List.mem_range'_1] at hx
      have := hg (x - lo) (by omega)
      rwa [show lo + (x - lo) = x by omega] at this
    clear hK hV hlen
    generalize entsA (arrV h r v) (mayL h r v) = es at *
    generalize arrV h r v = F at *
    generalize (if (List.range' lo (hi - lo + 1)).all (fun lag => (F lag).2) then (2 : Int) else 1) = K at *
    refine APure.vc Tryd.func50 rfl (.br 8 false <| .call (lagsCl h r) <| .inl Tryd.f76 .loop) rfl rfl ⟨d8, sL, Tryd.func76, ?_⟩
    intro g hn hl
    replace hn : g.n = 20 := hn
    replace hl : g.low 4 := hl
    refine acode_whileW (fun k : Nat => ⟨[(0, .yld 3), (1, .cptr (dtL h r)), (3, .int .i64 (lo + k : Nat))],
        [(1, .cells [.imap es]), (2, .cells [.int .u8 0]), (3, .loop ⟨.ready, none, 17, [(3, .vptr 1 0), (4, .vptr 2 0)], #[11], asgK, bodK⟩)], 4⟩)
      (fun k => k ≤ hi - lo + 1 ∧ ∀ i, i < k → (F (lo + i)).2 = true) (fun k => hi - lo + 1 - k) 0 ⟨Nat.zero_le _, fun i hi => absurd hi (Nat.not_lt_zero _)⟩ ?_ ?_
    · refine Wk.trans (Wk.le ?_ hl) (Wk.loopEnv (id := 3) (n := 4) [(3, .vptr 1 0), (4, .vptr 2 0)] rfl ⟨rfl, rfl, rfl, rfl, trivial⟩)
      exact St.le.of ⟨by kernel_rfl, rfl, by kernel_rfl, rfl, e0, rfl, trivial⟩ ⟨by kernel_rfl, (by decide : (1 : Nat) < 4), rfl, by kernel_rfl, (by decide : (2 : Nat) < 4), rfl, by kernel_rfl, (by decide : (3 : Nat) < 4), rfl, trivial⟩
    · rintro k ⟨hk, hs⟩
      by_cases hlt : k < hi - lo + 1
      · have d13 : decide (((lo + k : Nat) : Int) ≤ h.lHi) = true := decide_eq_true (by omega)
        have ek := congrArg (AV.int .i64) (succ64 (k := lo + k) (by omega))
        have lk := lk k
        have hV2 := hV2 k hlt
        cases hf : (F (lo + k)).2
        · have d16 : (!(V k).2) = true := by rw [hV2, hf]; rfl
          have eR : some (AV.int .u8 1) = some (.int .u8 K) := by rw [hbad k hlt hf]
          exact ACode.vc (.br 13 true <| .val 14 (encAr (V k)) [] <| .br 16 true .nil) hn hl (.roundW .cl)
            ⟨d13, Eq.trans (by kernel_rfl) lk, d16, _, .refl _, .nil, trivial, Eq.trans (by kernel_rfl) eR⟩
        · have d16 : (!(V k).2) = false := by rw [hV2, hf]; rfl
          have hs' : ∀ i, i < k + 1 → (F (lo + i)).2 = true := fun i hi => by
            rcases Nat.lt_succ_iff_lt_or_eq.1 hi with h' | rfl
            · exact hs i h'
            · exact hf
          exact ACode.vc (.br 13 true <| .val 14 (encAr (V k)) [] <| .br 16 false .nil) hn hl (.roundW .cl)
            ⟨d13, Eq.trans (by kernel_rfl) lk, d16, k + 1, ⟨hlt, hs'⟩, mu1 hlt,
              Wk.le (St.le.of ⟨by kernel_rfl, rfl, by kernel_rfl, rfl, Eq.trans (by kernel_rfl) ek, rfl, trivial⟩ ⟨by kernel_rfl, (by decide : (1 : Nat) < 4), rfl, by kernel_rfl, (by decide : (2 : Nat) < 4), rfl, by kernel_rfl, (by decide : (3 : Nat) < 4), rfl, trivial⟩) hl⟩
      · have hk' : k = hi - lo + 1 := by omega
        subst hk'
        have d13 : decide (((lo + (hi - lo + 1) : Nat) : Int) ≤ h.lHi) = false := decide_eq_false (by omega)
        have eR : some (AV.int .u8 2) = some (.int .u8 K) := by rw [hgood hs]
        exact ACode.vc (.br 13 false .nil) hn hl (.roundW .cl) ⟨d13, _, .refl _, .nil, trivial, Eq.trans (by kernel_rfl) eR⟩
def encF (p : Sn × Int × Int) : AV := .tup [encS p.1, .int .u8 p.2.1, .int .i64 p.2.2]
theorem First_spec (h : Hd) (r : List Int) (v : Int) : APure Tryd.prog 16 [encHd h, encR r, .int .i64 v] (encF (firstI h r v)) := by
  have s1 := Check_spec h r
  by_cases h0 : checkI h r = 0
  · have ho := checkI_ok.1 h0
    have hs : secN h r ≤ 120 := by have := ho.r.len; unfold secN; omega
    have d16 : (checkI h r != 0) = false := by simp [h0]
    by_cases hv : 1 ≤ v
    · have d20 : decide (v < 1) = false := decide_eq_false (by omega)
      have s2 := reached_spec h r v ho
      have s3 := Keys_spec (arrV h r v) (mayL h r v)
      have s4 := widest_keys_spec (arrV h r v) (mayL h r v) fun lag hm => arrV_rng h r v lag hs hm
      have s5 := known_spec h r v ho
      have e : firstI h r v = (firstS h r v, knownI h r v, 0) := by simp only [firstI, h0, if_true, if_pos hv]
      rw [e]
      have e2 : widZ ((mayL h r v).map fun lag => (arrV h r v lag).1) = firstS h r v := rfl
      rw [e2] at s4
      generalize checkI h r = C at s1 d16
      generalize firstS h r v = FS at *
      generalize knownI h r v = KN at *
      generalize arrV h r v = F at *
      generalize mayL h r v = L at *
      exact APure.vc Tryd.func16 rfl (.call (.int .i64 C) <| .br 16 false <| .br 20 false <| .call (.imap (entsA F L)) <| .call (keysCl F L) <| .lent (encS FS) [4] <| .draw 4 <| .call (.int .u8 KN) .nil) rfl rfl
        ⟨s1, d16, d20, s2, s3, ⟨_, by kernel_rfl, .inl ⟨s4, .inr rfl⟩⟩, by kernel_rfl, mixed, by kernel_rfl, s5, by kernel_rfl, trivial, by kernel_rfl⟩
    · have d20 : decide (v < 1) = true := decide_eq_true (by omega)
      have e : firstI h r v = ((0, 0), 0, 2) := by simp only [firstI, h0, if_true, if_neg hv]
      rw [e]
      generalize checkI h r = C at s1 d16
      exact APure.vc Tryd.func16 rfl (.call (.int .i64 C) <| .br 16 false <| .br 20 true .nil) rfl rfl ⟨s1, d16, d20, trivial, by kernel_rfl⟩
  · have d16 : (checkI h r != 0) = true := by simp [h0]
    have e : firstI h r v = ((0, 0), 0, checkI h r) := by simp only [firstI, if_neg h0]
    rw [e]
    generalize checkI h r = C at s1 d16 ⊢
    exact APure.vc Tryd.func16 rfl (.call (.int .i64 C) <| .br 16 true .nil) rfl rfl ⟨s1, d16, trivial, by kernel_rfl⟩
end Go.Proofs.YtcdcgbgmpmaipaaDoor
