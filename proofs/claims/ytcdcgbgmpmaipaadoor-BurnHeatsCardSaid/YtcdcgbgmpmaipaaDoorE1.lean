import Derived.Test.YtcdcgbgmpmaipaaDoorD17
namespace Go.Proofs.YtcdcgbgmpmaipaaDoor
open Go Go.Am
set_option maxRecDepth 100000
set_option maxHeartbeats 16000000
theorem boolC (b : Bool) : b = true ∨ b = false := by cases b <;> simp
theorem widZ_snoc {l : List Sn} {s : Sn} (hl : ∀ x ∈ l, 0 ≤ x.1 ∧ x.1 ≤ x.2 ∧ x.2 ≤ 1000) (hs : 0 ≤ s.1 ∧ s.1 ≤ s.2) : widZ (l ++ [s]) = if l.isEmpty then s else (min (widZ l).1 s.1, max (widZ l).2 s.2) := by
  have hn : s ≠ (-1, -1) := fun e => by rw [e] at hs; simp at hs
  unfold widZ
  rw [widL_snoc]
  rcases widL_rng (l := l) (B := 1000) hl with ⟨e, h1⟩ | ⟨e, h1, h2, _⟩
  · subst e
    have ej : joinP (widL []) s = s := by simp [joinP, widL]
    rw [ej, if_neg hn]; rfl
  · have hw : widL l ≠ (-1, -1) := fun e => by rw [e] at h1; simp at h1
    have ej : joinP (widL l) s = (min (widL l).1 s.1, max (widL l).2 s.2) := by unfold joinP; rw [if_neg hw]
    have hne : (min (widL l).1 s.1, max (widL l).2 s.2) ≠ ((-1, -1) : Sn) := fun e => by
      have := congrArg Prod.fst e
      simp only at this; omega
    rw [ej, if_neg hne, if_neg hw, if_neg (by simpa using e)]
def hoodL (h : Hd) : List AV := [.int .i64 h.bLo, .int .i64 h.bHi, .int .i64 h.fLo, .int .i64 h.fHi, .int .i64 h.jLo, .int .i64 h.jHi, .int .i64 h.lLo, .int .i64 h.lHi, .int .i64 h.dr]
def rfSt (h : Hd) (r : List Int) (v : Int) (lo k : Nat) (al sm : Bool) (o : Sn) : St :=
  ⟨[(1, encR r), (2, .int .i64 v), (3, .vptr 0 0), (6, .vptr 1 0), (10, .bool al), (11, .bool sm), (12, .vptr 2 0), (13, .int .i64 (lo + k : Nat))], [(0, .cells (hoodL h)), (1, .cells [.int .i64 0, .int .i64 0]), (2, .cells [.int .i64 o.1, .int .i64 o.2])], 3⟩
theorem rfSt_le {h : Hd} {r : List Int} {v : Int} {lo k : Nat} {al sm : Bool} {o : Sn} {S : St} (h1 : elook S.env 1 = encR r) (h2 : elook S.env 2 = .int .i64 v) (h3 : elook S.env 3 = .vptr 0 0) (h6 : elook S.env 6 = .vptr 1 0) (h10 : elook S.env 10 = .bool al) (h11 : elook S.env 11 = .bool sm) (h12 : elook S.env 12 = .vptr 2 0) (h13 : elook S.env 13 = .int .i64 (lo + k : Nat))
    (g0 : hget S.H 0 = some (.cells (hoodL h))) (g1 : hget S.H 1 = some (.cells [.int .i64 0, .int .i64 0])) (g2 : hget S.H 2 = some (.cells [.int .i64 o.1, .int .i64 o.2])) : (rfSt h r v lo k al sm o).le S :=
  St.le.of ⟨h1, rfl, h2, rfl, h3, rfl, h6, rfl, h10, rfl, h11, rfl, h12, rfl, h13, rfl, trivial⟩ ⟨g0, (by decide : (0 : Nat) < 3), rfl, g1, (by decide : (1 : Nat) < 3), rfl, g2, (by decide : (2 : Nat) < 3), rfl, trivial⟩
def rfIn (h : Hd) (r : List Int) (v : Int) (lo k : Nat) (al sm : Bool) (o : Sn) (A : Sn × Bool) (j : Nat) : St :=
  ⟨[(1, encR r), (2, .int .i64 v), (3, .vptr 0 0), (6, .vptr 1 0), (10, .bool al), (11, .bool sm), (12, .vptr 2 0), (13, .int .i64 (lo + k : Nat)), (14, .int .i64 A.1.1), (15, .int .i64 A.1.2), (16, .bool A.2), (17, .int .i64 j)],
    [(0, .cells (hoodL h)), (1, .cells [.int .i64 0, .int .i64 0]), (2, .cells [.int .i64 o.1, .int .i64 o.2])], 3⟩
theorem rfIn_le {h : Hd} {r : List Int} {v : Int} {lo k : Nat} {al sm : Bool} {o : Sn} {A : Sn × Bool} {j : Nat} {S : St} (h1 : elook S.env 1 = encR r) (h2 : elook S.env 2 = .int .i64 v) (h3 : elook S.env 3 = .vptr 0 0) (h6 : elook S.env 6 = .vptr 1 0) (h10 : elook S.env 10 = .bool al) (h11 : elook S.env 11 = .bool sm) (h12 : elook S.env 12 = .vptr 2 0) (h13 : elook S.env 13 = .int .i64 (lo + k : Nat))
    (h14 : elook S.env 14 = .int .i64 A.1.1) (h15 : elook S.env 15 = .int .i64 A.1.2) (h16 : elook S.env 16 = .bool A.2) (h17 : elook S.env 17 = .int .i64 j)
    (g0 : hget S.H 0 = some (.cells (hoodL h))) (g1 : hget S.H 1 = some (.cells [.int .i64 0, .int .i64 0])) (g2 : hget S.H 2 = some (.cells [.int .i64 o.1, .int .i64 o.2])) : (rfIn h r v lo k al sm o A j).le S :=
  St.le.of ⟨h1, rfl, h2, rfl, h3, rfl, h6, rfl, h10, rfl, h11, rfl, h12, rfl, h13, rfl, h14, rfl, h15, rfl, h16, rfl, h17, rfl, trivial⟩ ⟨g0, (by decide : (0 : Nat) < 3), rfl, g1, (by decide : (1 : Nat) < 3), rfl, g2, (by decide : (2 : Nat) < 3), rfl, trivial⟩
theorem rFirst_ok (h : Hd) (r : List Int) (v : Int) (h0 : checkI h r = 0) (hv : 1 ≤ v) : APure Tryd.prog 17 [encHd h, encR r, .int .i64 v] (encF (firstS h r v, knownI h r v, 0)) := by
  have s1 := rCheck_spec h r
  rw [h0] at s1
  have ho := checkI_ok.1 h0
  have d27 : decide (v < 1) = false := decide_eq_false (by omega)
  obtain ⟨lo, hi, elo, ehi, hle, h30, hL⟩ := lags_rng ho.h
  have hs := secN_le ho
  have hsN : secN h r = r.length - hi := by unfold secN; omega
  have sN := rSeconds_spec h r ho
  have sAt : ∀ j k, j < secN h r → k < hi - lo + 1 → APure Tryd.prog 51 [encHd h, encR r, .int .i64 (j : Nat), .int .i64 (lo + k : Nat)] (encS (aLo h r (lo + k) j, aHi h r (lo + k) j)) := fun j k h1 h2 => at_spec h r j (lo + k) ho (by omega)
  have stay : ∀ k j, (arrK h r (lo + k) v j).2 = true → j ≤ secN h r → arrK h r (lo + k) v j = arrV h r v (lo + k) := fun k j h1 h2 => (arr_stay h1 _ h2).symm
  have full : ∀ k, arrK h r (lo + k) v (secN h r) = arrV h r v (lo + k) := fun k => rfl
  have miss : ∀ k j, (arrK h r (lo + k) v j).2 = false → aHi h r (lo + k) j < v → arrK h r (lo + k) v (j + 1) = arrK h r (lo + k) v j := fun k j h1 h2 => arr_miss h1 h2
  have hit : ∀ k j, (arrK h r (lo + k) v j).2 = false → ¬ aHi h r (lo + k) j < v → arrK h r (lo + k) v (j + 1) = ((if (arrK h r (lo + k) v j).1.1 < 0 then (j : Int) else (arrK h r (lo + k) v j).1.1, (j : Int)), decide (v ≤ aLo h r (lo + k) j)) := fun k j h1 h2 => by
    rw [arrK, h1, if_neg (by simp), if_neg h2]
  have zer : ∀ k, arrK h r (lo + k) v 0 = ((-1, -1), false) := fun k => rfl
  obtain ⟨M, hM⟩ : ∃ M : Nat → List Nat, ∀ k, M k = (List.range' lo k).filter (mayB h r v) := ⟨_, fun _ => rfl⟩
  have hMs : ∀ k, M (k + 1) = if mayB h r v (lo + k) then M k ++ [lo + k] else M k := fun k => by
    rw [hM, hM, List.range'_concat, List.filter_append, Nat.one_mul]
    cases hB : mayB h r v (lo + k) <;> simp [hB]
  have hmayB : ∀ k, mayB h r v (lo + k) = !decide ((arrV h r v (lo + k)).1.1 < 0) := fun k => by
    unfold mayB
    by_cases hc : 0 ≤ (arrV h r v (lo + k)).1.1
    · rw [decide_eq_true hc, decide_eq_false (by omega)]; rfl
    · rw [decide_eq_false hc, decide_eq_true (by omega)]; rfl
  have hML : M (hi - lo + 1) = mayL h r v := by rw [hM]; unfold mayL; rw [hL]
  have hMr : ∀ k, ∀ lag ∈ M k, 0 ≤ (arrV h r v lag).1.1 ∧ (arrV h r v lag).1.1 ≤ (arrV h r v lag).1.2 ∧ (arrV h r v lag).1.2 ≤ 1000 := fun k lag hl => by
    rw [hM] at hl
    have hb := (List.mem_filter.1 hl).2
    simp only [mayB, decide_eq_true_eq] at hb
    rcases arrK_rng h r lag v (secN h r) with ⟨e, _⟩ | hr
    · have e' : (arrV h r v lag).1 = (-1, -1) := e
      rw [e'] at hb; simp at hb
    · have e' : arrK h r lag v (secN h r) = arrV h r v lag := rfl
      rw [e'] at hr; omega
  obtain ⟨AL, hAL⟩ : ∃ AL : Nat → Bool, ∀ k, AL k = (List.range' lo k).all fun lag => (arrV h r v lag).2 := ⟨_, fun _ => rfl⟩
  have hALs : ∀ k, AL (k + 1) = (AL k && (arrV h r v (lo + k)).2) := fun k => by
    rw [hAL, hAL, List.range'_concat, List.all_append, Nat.one_mul]; simp
  obtain ⟨SM, hSM⟩ : ∃ SM : Nat → Bool, ∀ k, SM k = !(M k).isEmpty := ⟨_, fun _ => rfl⟩
  obtain ⟨O, hO⟩ : ∃ O : Nat → Sn, ∀ k, O k = widZ ((M k).map fun lag => (arrV h r v lag).1) := ⟨_, fun _ => rfl⟩
  have notm : ∀ k, decide ((arrV h r v (lo + k)).1.1 < 0) = true → SM (k + 1) = SM k ∧ O (k + 1) = O k := fun k hd => by
    have : M (k + 1) = M k := by rw [hMs, hmayB, hd]; rfl
    exact ⟨by rw [hSM, hSM, this], by rw [hO, hO, this]⟩
  have ism : ∀ k, decide ((arrV h r v (lo + k)).1.1 < 0) = false → SM (k + 1) = true ∧ O (k + 1) = if SM k then (min (O k).1 (arrV h r v (lo + k)).1.1, max (O k).2 (arrV h r v (lo + k)).1.2) else (arrV h r v (lo + k)).1 := fun k hd => by
    have e : M (k + 1) = M k ++ [lo + k] := by rw [hMs, hmayB, hd]; rfl
    have hr := hMr (k + 1) (lo + k) (by rw [e]; simp)
    refine ⟨by rw [hSM, e]; simp, ?_⟩
    rw [hO, e, List.map_append, List.map_singleton, widZ_snoc (fun x hx => by
      obtain ⟨lag, hl, rfl⟩ := List.mem_map.1 hx
      exact hMr k lag hl) ⟨hr.1, hr.2.1⟩, hSM, hO]
    cases M k <;> simp
  have hend : (SM (hi - lo + 1) = false → firstS h r v = (0, 0) ∧ knownI h r v = 0) ∧ (SM (hi - lo + 1) = true → firstS h r v = O (hi - lo + 1) ∧ knownI h r v = if AL (hi - lo + 1) then 2 else 1) := by
    rw [hSM, hO, hML, hAL]
    unfold firstS knownI
    refine ⟨fun e => ?_, fun e => ?_⟩
    · have : mayL h r v = [] := by simpa using e
      rw [this]; exact ⟨rfl, rfl⟩
    · have hne : ¬ ((mayL h r v).isEmpty = true) := by simpa using e
      rw [if_neg hne, hL]; exact ⟨rfl, rfl⟩
  have z0 : AL 0 = true ∧ SM 0 = false ∧ O 0 = (0, 0) := by rw [hAL, hSM, hO, hM]; exact ⟨rfl, rfl, rfl⟩
  have e0 : AV.int .i64 h.lLo = .int .i64 (lo + 0 : Nat) := congrArg _ elo
  clear hM hMs hmayB hML hMr hAL hSM hO hL hsN
  obtain ⟨A, hAd⟩ : ∃ A : Nat → Nat → Sn × Bool, ∀ k j, A k j = arrK h r (lo + k) v j := ⟨fun k j => arrK h r (lo + k) v j, fun _ _ => rfl⟩
  obtain ⟨L, hLd⟩ : ∃ L : Nat → Nat → Int, ∀ k j, L k j = aLo h r (lo + k) j := ⟨fun k j => aLo h r (lo + k) j, fun _ _ => rfl⟩
  obtain ⟨U, hUd⟩ : ∃ U : Nat → Nat → Int, ∀ k j, U k j = aHi h r (lo + k) j := ⟨fun k j => aHi h r (lo + k) j, fun _ _ => rfl⟩
  obtain ⟨F, hFd⟩ : ∃ F : Nat → Sn × Bool, ∀ k, F k = arrV h r v (lo + k) := ⟨fun k => arrV h r v (lo + k), fun _ => rfl⟩
  simp only [← hAd, ← hLd, ← hUd, ← hFd] at *
  clear hAd hLd hUd hFd
  generalize firstS h r v = FS at *
  generalize knownI h r v = KN at *
  generalize secN h r = N at *
  refine APure.vc Tryd.func17 rfl (.call (.int .i64 0) <| .br 27 false .loop) rfl rfl ⟨s1, d27, ?_⟩
  intro g hn hl
  replace hn : g.n = 93 := hn
  replace hl : g.low 0 := hl
  refine acode_while (fun k : Nat => rfSt h r v lo k (AL k) (SM k) (O k)) (fun k => k ≤ hi - lo + 1) (fun k => hi - lo + 1 - k) 0 (Nat.zero_le _) ?_ (fun _ _ => hl.mono (Nat.zero_le _)) ?_
  · have o0 : some (AObj.cells [.int .i64 0, .int .i64 0]) = some (.cells [.int .i64 (O 0).1, .int .i64 (O 0).2]) := by rw [z0.2.2]
    have a0 : AV.bool true = .bool (AL 0) := by rw [z0.1]
    have m0 : AV.bool false = .bool (SM 0) := by rw [z0.2.1]
    exact rfSt_le rfl rfl rfl rfl a0 m0 rfl e0 rfl rfl o0
  · intro k hk
    by_cases hlt : k < hi - lo + 1
    · have d36 : decide (((lo + k : Nat) : Int) ≤ h.lHi) = true := decide_eq_true (by omega)
      refine ACode.vc (.br 36 true .loop) hn hl (.round .cl) ⟨d36, ?_⟩
      intro g hn hl
      replace hn : g.n = 93 := hn
      replace hl : g.low 0 := hl
      refine acode_while (fun j : Nat => rfIn h r v lo k (AL k) (SM k) (O k) (A k j) j) (fun j => j ≤ N) (fun j => N - j) 0 (Nat.zero_le _) ?_ (fun _ _ => hl.mono (Nat.zero_le _)) ?_
      · have a0 : AV.int .i64 (-1) = .int .i64 (A k 0).1.1 := by rw [zer]
        have a1 : AV.int .i64 (-1) = .int .i64 (A k 0).1.2 := by rw [zer]
        have a2 : AV.bool false = .bool (A k 0).2 := by rw [zer]
        exact rfIn_le rfl rfl rfl rfl rfl rfl rfl rfl a0 a1 a2 rfl rfl rfl rfl
      · intro j hj
        have ej := congrArg (AV.int .i64) (succ64 (k := j) (by omega))
        have eK := congrArg (AV.int .i64) (succ64 (k := lo + k) (by omega))
        have hend2 : (j = N ∨ (A k j).2 = true) → A k j = F k := fun hc => by
          rcases hc with rfl | hc
          · exact full k
          · exact stay k j hc hj
        by_cases hgo : j < N ∧ (A k j).2 = false
        · obtain ⟨hjt, hf⟩ := hgo
          have d44 : decide ((j : Int) < (N : Int)) = true := decide_eq_true (by omega)
          have d47 : (!(A k j).2) = true := by rw [hf]; rfl
          by_cases c1 : U k j < v
          · have d58 : decide (U k j < v) = true := decide_eq_true c1
            have e := miss k j hf c1
            have b0 : AV.int .i64 (A k j).1.1 = .int .i64 (A k (j + 1)).1.1 := by rw [e]
            have b1 : AV.int .i64 (A k j).1.2 = .int .i64 (A k (j + 1)).1.2 := by rw [e]
            have b2 : AV.bool (A k j).2 = .bool (A k (j + 1)).2 := by rw [e]
            exact ACode.vc (.call (.int .i64 N) <| .br 44 true <| .br 47 true <| .call (encS (L k j, U k j)) <| .br 58 true .nil) hn hl (.round .cl) ⟨sN, d44, d47, sAt j k hjt hlt, d58, j + 1, hjt, mu1 hjt,
              rfIn_le rfl rfl rfl rfl rfl rfl rfl rfl b0 b1 b2 ej rfl rfl rfl⟩
          · have d58 : decide (U k j < v) = false := decide_eq_false c1
            have e := hit k j hf c1
            have b1 : AV.int .i64 (j : Int) = .int .i64 (A k (j + 1)).1.2 := by rw [e]
            have b2 : AV.bool (decide (L k j ≥ v)) = .bool (A k (j + 1)).2 := by rw [e]
            by_cases c2 : (A k j).1.1 < 0
            · have d60 : decide ((A k j).1.1 < 0) = true := decide_eq_true c2
              have b0 : AV.int .i64 (j : Int) = .int .i64 (A k (j + 1)).1.1 := by rw [e, if_pos c2]
              exact ACode.vc (.call (.int .i64 N) <| .br 44 true <| .br 47 true <| .call (encS (L k j, U k j)) <| .br 58 false <| .br 60 true .nil) hn hl (.round .cl) ⟨sN, d44, d47, sAt j k hjt hlt, d58, d60, j + 1, hjt, mu1 hjt,
                rfIn_le rfl rfl rfl rfl rfl rfl rfl rfl b0 b1 b2 ej rfl rfl rfl⟩
            · have d60 : decide ((A k j).1.1 < 0) = false := decide_eq_false c2
              have b0 : AV.int .i64 (A k j).1.1 = .int .i64 (A k (j + 1)).1.1 := by rw [e, if_neg c2]
              exact ACode.vc (.call (.int .i64 N) <| .br 44 true <| .br 47 true <| .call (encS (L k j, U k j)) <| .br 58 false <| .br 60 false .nil) hn hl (.round .cl) ⟨sN, d44, d47, sAt j k hjt hlt, d58, d60, j + 1, hjt, mu1 hjt,
                rfIn_le rfl rfl rfl rfl rfl rfl rfl rfl b0 b1 b2 ej rfl rfl rfl⟩
        · have hout : j = N ∨ (A k j).2 = true := by
            rcases Nat.lt_or_ge j N with h1 | h1
            · right
              cases hf : (A k j).2
              · exact absurd ⟨h1, hf⟩ hgo
              · rfl
            · left; omega
          have eA := hend2 hout
          have hA := hALs k
          have f1 : AV.int .i64 (A k j).1.1 = .int .i64 (F k).1.1 := by rw [eA]
          rw [← eA] at hA
          have hnot := notm k
          have hism := ism k
          rw [← eA] at hnot hism
          clear f1
          refine Or.elim (boolC (AL k)) (fun ha => ?_) (fun ha => ?_)
          · rw [ha] at hA
            have d68 : AL k = true := ha
            have bA : AV.bool (A k j).2 = .bool (AL (k + 1)) := by rw [hA]; rfl
            refine Or.elim (boolC (decide ((A k j).1.1 < 0))) (fun hm => ?_) (fun hm => ?_)
            · obtain ⟨m1, m2⟩ := hnot hm
              have bS : AV.bool (SM k) = .bool (SM (k + 1)) := by rw [m1]
              have oO : some (AObj.cells [.int .i64 (O k).1, .int .i64 (O k).2]) = some (.cells [.int .i64 (O (k + 1)).1, .int .i64 (O (k + 1)).2]) := by rw [m2]
              by_cases hjN : j < N
              · have d44 : decide ((j : Int) < (N : Int)) = true := decide_eq_true (by omega)
                have d47 : (!(A k j).2) = false := by rcases hout with e | e; omega; rw [e]; rfl
                exact ACode.vc (.call (.int .i64 N) <| .br 44 true <| .br 47 false .nil) hn hl (.round .cl) ⟨sN, d44, d47, _, .refl _, .br 68 true <| .br 72 true .nil, d68, hm, k + 1, hlt, mu1 hlt, rfSt_le rfl rfl rfl rfl bA bS rfl eK rfl rfl (Eq.trans (by kernel_rfl) oO)⟩
              · have d44 : decide ((j : Int) < (N : Int)) = false := decide_eq_false (by omega)
                exact ACode.vc (.call (.int .i64 N) <| .br 44 false .nil) hn hl (.round .cl) ⟨sN, d44, _, .refl _, .br 68 true <| .br 72 true .nil, d68, hm, k + 1, hlt, mu1 hlt, rfSt_le rfl rfl rfl rfl bA bS rfl eK rfl rfl (Eq.trans (by kernel_rfl) oO)⟩
            · obtain ⟨m1, m2⟩ := hism hm
              have bS : AV.bool true = .bool (SM (k + 1)) := by rw [m1]
              refine Or.elim (boolC (SM k)) (fun hs => ?_) (fun hs => ?_)
              · rw [if_pos hs] at m2
                have d74 : (!SM k) = false := by rw [hs]; rfl
                have oO : some (AObj.cells [.int .i64 (if (A k j).1.1 < (O k).1 then (A k j).1.1 else (O k).1), .int .i64 (if (A k j).1.2 > (O k).2 then (A k j).1.2 else (O k).2)]) = some (.cells [.int .i64 (O (k + 1)).1, .int .i64 (O (k + 1)).2]) := by rw [m2, ifmin, ifmax]
                by_cases hjN : j < N
                · have d44 : decide ((j : Int) < (N : Int)) = true := decide_eq_true (by omega)
                  have d47 : (!(A k j).2) = false := by rcases hout with e | e; omega; rw [e]; rfl
                  exact ACode.vc (.call (.int .i64 N) <| .br 44 true <| .br 47 false .nil) hn hl (.round .cl) ⟨sN, d44, d47, _, .refl _, .br 68 true <| .br 72 false <| .br 74 false .nil, d68, hm, d74, k + 1, hlt, mu1 hlt, rfSt_le rfl rfl rfl rfl bA bS rfl eK rfl rfl (Eq.trans (by kernel_rfl) oO)⟩
                · have d44 : decide ((j : Int) < (N : Int)) = false := decide_eq_false (by omega)
                  exact ACode.vc (.call (.int .i64 N) <| .br 44 false .nil) hn hl (.round .cl) ⟨sN, d44, _, .refl _, .br 68 true <| .br 72 false <| .br 74 false .nil, d68, hm, d74, k + 1, hlt, mu1 hlt, rfSt_le rfl rfl rfl rfl bA bS rfl eK rfl rfl (Eq.trans (by kernel_rfl) oO)⟩
              · rw [if_neg (by rw [hs]; simp)] at m2
                have d74 : (!SM k) = true := by rw [hs]; rfl
                have oO : some (AObj.cells [.int .i64 (if (A k j).1.1 < (A k j).1.1 then (A k j).1.1 else (A k j).1.1), .int .i64 (if (A k j).1.2 > (A k j).1.2 then (A k j).1.2 else (A k j).1.2)]) = some (.cells [.int .i64 (O (k + 1)).1, .int .i64 (O (k + 1)).2]) := by rw [m2]; simp
                by_cases hjN : j < N
                · have d44 : decide ((j : Int) < (N : Int)) = true := decide_eq_true (by omega)
                  have d47 : (!(A k j).2) = false := by rcases hout with e | e; omega; rw [e]; rfl
                  exact ACode.vc (.call (.int .i64 N) <| .br 44 true <| .br 47 false .nil) hn hl (.round .cl) ⟨sN, d44, d47, _, .refl _, .br 68 true <| .br 72 false <| .br 74 true .nil, d68, hm, d74, k + 1, hlt, mu1 hlt, rfSt_le rfl rfl rfl rfl bA bS rfl eK rfl rfl (Eq.trans (by kernel_rfl) oO)⟩
                · have d44 : decide ((j : Int) < (N : Int)) = false := decide_eq_false (by omega)
                  exact ACode.vc (.call (.int .i64 N) <| .br 44 false .nil) hn hl (.round .cl) ⟨sN, d44, _, .refl _, .br 68 true <| .br 72 false <| .br 74 true .nil, d68, hm, d74, k + 1, hlt, mu1 hlt, rfSt_le rfl rfl rfl rfl bA bS rfl eK rfl rfl (Eq.trans (by kernel_rfl) oO)⟩
          · rw [ha] at hA
            have d68 : AL k = false := ha
            have bA : AV.bool false = .bool (AL (k + 1)) := by rw [hA]; rfl
            refine Or.elim (boolC (decide ((A k j).1.1 < 0))) (fun hm => ?_) (fun hm => ?_)
            · obtain ⟨m1, m2⟩ := hnot hm
              have bS : AV.bool (SM k) = .bool (SM (k + 1)) := by rw [m1]
              have oO : some (AObj.cells [.int .i64 (O k).1, .int .i64 (O k).2]) = some (.cells [.int .i64 (O (k + 1)).1, .int .i64 (O (k + 1)).2]) := by rw [m2]
              by_cases hjN : j < N
              · have d44 : decide ((j : Int) < (N : Int)) = true := decide_eq_true (by omega)
                have d47 : (!(A k j).2) = false := by rcases hout with e | e; omega; rw [e]; rfl
                exact ACode.vc (.call (.int .i64 N) <| .br 44 true <| .br 47 false .nil) hn hl (.round .cl) ⟨sN, d44, d47, _, .refl _, .br 68 false <| .br 72 true .nil, d68, hm, k + 1, hlt, mu1 hlt, rfSt_le rfl rfl rfl rfl bA bS rfl eK rfl rfl (Eq.trans (by kernel_rfl) oO)⟩
              · have d44 : decide ((j : Int) < (N : Int)) = false := decide_eq_false (by omega)
                exact ACode.vc (.call (.int .i64 N) <| .br 44 false .nil) hn hl (.round .cl) ⟨sN, d44, _, .refl _, .br 68 false <| .br 72 true .nil, d68, hm, k + 1, hlt, mu1 hlt, rfSt_le rfl rfl rfl rfl bA bS rfl eK rfl rfl (Eq.trans (by kernel_rfl) oO)⟩
            · obtain ⟨m1, m2⟩ := hism hm
              have bS : AV.bool true = .bool (SM (k + 1)) := by rw [m1]
              refine Or.elim (boolC (SM k)) (fun hs => ?_) (fun hs => ?_)
              · rw [if_pos hs] at m2
                have d74 : (!SM k) = false := by rw [hs]; rfl
                have oO : some (AObj.cells [.int .i64 (if (A k j).1.1 < (O k).1 then (A k j).1.1 else (O k).1), .int .i64 (if (A k j).1.2 > (O k).2 then (A k j).1.2 else (O k).2)]) = some (.cells [.int .i64 (O (k + 1)).1, .int .i64 (O (k + 1)).2]) := by rw [m2, ifmin, ifmax]
                by_cases hjN : j < N
                · have d44 : decide ((j : Int) < (N : Int)) = true := decide_eq_true (by omega)
                  have d47 : (!(A k j).2) = false := by rcases hout with e | e; omega; rw [e]; rfl
                  exact ACode.vc (.call (.int .i64 N) <| .br 44 true <| .br 47 false .nil) hn hl (.round .cl) ⟨sN, d44, d47, _, .refl _, .br 68 false <| .br 72 false <| .br 74 false .nil, d68, hm, d74, k + 1, hlt, mu1 hlt, rfSt_le rfl rfl rfl rfl bA bS rfl eK rfl rfl (Eq.trans (by kernel_rfl) oO)⟩
                · have d44 : decide ((j : Int) < (N : Int)) = false := decide_eq_false (by omega)
                  exact ACode.vc (.call (.int .i64 N) <| .br 44 false .nil) hn hl (.round .cl) ⟨sN, d44, _, .refl _, .br 68 false <| .br 72 false <| .br 74 false .nil, d68, hm, d74, k + 1, hlt, mu1 hlt, rfSt_le rfl rfl rfl rfl bA bS rfl eK rfl rfl (Eq.trans (by kernel_rfl) oO)⟩
              · rw [if_neg (by rw [hs]; simp)] at m2
                have d74 : (!SM k) = true := by rw [hs]; rfl
                have oO : some (AObj.cells [.int .i64 (if (A k j).1.1 < (A k j).1.1 then (A k j).1.1 else (A k j).1.1), .int .i64 (if (A k j).1.2 > (A k j).1.2 then (A k j).1.2 else (A k j).1.2)]) = some (.cells [.int .i64 (O (k + 1)).1, .int .i64 (O (k + 1)).2]) := by rw [m2]; simp
                by_cases hjN : j < N
                · have d44 : decide ((j : Int) < (N : Int)) = true := decide_eq_true (by omega)
                  have d47 : (!(A k j).2) = false := by rcases hout with e | e; omega; rw [e]; rfl
                  exact ACode.vc (.call (.int .i64 N) <| .br 44 true <| .br 47 false .nil) hn hl (.round .cl) ⟨sN, d44, d47, _, .refl _, .br 68 false <| .br 72 false <| .br 74 true .nil, d68, hm, d74, k + 1, hlt, mu1 hlt, rfSt_le rfl rfl rfl rfl bA bS rfl eK rfl rfl (Eq.trans (by kernel_rfl) oO)⟩
                · have d44 : decide ((j : Int) < (N : Int)) = false := decide_eq_false (by omega)
                  exact ACode.vc (.call (.int .i64 N) <| .br 44 false .nil) hn hl (.round .cl) ⟨sN, d44, _, .refl _, .br 68 false <| .br 72 false <| .br 74 true .nil, d68, hm, d74, k + 1, hlt, mu1 hlt, rfSt_le rfl rfl rfl rfl bA bS rfl eK rfl rfl (Eq.trans (by kernel_rfl) oO)⟩
    · have hk' : k = hi - lo + 1 := by omega
      subst hk'
      have d36 : decide (((lo + (hi - lo + 1) : Nat) : Int) ≤ h.lHi) = false := decide_eq_false (by omega)
      refine Or.elim (boolC (SM (hi - lo + 1))) (fun hs => ?_) (fun hs => ?_)
      · obtain ⟨q1, q2⟩ := hend.2 hs
        have d88 : (!SM (hi - lo + 1)) = false := by rw [hs]; rfl
        refine Or.elim (boolC (AL (hi - lo + 1))) (fun ha => ?_) (fun ha => ?_)
        · have eR : some (AV.tup [.agg [.int .i64 (O (hi - lo + 1)).1, .int .i64 (O (hi - lo + 1)).2], .int .u8 2, .int .i64 0]) = some (encF (FS, KN, 0)) := by rw [q1, q2, if_pos ha]; rfl
          exact ACode.vc (.br 36 false .nil) hn hl (.round .cl) ⟨d36, _, .refl _, .br 88 false <| .br 90 true .nil, d88, ha, trivial, Eq.trans (by kernel_rfl) eR⟩
        · have eR : some (AV.tup [.agg [.int .i64 (O (hi - lo + 1)).1, .int .i64 (O (hi - lo + 1)).2], .int .u8 1, .int .i64 0]) = some (encF (FS, KN, 0)) := by rw [q1, q2, if_neg (by rw [ha]; simp)]; rfl
          exact ACode.vc (.br 36 false .nil) hn hl (.round .cl) ⟨d36, _, .refl _, .br 88 false <| .br 90 false .nil, d88, ha, trivial, Eq.trans (by kernel_rfl) eR⟩
      · obtain ⟨q1, q2⟩ := hend.1 hs
        have d88 : (!SM (hi - lo + 1)) = true := by rw [hs]; rfl
        have eR : some (AV.tup [.agg [.int .i64 0, .int .i64 0], .int .u8 0, .int .i64 0]) = some (encF (FS, KN, 0)) := by rw [q1, q2]; rfl
        exact ACode.vc (.br 36 false .nil) hn hl (.round .cl) ⟨d36, _, .refl _, .br 88 true .nil, d88, trivial, Eq.trans (by kernel_rfl) eR⟩
theorem rFirst_spec (h : Hd) (r : List Int) (v : Int) : APure Tryd.prog 17 [encHd h, encR r, .int .i64 v] (encF (firstI h r v)) := by
  have s1 := rCheck_spec h r
  by_cases h0 : checkI h r = 0
  · by_cases hv : 1 ≤ v
    · have e : firstI h r v = (firstS h r v, knownI h r v, 0) := by simp only [firstI, h0, if_true, if_pos hv]
      rw [e]
      exact rFirst_ok h r v h0 hv
    · have d23 : (checkI h r != 0) = false := by simp [h0]
      have d27 : decide (v < 1) = true := decide_eq_true (by omega)
      have e : firstI h r v = ((0, 0), 0, 2) := by simp only [firstI, h0, if_true, if_neg hv]
      rw [e]
      generalize checkI h r = C at s1 d23
      exact APure.vc Tryd.func17 rfl (.call (.int .i64 C) <| .br 23 false <| .br 27 true .nil) rfl rfl ⟨s1, d23, d27, trivial, by kernel_rfl⟩
  · have d23 : (checkI h r != 0) = true := by simp [h0]
    have e : firstI h r v = ((0, 0), 0, checkI h r) := by simp only [firstI, if_neg h0]
    rw [e]
    generalize checkI h r = C at s1 d23 ⊢
    exact APure.vc Tryd.func17 rfl (.call (.int .i64 C) <| .br 23 true .nil) rfl rfl ⟨s1, d23, trivial, by kernel_rfl⟩
end Go.Proofs.YtcdcgbgmpmaipaaDoor
