import Derived.Test.YtcdcgbgmpmaipaaDoorD8
namespace Go.Proofs.YtcdcgbgmpmaipaaDoor
open Go Go.Am
set_option maxRecDepth 100000
set_option maxHeartbeats 4000000
noncomputable def asgR : Code := rfA Tryd.f46
noncomputable def bodR : Code := rfB Tryd.f46
theorem neNone (s : Sn) : ((aeqT Tryd.prog 6 23 (.agg [.int .i64 s.1, .int .i64 s.2]) (.agg [.int .i64 (-1), .int .i64 (-1)])).map fun b => AV.bool !b).map (fun v => (⟨v, []⟩ : Out)) = some ⟨.bool !(s.1 == -1 && s.2 == -1), []⟩ := by rw [eqSpan]; rfl
theorem lags_rng {h : Hd} (ho : HoodOk h) : ∃ lo hi : Nat, h.lLo = (lo : Int) ∧ h.lHi = (hi : Int) ∧ lo ≤ hi ∧ hi ≤ 30 ∧ lagsN h = List.range' lo (hi - lo + 1) := by
  have hl := ho.l
  obtain ⟨lo, elo⟩ := Int.eq_ofNat_of_zero_le hl.1
  obtain ⟨hi, ehi⟩ := Int.eq_ofNat_of_zero_le (show 0 ≤ h.lHi by omega)
  refine ⟨lo, hi, elo, ehi, by omega, by omega, ?_⟩
  unfold lagsN
  rw [elo, ehi, Int.toNat_natCast, show ((hi : Int) - (lo : Int)).toNat = hi - lo by omega]
theorem may_iff {h : Hd} {r : List Int} {v : Int} {lag : Nat} : (!((arrV h r v lag).1.1 == -1 && (arrV h r v lag).1.2 == -1)) = mayB h r v lag := by
  rcases arrK_rng h r lag v (secN h r) with ⟨e, _⟩ | hr
  · simp [mayB, arrV, e]
  · have h1 : 0 ≤ (arrV h r v lag).1.1 := hr.1
    rw [notNone h1]
    simp [mayB, h1]
theorem reached_spec (h : Hd) (r : List Int) (v : Int) (ho : Ok h r) : APure Tryd.prog 46 [encDt h r, .int .i64 v] (.imap (entsA (arrV h r v) (mayL h r v))) := by
  obtain ⟨lo, hi, elo, ehi, hle, h30, hL⟩ := lags_rng ho.h
  have sL := lags_spec h r
  have sA : ∀ k, k < hi - lo + 1 → APure Tryd.prog 68 [encDt h r, .int .i64 (lo + k : Nat), .int .i64 v] (encAr (arrV h r v (lo + k))) := fun k hk => arrival_spec h r (lo + k) v ho (by omega)
  have hM : mayL h r v = (List.range' lo (hi - lo + 1)).filter (mayB h r v) := by unfold mayL; rw [hL]
  rw [hM]
  have hm := fun lag => may_iff (h := h) (r := r) (v := v) (lag := lag)
  have hnot : ∀ k, lo + k ∉ (List.range' lo k).filter (mayB h r v) := fun k hx => by
    have := (List.mem_filter.1 hx).1
    rw [List.mem_range'_1] at this
    omega
  have hsucc : ∀ k, (List.range' lo (k + 1)).filter (mayB h r v) = (List.range' lo k).filter (mayB h r v) ++ (if mayB h r v (lo + k) then [lo + k] else []) := fun k => by
    rw [List.range'_concat, List.filter_append, Nat.one_mul]
    cases hB : mayB h r v (lo + k) <;> simp [hB]
  have h0 : (List.range' lo 0).filter (mayB h r v) = [] := rfl
  have e0 : AV.int .i64 h.lLo = .int .i64 (lo + 0 : Nat) := congrArg _ elo
  generalize arrV h r v = F at *
  generalize mayB h r v = B at *
  obtain ⟨M, hMM⟩ : ∃ M : Nat → List Nat, ∀ k, M k = (List.range' lo k).filter B := ⟨_, fun _ => rfl⟩
  simp only [← hMM] at hnot hsucc h0 ⊢
  clear hM hMM hL
  refine APure.vcT Tryd.func46 (.call (lagsCl h r) <| .inl Tryd.f76 .loop) rfl rfl ⟨sL, Tryd.func76, ?_⟩
  intro g hn hl
  replace hn : g.n = 20 := hn
  replace hl : g.low 6 := hl
  refine acode_whileW (fun k : Nat => ⟨[(0, .yld 5), (1, .cptr (dtL h r)), (3, .int .i64 (lo + k : Nat))],
      [(0, .cells (dtL h r)), (1, .cells [.int .i64 v]), (2, .map (entsA F (M k))), (3, .cells [.mref 2]), (5, .loop ⟨.ready, none, 24, [(2, .vptr 0 0), (3, .vptr 1 0), (5, .vptr 3 0)], #[11], asgR, bodR⟩)], 6⟩)
    (fun k => k ≤ hi - lo + 1) (fun k => hi - lo + 1 - k) 0 (Nat.zero_le _) ?_ ?_
  · have o0 : some (AObj.map []) = some (.map (entsA F (M 0))) := by rw [h0]; rfl
    refine Wk.trans (Wk.le ?_ hl) (Wk.loopEnv (id := 5) (n := 6) [(2, .vptr 0 0), (3, .vptr 1 0), (5, .vptr 3 0)] rfl ⟨rfl, rfl, rfl, rfl, rfl, rfl, trivial⟩)
    exact St.le.of ⟨by kernel_rfl, rfl, by kernel_rfl, rfl, e0, rfl, trivial⟩ ⟨by kernel_rfl, (by decide : (0 : Nat) < 6), rfl, by kernel_rfl, (by decide : (1 : Nat) < 6), rfl, Eq.trans (by kernel_rfl) o0, (by decide : (2 : Nat) < 6), okE_entsA _ _ _, by kernel_rfl, (by decide : (3 : Nat) < 6), rfl, by kernel_rfl, (by decide : (5 : Nat) < 6), rfl, trivial⟩
  · intro k hk
    by_cases hlt : k < hi - lo + 1
    · have d13 : decide (((lo + k : Nat) : Int) ≤ h.lHi) = true := decide_eq_true (by omega)
      have ek := congrArg (AV.int .i64) (succ64 (k := lo + k) (by omega))
      have q := neNone (F (lo + k)).1
      rw [hm] at q
      have hs := hsucc k
      cases hB : B (lo + k)
      · rw [hB] at q hs
        have om : some (AObj.map (entsA F (M k))) = some (.map (entsA F (M (k + 1)))) := by rw [hs]; simp
        exact ACode.vc (.br 13 true <| .call (encAr (F (lo + k))) <| .val 19 (.bool false) [] .nil) hn hl (.roundW .cl)
          ⟨d13, sA k hlt, Eq.trans (by kernel_rfl) q, k + 1, hlt, mu1 hlt,
            Wk.le (St.le.of ⟨by kernel_rfl, rfl, by kernel_rfl, rfl, Eq.trans (by kernel_rfl) ek, rfl, trivial⟩ ⟨by kernel_rfl, (by decide : (0 : Nat) < 6), rfl, by kernel_rfl, (by decide : (1 : Nat) < 6), rfl, Eq.trans (by kernel_rfl) om, (by decide : (2 : Nat) < 6), okE_entsA _ _ _, by kernel_rfl, (by decide : (3 : Nat) < 6), rfl, by kernel_rfl, (by decide : (5 : Nat) < 6), rfl, trivial⟩) hl⟩
      · rw [hB] at q hs
        have up := updA (h := hget [(2, .map (entsA F (M k)))]) (i := 2) (F := F) (l := M k) (lag := lo + k) rfl (hnot k)
        have om : some (AObj.map (entsA F (M k ++ [lo + k]))) = some (.map (entsA F (M (k + 1)))) := by rw [hs]; simp
        exact ACode.vc (.br 13 true <| .call (encAr (F (lo + k))) <| .val 19 (.bool true) [] <| .val 0 .undef [(2, some (.map (entsA F (M k ++ [lo + k]))))] .nil) hn hl (.roundW .cl)
          ⟨d13, sA k hlt, Eq.trans (by kernel_rfl) q, Eq.trans (by kernel_rfl) up, k + 1, hlt, mu1 hlt,
            Wk.le (St.le.of ⟨by kernel_rfl, rfl, by kernel_rfl, rfl, Eq.trans (by kernel_rfl) ek, rfl, trivial⟩ ⟨by kernel_rfl, (by decide : (0 : Nat) < 6), rfl, by kernel_rfl, (by decide : (1 : Nat) < 6), rfl, Eq.trans (by kernel_rfl) om, (by decide : (2 : Nat) < 6), okE_entsA _ _ _, by kernel_rfl, (by decide : (3 : Nat) < 6), rfl, by kernel_rfl, (by decide : (5 : Nat) < 6), rfl, trivial⟩) hl⟩
    · have hk' : k = hi - lo + 1 := by omega
      subst hk'
      have d13 : decide (((lo + (hi - lo + 1) : Nat) : Int) ≤ h.lHi) = false := decide_eq_false (by omega)
      exact ACode.vc (.br 13 false .nil) hn hl (.roundW .cl) ⟨d13, _, .refl _, .nil, [2], thaw_map (i := 2) (F := F) (l := M (hi - lo + 1)) rfl⟩
end Go.Proofs.YtcdcgbgmpmaipaaDoor
