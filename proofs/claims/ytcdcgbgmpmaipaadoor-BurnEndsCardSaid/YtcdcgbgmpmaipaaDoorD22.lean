import Derived.Test.YtcdcgbgmpmaipaaDoorD20
namespace Go.Proofs.YtcdcgbgmpmaipaaDoor
open Go Go.Am
set_option maxRecDepth 100000
set_option maxHeartbeats 16000000
/-! ### The ends of the heat at a lag -/
def enL (f : Nat → Int) (k : Nat) : List Int := (List.range k).map f
theorem enL_len (f : Nat → Int) (k : Nat) : (enL f k).length = k := by simp [enL]
theorem enL_succ (f : Nat → Int) (k : Nat) : enL f (k + 1) = enL f k ++ [f k] := by simp [enL, List.range_succ]
theorem enL_get (f : Nat → Int) {k n : Nat} (hk : k < n) : (enL f n)[k]? = some (f k) := by simp [enL, hk]
theorem ends_hi (h : Hd) (r : List Int) (lag : Nat) (ho : Ok h r) (hlag : (lag : Int) ≤ h.lHi) : APure Tryd.prog 34 [encHd h, encR r, .int .i64 lag, .bool true] (encR (enL (aHi h r lag) (secN h r))) := by
  have hN := secN_le ho
  have hl30 := ho.h.l
  have sS := rSeconds_spec h r ho
  have hin : ∀ k, k < secN h r → k + lag < r.length := fun k hk => by unfold secN at hk; omega
  refine APure.vcT Tryd.func34 (.call (.int .i64 (secN h r : Nat)) .loop) rfl rfl ⟨sS, ?_⟩
  intro g hn hl
  replace hn : g.n = 70 := hn
  replace hl : g.low 0 := hl
  refine acode_whileW (fun k : Nat => ⟨[(1, encR r), (2, .int .i64 lag), (3, .bool true), (4, .vptr 0 0), (9, .rsl 1 0 (enL (aHi h r lag) k).length 1), (13, .int .i64 (secN h r : Nat)), (14, .int .i64 k)],
      [(0, .cells (hdL h)), (1, .cells (fl encI (enL (aHi h r lag) k)))], 2⟩)
    (fun k => k ≤ secN h r) (fun k => secN h r - k) 0 (Nat.zero_le _) (Wk.trans (Wk.le ?_ (hl.mono (Nat.zero_le _))) (Wk.own 9 1 rfl)) ?_
  · exact St.le.of ⟨rfl, rfl, rfl, rfl, rfl, rfl, rfl, rfl, rfl, rfl, rfl, rfl, rfl, rfl, trivial⟩ ⟨rfl, (by decide : (0 : Nat) < 2), rfl, rfl, (by decide : (1 : Nat) < 2), rfl, trivial⟩
  · intro k hk
    by_cases hlt : k < secN h r
    · have b1 := ho.h.b
      have b2 := ho.h.j
      have b3 := ho.h.f
      have b4 := ho.h.d
      have rr := rd_rng ho.r (by decide) (k + lag)
      have ar := a_rng ho lag k
      have mm := m_rng ho lag k
      have ix := idxW (enc := encI) (n := IntKind.i64.wrap ((k : Int) + (lag : Nat))) (k := k + lag) (by rw [wrap64 (by omega) (by omega)]; omega) (rd_get (hin k hlt))
      have p0 : 0 ≤ h.jHi * h.fHi ∧ h.jHi * h.fHi ≤ 30000 * 10000 := mul_rng (by omega) (by omega) (by omega) (by omega)
      have wM : (if IntKind.i64.wrap (IntKind.i64.wrap (h.bHi - rd r (k + lag)) + h.dr) > 0 then IntKind.i64.wrap (IntKind.i64.wrap (h.bHi - rd r (k + lag)) + h.dr) else 0) = mHi h r lag k := by
        rw [ifmax, wrap64 (n := h.bHi - rd r (k + lag)) (by omega) (by omega), wrap64 (by omega) (by omega)]; unfold mHi; congr 1; omega
      have v40 : some (⟨.int .i64 (IntKind.i64.wrap (IntKind.i64.wrap (h.jHi * h.fHi) * (if IntKind.i64.wrap (IntKind.i64.wrap (h.bHi - rd r (k + lag)) + h.dr) > 0 then IntKind.i64.wrap (IntKind.i64.wrap (h.bHi - rd r (k + lag)) + h.dr) else 0))), []⟩ : Out) = some ⟨.int .i64 (aHi h r lag k), []⟩ := by
        rw [wM, wrap64 (n := h.jHi * h.fHi) (by omega) (by omega)]; unfold aHi at ar ⊢; rw [wrap64 (by omega) (by omega)]
      have ap : aAppend Tryd.prog (hget [(1, .cells (fl encI (enL (aHi h r lag) k))), (25, .cells [.int .i64 (aHi h r lag k)])]) 28 26 26 (.rsl 1 0 (enL (aHi h r lag) k).length 1) (.rsl 25 0 1 1) = some ⟨.rsl 28 0 ((enL (aHi h r lag) k).length + 1) 1, [(1, none), (28, some (.cells (fl encI (enL (aHi h r lag) (k + 1)))))]⟩ :=
        (app_one (l := enL (aHi h r lag) k) rfl rfl (by rw [enL_len]; omega)).trans (by rw [← enL_succ])
      have elen : AV.rsl 1 0 (enL (aHi h r lag) (k + 1)).length 1 = AV.rsl 1 0 ((enL (aHi h r lag) k).length + 1) 1 := by rw [enL_len, enL_len]
      have okV := fl_ok (enc := encI) (n := 1) (fun _ => rfl) (enL (aHi h r lag) (k + 1))
      have lt := decide_eq_true (show (k : Int) < (secN h r : Nat) by omega)
      have ek := congrArg (AV.int .i64) (succ64 (k := k) (by omega))
      clear wM p0 ar mm rr b1 b2 b3 b4
      generalize rd r (k + lag) = x at *
      exact ACode.vc (.br 15 true <| .draw 24 <| .cells (encI x) <| .val 40 (.int .i64 (aHi h r lag k)) [] <| .val 42 (.rsl 28 0 ((enL (aHi h r lag) k).length + 1) 1) [(1, none), (28, some (.cells (fl encI (enL (aHi h r lag) (k + 1)))))] .nil) hn hl (.roundW .cl)
        ⟨lt, by kernel_rfl, mixed, by kernel_rfl, ix, v40, by kernel_rfl, Eq.trans (by kernel_rfl) ap, k + 1, hlt, mu1 hlt,
          Wk.ren (c := 1) (b := 28) (St.ren.of rfl (by decide) ⟨.inl ⟨rfl, rfl⟩, .inl ⟨rfl, rfl⟩, .inl ⟨rfl, rfl⟩, .inl ⟨rfl, rfl⟩, .inr ⟨0, _, 1, elen, rfl⟩, .inl ⟨rfl, rfl⟩, .inl ⟨ek, rfl⟩, trivial⟩ ⟨.inl ⟨(by decide : (0 : Nat) < 1), rfl, rfl⟩, .inr ⟨rfl, rfl, _, rfl, okV⟩, trivial⟩) (hl.mono (Nat.zero_le _))⟩
    · have hk' : k = secN h r := by omega
      subst hk'
      have th := thaw_fl (n := 1) (d := 6) (h := hget [(0, .cells (hdL h)), (1, .cells (fl encI (enL (aHi h r lag) (secN h r))))]) (id := 1) (enc := encI) (l := enL (aHi h r lag) (secN h r)) (fun _ => rfl) (fun _ => rfl) rfl
      have lt := decide_eq_false (show ¬ ((secN h r : Nat) : Int) < (secN h r : Nat) by omega)
      exact ACode.vc (.br 15 false .nil) hn hl (.roundW .cl) ⟨lt, _, .refl _, .nil, [1], Eq.trans (by kernel_rfl) th⟩
theorem ends_lo (h : Hd) (r : List Int) (lag : Nat) (ho : Ok h r) (hlag : (lag : Int) ≤ h.lHi) : APure Tryd.prog 34 [encHd h, encR r, .int .i64 lag, .bool false] (encR (enL (aLo h r lag) (secN h r))) := by
  have hN := secN_le ho
  have hl30 := ho.h.l
  have sS := rSeconds_spec h r ho
  have hin : ∀ k, k < secN h r → k + lag < r.length := fun k hk => by unfold secN at hk; omega
  refine APure.vcT Tryd.func34 (.call (.int .i64 (secN h r : Nat)) .loop) rfl rfl ⟨sS, ?_⟩
  intro g hn hl
  replace hn : g.n = 70 := hn
  replace hl : g.low 0 := hl
  refine acode_whileW (fun k : Nat => ⟨[(1, encR r), (2, .int .i64 lag), (3, .bool false), (4, .vptr 0 0), (9, .rsl 1 0 (enL (aLo h r lag) k).length 1), (13, .int .i64 (secN h r : Nat)), (14, .int .i64 k)],
      [(0, .cells (hdL h)), (1, .cells (fl encI (enL (aLo h r lag) k)))], 2⟩)
    (fun k => k ≤ secN h r) (fun k => secN h r - k) 0 (Nat.zero_le _) (Wk.trans (Wk.le ?_ (hl.mono (Nat.zero_le _))) (Wk.own 9 1 rfl)) ?_
  · exact St.le.of ⟨rfl, rfl, rfl, rfl, rfl, rfl, rfl, rfl, rfl, rfl, rfl, rfl, rfl, rfl, trivial⟩ ⟨rfl, (by decide : (0 : Nat) < 2), rfl, rfl, (by decide : (1 : Nat) < 2), rfl, trivial⟩
  · intro k hk
    by_cases hlt : k < secN h r
    · have b1 := ho.h.b
      have b2 := ho.h.j
      have b3 := ho.h.f
      have b4 := ho.h.d
      have rr := rd_rng ho.r (by decide) (k + lag)
      have ar := a_rng ho lag k
      have mm := m_rng ho lag k
      have ix := idxW (enc := encI) (n := IntKind.i64.wrap ((k : Int) + (lag : Nat))) (k := k + lag) (by rw [wrap64 (by omega) (by omega)]; omega) (rd_get (hin k hlt))
      have p0 : 0 ≤ h.jLo * h.fLo ∧ h.jLo * h.fLo ≤ 30000 * 10000 := mul_rng (by omega) (by omega) (by omega) (by omega)
      have wM : (if IntKind.i64.wrap (IntKind.i64.wrap (h.bLo - rd r (k + lag)) - h.dr) > 0 then IntKind.i64.wrap (IntKind.i64.wrap (h.bLo - rd r (k + lag)) - h.dr) else 0) = mLo h r lag k := by
        rw [ifmax, wrap64 (n := h.bLo - rd r (k + lag)) (by omega) (by omega), wrap64 (by omega) (by omega)]; unfold mLo; congr 1; omega
      have v65 : some (⟨.int .i64 (IntKind.i64.wrap (IntKind.i64.wrap (h.jLo * h.fLo) * (if IntKind.i64.wrap (IntKind.i64.wrap (h.bLo - rd r (k + lag)) - h.dr) > 0 then IntKind.i64.wrap (IntKind.i64.wrap (h.bLo - rd r (k + lag)) - h.dr) else 0))), []⟩ : Out) = some ⟨.int .i64 (aLo h r lag k), []⟩ := by
        rw [wM, wrap64 (n := h.jLo * h.fLo) (by omega) (by omega)]; unfold aLo at ar ⊢; rw [wrap64 (by omega) (by omega)]
      have ap : aAppend Tryd.prog (hget [(1, .cells (fl encI (enL (aLo h r lag) k))), (25, .cells [.int .i64 (aLo h r lag k)])]) 28 26 26 (.rsl 1 0 (enL (aLo h r lag) k).length 1) (.rsl 25 0 1 1) = some ⟨.rsl 28 0 ((enL (aLo h r lag) k).length + 1) 1, [(1, none), (28, some (.cells (fl encI (enL (aLo h r lag) (k + 1)))))]⟩ :=
        (app_one (l := enL (aLo h r lag) k) rfl rfl (by rw [enL_len]; omega)).trans (by rw [← enL_succ])
      have elen : AV.rsl 1 0 (enL (aLo h r lag) (k + 1)).length 1 = AV.rsl 1 0 ((enL (aLo h r lag) k).length + 1) 1 := by rw [enL_len, enL_len]
      have okV := fl_ok (enc := encI) (n := 1) (fun _ => rfl) (enL (aLo h r lag) (k + 1))
      have lt := decide_eq_true (show (k : Int) < (secN h r : Nat) by omega)
      have ek := congrArg (AV.int .i64) (succ64 (k := k) (by omega))
      clear wM p0 ar mm rr b1 b2 b3 b4
      generalize rd r (k + lag) = x at *
      exact ACode.vc (.br 15 true <| .draw 24 <| .cells (encI x) <| .val 65 (.int .i64 (aLo h r lag k)) [] <| .val 67 (.rsl 28 0 ((enL (aLo h r lag) k).length + 1) 1) [(1, none), (28, some (.cells (fl encI (enL (aLo h r lag) (k + 1)))))] .nil) hn hl (.roundW .cl)
        ⟨lt, by kernel_rfl, mixed, by kernel_rfl, ix, v65, by kernel_rfl, Eq.trans (by kernel_rfl) ap, k + 1, hlt, mu1 hlt,
          Wk.ren (c := 1) (b := 28) (St.ren.of rfl (by decide) ⟨.inl ⟨rfl, rfl⟩, .inl ⟨rfl, rfl⟩, .inl ⟨rfl, rfl⟩, .inl ⟨rfl, rfl⟩, .inr ⟨0, _, 1, elen, rfl⟩, .inl ⟨rfl, rfl⟩, .inl ⟨ek, rfl⟩, trivial⟩ ⟨.inl ⟨(by decide : (0 : Nat) < 1), rfl, rfl⟩, .inr ⟨rfl, rfl, _, rfl, okV⟩, trivial⟩) (hl.mono (Nat.zero_le _))⟩
    · have hk' : k = secN h r := by omega
      subst hk'
      have th := thaw_fl (n := 1) (d := 6) (h := hget [(0, .cells (hdL h)), (1, .cells (fl encI (enL (aLo h r lag) (secN h r))))]) (id := 1) (enc := encI) (l := enL (aLo h r lag) (secN h r)) (fun _ => rfl) (fun _ => rfl) rfl
      have lt := decide_eq_false (show ¬ ((secN h r : Nat) : Int) < (secN h r : Nat) by omega)
      exact ACode.vc (.br 15 false .nil) hn hl (.roundW .cl) ⟨lt, _, .refl _, .nil, [1], Eq.trans (by kernel_rfl) th⟩
end Go.Proofs.YtcdcgbgmpmaipaaDoor
