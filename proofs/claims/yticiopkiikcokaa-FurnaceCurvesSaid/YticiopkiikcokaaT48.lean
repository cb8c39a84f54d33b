import Derived.Test.YticiopkiikcokaaT47
import Derived.Test.YticiopkiikcokaaT41
import Derived.Test.YticiopkiikcokaaT33
namespace Go.Proofs.Yticiopkiikcokaa
open Go Go.Am
theorem wlV_lst {l : List Nat} (h : 1 ≤ l.length) : wlV l = .lst 1 (l.map encN) := by
  cases l with
  | nil => simp at h
  | cons a t => rfl
set_option maxHeartbeats 16000000 in
set_option maxRecDepth 100000 in
theorem rmean_spec {r : Rn} (hr : RunOk r) {m : Int} (h1 : 1 ≤ m) (h2 : m ≤ r.rows.length) (hb : 1 ≤ (wl r m).length) : APure Try.prog 55 [encRn r, .int .i64 m] (.agg [.int .i64 (mLo r m), .int .i64 (mHi r m)]) := by
  have hcl := hr.cl
  have sW := Working_spec hr m
  rw [wlV_lst hb] at sW
  have hlen : (wl r m).length ≤ 8 := by have := List.length_filter_le (wkAt r m) (List.range r.cps.length); rw [List.length_range] at this; unfold wl; omega
  have hrng := xs_rng hr h1 h2
  obtain ⟨L, hL⟩ : ∃ L, L = (wl r m).map (spanAt r m) := ⟨_, rfl⟩
  rw [← hL] at hrng
  have hLl : L.length = (wl r m).length := by rw [hL, List.length_map]
  have b1 := sumTo_le (f := Sn.lo) (l := L) fun s hs => by have := hrng s hs; omega
  have b2 := sumTo_le (f := Sn.hi) (l := L) fun s hs => by have := hrng s hs; omega
  have hat : ∀ (p i : Nat), (wl r m)[p]? = some i → (∃ c, r.cps[i]? = some c ∧ wks c m = true) ∧ L[p]? = some (spanAt r m i) := fun p i h => by
    obtain ⟨hi1, hi2⟩ := List.mem_filter.1 (List.mem_of_getElem? h)
    obtain ⟨c, hc⟩ := getE (List.mem_range.1 hi1)
    exact ⟨⟨c, hc, by rw [← wkAt_some hc]; exact hi2⟩, by rw [hL, List.getElem?_map, h]; rfl⟩
  have r1 := sum_rng (l := L) Sn.lo fun s hs => (hrng s hs).1
  have r2 := sum_rng (l := L) Sn.hi fun s hs => (hrng s hs).2
  have hq := tdiv840 (n := ((wl r m).length : Int)) (by omega)
  have q1 : IntKind.i64.wrap ((840 : Int).tdiv ((wl r m).length : Int)) = (840 : Int).tdiv ((wl r m).length : Int) := wrap64 (by omega) (by omega)
  have p1 := mul_rng (a := (L.map Sn.lo).sum) (by omega) (by omega) hq.1 hq.2
  have p2 := mul_rng (a := (L.map Sn.hi).sum) (by omega) (by omega) hq.1 hq.2
  have hN : (((wl r m).map encN).length : Int) = ((wl r m).length : Int) := by rw [List.length_map]
  have t1 : sumTo Sn.lo L (wl r m).length = (L.map Sn.lo).sum := by unfold sumTo; rw [← hLl, List.take_length]
  have t2 : sumTo Sn.hi L (wl r m).length = (L.map Sn.hi).sum := by unfold sumTo; rw [← hLl, List.take_length]
  have e1 : IntKind.i64.wrap (sumTo Sn.lo L (wl r m).length * IntKind.i64.wrap ((840 : Int).tdiv (((wl r m).map encN).length : Int))) = mLo r m := by
    rw [hN, q1, t1, wrap64 (by omega) (by omega), mLo, ← hL]
  have e2 : IntKind.i64.wrap (sumTo Sn.hi L (wl r m).length * IntKind.i64.wrap ((840 : Int).tdiv (((wl r m).map encN).length : Int))) = mHi r m := by
    rw [hN, q1, t2, wrap64 (by omega) (by omega), mHi, ← hL]
  have eF : some (AV.agg [.int .i64 (IntKind.i64.wrap (sumTo Sn.lo L (wl r m).length * IntKind.i64.wrap ((840 : Int).tdiv (((wl r m).map encN).length : Int)))), .int .i64 (IntKind.i64.wrap (sumTo Sn.hi L (wl r m).length * IntKind.i64.wrap ((840 : Int).tdiv (((wl r m).map encN).length : Int))))]) = some (.agg [.int .i64 (mLo r m), .int .i64 (mHi r m)]) := by rw [e1, e2]
  have hnz : (((wl r m).map encN).length : Int) ≠ 0 := by rw [hN]; omega
  clear e1 e2 t1 t2 p1 p2 q1
  refine APure.vc Try.func55 rfl (.call (.lst 1 ((wl r m).map encN)) .loop) rfl rfl ⟨sW, ?_⟩
  intro g hn hl
  replace hn : g.n = 45 := hn
  replace hl : g.low 0 := hl
  refine acode_while (fun p : Nat => ⟨[(1, .int .i64 m), (2, .vptr 0 0), (4, .vptr 1 0), (5, .lst 1 ((wl r m).map encN)), (6, .int .i64 (sumTo Sn.lo L p)), (7, .int .i64 (sumTo Sn.hi L p)), (8, .int .i64 p)], [(0, .cells (runL r)), (1, .cells [.int .i64 0, .int .i64 0])], 2⟩)
    (fun p => p ≤ (wl r m).length) (fun p => (wl r m).length - p) 0 (Nat.zero_le _) ?_ (fun _ _ => hl.mono (Nat.zero_le _)) ?_
  · exact St.le.of ⟨rfl, rfl, rfl, rfl, rfl, rfl, rfl, rfl, rfl, rfl, rfl, rfl, rfl, rfl, trivial⟩ ⟨rfl, (by decide : (0 : Nat) < 2), rfl, rfl, (by decide : (1 : Nat) < 2), rfl, trivial⟩
  · intro p hp
    by_cases hlt : p < (wl r m).length
    · refine Exists.elim (getE hlt) fun i hi => ?_
      have ha := hat p i hi
      refine Exists.elim ha.1 fun c hc => ?_
      have sT := True_spec hr h1 h2 hc.1 hc.2
      have u1 := sumTo_succ (f := Sn.lo) ha.2
      have u2 := sumTo_succ (f := Sn.hi) ha.2
      have v1 := b1 (p + 1) (by omega)
      have v2 := b2 (p + 1) (by omega)
      have w1 : AV.int .i64 (IntKind.i64.wrap (sumTo Sn.lo L p + tLo r m i)) = .int .i64 (sumTo Sn.lo L (p + 1)) := by
        have : sumTo Sn.lo L p + tLo r m i = sumTo Sn.lo L (p + 1) := u1.symm
        rw [this, wrap64 (by omega) (by omega)]
      have w2 : AV.int .i64 (IntKind.i64.wrap (sumTo Sn.hi L p + tHi r m i)) = .int .i64 (sumTo Sn.hi L (p + 1)) := by
        have : sumTo Sn.hi L p + tHi r m i = sumTo Sn.hi L (p + 1) := u2.symm
        rw [this, wrap64 (by omega) (by omega)]
      exact ACode.vc (.br 16 true <| .draw 8 <| .cells (encN i) <| .call (.agg [.int .i64 (tLo r m i), .int .i64 (tHi r m i)]) .nil) hn hl (.round .cl) ⟨ltLen hlt, by kernel_rfl, mixed, by kernel_rfl, idx hi, sT, by kernel_rfl, p + 1, hlt, mu1 hlt,
        St.le.of ⟨rfl, rfl, rfl, rfl, rfl, rfl, rfl, rfl, Eq.trans (by kernel_rfl) w1, rfl, Eq.trans (by kernel_rfl) w2, rfl, Eq.trans (by kernel_rfl) (congrArg (AV.int .i64) (succ64 (by omega))), rfl, trivial⟩ ⟨rfl, (by decide : (0 : Nat) < 2), rfl, rfl, (by decide : (1 : Nat) < 2), rfl, trivial⟩⟩
    · have hp' : p = (wl r m).length := by omega
      subst hp'
      exact ACode.vc (.br 16 false .nil) hn hl (.round .cl) ⟨geLen hlt, _, .refl _, .draw 10 <| .nz <| .nz .nil, by kernel_rfl, mixed, by kernel_rfl, hnz, hnz, by kernel_rfl, trivial, Eq.trans (by kernel_rfl) eF⟩
/-- What Mean answers. -/
def meanV (r : Rn) (m : Int) : AV :=
  if runB r = true then (if within m 1 r.rows.length = true then (if blindB r m = true then .tup [.agg [.int .i64 0, .int .i64 0], .int .i64 2] else .tup [.agg [.int .i64 (mLo r m), .int .i64 (mHi r m)], .int .i64 0]) else .tup [.agg [.int .i64 0, .int .i64 0], .int .i64 2]) else .tup [.agg [.int .i64 0, .int .i64 0], .int .i64 11]
set_option maxHeartbeats 16000000 in
set_option maxRecDepth 100000 in
theorem Mean_spec (r : Rn) (m : Int) : APure Try.prog 18 [encRn r, .int .i64 m] (meanV r m) := by
  have s1 := isRun_spec r
  have s2 : APure Try.prog 45 [.int .i64 m, .int .i64 1, .int .i64 ((r.rows.map encRw).length : Int)] (.bool (within m 1 r.rows.length)) := by
    rw [List.length_map]; exact within_spec _ _ _
  unfold meanV
  split
  · rename_i hv
    rw [hv] at s1
    split
    · rename_i hw
      have hw' := within_iff.1 hw
      obtain ⟨k, hk⟩ : ∃ k : Nat, m = (k : Int) := ⟨m.toNat, by omega⟩
      subst hk
      split
      · rename_i hb; exact Mean_blind hv (by omega) (by omega) hb
      · rename_i hb; exact Mean_ok hv (by omega) (by omega) (by simpa using hb)
    · rename_i hw
      have hw' : within m 1 r.rows.length = false := by simpa using hw
      rw [hw'] at s2
      exact APure.vc Try.func18 rfl (.call (.bool true) <| .call (.bool false) .nil) rfl rfl ⟨s1, s2, trivial, by kernel_rfl⟩
  · rename_i hv
    have hv' : runB r = false := by simpa using hv
    rw [hv'] at s1
    exact APure.vc Try.func18 rfl (.call (.bool false) .nil) rfl rfl ⟨s1, trivial, by kernel_rfl⟩
set_option maxHeartbeats 16000000 in
set_option maxRecDepth 100000 in
theorem rMean_spec (r : Rn) (m : Int) : APure Try.prog 19 [encRn r, .int .i64 m] (meanV r m) := by
  have s1 := rRun_spec r
  have s2 : APure Try.prog 48 [.int .i64 m, .int .i64 1, .int .i64 ((r.rows.map encRw).length : Int)] (.bool (within m 1 r.rows.length)) := by
    rw [List.length_map]; exact rwithin_spec _ _ _
  unfold meanV
  split
  · rename_i hv
    rw [hv] at s1
    have hr := runB_out hv
    split
    · rename_i hw
      rw [hw] at s2
      have hw' := within_iff.1 hw
      have s3 := Working_spec hr m
      split
      · rename_i hb
        have hl0 : wl r m = [] := by
          unfold blindB at hb
          rw [wl_len] at hb
          cases hl : wl r m with
          | nil => rfl
          | cons a l => rw [hl] at hb; simp at hb; omega
        rw [hl0] at s3
        exact APure.vc Try.func19 rfl (.call (.bool true) <| .call (.bool true) <| .call .nil <| .br 22 true .nil) rfl rfl ⟨s1, s2, s3, rfl, trivial, by kernel_rfl⟩
      · rename_i hb
        have hb' : blindB r m = false := by simpa using hb
        have hl := blind_len hb'
        rw [wlV_lst hl] at s3
        have hne : ((((wl r m).map encN).length : Int) == 0) = false := by rw [List.length_map, beq_eq_false_iff_ne]; omega
        have s4 := rmean_spec hr hw'.1 hw'.2 hl
        exact APure.vc Try.func19 rfl (.call (.bool true) <| .call (.bool true) <| .call (.lst 1 ((wl r m).map encN)) <| .br 22 false <| .call (.agg [.int .i64 (mLo r m), .int .i64 (mHi r m)]) .nil) rfl rfl ⟨s1, s2, s3, hne, s4, trivial, by kernel_rfl⟩
    · rename_i hw
      have hw' : within m 1 r.rows.length = false := by simpa using hw
      rw [hw'] at s2
      exact APure.vc Try.func19 rfl (.call (.bool true) <| .call (.bool false) .nil) rfl rfl ⟨s1, s2, trivial, by kernel_rfl⟩
  · rename_i hv
    have hv' : runB r = false := by simpa using hv
    rw [hv'] at s1
    exact APure.vc Try.func19 rfl (.call (.bool false) .nil) rfl rfl ⟨s1, trivial, by kernel_rfl⟩
end Go.Proofs.Yticiopkiikcokaa
