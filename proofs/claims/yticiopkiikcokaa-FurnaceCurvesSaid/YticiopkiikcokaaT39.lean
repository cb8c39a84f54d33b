import Derived.Test.YticiopkiikcokaaT39a
namespace Go.Proofs.Yticiopkiikcokaa
open Go Go.Am
set_option maxHeartbeats 16000000 in
set_option maxRecDepth 100000 in
theorem mean_spec {r : Rn} (hr : RunOk r) (rest : List AV) {m : Int} (h1 : 1 ≤ m) (h2 : m ≤ r.rows.length) (hb : 1 ≤ (wl r m).length) : APure Try.prog 74 [.cptr (runL r ++ rest), .int .i64 m] (.agg [.int .i64 (mLo r m), .int .i64 (mHi r m)]) := by
  have hcl := hr.cl
  refine APure.vc Try.func74 rfl (.call (.imap (wkL (wl r m))) .loop) rfl rfl ⟨(working_spec r rest m (by omega)).pure, ?_⟩
  intro g hn hl
  refine acode_whileW (fun i : Nat × List Sn => meanSt r rest m i.1 i.2) (fun i => i.1 ≤ r.cps.length ∧ i.2 = xsK r m i.1) (fun i => r.cps.length - i.1) (0, []) ⟨Nat.zero_le _, rfl⟩ (Wk.le ?_ (hl.mono (Nat.zero_le _))) ?_
  · exact St.le.of ⟨rfl, rfl, rfl, rfl, rfl, rfl, rfl, rfl, rfl, rfl, rfl, rfl, rfl, rfl, trivial⟩ ⟨rfl, Nat.zero_lt_one, rfl, trivial⟩
  · rintro ⟨k, xs⟩ ⟨hk, hxs⟩
    simp only at hk hxs
    have hlen : xs.length ≤ k := hxs ▸ xsK_len r m k
    by_cases hlt : k < r.cps.length
    · obtain ⟨c, hc⟩ := getE hlt
      have hmem := mem_wl (r := r) (m := m) hlt
      have hlook := look_wk (h := hget []) (wl r m) k
      rw [hmem] at hlook
      have hnext := xsK_succ r m k
      cases hw : wkAt r m k
      · rw [hw] at hlook
        rw [hw, ← hxs] at hnext
        simp only [Bool.false_eq_true, if_false] at hnext
        rcases xs with _ | ⟨s, t⟩
        · exact ACode.vc (.br 20 true <| .val 24 (.bool false) [] .nil) hn hl (.roundW .cl) ⟨ltLen hlt, congrArg (Option.map fun v => (⟨v, []⟩ : Out)) hlook, (k + 1, []), ⟨hlt, hnext.symm⟩, mu1 hlt, Wk.le (St.le.of ⟨rfl, rfl, rfl, rfl, rfl, rfl, rfl, rfl, rfl, rfl, rfl, rfl, congrArg _ (succ64 (by omega)), rfl, trivial⟩ ⟨rfl, Nat.zero_lt_one, rfl, trivial⟩) (hl.mono (Nat.zero_le _))⟩
        · exact ACode.vc (.br 20 true <| .val 24 (.bool false) [] .nil) hn hl (.roundW .cl) ⟨ltLen hlt, congrArg (Option.map fun v => (⟨v, []⟩ : Out)) hlook, (k + 1, s :: t), ⟨hlt, hnext.symm⟩, mu1 hlt, Wk.le (St.le.of ⟨rfl, rfl, rfl, rfl, rfl, rfl, rfl, rfl, rfl, rfl, rfl, rfl, congrArg _ (succ64 (by omega)), rfl, trivial⟩ ⟨rfl, (by decide : (0 : Nat) < 2), rfl, rfl, (by decide : (1 : Nat) < 2), flS_ok _ _, trivial⟩) (hl.mono (Nat.zero_le _))⟩
      · rw [hw] at hlook
        rw [hw, ← hxs] at hnext
        simp only [if_true] at hnext
        have sT := temperature_spec hr rest h1 h2 hc (by rw [← wkAt_some hc, hw])
        rcases xs with _ | ⟨s, t⟩
        · exact ACode.vc (.br 20 true <| .val 24 (.bool true) [] <| .call (.agg [.int .i64 (tLo r m k), .int .i64 (tHi r m k)]) .nil) hn hl (.roundW .cl)
            ⟨ltLen hlt, congrArg (Option.map fun v => (⟨v, []⟩ : Out)) hlook, sT, (k + 1, [spanAt r m k]), ⟨hlt, hnext.symm⟩, mu1 hlt,
              Wk.ren (c := 1) (b := 2) (St.ren.of rfl (by decide) ⟨.inl ⟨rfl, rfl⟩, .inl ⟨rfl, rfl⟩, .inl ⟨rfl, rfl⟩, .inl ⟨rfl, rfl⟩, .inr ⟨0, 1, 2, rfl, rfl⟩, .inl ⟨rfl, rfl⟩, .inl ⟨congrArg _ (succ64 (by omega)), rfl⟩, trivial⟩ ⟨.inl ⟨(by decide : (0 : Nat) < 1), rfl, rfl⟩, .inr ⟨rfl, rfl, _, rfl, flS_ok 1 [spanAt r m k]⟩, trivial⟩) (hl.mono (Nat.zero_le _))⟩
        · refine ACode.vc (.br 20 true <| .val 24 (.bool true) [] <| .call (.agg [.int .i64 (tLo r m k), .int .i64 (tHi r m k)]) <| .val 31 (.rsl 3 0 ((s :: t).length + 1) 2) [(1, none), (3, some (.cells (flS (s :: t) ++ [.int .i64 (spanAt r m k).lo, .int .i64 (spanAt r m k).hi])))] .nil) hn hl (.roundW .cl)
            ⟨ltLen hlt, congrArg (Option.map fun v => (⟨v, []⟩ : Out)) hlook, sT, Eq.trans (by kernel_rfl) (app_S (h := hget [(0, .cells [.int .i64 0, .int .i64 0]), (1, .cells (flS (s :: t))), (2, .cells [.int .i64 (spanAt r m k).lo, .int .i64 (spanAt r m k).hi])]) (i := 1) (j := 2) (id := 3) (xs := s :: t) (s := spanAt r m k) rfl rfl (by omega)),
              (k + 1, s :: (t ++ [spanAt r m k])), ⟨hlt, hnext.symm⟩, mu1 hlt,
              Wk.ren (c := 1) (b := 3) (St.ren.of rfl (by decide) ⟨.inl ⟨rfl, rfl⟩, .inl ⟨rfl, rfl⟩, .inl ⟨rfl, rfl⟩, .inl ⟨rfl, rfl⟩, .inr ⟨0, (s :: t).length + 1, 2, ?_, rfl⟩, .inl ⟨rfl, rfl⟩, .inl ⟨congrArg _ (succ64 (by omega)), rfl⟩, trivial⟩ ⟨.inl ⟨(by decide : (0 : Nat) < 1), rfl, rfl⟩, .inr ⟨rfl, ?_, _, rfl, flS_ok 1 _⟩, trivial⟩) (hl.mono (Nat.zero_le _))⟩
          · simp
          · exact congrArg (fun z => some (AObj.cells z)) (flS_append (s :: t) (spanAt r m k))
    · have hk' : k = r.cps.length := by omega
      subst hk'
      rw [xsK_end] at hxs
      rcases xs with _ | ⟨s, t⟩
      · have := congrArg List.length hxs
        simp at this; omega
      · have hn2 : (s :: t).length = (wl r m).length := by rw [hxs, List.length_map]
        have hrng := xs_rng hr h1 h2
        rw [← hxs] at hrng
        obtain ⟨A, hA⟩ : ∃ A, A = ((s :: t).map Sn.lo).sum := ⟨_, rfl⟩
        obtain ⟨B, hB⟩ : ∃ B, B = ((s :: t).map Sn.hi).sum := ⟨_, rfl⟩
        obtain ⟨xs, hxe⟩ : ∃ xs, xs = s :: t := ⟨_, rfl⟩
        have sS := sum_spec (s :: t) (by omega) fun s hs => by have := hrng s hs; omega
        have r1 := sum_rng Sn.lo fun s hs => (hrng s hs).1
        have r2 := sum_rng Sn.hi fun s hs => (hrng s hs).2
        rw [← hA, ← hB] at sS
        rw [← hA] at r1
        rw [← hB] at r2
        have hq := tdiv840 (n := ((s :: t).length : Int)) (by omega)
        have eq1 : IntKind.i64.wrap ((840 : Int).tdiv ((s :: t).length : Int)) = (840 : Int).tdiv ((s :: t).length : Int) := wrap64 (by omega) (by omega)
        have p1 := mul_rng (a := A) (by omega) (by omega) hq.1 hq.2
        have p2 := mul_rng (a := B) (by omega) (by omega) hq.1 hq.2
        have e1 : IntKind.i64.wrap (A * IntKind.i64.wrap ((840 : Int).tdiv ((s :: t).length : Int))) = mLo r m := by
          rw [eq1, wrap64 (by omega) (by omega), mLo, ← hxs, hn2, hA]
        have e2 : IntKind.i64.wrap (B * IntKind.i64.wrap ((840 : Int).tdiv ((s :: t).length : Int))) = mHi r m := by
          rw [eq1, wrap64 (by omega) (by omega), mHi, ← hxs, hn2, hB]
        have eF : some (AV.agg [.int .i64 (IntKind.i64.wrap (A * IntKind.i64.wrap ((840 : Int).tdiv ((s :: t).length : Int)))), .int .i64 (IntKind.i64.wrap (B * IntKind.i64.wrap ((840 : Int).tdiv ((s :: t).length : Int))))]) = some (.agg [.int .i64 (mLo r m), .int .i64 (mHi r m)]) := by rw [e1, e2]
        refine ACode.vc (.br 20 false .nil) hn hl (.roundW .cl) ⟨geLen hlt, _, .refl _, .draw 7 <| .lent (.agg [.int .i64 A, .int .i64 B]) [1] <| .nz .nil,
          by kernel_rfl, mixed, by kernel_rfl, ⟨[.lst 2 ((s :: t).map encS)], Eq.trans (by kernel_rfl) (thaw_S (h := hget [(0, .cells [.int .i64 0, .int .i64 0]), (1, .cells (flS (s :: t)))]) rfl), .inl ⟨sS, .inr rfl⟩⟩, (by omega : ((s :: t).length : Int) ≠ 0), by kernel_rfl, trivial, Eq.trans (by kernel_rfl) eF⟩
end Go.Proofs.Yticiopkiikcokaa
