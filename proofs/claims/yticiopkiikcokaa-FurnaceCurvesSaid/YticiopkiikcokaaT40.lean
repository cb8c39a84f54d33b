import Derived.Test.YticiopkiikcokaaT40b
import Derived.Test.YticiopkiikcokaaT24
namespace Go.Proofs.Yticiopkiikcokaa
open Go Go.Am
theorem boolC (b : Bool) : b = false ∨ b = true := by cases b <;> simp
set_option maxHeartbeats 16000000 in
set_option maxRecDepth 100000 in
theorem atWork_spec {r : Rn} (hr : RunOk r) : APure Try.prog 51 [encRn r] (.agg (workL r (mfK r r.rows.length) (cfK r r.rows.length))) := by
  have hrl := hr.rl
  have hcl := hr.cl
  obtain ⟨hclen, _, _, _⟩ := curveB_out hr.curve
  obtain ⟨p, hp⟩ := getE (show r.curve.length - 1 < r.curve.length by omega)
  have hlast := hr.last
  rw [lastM_some hp] at hlast
  obtain ⟨W, hW⟩ : ∃ W : Nat → List AV, ∀ k, W k = workL r (mfK r k) (cfK r k) := ⟨fun k => workL r (mfK r k) (cfK r k), fun k => rfl⟩
  obtain ⟨V, hV⟩ : ∃ V : Nat → List AV, ∀ k, V k = workL r (mfK r (k + 1)) (cfK r k) := ⟨fun k => workL r (mfK r (k + 1)) (cfK r k), fun k => rfl⟩
  have hok : ∀ n k, okL n (W k) = true := fun n k => by rw [hW]; exact workL_ok _ _ _ _
  have hlen : ∀ k, (W k).length = 250 := fun k => by rw [hW]; exact workL_len _ _ _
  have hW0 : some (AObj.cells (workL r zf zf)) = some (.cells (W 0)) := by rw [hW, (fK_zero r).1, (fK_zero r).2]
  rw [← hW r.rows.length]
  refine APure.vc Try.func51 rfl (.val 2 (.vptr 1 0) [(1, some (.cells Z101))] <| .val 7 (.agg (workL r zf zf)) [] <| .val 3 (.vptr 2 0) [(2, some (.cells Z101))] <| .val 1 .undef [(2, some (.cells (workL r zf zf)))] <| .inl Try.f73 <| .inl Try.f88 <| .loop) rfl (hok 0 _)
    ⟨by kernel_rfl, by kernel_rfl, by kernel_rfl, by kernel_rfl, Try.func73, Try.func88, ?_⟩
  intro g hn hl
  replace hn : g.n = 19 := hn
  replace hl : g.low 6 := hl
  refine acode_whileW (fun k : Nat => ⟨[(0, .yld 5), (1, .vptr 4 0), (9, .int .i64 (r.rows.map encRw).length), (10, .int .i64 k)],
      [(0, .cells (runL r)), (1, .cells Z101), (2, .cells (W k)), (4, .cells [.vptr 2 0]), (5, .loop ⟨.ready, none, 30, [(1, .vptr 0 0), (3, .vptr 2 0)], #[9], asg51, bod51⟩)], 6⟩)
    (fun k => k ≤ r.rows.length) (fun k => r.rows.length - k) 0 (Nat.zero_le _) ?_ ?_
  · refine Wk.trans (Wk.le ?_ hl) (Wk.loopEnv (id := 5) (n := 6) [(1, .vptr 0 0), (3, .vptr 2 0)] rfl ⟨rfl, rfl, rfl, rfl, trivial⟩)
    exact St.le.of ⟨by kernel_rfl, rfl, by kernel_rfl, rfl, by kernel_rfl, rfl, by kernel_rfl, rfl, trivial⟩ ⟨by kernel_rfl, (by decide : (0 : Nat) < 6), rfl, by kernel_rfl, (by decide : (1 : Nat) < 6), by kernel_rfl, Eq.trans (by kernel_rfl) hW0, (by decide : (2 : Nat) < 6), hok _ _, by kernel_rfl, (by decide : (4 : Nat) < 6), rfl, by kernel_rfl, (by decide : (5 : Nat) < 6), rfl, trivial⟩
  · intro k hk
    by_cases hlt : k < r.rows.length
    · have e1 : IntKind.i64.wrap ((k : Int) + 1) = ((k + 1 : Nat) : Int) := succ64 (by omega)
      have sB : APure Try.prog 52 [.cptr (W k), .int .i64 (IntKind.i64.wrap ((k : Int) + 1))] (.bool (blindB r ((k + 1 : Nat) : Int))) := by
        rw [e1, hW]; unfold workL; exact blind_spec r _ _ (by omega)
      have th : thawL (hget [(0, .cells (runL r)), (1, .cells Z101), (2, .cells (W k)), (4, .cells [.vptr 2 0]), (5, .loop ⟨.busy, none, 30, [(1, .vptr 0 0), (3, .vptr 2 0)], #[9], asg51, bod51⟩)]) [.vptr 2 0, .int .i64 (IntKind.i64.wrap ((k : Int) + 1))] = some ([.cptr (W k), .int .i64 (IntKind.i64.wrap ((k : Int) + 1))], [2]) := thaw_W rfl (hok _ _)
      refine Or.elim (boolC (blindB r ((k + 1 : Nat) : Int))) (fun hb => ?_) (fun hb => ?_)
      · rw [hb] at sB
        have f1 := (fK_sees hb).1
        have f2 := (fK_sees hb).2
        have sD : APure Try.prog 47 [.lst 2 (r.curve.map encPt), .int .i64 (IntKind.i64.wrap ((k : Int) + 1))] (.int .i64 (deg r.curve ((k + 1 : Nat) : Int))) := by
          rw [e1]; exact degreeAt_spec hr.curve (by omega) (by omega)
        have sM : APure Try.prog 74 [.cptr (W k), .int .i64 (IntKind.i64.wrap ((k : Int) + 1))] (.agg [.int .i64 (mLo r ((k + 1 : Nat) : Int)), .int .i64 (mHi r ((k + 1 : Nat) : Int))]) := by
          rw [e1, hW]; unfold workL; exact mean_spec hr _ (by omega) (by omega) (blind_len hb)
        have hd := deg_rng hr.curve hp (m := ((k + 1 : Nat) : Int)) (by omega) (by omega)
        have e2 : IntKind.i64.wrap (840 * deg r.curve ((k + 1 : Nat) : Int)) = 840 * deg r.curve ((k + 1 : Nat) : Int) := wrap64 (by omega) (by omega)
        have w1 : splice (W k) (6 + (k + 1) * 2) [.int .i64 (mLo r ((k + 1 : Nat) : Int)), .int .i64 (mHi r ((k + 1 : Nat) : Int))] = V k := by
          rw [hV, hW, f1]; exact splice_m r _ _ (k + 1) ⟨mLo r ((k + 1 : Nat) : Int), mHi r ((k + 1 : Nat) : Int)⟩ (by omega)
        have w2 : splice (V k) (128 + (k + 1) * 2) [.int .i64 (IntKind.i64.wrap (840 * deg r.curve ((k + 1 : Nat) : Int))), .int .i64 (IntKind.i64.wrap (840 * deg r.curve ((k + 1 : Nat) : Int)))] = W (k + 1) := by
          rw [hV, hW, f2, e2]; exact splice_c r _ _ (k + 1) ⟨840 * deg r.curve ((k + 1 : Nat) : Int), 840 * deg r.curve ((k + 1 : Nat) : Int)⟩ (by omega)
        have hVl : (V k).length = 250 := by rw [hV]; exact workL_len _ _ _
        have ix : ∀ off : Nat, (aindexAddr Try.prog (hget []) 99 (.vptr 2 off) (.int .i64 (IntKind.i64.wrap ((k : Int) + 1)))).map (fun v => (⟨v, []⟩ : Out)) = some ⟨.vptr 2 (off + (k + 1) * 2), []⟩ := fun off => by
          rw [arrIx e1 (by omega)]; rfl
        have st1 : aStore Try.prog (hget [(2, .cells (W k))]) 26 (.vptr 2 (6 + (k + 1) * 2)) (.agg [.int .i64 (mLo r ((k + 1 : Nat) : Int)), .int .i64 (mHi r ((k + 1 : Nat) : Int))]) = some ⟨.undef, [(2, some (.cells (V k)))]⟩ := by
          rw [← w1]; exact arrSt (s := ⟨mLo r ((k + 1 : Nat) : Int), mHi r ((k + 1 : Nat) : Int)⟩) rfl (by rw [hlen]; omega)
        have st2 : aStore Try.prog (hget [(2, .cells (V k))]) 26 (.vptr 2 (128 + (k + 1) * 2)) (.agg [.int .i64 (IntKind.i64.wrap (840 * deg r.curve ((k + 1 : Nat) : Int))), .int .i64 (IntKind.i64.wrap (840 * deg r.curve ((k + 1 : Nat) : Int)))]) = some ⟨.undef, [(2, some (.cells (W (k + 1))))]⟩ := by
          rw [← w2]; exact arrSt (s := ⟨IntKind.i64.wrap (840 * deg r.curve ((k + 1 : Nat) : Int)), IntKind.i64.wrap (840 * deg r.curve ((k + 1 : Nat) : Int))⟩) rfl (by rw [hVl]; omega)
        exact ACode.vc (.br 11 true <| .lent (.bool false) [2] <| .call (.int .i64 (deg r.curve ((k + 1 : Nat) : Int))) <| .lent (.agg [.int .i64 (mLo r ((k + 1 : Nat) : Int)), .int .i64 (mHi r ((k + 1 : Nat) : Int))]) [2] <| .val 22 (.vptr 2 (6 + (k + 1) * 2)) [] <|
            .val 1 .undef [(2, some (.cells (V k)))] <| .val 28 (.vptr 2 (128 + (k + 1) * 2)) [] <| .val 1 .undef [(2, some (.cells (W (k + 1))))] .nil) hn hl (.roundW .cl)
          ⟨ltLen hlt, ⟨[.cptr (W k), .int .i64 (IntKind.i64.wrap ((k : Int) + 1))], Eq.trans (by kernel_rfl) th, .inl ⟨sB, .inr rfl⟩⟩, sD,
            ⟨[.cptr (W k), .int .i64 (IntKind.i64.wrap ((k : Int) + 1))], Eq.trans (by kernel_rfl) th, .inl ⟨sM, .inr rfl⟩⟩,
            Eq.trans (by kernel_rfl) (ix 6), Eq.trans (by kernel_rfl) st1, Eq.trans (by kernel_rfl) (ix 128), Eq.trans (by kernel_rfl) st2, k + 1, hlt, mu1 hlt,
            Wk.le (St.le.of ⟨by kernel_rfl, rfl, by kernel_rfl, rfl, by kernel_rfl, rfl, Eq.trans (by kernel_rfl) (congrArg (AV.int .i64) e1), rfl, trivial⟩ ⟨by kernel_rfl, (by decide : (0 : Nat) < 6), rfl, by kernel_rfl, (by decide : (1 : Nat) < 6), by kernel_rfl, by kernel_rfl, (by decide : (2 : Nat) < 6), hok _ _, by kernel_rfl, (by decide : (4 : Nat) < 6), rfl, by kernel_rfl, (by decide : (5 : Nat) < 6), rfl, trivial⟩) hl⟩
      · rw [hb] at sB
        have f1 := (fK_blind hb).1
        have f2 := (fK_blind hb).2
        have eW : some (AObj.cells (W k)) = some (.cells (W (k + 1))) := by rw [hW, hW, f1, f2]
        exact ACode.vc (.br 11 true <| .lent (.bool true) [2] .nil) hn hl (.roundW .cl)
          ⟨ltLen hlt, ⟨[.cptr (W k), .int .i64 (IntKind.i64.wrap ((k : Int) + 1))], Eq.trans (by kernel_rfl) th, .inl ⟨sB, .inr rfl⟩⟩, k + 1, hlt, mu1 hlt,
            Wk.le (St.le.of ⟨by kernel_rfl, rfl, by kernel_rfl, rfl, by kernel_rfl, rfl, Eq.trans (by kernel_rfl) (congrArg (AV.int .i64) e1), rfl, trivial⟩ ⟨by kernel_rfl, (by decide : (0 : Nat) < 6), rfl, by kernel_rfl, (by decide : (1 : Nat) < 6), by kernel_rfl, Eq.trans (by kernel_rfl) eW, (by decide : (2 : Nat) < 6), hok _ _, by kernel_rfl, (by decide : (4 : Nat) < 6), rfl, by kernel_rfl, (by decide : (5 : Nat) < 6), rfl, trivial⟩) hl⟩
    · have hk' : k = r.rows.length := by omega
      subst hk'
      have ld : (aLoad Try.prog (hget [(2, .cells (W r.rows.length))]) 101 (.vptr 2 0)) = some ⟨.agg (W r.rows.length), []⟩ := ldW rfl (hlen _)
      have stW : aStore Try.prog (hget [(1, .cells Z101)]) 101 (.vptr 1 0) (.agg (W r.rows.length)) = some ⟨.undef, [(1, some (.cells (W r.rows.length)))]⟩ := stW1 (hlen _) (by rw [hW]; exact workL_cellB _ _ _)
      exact ACode.vc (.br 11 false .nil) hn hl (.roundW .cl) ⟨geLen hlt, _, .refl _, .val 29 (.agg (W r.rows.length)) [] <| .val 1 .undef [(1, some (.cells (W r.rows.length)))] .nil,
        Eq.trans (by kernel_rfl) ld, Eq.trans (by kernel_rfl) stW, trivial, Eq.trans (by kernel_rfl) (aresW (S := ⟨[(2, .vptr 1 0)], [(1, .cells (W r.rows.length))], 0⟩) rfl rfl (hlen _))⟩
end Go.Proofs.Yticiopkiikcokaa
