import Derived.Test.YticiopkiikcokaaT44
namespace Go.Proofs.Yticiopkiikcokaa
open Go Go.Am
theorem works_wks' {c : Cp} (h : 0 ≤ c.brk) (m : Int) : worksB c m = wks c m := by
  unfold worksB wks
  by_cases e : c.brk = 0
  · simp [e]
  · have h1 : (c.brk == 0) = false := beq_eq_false_iff_ne.2 e
    have h2 : decide (c.brk > 0) = true := decide_eq_true (by omega)
    rw [h1, h2, Bool.false_or, Bool.true_and]
    by_cases h3 : m < c.brk
    · have : ¬ m ≥ c.brk := by omega
      simp [h3, this]
    · have : m ≥ c.brk := by omega
      simp [h3, this]
def m7St (r : Rn) (M e a b : Int) (j : Nat) : St :=
  ⟨[(2, .vptr 0 0), (5, .bool true), (6, .int .i64 M), (7, .vptr 1 0), (8, .int .i64 e), (9, .int .i64 (loK r M j)), (10, .int .i64 (hiK r M j)), (11, .int .i64 ((xsK r M j).length : Int)), (37, .lst 6 (r.cps.map encCp)), (38, .int .i64 (r.cps.map encCp).length), (39, .int .i64 j)],
    [(0, .cells (runL r)), (1, .cells [.int .i64 a, .int .i64 b])], 2⟩
theorem blind_xs (r : Rn) (m : Int) : (((xsK r m r.cps.length).length : Int) == 0) = blindB r m := by
  unfold blindB
  rw [xsK_end, List.length_map, wl_len]
set_option maxHeartbeats 16000000 in
set_option maxRecDepth 100000 in
theorem law7 (r : Rn) (w : Int) (w0 : 0 ≤ w) (w1 : w ≤ 255) : APure Try.prog 7 [encRn r, .int .u8 w] (.bool true) := by
  have sR := ready1 r
  by_cases hrd : readyB r U1 = true
  · rw [hrd] at sR
    have hv := ready1_out hrd
    have hr := runB_out hv
    have hrl := hr.rl
    have hcl := hr.cl
    obtain ⟨K, hK0⟩ : ∃ K : Nat, (K : Int) = 1 + w.tmod (r.rows.length : Int) := ⟨(1 + w.tmod (r.rows.length : Int)).toNat, by
      rw [Int.tmod_eq_emod_of_nonneg w0]; have := Int.emod_nonneg w (show (r.rows.length : Int) ≠ 0 by omega); omega⟩
    have hrem : 0 ≤ w.tmod (r.rows.length : Int) ∧ w.tmod (r.rows.length : Int) < r.rows.length := by
      rw [Int.tmod_eq_emod_of_nonneg w0]
      exact ⟨Int.emod_nonneg w (by omega), Int.emod_lt_of_pos w (by omega)⟩
    have k1 : (1 : Int) ≤ (K : Int) := by omega
    have k2 : (K : Int) ≤ r.rows.length := by omega
    have ew : IntKind.i64.wrap w = w := wrap64 (by omega) (by omega)
    have eM : IntKind.i64.wrap (1 + (IntKind.i64.wrap w).tmod ((r.rows.map encRw).length : Int)) = (K : Int) := by
      rw [ew, List.length_map, hK0, wrap64 (by omega) (by omega)]
    have hnz : ((r.rows.map encRw).length : Int) ≠ 0 := by rw [List.length_map]; omega
    have hK := K_rng hr k1 k2
    have hxl := xsK_len r (K : Int) r.cps.length
    clear hK0 hrem
    cases hb : blindB r (K : Int)
    · have sM : APure Try.prog 18 [.agg (runL r), .int .i64 (IntKind.i64.wrap (1 + (IntKind.i64.wrap w).tmod ((r.rows.map encRw).length : Int)))] (.tup [.agg [.int .i64 (mLo r K), .int .i64 (mHi r K)], .int .i64 0]) := by
        rw [eM]; exact Mean_ok hv (by omega) (by omega) hb
      have hbl : (((xsK r K r.cps.length).length : Int) == 0) = false := by rw [blind_xs, hb]
      have hne : ((xsK r K r.cps.length).length : Int) ≠ 0 := by simpa using hbl
      have hlo := hK r.cps.length (Nat.le_refl _)
      have hwl : ((wl r (K : Int)).length : Int) = ((xsK r K r.cps.length).length : Int) := by rw [xsK_end, List.length_map]
      have d1 := div840 (n := ((xsK r K r.cps.length).length : Int)) (by omega) (by omega)
      have ml : mLo r K * ((xsK r K r.cps.length).length : Int) = loK r K r.cps.length * 840 := by
        unfold mLo; rw [hwl, Int.mul_assoc, d1]; rfl
      have mh : mHi r K * ((xsK r K r.cps.length).length : Int) = hiK r K r.cps.length * 840 := by
        unfold mHi; rw [hwl, Int.mul_assoc, d1]; rfl
      have eqL : (IntKind.i64.wrap (mLo r K * ((xsK r K r.cps.length).length : Int)) == IntKind.i64.wrap (loK r K r.cps.length * 840)) = true := by rw [ml]; exact beq_self_eq_true _
      have eqH : (IntKind.i64.wrap (mHi r K * ((xsK r K r.cps.length).length : Int)) == IntKind.i64.wrap (hiK r K r.cps.length * 840)) = true := by rw [mh]; exact beq_self_eq_true _
      refine APure.vc Try.func7 rfl (.call (.bool true) <| .call (.bool true) <| .nz <| .call (.tup [.agg [.int .i64 (mLo r K), .int .i64 (mHi r K)], .int .i64 0]) .loop) rfl rfl ⟨alive_spec, sR, hnz, sM, ?_⟩
      intro g hn hl
      replace hn : g.n = 97 := hn
      replace hl : g.low 0 := hl
      refine acode_while (fun j : Nat => m7St r (K : Int) 0 (mLo r K) (mHi r K) j) (fun j => j ≤ r.cps.length) (fun j => r.cps.length - j) 0 (Nat.zero_le _) ?_ (fun _ _ => hl.mono (Nat.zero_le _)) ?_
      · exact St.le.of ⟨rfl, rfl, rfl, rfl, Eq.trans (by kernel_rfl) (congrArg (AV.int .i64) eM), rfl, rfl, rfl, rfl, rfl, rfl, rfl, rfl, rfl, rfl, rfl, rfl, rfl, rfl, rfl, rfl, rfl, trivial⟩ ⟨rfl, (by decide : (0 : Nat) < 2), rfl, rfl, (by decide : (1 : Nat) < 2), rfl, trivial⟩
      · intro j hj
        by_cases hlt : j < r.cps.length
        · refine Exists.elim (getE hlt) fun c hc => ?_
          have hcp := hr.cp j c hc
          have sW := works_spec c (K : Int)
          rw [works_wks' hcp.2.2.2.1, ← wkAt_some (r := r) (m := (K : Int)) hc] at sW
          have kj := hK j hj
          have kj1 := hK (j + 1) hlt
          have e1 : IntKind.i64.wrap ((j : Int) + 1) = ((j + 1 : Nat) : Int) := succ64 (by omega)
          refine Or.elim (boolC (wkAt r (K : Int) j)) (fun hw => ?_) (fun hw => ?_)
          · rw [hw] at sW
            have kn := K_no hw
            have q1 := congrArg (AV.int .i64) kn.1.symm
            have q2 := congrArg (AV.int .i64) kn.2.1.symm
            have q3 := congrArg (fun z : Nat => AV.int .i64 (z : Int)) kn.2.2.symm
            exact ACode.vc (.br 40 true <| .cells (encCp c) <| .call (.bool false) .nil) hn hl (.round .cl) ⟨ltLen hlt, idx hc, sW, j + 1, hlt, mu1 hlt,
              St.le.of ⟨rfl, rfl, rfl, rfl, rfl, rfl, rfl, rfl, rfl, rfl, Eq.trans (by kernel_rfl) q1, rfl, Eq.trans (by kernel_rfl) q2, rfl, Eq.trans (by kernel_rfl) q3, rfl, rfl, rfl, rfl, rfl, Eq.trans (by kernel_rfl) (congrArg (AV.int .i64) e1), rfl, trivial⟩ ⟨rfl, (by decide : (0 : Nat) < 2), rfl, rfl, (by decide : (1 : Nat) < 2), rfl, trivial⟩⟩
          · rw [hw] at sW
            have kn := K_yes hw
            have sS := shown_spec hr k1 k2 hc (by rw [← wkAt_some hc]; exact hw)
            have hxl := xsK_len r (K : Int) (j + 1)
            have q1 : AV.int .i64 (IntKind.i64.wrap (loK r K j + tLo r K j)) = .int .i64 (loK r K (j + 1)) := by rw [kn.1, wrap64 (by omega) (by omega)]
            have q2 : AV.int .i64 (IntKind.i64.wrap (hiK r K j + tHi r K j)) = .int .i64 (hiK r K (j + 1)) := by rw [kn.2.1, wrap64 (by omega) (by omega)]
            have q3 : AV.int .i64 (IntKind.i64.wrap (((xsK r K j).length : Int) + 1)) = .int .i64 ((xsK r K (j + 1)).length : Int) := by rw [wrap64 (by omega) (by omega)]; congr 1; omega
            exact ACode.vc (.br 40 true <| .cells (encCp c) <| .call (.bool true) <| .call (.agg [.int .i64 (tLo r K j), .int .i64 (tHi r K j)]) <| .draw 12 .nil) hn hl (.round .cl) ⟨ltLen hlt, idx hc, sW, sS, by kernel_rfl, mixed, by kernel_rfl, by kernel_rfl, j + 1, hlt, mu1 hlt,
              St.le.of ⟨rfl, rfl, rfl, rfl, rfl, rfl, rfl, rfl, rfl, rfl, Eq.trans (by kernel_rfl) q1, rfl, Eq.trans (by kernel_rfl) q2, rfl, Eq.trans (by kernel_rfl) q3, rfl, rfl, rfl, rfl, rfl, Eq.trans (by kernel_rfl) (congrArg (AV.int .i64) e1), rfl, trivial⟩ ⟨rfl, (by decide : (0 : Nat) < 2), rfl, rfl, (by decide : (1 : Nat) < 2), rfl, trivial⟩⟩
        · have hj' : j = r.cps.length := by omega
          subst hj'
          have h63 : (((xsK r K r.cps.length).length : Int) == 0) = false := hbl
          exact ACode.vc (.br 40 false .nil) hn hl (.round .cl) ⟨geLen hlt, _, .refl _, .br 63 false <| .br 79 true <| .br 88 true .nil, h63, rfl, eqL, rB eqH⟩
    · have sM : APure Try.prog 18 [.agg (runL r), .int .i64 (IntKind.i64.wrap (1 + (IntKind.i64.wrap w).tmod ((r.rows.map encRw).length : Int)))] (.tup [.agg [.int .i64 0, .int .i64 0], .int .i64 2]) := by
        rw [eM]; exact Mean_blind hv (by omega) (by omega) hb
      have hbl : (((xsK r K r.cps.length).length : Int) == 0) = true := by rw [blind_xs, hb]
      refine APure.vc Try.func7 rfl (.call (.bool true) <| .call (.bool true) <| .nz <| .call (.tup [.agg [.int .i64 0, .int .i64 0], .int .i64 2]) .loop) rfl rfl ⟨alive_spec, sR, hnz, sM, ?_⟩
      intro g hn hl
      replace hn : g.n = 97 := hn
      replace hl : g.low 0 := hl
      refine acode_while (fun j : Nat => m7St r (K : Int) 2 0 0 j) (fun j => j ≤ r.cps.length) (fun j => r.cps.length - j) 0 (Nat.zero_le _) ?_ (fun _ _ => hl.mono (Nat.zero_le _)) ?_
      · exact St.le.of ⟨rfl, rfl, rfl, rfl, Eq.trans (by kernel_rfl) (congrArg (AV.int .i64) eM), rfl, rfl, rfl, rfl, rfl, rfl, rfl, rfl, rfl, rfl, rfl, rfl, rfl, rfl, rfl, rfl, rfl, trivial⟩ ⟨rfl, (by decide : (0 : Nat) < 2), rfl, rfl, (by decide : (1 : Nat) < 2), rfl, trivial⟩
      · intro j hj
        by_cases hlt : j < r.cps.length
        · refine Exists.elim (getE hlt) fun c hc => ?_
          have hcp := hr.cp j c hc
          have sW := works_spec c (K : Int)
          rw [works_wks' hcp.2.2.2.1, ← wkAt_some (r := r) (m := (K : Int)) hc] at sW
          have kj := hK j hj
          have kj1 := hK (j + 1) hlt
          have e1 : IntKind.i64.wrap ((j : Int) + 1) = ((j + 1 : Nat) : Int) := succ64 (by omega)
          refine Or.elim (boolC (wkAt r (K : Int) j)) (fun hw => ?_) (fun hw => ?_)
          · rw [hw] at sW
            have kn := K_no hw
            have q1 := congrArg (AV.int .i64) kn.1.symm
            have q2 := congrArg (AV.int .i64) kn.2.1.symm
            have q3 := congrArg (fun z : Nat => AV.int .i64 (z : Int)) kn.2.2.symm
            exact ACode.vc (.br 40 true <| .cells (encCp c) <| .call (.bool false) .nil) hn hl (.round .cl) ⟨ltLen hlt, idx hc, sW, j + 1, hlt, mu1 hlt,
              St.le.of ⟨rfl, rfl, rfl, rfl, rfl, rfl, rfl, rfl, rfl, rfl, Eq.trans (by kernel_rfl) q1, rfl, Eq.trans (by kernel_rfl) q2, rfl, Eq.trans (by kernel_rfl) q3, rfl, rfl, rfl, rfl, rfl, Eq.trans (by kernel_rfl) (congrArg (AV.int .i64) e1), rfl, trivial⟩ ⟨rfl, (by decide : (0 : Nat) < 2), rfl, rfl, (by decide : (1 : Nat) < 2), rfl, trivial⟩⟩
          · rw [hw] at sW
            have kn := K_yes hw
            have sS := shown_spec hr k1 k2 hc (by rw [← wkAt_some hc]; exact hw)
            have hxl := xsK_len r (K : Int) (j + 1)
            have q1 : AV.int .i64 (IntKind.i64.wrap (loK r K j + tLo r K j)) = .int .i64 (loK r K (j + 1)) := by rw [kn.1, wrap64 (by omega) (by omega)]
            have q2 : AV.int .i64 (IntKind.i64.wrap (hiK r K j + tHi r K j)) = .int .i64 (hiK r K (j + 1)) := by rw [kn.2.1, wrap64 (by omega) (by omega)]
            have q3 : AV.int .i64 (IntKind.i64.wrap (((xsK r K j).length : Int) + 1)) = .int .i64 ((xsK r K (j + 1)).length : Int) := by rw [wrap64 (by omega) (by omega)]; congr 1; omega
            exact ACode.vc (.br 40 true <| .cells (encCp c) <| .call (.bool true) <| .call (.agg [.int .i64 (tLo r K j), .int .i64 (tHi r K j)]) <| .draw 12 .nil) hn hl (.round .cl) ⟨ltLen hlt, idx hc, sW, sS, by kernel_rfl, mixed, by kernel_rfl, by kernel_rfl, j + 1, hlt, mu1 hlt,
              St.le.of ⟨rfl, rfl, rfl, rfl, rfl, rfl, rfl, rfl, rfl, rfl, Eq.trans (by kernel_rfl) q1, rfl, Eq.trans (by kernel_rfl) q2, rfl, Eq.trans (by kernel_rfl) q3, rfl, rfl, rfl, rfl, rfl, Eq.trans (by kernel_rfl) (congrArg (AV.int .i64) e1), rfl, trivial⟩ ⟨rfl, (by decide : (0 : Nat) < 2), rfl, rfl, (by decide : (1 : Nat) < 2), rfl, trivial⟩⟩
        · have hj' : j = r.cps.length := by omega
          subst hj'
          have h63 : (((xsK r K r.cps.length).length : Int) == 0) = true := hbl
          exact ACode.vc (.br 40 false .nil) hn hl (.round .cl) ⟨geLen hlt, _, .refl _, .br 63 true <| .br 69 true <| .val 72 (.bool true) [] .nil, h63, rfl, by kernel_rfl, rB rfl⟩
  · have hrd' : readyB r U1 = false := by simpa using hrd
    rw [hrd'] at sR
    exact APure.vc Try.func7 rfl (.call (.bool true) <| .call (.bool false) .nil) rfl rfl ⟨alive_spec, sR, rB rfl⟩
end Go.Proofs.Yticiopkiikcokaa
