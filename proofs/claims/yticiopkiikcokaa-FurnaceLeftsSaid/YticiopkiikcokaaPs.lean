import Derived.Test.YticiopkiikcokaaPr
namespace Go.Proofs.Yticiopkiikcokaa
open Go Go.Am Go.Srt
def gSt (r : Rn) (u : Ru) (l : List Br) (k m : Nat) (D : Int) : St :=
  ⟨[(2, .vptr 0 0), (3, .vptr 1 0), (5, .rsl 2 0 l.length 4), (6, .int .i64 (accS (mF r) Sn.lo k)), (7, .int .i64 (accS (mF r) Sn.hi k)), (8, .int .i64 (cu r k)), (9, .int .i64 (m : Int)), (10, .int .i64 D), (11, .lst 1 ((wl r m).map encN))],
    [(0, .cells (runL r)), (1, .cells (ruL u)), (2, .cells (brs l))], 3⟩
def aSt (r : Rn) (u : Ru) (k : Nat) : St :=
  ⟨[(2, .vptr 0 0), (3, .vptr 1 0), (5, .rsl 2 0 (LK r u k).length 4), (6, .int .i64 (accS (mF r) Sn.lo k)), (7, .int .i64 (accS (mF r) Sn.hi k)), (8, .int .i64 (cu r k)), (9, .int .i64 ((k + 1 : Nat) : Int))],
    [(0, .cells (runL r)), (1, .cells (ruL u)), (2, .cells (brs (LK r u k)))], 3⟩
theorem aSt_le {r : Rn} {u : Ru} {k : Nat} {S : St} (h2 : elook S.env 2 = .vptr 0 0) (h3 : elook S.env 3 = .vptr 1 0) (h5 : elook S.env 5 = .rsl 2 0 (LK r u k).length 4) (h6 : elook S.env 6 = .int .i64 (accS (mF r) Sn.lo k)) (h7 : elook S.env 7 = .int .i64 (accS (mF r) Sn.hi k)) (h8 : elook S.env 8 = .int .i64 (cu r k))
    (h9 : elook S.env 9 = .int .i64 ((k + 1 : Nat) : Int)) (g0 : hget S.H 0 = some (.cells (runL r))) (g1 : hget S.H 1 = some (.cells (ruL u))) (g2 : hget S.H 2 = some (.cells (brs (LK r u k)))) : (aSt r u k).le S :=
  St.le.of ⟨h2, rfl, h3, rfl, h5, rfl, h6, rfl, h7, rfl, h8, rfl, h9, rfl, trivial⟩ ⟨g0, (by decide : (0 : Nat) < 3), rfl, g1, (by decide : (1 : Nat) < 3), rfl, g2, (by decide : (2 : Nat) < 3), brs_ok _ _, trivial⟩
theorem gSt_le {r : Rn} {u : Ru} {l : List Br} {k m : Nat} {D : Int} {S : St} (h2 : elook S.env 2 = .vptr 0 0) (h3 : elook S.env 3 = .vptr 1 0) (h5 : elook S.env 5 = .rsl 2 0 l.length 4) (h6 : elook S.env 6 = .int .i64 (accS (mF r) Sn.lo k)) (h7 : elook S.env 7 = .int .i64 (accS (mF r) Sn.hi k)) (h8 : elook S.env 8 = .int .i64 (cu r k))
    (h9 : elook S.env 9 = .int .i64 (m : Int)) (h10 : elook S.env 10 = .int .i64 D) (h11 : elook S.env 11 = .lst 1 ((wl r m).map encN)) (g0 : hget S.H 0 = some (.cells (runL r))) (g1 : hget S.H 1 = some (.cells (ruL u))) (g2 : hget S.H 2 = some (.cells (brs l))) : (gSt r u l k m D).le S :=
  St.le.of ⟨h2, rfl, h3, rfl, h5, rfl, h6, rfl, h7, rfl, h8, rfl, h9, rfl, h10, rfl, h11, rfl, trivial⟩ ⟨g0, (by decide : (0 : Nat) < 3), rfl, g1, (by decide : (1 : Nat) < 3), rfl, g2, (by decide : (2 : Nat) < 3), brs_ok _ _, trivial⟩
theorem gSt_ren {r : Rn} {u : Ru} {l : List Br} {k m b : Nat} {D : Int} {S : St} (hb : 2 ≤ b) (h2 : elook S.env 2 = .vptr 0 0) (h3 : elook S.env 3 = .vptr 1 0) (h5 : elook S.env 5 = .rsl b 0 l.length 4) (h6 : elook S.env 6 = .int .i64 (accS (mF r) Sn.lo k)) (h7 : elook S.env 7 = .int .i64 (accS (mF r) Sn.hi k)) (h8 : elook S.env 8 = .int .i64 (cu r k))
    (h9 : elook S.env 9 = .int .i64 (m : Int)) (h10 : elook S.env 10 = .int .i64 D) (h11 : elook S.env 11 = .lst 1 ((wl r m).map encN)) (g0 : hget S.H 0 = some (.cells (runL r))) (g1 : hget S.H 1 = some (.cells (ruL u))) (g2 : hget S.H b = some (.cells (brs l))) : St.ren 2 b (gSt r u l k m D) S :=
  St.ren.of rfl hb ⟨.inl ⟨h2, rfl⟩, .inl ⟨h3, rfl⟩, .inr ⟨0, l.length, 4, rfl, h5⟩, .inl ⟨h6, rfl⟩, .inl ⟨h7, rfl⟩, .inl ⟨h8, rfl⟩, .inl ⟨h9, rfl⟩, .inl ⟨h10, rfl⟩, .inl ⟨h11, rfl⟩, trivial⟩
    ⟨.inl ⟨(by decide : (0 : Nat) < 2), g0, rfl⟩, .inl ⟨(by decide : (1 : Nat) < 2), g1, rfl⟩, .inr ⟨rfl, g2, _, rfl, brs_ok 2 _⟩, trivial⟩
def jSt (r : Rn) (u : Ru) (l : List Br) (k m : Nat) (D : Int) (j : Nat) : St :=
  ⟨[(2, .vptr 0 0), (3, .vptr 1 0), (5, .rsl 2 0 l.length 4), (6, .int .i64 (accS (mF r) Sn.lo k)), (7, .int .i64 (accS (mF r) Sn.hi k)), (8, .int .i64 (cu r k)), (9, .int .i64 (m : Int)), (10, .int .i64 D), (11, .lst 1 ((wl r m).map encN)), (17, .int .i64 (j : Int))],
    [(0, .cells (runL r)), (1, .cells (ruL u)), (2, .cells (brs l))], 3⟩
theorem jSt_le {r : Rn} {u : Ru} {l : List Br} {k m j : Nat} {D : Int} {S : St} (h2 : elook S.env 2 = .vptr 0 0) (h3 : elook S.env 3 = .vptr 1 0) (h5 : elook S.env 5 = .rsl 2 0 l.length 4) (h6 : elook S.env 6 = .int .i64 (accS (mF r) Sn.lo k)) (h7 : elook S.env 7 = .int .i64 (accS (mF r) Sn.hi k)) (h8 : elook S.env 8 = .int .i64 (cu r k))
    (h9 : elook S.env 9 = .int .i64 (m : Int)) (h10 : elook S.env 10 = .int .i64 D) (h11 : elook S.env 11 = .lst 1 ((wl r m).map encN)) (h17 : elook S.env 17 = .int .i64 (j : Int)) (g0 : hget S.H 0 = some (.cells (runL r))) (g1 : hget S.H 1 = some (.cells (ruL u))) (g2 : hget S.H 2 = some (.cells (brs l))) : (jSt r u l k m D j).le S :=
  St.le.of ⟨h2, rfl, h3, rfl, h5, rfl, h6, rfl, h7, rfl, h8, rfl, h9, rfl, h10, rfl, h11, rfl, h17, rfl, trivial⟩ ⟨g0, (by decide : (0 : Nat) < 3), rfl, g1, (by decide : (1 : Nat) < 3), rfl, g2, (by decide : (2 : Nat) < 3), brs_ok _ _, trivial⟩
theorem jSt_ren {r : Rn} {u : Ru} {l : List Br} {k m j b : Nat} {D : Int} {S : St} (hb : 2 ≤ b) (h2 : elook S.env 2 = .vptr 0 0) (h3 : elook S.env 3 = .vptr 1 0) (h5 : elook S.env 5 = .rsl b 0 l.length 4) (h6 : elook S.env 6 = .int .i64 (accS (mF r) Sn.lo k)) (h7 : elook S.env 7 = .int .i64 (accS (mF r) Sn.hi k)) (h8 : elook S.env 8 = .int .i64 (cu r k))
    (h9 : elook S.env 9 = .int .i64 (m : Int)) (h10 : elook S.env 10 = .int .i64 D) (h11 : elook S.env 11 = .lst 1 ((wl r m).map encN)) (h17 : elook S.env 17 = .int .i64 (j : Int)) (g0 : hget S.H 0 = some (.cells (runL r))) (g1 : hget S.H 1 = some (.cells (ruL u))) (g2 : hget S.H b = some (.cells (brs l))) : St.ren 2 b (jSt r u l k m D j) S :=
  St.ren.of rfl hb ⟨.inl ⟨h2, rfl⟩, .inl ⟨h3, rfl⟩, .inr ⟨0, l.length, 4, rfl, h5⟩, .inl ⟨h6, rfl⟩, .inl ⟨h7, rfl⟩, .inl ⟨h8, rfl⟩, .inl ⟨h9, rfl⟩, .inl ⟨h10, rfl⟩, .inl ⟨h11, rfl⟩, .inl ⟨h17, rfl⟩, trivial⟩
    ⟨.inl ⟨(by decide : (0 : Nat) < 2), g0, rfl⟩, .inl ⟨(by decide : (1 : Nat) < 2), g1, rfl⟩, .inr ⟨rfl, g2, _, rfl, brs_ok 2 _⟩, trivial⟩
theorem blind_wl (r : Rn) (m : Int) : ((((wl r m).map encN).length : Int) == 0) = blindB r m := by
  unfold blindB; rw [wl_len, List.length_map]
set_option maxHeartbeats 64000000 in
set_option maxRecDepth 100000 in
theorem rleft_spec {r : Rn} (hr : RunOk r) {u : Ru} (hu : RuOk u) : APure Try.prog 60 [encRn r, encRu u] (.lst 4 ((leftL r u).map encBr)) := by
  have hrl := hr.rl
  obtain ⟨hclen, _⟩ := curveB_out hr.curve
  obtain ⟨p, hp⟩ := getE (show r.curve.length - 1 < r.curve.length by omega)
  have hlast := hr.last
  rw [lastM_some hp] at hlast
  refine APure.vcM Try.func60 .loop rfl rfl ?_
  intro g hn hl
  replace hn : g.n = 177 := hn
  replace hl : g.low 0 := hl
  have hl2 : g.low 2 := hl.mono (Nat.zero_le _)
  have hl3 : g.low 3 := hl.mono (Nat.zero_le _)
  refine acode_whileW (fun k : Nat => aSt r u k) (fun k => k ≤ r.rows.length) (fun k => r.rows.length - k) 0 (Nat.zero_le _) (Wk.trans (Wk.le ?_ hl3) (Wk.own 5 4 rfl)) ?_
  · have z1 : (0 : Int) = accS (mF r) Sn.lo 0 := by rw [accS_zero, mF_zero]
    have z2 : (0 : Int) = accS (mF r) Sn.hi 0 := by rw [accS_zero, mF_zero]
    have z3 : (0 : Int) = cu r 0 := by simp [cu, dF]
    exact aSt_le rfl rfl rfl (congrArg (AV.int .i64) z1) (congrArg (AV.int .i64) z2) (congrArg (AV.int .i64) z3) rfl rfl rfl rfl
  · intro k hk
    have hll := LK_len hr u k
    by_cases hlt : k < r.rows.length
    · have d26 : decide (((k + 1 : Nat) : Int) ≤ ((r.rows.map encRw).length : Int)) = true := decide_eq_true (by rw [List.length_map]; omega)
      have hd := deg_rng hr.curve hp (m := ((k + 1 : Nat) : Int)) (by omega) (by omega)
      have sD := Degree_spec hr.curve hp (m := ((k + 1 : Nat) : Int)) (by omega) (by omega)
      have sW := Working_lst hr ((k + 1 : Nat) : Int)
      have hsucc := LK_succ r u k
      obtain ⟨D, hD⟩ : ∃ D, D = deg r.curve ((k + 1 : Nat) : Int) := ⟨_, rfl⟩
      rw [← hD] at sD hd
      refine ACode.cut 0 (fun _ : Unit => aSt r u k) (fun _ => True) (.br 26 true .nil) hn hl (.roundW .cl) rfl ⟨d26, (), trivial, Wk.le (aSt_le rfl rfl rfl rfl rfl rfl rfl rfl rfl rfl) hl3⟩ fun _ _ => ?_
      refine acode_mid (fun _ : Unit => gSt r u (LK r u (k + 1)) (k + 1) (k + 1) D) (fun _ => True) (acode_block ?_) fun _ _ => ?_
      · -- what is told of all temperatures
        refine ACode.cut 2 (fun _ : Unit => gSt r u (LK r u k ++ bB r (k + 1)) (k + 1) (k + 1) D) (fun _ => True) (.call (.int .i64 D) <| .call (.lst 1 ((wl r ((k + 1 : Nat) : Int)).map encN)) <| .both 38 (.val 43 (.rsl 4 0 (LK r u k ++ bB r (k + 1)).length 4) [(2, none), (4, some (.cells (brs (LK r u k ++ bB r (k + 1)))))] .nil)
          (.call (.agg [.int .i64 (mLo r ((k + 1 : Nat) : Int)), .int .i64 (mHi r ((k + 1 : Nat) : Int))]) <| .draw 13 .nil)) hn hl (.inBlock (.mid (.roundW .cl))) rfl ⟨sD, sW, fun h => ?_, fun h => ?_⟩ fun _ _ => ?_
        · rw [blind_wl] at h
          have eb : bB r (k + 1) = [⟨((k + 1 : Nat) : Int), 1, -1, 2⟩] := by unfold bB kBlind; rw [if_pos h, brk1, if_neg (by omega)]
          have ap := app_B (h := hget [(2, .cells (brs (LK r u k))), (3, .cells (encBr ⟨((k + 1 : Nat) : Int), 1, -1, 2⟩))]) (i := 2) (j := 3) (id := 4) (l := LK r u k) (b := ⟨((k + 1 : Nat) : Int), 1, -1, 2⟩) rfl rfl (by omega)
          have en : (LK r u k).length + 1 = (LK r u k ++ bB r (k + 1)).length := by rw [eb]; simp
          rw [brs_snoc, ← eb, en] at ap
          have hb := at_blind h
          exact ⟨Eq.trans (by kernel_rfl) ap, (), trivial, Wk.ren (gSt_ren (b := 4) (by decide) rfl rfl rfl (congrArg (AV.int .i64) hb.1.symm) (congrArg (AV.int .i64) hb.2.1.symm) (congrArg (AV.int .i64) hb.2.2.symm) rfl rfl rfl rfl rfl rfl) hl2⟩
        · rw [blind_wl] at h
          have eb : bB r (k + 1) = [] := by unfold bB kBlind; rw [if_neg (by rw [h]; simp), brk1, if_pos rfl]
          have sM := rmean_spec hr (m := ((k + 1 : Nat) : Int)) (by omega) (by omega) (blind_len h)
          have hm := mean_rng hr (m := ((k + 1 : Nat) : Int)) (by omega) (by omega) (blind_len h)
          have hb := at_sees hlt h
          have a1 := acc_rng (f := mF r) (p := Sn.lo) (fun i => (mF_rng hr i).1) (m := k) (by omega)
          have a2 := acc_rng (f := mF r) (p := Sn.hi) (fun i => (mF_rng hr i).2) (m := k) (by omega)
          have a3 := acc_rng (f := cF r) (p := Sn.lo) (fun i => by have := cF_rng hr i; omega) (m := k) (by omega)
          rw [(cF_cu r k).1] at a3
          have w1 : IntKind.i64.wrap (accS (mF r) Sn.lo k + mLo r ((k + 1 : Nat) : Int)) = accS (mF r) Sn.lo (k + 1) := by rw [hb.1]; exact wrap64 (by omega) (by omega)
          have w2 : IntKind.i64.wrap (accS (mF r) Sn.hi k + mHi r ((k + 1 : Nat) : Int)) = accS (mF r) Sn.hi (k + 1) := by rw [hb.2.1]; exact wrap64 (by omega) (by omega)
          have w3 : IntKind.i64.wrap (cu r k + D) = cu r (k + 1) := by rw [hb.2.2, ← hD]; exact wrap64 (by omega) (by omega)
          have q5 : AV.rsl 2 0 (LK r u k).length 4 = .rsl 2 0 (LK r u k ++ bB r (k + 1)).length 4 := by rw [eb, List.append_nil]
          have q6 : some (AObj.cells (brs (LK r u k))) = some (.cells (brs (LK r u k ++ bB r (k + 1)))) := by rw [eb, List.append_nil]
          exact ⟨sM, by kernel_rfl, mixed, by kernel_rfl, by kernel_rfl, (), trivial, Wk.le (gSt_le rfl rfl q5 (congrArg (AV.int .i64) w1) (congrArg (AV.int .i64) w2) (congrArg (AV.int .i64) w3) rfl rfl rfl rfl rfl q6) hl3⟩
        -- the area
        obtain ⟨L1, hL1⟩ : ∃ L1, L1 = LK r u k ++ bB r (k + 1) := ⟨_, rfl⟩
        have hL1l : L1.length ≤ 11 * k + 1 := by
          have h1 : (bB r (k + 1)).length ≤ 1 := brk1_len _ _ _ _
          rw [hL1, List.length_append]; omega
        rw [← hL1] at hsucc
        show ACode Try.prog none g _ _ (gSt r u (LK r u k ++ bB r (k + 1)) (k + 1) (k + 1) D)
        rw [← hL1]
        have a1 := acc_rng (f := mF r) (p := Sn.lo) (fun i => (mF_rng hr i).1) (m := k + 1) (by omega)
        have a2 := acc_rng (f := mF r) (p := Sn.hi) (fun i => (mF_rng hr i).2) (m := k + 1) (by omega)
        have a3 := acc_rng (f := cF r) (p := Sn.lo) (fun i => by have := cF_rng hr i; omega) (m := k + 1) (by omega)
        rw [(cF_cu r (k + 1)).1] at a3
        have hK : kArea r u (k + 1) = if partI u ((k + 1 : Nat) : Int) < 0 then 0 else outI (1000 * accS (mF r) Sn.lo (k + 1)) (1000 * accS (mF r) Sn.hi (k + 1)) ((1000 - partI u ((k + 1 : Nat) : Int)) * accS (cF r) Sn.lo (k + 1)) ((1000 + partI u ((k + 1 : Nat) : Int)) * accS (cF r) Sn.hi (k + 1)) := rfl
        rw [(cF_cu r (k + 1)).1, (cF_cu r (k + 1)).2] at hK
        have hpr := partK_rng hu ((k + 1 : Nat) : Int) u.steps.length
        have sP := Part_spec (u := u) (by have := hu.len; omega) ((k + 1 : Nat) : Int)
        have hpe : partK u.steps ((k + 1 : Nat) : Int) u.steps.length = partI u ((k + 1 : Nat) : Int) := rfl
        rw [hpe] at hpr
        have sO := rOutside_spec (IntKind.i64.wrap (accS (mF r) Sn.lo (k + 1) * 1000)) (IntKind.i64.wrap (accS (mF r) Sn.hi (k + 1) * 1000)) (IntKind.i64.wrap (IntKind.i64.wrap (IntKind.i64.wrap (cu r (k + 1) * 840) * 1000) - IntKind.i64.wrap (IntKind.i64.wrap (cu r (k + 1) * 840) * partI u ((k + 1 : Nat) : Int))))
          (IntKind.i64.wrap (IntKind.i64.wrap (IntKind.i64.wrap (cu r (k + 1) * 840) * 1000) + IntKind.i64.wrap (IntKind.i64.wrap (cu r (k + 1) * 840) * partI u ((k + 1 : Nat) : Int))))
        have hv : 0 ≤ partI u ((k + 1 : Nat) : Int) → outI (IntKind.i64.wrap (accS (mF r) Sn.lo (k + 1) * 1000)) (IntKind.i64.wrap (accS (mF r) Sn.hi (k + 1) * 1000)) (IntKind.i64.wrap (IntKind.i64.wrap (IntKind.i64.wrap (cu r (k + 1) * 840) * 1000) - IntKind.i64.wrap (IntKind.i64.wrap (cu r (k + 1) * 840) * partI u ((k + 1 : Nat) : Int))))
          (IntKind.i64.wrap (IntKind.i64.wrap (IntKind.i64.wrap (cu r (k + 1) * 840) * 1000) + IntKind.i64.wrap (IntKind.i64.wrap (cu r (k + 1) * 840) * partI u ((k + 1 : Nat) : Int)))) = kArea r u (k + 1) := fun h0 => by
          have hA := areaA (p := partI u ((k + 1 : Nat) : Int)) (c := cu r (k + 1)) h0 (by omega) (by omega) (by omega)
          rw [hK, if_neg (by omega), hA.1, hA.2, wrap64 (n := accS (mF r) Sn.lo (k + 1) * 1000) (by omega) (by omega), wrap64 (n := accS (mF r) Sn.hi (k + 1) * 1000) (by omega) (by omega), Int.mul_comm 1000, Int.mul_comm 1000]
        have hvr := kArea_rng r u (k + 1)
        have hneg : partI u ((k + 1 : Nat) : Int) < 0 → bA r u (k + 1) = [] := fun h => by unfold bA; rw [hK, if_pos h, brk1, if_pos rfl]
        generalize outI (IntKind.i64.wrap (accS (mF r) Sn.lo (k + 1) * 1000)) (IntKind.i64.wrap (accS (mF r) Sn.hi (k + 1) * 1000)) (IntKind.i64.wrap (IntKind.i64.wrap (IntKind.i64.wrap (cu r (k + 1) * 840) * 1000) - IntKind.i64.wrap (IntKind.i64.wrap (cu r (k + 1) * 840) * partI u ((k + 1 : Nat) : Int))))
          (IntKind.i64.wrap (IntKind.i64.wrap (IntKind.i64.wrap (cu r (k + 1) * 840) * 1000) + IntKind.i64.wrap (IntKind.i64.wrap (cu r (k + 1) * 840) * partI u ((k + 1 : Nat) : Int)))) = v at sO hv
        clear hK a1 a2 a3 hpe
        have none2 : bA r u (k + 1) = [] → AV.rsl 2 0 L1.length 4 = .rsl 2 0 (L1 ++ bA r u (k + 1)).length 4 ∧ some (AObj.cells (brs L1)) = some (.cells (brs (L1 ++ bA r u (k + 1)))) := fun e => by rw [e, List.append_nil]; exact ⟨rfl, rfl⟩
        refine ACode.cut 0 (fun _ : Unit => gSt r u (L1 ++ bA r u (k + 1)) (k + 1) (k + 1) D) (fun _ => True) (.call (.int .i64 (partI u ((k + 1 : Nat) : Int))) <| .both 62 (.call (.int .u8 v) <| .both 82 (.val 88 (.rsl 4 0 (L1 ++ bA r u (k + 1)).length 4) [(2, none), (4, some (.cells (brs (L1 ++ bA r u (k + 1)))))] .nil) .nil) .nil)
          hn hl (.inBlock (.mid (.roundW .cl))) rfl ⟨sP, fun h => ⟨sO, fun h2 => ?_, fun h2 => ?_⟩, fun h => ?_⟩ fun _ _ => ?_
        · have h0 := of_decide_eq_true h
          have h2 := of_decide_eq_true h2
          have eb : bA r u (k + 1) = [⟨((k + 1 : Nat) : Int), 2, -1, v⟩] := by unfold bA; rw [← hv h0, brk1, if_neg (by omega)]
          have ap := app_B (h := hget [(2, .cells (brs L1)), (3, .cells (encBr ⟨((k + 1 : Nat) : Int), 2, -1, v⟩))]) (i := 2) (j := 3) (id := 4) (l := L1) (b := ⟨((k + 1 : Nat) : Int), 2, -1, v⟩) rfl rfl (by omega)
          have en : L1.length + 1 = (L1 ++ bA r u (k + 1)).length := by rw [eb]; simp
          rw [brs_snoc, ← eb, en] at ap
          exact ⟨Eq.trans (by kernel_rfl) ap, (), trivial, Wk.ren (gSt_ren (b := 4) (by decide) rfl rfl rfl rfl rfl rfl rfl rfl rfl rfl rfl rfl) hl2⟩
        · have h0 := of_decide_eq_true h
          have h2 := of_decide_eq_false h2
          have e := none2 (by unfold bA; rw [← hv h0, brk1, if_pos (by have := hv h0; omega)])
          exact ⟨(), trivial, Wk.le (gSt_le rfl rfl e.1 rfl rfl rfl rfl rfl rfl rfl rfl e.2) hl3⟩
        · have h0 := of_decide_eq_false h
          have e := none2 (hneg (by omega))
          exact ⟨(), trivial, Wk.le (gSt_le rfl rfl e.1 rfl rfl rfl rfl rfl rfl rfl rfl e.2) hl3⟩
        -- single couples
        obtain ⟨L2, hL2⟩ : ∃ L2, L2 = L1 ++ bA r u (k + 1) := ⟨_, rfl⟩
        have hL2l : L2.length ≤ 11 * k + 2 := by
          have h1 : (bA r u (k + 1)).length ≤ 1 := brk1_len _ _ _ _
          rw [hL2, List.length_append]; omega
        rw [← hL2] at hsucc
        show ACode Try.prog none g _ _ (gSt r u (L1 ++ bA r u (k + 1)) (k + 1) (k + 1) D)
        rw [← hL2]
        clear hv hvr hneg none2 sP sO hL1 hL1l hL2
        refine ACode.cut 0 (fun _ : Unit => gSt r u (L2 ++ bS r u (k + 1)) (k + 1) (k + 1) D) (fun _ => True) .loop hn hl (.inBlock (.mid (.roundW .cl))) rfl ?_ fun _ _ => ?_
        · intro g' hn' hl'
          have hw8 := wl_len8 hr (k + 1)
          refine acode_whileW (fun j : Nat => jSt r u (L2 ++ bW r u (k + 1) j) (k + 1) (k + 1) D j) (fun j => j ≤ (wl r ((k + 1 : Nat) : Int)).length) (fun j => (wl r ((k + 1 : Nat) : Int)).length - j) 0 (Nat.zero_le _) (Wk.le ?_ (hl'.mono (Nat.zero_le _))) ?_
          · have e0 : L2 ++ bW r u (k + 1) 0 = L2 := by simp [bW]
            have q5 : AV.rsl 2 0 L2.length 4 = .rsl 2 0 (L2 ++ bW r u (k + 1) 0).length 4 := by rw [e0]
            have q6 : some (AObj.cells (brs L2)) = some (.cells (brs (L2 ++ bW r u (k + 1) 0))) := by rw [e0]
            exact jSt_le rfl rfl q5 rfl rfl rfl rfl rfl rfl rfl rfl rfl q6
          · intro j hj
            have hbl := bW_len r u (k + 1) j
            by_cases hjl : j < (wl r ((k + 1 : Nat) : Int)).length
            · have d93 : decide ((j : Int) < (((wl r ((k + 1 : Nat) : Int)).map encN).length : Int)) = true := ltLen hjl
              by_cases hsf : ((k + 1 : Nat) : Int) < u.sFrom
              · have d97 : decide (((k + 1 : Nat) : Int) ≥ u.sFrom) = false := decide_eq_false (by omega)
                have ee : L2 ++ bW r u (k + 1) j = L2 ++ bS r u (k + 1) := by rw [← bW_end, bW_late hsf, bW_late hsf]
                have q5 : AV.rsl 2 0 (L2 ++ bW r u (k + 1) j).length 4 = .rsl 2 0 (L2 ++ bS r u (k + 1)).length 4 := by rw [ee]
                have q6 : some (AObj.cells (brs (L2 ++ bW r u (k + 1) j))) = some (.cells (brs (L2 ++ bS r u (k + 1)))) := by rw [ee]
                exact ACode.vcM (.br 93 true <| .br 98 false .nil) hn' hl' (.roundW .cl) ⟨d93, d97, _, .refl _, .nil, (), trivial, Wk.le (gSt_le rfl rfl q5 rfl rfl rfl rfl rfl rfl rfl rfl q6) hl3⟩
              · have d97 : decide (((k + 1 : Nat) : Int) ≥ u.sFrom) = true := decide_eq_true (by omega)
                refine Exists.elim (getE hjl) fun i hi => ?_
                have hi2 := wl_at hi
                refine Exists.elim (getE hi2.1) fun c hc => ?_
                have sT := True_spec hr (m := ((k + 1 : Nat) : Int)) (by omega) (by omega) hc (by rw [← wkAt_some hc]; exact hi2.2)
                have hnext := bW_succ (u := u) hi
                have hid : idAt r i = c.id := by unfold idAt; rw [hc]
                have hsing := hu.single
                have e1 : IntKind.i64.wrap (D - u.single) = D - u.single := wrap64 (by omega) (by omega)
                have e2 : IntKind.i64.wrap (D + u.single) = D + u.single := wrap64 (by omega) (by omega)
                have sO := rOutside_spec (tLo r ((k + 1 : Nat) : Int) i) (tHi r ((k + 1 : Nat) : Int) i) (IntKind.i64.wrap (D - u.single)) (IntKind.i64.wrap (D + u.single))
                have hv : outI (tLo r ((k + 1 : Nat) : Int) i) (tHi r ((k + 1 : Nat) : Int) i) (IntKind.i64.wrap (D - u.single)) (IntKind.i64.wrap (D + u.single)) = kSing r u (k + 1) i := by rw [kSing, if_neg hsf, e1, e2, hD]
                have hvr := kSing_rng r u (k + 1) i
                rw [hv] at sO
                rw [hid] at hnext
                generalize kSing r u (k + 1) i = v at sO hnext hvr
                have ej := congrArg (AV.int .i64) (succ64 (k := j) (by omega))
                by_cases hv0 : v > 0
                · have d122 : decide (v > 0) = true := decide_eq_true hv0
                  have eb : bW r u (k + 1) (j + 1) = bW r u (k + 1) j ++ [⟨((k + 1 : Nat) : Int), 3, c.id, v⟩] := by rw [hnext, brk1, if_neg (by omega)]
                  have ap := app_B (h := hget [(2, .cells (brs (L2 ++ bW r u (k + 1) j))), (26, .cells (encBr ⟨((k + 1 : Nat) : Int), 3, c.id, v⟩))]) (i := 2) (j := 26) (id := 29) (l := L2 ++ bW r u (k + 1) j) (b := ⟨((k + 1 : Nat) : Int), 3, c.id, v⟩) rfl rfl (by rw [List.length_append]; omega)
                  have en : (L2 ++ bW r u (k + 1) j).length + 1 = (L2 ++ bW r u (k + 1) (j + 1)).length := by rw [eb]; simp; omega
                  have el : L2 ++ bW r u (k + 1) j ++ [⟨((k + 1 : Nat) : Int), 3, c.id, v⟩] = L2 ++ bW r u (k + 1) (j + 1) := by rw [eb]; simp
                  rw [brs_snoc, el, en] at ap
                  exact ACode.vcM (.br 93 true <| .br 98 true <| .draw 8 <| .cells (encN i) <| .call (.agg [.int .i64 (tLo r ((k + 1 : Nat) : Int) i), .int .i64 (tHi r ((k + 1 : Nat) : Int) i)]) <| .call (.int .u8 v) <| .br 122 true <| .draw 14 <| .cells (encN i) <| .cells (encCp c) <|
                      .val 137 (.rsl 29 0 (L2 ++ bW r u (k + 1) (j + 1)).length 4) [(2, none), (29, some (.cells (brs (L2 ++ bW r u (k + 1) (j + 1)))))] .nil) hn' hl' (.roundW .cl)
                    ⟨d93, d97, by kernel_rfl, mixed, by kernel_rfl, idx hi, sT, by kernel_rfl, sO, d122, by kernel_rfl, mixed, by kernel_rfl, idx hi, idx hc, by kernel_rfl, Eq.trans (by kernel_rfl) ap, j + 1, hjl, mu1 hjl,
                      Wk.ren (jSt_ren (b := 29) (by decide) rfl rfl rfl rfl rfl rfl rfl rfl rfl ej rfl rfl rfl) (hl'.mono (Nat.zero_le _))⟩
                · have d122 : decide (v > 0) = false := decide_eq_false hv0
                  have eb : bW r u (k + 1) j = bW r u (k + 1) (j + 1) := by rw [hnext, brk1, if_pos (by omega), List.append_nil]
                  have q5 := congrArg (fun l : List Br => AV.rsl 2 0 (L2 ++ l).length 4) eb
                  have q6 := congrArg (fun l : List Br => some (AObj.cells (brs (L2 ++ l)))) eb
                  exact ACode.vcM (.br 93 true <| .br 98 true <| .draw 8 <| .cells (encN i) <| .call (.agg [.int .i64 (tLo r ((k + 1 : Nat) : Int) i), .int .i64 (tHi r ((k + 1 : Nat) : Int) i)]) <| .call (.int .u8 v) <| .br 122 false .nil) hn' hl' (.roundW .cl)
                    ⟨d93, d97, by kernel_rfl, mixed, by kernel_rfl, idx hi, sT, by kernel_rfl, sO, d122, j + 1, hjl, mu1 hjl,
                      Wk.le (jSt_le rfl rfl q5 rfl rfl rfl rfl rfl rfl ej rfl rfl q6) (hl'.mono (Nat.zero_le _))⟩
            · have d93 : decide ((j : Int) < (((wl r ((k + 1 : Nat) : Int)).map encN).length : Int)) = false := geLen hjl
              have hje : j = (wl r ((k + 1 : Nat) : Int)).length := by omega
              have ee : L2 ++ bW r u (k + 1) j = L2 ++ bS r u (k + 1) := by rw [← bW_end, hje]
              have q5 : AV.rsl 2 0 (L2 ++ bW r u (k + 1) j).length 4 = .rsl 2 0 (L2 ++ bS r u (k + 1)).length 4 := by rw [ee]
              have q6 : some (AObj.cells (brs (L2 ++ bW r u (k + 1) j))) = some (.cells (brs (L2 ++ bS r u (k + 1)))) := by rw [ee]
              exact ACode.vcM (.br 93 false .nil) hn' hl' (.roundW .cl) ⟨d93, _, .refl _, .nil, (), trivial, Wk.le (gSt_le rfl rfl q5 rfl rfl rfl rfl rfl rfl rfl rfl q6) hl3⟩
        · -- the pressure
          obtain ⟨L3, hL3⟩ : ∃ L3, L3 = L2 ++ bS r u (k + 1) := ⟨_, rfl⟩
          have hL3l : L3.length ≤ 11 * k + 10 := by
            have h1 := bS_len hr u (k + 1)
            rw [hL3, List.length_append]; omega
          rw [← hL3] at hsucc
          show ACode Try.prog none g _ _ (gSt r u (L2 ++ bS r u (k + 1)) (k + 1) (k + 1) D)
          rw [← hL3, hsucc]
          clear hL3 hL2l
          refine Exists.elim (getE (show k < r.rows.length from hlt)) fun q hq => ?_
          have hpq := (hr.row _ q hq).2.1
          have hgg := hr.gauge
          have em : IntKind.i64.wrap (((k + 1 : Nat) : Int) - 1) = (k : Int) := pred64 (by omega)
          have e1 : IntKind.i64.wrap (q.press - r.gHi) = q.press - r.gHi := wrap64 (by omega) (by omega)
          have e2 : IntKind.i64.wrap (q.press - r.gLo) = q.press - r.gLo := wrap64 (by omega) (by omega)
          have sO := rOutside_spec (IntKind.i64.wrap (q.press - r.gHi)) (IntKind.i64.wrap (q.press - r.gLo)) u.pLo u.pHi
          rw [e1, e2] at sO
          have sO' : APure Try.prog 86 [.int .i64 (IntKind.i64.wrap (q.press - r.gHi)), .int .i64 (IntKind.i64.wrap (q.press - r.gLo)), .int .i64 u.pLo, .int .i64 u.pHi] (.int .u8 (outI (q.press - r.gHi) (q.press - r.gLo) u.pLo u.pHi)) := by rw [e1, e2]; exact sO
          have hpa : pressAt r (k + 1) = q.press := pressAt_some (k := k + 1) hq
          have hk1 : ¬ ((k + 1 : Nat) : Int) < u.pFrom → kPress r u (k + 1) = outI (q.press - r.gHi) (q.press - r.gLo) u.pLo u.pHi := fun h => by rw [kPress, if_neg h, hpa]
          have hk0 : ((k + 1 : Nat) : Int) < u.pFrom → bP r u (k + 1) = [] := fun h => by unfold bP; rw [kPress, if_pos h, brk1, if_pos rfl]
          have hvr := outI_rng (q.press - r.gHi) (q.press - r.gLo) u.pLo u.pHi
          generalize outI (q.press - r.gHi) (q.press - r.gLo) u.pLo u.pHi = v at sO' hk1 hvr
          have none4 : bP r u (k + 1) = [] → AV.rsl 2 0 L3.length 4 = .rsl 2 0 (L3 ++ bP r u (k + 1)).length 4 ∧ some (AObj.cells (brs L3)) = some (.cells (brs (L3 ++ bP r u (k + 1)))) := fun e => by rw [e, List.append_nil]; exact ⟨rfl, rfl⟩
          refine ACode.vcM (.cells (encRw q) <| .call (.int .u8 v) <| .both 164 (.both 169 (.val 175 (.rsl 4 0 (L3 ++ bP r u (k + 1)).length 4) [(2, none), (4, some (.cells (brs (L3 ++ bP r u (k + 1)))))] .nil) .nil) .nil) hn hl (.inBlock (.mid (.roundW .cl)))
            ⟨idxW em hq, sO', fun h1 => ⟨fun h2 => ?_, fun h2 => ?_⟩, fun h1 => ?_⟩
          · have h1 := of_decide_eq_true h1
            have h2 := of_decide_eq_true h2
            have eb : bP r u (k + 1) = [⟨((k + 1 : Nat) : Int), 4, -1, v⟩] := by unfold bP; rw [hk1 (by omega), brk1, if_neg (by omega)]
            have ap := app_B (h := hget [(2, .cells (brs L3)), (3, .cells (encBr ⟨((k + 1 : Nat) : Int), 4, -1, v⟩))]) (i := 2) (j := 3) (id := 4) (l := L3) (b := ⟨((k + 1 : Nat) : Int), 4, -1, v⟩) rfl rfl (by omega)
            have en : L3.length + 1 = (L3 ++ bP r u (k + 1)).length := by rw [eb]; simp
            rw [brs_snoc, ← eb, en] at ap
            exact ⟨Eq.trans (by kernel_rfl) ap, (), trivial, Wk.ren (gSt_ren (b := 4) (by decide) rfl rfl rfl rfl rfl rfl rfl rfl rfl rfl rfl rfl) hl2⟩
          · have h1 := of_decide_eq_true h1
            have h2 := of_decide_eq_false h2
            have e := none4 (hk0 (by omega))
            exact ⟨(), trivial, Wk.le (gSt_le rfl rfl e.1 rfl rfl rfl rfl rfl rfl rfl rfl e.2) hl3⟩
          · have h1 := of_decide_eq_false h1
            have e := none4 (by
              by_cases h : ((k + 1 : Nat) : Int) < u.pFrom
              · exact hk0 h
              · unfold bP; rw [hk1 h, brk1, if_pos (by omega)])
            exact ⟨(), trivial, Wk.le (gSt_le rfl rfl e.1 rfl rfl rfl rfl rfl rfl rfl rfl e.2) hl3⟩
      · have ek := congrArg (AV.int .i64) (succ64 (k := k + 1) (by omega))
        exact ACode.vcM .nil hn hl (.roundW .cl) ⟨k + 1, hlt, mu1 hlt, Wk.le (aSt_le rfl rfl rfl rfl rfl rfl ek rfl rfl rfl) hl3⟩
    · have d26 : decide (((k + 1 : Nat) : Int) ≤ ((r.rows.map encRw).length : Int)) = false := decide_eq_false (by rw [List.length_map]; omega)
      have hk' : k = r.rows.length := by omega
      subst hk'
      have th := thaw_fl (n := 4) (d := 6) (h := hget [(0, .cells (runL r)), (1, .cells (ruL u)), (2, .cells (brs (LK r u r.rows.length)))]) (id := 2) (enc := encBr) (l := LK r u r.rows.length) (fun _ => rfl) (fun _ => rfl) rfl
      exact ACode.vcM (.br 26 false .nil) hn hl (.roundW .cl) ⟨d26, _, .refl _, .nil, [2], Eq.trans (by kernel_rfl) th⟩
end Go.Proofs.Yticiopkiikcokaa
