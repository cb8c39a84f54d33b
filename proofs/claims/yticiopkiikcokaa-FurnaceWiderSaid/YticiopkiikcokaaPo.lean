import Derived.Test.YticiopkiikcokaaPn
namespace Go.Proofs.Yticiopkiikcokaa
open Go Go.Am Go.Srt
theorem neqB (x y : Bool) : ((aeqT Try.prog 6 4 (.bool x) (.bool y)).map fun b => AV.bool !b).map (fun v => (⟨v, []⟩ : Out)) = some ⟨.bool (!(x == y)), []⟩ := by
  simp [aeqT, ty4]
theorem ready_out {r : Rn} {u : Ru} (h : readyB r u = true) : checkI r u = 0 := by
  simp only [readyB, Bool.and_eq_true, beq_iff_eq] at h
  exact h.2
theorem remN {w : Int} {n : Nat} (h0 : 0 ≤ w) (h1 : w ≤ 255) (hn : n ≤ 1000000) : ∃ t : Nat, t ≤ n ∧ (IntKind.i64.wrap w).tmod (IntKind.i64.wrap ((n : Int) + 1)) = (t : Int) ∧ IntKind.i64.wrap ((n : Int) + 1) ≠ 0 := by
  have e : IntKind.i64.wrap ((n : Int) + 1) = (n : Int) + 1 := wrap64 (by omega) (by omega)
  rw [wrap64 (n := w) (by omega) (by omega), e, Int.tmod_eq_emod_of_nonneg h0]
  have a1 := Int.emod_nonneg w (show ((n : Int) + 1) ≠ 0 by omega)
  have a2 := Int.emod_lt_of_pos w (show 0 < (n : Int) + 1 by omega)
  exact ⟨(w % ((n : Int) + 1)).toNat, by omega, by omega, by omega⟩
def m8St (r : Rn) (u : Ru) (w : Int) (l : List Br) (c : Int) (t k : Nat) : St :=
  ⟨[(3, .int .u8 w), (4, .vptr 0 0), (5, .vptr 1 0), (9, .bool true), (12, .int .i64 c), (14, .int .i64 (t : Int)), (15, .int .i64 (fK (p1 t) l k)), (16, .int .i64 (fK (p2 t) l k)), (69, .lst 4 (l.map encBr)), (70, .int .i64 (l.map encBr).length), (71, .int .i64 (k : Int))],
    [(0, .cells (runL r)), (1, .cells (ruL u))], 2⟩
theorem m8_le {r : Rn} {u : Ru} {w : Int} {l : List Br} {c : Int} {t k : Nat} {S : St} (h3 : elook S.env 3 = .int .u8 w) (h4 : elook S.env 4 = .vptr 0 0) (h5 : elook S.env 5 = .vptr 1 0) (h9 : elook S.env 9 = .bool true) (h12 : elook S.env 12 = .int .i64 c) (h14 : elook S.env 14 = .int .i64 (t : Int))
    (h15 : elook S.env 15 = .int .i64 (fK (p1 t) l k)) (h16 : elook S.env 16 = .int .i64 (fK (p2 t) l k)) (h69 : elook S.env 69 = .lst 4 (l.map encBr)) (h70 : elook S.env 70 = .int .i64 (l.map encBr).length) (h71 : elook S.env 71 = .int .i64 (k : Int))
    (g0 : hget S.H 0 = some (.cells (runL r))) (g1 : hget S.H 1 = some (.cells (ruL u))) : (m8St r u w l c t k).le S :=
  St.le.of ⟨h3, rfl, h4, rfl, h5, rfl, h9, rfl, h12, rfl, h14, rfl, h15, rfl, h16, rfl, h69, rfl, h70, rfl, h71, rfl, trivial⟩ ⟨g0, (by decide : (0 : Nat) < 2), rfl, g1, (by decide : (1 : Nat) < 2), rfl, trivial⟩
set_option maxHeartbeats 64000000 in
set_option maxRecDepth 100000 in
theorem law8 (r : Rn) (u : Ru) (w1 w2 : Int) (a0 : 0 ≤ w1) (a1 : w1 ≤ 255) (b0 : 0 ≤ w2) (b1 : w2 ≤ 255) : APure Try.prog 8 [encRn r, encRu u, .int .u8 w1, .int .u8 w2] (.bool true) := by
  have sR := ready_spec r u
  by_cases hrd : readyB r u = true
  · rw [hrd] at sR
    have hC := ready_out hrd
    have hr := runB_out (checkI_ok hC).1
    have hrl := hr.rl
    have sL := Left_spec r u
    have sC := Counts_spec r u
    unfold leftV at sL
    unfold countV at sC
    rw [if_pos hC] at sL sC
    have hcr := count_rng (r := r) u
    have hm : ∀ a ∈ leftL r u, 1 ≤ a.m := fun a ha => (left_out ha).1
    have hlen := leftL_len hr u
    obtain ⟨t, ht, et, en0⟩ := remN (n := r.rows.length) a0 a1 (by omega)
    obtain ⟨q, hq, eq, eq0⟩ := remN (n := r.rows.length - t) b0 b1 (by omega)
    have e67 : IntKind.i64.wrap (((r.rows.map encRw).length : Int) + 1) ≠ 0 := by rw [List.length_map]; exact en0
    have e14 : AV.int .i64 ((IntKind.i64.wrap w1).tmod (IntKind.i64.wrap (((r.rows.map encRw).length : Int) + 1))) = .int .i64 (t : Int) := by rw [List.length_map, et]
    have e160 : IntKind.i64.wrap (((r.rows.map encRw).length : Int) - (t : Int)) = ((r.rows.length - t : Nat) : Int) := by rw [List.length_map]; exact sub64 ht (by omega)
    have e161 : IntKind.i64.wrap (IntKind.i64.wrap (((r.rows.map encRw).length : Int) - (t : Int)) + 1) ≠ 0 := by rw [e160]; exact eq0
    have e163 : IntKind.i64.wrap ((t : Int) + (IntKind.i64.wrap w2).tmod (IntKind.i64.wrap (IntKind.i64.wrap (((r.rows.map encRw).length : Int) - (t : Int)) + 1))) = ((t + q : Nat) : Int) := by rw [e160, eq]; exact add64 (by omega)
    have sK : ∀ {x : Int} {y : Nat}, x = (y : Int) → y ≤ r.rows.length → APure Try.prog 27 [encRn r, encRu u, .int .i64 x] (.tup [.int .u8 (kPair (leftL r u) y).1, .int .i64 (kPair (leftL r u) y).2, .int .i64 0]) := fun {x y} hx hy => by
      subst hx
      have := Kept_spec r u (y : Int)
      unfold keptV at this
      rw [if_pos hC, if_pos (within_iff.2 ⟨by omega, by omega⟩)] at this
      exact this
    have sK1 := sK (x := (t : Int)) rfl ht
    have sK2 := sK e163 (by omega)
    have hcase := kept_cases hr u (t := (t : Int)) (by omega)
    have hle := later_le hr u (t := (t : Int)) (t' := ((t + q : Nat) : Int)) (by omega) (by omega)
    have c53 : decide (countI r u < 0) = false := decide_eq_false (by omega)
    have c60 : decide (countI r u > ((r.rows.map encRw).length : Int)) = false := decide_eq_false (by rw [List.length_map]; omega)
    generalize kPair (leftL r u) ((t + q : Nat) : Int) = K2 at sK2 hle
    generalize kPair (leftL r u) (t : Int) = K1 at sK1 hcase hle
    generalize countI r u = c at sC c53 c60 hcase
    have hcase2 : (∃ b : Br, K1 = (0, b.m) ∧ 1 ≤ b.m ∧ fK (p2 t) (leftL r u) (leftL r u).length = b.m ∧ fK (p1 t) (leftL r u) (leftL r u).length ≠ 0 ∧ decide ((t : Int) ≤ c) = false) ∨
        (∃ b : Br, K1 = (1, b.m) ∧ 1 ≤ b.m ∧ fK (p2 t) (leftL r u) (leftL r u).length = 0 ∧ fK (p1 t) (leftL r u) (leftL r u).length = b.m ∧ decide ((t : Int) ≤ c) = false) ∨
        (K1 = (2, 0) ∧ fK (p2 t) (leftL r u) (leftL r u).length = 0 ∧ fK (p1 t) (leftL r u) (leftL r u).length = 0 ∧ decide ((t : Int) ≤ c) = true) := by
      rcases hcase with ⟨b, h1, h2, h3, h4, h5, _⟩ | ⟨b, h1, h2, h3, h4, h5, _⟩ | h
      · exact .inl ⟨b, h1, h2, h3, h4, h5⟩
      · exact .inr (.inl ⟨b, h1, h2, h3, h4, h5⟩)
      · exact .inr (.inr h)
    clear hcase sK
    generalize leftL r u = l at *
    refine APure.vc Try.func8 rfl (.call (.bool true) <| .call (.bool true) <| .call (.tup [.lst 4 (l.map encBr), .int .i64 0]) <| .call (.tup [.int .i64 c, .int .i64 0]) <| .br 55 false <| .br 61 false <| .nz .loop) rfl rfl
      ⟨alive_spec, sR, sL, sC, c53, c60, e67, ?_⟩
    clear sR sL sC c53 c60 e67 hcr hrd hC et en0 eq eq0 a0 a1 b0 b1
    intro g hn hl
    replace hn : g.n = 178 := hn
    replace hl : g.low 0 := hl
    refine acode_while (fun k : Nat => m8St r u w2 l c t k) (fun k => k ≤ l.length) (fun k => l.length - k) 0 (Nat.zero_le _) ?_ (fun _ _ => hl.mono (Nat.zero_le _)) ?_
    · exact m8_le rfl rfl rfl rfl rfl (Eq.trans (by kernel_rfl) e14) rfl rfl rfl rfl rfl rfl rfl
    · intro k hk
      by_cases hlt : k < l.length
      · refine Exists.elim (getE hlt) fun b hb => ?_
        have ek := congrArg (AV.int .i64) (succ64 (k := k) (by omega))
        have n1 : p1 (t : Int) b = false → AV.int .i64 (fK (p1 t) l k) = .int .i64 (fK (p1 t) l (k + 1)) := fun h => congrArg _ (fK_no hb h)
        have n2 : p2 (t : Int) b = false → AV.int .i64 (fK (p2 t) l k) = .int .i64 (fK (p2 t) l (k + 1)) := fun h => congrArg _ (fK_no hb h)
        have f1 : p1 (t : Int) b = true → fK (p1 t) l k = 0 → AV.int .i64 b.m = .int .i64 (fK (p1 t) l (k + 1)) := fun h h0 => congrArg _ (fK_first hm hb h h0)
        have f2 : p2 (t : Int) b = true → fK (p2 t) l k = 0 → AV.int .i64 b.m = .int .i64 (fK (p2 t) l (k + 1)) := fun h h0 => congrArg _ (fK_first hm hb h h0)
        have m1 : fK (p1 t) l k ≠ 0 → AV.int .i64 (fK (p1 t) l k) = .int .i64 (fK (p1 t) l (k + 1)) := fun h0 => congrArg _ (fK_more h0)
        have m2 : fK (p2 t) l k ≠ 0 → AV.int .i64 (fK (p2 t) l k) = .int .i64 (fK (p2 t) l (k + 1)) := fun h0 => congrArg _ (fK_more h0)
        have x1 : decide (b.m > (t : Int)) = true → p1 (t : Int) b = false := fun h => by unfold p1; rw [h]; rfl
        have x1' : decide (b.m > (t : Int)) = false → p1 (t : Int) b = true := fun h => by unfold p1; rw [h]; rfl
        have x2 : p1 (t : Int) b = false → p2 (t : Int) b = false := fun h => by unfold p2; rw [h]; rfl
        have x3 : p1 (t : Int) b = true → (b.n == 2) = true → p2 (t : Int) b = true := fun h h' => by unfold p2; rw [h, h']; rfl
        have x4 : (b.n == 2) = false → p2 (t : Int) b = false := fun h' => by unfold p2; rw [h', Bool.and_false]
        have z1 : ∀ {x : Int}, (x == 0) = true → x = 0 := fun h => by simpa using h
        have z0 : ∀ {x : Int}, (x == 0) = false → x ≠ 0 := fun h => by simpa using h
        exact ACode.vc (.br 72 true <| .cells (encBr b) <| .both 78 .nil <| .both 80 (.both 85 (.both 89 .nil .nil) .nil) (.both 85 (.both 89 .nil .nil) .nil)) hn hl (.round .cl)
          ⟨ltLen hlt, idx hb, fun h => ⟨k + 1, hlt, mu1 hlt, m8_le rfl rfl rfl rfl rfl rfl (n1 (x1 h)) (n2 (x2 (x1 h))) rfl rfl ek rfl rfl⟩,
            fun h => ⟨fun h1 => ⟨fun h2 => ⟨fun h3 => ⟨k + 1, hlt, mu1 hlt, m8_le rfl rfl rfl rfl rfl rfl (f1 (x1' h) (z1 h1)) (f2 (x3 (x1' h) h3) (z1 h2)) rfl rfl ek rfl rfl⟩,
                fun h3 => ⟨k + 1, hlt, mu1 hlt, m8_le rfl rfl rfl rfl rfl rfl (f1 (x1' h) (z1 h1)) (n2 (x4 h3)) rfl rfl ek rfl rfl⟩⟩,
              fun h2 => ⟨k + 1, hlt, mu1 hlt, m8_le rfl rfl rfl rfl rfl rfl (f1 (x1' h) (z1 h1)) (m2 (z0 h2)) rfl rfl ek rfl rfl⟩⟩,
              fun h1 => ⟨fun h2 => ⟨fun h3 => ⟨k + 1, hlt, mu1 hlt, m8_le rfl rfl rfl rfl rfl rfl (m1 (z0 h1)) (f2 (x3 (x1' h) h3) (z1 h2)) rfl rfl ek rfl rfl⟩,
                fun h3 => ⟨k + 1, hlt, mu1 hlt, m8_le rfl rfl rfl rfl rfl rfl (m1 (z0 h1)) (n2 (x4 h3)) rfl rfl ek rfl rfl⟩⟩,
              fun h2 => ⟨k + 1, hlt, mu1 hlt, m8_le rfl rfl rfl rfl rfl rfl (m1 (z0 h1)) (m2 (z0 h2)) rfl rfl ek rfl rfl⟩⟩⟩⟩
      · have hk' : k = l.length := by omega
        subst hk'
        rcases hcase2 with ⟨b, h1, h2, h3, h4, h5⟩ | ⟨b, h1, h2, h3, h4, h5⟩ | ⟨h1, h2, h3, h4⟩
        · subst h1
          have nb := (neqB ((0 : Int) == 2) (decide ((t : Int) ≤ c))).trans (show _ = some (⟨.bool false, []⟩ : Out) by rw [h5]; rfl)
          have k113 : decide (fK (p2 t) l l.length > 0) = true := decide_eq_true (by omega)
          have k120 : (b.m != fK (p2 t) l l.length) = false := by rw [h3]; simp
          have k125 : (fK (p2 t) l l.length == 0) = false := by rw [beq_eq_false_iff_ne]; omega
          have k141 : (fK (p1 t) l l.length == 0) = false := by rw [beq_eq_false_iff_ne]; exact h4
          exact ACode.vc (.br 72 false .nil) hn hl (.round .cl) ⟨geLen hlt, _, .refl _, .call (.tup [.int .u8 0, .int .i64 b.m, .int .i64 0]) <| .val 109 (.bool false) [] <| .br 114 true <| .br 111 false <| .br 126 false <| .br 142 false <| .draw 20 <| .nz <| .call (.tup [.int .u8 K2.1, .int .i64 K2.2, .int .i64 0]) .nil,
            sK1, Eq.trans (by kernel_rfl) nb, k113, k120, k125, k141, by kernel_rfl, mixed, by kernel_rfl, e161, sK2, by kernel_rfl, rB (decide_eq_true hle)⟩
        · subst h1
          have nb := (neqB ((1 : Int) == 2) (decide ((t : Int) ≤ c))).trans (show _ = some (⟨.bool false, []⟩ : Out) by rw [h5]; rfl)
          have k113 : decide (fK (p2 t) l l.length > 0) = false := decide_eq_false (by omega)
          have k125 : (fK (p2 t) l l.length == 0) = true := by rw [beq_iff_eq]; exact h3
          have k128 : decide (fK (p1 t) l l.length > 0) = true := decide_eq_true (by omega)
          have k136 : (b.m != fK (p1 t) l l.length) = false := by rw [h4]; simp
          have k141 : (fK (p1 t) l l.length == 0) = false := by rw [beq_eq_false_iff_ne]; omega
          exact ACode.vc (.br 72 false .nil) hn hl (.round .cl) ⟨geLen hlt, _, .refl _, .call (.tup [.int .u8 1, .int .i64 b.m, .int .i64 0]) <| .val 109 (.bool false) [] <| .br 114 false <| .br 126 true <| .br 130 true <| .br 123 false <| .br 142 false <| .draw 20 <| .nz <| .call (.tup [.int .u8 K2.1, .int .i64 K2.2, .int .i64 0]) .nil,
            sK1, Eq.trans (by kernel_rfl) nb, k113, k125, k128, k136, k141, by kernel_rfl, mixed, by kernel_rfl, e161, sK2, by kernel_rfl, rB (decide_eq_true hle)⟩
        · subst h1
          have nb := (neqB ((2 : Int) == 2) (decide ((t : Int) ≤ c))).trans (show _ = some (⟨.bool false, []⟩ : Out) by rw [h4]; rfl)
          have k113 : decide (fK (p2 t) l l.length > 0) = false := decide_eq_false (by omega)
          have k125 : (fK (p2 t) l l.length == 0) = true := by rw [beq_iff_eq]; exact h2
          have k128 : decide (fK (p1 t) l l.length > 0) = false := decide_eq_false (by omega)
          have k141 : (fK (p1 t) l l.length == 0) = true := by rw [beq_iff_eq]; exact h3
          exact ACode.vc (.br 72 false .nil) hn hl (.round .cl) ⟨geLen hlt, _, .refl _, .call (.tup [.int .u8 2, .int .i64 0, .int .i64 0]) <| .val 109 (.bool false) [] <| .br 114 false <| .br 126 true <| .br 130 false <| .br 142 true <| .draw 20 <| .nz <| .call (.tup [.int .u8 K2.1, .int .i64 K2.2, .int .i64 0]) .nil,
            sK1, Eq.trans (by kernel_rfl) nb, k113, k125, k128, k141, by kernel_rfl, mixed, by kernel_rfl, e161, sK2, by kernel_rfl, rB (decide_eq_true hle)⟩
  · have hrd' : readyB r u = false := by simpa using hrd
    rw [hrd'] at sR
    exact APure.vc Try.func8 rfl (.call (.bool true) <| .call (.bool false) .nil) rfl rfl ⟨alive_spec, sR, rB rfl⟩
end Go.Proofs.Yticiopkiikcokaa
