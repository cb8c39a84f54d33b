/-
  WHAT IS VALID, AS THE REFERENCE TELLS IT.
-/
import Derived.Test.YtcbdggmojnnbdaaDoorZ1
import Derived.Test.YtcbdggmojnnbdaaDoorR0
namespace Go.Proofs.YtcbdggmojnnbdaaDoor
open Go Go.Am
set_option maxRecDepth 100000
set_option maxHeartbeats 16000000
/-- The state of the reference's walk, with one loop's counter. -/
def netS (n : Nt) (E : Env) : St := ⟨(1, .vptr 0 0) :: E, [(0, .cells (cN n))], 1⟩
theorem nLe {n : Nt} {E : Env} {S : St} (h1 : elook S.env 1 = .vptr 0 0) (hE : leE S.env 1 E) (h0 : hget S.H 0 = some (.cells (cN n))) : (netS n E).le S := St.le.of ⟨h1, rfl, hE⟩ ⟨h0, (by decide : (0 : Nat) < 1), rfl, trivial⟩
def sizeB (n : Nt) : Bool := inB 1 12 n.ps.length && (inB 1 8 n.hs.length && (inB 1 4 n.pm.length && (inB 0 ((n.pm.length : Int) - 1) n.out && (spB n.tLo n.tHi 1000000 && inB 0 600 n.mins))))
theorem netB_parts (n : Nt) : netB n = (sizeB n && (allI pipeB n.ps && (allI (headI n.hs n.ps.length) n.hs && n.pm.all pumpB))) := by
  unfold netB pipesB headsB pumpsB sizeB
  cases inB 1 12 n.ps.length <;> cases inB 1 8 n.hs.length <;> cases inB 1 4 n.pm.length <;> cases inB 0 ((n.pm.length : Int) - 1) n.out <;> cases spB n.tLo n.tHi 1000000 <;> cases inB 0 600 n.mins <;> cases allI pipeB n.ps <;> cases allI (headI n.hs n.ps.length) n.hs <;> simp
theorem rNet_spec (n : Nt) (hbig : n.ps.length ≤ 1000 ∧ n.hs.length ≤ 1000 ∧ n.pm.length ≤ 1000) : APure Tryd.prog 54 [encN n] (.bool (netB n)) := by
  have p1 : ((n.ps.map cP).length : Int) = n.ps.length := by rw [List.length_map]
  have p2 : ((n.hs.map cH).length : Int) = n.hs.length := by rw [List.length_map]
  have p3 : ((n.pm.map cM).length : Int) = n.pm.length := by rw [List.length_map]
  have s1 := rwithin_spec ((n.ps.map cP).length : Int) 1 12
  have s2 := rwithin_spec ((n.hs.map cH).length : Int) 1 8
  have s3 := rwithin_spec ((n.pm.map cM).length : Int) 1 4
  have s4 := rwithin_spec n.out 0 (IntKind.i64.wrap (((n.pm.map cM).length : Int) - 1))
  have w4 : IntKind.i64.wrap (((n.pm.map cM).length : Int) - 1) = (n.pm.length : Int) - 1 := by rw [p3, wrap64 (by omega) (by omega)]
  have s5 := spanned_spec n.tLo n.tHi 1000000
  have s6 := rwithin_spec n.mins 0 600
  have e1 : inB 1 12 ((n.ps.map cP).length : Int) = inB 1 12 n.ps.length := by rw [p1]
  have e2 : inB 1 8 ((n.hs.map cH).length : Int) = inB 1 8 n.hs.length := by rw [p2]
  have e3 : inB 1 4 ((n.pm.map cM).length : Int) = inB 1 4 n.pm.length := by rw [p3]
  have e4 : inB 0 (IntKind.i64.wrap (((n.pm.map cM).length : Int) - 1)) n.out = inB 0 ((n.pm.length : Int) - 1) n.out := by rw [w4]
  rw [e1] at s1
  rw [e2] at s2
  rw [e3] at s3
  rw [e4] at s4
  have bad : sizeB n = false → some (AV.bool false) = some (AV.bool (netB n)) := fun h => by rw [netB_parts, h]; rfl
  cases h1 : inB 1 12 n.ps.length
  · rw [h1] at s1
    exact APure.vc Tryd.func54 rfl (.call (.bool false) .nil) rfl rfl ⟨s1, trivial, bad (by simp [sizeB, h1])⟩
  rw [h1] at s1
  cases h2 : inB 1 8 n.hs.length
  · rw [h2] at s2
    exact APure.vc Tryd.func54 rfl (.call (.bool true) <| .call (.bool false) .nil) rfl rfl ⟨s1, s2, trivial, bad (by simp [sizeB, h2])⟩
  rw [h2] at s2
  cases h3 : inB 1 4 n.pm.length
  · rw [h3] at s3
    exact APure.vc Tryd.func54 rfl (.call (.bool true) <| .call (.bool true) <| .call (.bool false) .nil) rfl rfl ⟨s1, s2, s3, trivial, bad (by simp [sizeB, h3])⟩
  rw [h3] at s3
  cases h4 : inB 0 ((n.pm.length : Int) - 1) n.out
  · rw [h4] at s4
    exact APure.vc Tryd.func54 rfl (.call (.bool true) <| .call (.bool true) <| .call (.bool true) <| .call (.bool false) .nil) rfl rfl ⟨s1, s2, s3, s4, trivial, bad (by simp [sizeB, h4])⟩
  rw [h4] at s4
  cases h5 : spB n.tLo n.tHi 1000000
  · rw [h5] at s5
    exact APure.vc Tryd.func54 rfl (.call (.bool true) <| .call (.bool true) <| .call (.bool true) <| .call (.bool true) <| .call (.bool false) .nil) rfl rfl ⟨s1, s2, s3, s4, s5, trivial, bad (by simp [sizeB, h5])⟩
  rw [h5] at s5
  cases h6 : inB 0 600 n.mins
  · rw [h6] at s6
    exact APure.vc Tryd.func54 rfl (.call (.bool true) <| .call (.bool true) <| .call (.bool true) <| .call (.bool true) <| .call (.bool true) <| .call (.bool false) .nil) rfl rfl ⟨s1, s2, s3, s4, s5, s6, trivial, bad (by simp [sizeB, h6])⟩
  rw [h6] at s6
  have hz : sizeB n = true := by simp [sizeB, h1, h2, h3, h4, h5, h6]
  have bP : allI pipeB n.ps = false → some (AV.bool false) = some (AV.bool (netB n)) := fun h => by rw [netB_parts, h]; simp
  have bH : allI (headI n.hs n.ps.length) n.hs = false → some (AV.bool false) = some (AV.bool (netB n)) := fun h => by rw [netB_parts, h]; simp
  have bM : n.pm.all pumpB = false → some (AV.bool false) = some (AV.bool (netB n)) := fun h => by rw [netB_parts, h]; simp
  have good : allI pipeB n.ps = true → allI (headI n.hs n.ps.length) n.hs = true → n.pm.all pumpB = true → some (AV.bool true) = some (AV.bool (netB n)) := fun h h' h'' => by rw [netB_parts, hz, h, h', h'']; rfl
  clear bad e1 e2 e3 e4 hz
  refine APure.intro Tryd.func54 rfl rfl rfl fun g hn hl => ?_
  replace hn : g.n = 144 := hn
  replace hl : g.low 0 := hl
  have hl1 : g.low 1 := hl.mono (Nat.zero_le _)
  refine ACode.cut 2 (fun _ : Unit => netS n []) (fun _ => allI pipeB n.ps = true) (.call (.bool true) <| .call (.bool true) <| .call (.bool true) <| .call (.bool true) <| .call (.bool true) <| .call (.bool true) .loop) hn hl .ret rfl ⟨s1, s2, s3, s4, s5, s6, ?l1⟩ fun _ hP => ?r1
  case l1 =>
    intro g' hn' hl'
    replace hn' : g'.n = 144 := hn'
    replace hl' : g'.low 0 := hl'
    refine acode_while (fun k : Nat => netS n [(3, .int .i64 k)]) (fun k => k ≤ n.ps.length ∧ allI pipeB (n.ps.take k) = true) (fun k => n.ps.length - k) 0 ⟨Nat.zero_le _, rfl⟩ ?_ (fun _ _ => hl'.mono (Nat.zero_le _)) ?_
    · exact nLe (by kernel_rfl) ⟨by kernel_rfl, rfl, trivial⟩ (by kernel_rfl)
    · rintro k ⟨hk1, hk2⟩
      by_cases hlt : k < n.ps.length
      · refine Exists.elim (getE hlt) fun p hp => ?_
        have ek := congrArg (AV.int .i64) (succ64 (k := k) (by omega))
        have e22 : (p.to != IntKind.i64.wrap ((k : Int) + 1)) = !decide (p.to = (k : Int) + 1) := by rw [wrap64 (by omega) (by omega)]; rfl
        have sW := rwithin_spec p.fr 0 k
        have sS := spanned_spec p.lo p.hi 1000
        have bad' : pipeB k p = false → some (AV.bool false) = some (AV.bool (netB n)) := fun h => bP (allI_bad hp h)
        cases c1 : decide (p.to = (k : Int) + 1)
        · rw [c1] at e22
          exact ACode.vcM (.br 53 true <| .cells (cP p) <| .br 66 true .nil) hn' hl' (.round .cl) ⟨ltLen hlt, idx hp, e22, _, .refl _, .nil, trivial, bad' (by simp [pipeB, c1])⟩
        · rw [c1] at e22
          cases c2 : inB 0 k p.fr
          · rw [c2] at sW
            exact ACode.vcM (.br 53 true <| .cells (cP p) <| .br 66 false <| .call (.bool false) .nil) hn' hl' (.round .cl) ⟨ltLen hlt, idx hp, e22, sW, _, .refl _, .nil, trivial, bad' (by simp [pipeB, c2])⟩
          · rw [c2] at sW
            cases c3 : spB p.lo p.hi 1000
            · rw [c3] at sS
              exact ACode.vcM (.br 53 true <| .cells (cP p) <| .br 66 false <| .call (.bool true) <| .call (.bool false) .nil) hn' hl' (.round .cl) ⟨ltLen hlt, idx hp, e22, sW, sS, _, .refl _, .nil, trivial, bad' (by simp [pipeB, c3])⟩
            · rw [c3] at sS
              have gd : allI pipeB (n.ps.take (k + 1)) = true := by rw [allI_take hp, hk2]; simp [pipeB, c1, c2, c3]
              exact ACode.vcM (.br 53 true <| .cells (cP p) <| .br 66 false <| .call (.bool true) <| .call (.bool true) .nil) hn' hl' (.round .cl) ⟨ltLen hlt, idx hp, e22, sW, sS, k + 1, ⟨hlt, gd⟩, mu1 hlt, nLe (by kernel_rfl) ⟨Eq.trans (by kernel_rfl) ek, rfl, trivial⟩ (by kernel_rfl)⟩
      · have hk' : k = n.ps.length := by omega
        have gd : allI pipeB n.ps = true := by rw [hk', List.take_length] at hk2; exact hk2
        exact ACode.vcM (.br 53 false .nil) hn' hl' (.round .cl) ⟨geLen hlt, _, .refl _, .nil, (), gd, Wk.le (nLe (by kernel_rfl) trivial (by kernel_rfl)) hl1⟩
  case r1 =>
  refine ACode.cut 0 (fun _ : Unit => netS n []) (fun _ => allI (headI n.hs n.ps.length) n.hs = true) .loop hn hl .ret rfl ?l2 fun _ hH => ?r2
  case l2 =>
    intro g' hn' hl'
    replace hn' : g'.n = 144 := hn'
    replace hl' : g'.low 0 := hl'
    refine acode_while (fun k : Nat => netS n [(5, .int .i64 k)]) (fun k => k ≤ n.hs.length ∧ allI (headI n.hs n.ps.length) (n.hs.take k) = true) (fun k => n.hs.length - k) 0 ⟨Nat.zero_le _, rfl⟩ ?_ (fun _ _ => hl'.mono (Nat.zero_le _)) ?_
    · exact nLe (by kernel_rfl) ⟨by kernel_rfl, rfl, trivial⟩ (by kernel_rfl)
    · rintro k ⟨hk1, hk2⟩
      by_cases hlt : k < n.hs.length
      · refine Exists.elim (getE hlt) fun h hh => ?_
        have ek := congrArg (AV.int .i64) (succ64 (k := k) (by omega))
        have sB := Bulb_spec h
        have sW := rwithin_spec h.node 1 ((n.ps.map cP).length : Int)
        have eW : inB 1 ((n.ps.map cP).length : Int) h.node = inB 1 n.ps.length h.node := by rw [p1]
        rw [eW] at sW
        have bad' : headI n.hs n.ps.length k h = false → some (AV.bool false) = some (AV.bool (netB n)) := fun h => bH (allI_bad hh h)
        cases c1 : bulbB h
        · rw [c1] at sB
          exact ACode.vcM (.br 83 true <| .cells (cH h) <| .draw 25 <| .call (.bool false) .nil) hn' hl' (.round .cl) ⟨ltLen hlt, idx hh, by kernel_rfl, mixed, by kernel_rfl, sB, by kernel_rfl, _, .refl _, .nil, trivial, bad' (by simp [headI, headB, c1])⟩
        · rw [c1] at sB
          cases k with
          | zero =>
            cases c3 : inB 1 n.ps.length h.node
            · rw [c3] at sW
              exact ACode.vcM (.br 83 true <| .cells (cH h) <| .draw 25 <| .call (.bool true) <| .br 97 false <| .call (.bool false) .nil) hn' hl' (.round .cl) ⟨ltLen hlt, idx hh, by kernel_rfl, mixed, by kernel_rfl, sB, rfl, by kernel_rfl, sW, _, .refl _, .nil, trivial, bad' (by simp [headI, headB, c3])⟩
            · rw [c3] at sW
              have gd : allI (headI n.hs n.ps.length) (n.hs.take 1) = true := by rw [allI_take hh, hk2]; simp [headI, headB, c1, c3]
              exact ACode.vcM (.br 83 true <| .cells (cH h) <| .draw 25 <| .call (.bool true) <| .br 97 false <| .call (.bool true) .nil) hn' hl' (.round .cl) ⟨ltLen hlt, idx hh, by kernel_rfl, mixed, by kernel_rfl, sB, rfl, by kernel_rfl, sW, 1, ⟨hlt, gd⟩, mu1 hlt, nLe (by kernel_rfl) ⟨Eq.trans (by kernel_rfl) ek, rfl, trivial⟩ (by kernel_rfl)⟩
          | succ j =>
            refine Exists.elim (getE (show j < n.hs.length by omega)) fun h' hh' => ?_
            have ej : IntKind.i64.wrap (((j + 1 : Nat) : Int) - 1) = (j : Int) := pred64 (by omega)
            have d26 : decide (((j + 1 : Nat) : Int) > 0) = true := decide_eq_true (by omega)
            have eid : idAt n.hs j = h'.id := by simp only [idAt, List.getD_eq_getElem?_getD, hh', Option.getD_some]
            have eI : headI n.hs n.ps.length (j + 1) h = (headB n.ps.length h && !decide (h.id ≤ h'.id)) := by
              unfold headI
              rw [Nat.add_sub_cancel, eid, decide_eq_true (Nat.succ_pos j), Bool.true_and]
            cases c2 : decide (h.id ≤ h'.id)
            · cases c3 : inB 1 n.ps.length h.node
              · rw [c3] at sW
                exact ACode.vcM (.br 83 true <| .cells (cH h) <| .draw 25 <| .call (.bool true) <| .br 97 true <| .cells (cH h') <| .br 110 false <| .call (.bool false) .nil) hn' hl' (.round .cl) ⟨ltLen hlt, idx hh, by kernel_rfl, mixed, by kernel_rfl, sB, d26, idxW ej hh', c2, by kernel_rfl, sW, _, .refl _, .nil, trivial, bad' (by rw [eI]; simp [headB, c3])⟩
              · rw [c3] at sW
                have gd : allI (headI n.hs n.ps.length) (n.hs.take (j + 2)) = true := by rw [allI_take hh, hk2, eI]; simp only [headB, c1, c2, c3]; rfl
                exact ACode.vcM (.br 83 true <| .cells (cH h) <| .draw 25 <| .call (.bool true) <| .br 97 true <| .cells (cH h') <| .br 110 false <| .call (.bool true) .nil) hn' hl' (.round .cl) ⟨ltLen hlt, idx hh, by kernel_rfl, mixed, by kernel_rfl, sB, d26, idxW ej hh', c2, by kernel_rfl, sW, j + 2, ⟨hlt, gd⟩, mu1 hlt, nLe (by kernel_rfl) ⟨Eq.trans (by kernel_rfl) ek, rfl, trivial⟩ (by kernel_rfl)⟩
            · exact ACode.vcM (.br 83 true <| .cells (cH h) <| .draw 25 <| .call (.bool true) <| .br 97 true <| .cells (cH h') <| .br 110 true .nil) hn' hl' (.round .cl) ⟨ltLen hlt, idx hh, by kernel_rfl, mixed, by kernel_rfl, sB, d26, idxW ej hh', c2, by kernel_rfl, _, .refl _, .nil, trivial, bad' (by rw [eI, c2]; simp)⟩
      · have hk' : k = n.hs.length := by omega
        have gd : allI (headI n.hs n.ps.length) n.hs = true := by rw [hk', List.take_length] at hk2; exact hk2
        exact ACode.vcM (.br 83 false .nil) hn' hl' (.round .cl) ⟨geLen hlt, _, .refl _, .nil, (), gd, Wk.le (nLe (by kernel_rfl) trivial (by kernel_rfl)) hl1⟩
  case r2 =>
  refine ACode.vcM .loop hn hl .ret ?_
  intro g' hn' hl'
  replace hn' : g'.n = 144 := hn'
  replace hl' : g'.low 0 := hl'
  refine acode_while (fun k : Nat => netS n [(7, .int .i64 k)]) (fun k => k ≤ n.pm.length ∧ (n.pm.take k).all pumpB = true) (fun k => n.pm.length - k) 0 ⟨Nat.zero_le _, rfl⟩ ?_ (fun _ _ => hl'.mono (Nat.zero_le _)) ?_
  · exact nLe (by kernel_rfl) ⟨by kernel_rfl, rfl, trivial⟩ (by kernel_rfl)
  · rintro k ⟨hk1, hk2⟩
    by_cases hlt : k < n.pm.length
    · refine Exists.elim (getE hlt) fun p hp => ?_
      have ek := congrArg (AV.int .i64) (succ64 (k := k) (by omega))
      have sW := rwithin_spec p.sl 0 100
      have sS := spanned_spec p.lo p.hi 100000
      cases c1 : spB p.lo p.hi 100000
      · rw [c1] at sS
        exact ACode.vcM (.br 123 true <| .cells (cM p) <| .call (.bool false) .nil) hn' hl' (.round .cl) ⟨ltLen hlt, idx hp, sS, _, .refl _, .nil, trivial, bM (all_bad hp (by simp [pumpB, c1]))⟩
      · rw [c1] at sS
        cases c2 : inB 0 100 p.sl
        · rw [c2] at sW
          exact ACode.vcM (.br 123 true <| .cells (cM p) <| .call (.bool true) <| .cells (cM p) <| .call (.bool false) .nil) hn' hl' (.round .cl) ⟨ltLen hlt, idx hp, sS, idx hp, sW, _, .refl _, .nil, trivial, bM (all_bad hp (by simp [pumpB, c2]))⟩
        · rw [c2] at sW
          have gd : (n.pm.take (k + 1)).all pumpB = true := by rw [take_all hp, hk2]; simp [pumpB, c1, c2]
          exact ACode.vcM (.br 123 true <| .cells (cM p) <| .call (.bool true) <| .cells (cM p) <| .call (.bool true) .nil) hn' hl' (.round .cl) ⟨ltLen hlt, idx hp, sS, idx hp, sW, k + 1, ⟨hlt, gd⟩, mu1 hlt, nLe (by kernel_rfl) ⟨Eq.trans (by kernel_rfl) ek, rfl, trivial⟩ (by kernel_rfl)⟩
    · have hk' : k = n.pm.length := by omega
      have gd : n.pm.all pumpB = true := by rw [hk', List.take_length] at hk2; exact hk2
      exact ACode.vcM (.br 123 false .nil) hn' hl' (.round .cl) ⟨geLen hlt, _, .refl _, .nil, trivial, good hP hH gd⟩
theorem ready_spec (n : Nt) : APure Tryd.prog 31 [encN n] (.bool (netB n)) := by
  have sG := Great_spec n
  cases hg : (decide (n.ps.length > 20) || (decide (n.hs.length > 12) || decide (n.pm.length > 6)))
  · rw [hg] at sG
    simp only [Bool.or_eq_false_iff, decide_eq_false_iff_not] at hg
    have sN := rNet_spec n (by omega)
    exact APure.vc Tryd.func31 rfl (.call (.bool false) <| .call (.bool (netB n)) .nil) rfl rfl ⟨sG, sN, rB rfl⟩
  · rw [hg] at sG
    simp only [Bool.or_eq_true, decide_eq_true_eq] at hg
    have e : false = netB n := by
      cases hb : netB n
      · rfl
      · have ho := netB_iff.1 hb
        have := ho.pl
        have := ho.hl
        have := ho.ml
        omega
    exact APure.vc Tryd.func31 rfl (.call (.bool true) .nil) rfl rfl ⟨sG, rB e⟩
end Go.Proofs.YtcbdggmojnnbdaaDoor
