import Derived.Test.YtmdhgkfjlphliaaR5
/-
  WHY A RECORD DOES NOT HOLD: Rests, Causes.
-/
namespace Go.Proofs.Ytmdhgkfjlphliaa
open Go Go.Am
set_option maxRecDepth 100000
set_option maxHeartbeats 4000000
theorem ids_spec (r : List Rcd) (G : List Int) (S : Nat) (hr : r.length ≤ 12) (hS : S < 4096) : APureF Try.prog 40 [encAr r G, .int .i64 (S : Int)] (encR (idsOf r S)) := by
  refine APureF.vcM Try.func40 .loop rfl rfl ?_
  intro g hn hlo
  replace hn : g.n = 28 := hn
  replace hlo : g.low 0 := hlo
  refine acode_whileW (fun k : Nat => ⟨[(1, .int .i64 (S : Int)), (5, .rsl 1 0 (idsK r S k).length 1), (9, encPs (paps r)), (10, .int .i64 ((paps r).map cPp).length), (11, .int .i64 k)], [(1, .cells (iL (idsK r S k)))], 2⟩) (fun k => k ≤ r.length) (fun k => r.length - k) 0 (Nat.zero_le _) ?_ ?_
  · refine Wk.trans (Wk.le ?_ (hlo.mono (show 0 ≤ 2 by decide))) (Wk.own 5 1 (by kernel_rfl))
    exact St.le.of ⟨by kernel_rfl, rfl, by kernel_rfl, rfl, by kernel_rfl, rfl, by kernel_rfl, rfl, by kernel_rfl, rfl, trivial⟩ ⟨by kernel_rfl, (by decide : (1 : Nat) < 2), rfl, trivial⟩
  · intro k hk
    replace hk : k ≤ r.length := hk
    by_cases hlt : k < r.length
    · refine Exists.elim (getE hlt) fun x hx => ?_
      have ek := congrArg (AV.int .i64) (succ64 (k := k) (by omega))
      have hpl : k < (paps r).length := by rw [paps_len]; exact hlt
      have hp := paps_get hx
      have hb := bHas (S := S) (i := k) hS (by omega)
      have es := idsK_succ r S k
      have hl := idsK_len r S k
      rw [idA_get hx] at es
      refine (Bool.eq_false_or_eq_true (Nat.testBit S k)).symm.elim (fun hc => ?_) (fun hc => ?_)
      · rw [hc] at hb es
        have es : idsK r S (k + 1) = idsK r S k := es
        have e5 : AV.rsl 1 0 (idsK r S (k + 1)).length 1 = .rsl 1 0 (idsK r S k).length 1 := by rw [es]
        have o1 : some (AObj.cells (iL (idsK r S k))) = some (.cells (iL (idsK r S (k + 1)))) := by rw [es]
        exact ACode.vcM (.br 12 true <| .cells (cPp (x, k)) <| .br 19 false .nil) hn hlo (.roundW .cl) ⟨ltLen hpl, idx hp, hb, k + 1, hlt, mu1 hlt, Wk.le (St.le.of ⟨by kernel_rfl, rfl, Eq.trans (by kernel_rfl) e5.symm, rfl, by kernel_rfl, rfl, by kernel_rfl, rfl, Eq.trans (by kernel_rfl) ek, rfl, trivial⟩ ⟨Eq.trans (by kernel_rfl) o1, (by decide : (1 : Nat) < 2), iL_ok _ _, trivial⟩) (hlo.mono (show 0 ≤ 2 by decide))⟩
      · rw [hc] at hb es
        have es : idsK r S (k + 1) = idsK r S k ++ [x.id] := es
        have el : (idsK r S (k + 1)).length = (idsK r S k).length + 1 := by rw [es]; simp
        have ap := app_one (h := hget [(1, .cells (iL (idsK r S k))), (2, .cells (cPp (x, k))), (4, .cells [.int .i64 x.id])]) (i := 1) (j := 4) (nid := 5) (l := idsK r S k) (x := x.id) rfl rfl (by omega)
        rw [← es, ← el] at ap
        exact ACode.vcM (.br 12 true <| .cells (cPp (x, k)) <| .br 19 true <| .val 25 (.rsl 5 0 (idsK r S (k + 1)).length 1) [(1, none), (5, some (.cells (iL (idsK r S (k + 1)))))] .nil) hn hlo (.roundW .cl) ⟨ltLen hpl, idx hp, hb, Eq.trans (by kernel_rfl) ap, k + 1, hlt, mu1 hlt,
          Wk.ren (c := 1) (b := 5) (St.ren.of rfl (by decide) ⟨.inl ⟨by kernel_rfl, rfl⟩, .inr ⟨_, _, _, rfl, by kernel_rfl⟩, .inl ⟨by kernel_rfl, rfl⟩, .inl ⟨by kernel_rfl, rfl⟩, .inl ⟨Eq.trans (by kernel_rfl) ek, rfl⟩, trivial⟩ ⟨.inr ⟨rfl, by kernel_rfl, _, rfl, iL_ok _ _⟩, trivial⟩) (hlo.mono (show 0 ≤ 1 by decide))⟩
    · have hk' : k = r.length := by omega
      have hpl : ¬ k < (paps r).length := by rw [paps_len]; exact hlt
      have e : idsK r S k = idsOf r S := by rw [hk']; rfl
      have ht : thawF 8 (hget [(1, .cells (iL (idsK r S k)))]) (.rsl 1 0 (idsK r S k).length 1) = some (encR (idsOf r S), [1]) := by rw [thawF_ints 6 (l := idsK r S k) rfl, e]
      exact ACode.vcM (.br 12 false .nil) hn hlo (.roundW .cl) ⟨geLen hpl, _, .refl _, .nil, [1], Eq.trans (by kernel_rfl) ht⟩
theorem delO {h : Nat → Option AObj} {i : Nat} {l : List Int} {x : Int} (h0 : h i = some (.map (entsO l))) : aDelete Try.prog h 72 (.mref i) (.int .i64 x) = some ⟨.undef, [(i, some (.map (entsO (l.erase x))))]⟩ := by
  simp only [aDelete, ty72, ty3, h0]
  rw [if_pos (show akeyB Try.prog (.int .i64) (.int .i64 x) = true from rfl), afindO]
  by_cases hm : x ∈ l
  · rw [if_pos hm]
    have e : (entsO l).eraseIdx (0 + l.idxOf x) = entsO (l.erase x) := by
      rw [Nat.zero_add, List.erase_eq_eraseIdx_of_idxOf rfl]
      unfold entsO
      exact map_erase entO l _
    simp only []
    rw [e]
  · rw [if_neg hm, List.erase_of_not_mem hm]
def delK (G I : List Int) (k : Nat) : List Int := (I.take k).foldl (fun g i => g.erase i) G
def restG (r : List Rcd) (G : List Int) (S : Nat) : List Int := (idsOf r S).foldl (fun g i => g.erase i) G
theorem delK_succ {G I : List Int} {k : Nat} {x : Int} (hx : I[k]? = some x) : delK G I (k + 1) = (delK G I k).erase x := by
  unfold delK
  rw [List.take_add_one, hx, List.foldl_append]; rfl
theorem thawL_ag {h : Nat → Option AObj} {m : Nat} {p : AV} {G : List Int} {S : Int} (hp : p.ok 0 = true) (hm : h m = some (.map (entsO G))) : thawL h [.agg [p, .mref m], .int .i64 S] = some ([.agg [p, .imap (entsO G)], .int .i64 S], [m]) := by
  have e1 : thaw 8 h (.int .i64 S) = some (.int .i64 S, []) := by unfold thaw; exact if_pos rfl
  simp only [thawL, mapO, thawA hp hm, e1]
  rfl
theorem idsOf_len (r : List Rcd) (S : Nat) : (idsOf r S).length ≤ r.length := idsK_len r S r.length
theorem restored_spec (r : List Rcd) (G : List Int) (S : Nat) (hr : r.length ≤ 12) (hS : S < 4096) : APure Try.prog 83 [encAr r G, .int .i64 (S : Int)] (encAr r (restG r G S)) := by
  have sI := ids_spec r G S hr hS
  have hIl := idsOf_len r S
  unfold restG
  generalize idsOf r S = I at *
  have tI : thawL (hget [(0, .cells [encPs (paps r), .mref 2]), (1, .cells [.nil, .nmap]), (2, .map (entsO G))]) [.agg [encPs (paps r), .mref 2], .int .i64 (S : Int)] = some ([encAr r G, .int .i64 (S : Int)], [2]) := thawL_ag rfl rfl
  refine APure.vcM Try.func83 (.clone <| .lent (encR I) [2] .loop) rfl rfl ⟨Clone_spec, ⟨_, Eq.trans (by kernel_rfl) tI, .inr sI⟩, ?_⟩
  intro g hn hlo
  replace hn : g.n = 24 := hn
  replace hlo : g.low 0 := hlo
  refine acode_whileW (fun k : Nat => ⟨[(2, .vptr 0 0), (4, .vptr 1 0), (13, encR I), (14, .int .i64 (I.map encI).length), (15, .int .i64 k)], [(0, .cells [encPs (paps r), .mref 2]), (1, .cells [.nil, .nmap]), (2, .map (entsO (delK G I k)))], 3⟩) (fun k => k ≤ I.length) (fun k => I.length - k) 0 (Nat.zero_le _) ?_ ?_
  · exact Wk.le (St.le.of ⟨by kernel_rfl, rfl, by kernel_rfl, rfl, by kernel_rfl, rfl, by kernel_rfl, rfl, by kernel_rfl, rfl, trivial⟩ ⟨by kernel_rfl, (by decide : (0 : Nat) < 3), rfl, by kernel_rfl, (by decide : (1 : Nat) < 3), rfl, by kernel_rfl, (by decide : (2 : Nat) < 3), okE_entsO _ _, trivial⟩) (hlo.mono (Nat.zero_le _))
  · intro k hk
    replace hk : k ≤ I.length := hk
    by_cases hlt : k < I.length
    · refine Exists.elim (getE hlt) fun x hx => ?_
      have ek := congrArg (AV.int .i64) (succ64 (k := k) (by omega))
      have dl := delO (h := hget [(0, .cells [encPs (paps r), .mref 2]), (1, .cells [.nil, .nmap]), (2, .map (entsO (delK G I k)))]) (i := 2) (l := delK G I k) (x := x) rfl
      rw [← delK_succ hx] at dl
      exact ACode.vcM (.br 16 true <| .cells (encI x) <| .val 0 .undef [(2, some (.map (entsO (delK G I (k + 1)))))] .nil) hn hlo (.roundW .cl) ⟨ltLen hlt, idx hx, Eq.trans (by kernel_rfl) dl, k + 1, hlt, mu1 hlt, Wk.le (St.le.of ⟨by kernel_rfl, rfl, by kernel_rfl, rfl, by kernel_rfl, rfl, by kernel_rfl, rfl, Eq.trans (by kernel_rfl) ek, rfl, trivial⟩ ⟨by kernel_rfl, (by decide : (0 : Nat) < 3), rfl, by kernel_rfl, (by decide : (1 : Nat) < 3), rfl, by kernel_rfl, (by decide : (2 : Nat) < 3), okE_entsO _ _, trivial⟩) (hlo.mono (show 0 ≤ 3 by decide))⟩
    · have hk' : k = I.length := by omega
      have e : delK G I k = I.foldl (fun g i => g.erase i) G := by unfold delK; rw [hk', List.take_length]
      have ht : thaw 8 (hget [(0, .cells [encPs (paps r), .mref 2]), (1, .cells [encPs (paps r), .mref 2]), (2, .map (entsO (delK G I k)))]) (.agg [encPs (paps r), .mref 2]) = some (encAr r (I.foldl (fun g i => g.erase i) G), [2]) := by rw [thawA (G := delK G I k) rfl rfl, e]; rfl
      exact ACode.vcM (.br 16 false .nil) hn hlo (.roundW .cl) ⟨geLen hlt, _, .refl _, .nil, [2], Eq.trans (by kernel_rfl) ht⟩
def causP (r : List Rcd) (G : List Int) (id : Int) (S : Nat) : Bool := (heldV (gF (restG r G S)) [] r).contains id
theorem causP_spec (r : List Rcd) (G : List Int) (id : Int) (S : Nat) (ha : Ar r) (hS : S < 4096) : APure Try.prog 82 [.int .i64 (S : Int), .cptr (cAr r G), .cptr [.int .i64 id]] (.bool (causP r G id S)) := by
  have s1 := restored_spec r G S ha.len hS
  have s2 := holds_spec r (restG r G S) id ha
  unfold causP
  generalize restG r G S = G' at *
  generalize (heldV (gF G') [] r).contains id = B at *
  exact APure.vcM Try.func82 (.draw 4 <| .call (encAr r G') <| .call (.bool B) .nil) rfl rfl ⟨by kernel_rfl, mixed, by kernel_rfl, s1, by kernel_rfl, s2, [], by kernel_rfl⟩
theorem caus_fewest (of : Nat) (ho : of < 4096) (q : Int) (r : List Rcd) (G : List Int) (ha : Ar r) : APure Try.prog 79 [.int .i64 (of : Int), .fn (.func 82) [] [.cptr (cAr r G), .cptr [.int .i64 q]]] (.int .i64 (fewV of (causP r G q) : Int)) := by
  unfold fewV
  refine APure.vcM Try.func79 .loop rfl rfl ?_
  intro g hn hlo
  replace hn : g.n = 29 := hn
  replace hlo : g.low 0 := hlo
  refine acode_whileW (fun k : Nat => ⟨[(0, .int .i64 (of : Int)), (1, .fn (.func 82) [] [.cptr (cAr r G), .cptr [.int .i64 q]]), (5, .int .i64 (fewK of (causP r G q) k : Int)), (8, .int .i64 (of : Int)), (9, .int .i64 k)], [], 0⟩) (fun k => k ≤ of) (fun k => of - k) 0 (Nat.zero_le _) ?_ ?_
  · exact Wk.le (St.le.of ⟨by kernel_rfl, rfl, by kernel_rfl, rfl, by kernel_rfl, rfl, by kernel_rfl, rfl, by kernel_rfl, rfl, trivial⟩ trivial) hlo
  · intro k hk
    replace hk : k ≤ of := hk
    by_cases hlt : k < of
    · have ek := congrArg (AV.int .i64) (succ64 (k := k) (by omega))
      have d10 : decide ((k : Int) < (of : Int)) = true := decide_eq_true (by omega)
      have hbl := fewK_lt (causP r G q) ho k (by omega)
      have es : fewK of (causP r G q) (k + 1) = if fewB of (causP r G q) (fewK of (causP r G q) k) k then k else fewK of (causP r G q) k := rfl
      have v14 : some (⟨.int .i64 (IntKind.i64.wrap (BitVec.ofInt IntKind.i64.bits (k : Int) &&& ~~~BitVec.ofInt IntKind.i64.bits (of : Int)).toNat), []⟩ : Out) = some ⟨.int .i64 ((lessN k of : Nat) : Int), []⟩ := by rw [bLess (by omega)]
      have sB := isBefore_spec (a := k) (b := fewK of (causP r G q) k) (by omega) hbl
      have hk4 : k < 4096 := by omega
      have sP := causP_spec r G q k ha hk4
      unfold fewB at es
      cases c1 : (((lessN k of : Nat) : Int) == 0)
      · rw [c1] at es
        have es : AV.int .i64 (fewK of (causP r G q) k : Int) = .int .i64 (fewK of (causP r G q) (k + 1) : Int) := by rw [es]; rfl
        generalize lessN k of = D at *
        exact ACode.vcM (.br 10 true <| .val 14 (.int .i64 (D : Int)) [] <| .br 16 false .nil) hn hlo (.roundW .cl) ⟨d10, Eq.trans (by kernel_rfl) v14, c1, k + 1, hlt, mu1 hlt, Wk.le (St.le.of ⟨by kernel_rfl, rfl, by kernel_rfl, rfl, Eq.trans (by kernel_rfl) es, rfl, by kernel_rfl, rfl, Eq.trans (by kernel_rfl) ek, rfl, trivial⟩ trivial) hlo⟩
      · rw [c1] at es
        generalize lessN k of = D at *
        cases c2 : befB k (fewK of (causP r G q) k)
        · rw [c2] at es sB
          have es : AV.int .i64 (fewK of (causP r G q) k : Int) = .int .i64 (fewK of (causP r G q) (k + 1) : Int) := by rw [es]; rfl
          exact ACode.vcM (.br 10 true <| .val 14 (.int .i64 (D : Int)) [] <| .br 16 true <| .call (.bool false) .nil) hn hlo (.roundW .cl) ⟨d10, Eq.trans (by kernel_rfl) v14, c1, sB, k + 1, hlt, mu1 hlt, Wk.le (St.le.of ⟨by kernel_rfl, rfl, by kernel_rfl, rfl, Eq.trans (by kernel_rfl) es, rfl, by kernel_rfl, rfl, Eq.trans (by kernel_rfl) ek, rfl, trivial⟩ trivial) hlo⟩
        · rw [c2] at es sB
          cases c3 : (causP r G q) k
          · rw [c3] at es sP
            have es : AV.int .i64 (fewK of (causP r G q) k : Int) = .int .i64 (fewK of (causP r G q) (k + 1) : Int) := by rw [es]; rfl
            exact ACode.vcM (.br 10 true <| .val 14 (.int .i64 (D : Int)) [] <| .br 16 true <| .call (.bool true) <| .call (.bool false) .nil) hn hlo (.roundW .cl) ⟨d10, Eq.trans (by kernel_rfl) v14, c1, sB, sP, k + 1, hlt, mu1 hlt, Wk.le (St.le.of ⟨by kernel_rfl, rfl, by kernel_rfl, rfl, Eq.trans (by kernel_rfl) es, rfl, by kernel_rfl, rfl, Eq.trans (by kernel_rfl) ek, rfl, trivial⟩ trivial) hlo⟩
          · rw [c3] at es sP
            have es : AV.int .i64 (k : Int) = .int .i64 (fewK of (causP r G q) (k + 1) : Int) := by rw [es]; rfl
            exact ACode.vcM (.br 10 true <| .val 14 (.int .i64 (D : Int)) [] <| .br 16 true <| .call (.bool true) <| .call (.bool true) .nil) hn hlo (.roundW .cl) ⟨d10, Eq.trans (by kernel_rfl) v14, c1, sB, sP, k + 1, hlt, mu1 hlt, Wk.le (St.le.of ⟨by kernel_rfl, rfl, by kernel_rfl, rfl, Eq.trans (by kernel_rfl) es, rfl, by kernel_rfl, rfl, Eq.trans (by kernel_rfl) ek, rfl, trivial⟩ trivial) hlo⟩
    · have hk' : k = of := by omega
      have d10 : decide ((k : Int) < (of : Int)) = false := decide_eq_false (by omega)
      have ev : thaw 8 (hget []) (.int .i64 (fewK of (causP r G q) k : Int)) = some (.int .i64 (fewK of (causP r G q) of : Int), []) := by rw [hk']; unfold thaw; exact if_pos rfl
      exact ACode.vcM (.br 10 false .nil) hn hlo (.roundW .cl) ⟨d10, _, .refl _, .nil, [], Eq.trans (by kernel_rfl) ev⟩
def gS (r : List Rcd) (G : List Int) (k : Nat) : Nat := setN (fun i => gF G (idA r i)) k
theorem gS_lt {r : List Rcd} {G : List Int} {k : Nat} (h : k ≤ 12) : gS r G k < 4096 := Nat.lt_of_lt_of_le (setN_lt _ k) (Nat.pow_le_pow_right (by omega) h)
theorem gS_succ {r : List Rcd} {G : List Int} {k : Nat} {x : Rcd} (hx : r[k]? = some x) : gS r G (k + 1) = if G.contains x.id then gS r G k ||| 2 ^ k else gS r G k := by
  unfold gS
  rw [setN]
  simp only [idA_get hx]
  show (_ ||| if gF G x.id then _ else _) = if gF G x.id then _ else _
  cases gF G x.id
  · exact Nat.or_zero _
  · rfl
def causS (r : List Rcd) (G : List Int) (id : Int) : Nat := fewV (gS r G r.length) (causP r G id)
theorem causes_spec (r : List Rcd) (G : List Int) (id : Int) (ha : Ar r) : APure Try.prog 58 [encAr r G, .int .i64 id] (.int .i64 (causS r G id : Int)) := by
  have hr := ha.len
  have sF := caus_fewest (gS r G r.length) (gS_lt hr) id r G ha
  unfold causS
  generalize hF : fewV (gS r G r.length) (causP r G id) = F at *
  refine APure.vcM Try.func58 .loop rfl rfl ?_
  intro g hn hlo
  replace hn : g.n = 29 := hn
  replace hlo : g.low 0 := hlo
  refine acode_whileW (fun k : Nat => ⟨[(2, .vptr 0 0), (3, .vptr 1 0), (5, .int .i64 (gS r G k : Int)), (9, encPs (paps r)), (10, .int .i64 ((paps r).map cPp).length), (11, .int .i64 k)], [(0, .cells (cAr r G)), (1, .cells [.int .i64 id])], 2⟩) (fun k => k ≤ r.length) (fun k => r.length - k) 0 (Nat.zero_le _) ?_ ?_
  · exact Wk.le (St.le.of ⟨by kernel_rfl, rfl, by kernel_rfl, rfl, by kernel_rfl, rfl, by kernel_rfl, rfl, by kernel_rfl, rfl, by kernel_rfl, rfl, trivial⟩ ⟨by kernel_rfl, (by decide : (0 : Nat) < 2), rfl, by kernel_rfl, (by decide : (1 : Nat) < 2), rfl, trivial⟩) (hlo.mono (Nat.zero_le _))
  · intro k hk
    replace hk : k ≤ r.length := hk
    by_cases hlt : k < r.length
    · refine Exists.elim (getE hlt) fun x hx => ?_
      have ek := congrArg (AV.int .i64) (succ64 (k := k) (by omega))
      have hpl : k < (paps r).length := by rw [paps_len]; exact hlt
      have hp := paps_get hx
      have es := gS_succ (G := G) hx
      have lk := lookD (h := hget []) (l := G) (x := x.id)
      have hor : some (⟨.int .i64 (IntKind.i64.wrap (BitVec.ofInt IntKind.i64.bits ((gS r G k : Nat) : Int) ||| BitVec.ofInt IntKind.i64.bits ((2 ^ k : Nat) : Int)).toNat), []⟩ : Out) = some ⟨.int .i64 ((gS r G k ||| 2 ^ k : Nat) : Int), []⟩ := by rw [bOr (gS_lt (by omega)) (two_lt (by omega))]
      cases hg : G.contains x.id
      · rw [hg] at es lk
        have es : AV.int .i64 (gS r G k : Int) = .int .i64 (gS r G (k + 1) : Int) := by rw [es]; rfl
        exact ACode.vcM (.br 12 true <| .cells (cPp (x, k)) <| .val 20 (.bool false) [] .nil) hn hlo (.roundW .cl) ⟨ltLen hpl, idx hp, Eq.trans (by kernel_rfl) lk, k + 1, hlt, mu1 hlt, Wk.le (St.le.of ⟨by kernel_rfl, rfl, by kernel_rfl, rfl, Eq.trans (by kernel_rfl) es, rfl, by kernel_rfl, rfl, by kernel_rfl, rfl, Eq.trans (by kernel_rfl) ek, rfl, trivial⟩ ⟨by kernel_rfl, (by decide : (0 : Nat) < 2), rfl, by kernel_rfl, (by decide : (1 : Nat) < 2), rfl, trivial⟩) (hlo.mono (show 0 ≤ 2 by decide))⟩
      · rw [hg] at es lk
        have es : gS r G (k + 1) = gS r G k ||| 2 ^ k := es
        rw [← es] at hor
        exact ACode.vcM (.br 12 true <| .cells (cPp (x, k)) <| .val 20 (.bool true) [] <| .val 24 (.int .i64 (gS r G (k + 1) : Int)) [] .nil) hn hlo (.roundW .cl) ⟨ltLen hpl, idx hp, Eq.trans (by kernel_rfl) lk, Eq.trans (by kernel_rfl) hor, k + 1, hlt, mu1 hlt, Wk.le (St.le.of ⟨by kernel_rfl, rfl, by kernel_rfl, rfl, by kernel_rfl, rfl, by kernel_rfl, rfl, by kernel_rfl, rfl, Eq.trans (by kernel_rfl) ek, rfl, trivial⟩ ⟨by kernel_rfl, (by decide : (0 : Nat) < 2), rfl, by kernel_rfl, (by decide : (1 : Nat) < 2), rfl, trivial⟩) (hlo.mono (show 0 ≤ 2 by decide))⟩
    · have hk' : k = r.length := by omega
      have hpl : ¬ k < (paps r).length := by rw [paps_len]; exact hlt
      rw [← hk'] at sF
      exact ACode.vcM (.br 12 false .nil) hn hlo (.roundW .cl) ⟨geLen hpl, _, .refl _, .lent (.int .i64 (F : Int)) [0, 1] .nil, ⟨_, by kernel_rfl, .inl ⟨sF, .inr rfl⟩⟩, [], by kernel_rfl⟩
end Go.Proofs.Ytmdhgkfjlphliaa
/-
  WHAT A RECORD RESTS ON, AND WHY IT DOES NOT HOLD, ON A DAY.
-/
namespace Go.Proofs.Ytmdhgkfjlphliaa
open Go Go.Am
set_option maxRecDepth 100000
set_option maxHeartbeats 4000000
/-! ### on a day -/
def restE (r : List Rcd) (l : List Ltr) (d id : Int) : Int := if withE r l d id = 0 then (if (heldV (goneV l d) [] r).contains id then 0 else 8) else withE r l d id
def causE (r : List Rcd) (l : List Ltr) (d id : Int) : Int := if withE r l d id = 0 then (if (heldV (goneV l d) [] r).contains id then 8 else 0) else withE r l d id
def restD (r : List Rcd) (l : List Ltr) (d id : Int) : List Int := idsOf r (restS r (goneL l d r) id)
def causD (r : List Rcd) (l : List Ltr) (d id : Int) : List Int := idsOf r (causS r (goneL l d r) id)
theorem withE_0 {r : List Rcd} {l : List Ltr} {d id : Int} (h0 : withE r l d id = 0) : recsB r = true ∧ letsB r l = true := by
  have hd : dayE r l d = 0 := by
    by_cases h : dayE r l d = 0
    · exact h
    · unfold withE at h0; rw [if_neg h] at h0; exact h0
  exact check_0 (dayE_0 hd)
theorem fewV_lt {of : Nat} (p : Nat → Bool) (h : of < 4096) : fewV of p < 4096 := fewK_lt p h of (Nat.le_refl _)
theorem Rests_ok (r : List Rcd) (l : List Ltr) (d id : Int) : APureF Try.prog 19 [encRs r, encLs l, .int .i64 d, .int .i64 id] (encLe (restD r l d id) (restE r l d id)) := by
  have s1 := archiveWith_spec r l d id
  unfold encAw at s1
  by_cases h0 : withE r l d id = 0
  · rw [if_pos h0] at s1
    have ha := Ar_of (withE_0 h0).1
    have hrl := ha.len
    have sH := holds_spec r (goneL l d r) id ha
    rw [held_gone] at sH
    cases hh : (heldV (goneV l d) [] r).contains id
    · rw [hh] at sH
      have e0 : restE r l d id = 8 := by unfold restE; rw [if_pos h0, hh]; rfl
      have e : encLe (restD r l d id) (restE r l d id) = .tup [.nil, .int .i64 8] := by unfold encLe; rw [e0]; rfl
      rw [e]
      generalize goneL l d r = G at *
      exact APureF.vcM Try.func19 (.call (.tup [encAr r G, .int .i64 0]) <| .call (.bool false) .nil) rfl rfl ⟨s1, sH, [], by kernel_rfl⟩
    · rw [hh] at sH
      have e0 : restE r l d id = 0 := by unfold restE; rw [if_pos h0, hh]; rfl
      have sT := rests_spec r (goneL l d r) id ha
      have hS : restS r (goneL l d r) id < 4096 := fewV_lt _ (setK_4096 hrl)
      have e : encLe (restD r l d id) (restE r l d id) = .tup [encR (idsOf r (restS r (goneL l d r) id)), .int .i64 0] := by unfold encLe; rw [e0]; rfl
      rw [e]
      generalize restS r (goneL l d r) id = S at *
      generalize goneL l d r = G at *
      refine APureF.vcM Try.func19 (.call (.tup [encAr r G, .int .i64 0]) <| .call (.bool true) <| .draw 4 <| .call (.int .i64 (S : Int)) <| .inl Try.f40 .loop) rfl rfl ⟨s1, sH, by kernel_rfl, mixed, by kernel_rfl, sT, by kernel_rfl, Try.func40, ?_⟩
      intro g hn hlo
      replace hn : g.n = 28 := hn
      replace hlo : g.low 9 := hlo
      refine acode_whileW (fun k : Nat => ⟨[(1, .int .i64 (S : Int)), (5, .rsl 10 0 (idsK r S k).length 1), (9, encPs (paps r)), (10, .int .i64 ((paps r).map cPp).length), (11, .int .i64 k)], [(10, .cells (iL (idsK r S k)))], 11⟩) (fun k => k ≤ r.length) (fun k => r.length - k) 0 (Nat.zero_le _) ?_ ?_
      · refine Wk.trans (Wk.le ?_ (hlo.mono (show 9 ≤ 11 by decide))) (Wk.own 5 1 (by kernel_rfl))
        exact St.le.of ⟨by kernel_rfl, rfl, by kernel_rfl, rfl, by kernel_rfl, rfl, by kernel_rfl, rfl, by kernel_rfl, rfl, trivial⟩ ⟨by kernel_rfl, (by decide : (10 : Nat) < 11), rfl, trivial⟩
      · intro k hk
        replace hk : k ≤ r.length := hk
        by_cases hlt : k < r.length
        · refine Exists.elim (getE hlt) fun x hx => ?_
          have ek := congrArg (AV.int .i64) (succ64 (k := k) (by omega))
          have hpl : k < (paps r).length := by rw [paps_len]; exact hlt
          have hp := paps_get hx
          have hb := bHas (S := S) (i := k) hS (by omega)
          have es := idsK_succ r S k
          have hl := idsK_len r S k
          rw [idA_get hx] at es
          refine (Bool.eq_false_or_eq_true (Nat.testBit S k)).symm.elim (fun hc => ?_) (fun hc => ?_)
          · rw [hc] at hb es
            have es : idsK r S (k + 1) = idsK r S k := es
            have e5 : AV.rsl 10 0 (idsK r S (k + 1)).length 1 = .rsl 10 0 (idsK r S k).length 1 := by rw [es]
            have o1 : some (AObj.cells (iL (idsK r S k))) = some (.cells (iL (idsK r S (k + 1)))) := by rw [es]
            exact ACode.vcM (.br 12 true <| .cells (cPp (x, k)) <| .br 19 false .nil) hn hlo (.roundW .cl) ⟨ltLen hpl, idx hp, hb, k + 1, hlt, mu1 hlt, Wk.le (St.le.of ⟨by kernel_rfl, rfl, Eq.trans (by kernel_rfl) e5.symm, rfl, by kernel_rfl, rfl, by kernel_rfl, rfl, Eq.trans (by kernel_rfl) ek, rfl, trivial⟩ ⟨Eq.trans (by kernel_rfl) o1, (by decide : (10 : Nat) < 11), iL_ok _ _, trivial⟩) (hlo.mono (show 9 ≤ 11 by decide))⟩
          · rw [hc] at hb es
            have es : idsK r S (k + 1) = idsK r S k ++ [x.id] := es
            have el : (idsK r S (k + 1)).length = (idsK r S k).length + 1 := by rw [es]; simp
            have ap := app_one (h := hget [(10, .cells (iL (idsK r S k))), (11, .cells (cPp (x, k))), (13, .cells [.int .i64 x.id])]) (i := 10) (j := 13) (nid := 14) (l := idsK r S k) (x := x.id) rfl rfl (by omega)
            rw [← es, ← el] at ap
            exact ACode.vcM (.br 12 true <| .cells (cPp (x, k)) <| .br 19 true <| .val 25 (.rsl 14 0 (idsK r S (k + 1)).length 1) [(10, none), (14, some (.cells (iL (idsK r S (k + 1)))))] .nil) hn hlo (.roundW .cl) ⟨ltLen hpl, idx hp, hb, Eq.trans (by kernel_rfl) ap, k + 1, hlt, mu1 hlt,
              Wk.ren (c := 10) (b := 14) (St.ren.of rfl (by decide) ⟨.inl ⟨by kernel_rfl, rfl⟩, .inr ⟨_, _, _, rfl, by kernel_rfl⟩, .inl ⟨by kernel_rfl, rfl⟩, .inl ⟨by kernel_rfl, rfl⟩, .inl ⟨Eq.trans (by kernel_rfl) ek, rfl⟩, trivial⟩ ⟨.inr ⟨rfl, by kernel_rfl, _, rfl, iL_ok _ _⟩, trivial⟩) (hlo.mono (show 9 ≤ 10 by decide))⟩
        · have hk' : k = r.length := by omega
          have hpl : ¬ k < (paps r).length := by rw [paps_len]; exact hlt
          have e : idsK r S k = idsOf r S := by rw [hk']; rfl
          have ht : thawF 8 (hget [(10, .cells (iL (idsK r S k)))]) (.tup [.rsl 10 0 (idsK r S k).length 1, .int .i64 0]) = some (.tup [encR (idsOf r S), .int .i64 0], [10]) := by rw [thawF_tup (l := idsK r S k) rfl, e]
          exact ACode.vcM (.br 12 false .nil) hn hlo (.roundW .cl) ⟨geLen hpl, _, .refl _, .nil, [10], Eq.trans (by kernel_rfl) ht⟩
  · rw [if_neg h0] at s1
    have n0 : (withE r l d id != 0) = true := bne_iff_ne.2 h0
    have e0 : restE r l d id = withE r l d id := if_neg h0
    have e : encLe (restD r l d id) (restE r l d id) = .tup [.nil, .int .i64 (withE r l d id)] := by unfold encLe; rw [e0, if_neg h0]
    rw [e]
    generalize withE r l d id = E at *
    exact APureF.vcM Try.func19 (.call (.tup [.agg [.nil, .nmap], .int .i64 E]) <| .br 21 true .nil) rfl rfl ⟨s1, n0, [], by kernel_rfl⟩
theorem Causes_ok (r : List Rcd) (l : List Ltr) (d id : Int) : APureF Try.prog 21 [encRs r, encLs l, .int .i64 d, .int .i64 id] (encLe (causD r l d id) (causE r l d id)) := by
  have s1 := archiveWith_spec r l d id
  unfold encAw at s1
  by_cases h0 : withE r l d id = 0
  · rw [if_pos h0] at s1
    have ha := Ar_of (withE_0 h0).1
    have hrl := ha.len
    have sH := holds_spec r (goneL l d r) id ha
    rw [held_gone] at sH
    cases hh : (heldV (goneV l d) [] r).contains id
    · rw [hh] at sH
      have e0 : causE r l d id = 0 := by unfold causE; rw [if_pos h0, hh]; rfl
      have sT := causes_spec r (goneL l d r) id ha
      have hS : causS r (goneL l d r) id < 4096 := fewV_lt _ (gS_lt hrl)
      have e : encLe (causD r l d id) (causE r l d id) = .tup [encR (idsOf r (causS r (goneL l d r) id)), .int .i64 0] := by unfold encLe; rw [e0]; rfl
      rw [e]
      generalize causS r (goneL l d r) id = S at *
      generalize goneL l d r = G at *
      refine APureF.vcM Try.func21 (.call (.tup [encAr r G, .int .i64 0]) <| .call (.bool false) <| .draw 4 <| .call (.int .i64 (S : Int)) <| .inl Try.f40 .loop) rfl rfl ⟨s1, sH, by kernel_rfl, mixed, by kernel_rfl, sT, by kernel_rfl, Try.func40, ?_⟩
      intro g hn hlo
      replace hn : g.n = 28 := hn
      replace hlo : g.low 9 := hlo
      refine acode_whileW (fun k : Nat => ⟨[(1, .int .i64 (S : Int)), (5, .rsl 10 0 (idsK r S k).length 1), (9, encPs (paps r)), (10, .int .i64 ((paps r).map cPp).length), (11, .int .i64 k)], [(10, .cells (iL (idsK r S k)))], 11⟩) (fun k => k ≤ r.length) (fun k => r.length - k) 0 (Nat.zero_le _) ?_ ?_
      · refine Wk.trans (Wk.le ?_ (hlo.mono (show 9 ≤ 11 by decide))) (Wk.own 5 1 (by kernel_rfl))
        exact St.le.of ⟨by kernel_rfl, rfl, by kernel_rfl, rfl, by kernel_rfl, rfl, by kernel_rfl, rfl, by kernel_rfl, rfl, trivial⟩ ⟨by kernel_rfl, (by decide : (10 : Nat) < 11), rfl, trivial⟩
      · intro k hk
        replace hk : k ≤ r.length := hk
        by_cases hlt : k < r.length
        · refine Exists.elim (getE hlt) fun x hx => ?_
          have ek := congrArg (AV.int .i64) (succ64 (k := k) (by omega))
          have hpl : k < (paps r).length := by rw [paps_len]; exact hlt
          have hp := paps_get hx
          have hb := bHas (S := S) (i := k) hS (by omega)
          have es := idsK_succ r S k
          have hl := idsK_len r S k
          rw [idA_get hx] at es
          refine (Bool.eq_false_or_eq_true (Nat.testBit S k)).symm.elim (fun hc => ?_) (fun hc => ?_)
          · rw [hc] at hb es
            have es : idsK r S (k + 1) = idsK r S k := es
            have e5 : AV.rsl 10 0 (idsK r S (k + 1)).length 1 = .rsl 10 0 (idsK r S k).length 1 := by rw [es]
            have o1 : some (AObj.cells (iL (idsK r S k))) = some (.cells (iL (idsK r S (k + 1)))) := by rw [es]
            exact ACode.vcM (.br 12 true <| .cells (cPp (x, k)) <| .br 19 false .nil) hn hlo (.roundW .cl) ⟨ltLen hpl, idx hp, hb, k + 1, hlt, mu1 hlt, Wk.le (St.le.of ⟨by kernel_rfl, rfl, Eq.trans (by kernel_rfl) e5.symm, rfl, by kernel_rfl, rfl, by kernel_rfl, rfl, Eq.trans (by kernel_rfl) ek, rfl, trivial⟩ ⟨Eq.trans (by kernel_rfl) o1, (by decide : (10 : Nat) < 11), iL_ok _ _, trivial⟩) (hlo.mono (show 9 ≤ 11 by decide))⟩
          · rw [hc] at hb es
            have es : idsK r S (k + 1) = idsK r S k ++ [x.id] := es
            have el : (idsK r S (k + 1)).length = (idsK r S k).length + 1 := by rw [es]; simp
            have ap := app_one (h := hget [(10, .cells (iL (idsK r S k))), (11, .cells (cPp (x, k))), (13, .cells [.int .i64 x.id])]) (i := 10) (j := 13) (nid := 14) (l := idsK r S k) (x := x.id) rfl rfl (by omega)
            rw [← es, ← el] at ap
            exact ACode.vcM (.br 12 true <| .cells (cPp (x, k)) <| .br 19 true <| .val 25 (.rsl 14 0 (idsK r S (k + 1)).length 1) [(10, none), (14, some (.cells (iL (idsK r S (k + 1)))))] .nil) hn hlo (.roundW .cl) ⟨ltLen hpl, idx hp, hb, Eq.trans (by kernel_rfl) ap, k + 1, hlt, mu1 hlt,
              Wk.ren (c := 10) (b := 14) (St.ren.of rfl (by decide) ⟨.inl ⟨by kernel_rfl, rfl⟩, .inr ⟨_, _, _, rfl, by kernel_rfl⟩, .inl ⟨by kernel_rfl, rfl⟩, .inl ⟨by kernel_rfl, rfl⟩, .inl ⟨Eq.trans (by kernel_rfl) ek, rfl⟩, trivial⟩ ⟨.inr ⟨rfl, by kernel_rfl, _, rfl, iL_ok _ _⟩, trivial⟩) (hlo.mono (show 9 ≤ 10 by decide))⟩
        · have hk' : k = r.length := by omega
          have hpl : ¬ k < (paps r).length := by rw [paps_len]; exact hlt
          have e : idsK r S k = idsOf r S := by rw [hk']; rfl
          have ht : thawF 8 (hget [(10, .cells (iL (idsK r S k)))]) (.tup [.rsl 10 0 (idsK r S k).length 1, .int .i64 0]) = some (.tup [encR (idsOf r S), .int .i64 0], [10]) := by rw [thawF_tup (l := idsK r S k) rfl, e]
          exact ACode.vcM (.br 12 false .nil) hn hlo (.roundW .cl) ⟨geLen hpl, _, .refl _, .nil, [10], Eq.trans (by kernel_rfl) ht⟩
    · rw [hh] at sH
      have e0 : causE r l d id = 8 := by unfold causE; rw [if_pos h0, hh]; rfl
      have e : encLe (causD r l d id) (causE r l d id) = .tup [.nil, .int .i64 8] := by unfold encLe; rw [e0]; rfl
      rw [e]
      generalize goneL l d r = G at *
      exact APureF.vcM Try.func21 (.call (.tup [encAr r G, .int .i64 0]) <| .call (.bool true) .nil) rfl rfl ⟨s1, sH, [], by kernel_rfl⟩
  · rw [if_neg h0] at s1
    have n0 : (withE r l d id != 0) = true := bne_iff_ne.2 h0
    have e0 : causE r l d id = withE r l d id := if_neg h0
    have e : encLe (causD r l d id) (causE r l d id) = .tup [.nil, .int .i64 (withE r l d id)] := by unfold encLe; rw [e0, if_neg h0]
    rw [e]
    generalize withE r l d id = E at *
    exact APureF.vcM Try.func21 (.call (.tup [.agg [.nil, .nmap], .int .i64 E]) <| .br 21 true .nil) rfl rfl ⟨s1, n0, [], by kernel_rfl⟩
end Go.Proofs.Ytmdhgkfjlphliaa
