/-
  WHAT IS CALLED BACK: Recall.
-/
import Derived.Test.YtmdhgkfjlphliaaMV
namespace Go.Proofs.Ytmdhgkfjlphliaa
open Go Go.Am
set_option maxRecDepth 100000
set_option maxHeartbeats 4000000
def recallE (r : List Rcd) (l : List Ltr) (m : List Mov) (d : Int) : Int := if checkV r l = 0 then (if movsB r m = false then 82 else dayE r l d) else checkV r l
def recL (r : List Rcd) (l : List Ltr) (m : List Mov) (d : Int) : List Int := calL (heldW r l d) (outV m) (idsR r)
def recN (r : List Rcd) (l : List Ltr) (m : List Mov) (d : Int) : Int := calN (heldW r l d) (outV m) (idsR r)
def encRe (r : List Rcd) (l : List Ltr) (m : List Mov) (d : Int) : AV := if recallE r l m d = 0 then .tup [encR (recL r l m d), .int .i64 (recN r l m d), .int .i64 0] else .tup [.nil, .int .i64 0, .int .i64 (recallE r l m d)]
theorem setK_bitR (g : Int → Bool) {r : List Rcd} {k : Nat} {x : Rcd} (hx : r[k]? = some x) : (setK g r r.length).testBit k = (heldV g [] r).contains x.id := by
  unfold setK
  rw [setN_bit, decide_eq_true (List.getElem?_eq_some_iff.1 hx).1, idA_get hx]; rfl
theorem thawF_tup3 {h : Nat → Option AObj} {id : Nat} {l : List Int} {n : Int} (h0 : h id = some (.cells (iL l))) : thawF 8 h (.tup [.rsl id 0 l.length 1, .int .i64 n, .int .i64 0]) = some (.tup [encR l, .int .i64 n, .int .i64 0], [id]) := by
  have e : thawF 8 h (.tup [.rsl id 0 l.length 1, .int .i64 n, .int .i64 0]) = (mapO (thawF 7 h) [.rsl id 0 l.length 1, .int .i64 n, .int .i64 0]).map fun p => (.tup p.1, p.2) := rfl
  have e1 : thawF 7 h (.int .i64 0) = some (.int .i64 0, []) := rfl
  have e2 : thawF 7 h (.int .i64 n) = some (.int .i64 n, []) := rfl
  rw [e]
  simp only [mapO, thawF_ints 5 h0, e1, e2]
  rfl
theorem Recall_ok (r : List Rcd) (l : List Ltr) (m : List Mov) (d : Int) : APureF Try.prog 25 [encRs r, encLs l, encMs m, .int .i64 d] (encRe r l m d) := by
  have s1 := Check_spec r l
  unfold encRe
  by_cases h0 : checkV r l = 0
  · rw [h0] at s1
    have hR := (check_0 h0).1
    have ha := Ar_of hR
    have hrl := ha.len
    have s2 := areMoves_spec m r (by omega)
    cases h2 : movsB r m
    · rw [h2] at s2
      have e : recallE r l m d = 82 := by unfold recallE; rw [if_pos h0, if_pos h2]
      rw [e, if_neg (by decide)]
      exact APureF.vcM Try.func25 (.call (.int .i64 0) <| .call (.bool false) .nil) rfl rfl ⟨s1, s2, [], by kernel_rfl⟩
    rw [h2] at s2
    have e : recallE r l m d = dayE r l d := by unfold recallE; rw [if_pos h0, if_neg (by rw [h2]; decide)]
    rw [e]
    have s3 := archiveOn_spec r l d
    unfold encAe at s3
    by_cases h3 : dayE r l d = 0
    · rw [if_pos h3] at s3 ⊢
      have ho := (movs_len h2).2
      have hml := (movs_len h2).1
      have sS := standing_spec r (goneL l d r) ha
      have hS := setK_4096 (g := gF (goneL l d r)) (r := r) (k := r.length) hrl
      have hbit : ∀ (k : Nat) (x : Rcd), r[k]? = some x → (setK (gF (goneL l d r)) r r.length).testBit k = heldW r l d x.id := fun k x hx => by
        rw [setK_bitR _ hx, held_gone]; rfl
      have hob := fun b => outV_bnd ho b
      have hov : ∀ b, outV m b = (storeV m [b]).sold - (storeV m [b]).ret := fun b => rfl
      have sO := fun b => storeOfOne_spec m b ho
      have key : ∃ (A : Nat → List Int) (N : Nat → Int), A 0 = [] ∧ N 0 = 0 ∧ (∀ (k : Nat) (x : Rcd), r[k]? = some x → A (k + 1) = (if calB (heldW r l d) (outV m) x.id then A k ++ [x.id] else A k) ∧ N (k + 1) = N k + (if calB (heldW r l d) (outV m) x.id then outV m x.id else 0)) ∧
          (∀ k, k ≤ r.length → (A k).length ≤ k ∧ 0 ≤ N k ∧ N k ≤ 4000000 * k) ∧ A r.length = recL r l m d ∧ N r.length = recN r l m d := by
        have hl : (idsR r).length = r.length := by unfold idsR; rw [List.length_map]
        refine ⟨fun k => calL (heldW r l d) (outV m) ((idsR r).take k), fun k => calN (heldW r l d) (outV m) ((idsR r).take k), rfl, rfl, fun k x hx => ⟨calL_take (idsR_get hx), calN_take (idsR_get hx)⟩, fun k hk => ⟨?_, ?_⟩, ?_, ?_⟩
        · show (calL (heldW r l d) (outV m) ((idsR r).take k)).length ≤ k
          have := List.length_filter_le (calB (heldW r l d) (outV m)) ((idsR r).take k)
          rw [List.length_take] at this
          exact Nat.le_trans this (Nat.min_le_left _ _)
        · have := calN_bnd (W := heldW r l d) (o := outV m) (c := 4000000) (by omega) (fun i => by have := (hob i).2; omega) ((idsR r).take k)
          rw [List.length_take, hl, Nat.min_eq_left hk] at this
          exact this
        · show calL (heldW r l d) (outV m) ((idsR r).take r.length) = _
          rw [← hl, List.take_length]; rfl
        · show calN (heldW r l d) (outV m) ((idsR r).take r.length) = _
          rw [← hl, List.take_length]; rfl
      obtain ⟨A, N, hA0, hN0, hst, hbd, hAe, hNe⟩ := key
      rw [← hAe, ← hNe]
      have hcal : ∀ i, calB (heldW r l d) (outV m) i = (!heldW r l d i && decide (outV m i > 0)) := fun i => rfl
      have fb : ∀ (k : Nat) (x : Rcd), r[k]? = some x → (IntKind.i64.wrap (BitVec.ofInt IntKind.i64.bits ((setK (gF (goneL l d r)) r r.length : Nat) : Int) &&& BitVec.ofInt IntKind.i64.bits ((2 ^ k : Nat) : Int)).toNat == 0) = !heldW r l d x.id := fun k x hx => by
        have hk := (List.getElem?_eq_some_iff.1 hx).1
        have h1 := bHas (S := setK (gF (goneL l d r)) r r.length) (i := k) hS (by omega)
        rw [hbit k x hx] at h1
        rw [← h1, bne, Bool.not_not]
      have f29 : ∀ b, some (⟨.int .i64 (IntKind.i64.wrap ((storeV m [b]).sold - (storeV m [b]).ret)), []⟩ : Out) = some ⟨.int .i64 (outV m b), []⟩ := fun b => by
        have := hob b
        rw [← hov b, wrap64 (by omega) (by omega)]
      have f47 : ∀ k b, k ≤ r.length → some (⟨.int .i64 (IntKind.i64.wrap (N k + outV m b)), []⟩ : Out) = some ⟨.int .i64 (N k + outV m b), []⟩ := fun k b hk => by
        have := hob b
        have := hbd k hk
        rw [wrap64 (by omega) (by omega)]
      have no : ∀ (k : Nat) (x : Rcd), r[k]? = some x → calB (heldW r l d) (outV m) x.id = false → AV.rsl 3 0 (A k).length 1 = .rsl 3 0 (A (k + 1)).length 1 ∧ AV.int .i64 (N k) = .int .i64 (N (k + 1)) ∧ some (AObj.cells (iL (A k))) = some (.cells (iL (A (k + 1)))) := fun k x hx h => by
        obtain ⟨eA, eN⟩ := hst k x hx
        rw [h] at eA eN
        have eA : A (k + 1) = A k := eA
        have eN : N (k + 1) = N k := by rw [eN]; simp
        rw [eA, eN]; exact ⟨rfl, rfl, rfl⟩
      have yes : ∀ (k : Nat) (x : Rcd), r[k]? = some x → calB (heldW r l d) (outV m) x.id = true → A (k + 1) = A k ++ [x.id] ∧ (A (k + 1)).length = (A k).length + 1 ∧ N (k + 1) = N k + outV m x.id := fun k x hx h => by
        obtain ⟨eA, eN⟩ := hst k x hx
        rw [h] at eA eN
        have eA : A (k + 1) = A k ++ [x.id] := eA
        exact ⟨eA, by rw [eA]; simp, eN⟩
      clear hov hbit hst
      obtain ⟨ZF, hZF⟩ : ∃ ZF : Int → Sto, ∀ b, storeV m [b] = ZF b := ⟨_, fun _ => rfl⟩
      have sO : ∀ b, APure Try.prog 91 [encMs m, .int .i64 b] (encSt (ZF b)) := fun b => by have h := sO b; rw [hZF b] at h; exact h
      have f29 : ∀ b, some (⟨.int .i64 (IntKind.i64.wrap ((ZF b).sold - (ZF b).ret)), []⟩ : Out) = some ⟨.int .i64 (outV m b), []⟩ := fun b => by have h := f29 b; rw [hZF b] at h; exact h
      generalize setK (gF (goneL l d r)) r r.length = S at *
      generalize goneL l d r = G at *
      generalize calB (heldW r l d) (outV m) = CB at *
      generalize heldW r l d = W at *
      generalize outV m = OV at *
      refine APureF.vcM Try.func25 (.call (.int .i64 0) <| .call (.bool true) <| .call (.tup [encAr r G, .int .i64 0]) <| .inl Try.f66 <| .call (.int .i64 (S : Int)) .loop) rfl rfl ⟨s1, s2, s3, Try.func66, sS, ?_⟩
      intro g hn hlo
      replace hn : g.n = 51 := hn
      replace hlo : g.low 2 := hlo
      refine acode_whileW (fun k : Nat => ⟨[(1, encMs m), (4, .rsl 3 0 (A k).length 1), (5, .int .i64 (N k)), (6, .int .i64 (S : Int)), (14, encPs (paps r)), (15, .int .i64 ((paps r).map cPp).length), (16, .int .i64 k)], [(3, .cells (iL (A k)))], 4⟩) (fun k => k ≤ r.length) (fun k => r.length - k) 0 (Nat.zero_le _) ?_ ?_
      · refine Wk.trans (Wk.le ?_ (hlo.mono (show 2 ≤ 4 by decide))) (Wk.own 4 1 (by kernel_rfl))
        have o1 : some (AObj.cells []) = some (.cells (iL (A 0))) := by rw [hA0]; rfl
        have e4 : AV.rsl 3 0 0 1 = .rsl 3 0 (A 0).length 1 := by rw [hA0]; rfl
        have e5 : AV.int .i64 0 = .int .i64 (N 0) := by rw [hN0]
        exact St.le.of ⟨by kernel_rfl, rfl, Eq.trans (by kernel_rfl) e4, rfl, Eq.trans (by kernel_rfl) e5, rfl, by kernel_rfl, rfl, by kernel_rfl, rfl, by kernel_rfl, rfl, by kernel_rfl, rfl, trivial⟩ ⟨Eq.trans (by kernel_rfl) o1, (by decide : (3 : Nat) < 4), iL_ok _ _, trivial⟩
      · intro k hk
        replace hk : k ≤ r.length := hk
        by_cases hlt : k < r.length
        · refine Exists.elim (getE hlt) fun x hx => ?_
          have ek := congrArg (AV.int .i64) (succ64 (k := k) (by omega))
          have hpl : k < (paps r).length := by rw [paps_len]; exact hlt
          have hp := paps_get hx
          have hb := fb k x hx
          have hbk := (hbd k hk).1
          have sO1 := sO x.id
          have v29 := f29 x.id
          have hcx := hcal x.id
          have no1 := no k x hx
          have yes1 := yes k x hx
          have v47 := f47 k x.id hk
          refine (Bool.eq_false_or_eq_true (W x.id)).elim (fun hw => ?_) (fun hw => ?_)
          · rw [hw] at hb hcx
            rw [Bool.not_true, Bool.false_and] at hcx
            have q := no1 hcx
            have e4 := q.1
            have e5 := q.2.1
            have o1 := q.2.2
            exact ACode.vcM (.br 17 true <| .cells (cPp (x, k)) <| .call (encSt (ZF x.id)) <| .val 29 (.int .i64 (OV x.id)) [] <| .br 35 false .nil) hn hlo (.roundW .cl) ⟨ltLen hpl, idx hp, sO1, Eq.trans (by kernel_rfl) v29, hb, k + 1, hlt, mu1 hlt, Wk.le (St.le.of ⟨by kernel_rfl, rfl, Eq.trans (by kernel_rfl) e4, rfl, Eq.trans (by kernel_rfl) e5, rfl, by kernel_rfl, rfl, by kernel_rfl, rfl, by kernel_rfl, rfl, Eq.trans (by kernel_rfl) ek, rfl, trivial⟩ ⟨Eq.trans (by kernel_rfl) o1, (by decide : (3 : Nat) < 4), iL_ok _ _, trivial⟩) (hlo.mono (show 2 ≤ 4 by decide))⟩
          · rw [hw] at hb hcx
            rw [Bool.not_false, Bool.true_and] at hcx
            refine (Bool.eq_false_or_eq_true (decide (OV x.id > 0))).symm.elim (fun hd => ?_) (fun hd => ?_)
            · rw [hd] at hcx
              have q := no1 hcx
              have e4 := q.1
              have e5 := q.2.1
              have o1 := q.2.2
              exact ACode.vcM (.br 17 true <| .cells (cPp (x, k)) <| .call (encSt (ZF x.id)) <| .val 29 (.int .i64 (OV x.id)) [] <| .br 35 true <| .br 38 false .nil) hn hlo (.roundW .cl) ⟨ltLen hpl, idx hp, sO1, Eq.trans (by kernel_rfl) v29, hb, hd, k + 1, hlt, mu1 hlt, Wk.le (St.le.of ⟨by kernel_rfl, rfl, Eq.trans (by kernel_rfl) e4, rfl, Eq.trans (by kernel_rfl) e5, rfl, by kernel_rfl, rfl, by kernel_rfl, rfl, by kernel_rfl, rfl, Eq.trans (by kernel_rfl) ek, rfl, trivial⟩ ⟨Eq.trans (by kernel_rfl) o1, (by decide : (3 : Nat) < 4), iL_ok _ _, trivial⟩) (hlo.mono (show 2 ≤ 4 by decide))⟩
            · rw [hd] at hcx
              have q := yes1 hcx
              have eA := q.1
              have el := q.2.1
              have v47 := v47.trans (show some (⟨.int .i64 (N k + OV x.id), []⟩ : Out) = some ⟨.int .i64 (N (k + 1)), []⟩ by rw [q.2.2])
              have ap := app_one (h := hget [(3, .cells (iL (A k))), (8, .cells [.int .i64 x.id])]) (i := 3) (j := 8) (nid := 9) (l := A k) (x := x.id) rfl rfl (by omega)
              rw [← eA, ← el] at ap
              exact ACode.vcM (.br 17 true <| .cells (cPp (x, k)) <| .call (encSt (ZF x.id)) <| .val 29 (.int .i64 (OV x.id)) [] <| .br 35 true <| .br 38 true <| .val 44 (.rsl 9 0 (A (k + 1)).length 1) [(3, none), (9, some (.cells (iL (A (k + 1)))))] <| .val 47 (.int .i64 (N (k + 1))) [] .nil) hn hlo (.roundW .cl) ⟨ltLen hpl, idx hp, sO1, Eq.trans (by kernel_rfl) v29, hb, hd, Eq.trans (by kernel_rfl) ap, Eq.trans (by kernel_rfl) v47, k + 1, hlt, mu1 hlt,
                Wk.ren (c := 3) (b := 9) (St.ren.of rfl (by decide) ⟨.inl ⟨by kernel_rfl, rfl⟩, .inr ⟨_, _, _, rfl, by kernel_rfl⟩, .inl ⟨by kernel_rfl, rfl⟩, .inl ⟨by kernel_rfl, rfl⟩, .inl ⟨by kernel_rfl, rfl⟩, .inl ⟨by kernel_rfl, rfl⟩, .inl ⟨Eq.trans (by kernel_rfl) ek, rfl⟩, trivial⟩ ⟨.inr ⟨rfl, by kernel_rfl, _, rfl, iL_ok _ _⟩, trivial⟩) (hlo.mono (show 2 ≤ 3 by decide))⟩
        · have hk' : k = r.length := by omega
          have hpl : ¬ k < (paps r).length := by rw [paps_len]; exact hlt
          have ht : thawF 8 (hget [(3, .cells (iL (A k)))]) (.tup [.rsl 3 0 (A k).length 1, .int .i64 (N k), .int .i64 0]) = some (.tup [encR (A r.length), .int .i64 (N r.length), .int .i64 0], [3]) := by rw [thawF_tup3 (l := A k) rfl, hk']
          exact ACode.vcM (.br 17 false .nil) hn hlo (.roundW .cl) ⟨geLen hpl, _, .refl _, .nil, [3], Eq.trans (by kernel_rfl) ht⟩
    · rw [if_neg h3] at s3 ⊢
      have n0 : (dayE r l d != 0) = true := bne_iff_ne.2 h3
      generalize dayE r l d = E at *
      exact APureF.vcM Try.func25 (.call (.int .i64 0) <| .call (.bool true) <| .call (.tup [.agg [.nil, .nmap], .int .i64 E]) <| .br 31 true .nil) rfl rfl ⟨s1, s2, s3, n0, [], by kernel_rfl⟩
  · have n0 : (checkV r l != 0) = true := bne_iff_ne.2 h0
    have e : recallE r l m d = checkV r l := by unfold recallE; rw [if_neg h0]
    rw [e, if_neg h0]
    generalize checkV r l = C at *
    exact APureF.vcM Try.func25 (.call (.int .i64 C) <| .br 17 true .nil) rfl rfl ⟨s1, n0, [], by kernel_rfl⟩
end Go.Proofs.Ytmdhgkfjlphliaa
