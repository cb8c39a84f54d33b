import Derived.Test.YtmdhgkfjlphliaaH3
/-
  WHOLE SETS; WHETHER A RECORD HOLDS; THE FEWEST.
-/
namespace Go.Proofs.Ytmdhgkfjlphliaa
open Go Go.Am
set_option maxRecDepth 100000
set_option maxHeartbeats 4000000
def isA (r : List Rcd) (id : Int) (i : Nat) : Bool := decide (idA r i = id)
def sV (r : List Rcd) (id : Int) (k : Nat) : Nat := setN (isA r id) k
theorem sV_lt {r : List Rcd} {id : Int} {k : Nat} (h : k ≤ 12) : sV r id k < 4096 := Nat.lt_of_lt_of_le (setN_lt _ k) (Nat.pow_le_pow_right (by omega) h)
theorem sV_succ {r : List Rcd} {id : Int} {k : Nat} {x : Rcd} (hx : r[k]? = some x) : sV r id (k + 1) = if x.id == id then sV r id k ||| 2 ^ k else sV r id k := by
  unfold sV
  rw [setN]
  have e : isA r id k = (x.id == id) := by unfold isA; rw [idA_get hx]; rfl
  rw [e]
  cases x.id == id
  · exact Nat.or_zero _
  · rfl
def selB (b : Bool) (x y : Nat) : Nat := bif b then x else y
theorem setOf_spec (r : List Rcd) (G : List Int) (id : Int) (hr : r.length ≤ 12) : APure Try.prog 78 [encAr r G, .lst 1 [encI id]] (.int .i64 ((sV r id r.length : Nat) : Int)) := by
  refine APure.vcM Try.func78 .loop rfl rfl ?_
  intro g hn hlo
  replace hn : g.n = 35 := hn
  replace hlo : g.low 0 := hlo
  refine acode_whileW (fun k : Nat => ⟨[(1, .lst 1 [encI id]), (5, .int .i64 ((sV r id k : Nat) : Int)), (11, encPs (paps r)), (12, .int .i64 ((paps r).map cPp).length), (13, .int .i64 k)], [], 1⟩) (fun k => k ≤ r.length) (fun k => r.length - k) 0 (Nat.zero_le _) ?_ ?_
  · exact Wk.le (St.le.of ⟨by kernel_rfl, rfl, by kernel_rfl, rfl, by kernel_rfl, rfl, by kernel_rfl, rfl, by kernel_rfl, rfl, trivial⟩ trivial) (hlo.mono (Nat.zero_le _))
  · intro k hk
    replace hk : k ≤ r.length := hk
    by_cases hlt : k < r.length
    · refine Exists.elim (getE hlt) fun x hx => ?_
      have ek := congrArg (AV.int .i64) (succ64 (k := k) (by omega))
      have hpl : k < (paps r).length := by rw [paps_len]; exact hlt
      have hp := paps_get hx
      have es := sV_succ (id := id) hx
      have hor : some (⟨.int .i64 (IntKind.i64.wrap (BitVec.ofInt IntKind.i64.bits ((sV r id k : Nat) : Int) ||| BitVec.ofInt IntKind.i64.bits ((2 ^ k : Nat) : Int)).toNat), []⟩ : Out) = some ⟨.int .i64 ((sV r id k ||| 2 ^ k : Nat) : Int), []⟩ := by rw [bOr (sV_lt (by omega)) (two_lt (by omega))]
      refine ACode.vcM (.br 14 true <| .cells (cPp (x, k)) <| .loop) hn hlo (.roundW .cl) ⟨ltLen hpl, idx hp, ?_⟩
      intro g hn hlo2
      replace hn : g.n = 35 := hn
      replace hlo2 : g.low 0 := hlo2
      refine acode_whileW (fun b : Bool => ⟨[(1, .lst 1 [encI id]), (5, .int .i64 ((selB b (sV r id (k + 1)) (sV r id k) : Nat) : Int)), (7, .vptr 1 0), (11, encPs (paps r)), (12, .int .i64 ((paps r).map cPp).length), (13, .int .i64 k), (17, .lst 1 [encI id]), (18, .int .i64 1), (19, .int .i64 ((selB b 1 0 : Nat) : Int))], [(1, .cells (cPp (x, k)))], 2⟩) (fun _ => True) (fun b => selB b 0 1) false trivial ?_ ?_
      · exact Wk.le (St.le.of ⟨by kernel_rfl, rfl, by kernel_rfl, rfl, by kernel_rfl, rfl, by kernel_rfl, rfl, by kernel_rfl, rfl, by kernel_rfl, rfl, by kernel_rfl, rfl, by kernel_rfl, rfl, by kernel_rfl, rfl, trivial⟩ ⟨by kernel_rfl, (by decide : (1 : Nat) < 2), rfl, trivial⟩) (hlo2.mono (Nat.zero_le _))
      · intro b _
        cases b
        · cases hc : (x.id == id)
          · rw [hc] at es
            have es : AV.int .i64 ((sV r id k : Nat) : Int) = .int .i64 ((sV r id (k + 1) : Nat) : Int) := by rw [es]; rfl
            exact ACode.vcM (.br 20 true <| .cells (encI id) <| .br 27 false .nil) hn hlo2 (.roundW .cl) ⟨rfl, ⟨by decide, rfl⟩, hc, true, trivial, Nat.zero_lt_one, Wk.le (St.le.of ⟨by kernel_rfl, rfl, Eq.trans (by kernel_rfl) es, rfl, by kernel_rfl, rfl, by kernel_rfl, rfl, by kernel_rfl, rfl, by kernel_rfl, rfl, by kernel_rfl, rfl, by kernel_rfl, rfl, by kernel_rfl, rfl, trivial⟩ ⟨by kernel_rfl, (by decide : (1 : Nat) < 2), rfl, trivial⟩) (hlo2.mono (show 0 ≤ 2 by decide))⟩
          · rw [hc] at es
            have es : sV r id (k + 1) = sV r id k ||| 2 ^ k := es
            rw [← es] at hor
            exact ACode.vcM (.br 20 true <| .cells (encI id) <| .br 27 true <| .val 31 (.int .i64 ((sV r id (k + 1) : Nat) : Int)) [] .nil) hn hlo2 (.roundW .cl) ⟨rfl, ⟨by decide, rfl⟩, hc, Eq.trans (by kernel_rfl) hor, true, trivial, Nat.zero_lt_one, Wk.le (St.le.of ⟨by kernel_rfl, rfl, by kernel_rfl, rfl, by kernel_rfl, rfl, by kernel_rfl, rfl, by kernel_rfl, rfl, by kernel_rfl, rfl, by kernel_rfl, rfl, by kernel_rfl, rfl, by kernel_rfl, rfl, trivial⟩ ⟨by kernel_rfl, (by decide : (1 : Nat) < 2), rfl, trivial⟩) (hlo2.mono (show 0 ≤ 2 by decide))⟩
        · exact ACode.vcM (.br 20 false .nil) hn hlo2 (.roundW .cl) ⟨rfl, _, .refl _, .nil, k + 1, hlt, mu1 hlt, Wk.le (St.le.of ⟨by kernel_rfl, rfl, by kernel_rfl, rfl, by kernel_rfl, rfl, by kernel_rfl, rfl, Eq.trans (by kernel_rfl) ek, rfl, trivial⟩ trivial) (hlo.mono (show 0 ≤ 1 by decide))⟩
    · have hk' : k = r.length := by omega
      have hpl : ¬ k < (paps r).length := by rw [paps_len]; exact hlt
      rw [← hk']
      exact ACode.vcM (.br 14 false .nil) hn hlo (.roundW .cl) ⟨geLen hpl, _, .refl _, .nil, [], by kernel_rfl⟩
/-- Whether a set has a record with this Id. -/
def memB (r : List Rcd) (S : Nat) (id : Int) : Bool := (((S &&& sV r id r.length : Nat) : Int) != 0)
theorem inSet_spec (id : Int) (r : List Rcd) (G : List Int) (S : Nat) (hr : r.length ≤ 12) (hS : S < 4096) : APure Try.prog 109 [.int .i64 id, .cptr [.int .i64 (S : Int)], .cptr (cAr r G)] (.bool (memB r S id)) := by
  have s := setOf_spec r G id hr
  have hT := sV_lt (r := r) (id := id) (k := r.length) hr
  have v : some (⟨.int .i64 (IntKind.i64.wrap (BitVec.ofInt IntKind.i64.bits (S : Int) &&& BitVec.ofInt IntKind.i64.bits ((sV r id r.length : Nat) : Int)).toNat), []⟩ : Out) = some ⟨.int .i64 ((S &&& sV r id r.length : Nat) : Int), []⟩ := by rw [bAnd hS hT]
  unfold memB
  generalize S &&& sV r id r.length = D at *
  generalize sV r id r.length = T at *
  exact APure.vcM Try.func109 (.draw 5 <| .lent (.int .i64 (T : Int)) [3] <| .val 10 (.int .i64 (D : Int)) [] .nil) rfl rfl ⟨by kernel_rfl, mixed, by kernel_rfl, ⟨_, by kernel_rfl, .inl ⟨s, .inr rfl⟩⟩, by kernel_rfl, Eq.trans (by kernel_rfl) v, [], by kernel_rfl⟩
theorem mem_stands (x : Rcd) (b : Nat) (r : List Rcd) (G : List Int) (S : Nat) (hr : r.length ≤ 12) (hS : S < 4096) (hw : x.ways.length ≤ 1000) (hww : ∀ w ∈ x.ways, w.length ≤ 1000) : APure Try.prog 103 [.agg (cPp (x, b)), .fn (.func 109) [] [.cptr [.int .i64 (S : Int)], .cptr (cAr r G)]] (.bool (standsB (memB r S) x.ways)) := by
  refine APure.vc Try.func103 rfl .loop rfl rfl ?_
  intro g hn hl
  replace hn : g.n = 34 := hn
  replace hl : g.low 0 := hl
  refine acode_while (fun k : Nat => ⟨[(1, .fn (.func 109) [] [.cptr [.int .i64 (S : Int)], .cptr (cAr r G)]), (2, .vptr 0 0), (11, encWs x.ways), (12, .int .i64 (x.ways.map cW).length), (13, .int .i64 k)], [(0, .cells (cPp (x, b)))], 1⟩) (fun k => k ≤ x.ways.length ∧ ∀ w ∈ x.ways.take k, w.all (memB r S) = false) (fun k => x.ways.length - k) 0 ⟨Nat.zero_le _, fun w hw => by simp at hw⟩ ?_ (fun _ _ => hl.mono (Nat.zero_le _)) ?_
  · exact St.le.of ⟨by kernel_rfl, rfl, by kernel_rfl, rfl, by kernel_rfl, rfl, by kernel_rfl, rfl, by kernel_rfl, rfl, trivial⟩ ⟨by kernel_rfl, (by decide : (0 : Nat) < 1), rfl, trivial⟩
  · rintro k ⟨hk1, hk2⟩
    by_cases hlt : k < x.ways.length
    · refine Exists.elim (getE hlt) fun w hw' => ?_
      have ek := congrArg (AV.int .i64) (succ64 (k := k) (by omega))
      have hwl := hww w (List.mem_of_getElem? hw')
      have miss : w.all (memB r S) = false → ∀ v ∈ x.ways.take (k + 1), v.all (memB r S) = false := fun h v hv => by
        rw [List.take_add_one, hw'] at hv
        rcases List.mem_append.1 hv with hv | hv
        · exact hk2 v hv
        · simp at hv; subst hv; exact h
      have hit : w.all (memB r S) = true → standsB (memB r S) x.ways = true := fun h => by
        unfold standsB; rw [List.any_eq_true.2 ⟨w, List.mem_of_getElem? hw', h⟩, Bool.or_true]
      refine ACode.vc (.br 14 true <| .cells (cW w) <| .loop) hn hl (.round .cl) ⟨ltLen hlt, idx hw', ?_⟩
      intro g hn hl
      replace hn : g.n = 34 := hn
      replace hl : g.low 0 := hl
      refine acode_while (fun n : Nat => ⟨[(1, .fn (.func 109) [] [.cptr [.int .i64 (S : Int)], .cptr (cAr r G)]), (2, .vptr 0 0), (11, encWs x.ways), (12, .int .i64 (x.ways.map cW).length), (13, .int .i64 k), (17, encR w), (18, .int .i64 (w.map encI).length), (19, .int .i64 n)], [(0, .cells (cPp (x, b)))], 1⟩) (fun n => n ≤ w.length ∧ (w.take n).all (memB r S) = true) (fun n => w.length - n) 0 ⟨Nat.zero_le _, rfl⟩ ?_ (fun _ _ => hl.mono (Nat.zero_le _)) ?_
      · exact St.le.of ⟨by kernel_rfl, rfl, by kernel_rfl, rfl, by kernel_rfl, rfl, by kernel_rfl, rfl, by kernel_rfl, rfl, by kernel_rfl, rfl, by kernel_rfl, rfl, by kernel_rfl, rfl, trivial⟩ ⟨by kernel_rfl, (by decide : (0 : Nat) < 1), rfl, trivial⟩
      · rintro n ⟨hn1, hn2⟩
        by_cases hnl : n < w.length
        · refine Exists.elim (getE hnl) fun i hi => ?_
          have en := congrArg (AV.int .i64) (succ64 (k := n) (by omega))
          have s := inSet_spec i r G S hr hS
          cases hb : (memB r S) i
          · rw [hb] at s
            have ms := miss (all_bad hi hb)
            exact ACode.vc (.br 20 true <| .cells (encI i) <| .call (.bool false) .nil) hn hl (.round .cl) ⟨ltLen hnl, idx hi, s, _, .refl _, .nil, k + 1, ⟨hlt, ms⟩, mu1 hlt,
              St.le.of ⟨by kernel_rfl, rfl, by kernel_rfl, rfl, by kernel_rfl, rfl, by kernel_rfl, rfl, Eq.trans (by kernel_rfl) ek, rfl, trivial⟩ ⟨by kernel_rfl, (by decide : (0 : Nat) < 1), rfl, trivial⟩⟩
          · rw [hb] at s
            have good : (w.take (n + 1)).all (memB r S) = true := by rw [take_all hi, hn2, hb]; rfl
            exact ACode.vc (.br 20 true <| .cells (encI i) <| .call (.bool true) .nil) hn hl (.round .cl) ⟨ltLen hnl, idx hi, s, n + 1, ⟨hnl, good⟩, mu1 hnl,
              St.le.of ⟨by kernel_rfl, rfl, by kernel_rfl, rfl, by kernel_rfl, rfl, by kernel_rfl, rfl, by kernel_rfl, rfl, by kernel_rfl, rfl, by kernel_rfl, rfl, Eq.trans (by kernel_rfl) en, rfl, trivial⟩ ⟨by kernel_rfl, (by decide : (0 : Nat) < 1), rfl, trivial⟩⟩
        · have hn' : n = w.length := by omega
          have e : some (AV.bool true) = some (AV.bool (standsB (memB r S) x.ways)) := by rw [hit (by rw [hn', List.take_length] at hn2; exact hn2)]
          exact ACode.vc (.br 20 false .nil) hn hl (.round .cl) ⟨geLen hnl, _, .refl _, .nil, _, .refl _, .nil, trivial, e⟩
    · have hk' : k = x.ways.length := by omega
      have e : (((x.ways.map cW).length : Int) == 0) = standsB (memB r S) x.ways := by
        rw [hk', List.take_length] at hk2
        have h2 : (x.ways.any fun w => w.all (memB r S)) = false := by
          rw [List.any_eq_false]; intro w hw; rw [hk2 w hw]; decide
        unfold standsB
        rw [h2, Bool.or_false, List.length_map]
        cases x.ways with
        | nil => rfl
        | cons a l => exact beq_eq_false_iff_ne.2 (by simp; omega)
      exact ACode.vc (.br 14 false .nil) hn hl (.round .cl) ⟨geLen hlt, _, .refl _, .nil, rB e⟩
def wholeI (r : List Rcd) (S : Nat) (i : Nat) (x : Rcd) : Bool := !S.testBit i || standsB (memB r S) x.ways
def wholeV (r : List Rcd) (S : Nat) : Bool := allI (wholeI r S) r
theorem isWhole_spec (r : List Rcd) (G : List Int) (S : Nat) (ha : Ar r) (hS : S < 4096) : APure Try.prog 81 [encAr r G, .int .i64 (S : Int)] (.bool (wholeV r S)) := by
  have hr := ha.len
  unfold wholeV
  refine APure.vcM Try.func81 .loop rfl rfl ?_
  intro g hn hlo
  replace hn : g.n = 26 := hn
  replace hlo : g.low 0 := hlo
  refine acode_whileW (fun k : Nat => ⟨[(2, .vptr 0 0), (3, .vptr 1 0), (8, encPs (paps r)), (9, .int .i64 ((paps r).map cPp).length), (10, .int .i64 k)], [(0, .cells (cAr r G)), (1, .cells [.int .i64 (S : Int)])], 2⟩) (fun k => k ≤ r.length ∧ allI (wholeI r S) (r.take k) = true) (fun k => r.length - k) 0 ⟨Nat.zero_le _, rfl⟩ ?_ ?_
  · exact Wk.le (St.le.of ⟨by kernel_rfl, rfl, by kernel_rfl, rfl, by kernel_rfl, rfl, by kernel_rfl, rfl, by kernel_rfl, rfl, trivial⟩ ⟨by kernel_rfl, (by decide : (0 : Nat) < 2), rfl, by kernel_rfl, (by decide : (1 : Nat) < 2), rfl, trivial⟩) (hlo.mono (Nat.zero_le _))
  · rintro k ⟨hk, hk2⟩
    replace hk : k ≤ r.length := hk
    by_cases hlt : k < r.length
    · refine Exists.elim (getE hlt) fun x hx => ?_
      have ek := congrArg (AV.int .i64) (succ64 (k := k) (by omega))
      have hpl : k < (paps r).length := by rw [paps_len]; exact hlt
      have hp := paps_get hx
      have hb := bHas (S := S) (i := k) hS (by omega)
      have hxm := ha.wr x (List.mem_of_getElem? hx)
      have sS := mem_stands x k r G S hr hS hxm.1 hxm.2
      have good : wholeI r S k x = true → allI (wholeI r S) (r.take (k + 1)) = true := fun h => by rw [allI_take hx, hk2, h]; rfl
      refine (Bool.eq_false_or_eq_true (Nat.testBit S k)).symm.elim (fun hc => ?_) (fun hc => ?_)
      · rw [hc] at hb
        have gd := good (by unfold wholeI; rw [hc]; rfl)
        exact ACode.vcM (.br 11 true <| .cells (cPp (x, k)) <| .br 19 false .nil) hn hlo (.roundW .cl) ⟨ltLen hpl, idx hp, hb, k + 1, ⟨hlt, gd⟩, mu1 hlt, Wk.le (St.le.of ⟨by kernel_rfl, rfl, by kernel_rfl, rfl, by kernel_rfl, rfl, by kernel_rfl, rfl, Eq.trans (by kernel_rfl) ek, rfl, trivial⟩ ⟨by kernel_rfl, (by decide : (0 : Nat) < 2), rfl, by kernel_rfl, (by decide : (1 : Nat) < 2), rfl, trivial⟩) (hlo.mono (show 0 ≤ 2 by decide))⟩
      · rw [hc] at hb
        refine (Bool.eq_false_or_eq_true (standsB (memB r S) x.ways)).symm.elim (fun hs => ?_) (fun hs => ?_)
        · rw [hs] at sS
          have ev : thaw 8 (hget []) (.bool false) = some (.bool (allI (wholeI r S) r), []) := by rw [allI_bad hx (show wholeI r S k x = false by unfold wholeI; rw [hc, hs]; rfl)]; rfl
          exact ACode.vcM (.br 11 true <| .cells (cPp (x, k)) <| .br 19 true <| .lent (.bool false) [1, 0] .nil) hn hlo (.roundW .cl) ⟨ltLen hpl, idx hp, hb, ⟨_, by kernel_rfl, .inl ⟨sS, .inr rfl⟩⟩, _, .refl _, .nil, [], Eq.trans (by kernel_rfl) ev⟩
        · rw [hs] at sS
          have gd := good (by unfold wholeI; rw [hs, Bool.or_true])
          exact ACode.vcM (.br 11 true <| .cells (cPp (x, k)) <| .br 19 true <| .lent (.bool true) [1, 0] .nil) hn hlo (.roundW .cl) ⟨ltLen hpl, idx hp, hb, ⟨_, by kernel_rfl, .inl ⟨sS, .inr rfl⟩⟩, k + 1, ⟨hlt, gd⟩, mu1 hlt, Wk.le (St.le.of ⟨by kernel_rfl, rfl, by kernel_rfl, rfl, by kernel_rfl, rfl, by kernel_rfl, rfl, Eq.trans (by kernel_rfl) ek, rfl, trivial⟩ ⟨by kernel_rfl, (by decide : (0 : Nat) < 2), rfl, by kernel_rfl, (by decide : (1 : Nat) < 2), rfl, trivial⟩) (hlo.mono (show 0 ≤ 2 by decide))⟩
    · have hk' : k = r.length := by omega
      have hpl : ¬ k < (paps r).length := by rw [paps_len]; exact hlt
      have ev : thaw 8 (hget []) (.bool true) = some (.bool (allI (wholeI r S) r), []) := by rw [hk', List.take_length] at hk2; rw [hk2]; rfl
      exact ACode.vcM (.br 11 false .nil) hn hlo (.roundW .cl) ⟨geLen hpl, _, .refl _, .nil, [], Eq.trans (by kernel_rfl) ev⟩
end Go.Proofs.Ytmdhgkfjlphliaa
/-
  WHETHER A RECORD HOLDS.
-/
namespace Go.Proofs.Ytmdhgkfjlphliaa
open Go Go.Am
set_option maxRecDepth 100000
set_option maxHeartbeats 4000000
/-! ### whether a record holds -/
noncomputable def asgH : Code := rfA Try.f53
noncomputable def bodH : Code := rfB Try.f53
theorem acc_in_held (g : Int → Bool) (r : List Rcd) {k : Nat} {i : Int} (h : i ∈ accV g r k) : i ∈ heldV g [] r := by
  have e : heldV g [] r = heldV g (accV g r k) (r.drop k) := by unfold accV; rw [← held_app, List.take_append_drop]
  rw [e]; exact held_acc _ _ _ _ h
theorem holds_spec (r : List Rcd) (G : List Int) (id : Int) (ha : Ar r) : APure Try.prog 53 [encAr r G, .int .i64 id] (.bool ((heldV (gF G) [] r).contains id)) := by
  have s0 := holding_spec r G
  have hrl := ha.len
  refine APure.vcM Try.func53 (.lent (.fn (.func 102) [] [.cptr (cAr r G)]) [] <| .inl Try.f102 .loop) rfl rfl ⟨⟨_, by kernel_rfl, .inl ⟨s0, .inl ⟨rfl, rfl⟩⟩⟩, Try.func102, ?_⟩
  intro g hn hlo
  replace hn : g.n = 35 := hn
  replace hlo : g.low 4 := hlo
  refine acode_whileW (fun k : Nat => ⟨[(0, .yld 3), (1, .cptr (cAr r G)), (3, .vptr 5 0), (8, encPs (paps r)), (9, .int .i64 ((paps r).map cPp).length), (10, .int .i64 k)], [(1, .cells [.int .i64 id]), (2, .cells [.bool false]), (3, .loop ⟨.ready, none, 14, [(3, .vptr 1 0), (4, .vptr 2 0)], #[8], asgH, bodH⟩), (4, .map (entsO (accV (gF G) r k))), (5, .cells [.mref 4])], 7⟩) (fun k => k ≤ r.length ∧ id ∉ accV (gF G) r k) (fun k => r.length - k) 0 ⟨Nat.zero_le _, fun h => by cases h⟩ ?_ ?_
  · refine Wk.trans (Wk.le ?_ (hlo.mono (show 4 ≤ 7 by decide))) (Wk.loopEnv (id := 3) (n := 4) [(3, .vptr 1 0), (4, .vptr 2 0)] rfl ⟨rfl, rfl, rfl, rfl, trivial⟩)
    exact St.le.of ⟨by kernel_rfl, rfl, by kernel_rfl, rfl, by kernel_rfl, rfl, by kernel_rfl, rfl, by kernel_rfl, rfl, by kernel_rfl, rfl, trivial⟩ ⟨by kernel_rfl, (by decide : (1 : Nat) < 7), rfl, by kernel_rfl, (by decide : (2 : Nat) < 7), rfl, by kernel_rfl, (by decide : (3 : Nat) < 7), rfl, by kernel_rfl, (by decide : (4 : Nat) < 7), rfl, by kernel_rfl, (by decide : (5 : Nat) < 7), rfl, trivial⟩
  · rintro k ⟨hk, hk2⟩
    replace hk : k ≤ r.length := hk
    by_cases hlt : k < r.length
    · refine Exists.elim (getE hlt) fun x hx => ?_
      have ek := congrArg (AV.int .i64) (succ64 (k := k) (by omega))
      have hpl : k < (paps r).length := by rw [paps_len]; exact hlt
      have hp := paps_get hx
      have hxm := ha.wr x (List.mem_of_getElem? hx)
      have sS := acc_stands x k (accV (gF G) r k) hxm.1 hxm.2
      have lk := lookD (h := hget []) (l := G) (x := x.id)
      have eA := accV_succ (gF G) hx
      have hst : stepB (gF G) r k x = (!G.contains x.id && standsB (accF (accV (gF G) r k)) x.ways) := rfl
      rw [hst] at eA
      have hnew := step_new (g := gF G) ha.nd hx
      have tA := thawL_asks (h := hget [(1, .cells [.int .i64 id]), (2, .cells [.bool false]), (3, .loop ⟨.ready, none, 14, [(3, .vptr 1 0), (4, .vptr 2 0)], #[8], asgH, bodH⟩), (4, .map (entsO (accV (gF G) r k))), (5, .cells [.mref 4]), (7, .cells (cPp (x, k)))]) (f := .func 104) (p := (x, k)) (j := 5) (m := 4) (acc := accV (gF G) r k) rfl rfl
      have up := upO2 (h := hget [(1, .cells [.int .i64 id]), (2, .cells [.bool false]), (3, .loop ⟨.ready, none, 14, [(3, .vptr 1 0), (4, .vptr 2 0)], #[8], asgH, bodH⟩), (4, .map (entsO (accV (gF G) r k))), (5, .cells [.mref 4]), (7, .cells (cPp (x, k)))]) (i := 4) (l := accV (gF G) r k) (x := x.id) rfl hnew
      cases hg : G.contains x.id
      · rw [hg] at eA lk
        cases hs : standsB (accF (accV (gF G) r k)) x.ways
        · rw [hs] at eA sS
          have eB : accV (gF G) r (k + 1) = accV (gF G) r k := eA
          have hk3 : id ∉ accV (gF G) r (k + 1) := by rw [eB]; exact hk2
          have eA : some (AObj.map (entsO (accV (gF G) r k))) = some (.map (entsO (accV (gF G) r (k + 1)))) := by rw [eB]
          exact ACode.vcM (.br 11 true <| .cells (cPp (x, k)) <| .val 19 (.bool false) [] <| .lent (.bool false) [5, 4] .nil) hn hlo (.roundW .cl) ⟨ltLen hpl, idx hp, Eq.trans (by kernel_rfl) lk, ⟨_, Eq.trans (by kernel_rfl) tA, .inl ⟨sS, .inr rfl⟩⟩, k + 1, ⟨hlt, hk3⟩, mu1 hlt, Wk.le (St.le.of ⟨by kernel_rfl, rfl, by kernel_rfl, rfl, by kernel_rfl, rfl, by kernel_rfl, rfl, by kernel_rfl, rfl, Eq.trans (by kernel_rfl) ek, rfl, trivial⟩ ⟨by kernel_rfl, (by decide : (1 : Nat) < 7), rfl, by kernel_rfl, (by decide : (2 : Nat) < 7), rfl, by kernel_rfl, (by decide : (3 : Nat) < 7), rfl, Eq.trans (by kernel_rfl) eA, (by decide : (4 : Nat) < 7), okE_entsO _ _, by kernel_rfl, (by decide : (5 : Nat) < 7), rfl, trivial⟩) (hlo.mono (show 4 ≤ 7 by decide))⟩
        · rw [hs] at eA sS
          have eA : accV (gF G) r (k + 1) = accV (gF G) r k ++ [x.id] := eA
          rw [← eA] at up
          cases hi : (x.id == id)
          · have hk3 : id ∉ accV (gF G) r (k + 1) := by
              rw [eA]
              intro h
              rcases List.mem_append.1 h with h | h
              · exact hk2 h
              · rw [List.mem_singleton.1 h] at hi; simp at hi
            exact ACode.vcM (.br 11 true <| .cells (cPp (x, k)) <| .val 19 (.bool false) [] <| .lent (.bool true) [5, 4] <| .val 0 .undef [(4, some (.map (entsO (accV (gF G) r (k + 1)))))] <| .br 13 false .nil) hn hlo (.roundW .cl) ⟨ltLen hpl, idx hp, Eq.trans (by kernel_rfl) lk, ⟨_, Eq.trans (by kernel_rfl) tA, .inl ⟨sS, .inr rfl⟩⟩, Eq.trans (by kernel_rfl) up, hi, k + 1, ⟨hlt, hk3⟩, mu1 hlt, Wk.le (St.le.of ⟨by kernel_rfl, rfl, by kernel_rfl, rfl, by kernel_rfl, rfl, by kernel_rfl, rfl, by kernel_rfl, rfl, Eq.trans (by kernel_rfl) ek, rfl, trivial⟩ ⟨by kernel_rfl, (by decide : (1 : Nat) < 7), rfl, by kernel_rfl, (by decide : (2 : Nat) < 7), rfl, by kernel_rfl, (by decide : (3 : Nat) < 7), rfl, by kernel_rfl, (by decide : (4 : Nat) < 7), okE_entsO _ _, by kernel_rfl, (by decide : (5 : Nat) < 7), rfl, trivial⟩) (hlo.mono (show 4 ≤ 7 by decide))⟩
          · have ev : thaw 8 (hget []) (.bool true) = some (.bool ((heldV (gF G) [] r).contains id), []) := by
              have : id ∈ heldV (gF G) [] r := acc_in_held (gF G) r (k := k + 1) (by rw [eA, ← (beq_iff_eq.1 hi)]; exact List.mem_append_right _ List.mem_cons_self)
              rw [List.contains_iff_mem.2 this]; rfl
            exact ACode.vcM (.br 11 true <| .cells (cPp (x, k)) <| .val 19 (.bool false) [] <| .lent (.bool true) [5, 4] <| .val 0 .undef [(4, some (.map (entsO (accV (gF G) r (k + 1)))))] <| .br 13 true .nil) hn hlo (.roundW .cl) ⟨ltLen hpl, idx hp, Eq.trans (by kernel_rfl) lk, ⟨_, Eq.trans (by kernel_rfl) tA, .inl ⟨sS, .inr rfl⟩⟩, Eq.trans (by kernel_rfl) up, hi, _, .refl _, .nil, [], Eq.trans (by kernel_rfl) ev⟩
      · rw [hg] at eA lk
        have eB : accV (gF G) r (k + 1) = accV (gF G) r k := eA
        have hk3 : id ∉ accV (gF G) r (k + 1) := by rw [eB]; exact hk2
        have eA : some (AObj.map (entsO (accV (gF G) r k))) = some (.map (entsO (accV (gF G) r (k + 1)))) := by rw [eB]
        exact ACode.vcM (.br 11 true <| .cells (cPp (x, k)) <| .val 19 (.bool true) [] .nil) hn hlo (.roundW .cl) ⟨ltLen hpl, idx hp, Eq.trans (by kernel_rfl) lk, k + 1, ⟨hlt, hk3⟩, mu1 hlt, Wk.le (St.le.of ⟨by kernel_rfl, rfl, by kernel_rfl, rfl, by kernel_rfl, rfl, by kernel_rfl, rfl, by kernel_rfl, rfl, Eq.trans (by kernel_rfl) ek, rfl, trivial⟩ ⟨by kernel_rfl, (by decide : (1 : Nat) < 7), rfl, by kernel_rfl, (by decide : (2 : Nat) < 7), rfl, by kernel_rfl, (by decide : (3 : Nat) < 7), rfl, Eq.trans (by kernel_rfl) eA, (by decide : (4 : Nat) < 7), okE_entsO _ _, by kernel_rfl, (by decide : (5 : Nat) < 7), rfl, trivial⟩) (hlo.mono (show 4 ≤ 7 by decide))⟩
    · have hk' : k = r.length := by omega
      have hpl : ¬ k < (paps r).length := by rw [paps_len]; exact hlt
      have ev : thaw 8 (hget []) (.bool false) = some (.bool ((heldV (gF G) [] r).contains id), []) := by
        rw [hk', accV_all] at hk2
        rw [show (heldV (gF G) [] r).contains id = false by simpa using hk2]; rfl
      exact ACode.vcM (.br 11 false .nil) hn hlo (.roundW .cl) ⟨geLen hpl, _, .refl _, .nil, [], Eq.trans (by kernel_rfl) ev⟩
end Go.Proofs.Ytmdhgkfjlphliaa
