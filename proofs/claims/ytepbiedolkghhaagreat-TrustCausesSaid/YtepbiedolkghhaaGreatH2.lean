/-
  WHAT HOLDS ON A DAY: Holds; what a record takes with it: Takes.
-/
import Derived.Test.YtepbiedolkghhaaGreatH1
import Derived.Test.YtepbiedolkghhaaGreatCl
namespace Go.Proofs.YtepbiedolkghhaaGreat
open Go Go.Am
set_option maxRecDepth 100000
set_option maxHeartbeats 4000000
theorem thawF_tup {h : Nat → Option AObj} {id : Nat} {l : List Int} (h0 : h id = some (.cells (iL l))) : thawF 8 h (.tup [.rsl id 0 l.length 1, .int .i64 0]) = some (.tup [encR l, .int .i64 0], [id]) := by
  have e : thawF 8 h (.tup [.rsl id 0 l.length 1, .int .i64 0]) = (mapO (thawF 7 h) [.rsl id 0 l.length 1, .int .i64 0]).map fun p => (.tup p.1, p.2) := rfl
  have e1 : thawF 7 h (.int .i64 0) = some (.int .i64 0, []) := rfl
  rw [e]
  simp only [mapO, thawF_ints 5 h0, e1]
  rfl
/-! ### on a day -/
def dayE (r : List Rcd) (l : List Ltr) (d : Int) : Int := if checkV r l = 0 then (if inB 0 100000 d then 0 else 2) else checkV r l
def encAe (r : List Rcd) (l : List Ltr) (d : Int) : AV := if dayE r l d = 0 then .tup [encAr r (goneL l d r), .int .i64 0] else .tup [.agg [.nil, .nmap], .int .i64 (dayE r l d)]
theorem check_0 {r : List Rcd} {l : List Ltr} (h : checkV r l = 0) : recsB r = true ∧ letsB r l = true := by
  unfold checkV at h
  cases h1 : recsB r
  · rw [h1] at h; cases h
  · rw [h1] at h
    cases h2 : letsB r l
    · rw [h2] at h; cases h
    · exact ⟨rfl, rfl⟩
theorem lets_len {r : List Rcd} {l : List Ltr} (h : letsB r l = true) : l.length ≤ 20 := by
  simp only [letsB, Bool.and_eq_true, decide_eq_true_eq] at h; exact h.1.1
theorem archiveOn_spec (r : List Rcd) (l : List Ltr) (d : Int) : APure Tryz.prog 34 [encRs r, encLs l, .int .i64 d] (encAe r l d) := by
  have s1 := Check_spec r l
  by_cases h0 : checkV r l = 0
  · have n0 : (checkV r l != 0) = false := by rw [h0]; rfl
    have uD := upTo_spec 100000
    have wD := within1_spec d 0 100000
    cases h1 : inB 0 100000 d
    · rw [h1] at wD
      have e : encAe r l d = .tup [.agg [.nil, .nmap], .int .i64 2] := by unfold encAe dayE; rw [if_pos h0, h1]; rfl
      rw [e]
      generalize checkV r l = C at *
      exact APure.vcM Tryz.func34 (.call (.int .i64 C) <| .br 13 false <| .call (.agg [.int .i64 0, .int .i64 100000]) <| .lent (.bool false) [1] .nil) rfl rfl ⟨s1, n0, uD, ⟨_, by kernel_rfl, .inl ⟨wD, .inr rfl⟩⟩, [], by kernel_rfl⟩
    · rw [h1] at wD
      have e : encAe r l d = .tup [encAr r (goneL l d r), .int .i64 0] := by unfold encAe dayE; rw [if_pos h0, h1]; rfl
      rw [e]
      obtain ⟨hR, hL⟩ := check_0 h0
      have ha := Ar_of hR
      have hrl := ha.len
      have hll := lets_len hL
      have sW := withdrawnOn_spec r l d ha.nd (by omega) (by omega)
      have sA := atWork_spec r (goneL l d r) hrl
      generalize checkV r l = C at *
      generalize goneL l d r = G at *
      exact APure.vcM Tryz.func34 (.call (.int .i64 C) <| .br 13 false <| .call (.agg [.int .i64 0, .int .i64 100000]) <| .lent (.bool true) [1] <| .call (.imap (entsO G)) <| .call (encAr r G) .nil) rfl rfl ⟨s1, n0, uD, ⟨_, by kernel_rfl, .inl ⟨wD, .inr rfl⟩⟩, sW, sA, [], by kernel_rfl⟩
  · have n0 : (checkV r l != 0) = true := bne_iff_ne.2 h0
    have e0 : dayE r l d = checkV r l := if_neg h0
    have e : encAe r l d = .tup [.agg [.nil, .nmap], .int .i64 (checkV r l)] := by unfold encAe; rw [e0, if_neg h0]
    rw [e]
    generalize checkV r l = C at *
    exact APure.vcM Tryz.func34 (.call (.int .i64 C) <| .br 13 true .nil) rfl rfl ⟨s1, n0, [], by kernel_rfl⟩
theorem held_gone (ls : List Ltr) (d : Int) (r : List Rcd) : heldV (gF (goneL ls d r)) [] r = heldV (goneV ls d) [] r := by
  have key : ∀ (s : List Rcd) (acc : List Int), (∀ x ∈ s, x ∈ r) → heldV (gF (goneL ls d r)) acc s = heldV (goneV ls d) acc s := by
    intro s
    induction s with
    | nil => intro acc _; rfl
    | cons x s ih =>
      intro acc h
      have e : gF (goneL ls d r) x.id = goneV ls d x.id := by
        unfold gF goneL
        rw [Bool.eq_iff_iff, List.contains_iff_mem, List.mem_filter]
        exact ⟨fun h => h.2, fun h2 => ⟨List.mem_map.2 ⟨x, h x List.mem_cons_self, rfl⟩, h2⟩⟩
      show heldV _ (if (!gF (goneL ls d r) x.id && _) = true then _ else _) s = heldV _ (if (!goneV ls d x.id && _) = true then _ else _) s
      rw [e]
      exact ih _ fun y hy => h y (List.mem_cons_of_mem _ hy)
  exact key r [] fun _ h => h
theorem holdsV_eq (r : List Rcd) (ls : List Ltr) (d : Int) : idsOf r (setK (gF (goneL ls d r)) r r.length) = holdsV r ls d := by
  unfold setK holdsV
  rw [idsOf_setN r (fun i => (heldV (gF (goneL ls d r)) [] r).contains i), held_gone]
def encLe (l : List Int) (e : Int) : AV := if e = 0 then .tup [encR l, .int .i64 0] else .tup [.nil, .int .i64 e]
theorem Holds_ok (r : List Rcd) (l : List Ltr) (d : Int) : APureF Tryz.prog 12 [encRs r, encLs l, .int .i64 d] (encLe (holdsV r l d) (dayE r l d)) := by
  have s1 := archiveOn_spec r l d
  unfold encAe at s1
  unfold encLe
  by_cases h0 : dayE r l d = 0
  · rw [if_pos h0] at s1 ⊢
    have hc : checkV r l = 0 := by
      by_cases h : checkV r l = 0
      · exact h
      · unfold dayE at h0; rw [if_neg h] at h0; exact h0
    have ha := Ar_of (check_0 hc).1
    have hrl := ha.len
    have sS := standing_spec r (goneL l d r) ha
    have hS := setK_4096 (g := gF (goneL l d r)) (r := r) (k := r.length) hrl
    rw [← holdsV_eq]
    generalize setK (gF (goneL l d r)) r r.length = S at *
    generalize goneL l d r = G at *
    refine APureF.vcM Tryz.func12 (.call (.tup [encAr r G, .int .i64 0]) <| .draw 3 <| .call (.int .i64 (S : Int)) <| .inl Tryz.f35 .loop) rfl rfl ⟨s1, by kernel_rfl, mixed, by kernel_rfl, sS, by kernel_rfl, Tryz.func35, ?_⟩
    intro g hn hlo
    replace hn : g.n = 28 := hn
    replace hlo : g.low 8 := hlo
    refine acode_whileW (fun k : Nat => ⟨[(1, .int .i64 (S : Int)), (5, .rsl 9 0 (idsK r S k).length 1), (9, encPs (paps r)), (10, .int .i64 ((paps r).map cPp).length), (11, .int .i64 k)], [(9, .cells (iL (idsK r S k)))], 10⟩) (fun k => k ≤ r.length) (fun k => r.length - k) 0 (Nat.zero_le _) ?_ ?_
    · refine Wk.trans (Wk.le ?_ (hlo.mono (show 8 ≤ 10 by decide))) (Wk.own 5 1 (by kernel_rfl))
      exact St.le.of ⟨by kernel_rfl, rfl, by kernel_rfl, rfl, by kernel_rfl, rfl, by kernel_rfl, rfl, by kernel_rfl, rfl, trivial⟩ ⟨by kernel_rfl, (by decide : (9 : Nat) < 10), rfl, trivial⟩
    · intro k hk
      replace hk : k ≤ r.length := hk
      by_cases hlt : k < r.length
      · refine Exists.elim (getE hlt) fun x hx => ?_
        have ek := congrArg (AV.int .i64) (succ64 (k := k) (by omega))
        have hpl : k < (paps r).length := by rw [paps_len]; exact hlt
        have hp := paps_get hx
        have hb := bHas (S := S) (i := k) hS (by omega)
        have es := idsK_succ r S k
        have hl := idsK_len r S k
        rw [idA_get hx] at es
        refine (Bool.eq_false_or_eq_true (Nat.testBit S k)).symm.elim (fun hc => ?_) (fun hc => ?_)
        · rw [hc] at hb es
          have es : idsK r S (k + 1) = idsK r S k := es
          have e5 : AV.rsl 9 0 (idsK r S (k + 1)).length 1 = .rsl 9 0 (idsK r S k).length 1 := by rw [es]
          have o1 : some (AObj.cells (iL (idsK r S k))) = some (.cells (iL (idsK r S (k + 1)))) := by rw [es]
          exact ACode.vcM (.br 12 true <| .cells (cPp (x, k)) <| .br 19 false .nil) hn hlo (.roundW .cl) ⟨ltLen hpl, idx hp, hb, k + 1, hlt, mu1 hlt, Wk.le (St.le.of ⟨by kernel_rfl, rfl, Eq.trans (by kernel_rfl) e5.symm, rfl, by kernel_rfl, rfl, by kernel_rfl, rfl, Eq.trans (by kernel_rfl) ek, rfl, trivial⟩ ⟨Eq.trans (by kernel_rfl) o1, (by decide : (9 : Nat) < 10), iL_ok _ _, trivial⟩) (hlo.mono (show 8 ≤ 10 by decide))⟩
        · rw [hc] at hb es
          have es : idsK r S (k + 1) = idsK r S k ++ [x.id] := es
          have el : (idsK r S (k + 1)).length = (idsK r S k).length + 1 := by rw [es]; simp
          have ap := app_one (h := hget [(9, .cells (iL (idsK r S k))), (10, .cells (cPp (x, k))), (12, .cells [.int .i64 x.id])]) (i := 9) (j := 12) (nid := 13) (l := idsK r S k) (x := x.id) rfl rfl (by omega)
          rw [← es, ← el] at ap
          exact ACode.vcM (.br 12 true <| .cells (cPp (x, k)) <| .br 19 true <| .val 25 (.rsl 13 0 (idsK r S (k + 1)).length 1) [(9, none), (13, some (.cells (iL (idsK r S (k + 1)))))] .nil) hn hlo (.roundW .cl) ⟨ltLen hpl, idx hp, hb, Eq.trans (by kernel_rfl) ap, k + 1, hlt, mu1 hlt,
            Wk.ren (c := 9) (b := 13) (St.ren.of rfl (by decide) ⟨.inl ⟨by kernel_rfl, rfl⟩, .inr ⟨_, _, _, rfl, by kernel_rfl⟩, .inl ⟨by kernel_rfl, rfl⟩, .inl ⟨by kernel_rfl, rfl⟩, .inl ⟨Eq.trans (by kernel_rfl) ek, rfl⟩, trivial⟩ ⟨.inr ⟨rfl, by kernel_rfl, _, rfl, iL_ok _ _⟩, trivial⟩) (hlo.mono (show 8 ≤ 9 by decide))⟩
      · have hk' : k = r.length := by omega
        have hpl : ¬ k < (paps r).length := by rw [paps_len]; exact hlt
        have e : idsK r S k = idsOf r S := by rw [hk']; rfl
        have ht : thawF 8 (hget [(9, .cells (iL (idsK r S k)))]) (.tup [.rsl 9 0 (idsK r S k).length 1, .int .i64 0]) = some (.tup [encR (idsOf r S), .int .i64 0], [9]) := by rw [thawF_tup (l := idsK r S k) rfl, e]
        exact ACode.vcM (.br 12 false .nil) hn hlo (.roundW .cl) ⟨geLen hpl, _, .refl _, .nil, [9], Eq.trans (by kernel_rfl) ht⟩
  · rw [if_neg h0] at s1 ⊢
    have n0 : (dayE r l d != 0) = true := bne_iff_ne.2 h0
    generalize dayE r l d = E at *
    exact APureF.vcM Tryz.func12 (.call (.tup [.agg [.nil, .nmap], .int .i64 E]) <| .br 18 true .nil) rfl rfl ⟨s1, n0, [], by kernel_rfl⟩
end Go.Proofs.YtepbiedolkghhaaGreat
