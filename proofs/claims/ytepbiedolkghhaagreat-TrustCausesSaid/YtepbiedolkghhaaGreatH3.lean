/-
  WHAT A RECORD TAKES WITH IT: Takes.
-/
import Derived.Test.YtepbiedolkghhaaGreatH2
namespace Go.Proofs.YtepbiedolkghhaaGreat
open Go Go.Am
set_option maxRecDepth 100000
set_option maxHeartbeats 4000000
def addG (G : List Int) (id : Int) : List Int := if G.contains id then G else G ++ [id]
theorem addG_g (G : List Int) (id : Int) : gF (addG G id) = withG (gF G) id := by
  funext i
  unfold addG withG gF
  split
  · rename_i h
    by_cases hi : i = id
    · subst hi; rw [h, decide_eq_true rfl]; rfl
    · rw [decide_eq_false hi]; rfl
  · rw [Bool.eq_iff_iff]
    simp [or_comm]
theorem updA {h : Nat → Option AObj} {i : Nat} {l : List Int} {x : Int} (h0 : h i = some (.map (entsO l))) :
    aMapUpdate Tryz.prog h 36 (.mref i) (.int .i64 x) (.bool true) = some ⟨.undef, [(i, some (.map (entsO (addG l x))))]⟩ := by
  by_cases hm : x ∈ l
  · have e : addG l x = l := by unfold addG; rw [if_pos (List.contains_iff_mem.2 hm)]
    rw [e]
    simp only [aMapUpdate, ty36, ty3, h0]
    rw [if_pos (show akeyB Tryz.prog (.int .i64) (.int .i64 x) = true from rfl), afindO, if_pos hm]
    have hs : (entsO l).set (0 + l.idxOf x) (AV.int .i64 x, AV.bool true) = entsO l := by
      rw [Nat.zero_add]
      unfold entsO
      refine List.ext_getElem? fun j => ?_
      rw [List.getElem?_set]
      by_cases hj : l.idxOf x = j
      · subst hj
        have hlt : l.idxOf x < l.length := List.idxOf_lt_length_iff.2 hm
        rw [if_pos rfl, if_pos (by simpa using hlt), List.getElem?_map, List.getElem?_eq_getElem hlt, List.getElem_idxOf hlt]; rfl
      · rw [if_neg hj]
    simp only []
    rw [hs]
  · have e : addG l x = l ++ [x] := by unfold addG; rw [if_neg (by simpa using hm)]
    rw [e]; exact updO h0 hm
theorem thawA {h : Nat → Option AObj} {m : Nat} {p : AV} {G : List Int} (hp : p.ok 0 = true) (hm : h m = some (.map (entsO G))) : thaw 8 h (.agg [p, .mref m]) = some (.agg [p, .imap (entsO G)], [m]) := by
  have e : thaw 8 h (.agg [p, .mref m]) = (if (AV.agg [p, .mref m]).ok 0 = true then some (.agg [p, .mref m], []) else (mapO (thaw 7 h) [p, .mref m]).map fun p => (.agg p.1, p.2)) := rfl
  have e1 : thaw 7 h p = some (p, []) := by unfold thaw; rw [if_pos hp]
  have e2 : thaw 7 h (.mref m) = (match h m with
      | some (.map es) => (match mapOE (thaw 6 h) es with | some (es', is) => some (.imap es', m :: is) | none => none)
      | _ => none) := rfl
  have e3 : thaw 7 h (.mref m) = some (.imap (entsO G), [m]) := by rw [e2, hm]; simp only []; rw [mapOE_O 5]
  have e0 : (AV.agg [p, .mref m]).ok 0 = false := by simp [AV.ok, okL]
  rw [e, e0]
  simp only [mapO, e1, e3]
  rfl
theorem with_spec (r : List Rcd) (G : List Int) (id : Int) : APure Tryz.prog 59 [encAr r G, .int .i64 id] (encAr r (addG G id)) := by
  have up := updA (h := hget [(0, .cells [encPs (paps r), .mref 2]), (1, .cells [.nil, .nmap]), (2, .map (entsO G))]) (i := 2) (l := G) (x := id) rfl
  have ht : thaw 8 (hget [(0, .cells [encPs (paps r), .mref 2]), (1, .cells [encPs (paps r), .mref 2]), (2, .map (entsO (addG G id)))]) (.agg [encPs (paps r), .mref 2]) = some (encAr r (addG G id), [2]) := thawA rfl rfl
  exact APure.vcM Tryz.func59 (.clone <| .val 0 .undef [(2, some (.map (entsO (addG G id))))] .nil) rfl rfl ⟨Clone_spec, Eq.trans (by kernel_rfl) up, [2], Eq.trans (by kernel_rfl) ht⟩
theorem takes_spec (r : List Rcd) (G : List Int) (id : Int) (ha : Ar r) : APure Tryz.prog 38 [encAr r G, .int .i64 id] (.int .i64 ((lessN (setK (gF G) r r.length) (setK (withG (gF G) id) r r.length) : Nat) : Int)) := by
  have s1 := standing_spec r G ha
  have s2 := with_spec r G id
  have s3 := standing_spec r (addG G id) ha
  have hS := setK_4096 (g := gF G) (r := r) (k := r.length) ha.len
  rw [addG_g] at s3
  have v : some (⟨.int .i64 (IntKind.i64.wrap (BitVec.ofInt IntKind.i64.bits ((setK (gF G) r r.length : Nat) : Int) &&& ~~~BitVec.ofInt IntKind.i64.bits ((setK (withG (gF G) id) r r.length : Nat) : Int)).toNat), []⟩ : Out) = some ⟨.int .i64 ((lessN (setK (gF G) r r.length) (setK (withG (gF G) id) r r.length) : Nat) : Int), []⟩ := by rw [bLess hS]
  generalize lessN (setK (gF G) r r.length) (setK (withG (gF G) id) r r.length) = D at *
  generalize setK (gF G) r r.length = A at *
  generalize setK (withG (gF G) id) r r.length = B at *
  generalize addG G id = G' at *
  exact APure.vcM Tryz.func38 (.draw 4 <| .call (.int .i64 (A : Int)) <| .call (encAr r G') <| .call (.int .i64 (B : Int)) <| .val 11 (.int .i64 (D : Int)) [] .nil) rfl rfl ⟨by kernel_rfl, mixed, by kernel_rfl, s1, by kernel_rfl, s2, s3, Eq.trans (by kernel_rfl) v, [], by kernel_rfl⟩
/-! ### on a day -/
def withE (r : List Rcd) (l : List Ltr) (d id : Int) : Int := if dayE r l d = 0 then (if (idsR r).contains id then 0 else 6) else dayE r l d
def encAw (r : List Rcd) (l : List Ltr) (d id : Int) : AV := if withE r l d id = 0 then .tup [encAr r (goneL l d r), .int .i64 0] else .tup [.agg [.nil, .nmap], .int .i64 (withE r l d id)]
theorem dayE_0 {r : List Rcd} {l : List Ltr} {d : Int} (h0 : dayE r l d = 0) : checkV r l = 0 := by
  by_cases h : checkV r l = 0
  · exact h
  · unfold dayE at h0; rw [if_neg h] at h0; exact h0
theorem archiveWith_spec (r : List Rcd) (l : List Ltr) (d id : Int) : APure Tryz.prog 37 [encRs r, encLs l, .int .i64 d, .int .i64 id] (encAw r l d id) := by
  have s1 := archiveOn_spec r l d
  unfold encAe at s1
  by_cases h0 : dayE r l d = 0
  · rw [if_pos h0] at s1
    have ha := Ar_of (check_0 (dayE_0 h0)).1
    have hrl := ha.len
    have sI := areIn_one r id (by omega)
    cases h1 : (idsR r).contains id
    · rw [h1] at sI
      have e : encAw r l d id = .tup [.agg [.nil, .nmap], .int .i64 6] := by unfold encAw withE; rw [if_pos h0, h1]; rfl
      rw [e]
      generalize goneL l d r = G at *
      exact APure.vcM Tryz.func37 (.call (.tup [encAr r G, .int .i64 0]) <| .lent (.bool false) [3] .nil) rfl rfl ⟨s1, ⟨_, by kernel_rfl, .inl ⟨sI, .inr rfl⟩⟩, [], by kernel_rfl⟩
    · rw [h1] at sI
      have e : encAw r l d id = .tup [encAr r (goneL l d r), .int .i64 0] := by unfold encAw withE; rw [if_pos h0, h1]; rfl
      rw [e]
      generalize goneL l d r = G at *
      exact APure.vcM Tryz.func37 (.call (.tup [encAr r G, .int .i64 0]) <| .lent (.bool true) [3] .nil) rfl rfl ⟨s1, ⟨_, by kernel_rfl, .inl ⟨sI, .inr rfl⟩⟩, [], by kernel_rfl⟩
  · rw [if_neg h0] at s1
    have n0 : (dayE r l d != 0) = true := bne_iff_ne.2 h0
    have e0 : withE r l d id = dayE r l d := if_neg h0
    have e : encAw r l d id = .tup [.agg [.nil, .nmap], .int .i64 (dayE r l d)] := by unfold encAw; rw [e0, if_neg h0]
    rw [e]
    generalize dayE r l d = E at *
    exact APure.vcM Tryz.func37 (.call (.tup [.agg [.nil, .nmap], .int .i64 E]) <| .br 20 true .nil) rfl rfl ⟨s1, n0, [], by kernel_rfl⟩
theorem held_on {g g' : Int → Bool} : ∀ (s : List Rcd) (acc : List Int), (∀ x ∈ s, g x.id = g' x.id) → heldV g acc s = heldV g' acc s := by
  intro s
  induction s with
  | nil => intro acc _; rfl
  | cons x s ih =>
    intro acc h
    show heldV _ (if (!g x.id && _) = true then _ else _) s = heldV _ (if (!g' x.id && _) = true then _ else _) s
    rw [h x List.mem_cons_self]
    exact ih _ fun y hy => h y (List.mem_cons_of_mem _ hy)
theorem gone_on (ls : List Ltr) (d : Int) {r : List Rcd} {x : Rcd} (hx : x ∈ r) : gF (goneL ls d r) x.id = goneV ls d x.id := by
  unfold gF goneL
  rw [Bool.eq_iff_iff, List.contains_iff_mem, List.mem_filter]
  exact ⟨fun h => h.2, fun h2 => ⟨List.mem_map.2 ⟨x, hx, rfl⟩, h2⟩⟩
def takesD (r : List Rcd) (l : List Ltr) (d id : Int) : List Int := takesV (goneV l d) r id
theorem takesD_eq (r : List Rcd) (l : List Ltr) (d id : Int) : idsOf r (lessN (setK (gF (goneL l d r)) r r.length) (setK (withG (gF (goneL l d r)) id) r r.length)) = takesD r l d id := by
  rw [takes_set]
  unfold takesD takesV
  have e := held_on (g := withG (gF (goneL l d r)) id) (g' := withG (goneV l d) id) r [] fun x hx => by unfold withG; rw [gone_on l d hx]
  rw [held_gone, e]
theorem Takes_ok (r : List Rcd) (l : List Ltr) (d id : Int) : APureF Tryz.prog 13 [encRs r, encLs l, .int .i64 d, .int .i64 id] (encLe (takesD r l d id) (withE r l d id)) := by
  have s1 := archiveWith_spec r l d id
  unfold encAw at s1
  unfold encLe
  by_cases h0 : withE r l d id = 0
  · rw [if_pos h0] at s1 ⊢
    have hd : dayE r l d = 0 := by
      by_cases h : dayE r l d = 0
      · exact h
      · unfold withE at h0; rw [if_neg h] at h0; exact h0
    have ha := Ar_of (check_0 (dayE_0 hd)).1
    have hrl := ha.len
    have sT := takes_spec r (goneL l d r) id ha
    have hS : lessN (setK (gF (goneL l d r)) r r.length) (setK (withG (gF (goneL l d r)) id) r r.length) < 4096 := lessN_lt (setK_4096 hrl)
    rw [← takesD_eq]
    generalize lessN (setK (gF (goneL l d r)) r r.length) (setK (withG (gF (goneL l d r)) id) r r.length) = S at *
    generalize goneL l d r = G at *
    refine APureF.vcM Tryz.func13 (.call (.tup [encAr r G, .int .i64 0]) <| .draw 4 <| .call (.int .i64 (S : Int)) <| .inl Tryz.f35 .loop) rfl rfl ⟨s1, by kernel_rfl, mixed, by kernel_rfl, sT, by kernel_rfl, Tryz.func35, ?_⟩
    intro g hn hlo
    replace hn : g.n = 28 := hn
    replace hlo : g.low 9 := hlo
    refine acode_whileW (fun k : Nat => ⟨[(1, .int .i64 (S : Int)), (5, .rsl 10 0 (idsK r S k).length 1), (9, encPs (paps r)), (10, .int .i64 ((paps r).map cPp).length), (11, .int .i64 k)], [(10, .cells (iL (idsK r S k)))], 11⟩) (fun k => k ≤ r.length) (fun k => r.length - k) 0 (Nat.zero_le _) ?_ ?_
    · refine Wk.trans (Wk.le ?_ (hlo.mono (show 9 ≤ 11 by decide))) (Wk.own 5 1 (by kernel_rfl))
      exact St.le.of ⟨by kernel_rfl, rfl, by kernel_rfl, rfl, by kernel_rfl, rfl, by kernel_rfl, rfl, by kernel_rfl, rfl, trivial⟩ ⟨by kernel_rfl, (by decide : (10 : Nat) < 11), rfl, trivial⟩
    · intro k hk
      replace hk : k ≤ r.length := hk
      by_cases hlt : k < r.length
      · refine Exists.elim (getE hlt) fun x hx => ?_
        have ek := congrArg (AV.int .i64) (succ64 (k := k) (by omega))
        have hpl : k < (paps r).length := by rw [paps_len]; exact hlt
        have hp := paps_get hx
        have hb := bHas (S := S) (i := k) hS (by omega)
        have es := idsK_succ r S k
        have hl := idsK_len r S k
        rw [idA_get hx] at es
        refine (Bool.eq_false_or_eq_true (Nat.testBit S k)).symm.elim (fun hc => ?_) (fun hc => ?_)
        · rw [hc] at hb es
          have es : idsK r S (k + 1) = idsK r S k := es
          have e5 : AV.rsl 10 0 (idsK r S (k + 1)).length 1 = .rsl 10 0 (idsK r S k).length 1 := by rw [es]
          have o1 : some (AObj.cells (iL (idsK r S k))) = some (.cells (iL (idsK r S (k + 1)))) := by rw [es]
          exact ACode.vcM (.br 12 true <| .cells (cPp (x, k)) <| .br 19 false .nil) hn hlo (.roundW .cl) ⟨ltLen hpl, idx hp, hb, k + 1, hlt, mu1 hlt, Wk.le (St.le.of ⟨by kernel_rfl, rfl, Eq.trans (by kernel_rfl) e5.symm, rfl, by kernel_rfl, rfl, by kernel_rfl, rfl, Eq.trans (by kernel_rfl) ek, rfl, trivial⟩ ⟨Eq.trans (by kernel_rfl) o1, (by decide : (10 : Nat) < 11), iL_ok _ _, trivial⟩) (hlo.mono (show 9 ≤ 11 by decide))⟩
        · rw [hc] at hb es
          have es : idsK r S (k + 1) = idsK r S k ++ [x.id] := es
          have el : (idsK r S (k + 1)).length = (idsK r S k).length + 1 := by rw [es]; simp
          have ap := app_one (h := hget [(10, .cells (iL (idsK r S k))), (11, .cells (cPp (x, k))), (13, .cells [.int .i64 x.id])]) (i := 10) (j := 13) (nid := 14) (l := idsK r S k) (x := x.id) rfl rfl (by omega)
          rw [← es, ← el] at ap
          exact ACode.vcM (.br 12 true <| .cells (cPp (x, k)) <| .br 19 true <| .val 25 (.rsl 14 0 (idsK r S (k + 1)).length 1) [(10, none), (14, some (.cells (iL (idsK r S (k + 1)))))] .nil) hn hlo (.roundW .cl) ⟨ltLen hpl, idx hp, hb, Eq.trans (by kernel_rfl) ap, k + 1, hlt, mu1 hlt,
            Wk.ren (c := 10) (b := 14) (St.ren.of rfl (by decide) ⟨.inl ⟨by kernel_rfl, rfl⟩, .inr ⟨_, _, _, rfl, by kernel_rfl⟩, .inl ⟨by kernel_rfl, rfl⟩, .inl ⟨by kernel_rfl, rfl⟩, .inl ⟨Eq.trans (by kernel_rfl) ek, rfl⟩, trivial⟩ ⟨.inr ⟨rfl, by kernel_rfl, _, rfl, iL_ok _ _⟩, trivial⟩) (hlo.mono (show 9 ≤ 10 by decide))⟩
      · have hk' : k = r.length := by omega
        have hpl : ¬ k < (paps r).length := by rw [paps_len]; exact hlt
        have e : idsK r S k = idsOf r S := by rw [hk']; rfl
        have ht : thawF 8 (hget [(10, .cells (iL (idsK r S k)))]) (.tup [.rsl 10 0 (idsK r S k).length 1, .int .i64 0]) = some (.tup [encR (idsOf r S), .int .i64 0], [10]) := by rw [thawF_tup (l := idsK r S k) rfl, e]
        exact ACode.vcM (.br 12 false .nil) hn hlo (.roundW .cl) ⟨geLen hpl, _, .refl _, .nil, [10], Eq.trans (by kernel_rfl) ht⟩
  · rw [if_neg h0] at s1 ⊢
    have n0 : (withE r l d id != 0) = true := bne_iff_ne.2 h0
    generalize withE r l d id = E at *
    exact APureF.vcM Tryz.func13 (.call (.tup [.agg [.nil, .nmap], .int .i64 E]) <| .br 21 true .nil) rfl rfl ⟨s1, n0, [], by kernel_rfl⟩
end Go.Proofs.YtepbiedolkghhaaGreat
