/-
  THE LAW OF WHAT HOLDS: the program answers as the reference does.
-/
import Derived.Test.YtmdhgkfjlphliaaTK
namespace Go.Proofs.Ytmdhgkfjlphliaa
open Go Go.Am
set_option maxRecDepth 100000
set_option maxHeartbeats 8000000
theorem at_recH {r : List Rcd} (hr : recsB r = true) {d : Int} (h : (idsR r).contains d = true) : ∃ (j : Nat) (y : Rcd), r[j]? = some y ∧ y.id = d ∧ fndV (isId d) r = (j : Int) := by
  obtain ⟨j, e⟩ := List.mem_iff_getElem?.1 (List.contains_iff_mem.1 h)
  have hj : j < r.length := by
    have h6 := (List.getElem?_eq_some_iff.1 e).1
    unfold idsR at h6; rwa [List.length_map] at h6
  have hy : r[j]? = some r[j] := List.getElem?_eq_getElem hj
  have ey : (r[j]).id = d := by rw [idsR_get hy] at e; exact Option.some.inj e
  refine ⟨j, r[j], hy, ey, fndV_hit hy ?_ (by unfold isId; simp [ey])⟩
  intro z hz
  have h3 := (nodup_at (recs_nodup hr).1 (idsR_get hy)).1
  unfold isId
  refine beq_eq_false_iff_ne.2 fun h4 => h3 ?_
  rw [ey, ← h4]
  unfold idsR
  rw [← List.map_take]
  exact List.mem_map_of_mem hz
theorem goB_with (g : Int → Bool) (id : Int) {r : List Rcd} (hn : (idsR r).Nodup) {j : Nat} {y : Rcd} (hy : r[j]? = some y) (e : y.id = id) : (goB g r).set j true = goB (withG g id) r := by
  have hj := (List.getElem?_eq_some_iff.1 hy).1
  refine List.ext_getElem? fun i => ?_
  by_cases hi : i < r.length
  · have hz := List.getElem?_eq_getElem hi
    have h2 : (goB (withG g id) r)[i]? = some (withG g id (r[i]).id) := by unfold goB; rw [List.getElem?_map, hz]; rfl
    rw [h2]
    by_cases hij : j = i
    · subst hij
      rw [List.getElem?_set_self (by unfold goB; rw [List.length_map]; exact hj)]
      rw [hy] at hz
      rw [← Option.some.inj hz, e]
      simp [withG]
    · rw [List.getElem?_set_ne hij]
      have h1 : (goB g r)[i]? = some (g (r[i]).id) := by unfold goB; rw [List.getElem?_map, hz]; rfl
      rw [h1]
      have hne : (r[i]).id ≠ id := fun h => by
        have hp := List.pairwise_iff_getElem.1 hn
        have hil : i < (idsR r).length := by unfold idsR; rw [List.length_map]; exact hi
        have hjl : j < (idsR r).length := by unfold idsR; rw [List.length_map]; exact hj
        have q : (idsR r)[i] = (idsR r)[j] := by
          have a1 : (idsR r)[i]? = some (r[i]).id := idsR_get hz
          have a2 : (idsR r)[j]? = some y.id := idsR_get hy
          rw [List.getElem?_eq_getElem hil] at a1
          rw [List.getElem?_eq_getElem hjl] at a2
          rw [Option.some.inj a1, Option.some.inj a2, h, e]
        rcases Nat.lt_trichotomy i j with h3 | h3 | h3
        · exact hp i j hil hjl h3 q
        · exact hij h3.symm
        · exact hp j i hjl hil h3 q.symm
      simp [withG, hne]
  · rw [List.getElem?_eq_none (by rw [List.length_set]; unfold goB; rw [List.length_map]; omega), List.getElem?_eq_none (by unfold goB; rw [List.length_map]; omega)]
theorem rTakes_spec (r : List Rcd) (l : List Ltr) (d id : Int) : APure Try.prog 13 [encRs r, encLs l, .int .i64 d, .int .i64 id] (encLe (takesD r l d id) (withE r l d id)) := by
  have hO := fun {f : FuncId} (hf : Try.prog.funcs[f]? = some Try.f48) => openR hf r l d id
  unfold opnP at hO
  unfold encLe
  by_cases h0 : withE r l d id = 0
  · have hlen : ((r.map cRc).length : Int) = r.length := by rw [List.length_map]
    have hday : dayE r l d = 0 := by
      by_cases h : dayE r l d = 0
      · exact h
      · unfold withE at h0; rw [if_neg h] at h0; exact absurd h0 h
    have hR := (check_0 (dayE_0 hday)).1
    have hrl := (recs_nodup hR).2.2
    have hidm : (idsR r).contains id = true := by
      unfold withE at h0
      rw [if_pos hday] at h0
      cases h : (idsR r).contains id
      · rw [h] at h0; simp at h0
      · rfl
    obtain ⟨j, y, hy, ey, ef⟩ := at_recH hR hidm
    have hj := (List.getElem?_eq_some_iff.1 hy).1
    rw [if_pos h0]
    simp only [h0, if_true, ef] at hO
    have hgw := goB_with (goneV l d) id (recs_nodup hR).1 hy ey
    have hGl : (goB (goneV l d) r).length = r.length := by unfold goB; rw [List.length_map]
    have hHl : (hoB (goneV l d) r).length = r.length := by unfold hoB; rw [List.length_map]
    have hHg : ∀ {i : Nat} {z : Rcd}, r[i]? = some z → (hoB (goneV l d) r)[i]? = some ((heldV (goneV l d) [] r).contains z.id) := fun h => by unfold hoB; rw [List.getElem?_map, h]; rfl
    have hXg : ∀ {i : Nat} {z : Rcd}, r[i]? = some z → (hoB (withG (goneV l d) id) r)[i]? = some ((heldV (withG (goneV l d) id) [] r).contains z.id) := fun h => by unfold hoB; rw [List.getElem?_map, h]; rfl
    have sHo := rHold_spec r (withG (goneV l d) id) hR
    have sI := rids_ok r (fun i => (heldV (goneV l d) [] r).contains i && !(heldV (withG (goneV l d) id) [] r).contains i) (by omega)
    have htk : (idsR r).filter (fun i => (heldV (goneV l d) [] r).contains i && !(heldV (withG (goneV l d) id) [] r).contains i) = takesD r l d id := rfl
    rw [htk] at sI
    have key : ∃ P : Nat → List Bool, P 0 = hoB (goneV l d) r ∧ (∀ i, (P i).length = r.length) ∧ (∀ (i : Nat) (z : Rcd), r[i]? = some z → (P i)[i]? = some ((heldV (goneV l d) [] r).contains z.id) ∧ (P i).set i ((heldV (goneV l d) [] r).contains z.id && !(heldV (withG (goneV l d) id) [] r).contains z.id) = P (i + 1)) ∧ P r.length = r.map (fun x => (heldV (goneV l d) [] r).contains x.id && !(heldV (withG (goneV l d) id) [] r).contains x.id) := by
      have hst := fun (i : Nat) (z : Rcd) (hz : r[i]? = some z) => stepG_set (fun (i : Nat) (b : Bool) => b && !((hoB (withG (goneV l d) id) r).getD i false)) (hHg hz)
      have hsg := fun (i : Nat) (z : Rcd) (hz : r[i]? = some z) => stepG_get (fun (i : Nat) (b : Bool) => b && !((hoB (withG (goneV l d) id) r).getD i false)) i (hHg hz)
      have hgd : ∀ (i : Nat) (z : Rcd), r[i]? = some z → (hoB (withG (goneV l d) id) r).getD i false = (heldV (withG (goneV l d) id) [] r).contains z.id := fun i z hz => by rw [List.getD_eq_getElem?_getD, hXg hz]; rfl
      refine ⟨fun i => stepG (fun (i : Nat) (b : Bool) => b && !((hoB (withG (goneV l d) id) r).getD i false)) (hoB (goneV l d) r) i, stepG_zero _ _, fun i => ?_, fun i z hz => ⟨?_, ?_⟩, ?_⟩
      · show (stepG _ _ i).length = _
        rw [stepG_len, hHl]
      · have := hsg i z hz
        rw [if_neg (Nat.lt_irrefl i)] at this
        exact this
      · have := hst i z hz
        rw [hgd i z hz] at this
        exact this
      · show stepG _ _ r.length = _
        refine List.ext_getElem? fun i => ?_
        by_cases hi : i < r.length
        · have hz := List.getElem?_eq_getElem hi
          rw [stepG_get _ r.length (hHg hz), if_pos hi, hgd i _ hz, List.getElem?_map, hz]; rfl
        · rw [List.getElem?_eq_none (by rw [stepG_len, hHl]; omega), List.getElem?_eq_none (by rw [List.length_map]; omega)]
    obtain ⟨P, hP0, hPl, hPs, hPe⟩ := key
    rw [← hPe] at sI
    have hXl : (hoB (withG (goneV l d) id) r).length = r.length := by unfold hoB; rw [List.length_map]
    have ixj := ixBo (h := hget []) (id := 0) (n := (r.map cRc).length) (k := j) (by rw [List.length_map]; exact hj)
    have stj := stBo (h := hget [(0, .cells (boL (goB (goneV l d) r)))]) (id := 0) (k := j) (l := goB (goneV l d) r) (x := true) rfl (by rw [hGl]; exact hj)
    rw [hgw] at stj
    have hGl2 : (goB (withG (goneV l d) id) r).length = (r.map cRc).length := by unfold goB; rw [List.length_map, List.length_map]
    have tG : thawL (hget [(0, .cells (boL (goB (withG (goneV l d) id) r))), (1, .cells (boL (hoB (goneV l d) r)))]) [encRs r, .rsl 0 0 (r.map cRc).length 1] = some ([encRs r, encBs (goB (withG (goneV l d) id) r)], [0]) := by
      have t1 : thaw 8 (hget [(0, .cells (boL (goB (withG (goneV l d) id) r))), (1, .cells (boL (hoB (goneV l d) r)))]) (encRs r) = some (encRs r, []) := by unfold thaw; exact if_pos rfl
      have t2 := thaw_fl 6 (h := hget [(0, .cells (boL (goB (withG (goneV l d) id) r))), (1, .cells (boL (hoB (goneV l d) r)))]) (id := 0) (enc := encBo) (n := 1) (l := goB (withG (goneV l d) id) r) (fun _ => rfl) (fun _ => rfl) rfl
      rw [hGl2] at t2
      simp only [thawL, mapO, t1, t2]
      rfl
    have hWX : ∀ z ∈ r, True := fun _ _ => trivial
    generalize hoB (withG (goneV l d) id) r = XL at *
    generalize goB (withG (goneV l d) id) r = GW at *
    generalize (heldV (goneV l d) [] r).contains = W at *
    generalize (heldV (withG (goneV l d) id) [] r).contains = X at *
    generalize takesD r l d id = TD' at *
    generalize hoB (goneV l d) r = HL at *
    generalize goB (goneV l d) r = GL at *
    have tI : ∀ L : List Bool, L.length = r.length → thawL (hget [(1, .cells (boL L))]) [encRs r, .rsl 1 0 (r.map cRc).length 1] = some ([encRs r, encBs L], [1]) := fun L hL => by
      have t1 : thaw 8 (hget [(1, .cells (boL L))]) (encRs r) = some (encRs r, []) := by unfold thaw; exact if_pos rfl
      have t2 := thaw_fl 6 (h := hget [(1, .cells (boL L))]) (id := 1) (enc := encBo) (n := 1) (l := L) (fun _ => rfl) (fun _ => rfl) rfl
      rw [hL] at t2
      rw [show (r.map cRc).length = r.length from List.length_map _]
      simp only [thawL, mapO, t1, t2]
      rfl
    refine APure.range rfl rfl (rangeVc Try.func13 (K := fun v H' _ => ∃ is, thaw 8 (hget H') v = some (.tup [encR TD', .int .i64 0], is)) (.inl Try.f48 <| .nz <| .val 31 (.vptr 0 j) [] <| .val 1 .undef [(0, some (.cells (boL GW)))] <| .lent (encBs XL) [0] <| .loop) ⟨Try.func48, _, fun f hf => hO hf, ?_⟩)
    rintro _ _ _ ⟨rfl, rfl, rfl⟩
    refine ⟨Eq.trans (by kernel_rfl) ixj, Eq.trans (by kernel_rfl) stj, ⟨_, Eq.trans (by kernel_rfl) tG, .inr sHo⟩, ?_⟩
    intro g hn hlo
    replace hn : g.n = 58 := hn
    replace hlo : g.low 0 := hlo
    refine acode_whileW (fun i : Nat => ⟨[(0, encRs r), (12, .rsl 1 0 (r.map cRc).length 1), (14, encBs XL), (15, .int .i64 (i : Int))], [(1, .cells (boL (P i)))], 2⟩) (fun i => i ≤ r.length) (fun i => r.length - i) 0 (Nat.zero_le _) ?_ ?_
    · have o1 : some (AObj.cells (boL HL)) = some (.cells (boL (P 0))) := by rw [hP0]
      exact Wk.le (St.le.of ⟨by kernel_rfl, rfl, by kernel_rfl, rfl, by kernel_rfl, rfl, by kernel_rfl, rfl, trivial⟩ ⟨Eq.trans (by kernel_rfl) o1, (by decide : (1 : Nat) < 2), boL_ok _ _, trivial⟩) (hlo.mono (Nat.zero_le _))
    intro i hi
    replace hi : i ≤ r.length := hi
    by_cases hil : i < r.length
    · refine Exists.elim (getE hil) fun z hz => ?_
      have ei := congrArg (AV.int .i64) (succ64 (k := i) (by omega))
      have hps := hPs i z hz
      have hps1 := hps.1
      have hps2 := hps.2
      have hxg := hXg hz
      have d38 : decide ((i : Int) < ((r.map cRc).length : Int)) = true := decide_eq_true (by omega)
      have ixi := ixBo (h := hget []) (id := 1) (n := (r.map cRc).length) (k := i) (by rw [List.length_map]; exact hil)
      have ldi := ldBo (h := hget [(1, .cells (boL (P i)))]) (id := 1) rfl hps1
      have sti := stBo (h := hget [(1, .cells (boL (P i)))]) (id := 1) (k := i) (l := P i) (x := W z.id && !X z.id) rfl (by rw [hPl]; exact hil)
      rw [hps2] at sti
      refine (Bool.eq_false_or_eq_true (W z.id)).symm.elim (fun hw => ?_) (fun hw => ?_)
      · rw [hw] at ldi sti
        rw [Bool.false_and] at sti
        exact ACode.vcM (.br 38 true <| .val 45 (.vptr 1 i) [] <| .val 46 (.bool false) [] <| .val 54 (.vptr 1 i) [] <| .val 1 .undef [(1, some (.cells (boL (P (i + 1)))))] .nil) hn hlo (.roundW .cl) ⟨d38, Eq.trans (by kernel_rfl) ixi, Eq.trans (by kernel_rfl) ldi, Eq.trans (by kernel_rfl) ixi, Eq.trans (by kernel_rfl) sti, i + 1, hil, mu1 hil, Wk.le (St.le.of ⟨by kernel_rfl, rfl, by kernel_rfl, rfl, by kernel_rfl, rfl, Eq.trans (by kernel_rfl) ei, rfl, trivial⟩ ⟨by kernel_rfl, (by decide : (1 : Nat) < 2), boL_ok _ _, trivial⟩) (hlo.mono (Nat.zero_le _))⟩
      · rw [hw] at ldi sti
        rw [Bool.true_and] at sti
        exact ACode.vcM (.br 38 true <| .val 45 (.vptr 1 i) [] <| .val 46 (.bool true) [] <| .cells (encBo (X z.id)) <| .val 54 (.vptr 1 i) [] <| .val 1 .undef [(1, some (.cells (boL (P (i + 1)))))] .nil) hn hlo (.roundW .cl) ⟨d38, Eq.trans (by kernel_rfl) ixi, Eq.trans (by kernel_rfl) ldi, idx hxg, Eq.trans (by kernel_rfl) ixi, Eq.trans (by kernel_rfl) sti, i + 1, hil, mu1 hil, Wk.le (St.le.of ⟨by kernel_rfl, rfl, by kernel_rfl, rfl, by kernel_rfl, rfl, Eq.trans (by kernel_rfl) ei, rfl, trivial⟩ ⟨by kernel_rfl, (by decide : (1 : Nat) < 2), boL_ok _ _, trivial⟩) (hlo.mono (Nat.zero_le _))⟩
    · have hi' : i = r.length := by omega
      have d38 : decide ((i : Int) < ((r.map cRc).length : Int)) = false := decide_eq_false (by omega)
      have tIi := tI (P i) (hPl i)
      rw [← hi'] at sI
      exact ACode.vcM (.br 38 false .nil) hn hlo (.roundW .cl) ⟨d38, _, .refl _, .lent (encR TD') [1] .nil, ⟨_, Eq.trans (by kernel_rfl) tIi, .inr sI⟩, [], by kernel_rfl⟩
  · rw [if_neg h0]
    simp only [h0, if_false] at hO
    have n0 : (withE r l d id != 0) = true := bne_iff_ne.2 h0
    generalize withE r l d id = E at *
    refine APure.range rfl rfl (rangeVc Try.func13 (K := fun v H' _ => ∃ is, thaw 8 (hget H') v = some (.tup [.nil, .int .i64 E], is)) (.inl Try.f48 <| .nz <| .br 27 true .nil) ⟨Try.func48, _, fun f hf => hO hf, ?_⟩)
    rintro _ _ _ ⟨rfl, rfl, rfl⟩
    exact ⟨n0, [], by kernel_rfl⟩
theorem thawL_rl {h : Nat → Option AObj} {i n : Nat} {r : List Rcd} {l : List Ltr} (hn : n = l.length) (h0 : h i = some (.cells (lL l))) : thawL h [encRs r, .rsl i 0 n 4] = some ([encRs r, encLs l], [i]) := by
  subst hn
  have t1 : thaw 8 h (encRs r) = some (encRs r, []) := by unfold thaw; exact if_pos rfl
  have t2 := thaw_fl 6 (h := h) (id := i) (enc := cLt) (n := 4) (l := l) (fun _ => rfl) (fun _ => rfl) h0
  simp only [thawL, mapO, t1, t2]
  rfl
theorem thawL_ll {h : Nat → Option AObj} {i n : Nat} {l : List Ltr} (hn : n = l.length) (h0 : h i = some (.cells (lL l))) : thawL h [.rsl i 0 n 4, encLs l] = some ([encLs l, encLs l], [i]) := by
  subst hn
  have t1 : thaw 8 h (encLs l) = some (encLs l, []) := by unfold thaw; exact if_pos rfl
  have t2 := thaw_fl 6 (h := h) (id := i) (enc := cLt) (n := 4) (l := l) (fun _ => rfl) (fun _ => rfl) h0
  simp only [thawL, mapO, t1, t2]
  rfl
theorem law_holds (r : List Rcd) (l : List Ltr) (d id : Int) : APure Try.prog 3 [encRs r, encLs l, .int .i64 d, .int .i64 id] (.bool true) := by
  have sG := Great_spec r l
  cases h1 : greatB r l.length
  case true =>
    rw [h1] at sG
    exact APure.vc Try.func3 rfl (.call (.bool true) .nil) rfl rfl ⟨sG, trivial, rfl⟩
  rw [h1] at sG
  have hgr : r.length ≤ 13 ∧ l.length ≤ 30 ∧ r.any grR = false := by
    unfold greatB at h1
    simp only [Bool.or_eq_false_iff, decide_eq_false_iff_not] at h1
    exact ⟨by omega, by omega, h1.2.2⟩
  have hww : ∀ x ∈ r, x.ways.length ≤ 1000 ∧ ∀ w ∈ x.ways, w.length ≤ 1000 := fun x hx => by
    have h2 := List.any_eq_false.1 hgr.2.2 x hx
    unfold grR at h2
    simp only [Bool.or_eq_true, decide_eq_true_eq, not_or, List.any_eq_true, not_exists, not_and] at h2
    refine ⟨by omega, fun w hw => ?_⟩
    have h3 := h2.2 w hw
    unfold grW at h3
    simp only [decide_eq_true_eq] at h3
    omega
  have sTw := Twin_spec r (by omega) hww
  have sR := SameR_spec r (by omega) hww
  have sL := SameL_spec l (by omega)
  have sC := Check_spec r l
  have sCr := rCheck_spec r l
  have eC : (checkV r l == checkV r l) = true := by simp
  have hil : (idsR r).length = r.length := by unfold idsR; rw [List.length_map]
  have fl1 : ∀ p : Int → Bool, ((idsR r).filter p).length ≤ 1000 := fun p => by have := List.length_filter_le p (idsR r); omega
  have sH := Holds_ok r l d
  have sHr := rHolds_spec r l d
  have sT := Takes_ok r l d id
  have sTr := rTakes_spec r l d id
  unfold encLe at sH sHr sT sTr
  have sXs := Same_spec (holdsV r l d) (fl1 _)
  have sYs := Same_spec (takesD r l d id) (fl1 _)
  have sN := Same_nil
  generalize holdsV r l d = XL at *
  generalize takesD r l d id = YL at *
  generalize dayE r l d = E1 at *
  generalize withE r l d id = E2 at *
  generalize checkV r l = C at *
  refine APure.intro Try.func3 rfl rfl rfl fun g hn hlo => ?_
  replace hn : g.n = 94 := hn
  replace hlo : g.low 0 := hlo
  have ap0 := appL0 (h := hget [(0, .cells [])]) (i := 0) (nid := 1) (l := l) rfl (by omega)
  have t1 := thawL_letters (h := hget [(1, .cells (lL l))]) (i := 1) (n := l.length) (r := r) (l := l) (d := d) rfl rfl
  have t2 := thawL_letters2 (h := hget [(1, .cells (lL l))]) (i := 1) (n := l.length) (r := r) (l := l) (d := d) (e := id) rfl rfl
  have t3 := thawL_rl (h := hget [(1, .cells (lL l))]) (i := 1) (n := l.length) (r := r) (l := l) rfl rfl
  have t4 := thawL_ll (h := hget [(1, .cells (lL l))]) (i := 1) (n := l.length) (l := l) rfl rfl
  refine ACode.cut 2 (fun _ : Unit => ⟨[(0, encRs r), (1, encLs l), (2, .int .i64 d), (3, .int .i64 id), (9, encRs r), (10, .rsl 1 0 l.length 4)], [(1, .cells (lL l))], 2⟩) (fun _ => True) (.call (.bool false) <| .call (encRs r) <| .val 26 (.rsl 1 0 l.length 4) [(0, none), (1, some (.cells (lL l)))] .nil) hn hlo .ret rfl ⟨sG, sTw, Eq.trans (by kernel_rfl) ap0, (), trivial, Wk.le (St.le.of ⟨by kernel_rfl, rfl, by kernel_rfl, rfl, by kernel_rfl, rfl, by kernel_rfl, rfl, by kernel_rfl, rfl, by kernel_rfl, rfl, trivial⟩ ⟨by kernel_rfl, (by decide : (1 : Nat) < 2), lL_ok _ _, trivial⟩) (hlo.mono (Nat.zero_le _))⟩ fun _ _ => ?_
  by_cases h2 : E1 = 0
  · rw [if_pos h2] at sH sHr
    have sX := sXs
    by_cases h3 : E2 = 0
    · rw [if_pos h3] at sT sTr
      have sY := sYs
      refine ACode.cut 1 (fun _ : Unit => ⟨[(0, encRs r), (1, encLs l), (2, .int .i64 d), (3, .int .i64 id), (9, encRs r), (10, .rsl 1 0 l.length 4), (11, encR XL), (12, .int .i64 0), (13, encR XL), (14, .int .i64 0)], [(1, .cells (lL l))], 2⟩) (fun _ => True) (.lent (.tup [encR XL, .int .i64 0]) [1] <| .call (.tup [encR XL, .int .i64 0]) .nil) hn hlo .ret rfl ⟨⟨_, Eq.trans (by kernel_rfl) t1, .inr sH⟩, sHr, (), trivial, Wk.le (St.le.of ⟨by kernel_rfl, rfl, by kernel_rfl, rfl, by kernel_rfl, rfl, by kernel_rfl, rfl, by kernel_rfl, rfl, by kernel_rfl, rfl, by kernel_rfl, rfl, by kernel_rfl, rfl, by kernel_rfl, rfl, by kernel_rfl, rfl, trivial⟩ ⟨by kernel_rfl, (by decide : (1 : Nat) < 2), lL_ok _ _, trivial⟩) (hlo.mono (Nat.zero_le _))⟩ fun _ _ => ?_
      refine ACode.cut 1 (fun _ : Unit => ⟨[(0, encRs r), (1, encLs l), (9, encRs r), (10, .rsl 1 0 l.length 4), (11, encR XL), (12, .int .i64 0), (13, encR XL), (14, .int .i64 0), (15, encR YL), (16, .int .i64 0), (17, encR YL), (18, .int .i64 0)], [(1, .cells (lL l))], 2⟩) (fun _ => True) (.lent (.tup [encR YL, .int .i64 0]) [1] <| .call (.tup [encR YL, .int .i64 0]) .nil) hn hlo .ret rfl ⟨⟨_, Eq.trans (by kernel_rfl) t2, .inr sT⟩, sTr, (), trivial, Wk.le (St.le.of ⟨by kernel_rfl, rfl, by kernel_rfl, rfl, by kernel_rfl, rfl, by kernel_rfl, rfl, by kernel_rfl, rfl, by kernel_rfl, rfl, by kernel_rfl, rfl, by kernel_rfl, rfl, by kernel_rfl, rfl, by kernel_rfl, rfl, by kernel_rfl, rfl, by kernel_rfl, rfl, trivial⟩ ⟨by kernel_rfl, (by decide : (1 : Nat) < 2), lL_ok _ _, trivial⟩) (hlo.mono (Nat.zero_le _))⟩ fun _ _ => ?_
      exact ACode.vcM (.lent (.int .i64 C) [1] <| .call (.int .i64 C) <| .br 64 true <| .call (.bool true) <| .call (.bool true) <| .call (.bool true) <| .lent (.bool true) [1] .nil) hn hlo .ret ⟨⟨_, Eq.trans (by kernel_rfl) t3, .inl ⟨sC, .inr rfl⟩⟩, sCr, eC, sX, sY, sR, ⟨_, Eq.trans (by kernel_rfl) t4, .inl ⟨sL, .inr rfl⟩⟩, trivial, rfl⟩
    · rw [if_neg h3] at sT sTr
      have sY := sN
      have e2 : (E2 == E2) = true := by simp
      refine ACode.cut 1 (fun _ : Unit => ⟨[(0, encRs r), (1, encLs l), (2, .int .i64 d), (3, .int .i64 id), (9, encRs r), (10, .rsl 1 0 l.length 4), (11, encR XL), (12, .int .i64 0), (13, encR XL), (14, .int .i64 0)], [(1, .cells (lL l))], 2⟩) (fun _ => True) (.lent (.tup [encR XL, .int .i64 0]) [1] <| .call (.tup [encR XL, .int .i64 0]) .nil) hn hlo .ret rfl ⟨⟨_, Eq.trans (by kernel_rfl) t1, .inr sH⟩, sHr, (), trivial, Wk.le (St.le.of ⟨by kernel_rfl, rfl, by kernel_rfl, rfl, by kernel_rfl, rfl, by kernel_rfl, rfl, by kernel_rfl, rfl, by kernel_rfl, rfl, by kernel_rfl, rfl, by kernel_rfl, rfl, by kernel_rfl, rfl, by kernel_rfl, rfl, trivial⟩ ⟨by kernel_rfl, (by decide : (1 : Nat) < 2), lL_ok _ _, trivial⟩) (hlo.mono (Nat.zero_le _))⟩ fun _ _ => ?_
      refine ACode.cut 1 (fun _ : Unit => ⟨[(0, encRs r), (1, encLs l), (9, encRs r), (10, .rsl 1 0 l.length 4), (11, encR XL), (12, .int .i64 0), (13, encR XL), (14, .int .i64 0), (15, .nil), (16, .int .i64 E2), (17, .nil), (18, .int .i64 E2)], [(1, .cells (lL l))], 2⟩) (fun _ => True) (.lent (.tup [.nil, .int .i64 E2]) [1] <| .call (.tup [.nil, .int .i64 E2]) .nil) hn hlo .ret rfl ⟨⟨_, Eq.trans (by kernel_rfl) t2, .inr sT⟩, sTr, (), trivial, Wk.le (St.le.of ⟨by kernel_rfl, rfl, by kernel_rfl, rfl, by kernel_rfl, rfl, by kernel_rfl, rfl, by kernel_rfl, rfl, by kernel_rfl, rfl, by kernel_rfl, rfl, by kernel_rfl, rfl, by kernel_rfl, rfl, by kernel_rfl, rfl, by kernel_rfl, rfl, by kernel_rfl, rfl, trivial⟩ ⟨by kernel_rfl, (by decide : (1 : Nat) < 2), lL_ok _ _, trivial⟩) (hlo.mono (Nat.zero_le _))⟩ fun _ _ => ?_
      exact ACode.vcM (.lent (.int .i64 C) [1] <| .call (.int .i64 C) <| .br 64 true <| .call (.bool true) <| .call (.bool true) <| .br 84 true <| .call (.bool true) <| .lent (.bool true) [1] .nil) hn hlo .ret ⟨⟨_, Eq.trans (by kernel_rfl) t3, .inl ⟨sC, .inr rfl⟩⟩, sCr, eC, sX, sY, e2, sR, ⟨_, Eq.trans (by kernel_rfl) t4, .inl ⟨sL, .inr rfl⟩⟩, trivial, rfl⟩
  · rw [if_neg h2] at sH sHr
    have sX := sN
    have e1 : (E1 == E1) = true := by simp
    by_cases h3 : E2 = 0
    · rw [if_pos h3] at sT sTr
      have sY := sYs
      refine ACode.cut 1 (fun _ : Unit => ⟨[(0, encRs r), (1, encLs l), (2, .int .i64 d), (3, .int .i64 id), (9, encRs r), (10, .rsl 1 0 l.length 4), (11, .nil), (12, .int .i64 E1), (13, .nil), (14, .int .i64 E1)], [(1, .cells (lL l))], 2⟩) (fun _ => True) (.lent (.tup [.nil, .int .i64 E1]) [1] <| .call (.tup [.nil, .int .i64 E1]) .nil) hn hlo .ret rfl ⟨⟨_, Eq.trans (by kernel_rfl) t1, .inr sH⟩, sHr, (), trivial, Wk.le (St.le.of ⟨by kernel_rfl, rfl, by kernel_rfl, rfl, by kernel_rfl, rfl, by kernel_rfl, rfl, by kernel_rfl, rfl, by kernel_rfl, rfl, by kernel_rfl, rfl, by kernel_rfl, rfl, by kernel_rfl, rfl, by kernel_rfl, rfl, trivial⟩ ⟨by kernel_rfl, (by decide : (1 : Nat) < 2), lL_ok _ _, trivial⟩) (hlo.mono (Nat.zero_le _))⟩ fun _ _ => ?_
      refine ACode.cut 1 (fun _ : Unit => ⟨[(0, encRs r), (1, encLs l), (9, encRs r), (10, .rsl 1 0 l.length 4), (11, .nil), (12, .int .i64 E1), (13, .nil), (14, .int .i64 E1), (15, encR YL), (16, .int .i64 0), (17, encR YL), (18, .int .i64 0)], [(1, .cells (lL l))], 2⟩) (fun _ => True) (.lent (.tup [encR YL, .int .i64 0]) [1] <| .call (.tup [encR YL, .int .i64 0]) .nil) hn hlo .ret rfl ⟨⟨_, Eq.trans (by kernel_rfl) t2, .inr sT⟩, sTr, (), trivial, Wk.le (St.le.of ⟨by kernel_rfl, rfl, by kernel_rfl, rfl, by kernel_rfl, rfl, by kernel_rfl, rfl, by kernel_rfl, rfl, by kernel_rfl, rfl, by kernel_rfl, rfl, by kernel_rfl, rfl, by kernel_rfl, rfl, by kernel_rfl, rfl, by kernel_rfl, rfl, by kernel_rfl, rfl, trivial⟩ ⟨by kernel_rfl, (by decide : (1 : Nat) < 2), lL_ok _ _, trivial⟩) (hlo.mono (Nat.zero_le _))⟩ fun _ _ => ?_
      exact ACode.vcM (.lent (.int .i64 C) [1] <| .call (.int .i64 C) <| .br 64 true <| .call (.bool true) <| .br 74 true <| .call (.bool true) <| .call (.bool true) <| .lent (.bool true) [1] .nil) hn hlo .ret ⟨⟨_, Eq.trans (by kernel_rfl) t3, .inl ⟨sC, .inr rfl⟩⟩, sCr, eC, sX, e1, sY, sR, ⟨_, Eq.trans (by kernel_rfl) t4, .inl ⟨sL, .inr rfl⟩⟩, trivial, rfl⟩
    · rw [if_neg h3] at sT sTr
      have sY := sN
      have e2 : (E2 == E2) = true := by simp
      refine ACode.cut 1 (fun _ : Unit => ⟨[(0, encRs r), (1, encLs l), (2, .int .i64 d), (3, .int .i64 id), (9, encRs r), (10, .rsl 1 0 l.length 4), (11, .nil), (12, .int .i64 E1), (13, .nil), (14, .int .i64 E1)], [(1, .cells (lL l))], 2⟩) (fun _ => True) (.lent (.tup [.nil, .int .i64 E1]) [1] <| .call (.tup [.nil, .int .i64 E1]) .nil) hn hlo .ret rfl ⟨⟨_, Eq.trans (by kernel_rfl) t1, .inr sH⟩, sHr, (), trivial, Wk.le (St.le.of ⟨by kernel_rfl, rfl, by kernel_rfl, rfl, by kernel_rfl, rfl, by kernel_rfl, rfl, by kernel_rfl, rfl, by kernel_rfl, rfl, by kernel_rfl, rfl, by kernel_rfl, rfl, by kernel_rfl, rfl, by kernel_rfl, rfl, trivial⟩ ⟨by kernel_rfl, (by decide : (1 : Nat) < 2), lL_ok _ _, trivial⟩) (hlo.mono (Nat.zero_le _))⟩ fun _ _ => ?_
      refine ACode.cut 1 (fun _ : Unit => ⟨[(0, encRs r), (1, encLs l), (9, encRs r), (10, .rsl 1 0 l.length 4), (11, .nil), (12, .int .i64 E1), (13, .nil), (14, .int .i64 E1), (15, .nil), (16, .int .i64 E2), (17, .nil), (18, .int .i64 E2)], [(1, .cells (lL l))], 2⟩) (fun _ => True) (.lent (.tup [.nil, .int .i64 E2]) [1] <| .call (.tup [.nil, .int .i64 E2]) .nil) hn hlo .ret rfl ⟨⟨_, Eq.trans (by kernel_rfl) t2, .inr sT⟩, sTr, (), trivial, Wk.le (St.le.of ⟨by kernel_rfl, rfl, by kernel_rfl, rfl, by kernel_rfl, rfl, by kernel_rfl, rfl, by kernel_rfl, rfl, by kernel_rfl, rfl, by kernel_rfl, rfl, by kernel_rfl, rfl, by kernel_rfl, rfl, by kernel_rfl, rfl, by kernel_rfl, rfl, by kernel_rfl, rfl, trivial⟩ ⟨by kernel_rfl, (by decide : (1 : Nat) < 2), lL_ok _ _, trivial⟩) (hlo.mono (Nat.zero_le _))⟩ fun _ _ => ?_
      exact ACode.vcM (.lent (.int .i64 C) [1] <| .call (.int .i64 C) <| .br 64 true <| .call (.bool true) <| .br 74 true <| .call (.bool true) <| .br 84 true <| .call (.bool true) <| .lent (.bool true) [1] .nil) hn hlo .ret ⟨⟨_, Eq.trans (by kernel_rfl) t3, .inl ⟨sC, .inr rfl⟩⟩, sCr, eC, sX, e1, sY, e2, sR, ⟨_, Eq.trans (by kernel_rfl) t4, .inl ⟨sL, .inr rfl⟩⟩, trivial, rfl⟩
end Go.Proofs.Ytmdhgkfjlphliaa
