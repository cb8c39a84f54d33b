/-
  THE LAW OF WHAT A RECORD RESTS ON: the program answers as the reference does.
-/
import Derived.Test.YtmdhgkfjlphliaaRT
namespace Go.Proofs.Ytmdhgkfjlphliaa
open Go Go.Am
set_option maxRecDepth 100000
set_option maxHeartbeats 8000000
theorem ids_ne {r : List Rcd} (hn : (idsR r).Nodup) {s j : Nat} {y : Rcd} (hy : r[j]? = some y) (h : s.testBit j = true) : idsOf r s ≠ [] := fun e => by
  have := ids_bit hn hy s
  rw [e, h] at this
  cases this
theorem rRests_spec (r : List Rcd) (l : List Ltr) (d id : Int) : APure Try.prog 20 [encRs r, encLs l, .int .i64 d, .int .i64 id] (encLe (restD r l d id) (restE r l d id)) := by
  by_cases h0 : withE r l d id = 0
  · have hday : dayE r l d = 0 := by
      by_cases h : dayE r l d = 0
      · exact h
      · unfold withE at h0; rw [if_neg h] at h0; exact absurd h0 h
    have hR := (check_0 (dayE_0 hday)).1
    have hn := (recs_nodup hR).1
    have hidm : (idsR r).contains id = true := by
      unfold withE at h0
      rw [if_pos hday] at h0
      cases h : (idsR r).contains id
      · rw [h] at h0; simp at h0
      · rfl
    obtain ⟨j, y, hy, ey, ef⟩ := at_recH hR hidm
    have sO := open_spec r l d id h0 hR
    rw [ef] at sO
    have hHL : ∀ {k : Nat} {x : Rcd}, r[k]? = some x → (hoB (goneV l d) r)[k]? = some ((heldV (goneV l d) [] r).contains x.id) := fun h => by unfold hoB; rw [List.getElem?_map, h]; rfl
    cases hk : (heldV (goneV l d) [] r).contains id
    · have eE : restE r l d id = 8 := by unfold restE; rw [if_pos h0, hk]; rfl
      have hH0 := hHL hy
      rw [ey, hk] at hH0
      unfold encLe
      rw [eE, if_neg (by decide)]
      generalize hoB (goneV l d) r = HL at *
      generalize goB (goneV l d) r = GL at *
      exact APure.vcM Try.func20 (.call (.tup [.int .i64 (j : Int), encBs GL, encBs HL, .int .i64 0]) <| .cells (encBo false) .nil) rfl rfl ⟨sO, idx hH0, [], by kernel_rfl⟩
    · have eE : restE r l d id = 0 := by unfold restE; rw [if_pos h0, hk]; rfl
      unfold encLe
      rw [eE, if_pos rfl]
      have hb : ∀ (k : Nat) (x : Rcd), r[k]? = some x → (setK (gF (goneL l d r)) r r.length).testBit k = (heldV (goneV l d) [] r).contains x.id := fun k x hx => by rw [setK_bit _ hx, held_gone]
      have hHl : setK (gF (goneL l d r)) r r.length < 2 ^ r.length := setK_lt _ _ _
      have hHw : wholeV r (setK (gF (goneL l d r)) r r.length) = true := held_whole hR _
      have hof : restP r (sV r id r.length) (setK (gF (goneL l d r)) r r.length) = true := by
        have h2 : memB r (setK (gF (goneL l d r)) r r.length) id = true := by rw [← ey, mem_bit hn hy, hb j y hy, ey]; exact hk
        unfold restP
        rw [hHw, Bool.and_true]; exact h2
      have hbes := bes_few hR (v := fun s => (s.testBit j && allW r s fun i => (heldV (goneV l d) [] r).contains i) && carV r (inP r s)) hHl hof (fun s hs => by
        have h1 := allW_sub hn hs (W := fun i => (heldV (goneV l d) [] r).contains i) hb
        have h2 : restP r (sV r id r.length) s = (s.testBit j && wholeV r s) := by
          have h3 : memB r s id = s.testBit j := by rw [← ey, mem_bit hn hy]
          unfold restP
          congr 1
        rw [h2, carV_whole hR, Bool.and_eq_true, Bool.and_eq_true, Bool.and_eq_true, h1]
        exact ⟨fun ⟨⟨a, b⟩, c⟩ => ⟨b, a, c⟩, fun ⟨b, a, c⟩ => ⟨⟨a, b⟩, c⟩⟩) (fun s hs => by
        simp only [Bool.and_eq_true] at hs
        exact ids_ne hn hy hs.1.1)
      have hTd : restD r l d id = idsOf r (fewV (setK (gF (goneL l d r)) r r.length) (restP r (sV r id r.length))) := rfl
      rw [hTd, ← hbes]
      refine rests_loop r l d id hR (hoB (goneV l d) r) (fun i => (heldV (goneV l d) [] r).contains i) hHL (goB (goneV l d) r) j y hy (by rw [ey]; exact hk) sO _ (fun s => rfl) ?_ fun s _ hs => ?_
      · rw [hbes]
        obtain ⟨⟨f1, f2, f3⟩, _⟩ := few_is hR hHl hof
        have h3 : memB r (fewV (setK (gF (goneL l d r)) r r.length) (restP r (sV r id r.length))) id = true := by
          unfold restP at f3
          rw [Bool.and_eq_true] at f3
          exact f3.1
        rw [← ey, mem_bit hn hy] at h3
        rw [ey] at h3
        exact ids_ne hn hy h3
      · simp only [Bool.and_eq_true] at hs
        exact ids_ne hn hy hs.1.1
  · have eE : restE r l d id = withE r l d id := by unfold restE; rw [if_neg h0]
    have sO := open_bad r l d id h0
    unfold encLe
    rw [eE, if_neg h0]
    have n0 : (withE r l d id != 0) = true := bne_iff_ne.2 h0
    generalize withE r l d id = E at *
    exact APure.vcM Try.func20 (.call (.tup [.int .i64 0, .nil, .nil, .int .i64 E]) <| .br 31 true .nil) rfl rfl ⟨sO, n0, [], by kernel_rfl⟩
theorem rCauses_spec (r : List Rcd) (l : List Ltr) (d id : Int) : APure Try.prog 22 [encRs r, encLs l, .int .i64 d, .int .i64 id] (encLe (causD r l d id) (causE r l d id)) := by
  by_cases h0 : withE r l d id = 0
  · have hday : dayE r l d = 0 := by
      by_cases h : dayE r l d = 0
      · exact h
      · unfold withE at h0; rw [if_neg h] at h0; exact absurd h0 h
    have hR := (check_0 (dayE_0 hday)).1
    have hn := (recs_nodup hR).1
    have hidm : (idsR r).contains id = true := by
      unfold withE at h0
      rw [if_pos hday] at h0
      cases h : (idsR r).contains id
      · rw [h] at h0; simp at h0
      · rfl
    obtain ⟨j, y, hy, ey, ef⟩ := at_recH hR hidm
    have sO := open_spec r l d id h0 hR
    rw [ef] at sO
    have hHL : ∀ {k : Nat} {x : Rcd}, r[k]? = some x → (hoB (goneV l d) r)[k]? = some ((heldV (goneV l d) [] r).contains x.id) := fun h => by unfold hoB; rw [List.getElem?_map, h]; rfl
    have hGL : ∀ {k : Nat} {x : Rcd}, r[k]? = some x → (goB (goneV l d) r)[k]? = some (goneV l d x.id) := fun h => by unfold goB; rw [List.getElem?_map, h]; rfl
    cases hk : (heldV (goneV l d) [] r).contains id
    · have eE : causE r l d id = 0 := by unfold causE; rw [if_pos h0, hk]; rfl
      have hH0 := hHL hy
      rw [ey, hk] at hH0
      unfold encLe
      rw [eE, if_pos rfl]
      have hGn : (goneL l d r).Nodup := hn.sublist List.filter_sublist
      have hGc : ∀ (k : Nat) (x : Rcd), r[k]? = some x → (goneL l d r).contains x.id = goneV l d x.id := fun k x hx => by
        unfold goneL
        rw [Bool.eq_iff_iff, List.contains_iff_mem, List.mem_filter]
        exact ⟨fun h => h.2, fun h2 => ⟨List.mem_map.2 ⟨x, List.mem_of_getElem? hx, rfl⟩, h2⟩⟩
      have hgb : ∀ (k : Nat) (x : Rcd), r[k]? = some x → (gS r (goneL l d r) r.length).testBit k = goneV l d x.id := fun k x hx => by
        unfold gS
        rw [setN_bit, decide_eq_true (List.getElem?_eq_some_iff.1 hx).1, idA_get hx]
        exact hGc k x hx
      have hgl : gS r (goneL l d r) r.length < 2 ^ r.length := setN_lt _ _
      have hcp : ∀ S, causP r (goneL l d r) id S = (heldV (fun i => goneV l d i && !inP r S i) [] r).contains id := fun S => by
        unfold causP
        rw [held_on r [] fun x hx => ?_]
        obtain ⟨k, hk, e⟩ := List.mem_iff_getElem.1 hx
        have hx2 : r[k]? = some x := by rw [List.getElem?_eq_getElem hk, e]
        rw [restG_has hGn, hGc k x hx2]; rfl
      have hof : causP r (goneL l d r) id (gS r (goneL l d r) r.length) = true := by
        rw [hcp, ← ey]
        refine all_held hR (fun x hx => ?_) j y hy
        obtain ⟨k, hk, e⟩ := List.mem_iff_getElem.1 hx
        have hx2 : r[k]? = some x := by rw [List.getElem?_eq_getElem hk, e]
        unfold inP
        simp only [ids_bit hn hx2, hgb k x hx2]
        cases goneV l d x.id <;> rfl
      have hnb : ∀ s, (heldV (fun i => goneV l d i && !inP r s i) [] r).contains id = true → idsOf r s ≠ [] := fun s hs e => by
        have h2 : (fun i => goneV l d i && !inP r s i) = goneV l d := funext fun i => by unfold inP; rw [e]; simp
        rw [h2, hk] at hs; cases hs
      have hbes := bes_few hR (v := fun s => allW r s (goneV l d) && (heldV (fun i => goneV l d i && !inP r s i) [] r).contains id) hgl hof (fun s hs => by
        have h1 := allW_sub hn hs (W := goneV l d) hgb
        rw [hcp, Bool.and_eq_true, h1]) (fun s hs => by
        simp only [Bool.and_eq_true] at hs
        exact hnb s hs.2)
      have hTd : causD r l d id = idsOf r (fewV (gS r (goneL l d r) r.length) (causP r (goneL l d r) id)) := rfl
      rw [hTd, ← hbes]
      refine causes_loop r l d id hR (goneV l d) (goB (goneV l d) r) hGL (hoB (goneV l d) r) j y hy ey hH0 sO _ (fun s => rfl) ?_ fun s _ hs => ?_
      · rw [hbes]
        obtain ⟨⟨f1, f2, f3⟩, _⟩ := few_is hR hgl hof
        rw [hcp] at f3
        exact hnb _ f3
      · simp only [Bool.and_eq_true] at hs
        exact hnb s hs.2
    · have eE : causE r l d id = 8 := by unfold causE; rw [if_pos h0, hk]; rfl
      have hH0 := hHL hy
      rw [ey, hk] at hH0
      unfold encLe
      rw [eE, if_neg (by decide)]
      generalize hoB (goneV l d) r = HL at *
      generalize goB (goneV l d) r = GL at *
      exact APure.vcM Try.func22 (.call (.tup [.int .i64 (j : Int), encBs GL, encBs HL, .int .i64 0]) <| .cells (encBo true) .nil) rfl rfl ⟨sO, idx hH0, [], by kernel_rfl⟩
  · have eE : causE r l d id = withE r l d id := by unfold causE; rw [if_neg h0]
    have sO := open_bad r l d id h0
    unfold encLe
    rw [eE, if_neg h0]
    have n0 : (withE r l d id != 0) = true := bne_iff_ne.2 h0
    generalize withE r l d id = E at *
    exact APure.vcM Try.func22 (.call (.tup [.int .i64 0, .nil, .nil, .int .i64 E]) <| .br 32 true .nil) rfl rfl ⟨sO, n0, [], by kernel_rfl⟩
theorem law_rests (r : List Rcd) (l : List Ltr) (d id : Int) : APure Try.prog 4 [encRs r, encLs l, .int .i64 d, .int .i64 id] (.bool true) := by
  have sG := Great_spec r l
  cases h1 : greatB r l.length
  case true =>
    rw [h1] at sG
    exact APure.vc Try.func4 rfl (.call (.bool true) .nil) rfl rfl ⟨sG, trivial, rfl⟩
  rw [h1] at sG
  have hgr : r.length ≤ 13 ∧ l.length ≤ 30 ∧ r.any grR = false := by
    unfold greatB at h1
    simp only [Bool.or_eq_false_iff, decide_eq_false_iff_not] at h1
    exact ⟨by omega, by omega, h1.2.2⟩
  have hww : ∀ x ∈ r, x.ways.length ≤ 1000 ∧ ∀ w ∈ x.ways, w.length ≤ 1000 := fun x hx => by
    have h2 := List.any_eq_false.1 hgr.2.2 x hx
    unfold grR at h2
    simp only [Bool.or_eq_true, decide_eq_true_eq, not_or, List.any_eq_true, not_exists, not_and] at h2
    refine ⟨by omega, fun w hw => ?_⟩
    have h3 := h2.2 w hw
    unfold grW at h3
    simp only [decide_eq_true_eq] at h3
    omega
  have sTw := Twin_spec r (by omega) hww
  have sR := SameR_spec r (by omega) hww
  have sL := SameL_spec l (by omega)
  have fl2 : ∀ S : Nat, (idsOf r S).length ≤ 1000 := fun S => by
    unfold idsOf
    rw [List.length_map]
    have := List.length_filter_le (fun i => S.testBit i) (List.range r.length)
    rw [List.length_range] at this
    omega
  have sH := Rests_ok r l d id
  have sHr := rRests_spec r l d id
  have sT := Causes_ok r l d id
  have sTr := rCauses_spec r l d id
  unfold encLe at sH sHr sT sTr
  have sXs := Same_spec (restD r l d id) (fl2 _)
  have sYs := Same_spec (causD r l d id) (fl2 _)
  have sN := Same_nil
  generalize restD r l d id = XL at *
  generalize causD r l d id = YL at *
  generalize restE r l d id = E1 at *
  generalize causE r l d id = E2 at *
  refine APure.intro Try.func4 rfl rfl rfl fun g hn hlo => ?_
  replace hn : g.n = 87 := hn
  replace hlo : g.low 0 := hlo
  have ap0 := appL0 (h := hget [(0, .cells [])]) (i := 0) (nid := 1) (l := l) rfl (by omega)
  have t2 := thawL_letters2 (h := hget [(1, .cells (lL l))]) (i := 1) (n := l.length) (r := r) (l := l) (d := d) (e := id) rfl rfl
  have t4 := thawL_ll (h := hget [(1, .cells (lL l))]) (i := 1) (n := l.length) (l := l) rfl rfl
  refine ACode.cut 2 (fun _ : Unit => ⟨[(0, encRs r), (1, encLs l), (2, .int .i64 d), (3, .int .i64 id), (9, encRs r), (10, .rsl 1 0 l.length 4)], [(1, .cells (lL l))], 2⟩) (fun _ => True) (.call (.bool false) <| .call (encRs r) <| .val 26 (.rsl 1 0 l.length 4) [(0, none), (1, some (.cells (lL l)))] .nil) hn hlo .ret rfl ⟨sG, sTw, Eq.trans (by kernel_rfl) ap0, (), trivial, Wk.le (St.le.of ⟨by kernel_rfl, rfl, by kernel_rfl, rfl, by kernel_rfl, rfl, by kernel_rfl, rfl, by kernel_rfl, rfl, by kernel_rfl, rfl, trivial⟩ ⟨by kernel_rfl, (by decide : (1 : Nat) < 2), lL_ok _ _, trivial⟩) (hlo.mono (Nat.zero_le _))⟩ fun _ _ => ?_
  by_cases h2 : E1 = 0
  · rw [if_pos h2] at sH sHr
    have sX := sXs
    by_cases h3 : E2 = 0
    · rw [if_pos h3] at sT sTr
      have sY := sYs
      refine ACode.cut 1 (fun _ : Unit => ⟨[(0, encRs r), (1, encLs l), (2, .int .i64 d), (3, .int .i64 id), (9, encRs r), (10, .rsl 1 0 l.length 4), (11, encR XL), (12, .int .i64 0), (13, encR XL), (14, .int .i64 0)], [(1, .cells (lL l))], 2⟩) (fun _ => True) (.lent (.tup [encR XL, .int .i64 0]) [1] <| .call (.tup [encR XL, .int .i64 0]) .nil) hn hlo .ret rfl ⟨⟨_, Eq.trans (by kernel_rfl) t2, .inr sH⟩, sHr, (), trivial, Wk.le (St.le.of ⟨by kernel_rfl, rfl, by kernel_rfl, rfl, by kernel_rfl, rfl, by kernel_rfl, rfl, by kernel_rfl, rfl, by kernel_rfl, rfl, by kernel_rfl, rfl, by kernel_rfl, rfl, by kernel_rfl, rfl, by kernel_rfl, rfl, trivial⟩ ⟨by kernel_rfl, (by decide : (1 : Nat) < 2), lL_ok _ _, trivial⟩) (hlo.mono (Nat.zero_le _))⟩ fun _ _ => ?_
      refine ACode.cut 1 (fun _ : Unit => ⟨[(0, encRs r), (1, encLs l), (9, encRs r), (10, .rsl 1 0 l.length 4), (11, encR XL), (12, .int .i64 0), (13, encR XL), (14, .int .i64 0), (15, encR YL), (16, .int .i64 0), (17, encR YL), (18, .int .i64 0)], [(1, .cells (lL l))], 2⟩) (fun _ => True) (.lent (.tup [encR YL, .int .i64 0]) [1] <| .call (.tup [encR YL, .int .i64 0]) .nil) hn hlo .ret rfl ⟨⟨_, Eq.trans (by kernel_rfl) t2, .inr sT⟩, sTr, (), trivial, Wk.le (St.le.of ⟨by kernel_rfl, rfl, by kernel_rfl, rfl, by kernel_rfl, rfl, by kernel_rfl, rfl, by kernel_rfl, rfl, by kernel_rfl, rfl, by kernel_rfl, rfl, by kernel_rfl, rfl, by kernel_rfl, rfl, by kernel_rfl, rfl, by kernel_rfl, rfl, by kernel_rfl, rfl, trivial⟩ ⟨by kernel_rfl, (by decide : (1 : Nat) < 2), lL_ok _ _, trivial⟩) (hlo.mono (Nat.zero_le _))⟩ fun _ _ => ?_
      exact ACode.vcM (.call (.bool true) <| .call (.bool true) <| .call (.bool true) <| .lent (.bool true) [1] .nil) hn hlo .ret ⟨sX, sY, sR, ⟨_, Eq.trans (by kernel_rfl) t4, .inl ⟨sL, .inr rfl⟩⟩, trivial, rfl⟩
    · rw [if_neg h3] at sT sTr
      have sY := sN
      have e2 : (E2 == E2) = true := by simp
      refine ACode.cut 1 (fun _ : Unit => ⟨[(0, encRs r), (1, encLs l), (2, .int .i64 d), (3, .int .i64 id), (9, encRs r), (10, .rsl 1 0 l.length 4), (11, encR XL), (12, .int .i64 0), (13, encR XL), (14, .int .i64 0)], [(1, .cells (lL l))], 2⟩) (fun _ => True) (.lent (.tup [encR XL, .int .i64 0]) [1] <| .call (.tup [encR XL, .int .i64 0]) .nil) hn hlo .ret rfl ⟨⟨_, Eq.trans (by kernel_rfl) t2, .inr sH⟩, sHr, (), trivial, Wk.le (St.le.of ⟨by kernel_rfl, rfl, by kernel_rfl, rfl, by kernel_rfl, rfl, by kernel_rfl, rfl, by kernel_rfl, rfl, by kernel_rfl, rfl, by kernel_rfl, rfl, by kernel_rfl, rfl, by kernel_rfl, rfl, by kernel_rfl, rfl, trivial⟩ ⟨by kernel_rfl, (by decide : (1 : Nat) < 2), lL_ok _ _, trivial⟩) (hlo.mono (Nat.zero_le _))⟩ fun _ _ => ?_
      refine ACode.cut 1 (fun _ : Unit => ⟨[(0, encRs r), (1, encLs l), (9, encRs r), (10, .rsl 1 0 l.length 4), (11, encR XL), (12, .int .i64 0), (13, encR XL), (14, .int .i64 0), (15, .nil), (16, .int .i64 E2), (17, .nil), (18, .int .i64 E2)], [(1, .cells (lL l))], 2⟩) (fun _ => True) (.lent (.tup [.nil, .int .i64 E2]) [1] <| .call (.tup [.nil, .int .i64 E2]) .nil) hn hlo .ret rfl ⟨⟨_, Eq.trans (by kernel_rfl) t2, .inr sT⟩, sTr, (), trivial, Wk.le (St.le.of ⟨by kernel_rfl, rfl, by kernel_rfl, rfl, by kernel_rfl, rfl, by kernel_rfl, rfl, by kernel_rfl, rfl, by kernel_rfl, rfl, by kernel_rfl, rfl, by kernel_rfl, rfl, by kernel_rfl, rfl, by kernel_rfl, rfl, by kernel_rfl, rfl, by kernel_rfl, rfl, trivial⟩ ⟨by kernel_rfl, (by decide : (1 : Nat) < 2), lL_ok _ _, trivial⟩) (hlo.mono (Nat.zero_le _))⟩ fun _ _ => ?_
      exact ACode.vcM (.call (.bool true) <| .call (.bool true) <| .br 77 true <| .call (.bool true) <| .lent (.bool true) [1] .nil) hn hlo .ret ⟨sX, sY, e2, sR, ⟨_, Eq.trans (by kernel_rfl) t4, .inl ⟨sL, .inr rfl⟩⟩, trivial, rfl⟩
  · rw [if_neg h2] at sH sHr
    have sX := sN
    have e1 : (E1 == E1) = true := by simp
    by_cases h3 : E2 = 0
    · rw [if_pos h3] at sT sTr
      have sY := sYs
      refine ACode.cut 1 (fun _ : Unit => ⟨[(0, encRs r), (1, encLs l), (2, .int .i64 d), (3, .int .i64 id), (9, encRs r), (10, .rsl 1 0 l.length 4), (11, .nil), (12, .int .i64 E1), (13, .nil), (14, .int .i64 E1)], [(1, .cells (lL l))], 2⟩) (fun _ => True) (.lent (.tup [.nil, .int .i64 E1]) [1] <| .call (.tup [.nil, .int .i64 E1]) .nil) hn hlo .ret rfl ⟨⟨_, Eq.trans (by kernel_rfl) t2, .inr sH⟩, sHr, (), trivial, Wk.le (St.le.of ⟨by kernel_rfl, rfl, by kernel_rfl, rfl, by kernel_rfl, rfl, by kernel_rfl, rfl, by kernel_rfl, rfl, by kernel_rfl, rfl, by kernel_rfl, rfl, by kernel_rfl, rfl, by kernel_rfl, rfl, by kernel_rfl, rfl, trivial⟩ ⟨by kernel_rfl, (by decide : (1 : Nat) < 2), lL_ok _ _, trivial⟩) (hlo.mono (Nat.zero_le _))⟩ fun _ _ => ?_
      refine ACode.cut 1 (fun _ : Unit => ⟨[(0, encRs r), (1, encLs l), (9, encRs r), (10, .rsl 1 0 l.length 4), (11, .nil), (12, .int .i64 E1), (13, .nil), (14, .int .i64 E1), (15, encR YL), (16, .int .i64 0), (17, encR YL), (18, .int .i64 0)], [(1, .cells (lL l))], 2⟩) (fun _ => True) (.lent (.tup [encR YL, .int .i64 0]) [1] <| .call (.tup [encR YL, .int .i64 0]) .nil) hn hlo .ret rfl ⟨⟨_, Eq.trans (by kernel_rfl) t2, .inr sT⟩, sTr, (), trivial, Wk.le (St.le.of ⟨by kernel_rfl, rfl, by kernel_rfl, rfl, by kernel_rfl, rfl, by kernel_rfl, rfl, by kernel_rfl, rfl, by kernel_rfl, rfl, by kernel_rfl, rfl, by kernel_rfl, rfl, by kernel_rfl, rfl, by kernel_rfl, rfl, by kernel_rfl, rfl, by kernel_rfl, rfl, trivial⟩ ⟨by kernel_rfl, (by decide : (1 : Nat) < 2), lL_ok _ _, trivial⟩) (hlo.mono (Nat.zero_le _))⟩ fun _ _ => ?_
      exact ACode.vcM (.call (.bool true) <| .br 67 true <| .call (.bool true) <| .call (.bool true) <| .lent (.bool true) [1] .nil) hn hlo .ret ⟨sX, e1, sY, sR, ⟨_, Eq.trans (by kernel_rfl) t4, .inl ⟨sL, .inr rfl⟩⟩, trivial, rfl⟩
    · rw [if_neg h3] at sT sTr
      have sY := sN
      have e2 : (E2 == E2) = true := by simp
      refine ACode.cut 1 (fun _ : Unit => ⟨[(0, encRs r), (1, encLs l), (2, .int .i64 d), (3, .int .i64 id), (9, encRs r), (10, .rsl 1 0 l.length 4), (11, .nil), (12, .int .i64 E1), (13, .nil), (14, .int .i64 E1)], [(1, .cells (lL l))], 2⟩) (fun _ => True) (.lent (.tup [.nil, .int .i64 E1]) [1] <| .call (.tup [.nil, .int .i64 E1]) .nil) hn hlo .ret rfl ⟨⟨_, Eq.trans (by kernel_rfl) t2, .inr sH⟩, sHr, (), trivial, Wk.le (St.le.of ⟨by kernel_rfl, rfl, by kernel_rfl, rfl, by kernel_rfl, rfl, by kernel_rfl, rfl, by kernel_rfl, rfl, by kernel_rfl, rfl, by kernel_rfl, rfl, by kernel_rfl, rfl, by kernel_rfl, rfl, by kernel_rfl, rfl, trivial⟩ ⟨by kernel_rfl, (by decide : (1 : Nat) < 2), lL_ok _ _, trivial⟩) (hlo.mono (Nat.zero_le _))⟩ fun _ _ => ?_
      refine ACode.cut 1 (fun _ : Unit => ⟨[(0, encRs r), (1, encLs l), (9, encRs r), (10, .rsl 1 0 l.length 4), (11, .nil), (12, .int .i64 E1), (13, .nil), (14, .int .i64 E1), (15, .nil), (16, .int .i64 E2), (17, .nil), (18, .int .i64 E2)], [(1, .cells (lL l))], 2⟩) (fun _ => True) (.lent (.tup [.nil, .int .i64 E2]) [1] <| .call (.tup [.nil, .int .i64 E2]) .nil) hn hlo .ret rfl ⟨⟨_, Eq.trans (by kernel_rfl) t2, .inr sT⟩, sTr, (), trivial, Wk.le (St.le.of ⟨by kernel_rfl, rfl, by kernel_rfl, rfl, by kernel_rfl, rfl, by kernel_rfl, rfl, by kernel_rfl, rfl, by kernel_rfl, rfl, by kernel_rfl, rfl, by kernel_rfl, rfl, by kernel_rfl, rfl, by kernel_rfl, rfl, by kernel_rfl, rfl, by kernel_rfl, rfl, trivial⟩ ⟨by kernel_rfl, (by decide : (1 : Nat) < 2), lL_ok _ _, trivial⟩) (hlo.mono (Nat.zero_le _))⟩ fun _ _ => ?_
      exact ACode.vcM (.call (.bool true) <| .br 67 true <| .call (.bool true) <| .br 77 true <| .call (.bool true) <| .lent (.bool true) [1] .nil) hn hlo .ret ⟨sX, e1, sY, e2, sR, ⟨_, Eq.trans (by kernel_rfl) t4, .inl ⟨sL, .inr rfl⟩⟩, trivial, rfl⟩
end Go.Proofs.Ytmdhgkfjlphliaa
