/-
  PIECES, AND WHAT IS CALLED BACK, BY THE REFERENCE.
-/
import Derived.Test.YtmdhgkfjlphliaaGN
import Derived.Test.YtmdhgkfjlphliaaGC
import Derived.Test.YtmdhgkfjlphliaaRC
namespace Go.Proofs.Ytmdhgkfjlphliaa
open Go Go.Am
set_option maxRecDepth 100000
set_option maxHeartbeats 4000000
def great3 (r : List Rcd) (n k : Nat) : Bool := decide (r.length > 13) || (decide (n > 30) || (decide (k > 60) || r.any grR))
theorem Great3_spec (r : List Rcd) (l : List Ltr) (m : List Mov) : APure Try.prog 8 [encRs r, encLs l, encMs m] (.bool (great3 r l.length m.length)) := by
  have hlen : ((r.map cRc).length : Int) = r.length := by rw [List.length_map]
  have llen : ((l.map cLt).length : Int) = l.length := by rw [List.length_map]
  by_cases h13 : r.length > 13
  · have d : decide (((r.map cRc).length : Int) > 13) = true := decide_eq_true (by omega)
    exact APure.vc Try.func8 rfl (.br 12 true .nil) rfl rfl ⟨d, rB (by unfold great3; rw [decide_eq_true h13]; rfl)⟩
  have d1 : decide (((r.map cRc).length : Int) > 13) = false := decide_eq_false (by omega)
  by_cases h30 : l.length > 30
  · have d : decide (((l.map cLt).length : Int) > 30) = true := decide_eq_true (by omega)
    exact APure.vc Try.func8 rfl (.br 12 false <| .br 17 true .nil) rfl rfl ⟨d1, d, rB (by unfold great3; rw [decide_eq_true h30, Bool.true_or, Bool.or_true])⟩
  have d2 : decide (((l.map cLt).length : Int) > 30) = false := decide_eq_false (by omega)
  have mlen : ((m.map cMv).length : Int) = m.length := by rw [List.length_map]
  by_cases h60 : m.length > 60
  · have d : decide (((m.map cMv).length : Int) > 60) = true := decide_eq_true (by omega)
    exact APure.vc Try.func8 rfl (.br 12 false <| .br 17 false <| .br 21 true .nil) rfl rfl ⟨d1, d2, d, rB (by unfold great3; rw [decide_eq_true h60, Bool.true_or, Bool.or_true, Bool.or_true])⟩
  have d3 : decide (((m.map cMv).length : Int) > 60) = false := decide_eq_false (by omega)
  have eg : great3 r l.length m.length = r.any grR := by unfold great3; rw [decide_eq_false h13, decide_eq_false h30, decide_eq_false h60]; rfl
  rw [eg]
  refine APure.vc Try.func8 rfl (.br 12 false <| .br 17 false <| .br 21 false .loop) rfl rfl ⟨d1, d2, d3, ?_⟩
  intro g hn hl
  replace hn : g.n = 55 := hn
  replace hl : g.low 0 := hl
  refine acode_while (fun k : Nat => ⟨[(0, encRs r), (7, .int .i64 k)], [], 0⟩) (fun k => k ≤ r.length ∧ (r.take k).any grR = false) (fun k => r.length - k) 0 ⟨Nat.zero_le _, rfl⟩ ?_ (fun _ _ => hl) ?_
  · exact St.le.of ⟨by kernel_rfl, rfl, by kernel_rfl, rfl, trivial⟩ trivial
  · rintro k ⟨hk1, hk2⟩
    by_cases hlt : k < r.length
    · refine Exists.elim (getE hlt) fun x hx => ?_
      have ek := congrArg (AV.int .i64) (succ64 (k := k) (by omega))
      have wlen : ((x.ways.map cW).length : Int) = x.ways.length := by rw [List.length_map]
      have bad : grR x = true → some (AV.bool true) = some (AV.bool (r.any grR)) := fun h => by rw [any_hit hx h]
      by_cases h6 : x.ways.length > 6
      · have d34 : decide (((x.ways.map cW).length : Int) > 6) = true := decide_eq_true (by omega)
        exact ACode.vc (.br 25 true <| .cells (cRc x) <| .br 34 true .nil) hn hl (.round .cl) ⟨ltLen hlt, idx hx, d34, _, .refl _, .nil, trivial, bad (by unfold grR; rw [decide_eq_true h6]; rfl)⟩
      · have d34 : decide (((x.ways.map cW).length : Int) > 6) = false := decide_eq_false (by omega)
        have eR : grR x = x.ways.any grW := by unfold grR; rw [decide_eq_false h6]; rfl
        refine ACode.vc (.br 25 true <| .cells (cRc x) <| .br 34 false .loop) hn hl (.round .cl) ⟨ltLen hlt, idx hx, d34, ?_⟩
        intro g hn hl2
        replace hn : g.n = 55 := hn
        replace hl2 : g.low 0 := hl2
        refine acode_while (fun i : Nat => ⟨[(0, encRs r), (7, .int .i64 k), (8, .int .i64 i)], [], 0⟩) (fun i => i ≤ x.ways.length ∧ (x.ways.take i).any grW = false) (fun i => x.ways.length - i) 0 ⟨Nat.zero_le _, rfl⟩ ?_ (fun _ _ => hl2) ?_
        · exact St.le.of ⟨by kernel_rfl, rfl, by kernel_rfl, rfl, by kernel_rfl, rfl, trivial⟩ trivial
        · rintro i ⟨hi1, hi2⟩
          by_cases hil : i < x.ways.length
          · refine Exists.elim (getE hil) fun w hw => ?_
            have ei := congrArg (AV.int .i64) (succ64 (k := i) (by omega))
            have vlen : ((w.map encI).length : Int) = w.length := by rw [List.length_map]
            by_cases h8 : w.length > 8
            · have d54 : decide (((w.map encI).length : Int) > 8) = true := decide_eq_true (by omega)
              exact ACode.vc (.cells (cRc x) <| .br 42 true <| .cells (cRc x) <| .cells (cW w) <| .br 54 true .nil) hn hl2 (.round .cl) ⟨idx hx, ltLen hil, idx hx, idx hw, d54, _, .refl _, .nil, _, .refl _, .nil, trivial, bad (by rw [eR, any_hit hw (decide_eq_true h8)])⟩
            · have d54 : decide (((w.map encI).length : Int) > 8) = false := decide_eq_false (by omega)
              exact ACode.vc (.cells (cRc x) <| .br 42 true <| .cells (cRc x) <| .cells (cW w) <| .br 54 false .nil) hn hl2 (.round .cl) ⟨idx hx, ltLen hil, idx hx, idx hw, d54, i + 1, ⟨hil, by rw [any_take hw, hi2]; exact decide_eq_false h8⟩, mu1 hil, St.le.of ⟨by kernel_rfl, rfl, by kernel_rfl, rfl, Eq.trans (by kernel_rfl) ei, rfl, trivial⟩ trivial⟩
          · have hi' : i = x.ways.length := by omega
            exact ACode.vc (.cells (cRc x) <| .br 42 false .nil) hn hl2 (.round .cl) ⟨idx hx, geLen hil, _, .refl _, .nil, k + 1, ⟨hlt, by rw [any_take hx, hk2, eR]; rw [hi', List.take_length] at hi2; exact hi2⟩, mu1 hlt, St.le.of ⟨by kernel_rfl, rfl, Eq.trans (by kernel_rfl) ek, rfl, trivial⟩ trivial⟩
    · have hk' : k = r.length := by omega
      exact ACode.vc (.br 25 false .nil) hn hl (.round .cl) ⟨geLen hlt, _, .refl _, .nil, rB (by rw [hk', List.take_length] at hk2; exact hk2.symm)⟩
/-! ### sums over batches -/
theorem storeV_ids {B B' : List Int} (h : ∀ i, B.contains i = B'.contains i) (m : List Mov) : storeV m B = storeV m B' := by
  rw [storeV_tot, storeV_tot]
  unfold totS
  congr 1
  refine List.map_congr_left fun x _ => ?_
  unfold gSt
  rw [h]
theorem storeV_snoc {B : List Int} {b : Int} (hb : b ∉ B) (m : List Mov) : storeV m (B ++ [b]) = plusS (storeV m B) (storeV m [b]) := by
  rw [storeV_ids (B' := b :: B) (fun i => by rw [Bool.eq_iff_iff, List.contains_iff_mem, List.contains_iff_mem]; simp [or_comm]) m, storeV_tot, tot_cons hb, plusS_comm, ← storeV_tot, ← storeV_tot]
theorem bat_filter {r : List Rcd} (id : Int) (m : List Mov) : storeV m ((idsR r).filter fun i => (batV r id).contains i) = storeV m (batV r id) := by
  refine storeV_ids (fun i => ?_) m
  rw [Bool.eq_iff_iff, List.contains_iff_mem, List.contains_iff_mem, List.mem_filter, List.contains_iff_mem]
  constructor
  · exact fun h => h.2
  · intro h
    refine ⟨?_, h⟩
    rcases bat_in id r [] i h with h1 | ⟨x, hx, e, _⟩
    · cases h1
    · exact List.mem_map.2 ⟨x, hx, e⟩
theorem rPieces_spec (r : List Rcd) (m : List Mov) (id : Int) : APure Try.prog 24 [encRs r, encMs m, .int .i64 id] (encPc r m id) := by
  have s1 := rRecords_spec r
  rw [recsR_eq] at s1
  unfold encPc
  cases h1 : recsB r
  · rw [h1] at s1
    have e : piecesE r m id = 80 := by unfold piecesE; rw [if_pos h1]
    rw [e]
    exact APure.vcM Try.func24 (.call (.bool false) .nil) rfl rfl ⟨s1, [], by kernel_rfl⟩
  rw [h1] at s1
  have ha := Ar_of h1
  have hrl := ha.len
  have s2 := rMoves_spec r m h1
  cases h2 : movsB r m
  · rw [h2] at s2
    have e : piecesE r m id = 82 := by unfold piecesE; rw [if_neg (by rw [h1]; decide), if_pos h2]
    rw [e]
    exact APure.vcM Try.func24 (.call (.bool true) <| .call (.bool false) .nil) rfl rfl ⟨s1, s2, [], by kernel_rfl⟩
  rw [h2] at s2
  have sAt := At_spec r id (by omega)
  have fN := fndV_neg id r
  cases h3 : (idsR r).contains id
  · rw [h3, Bool.not_false] at fN
    have e : piecesE r m id = 6 := by unfold piecesE; rw [if_neg (by rw [h1]; decide), if_neg (by rw [h2]; decide), if_pos h3]
    rw [e]
    generalize fndV (isId id) r = F at *
    exact APure.vcM Try.func24 (.call (.bool true) <| .call (.bool true) <| .call (.int .i64 F) <| .br 24 true .nil) rfl rfl ⟨s1, s2, sAt, fN, [], by kernel_rfl⟩
  rw [h3, Bool.not_true] at fN
  have e : piecesE r m id = 0 := by unfold piecesE; rw [if_neg (by rw [h1]; decide), if_neg (by rw [h2]; decide), if_neg (by rw [h3]; decide)]
  rw [e, if_pos rfl]
  have sC := rComes_spec r id h1
  have ho := (movs_len h2).2
  have hml := (movs_len h2).1
  have hil : (idsR r).length = r.length := by unfold idsR; rw [List.length_map]
  have key : ∃ (Z : Nat → Sto), Z 0 = sto0 ∧ (∀ (k : Nat) (x : Rcd), r[k]? = some x → Z (k + 1) = if (batV r id).contains x.id then plusS (Z k) (storeV m [x.id]) else Z k) ∧ (∀ k, Bnd (Z k) 40) ∧ Z r.length = storeV m (batV r id) := by
    refine ⟨fun k => storeV m (((idsR r).take k).filter fun i => (batV r id).contains i), ?_, fun k x hx => ?_, fun k => ?_, ?_⟩
    · show storeV m (([] : List Int).filter _) = sto0
      rw [List.filter_nil, storeV_tot, tot_nil]
    · show storeV m (((idsR r).take (k + 1)).filter _) = _
      rw [List.take_add_one, idsR_get hx, List.filter_append]
      have hnew := (nodup_at (recs_nodup h1).1 (idsR_get hx)).1
      cases hc : (batV r id).contains x.id
      · have e0 : (some x.id).toList.filter (fun i => (batV r id).contains i) = [] := by
          show [x.id].filter _ = []
          rw [List.filter_cons_of_neg (by rw [hc]; decide)]; rfl
        rw [e0, List.append_nil]; rfl
      · have e0 : (some x.id).toList.filter (fun i => (batV r id).contains i) = [x.id] := by
          show [x.id].filter _ = [x.id]
          rw [List.filter_cons_of_pos hc]; rfl
        rw [e0, storeV_snoc (fun hm => hnew (List.mem_filter.1 hm).1)]; rfl
    · show Bnd (storeV m (((idsR r).take k).filter fun i => (batV r id).contains i)) 40
      have hb := storeV_bnd (ids := ((idsR r).take k).filter fun i => (batV r id).contains i) ho
      obtain ⟨b1, b2, b3, b4, b5, b6⟩ := hb
      constructor <;> omega
    · show storeV m (((idsR r).take r.length).filter _) = _
      rw [← hil, List.take_length, bat_filter]
  have hbZ : ∀ b, Bnd (storeV m [b]) 40 := fun b => by
    obtain ⟨b1, b2, b3, b4, b5, b6⟩ := storeV_bnd (ids := [b]) ho
    constructor <;> omega
  have sS := fun b => rstore_spec m b ho
  obtain ⟨Z, hZ0, hZs, hZb, hZe⟩ := key
  rw [← hZe]
  have hCL : ∀ {j : Nat} {y : Rcd}, r[j]? = some y → (coB r id)[j]? = some ((batV r id).contains y.id) := fun h => by unfold coB; rw [List.getElem?_map, h]; rfl
  obtain ⟨ZF, hZF⟩ : ∃ ZF : Int → Sto, ∀ b, storeV m [b] = ZF b := ⟨_, fun _ => rfl⟩
  replace sS : ∀ b, APure Try.prog 65 [encMs m, .int .i64 b] (encSt (ZF b)) := fun b => by have h := sS b; rw [hZF b] at h; exact h
  replace hbZ : ∀ b, Bnd (ZF b) 40 := fun b => hZF b ▸ hbZ b
  replace hZs : ∀ (k : Nat) (x : Rcd), r[k]? = some x → Z (k + 1) = if (batV r id).contains x.id then plusS (Z k) (ZF x.id) else Z k := fun k x hx => by rw [hZs k x hx, hZF]
  clear hZF hZe
  generalize (batV r id).contains = C at *
  generalize coB r id = CL at *
  generalize fndV (isId id) r = F at *
  refine APure.vcM Try.func24 (.call (.bool true) <| .call (.bool true) <| .call (.int .i64 F) <| .br 24 false <| .call (encBs CL) .loop) rfl rfl ⟨s1, s2, sAt, fN, sC, ?_⟩
  intro g hn hlo
  replace hn : g.n = 79 := hn
  replace hlo : g.low 0 := hlo
  refine acode_whileW (fun k : Nat => ⟨[(0, encRs r), (1, encMs m), (6, .vptr 0 0), (8, .vptr 1 0), (9, encBs CL), (10, .int .i64 (k : Int))], [(0, .cells (cSt sto0)), (1, .cells (cSt (Z k)))], 2⟩) (fun k => k ≤ r.length) (fun k => r.length - k) 0 (Nat.zero_le _) ?_ ?_
  · have c1 : some (AObj.cells (cSt sto0)) = some (.cells (cSt (Z 0))) := by rw [hZ0]
    exact Wk.le (St.le.of ⟨by kernel_rfl, rfl, by kernel_rfl, rfl, by kernel_rfl, rfl, by kernel_rfl, rfl, by kernel_rfl, rfl, by kernel_rfl, rfl, trivial⟩ ⟨by kernel_rfl, (by decide : (0 : Nat) < 2), rfl, Eq.trans (by kernel_rfl) c1, (by decide : (1 : Nat) < 2), rfl, trivial⟩) (hlo.mono (Nat.zero_le _))
  intro k hk
  replace hk : k ≤ r.length := hk
  by_cases hlt : k < r.length
  · refine Exists.elim (getE hlt) fun x hx => ?_
    have ek := congrArg (AV.int .i64) (succ64 (k := k) (by omega))
    have hc := hCL hx
    have hzs := hZs k x hx
    have hb1 := hZb k
    have hb2 := hbZ x.id
    have sSx := sS x.id
    refine (Bool.eq_false_or_eq_true (C x.id)).symm.elim (fun hq => ?_) (fun hq => ?_)
    · rw [hq] at hc hzs
      have c1 : some (AObj.cells (cSt (Z k))) = some (.cells (cSt (Z (k + 1)))) := by rw [hzs]; rfl
      exact ACode.vcM (.br 32 true <| .cells (encBo false) .nil) hn hlo (.roundW .cl) ⟨ltLen hlt, idx hc, k + 1, hlt, mu1 hlt, Wk.le (St.le.of ⟨by kernel_rfl, rfl, by kernel_rfl, rfl, by kernel_rfl, rfl, by kernel_rfl, rfl, by kernel_rfl, rfl, Eq.trans (by kernel_rfl) ek, rfl, trivial⟩ ⟨by kernel_rfl, (by decide : (0 : Nat) < 2), rfl, Eq.trans (by kernel_rfl) c1, (by decide : (1 : Nat) < 2), rfl, trivial⟩) (hlo.mono (Nat.zero_le _))⟩
    · rw [hq] at hc hzs
      have hzs : Z (k + 1) = plusS (Z k) (ZF x.id) := hzs
      have a1 := hb1.made
      have a2 := hb1.ret
      have a3 := hb1.tst
      have a4 := hb1.sold
      have a5 := hb1.scr
      have a6 := hb1.left
      have b1 := hb2.made
      have b2 := hb2.ret
      have b3 := hb2.tst
      have b4 := hb2.sold
      have b5 := hb2.scr
      have b6 := hb2.left
      have v51 : some (⟨.int .i64 (IntKind.i64.wrap ((Z k).made + (ZF x.id).made)), []⟩ : Out) = some ⟨.int .i64 ((Z k).made + (ZF x.id).made), []⟩ := by rw [wrap64 (by omega) (by omega)]
      have v56 : some (⟨.int .i64 (IntKind.i64.wrap ((Z k).ret + (ZF x.id).ret)), []⟩ : Out) = some ⟨.int .i64 ((Z k).ret + (ZF x.id).ret), []⟩ := by rw [wrap64 (by omega) (by omega)]
      have v61 : some (⟨.int .i64 (IntKind.i64.wrap ((Z k).tst + (ZF x.id).tst)), []⟩ : Out) = some ⟨.int .i64 ((Z k).tst + (ZF x.id).tst), []⟩ := by rw [wrap64 (by omega) (by omega)]
      have v66 : some (⟨.int .i64 (IntKind.i64.wrap ((Z k).sold + (ZF x.id).sold)), []⟩ : Out) = some ⟨.int .i64 ((Z k).sold + (ZF x.id).sold), []⟩ := by rw [wrap64 (by omega) (by omega)]
      have v71 : some (⟨.int .i64 (IntKind.i64.wrap ((Z k).scr + (ZF x.id).scr)), []⟩ : Out) = some ⟨.int .i64 ((Z k).scr + (ZF x.id).scr), []⟩ := by rw [wrap64 (by omega) (by omega)]
      have v76 : some (⟨.int .i64 (IntKind.i64.wrap ((Z k).left + (ZF x.id).left)), []⟩ : Out) = some ⟨.int .i64 ((Z k).left + (ZF x.id).left), []⟩ := by rw [wrap64 (by omega) (by omega)]
      have c1 : some (AObj.cells (cSt (plusS (Z k) (ZF x.id)))) = some (.cells (cSt (Z (k + 1)))) := by rw [hzs]
      exact ACode.vcM (.br 32 true <| .cells (encBo true) <| .cells (cRc x) <| .call (encSt (ZF x.id)) <| .val 51 (.int .i64 ((Z k).made + (ZF x.id).made)) [] <| .val 56 (.int .i64 ((Z k).ret + (ZF x.id).ret)) [] <| .val 61 (.int .i64 ((Z k).tst + (ZF x.id).tst)) [] <| .val 66 (.int .i64 ((Z k).sold + (ZF x.id).sold)) [] <| .val 71 (.int .i64 ((Z k).scr + (ZF x.id).scr)) [] <| .val 76 (.int .i64 ((Z k).left + (ZF x.id).left)) [] .nil) hn hlo (.roundW .cl) ⟨ltLen hlt, idx hc, idx hx, sSx, Eq.trans (by kernel_rfl) v51, Eq.trans (by kernel_rfl) v56, Eq.trans (by kernel_rfl) v61, Eq.trans (by kernel_rfl) v66, Eq.trans (by kernel_rfl) v71, Eq.trans (by kernel_rfl) v76, k + 1, hlt, mu1 hlt, Wk.le (St.le.of ⟨by kernel_rfl, rfl, by kernel_rfl, rfl, by kernel_rfl, rfl, by kernel_rfl, rfl, by kernel_rfl, rfl, Eq.trans (by kernel_rfl) ek, rfl, trivial⟩ ⟨by kernel_rfl, (by decide : (0 : Nat) < 2), rfl, Eq.trans (by kernel_rfl) c1, (by decide : (1 : Nat) < 2), rfl, trivial⟩) (hlo.mono (Nat.zero_le _))⟩
  · have hk' : k = r.length := by omega
    have ev : thaw 8 (hget []) (.tup [encSt (Z k), .int .i64 0]) = some (.tup [encSt (Z r.length), .int .i64 0], []) := by rw [hk']; unfold thaw; exact if_pos rfl
    exact ACode.vcM (.br 32 false .nil) hn hlo (.roundW .cl) ⟨geLen hlt, _, .refl _, .nil, [], Eq.trans (by kernel_rfl) ev⟩
theorem thaw_tup3 {h : Nat → Option AObj} {id : Nat} {l : List Int} {n : Int} (h0 : h id = some (.cells (iL l))) : thaw 8 h (.tup [.rsl id 0 l.length 1, .int .i64 n, .int .i64 0]) = some (.tup [encR l, .int .i64 n, .int .i64 0], [id]) := by
  have e0 : (AV.tup [.rsl id 0 l.length 1, .int .i64 n, .int .i64 0]).ok 0 = false := by simp [AV.ok, okL]
  have e : thaw 8 h (.tup [.rsl id 0 l.length 1, .int .i64 n, .int .i64 0]) = (if (AV.tup [.rsl id 0 l.length 1, .int .i64 n, .int .i64 0]).ok 0 = true then some (.tup [.rsl id 0 l.length 1, .int .i64 n, .int .i64 0], []) else (mapO (thaw 7 h) [.rsl id 0 l.length 1, .int .i64 n, .int .i64 0]).map fun p => (.tup p.1, p.2)) := rfl
  have e1 : thaw 7 h (.int .i64 0) = some (.int .i64 0, []) := by unfold thaw; exact if_pos rfl
  have e2 : thaw 7 h (.int .i64 n) = some (.int .i64 n, []) := by unfold thaw; exact if_pos rfl
  have e3 := thaw_fl 5 (h := h) (id := id) (enc := encI) (n := 1) (l := l) (fun _ => rfl) (fun _ => rfl) h0
  rw [e, e0]
  simp only [mapO, e1, e2, e3]
  rfl
theorem rRecall_spec (r : List Rcd) (l : List Ltr) (m : List Mov) (d : Int) : APure Try.prog 26 [encRs r, encLs l, encMs m, .int .i64 d] (encRe r l m d) := by
  have s1 := rCheck_spec r l
  unfold encRe
  by_cases h0 : checkV r l = 0
  · rw [h0] at s1
    have hR := (check_0 h0).1
    have hL := (check_0 h0).2
    have ha := Ar_of hR
    have hrl := ha.len
    have hll := lets_len hL
    have s2 := rMoves_spec r m hR
    cases h2 : movsB r m
    · rw [h2] at s2
      have e : recallE r l m d = 82 := by unfold recallE; rw [if_pos h0, if_pos h2]
      rw [e, if_neg (by decide)]
      exact APure.vcM Try.func26 (.call (.int .i64 0) <| .call (.bool false) .nil) rfl rfl ⟨s1, s2, [], by kernel_rfl⟩
    rw [h2] at s2
    have e : recallE r l m d = dayE r l d := by unfold recallE; rw [if_pos h0, if_neg (by rw [h2]; decide)]
    rw [e]
    have sW := rwithin_spec d 0 100000
    cases h3 : inB 0 100000 d
    · rw [h3] at sW
      have ed : dayE r l d = 2 := by unfold dayE; rw [if_pos h0, h3]; rfl
      rw [ed, if_neg (by decide)]
      exact APure.vcM Try.func26 (.call (.int .i64 0) <| .call (.bool true) <| .call (.bool false) .nil) rfl rfl ⟨s1, s2, sW, [], by kernel_rfl⟩
    rw [h3] at sW
    have ed : dayE r l d = 0 := by unfold dayE; rw [if_pos h0, h3]; rfl
    rw [ed, if_pos rfl]
    have ho := (movs_len h2).2
    have hml := (movs_len h2).1
    have sG := rGone_spec r l d (by omega) (by omega)
    have sHo := rHold_spec r (goneV l d) hR
    have hgb : goneBs r l d = goB (goneV l d) r := rfl
    rw [hgb] at sG
    have hHL : ∀ {j : Nat} {y : Rcd}, r[j]? = some y → (hoB (goneV l d) r)[j]? = some (heldW r l d y.id) := fun h => by unfold hoB; rw [List.getElem?_map, h]; rfl
    have hob := fun b => outV_bnd ho b
    have hov : ∀ b, outV m b = (storeV m [b]).sold - (storeV m [b]).ret := fun b => rfl
    have sO := fun b => rstore_spec m b ho
    have key : ∃ (A : Nat → List Int) (N : Nat → Int), A 0 = [] ∧ N 0 = 0 ∧ (∀ (k : Nat) (x : Rcd), r[k]? = some x → A (k + 1) = (if calB (heldW r l d) (outV m) x.id then A k ++ [x.id] else A k) ∧ N (k + 1) = N k + (if calB (heldW r l d) (outV m) x.id then outV m x.id else 0)) ∧
        (∀ k, k ≤ r.length → (A k).length ≤ k ∧ 0 ≤ N k ∧ N k ≤ 4000000 * k) ∧ A r.length = recL r l m d ∧ N r.length = recN r l m d := by
      have hl : (idsR r).length = r.length := by unfold idsR; rw [List.length_map]
      refine ⟨fun k => calL (heldW r l d) (outV m) ((idsR r).take k), fun k => calN (heldW r l d) (outV m) ((idsR r).take k), rfl, rfl, fun k x hx => ⟨calL_take (idsR_get hx), calN_take (idsR_get hx)⟩, fun k hk => ⟨?_, ?_⟩, ?_, ?_⟩
      · show (calL (heldW r l d) (outV m) ((idsR r).take k)).length ≤ k
        have := List.length_filter_le (calB (heldW r l d) (outV m)) ((idsR r).take k)
        rw [List.length_take] at this
        exact Nat.le_trans this (Nat.min_le_left _ _)
      · have := calN_bnd (W := heldW r l d) (o := outV m) (c := 4000000) (by omega) (fun i => by have := (hob i).2; omega) ((idsR r).take k)
        rw [List.length_take, hl, Nat.min_eq_left hk] at this
        exact this
      · show calL (heldW r l d) (outV m) ((idsR r).take r.length) = _
        rw [← hl, List.take_length]; rfl
      · show calN (heldW r l d) (outV m) ((idsR r).take r.length) = _
        rw [← hl, List.take_length]; rfl
    obtain ⟨A, N, hA0, hN0, hst, hbd, hAe, hNe⟩ := key
    rw [← hAe, ← hNe]
    have hcal : ∀ i, calB (heldW r l d) (outV m) i = (!heldW r l d i && decide (outV m i > 0)) := fun i => rfl
    have f54 : ∀ b, some (⟨.int .i64 (IntKind.i64.wrap ((storeV m [b]).sold - (storeV m [b]).ret)), []⟩ : Out) = some ⟨.int .i64 (outV m b), []⟩ := fun b => by
      have := hob b
      rw [← hov b, wrap64 (by omega) (by omega)]
    have f74 : ∀ k b, k ≤ r.length → some (⟨.int .i64 (IntKind.i64.wrap (N k + outV m b)), []⟩ : Out) = some ⟨.int .i64 (N k + outV m b), []⟩ := fun k b hk => by
      have := hob b
      have := hbd k hk
      rw [wrap64 (by omega) (by omega)]
    have no : ∀ (k : Nat) (x : Rcd), r[k]? = some x → calB (heldW r l d) (outV m) x.id = false → AV.rsl 0 0 (A k).length 1 = .rsl 0 0 (A (k + 1)).length 1 ∧ AV.int .i64 (N k) = .int .i64 (N (k + 1)) ∧ some (AObj.cells (iL (A k))) = some (.cells (iL (A (k + 1)))) := fun k x hx h => by
      obtain ⟨eA, eN⟩ := hst k x hx
      rw [h] at eA eN
      have eA : A (k + 1) = A k := eA
      have eN : N (k + 1) = N k := by rw [eN]; simp
      rw [eA, eN]; exact ⟨rfl, rfl, rfl⟩
    have yes : ∀ (k : Nat) (x : Rcd), r[k]? = some x → calB (heldW r l d) (outV m) x.id = true → A (k + 1) = A k ++ [x.id] ∧ (A (k + 1)).length = (A k).length + 1 ∧ N (k + 1) = N k + outV m x.id := fun k x hx h => by
      obtain ⟨eA, eN⟩ := hst k x hx
      rw [h] at eA eN
      have eA : A (k + 1) = A k ++ [x.id] := eA
      exact ⟨eA, by rw [eA]; simp, eN⟩
    clear hov hst
    obtain ⟨ZF, hZF⟩ : ∃ ZF : Int → Sto, ∀ b, storeV m [b] = ZF b := ⟨_, fun _ => rfl⟩
    replace sO : ∀ b, APure Try.prog 65 [encMs m, .int .i64 b] (encSt (ZF b)) := fun b => by have h := sO b; rw [hZF b] at h; exact h
    replace f54 : ∀ b, some (⟨.int .i64 (IntKind.i64.wrap ((ZF b).sold - (ZF b).ret)), []⟩ : Out) = some ⟨.int .i64 (outV m b), []⟩ := fun b => by have h := f54 b; rw [hZF b] at h; exact h
    generalize hoB (goneV l d) r = HL at *
    generalize goB (goneV l d) r = GL at *
    generalize calB (heldW r l d) (outV m) = CB at *
    generalize heldW r l d = W at *
    generalize outV m = OV at *
    refine APure.vcM Try.func26 (.call (.int .i64 0) <| .call (.bool true) <| .call (.bool true) <| .lent (encBs GL) [] <| .lent (encBs HL) [] .loop) rfl rfl ⟨s1, s2, sW, ⟨_, by kernel_rfl, .inr sG⟩, ⟨_, by kernel_rfl, .inr sHo⟩, ?_⟩
    intro g hn hlo
    replace hn : g.n = 77 := hn
    replace hlo : g.low 0 := hlo
    refine acode_whileW (fun k : Nat => ⟨[(0, encRs r), (2, encMs m), (12, encBs HL), (13, .rsl 0 0 (A k).length 1), (14, .int .i64 (N k)), (15, .int .i64 (k : Int))], [(0, .cells (iL (A k)))], 1⟩) (fun k => k ≤ r.length) (fun k => r.length - k) 0 (Nat.zero_le _) ?_ ?_
    · refine Wk.trans (Wk.le ?_ (hlo.mono (Nat.zero_le _))) (Wk.own 13 1 (by kernel_rfl))
      have o1 : some (AObj.cells []) = some (.cells (iL (A 0))) := by rw [hA0]; rfl
      have e4 : AV.rsl 0 0 0 1 = .rsl 0 0 (A 0).length 1 := by rw [hA0]; rfl
      have e5 : AV.int .i64 0 = .int .i64 (N 0) := by rw [hN0]
      exact St.le.of ⟨by kernel_rfl, rfl, by kernel_rfl, rfl, by kernel_rfl, rfl, Eq.trans (by kernel_rfl) e4, rfl, Eq.trans (by kernel_rfl) e5, rfl, by kernel_rfl, rfl, trivial⟩ ⟨Eq.trans (by kernel_rfl) o1, (by decide : (0 : Nat) < 1), iL_ok _ _, trivial⟩
    intro k hk
    replace hk : k ≤ r.length := hk
    by_cases hlt : k < r.length
    · refine Exists.elim (getE hlt) fun x hx => ?_
      have ek := congrArg (AV.int .i64) (succ64 (k := k) (by omega))
      have hh := hHL hx
      have hbk := (hbd k hk).1
      have sO1 := sO x.id
      have v54 := f54 x.id
      have hcx := hcal x.id
      have no1 := no k x hx
      have yes1 := yes k x hx
      have v74 := f74 k x.id hk
      refine (Bool.eq_false_or_eq_true (W x.id)).elim (fun hw => ?_) (fun hw => ?_)
      · rw [hw] at hh hcx
        rw [Bool.not_true, Bool.false_and] at hcx
        have q := no1 hcx
        have e4 := q.1
        have e5 := q.2.1
        have o1 := q.2.2
        exact ACode.vcM (.br 40 true <| .cells (cRc x) <| .call (encSt (ZF x.id)) <| .val 54 (.int .i64 (OV x.id)) [] <| .cells (encBo true) .nil) hn hlo (.roundW .cl) ⟨ltLen hlt, idx hx, sO1, Eq.trans (by kernel_rfl) v54, idx hh, k + 1, hlt, mu1 hlt, Wk.le (St.le.of ⟨by kernel_rfl, rfl, by kernel_rfl, rfl, by kernel_rfl, rfl, Eq.trans (by kernel_rfl) e4, rfl, Eq.trans (by kernel_rfl) e5, rfl, Eq.trans (by kernel_rfl) ek, rfl, trivial⟩ ⟨Eq.trans (by kernel_rfl) o1, (by decide : (0 : Nat) < 1), iL_ok _ _, trivial⟩) (hlo.mono (Nat.zero_le _))⟩
      · rw [hw] at hh hcx
        rw [Bool.not_false, Bool.true_and] at hcx
        refine (Bool.eq_false_or_eq_true (decide (OV x.id > 0))).symm.elim (fun hd => ?_) (fun hd => ?_)
        · rw [hd] at hcx
          have q := no1 hcx
          have e4 := q.1
          have e5 := q.2.1
          have o1 := q.2.2
          exact ACode.vcM (.br 40 true <| .cells (cRc x) <| .call (encSt (ZF x.id)) <| .val 54 (.int .i64 (OV x.id)) [] <| .cells (encBo false) <| .br 63 false .nil) hn hlo (.roundW .cl) ⟨ltLen hlt, idx hx, sO1, Eq.trans (by kernel_rfl) v54, idx hh, hd, k + 1, hlt, mu1 hlt, Wk.le (St.le.of ⟨by kernel_rfl, rfl, by kernel_rfl, rfl, by kernel_rfl, rfl, Eq.trans (by kernel_rfl) e4, rfl, Eq.trans (by kernel_rfl) e5, rfl, Eq.trans (by kernel_rfl) ek, rfl, trivial⟩ ⟨Eq.trans (by kernel_rfl) o1, (by decide : (0 : Nat) < 1), iL_ok _ _, trivial⟩) (hlo.mono (Nat.zero_le _))⟩
        · rw [hd] at hcx
          have q := yes1 hcx
          have eA := q.1
          have el := q.2.1
          have v74 := v74.trans (show some (⟨.int .i64 (N k + OV x.id), []⟩ : Out) = some ⟨.int .i64 (N (k + 1)), []⟩ by rw [q.2.2])
          have ap := app_one (h := hget [(0, .cells (iL (A k))), (3, .cells [.int .i64 x.id])]) (i := 0) (j := 3) (nid := 4) (l := A k) (x := x.id) rfl rfl (by omega)
          rw [← eA, ← el] at ap
          exact ACode.vcM (.br 40 true <| .cells (cRc x) <| .call (encSt (ZF x.id)) <| .val 54 (.int .i64 (OV x.id)) [] <| .cells (encBo false) <| .br 63 true <| .cells (cRc x) <| .val 71 (.rsl 4 0 (A (k + 1)).length 1) [(0, none), (4, some (.cells (iL (A (k + 1)))))] <| .val 74 (.int .i64 (N (k + 1))) [] .nil) hn hlo (.roundW .cl) ⟨ltLen hlt, idx hx, sO1, Eq.trans (by kernel_rfl) v54, idx hh, hd, idx hx, Eq.trans (by kernel_rfl) ap, Eq.trans (by kernel_rfl) v74, k + 1, hlt, mu1 hlt,
            Wk.ren (c := 0) (b := 4) (St.ren.of rfl (by decide) ⟨.inl ⟨by kernel_rfl, rfl⟩, .inl ⟨by kernel_rfl, rfl⟩, .inl ⟨by kernel_rfl, rfl⟩, .inr ⟨_, _, _, rfl, by kernel_rfl⟩, .inl ⟨by kernel_rfl, rfl⟩, .inl ⟨Eq.trans (by kernel_rfl) ek, rfl⟩, trivial⟩ ⟨.inr ⟨rfl, by kernel_rfl, _, rfl, iL_ok _ _⟩, trivial⟩) (hlo.mono (Nat.zero_le _))⟩
    · have hk' : k = r.length := by omega
      have ht : thaw 8 (hget [(0, .cells (iL (A k)))]) (.tup [.rsl 0 0 (A k).length 1, .int .i64 (N k), .int .i64 0]) = some (.tup [encR (A r.length), .int .i64 (N r.length), .int .i64 0], [0]) := by rw [thaw_tup3 (l := A k) rfl, hk']
      exact ACode.vcM (.br 40 false .nil) hn hlo (.roundW .cl) ⟨geLen hlt, _, .refl _, .nil, [0], Eq.trans (by kernel_rfl) ht⟩
  · have n0 : (checkV r l != 0) = true := bne_iff_ne.2 h0
    have e : recallE r l m d = checkV r l := by unfold recallE; rw [if_neg h0]
    rw [e, if_neg h0]
    generalize checkV r l = C at *
    exact APure.vcM Try.func26 (.call (.int .i64 C) <| .br 22 true .nil) rfl rfl ⟨s1, n0, [], by kernel_rfl⟩
end Go.Proofs.Ytmdhgkfjlphliaa
