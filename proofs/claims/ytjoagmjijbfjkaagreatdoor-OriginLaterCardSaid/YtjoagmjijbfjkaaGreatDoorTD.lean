import Derived.Test.YtjoagmjijbfjkaaGreatDoorTT
import Derived.Test.YtjoagmjijbfjkaaGreatDoorSJ
import Derived.Test.YtjoagmjijbfjkaaGreatDoorXE
/-
  WHAT IS TOLD OF ALL ROOMS.
-/
namespace Go.Proofs.YtjoagmjijbfjkaaGreatDoor
open Go Go.Am
set_option maxRecDepth 100000
set_option maxHeartbeats 4000000
noncomputable def asgT : Code := rfA Tryz.f49
noncomputable def bodT : Code := rfB Tryz.f49
def spT (s : Scn) (crs : List Crs) (room set : Nat) : List Spn := (crs.filterMap (trC s.fin s.marks room set)).map (·.2)
def tlV (s : Scn) (crs : List Crs) (set : Nat) (x : Int) : List Spn := joinV [] (pdqS (spT s crs x.toNat set))
def tlF (s : Scn) (crs : List Crs) (set : Nat) (x : Int) : AV := encSps (tlV s crs set x)
def rmL (k : Nat) : List Int := (List.range k).map fun (r : Nat) => (r : Int)
theorem rmL_succ (k : Nat) : rmL (k + 1) = rmL k ++ [(k : Int)] := by unfold rmL; rw [List.range_succ, List.map_append]; rfl
theorem rmL_not (k : Nat) : (k : Int) ∉ rmL k := by
  intro h
  obtain ⟨r, hr, e⟩ := List.mem_map.1 h
  have := List.mem_range.1 hr
  omega
theorem rmL_nodup (k : Nat) : (rmL k).Nodup := by
  unfold rmL
  exact (List.nodup_range).map (fun (r : Nat) => (r : Int)) (fun a b h e => h (Int.ofNat.inj e))
theorem spT_yes {s : Scn} {crs : List Crs} {room set k : Nat} {c : Crs} {t : List Int × Spn} (hck : crs[k]? = some c) (h : trC s.fin s.marks room set c = some t) : spT s (crs.take (k + 1)) room set = spT s (crs.take k) room set ++ [t.2] := by
  unfold spT
  rw [take_snoc hck, List.filterMap_append, List.map_append]
  congr 1
  simp [h]
theorem spT_no {s : Scn} {crs : List Crs} {room set k : Nat} {c : Crs} (hck : crs[k]? = some c) (h : trC s.fin s.marks room set c = none) : spT s (crs.take (k + 1)) room set = spT s (crs.take k) room set := by
  unfold spT
  rw [take_snoc hck, List.filterMap_append, List.map_append]
  simp [h]
theorem spT_len (s : Scn) (crs : List Crs) (room set : Nat) : (spT s crs room set).length ≤ crs.length := by
  unfold spT
  rw [List.length_map]
  exact List.length_filterMap_le _ _
theorem spT_in {s : Scn} {crs : List Crs} {room set : Nat} {x : Spn} (h : x ∈ spT s crs room set) : 0 ≤ x.1 ∧ x.1 ≤ x.2 ∧ x.2 ≤ s.fin := by
  unfold spT at h
  obtain ⟨t, ht, rfl⟩ := List.mem_map.1 h
  obtain ⟨c, _, hc⟩ := List.mem_filterMap.1 ht
  unfold trC at hc
  split at hc
  · rename_i q
    cases hc
    have w := allV_le (fin := s.fin) (f := c.2 room) (l := mrks (pickS s.marks set)) (a := (0, s.fin))
    exact ⟨w.1, of_decide_eq_true q, w.2⟩
  · cases hc
theorem spT_sm {s : Scn} (hs : ScOk s) (crs : List Crs) (room set : Nat) : smS (spT s crs room set) := fun x hx => by
  have := spT_in hx
  have := hs.fin
  omega
theorem clRet {P : Program} {fn : Func} {K : AV → AHeap → Nat → Prop} : EClosed (RetTo P fn K) := fun x S S' he h => by
  obtain ⟨h1, r, h2, h3⟩ := h
  have hares : ∀ l, aresL P S' l = aresL P S l := by
    intro l
    induction l with
    | nil => rfl
    | cons x l ihl =>
      have h1 : ares1 P S' x = ares1 P S x := by cases x <;> simp only [ares1, he.1, he.2.1]
      simp only [aresL, h1, ihl]
  refine ⟨h1, r, ?_, ?_⟩
  · rw [← h2]; unfold ares; rw [hares]
  · rw [← he.2.1, ← he.2.2]; exact h3
theorem told_of (s : Scn) (hs : ScOk s) (crs : List Crs) (hcr : ∀ c ∈ crs, CrOk s c) (hlen : crs.length ≤ 1000) (set : Nat) (hset : set < 4096) (heset : set = allN s) :
    APure Tryz.prog 49 [encX s crs] (.imap (entsG (tlF s crs set) ((rmL (nR s)).filter (neL (tlV s crs set))))) := by
  have hml := hs.ml
  obtain ⟨hnr, hn1, hn6⟩ := nR_eq hs
  have al := all_spec s crs hml
  rw [← heset] at al
  refine APure.range (by kernel_rfl) (by kernel_rfl) (RangeOk.enter Tryz.func49 rfl fun g hn hlo0 => ?_)
  replace hn : g.n = 45 := hn
  refine ACode.cut 2 (fun _ : Unit => ⟨[(3, .mref 1)], [(1, .map (entsG (tlF s crs set) (rmL (nR s))))], 2⟩) (fun _ => True) .loop hn hlo0 clRet rfl ?_ fun _ _ => ?_
  · intro g hn hlo
    replace hn : g.n = 45 := hn
    replace hlo : g.low 0 := hlo
    refine acode_whileW (fun room : Nat => ⟨[(1, .vptr 0 0), (3, .mref 1), (12, .int .i64 s.rooms), (13, .int .i64 room)], [(0, .cells (cXa s (encCs crs))), (1, .map (entsG (tlF s crs set) (rmL room)))], 2⟩) (fun room => room ≤ nR s) (fun room => nR s - room) 0 (Nat.zero_le _) ?_ ?_
    · exact Wk.le (St.le.of ⟨by kernel_rfl, rfl, by kernel_rfl, rfl, by kernel_rfl, rfl, by kernel_rfl, rfl, trivial⟩ ⟨by kernel_rfl, (by decide : (0 : Nat) < 2), (by kernel_rfl), by kernel_rfl, (by decide : (1 : Nat) < 2), okE_entsG (fun _ => rfl) _, trivial⟩) (hlo.mono (show 0 ≤ 2 by decide))
    · intro room hroom0
      replace hroom0 : room ≤ nR s := hroom0
      by_cases hroom : room < nR s
      · have c14 : decide ((room : Int) < s.rooms) = true := decide_eq_true (by omega)
        have er := congrArg (AV.int .i64) (succ64 (k := room) (by omega))
        refine ACode.vcM (.br 14 true <| .draw 4 <| .val 16 (encX s crs) [] <| .val 18 (encX s crs) [] <| .call (.int .i64 (set : Int)) <| .call (.fn (.func 99) [] [.cptr (cXa s (encCs crs)), .cptr [.int .i64 (room : Int)], .cptr [.int .i64 (set : Int)]]) <| .inl Tryz.f99 .loop) hn hlo (.roundW .cl) ⟨c14, by kernel_rfl, mixed, by kernel_rfl, by kernel_rfl, by kernel_rfl, al, by kernel_rfl, truths_spec s crs room set, Tryz.func99, ?_⟩
        have hloR := hlo
        intro g hn hlo
        replace hn : g.n = 75 := hn
        replace hlo : g.low 9 := hlo
        refine acode_whileW (fun k : Nat => ⟨[(0, .yld 8), (1, .cptr (cXa s (encCs crs))), (2, .cptr [.int .i64 (room : Int)]), (3, .cptr [.int .i64 (set : Int)]), (12, encCs crs), (13, .int .i64 (crs.map cCr).length), (14, .int .i64 k)], [(0, .cells (cXa s (encCs crs))), (1, .map (entsG (tlF s crs set) (rmL room))), (2, .cells [.rsl 9 0 (spT s (crs.take k) room set).length 2]), (8, .loop ⟨.ready, none, 45, [(5, .vptr 2 0)], #[21], asgT, bodT⟩), (9, .cells (fl cSp (spT s (crs.take k) room set)))], 10⟩) (fun k => k ≤ crs.length) (fun k => crs.length - k) 0 (Nat.zero_le _) ?_ ?_
        · refine Wk.trans (Wk.le ?_ (hlo.mono (show 9 ≤ 10 by decide))) (Wk.trans (Wk.ownC (S := ⟨[(0, .yld 8), (1, .cptr (cXa s (encCs crs))), (2, .cptr [.int .i64 (room : Int)]), (3, .cptr [.int .i64 (set : Int)]), (12, encCs crs), (13, .int .i64 (crs.map cCr).length), (14, .int .i64 ((0 : Nat) : Int))], [(0, .cells (cXa s (encCs crs))), (1, .map (entsG (tlF s crs set) (rmL room))), (2, .cells [.nil]), (8, .loop ⟨.ready, none, 45, [(5, .vptr 2 0)], #[21], asgT, bodT⟩)], 9⟩) 2 0 2 (cs := [.nil]) rfl rfl) (Wk.trans (Wk.le (S' := ⟨[(0, .yld 8), (1, .cptr (cXa s (encCs crs))), (2, .cptr [.int .i64 (room : Int)]), (3, .cptr [.int .i64 (set : Int)]), (12, encCs crs), (13, .int .i64 (crs.map cCr).length), (14, .int .i64 ((0 : Nat) : Int))], [(0, .cells (cXa s (encCs crs))), (1, .map (entsG (tlF s crs set) (rmL room))), (2, .cells [.nil]), (8, .loop ⟨.ready, none, 45, [(5, .vptr 2 0)], #[21], asgT, bodT⟩)], 9⟩) ?_ (hlo.mono (show 9 ≤ 9 by decide))) (Wk.loopEnv (id := 8) (n := 9) [(5, .vptr 2 0)] rfl ⟨rfl, rfl, trivial⟩)))
          · exact St.le.of ⟨by kernel_rfl, (by kernel_rfl), by kernel_rfl, (by kernel_rfl), by kernel_rfl, (by kernel_rfl), by kernel_rfl, (by kernel_rfl), by kernel_rfl, (by kernel_rfl), by kernel_rfl, (by kernel_rfl), by kernel_rfl, rfl, trivial⟩ ⟨by kernel_rfl, (by decide : (0 : Nat) < 10), (by kernel_rfl), by kernel_rfl, (by decide : (1 : Nat) < 10), okE_entsG (fun _ => rfl) _, by kernel_rfl, (by decide : (2 : Nat) < 10), rfl, by kernel_rfl, (by decide : (8 : Nat) < 10), (by kernel_rfl), by kernel_rfl, (by decide : (9 : Nat) < 10), sp_ok _ _, trivial⟩
          · exact St.le.of ⟨by kernel_rfl, (by kernel_rfl), by kernel_rfl, (by kernel_rfl), by kernel_rfl, (by kernel_rfl), by kernel_rfl, (by kernel_rfl), by kernel_rfl, (by kernel_rfl), by kernel_rfl, (by kernel_rfl), by kernel_rfl, rfl, trivial⟩ ⟨by kernel_rfl, (by decide : (0 : Nat) < 9), (by kernel_rfl), by kernel_rfl, (by decide : (1 : Nat) < 9), okE_entsG (fun _ => rfl) _, by kernel_rfl, (by decide : (2 : Nat) < 9), rfl, by kernel_rfl, (by decide : (8 : Nat) < 9), (by kernel_rfl), trivial⟩
        · intro k hk1
          replace hk1 : k ≤ crs.length := hk1
          by_cases hlt : k < crs.length
          · refine Exists.elim (getE hlt) fun c hck => ?_
            have hco := hcr c (List.mem_of_getElem? hck)
            have ek := congrArg (AV.int .i64) (succ64 (k := k) (by omega))
            have xr := ixTabO (h := hget []) (id := 10) (off := 1) (i := (room : Int)) rfl (show room < 6 by omega)
            have lr := ldRowC (h := hget [(10, .cells (cCr c))]) (id := 10) (c := c) rfl (show room < 6 by omega)
            refine ACode.vcM (.br 15 true <| .cells (cCr c) <| .val 17 (.agg (cCr c)) [] <| .val 6 (.vptr 10 0) [(10, some (.cells zC))] <| .val 1 .undef [(10, some (.cells (cCr c)))] <| .draw 11 <| .call (.agg [.int .i64 0, .int .i64 s.fin]) <| .val 24 (.vptr 10 (1 + 12 * room)) [] <| .val 25 (.agg (cRow (c.2 room))) [] <| .val 8 (.vptr 21 0) [(21, some (.cells (cRow (fun _ => some 0))))] <| .val 1 .undef [(20, some (.cells (cSp (0, s.fin))))] <| .val 1 .undef [(21, some (.cells (cRow (c.2 room))))] <| .loop) hn hlo (.roundW .cl) ⟨ltLen hlt, idx hck, by kernel_rfl, by kernel_rfl, by kernel_rfl, by kernel_rfl, mixed, by kernel_rfl, upTo_spec s.fin, Eq.trans (by kernel_rfl) xr, Eq.trans (by kernel_rfl) lr, by kernel_rfl, by kernel_rfl, by kernel_rfl, by kernel_rfl, ?_⟩
            clear xr lr
            have hloO := hlo
            intro g hn hlo
            replace hn : g.n = 75 := hn
            replace hlo : g.low 9 := hlo
            refine acode_whileW (fun i : Nat => ⟨[(0, .yld 8), (1, .cptr (cXa s (encCs crs))), (2, .cptr [.int .i64 (room : Int)]), (3, .cptr [.int .i64 (set : Int)]), (12, encCs crs), (13, .int .i64 (crs.map cCr).length), (14, .int .i64 k), (6, .vptr 10 0), (7, .vptr 20 0), (8, .vptr 21 0), (28, encMs s.marks), (29, .int .i64 (s.marks.map cMk).length), (30, .int .i64 i)], [(0, .cells (cXa s (encCs crs))), (1, .map (entsG (tlF s crs set) (rmL room))), (2, .cells [.rsl 9 0 (spT s (crs.take k) room set).length 2]), (8, .loop ⟨.ready, none, 45, [(5, .vptr 2 0)], #[21], asgT, bodT⟩), (9, .cells (fl cSp (spT s (crs.take k) room set))), (10, .cells (cCr c)), (20, .cells (cSp (winM s.fin (c.2 room) (s.marks.take i) set))), (21, .cells (cRow (c.2 room)))], 22⟩) (fun i => i ≤ s.marks.length ∧ okW (winM s.fin (c.2 room) (s.marks.take i) set) = true) (fun i => s.marks.length - i) 0 ⟨Nat.zero_le _, decide_eq_true hs.fin.1⟩ ?_ ?_
            · exact Wk.le (St.le.of ⟨by kernel_rfl, (by kernel_rfl), by kernel_rfl, (by kernel_rfl), by kernel_rfl, (by kernel_rfl), by kernel_rfl, (by kernel_rfl), by kernel_rfl, (by kernel_rfl), by kernel_rfl, (by kernel_rfl), by kernel_rfl, (by kernel_rfl), by kernel_rfl, (by kernel_rfl), by kernel_rfl, (by kernel_rfl), by kernel_rfl, (by kernel_rfl), by kernel_rfl, (by kernel_rfl), by kernel_rfl, (by kernel_rfl), by kernel_rfl, rfl, trivial⟩ ⟨by kernel_rfl, (by decide : (0 : Nat) < 22), (by kernel_rfl), by kernel_rfl, (by decide : (1 : Nat) < 22), okE_entsG (fun _ => rfl) _, by kernel_rfl, (by decide : (2 : Nat) < 22), rfl, by kernel_rfl, (by decide : (8 : Nat) < 22), (by kernel_rfl), by kernel_rfl, (by decide : (9 : Nat) < 22), sp_ok _ _, by kernel_rfl, (by decide : (10 : Nat) < 22), (by kernel_rfl), by kernel_rfl, (by decide : (20 : Nat) < 22), rfl, by kernel_rfl, (by decide : (21 : Nat) < 22), (by kernel_rfl), trivial⟩) (hlo.mono (show 9 ≤ 22 by decide))
            · rintro i ⟨hi1, hi2⟩
              replace hi1 : i ≤ s.marks.length := hi1
              by_cases hlti : i < s.marks.length
              · refine Exists.elim (getE hlti) fun m hmi => ?_
                have ei := congrArg (AV.int .i64) (succ64 (k := i) (by omega))
                have sh := bShlO (k := i) (by omega)
                have hb0 := bHas0 (S := set) (i := i) hset (by omega)
                refine (Bool.eq_false_or_eq_true (set.testBit i)).symm.elim (fun hbit => ?_) (fun hbit => ?_)
                · rw [hbit] at hb0
                  have ewin := win_no (s := s) (c := c) (room := room) hmi hbit
                  have eW : some (AObj.cells (cSp (winM s.fin (c.2 room) (s.marks.take i) set))) = some (.cells (cSp (winM s.fin (c.2 room) (s.marks.take (i + 1)) set))) := by rw [ewin]
                  have hk2 : okW (winM s.fin (c.2 room) (s.marks.take (i + 1)) set) = true := by rw [ewin]; exact hi2
                  exact ACode.vcM (.br 31 true <| .cells (cMk m) <| .draw 3 <| .val 37 (.int .i64 ((2 ^ i : Nat) : Int)) [] <| .br 39 true .nil) hn hlo (.roundW .cl) ⟨ltLen hlti, idx hmi, by kernel_rfl, mixed, by kernel_rfl, Eq.trans (by kernel_rfl) sh, by kernel_rfl, hb0, i + 1, ⟨hlti, hk2⟩, mu1 hlti,
                    Wk.le (St.le.of ⟨by kernel_rfl, (by kernel_rfl), by kernel_rfl, (by kernel_rfl), by kernel_rfl, (by kernel_rfl), by kernel_rfl, (by kernel_rfl), by kernel_rfl, (by kernel_rfl), by kernel_rfl, (by kernel_rfl), by kernel_rfl, (by kernel_rfl), by kernel_rfl, (by kernel_rfl), by kernel_rfl, (by kernel_rfl), by kernel_rfl, (by kernel_rfl), by kernel_rfl, (by kernel_rfl), by kernel_rfl, (by kernel_rfl), Eq.trans (by kernel_rfl) ei, rfl, trivial⟩ ⟨by kernel_rfl, (by decide : (0 : Nat) < 22), (by kernel_rfl), by kernel_rfl, (by decide : (1 : Nat) < 22), okE_entsG (fun _ => rfl) _, by kernel_rfl, (by decide : (2 : Nat) < 22), rfl, by kernel_rfl, (by decide : (8 : Nat) < 22), (by kernel_rfl), by kernel_rfl, (by decide : (9 : Nat) < 22), sp_ok _ _, by kernel_rfl, (by decide : (10 : Nat) < 22), (by kernel_rfl), Eq.trans (by kernel_rfl) eW, (by decide : (20 : Nat) < 22), rfl, by kernel_rfl, (by decide : (21 : Nat) < 22), (by kernel_rfl), trivial⟩) (hlo.mono (show 9 ≤ 22 by decide))⟩
                · rw [hbit] at hb0
                  refine Exists.elim (mk_facts hs hco hroom hmi hbit) fun SY mf => ?_
                  have x1 := ixRow (h := hget []) (id := 21) (off := 0) mf.room.1 mf.room.2
                  have x2 := ixRow (h := hget []) (id := 21) (off := 0) mf.other.1 mf.other.2
                  have l1 := ldRow (h := hget [(21, .cells (cRow (c.2 room)))]) (id := 21) (f := c.2 room) rfl mf.room.2
                  have l2 := ldRow (h := hget [(21, .cells (cRow (c.2 room)))]) (id := 21) (f := c.2 room) rfl mf.other.2
                  have ov := mf.ov
                  have eM := mf.cell
                  have hmi2 : (0 : Int) ≤ (i : Int) ∧ (s.marks.map cMk)[(i : Int).toNat]? = some (cMk m) := idx hmi
                  have hnx := gtr_ok (winM s.fin (c.2 room) (s.marks.take (i + 1)) set)
                  refine Or.elim mf.say (fun hsy => ?_) (fun sayC => ?_)
                  · have hj := hsy.1
                    have sy := hsy.2
                    refine (Bool.eq_false_or_eq_true (okW (winM s.fin (c.2 room) (s.marks.take (i + 1)) set))).symm.elim (fun hok => ?_) (fun hok => ?_)
                    · rw [hok] at hnx
                      have hbad := win_bad hok
                      have es : spT s (crs.take (k + 1)) room set = spT s (crs.take k) room set := spT_no hck (by unfold trC; rw [hbad]; rfl)
                      have e2 : some (AObj.cells [.rsl 9 0 (spT s (crs.take k) room set).length 2]) = some (.cells [.rsl 9 0 (spT s (crs.take (k + 1)) room set).length 2]) := by rw [es]
                      have e4 : some (AObj.cells (fl cSp (spT s (crs.take k) room set))) = some (.cells (fl cSp (spT s (crs.take (k + 1)) room set))) := by rw [es]
                      exact ACode.vcM (.br 31 true <| .cells (cMj m.id 1 m.room m.other m.lo m.hi m.long) <| .draw 3 <| .val 37 (.int .i64 ((2 ^ i : Nat) : Int)) [] <| .br 39 false <| .draw 20 <| .val 43 (.cptr (kdL ++ [encCs crs])) [] <| .val 44 (.cptr ((kdL ++ [encCs crs]).drop 4)) [] <| .val 45 (.cptr ((kdL ++ [encCs crs]).drop 7)) [] <| .val 46 (kdF 84) [] <| .val 53 (.vptr 21 (0 + 2 * (mrk m).room)) [] <| .val 54 (encTm (c.2 room (mrk m).room)) [] <| .val 57 (.vptr 21 (0 + 2 * (mrk m).other)) [] <| .val 58 (encTm (c.2 room (mrk m).other)) [] <| .call (encSp SY) <| .call (encSp (winM s.fin (c.2 room) (s.marks.take (i + 1)) set)) <| .br 65 true .nil) hn hlo (.roundW .cl) ⟨ltLen hlti, ⟨hmi2.1, hmi2.2.trans (eM 1 hj)⟩, by kernel_rfl, mixed, by kernel_rfl, Eq.trans (by kernel_rfl) sh, by kernel_rfl, hb0, by kernel_rfl, mixed, by kernel_rfl, by kernel_rfl, by kernel_rfl, by kernel_rfl, by kernel_rfl, Eq.trans (by kernel_rfl) x1, Eq.trans (by kernel_rfl) l1, Eq.trans (by kernel_rfl) x2, Eq.trans (by kernel_rfl) l2, sy, by kernel_rfl, ov, hnx, _, .refl _, .nil, k + 1, hlt, mu1 hlt, Wk.le (St.le.of ⟨by kernel_rfl, (by kernel_rfl), by kernel_rfl, (by kernel_rfl), by kernel_rfl, (by kernel_rfl), by kernel_rfl, (by kernel_rfl), by kernel_rfl, (by kernel_rfl), by kernel_rfl, (by kernel_rfl), Eq.trans (by kernel_rfl) ek, rfl, trivial⟩ ⟨by kernel_rfl, (by decide : (0 : Nat) < 10), (by kernel_rfl), by kernel_rfl, (by decide : (1 : Nat) < 10), okE_entsG (fun _ => rfl) _, Eq.trans (by kernel_rfl) e2, (by decide : (2 : Nat) < 10), rfl, by kernel_rfl, (by decide : (8 : Nat) < 10), (by kernel_rfl), Eq.trans (by kernel_rfl) e4, (by decide : (9 : Nat) < 10), sp_ok _ _, trivial⟩) (hloO.mono (show 9 ≤ 10 by decide))⟩
                    · rw [hok] at hnx
                      exact ACode.vcM (.br 31 true <| .cells (cMj m.id 1 m.room m.other m.lo m.hi m.long) <| .draw 3 <| .val 37 (.int .i64 ((2 ^ i : Nat) : Int)) [] <| .br 39 false <| .draw 20 <| .val 43 (.cptr (kdL ++ [encCs crs])) [] <| .val 44 (.cptr ((kdL ++ [encCs crs]).drop 4)) [] <| .val 45 (.cptr ((kdL ++ [encCs crs]).drop 7)) [] <| .val 46 (kdF 84) [] <| .val 53 (.vptr 21 (0 + 2 * (mrk m).room)) [] <| .val 54 (encTm (c.2 room (mrk m).room)) [] <| .val 57 (.vptr 21 (0 + 2 * (mrk m).other)) [] <| .val 58 (encTm (c.2 room (mrk m).other)) [] <| .call (encSp SY) <| .call (encSp (winM s.fin (c.2 room) (s.marks.take (i + 1)) set)) <| .br 65 false .nil) hn hlo (.roundW .cl) ⟨ltLen hlti, ⟨hmi2.1, hmi2.2.trans (eM 1 hj)⟩, by kernel_rfl, mixed, by kernel_rfl, Eq.trans (by kernel_rfl) sh, by kernel_rfl, hb0, by kernel_rfl, mixed, by kernel_rfl, by kernel_rfl, by kernel_rfl, by kernel_rfl, by kernel_rfl, Eq.trans (by kernel_rfl) x1, Eq.trans (by kernel_rfl) l1, Eq.trans (by kernel_rfl) x2, Eq.trans (by kernel_rfl) l2, sy, by kernel_rfl, ov, hnx, i + 1, ⟨hlti, hok⟩, mu1 hlti,
                        Wk.le (St.le.of ⟨by kernel_rfl, (by kernel_rfl), by kernel_rfl, (by kernel_rfl), by kernel_rfl, (by kernel_rfl), by kernel_rfl, (by kernel_rfl), by kernel_rfl, (by kernel_rfl), by kernel_rfl, (by kernel_rfl), by kernel_rfl, (by kernel_rfl), by kernel_rfl, (by kernel_rfl), by kernel_rfl, (by kernel_rfl), by kernel_rfl, (by kernel_rfl), by kernel_rfl, (by kernel_rfl), by kernel_rfl, (by kernel_rfl), Eq.trans (by kernel_rfl) ei, rfl, trivial⟩ ⟨by kernel_rfl, (by decide : (0 : Nat) < 22), (by kernel_rfl), by kernel_rfl, (by decide : (1 : Nat) < 22), okE_entsG (fun _ => rfl) _, by kernel_rfl, (by decide : (2 : Nat) < 22), rfl, by kernel_rfl, (by decide : (8 : Nat) < 22), (by kernel_rfl), by kernel_rfl, (by decide : (9 : Nat) < 22), sp_ok _ _, by kernel_rfl, (by decide : (10 : Nat) < 22), (by kernel_rfl), by kernel_rfl, (by decide : (20 : Nat) < 22), rfl, by kernel_rfl, (by decide : (21 : Nat) < 22), (by kernel_rfl), trivial⟩) (hlo.mono (show 9 ≤ 22 by decide))⟩
                  refine Or.elim sayC (fun hsy => ?_) (fun sayC => ?_)
                  · have hj := hsy.1
                    have sy := hsy.2
                    refine (Bool.eq_false_or_eq_true (okW (winM s.fin (c.2 room) (s.marks.take (i + 1)) set))).symm.elim (fun hok => ?_) (fun hok => ?_)
                    · rw [hok] at hnx
                      have hbad := win_bad hok
                      have es : spT s (crs.take (k + 1)) room set = spT s (crs.take k) room set := spT_no hck (by unfold trC; rw [hbad]; rfl)
                      have e2 : some (AObj.cells [.rsl 9 0 (spT s (crs.take k) room set).length 2]) = some (.cells [.rsl 9 0 (spT s (crs.take (k + 1)) room set).length 2]) := by rw [es]
                      have e4 : some (AObj.cells (fl cSp (spT s (crs.take k) room set))) = some (.cells (fl cSp (spT s (crs.take (k + 1)) room set))) := by rw [es]
                      exact ACode.vcM (.br 31 true <| .cells (cMj m.id 2 m.room m.other m.lo m.hi m.long) <| .draw 3 <| .val 37 (.int .i64 ((2 ^ i : Nat) : Int)) [] <| .br 39 false <| .draw 20 <| .val 43 (.cptr (kdL ++ [encCs crs])) [] <| .val 44 (.cptr ((kdL ++ [encCs crs]).drop 8)) [] <| .val 45 (.cptr ((kdL ++ [encCs crs]).drop 11)) [] <| .val 46 (kdF 86) [] <| .val 53 (.vptr 21 (0 + 2 * (mrk m).room)) [] <| .val 54 (encTm (c.2 room (mrk m).room)) [] <| .val 57 (.vptr 21 (0 + 2 * (mrk m).other)) [] <| .val 58 (encTm (c.2 room (mrk m).other)) [] <| .call (encSp SY) <| .call (encSp (winM s.fin (c.2 room) (s.marks.take (i + 1)) set)) <| .br 65 true .nil) hn hlo (.roundW .cl) ⟨ltLen hlti, ⟨hmi2.1, hmi2.2.trans (eM 2 hj)⟩, by kernel_rfl, mixed, by kernel_rfl, Eq.trans (by kernel_rfl) sh, by kernel_rfl, hb0, by kernel_rfl, mixed, by kernel_rfl, by kernel_rfl, by kernel_rfl, by kernel_rfl, by kernel_rfl, Eq.trans (by kernel_rfl) x1, Eq.trans (by kernel_rfl) l1, Eq.trans (by kernel_rfl) x2, Eq.trans (by kernel_rfl) l2, sy, by kernel_rfl, ov, hnx, _, .refl _, .nil, k + 1, hlt, mu1 hlt, Wk.le (St.le.of ⟨by kernel_rfl, (by kernel_rfl), by kernel_rfl, (by kernel_rfl), by kernel_rfl, (by kernel_rfl), by kernel_rfl, (by kernel_rfl), by kernel_rfl, (by kernel_rfl), by kernel_rfl, (by kernel_rfl), Eq.trans (by kernel_rfl) ek, rfl, trivial⟩ ⟨by kernel_rfl, (by decide : (0 : Nat) < 10), (by kernel_rfl), by kernel_rfl, (by decide : (1 : Nat) < 10), okE_entsG (fun _ => rfl) _, Eq.trans (by kernel_rfl) e2, (by decide : (2 : Nat) < 10), rfl, by kernel_rfl, (by decide : (8 : Nat) < 10), (by kernel_rfl), Eq.trans (by kernel_rfl) e4, (by decide : (9 : Nat) < 10), sp_ok _ _, trivial⟩) (hloO.mono (show 9 ≤ 10 by decide))⟩
                    · rw [hok] at hnx
                      exact ACode.vcM (.br 31 true <| .cells (cMj m.id 2 m.room m.other m.lo m.hi m.long) <| .draw 3 <| .val 37 (.int .i64 ((2 ^ i : Nat) : Int)) [] <| .br 39 false <| .draw 20 <| .val 43 (.cptr (kdL ++ [encCs crs])) [] <| .val 44 (.cptr ((kdL ++ [encCs crs]).drop 8)) [] <| .val 45 (.cptr ((kdL ++ [encCs crs]).drop 11)) [] <| .val 46 (kdF 86) [] <| .val 53 (.vptr 21 (0 + 2 * (mrk m).room)) [] <| .val 54 (encTm (c.2 room (mrk m).room)) [] <| .val 57 (.vptr 21 (0 + 2 * (mrk m).other)) [] <| .val 58 (encTm (c.2 room (mrk m).other)) [] <| .call (encSp SY) <| .call (encSp (winM s.fin (c.2 room) (s.marks.take (i + 1)) set)) <| .br 65 false .nil) hn hlo (.roundW .cl) ⟨ltLen hlti, ⟨hmi2.1, hmi2.2.trans (eM 2 hj)⟩, by kernel_rfl, mixed, by kernel_rfl, Eq.trans (by kernel_rfl) sh, by kernel_rfl, hb0, by kernel_rfl, mixed, by kernel_rfl, by kernel_rfl, by kernel_rfl, by kernel_rfl, by kernel_rfl, Eq.trans (by kernel_rfl) x1, Eq.trans (by kernel_rfl) l1, Eq.trans (by kernel_rfl) x2, Eq.trans (by kernel_rfl) l2, sy, by kernel_rfl, ov, hnx, i + 1, ⟨hlti, hok⟩, mu1 hlti,
                        Wk.le (St.le.of ⟨by kernel_rfl, (by kernel_rfl), by kernel_rfl, (by kernel_rfl), by kernel_rfl, (by kernel_rfl), by kernel_rfl, (by kernel_rfl), by kernel_rfl, (by kernel_rfl), by kernel_rfl, (by kernel_rfl), by kernel_rfl, (by kernel_rfl), by kernel_rfl, (by kernel_rfl), by kernel_rfl, (by kernel_rfl), by kernel_rfl, (by kernel_rfl), by kernel_rfl, (by kernel_rfl), by kernel_rfl, (by kernel_rfl), Eq.trans (by kernel_rfl) ei, rfl, trivial⟩ ⟨by kernel_rfl, (by decide : (0 : Nat) < 22), (by kernel_rfl), by kernel_rfl, (by decide : (1 : Nat) < 22), okE_entsG (fun _ => rfl) _, by kernel_rfl, (by decide : (2 : Nat) < 22), rfl, by kernel_rfl, (by decide : (8 : Nat) < 22), (by kernel_rfl), by kernel_rfl, (by decide : (9 : Nat) < 22), sp_ok _ _, by kernel_rfl, (by decide : (10 : Nat) < 22), (by kernel_rfl), by kernel_rfl, (by decide : (20 : Nat) < 22), rfl, by kernel_rfl, (by decide : (21 : Nat) < 22), (by kernel_rfl), trivial⟩) (hlo.mono (show 9 ≤ 22 by decide))⟩
                  refine Or.elim sayC (fun hsy => ?_) (fun sayC => ?_)
                  · have hj := hsy.1
                    have sy := hsy.2
                    refine (Bool.eq_false_or_eq_true (okW (winM s.fin (c.2 room) (s.marks.take (i + 1)) set))).symm.elim (fun hok => ?_) (fun hok => ?_)
                    · rw [hok] at hnx
                      have hbad := win_bad hok
                      have es : spT s (crs.take (k + 1)) room set = spT s (crs.take k) room set := spT_no hck (by unfold trC; rw [hbad]; rfl)
                      have e2 : some (AObj.cells [.rsl 9 0 (spT s (crs.take k) room set).length 2]) = some (.cells [.rsl 9 0 (spT s (crs.take (k + 1)) room set).length 2]) := by rw [es]
                      have e4 : some (AObj.cells (fl cSp (spT s (crs.take k) room set))) = some (.cells (fl cSp (spT s (crs.take (k + 1)) room set))) := by rw [es]
                      exact ACode.vcM (.br 31 true <| .cells (cMj m.id 3 m.room m.other m.lo m.hi m.long) <| .draw 3 <| .val 37 (.int .i64 ((2 ^ i : Nat) : Int)) [] <| .br 39 false <| .draw 20 <| .val 43 (.cptr (kdL ++ [encCs crs])) [] <| .val 44 (.cptr ((kdL ++ [encCs crs]).drop 12)) [] <| .val 45 (.cptr ((kdL ++ [encCs crs]).drop 15)) [] <| .val 46 (kdF 88) [] <| .val 53 (.vptr 21 (0 + 2 * (mrk m).room)) [] <| .val 54 (encTm (c.2 room (mrk m).room)) [] <| .val 57 (.vptr 21 (0 + 2 * (mrk m).other)) [] <| .val 58 (encTm (c.2 room (mrk m).other)) [] <| .call (encSp SY) <| .call (encSp (winM s.fin (c.2 room) (s.marks.take (i + 1)) set)) <| .br 65 true .nil) hn hlo (.roundW .cl) ⟨ltLen hlti, ⟨hmi2.1, hmi2.2.trans (eM 3 hj)⟩, by kernel_rfl, mixed, by kernel_rfl, Eq.trans (by kernel_rfl) sh, by kernel_rfl, hb0, by kernel_rfl, mixed, by kernel_rfl, by kernel_rfl, by kernel_rfl, by kernel_rfl, by kernel_rfl, Eq.trans (by kernel_rfl) x1, Eq.trans (by kernel_rfl) l1, Eq.trans (by kernel_rfl) x2, Eq.trans (by kernel_rfl) l2, sy, by kernel_rfl, ov, hnx, _, .refl _, .nil, k + 1, hlt, mu1 hlt, Wk.le (St.le.of ⟨by kernel_rfl, (by kernel_rfl), by kernel_rfl, (by kernel_rfl), by kernel_rfl, (by kernel_rfl), by kernel_rfl, (by kernel_rfl), by kernel_rfl, (by kernel_rfl), by kernel_rfl, (by kernel_rfl), Eq.trans (by kernel_rfl) ek, rfl, trivial⟩ ⟨by kernel_rfl, (by decide : (0 : Nat) < 10), (by kernel_rfl), by kernel_rfl, (by decide : (1 : Nat) < 10), okE_entsG (fun _ => rfl) _, Eq.trans (by kernel_rfl) e2, (by decide : (2 : Nat) < 10), rfl, by kernel_rfl, (by decide : (8 : Nat) < 10), (by kernel_rfl), Eq.trans (by kernel_rfl) e4, (by decide : (9 : Nat) < 10), sp_ok _ _, trivial⟩) (hloO.mono (show 9 ≤ 10 by decide))⟩
                    · rw [hok] at hnx
                      exact ACode.vcM (.br 31 true <| .cells (cMj m.id 3 m.room m.other m.lo m.hi m.long) <| .draw 3 <| .val 37 (.int .i64 ((2 ^ i : Nat) : Int)) [] <| .br 39 false <| .draw 20 <| .val 43 (.cptr (kdL ++ [encCs crs])) [] <| .val 44 (.cptr ((kdL ++ [encCs crs]).drop 12)) [] <| .val 45 (.cptr ((kdL ++ [encCs crs]).drop 15)) [] <| .val 46 (kdF 88) [] <| .val 53 (.vptr 21 (0 + 2 * (mrk m).room)) [] <| .val 54 (encTm (c.2 room (mrk m).room)) [] <| .val 57 (.vptr 21 (0 + 2 * (mrk m).other)) [] <| .val 58 (encTm (c.2 room (mrk m).other)) [] <| .call (encSp SY) <| .call (encSp (winM s.fin (c.2 room) (s.marks.take (i + 1)) set)) <| .br 65 false .nil) hn hlo (.roundW .cl) ⟨ltLen hlti, ⟨hmi2.1, hmi2.2.trans (eM 3 hj)⟩, by kernel_rfl, mixed, by kernel_rfl, Eq.trans (by kernel_rfl) sh, by kernel_rfl, hb0, by kernel_rfl, mixed, by kernel_rfl, by kernel_rfl, by kernel_rfl, by kernel_rfl, by kernel_rfl, Eq.trans (by kernel_rfl) x1, Eq.trans (by kernel_rfl) l1, Eq.trans (by kernel_rfl) x2, Eq.trans (by kernel_rfl) l2, sy, by kernel_rfl, ov, hnx, i + 1, ⟨hlti, hok⟩, mu1 hlti,
                        Wk.le (St.le.of ⟨by kernel_rfl, (by kernel_rfl), by kernel_rfl, (by kernel_rfl), by kernel_rfl, (by kernel_rfl), by kernel_rfl, (by kernel_rfl), by kernel_rfl, (by kernel_rfl), by kernel_rfl, (by kernel_rfl), by kernel_rfl, (by kernel_rfl), by kernel_rfl, (by kernel_rfl), by kernel_rfl, (by kernel_rfl), by kernel_rfl, (by kernel_rfl), by kernel_rfl, (by kernel_rfl), by kernel_rfl, (by kernel_rfl), Eq.trans (by kernel_rfl) ei, rfl, trivial⟩ ⟨by kernel_rfl, (by decide : (0 : Nat) < 22), (by kernel_rfl), by kernel_rfl, (by decide : (1 : Nat) < 22), okE_entsG (fun _ => rfl) _, by kernel_rfl, (by decide : (2 : Nat) < 22), rfl, by kernel_rfl, (by decide : (8 : Nat) < 22), (by kernel_rfl), by kernel_rfl, (by decide : (9 : Nat) < 22), sp_ok _ _, by kernel_rfl, (by decide : (10 : Nat) < 22), (by kernel_rfl), by kernel_rfl, (by decide : (20 : Nat) < 22), rfl, by kernel_rfl, (by decide : (21 : Nat) < 22), (by kernel_rfl), trivial⟩) (hlo.mono (show 9 ≤ 22 by decide))⟩
                  refine Or.elim sayC (fun hsy => ?_) (fun sayC => ?_)
                  · have hj := hsy.1
                    have sy := hsy.2
                    refine (Bool.eq_false_or_eq_true (okW (winM s.fin (c.2 room) (s.marks.take (i + 1)) set))).symm.elim (fun hok => ?_) (fun hok => ?_)
                    · rw [hok] at hnx
                      have hbad := win_bad hok
                      have es : spT s (crs.take (k + 1)) room set = spT s (crs.take k) room set := spT_no hck (by unfold trC; rw [hbad]; rfl)
                      have e2 : some (AObj.cells [.rsl 9 0 (spT s (crs.take k) room set).length 2]) = some (.cells [.rsl 9 0 (spT s (crs.take (k + 1)) room set).length 2]) := by rw [es]
                      have e4 : some (AObj.cells (fl cSp (spT s (crs.take k) room set))) = some (.cells (fl cSp (spT s (crs.take (k + 1)) room set))) := by rw [es]
                      exact ACode.vcM (.br 31 true <| .cells (cMj m.id 4 m.room m.other m.lo m.hi m.long) <| .draw 3 <| .val 37 (.int .i64 ((2 ^ i : Nat) : Int)) [] <| .br 39 false <| .draw 20 <| .val 43 (.cptr (kdL ++ [encCs crs])) [] <| .val 44 (.cptr ((kdL ++ [encCs crs]).drop 16)) [] <| .val 45 (.cptr ((kdL ++ [encCs crs]).drop 19)) [] <| .val 46 (kdF 90) [] <| .val 53 (.vptr 21 (0 + 2 * (mrk m).room)) [] <| .val 54 (encTm (c.2 room (mrk m).room)) [] <| .val 57 (.vptr 21 (0 + 2 * (mrk m).other)) [] <| .val 58 (encTm (c.2 room (mrk m).other)) [] <| .call (encSp SY) <| .call (encSp (winM s.fin (c.2 room) (s.marks.take (i + 1)) set)) <| .br 65 true .nil) hn hlo (.roundW .cl) ⟨ltLen hlti, ⟨hmi2.1, hmi2.2.trans (eM 4 hj)⟩, by kernel_rfl, mixed, by kernel_rfl, Eq.trans (by kernel_rfl) sh, by kernel_rfl, hb0, by kernel_rfl, mixed, by kernel_rfl, by kernel_rfl, by kernel_rfl, by kernel_rfl, by kernel_rfl, Eq.trans (by kernel_rfl) x1, Eq.trans (by kernel_rfl) l1, Eq.trans (by kernel_rfl) x2, Eq.trans (by kernel_rfl) l2, sy, by kernel_rfl, ov, hnx, _, .refl _, .nil, k + 1, hlt, mu1 hlt, Wk.le (St.le.of ⟨by kernel_rfl, (by kernel_rfl), by kernel_rfl, (by kernel_rfl), by kernel_rfl, (by kernel_rfl), by kernel_rfl, (by kernel_rfl), by kernel_rfl, (by kernel_rfl), by kernel_rfl, (by kernel_rfl), Eq.trans (by kernel_rfl) ek, rfl, trivial⟩ ⟨by kernel_rfl, (by decide : (0 : Nat) < 10), (by kernel_rfl), by kernel_rfl, (by decide : (1 : Nat) < 10), okE_entsG (fun _ => rfl) _, Eq.trans (by kernel_rfl) e2, (by decide : (2 : Nat) < 10), rfl, by kernel_rfl, (by decide : (8 : Nat) < 10), (by kernel_rfl), Eq.trans (by kernel_rfl) e4, (by decide : (9 : Nat) < 10), sp_ok _ _, trivial⟩) (hloO.mono (show 9 ≤ 10 by decide))⟩
                    · rw [hok] at hnx
                      exact ACode.vcM (.br 31 true <| .cells (cMj m.id 4 m.room m.other m.lo m.hi m.long) <| .draw 3 <| .val 37 (.int .i64 ((2 ^ i : Nat) : Int)) [] <| .br 39 false <| .draw 20 <| .val 43 (.cptr (kdL ++ [encCs crs])) [] <| .val 44 (.cptr ((kdL ++ [encCs crs]).drop 16)) [] <| .val 45 (.cptr ((kdL ++ [encCs crs]).drop 19)) [] <| .val 46 (kdF 90) [] <| .val 53 (.vptr 21 (0 + 2 * (mrk m).room)) [] <| .val 54 (encTm (c.2 room (mrk m).room)) [] <| .val 57 (.vptr 21 (0 + 2 * (mrk m).other)) [] <| .val 58 (encTm (c.2 room (mrk m).other)) [] <| .call (encSp SY) <| .call (encSp (winM s.fin (c.2 room) (s.marks.take (i + 1)) set)) <| .br 65 false .nil) hn hlo (.roundW .cl) ⟨ltLen hlti, ⟨hmi2.1, hmi2.2.trans (eM 4 hj)⟩, by kernel_rfl, mixed, by kernel_rfl, Eq.trans (by kernel_rfl) sh, by kernel_rfl, hb0, by kernel_rfl, mixed, by kernel_rfl, by kernel_rfl, by kernel_rfl, by kernel_rfl, by kernel_rfl, Eq.trans (by kernel_rfl) x1, Eq.trans (by kernel_rfl) l1, Eq.trans (by kernel_rfl) x2, Eq.trans (by kernel_rfl) l2, sy, by kernel_rfl, ov, hnx, i + 1, ⟨hlti, hok⟩, mu1 hlti,
                        Wk.le (St.le.of ⟨by kernel_rfl, (by kernel_rfl), by kernel_rfl, (by kernel_rfl), by kernel_rfl, (by kernel_rfl), by kernel_rfl, (by kernel_rfl), by kernel_rfl, (by kernel_rfl), by kernel_rfl, (by kernel_rfl), by kernel_rfl, (by kernel_rfl), by kernel_rfl, (by kernel_rfl), by kernel_rfl, (by kernel_rfl), by kernel_rfl, (by kernel_rfl), by kernel_rfl, (by kernel_rfl), by kernel_rfl, (by kernel_rfl), Eq.trans (by kernel_rfl) ei, rfl, trivial⟩ ⟨by kernel_rfl, (by decide : (0 : Nat) < 22), (by kernel_rfl), by kernel_rfl, (by decide : (1 : Nat) < 22), okE_entsG (fun _ => rfl) _, by kernel_rfl, (by decide : (2 : Nat) < 22), rfl, by kernel_rfl, (by decide : (8 : Nat) < 22), (by kernel_rfl), by kernel_rfl, (by decide : (9 : Nat) < 22), sp_ok _ _, by kernel_rfl, (by decide : (10 : Nat) < 22), (by kernel_rfl), by kernel_rfl, (by decide : (20 : Nat) < 22), rfl, by kernel_rfl, (by decide : (21 : Nat) < 22), (by kernel_rfl), trivial⟩) (hlo.mono (show 9 ≤ 22 by decide))⟩
                  refine Or.elim sayC (fun hsy => ?_) (fun sayC => ?_)
                  · have hj := hsy.1
                    have sy := hsy.2
                    refine (Bool.eq_false_or_eq_true (okW (winM s.fin (c.2 room) (s.marks.take (i + 1)) set))).symm.elim (fun hok => ?_) (fun hok => ?_)
                    · rw [hok] at hnx
                      have hbad := win_bad hok
                      have es : spT s (crs.take (k + 1)) room set = spT s (crs.take k) room set := spT_no hck (by unfold trC; rw [hbad]; rfl)
                      have e2 : some (AObj.cells [.rsl 9 0 (spT s (crs.take k) room set).length 2]) = some (.cells [.rsl 9 0 (spT s (crs.take (k + 1)) room set).length 2]) := by rw [es]
                      have e4 : some (AObj.cells (fl cSp (spT s (crs.take k) room set))) = some (.cells (fl cSp (spT s (crs.take (k + 1)) room set))) := by rw [es]
                      exact ACode.vcM (.br 31 true <| .cells (cMj m.id 5 m.room m.other m.lo m.hi m.long) <| .draw 3 <| .val 37 (.int .i64 ((2 ^ i : Nat) : Int)) [] <| .br 39 false <| .draw 20 <| .val 43 (.cptr (kdL ++ [encCs crs])) [] <| .val 44 (.cptr ((kdL ++ [encCs crs]).drop 20)) [] <| .val 45 (.cptr ((kdL ++ [encCs crs]).drop 23)) [] <| .val 46 (kdF 91) [] <| .val 53 (.vptr 21 (0 + 2 * (mrk m).room)) [] <| .val 54 (encTm (c.2 room (mrk m).room)) [] <| .val 57 (.vptr 21 (0 + 2 * (mrk m).other)) [] <| .val 58 (encTm (c.2 room (mrk m).other)) [] <| .call (encSp SY) <| .call (encSp (winM s.fin (c.2 room) (s.marks.take (i + 1)) set)) <| .br 65 true .nil) hn hlo (.roundW .cl) ⟨ltLen hlti, ⟨hmi2.1, hmi2.2.trans (eM 5 hj)⟩, by kernel_rfl, mixed, by kernel_rfl, Eq.trans (by kernel_rfl) sh, by kernel_rfl, hb0, by kernel_rfl, mixed, by kernel_rfl, by kernel_rfl, by kernel_rfl, by kernel_rfl, by kernel_rfl, Eq.trans (by kernel_rfl) x1, Eq.trans (by kernel_rfl) l1, Eq.trans (by kernel_rfl) x2, Eq.trans (by kernel_rfl) l2, sy, by kernel_rfl, ov, hnx, _, .refl _, .nil, k + 1, hlt, mu1 hlt, Wk.le (St.le.of ⟨by kernel_rfl, (by kernel_rfl), by kernel_rfl, (by kernel_rfl), by kernel_rfl, (by kernel_rfl), by kernel_rfl, (by kernel_rfl), by kernel_rfl, (by kernel_rfl), by kernel_rfl, (by kernel_rfl), Eq.trans (by kernel_rfl) ek, rfl, trivial⟩ ⟨by kernel_rfl, (by decide : (0 : Nat) < 10), (by kernel_rfl), by kernel_rfl, (by decide : (1 : Nat) < 10), okE_entsG (fun _ => rfl) _, Eq.trans (by kernel_rfl) e2, (by decide : (2 : Nat) < 10), rfl, by kernel_rfl, (by decide : (8 : Nat) < 10), (by kernel_rfl), Eq.trans (by kernel_rfl) e4, (by decide : (9 : Nat) < 10), sp_ok _ _, trivial⟩) (hloO.mono (show 9 ≤ 10 by decide))⟩
                    · rw [hok] at hnx
                      exact ACode.vcM (.br 31 true <| .cells (cMj m.id 5 m.room m.other m.lo m.hi m.long) <| .draw 3 <| .val 37 (.int .i64 ((2 ^ i : Nat) : Int)) [] <| .br 39 false <| .draw 20 <| .val 43 (.cptr (kdL ++ [encCs crs])) [] <| .val 44 (.cptr ((kdL ++ [encCs crs]).drop 20)) [] <| .val 45 (.cptr ((kdL ++ [encCs crs]).drop 23)) [] <| .val 46 (kdF 91) [] <| .val 53 (.vptr 21 (0 + 2 * (mrk m).room)) [] <| .val 54 (encTm (c.2 room (mrk m).room)) [] <| .val 57 (.vptr 21 (0 + 2 * (mrk m).other)) [] <| .val 58 (encTm (c.2 room (mrk m).other)) [] <| .call (encSp SY) <| .call (encSp (winM s.fin (c.2 room) (s.marks.take (i + 1)) set)) <| .br 65 false .nil) hn hlo (.roundW .cl) ⟨ltLen hlti, ⟨hmi2.1, hmi2.2.trans (eM 5 hj)⟩, by kernel_rfl, mixed, by kernel_rfl, Eq.trans (by kernel_rfl) sh, by kernel_rfl, hb0, by kernel_rfl, mixed, by kernel_rfl, by kernel_rfl, by kernel_rfl, by kernel_rfl, by kernel_rfl, Eq.trans (by kernel_rfl) x1, Eq.trans (by kernel_rfl) l1, Eq.trans (by kernel_rfl) x2, Eq.trans (by kernel_rfl) l2, sy, by kernel_rfl, ov, hnx, i + 1, ⟨hlti, hok⟩, mu1 hlti,
                        Wk.le (St.le.of ⟨by kernel_rfl, (by kernel_rfl), by kernel_rfl, (by kernel_rfl), by kernel_rfl, (by kernel_rfl), by kernel_rfl, (by kernel_rfl), by kernel_rfl, (by kernel_rfl), by kernel_rfl, (by kernel_rfl), by kernel_rfl, (by kernel_rfl), by kernel_rfl, (by kernel_rfl), by kernel_rfl, (by kernel_rfl), by kernel_rfl, (by kernel_rfl), by kernel_rfl, (by kernel_rfl), by kernel_rfl, (by kernel_rfl), Eq.trans (by kernel_rfl) ei, rfl, trivial⟩ ⟨by kernel_rfl, (by decide : (0 : Nat) < 22), (by kernel_rfl), by kernel_rfl, (by decide : (1 : Nat) < 22), okE_entsG (fun _ => rfl) _, by kernel_rfl, (by decide : (2 : Nat) < 22), rfl, by kernel_rfl, (by decide : (8 : Nat) < 22), (by kernel_rfl), by kernel_rfl, (by decide : (9 : Nat) < 22), sp_ok _ _, by kernel_rfl, (by decide : (10 : Nat) < 22), (by kernel_rfl), by kernel_rfl, (by decide : (20 : Nat) < 22), rfl, by kernel_rfl, (by decide : (21 : Nat) < 22), (by kernel_rfl), trivial⟩) (hlo.mono (show 9 ≤ 22 by decide))⟩
                  have hj := sayC.1
                  have sy := sayC.2
                  refine (Bool.eq_false_or_eq_true (okW (winM s.fin (c.2 room) (s.marks.take (i + 1)) set))).symm.elim (fun hok => ?_) (fun hok => ?_)
                  · rw [hok] at hnx
                    have hbad := win_bad hok
                    have es : spT s (crs.take (k + 1)) room set = spT s (crs.take k) room set := spT_no hck (by unfold trC; rw [hbad]; rfl)
                    have e2 : some (AObj.cells [.rsl 9 0 (spT s (crs.take k) room set).length 2]) = some (.cells [.rsl 9 0 (spT s (crs.take (k + 1)) room set).length 2]) := by rw [es]
                    have e4 : some (AObj.cells (fl cSp (spT s (crs.take k) room set))) = some (.cells (fl cSp (spT s (crs.take (k + 1)) room set))) := by rw [es]
                    exact ACode.vcM (.br 31 true <| .cells (cMj m.id 6 m.room m.other m.lo m.hi m.long) <| .draw 3 <| .val 37 (.int .i64 ((2 ^ i : Nat) : Int)) [] <| .br 39 false <| .draw 20 <| .val 43 (.cptr (kdL ++ [encCs crs])) [] <| .val 44 (.cptr ((kdL ++ [encCs crs]).drop 24)) [] <| .val 45 (.cptr ((kdL ++ [encCs crs]).drop 27)) [] <| .val 46 (kdF 92) [] <| .val 53 (.vptr 21 (0 + 2 * (mrk m).room)) [] <| .val 54 (encTm (c.2 room (mrk m).room)) [] <| .val 57 (.vptr 21 (0 + 2 * (mrk m).other)) [] <| .val 58 (encTm (c.2 room (mrk m).other)) [] <| .call (encSp SY) <| .call (encSp (winM s.fin (c.2 room) (s.marks.take (i + 1)) set)) <| .br 65 true .nil) hn hlo (.roundW .cl) ⟨ltLen hlti, ⟨hmi2.1, hmi2.2.trans (eM 6 hj)⟩, by kernel_rfl, mixed, by kernel_rfl, Eq.trans (by kernel_rfl) sh, by kernel_rfl, hb0, by kernel_rfl, mixed, by kernel_rfl, by kernel_rfl, by kernel_rfl, by kernel_rfl, by kernel_rfl, Eq.trans (by kernel_rfl) x1, Eq.trans (by kernel_rfl) l1, Eq.trans (by kernel_rfl) x2, Eq.trans (by kernel_rfl) l2, sy, by kernel_rfl, ov, hnx, _, .refl _, .nil, k + 1, hlt, mu1 hlt, Wk.le (St.le.of ⟨by kernel_rfl, (by kernel_rfl), by kernel_rfl, (by kernel_rfl), by kernel_rfl, (by kernel_rfl), by kernel_rfl, (by kernel_rfl), by kernel_rfl, (by kernel_rfl), by kernel_rfl, (by kernel_rfl), Eq.trans (by kernel_rfl) ek, rfl, trivial⟩ ⟨by kernel_rfl, (by decide : (0 : Nat) < 10), (by kernel_rfl), by kernel_rfl, (by decide : (1 : Nat) < 10), okE_entsG (fun _ => rfl) _, Eq.trans (by kernel_rfl) e2, (by decide : (2 : Nat) < 10), rfl, by kernel_rfl, (by decide : (8 : Nat) < 10), (by kernel_rfl), Eq.trans (by kernel_rfl) e4, (by decide : (9 : Nat) < 10), sp_ok _ _, trivial⟩) (hloO.mono (show 9 ≤ 10 by decide))⟩
                  · rw [hok] at hnx
                    exact ACode.vcM (.br 31 true <| .cells (cMj m.id 6 m.room m.other m.lo m.hi m.long) <| .draw 3 <| .val 37 (.int .i64 ((2 ^ i : Nat) : Int)) [] <| .br 39 false <| .draw 20 <| .val 43 (.cptr (kdL ++ [encCs crs])) [] <| .val 44 (.cptr ((kdL ++ [encCs crs]).drop 24)) [] <| .val 45 (.cptr ((kdL ++ [encCs crs]).drop 27)) [] <| .val 46 (kdF 92) [] <| .val 53 (.vptr 21 (0 + 2 * (mrk m).room)) [] <| .val 54 (encTm (c.2 room (mrk m).room)) [] <| .val 57 (.vptr 21 (0 + 2 * (mrk m).other)) [] <| .val 58 (encTm (c.2 room (mrk m).other)) [] <| .call (encSp SY) <| .call (encSp (winM s.fin (c.2 room) (s.marks.take (i + 1)) set)) <| .br 65 false .nil) hn hlo (.roundW .cl) ⟨ltLen hlti, ⟨hmi2.1, hmi2.2.trans (eM 6 hj)⟩, by kernel_rfl, mixed, by kernel_rfl, Eq.trans (by kernel_rfl) sh, by kernel_rfl, hb0, by kernel_rfl, mixed, by kernel_rfl, by kernel_rfl, by kernel_rfl, by kernel_rfl, by kernel_rfl, Eq.trans (by kernel_rfl) x1, Eq.trans (by kernel_rfl) l1, Eq.trans (by kernel_rfl) x2, Eq.trans (by kernel_rfl) l2, sy, by kernel_rfl, ov, hnx, i + 1, ⟨hlti, hok⟩, mu1 hlti,
                      Wk.le (St.le.of ⟨by kernel_rfl, (by kernel_rfl), by kernel_rfl, (by kernel_rfl), by kernel_rfl, (by kernel_rfl), by kernel_rfl, (by kernel_rfl), by kernel_rfl, (by kernel_rfl), by kernel_rfl, (by kernel_rfl), by kernel_rfl, (by kernel_rfl), by kernel_rfl, (by kernel_rfl), by kernel_rfl, (by kernel_rfl), by kernel_rfl, (by kernel_rfl), by kernel_rfl, (by kernel_rfl), by kernel_rfl, (by kernel_rfl), Eq.trans (by kernel_rfl) ei, rfl, trivial⟩ ⟨by kernel_rfl, (by decide : (0 : Nat) < 22), (by kernel_rfl), by kernel_rfl, (by decide : (1 : Nat) < 22), okE_entsG (fun _ => rfl) _, by kernel_rfl, (by decide : (2 : Nat) < 22), rfl, by kernel_rfl, (by decide : (8 : Nat) < 22), (by kernel_rfl), by kernel_rfl, (by decide : (9 : Nat) < 22), sp_ok _ _, by kernel_rfl, (by decide : (10 : Nat) < 22), (by kernel_rfl), by kernel_rfl, (by decide : (20 : Nat) < 22), rfl, by kernel_rfl, (by decide : (21 : Nat) < 22), (by kernel_rfl), trivial⟩) (hlo.mono (show 9 ≤ 22 by decide))⟩
              · have hik : i = s.marks.length := by omega
                have hfull : s.marks.take i = s.marks := by rw [hik, List.take_length]
                rw [hfull] at hi2
                have eW : some (AObj.cells (cSp (winM s.fin (c.2 room) (s.marks.take i) set))) = some (.cells (cSp (winM s.fin (c.2 room) s.marks set))) := by rw [hfull]
                have es : spT s (crs.take (k + 1)) room set = spT s (crs.take k) room set ++ [winM s.fin (c.2 room) s.marks set] := spT_yes hck (by unfold trC; rw [if_pos hi2])
                have el : (spT s (crs.take (k + 1)) room set).length = (spT s (crs.take k) room set).length + 1 := by rw [es]; simp
                have l70 : some (⟨encSp (winM s.fin (c.2 room) (s.marks.take i) set), []⟩ : Out) = some ⟨encSp (winM s.fin (c.2 room) s.marks set), []⟩ := by rw [hfull]
                have hll := spT_len s (crs.take k) room set
                have ap := app_sp (h := hget [(9, .cells (fl cSp (spT s (crs.take k) room set))), (24, .cells (cSp (winM s.fin (c.2 room) s.marks set)))]) (i := 9) (j := 24) (nid := 25) (l := (spT s (crs.take k) room set)) (x := winM s.fin (c.2 room) s.marks set) rfl rfl (by rw [List.length_take] at hll; omega)
                rw [← es, ← el] at ap
                exact ACode.vcM (.br 31 false .nil) hn hlo (.roundW .cl) ⟨geLen hlti, _, .refl _, .val 69 (encR c.1) [] <| .val 70 (encSp (winM s.fin (c.2 room) s.marks set)) [] <| .val 26 (.rsl 25 0 (spT s (crs.take (k + 1)) room set).length 2) [(9, none), (25, some (.cells (fl cSp (spT s (crs.take (k + 1)) room set))))] .nil, by kernel_rfl, Eq.trans (by kernel_rfl) l70, Eq.trans (by kernel_rfl) ap, k + 1, hlt, mu1 hlt,
                      Wk.renC (c := 9) (b := 25) (St.renC.of rfl (.inl (by decide)) ⟨RV.eq (by kernel_rfl) (by kernel_rfl), RV.eq (by kernel_rfl) (by kernel_rfl), RV.eq (by kernel_rfl) (by kernel_rfl), RV.eq (by kernel_rfl) (by kernel_rfl), RV.eq (by kernel_rfl) (by kernel_rfl), RV.eq (by kernel_rfl) (by kernel_rfl), RV.eq (Eq.trans (by kernel_rfl) ek) rfl, trivial⟩
                        ⟨rvO.same (by decide : (0 : Nat) < 9) (by kernel_rfl) (by kernel_rfl), rvO.same (by decide : (1 : Nat) < 9) (by kernel_rfl) (okE_entsG (fun _ => rfl) _), rvO.turn (by decide : (2 : Nat) < 9) (by kernel_rfl) (show rvL 9 25 [.rsl 9 0 (spT s (crs.take (k + 1)) room set).length 2] [.rsl 25 0 (spT s (crs.take (k + 1)) room set).length 2] from ⟨.rsl, trivial⟩), rvO.same (by decide : (8 : Nat) < 9) (by kernel_rfl) (by kernel_rfl), rvO.new (by kernel_rfl) (sp_ok _ _), trivial⟩) (hloO.mono (show 9 ≤ 9 by decide))⟩
          · have hall' : crs.take k = crs := List.take_of_length_le (by omega)
            have hl3 := spT_len s crs room set
            have jn := joined_spec (spT s crs room set) (by omega) (spT_sm hs crs room set)
            have tw : (((room : Nat) : Int)).toNat = room := Int.toNat_natCast room
            have ef : encSps (joinV [] (pdqS (spT s crs room set))) = tlF s crs set (room : Int) := by unfold tlF tlV; rw [tw]
            rw [ef] at jn
            have tc := fun (h : Nat → Option AObj) (h0 : h 9 = some (.cells (fl cSp (spT s (crs.take k) room set)))) => (show thawL h [.rsl 9 0 (spT s (crs.take k) room set).length 2] = some ([encSps (spT s crs room set)], [9]) by
              rw [hall'] at h0 ⊢
              have e := thaw_fl (enc := cSp) (n := 2) 6 (fun _ => rfl) (fun _ => rfl) h0
              simp only [thawL, mapO, e]; rfl)
            have up := updG (h := hget [(1, .map (entsG (tlF s crs set) (rmL room)))]) (i := 1) (f := tlF s crs set) rfl (rmL_not room)
            rw [← rmL_succ] at up
            exact ACode.vcM (.br 15 false .nil) hn hlo (.roundW .cl) ⟨geLen hlt, _, .refl _, .lent (tlF s crs set (room : Int)) [9] <| .val 0 .undef [(1, some (.map (entsG (tlF s crs set) (rmL (room + 1)))))] .nil, ⟨_, tc _ (by kernel_rfl), .inr jn⟩, Eq.trans (by kernel_rfl) up, room + 1, hroom, mu1 hroom,
              Wk.le (St.le.of ⟨by kernel_rfl, rfl, by kernel_rfl, rfl, by kernel_rfl, rfl, Eq.trans (by kernel_rfl) er, rfl, trivial⟩ ⟨by kernel_rfl, (by decide : (0 : Nat) < 2), (by kernel_rfl), by kernel_rfl, (by decide : (1 : Nat) < 2), okE_entsG (fun _ => rfl) _, trivial⟩) (hloR.mono (show 0 ≤ 2 by decide))⟩
      · have hk' : room = nR s := by omega
        have c14 : decide ((room : Int) < s.rooms) = false := decide_eq_false (by omega)
        have eM : some (AObj.map (entsG (tlF s crs set) (rmL room))) = some (.map (entsG (tlF s crs set) (rmL (nR s)))) := by rw [hk']
        exact ACode.vcM (.br 14 false .nil) hn hlo (.roundW .cl) ⟨c14, _, .refl _, .nil, (), trivial, Wk.le (St.le.of ⟨by kernel_rfl, rfl, trivial⟩ ⟨Eq.trans (by kernel_rfl) eM, (by decide : (1 : Nat) < 2), okE_entsG (fun _ => rfl) _, trivial⟩) (hlo0.mono (show 0 ≤ 2 by decide))⟩
  · refine tail_ok (V := tlV s crs set) (l0 := rmL (nR s)) hn (hlo0.mono (show 0 ≤ 2 by decide)) (rmL_nodup _) ?_
    have th : thaw 8 (hget [(1, AObj.map (entsG (tlF s crs set) ((rmL (nR s)).filter (neL (tlV s crs set)))))]) (.mref 1) = some (.imap (entsG (tlF s crs set) ((rmL (nR s)).filter (neL (tlV s crs set)))), [1]) := thawG (fun _ => rfl) rfl
    exact ACode.vcM .nil hn (hlo0.mono (show 0 ≤ 2 by decide)) clRet ⟨trivial, _, rfl, [1], Eq.trans (by kernel_rfl) th⟩
end Go.Proofs.YtjoagmjijbfjkaaGreatDoor
