import Derived.Test.YtjoagmjijbfjkaaGreatDoorSX
/-
  THE LAYING OF THE SORT OF SPANS.
-/
namespace Go.Proofs.YtjoagmjijbfjkaaGreatDoor
open Go Go.Am Go.Shelf
set_option maxRecDepth 100000
set_option maxHeartbeats 4000000
def XspansR : Ren := ⟨fun n => match n with
  | 6 => 119
  | 15 => 116
  | 14 => 136
  | 28 => 133
  | 29 => 134
  | 20 => 145
  | 21 => 146
  | 22 => 147
  | 23 => 148
  | 24 => 149
  | 25 => 150
  | 26 => 151
  | 27 => 152
  | 46 => 164
  | 47 => 141
  | 48 => 142
  | 49 => 165
  | 50 => 166
  | 57 => 170
  | _ => 0, fun n => match n with
  | 22 => 39
  | 24 => 36
  | 25 => 150
  | 3 => 3
  | 39 => 162
  | 0 => 0
  | 53 => 106
  | 55 => 176
  | 4 => 4
  | 46 => 169
  | 45 => 168
  | 50 => 155
  | 5 => 5
  | 9 => 9
  | 66 => 181
  | 70 => 185
  | 76 => 197
  | 77 => 55
  | _ => 0, fun n => n⟩
theorem XspansL : SlLaysF0.n6 Tryz.prog XspansR :=
  { mixed := mixed,
    f6 := Exists.intro "slices.SortFunc[[]cottonpad/api.Span,cottonpad/api.Span]" ⟨of_decide_eq_true (by kernel_rfl), Eq.trans Tryz.func119 (by kernel_rfl)⟩,
    f15 := Eq.trans Tryz.func116 (by kernel_rfl),
    f14 := Exists.intro "slices.pdqsortCmpFunc[cottonpad/api.Span]" ⟨of_decide_eq_true (by kernel_rfl), Eq.trans Tryz.func136 (by kernel_rfl)⟩,
    f28 := Eq.trans Tryz.func133 (by kernel_rfl),
    f29 := Eq.trans Tryz.func134 (by kernel_rfl),
    f20 := Exists.intro "slices.insertionSortCmpFunc[cottonpad/api.Span]" ⟨of_decide_eq_true (by kernel_rfl), Eq.trans Tryz.func145 (by kernel_rfl)⟩,
    f21 := Exists.intro "slices.heapSortCmpFunc[cottonpad/api.Span]" ⟨of_decide_eq_true (by kernel_rfl), Eq.trans Tryz.func146 (by kernel_rfl)⟩,
    f22 := Exists.intro "slices.breakPatternsCmpFunc[cottonpad/api.Span]" ⟨of_decide_eq_true (by kernel_rfl), Eq.trans Tryz.func147 (by kernel_rfl)⟩,
    f23 := Exists.intro "slices.choosePivotCmpFunc[cottonpad/api.Span]" ⟨of_decide_eq_true (by kernel_rfl), Eq.trans Tryz.func148 (by kernel_rfl)⟩,
    f24 := Exists.intro "slices.reverseRangeCmpFunc[cottonpad/api.Span]" ⟨of_decide_eq_true (by kernel_rfl), Eq.trans Tryz.func149 (by kernel_rfl)⟩,
    f25 := Exists.intro "slices.partialInsertionSortCmpFunc[cottonpad/api.Span]" ⟨of_decide_eq_true (by kernel_rfl), Eq.trans Tryz.func150 (by kernel_rfl)⟩,
    f26 := Exists.intro "slices.partitionEqualCmpFunc[cottonpad/api.Span]" ⟨of_decide_eq_true (by kernel_rfl), Eq.trans Tryz.func151 (by kernel_rfl)⟩,
    f27 := Exists.intro "slices.partitionCmpFunc[cottonpad/api.Span]" ⟨of_decide_eq_true (by kernel_rfl), Eq.trans Tryz.func152 (by kernel_rfl)⟩,
    f46 := Exists.intro "slices.siftDownCmpFunc[cottonpad/api.Span]" ⟨of_decide_eq_true (by kernel_rfl), Eq.trans Tryz.func164 (by kernel_rfl)⟩,
    f47 := Eq.trans Tryz.func141 (by kernel_rfl),
    f48 := Eq.trans Tryz.func142 (by kernel_rfl),
    f49 := Exists.intro "slices.medianAdjacentCmpFunc[cottonpad/api.Span]" ⟨of_decide_eq_true (by kernel_rfl), Eq.trans Tryz.func165 (by kernel_rfl)⟩,
    f50 := Exists.intro "slices.medianCmpFunc[cottonpad/api.Span]" ⟨of_decide_eq_true (by kernel_rfl), Eq.trans Tryz.func166 (by kernel_rfl)⟩,
    f57 := Exists.intro "slices.order2CmpFunc[cottonpad/api.Span]" ⟨of_decide_eq_true (by kernel_rfl), Eq.trans Tryz.func170 (by kernel_rfl)⟩,
    t22 := Tryz.underlying39,
    a22 := Tryz.isAgg39,
    z22 := Tryz.sizeOf39,
    v22 := Tryz.zeroValue39,
    t25 := Tryz.underlying150,
    a25 := Tryz.isAgg150,
    z25 := Tryz.sizeOf150,
    v25 := Tryz.zeroValue150,
    t3 := Tryz.underlying3,
    a3 := Tryz.isAgg3,
    z3 := Tryz.sizeOf3,
    v3 := Tryz.zeroValue3,
    t39 := Tryz.underlying162,
    a39 := Tryz.isAgg162,
    z39 := Tryz.sizeOf162,
    v39 := Tryz.zeroValue162,
    t0 := Tryz.underlying0,
    a0 := Tryz.isAgg0,
    z0 := Tryz.sizeOf0,
    v0 := Tryz.zeroValue0,
    t53 := Tryz.underlying106,
    a53 := Tryz.isAgg106,
    z53 := Tryz.sizeOf106,
    v53 := Tryz.zeroValue106,
    t55 := Tryz.underlying176,
    a55 := Tryz.isAgg176,
    z55 := Tryz.sizeOf176,
    v55 := Tryz.zeroValue176,
    t4 := Tryz.underlying4,
    a4 := Tryz.isAgg4,
    z4 := Tryz.sizeOf4,
    v4 := Tryz.zeroValue4,
    t46 := Tryz.underlying169,
    a46 := Tryz.isAgg169,
    z46 := Tryz.sizeOf169,
    v46 := Tryz.zeroValue169,
    t45 := Tryz.underlying168,
    a45 := Tryz.isAgg168,
    z45 := Tryz.sizeOf168,
    v45 := Tryz.zeroValue168,
    t50 := Tryz.underlying155,
    a50 := Tryz.isAgg155,
    z50 := Tryz.sizeOf155,
    v50 := Tryz.zeroValue155,
    t5 := Tryz.underlying5,
    a5 := Tryz.isAgg5,
    z5 := Tryz.sizeOf5,
    v5 := Tryz.zeroValue5,
    t9 := Tryz.underlying9,
    a9 := Tryz.isAgg9,
    z9 := Tryz.sizeOf9,
    v9 := Tryz.zeroValue9,
    t66 := Tryz.underlying181,
    a66 := Tryz.isAgg181,
    z66 := Tryz.sizeOf181,
    v66 := Tryz.zeroValue181,
    t70 := Tryz.underlying185,
    a70 := Tryz.isAgg185,
    z70 := Tryz.sizeOf185,
    v70 := Tryz.zeroValue185,
    t76 := Tryz.underlying197,
    a76 := Tryz.isAgg197,
    z76 := Tryz.sizeOf197,
    v76 := Tryz.zeroValue197,
    t77 := Tryz.underlying55,
    a77 := Tryz.isAgg55,
    z77 := Tryz.sizeOf55,
    v77 := Tryz.zeroValue55 }
end Go.Proofs.YtjoagmjijbfjkaaGreatDoor
/-
  THE SORT OF SPANS.
-/
namespace Go.Proofs.YtjoagmjijbfjkaaGreatDoor
open Go Go.Am Go.Shelf Go.RowKit Go.Lib Go.Sort
set_option maxRecDepth 100000
set_option maxHeartbeats 4000000
theorem byLo_calls (x y : Spn) (W : World) : Calls Tryz.prog 104 #[.agg #[.int .i64 x.1, .int .i64 x.2], .agg #[.int .i64 y.1, .int .i64 y.2]] W fun e w' => e = .returned (.int .i64 (Lib.compareInt x.1 y.1)) ∧ ∃ q os', w' = grow (W.drewN q) os' := by
  have hcon := fun W' => AnyG.cmp_Compare_int XcmpL x.1 y.1 W'
  change ∀ W', Calls Tryz.prog 105 _ _ _ at hcon
  generalize Lib.compareInt x.1 y.1 = r at hcon ⊢
  go_enter Tryz.func104, Tryz.ntmps104
  go_wp2_with (go_at_call 105; refine (hcon _).mono ?_; rintro e w' ⟨rfl, rfl⟩)
  go_ret
  exact ⟨rfl, 0, _, by rw [alloc_eq_grow, alloc_eq_grow, grow_grow]; rfl⟩
theorem uniq_span : ∀ f, Tryz.prog.funcs[f]? = some Tryz.f119 → f = 119 := by
  intro f hf
  have hu : ((List.range Tryz.prog.funcs.size).all fun i => i == 119 || !((Tryz.prog.funcs[i]?).map (·.name) == some Tryz.f119.name)) = true := by kernel_rfl
  have hlt : f < Tryz.prog.funcs.size := by
    rcases Nat.lt_or_ge f Tryz.prog.funcs.size with h | h
    · exact h
    · rw [Array.getElem?_eq_none h] at hf; cases hf
  have := List.all_eq_true.1 hu f (List.mem_range.2 hlt)
  rw [hf] at this
  simpa using this
theorem SortSp_mut (S : List Spn) {N : Nat} (hN : N = S.length) (h0 : 0 < N) (hs : N ≤ 1000) : AMut Tryz.prog Tryz.f119 N 2 [.fn (.func 104) [] []] (fl cSp S) .undef (SpQ S) := by
  rw [fl_nums]
  refine sorted_mut uniq_span (by rw [nums_len, hN]) (by rw [nums_len]; omega) fun w blk cap hH hblk => ?_
  have eg : ∀ args w, (callFunc 104 args).run Tryz.prog w = .ok (.enter 104 args) w := enters_of Tryz.func104 (by kernel_rfl) rfl
  have hHK : HoldsK encIv 2 w blk 0 S.toArray := fun j hj => by
    have hj2 : j < S.length * 2 := by simpa using hj
    have := hH j (by simpa [nums_len] using hj2)
    refine ⟨?_, this.2⟩
    rw [this.1]
    exact congrArg some (flat_iv S j hj2).symm
  have hsz : S.toArray.size = S.length := by simp
  have hcon := AnyQ.slices_SortFunc_eq XspansL 2 Tryz.isAgg36 Tryz.sizeOf36 encIv (fun _ => rfl) (fun x v hv => by simp [encIv] at hv; rcases hv with rfl | rfl <;> rfl) (fun x y => Lib.compareInt x.1 y.1) swoLo 104 #[] blk 0 cap S.toArray w eg (fun _ _ _ _ x y => byLo_calls x y _) hHK hblk (by rw [hsz]; omega)
  rw [hsz] at hcon
  rw [hN]
  refine hcon.mono ?_
  rintro e w' ⟨rfl, n, os, rfl⟩
  have hl2 : (pdqS S).length = S.length := (pdqS_facts S).1.length_eq
  refine ⟨rfl, numsS (pdqS S), n, os, by rw [nums_len, nums_len, hl2], (fl_nums _).symm, ?_⟩
  unfold sortWorldK
  have := put_iv (Sort.ahead w n) blk (pdqS S)
  unfold pdqS at this ⊢
  rw [Array.toArray_toList] at this
  rw [this]
end Go.Proofs.YtjoagmjijbfjkaaGreatDoor
/-
  SPANS JOINED.
-/
namespace Go.Proofs.YtjoagmjijbfjkaaGreatDoor
open Go Go.Am
set_option maxRecDepth 100000
set_option maxHeartbeats 4000000
theorem sp_ok (n : Nat) (l : List Spn) : okL n (fl cSp l) = true := fl_ok (enc := cSp) (fun _ => rfl) l
theorem sp_len (l : List Spn) : (fl cSp l).length = l.length * 2 := fl_len (enc := cSp) (n := 2) (fun _ => rfl) l
theorem sp_flat (l : List Spn) : ∀ c ∈ fl cSp l, c.flat = true := by
  intro c hc
  obtain ⟨x, _, hx⟩ := List.mem_flatMap.1 hc
  simp [cSp] at hx
  rcases hx with rfl | rfl <;> rfl
theorem thawF_sp (d : Nat) {h : Nat → Option AObj} {id : Nat} {l : List Spn} (h0 : h id = some (.cells (fl cSp l))) : thawF (d + 2) h (.rsl id 0 l.length 2) = some (encSps l, [id]) := by
  have e : thawF (d + 2) h (.rsl id 0 l.length 2) = (match h id with
      | some (.cells cs) => if 0 + l.length * 2 ≤ cs.length then (match mapO (thawF (d + 1) h) cs with | some (cs', is) => some (.lst 2 (chunks 2 (cs'.drop 0) l.length), id :: is) | none => none) else none
      | _ => none) := rfl
  rw [e, h0]
  simp only []
  rw [if_pos (by rw [sp_len]; omega), thawF_all d h _ (sp_flat l)]
  simp only [List.drop_zero]
  unfold encSps
  rw [fl_chunks (enc := cSp) (n := 2) (fun _ => rfl)]
/-- One span more. -/
theorem app_sp {h : Nat → Option AObj} {i j nid : Nat} {l : List Spn} {x : Spn} (h0 : h i = some (.cells (fl cSp l))) (h1 : h j = some (.cells (cSp x))) (hl : l.length ≤ 100000) :
    aAppend Tryz.prog h nid 39 39 (.rsl i 0 l.length 2) (.rsl j 0 1 2) = some ⟨.rsl nid 0 (l.length + 1) 2, [(i, none), (nid, some (.cells (fl cSp (l ++ [x]))))]⟩ := by
  have e : fl cSp (l ++ [x]) = fl cSp l ++ cSp x := by unfold fl; simp
  have hlen := sp_len l
  rw [app_exact h0 (by rw [hlen]; omega), e]
  simp only [aAppend0, ty39, ty36, srcCells, h0, h1]
  simp [hlen, cSp, cellB]
  omega
theorem values_spec (l : List Spn) : APure Tryz.prog 107 [encSps l] (.fn (.func 120) [] [.cptr [encSps l]]) :=
  APure.vcM Tryz.func107 .nil rfl rfl ⟨[0], by kernel_rfl⟩
noncomputable def asgQ : Code := rfA Tryz.f135
noncomputable def bodQ : Code := rfB Tryz.f135
abbrev byLo : AV := .fn (.func 104) [] []
/-- Sorted, of whatever spans. -/
theorem SortedFunc_pos (l : List Spn) (hl : l.length ≤ 1000) (hl0 : 0 < l.length) : APureF Tryz.prog 106 [.fn (.func 120) [] [.cptr [encSps l]], byLo] (encSps (pdqS l)) := by
  have hp := (pdqS_facts l).1.length_eq
  refine APureF.vcM Tryz.func106 (.inl Tryz.f118 <| .inl Tryz.f135 <| .inl Tryz.f120 .loop) rfl rfl
    ⟨Tryz.func118, Tryz.func135, Tryz.func120, ?_⟩
  intro g hn hlo
  replace hn : g.n = 16 := hn
  replace hlo : g.low 2 := hlo
  refine acode_whileW (fun k : Nat => ⟨[(0, .yld 1), (1, .cptr [encSps l]), (5, encSps l), (6, .int .i64 (l.map cSp).length), (7, .int .i64 k)], [(0, .cells [.rsl 2 0 (l.take k).length 2]), (1, .loop ⟨.ready, none, 13, [(2, .vptr 0 0)], #[7], asgQ, bodQ⟩), (2, .cells (fl cSp (l.take k)))], 3⟩) (fun k => k ≤ l.length) (fun k => l.length - k) 0 (Nat.zero_le _) ?_ ?_
  · refine Wk.trans (Wk.le ?_ (hlo.mono (show 2 ≤ 3 by decide))) (Wk.trans (Wk.ownC (S := ⟨[(0, .yld 1), (1, .cptr [encSps l]), (5, encSps l), (6, .int .i64 (l.map cSp).length), (7, .int .i64 ((0 : Nat) : Int))], [(0, .cells [.nil]), (1, .loop ⟨.ready, none, 13, [(2, .vptr 0 0)], #[7], asgQ, bodQ⟩)], 2⟩) 0 0 2 (cs := [.nil]) rfl rfl) (Wk.trans (Wk.le (S' := ⟨[(0, .yld 1), (1, .cptr [encSps l]), (5, encSps l), (6, .int .i64 (l.map cSp).length), (7, .int .i64 ((0 : Nat) : Int))], [(0, .cells [.nil]), (1, .loop ⟨.ready, none, 13, [(2, .vptr 0 0)], #[7], asgQ, bodQ⟩)], 2⟩) ?_ (hlo.mono (show 2 ≤ 2 by decide))) (Wk.loopEnv (id := 1) (n := 2) [(2, .vptr 0 0)] rfl ⟨rfl, rfl, trivial⟩)))
    · exact St.le.of ⟨by kernel_rfl, rfl, by kernel_rfl, rfl, by kernel_rfl, rfl, by kernel_rfl, rfl, by kernel_rfl, rfl, trivial⟩ ⟨by kernel_rfl, (by decide : (0 : Nat) < 3), rfl, by kernel_rfl, (by decide : (1 : Nat) < 3), (by kernel_rfl), by kernel_rfl, (by decide : (2 : Nat) < 3), rfl, trivial⟩
    · exact St.le.of ⟨by kernel_rfl, rfl, by kernel_rfl, rfl, by kernel_rfl, rfl, by kernel_rfl, rfl, by kernel_rfl, rfl, trivial⟩ ⟨by kernel_rfl, (by decide : (0 : Nat) < 2), rfl, by kernel_rfl, (by decide : (1 : Nat) < 2), (by kernel_rfl), trivial⟩
  · intro k hk
    replace hk : k ≤ l.length := hk
    by_cases hlt : k < l.length
    · refine Exists.elim (getE hlt) fun x hx => ?_
      have ek := congrArg (AV.int .i64) (succ64 (k := k) (by omega))
      have es := take_snoc hx
      have el : (l.take (k + 1)).length = (l.take k).length + 1 := by rw [es]; simp
      have ap := app_sp (h := hget [(2, .cells (fl cSp (l.take k))), (7, .cells (cSp x))]) (i := 2) (j := 7) (nid := 8) (l := l.take k) (x := x) rfl rfl (by rw [List.length_take]; omega)
      rw [← es, ← el] at ap
      exact ACode.vcM (.br 8 true <| .cells (cSp x) <| .val 11 (.yld 1) [] <| .val 11 (.rsl 8 0 (l.take (k + 1)).length 2) [(2, none), (8, some (.cells (fl cSp (l.take (k + 1)))))] .nil) hn hlo (.roundW .cl) ⟨ltLen hlt, idx hx, by kernel_rfl, Eq.trans (by kernel_rfl) ap, k + 1, hlt, mu1 hlt,
        Wk.renC (c := 2) (b := 8) (St.renC.of rfl (.inl (by decide)) ⟨RV.eq (by kernel_rfl) rfl, RV.eq (by kernel_rfl) rfl, RV.eq (by kernel_rfl) rfl, RV.eq (by kernel_rfl) rfl, RV.eq (Eq.trans (by kernel_rfl) ek) rfl, trivial⟩
          ⟨rvO.turn (by decide : (0 : Nat) < 2) (by kernel_rfl) (show rvL 2 8 [.rsl 2 0 (l.take (k + 1)).length 2] [.rsl 8 0 (l.take (k + 1)).length 2] from ⟨.rsl, trivial⟩), rvO.same (by decide : (1 : Nat) < 2) (by kernel_rfl) (by kernel_rfl), rvO.new (by kernel_rfl) (sp_ok _ _), trivial⟩) (hlo.mono (show 2 ≤ 2 by decide))⟩
    · have hall : l.take k = l := List.take_of_length_le (by omega)
      have mutC : AMut Tryz.prog Tryz.f119 (l.take k).length 2 [byLo] (fl cSp (l.take k)) .undef (SpQ l) := by rw [hall]; exact SortSp_mut l rfl hl0 hl
      have th := fun (cs' : List AV) (hQ : SpQ l cs') (h : Nat → Option AObj) (hh : h 2 = some (.cells cs')) => (show thawF 8 h (.rsl 2 0 (l.take k).length 2) = some (encSps (pdqS l), [2]) by
        rw [show cs' = fl cSp (pdqS l) from hQ] at hh
        have := thawF_sp 6 hh
        rw [hp] at this
        rw [hall]; exact this)
      exact ACode.vcM (.br 8 false .nil) hn hlo (.roundW .cl) ⟨geLen hlt, _, .refl _, .inl Tryz.f119 <| .nz .nil, Tryz.func119,
        AMut.use (id := 2) mutC rfl rfl (sp_ok 0 _) (fun _ h => (show _ = fl cSp _ from h) ▸ sp_ok 0 _) (by kernel_rfl) fun cs' hQ => ⟨[2], th cs' hQ _ (by kernel_rfl)⟩⟩
theorem SortedNil_spec : APureF Tryz.prog 106 [.fn (.func 120) [] [.cptr [encSps []]], byLo] (encSps (pdqS [])) := by
  have e : pdqS [] = [] := List.eq_nil_of_length_eq_zero ((pdqS_facts []).1.length_eq)
  rw [e]
  exact APure.toF (r := .nil) (APure.run 60 8 (by kernel_rfl)) fun h => by cases h; exact VRel.nilLst (n := 2) VR.nil
theorem SortedFunc_spec (l : List Spn) (hl : l.length ≤ 1000) : APureF Tryz.prog 106 [.fn (.func 120) [] [.cptr [encSps l]], byLo] (encSps (pdqS l)) := by
  by_cases h : 0 < l.length
  · exact SortedFunc_pos l hl h
  · have e : l = [] := List.eq_nil_of_length_eq_zero (by omega)
    rw [e]; exact SortedNil_spec
/-! ### joined -/
theorem nxtJ_nil (s : Spn) : nxtJ [] s = [s] := rfl
theorem nxtJ_app {acc : List Spn} {t s : Spn} (h : acc.getLast? = some t) : nxtJ acc s = if s.1 ≤ t.2 + 1 then acc.dropLast ++ [(t.1, max t.2 s.2)] else acc ++ [s] := by
  unfold nxtJ; rw [h]
theorem joinV_take {M : List Spn} {k : Nat} {x : Spn} (h : M[k]? = some x) : joinV [] (M.take (k + 1)) = nxtJ (joinV [] (M.take k)) x := by
  have key : ∀ (l : List Spn) (acc : List Spn), joinV acc (l ++ [x]) = nxtJ (joinV acc l) x := by
    intro l
    induction l with
    | nil => intro acc; rfl
    | cons a l ih => intro acc; exact ih (nxtJ acc a)
  rw [take_snoc h, key]
theorem joinV_len (M : List Spn) : ∀ acc, (joinV acc M).length ≤ acc.length + M.length := by
  induction M with
  | nil => intro acc; exact Nat.le_refl _
  | cons s M ih =>
    intro acc
    have h := ih (nxtJ acc s)
    have h2 : (nxtJ acc s).length ≤ acc.length + 1 := by
      unfold nxtJ
      split
      · simp
      · split
        · rw [List.length_append, List.length_dropLast]; simp
        · rw [List.length_append]; simp
    rw [joinV_cons, List.length_cons]; omega
/-- The last one's end is another one. -/
theorem fl_last {acc : List Spn} {t : Spn} (h : acc.getLast? = some t) (n : Int) : (fl cSp acc).set ((acc.length - 1) * 2 + 1) (.int .i64 n) = fl cSp (acc.dropLast ++ [(t.1, n)]) := by
  obtain ⟨ys, rfl⟩ := List.getLast?_eq_some_iff.1 h
  rw [List.dropLast_concat, List.length_append]
  have e1 : fl cSp (ys ++ [t]) = fl cSp ys ++ cSp t := by unfold fl; simp
  have e2 : fl cSp (ys ++ [(t.1, n)]) = fl cSp ys ++ cSp (t.1, n) := by unfold fl; simp
  have hl : (fl cSp ys).length = ys.length * 2 := sp_len ys
  rw [e1, e2, List.set_append_right _ _ (by rw [hl]; simp only [List.length_cons, List.length_nil]; omega), hl]
  have e3 : (ys.length + [t].length - 1) * 2 + 1 - ys.length * 2 = 1 := by simp only [List.length_cons, List.length_nil]; omega
  rw [e3]; rfl
theorem fl_hi {acc : List Spn} {t : Spn} (h : acc.getLast? = some t) : ∃ r, (fl cSp acc).drop ((acc.length - 1) * 2 + 1) = .int .i64 t.2 :: r := by
  obtain ⟨ys, rfl⟩ := List.getLast?_eq_some_iff.1 h
  rw [List.length_append]
  have e1 : fl cSp (ys ++ [t]) = fl cSp ys ++ cSp t := by unfold fl; simp
  have hl : (fl cSp ys).length = ys.length * 2 := sp_len ys
  have e3 : (ys.length + [t].length - 1) * 2 + 1 = (fl cSp ys).length + 1 := by rw [hl]; simp only [List.length_cons, List.length_nil]; omega
  rw [e1, e3, List.drop_append]
  refine ⟨[], ?_⟩
  rw [List.drop_of_length_le (by omega), show (fl cSp ys).length + 1 - (fl cSp ys).length = 1 by omega]; rfl
theorem ixSp {h : Nat → Option AObj} {id n k : Nat} {i : Int} (hi : i = (k : Int)) (hk : k < n) : (aindexAddr Tryz.prog h 39 (.rsl id 0 n 2) (.int .i64 i)).map (fun v => (⟨v, []⟩ : Out)) = some ⟨.vptr id (k * 2), []⟩ := by
  subst hi
  simp only [aindexAddr, ty39, ty36]
  rw [if_pos ⟨trivial, Int.natCast_nonneg _, by simpa using hk⟩]
  simp
theorem ldHi {h : Nat → Option AObj} {id : Nat} {acc : List Spn} {t : Spn} (h0 : h id = some (.cells (fl cSp acc))) (ht : acc.getLast? = some t) : aLoad Tryz.prog h 3 (.vptr id ((acc.length - 1) * 2 + 1)) = some ⟨.int .i64 t.2, []⟩ := by
  obtain ⟨r, e⟩ := fl_hi ht
  simp only [aLoad, ty3, h0, e, aread]
  rfl
theorem stHi {h : Nat → Option AObj} {id : Nat} {acc : List Spn} {t : Spn} {n : Int} (h0 : h id = some (.cells (fl cSp acc))) (ht : acc.getLast? = some t) :
    aStore Tryz.prog h 3 (.vptr id ((acc.length - 1) * 2 + 1)) (.int .i64 n) = some ⟨.undef, [(id, some (.cells (fl cSp (acc.dropLast ++ [(t.1, n)]))))]⟩ := by
  have e : splice (fl cSp acc) ((acc.length - 1) * 2 + 1) [.int .i64 n] = fl cSp (acc.dropLast ++ [(t.1, n)]) := fl_last ht n
  have hpos : 0 < acc.length := by
    cases acc with
    | nil => cases ht
    | cons a l => exact Nat.succ_pos _
  have hl : (acc.length - 1) * 2 + 1 + 1 ≤ (fl cSp acc).length := by rw [sp_len]; omega
  simp only [aStore, ty3, acells, h0]
  rw [if_pos ⟨rfl, hl, rfl⟩, e]
/-- Spans that are not great. -/
def smS (l : List Spn) : Prop := ∀ x ∈ l, -1000000 ≤ x.1 ∧ x.1 ≤ 1000000 ∧ -1000000 ≤ x.2 ∧ x.2 ≤ 1000000
theorem joined_spec (l : List Spn) (hl : l.length ≤ 1000) (hsm : smS l) : APureF Tryz.prog 73 [encSps l] (encSps (joinV [] (pdqS l))) := by
  obtain ⟨hpm, _⟩ := pdqS_facts l
  have hMl : (pdqS l).length ≤ 1000 := by rw [hpm.length_eq]; exact hl
  have hMs : smS (pdqS l) := fun x hx => hsm x (hpm.mem_iff.1 hx)
  have v := values_spec l
  have sf := (SortedFunc_spec l hl).pure
  generalize pdqS l = M at *
  have hjs : ∀ k, smS (joinV [] (M.take k)) := by
    have key : ∀ (L acc : List Spn), smS acc → smS L → smS (joinV acc L) := by
      intro L
      induction L with
      | nil => intro acc h _; exact h
      | cons s L ih =>
        intro acc h hL
        refine ih (nxtJ acc s) ?_ (fun x hx => hL x (List.mem_cons_of_mem _ hx))
        have hs := hL s List.mem_cons_self
        intro x hx
        unfold nxtJ at hx
        split at hx
        · rw [List.mem_singleton] at hx; subst hx; exact hs
        · rename_i t ht
          have htm := h t (List.mem_of_getLast? ht)
          split at hx
          · rcases List.mem_append.1 hx with hx | hx
            · exact h x (List.dropLast_subset _ hx)
            · rw [List.mem_singleton] at hx; subst hx
              have h1 := htm; have h2 := hs
              refine ⟨h1.1, h1.2.1, ?_, ?_⟩
              · show -1000000 ≤ max t.2 s.2; omega
              · show max t.2 s.2 ≤ 1000000; omega
          · rcases List.mem_append.1 hx with hx | hx
            · exact h x hx
            · rw [List.mem_singleton] at hx; subst hx; exact hs
    exact fun k => key _ [] (fun x hx => by cases hx) (fun x hx => hMs x (List.mem_of_mem_take hx))
  refine APureF.vcM Tryz.func73 (.call (.fn (.func 120) [] [.cptr [encSps l]]) <| .call (encSps M) .loop) rfl rfl ⟨v, sf, ?_⟩
  intro g hn hlo
  replace hn : g.n = 51 := hn
  replace hlo : g.low 0 := hlo
  refine acode_whileW (fun k : Nat => ⟨[(3, .rsl 0 0 (joinV [] (M.take k)).length 2), (11, encSps M), (12, .int .i64 (M.map cSp).length), (13, .int .i64 k)], [(0, .cells (fl cSp (joinV [] (M.take k))))], 1⟩) (fun k => k ≤ M.length) (fun k => M.length - k) 0 (Nat.zero_le _) ?_ ?_
  · refine Wk.trans (Wk.le ?_ (hlo.mono (show 0 ≤ 1 by decide))) (Wk.own 3 2 (by kernel_rfl))
    exact St.le.of ⟨by kernel_rfl, rfl, by kernel_rfl, rfl, by kernel_rfl, rfl, by kernel_rfl, rfl, trivial⟩ ⟨by kernel_rfl, (by decide : (0 : Nat) < 1), rfl, trivial⟩
  · intro k hk
    replace hk : k ≤ M.length := hk
    by_cases hlt : k < M.length
    · refine Exists.elim (getE hlt) fun x hx => ?_
      have ek := congrArg (AV.int .i64) (succ64 (k := k) (by omega))
      have ej := joinV_take hx
      have hsx := hMs x (List.mem_of_getElem? hx)
      have hsa := hjs k
      have hal : (joinV [] (M.take k)).length ≤ 1000 := by have := joinV_len (M.take k) []; rw [List.length_take, List.length_nil] at this; omega
      have eL : ∀ A, joinV [] (M.take (k + 1)) = A → some (AObj.cells (fl cSp A)) = some (.cells (fl cSp (joinV [] (M.take (k + 1))))) ∧ AV.rsl 0 0 A.length 2 = .rsl 0 0 (joinV [] (M.take (k + 1))).length 2 := fun A h => by rw [h]; exact ⟨rfl, rfl⟩
      -- what an append makes of it
      have app := fun (hA : joinV [] (M.take (k + 1)) = joinV [] (M.take k) ++ [x]) => (show aAppend Tryz.prog (hget [(0, .cells (fl cSp (joinV [] (M.take k)))), (16, .cells (cSp x))]) 17 39 39 (.rsl 0 0 (joinV [] (M.take k)).length 2) (.rsl 16 0 1 2) = some ⟨.rsl 17 0 (joinV [] (M.take (k + 1))).length 2, [(0, none), (17, some (.cells (fl cSp (joinV [] (M.take (k + 1))))))]⟩ by
        have ap := app_sp (h := hget [(0, .cells (fl cSp (joinV [] (M.take k)))), (16, .cells (cSp x))]) (i := 0) (j := 16) (nid := 17) (l := joinV [] (M.take k)) (x := x) rfl rfl (by omega)
        rw [hA, List.length_append]; exact ap)
      have ejl := fun (t : Spn) (ht : (joinV [] (M.take k)).getLast? = some t) => ej.trans (nxtJ_app ht)
      have fin := fun (A : joinV [] (M.take (k + 1)) = joinV [] (M.take k) ++ [x]) => app A
      have hnil : joinV [] (M.take k) = [] ∨ ∃ t, (joinV [] (M.take k)).getLast? = some t := by
        cases h : (joinV [] (M.take k)).getLast? with
        | none => exact .inl (List.getLast?_eq_none_iff.1 h)
        | some t => exact .inr ⟨t, rfl⟩
      refine Or.elim hnil (fun h0 => ?_) (fun h1 => ?_)
      · have hA : joinV [] (M.take (k + 1)) = joinV [] (M.take k) ++ [x] := by rw [ej, h0]; rfl
        have ap := fin hA
        have g0 : decide (IntKind.i64.wrap (((joinV [] (M.take k)).length : Int) - 1) ≥ 0) = false := by rw [h0]; decide
        exact ACode.vcM (.br 14 true <| .cells (cSp x) <| .draw 11 <| .br 22 false <| .val 48 (.rsl 17 0 (joinV [] (M.take (k + 1))).length 2) [(0, none), (17, some (.cells (fl cSp (joinV [] (M.take (k + 1))))))] .nil) hn hlo (.roundW .cl) ⟨ltLen hlt, idx hx, by kernel_rfl, mixed, by kernel_rfl, g0, by kernel_rfl, Eq.trans (by kernel_rfl) ap, k + 1, hlt, mu1 hlt,
          Wk.ren (c := 0) (b := 17) (St.ren.of rfl (by decide) ⟨.inr ⟨_, _, _, rfl, by kernel_rfl⟩, .inl ⟨by kernel_rfl, rfl⟩, .inl ⟨by kernel_rfl, rfl⟩, .inl ⟨Eq.trans (by kernel_rfl) ek, rfl⟩, trivial⟩ ⟨.inr ⟨rfl, by kernel_rfl, _, rfl, sp_ok _ _⟩, trivial⟩) (hlo.mono (show 0 ≤ 0 by decide))⟩
      · refine Exists.elim h1 fun t ht => ?_
        have hpos : 0 < (joinV [] (M.take k)).length := by
          cases hq : joinV [] (M.take k) with
          | nil => rw [hq] at ht; cases ht
          | cons a l => exact Nat.succ_pos _
        have hst := hsa t (List.mem_of_getLast? ht)
        have el1 : IntKind.i64.wrap (((joinV [] (M.take k)).length : Int) - 1) = (((joinV [] (M.take k)).length - 1 : Nat) : Int) := by rw [wrap64 (by omega) (by omega)]; omega
        have g0 : decide (IntKind.i64.wrap (((joinV [] (M.take k)).length : Int) - 1) ≥ 0) = true := by rw [el1]; exact decide_eq_true (by omega)
        have ix := ixSp (h := hget []) (id := 0) el1 (show (joinV [] (M.take k)).length - 1 < (joinV [] (M.take k)).length by omega)
        have ld := ldHi (h := hget [(0, .cells (fl cSp (joinV [] (M.take k))))]) (id := 0) rfl ht
        have ew : IntKind.i64.wrap (t.2 + 1) = t.2 + 1 := wrap64 (by omega) (by omega)
        have ejt := ejl t ht
        refine (Bool.eq_false_or_eq_true (decide (x.1 ≤ t.2 + 1))).symm.elim (fun hc => ?_) (fun hc => ?_)
        · have c1 : decide (x.1 ≤ IntKind.i64.wrap (t.2 + 1)) = false := by rw [ew]; exact hc
          have hA : joinV [] (M.take (k + 1)) = joinV [] (M.take k) ++ [x] := by rw [ejt, if_neg (of_decide_eq_false hc)]
          have ap := fin hA
          exact ACode.vcM (.br 14 true <| .cells (cSp x) <| .draw 11 <| .br 22 true <| .val 27 (.vptr 0 (((joinV [] (M.take k)).length - 1) * 2)) [] <| .val 29 (.int .i64 t.2) [] <| .br 32 false <| .val 48 (.rsl 17 0 (joinV [] (M.take (k + 1))).length 2) [(0, none), (17, some (.cells (fl cSp (joinV [] (M.take (k + 1))))))] .nil) hn hlo (.roundW .cl) ⟨ltLen hlt, idx hx, by kernel_rfl, mixed, by kernel_rfl, g0, Eq.trans (by kernel_rfl) ix, Eq.trans (by kernel_rfl) ld, by kernel_rfl, c1, Eq.trans (by kernel_rfl) ap, k + 1, hlt, mu1 hlt,
            Wk.ren (c := 0) (b := 17) (St.ren.of rfl (by decide) ⟨.inr ⟨_, _, _, rfl, by kernel_rfl⟩, .inl ⟨by kernel_rfl, rfl⟩, .inl ⟨by kernel_rfl, rfl⟩, .inl ⟨Eq.trans (by kernel_rfl) ek, rfl⟩, trivial⟩ ⟨.inr ⟨rfl, by kernel_rfl, _, rfl, sp_ok _ _⟩, trivial⟩) (hlo.mono (show 0 ≤ 0 by decide))⟩
        · have c1 : decide (x.1 ≤ IntKind.i64.wrap (t.2 + 1)) = true := by rw [ew]; exact hc
          have hA : joinV [] (M.take (k + 1)) = (joinV [] (M.take k)).dropLast ++ [(t.1, max t.2 x.2)] := by rw [ejt, if_pos (of_decide_eq_true hc)]
          have st := stHi (h := hget [(0, .cells (fl cSp (joinV [] (M.take k))))]) (id := 0) (n := if x.2 > t.2 then x.2 else t.2) rfl ht
          rw [ifmax, ← hA] at st
          have hlen : (joinV [] (M.take (k + 1))).length = (joinV [] (M.take k)).length := by rw [hA, List.length_append, List.length_dropLast]; simp only [List.length_cons, List.length_nil]; omega
          have e3 : AV.rsl 0 0 (joinV [] (M.take k)).length 2 = .rsl 0 0 (joinV [] (M.take (k + 1))).length 2 := by rw [hlen]
          have mx : some (⟨.int .i64 (if x.2 > t.2 then x.2 else t.2), []⟩ : Out) = some ⟨.int .i64 (max t.2 x.2), []⟩ := by rw [ifmax]
          exact ACode.vcM (.br 14 true <| .cells (cSp x) <| .draw 11 <| .br 22 true <| .val 27 (.vptr 0 (((joinV [] (M.take k)).length - 1) * 2)) [] <| .val 29 (.int .i64 t.2) [] <| .br 32 true <| .draw 10 <| .val 37 (.vptr 0 (((joinV [] (M.take k)).length - 1) * 2)) [] <| .val 39 (.int .i64 t.2) [] <| .val 42 (.int .i64 (max t.2 x.2)) [] <| .val 43 (.vptr 0 (((joinV [] (M.take k)).length - 1) * 2)) [] <| .val 1 .undef [(0, some (.cells (fl cSp (joinV [] (M.take (k + 1))))))] .nil) hn hlo (.roundW .cl)
            ⟨ltLen hlt, idx hx, by kernel_rfl, mixed, by kernel_rfl, g0, Eq.trans (by kernel_rfl) ix, Eq.trans (by kernel_rfl) ld, by kernel_rfl, c1, by kernel_rfl, mixed, by kernel_rfl, Eq.trans (by kernel_rfl) ix, Eq.trans (by kernel_rfl) ld, Eq.trans (by kernel_rfl) mx, by kernel_rfl, Eq.trans (by kernel_rfl) ix, Eq.trans (by kernel_rfl) st, k + 1, hlt, mu1 hlt,
            Wk.le (St.le.of ⟨Eq.trans (by kernel_rfl) e3, rfl, by kernel_rfl, rfl, by kernel_rfl, rfl, Eq.trans (by kernel_rfl) ek, rfl, trivial⟩ ⟨by kernel_rfl, (by decide : (0 : Nat) < 1), sp_ok _ _, trivial⟩) (hlo.mono (show 0 ≤ 1 by decide))⟩
    · have hall : M.take k = M := List.take_of_length_le (by omega)
      have th := fun (h : Nat → Option AObj) (hh : h 0 = some (.cells (fl cSp (joinV [] (M.take k))))) => (show thawF 8 h (.rsl 0 0 (joinV [] (M.take k)).length 2) = some (encSps (joinV [] M), [0]) by
        have := thawF_sp 6 hh
        rw [this, hall])
      exact ACode.vcM (.br 14 false .nil) hn hlo (.roundW .cl) ⟨geLen hlt, _, .refl _, .nil, [0], th _ (by kernel_rfl)⟩
end Go.Proofs.YtjoagmjijbfjkaaGreatDoor
