import Derived.Test.YtjoagmjijbfjkaaGreatDoorSQ
import Derived.Test.YtjoagmjijbfjkaaGreatDoorXE
import Derived.Test.YtjoagmjijbfjkaaGreatDoorXG
/-
  THE FEWEST MARKS: Why, Against.
-/
namespace Go.Proofs.YtjoagmjijbfjkaaGreatDoor
open Go Go.Am
set_option maxRecDepth 100000
set_option maxHeartbeats 4000000
def idsK (s : Scn) (set i : Nat) : List Int := (pickS (s.marks.take i) set).map (·.id)
theorem idsK_no {s : Scn} {set i : Nat} {m : Mk} (h : s.marks[i]? = some m) (hb : set.testBit i = false) : idsK s set (i + 1) = idsK s set i := by
  unfold idsK; rw [pick_take h, hb]; simp
theorem idsK_yes {s : Scn} {set i : Nat} {m : Mk} (h : s.marks[i]? = some m) (hb : set.testBit i = true) : idsK s set (i + 1) = idsK s set i ++ [m.id] := by
  unfold idsK; rw [pick_take h, hb]; simp
theorem idsK_len (s : Scn) (set i : Nat) : (idsK s set i).length ≤ s.marks.length := by
  unfold idsK
  rw [List.length_map]
  exact Nat.le_trans (pick_sub set _).length_le (by rw [List.length_take]; omega)
theorem ids_spec (s : Scn) (crs : List Crs) (hml : s.marks.length ≤ 8) (set : Nat) (hset : set < 4096) : APureF Tryz.prog 111 [encX s crs, .int .i64 (set : Int)] (encR (idsP s set)) := by
  refine APureF.vcM Tryz.func111 .loop (by kernel_rfl) rfl ?_
  intro g hn hlo
  replace hn : g.n = 29 := hn
  replace hlo : g.low 0 := hlo
  refine acode_whileW (fun i : Nat => ⟨[(1, .int .i64 (set : Int)), (5, .rsl 1 0 (idsK s set i).length 1), (10, encMs s.marks), (11, .int .i64 (s.marks.map cMk).length), (12, .int .i64 i)], [(1, .cells (iL (idsK s set i)))], 2⟩) (fun i => i ≤ s.marks.length) (fun i => s.marks.length - i) 0 (Nat.zero_le _) ?_ ?_
  · refine Wk.trans (Wk.le ?_ (hlo.mono (show 0 ≤ 2 by decide))) (Wk.own 5 1 (by kernel_rfl))
    exact St.le.of ⟨by kernel_rfl, rfl, by kernel_rfl, rfl, by kernel_rfl, rfl, by kernel_rfl, rfl, by kernel_rfl, rfl, trivial⟩ ⟨by kernel_rfl, (by decide : (1 : Nat) < 2), rfl, trivial⟩
  · intro i hi
    replace hi : i ≤ s.marks.length := hi
    by_cases hlt : i < s.marks.length
    · refine Exists.elim (getE hlt) fun m hmi => ?_
      have ek := congrArg (AV.int .i64) (succ64 (k := i) (by omega))
      have sh := bShlO (k := i) (by omega)
      have hb := bHas (S := set) (i := i) hset (by omega)
      have hil := idsK_len s set i
      refine (Bool.eq_false_or_eq_true (set.testBit i)).symm.elim (fun hbit => ?_) (fun hbit => ?_)
      · rw [hbit] at hb
        have es := idsK_no hmi hbit
        have e5 : AV.rsl 1 0 (idsK s set i).length 1 = .rsl 1 0 (idsK s set (i + 1)).length 1 := by rw [es]
        have o1 : some (AObj.cells (iL (idsK s set i))) = some (.cells (iL (idsK s set (i + 1)))) := by rw [es]
        exact ACode.vcM (.br 13 true <| .cells (cMk m) <| .val 19 (.int .i64 ((2 ^ i : Nat) : Int)) [] <| .br 21 false .nil) hn hlo (.roundW .cl) ⟨ltLen hlt, idx hmi, Eq.trans (by kernel_rfl) sh, hb, i + 1, hlt, mu1 hlt, Wk.le (St.le.of ⟨by kernel_rfl, rfl, Eq.trans (by kernel_rfl) e5, rfl, by kernel_rfl, rfl, by kernel_rfl, rfl, Eq.trans (by kernel_rfl) ek, rfl, trivial⟩ ⟨Eq.trans (by kernel_rfl) o1, (by decide : (1 : Nat) < 2), iL_ok _ _, trivial⟩) (hlo.mono (show 0 ≤ 2 by decide))⟩
      · rw [hbit] at hb
        have es := idsK_yes hmi hbit
        have el : (idsK s set (i + 1)).length = (idsK s set i).length + 1 := by rw [es]; simp
        have ap := app_one (h := hget [(1, .cells (iL (idsK s set i))), (4, .cells [.int .i64 m.id])]) (i := 1) (j := 4) (nid := 5) (l := idsK s set i) (x := m.id) rfl rfl (by omega)
        rw [← es, ← el] at ap
        exact ACode.vcM (.br 13 true <| .cells (cMk m) <| .val 19 (.int .i64 ((2 ^ i : Nat) : Int)) [] <| .br 21 true <| .val 26 (.rsl 5 0 (idsK s set (i + 1)).length 1) [(1, none), (5, some (.cells (iL (idsK s set (i + 1)))))] .nil) hn hlo (.roundW .cl) ⟨ltLen hlt, idx hmi, Eq.trans (by kernel_rfl) sh, hb, Eq.trans (by kernel_rfl) ap, i + 1, hlt, mu1 hlt,
          Wk.ren (c := 1) (b := 5) (St.ren.of rfl (by decide) ⟨.inl ⟨by kernel_rfl, rfl⟩, .inr ⟨_, _, _, rfl, by kernel_rfl⟩, .inl ⟨by kernel_rfl, rfl⟩, .inl ⟨by kernel_rfl, rfl⟩, .inl ⟨Eq.trans (by kernel_rfl) ek, rfl⟩, trivial⟩ ⟨.inr ⟨rfl, by kernel_rfl, _, rfl, iL_ok _ _⟩, trivial⟩) (hlo.mono (show 0 ≤ 1 by decide))⟩
    · have hall : idsK s set i = idsP s set := by unfold idsK idsP; rw [List.take_of_length_le (by omega)]
      have th := fun (h : Nat → Option AObj) (hh : h 1 = some (.cells (iL (idsK s set i)))) => (show thawF 8 h (.rsl 1 0 (idsK s set i).length 1) = some (encR (idsP s set), [1]) by
        rw [hall] at hh ⊢; exact thawF_ints 6 hh)
      exact ACode.vcM (.br 13 false .nil) hn hlo (.roundW .cl) ⟨geLen hlt, _, .refl _, .nil, [1], th _ (by kernel_rfl)⟩
theorem setsR_take (n k : Nat) (hk : k < 2 ^ n) : (setsR n).take (k + 1) = (setsR n).take k ++ [(k : Int)] := by
  refine take_snoc ?_
  unfold setsR
  rw [List.getElem?_map, List.getElem?_range hk]; rfl
theorem sets_spec (s : Scn) (crs : List Crs) (hml : s.marks.length ≤ 8) : APureF Tryz.prog 110 [encX s crs] (encR (setsI s.marks.length)) := by
  have sh := bShlO (k := s.marks.length) (by omega)
  have hlen : ((s.marks.map cMk).length : Int) = (s.marks.length : Int) := by rw [List.length_map]
  rw [← hlen] at sh
  have mutC := SortSet_mut (n := s.marks.length) (N := 2 ^ s.marks.length) hml rfl
  have h8 : 2 ^ s.marks.length ≤ 2 ^ 8 := Nat.pow_le_pow_right (by decide) hml
  have h9 : (2 : Nat) ^ 8 = 256 := by decide
  have hRl := setsR_len s.marks.length
  have hIl : (setsI s.marks.length).length = 2 ^ s.marks.length := by unfold setsI setsN; rw [List.length_map, List.length_map, (setsP_facts _).1.length_eq, setsF_len]
  have hT := setsR_take s.marks.length
  generalize hR : setsR s.marks.length = R at *
  generalize hI : setsI s.marks.length = I at *
  have mutQ : ∀ cs, SetQ s.marks.length cs → cs = iL I := fun cs h => by rw [← hI]; exact h
  generalize 2 ^ s.marks.length = z at *
  refine APureF.vcM Tryz.func110 (.val 9 (.int .i64 (z : Int)) [] .loop) (by kernel_rfl) rfl ⟨Eq.trans (by kernel_rfl) sh, ?_⟩
  intro g hn hlo
  replace hn : g.n = 21 := hn
  replace hlo : g.low 0 := hlo
  refine acode_whileW (fun k : Nat => ⟨[(3, .rsl 1 0 (R.take k).length 1), (9, .int .i64 (z : Int)), (10, .int .i64 k)], [(1, .cells (iL (R.take k)))], 2⟩) (fun k => k ≤ z) (fun k => z - k) 0 (Nat.zero_le _) ?_ ?_
  · refine Wk.trans (Wk.le ?_ (hlo.mono (show 0 ≤ 2 by decide))) (Wk.own 3 1 (by kernel_rfl))
    exact St.le.of ⟨by kernel_rfl, rfl, by kernel_rfl, rfl, by kernel_rfl, rfl, trivial⟩ ⟨by kernel_rfl, (by decide : (1 : Nat) < 2), rfl, trivial⟩
  · intro k hk
    replace hk : k ≤ z := hk
    by_cases hlt : k < z
    · have ek := congrArg (AV.int .i64) (succ64 (k := k) (by omega))
      have es := hT k hlt
      have el : (R.take (k + 1)).length = (R.take k).length + 1 := by rw [es]; simp
      have c : decide ((k : Int) < (z : Int)) = true := decide_eq_true (by omega)
      have ap := app_one (h := hget [(1, .cells (iL (R.take k))), (2, .cells [.int .i64 (k : Int)])]) (i := 1) (j := 2) (nid := 3) (l := R.take k) (x := (k : Int)) rfl rfl (by rw [List.length_take]; omega)
      rw [← es, ← el] at ap
      exact ACode.vcM (.br 11 true <| .val 16 (.rsl 3 0 (R.take (k + 1)).length 1) [(1, none), (3, some (.cells (iL (R.take (k + 1)))))] .nil) hn hlo (.roundW .cl) ⟨c, Eq.trans (by kernel_rfl) ap, k + 1, hlt, mu1 hlt,
        Wk.ren (c := 1) (b := 3) (St.ren.of rfl (by decide) ⟨.inr ⟨_, _, _, rfl, by kernel_rfl⟩, .inl ⟨by kernel_rfl, rfl⟩, .inl ⟨Eq.trans (by kernel_rfl) ek, rfl⟩, trivial⟩ ⟨.inr ⟨rfl, by kernel_rfl, _, rfl, iL_ok _ _⟩, trivial⟩) (hlo.mono (show 0 ≤ 1 by decide))⟩
    · have c : decide ((k : Int) < (z : Int)) = false := decide_eq_false (by omega)
      have hall : R.take k = R := List.take_of_length_le (by omega)
      have mut2 : AMut Tryz.prog Tryz.f122 (R.take k).length 1 [.fn (.func 123) [] []] (iL (R.take k)) .undef (SetQ s.marks.length) := by rw [hall, hRl]; exact mutC
      have th := fun (cs' : List AV) (hQ : SetQ s.marks.length cs') (h : Nat → Option AObj) (hh : h 1 = some (.cells cs')) => (show thawF 8 h (.rsl 1 0 (R.take k).length 1) = some (encR I, [1]) by
        rw [mutQ cs' hQ] at hh
        have := thawF_ints 6 hh
        rw [hIl] at this
        rw [hall, hRl]; exact this)
      exact ACode.vcM (.br 11 false .nil) hn hlo (.roundW .cl) ⟨c, _, .refl _, .inl Tryz.f122 <| .nz .nil, Tryz.func122,
        AMut.use (id := 1) mut2 rfl rfl (iL_ok 0 _) (fun _ h => (mutQ _ h).symm ▸ iL_ok 0 _) (by kernel_rfl) fun cs' hQ => ⟨[1], th cs' hQ _ (by kernel_rfl)⟩⟩
theorem valuesI_spec (l : List Int) : APure Tryz.prog 109 [encR l] (.fn (.func 121) [] [.cptr [encR l]]) :=
  APure.vcM Tryz.func109 .nil rfl rfl ⟨[0], by kernel_rfl⟩
/-! ### which sets exclude -/
theorem exAll_spec (s : Scn) (hs : ScOk s) (set : Nat) (hset : set < 4096) : APure Tryz.prog 77 [encX s (crsP s), .int .i64 (set : Int)] (.bool (exAll s set)) := by
  have hn6 := nR_eq hs
  have hlt := fun a => (lt_rooms hs (a := a)).1
  have hge := fun a => (lt_rooms hs (a := a)).2
  have hX := cX_ok s (crsP s)
  refine APure.vc Tryz.func77 rfl .loop (by kernel_rfl) rfl ?_
  intro g hn hl
  replace hn : g.n = 18 := hn
  replace hl : g.low 0 := hl
  refine acode_while (fun r : Nat => ⟨[(1, .int .i64 (set : Int)), (2, .vptr 0 0), (8, .int .i64 s.rooms), (9, .int .i64 r)], [(0, .cells (cXa s (encCs (crsP s))))], 1⟩) (fun r => r ≤ nR s ∧ ∀ x, x < r → exB s x set = true) (fun r => nR s - r) 0 ⟨Nat.zero_le _, fun x h => absurd h (Nat.not_lt_zero _)⟩ ?_ (fun _ _ => hl.mono (Nat.zero_le _)) ?_
  · exact St.le.of ⟨by kernel_rfl, rfl, by kernel_rfl, rfl, by kernel_rfl, rfl, by kernel_rfl, rfl, trivial⟩ ⟨by kernel_rfl, (by decide : (0 : Nat) < 1), (by kernel_rfl), trivial⟩
  · rintro r ⟨hr1, hr2⟩
    replace hr1 : r ≤ nR s := hr1
    by_cases hl2 : r < nR s
    · have ek := congrArg (AV.int .i64) (succ64 (k := r) (by omega))
      have e := excludes_spec s hs r set hl2 hset
      refine (Bool.eq_false_or_eq_true (exB s r set)).symm.elim (fun hb => ?_) (fun hb => ?_)
      · rw [hb] at e
        have hf : false = exAll s set := by
          unfold exAll
          exact (List.all_eq_false.2 ⟨r, List.mem_range.2 hl2, by rw [hb]; decide⟩).symm
        exact ACode.vc (.br 10 true <| .val 12 (encX s (crsP s)) [] <| .call (.bool false) .nil) hn hl (.round .cl) ⟨hlt r hl2, by kernel_rfl, e, _, .refl _, .nil, rB hf⟩
      · rw [hb] at e
        exact ACode.vc (.br 10 true <| .val 12 (encX s (crsP s)) [] <| .call (.bool true) .nil) hn hl (.round .cl) ⟨hlt r hl2, by kernel_rfl, e, r + 1, ⟨hl2, fun x hx => by
            rcases Nat.lt_or_ge x r with q | q
            · exact hr2 x q
            · have : x = r := by omega
              rw [this]; exact hb⟩, mu1 hl2,
          St.le.of ⟨by kernel_rfl, rfl, by kernel_rfl, rfl, by kernel_rfl, rfl, Eq.trans (by kernel_rfl) ek, rfl, trivial⟩ ⟨by kernel_rfl, (by decide : (0 : Nat) < 1), (by kernel_rfl), trivial⟩⟩
    · have hf : true = exAll s set := by
        unfold exAll
        exact (List.all_eq_true.2 fun x hx => hr2 x (by have := List.mem_range.1 hx; omega)).symm
      exact ACode.vc (.br 10 false .nil) hn hl (.round .cl) ⟨hge r hl2, _, .refl _, .nil, rB hf⟩
theorem why1_spec (s : Scn) (hs : ScOk s) (room set : Nat) (hroom : room < nR s) (hset : set < 4096) : APure Tryz.prog 75 [.int .i64 (set : Int), .cptr (cXa s (encCs (crsP s))), .cptr [.int .i64 (room : Int)]] (.bool (exB s room set)) := by
  have e := excludes_spec s hs room set hroom hset
  exact APure.vc Tryz.func75 rfl (.val 5 (encX s (crsP s)) [] <| .call (.bool (exB s room set)) .nil) (by kernel_rfl) rfl ⟨by kernel_rfl, e, rB rfl⟩
def encFd (o : Option Nat) : AV := match o with
  | none => .tup [.int .i64 0, .bool false]
  | some n => .tup [.int .i64 (n : Int), .bool true]
def encFw (o : Option (List Int)) : AV := match o with
  | none => .tup [.nil, .bool false]
  | some l => .tup [encR l, .bool true]
noncomputable def asgI : Code := rfA Tryz.f108
noncomputable def bodI : Code := rfB Tryz.f108

theorem firstW_spec (s : Scn) (hs : ScOk s) (room : Nat) (hroom : room < nR s) (l : List Nat) (hl4 : ∀ x ∈ l, x < 4096) (hll : l.length ≤ 1000) :
    APure Tryz.prog 108 [.fn (.func 121) [] [.cptr [encR (l.map fun (i : Nat) => (i : Int))]], .fn (.func 75) [] [.cptr (cXa s (encCs (crsP s))), .cptr [.int .i64 (room : Int)]]] (encFd (l.find? (exB s room))) := by
  have hX := cX_ok s (crsP s)
  have hres : (encFd (l.find? (exB s room))).ok 0 = true := by cases l.find? (exB s room) <;> rfl
  refine APure.vcM Tryz.func108 (.inl Tryz.f121 .loop) (by kernel_rfl) hres ⟨Tryz.func121, ?_⟩
  intro g hn hlo
  replace hn : g.n = 16 := hn
  replace hlo : g.low 4 := hlo
  refine acode_whileW (fun k : Nat => ⟨[(0, .yld 3), (1, .cptr [encR (l.map fun (i : Nat) => (i : Int))]), (5, encR (l.map fun (i : Nat) => (i : Int))), (6, .int .i64 ((l.map fun (i : Nat) => (i : Int)).map encI).length), (7, .int .i64 k)], [(0, .cells [.fn (.func 75) [] [.cptr (cXa s (encCs (crsP s))), .cptr [.int .i64 (room : Int)]]]), (1, .cells [.int .i64 0]), (2, .cells [.bool false]), (3, .loop ⟨.ready, none, 14, [(3, .vptr 0 0), (4, .vptr 1 0), (5, .vptr 2 0)], #[8], asgI, bodI⟩)], 4⟩) (fun k => k ≤ l.length ∧ ∀ x ∈ l.take k, exB s room x = false) (fun k => l.length - k) 0 ⟨Nat.zero_le _, fun x hx => by simp at hx⟩ ?_ ?_
  · refine Wk.trans (Wk.le ?_ (hlo.mono (show 4 ≤ 4 by decide))) (Wk.loopEnv (id := 3) (n := 4) [(3, .vptr 0 0), (4, .vptr 1 0), (5, .vptr 2 0)] rfl ⟨rfl, rfl, rfl, rfl, rfl, rfl, trivial⟩)
    exact St.le.of ⟨by kernel_rfl, rfl, by kernel_rfl, rfl, by kernel_rfl, rfl, by kernel_rfl, rfl, by kernel_rfl, rfl, trivial⟩ ⟨by kernel_rfl, (by decide : (0 : Nat) < 4), (by kernel_rfl), by kernel_rfl, (by decide : (1 : Nat) < 4), rfl, by kernel_rfl, (by decide : (2 : Nat) < 4), rfl, by kernel_rfl, (by decide : (3 : Nat) < 4), (by kernel_rfl), trivial⟩
  · rintro k ⟨hk1, hall⟩
    replace hk1 : k ≤ l.length := hk1
    by_cases hlt : k < l.length
    · refine Exists.elim (getE hlt) fun x hx => ?_
      have hx2 : (l.map fun (i : Nat) => (i : Int))[k]? = some (x : Int) := by rw [List.getElem?_map, hx]; rfl
      have hlt2 : k < (l.map fun (i : Nat) => (i : Int)).length := by rw [List.length_map]; exact hlt
      have ek := congrArg (AV.int .i64) (succ64 (k := k) (by omega))
      have e := why1_spec s hs room x hroom (hl4 x (List.mem_of_getElem? hx))
      refine (Bool.eq_false_or_eq_true (exB s room x)).symm.elim (fun hb => ?_) (fun hb => ?_)
      · rw [hb] at e
        have hall2 : ∀ y ∈ l.take (k + 1), exB s room y = false := fun y hy => by
          rw [take_snoc hx] at hy
          rcases List.mem_append.1 hy with hy | hy
          · exact hall y hy
          · rw [List.mem_singleton] at hy; subst hy; exact hb
        exact ACode.vcM (.br 8 true <| .cells (encI (x : Int)) <| .call (.bool false) .nil) hn hlo (.roundW .cl) ⟨ltLen hlt2, idx hx2, e, k + 1, ⟨hlt, hall2⟩, mu1 hlt,
          Wk.le (St.le.of ⟨by kernel_rfl, rfl, by kernel_rfl, rfl, by kernel_rfl, rfl, by kernel_rfl, rfl, Eq.trans (by kernel_rfl) ek, rfl, trivial⟩ ⟨by kernel_rfl, (by decide : (0 : Nat) < 4), (by kernel_rfl), by kernel_rfl, (by decide : (1 : Nat) < 4), rfl, by kernel_rfl, (by decide : (2 : Nat) < 4), rfl, by kernel_rfl, (by decide : (3 : Nat) < 4), (by kernel_rfl), trivial⟩) (hlo.mono (show 4 ≤ 4 by decide))⟩
      · rw [hb] at e
        have he : some (AV.tup [.int .i64 (x : Int), .bool true], ([] : List Nat)) = some (encFd (l.find? (exB s room)), []) := by
          have hsp : l = l.take k ++ x :: l.drop (k + 1) := by rw [← drop_cons hx, List.take_append_drop]
          have hfd : l.find? (exB s room) = some x := by
            rw [hsp, List.find?_append, List.find?_eq_none.2 (fun t ht => by rw [hall t ht]; decide), Option.none_or]
            simp [hb]
          rw [hfd]; rfl
        exact ACode.vcM (.br 8 true <| .cells (encI (x : Int)) <| .call (.bool true) .nil) hn hlo (.roundW .cl) ⟨ltLen hlt2, idx hx2, e, _, .refl _, .nil, [], Eq.trans (by kernel_rfl) he⟩
    · have hlt2 : ¬ k < (l.map fun (i : Nat) => (i : Int)).length := by rw [List.length_map]; exact hlt
      have hall' : l.take k = l := List.take_of_length_le (by omega)
      have he : some (AV.tup [.int .i64 0, .bool false], ([] : List Nat)) = some (encFd (l.find? (exB s room)), []) := by
        rw [hall'] at hall
        rw [List.find?_eq_none.2 (fun t ht => by rw [hall t ht]; decide)]; rfl
      exact ACode.vcM (.br 8 false .nil) hn hlo (.roundW .cl) ⟨geLen hlt2, _, .refl _, .nil, [], Eq.trans (by kernel_rfl) he⟩
theorem fewW_spec (s : Scn) (hs : ScOk s) (room : Nat) (hroom : room < nR s) : APure Tryz.prog 74 [encX s (crsP s), .fn (.func 75) [] [.cptr (cXa s (encCs (crsP s))), .cptr [.int .i64 (room : Int)]]] (encFw (fewP s (exB s room))) := by
  have hml := hs.ml
  have hall := set_lt hs
  have a := all_spec s (crsP s) hml
  have st := (sets_spec s (crsP s) hml).pure
  have hX := cX_ok s (crsP s)
  obtain ⟨f1, f2⟩ := setsN_facts hml
  have h8 : 2 ^ s.marks.length ≤ 2 ^ 8 := Nat.pow_le_pow_right (by decide) hml
  have h9 : (2 : Nat) ^ 8 = 256 := by decide
  have p1 : 0 < 2 ^ s.marks.length := Nat.pow_pos (by decide)
  have en : allN s + 1 = 2 ^ s.marks.length := by unfold allN; omega
  have e := (fun x => why1_spec s hs room x hroom) (allN s) hall
  have vI := valuesI_spec (setsI s.marks.length)
  have fs := firstW_spec s hs room hroom (setsN s.marks.length) (fun x hx => by have := (f1 x).1 hx; omega) (by unfold setsN; rw [List.length_map, (setsP_facts _).1.length_eq, setsF_len]; omega)
  unfold fewP
  cases hp : exB s room (allN s)
  · have e : APure Tryz.prog _ _ (.bool false) := hp ▸ e
    exact APure.vc Tryz.func74 rfl (.val 9 (encX s (crsP s)) [] <| .call (.int .i64 ((allN s : Nat) : Int)) <| .call (.bool false) .nil) (by kernel_rfl) rfl ⟨by kernel_rfl, a, e, trivial, by kernel_rfl⟩
  · have e : APure Tryz.prog _ _ (.bool true) := hp ▸ e
    have fb := find_best (n := allN s) (ordD_ord.le (show allN s + 1 ≤ 256 by omega)) hp (l := setsN s.marks.length) (fun x => by rw [f1 x, en]) f2
    rw [fb] at fs
    have hbm := (best_min (ordD_ord.le (show allN s + 1 ≤ 256 by omega)) hp).1
    have idc := (ids_spec s (crsP s) hml (bestN ordD (exB s room) (allN s) (allN s)) (by omega)).pure
    generalize bestN ordD (exB s room) (allN s) (allN s) = B at *
    exact APure.vc Tryz.func74 rfl (.val 9 (encX s (crsP s)) [] <| .call (.int .i64 ((allN s : Nat) : Int)) <| .call (.bool true) <| .val 14 (encX s (crsP s)) [] <| .call (encR (setsI s.marks.length)) <| .call (.fn (.func 121) [] [.cptr [encR (setsI s.marks.length)]]) <| .call (.tup [.int .i64 (B : Int), .bool true]) <| .val 21 (encX s (crsP s)) [] <| .call (encR (idsP s B)) .nil) (by kernel_rfl) rfl
      ⟨by kernel_rfl, a, e, by kernel_rfl, st, vI, fs, by kernel_rfl, idc, trivial, by kernel_rfl⟩

theorem firstA_spec (s : Scn) (hs : ScOk s)  (l : List Nat) (hl4 : ∀ x ∈ l, x < 4096) (hll : l.length ≤ 1000) :
    APure Tryz.prog 108 [.fn (.func 121) [] [.cptr [encR (l.map fun (i : Nat) => (i : Int))]], .fn (.func 77) [encX s (crsP s)] []] (encFd (l.find? (exAll s))) := by
  have hX := cX_ok s (crsP s)
  have hres : (encFd (l.find? (exAll s))).ok 0 = true := by cases l.find? (exAll s) <;> rfl
  refine APure.vcM Tryz.func108 (.inl Tryz.f121 .loop) (by kernel_rfl) hres ⟨Tryz.func121, ?_⟩
  intro g hn hlo
  replace hn : g.n = 16 := hn
  replace hlo : g.low 4 := hlo
  refine acode_whileW (fun k : Nat => ⟨[(0, .yld 3), (1, .cptr [encR (l.map fun (i : Nat) => (i : Int))]), (5, encR (l.map fun (i : Nat) => (i : Int))), (6, .int .i64 ((l.map fun (i : Nat) => (i : Int)).map encI).length), (7, .int .i64 k)], [(0, .cells [.fn (.func 77) [encX s (crsP s)] []]), (1, .cells [.int .i64 0]), (2, .cells [.bool false]), (3, .loop ⟨.ready, none, 14, [(3, .vptr 0 0), (4, .vptr 1 0), (5, .vptr 2 0)], #[8], asgI, bodI⟩)], 4⟩) (fun k => k ≤ l.length ∧ ∀ x ∈ l.take k, exAll s x = false) (fun k => l.length - k) 0 ⟨Nat.zero_le _, fun x hx => by simp at hx⟩ ?_ ?_
  · refine Wk.trans (Wk.le ?_ (hlo.mono (show 4 ≤ 4 by decide))) (Wk.loopEnv (id := 3) (n := 4) [(3, .vptr 0 0), (4, .vptr 1 0), (5, .vptr 2 0)] rfl ⟨rfl, rfl, rfl, rfl, rfl, rfl, trivial⟩)
    exact St.le.of ⟨by kernel_rfl, rfl, by kernel_rfl, rfl, by kernel_rfl, rfl, by kernel_rfl, rfl, by kernel_rfl, rfl, trivial⟩ ⟨by kernel_rfl, (by decide : (0 : Nat) < 4), (by kernel_rfl), by kernel_rfl, (by decide : (1 : Nat) < 4), rfl, by kernel_rfl, (by decide : (2 : Nat) < 4), rfl, by kernel_rfl, (by decide : (3 : Nat) < 4), (by kernel_rfl), trivial⟩
  · rintro k ⟨hk1, hall⟩
    replace hk1 : k ≤ l.length := hk1
    by_cases hlt : k < l.length
    · refine Exists.elim (getE hlt) fun x hx => ?_
      have hx2 : (l.map fun (i : Nat) => (i : Int))[k]? = some (x : Int) := by rw [List.getElem?_map, hx]; rfl
      have hlt2 : k < (l.map fun (i : Nat) => (i : Int)).length := by rw [List.length_map]; exact hlt
      have ek := congrArg (AV.int .i64) (succ64 (k := k) (by omega))
      have e := exAll_spec s hs x (hl4 x (List.mem_of_getElem? hx))
      refine (Bool.eq_false_or_eq_true (exAll s x)).symm.elim (fun hb => ?_) (fun hb => ?_)
      · rw [hb] at e
        have hall2 : ∀ y ∈ l.take (k + 1), exAll s y = false := fun y hy => by
          rw [take_snoc hx] at hy
          rcases List.mem_append.1 hy with hy | hy
          · exact hall y hy
          · rw [List.mem_singleton] at hy; subst hy; exact hb
        exact ACode.vcM (.br 8 true <| .cells (encI (x : Int)) <| .call (.bool false) .nil) hn hlo (.roundW .cl) ⟨ltLen hlt2, idx hx2, e, k + 1, ⟨hlt, hall2⟩, mu1 hlt,
          Wk.le (St.le.of ⟨by kernel_rfl, rfl, by kernel_rfl, rfl, by kernel_rfl, rfl, by kernel_rfl, rfl, Eq.trans (by kernel_rfl) ek, rfl, trivial⟩ ⟨by kernel_rfl, (by decide : (0 : Nat) < 4), (by kernel_rfl), by kernel_rfl, (by decide : (1 : Nat) < 4), rfl, by kernel_rfl, (by decide : (2 : Nat) < 4), rfl, by kernel_rfl, (by decide : (3 : Nat) < 4), (by kernel_rfl), trivial⟩) (hlo.mono (show 4 ≤ 4 by decide))⟩
      · rw [hb] at e
        have he : some (AV.tup [.int .i64 (x : Int), .bool true], ([] : List Nat)) = some (encFd (l.find? (exAll s)), []) := by
          have hsp : l = l.take k ++ x :: l.drop (k + 1) := by rw [← drop_cons hx, List.take_append_drop]
          have hfd : l.find? (exAll s) = some x := by
            rw [hsp, List.find?_append, List.find?_eq_none.2 (fun t ht => by rw [hall t ht]; decide), Option.none_or]
            simp [hb]
          rw [hfd]; rfl
        exact ACode.vcM (.br 8 true <| .cells (encI (x : Int)) <| .call (.bool true) .nil) hn hlo (.roundW .cl) ⟨ltLen hlt2, idx hx2, e, _, .refl _, .nil, [], Eq.trans (by kernel_rfl) he⟩
    · have hlt2 : ¬ k < (l.map fun (i : Nat) => (i : Int)).length := by rw [List.length_map]; exact hlt
      have hall' : l.take k = l := List.take_of_length_le (by omega)
      have he : some (AV.tup [.int .i64 0, .bool false], ([] : List Nat)) = some (encFd (l.find? (exAll s)), []) := by
        rw [hall'] at hall
        rw [List.find?_eq_none.2 (fun t ht => by rw [hall t ht]; decide)]; rfl
      exact ACode.vcM (.br 8 false .nil) hn hlo (.roundW .cl) ⟨geLen hlt2, _, .refl _, .nil, [], Eq.trans (by kernel_rfl) he⟩
theorem fewA_spec (s : Scn) (hs : ScOk s)  : APure Tryz.prog 74 [encX s (crsP s), .fn (.func 77) [encX s (crsP s)] []] (encFw (fewP s (exAll s))) := by
  have hml := hs.ml
  have hall := set_lt hs
  have a := all_spec s (crsP s) hml
  have st := (sets_spec s (crsP s) hml).pure
  have hX := cX_ok s (crsP s)
  obtain ⟨f1, f2⟩ := setsN_facts hml
  have h8 : 2 ^ s.marks.length ≤ 2 ^ 8 := Nat.pow_le_pow_right (by decide) hml
  have h9 : (2 : Nat) ^ 8 = 256 := by decide
  have p1 : 0 < 2 ^ s.marks.length := Nat.pow_pos (by decide)
  have en : allN s + 1 = 2 ^ s.marks.length := by unfold allN; omega
  have e := (fun x => exAll_spec s hs x) (allN s) hall
  have vI := valuesI_spec (setsI s.marks.length)
  have fs := firstA_spec s hs (setsN s.marks.length) (fun x hx => by have := (f1 x).1 hx; omega) (by unfold setsN; rw [List.length_map, (setsP_facts _).1.length_eq, setsF_len]; omega)
  unfold fewP
  cases hp : exAll s (allN s)
  · have e : APure Tryz.prog _ _ (.bool false) := hp ▸ e
    exact APure.vc Tryz.func74 rfl (.val 9 (encX s (crsP s)) [] <| .call (.int .i64 ((allN s : Nat) : Int)) <| .call (.bool false) .nil) (by kernel_rfl) rfl ⟨by kernel_rfl, a, e, trivial, by kernel_rfl⟩
  · have e : APure Tryz.prog _ _ (.bool true) := hp ▸ e
    have fb := find_best (n := allN s) (ordD_ord.le (show allN s + 1 ≤ 256 by omega)) hp (l := setsN s.marks.length) (fun x => by rw [f1 x, en]) f2
    rw [fb] at fs
    have hbm := (best_min (ordD_ord.le (show allN s + 1 ≤ 256 by omega)) hp).1
    have idc := (ids_spec s (crsP s) hml (bestN ordD (exAll s) (allN s) (allN s)) (by omega)).pure
    generalize bestN ordD (exAll s) (allN s) (allN s) = B at *
    exact APure.vc Tryz.func74 rfl (.val 9 (encX s (crsP s)) [] <| .call (.int .i64 ((allN s : Nat) : Int)) <| .call (.bool true) <| .val 14 (encX s (crsP s)) [] <| .call (encR (setsI s.marks.length)) <| .call (.fn (.func 121) [] [.cptr [encR (setsI s.marks.length)]]) <| .call (.tup [.int .i64 (B : Int), .bool true]) <| .val 21 (encX s (crsP s)) [] <| .call (encR (idsP s B)) .nil) (by kernel_rfl) rfl
      ⟨by kernel_rfl, a, e, by kernel_rfl, st, vI, fs, by kernel_rfl, idc, trivial, by kernel_rfl⟩

theorem against_spec (s : Scn) (hs : ScOk s) : APure Tryz.prog 51 [encX s (crsP s)] (encR ((agP s).getD [])) := by
  have f := fewA_spec s hs
  have hX := cX_ok s (crsP s)
  unfold agP
  cases h : fewP s (exAll s) with
  | none =>
    rw [h] at f
    exact APure.weak (r := .nil) (APure.vc Tryz.func51 rfl (.val 6 (encX s (crsP s)) [] <| .val 7 (encX s (crsP s)) [] <| .call (.tup [.nil, .bool false]) .nil) (by kernel_rfl) rfl ⟨by kernel_rfl, by kernel_rfl, f, trivial, by kernel_rfl⟩) VRel.nilLst
  | some l =>
    rw [h] at f
    exact APure.vc Tryz.func51 rfl (.val 6 (encX s (crsP s)) [] <| .val 7 (encX s (crsP s)) [] <| .call (.tup [encR l, .bool true]) .nil) (by kernel_rfl) rfl ⟨by kernel_rfl, by kernel_rfl, f, trivial, by kernel_rfl⟩
theorem why_spec (s : Scn) (hs : ScOk s) (room : Nat) (hroom : room < nR s) : APure Tryz.prog 50 [encX s (crsP s), .int .i64 (room : Int)] (encFw (whyP s room)) := by
  have f := fewW_spec s hs room hroom
  have hX := cX_ok s (crsP s)
  unfold whyP
  generalize fewP s (exB s room) = o at f ⊢
  refine APure.intro Tryz.func50 rfl (by kernel_rfl) (by cases o <;> rfl) fun g hn hlo0 => ?_
  replace hn : g.n = 11 := hn
  have th := thaw_all 6 (hget [(0, .cells (cXa s (encCs (crsP s))))]) (cXa s (encCs (crsP s))) hX
  have th0 : thaw 8 (hget [(0, .cells (cXa s (encCs (crsP s))))]) (.vptr 0 0) = some (.cptr (cXa s (encCs (crsP s))), [0]) := by
    have e : thaw 8 (hget [(0, .cells (cXa s (encCs (crsP s))))]) (.vptr 0 0) = (match mapO (thaw 7 (hget [(0, .cells (cXa s (encCs (crsP s))))])) (cXa s (encCs (crsP s))) with | some (cs', is) => some (.cptr (cs'.drop 0), 0 :: is) | none => none) := rfl
    rw [e, th]; rfl
  refine ACode.cut 0 (fun _ : Unit => ⟨[(2, .cptr (cXa s (encCs (crsP s)))), (3, .cptr [.int .i64 (room : Int)])], [], 0⟩) (fun _ => True) .nil hn hlo0 .ret rfl ?_ fun _ _ => ?_
  · exact ⟨(), trivial, Wk.trans (Wk.frv (S := ⟨[(2, .vptr 0 0), (3, .cptr [.int .i64 (room : Int)])], [(0, .cells (cXa s (encCs (crsP s))))], 1⟩) (c := 0) (id := 0) (cs := cXa s (encCs (crsP s))) (St.frv.of rfl (by decide) (by kernel_rfl) ⟨.inr ⟨(by kernel_rfl), [0], th0⟩, .inl ⟨by kernel_rfl, rfl⟩, trivial⟩ trivial) hlo0)
      (Wk.frv (c := 1) (id := 1) (cs := [.int .i64 (room : Int)]) (St.frv.of rfl (by decide) (by kernel_rfl) ⟨.inl ⟨by kernel_rfl, rfl⟩, .inr ⟨rfl, [1], by kernel_rfl⟩, trivial⟩ ⟨by kernel_rfl, (by decide : (0 : Nat) < 1), (by kernel_rfl), trivial⟩) (hlo0.mono (by decide)))⟩
  · cases o with
    | none => exact ACode.vcM (.val 6 (encX s (crsP s)) [] <| .call (.tup [.nil, .bool false]) .nil) hn hlo0 .ret ⟨by kernel_rfl, f, trivial, by kernel_rfl⟩
    | some l => exact ACode.vcM (.val 6 (encX s (crsP s)) [] <| .call (.tup [encR l, .bool true]) .nil) hn hlo0 .ret ⟨by kernel_rfl, f, trivial, by kernel_rfl⟩
theorem Why_ok (s : Scn) (room : Int) : APure Tryz.prog 20 [encSc s, .int .i64 room] (encLe (wyV s room) (wyE s room)) := by
  have c := checkRoom_spec s room
  unfold wyV wyE
  by_cases h0 : rmE s room = 0
  · rw [h0] at c
    rw [if_pos h0, if_pos h0]
    obtain ⟨h1, h2⟩ := rm_0 h0
    have hs := scB_iff.1 h1
    obtain ⟨e1, e2⟩ := rm_nat hs h2
    have w := atWork_spec s hs
    have t := why_spec s hs room.toNat e2
    rw [← e1] at t
    cases hT : whyP s room.toNat with
    | none =>
      rw [hT] at t
      exact APure.weak (r := .tup [.nil, .int .i64 8]) (APure.vc Tryz.func20 rfl (.call (.int .i64 0) <| .call (encX s (crsP s)) <| .call (.tup [.nil, .bool false]) .nil) rfl rfl ⟨c, w, t, trivial, by kernel_rfl⟩) VRel.tupNil
    | some ds =>
      rw [hT] at t
      exact APure.vc Tryz.func20 rfl (.call (.int .i64 0) <| .call (encX s (crsP s)) <| .call (.tup [encR ds, .bool true]) .nil) rfl rfl ⟨c, w, t, trivial, by kernel_rfl⟩
  · have hne : (rmE s room != 0) = true := bne_iff_ne.2 h0
    rw [if_neg h0, if_neg h0]
    generalize rmE s room = E at *
    exact APure.weak (r := .tup [.nil, .int .i64 E]) (APure.vc Tryz.func20 rfl (.call (.int .i64 E) <| .br 13 true .nil) rfl rfl ⟨c, hne, trivial, by kernel_rfl⟩) VRel.tupNil
theorem Against_ok (s : Scn) : APure Tryz.prog 24 [encSc s] (encLe (agV s) (ckE s)) := by
  have c := Check_spec s
  unfold agV
  unfold ckE at c ⊢
  cases h : scB s
  · rw [h] at c
    exact APure.weak (r := .tup [.nil, .int .i64 90]) (APure.vc Tryz.func24 rfl (.call (.int .i64 90) .nil) rfl rfl ⟨c, trivial, by kernel_rfl⟩) VRel.tupNil
  · rw [h] at c
    have hs := scB_iff.1 h
    have w := atWork_spec s hs
    have t := against_spec s hs
    generalize (agP s).getD [] = L at *
    exact APure.vc Tryz.func24 rfl (.call (.int .i64 0) <| .call (encX s (crsP s)) <| .call (encR L) .nil) rfl rfl ⟨c, w, t, trivial, by kernel_rfl⟩
end Go.Proofs.YtjoagmjijbfjkaaGreatDoor
