import Derived.Test.YtjoagmjijbfjkaaGreatDoorR11
import Derived.Test.YtjoagmjijbfjkaaGreatDoorXG
import Derived.Test.YtjoagmjijbfjkaaGreatDoorNU
import Derived.Test.YtjoagmjijbfjkaaGreatDoorSJ
import Derived.Test.YtjoagmjijbfjkaaGreatDoorTR
import Derived.Test.YtjoagmjijbfjkaaGreatDoorAm28
/-
  THE REFERENCE: the rooms, and what is named.
-/
namespace Go.Proofs.YtjoagmjijbfjkaaGreatDoor
open Go Go.Am
set_option maxRecDepth 100000
set_option maxHeartbeats 4000000
theorem rmK_all {s : Scn} (hs : ScOk s) : rmK s (allN s) (nR s) = roomsP s := by
  unfold rmK roomsP roomsN
  congr 1
  refine List.filter_congr fun r hr => ?_
  exact some_ex hs (allN s) (List.mem_range.1 hr)
theorem RRooms_ok (s : Scn) : APure Tryz.prog 29 [encSc s] (encLe (rsV s) (ckE s)) := by
  have sc := RScene_spec s
  unfold rsV ckE
  cases h1 : scB s
  · rw [h1] at sc
    exact APure.weak (r := .tup [.nil, .int .i64 90]) (APure.vc Tryz.func29 rfl (.call (.bool false) .nil) rfl rfl ⟨sc, trivial, by kernel_rfl⟩) VRel.tupNil
  rw [h1] at sc
  have hs := scB_iff.1 h1
  have hml := hs.ml
  have ev := every_spec s (by omega)
  have ro := rooms_spec s hs (allN s) (set_lt hs)
  rw [rmK_all hs] at ro
  rw [if_pos rfl, if_pos rfl]
  exact APure.vcM Tryz.func29 (.call (.bool true) <| .draw 3 <| .call (.int .i64 ((allN s : Nat) : Int)) <| .lent (encR (roomsP s)) [] .nil) rfl (by kernel_rfl) ⟨sc, by kernel_rfl, mixed, by kernel_rfl, ev, by kernel_rfl, ⟨_, by kernel_rfl, .inr ro⟩, [], by kernel_rfl⟩
theorem RNamed_ok (s : Scn) : APure Tryz.prog 30 [encSc s] (.tup [.int .i64 (nmV s).1, .int .i64 (nmV s).2]) := by
  have ro := RRooms_ok s
  unfold rsV ckE at ro
  unfold nmV
  cases h1 : scB s
  · rw [h1] at ro
    exact APure.vc Tryz.func30 rfl (.call (encLe [] 90) .nil) rfl rfl ⟨ro, trivial, by kernel_rfl⟩
  rw [h1] at ro
  rw [if_pos rfl, if_pos rfl] at ro
  rw [if_pos rfl]
  generalize roomsP s = l at *
  match l, ro with
  | [], ro => exact APure.vc Tryz.func30 rfl (.call (encLe [] 0) .nil) rfl rfl ⟨ro, trivial, by kernel_rfl⟩
  | [x], ro => exact APure.vc Tryz.func30 rfl (.call (encLe [x] 0) .nil) rfl rfl ⟨ro, trivial, by kernel_rfl⟩
  | x :: y :: l, ro =>
    have c : decide ((((x :: y :: l).map encI).length : Int) > 1) = true := decide_eq_true (by rw [List.length_map, List.length_cons, List.length_cons]; omega)
    exact APure.vc Tryz.func30 rfl (.call (encLe (x :: y :: l) 0) <| .br 19 true .nil) rfl rfl ⟨ro, c, trivial, by kernel_rfl⟩
end Go.Proofs.YtjoagmjijbfjkaaGreatDoor
/-
  THE REFERENCE: the first truth is the program's. Plain.
-/
namespace Go.Proofs.YtjoagmjijbfjkaaGreatDoor
open Go Go.Am
set_option maxRecDepth 100000
set_option maxHeartbeats 4000000
theorem bef_asym : ∀ {a b : List Int}, befD a b → ¬ befD b a := by
  intro a
  induction a with
  | nil => intro b h; cases b <;> cases h
  | cons x a ih =>
    intro b h q
    cases b with
    | nil => cases h
    | cons y b =>
      rcases h with h | ⟨h1, h2⟩
      · rcases q with q | ⟨q1, _⟩ <;> omega
      · rcases q with q | ⟨_, q2⟩
        · omega
        · exact ih h2 q2
theorem wnd_true {s : Scn} (hs : ScOk s) {room : Nat} (hr : room < nR s) {t : Int} {ds : List Int} (hd : areD (gSp s.gates) ds) : inS (wndR s.fin (rowP s ds room) s.marks (allN s)) t ↔ trueB s room t ds := by
  rw [wnd_win hs hd hr, true_iff hs hr]
  exact ⟨fun h => ⟨hd, h⟩, fun h => h.2⟩
theorem tru_first {s : Scn} (hs : ScOk s) {room : Nat} (hr : room < nR s) {t : Int} {k : Nat} {ds : List Int} (hk : (allD (gSp s.gates))[k]? = some ds)
    (hno : ∀ j e, j < k → (allD (gSp s.gates))[j]? = some e → ¬ trueB s room t e) (hy : trueB s room t ds) : truP s room t = some ds := by
  cases h : truP s room t with
  | none => exact absurd ((told_true hs hr).2 ⟨ds, hy⟩) ((tru_none hs hr).1 h)
  | some d =>
    obtain ⟨q1, q2⟩ := tru_some hs hr h
    rcases q2 ds hy with e | e
    · rw [e]
    · exfalso
      obtain ⟨j, hj⟩ := List.mem_iff_getElem?.1 ((mem_all hs).2 q1.2.1)
      have hjl := (List.getElem?_eq_some_iff.1 hj).1
      have hkl := (List.getElem?_eq_some_iff.1 hk).1
      rcases Nat.lt_trichotomy j k with p | p | p
      · exact hno j d p hj q1
      · subst p; rw [hj] at hk; cases hk; exact bef_asym e e
      · have hp := List.pairwise_iff_getElem.1 (all_ord (gSp s.gates)) k j hkl hjl p
        rw [List.getElem?_eq_getElem hkl] at hk
        rw [List.getElem?_eq_getElem hjl] at hj
        cases hk; cases hj
        exact bef_asym e hp
theorem tru_no {s : Scn} (hs : ScOk s) {room : Nat} (hr : room < nR s) {t : Int} (hno : ∀ e ∈ allD (gSp s.gates), ¬ trueB s room t e) : truP s room t = none := by
  refine (tru_none hs hr).2 fun h => ?_
  obtain ⟨e, he⟩ := (told_true hs hr).1 h
  exact hno e ((mem_all hs).2 he.2.1) he
end Go.Proofs.YtjoagmjijbfjkaaGreatDoor
/-
  THE REFERENCE's minutes, marked one by one, and their runs: plain.
-/
namespace Go.Proofs.YtjoagmjijbfjkaaGreatDoor
open Go Go.Am
set_option maxRecDepth 100000
set_option maxHeartbeats 4000000
theorem ovl_bd (w : Mrk → Spn) : ∀ (l : List Mrk) (a : Spn), a.1 ≤ (l.foldl (fun a m => overV a (w m)) a).1 ∧ (l.foldl (fun a m => overV a (w m)) a).2 ≤ a.2 := by
  intro l
  induction l with
  | nil => intro a; exact ⟨Int.le_refl _, Int.le_refl _⟩
  | cons m l ih =>
    intro a
    obtain ⟨h1, h2⟩ := ih (overV a (w m))
    rw [List.foldl_cons]
    have q1 : a.1 ≤ (overV a (w m)).1 := by show a.1 ≤ max a.1 (w m).1; omega
    have q2 : (overV a (w m)).2 ≤ a.2 := by show min a.2 (w m).2 ≤ a.2; omega
    exact ⟨Int.le_trans q1 h1, Int.le_trans h2 q2⟩
def wnS (s : Scn) (set room : Nat) (ds : List Int) : Spn := wndR s.fin (rowP s ds room) s.marks set
theorem wnS_bd (s : Scn) (set room : Nat) (ds : List Int) : 0 ≤ (wnS s set room ds).1 ∧ (wnS s set room ds).2 ≤ s.fin :=
  ovl_bd (fun m => windV 1000000 m s.fin (rowP s ds room m.room) (rowP s ds room m.other)) _ (0, s.fin)
/-- What the first lists of delays allow. -/
def canB (s : Scn) (set room k : Nat) (m : Nat) : Bool := ((allD (gSp s.gates)).take k).any fun ds => inB (wnS s set room ds).1 (wnS s set room ds).2 (m : Int)
theorem can_zero (s : Scn) (set room : Nat) : canB s set room 0 = fun _ => false := rfl
theorem can_succ {s : Scn} {set room k : Nat} {ds : List Int} (h : (allD (gSp s.gates))[k]? = some ds) : canB s set room (k + 1) = fun m => canB s set room k m || inB (wnS s set room ds).1 (wnS s set room ds).2 (m : Int) := by
  funext m
  unfold canB
  rw [take_snoc h, List.any_append, List.any_cons, List.any_nil, Bool.or_false]
def inn (f : Nat → Bool) (lo : Int) (t : Nat) : Nat → Bool := fun m => f m || inB lo (lo + t - 1) (m : Int)
theorem inB_no {lo hi n : Int} (h : ¬ (lo ≤ n ∧ n ≤ hi)) : inB lo hi n = false := decide_eq_false h
theorem inn_zero (f : Nat → Bool) (lo : Int) : inn f lo 0 = f := by
  funext m
  unfold inn
  rw [inB_no (by omega), Bool.or_false]
theorem inn_succ {f : Nat → Bool} {lo : Int} {t k : Nat} (h : (k : Int) = lo + t) : inn f lo (t + 1) = fun m => inn f lo t m || m == k := by
  funext m
  unfold inn
  rw [Bool.eq_iff_iff]
  simp only [Bool.or_eq_true, inB_iff, beq_iff_eq]
  constructor
  · rintro (q | q)
    · exact .inl (.inl q)
    · by_cases e : m = k
      · exact .inr e
      · exact .inl (.inr (by omega))
  · rintro ((q | q) | q)
    · exact .inl q
    · exact .inr (by omega)
    · exact .inr (by omega)
theorem inn_end {f : Nat → Bool} {lo hi : Int} {t : Nat} (h : lo + t > hi) (h2 : t = 0 ∨ lo + t ≤ hi + 1) : inn f lo t = fun m => f m || inB lo hi (m : Int) := by
  funext m
  unfold inn
  rw [Bool.eq_iff_iff]
  simp only [Bool.or_eq_true, inB_iff]
  constructor
  · rintro (q | q)
    · exact .inl q
    · exact .inr (by omega)
  · rintro (q | q)
    · exact .inl q
    · exact .inr (by omega)
def boL (f : Nat → Bool) (n : Nat) : List Bool := (List.range n).map f
theorem boL_len (f : Nat → Bool) (n : Nat) : (boL f n).length = n := by unfold boL; rw [List.length_map, List.length_range]
theorem boL_get {f : Nat → Bool} {n k : Nat} (h : k < n) : (boL f n)[k]? = some (f k) := by
  unfold boL; rw [List.getElem?_map, List.getElem?_range h]; rfl
theorem boL_set {f : Nat → Bool} {n k : Nat} : (boL f n).set k true = boL (fun m => f m || m == k) n := by
  refine List.ext_getElem? fun i => ?_
  rw [List.getElem?_set]
  by_cases hi : i < n
  · rw [boL_get (f := fun m => f m || m == k) hi, boL_get hi, boL_len]
    by_cases e : k = i
    · subst e; rw [if_pos rfl, if_pos hi]; simp
    · rw [if_neg e]
      have : (i == k) = false := beq_eq_false_iff_ne.2 fun q => e q.symm
      rw [this, Bool.or_false]
  · have h1 : (boL f n)[i]? = none := List.getElem?_eq_none (by rw [boL_len]; omega)
    have h2 : (boL (fun m => f m || m == k) n)[i]? = none := List.getElem?_eq_none (by rw [boL_len]; omega)
    rw [h1, h2, boL_len]
    by_cases e : k = i
    · rw [if_pos e, if_neg (by omega)]
    · rw [if_neg e]
theorem boL_rep (n : Nat) : boL (fun _ => false) n = List.replicate n false := by
  unfold boL
  rw [List.map_const', List.length_range]
/-! ### runs -/
theorem runV_no {f : Nat → Bool} {k : Nat} (h : f k = false) : runV f (k + 1) = runV f k := by
  show nxtR f k (runV f k) = _
  unfold nxtR
  rw [h]
  rfl
theorem runV_new {f : Nat → Bool} {k : Nat} (h : f k = true) (h2 : (k == 0 || !f (k - 1)) = true) : runV f (k + 1) = runV f k ++ [((k : Int), (k : Int))] := by
  show nxtR f k (runV f k) = _
  unfold nxtR
  rw [h, h2]
  simp
theorem runV_more {f : Nat → Bool} {k : Nat} (h : f k = true) (h2 : (k == 0 || !f (k - 1)) = false) : ∃ (p : List Spn) (t : Spn), runV f k = p ++ [t] ∧ runV f (k + 1) = p ++ [(t.1, (k : Int))] := by
  have hk : k ≠ 0 := fun e => by subst e; cases h2
  obtain ⟨j, rfl⟩ : ∃ j, k = j + 1 := ⟨k - 1, by omega⟩
  have hj : f j = true := by
    have := (Bool.or_eq_false_iff.1 h2).2
    simpa using this
  obtain ⟨p, t, e, _⟩ := (runV_ok f (j + 1)).2.2.2.1 j rfl hj
  refine ⟨p, t, e, ?_⟩
  show nxtR f (j + 1) (runV f (j + 1)) = _
  unfold nxtR
  rw [h, h2, e]
  simp
theorem runV_len (f : Nat → Bool) : ∀ k, (runV f k).length ≤ k := by
  intro k
  induction k with
  | zero => exact Nat.le_refl _
  | succ k ih =>
    cases h : f k
    · rw [runV_no h]; omega
    · cases h2 : (k == 0 || !f (k - 1))
      · obtain ⟨p, t, e1, e2⟩ := runV_more h h2
        rw [e1, List.length_append] at ih
        rw [e2, List.length_append]
        have : [t].length = [(t.1, (k : Int))].length := rfl
        omega
      · rw [runV_new h h2, List.length_append]
        show _ + 1 ≤ _; omega
theorem run_told {s : Scn} (hs : ScOk s) {room : Nat} (hr : room < nR s) : runV (canB s (allN s) room (allD (gSp s.gates)).length) (s.fin + 1).toNat = toldP s room := by
  obtain ⟨r1, r2, _⟩ := runV_ok (canB s (allN s) room (allD (gSp s.gates)).length) (s.fin + 1).toNat
  have hf := hs.fin
  refine canS_ext r1 (told_ok s room).1 fun n => ?_
  rw [r2, told_true hs hr]
  constructor
  · rintro ⟨m, rfl, _, h⟩
    unfold canB at h
    rw [List.take_length] at h
    obtain ⟨ds, h1, h2⟩ := List.any_eq_true.1 h
    exact ⟨ds, (wnd_true hs hr ((mem_all hs).1 h1)).1 (inB_iff.1 h2)⟩
  · rintro ⟨ds, h⟩
    have hd := ((true_iff hs hr).1 h).1
    have hw := (wnd_true hs hr hd).2 h
    obtain ⟨b1, b2⟩ := wnS_bd s (allN s) room ds
    have q1 : (wnS s (allN s) room ds).1 ≤ n := hw.1
    have q2 : n ≤ (wnS s (allN s) room ds).2 := hw.2
    refine ⟨n.toNat, by omega, by omega, ?_⟩
    unfold canB
    rw [List.take_length]
    refine List.any_eq_true.2 ⟨ds, (mem_all hs).2 hd, inB_iff.2 ⟨?_, ?_⟩⟩ <;> omega
end Go.Proofs.YtjoagmjijbfjkaaGreatDoor
/-
  THE REFERENCE: the minutes that can be.
-/
namespace Go.Proofs.YtjoagmjijbfjkaaGreatDoor
open Go Go.Am
set_option maxRecDepth 100000
set_option maxHeartbeats 4000000
def encBo (b : Bool) : List AV := [.bool b]
def bLs (l : List Bool) : List AV := fl encBo l
theorem bLs_eq (l : List Bool) : bLs l = l.map fun x => .bool x := by
  unfold bLs fl
  induction l with
  | nil => rfl
  | cons a l ih => rw [List.flatMap_cons, ih]; rfl
theorem bLs_ok (n : Nat) (l : List Bool) : okL n (bLs l) = true := fl_ok (enc := encBo) (fun _ => rfl) l
theorem bLs_len (l : List Bool) : (bLs l).length = l.length := by rw [bLs_eq, List.length_map]
theorem mkBs {id n : Nat} (hn : n ≤ 1000) : aMakeSlice Tryz.prog id 99 (.int .i64 n) (.int .i64 n) = some ⟨.rsl id 0 n 1, [(id, some (.cells (bLs (List.replicate n false))))]⟩ := by
  have e : rep n [.bool false] = bLs (List.replicate n false) := by
    induction n with
    | zero => rfl
    | succ n ih => rw [List.replicate_succ]; show [AV.bool false] ++ rep n [.bool false] = _; rw [ih (by omega)]; rfl
  rw [← e]
  simp only [aMakeSlice, ty99, ty4]
  rw [if_pos ⟨trivial, by omega, by omega, by simp; omega, by omega, rfl⟩]
  simp
theorem ixBs {h : Nat → Option AObj} {id n k : Nat} {i : Int} (hi : i = (k : Int)) (hk : k < n) : (aindexAddr Tryz.prog h 99 (.rsl id 0 n 1) (.int .i64 i)).map (fun v => (⟨v, []⟩ : Out)) = some ⟨.vptr id k, []⟩ := by
  subst hi
  simp only [aindexAddr, ty99, ty4]
  rw [if_pos ⟨trivial, Int.natCast_nonneg _, by simpa using hk⟩]
  simp
theorem stBs {h : Nat → Option AObj} {id k : Nat} {l : List Bool} {x : Bool} (h0 : h id = some (.cells (bLs l))) (hk : k < l.length) :
    aStore Tryz.prog h 4 (.vptr id k) (.bool x) = some ⟨.undef, [(id, some (.cells (bLs (l.set k x))))]⟩ := by
  have e : splice (bLs l) k [.bool x] = bLs (l.set k x) := by
    show (bLs l).set k _ = _
    rw [bLs_eq, bLs_eq, List.map_set]
  have hl : k + 1 ≤ (bLs l).length := by rw [bLs_len]; omega
  simp only [aStore, ty4, acells, h0]
  rw [if_pos ⟨rfl, hl, rfl⟩, e]
def encBs (l : List Bool) : AV := .lst 1 (l.map encBo)
theorem thawF_bs {h : Nat → Option AObj} {id : Nat} {l : List Bool} (h0 : h id = some (.cells (bLs l))) : thawF 8 h (.rsl id 0 l.length 1) = some (encBs l, [id]) :=
  thawF_fl (enc := encBo) (n := 1) 6 (fun _ => rfl) (fun _ _ hc => by obtain rfl := List.mem_singleton.1 hc; rfl) h0
def nF (s : Scn) : Nat := (s.fin + 1).toNat
theorem can_D (s : Scn) (hs : ScOk s) (hg : 0 < s.gates.length) (set : Nat) (hset : set < 4096) (room : Nat) (hroom : room < nR s) : APureF Tryz.prog 55 [encSc s, .int .i64 (set : Int), .int .i64 (room : Int)] (encBs (boL (canB s set room (allD (gSp s.gates)).length) (nF s))) := by
  have h729 := all_729 hs
  have hg6 := hs.gl
  have hfin := hs.fin
  have hnF : ((nF s : Nat) : Int) = s.fin + 1 := by unfold nF; omega
  have hLl : (leastD (gSp s.gates)).length = s.gates.length := by unfold leastD gSp; rw [List.length_map, List.length_map]
  have emk : IntKind.i64.wrap (s.fin + 1) = ((nF s : Nat) : Int) := by rw [wrap64 (by omega) (by omega), hnF]
  have mk := mkBs (id := 1) (n := nF s) (by omega)
  rw [← boL_rep, ← emk] at mk
  have hcan0 := can_zero s set room
  rw [← hcan0] at mk
  refine APureF.vcM Tryz.func55 (.val 15 (.rsl 1 0 (nF s) 1) [(1, some (.cells (bLs (boL (canB s set room 0) (nF s)))))] <| .inl Tryz.f58 .loop) (by kernel_rfl) rfl ⟨Eq.trans (by kernel_rfl) mk, Tryz.func58, ?_⟩
  intro g hn hlo
  replace hn : g.n = 23 := hn
  replace hlo : g.low 2 := hlo
  refine acode_whileW (fun k : Nat => ⟨[(1, .vptr 2 0), (3, .rsl 3 0 ((leastD (gSp s.gates)).take k).length 1), (4, .int .i64 k)], [(0, .cells (cSc s)), (1, .cells (bLs (boL (canB s set room 0) (nF s)))), (2, .cells (cSc s)), (3, .cells (iL ((leastD (gSp s.gates)).take k)))], 4⟩) (fun k => k ≤ s.gates.length) (fun k => s.gates.length - k) 0 (Nat.zero_le _) ?_ ?_
  · refine Wk.trans (Wk.le ?_ (hlo.mono (show 2 ≤ 4 by decide))) (Wk.own 3 1 (by kernel_rfl))
    exact St.le.of ⟨by kernel_rfl, rfl, by kernel_rfl, rfl, by kernel_rfl, rfl, trivial⟩ ⟨by kernel_rfl, (by decide : (0 : Nat) < 4), by kernel_rfl, by kernel_rfl, (by decide : (1 : Nat) < 4), bLs_ok _ _, by kernel_rfl, (by decide : (2 : Nat) < 4), by kernel_rfl, by kernel_rfl, (by decide : (3 : Nat) < 4), rfl, trivial⟩
  · intro k hk
    replace hk : k ≤ s.gates.length := hk
    by_cases hlt : k < s.gates.length
    · refine Exists.elim (getE hlt) fun x hx => ?_
      have ek := congrArg (AV.int .i64) (succ64 (k := k) (by omega))
      have hlx : (leastD (gSp s.gates))[k]? = some x.lo := by unfold leastD gSp; rw [List.getElem?_map, List.getElem?_map, hx]; rfl
      have es := take_snoc hlx
      have el : ((leastD (gSp s.gates)).take (k + 1)).length = ((leastD (gSp s.gates)).take k).length + 1 := by rw [es]; simp
      have ap := fun (h : Nat → Option AObj) (j nid : Nat) (q1 : h 3 = some (.cells (iL ((leastD (gSp s.gates)).take k)))) (q2 : h j = some (.cells [.int .i64 x.lo])) => app_one (h := h) (i := 3) (j := j) (nid := nid) (l := (leastD (gSp s.gates)).take k) (x := x.lo) q1 q2 (by rw [List.length_take]; omega)
      rw [← es, ← el] at ap
      exact ACode.vcM (.br 9 true <| .cells (cGt x) <| .val 21 (.rsl 5 0 ((leastD (gSp s.gates)).take (k + 1)).length 1) [(3, none), (5, some (.cells (iL ((leastD (gSp s.gates)).take (k + 1)))))] .nil) hn hlo (.roundW .cl) ⟨ltLen hlt, idx hx, Eq.trans (by kernel_rfl) (ap (hget [(3, .cells (iL ((leastD (gSp s.gates)).take k))), (4, .cells [.int .i64 x.lo])]) 4 5 rfl rfl), k + 1, hlt, mu1 hlt,
        Wk.ren (c := 3) (b := 5) (St.ren.of rfl (by decide) ⟨.inl ⟨by kernel_rfl, rfl⟩, .inr ⟨_, _, _, rfl, by kernel_rfl⟩, .inl ⟨Eq.trans (by kernel_rfl) ek, rfl⟩, trivial⟩
          ⟨.inl ⟨(by decide : (0 : Nat) < 3), by kernel_rfl, by kernel_rfl⟩, .inl ⟨(by decide : (1 : Nat) < 3), by kernel_rfl, bLs_ok _ _⟩, .inl ⟨(by decide : (2 : Nat) < 3), by kernel_rfl, by kernel_rfl⟩, .inr ⟨rfl, by kernel_rfl, _, rfl, iL_ok _ _⟩, trivial⟩) (hlo.mono (show 2 ≤ 3 by decide))⟩
    · have hk' : k = s.gates.length := by omega
      have e3 : AV.rsl 3 0 ((leastD (gSp s.gates)).take k).length 1 = .rsl 3 0 s.gates.length 1 := by rw [List.length_take, hk', hLl, Nat.min_self]
      obtain ⟨⟨t0, et0⟩, _⟩ := all_run (sp_le hs)
      have e9 : some (AObj.cells (iL ((leastD (gSp s.gates)).take k))) = some (.cells (iL (dsK s 0))) := by
        rw [hk', ← hLl, List.take_length]; unfold dsK; rw [et0]; rfl
      have e6 : AV.bool true = .bool (moreK s 0) := by unfold moreK; rw [et0]; rfl
      refine ACode.vcM (.br 9 false .nil) hn hlo (.roundW .cl) ⟨geLen hlt, _, .refl _, .loop, ?_⟩
      intro g hn hlo
      replace hn : g.n = 41 := hn
      replace hlo : g.low 0 := hlo
      refine acode_while (fun k : Nat => ⟨[(1, .int .i64 (set : Int)), (2, .int .i64 (room : Int)), (3, .vptr 0 0), (7, .rsl 1 0 (nF s) 1), (8, .rsl 3 0 s.gates.length 1), (9, .bool (moreK s k))], [(0, .cells (cSc s)), (1, .cells (bLs (boL (canB s set room k) (nF s)))), (3, .cells (iL (dsK s k)))], 4⟩) (fun k => k ≤ (allD (gSp s.gates)).length) (fun k => (allD (gSp s.gates)).length - k) 0 (Nat.zero_le _) ?_ (fun _ _ => hlo.mono (Nat.zero_le _)) ?_
      · exact St.le.of ⟨by kernel_rfl, rfl, by kernel_rfl, rfl, by kernel_rfl, rfl, by kernel_rfl, rfl, Eq.trans (by kernel_rfl) e3, rfl, Eq.trans (by kernel_rfl) e6, rfl, trivial⟩ ⟨by kernel_rfl, (by decide : (0 : Nat) < 4), by kernel_rfl, by kernel_rfl, (by decide : (1 : Nat) < 4), bLs_ok _ _, Eq.trans (by kernel_rfl) e9, (by decide : (3 : Nat) < 4), iL_ok _ _, trivial⟩
      · intro k hk
        replace hk : k ≤ (allD (gSp s.gates)).length := hk
        by_cases hlt : k < (allD (gSp s.gates)).length
        · obtain ⟨ds, R⟩ := rnd_of hs hlt
          have hm : moreK s k = true := decide_eq_true hlt
          have hdl := ds_len hs R.are
          have hE0 : ∀ e ∈ edgs s.gates ds, 0 ≤ e.2.2 := fun e he => (gok_of hs R.are).lo e.1 e.2.1 e.2.2 (.inl he)
          have hfar := rfar_spec s hs ds R.are hroom
          have bo := rboth_spec s hs (rowP s ds room) (bd_bell hE0 (bd_bas room) _) set hset
          have tc := fun (h : Nat → Option AObj) (h0 : h 3 = some (.cells (iL (dsK s k)))) => (show thawL h [encSc s, .rsl 3 0 s.gates.length 1, .int .i64 (room : Int)] = some ([encSc s, encR ds, .int .i64 (room : Int)], [3]) by
            rw [R.now] at h0
            have e := thaw_fl (enc := encI) (n := 1) 6 (fun _ => rfl) (fun _ => rfl) h0
            rw [hdl] at e
            have e1 : thaw 8 h (encSc s) = some (encSc s, []) := by unfold thaw; exact if_pos rfl
            have e2 : thaw 8 h (.int .i64 (room : Int)) = some (.int .i64 (room : Int), []) := by unfold thaw; exact if_pos rfl
            simp only [thawL, mapO, e, e1, e2]; rfl)
          have en : some (AObj.cells (iL (dsK s k))) = some (.cells (iL ds)) := by rw [R.now]
          have mutC := rnext_mut s ds (N := s.gates.length) hdl.symm hdl (by omega) (ds_bd hs R.are)
          have e6 : AV.bool (nextD (gSp s.gates) ds).isSome = .bool (moreK s (k + 1)) := by rw [R.isS]
          obtain ⟨wb1, wb2⟩ := wnS_bd s set room ds
          have wsucc := can_succ (s := s) (set := set) (room := room) R.get
          unfold wnS at wb1 wb2 wsucc
          generalize wndR s.fin (rowP s ds room) s.marks set = W at *
          generalize rowI (nR s) (rowP s ds room) = RW at *
          obtain ⟨F, hF⟩ : ∃ F, F = canB s set room k := ⟨_, rfl⟩
          obtain ⟨F', hF'⟩ : ∃ F', F' = canB s set room (k + 1) := ⟨_, rfl⟩
          have i0 : AV.int .i64 W.1 = .int .i64 (W.1 + ((0 : Nat) : Int)) := by rw [Int.natCast_zero, Int.add_zero]
          have c0 : some (AObj.cells (bLs (boL (canB s set room k) (nF s)))) = some (.cells (bLs (boL (inn F W.1 0) (nF s)))) := by rw [inn_zero, hF]
          refine ACode.vcM (.br 18 true <| .draw 8 <| .lent (encR RW) [3] <| .call (encSp W) <| .loop) hn hlo (.round .cl) ⟨hm, by kernel_rfl, mixed, by kernel_rfl, ⟨_, tc _ (by kernel_rfl), .inr hfar⟩, bo, by kernel_rfl, ?_⟩
          intro g hn hlo
          replace hn : g.n = 41 := hn
          replace hlo : g.low 0 := hlo
          refine acode_while (fun t : Nat => ⟨[(1, .int .i64 (set : Int)), (2, .int .i64 (room : Int)), (3, .vptr 0 0), (7, .rsl 1 0 (nF s) 1), (8, .rsl 3 0 s.gates.length 1), (10, .vptr 11 0), (11, .int .i64 (W.1 + (t : Int)))], [(0, .cells (cSc s)), (1, .cells (bLs (boL (inn F W.1 t) (nF s)))), (3, .cells (iL (dsK s k))), (11, .cells (cSp W))], 13⟩) (fun t => t = 0 ∨ W.1 + (t : Int) ≤ W.2 + 1) (fun t => (W.2 + 1 - W.1).toNat - t) 0 (.inl rfl) ?_ (fun _ _ => hlo.mono (Nat.zero_le _)) ?_
          · exact St.le.of ⟨by kernel_rfl, rfl, by kernel_rfl, rfl, by kernel_rfl, rfl, by kernel_rfl, rfl, by kernel_rfl, rfl, by kernel_rfl, rfl, Eq.trans (by kernel_rfl) i0, rfl, trivial⟩ ⟨by kernel_rfl, (by decide : (0 : Nat) < 13), by kernel_rfl, Eq.trans (by kernel_rfl) c0, (by decide : (1 : Nat) < 13), bLs_ok _ _, by kernel_rfl, (by decide : (3 : Nat) < 13), iL_ok _ _, by kernel_rfl, (by decide : (11 : Nat) < 13), by kernel_rfl, trivial⟩
          · intro t ht
            replace ht : t = 0 ∨ W.1 + (t : Int) ≤ W.2 + 1 := ht
            by_cases hlw : W.1 + (t : Int) ≤ W.2
            · have c34 : decide (W.1 + (t : Int) ≤ W.2) = true := decide_eq_true hlw
              have hK : W.1 + (t : Int) = (((W.1 + (t : Int)).toNat : Nat) : Int) := by omega
              have hKn : (W.1 + (t : Int)).toNat < nF s := by omega
              have hKs := inn_succ (f := F) hK.symm
              generalize (W.1 + (t : Int)).toNat = K at *
              have ix := ixBs (h := hget []) (id := 1) hK hKn
              have st := stBs (h := hget [(1, .cells (bLs (boL (inn F W.1 t) (nF s))))]) (id := 1) (l := boL (inn F W.1 t) (nF s)) (k := K) (x := true) rfl (by rw [boL_len]; exact hKn)
              rw [boL_set, ← hKs] at st
              have ew : AV.int .i64 (IntKind.i64.wrap (W.1 + (t : Int) + 1)) = .int .i64 (W.1 + ((t + 1 : Nat) : Int)) := by rw [wrap64 (by omega) (by omega)]; congr 1; omega
              exact ACode.vcM (.br 34 true <| .val 39 (.vptr 1 K) [] <| .val 1 .undef [(1, some (.cells (bLs (boL (inn F W.1 (t + 1)) (nF s)))))] .nil) hn hlo (.round .cl) ⟨c34, Eq.trans (by kernel_rfl) ix, Eq.trans (by kernel_rfl) st, t + 1, .inr (by omega), by show (W.2 + 1 - W.1).toNat - (t + 1) < (W.2 + 1 - W.1).toNat - t; omega,
                St.le.of ⟨by kernel_rfl, rfl, by kernel_rfl, rfl, by kernel_rfl, rfl, by kernel_rfl, rfl, by kernel_rfl, rfl, by kernel_rfl, rfl, Eq.trans (by kernel_rfl) ew, rfl, trivial⟩ ⟨by kernel_rfl, (by decide : (0 : Nat) < 13), by kernel_rfl, by kernel_rfl, (by decide : (1 : Nat) < 13), bLs_ok _ _, by kernel_rfl, (by decide : (3 : Nat) < 13), iL_ok _ _, by kernel_rfl, (by decide : (11 : Nat) < 13), by kernel_rfl, trivial⟩⟩
            · have c34 : decide (W.1 + (t : Int) ≤ W.2) = false := decide_eq_false hlw
              have ce : some (AObj.cells (bLs (boL (inn F W.1 t) (nF s)))) = some (.cells (bLs (boL (canB s set room (k + 1)) (nF s)))) := by
                rw [inn_end (by omega) ht, hF, wsucc]
              exact ACode.vcM (.br 34 false .nil) hn hlo (.round .cl) ⟨c34, _, .refl _, .inl Tryz.f59 <| .nz .nil, Tryz.func59,
                AMutP.use (id := 3) mutC (by kernel_rfl) rfl rfl (iL_ok 0 ds) (fun _ h => (show _ = iL _ from h) ▸ iL_ok 0 _) (Eq.trans (by kernel_rfl) en) fun cs' hQ => ⟨k + 1, hlt, mu1 hlt,
                  St.le.of ⟨by kernel_rfl, rfl, by kernel_rfl, rfl, by kernel_rfl, rfl, by kernel_rfl, rfl, by kernel_rfl, rfl, Eq.trans (by kernel_rfl) e6, rfl, trivial⟩ ⟨by kernel_rfl, (by decide : (0 : Nat) < 4), by kernel_rfl, Eq.trans (by kernel_rfl) ce, (by decide : (1 : Nat) < 4), bLs_ok _ _, Eq.trans (by kernel_rfl) (show some (AObj.cells cs') = some (.cells (iL (dsK s (k + 1)))) by rw [show cs' = iL (nxtL s.gates ds) from hQ, R.nxt]), (by decide : (3 : Nat) < 4), iL_ok _ _, trivial⟩⟩⟩
        · have hm : moreK s k = false := decide_eq_false hlt
          have hk' : k = (allD (gSp s.gates)).length := by omega
          have th := fun (h : Nat → Option AObj) (h0 : h 1 = some (.cells (bLs (boL (canB s set room k) (nF s))))) => (show thawF 8 h (.rsl 1 0 (nF s) 1) = some (encBs (boL (canB s set room (allD (gSp s.gates)).length) (nF s)), [1]) by
            have e := thawF_bs h0
            rw [boL_len, hk'] at e; exact e)
          exact ACode.vcM (.br 18 false .nil) hn hlo (.round .cl) ⟨hm, _, .refl _, .nil, [1], th _ (by kernel_rfl)⟩
theorem can_N (s : Scn) (hs : ScOk s) (hg : s.gates = []) (set : Nat) (hset : set < 4096) (room : Nat) (hroom : room < nR s) : APureF Tryz.prog 55 [encSc s, .int .i64 (set : Int), .int .i64 (room : Int)] (encBs (boL (canB s set room (allD (gSp s.gates)).length) (nF s))) := by
  have hall : allD (gSp s.gates) = [[]] := by rw [hg]; rfl
  have hd : areD (gSp s.gates) [] := (mem_all hs).1 (by rw [hall]; exact List.mem_singleton.2 rfl)
  have hl1 : (allD (gSp s.gates)).length = 1 := by rw [hall]; rfl
  have hget0 : (allD (gSp s.gates))[0]? = some [] := by rw [hall]; rfl
  rw [hl1]
  have hfin := hs.fin
  have hnF : ((nF s : Nat) : Int) = s.fin + 1 := by unfold nF; omega
  have emk : IntKind.i64.wrap (s.fin + 1) = ((nF s : Nat) : Int) := by rw [wrap64 (by omega) (by omega), hnF]
  have mk := mkBs (id := 1) (n := nF s) (by omega)
  rw [← boL_rep, ← emk] at mk
  have hcan0 := can_zero s set room
  rw [← hcan0] at mk
  refine APureF.vcM Tryz.func55 (.val 15 (.rsl 1 0 (nF s) 1) [(1, some (.cells (bLs (boL (canB s set room 0) (nF s)))))] <| .inl Tryz.f58 .loop) (by kernel_rfl) rfl ⟨Eq.trans (by kernel_rfl) mk, Tryz.func58, ?_⟩
  intro g hn hlo
  replace hn : g.n = 23 := hn
  replace hlo : g.low 2 := hlo
  refine acode_while (fun _ : Unit => ⟨[(1, .vptr 2 0), (3, .nil), (4, .int .i64 ((0 : Nat) : Int))], [(0, .cells (cSc s)), (1, .cells (bLs (boL (canB s set room 0) (nF s)))), (2, .cells (cSc s))], 3⟩) (fun _ => True) (fun _ => 0) () trivial ?_ (fun _ _ => hlo.mono (show 2 ≤ 3 by decide)) ?_
  · exact St.le.of ⟨by kernel_rfl, rfl, by kernel_rfl, rfl, by kernel_rfl, rfl, trivial⟩ ⟨by kernel_rfl, (by decide : (0 : Nat) < 3), by kernel_rfl, by kernel_rfl, (by decide : (1 : Nat) < 3), bLs_ok _ _, by kernel_rfl, (by decide : (2 : Nat) < 3), by kernel_rfl, trivial⟩
  · intro _ _
    have hno : decide (((0 : Nat) : Int) < ((s.gates.map cGt).length : Int)) = false := by rw [hg]; rfl
    refine ACode.vcM (.br 9 false .nil) hn hlo (.round .cl) ⟨hno, _, .refl _, .loop, ?_⟩
    intro g hn hlo
    replace hn : g.n = 41 := hn
    replace hlo : g.low 0 := hlo
    refine acode_while (fun b : Bool => ⟨[(1, .int .i64 (set : Int)), (2, .int .i64 (room : Int)), (3, .vptr 0 0), (7, .rsl 1 0 (nF s) 1), (8, .nil), (9, .bool b)], [(0, .cells (cSc s)), (1, .cells (bLs (boL (canB s set room (if b then 0 else 1)) (nF s))))], 3⟩) (fun _ => True) (fun b => if b then 1 else 0) true trivial ?_ (fun _ _ => hlo.mono (Nat.zero_le _)) ?_
    · exact St.le.of ⟨by kernel_rfl, rfl, by kernel_rfl, rfl, by kernel_rfl, rfl, by kernel_rfl, rfl, by kernel_rfl, rfl, by kernel_rfl, rfl, trivial⟩ ⟨by kernel_rfl, (by decide : (0 : Nat) < 3), by kernel_rfl, by kernel_rfl, (by decide : (1 : Nat) < 3), bLs_ok _ _, trivial⟩
    · intro b _
      have hE0 : ∀ e ∈ edgs s.gates [], 0 ≤ e.2.2 := fun e he => (gok_of hs hd).lo e.1 e.2.1 e.2.2 (.inl he)
      have hfar : APureF Tryz.prog 61 [encSc s, .nil, .int .i64 (room : Int)] (encR (rowI (nR s) (rowP s [] room))) := APureF.nilArg (pre := [encSc s]) (post := [.int .i64 (room : Int)]) (n := 1) (rfar_spec s hs [] hd hroom)
      have bo := rboth_spec s hs (rowP s [] room) (bd_bell hE0 (bd_bas room) _) set hset
      have nx := rnextNil_spec s
      obtain ⟨wb1, wb2⟩ := wnS_bd s set room []
      have wsucc := can_succ (s := s) (set := set) (room := room) hget0
      unfold wnS at wb1 wb2 wsucc
      generalize wndR s.fin (rowP s [] room) s.marks set = W at *
      generalize rowI (nR s) (rowP s [] room) = RW at *
      cases b
      · have th := fun (h : Nat → Option AObj) (h0 : h 1 = some (.cells (bLs (boL (canB s set room 1) (nF s))))) => (show thawF 8 h (.rsl 1 0 (nF s) 1) = some (encBs (boL (canB s set room 1) (nF s)), [1]) by
          have e := thawF_bs h0
          rw [boL_len] at e; exact e)
        exact ACode.vcM .nil hn hlo (.round .cl) ⟨_, .refl _, .nil, [1], th _ (by kernel_rfl)⟩
      · obtain ⟨F, hF⟩ : ∃ F, F = canB s set room 0 := ⟨_, rfl⟩
        have i0 : AV.int .i64 W.1 = .int .i64 (W.1 + ((0 : Nat) : Int)) := by rw [Int.natCast_zero, Int.add_zero]
        have c0 : some (AObj.cells (bLs (boL (canB s set room 0) (nF s)))) = some (.cells (bLs (boL (inn F W.1 0) (nF s)))) := by rw [inn_zero, hF]
        refine ACode.vcM (.draw 8 <| .lent (encR RW) [] <| .call (encSp W) <| .loop) hn hlo (.round .cl) ⟨by kernel_rfl, mixed, by kernel_rfl, ⟨_, by kernel_rfl, .inr hfar⟩, bo, by kernel_rfl, ?_⟩
        intro g hn hlo
        replace hn : g.n = 41 := hn
        replace hlo : g.low 0 := hlo
        refine acode_while (fun t : Nat => ⟨[(1, .int .i64 (set : Int)), (2, .int .i64 (room : Int)), (3, .vptr 0 0), (7, .rsl 1 0 (nF s) 1), (8, .nil), (10, .vptr 10 0), (11, .int .i64 (W.1 + (t : Int)))], [(0, .cells (cSc s)), (1, .cells (bLs (boL (inn F W.1 t) (nF s)))), (10, .cells (cSp W))], 12⟩) (fun t => t = 0 ∨ W.1 + (t : Int) ≤ W.2 + 1) (fun t => (W.2 + 1 - W.1).toNat - t) 0 (.inl rfl) ?_ (fun _ _ => hlo.mono (Nat.zero_le _)) ?_
        · exact St.le.of ⟨by kernel_rfl, rfl, by kernel_rfl, rfl, by kernel_rfl, rfl, by kernel_rfl, rfl, by kernel_rfl, rfl, by kernel_rfl, rfl, Eq.trans (by kernel_rfl) i0, rfl, trivial⟩ ⟨by kernel_rfl, (by decide : (0 : Nat) < 12), by kernel_rfl, Eq.trans (by kernel_rfl) c0, (by decide : (1 : Nat) < 12), bLs_ok _ _, by kernel_rfl, (by decide : (10 : Nat) < 12), by kernel_rfl, trivial⟩
        · intro t ht
          replace ht : t = 0 ∨ W.1 + (t : Int) ≤ W.2 + 1 := ht
          by_cases hlw : W.1 + (t : Int) ≤ W.2
          · have c34 : decide (W.1 + (t : Int) ≤ W.2) = true := decide_eq_true hlw
            have hK : W.1 + (t : Int) = (((W.1 + (t : Int)).toNat : Nat) : Int) := by omega
            have hKn : (W.1 + (t : Int)).toNat < nF s := by omega
            have hKs := inn_succ (f := F) hK.symm
            generalize (W.1 + (t : Int)).toNat = K at *
            have ix := ixBs (h := hget []) (id := 1) hK hKn
            have st := stBs (h := hget [(1, .cells (bLs (boL (inn F W.1 t) (nF s))))]) (id := 1) (l := boL (inn F W.1 t) (nF s)) (k := K) (x := true) rfl (by rw [boL_len]; exact hKn)
            rw [boL_set, ← hKs] at st
            have ew : AV.int .i64 (IntKind.i64.wrap (W.1 + (t : Int) + 1)) = .int .i64 (W.1 + ((t + 1 : Nat) : Int)) := by rw [wrap64 (by omega) (by omega)]; congr 1; omega
            exact ACode.vcM (.br 34 true <| .val 39 (.vptr 1 K) [] <| .val 1 .undef [(1, some (.cells (bLs (boL (inn F W.1 (t + 1)) (nF s)))))] .nil) hn hlo (.round .cl) ⟨c34, Eq.trans (by kernel_rfl) ix, Eq.trans (by kernel_rfl) st, t + 1, .inr (by omega), by show (W.2 + 1 - W.1).toNat - (t + 1) < (W.2 + 1 - W.1).toNat - t; omega,
              St.le.of ⟨by kernel_rfl, rfl, by kernel_rfl, rfl, by kernel_rfl, rfl, by kernel_rfl, rfl, by kernel_rfl, rfl, by kernel_rfl, rfl, Eq.trans (by kernel_rfl) ew, rfl, trivial⟩ ⟨by kernel_rfl, (by decide : (0 : Nat) < 12), by kernel_rfl, by kernel_rfl, (by decide : (1 : Nat) < 12), bLs_ok _ _, by kernel_rfl, (by decide : (10 : Nat) < 12), by kernel_rfl, trivial⟩⟩
          · have c34 : decide (W.1 + (t : Int) ≤ W.2) = false := decide_eq_false hlw
            have ce : some (AObj.cells (bLs (boL (inn F W.1 t) (nF s)))) = some (.cells (bLs (boL (canB s set room (if false then 0 else 1)) (nF s)))) := by
              rw [inn_end (by omega) ht, hF]
              rw [show canB s set room (if false = true then 0 else 1) = canB s set room (0 + 1) from rfl, wsucc]
            exact ACode.vcM (.br 34 false .nil) hn hlo (.round .cl) ⟨c34, _, .refl _, .call (.bool false) .nil, nx, false, trivial, by decide,
                St.le.of ⟨by kernel_rfl, rfl, by kernel_rfl, rfl, by kernel_rfl, rfl, by kernel_rfl, rfl, by kernel_rfl, rfl, by kernel_rfl, rfl, trivial⟩ ⟨by kernel_rfl, (by decide : (0 : Nat) < 3), by kernel_rfl, Eq.trans (by kernel_rfl) ce, (by decide : (1 : Nat) < 3), bLs_ok _ _, trivial⟩⟩
theorem can_spec (s : Scn) (hs : ScOk s) (set : Nat) (hset : set < 4096) (room : Nat) (hroom : room < nR s) : APureF Tryz.prog 55 [encSc s, .int .i64 (set : Int), .int .i64 (room : Int)] (encBs (boL (canB s set room (allD (gSp s.gates)).length) (nF s))) := by
  by_cases hg : 0 < s.gates.length
  · exact can_D s hs hg set hset room hroom
  · exact can_N s hs (List.eq_nil_of_length_eq_zero (by omega)) set hset room hroom
end Go.Proofs.YtjoagmjijbfjkaaGreatDoor
/-
  THE REFERENCE: minutes as spans.
-/
namespace Go.Proofs.YtjoagmjijbfjkaaGreatDoor
open Go Go.Am
set_option maxRecDepth 100000
set_option maxHeartbeats 4000000
theorem last_of {l p : List Spn} {t : Spn} (h : l = p ++ [t]) : l.getLast? = some t := by rw [h, List.getLast?_append]; rfl
theorem lenHi {n : Nat} (h : 0 < n) (h2 : n ≤ 1000) : IntKind.i64.wrap ((n : Int) - 1) = ((n - 1 : Nat) : Int) := by rw [wrap64 (by omega) (by omega)]; omega
theorem RMinutes_ok (s : Scn) (room : Int) : APure Tryz.prog 28 [encSc s, .int .i64 room] (.tup [encSps (mnV s room), .int .i64 (rmE s room)]) := by
  have sc := RScene_spec s
  unfold mnV
  cases h1 : scB s
  · rw [h1] at sc
    have e : rmE s room = 90 := by unfold rmE; rw [h1]; rfl
    rw [e]
    exact APure.weak (r := .tup [.nil, .int .i64 90]) (APure.vc Tryz.func28 rfl (.call (.bool false) .nil) rfl rfl ⟨sc, trivial, by kernel_rfl⟩) VRel.tupNil
  rw [h1] at sc
  have hs := scB_iff.1 h1
  have hr := hs.rooms
  have hfin := hs.fin
  have wr := wr_spec s room ⟨by omega, by omega⟩
  cases h2 : isR s.rooms room
  · rw [h2] at wr
    have e : rmE s room = 2 := by unfold rmE; rw [h1, h2]; rfl
    rw [e]
    exact APure.weak (r := .tup [.nil, .int .i64 2]) (APure.vc Tryz.func28 rfl (.call (.bool true) <| .call (.bool false) .nil) rfl rfl ⟨sc, wr, trivial, by kernel_rfl⟩) VRel.tupNil
  rw [h2] at wr
  have e : rmE s room = 0 := by unfold rmE; rw [h1, h2]; rfl
  rw [e, if_pos rfl]
  obtain ⟨e1, e2⟩ := rm_nat hs h2
  have hml := hs.ml
  have ev := every_spec s (by omega)
  have ca := can_spec s hs (allN s) (set_lt hs) room.toNat e2
  have rt := run_told hs e2
  rw [← e1] at ca
  have hnF : ((nF s : Nat) : Int) = s.fin + 1 := by unfold nF; omega
  rw [show (s.fin + 1).toNat = nF s from rfl] at rt
  rw [← rt]
  have hbl := fun (k : Nat) (h : k < nF s) => boL_get (f := canB s (allN s) room.toNat (allD (gSp s.gates)).length) (n := nF s) h
  generalize canB s (allN s) room.toNat (allD (gSp s.gates)).length = f at *
  have hRl : ∀ k, k ≤ nF s → (runV f k).length ≤ 1000 := fun k hk => by have := runV_len f k; omega
  -- a store of the last one's end
  have fin2 : ∀ (k : Nat) (A : List Spn) (t : Spn), A.getLast? = some t → runV f (k + 1) = A.dropLast ++ [(t.1, (k : Int))] → A.length = (runV f (k + 1)).length := fun k A t ht e => by
    rw [e, List.length_append, List.length_dropLast]
    have : 0 < A.length := by cases A with
      | nil => cases ht
      | cons a l => exact Nat.succ_pos _
    show A.length = A.length - 1 + 1; omega
  refine APure.vcM Tryz.func28 (.call (.bool true) <| .call (.bool true) <| .draw 4 <| .call (.int .i64 ((allN s : Nat) : Int)) <| .lent (encBs (boL f (nF s))) [] <| .loop) rfl (by kernel_rfl) ⟨sc, wr, by kernel_rfl, mixed, by kernel_rfl, ev, by kernel_rfl, ⟨_, by kernel_rfl, .inr ca⟩, ?_⟩
  intro g hn hlo
  replace hn : g.n = 62 := hn
  replace hlo : g.low 0 := hlo
  refine acode_whileW (fun k : Nat => ⟨[(1, .int .i64 room), (2, .vptr 0 0), (6, encBs (boL f (nF s))), (7, .rsl 7 0 (runV f k).length 2), (8, .int .i64 k)], [(0, .cells (cSc s)), (7, .cells (fl cSp (runV f k)))], 8⟩) (fun k => k ≤ nF s) (fun k => nF s - k) 0 (Nat.zero_le _) ?_ ?_
  · refine Wk.trans (Wk.le ?_ (hlo.mono (show 0 ≤ 8 by decide))) (Wk.own 7 2 (by kernel_rfl))
    exact St.le.of ⟨by kernel_rfl, rfl, by kernel_rfl, rfl, by kernel_rfl, rfl, by kernel_rfl, rfl, by kernel_rfl, rfl, trivial⟩ ⟨by kernel_rfl, (by decide : (0 : Nat) < 8), by kernel_rfl, by kernel_rfl, (by decide : (7 : Nat) < 8), rfl, trivial⟩
  · intro k hk
    replace hk : k ≤ nF s := hk
    by_cases hlt : k < nF s
    · have ek := congrArg (AV.int .i64) (succ64 (k := k) (by omega))
      have c : decide ((k : Int) ≤ s.fin) = true := decide_eq_true (by omega)
      have hx := hbl k hlt
      have hl1 := hRl k hk
      have hl2 := hRl (k + 1) hlt
      refine (Bool.eq_false_or_eq_true (f k)).symm.elim (fun hf => ?_) (fun hf => ?_)
      · rw [hf] at hx
        have es := runV_no hf
        have e7 : AV.rsl 7 0 (runV f k).length 2 = .rsl 7 0 (runV f (k + 1)).length 2 := by rw [es]
        have o1 : some (AObj.cells (fl cSp (runV f k))) = some (.cells (fl cSp (runV f (k + 1)))) := by rw [es]
        exact ACode.vcM (.br 26 true <| .cells (encBo false) <| .cells (encBo false) .nil) hn hlo (.roundW .cl) ⟨c, idx hx, idx hx, k + 1, hlt, mu1 hlt,
          Wk.le (St.le.of ⟨by kernel_rfl, rfl, by kernel_rfl, rfl, by kernel_rfl, rfl, Eq.trans (by kernel_rfl) e7, rfl, Eq.trans (by kernel_rfl) ek, rfl, trivial⟩ ⟨by kernel_rfl, (by decide : (0 : Nat) < 8), by kernel_rfl, Eq.trans (by kernel_rfl) o1, (by decide : (7 : Nat) < 8), sp_ok _ _, trivial⟩) (hlo.mono (show 0 ≤ 8 by decide))⟩
      · rw [hf] at hx
        -- with a new span
        have new : (k == 0 || !f (k - 1)) = true → ∃ (nothing : Unit), aAppend Tryz.prog (hget [(7, .cells (fl cSp (runV f k))), (8, .cells (cSp ((k : Int), (0 : Int))))]) 9 39 39 (.rsl 7 0 (runV f k).length 2) (.rsl 8 0 1 2) = some ⟨.rsl 9 0 (runV f (k + 1)).length 2, [(7, none), (9, some (.cells (fl cSp (runV f k ++ [((k : Int), (0 : Int))]))))]⟩ ∧
            (aindexAddr Tryz.prog (hget []) 39 (.rsl 9 0 (runV f (k + 1)).length 2) (.int .i64 (IntKind.i64.wrap (((runV f (k + 1)).length : Int) - 1)))).map (fun v => (⟨v, []⟩ : Out)) = some ⟨.vptr 9 (((runV f (k + 1)).length - 1) * 2), []⟩ ∧
            aStore Tryz.prog (hget [(9, .cells (fl cSp (runV f k ++ [((k : Int), (0 : Int))])))]) 3 (.vptr 9 (((runV f (k + 1)).length - 1) * 2 + 1)) (.int .i64 (k : Int)) = some ⟨.undef, [(9, some (.cells (fl cSp (runV f (k + 1)))))]⟩ := fun h => by
          have er := runV_new hf h
          have el : (runV f (k + 1)).length = (runV f k).length + 1 := by rw [er, List.length_append]; rfl
          have ap := app_sp (h := hget [(7, .cells (fl cSp (runV f k))), (8, .cells (cSp ((k : Int), (0 : Int))))]) (i := 7) (j := 8) (nid := 9) (l := runV f k) (x := ((k : Int), (0 : Int))) rfl rfl (by omega)
          rw [← el] at ap
          have ix := ixSp (h := hget []) (id := 9) (lenHi (n := (runV f (k + 1)).length) (by omega) (by omega)) (show (runV f (k + 1)).length - 1 < (runV f (k + 1)).length by omega)
          have st := stHi (h := hget [(9, .cells (fl cSp (runV f k ++ [((k : Int), (0 : Int))])))]) (id := 9) (acc := runV f k ++ [((k : Int), (0 : Int))]) (t := ((k : Int), (0 : Int))) (n := (k : Int)) rfl (last_of rfl)
          rw [List.dropLast_concat, ← er, List.length_append] at st
          rw [show (runV f k).length + [((k : Int), (0 : Int))].length = (runV f (k + 1)).length from el.symm] at st
          exact ⟨(), ap, ix, st⟩
        have old : (k == 0 || !f (k - 1)) = false → ∃ (nothing : Unit), (aindexAddr Tryz.prog (hget []) 39 (.rsl 7 0 (runV f k).length 2) (.int .i64 (IntKind.i64.wrap (((runV f k).length : Int) - 1)))).map (fun v => (⟨v, []⟩ : Out)) = some ⟨.vptr 7 (((runV f k).length - 1) * 2), []⟩ ∧
            aStore Tryz.prog (hget [(7, .cells (fl cSp (runV f k)))]) 3 (.vptr 7 (((runV f k).length - 1) * 2 + 1)) (.int .i64 (k : Int)) = some ⟨.undef, [(7, some (.cells (fl cSp (runV f (k + 1)))))]⟩ ∧ (runV f k).length = (runV f (k + 1)).length := fun h => by
          obtain ⟨p, t, q1, q2⟩ := runV_more hf h
          have ht := last_of q1
          have e3 : runV f (k + 1) = (runV f k).dropLast ++ [(t.1, (k : Int))] := by rw [q1, List.dropLast_concat, q2]
          have el := fin2 k (runV f k) t ht e3
          have hp : 0 < (runV f k).length := by rw [q1, List.length_append]; exact Nat.succ_pos _
          have ix := ixSp (h := hget []) (id := 7) (lenHi (n := (runV f k).length) hp (by omega)) (show (runV f k).length - 1 < (runV f k).length by omega)
          have st := stHi (h := hget [(7, .cells (fl cSp (runV f k)))]) (id := 7) (n := (k : Int)) rfl ht
          rw [← e3] at st
          exact ⟨(), ix, st, el⟩
        have o3 : ∀ i : Nat, AV.rsl i 0 (runV f (k + 1)).length 2 = .rsl i 0 (runV f (k + 1)).length 2 := fun _ => rfl
        by_cases h0 : k = 0
        · have c36 : ((k : Int) == 0) = true := by rw [h0]; rfl
          refine Exists.elim (new (by rw [h0]; rfl)) fun _ hN => ?_
          exact ACode.vcM (.br 26 true <| .cells (encBo true) <| .br 36 true <| .val 49 (.rsl 9 0 (runV f (k + 1)).length 2) [(7, none), (9, some (.cells (fl cSp (runV f k ++ [((k : Int), (0 : Int))]))))] <| .cells (encBo true) <| .val 59 (.vptr 9 (((runV f (k + 1)).length - 1) * 2)) [] <| .val 1 .undef [(9, some (.cells (fl cSp (runV f (k + 1)))))] .nil) hn hlo (.roundW .cl)
            ⟨c, idx hx, c36, Eq.trans (by kernel_rfl) hN.1, idx hx, Eq.trans (by kernel_rfl) hN.2.1, Eq.trans (by kernel_rfl) hN.2.2, k + 1, hlt, mu1 hlt,
            Wk.ren (c := 7) (b := 9) (St.ren.of rfl (by decide) ⟨.inl ⟨by kernel_rfl, rfl⟩, .inl ⟨by kernel_rfl, rfl⟩, .inl ⟨by kernel_rfl, rfl⟩, .inr ⟨_, _, _, rfl, by kernel_rfl⟩, .inl ⟨Eq.trans (by kernel_rfl) ek, rfl⟩, trivial⟩ ⟨.inl ⟨(by decide : (0 : Nat) < 7), by kernel_rfl, by kernel_rfl⟩, .inr ⟨rfl, by kernel_rfl, _, rfl, sp_ok _ _⟩, trivial⟩) (hlo.mono (show 0 ≤ 7 by decide))⟩
        · have c36 : ((k : Int) == 0) = false := beq_eq_false_iff_ne.2 (by omega)
          have hx1 : (boL f (nF s))[k - 1]? = some (f (k - 1)) := hbl (k - 1) (by omega)
          have ei : IntKind.i64.wrap ((k : Int) - 1) = ((k - 1 : Nat) : Int) := by rw [wrap64 (by omega) (by omega)]; omega
          have nk : (k == 0) = false := beq_eq_false_iff_ne.2 h0
          refine (Bool.eq_false_or_eq_true (f (k - 1))).symm.elim (fun hg => ?_) (fun hg => ?_)
          · rw [hg] at hx1
            have ix1 := idxW (enc := encBo) ei hx1
            refine Exists.elim (new (by rw [hg, nk]; rfl)) fun _ hN => ?_
            exact ACode.vcM (.br 26 true <| .cells (encBo true) <| .br 36 false <| .cells (encBo false) <| .val 49 (.rsl 9 0 (runV f (k + 1)).length 2) [(7, none), (9, some (.cells (fl cSp (runV f k ++ [((k : Int), (0 : Int))]))))] <| .cells (encBo true) <| .val 59 (.vptr 9 (((runV f (k + 1)).length - 1) * 2)) [] <| .val 1 .undef [(9, some (.cells (fl cSp (runV f (k + 1)))))] .nil) hn hlo (.roundW .cl)
              ⟨c, idx hx, c36, ix1, Eq.trans (by kernel_rfl) hN.1, idx hx, Eq.trans (by kernel_rfl) hN.2.1, Eq.trans (by kernel_rfl) hN.2.2, k + 1, hlt, mu1 hlt,
              Wk.ren (c := 7) (b := 9) (St.ren.of rfl (by decide) ⟨.inl ⟨by kernel_rfl, rfl⟩, .inl ⟨by kernel_rfl, rfl⟩, .inl ⟨by kernel_rfl, rfl⟩, .inr ⟨_, _, _, rfl, by kernel_rfl⟩, .inl ⟨Eq.trans (by kernel_rfl) ek, rfl⟩, trivial⟩ ⟨.inl ⟨(by decide : (0 : Nat) < 7), by kernel_rfl, by kernel_rfl⟩, .inr ⟨rfl, by kernel_rfl, _, rfl, sp_ok _ _⟩, trivial⟩) (hlo.mono (show 0 ≤ 7 by decide))⟩
          · rw [hg] at hx1
            have ix1 := idxW (enc := encBo) ei hx1
            refine Exists.elim (old (by rw [hg, nk]; rfl)) fun _ hO => ?_
            have e7 : AV.rsl 7 0 (runV f k).length 2 = .rsl 7 0 (runV f (k + 1)).length 2 := by rw [hO.2.2]
            exact ACode.vcM (.br 26 true <| .cells (encBo true) <| .br 36 false <| .cells (encBo true) <| .cells (encBo true) <| .val 59 (.vptr 7 (((runV f k).length - 1) * 2)) [] <| .val 1 .undef [(7, some (.cells (fl cSp (runV f (k + 1)))))] .nil) hn hlo (.roundW .cl)
              ⟨c, idx hx, c36, ix1, idx hx, Eq.trans (by kernel_rfl) hO.1, Eq.trans (by kernel_rfl) hO.2.1, k + 1, hlt, mu1 hlt,
              Wk.le (St.le.of ⟨by kernel_rfl, rfl, by kernel_rfl, rfl, by kernel_rfl, rfl, Eq.trans (by kernel_rfl) e7, rfl, Eq.trans (by kernel_rfl) ek, rfl, trivial⟩ ⟨by kernel_rfl, (by decide : (0 : Nat) < 8), by kernel_rfl, by kernel_rfl, (by decide : (7 : Nat) < 8), sp_ok _ _, trivial⟩) (hlo.mono (show 0 ≤ 8 by decide))⟩
    · have c : decide ((k : Int) ≤ s.fin) = false := decide_eq_false (by omega)
      have hk' : k = nF s := Nat.le_antisymm hk (Nat.le_of_not_lt hlt)
      have th := fun (h : Nat → Option AObj) (hh : h 7 = some (.cells (fl cSp (runV f k)))) => (show thaw 8 h (.tup [.rsl 7 0 (runV f k).length 2, .int .i64 0]) = some (.tup [encSps (runV f (nF s)), .int .i64 0], [7]) by
        have e2 : thaw 7 h (.rsl 7 0 (runV f k).length 2) = some (encSps (runV f k), [7]) := thaw_fl (enc := cSp) (n := 2) 5 (fun _ => rfl) (fun _ => rfl) hh
        have e3 : thaw 7 h (.int .i64 0) = some (.int .i64 0, []) := by unfold thaw; exact if_pos rfl
        have e : thaw 8 h (.tup [.rsl 7 0 (runV f k).length 2, .int .i64 0]) = (mapO (thaw 7 h) [.rsl 7 0 (runV f k).length 2, .int .i64 0]).map fun p => (.tup p.1, p.2) := rfl
        rw [e]
        simp only [mapO, e2, e3]
        rw [hk']; rfl)
      exact ACode.vcM (.br 26 false .nil) hn hlo (.roundW .cl) ⟨c, _, .refl _, .nil, [7], th _ (by kernel_rfl)⟩
end Go.Proofs.YtjoagmjijbfjkaaGreatDoor
/-
  THE REFERENCE: the first truth.
-/
namespace Go.Proofs.YtjoagmjijbfjkaaGreatDoor
open Go Go.Am
set_option maxRecDepth 100000
set_option maxHeartbeats 4000000
theorem tru_out {s : Scn} (hs : ScOk s) {room : Nat} (hr : room < nR s) {t : Int} (h : inB 0 s.fin t = false) : truP s room t = none :=
  tru_no hs hr fun _ _ q => by
    rw [inB_iff.2 q.1] at h; cases h
theorem thaw_Le {h : Nat → Option AObj} {i n : Nat} {ds : List Int} {E : Int} (hn : ds.length = n) (hi : h i = some (.cells (iL ds))) : thaw 8 h (.tup [.rsl i 0 n 1, .int .i64 E]) = some (encLe ds E, [i]) := by
  have e2 : thaw 7 h (.rsl i 0 ds.length 1) = some (encR ds, [i]) := thaw_fl (enc := encI) (n := 1) 5 (fun _ => rfl) (fun _ => rfl) hi
  rw [hn] at e2
  have e3 : thaw 7 h (.int .i64 E) = some (.int .i64 E, []) := by unfold thaw; exact if_pos rfl
  have e : thaw 8 h (.tup [.rsl i 0 n 1, .int .i64 E]) = (mapO (thaw 7 h) [.rsl i 0 n 1, .int .i64 E]).map fun p => (.tup p.1, p.2) := rfl
  rw [e]
  simp only [mapO, e2, e3]
  rfl
theorem inW {s : Scn} (hs : ScOk s) {room : Nat} (hr : room < nR s) {t : Int} {ds : List Int} (hd : areD (gSp s.gates) ds) : inB (wndR s.fin (rowP s ds room) s.marks (allN s)).1 (wndR s.fin (rowP s ds room) s.marks (allN s)).2 t = true ↔ trueB s room t ds := by
  rw [inB_iff]; exact wnd_true hs hr hd
theorem RTruth_D (s : Scn) (hs : ScOk s) (hg : 0 < s.gates.length) (room : Nat) (hroom : room < nR s) (minute : Int) (rT : AV) (hok : rT.ok 0 = true) (hr1 : ∀ ds, truP s room minute = some ds → rT = encLe ds 0) (hr2 : truP s room minute = none → rT = .tup [.nil, .int .i64 91]) : APure Tryz.prog 31 [encSc s, .int .i64 (room : Int), .int .i64 minute] rT := by
  have h729 := all_729 hs
  have hg6 := hs.gl
  have hml := hs.ml
  have sc := RScene_spec s
  rw [scB_iff.2 hs] at sc
  have hrr := hs.rooms
  obtain ⟨hnr, hn1, hn6⟩ := nR_eq hs
  have wr := wr_spec s (room : Int) ⟨by omega, by omega⟩
  have hisr : isR s.rooms (room : Int) = true := inB_iff.2 ⟨by omega, by omega⟩
  rw [hisr] at wr
  have wm := rwithin_spec minute 0 s.fin
  have ev := every_spec s (by omega)
  have hLl : (leastD (gSp s.gates)).length = s.gates.length := by unfold leastD gSp; rw [List.length_map, List.length_map]
  obtain ⟨⟨t0, et0⟩, _⟩ := all_run (sp_le hs)
  have E3 : ∀ k, k = s.gates.length → AV.rsl 2 0 ((leastD (gSp s.gates)).take k).length 1 = .rsl 2 0 s.gates.length 1 := fun k hk' => by rw [List.length_take, hk', hLl, Nat.min_self]
  have E9 : ∀ k, k = s.gates.length → some (AObj.cells (iL ((leastD (gSp s.gates)).take k))) = some (.cells (iL (dsK s 0))) := fun k hk' => by
    rw [hk', ← hLl, List.take_length]; unfold dsK; rw [et0]; rfl
  have e6 : AV.bool true = .bool (moreK s 0) := by unfold moreK; rw [et0]; rfl
  refine APure.vcM Tryz.func31 (.call (.bool true) <| .call (.bool true) <| .inl Tryz.f58 .loop) (by kernel_rfl) hok ⟨sc, wr, Tryz.func58, ?_⟩
  intro g hn hlo
  replace hn : g.n = 23 := hn
  replace hlo : g.low 1 := hlo
  refine acode_whileW (fun k : Nat => ⟨[(1, .vptr 1 0), (3, .rsl 2 0 ((leastD (gSp s.gates)).take k).length 1), (4, .int .i64 k)], [(0, .cells (cSc s)), (1, .cells (cSc s)), (2, .cells (iL ((leastD (gSp s.gates)).take k)))], 3⟩) (fun k => k ≤ s.gates.length) (fun k => s.gates.length - k) 0 (Nat.zero_le _) ?_ ?_
  · refine Wk.trans (Wk.le ?_ (hlo.mono (show 1 ≤ 3 by decide))) (Wk.own 3 1 (by kernel_rfl))
    exact St.le.of ⟨by kernel_rfl, rfl, by kernel_rfl, rfl, by kernel_rfl, rfl, trivial⟩ ⟨by kernel_rfl, (by decide : (0 : Nat) < 3), by kernel_rfl, by kernel_rfl, (by decide : (1 : Nat) < 3), by kernel_rfl, by kernel_rfl, (by decide : (2 : Nat) < 3), rfl, trivial⟩
  · intro k hk
    replace hk : k ≤ s.gates.length := hk
    by_cases hlt : k < s.gates.length
    · refine Exists.elim (getE hlt) fun x hx => ?_
      have ek := congrArg (AV.int .i64) (succ64 (k := k) (by omega))
      have hlx : (leastD (gSp s.gates))[k]? = some x.lo := by unfold leastD gSp; rw [List.getElem?_map, List.getElem?_map, hx]; rfl
      have es := take_snoc hlx
      have el : ((leastD (gSp s.gates)).take (k + 1)).length = ((leastD (gSp s.gates)).take k).length + 1 := by rw [es]; simp
      have ap := fun (h : Nat → Option AObj) (j nid : Nat) (q1 : h 2 = some (.cells (iL ((leastD (gSp s.gates)).take k)))) (q2 : h j = some (.cells [.int .i64 x.lo])) => app_one (h := h) (i := 2) (j := j) (nid := nid) (l := (leastD (gSp s.gates)).take k) (x := x.lo) q1 q2 (by rw [List.length_take]; omega)
      rw [← es, ← el] at ap
      exact ACode.vcM (.br 9 true <| .cells (cGt x) <| .val 21 (.rsl 4 0 ((leastD (gSp s.gates)).take (k + 1)).length 1) [(2, none), (4, some (.cells (iL ((leastD (gSp s.gates)).take (k + 1)))))] .nil) hn hlo (.roundW .cl) ⟨ltLen hlt, idx hx, Eq.trans (by kernel_rfl) (ap (hget [(2, .cells (iL ((leastD (gSp s.gates)).take k))), (3, .cells [.int .i64 x.lo])]) 3 4 rfl rfl), k + 1, hlt, mu1 hlt,
        Wk.ren (c := 2) (b := 4) (St.ren.of rfl (by decide) ⟨.inl ⟨by kernel_rfl, rfl⟩, .inr ⟨_, _, _, rfl, by kernel_rfl⟩, .inl ⟨Eq.trans (by kernel_rfl) ek, rfl⟩, trivial⟩
          ⟨.inl ⟨(by decide : (0 : Nat) < 2), by kernel_rfl, by kernel_rfl⟩, .inl ⟨(by decide : (1 : Nat) < 2), by kernel_rfl, by kernel_rfl⟩, .inr ⟨rfl, by kernel_rfl, _, rfl, iL_ok _ _⟩, trivial⟩) (hlo.mono (show 1 ≤ 2 by decide))⟩
    · have hk' : k = s.gates.length := Nat.le_antisymm hk (Nat.le_of_not_lt hlt)
      have e3 := E3 k hk'
      have e9 := E9 k hk'
      refine (Bool.eq_false_or_eq_true (inB 0 s.fin minute)).symm.elim (fun hin => ?_) (fun hin => ?_)
      · rw [hin] at wm
        have eV := congrArg (fun b => some (b, ([] : List Nat))) (hr2 (tru_out hs hroom hin)).symm
        refine ACode.vcM (.br 9 false .nil) hn hlo (.roundW .cl) ⟨geLen hlt, _, .refl _, .call (.bool false) .loop, wm, ?_⟩
        intro g hn hlo
        replace hn : g.n = 45 := hn
        replace hlo : g.low 0 := hlo
        refine acode_while (fun _ : Unit => ⟨[(9, .bool false)], [], 3⟩) (fun _ => True) (fun _ => 0) () trivial ?_ (fun _ _ => hlo.mono (Nat.zero_le _)) ?_
        · exact St.le.of ⟨by kernel_rfl, rfl, trivial⟩ trivial
        · intro _ _
          exact ACode.vcM .nil hn hlo (.round .cl) ⟨_, .refl _, .nil, [], Eq.trans (by kernel_rfl) eV⟩
      · rw [hin] at wm
        refine ACode.vcM (.br 9 false .nil) hn hlo (.roundW .cl) ⟨geLen hlt, _, .refl _, .call (.bool true) .loop, wm, ?_⟩
        intro g hn hlo
        replace hn : g.n = 45 := hn
        replace hlo : g.low 0 := hlo
        refine acode_while (fun k : Nat => ⟨[(1, .int .i64 (room : Int)), (2, .int .i64 minute), (3, .vptr 0 0), (8, .rsl 2 0 s.gates.length 1), (9, .bool (moreK s k))], [(0, .cells (cSc s)), (2, .cells (iL (dsK s k)))], 3⟩) (fun k => k ≤ (allD (gSp s.gates)).length ∧ ∀ j e, j < k → (allD (gSp s.gates))[j]? = some e → ¬ trueB s room minute e) (fun k => (allD (gSp s.gates)).length - k) 0 ⟨Nat.zero_le _, fun j e h => absurd h (Nat.not_lt_zero _)⟩ ?_ (fun _ _ => hlo.mono (Nat.zero_le _)) ?_
        · exact St.le.of ⟨by kernel_rfl, rfl, by kernel_rfl, rfl, by kernel_rfl, rfl, Eq.trans (by kernel_rfl) e3, rfl, Eq.trans (by kernel_rfl) e6, rfl, trivial⟩ ⟨by kernel_rfl, (by decide : (0 : Nat) < 3), by kernel_rfl, Eq.trans (by kernel_rfl) e9, (by decide : (2 : Nat) < 3), iL_ok _ _, trivial⟩
        · rintro k ⟨hk, hno⟩
          replace hk : k ≤ (allD (gSp s.gates)).length := hk
          by_cases hlt : k < (allD (gSp s.gates)).length
          · obtain ⟨ds, R⟩ := rnd_of hs hlt
            have hm : moreK s k = true := decide_eq_true hlt
            have hdl := ds_len hs R.are
            have hE0 : ∀ e ∈ edgs s.gates ds, 0 ≤ e.2.2 := fun e he => (gok_of hs R.are).lo e.1 e.2.1 e.2.2 (.inl he)
            have hfar := rfar_spec s hs ds R.are hroom
            have bo := rboth_spec s hs (rowP s ds room) (bd_bell hE0 (bd_bas room) _) (allN s) (set_lt hs)
            have tc := fun (h : Nat → Option AObj) (h0 : h 2 = some (.cells (iL (dsK s k)))) => (show thawL h [encSc s, .rsl 2 0 s.gates.length 1, .int .i64 (room : Int)] = some ([encSc s, encR ds, .int .i64 (room : Int)], [2]) by
              rw [R.now] at h0
              have e := thaw_fl (enc := encI) (n := 1) 6 (fun _ => rfl) (fun _ => rfl) h0
              rw [hdl] at e
              have e1 : thaw 8 h (encSc s) = some (encSc s, []) := by unfold thaw; exact if_pos rfl
              have e2 : thaw 8 h (.int .i64 (room : Int)) = some (.int .i64 (room : Int), []) := by unfold thaw; exact if_pos rfl
              simp only [thawL, mapO, e, e1, e2]; rfl)
            have en : some (AObj.cells (iL (dsK s k))) = some (.cells (iL ds)) := by rw [R.now]
            have mutC := rnext_mut s ds (N := s.gates.length) hdl.symm hdl (by omega) (ds_bd hs R.are)
            have e6 : AV.bool (nextD (gSp s.gates) ds).isSome = .bool (moreK s (k + 1)) := by rw [R.isS]
            have htr := inW hs hroom (t := minute) R.are
            have wi := rwithin_spec minute (wndR s.fin (rowP s ds room) s.marks (allN s)).1 (wndR s.fin (rowP s ds room) s.marks (allN s)).2
            generalize wndR s.fin (rowP s ds room) s.marks (allN s) = W at *
            generalize rowI (nR s) (rowP s ds room) = RW at *
            refine (Bool.eq_false_or_eq_true (inB W.1 W.2 minute)).symm.elim (fun hb => ?_) (fun hb => ?_)
            · rw [hb] at wi
              have hno' : ∀ j e, j < k + 1 → (allD (gSp s.gates))[j]? = some e → ¬ trueB s room minute e := fun j e hj he => by
                by_cases q : j < k
                · exact hno j e q he
                · have : j = k := by omega
                  subst this
                  rw [R.get] at he; cases he
                  intro p
                  rw [htr.2 p] at hb; cases hb
              exact ACode.vcM (.br 26 true <| .draw 9 <| .call (.int .i64 ((allN s : Nat) : Int)) <| .lent (encR RW) [2] <| .call (encSp W) <| .call (.bool false) <| .inl Tryz.f59 <| .nz .nil) hn hlo (.round .cl)
                ⟨hm, by kernel_rfl, mixed, by kernel_rfl, ev, ⟨_, tc _ (by kernel_rfl), .inr hfar⟩, bo, by kernel_rfl, wi, Tryz.func59,
                 AMutP.use (id := 2) mutC (by kernel_rfl) rfl rfl (iL_ok 0 ds) (fun _ h => (show _ = iL _ from h) ▸ iL_ok 0 _) (Eq.trans (by kernel_rfl) en) fun cs' hQ => ⟨k + 1, ⟨hlt, hno'⟩, mu1 hlt,
                  St.le.of ⟨by kernel_rfl, rfl, by kernel_rfl, rfl, by kernel_rfl, rfl, by kernel_rfl, rfl, Eq.trans (by kernel_rfl) e6, rfl, trivial⟩ ⟨by kernel_rfl, (by decide : (0 : Nat) < 3), by kernel_rfl, Eq.trans (by kernel_rfl) (show some (AObj.cells cs') = some (.cells (iL (dsK s (k + 1)))) by rw [show cs' = iL (nxtL s.gates ds) from hQ, R.nxt]), (by decide : (2 : Nat) < 3), iL_ok _ _, trivial⟩⟩⟩
            · rw [hb] at wi
              have eT := hr1 ds (tru_first hs hroom R.get hno (htr.1 hb))
              have th := fun (h : Nat → Option AObj) (h0 : h 2 = some (.cells (iL (dsK s k)))) => (show thaw 8 h (.tup [.rsl 2 0 s.gates.length 1, .int .i64 0]) = some (rT, [2]) by
                rw [R.now] at h0
                rw [eT]; exact thaw_Le hdl h0)
              exact ACode.vcM (.br 26 true <| .draw 9 <| .call (.int .i64 ((allN s : Nat) : Int)) <| .lent (encR RW) [2] <| .call (encSp W) <| .call (.bool true) .nil) hn hlo (.round .cl)
                ⟨hm, by kernel_rfl, mixed, by kernel_rfl, ev, ⟨_, tc _ (by kernel_rfl), .inr hfar⟩, bo, by kernel_rfl, wi, _, .refl _, .nil, [2], th _ (by kernel_rfl)⟩
          · have hm : moreK s k = false := decide_eq_false hlt
            have hall : truP s room minute = none := tru_no hs hroom fun e he => by
              obtain ⟨j, hj⟩ := List.mem_iff_getElem?.1 he
              exact hno j e (by have := (List.getElem?_eq_some_iff.1 hj).1; omega) hj
            have eV := congrArg (fun b => some (b, ([] : List Nat))) (hr2 hall).symm
            exact ACode.vcM (.br 26 false .nil) hn hlo (.round .cl) ⟨hm, _, .refl _, .nil, [], Eq.trans (by kernel_rfl) eV⟩
theorem RTruth_N (s : Scn) (hs : ScOk s) (hg : s.gates = []) (room : Nat) (hroom : room < nR s) (minute : Int) (E : Int) (hr1 : truP s room minute = some [] → E = 0) (hr2 : truP s room minute = none → E = 91) : APure Tryz.prog 31 [encSc s, .int .i64 (room : Int), .int .i64 minute] (.tup [.nil, .int .i64 E]) := by
  have hall : allD (gSp s.gates) = [[]] := by rw [hg]; rfl
  have hd : areD (gSp s.gates) [] := (mem_all hs).1 (by rw [hall]; exact List.mem_singleton.2 rfl)
  have hml := hs.ml
  have sc := RScene_spec s
  rw [scB_iff.2 hs] at sc
  have hrr := hs.rooms
  obtain ⟨hnr, hn1, hn6⟩ := nR_eq hs
  have wr := wr_spec s (room : Int) ⟨by omega, by omega⟩
  have hisr : isR s.rooms (room : Int) = true := inB_iff.2 ⟨by omega, by omega⟩
  rw [hisr] at wr
  have wm := rwithin_spec minute 0 s.fin
  have ev := every_spec s (by omega)
  refine APure.vcM Tryz.func31 (.call (.bool true) <| .call (.bool true) <| .inl Tryz.f58 .loop) (by kernel_rfl) rfl ⟨sc, wr, Tryz.func58, ?_⟩
  intro g hn hlo
  replace hn : g.n = 23 := hn
  replace hlo : g.low 1 := hlo
  refine acode_while (fun _ : Unit => ⟨[(1, .vptr 1 0), (3, .nil), (4, .int .i64 ((0 : Nat) : Int))], [(0, .cells (cSc s)), (1, .cells (cSc s))], 2⟩) (fun _ => True) (fun _ => 0) () trivial ?_ (fun _ _ => hlo.mono (show 1 ≤ 2 by decide)) ?_
  · exact St.le.of ⟨by kernel_rfl, rfl, by kernel_rfl, rfl, by kernel_rfl, rfl, trivial⟩ ⟨by kernel_rfl, (by decide : (0 : Nat) < 2), by kernel_rfl, by kernel_rfl, (by decide : (1 : Nat) < 2), by kernel_rfl, trivial⟩
  · intro _ _
    have hno : decide (((0 : Nat) : Int) < ((s.gates.map cGt).length : Int)) = false := by rw [hg]; rfl
    refine ACode.vcM (.br 9 false .nil) hn hlo (.round .cl) ⟨hno, _, .refl _, .call (.bool (inB 0 s.fin minute)) .loop, wm, ?_⟩
    intro g hn hlo
    replace hn : g.n = 45 := hn
    replace hlo : g.low 0 := hlo
    refine acode_while (fun b : Bool => ⟨[(1, .int .i64 (room : Int)), (2, .int .i64 minute), (3, .vptr 0 0), (8, .nil), (9, .bool b)], [(0, .cells (cSc s))], 1⟩) (fun b => b = false → truP s room minute = none) (fun b => if b then 1 else 0) (inB 0 s.fin minute) (fun h => tru_out hs hroom h) ?_ (fun _ _ => hlo.mono (Nat.zero_le _)) ?_
    · exact St.le.of ⟨by kernel_rfl, rfl, by kernel_rfl, rfl, by kernel_rfl, rfl, by kernel_rfl, rfl, by kernel_rfl, rfl, trivial⟩ ⟨by kernel_rfl, (by decide : (0 : Nat) < 1), by kernel_rfl, trivial⟩
    · intro b hb
      have hE0 : ∀ e ∈ edgs s.gates [], 0 ≤ e.2.2 := fun e he => (gok_of hs hd).lo e.1 e.2.1 e.2.2 (.inl he)
      have hfar : APureF Tryz.prog 61 [encSc s, .nil, .int .i64 (room : Int)] (encR (rowI (nR s) (rowP s [] room))) := APureF.nilArg (pre := [encSc s]) (post := [.int .i64 (room : Int)]) (n := 1) (rfar_spec s hs [] hd hroom)
      have bo := rboth_spec s hs (rowP s [] room) (bd_bell hE0 (bd_bas room) _) (allN s) (set_lt hs)
      have htr := inW hs hroom (t := minute) hd
      have wi := rwithin_spec minute (wndR s.fin (rowP s [] room) s.marks (allN s)).1 (wndR s.fin (rowP s [] room) s.marks (allN s)).2
      have nx := rnextNil_spec s
      generalize wndR s.fin (rowP s [] room) s.marks (allN s) = W at *
      generalize rowI (nR s) (rowP s [] room) = RW at *
      cases b
      · have eV := congrArg (fun b => some (AV.tup [.nil, .int .i64 b], ([] : List Nat))) (hr2 (hb rfl)).symm
        exact ACode.vcM .nil hn hlo (.round .cl) ⟨_, .refl _, .nil, [], Eq.trans (by kernel_rfl) eV⟩
      · refine (Bool.eq_false_or_eq_true (inB W.1 W.2 minute)).symm.elim (fun hc => ?_) (fun hc => ?_)
        · rw [hc] at wi
          have hv : truP s room minute = none := tru_no hs hroom fun e he q => by
            rw [hall] at he
            rw [List.mem_singleton.1 he] at q
            rw [htr.2 q] at hc; cases hc
          exact ACode.vcM (.draw 9 <| .call (.int .i64 ((allN s : Nat) : Int)) <| .lent (encR RW) [] <| .call (encSp W) <| .call (.bool false) <| .call (.bool false) .nil) hn hlo (.round .cl)
            ⟨by kernel_rfl, mixed, by kernel_rfl, ev, ⟨_, by kernel_rfl, .inr hfar⟩, bo, by kernel_rfl, wi, nx, false, fun _ => hv, by decide,
              St.le.of ⟨by kernel_rfl, rfl, by kernel_rfl, rfl, by kernel_rfl, rfl, by kernel_rfl, rfl, by kernel_rfl, rfl, trivial⟩ ⟨by kernel_rfl, (by decide : (0 : Nat) < 1), by kernel_rfl, trivial⟩⟩
        · rw [hc] at wi
          have hv : truP s room minute = some [] := tru_first (k := 0) hs hroom (by rw [hall]; rfl) (fun j e h => absurd h (Nat.not_lt_zero _)) (htr.1 hc)
          have eV := congrArg (fun b => some (AV.tup [.nil, .int .i64 b], ([] : List Nat))) (hr1 hv).symm
          exact ACode.vcM (.draw 9 <| .call (.int .i64 ((allN s : Nat) : Int)) <| .lent (encR RW) [] <| .call (encSp W) <| .call (.bool true) .nil) hn hlo (.round .cl)
            ⟨by kernel_rfl, mixed, by kernel_rfl, ev, ⟨_, by kernel_rfl, .inr hfar⟩, bo, by kernel_rfl, wi, _, .refl _, .nil, [], Eq.trans (by kernel_rfl) eV⟩
theorem RTruth_ok (s : Scn) (room minute : Int) : APure Tryz.prog 31 [encSc s, .int .i64 room, .int .i64 minute] (encLe (tvV s room minute) (tvE s room minute)) := by
  have sc := RScene_spec s
  unfold tvV tvE
  cases h1 : scB s
  · rw [h1] at sc
    have e : rmE s room = 90 := by unfold rmE; rw [h1]; rfl
    rw [e]
    exact APure.weak (r := .tup [.nil, .int .i64 90]) (APure.vc Tryz.func31 rfl (.call (.bool false) .nil) rfl rfl ⟨sc, trivial, by kernel_rfl⟩) VRel.tupNil
  rw [h1] at sc
  have hs := scB_iff.1 h1
  have hr := hs.rooms
  have wr := wr_spec s room ⟨by omega, by omega⟩
  cases h2 : isR s.rooms room
  · rw [h2] at wr
    have e : rmE s room = 2 := by unfold rmE; rw [h1, h2]; rfl
    rw [e]
    exact APure.weak (r := .tup [.nil, .int .i64 2]) (APure.vc Tryz.func31 rfl (.call (.bool true) <| .call (.bool false) .nil) rfl rfl ⟨sc, wr, trivial, by kernel_rfl⟩) VRel.tupNil
  have e : rmE s room = 0 := by unfold rmE; rw [h1, h2]; rfl
  rw [e, if_pos rfl, if_pos rfl]
  obtain ⟨e1, e2⟩ := rm_nat hs h2
  rw [e1, Int.toNat_natCast]
  by_cases hg : 0 < s.gates.length
  · cases hT : truP s room.toNat minute with
    | none => exact APure.weak (RTruth_D s hs hg room.toNat e2 minute (.tup [.nil, .int .i64 91]) rfl (fun ds h => by rw [hT] at h; cases h) (fun _ => rfl)) VRel.tupNil
    | some d => exact RTruth_D s hs hg room.toNat e2 minute (encLe d 0) rfl (fun ds h => by rw [hT] at h; cases h; rfl) (fun h => by rw [hT] at h; cases h)
  · have hg0 : s.gates = [] := List.eq_nil_of_length_eq_zero (by omega)
    cases hT : truP s room.toNat minute with
    | none => exact APure.weak (RTruth_N s hs hg0 room.toNat e2 minute 91 (fun h => by rw [hT] at h; cases h) (fun _ => rfl)) VRel.tupNil
    | some d =>
      have hd : d = [] := by
        have := (tru_some hs e2 hT).1.2.1
        rw [hg0] at this
        cases d with
        | nil => rfl
        | cons x d => cases this
      rw [hd] at hT ⊢
      exact APure.weak (RTruth_N s hs hg0 room.toNat e2 minute 0 (fun _ => rfl) (fun h => by rw [hT] at h; cases h)) VRel.tupNil
end Go.Proofs.YtjoagmjijbfjkaaGreatDoor
/-
  THE LAW OF WHAT IS TOLD OF ANY SCENE.
-/
namespace Go.Proofs.YtjoagmjijbfjkaaGreatDoor
open Go Go.Am
set_option maxRecDepth 100000
set_option maxHeartbeats 4000000
theorem SameSpans_me (l : List Spn) (hl : l.length ≤ 100000) : APure Tryz.prog 33 [encSps l, encSps l] (.bool true) := by
  refine APure.vc Tryz.func33 rfl (.br 10 false .loop) rfl rfl ⟨ne_self64 _, ?_⟩
  intro g hn hlo
  replace hn : g.n = 26 := hn
  replace hlo : g.low 0 := hlo
  refine acode_while (fun k : Nat => ⟨[(0, encSps l), (1, encSps l), (5, .int .i64 k)], [], 0⟩) (fun k => k ≤ l.length) (fun k => l.length - k) 0 (Nat.zero_le _) ?_ (fun _ _ => hlo) ?_
  · exact St.le.of ⟨by kernel_rfl, rfl, by kernel_rfl, rfl, by kernel_rfl, rfl, trivial⟩ trivial
  · intro k hk
    replace hk : k ≤ l.length := hk
    by_cases hlt : k < l.length
    · refine Exists.elim (getE hlt) fun x hx => ?_
      have ek := congrArg (AV.int .i64) (succ64 (k := k) (by omega))
      have ne := neS x.1 x.2 x.1 x.2
      rw [beq_self_eq_true, beq_self_eq_true] at ne
      exact ACode.vc (.br 14 true <| .draw 8 <| .cells (cSp x) <| .cells (cSp x) <| .val 25 (.bool false) [] .nil) hn hlo (.round .cl) ⟨ltLen hlt, by kernel_rfl, mixed, by kernel_rfl, idx hx, idx hx, by kernel_rfl, Eq.trans (by kernel_rfl) ne, k + 1, hlt, mu1 hlt,
        St.le.of ⟨by kernel_rfl, rfl, by kernel_rfl, rfl, Eq.trans (by kernel_rfl) ek, rfl, trivial⟩ trivial⟩
    · exact ACode.vc (.br 14 false .nil) hn hlo (.round .cl) ⟨geLen hlt, _, .refl _, .nil, rB rfl⟩
theorem mn_len (s : Scn) (room : Int) : (mnV s room).length ≤ 1000 := by
  unfold mnV
  by_cases h : rmE s room = 0
  · rw [if_pos h]
    obtain ⟨h1, h2⟩ := rm_0 h
    have hs := scB_iff.1 h1
    obtain ⟨e1, e2⟩ := rm_nat hs h2
    rw [← run_told hs e2]
    have := runV_len (canB s (allN s) room.toNat (allD (gSp s.gates)).length) (s.fin + 1).toNat
    have := hs.fin
    omega
  · rw [if_neg h]; exact Nat.zero_le _
theorem rs_len (s : Scn) : (rsV s).length ≤ 1000 := by
  unfold rsV
  by_cases h : scB s = true
  · rw [if_pos h]
    have := roomsP_len s
    have := nR_eq (scB_iff.1 h)
    omega
  · rw [if_neg h]; exact Nat.zero_le _
theorem tv_len (s : Scn) (room minute : Int) : (tvV s room minute).length ≤ 1000 := by
  unfold tvV
  by_cases h : rmE s room = 0
  · rw [if_pos h]
    obtain ⟨h1, h2⟩ := rm_0 h
    have hs := scB_iff.1 h1
    obtain ⟨e1, e2⟩ := rm_nat hs h2
    cases hT : truP s room.toNat minute with
    | none => exact Nat.zero_le _
    | some d =>
      have hd := ds_len hs (tru_some hs e2 hT).1.2.1
      have := hs.gl
      show d.length ≤ 1000; omega
  · rw [if_neg h]; exact Nat.zero_le _
theorem RCheck_spec (s : Scn) : APure Tryz.prog 32 [encSc s] (.int .i64 (ckE s)) := by
  have sc := RScene_spec s
  unfold ckE
  cases h : scB s
  · rw [h] at sc
    exact APure.vc Tryz.func32 rfl (.call (.bool false) .nil) rfl rfl ⟨sc, rI rfl⟩
  · rw [h] at sc
    exact APure.vc Tryz.func32 rfl (.call (.bool true) .nil) rfl rfl ⟨sc, rI rfl⟩
theorem law_tells (s : Scn) (room minute : Int) : APure Tryz.prog 4 [encSc s, .int .i64 room, .int .i64 minute] (.bool true) := by
  have gr := RGreat_spec s
  cases h : (decide (((s.gates.map cGt).length : Int) > 10) || decide (((s.marks.map cMk).length : Int) > 12))
  · rw [h] at gr
    obtain ⟨g1, g2⟩ := Bool.or_eq_false_iff.1 h
    have g1 := of_decide_eq_false g1
    have g2 := of_decide_eq_false g2
    rw [List.length_map] at g1 g2
    have tw := Twin_spec s (by omega) (by omega)
    have sm := Same_self s (by omega) (by omega)
    have m1 := Minutes_ok s room
    have m2 := RMinutes_ok s room
    have r1 := Rooms_ok s
    have r2 := RRooms_ok s
    have n1 := Named_ok s
    have n2 := RNamed_ok s
    have t1 := Truth_ok s room minute
    have t2 := RTruth_ok s room minute
    have c1 := Check_spec s
    have c2 := RCheck_spec s
    have s1 := SameSpans_me (mnV s room) (by have := mn_len s room; omega)
    have s2 := SameInts_self (rsV s) (by have := rs_len s; omega)
    have s3 := SameInts_self (tvV s room minute) (by have := tv_len s room minute; omega)
    generalize mnV s room = A at *
    generalize rmE s room = E at *
    generalize rsV s = B at *
    generalize ckE s = F at *
    generalize nmV s = NM at *
    generalize tvV s room minute = T at *
    generalize tvE s room minute = TE at *
    have eE : (E == E) = true := beq_self_eq_true E
    have eF : (F == F) = true := beq_self_eq_true F
    have eN : (NM.1 == NM.1) = true := beq_self_eq_true _
    have eM : (NM.2 == NM.2) = true := beq_self_eq_true _
    have eT : (TE == TE) = true := beq_self_eq_true TE
    refine APure.intro Tryz.func4 rfl (by kernel_rfl) rfl fun g hn hlo0 => ?_
    replace hn : g.n = 124 := hn
    refine ACode.cut 6 (fun _ : Unit => ⟨[(1, .int .i64 room), (2, .int .i64 minute), (3, .cptr (cSc s)), (7, .cptr (cSc s)), (8, encSps A), (9, .int .i64 E), (10, encSps A), (11, .int .i64 E), (12, encR B), (13, .int .i64 F), (14, encR B), (15, .int .i64 F)], [], 0⟩) (fun _ => True) (.call (.bool false) <| .lent (encSc s) [] <| .call (.tup [encSps A, .int .i64 E]) <| .call (.tup [encSps A, .int .i64 E]) <| .call (encLe B F) <| .call (encLe B F) .nil) hn hlo0 .ret rfl ⟨gr, ⟨_, by kernel_rfl, .inr tw⟩, m1, m2, r1, r2, (), trivial,
      Wk.all ⟨⟨[], by kernel_rfl⟩, ⟨[], by kernel_rfl⟩, ⟨[0], by kernel_rfl⟩, ⟨[1], by kernel_rfl⟩, ⟨[], by kernel_rfl⟩, ⟨[], by kernel_rfl⟩, ⟨[], by kernel_rfl⟩, ⟨[], by kernel_rfl⟩, ⟨[], by kernel_rfl⟩, ⟨[], by kernel_rfl⟩, ⟨[], by kernel_rfl⟩, ⟨[], by kernel_rfl⟩, trivial⟩ hlo0⟩ fun _ _ => ?_
    refine ACode.cut 3 (fun _ : Unit => ⟨[(3, .cptr (cSc s)), (7, .cptr (cSc s)), (8, encSps A), (9, .int .i64 E), (10, encSps A), (11, .int .i64 E), (12, encR B), (13, .int .i64 F), (14, encR B), (15, .int .i64 F), (16, .int .i64 NM.1), (17, .int .i64 NM.2), (18, .int .i64 NM.1), (19, .int .i64 NM.2), (20, encR T), (21, .int .i64 TE), (22, encR T), (23, .int .i64 TE)], [], 0⟩) (fun _ => True) (.call (.tup [.int .i64 NM.1, .int .i64 NM.2]) <| .call (.tup [.int .i64 NM.1, .int .i64 NM.2]) <| .call (encLe T TE) <| .call (encLe T TE) .nil) hn hlo0 .ret rfl ⟨n1, n2, t1, t2, (), trivial,
      Wk.all ⟨⟨[], by kernel_rfl⟩, ⟨[], by kernel_rfl⟩, ⟨[], by kernel_rfl⟩, ⟨[], by kernel_rfl⟩, ⟨[], by kernel_rfl⟩, ⟨[], by kernel_rfl⟩, ⟨[], by kernel_rfl⟩, ⟨[], by kernel_rfl⟩, ⟨[], by kernel_rfl⟩, ⟨[], by kernel_rfl⟩, ⟨[], by kernel_rfl⟩, ⟨[], by kernel_rfl⟩, ⟨[], by kernel_rfl⟩, ⟨[], by kernel_rfl⟩, ⟨[], by kernel_rfl⟩, ⟨[], by kernel_rfl⟩, ⟨[], by kernel_rfl⟩, ⟨[], by kernel_rfl⟩, trivial⟩ hlo0⟩ fun _ _ => ?_
    exact ACode.vcM (.draw 48 <| .call (.int .i64 F) <| .call (.int .i64 F) <| .br 79 true <| .call (.bool true) <| .br 89 true <| .call (.bool true) <| .br 99 true <| .br 104 true <| .br 109 true <| .call (.bool true) <| .br 119 true <| .call (.bool true) .nil) hn hlo0 .ret
      ⟨by kernel_rfl, mixed, by kernel_rfl, c1, c2, eF, s1, eE, s2, eF, eN, eM, s3, eT, by kernel_rfl, sm, trivial, by kernel_rfl⟩
  · rw [h] at gr
    exact APure.vc Tryz.func4 rfl (.call (.bool true) .nil) rfl rfl ⟨gr, rB rfl⟩
end Go.Proofs.YtjoagmjijbfjkaaGreatDoor
