import Derived.Test.YtmllgnnhblhfeaaDoorW6
/-
  A SCENE AT WORK: all of its courses.
-/
namespace Go.Proofs.YtmllgnnhblhfeaaDoor
open Go Go.Am
set_option maxRecDepth 100000
set_option maxHeartbeats 4000000
theorem Clone_spec (d : Int) (l : List Int) (hl : (d :: l).length ≤ 100000) : APureF Tryd.prog 52 [encR (d :: l)] (encR (d :: l)) := by
  have ap := app_ints (h := hget [(0, .cells [])]) (i := 0) (nid := 1) (l := d :: l) rfl hl
  have th := thawF_ints 6 (h := hget [(1, .cells (iL (d :: l)))]) (id := 1) (l := d :: l) rfl
  exact APureF.vcM Tryd.func52 (.val 7 (.rsl 1 0 (d :: l).length 1) [(0, none), (1, some (.cells (fl encI (d :: l))))] .nil) rfl rfl ⟨Eq.trans (by kernel_rfl) ap, [1], Eq.trans (by kernel_rfl) th⟩
/-- What is nil is a list of nothing. -/
theorem VRel.nilLst {κ : Nat → Option Nat} {av : Nat → Prop} {w : World} {v : Value} {n : Nat} (h : VRel κ av w .nil v) : VRel κ av w (.lst n []) v := by
  cases h
  exact VR.lst (xs := []) n none 0 (fun _ _ => .nilFunc) (fun _ => rfl) (Nat.le_refl _) (fun i x h => by simp at h) (fun i x h => by simp at h)
theorem APure.toF {P : Program} {f : FuncId} {args : List AV} {r r' : AV} (h : APure P f args r) (hr : ∀ {κ : Nat → Option Nat} {av av' : Nat → Prop} {w : World} {v : Value}, VRel κ av w r v → VRel κ av' w r' v) : APureF P f args r' := fun κ N w cargs hN hg hc =>
  (h κ N w cargs hN hg hc).mono fun _e _w' ⟨v, h1, h2, h3, h4⟩ => ⟨v, h1, h2, h3, hr h4⟩
theorem CloneNil_spec : APureF Tryd.prog 52 [.nil] (encR []) :=
  APure.toF (r := .nil) (APure.vc (args := [.nil]) (r := .nil) Tryd.func52 rfl .nil rfl rfl ⟨trivial, rfl⟩) fun h => by
    cases h
    exact VRel.nilLst (n := 1) VR.nil
theorem isNextNil_spec : APure Tryd.prog 51 [.nil, encGs []] (.bool false) := by
  refine APure.vc Tryd.func51 rfl .loop rfl rfl ?_
  intro g hn hl
  replace hn : g.n = 39 := hn
  replace hl : g.low 0 := hl
  refine acode_while (fun _ : Unit => ⟨[(5, .int .i64 (-1))], [], 0⟩) (fun _ => True) (fun _ => 0) () trivial ?_ (fun _ _ => hl) ?_
  · exact St.le.of ⟨by kernel_rfl, rfl, trivial⟩ trivial
  · intro _ _
    exact ACode.vc (.br 10 false .nil) hn hl (.round .cl) ⟨by decide, _, .refl _, .nil, rB rfl⟩
theorem lists_spec (gs : List Gt) : APure Tryd.prog 26 [encGs gs] (.fn (.func 50) [] [.cptr [encGs gs]]) :=
  APure.vcM Tryd.func26 .nil rfl rfl ⟨[0], by kernel_rfl⟩
/-! ### courses, cell by cell -/
theorem cCr_len (c : Crs) : (cCr c).length = 73 := rfl
theorem cCr_ok (n : Nat) (c : Crs) : okL n (cCr c) = true := by kernel_rfl
theorem crs_ok (n : Nat) (l : List Crs) : okL n (fl cCr l) = true := fl_ok (cCr_ok n) l
theorem thaw_last (n : Nat) (h : Nat → Option AObj) : ∀ {l : List AV} {x x' : AV} {is : List Nat}, okL 0 l = true → thaw (n + 1) h x = some (x', is) → mapO (thaw (n + 1) h) (l ++ [x]) = some (l ++ [x'], is) := by
  intro l
  induction l with
  | nil =>
    intro x x' is _ hx
    simp only [List.nil_append, mapO, hx, List.append_nil]
  | cons a l ih =>
    intro x x' is hl hx
    simp only [okL, Bool.and_eq_true] at hl
    have ea : thaw (n + 1) h a = some (a, []) := by unfold thaw; rw [if_pos hl.1]
    simp only [List.cons_append, mapO, ea, ih hl.2 hx, List.nil_append]
theorem thaw_X {h : Nat → Option AObj} {s : Scn} {c : Nat} {crs : List Crs} (h0 : h c = some (.cells (fl cCr crs))) : thaw 8 h (.agg (cXa s (.rsl c 0 crs.length 73))) = some (encX s crs, [c]) := by
  have e : thaw 8 h (.agg (cXa s (.rsl c 0 crs.length 73))) = (if (AV.agg (cXa s (.rsl c 0 crs.length 73))).ok 0 = true then some (.agg (cXa s (.rsl c 0 crs.length 73)), []) else (mapO (thaw 7 h) (cXa s (.rsl c 0 crs.length 73))).map fun p => (.agg p.1, p.2)) := rfl
  have hno : (AV.agg (cXa s (.rsl c 0 crs.length 73))).ok 0 = false := by
    show okL 0 (cXa s (.rsl c 0 crs.length 73)) = false
    rw [okL_eq]
    unfold cXa
    simp only [List.all_append, List.all_cons, List.all_nil, AV.ok]
    simp
  have hC : thaw 7 h (.rsl c 0 crs.length 73) = some (encCs crs, [c]) := thaw_fl 5 cCr_len (cCr_ok 0) h0
  have hl := thaw_last 6 h (l := cSc s ++ kdL) (x := .rsl c 0 crs.length 73) (by kernel_rfl) hC
  have e2 : cXa s (.rsl c 0 crs.length 73) = (cSc s ++ kdL) ++ [.rsl c 0 crs.length 73] := rfl
  rw [e, hno, e2, hl]
  rfl
theorem thawL_X {h : Nat → Option AObj} {s : Scn} {c : Nat} {crs : List Crs} {ds : List Int} (h0 : h c = some (.cells (fl cCr crs))) : thawL h [.agg (cXa s (.rsl c 0 crs.length 73)), encR ds] = some ([encX s crs, encR ds], [c]) := by
  have e1 : thaw 8 h (encR ds) = some (encR ds, []) := by unfold thaw; exact if_pos rfl
  simp only [thawL, mapO, thaw_X h0, e1]
  rfl
theorem cCr_cell (c : Crs) : (cCr c).all cellB = true := by kernel_rfl
/-- One course more. -/
theorem app_crs {h : Nat → Option AObj} {i j nid : Nat} {l : List Crs} {x : Crs} (h0 : h i = some (.cells (fl cCr l))) (h1 : h j = some (.cells (cCr x))) (hl : l.length ≤ 1000) :
    aAppend Tryd.prog h nid 45 45 (.rsl i 0 l.length 73) (.rsl j 0 1 73) = some ⟨.rsl nid 0 (l.length + 1) 73, [(i, none), (nid, some (.cells (fl cCr (l ++ [x]))))]⟩ := by
  have e : fl cCr (l ++ [x]) = fl cCr l ++ cCr x := by unfold fl; simp
  have hlen : (fl cCr l).length = l.length * 73 := fl_len cCr_len l
  have hcb := cCr_cell x
  have hcl := cCr_len x
  rw [app_exact h0 (by rw [hlen]; omega), e]
  generalize cCr x = X at *
  simp only [aAppend0, ty45, ty73, srcCells, h0, h1]
  have htk : List.take 73 X = X := List.take_of_length_le (by omega)
  have hca := List.all_eq_true.1 hcb
  simp [hlen, hcl, htk]
  exact ⟨hca, by omega⟩
theorem rvL_last {c b : Nat} : ∀ {l : List AV}, okL c l = true → ∀ {x y : AV}, RV c b x y → rvL c b (l ++ [x]) (l ++ [y]) := by
  intro l
  induction l with
  | nil => intro _ x y h; exact ⟨h, trivial⟩
  | cons a l ih =>
    intro hl x y h
    simp only [okL, Bool.and_eq_true] at hl
    exact ⟨RV.eq rfl hl.1, ih hl.2 h⟩
theorem rvL_X {s : Scn} {c b n : Nat} : rvL c b (cXa s (.rsl c 0 n 73)) (cXa s (.rsl b 0 n 73)) :=
  rvL_last (l := cSc s ++ kdL) (by kernel_rfl) .rsl
/-! ### all of them -/
theorem run_get {nx : List Int → Option (List Int)} : ∀ {L : List (List Int)}, runD nx L → ∀ {k : Nat} {a : List Int}, L[k]? = some a → nx a = L[k + 1]? := by
  intro L
  induction L with
  | nil => intro h; exact h.elim
  | cons a L ih =>
    intro h k x hx
    cases L with
    | nil =>
      cases k with
      | zero => cases hx; exact h
      | succ k => simp at hx
    | cons b L =>
      obtain ⟨h1, h2⟩ := h
      cases k with
      | zero => cases hx; exact h1
      | succ k => exact ih h2 hx
/-- The delays after k lists. -/
def dsK (s : Scn) (k : Nat) : List Int := ((allD (gSp s.gates))[k]?).getD (leastD (gSp s.gates))
def moreK (s : Scn) (k : Nat) : Bool := decide (k < (allD (gSp s.gates)).length)
noncomputable def asgW : Code := rfA Tryd.f13
noncomputable def bodW : Code := rfB Tryd.f13
def zX : List AV := [.int .i64 0, .nil, .int .i64 0, .nil, .bool false, .bool false, .bool false, .nilFunc, .bool false, .bool false, .bool false, .nilFunc, .bool false, .bool false, .bool false, .nilFunc, .bool false, .bool false, .bool false, .nilFunc, .bool false, .bool false, .bool false, .nilFunc, .bool false, .bool false, .bool false, .nilFunc, .bool false, .bool false, .bool false, .nilFunc, .nil]
theorem ds_len {s : Scn} (_h : ScOk s) {ds : List Int} (hd : areD (gSp s.gates) ds) : ds.length = s.gates.length := by
  have key : ∀ {g : List Spn} {ds : List Int}, areD g ds → ds.length = g.length := by
    intro g
    induction g with
    | nil => intro ds q; cases ds with
      | nil => rfl
      | cons _ _ => exact q.elim
    | cons a g ih => intro ds q; cases ds with
      | nil => exact q.elim
      | cons d ds => rw [List.length_cons, List.length_cons, ih q.2]
  rw [key hd]; unfold gSp; rw [List.length_map]
theorem ds_bd {s : Scn} (h : ScOk s) {ds : List Int} (hd : areD (gSp s.gates) ds) : ∀ d ∈ ds, -1000000 ≤ d ∧ d ≤ 1000000 := by
  have key : ∀ {g : List Spn} {ds : List Int}, (∀ x ∈ g, 0 ≤ x.1 ∧ x.2 ≤ 60) → areD g ds → ∀ d ∈ ds, 0 ≤ d ∧ d ≤ 60 := by
    intro g
    induction g with
    | nil => intro ds _ q; cases ds with
      | nil => intro d hd; cases hd
      | cons _ _ => exact q.elim
    | cons a g ih => intro ds hg q; cases ds with
      | nil => exact q.elim
      | cons e ds =>
        intro d hd
        have := hg a List.mem_cons_self
        have q1 := q.1.1; have q2 := q.1.2
        rcases List.mem_cons.1 hd with rfl | hd
        · omega
        · exact ih (fun x hx => hg x (List.mem_cons_of_mem _ hx)) q.2 d hd
  intro d hdd
  have := key (fun x hx => by
    obtain ⟨g, hg, rfl⟩ := List.mem_map.1 hx
    have := (gtB_iff.1 (h.gs g hg)).2.2.2.1
    exact ⟨this.1.1, this.2.1.2⟩) hd d hdd
  omega

theorem all_729 {s : Scn} (h : ScOk s) : (allD (gSp s.gates)).length ≤ 729 := by
  have h1 := all_len (sp_two h)
  have h2 : 3 ^ (gSp s.gates).length ≤ 3 ^ 6 := Nat.pow_le_pow_right (by decide) (by unfold gSp; rw [List.length_map]; exact h.gl)
  have : (3 : Nat) ^ 6 = 729 := by decide
  omega
theorem crsP_len (s : Scn) : (crsP s).length = (allD (gSp s.gates)).length := by unfold crsP; rw [List.length_map]
/-- One list of delays, and the next one. -/
structure RndK (s : Scn) (k : Nat) (ds : List Int) : Prop where
  get : (allD (gSp s.gates))[k]? = some ds
  now : dsK s k = ds
  are : areD (gSp s.gates) ds
  nxt : nxtL s.gates ds = dsK s (k + 1)
  isS : (nextD (gSp s.gates) ds).isSome = moreK s (k + 1)
  crs : (crsP s)[k]? = some (ds, farP s ds)
theorem rnd_of {s : Scn} (h : ScOk s) {k : Nat} (hk : k < (allD (gSp s.gates)).length) : ∃ ds, RndK s k ds := by
  obtain ⟨ds, hd⟩ := getE hk
  have hn := run_get (all_run (sp_le h)).2 hd
  refine ⟨ds, hd, by unfold dsK; rw [hd]; rfl, (mem_all h).1 (List.mem_of_getElem? hd), ?_, ?_, ?_⟩
  · unfold nxtL dsK; rw [hn]
  · rw [hn]
    unfold moreK
    rw [Bool.eq_iff_iff, decide_eq_true_eq]
    simp
  · unfold crsP; rw [List.getElem?_map, hd]; rfl

theorem atWork_N (s : Scn) (hs : ScOk s) (hg : s.gates = []) : APure Tryd.prog 13 [encSc s] (encX s (crsP s)) := by
  have h729 := all_729 hs
  have hcl := crsP_len s
  refine APure.vcM Tryd.func13 (.val 2 (.vptr 1 0) [(1, some (.cells zX))] <| .draw 4 <| .call (.agg kdL) <| .val 7 (.agg (cXa s .nil)) [] <| .val 3 (.vptr 5 0) [(5, some (.cells zX))] <| .val 1 .undef [(5, some (.cells (cXa s .nil)))] <|
    .call (.fn (.func 50) [] [.cptr [encGs s.gates]]) <| .inl Tryd.f50 .loop) rfl (by kernel_rfl) ⟨by kernel_rfl, by kernel_rfl, mixed, by kernel_rfl, kinds_spec, by kernel_rfl, by kernel_rfl, by kernel_rfl, by kernel_rfl, lists_spec _, Tryd.func50, ?_⟩
  intro g hn hlo
  replace hn : g.n = 29 := hn
  replace hlo : g.low 9 := hlo
  have hg6 := hs.gl
  refine acode_whileW (fun _ : Unit => ⟨[(0, .yld 8), (1, .cptr [encGs s.gates]), (3, .nil), (7, encGs s.gates), (8, .int .i64 (s.gates.map cGt).length), (9, .int .i64 0)], [(1, .cells zX), (5, .cells (cXa s .nil)), (8, .loop ⟨.ready, none, 23, [(2, .vptr 1 0), (3, .vptr 5 0)], #[11], asgW, bodW⟩)], 9⟩) (fun _ => True) (fun _ => 0) () trivial ?_ ?_
  · refine Wk.trans (Wk.le ?_ (hlo.mono (show 9 ≤ 9 by decide))) (Wk.loopEnv (id := 8) (n := 9) [(2, .vptr 1 0), (3, .vptr 5 0)] rfl ⟨rfl, rfl, rfl, rfl, trivial⟩)
    exact St.le.of ⟨by kernel_rfl, rfl, by kernel_rfl, rfl, by kernel_rfl, rfl, by kernel_rfl, rfl, by kernel_rfl, rfl, by kernel_rfl, rfl, trivial⟩ ⟨by kernel_rfl, (by decide : (1 : Nat) < 9), by kernel_rfl, by kernel_rfl, (by decide : (5 : Nat) < 9), by kernel_rfl, by kernel_rfl, (by decide : (8 : Nat) < 9), by kernel_rfl, trivial⟩
  · intro _ _
    have hno : decide (((0 : Nat) : Int) < ((s.gates.map cGt).length : Int)) = false := by rw [hg]; rfl
    refine ACode.vcM (.br 10 false .nil) hn hlo (.roundW .cl) ⟨hno, _, .refl _, .loop, ?_⟩
    obtain ⟨⟨t0, et0⟩, _⟩ := all_run (sp_le hs)
    have e6 : AV.bool true = .bool (moreK s 0) := by unfold moreK; rw [et0]; rfl
    intro g hn hlo
    replace hn : g.n = 29 := hn
    replace hlo : g.low 9 := hlo
    refine acode_whileW (fun k : Nat => ⟨[(0, .yld 8), (1, .cptr [encGs s.gates]), (3, .nil), (6, .bool (moreK s (k)))], [(1, .cells zX), (5, .cells (cXa s (.rsl 9 0 ((crsP s).take (k)).length 73))), (8, .loop ⟨.ready, none, 23, [(2, .vptr 1 0), (3, .vptr 5 0)], #[11], asgW, bodW⟩), (9, .cells (fl cCr ((crsP s).take (k))))], 10⟩) (fun k => k ≤ (allD (gSp s.gates)).length) (fun k => (allD (gSp s.gates)).length - k) 0 (Nat.zero_le _) ?_ ?_
    · refine Wk.trans (Wk.le ?_ (hlo.mono (show 9 ≤ 10 by decide))) (Wk.ownC 5 32 73 (cs := cXa s .nil) (by kernel_rfl) (by kernel_rfl))
      exact St.le.of ⟨by kernel_rfl, rfl, by kernel_rfl, rfl, by kernel_rfl, rfl, Eq.trans (by kernel_rfl) e6, rfl, trivial⟩ ⟨by kernel_rfl, (by decide : (1 : Nat) < 10), by kernel_rfl, by kernel_rfl, (by decide : (5 : Nat) < 10), by kernel_rfl, by kernel_rfl, (by decide : (8 : Nat) < 10), by kernel_rfl, by kernel_rfl, (by decide : (9 : Nat) < 10), rfl, trivial⟩
    · intro k hk
      replace hk : k ≤ (allD (gSp s.gates)).length := hk
      by_cases hlt : k < (allD (gSp s.gates)).length
      · obtain ⟨ds, R⟩ := rnd_of hs hlt
        have hm : moreK s k = true := decide_eq_true hlt
        have hdl := ds_len hs R.are
        have hfar := far_spec s hs ((crsP s).take k) ds R.are hdl
        have tX := fun (h : Nat → Option AObj) (h0 : h 9 = some (.cells (fl cCr ((crsP s).take k)))) => thawL_X (s := s) (ds := ds) h0
        have ecrs := take_snoc R.crs
        have elen : ((crsP s).take (k + 1)).length = ((crsP s).take k).length + 1 := by rw [ecrs]; simp
        have ap := app_crs (h := hget [(9, .cells (fl cCr ((crsP s).take k))), (17, .cells (cCr (ds, farP s ds)))]) (i := 9) (j := 17) (nid := 21) (l := (crsP s).take k) (x := (ds, farP s ds)) rfl rfl (by rw [List.length_take]; omega)
        rw [← ecrs, ← elen] at ap
        have eds : ds = [] := List.eq_nil_of_length_eq_zero (by rw [hdl, hg]; rfl)
        have hcl0 : APureF Tryd.prog 52 [.nil] (encR ds) := by rw [eds]; exact CloneNil_spec
        have hnx : APure Tryd.prog 51 [.nil, encGs s.gates] (.bool false) := by rw [hg]; exact isNextNil_spec
        have e6 : AV.bool false = .bool (moreK s (k + 1)) := by
          rw [← R.isS, eds, hg]; rfl
        exact ACode.vcM (.br 20 true <| .lent (encR ds) [] <| .draw 8 <| .val 13 (.rsl 9 0 ((crsP s).take k).length 73) [] <| .val 15 (.agg (cXa s (.rsl 9 0 ((crsP s).take k).length 73))) [] <| .lent (.agg (cTab (farP s ds))) [9] <| .val 18 (.agg (cCr (ds, farP s ds))) [] <| .val 19 (.rsl 17 0 1 73) [(17, some (.cells (cCr (ds, farP s ds))))] <|
            .val 20 (.rsl 21 0 ((crsP s).take (k + 1)).length 73) [(9, none), (21, some (.cells (fl cCr ((crsP s).take (k + 1)))))] <| .val 1 .undef [(5, some (.cells (cXa s (.rsl 21 0 ((crsP s).take (k + 1)).length 73))))] <| .call (.bool false) .nil) hn hlo (.roundW .cl)
          ⟨hm, ⟨_, by kernel_rfl, .inr hcl0⟩, by kernel_rfl, mixed, by kernel_rfl, by kernel_rfl, by kernel_rfl, ⟨_, tX _ (by kernel_rfl), .inl ⟨hfar, .inr (by kernel_rfl)⟩⟩, by kernel_rfl, by kernel_rfl, by kernel_rfl, Eq.trans (by kernel_rfl) ap, by kernel_rfl, hnx, k + 1, hlt, mu1 hlt,
            Wk.renC (c := 9) (b := 21) (St.renC.of rfl (.inl (by decide)) ⟨RV.eq (by kernel_rfl) rfl, RV.eq (by kernel_rfl) rfl, RV.eq (by kernel_rfl) rfl, RV.eq (Eq.trans (by kernel_rfl) e6) rfl, trivial⟩
              ⟨rvO.same (by decide : (1 : Nat) < 9) (by kernel_rfl) (by kernel_rfl), rvO.turn (by decide : (5 : Nat) < 9) (by kernel_rfl) rvL_X, rvO.same (by decide : (8 : Nat) < 9) (by kernel_rfl) (by kernel_rfl), rvO.new (by kernel_rfl) (crs_ok _ _), trivial⟩) (hlo.mono (show 9 ≤ 9 by decide))⟩
      · have hm : moreK s k = false := decide_eq_false hlt
        have hall : (crsP s).take k = crsP s := List.take_of_length_le (by omega)
        have tE := fun (h : Nat → Option AObj) (h0 : h 9 = some (.cells (fl cCr ((crsP s).take k)))) => (show thaw 8 h (.agg (cXa s (.rsl 9 0 ((crsP s).take k).length 73))) = some (encX s (crsP s), [9]) by rw [hall] at h0 ⊢; exact thaw_X h0)
        exact ACode.vcM (.br 20 false .nil) hn hlo (.roundW .cl) ⟨hm, _, .refl _, .val 22 (.agg (cXa s (.rsl 9 0 ((crsP s).take k).length 73))) [] <| .val 1 .undef [(1, some (.cells (cXa s (.rsl 9 0 ((crsP s).take k).length 73))))] .nil, by kernel_rfl, by kernel_rfl, [9], tE _ (by kernel_rfl)⟩

theorem atWork_D (s : Scn) (hs : ScOk s) (hg : 0 < s.gates.length) : APure Tryd.prog 13 [encSc s] (encX s (crsP s)) := by
  have h729 := all_729 hs
  have hcl := crsP_len s
  refine APure.vcM Tryd.func13 (.val 2 (.vptr 1 0) [(1, some (.cells zX))] <| .draw 4 <| .call (.agg kdL) <| .val 7 (.agg (cXa s .nil)) [] <| .val 3 (.vptr 5 0) [(5, some (.cells zX))] <| .val 1 .undef [(5, some (.cells (cXa s .nil)))] <|
    .call (.fn (.func 50) [] [.cptr [encGs s.gates]]) <| .inl Tryd.f50 .loop) rfl (by kernel_rfl) ⟨by kernel_rfl, by kernel_rfl, mixed, by kernel_rfl, kinds_spec, by kernel_rfl, by kernel_rfl, by kernel_rfl, by kernel_rfl, lists_spec _, Tryd.func50, ?_⟩
  intro g hn hlo
  replace hn : g.n = 29 := hn
  replace hlo : g.low 9 := hlo
  have hLl : (leastD (gSp s.gates)).length = s.gates.length := by unfold leastD gSp; rw [List.length_map, List.length_map]
  have hg6 := hs.gl
  refine acode_whileW (fun k : Nat => ⟨[(0, .yld 8), (1, .cptr [encGs s.gates]), (3, .rsl 9 0 ((leastD (gSp s.gates)).take k).length 1), (7, encGs s.gates), (8, .int .i64 (s.gates.map cGt).length), (9, .int .i64 k)], [(1, .cells zX), (5, .cells (cXa s .nil)), (8, .loop ⟨.ready, none, 23, [(2, .vptr 1 0), (3, .vptr 5 0)], #[11], asgW, bodW⟩), (9, .cells (iL ((leastD (gSp s.gates)).take k)))], 10⟩) (fun k => k ≤ s.gates.length) (fun k => s.gates.length - k) 0 (Nat.zero_le _) ?_ ?_
  · refine Wk.trans (Wk.le ?_ (hlo.mono (show 9 ≤ 10 by decide))) (Wk.trans (Wk.own 3 1 (by kernel_rfl)) (Wk.loopEnv (id := 8) (n := 9) [(2, .vptr 1 0), (3, .vptr 5 0)] rfl ⟨rfl, rfl, rfl, rfl, trivial⟩))
    exact St.le.of ⟨by kernel_rfl, rfl, by kernel_rfl, rfl, by kernel_rfl, rfl, by kernel_rfl, rfl, by kernel_rfl, rfl, by kernel_rfl, rfl, trivial⟩ ⟨by kernel_rfl, (by decide : (1 : Nat) < 10), by kernel_rfl, by kernel_rfl, (by decide : (5 : Nat) < 10), by kernel_rfl, by kernel_rfl, (by decide : (8 : Nat) < 10), by kernel_rfl, by kernel_rfl, (by decide : (9 : Nat) < 10), rfl, trivial⟩
  · intro k hk
    replace hk : k ≤ s.gates.length := hk
    by_cases hlt : k < s.gates.length
    · refine Exists.elim (getE hlt) fun x hx => ?_
      have ek := congrArg (AV.int .i64) (succ64 (k := k) (by omega))
      have hlx : (leastD (gSp s.gates))[k]? = some x.lo := by unfold leastD gSp; rw [List.getElem?_map, List.getElem?_map, hx]; rfl
      have es := take_snoc hlx
      have el : ((leastD (gSp s.gates)).take (k + 1)).length = ((leastD (gSp s.gates)).take k).length + 1 := by rw [es]; simp
      have ap := app_one (h := hget [(9, .cells (iL ((leastD (gSp s.gates)).take k))), (12, .cells [.int .i64 x.lo])]) (i := 9) (j := 12) (nid := 13) (l := (leastD (gSp s.gates)).take k) (x := x.lo) rfl rfl (by rw [List.length_take]; omega)
      rw [← es, ← el] at ap
      exact ACode.vcM (.br 10 true <| .cells (cGt x) <| .val 18 (.rsl 13 0 ((leastD (gSp s.gates)).take (k + 1)).length 1) [(9, none), (13, some (.cells (iL ((leastD (gSp s.gates)).take (k + 1)))))] .nil) hn hlo (.roundW .cl) ⟨ltLen hlt, idx hx, Eq.trans (by kernel_rfl) ap, k + 1, hlt, mu1 hlt,
        Wk.ren (c := 9) (b := 13) (St.ren.of rfl (by decide) ⟨.inl ⟨by kernel_rfl, rfl⟩, .inl ⟨by kernel_rfl, rfl⟩, .inr ⟨_, _, _, rfl, by kernel_rfl⟩, .inl ⟨by kernel_rfl, rfl⟩, .inl ⟨by kernel_rfl, rfl⟩, .inl ⟨Eq.trans (by kernel_rfl) ek, rfl⟩, trivial⟩
          ⟨.inl ⟨(by decide : (1 : Nat) < 9), by kernel_rfl, by kernel_rfl⟩, .inl ⟨(by decide : (5 : Nat) < 9), by kernel_rfl, by kernel_rfl⟩, .inl ⟨(by decide : (8 : Nat) < 9), by kernel_rfl, by kernel_rfl⟩, .inr ⟨rfl, by kernel_rfl, _, rfl, iL_ok _ _⟩, trivial⟩) (hlo.mono (show 9 ≤ 9 by decide))⟩
    · have hk' : k = s.gates.length := by omega
      refine ACode.vcM (.br 10 false .nil) hn hlo (.roundW .cl) ⟨geLen hlt, _, .refl _, .loop, ?_⟩
      have e3 : AV.rsl 9 0 ((leastD (gSp s.gates)).take k).length 1 = .rsl 9 0 s.gates.length 1 := by rw [List.length_take, hk', hLl, Nat.min_self]
      obtain ⟨⟨t0, et0⟩, _⟩ := all_run (sp_le hs)
      have e9 : some (AObj.cells (iL ((leastD (gSp s.gates)).take k))) = some (.cells (iL (dsK s 0))) := by
        rw [hk', ← hLl, List.take_length]; unfold dsK; rw [et0]; rfl
      have e6 : AV.bool true = .bool (moreK s 0) := by unfold moreK; rw [et0]; rfl
      intro g hn hlo
      replace hn : g.n = 29 := hn
      replace hlo : g.low 9 := hlo
      refine acode_whileW (fun k : Nat => ⟨[(0, .yld 8), (1, .cptr [encGs s.gates]), (3, .rsl 9 0 s.gates.length 1), (6, .bool (moreK s (k)))], [(1, .cells zX), (5, .cells (cXa s (.rsl 10 0 ((crsP s).take (k)).length 73))), (8, .loop ⟨.ready, none, 23, [(2, .vptr 1 0), (3, .vptr 5 0)], #[11], asgW, bodW⟩), (9, .cells (iL (dsK s (k)))), (10, .cells (fl cCr ((crsP s).take (k))))], 11⟩) (fun k => k ≤ (allD (gSp s.gates)).length) (fun k => (allD (gSp s.gates)).length - k) 0 (Nat.zero_le _) ?_ ?_
      · refine Wk.trans (Wk.le ?_ (hlo.mono (show 9 ≤ 11 by decide))) (Wk.ownC 5 32 73 (cs := cXa s .nil) (by kernel_rfl) (by kernel_rfl))
        exact St.le.of ⟨by kernel_rfl, rfl, by kernel_rfl, rfl, Eq.trans (by kernel_rfl) e3, rfl, Eq.trans (by kernel_rfl) e6, rfl, trivial⟩ ⟨by kernel_rfl, (by decide : (1 : Nat) < 11), by kernel_rfl, by kernel_rfl, (by decide : (5 : Nat) < 11), by kernel_rfl, by kernel_rfl, (by decide : (8 : Nat) < 11), by kernel_rfl, Eq.trans (by kernel_rfl) e9, (by decide : (9 : Nat) < 11), iL_ok _ _, by kernel_rfl, (by decide : (10 : Nat) < 11), rfl, trivial⟩
      · intro k hk
        replace hk : k ≤ (allD (gSp s.gates)).length := hk
        by_cases hlt : k < (allD (gSp s.gates)).length
        · obtain ⟨ds, R⟩ := rnd_of hs hlt
          have hm : moreK s k = true := decide_eq_true hlt
          have hdl := ds_len hs R.are
          have hfar := far_spec s hs ((crsP s).take k) ds R.are hdl
          have tX := fun (h : Nat → Option AObj) (h0 : h 10 = some (.cells (fl cCr ((crsP s).take k)))) => thawL_X (s := s) (ds := ds) h0
          have ecrs := take_snoc R.crs
          have elen : ((crsP s).take (k + 1)).length = ((crsP s).take k).length + 1 := by rw [ecrs]; simp
          have ap := app_crs (h := hget [(10, .cells (fl cCr ((crsP s).take k))), (18, .cells (cCr (ds, farP s ds)))]) (i := 10) (j := 18) (nid := 22) (l := (crsP s).take k) (x := (ds, farP s ds)) rfl rfl (by rw [List.length_take]; omega)
          rw [← ecrs, ← elen] at ap
          obtain ⟨d0, l0, edl⟩ : ∃ d0 l0, ds = d0 :: l0 := by
            cases ds with
            | nil => rw [← hdl] at hg; exact absurd hg (Nat.lt_irrefl 0)
            | cons d l => exact ⟨d, l, rfl⟩
          have hcl0 : APureF Tryd.prog 52 [encR ds] (encR ds) := by rw [edl]; exact Clone_spec d0 l0 (by rw [← edl]; omega)
          have tc := fun (h : Nat → Option AObj) (h0 : h 9 = some (.cells (iL (dsK s k)))) => (show thawL h [.rsl 9 0 s.gates.length 1] = some ([encR ds], [9]) by
            rw [R.now] at h0
            have e := thaw_fl (enc := encI) (n := 1) 6 (fun _ => rfl) (fun _ => rfl) h0
            rw [hdl] at e
            simp only [thawL, mapO, e]; rfl)
          have en : some (AObj.cells (iL (dsK s k))) = some (.cells (iL ds)) := by rw [R.now]
          have mutC := isNext_mut s.gates ds (N := s.gates.length) hdl.symm hdl (by omega) (ds_bd hs R.are)
          have e6 : AV.bool (nextD (gSp s.gates) ds).isSome = .bool (moreK s (k + 1)) := by rw [R.isS]
          exact ACode.vcM (.br 20 true <| .lent (encR ds) [9] <| .draw 8 <| .val 13 (.rsl 10 0 ((crsP s).take k).length 73) [] <| .val 15 (.agg (cXa s (.rsl 10 0 ((crsP s).take k).length 73))) [] <| .lent (.agg (cTab (farP s ds))) [10] <| .val 18 (.agg (cCr (ds, farP s ds))) [] <| .val 19 (.rsl 18 0 1 73) [(18, some (.cells (cCr (ds, farP s ds))))] <|
              .val 20 (.rsl 22 0 ((crsP s).take (k + 1)).length 73) [(10, none), (22, some (.cells (fl cCr ((crsP s).take (k + 1)))))] <| .val 1 .undef [(5, some (.cells (cXa s (.rsl 22 0 ((crsP s).take (k + 1)).length 73))))] <| .inl Tryd.f51 <| .nz .nil) hn hlo (.roundW .cl)
            ⟨hm, ⟨_, tc _ (by kernel_rfl), .inr hcl0⟩, by kernel_rfl, mixed, by kernel_rfl, by kernel_rfl, by kernel_rfl, ⟨_, tX _ (by kernel_rfl), .inl ⟨hfar, .inr (by kernel_rfl)⟩⟩, by kernel_rfl, by kernel_rfl, by kernel_rfl, Eq.trans (by kernel_rfl) ap, by kernel_rfl, Tryd.func51,
             AMut.use (id := 9) mutC (by kernel_rfl) rfl (iL_ok 0 ds) (fun _ h => (show _ = iL _ from h) ▸ iL_ok 0 _) (Eq.trans (by kernel_rfl) en) fun cs' hQ => ⟨k + 1, hlt, mu1 hlt,
              Wk.renC (c := 10) (b := 22) (St.renC.of rfl (.inl (by decide)) ⟨RV.eq (by kernel_rfl) rfl, RV.eq (by kernel_rfl) rfl, RV.eq (by kernel_rfl) rfl, RV.eq (Eq.trans (by kernel_rfl) e6) rfl, trivial⟩
                ⟨rvO.same (by decide : (1 : Nat) < 10) (by kernel_rfl) (by kernel_rfl), rvO.turn (by decide : (5 : Nat) < 10) (by kernel_rfl) rvL_X, rvO.same (by decide : (8 : Nat) < 10) (by kernel_rfl) (by kernel_rfl), rvO.same (by decide : (9 : Nat) < 10) (Eq.trans (by kernel_rfl) (show some (AObj.cells cs') = some (.cells (iL (dsK s (k + 1)))) by rw [show cs' = iL (nxtL s.gates ds) from hQ, R.nxt])) (iL_ok _ _), rvO.new (by kernel_rfl) (crs_ok _ _), trivial⟩) (hlo.mono (show 9 ≤ 10 by decide))⟩⟩
        · have hm : moreK s k = false := decide_eq_false hlt
          have hall : (crsP s).take k = crsP s := List.take_of_length_le (by omega)
          have tE := fun (h : Nat → Option AObj) (h0 : h 10 = some (.cells (fl cCr ((crsP s).take k)))) => (show thaw 8 h (.agg (cXa s (.rsl 10 0 ((crsP s).take k).length 73))) = some (encX s (crsP s), [10]) by rw [hall] at h0 ⊢; exact thaw_X h0)
          exact ACode.vcM (.br 20 false .nil) hn hlo (.roundW .cl) ⟨hm, _, .refl _, .val 22 (.agg (cXa s (.rsl 10 0 ((crsP s).take k).length 73))) [] <| .val 1 .undef [(1, some (.cells (cXa s (.rsl 10 0 ((crsP s).take k).length 73))))] .nil, by kernel_rfl, by kernel_rfl, [10], tE _ (by kernel_rfl)⟩

theorem atWork_spec (s : Scn) (hs : ScOk s) : APure Tryd.prog 13 [encSc s] (encX s (crsP s)) := by
  by_cases hg : 0 < s.gates.length
  · exact atWork_D s hs hg
  · exact atWork_N s hs (List.eq_nil_of_length_eq_zero (by omega))
end Go.Proofs.YtmllgnnhblhfeaaDoor
