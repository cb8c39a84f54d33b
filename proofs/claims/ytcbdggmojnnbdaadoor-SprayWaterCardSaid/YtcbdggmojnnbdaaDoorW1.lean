import Derived.Test.YtcbdggmojnnbdaaDoorV1
/-
  OPEN HEADS; WHAT FLOWS UP THE PIPES.
-/
namespace Go.Proofs.YtcbdggmojnnbdaaDoor
open Go Go.Am
set_option maxRecDepth 100000
set_option maxHeartbeats 8000000
/-! ### the first place -/
def idxA {α : Type} (p : α → Bool) (l : List α) : Int := match l.findIdx? p with | none => -1 | some i => (i : Int)
theorem idxA_hit {α : Type} {p : α → Bool} {l : List α} {k : Nat} {x : α} (hx : l[k]? = some x) (h0 : ∀ y ∈ l.take k, p y = false) (h1 : p x = true) : idxA p l = k := by
  unfold idxA
  obtain ⟨hk, hxe⟩ := List.getElem?_eq_some_iff.1 hx
  have : l.findIdx? p = some k := List.findIdx?_eq_some_iff_getElem.2 ⟨hk, by rw [hxe]; exact h1, fun j hj => by
    have : l[j] ∈ l.take k := by
      rw [List.mem_take_iff_getElem]
      exact ⟨j, by omega, rfl⟩
    simpa using h0 _ this⟩
  rw [this]
theorem idxA_none {α : Type} {p : α → Bool} {l : List α} (h0 : ∀ y ∈ l, p y = false) : idxA p l = -1 := by
  unfold idxA
  rw [List.findIdx?_eq_none_iff.2 h0]
theorem idxA_any {α : Type} (p : α → Bool) (l : List α) : decide (idxA p l ≥ 0) = l.any p := by
  unfold idxA
  cases hf : l.findIdx? p with
  | none =>
    rw [List.findIdx?_eq_none_iff] at hf
    have : l.any p = false := List.any_eq_false.2 fun x hx => by simp [hf x hx]
    rw [this]; rfl
  | some i =>
    obtain ⟨hi, hx, _⟩ := List.findIdx?_eq_some_iff_getElem.1 hf
    have : l.any p = true := List.any_eq_true.2 ⟨_, List.getElem_mem hi, hx⟩
    rw [this]
    exact decide_eq_true (Int.natCast_nonneg _)
theorem take_none {α : Type} {p : α → Bool} {l : List α} {k : Nat} {x : α} (hx : l[k]? = some x) (h0 : ∀ y ∈ l.take k, p y = false) (h1 : p x = false) : ∀ y ∈ l.take (k + 1), p y = false := fun y hy => by
  rw [List.take_add_one, hx] at hy
  rcases List.mem_append.1 hy with hy | hy
  · exact h0 y hy
  · simp at hy; subst hy; exact h1
theorem Index_spec (l : List Int) (v : Int) (hl : l.length ≤ 1000000) : APure Tryd.prog 86 [encR l, .int .i64 v] (.int .i64 (idxA (fun y => v == y) l)) := by
  refine APure.vc Tryd.func86 rfl .loop rfl rfl ?_
  intro g hn hl'
  replace hn : g.n = 19 := hn
  replace hl' : g.low 0 := hl'
  refine acode_while (fun k : Nat => ⟨[(0, encR l), (1, .int .i64 v), (7, .int .i64 (l.map encI).length), (8, .int .i64 k)], [], 0⟩) (fun k => k ≤ l.length ∧ ∀ y ∈ l.take k, (v == y) = false) (fun k => l.length - k) 0 ⟨Nat.zero_le _, fun y hy => by simp at hy⟩ ?_ (fun _ _ => hl') ?_
  · exact St.le.of ⟨rfl, rfl, rfl, rfl, rfl, rfl, rfl, rfl, trivial⟩ trivial
  · rintro k ⟨hk1, hk2⟩
    by_cases hlt : k < l.length
    · refine Exists.elim (getE hlt) fun x hx => ?_
      have ek := congrArg (AV.int .i64) (succ64 (k := k) (by omega))
      cases hb : (v == x)
      · exact ACode.vc (.br 9 true <| .cells (encI x) <| .br 16 false .nil) hn hl' (.round .cl) ⟨ltLen hlt, idx hx, hb, k + 1, ⟨hlt, take_none hx hk2 hb⟩, mu1 hlt,
          St.le.of ⟨rfl, rfl, rfl, rfl, rfl, rfl, ek, rfl, trivial⟩ trivial⟩
      · exact ACode.vc (.br 9 true <| .cells (encI x) <| .br 16 true .nil) hn hl' (.round .cl) ⟨ltLen hlt, idx hx, hb, _, .refl _, .nil, rI (idxA_hit hx hk2 hb).symm⟩
    · have hk' : k = l.length := by omega
      exact ACode.vc (.br 9 false .nil) hn hl' (.round .cl) ⟨geLen hlt, _, .refl _, .nil, rI (idxA_none (by rw [hk', List.take_length] at hk2; exact hk2)).symm⟩
theorem contains_any (l : List Int) (v : Int) : l.any (fun y => v == y) = l.contains v := by
  rw [List.contains_eq_any_beq]
theorem Contains_spec (l : List Int) (v : Int) (hl : l.length ≤ 1000000) : APure Tryd.prog 65 [encR l, .int .i64 v] (.bool (l.contains v)) :=
  APure.vc Tryd.func65 rfl (.call (.int .i64 (idxA (fun y => v == y) l)) .nil) rfl rfl ⟨Index_spec l v hl, rB (by rw [idxA_any, contains_any])⟩
theorem areOpen1_spec (h : Hh) (x : Int) : APure Tryd.prog 85 [encHh h, .cptr [.int .i64 x]] (.bool (h.id == x)) := APure.vc Tryd.func85 rfl .nil rfl rfl (rB rfl)
def idCl (x : Int) : AV := .fn (.func 85) [] [.cptr [.int .i64 x]]
theorem IndexH_spec (l : List Hh) (x : Int) (hl : l.length ≤ 1000) : APure Tryd.prog 101 [encH l, idCl x] (.int .i64 (idxA (fun h => h.id == x) l)) := by
  refine APure.vc Tryd.func101 rfl .loop rfl rfl ?_
  intro g hn hl'
  replace hn : g.n = 19 := hn
  replace hl' : g.low 0 := hl'
  refine acode_while (fun k : Nat => ⟨[(0, encH l), (1, idCl x), (7, .int .i64 (l.map cH).length), (8, .int .i64 k)], [], 0⟩) (fun k => k ≤ l.length ∧ ∀ y ∈ l.take k, (y.id == x) = false) (fun k => l.length - k) 0 ⟨Nat.zero_le _, fun y hy => by simp at hy⟩ ?_ (fun _ _ => hl') ?_
  · exact St.le.of ⟨rfl, rfl, rfl, rfl, rfl, rfl, rfl, rfl, trivial⟩ trivial
  · rintro k ⟨hk1, hk2⟩
    by_cases hlt : k < l.length
    · refine Exists.elim (getE hlt) fun h hh => ?_
      have ek := congrArg (AV.int .i64) (succ64 (k := k) (by omega))
      have s := areOpen1_spec h x
      cases hb : (h.id == x)
      · rw [hb] at s
        exact ACode.vc (.br 9 true <| .cells (cH h) <| .call (.bool false) .nil) hn hl' (.round .cl) ⟨ltLen hlt, idx hh, s, k + 1, ⟨hlt, take_none (p := fun h : Hh => h.id == x) hh hk2 hb⟩, mu1 hlt,
          St.le.of ⟨rfl, rfl, rfl, rfl, rfl, rfl, ek, rfl, trivial⟩ trivial⟩
      · rw [hb] at s
        exact ACode.vc (.br 9 true <| .cells (cH h) <| .call (.bool true) .nil) hn hl' (.round .cl) ⟨ltLen hlt, idx hh, s, _, .refl _, .nil, rI (idxA_hit (p := fun h : Hh => h.id == x) hh hk2 hb).symm⟩
    · have hk' : k = l.length := by omega
      exact ACode.vc (.br 9 false .nil) hn hl' (.round .cl) ⟨geLen hlt, _, .refl _, .nil, rI (idxA_none (p := fun h : Hh => h.id == x) (by rw [hk', List.take_length] at hk2; exact hk2)).symm⟩
theorem ContainsH_spec (l : List Hh) (x : Int) (hl : l.length ≤ 1000) : APure Tryd.prog 84 [encH l, idCl x] (.bool (l.any fun h => h.id == x)) :=
  APure.vc Tryd.func84 rfl (.call (.int .i64 (idxA (fun h : Hh => h.id == x) l)) .nil) rfl rfl ⟨IndexH_spec l x hl, rB (idxA_any _ _)⟩
theorem isIncreasing_spec (l : List Int) (hl : l.length ≤ 100000) : APure Tryd.prog 72 [encR l] (.bool (incB l)) := by
  refine APure.vc Tryd.func72 rfl .loop rfl rfl ?_
  intro g hn hl'
  replace hn : g.n = 24 := hn
  replace hl' : g.low 0 := hl'
  refine acode_while (fun k : Nat => ⟨[(0, encR l), (5, encR l), (6, .int .i64 (l.map encI).length), (7, .int .i64 k)], [], 0⟩) (fun k => k ≤ l.length ∧ allI (incI l) (l.take k) = true) (fun k => l.length - k) 0 ⟨Nat.zero_le _, rfl⟩ ?_ (fun _ _ => hl') ?_
  · exact St.le.of ⟨rfl, rfl, rfl, rfl, rfl, rfl, rfl, rfl, trivial⟩ trivial
  · rintro k ⟨hk1, hk2⟩
    by_cases hlt : k < l.length
    · refine Exists.elim (getE hlt) fun x hx => ?_
      have ek := congrArg (AV.int .i64) (succ64 (k := k) (by omega))
      cases k with
      | zero =>
        have good : allI (incI l) (l.take 1) = true := by rw [allI_take hx, hk2]; rfl
        exact ACode.vc (.br 8 true <| .cells (encI x) <| .br 14 false .nil) hn hl' (.round .cl) ⟨ltLen hlt, idx hx, rfl, 1, ⟨hlt, good⟩, mu1 hlt, St.le.of ⟨rfl, rfl, rfl, rfl, rfl, rfl, ek, rfl, trivial⟩ trivial⟩
      | succ j =>
        refine Exists.elim (getE (show j < l.length by omega)) fun y hy => ?_
        have ej : IntKind.i64.wrap (((j + 1 : Nat) : Int) - 1) = (j : Int) := pred64 (by omega)
        have d13 : decide (((j + 1 : Nat) : Int) > 0) = true := decide_eq_true (by omega)
        have ey : l.getD j 0 = y := by rw [List.getD_eq_getElem?_getD, hy]; rfl
        have ei : incI l (j + 1) x = !decide (x ≤ y) := by
          unfold incI
          rw [Nat.add_sub_cancel, ey, decide_eq_true (Nat.succ_pos j), Bool.true_and]
        cases c : decide (x ≤ y)
        · have good : allI (incI l) (l.take (j + 2)) = true := by rw [allI_take hx, hk2, ei, c]; rfl
          exact ACode.vc (.br 8 true <| .cells (encI x) <| .br 14 true <| .cells (encI y) <| .br 22 false .nil) hn hl' (.round .cl) ⟨ltLen hlt, idx hx, d13, idxW ej hy, c, j + 2, ⟨hlt, good⟩, mu1 hlt, St.le.of ⟨rfl, rfl, rfl, rfl, rfl, rfl, ek, rfl, trivial⟩ trivial⟩
        · have bad : false = incB l := (allI_bad hx (by rw [ei, c]; rfl)).symm
          exact ACode.vc (.br 8 true <| .cells (encI x) <| .br 14 true <| .cells (encI y) <| .br 22 true .nil) hn hl' (.round .cl) ⟨ltLen hlt, idx hx, d13, idxW ej hy, c, _, .refl _, .nil, rB bad⟩
    · have hk' : k = l.length := by omega
      have e : true = incB l := by rw [hk', List.take_length] at hk2; exact hk2.symm
      exact ACode.vc (.br 8 false .nil) hn hl' (.round .cl) ⟨geLen hlt, _, .refl _, .nil, rB e⟩
theorem areOpen_spec (n : Nt) (l : List Int) (hn0 : n.hs.length ≤ 1000) (hl : l.length ≤ 100000) : APure Tryd.prog 63 [encN n, encR l] (.bool (openB n l)) := by
  have sI := isIncreasing_spec l hl
  refine APure.vc Tryd.func63 rfl .loop rfl rfl ?_
  intro g hn hl'
  replace hn : g.n = 21 := hn
  replace hl' : g.low 0 := hl'
  refine acode_while (fun k : Nat => ⟨[(1, encR l), (2, .vptr 0 0), (7, encR l), (8, .int .i64 (l.map encI).length), (9, .int .i64 k)], [(0, .cells (cN n))], 1⟩) (fun k => k ≤ l.length ∧ (l.take k).all (hasId n) = true) (fun k => l.length - k) 0 ⟨Nat.zero_le _, rfl⟩ ?_ (fun _ _ => hl'.mono (Nat.zero_le _)) ?_
  · exact St.le.of ⟨rfl, rfl, rfl, rfl, rfl, rfl, rfl, rfl, rfl, rfl, trivial⟩ ⟨rfl, (by decide : (0 : Nat) < 1), rfl, trivial⟩
  · rintro k ⟨hk1, hk2⟩
    by_cases hlt : k < l.length
    · refine Exists.elim (getE hlt) fun x hx => ?_
      have ek := congrArg (AV.int .i64) (succ64 (k := k) (by omega))
      have s := ContainsH_spec n.hs x hn0
      cases hb : (n.hs.any fun h => h.id == x)
      · rw [hb] at s
        have bad : false = openB n l := by simp [openB, all_bad hx (show hasId n x = false from hb)]
        exact ACode.vc (.br 10 true <| .cells (encI x) <| .lent (.bool false) [1] .nil) hn hl' (.round .cl) ⟨ltLen hlt, idx hx, ⟨_, by kernel_rfl, .inl ⟨s, .inr rfl⟩⟩, _, .refl _, .nil, rB bad⟩
      · rw [hb] at s
        have good : (l.take (k + 1)).all (hasId n) = true := by rw [take_all hx, hk2]; exact hb
        exact ACode.vc (.br 10 true <| .cells (encI x) <| .lent (.bool true) [1] .nil) hn hl' (.round .cl) ⟨ltLen hlt, idx hx, ⟨_, by kernel_rfl, .inl ⟨s, .inr rfl⟩⟩, k + 1, ⟨hlt, good⟩, mu1 hlt,
          St.le.of ⟨rfl, rfl, rfl, rfl, rfl, rfl, rfl, rfl, ek, rfl, trivial⟩ ⟨rfl, (by decide : (0 : Nat) < 1), rfl, trivial⟩⟩
    · have hk' : k = l.length := by omega
      have e : incB l = openB n l := by rw [hk', List.take_length] at hk2; simp [openB, hk2]
      exact ACode.vc (.br 10 false .nil) hn hl' (.round .cl) ⟨geLen hlt, _, .refl _, .call (.bool (incB l)) .nil, sI, rB e⟩
def openI (n : Nt) (l : List Int) : Int := if netB n then (if openB n l then 0 else 2) else 50
theorem checkOpen_spec (n : Nt) (l : List Int) (hbig : n.pm.length ≤ 1000000) (hl : l.length ≤ 100000) : APure Tryd.prog 43 [encN n, encR l] (.int .i64 (openI n l)) := by
  have s1 := Check_spec n hbig
  cases h1 : netB n
  · have e : checkI n = 50 := by simp [checkI, h1]
    have e2 : openI n l = 50 := by simp [openI, h1]
    rw [e] at s1
    rw [e2]
    exact APure.vc Tryd.func43 rfl (.call (.int .i64 50) .nil) rfl rfl ⟨s1, trivial, rfl⟩
  · have e : checkI n = 0 := by simp [checkI, h1]
    rw [e] at s1
    have s2 := areOpen_spec n l (by have := (netB_iff.1 h1).hl; omega) hl
    cases h2 : openB n l
    · rw [h2] at s2
      have e2 : openI n l = 2 := by simp [openI, h1, h2]
      rw [e2]
      exact APure.vc Tryd.func43 rfl (.call (.int .i64 0) <| .call (.bool false) .nil) rfl rfl ⟨s1, s2, trivial, rfl⟩
    · rw [h2] at s2
      have e2 : openI n l = 0 := by simp [openI, h1, h2]
      rw [e2]
      exact APure.vc Tryd.func43 rfl (.call (.int .i64 0) <| .call (.bool true) .nil) rfl rfl ⟨s1, s2, trivial, rfl⟩
end Go.Proofs.YtcbdggmojnnbdaaDoor
/-
  A NET AT WORK: what flows up the pipes, head by head.
-/
namespace Go.Proofs.YtcbdggmojnnbdaaDoor
open Go Go.Am
set_option maxRecDepth 100000
set_option maxHeartbeats 16000000
/-- A call, by a walk. -/
theorem RangeOk.vc {P : Program} {f : FuncId} {fn : Func} {args : List AV} {H : AHeap} {nx : Nat} {K : AV → AHeap → Nat → Prop} (hf : P.funcs[f]? = some fn) (τ : Tp)
    (h : vFn P (vxm P 4) fn args H nx τ fun r H' nx' _ => K r H' nx') : RangeOk P f args H nx K :=
  ((vFn_ok (vxm_ok P 4)).call h hf).mono fun _ _ _ ⟨_, h⟩ => h
def upCl : AV := .fn (.func 64) [] [.vptr 8 0, .vptr 11 0, .vptr 0 0]
/-- The cells of the net at work, its flows and open heads of one's own. -/
def wC (n : Nt) (O : AV) (len : Nat) (fw : Int) : List AV := cN n ++ [O, .rsl 6 0 len 1, .int .i64 fw]
def HU (n : Nt) (X : List AV) (f : List Int) (O : AV) (fw : Int) (A B C : List AV) : AHeap := [(0, .cells (cN n)), (1, .cells X), (6, .cells (iL f)), (8, .cells (wC n O f.length fw)), (11, .cells [upCl]), (14, .cells A), (16, .cells B), (17, .cells C)]
theorem up_spec (n : Nt) (ht : Tree n.ps) (hp : n.ps.length ≤ 12) (d : Int) (hd : 0 ≤ d ∧ d ≤ 500) (X A B C : List AV) (O : AV) (fw : Int) (hfw : 0 ≤ fw ∧ fw ≤ 100000) : ∀ (node : Nat) (f : List Int) (nx : Nat), node ≤ n.ps.length → f.length = n.ps.length →
    (∀ i x, i < node → f[i]? = some x → 0 ≤ x ∧ x ≤ 100000) →
    ∀ fid, Tryd.prog.funcs[fid]? = some Tryd.f64 → RangeOk Tryd.prog fid [.int .i64 node, .int .i64 d, .vptr 8 0, .vptr 11 0, .vptr 0 0] (HU n X f O fw A B C) (nx + 1) (fun r H' _ => r = .undef ∧ H' = HU n X (addP n.ps node d f) O (fw + d) A B C) := by
  intro node
  induction node using Nat.strongRecOn with
  | _ node ih =>
    intro f nx hnode hlen hrng fid hfid
    cases node with
    | zero =>
      have v : some (⟨.int .i64 (IntKind.i64.wrap (fw + d)), []⟩ : Out) = some ⟨.int .i64 (fw + d), []⟩ := by rw [wrap64 (by omega) (by omega)]
      have e := addP_zero n.ps d f
      exact RangeOk.vc hfid (.val 12 (.int .i64 (fw + d)) [] .nil) ⟨v, rfl, by rw [e]; rfl⟩
    | succ m =>
      refine Exists.elim (getE (show m < n.ps.length by omega)) fun p hpx => ?_
      refine Exists.elim (getE (show m < f.length by omega)) fun x hx => ?_
      obtain ⟨efr, ep⟩ := ht.frI hpx
      have hxr := hrng m x (by omega) hx
      have ej : IntKind.i64.wrap (((m + 1 : Nat) : Int) - 1) = (m : Int) := pred64 (by omega)
      have d8 : ((((m + 1 : Nat) : Int)) == 0) = false := by rw [beq_eq_false_iff_ne]; omega
      have ix := ixI (h := hget []) (id := 6) (n := f.length) ej (by omega)
      have l1 := ldI (h := hget [(6, .cells (iL f))]) (id := 6) (l := f) rfl hx
      have v : some (⟨.int .i64 (IntKind.i64.wrap (x + d)), []⟩ : Out) = some ⟨.int .i64 (x + d), []⟩ := by rw [wrap64 (by omega) (by omega)]
      have st := stI (h := hget [(6, .cells (iL f))]) (id := 6) (l := f) (x := x + d) rfl (show m < f.length by omega)
      have hfr := ht.fr (node := m + 1) (by omega)
      rw [Nat.add_sub_cancel] at hfr
      have hgd : f.getD (m + 1 - 1) 0 = x := by rw [Nat.add_sub_cancel, List.getD_eq_getElem?_getD, hx]; rfl
      have eA := addP_step ht (node := m + 1) (by omega) d (fl := f) (by omega)
      rw [hgd, Nat.add_sub_cancel] at eA
      have hl2 : (f.set m (x + d)).length = f.length := List.length_set
      have step := ih _ (show (pAt n.ps m).fr.toNat < m + 1 by omega) (f.set m (x + d)) (nx + 11) (by omega) (by rw [hl2, hlen]) (fun i y hi hy => by
        rw [List.getElem?_set, if_neg (by omega)] at hy
        exact hrng i y (by omega) hy)
      rw [eA, ← efr] at step
      have eH : HU n X (f.set m (x + d)) O fw A B C = [(0, .cells (cN n)), (1, .cells X), (6, .cells (iL (f.set m (x + d)))), (8, .cells (wC n O f.length fw)), (11, .cells [upCl]), (14, .cells A), (16, .cells B), (17, .cells C)] := by unfold HU; rw [hl2]
      rw [eH] at step
      exact RangeOk.vc hfid (.br 8 false <| .val 18 (.vptr 6 m) [] <| .val 19 (.int .i64 x) [] <| .val 21 (.int .i64 (x + d)) [] <| .val 22 (.vptr 6 m) [] <| .val 1 .undef [(6, some (.cells (iL (f.set m (x + d)))))] <|
          .draw 9 <| .cells (cP p) <| .inl Tryd.f64 <| .nz .nil)
        ⟨d8, Eq.trans (by kernel_rfl) ix, Eq.trans (by kernel_rfl) l1, v, Eq.trans (by kernel_rfl) ix, Eq.trans (by kernel_rfl) st, by kernel_rfl, mixed, by kernel_rfl, idxW ej hpx, by kernel_rfl, Tryd.func64,
          _, step, fun r H' nx' hq => ⟨rfl, hq.2⟩⟩
end Go.Proofs.YtcbdggmojnnbdaaDoor
/-
  A NET BEGINS TO WORK.
-/
namespace Go.Proofs.YtcbdggmojnnbdaaDoor
open Go Go.Am
set_option maxRecDepth 100000
set_option maxHeartbeats 16000000
/-- A net at work. -/
def cWk (n : Nt) (hs : List Hh) : List AV := cN n ++ [encH hs, encR (flowsL n.ps hs), .int .i64 (needS hs)]
def encWk (n : Nt) (hs : List Hh) : AV := .agg (cWk n hs)
def hL (l : List Hh) : List AV := fl cH l
theorem hL_ok (n : Nat) (l : List Hh) : okL n (hL l) = true := fl_ok (enc := cH) (fun _ => rfl) l
theorem app_oneH {h : Nat → Option AObj} {i j nid : Nat} {l : List Hh} {x : Hh} (h0 : h i = some (.cells (hL l))) (h1 : h j = some (.cells (cH x))) (hl : l.length ≤ 100000) :
    aAppend Tryd.prog h nid 28 28 (.rsl i 0 l.length 8) (.rsl j 0 1 8) = some ⟨.rsl nid 0 (l.length + 1) 8, [(i, none), (nid, some (.cells (hL (l ++ [x]))))]⟩ := by
  have e : hL (l ++ [x]) = hL l ++ cH x := by simp [hL, fl]
  have el : (hL l).length = l.length * 8 := fl_len (enc := cH) (n := 8) (fun _ => rfl) l
  have ec : (cH x).all cellB = true := rfl
  have et : ((cH x).drop 0).take (1 * 8) = cH x := rfl
  have e8 : (cH x).length = 8 := rfl
  simp only [aAppend, ty28, ty50, srcCells, h0, h1]
  simp only [et, e8, el, e]
  simp
  exact ⟨fun y hy => List.all_eq_true.1 ec y hy, by omega⟩
theorem rep_iL (len : Nat) : rep len [AV.int .i64 0] = iL (List.replicate len 0) := by
  induction len with
  | zero => rfl
  | succ len ih => show AV.int .i64 0 :: rep len _ = _; rw [ih]; rfl
theorem mk_ints {id len : Nat} (hl : len ≤ 100000) : aMakeSlice Tryd.prog id 23 (.int .i64 len) (.int .i64 len) = some ⟨.rsl id 0 len 1, [(id, some (.cells (iL (List.replicate len 0))))]⟩ := by
  simp only [aMakeSlice, ty23, ty3]
  rw [if_pos (by refine ⟨trivial, ?_, ?_, ?_, ?_, rfl⟩ <;> simp <;> omega)]
  simp only [Int.toNat_natCast, rep_iL]
theorem thaw_Wk {h : Nat → Option AObj} {n : Nt} {hs : List Hh} (h13 : h 13 = some (.cells (hL hs))) (h6 : h 6 = some (.cells (iL (flowsL n.ps hs)))) :
    thaw 8 h (.agg (wC n (.rsl 13 0 hs.length 8) (flowsL n.ps hs).length (needS hs))) = some (encWk n hs, [13, 6]) := by
  have t1 := thaw_fl 5 (h := h) (id := 13) (enc := cH) (n := 8) (l := hs) (fun _ => rfl) (fun _ => rfl) h13
  have t2 := thaw_fl 5 (h := h) (id := 6) (enc := encI) (n := 1) (l := flowsL n.ps hs) (fun _ => rfl) (fun _ => rfl) h6
  have e : thaw 8 h (.agg (wC n (.rsl 13 0 hs.length 8) (flowsL n.ps hs).length (needS hs))) = (mapO (thaw 7 h) (wC n (.rsl 13 0 hs.length 8) (flowsL n.ps hs).length (needS hs))).map fun p => (.agg p.1, p.2) := rfl
  have k : ∀ a : AV, a.ok 0 = true → thaw 7 h a = some (a, []) := fun a ha => by unfold thaw; exact if_pos ha
  rw [e]
  simp only [wC, cN, List.cons_append, List.nil_append, mapO, k (encP n.ps) rfl, k (encH n.hs) rfl, k (encM n.pm) rfl, k (.int .i64 n.out) rfl, k (.int .i64 n.tLo) rfl, k (.int .i64 n.tHi) rfl, k (.int .i64 n.mins) rfl, k (.int .i64 (needS hs)) rfl, t1, t2]
  rfl
def beginS (n : Nt) (l : List Int) (hs : List Hh) (k : Nat) : St :=
  ⟨[(1, encR l), (2, .vptr 0 0), (4, .vptr 1 0), (5, .vptr 8 0), (6, .vptr 11 0), (17, encH n.hs), (18, .int .i64 (n.hs.map cH).length), (19, .int .i64 k)],
    [(0, .cells (cN n)), (1, .cells [.nil, .nil, .nil, .int .i64 0, .int .i64 0, .int .i64 0, .int .i64 0, .nil, .nil, .int .i64 0]), (6, .cells (iL (flowsL n.ps hs))), (8, .cells (wC n (.rsl 13 0 hs.length 8) (flowsL n.ps hs).length (needS hs))), (11, .cells [upCl]), (13, .cells (hL hs))], 14⟩
def opK (n : Nt) (l : List Int) (k : Nat) : List Hh := (n.hs.take k).filter fun h => l.contains h.id
theorem opK_hit {n : Nt} {l : List Int} {k : Nat} {h : Hh} (hh : n.hs[k]? = some h) (hc : l.contains h.id = true) : opK n l (k + 1) = opK n l k ++ [h] := by
  unfold opK; rw [List.take_add_one, hh, List.filter_append]; simp at hc; simp [hc]
theorem opK_miss {n : Nt} {l : List Int} {k : Nat} {h : Hh} (hh : n.hs[k]? = some h) (hc : l.contains h.id = false) : opK n l (k + 1) = opK n l k := by
  unfold opK; rw [List.take_add_one, hh, List.filter_append]; simp at hc; simp [hc]
theorem begin_spec (n : Nt) (l : List Int) (ho : NetOk n) (hl : l.length ≤ 100000) : APure Tryd.prog 44 [encN n, encR l] (encWk n (opened n l)) := by
  have ht : Tree n.ps := ho.p
  have hpl := ho.pl
  have hhl := ho.hl
  have eop : opened n l = opK n l n.hs.length := by unfold opK opened; rw [List.take_length]
  have hneed : ∀ k, ∀ x ∈ opK n l k, 1 ≤ x.need ∧ x.need ≤ 500 := fun k x hx => by
    have hm := List.mem_of_mem_take (List.mem_filter.1 hx).1
    obtain ⟨i, hi⟩ := List.getElem?_of_mem hm
    exact (ho.h i x hi).need
  have hlen : ∀ k, (opK n l k).length ≤ 8 := fun k => Nat.le_trans (List.length_filter_le _ _) (by rw [List.length_take]; omega)
  rw [eop]
  have mk := mk_ints (id := 6) (len := (n.ps.map cP).length) (by rw [List.length_map]; omega)
  refine APure.vcM Tryd.func44 (.draw 7 <| .val 13 (.rsl 6 0 (n.ps.map cP).length 1) [(6, some (.cells (iL (List.replicate (n.ps.map cP).length 0))))] .loop) rfl rfl ⟨by kernel_rfl, mixed, by kernel_rfl, Eq.trans (by kernel_rfl) mk, by kernel_rfl, ?_⟩
  intro g hn hl'
  replace hn : g.n = 41 := hn
  replace hl' : g.low 0 := hl'
  refine acode_whileW (fun k : Nat => beginS n l (opK n l k) k) (fun k => k ≤ n.hs.length) (fun k => n.hs.length - k) 0 (Nat.zero_le _) ?_ ?_
  · have e0 : opK n l 0 = [] := rfl
    have e6 : some (AObj.cells (iL (List.replicate (n.ps.map cP).length 0))) = some (.cells (iL (flowsL n.ps (opK n l 0)))) := by rw [e0, flowsL_nil, List.length_map]
    have e8 : some (AObj.cells (wC n (.rsl 13 0 0 8) (n.ps.map cP).length 0)) = some (.cells (wC n (.rsl 13 0 (opK n l 0).length 8) (flowsL n.ps (opK n l 0)).length (needS (opK n l 0)))) := by rw [e0, flowsL_len, List.length_map]; rfl
    refine Wk.trans (Wk.le ?_ (hl'.mono (Nat.zero_le _))) (Wk.ownC 8 7 8 (cs := wC n .nil (n.ps.map cP).length 0) (by kernel_rfl) rfl)
    exact St.le.of ⟨by kernel_rfl, rfl, by kernel_rfl, rfl, by kernel_rfl, rfl, by kernel_rfl, rfl, by kernel_rfl, rfl, by kernel_rfl, rfl, by kernel_rfl, rfl, by kernel_rfl, rfl, trivial⟩
      ⟨by kernel_rfl, (by decide : (0 : Nat) < 14), rfl, by kernel_rfl, (by decide : (1 : Nat) < 14), rfl, Eq.trans (by kernel_rfl) e6, (by decide : (6 : Nat) < 14), iL_ok _ _, Eq.trans (by kernel_rfl) e8, (by decide : (8 : Nat) < 14), rfl, by kernel_rfl, (by decide : (11 : Nat) < 14), rfl, by kernel_rfl, (by decide : (13 : Nat) < 14), rfl, trivial⟩
  · intro k hk
    by_cases hlt : k < n.hs.length
    · refine Exists.elim (getE hlt) fun h hh => ?_
      have ek := congrArg (AV.int .i64) (succ64 (k := k) (by omega))
      have sC := Contains_spec l h.id (by omega)
      cases hc : l.contains h.id
      · rw [hc] at sC
        have e := opK_miss (l := l) hh hc
        have le : (beginS n l (opK n l (k + 1)) (k + 1)).le ⟨[(1, encR l), (2, .vptr 0 0), (4, .vptr 1 0), (5, .vptr 8 0), (6, .vptr 11 0), (17, encH n.hs), (18, .int .i64 (n.hs.map cH).length), (19, .int .i64 (k + 1 : Nat))], (beginS n l (opK n l k) k).H, 14⟩ := by
          rw [e]
          exact St.le.of ⟨rfl, rfl, rfl, rfl, rfl, rfl, rfl, rfl, rfl, rfl, rfl, rfl, rfl, rfl, rfl, rfl, trivial⟩ ⟨rfl, (by decide : (0 : Nat) < 14), rfl, rfl, (by decide : (1 : Nat) < 14), rfl, rfl, (by decide : (6 : Nat) < 14), iL_ok _ _, rfl, (by decide : (8 : Nat) < 14), rfl, rfl, (by decide : (11 : Nat) < 14), rfl, rfl, (by decide : (13 : Nat) < 14), hL_ok _ _, trivial⟩
        refine ACode.vcM (.br 20 true <| .cells (cH h) <| .call (.bool false) .nil) hn hl' (.roundW .cl) ⟨ltLen hlt, idx hh, sC, k + 1, hlt, mu1 hlt, Wk.trans (Wk.le le (hl'.mono (Nat.zero_le _))) (Wk.le ?_ (hl'.mono (show 0 ≤ 14 by omega)))⟩
        exact St.le.of ⟨by kernel_rfl, rfl, by kernel_rfl, rfl, by kernel_rfl, rfl, by kernel_rfl, rfl, by kernel_rfl, rfl, by kernel_rfl, rfl, by kernel_rfl, rfl, Eq.trans (by kernel_rfl) ek, rfl, trivial⟩
          ⟨by kernel_rfl, (by decide : (0 : Nat) < 14), rfl, by kernel_rfl, (by decide : (1 : Nat) < 14), rfl, by kernel_rfl, (by decide : (6 : Nat) < 14), iL_ok _ _, by kernel_rfl, (by decide : (8 : Nat) < 14), rfl, by kernel_rfl, (by decide : (11 : Nat) < 14), rfl, by kernel_rfl, (by decide : (13 : Nat) < 14), hL_ok _ _, trivial⟩
      · rw [hc] at sC
        have e := opK_hit (l := l) hh hc
        have hlk := hlen k
        have hok := ho.h k h hh
        have hnd := hok.node
        have hne := hok.need
        have enode : h.node = ((h.node.toNat : Nat) : Int) := by omega
        have ap := app_oneH (h := hget [(13, .cells (hL (opK n l k))), (16, .cells (cH h))]) (i := 13) (j := 16) (nid := 17) (l := opK n l k) (x := h) rfl rfl (by omega)
        have hnS := needS_rng (hneed k)
        have hup := up_spec n ht hpl.2 h.need (by omega) [.nil, .nil, .nil, .int .i64 0, .int .i64 0, .int .i64 0, .int .i64 0, .nil, .nil, .int .i64 0] (cH h) (cH h) (hL (opK n l k ++ [h])) (.rsl 17 0 ((opK n l k).length + 1) 8) (needS (opK n l k)) (by omega) h.node.toNat (flowsL n.ps (opK n l k)) 18 (by omega) (flowsL_len _ _) (fun i x hi hx => by
          have hip : i < n.ps.length := by omega
          rw [flowsL_get hip] at hx
          cases hx
          have := flowAt_rng (ps := n.ps) (hneed k) i
          omega)
        rw [← enode, ← flowsL_snoc] at hup
        have en : needS (opK n l k) + h.need = needS (opK n l k ++ [h]) := by rw [needS_app]; simp [needS]
        rw [en, ← e] at hup
        rw [← e] at ap
        have elen : (opK n l (k + 1)).length = (opK n l k).length + 1 := by rw [e]; simp
        refine ACode.vcM (.br 20 true <| .cells (cH h) <| .call (.bool true) <| .val 31 (.rsl 17 0 ((opK n l k).length + 1) 8) [(13, none), (17, some (.cells (hL (opK n l (k + 1)))))] <| .inl Tryd.f64 <| .nz .nil) hn hl' (.roundW .cl)
          ⟨ltLen hlt, idx hh, sC, Eq.trans (by kernel_rfl) ap, Tryd.func64, _, hup, fun r H' nx' hq => ?_⟩
        obtain ⟨rfl, rfl⟩ := hq
        refine ⟨k + 1, hlt, mu1 hlt, Wk.renC (c := 13) (b := 17) (St.renC.of rfl (.inl (by decide)) ⟨.eq (by kernel_rfl) rfl, .eq (by kernel_rfl) rfl, .eq (by kernel_rfl) rfl, .eq (by kernel_rfl) rfl, .eq (by kernel_rfl) rfl, .eq (by kernel_rfl) rfl, .eq (by kernel_rfl) rfl, .eq (Eq.trans (by kernel_rfl) ek) rfl, trivial⟩ ?_) (hl'.mono (Nat.zero_le _))⟩
        refine ⟨rvO.same (by decide : (0 : Nat) < 13) (by kernel_rfl) rfl, rvO.same (by decide : (1 : Nat) < 13) (by kernel_rfl) rfl, rvO.same (by decide : (6 : Nat) < 13) (by kernel_rfl) (iL_ok _ _),
          rvO.turn (by decide : (8 : Nat) < 13) (ys := wC n (.rsl 17 0 ((opK n l k).length + 1) 8) (flowsL n.ps (opK n l (k + 1))).length (needS (opK n l (k + 1)))) (by kernel_rfl) ?_, rvO.same (by decide : (11 : Nat) < 13) (by kernel_rfl) rfl, rvO.new (by kernel_rfl) (hL_ok _ _), trivial⟩
        rw [← elen]
        exact ⟨.eq rfl rfl, .eq rfl rfl, .eq rfl rfl, .eq rfl rfl, .eq rfl rfl, .eq rfl rfl, .eq rfl rfl, .rsl, .eq rfl rfl, .eq rfl rfl, trivial⟩
    · have hk' : k = n.hs.length := by omega
      subst hk'
      have tw := thaw_Wk (h := hget [(0, .cells (cN n)), (1, .cells (wC n (.rsl 13 0 (opK n l n.hs.length).length 8) (flowsL n.ps (opK n l n.hs.length)).length (needS (opK n l n.hs.length)))), (6, .cells (iL (flowsL n.ps (opK n l n.hs.length)))), (8, .cells (wC n (.rsl 13 0 (opK n l n.hs.length).length 8) (flowsL n.ps (opK n l n.hs.length)).length (needS (opK n l n.hs.length)))), (11, .cells [upCl]), (13, .cells (hL (opK n l n.hs.length)))]) (n := n) (hs := opK n l n.hs.length) rfl rfl
      exact ACode.vcM (.br 20 false .nil) hn hl' (.roundW .cl) ⟨geLen hlt, _, .refl _, .nil, [13, 6], Eq.trans (by kernel_rfl) tw⟩
end Go.Proofs.YtcbdggmojnnbdaaDoor
