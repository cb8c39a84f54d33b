import Derived.Test.YtmllgnnhblhfeaaDoorW5
/-
  LISTS OF DELAYS, one after the other.
-/
namespace Go.Proofs.YtmllgnnhblhfeaaDoor
open Go Go.Am
set_option maxRecDepth 100000
set_option maxHeartbeats 4000000
theorem nxt_none {g : List Spn} {ds : List Int} (hl : ds.length = g.length) {p : Nat} (hp : p < g.length) (h : nextD (g.drop (p + 1)) (ds.drop (p + 1)) = none) {d : Int} {s : Spn} (hd : ds[p]? = some d) (hs : g[p]? = some s) :
    (d < s.2 → nextD g ds = some (ds.take p ++ (d + 1) :: (leastD g).drop (p + 1))) ∧ (¬ d < s.2 → nextD (g.drop p) (ds.drop p) = none) := by
  have := next_at hl hp h
  have e1 : ds[p]! = d := by rw [getElem!_pos ds p (by omega)]; rw [List.getElem?_eq_getElem (by omega)] at hd; exact Option.some.inj hd
  have e2 : g[p]! = s := by rw [getElem!_pos g p hp]; rw [List.getElem?_eq_getElem hp] at hs; exact Option.some.inj hs
  rw [e1, e2] at this
  exact this
/-- What stands in the slice while the last p delays are left. -/
def mixD (g : List Spn) (ds : List Int) (p : Nat) : List Int := ds.take p ++ (leastD g).drop p
theorem mix_len {g : List Spn} {ds : List Int} (hl : ds.length = g.length) (p : Nat) : (mixD g ds p).length = g.length := by
  unfold mixD leastD
  rw [List.length_append, List.length_take, List.length_drop, List.length_map]; omega
theorem mix_get {g : List Spn} {ds : List Int} {p : Nat} {d : Int} (hd : ds[p]? = some d) : (mixD g ds (p + 1))[p]? = some d := by
  have hp : p < ds.length := by
    rcases Nat.lt_or_ge p ds.length with q | q
    · exact q
    · rw [List.getElem?_eq_none q] at hd; cases hd
  unfold mixD
  rw [List.getElem?_append_left (by rw [List.length_take]; omega), List.getElem?_take, if_pos (by omega), hd]
theorem mix_lo {g : List Spn} {ds : List Int} (hl : ds.length = g.length) {p : Nat} {s : Spn} (hs : g[p]? = some s) : (mixD g ds (p + 1)).set p s.1 = mixD g ds p := by
  have hp : p < g.length := by
    rcases Nat.lt_or_ge p g.length with q | q
    · exact q
    · rw [List.getElem?_eq_none q] at hs; cases hs
  have hlp : p < (leastD g).length := by unfold leastD; rw [List.length_map]; exact hp
  have hle : (leastD g)[p]? = some s.1 := by unfold leastD; rw [List.getElem?_map, hs]; rfl
  have hd : ds[p]? = some ds[p] := List.getElem?_eq_getElem (by omega)
  unfold mixD
  rw [take_snoc hd, List.append_assoc, List.set_append_right _ _ (by rw [List.length_take]; omega), drop_cons hle, List.length_take, show p - min p ds.length = 0 by omega]
  rfl
theorem mix_up {g : List Spn} {ds : List Int} (hl : ds.length = g.length) {p : Nat} {d : Int} (hd : ds[p]? = some d) : (mixD g ds (p + 1)).set p (d + 1) = ds.take p ++ (d + 1) :: (leastD g).drop (p + 1) := by
  have hp : p < ds.length := by
    rcases Nat.lt_or_ge p ds.length with q | q
    · exact q
    · rw [List.getElem?_eq_none q] at hd; cases hd
  unfold mixD
  rw [take_snoc hd, List.append_assoc, List.set_append_right _ _ (by rw [List.length_take]; omega), List.length_take, show p - min p ds.length = 0 by omega]
  rfl
/-- What isNext leaves in the slice. -/
def nxtL (gs : List Gt) (ds : List Int) : List Int := (nextD (gSp gs) ds).getD (leastD (gSp gs))
def nxtQ (gs : List Gt) (ds : List Int) (cs : List AV) : Prop := cs = iL (nxtL gs ds)
theorem isNext_mut (gs : List Gt) (ds : List Int) {N : Nat} (hN : N = ds.length) (hl : ds.length = gs.length) (hs : N ≤ 1000) (hb : ∀ d ∈ ds, -1000000 ≤ d ∧ d ≤ 1000000) :
    AMut Tryd.prog Tryd.f51 N 1 [encGs gs] (iL ds) (.bool (nextD (gSp gs) ds).isSome) (nxtQ gs ds) := by
  have hgl : (gSp gs).length = gs.length := by unfold gSp; rw [List.length_map]
  have hl2 : ds.length = (gSp gs).length := by omega
  refine AMut.vc .loop ?_
  intro g hn hlo
  replace hn : g.n = 39 := hn
  replace hlo : g.low 1 := hlo
  have e0 : IntKind.i64.wrap (((gs.map cGt).length : Int) - 1) = ((gs.length : Nat) : Int) - 1 := by rw [List.length_map]; exact wrap64 (by omega) (by omega)
  have e0 := congrArg (AV.int .i64) e0
  refine acode_while (fun p : Nat => ⟨[(0, .rsl 0 0 N 1), (1, encGs gs), (5, .int .i64 ((p : Int) - 1))], [(0, .cells (iL (mixD (gSp gs) ds p)))], 1⟩) (fun p => p ≤ gs.length ∧ nextD ((gSp gs).drop p) (ds.drop p) = none) (fun p => p) gs.length ⟨Nat.le_refl _, by have := next_nil hl2; rw [hgl] at this; exact this⟩ ?_ (fun _ _ => hlo) ?_
  · have e1 : some (AObj.cells (iL ds)) = some (.cells (iL (mixD (gSp gs) ds gs.length))) := by
      unfold mixD
      rw [← hl, List.take_length, hl, ← hgl, List.drop_of_length_le (by unfold leastD; rw [List.length_map]; exact Nat.le_refl _), List.append_nil]
    exact St.le.of ⟨by kernel_rfl, rfl, by kernel_rfl, rfl, Eq.trans (by kernel_rfl) e0, rfl, trivial⟩ ⟨Eq.trans (by kernel_rfl) e1, Nat.zero_lt_one, iL_ok _ _, trivial⟩
  · rintro p ⟨hp1, hp2⟩
    replace hp1 : p ≤ gs.length := hp1
    cases p with
    | zero =>
      have e : nextD (gSp gs) ds = none := hp2
      have c : decide (((0 : Nat) : Int) - 1 ≥ 0) = false := by decide
      have v : AV.bool false = .bool (nextD (gSp gs) ds).isSome := by rw [e]; rfl
      have q : nxtQ gs ds (iL (mixD (gSp gs) ds 0)) := by unfold nxtQ nxtL mixD; rw [e]; rfl
      exact ACode.vcM (.br 10 false .nil) hn hlo (.round .cl) ⟨c, _, .refl _, .nil, v, _, rfl, q⟩
    | succ p =>
      refine Exists.elim (getE (show p < ds.length by omega)) fun d hd => ?_
      refine Exists.elim (getE (show p < gs.length by omega)) fun x hx => ?_
      have hsx : (gSp gs)[p]? = some (x.lo, x.hi) := by unfold gSp; rw [List.getElem?_map, hx]; rfl
      obtain ⟨n1, n2⟩ := nxt_none hl2 (by omega) hp2 hd hsx
      have hb2 := hb d (List.mem_of_getElem? hd)
      have c : decide (((p + 1 : Nat) : Int) - 1 ≥ 0) = true := decide_eq_true (by omega)
      have ei : ((p + 1 : Nat) : Int) - 1 = (p : Int) := by omega
      have hml := mix_len hl2 (p + 1)
      have ix1 := ixI (h := hget []) (id := 0) (n := N) ei (show p < N by omega)
      have ix2 := idxW (enc := cGt) ei hx
      have ld := ldI (h := hget [(0, .cells (iL (mixD (gSp gs) ds (p + 1))))]) (id := 0) (l := mixD (gSp gs) ds (p + 1)) rfl (mix_get hd)
      have st1 := stI (h := hget [(0, .cells (iL (mixD (gSp gs) ds (p + 1))))]) (id := 0) (l := mixD (gSp gs) ds (p + 1)) (k := p) (x := IntKind.i64.wrap (d + 1)) rfl (by omega)
      have st2 := stI (h := hget [(0, .cells (iL (mixD (gSp gs) ds (p + 1))))]) (id := 0) (l := mixD (gSp gs) ds (p + 1)) (k := p) (x := x.lo) rfl (by omega)
      have ew : IntKind.i64.wrap (d + 1) = d + 1 := wrap64 (by omega) (by omega)
      rw [ew] at st1
      have m1 := mix_up (g := gSp gs) hl2 hd
      have m2 := mix_lo hl2 hsx
      rw [m1] at st1
      rw [m2] at st2
      have wv : some (⟨.int .i64 (IntKind.i64.wrap (d + 1)), []⟩ : Out) = some ⟨.int .i64 (d + 1), []⟩ := by rw [ew]
      cases hlt : decide (d < x.hi)
      · have hn2 := n2 (of_decide_eq_false hlt)
        have ep : IntKind.i64.wrap (((p + 1 : Nat) : Int) - 1 - 1) = (p : Int) - 1 := by rw [wrap64 (by omega) (by omega)]; omega
        have ep := congrArg (AV.int .i64) ep
        generalize hM : mixD (gSp gs) ds (p + 1) = M at *
        exact ACode.vcM (.br 10 true <| .draw 10 <| .val 15 (.vptr 0 p) [] <| .val 16 (.int .i64 d) [] <| .cells (cGt x) <| .br 23 false <| .cells (cGt x) <| .val 38 (.vptr 0 p) [] <| .val 1 .undef [(0, some (.cells (iL (mixD (gSp gs) ds p))))] .nil) hn hlo (.round .cl)
          ⟨c, by kernel_rfl, mixed, by kernel_rfl, Eq.trans (by kernel_rfl) ix1, Eq.trans (by kernel_rfl) ld, ix2, by kernel_rfl, hlt, ix2, Eq.trans (by kernel_rfl) ix1, Eq.trans (by kernel_rfl) st2, p, ⟨by omega, hn2⟩, Nat.lt_succ_self p,
           St.le.of ⟨by kernel_rfl, rfl, by kernel_rfl, rfl, Eq.trans (by kernel_rfl) ep, rfl, trivial⟩ ⟨by kernel_rfl, Nat.zero_lt_one, iL_ok _ _, trivial⟩⟩
      · have hn1 := n1 (of_decide_eq_true hlt)
        have v : AV.bool true = .bool (nextD (gSp gs) ds).isSome := by rw [hn1]; rfl
        have q : nxtQ gs ds (iL (ds.take p ++ (d + 1) :: (leastD (gSp gs)).drop (p + 1))) := by unfold nxtQ nxtL; rw [hn1]; rfl
        generalize ds.take p ++ (d + 1) :: (leastD (gSp gs)).drop (p + 1) = R at *
        generalize hM : mixD (gSp gs) ds (p + 1) = M at *
        exact ACode.vcM (.br 10 true <| .draw 10 <| .val 15 (.vptr 0 p) [] <| .val 16 (.int .i64 d) [] <| .cells (cGt x) <| .br 23 true <| .val 26 (.vptr 0 p) [] <| .val 27 (.int .i64 d) [] <| .val 28 (.int .i64 (d + 1)) [] <| .val 29 (.vptr 0 p) [] <| .val 1 .undef [(0, some (.cells (iL R)))] .nil) hn hlo (.round .cl)
          ⟨c, by kernel_rfl, mixed, by kernel_rfl, Eq.trans (by kernel_rfl) ix1, Eq.trans (by kernel_rfl) ld, ix2, by kernel_rfl, hlt, Eq.trans (by kernel_rfl) ix1, Eq.trans (by kernel_rfl) ld, Eq.trans (by kernel_rfl) wv, Eq.trans (by kernel_rfl) ix1, Eq.trans (by kernel_rfl) st1, _, .refl _, .nil, v, _, rfl, q⟩
end Go.Proofs.YtmllgnnhblhfeaaDoor
