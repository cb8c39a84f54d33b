import Derived.Test.YtoeankkhjpijlaaGreatDoorR2
import Derived.Test.YtoeankkhjpijlaaGreatDoorW8
import Derived.Test.YtoeankkhjpijlaaGreatDoorAm26
/-
  THE REFERENCE: the next list of delays; how far rooms are.
-/
namespace Go.Proofs.YtoeankkhjpijlaaGreatDoor
open Go Go.Am
set_option maxRecDepth 100000
set_option maxHeartbeats 4000000
theorem rnext_mut (s : Scn) (ds : List Int) {N : Nat} (hN : N = ds.length) (hl : ds.length = s.gates.length) (hs : N ≤ 1000) (hb : ∀ d ∈ ds, -1000000 ≤ d ∧ d ≤ 1000000) :
    AMutP Tryz.prog Tryz.f59 (encSc s) N 1 [] (iL ds) (.bool (nextD (gSp s.gates) ds).isSome) (nxtQ s.gates ds) := by
  have hgl : (gSp s.gates).length = s.gates.length := by unfold gSp; rw [List.length_map]
  have hl2 : ds.length = (gSp s.gates).length := by omega
  refine AMutP.vc .loop ?_
  intro g hn hlo
  replace hn : g.n = 41 := hn
  replace hlo : g.low 1 := hlo
  have e0 : IntKind.i64.wrap ((N : Int) - 1) = ((s.gates.length : Nat) : Int) - 1 := by rw [wrap64 (by omega) (by omega)]; omega
  have e0 := congrArg (AV.int .i64) e0
  refine acode_while (fun p : Nat => ⟨[(1, .rsl 0 0 N 1), (2, .vptr 1 0), (5, .int .i64 ((p : Int) - 1))], [(0, .cells (iL (mixD (gSp s.gates) ds p))), (1, .cells (cSc s))], 2⟩) (fun p => p ≤ s.gates.length ∧ nextD ((gSp s.gates).drop p) (ds.drop p) = none) (fun p => p) s.gates.length ⟨Nat.le_refl _, by have := next_nil hl2; rw [hgl] at this; exact this⟩ ?_ (fun _ _ => hlo.mono (by decide : 1 ≤ 2)) ?_
  · have e1 : some (AObj.cells (iL ds)) = some (.cells (iL (mixD (gSp s.gates) ds s.gates.length))) := by
      unfold mixD
      rw [← hl, List.take_length, hl, ← hgl, List.drop_of_length_le (by unfold leastD; rw [List.length_map]; exact Nat.le_refl _), List.append_nil]
    exact St.le.of ⟨by kernel_rfl, rfl, by kernel_rfl, rfl, Eq.trans (by kernel_rfl) e0, rfl, trivial⟩ ⟨Eq.trans (by kernel_rfl) e1, (by decide : (0 : Nat) < 2), iL_ok _ _, by kernel_rfl, (by decide : (1 : Nat) < 2), by kernel_rfl, trivial⟩
  · rintro p ⟨hp1, hp2⟩
    replace hp1 : p ≤ s.gates.length := hp1
    cases p with
    | zero =>
      have e : nextD (gSp s.gates) ds = none := hp2
      have c : decide (((0 : Nat) : Int) - 1 ≥ 0) = false := by decide
      have v : AV.bool false = .bool (nextD (gSp s.gates) ds).isSome := by rw [e]; rfl
      have q : nxtQ s.gates ds (iL (mixD (gSp s.gates) ds 0)) := by unfold nxtQ nxtL mixD; rw [e]; rfl
      exact ACode.vcM (.br 10 false .nil) hn hlo (.round .cl) ⟨c, _, .refl _, .nil, v, _, rfl, q⟩
    | succ p =>
      refine Exists.elim (getE (show p < ds.length by omega)) fun d hd => ?_
      refine Exists.elim (getE (show p < s.gates.length by omega)) fun x hx => ?_
      have hsx : (gSp s.gates)[p]? = some (x.lo, x.hi) := by unfold gSp; rw [List.getElem?_map, hx]; rfl
      obtain ⟨n1, n2⟩ := nxt_none hl2 (by omega) hp2 hd hsx
      have hb2 := hb d (List.mem_of_getElem? hd)
      have c : decide (((p + 1 : Nat) : Int) - 1 ≥ 0) = true := decide_eq_true (by omega)
      have ei : ((p + 1 : Nat) : Int) - 1 = (p : Int) := by omega
      have hml := mix_len hl2 (p + 1)
      have ix1 := ixI (h := hget []) (id := 0) (n := N) ei (show p < N by omega)
      have ix2 := idxW (enc := cGt) ei hx
      have ld := ldI (h := hget [(0, .cells (iL (mixD (gSp s.gates) ds (p + 1))))]) (id := 0) (l := mixD (gSp s.gates) ds (p + 1)) rfl (mix_get hd)
      have st1 := stI (h := hget [(0, .cells (iL (mixD (gSp s.gates) ds (p + 1))))]) (id := 0) (l := mixD (gSp s.gates) ds (p + 1)) (k := p) (x := IntKind.i64.wrap (d + 1)) rfl (by omega)
      have st2 := stI (h := hget [(0, .cells (iL (mixD (gSp s.gates) ds (p + 1))))]) (id := 0) (l := mixD (gSp s.gates) ds (p + 1)) (k := p) (x := x.lo) rfl (by omega)
      have ew : IntKind.i64.wrap (d + 1) = d + 1 := wrap64 (by omega) (by omega)
      rw [ew] at st1
      have m1 := mix_up (g := gSp s.gates) hl2 hd
      have m2 := mix_lo hl2 hsx
      rw [m1] at st1
      rw [m2] at st2
      have wv : some (⟨.int .i64 (IntKind.i64.wrap (d + 1)), []⟩ : Out) = some ⟨.int .i64 (d + 1), []⟩ := by rw [ew]
      cases hlt : decide (d < x.hi)
      · have hn2 := n2 (of_decide_eq_false hlt)
        have ep : IntKind.i64.wrap (((p + 1 : Nat) : Int) - 1 - 1) = (p : Int) - 1 := by rw [wrap64 (by omega) (by omega)]; omega
        have ep := congrArg (AV.int .i64) ep
        generalize hM : mixD (gSp s.gates) ds (p + 1) = M at *
        exact ACode.vcM (.br 10 true <| .draw 11 <| .val 15 (.vptr 0 p) [] <| .val 16 (.int .i64 d) [] <| .cells (cGt x) <| .br 24 false <| .cells (cGt x) <| .val 40 (.vptr 0 p) [] <| .val 1 .undef [(0, some (.cells (iL (mixD (gSp s.gates) ds p))))] .nil) hn hlo (.round .cl)
          ⟨c, by kernel_rfl, mixed, by kernel_rfl, Eq.trans (by kernel_rfl) ix1, Eq.trans (by kernel_rfl) ld, ix2, by kernel_rfl, hlt, ix2, Eq.trans (by kernel_rfl) ix1, Eq.trans (by kernel_rfl) st2, p, ⟨by omega, hn2⟩, Nat.lt_succ_self p,
           St.le.of ⟨by kernel_rfl, rfl, by kernel_rfl, rfl, Eq.trans (by kernel_rfl) ep, rfl, trivial⟩ ⟨by kernel_rfl, (by decide : (0 : Nat) < 2), iL_ok _ _, by kernel_rfl, (by decide : (1 : Nat) < 2), by kernel_rfl, trivial⟩⟩
      · have hn1 := n1 (of_decide_eq_true hlt)
        have v : AV.bool true = .bool (nextD (gSp s.gates) ds).isSome := by rw [hn1]; rfl
        have q : nxtQ s.gates ds (iL (ds.take p ++ (d + 1) :: (leastD (gSp s.gates)).drop (p + 1))) := by unfold nxtQ nxtL; rw [hn1]; rfl
        generalize ds.take p ++ (d + 1) :: (leastD (gSp s.gates)).drop (p + 1) = R at *
        generalize hM : mixD (gSp s.gates) ds (p + 1) = M at *
        exact ACode.vcM (.br 10 true <| .draw 11 <| .val 15 (.vptr 0 p) [] <| .val 16 (.int .i64 d) [] <| .cells (cGt x) <| .br 24 true <| .val 27 (.vptr 0 p) [] <| .val 28 (.int .i64 d) [] <| .val 29 (.int .i64 (d + 1)) [] <| .val 30 (.vptr 0 p) [] <| .val 1 .undef [(0, some (.cells (iL R)))] .nil) hn hlo (.round .cl)
          ⟨c, by kernel_rfl, mixed, by kernel_rfl, Eq.trans (by kernel_rfl) ix1, Eq.trans (by kernel_rfl) ld, ix2, by kernel_rfl, hlt, Eq.trans (by kernel_rfl) ix1, Eq.trans (by kernel_rfl) ld, Eq.trans (by kernel_rfl) wv, Eq.trans (by kernel_rfl) ix1, Eq.trans (by kernel_rfl) st1, _, .refl _, .nil, v, _, rfl, q⟩
end Go.Proofs.YtoeankkhjpijlaaGreatDoor
/-
  THE REFERENCE: how far rooms are.
-/
namespace Go.Proofs.YtoeankkhjpijlaaGreatDoor
open Go Go.Am
set_option maxRecDepth 100000
set_option maxHeartbeats 4000000
def rowI (n : Nat) (d : Row) : List Int := (List.range n).map d
theorem rowI_len (n : Nat) (d : Row) : (rowI n d).length = n := by unfold rowI; rw [List.length_map, List.length_range]
theorem rowI_get {n x : Nat} (d : Row) (h : x < n) : (rowI n d)[x]? = some (d x) := by unfold rowI; rw [List.getElem?_map, List.getElem?_range h]; rfl
theorem rowI_ext {n : Nat} {d e : Row} (h : ∀ x, x < n → d x = e x) : rowI n d = rowI n e := List.map_congr_left fun x hx => h x (List.mem_range.1 hx)
theorem rowI_set {n a : Nat} (d : Row) (v : Int) (ha : a < n) : (rowI n d).set a v = rowI n (fun x => if x = a then v else d x) := by
  apply List.ext_getElem?
  intro i
  rw [List.getElem?_set]
  by_cases hi : i < n
  · rw [rowI_get _ hi, rowI_get _ hi, rowI_len]
    by_cases e : a = i
    · subst e; rw [if_pos rfl, if_pos ha, if_pos rfl]
    · rw [if_neg e, if_neg fun q => e q.symm]
  · rw [List.getElem?_eq_none (by rw [rowI_len]; omega), List.getElem?_eq_none (by rw [rowI_len]; omega), rowI_len]
    rw [if_neg (by omega)]
theorem row_step {n a b : Nat} (d : Row) (w : Int) (ha : a < n) (hb : b < n) : ((rowI n d).set a (min (d a) (d b + w))).set b (min (d b) (d a + w)) = rowI n (stepB d (a, b, w)) := by
  rw [rowI_set _ _ ha, rowI_set _ _ hb]
  rfl
def nevR (k : Nat) : Row := fun i => if i < k then 1000000 else 0
theorem nevZero (n : Nat) : List.replicate n (0 : Int) = rowI n (nevR 0) := by
  apply List.ext_getElem?
  intro i
  by_cases hi : i < n
  · rw [rowI_get _ hi, List.getElem?_replicate, if_pos hi]; rfl
  · rw [List.getElem?_eq_none (by rw [List.length_replicate]; omega), List.getElem?_eq_none (by rw [rowI_len]; omega)]
theorem nevStep {n k : Nat} (hk : k < n) : (rowI n (nevR k)).set k 1000000 = rowI n (nevR (k + 1)) := by
  rw [rowI_set _ _ hk]
  refine rowI_ext fun x _ => ?_
  unfold nevR
  by_cases e : x = k
  · rw [if_pos e, if_pos (by omega)]
  · by_cases q : x < k
    · rw [if_neg e, if_pos q, if_pos (by omega)]
    · rw [if_neg e, if_neg q, if_neg (by omega)]
def basR (r : Nat) : Row := fun y => if y = r then 0 else 1000000
theorem bas_step {n r : Nat} (hr : r < n) : (rowI n (nevR n)).set r 0 = rowI n (basR r) := by
  rw [rowI_set _ _ hr]
  refine rowI_ext fun x hx => ?_
  unfold basR nevR
  by_cases e : x = r
  · rw [if_pos e, if_pos e]
  · rw [if_neg e, if_neg e, if_pos hx]
def preB (E : List Edg) (d0 : Row) (k j : Nat) : Row := (E.take j).foldl stepB (bellV E k d0)
theorem pre_zero (E : List Edg) (d0 : Row) (k : Nat) : preB E d0 k 0 = bellV E k d0 := rfl
theorem pre_succ {E : List Edg} {d0 : Row} {k j : Nat} {e : Edg} (h : E[j]? = some e) : preB E d0 k (j + 1) = stepB (preB E d0 k j) e := by
  unfold preB; rw [take_snoc h, List.foldl_append]; rfl
theorem pre_end {E : List Edg} {d0 : Row} {k j : Nat} (h : E.length ≤ j) : preB E d0 k j = bellV E (k + 1) d0 := by
  unfold preB; rw [List.take_of_length_le h]; rfl
def bdR (d : Row) : Prop := ∀ x, 0 ≤ d x ∧ d x ≤ 1000000
theorem bd_step {d : Row} (h : bdR d) {e : Edg} (he : 0 ≤ e.2.2) : bdR (stepB d e) := by
  intro x
  have h1 := h e.1; have h2 := h e.2.1; have h3 := h x
  unfold stepB
  by_cases q : x = e.2.1
  · rw [if_pos q]; omega
  · rw [if_neg q]
    by_cases p : x = e.1
    · rw [if_pos p]; omega
    · rw [if_neg p]; exact h3
theorem bd_round {E : List Edg} (hE : ∀ e ∈ E, 0 ≤ e.2.2) : ∀ {L : List Edg} {d : Row}, (∀ e ∈ L, e ∈ E) → bdR d → bdR (L.foldl stepB d) := by
  intro L
  induction L with
  | nil => intro d _ h; exact h
  | cons e L ih => intro d hL h; exact ih (fun x hx => hL x (List.mem_cons_of_mem _ hx)) (bd_step h (hE e (hL e List.mem_cons_self)))
theorem bd_bell {E : List Edg} (hE : ∀ e ∈ E, 0 ≤ e.2.2) {d : Row} (h : bdR d) : ∀ k, bdR (bellV E k d) := by
  intro k
  induction k with
  | zero => exact h
  | succ k ih => exact bd_round hE (fun _ h => h) ih
theorem bd_pre {E : List Edg} (hE : ∀ e ∈ E, 0 ≤ e.2.2) {d : Row} (h : bdR d) (k j : Nat) : bdR (preB E d k j) :=
  bd_round hE (fun _ h => List.mem_of_mem_take h) (bd_bell hE h k)
theorem bd_bas (r : Nat) : bdR (basR r) := by
  intro x
  unfold basR
  by_cases e : x = r
  · rw [if_pos e]; omega
  · rw [if_neg e]; omega
theorem rmkI {id n : Nat} (hn : n ≤ 1000) : aMakeSlice Tryz.prog id 24 (.int .i64 n) (.int .i64 n) = some ⟨.rsl id 0 n 1, [(id, some (.cells (iL (List.replicate n 0))))]⟩ := by
  have e : rep n [.int .i64 0] = iL (List.replicate n 0) := by
    induction n with
    | zero => rfl
    | succ n ih => rw [List.replicate_succ]; show [AV.int .i64 0] ++ rep n [.int .i64 0] = _; rw [ih (by omega)]; rfl
  rw [← e]
  simp only [aMakeSlice, ty24, ty3]
  rw [if_pos ⟨trivial, by omega, by omega, by simp; omega, by omega, rfl⟩]
  simp
theorem minV {x y m : Int} (h : m = min x y) : some (⟨.int .i64 (if y < x then y else x), []⟩ : Out) = some ⟨.int .i64 m, []⟩ := by
  have : (if y < x then y else x) = m := by
    subst h
    by_cases q : y < x
    · rw [if_pos q]; omega
    · rw [if_neg q]; omega
  rw [this]
/-- What the reference finds far. -/
def rowP (s : Scn) (ds : List Int) (r : Nat) : Row := bellV (edgs s.gates ds) (nR s) (basR r)
theorem rfar_spec (s : Scn) (hs : ScOk s) (ds : List Int) (hd : areD (gSp s.gates) ds) {r : Nat} (hr : r < nR s) : APureF Tryz.prog 61 [encSc s, encR ds, .int .i64 (r : Int)] (encR (rowI (nR s) (rowP s ds r))) := by
  have hdl := ds_len hs hd
  obtain ⟨hnr, hn1, hn6⟩ := nR_eq hs
  have hsr := hs.rooms
  have hgl := hs.gl
  have hE0 : ∀ e ∈ edgs s.gates ds, 0 ≤ e.2.2 := fun e he => by
    have := (gok_of hs hd).lo e.1 e.2.1 e.2.2 (.inl he); exact this
  have hwb : ∀ d ∈ ds, -1000000 ≤ d ∧ d ≤ 1000000 := ds_bd hs hd
  have hel : (edgs s.gates ds).length = s.gates.length := by unfold edgs; rw [List.length_zipWith]; omega
  have hmk := rmkI (id := 1) (n := nR s) (by omega)
  rw [hnr] at hmk
  rw [nevZero] at hmk
  refine APureF.vcM Tryz.func61 (.val 15 (.rsl 1 0 (nR s) 1) [(1, some (.cells (iL (rowI (nR s) (nevR 0)))))] .loop) (by kernel_rfl) (by kernel_rfl) ⟨Eq.trans (by kernel_rfl) hmk, ?_⟩
  intro g hn hlo
  replace hn : g.n = 88 := hn
  replace hlo : g.low 0 := hlo
  refine acode_while (fun k : Nat => ⟨[(1, encR ds), (2, .int .i64 (r : Int)), (3, .vptr 0 0), (7, .rsl 1 0 (nR s) 1), (8, .int .i64 k)], [(0, .cells (cSc s)), (1, .cells (iL (rowI (nR s) (nevR k))))], 2⟩) (fun k => k ≤ nR s) (fun k => nR s - k) 0 (Nat.zero_le _) ?_ (fun _ _ => hlo.mono (Nat.zero_le _)) ?_
  · exact St.le.of ⟨by kernel_rfl, rfl, by kernel_rfl, rfl, by kernel_rfl, rfl, by kernel_rfl, rfl, by kernel_rfl, rfl, trivial⟩ ⟨by kernel_rfl, (by decide : (0 : Nat) < 2), by kernel_rfl, by kernel_rfl, (by decide : (1 : Nat) < 2), iL_ok _ _, trivial⟩
  · intro k hk
    replace hk : k ≤ nR s := hk
    by_cases hlt : k < nR s
    · have ek := congrArg (AV.int .i64) (succ64 (k := k) (by omega))
      have c : decide ((k : Int) < (nR s : Int)) = true := decide_eq_true (by omega)
      have ix := ixI (h := hget []) (id := 1) (n := nR s) (i := (k : Int)) rfl hlt
      have st := stI (h := hget [(1, .cells (iL (rowI (nR s) (nevR k))))]) (id := 1) (l := rowI (nR s) (nevR k)) (k := k) (x := 1000000) rfl (by rw [rowI_len]; exact hlt)
      rw [nevStep hlt] at st
      exact ACode.vcM (.br 19 true <| .val 24 (.vptr 1 k) [] <| .val 1 .undef [(1, some (.cells (iL (rowI (nR s) (nevR (k + 1))))))] .nil) hn hlo (.round .cl) ⟨c, Eq.trans (by kernel_rfl) ix, Eq.trans (by kernel_rfl) st, k + 1, hlt, mu1 hlt,
        St.le.of ⟨by kernel_rfl, rfl, by kernel_rfl, rfl, by kernel_rfl, rfl, by kernel_rfl, rfl, Eq.trans (by kernel_rfl) ek, rfl, trivial⟩ ⟨by kernel_rfl, (by decide : (0 : Nat) < 2), by kernel_rfl, by kernel_rfl, (by decide : (1 : Nat) < 2), iL_ok _ _, trivial⟩⟩
    · have hk' : k = nR s := by omega
      have c : decide ((k : Int) < (nR s : Int)) = false := decide_eq_false (by omega)
      have ix := ixI (h := hget []) (id := 1) (n := nR s) (i := (r : Int)) rfl hr
      have st := stI (h := hget [(1, .cells (iL (rowI (nR s) (nevR k))))]) (id := 1) (l := rowI (nR s) (nevR k)) (k := r) (x := 0) rfl (by rw [rowI_len]; exact hr)
      have eb : (rowI (nR s) (nevR k)).set r 0 = rowI (nR s) (basR r) := by rw [hk']; exact bas_step hr
      rw [eb] at st
      refine ACode.vcM (.br 19 false .nil) hn hlo (.round .cl) ⟨c, _, .refl _, .val 27 (.vptr 1 r) [] <| .val 1 .undef [(1, some (.cells (iL (rowI (nR s) (basR r)))))] .loop, Eq.trans (by kernel_rfl) ix, Eq.trans (by kernel_rfl) st, ?_⟩
      intro g hn hlo
      replace hn : g.n = 88 := hn
      replace hlo : g.low 0 := hlo
      refine acode_while (fun k : Nat => ⟨[(1, encR ds), (2, .int .i64 (r : Int)), (3, .vptr 0 0), (7, .rsl 1 0 (nR s) 1), (9, .int .i64 k)], [(0, .cells (cSc s)), (1, .cells (iL (rowI (nR s) (bellV (edgs s.gates ds) k (basR r)))))], 2⟩) (fun k => k ≤ nR s) (fun k => nR s - k) 0 (Nat.zero_le _) ?_ (fun _ _ => hlo.mono (Nat.zero_le _)) ?_
      · exact St.le.of ⟨by kernel_rfl, rfl, by kernel_rfl, rfl, by kernel_rfl, rfl, by kernel_rfl, rfl, by kernel_rfl, rfl, trivial⟩ ⟨by kernel_rfl, (by decide : (0 : Nat) < 2), by kernel_rfl, by kernel_rfl, (by decide : (1 : Nat) < 2), iL_ok _ _, trivial⟩
      · intro k hk
        replace hk : k ≤ nR s := hk
        by_cases hlt : k < nR s
        · have ek := congrArg (AV.int .i64) (succ64 (k := k) (by omega))
          have c : decide ((k : Int) < s.rooms) = true := decide_eq_true (by omega)
          refine ACode.vcM (.br 31 true .loop) hn hlo (.round .cl) ⟨c, ?_⟩
          intro g hn hlo
          replace hn : g.n = 88 := hn
          replace hlo : g.low 0 := hlo
          refine acode_while (fun j : Nat => ⟨[(1, encR ds), (2, .int .i64 (r : Int)), (3, .vptr 0 0), (7, .rsl 1 0 (nR s) 1), (9, .int .i64 k), (10, .int .i64 j)], [(0, .cells (cSc s)), (1, .cells (iL (rowI (nR s) (preB (edgs s.gates ds) (basR r) k j))))], 2⟩) (fun j => j ≤ s.gates.length) (fun j => s.gates.length - j) 0 (Nat.zero_le _) ?_ (fun _ _ => hlo.mono (Nat.zero_le _)) ?_
          · exact St.le.of ⟨by kernel_rfl, rfl, by kernel_rfl, rfl, by kernel_rfl, rfl, by kernel_rfl, rfl, by kernel_rfl, rfl, by kernel_rfl, rfl, trivial⟩ ⟨by kernel_rfl, (by decide : (0 : Nat) < 2), by kernel_rfl, by kernel_rfl, (by decide : (1 : Nat) < 2), iL_ok _ _, trivial⟩
          · intro j hj
            replace hj : j ≤ s.gates.length := hj
            by_cases hlj : j < s.gates.length
            · refine Exists.elim (getE hlj) fun x hx => ?_
              refine Exists.elim (getE (show j < ds.length by omega)) fun w hw => ?_
              have ej := congrArg (AV.int .i64) (succ64 (k := j) (by omega))
              have hg := gtB_iff.1 (hs.gs x (List.mem_of_getElem? hx))
              have hee := edgs_get hx hw
              have hps := pre_succ (d0 := basR r) (k := k) hee
              have hbd := bd_pre hE0 (bd_bas r) k j
              have hwd := hwb w (List.mem_of_getElem? hw)
              have ea : x.a = ((x.a.toNat : Nat) : Int) := by omega
              have eb : x.b = ((x.b.toNat : Nat) : Int) := by omega
              have ha : x.a.toNat < nR s := by omega
              have hb : x.b.toNat < nR s := by omega
              have hstep := row_step (preB (edgs s.gates ds) (basR r) k j) w ha hb
              have hps' : preB (edgs s.gates ds) (basR r) k (j + 1) = stepB (preB (edgs s.gates ds) (basR r) k j) (x.a.toNat, x.b.toNat, w) := hps
              rw [← hps'] at hstep
              have ba := hbd x.a.toNat
              have bb := hbd x.b.toNat
              have ga := rowI_get (preB (edgs s.gates ds) (basR r) k j) ha
              have gb := rowI_get (preB (edgs s.gates ds) (basR r) k j) hb
              generalize rowI (nR s) (preB (edgs s.gates ds) (basR r) k (j + 1)) = R' at *
              have hRl := rowI_len (nR s) (preB (edgs s.gates ds) (basR r) k j)
              generalize rowI (nR s) (preB (edgs s.gates ds) (basR r) k j) = R at *
              generalize preB (edgs s.gates ds) (basR r) k j x.a.toNat = da at *
              generalize preB (edgs s.gates ds) (basR r) k j x.b.toNat = db at *
              have ixa := ixI (h := hget []) (id := 1) (n := nR s) (i := x.a) (k := x.a.toNat) ea ha
              have ixb := ixI (h := hget []) (id := 1) (n := nR s) (i := x.b) (k := x.b.toNat) eb hb
              have lda := ldI (h := hget [(1, .cells (iL R))]) (id := 1) (l := R) rfl ga
              have ldb := ldI (h := hget [(1, .cells (iL R))]) (id := 1) (l := R) rfl gb
              have wa : some (⟨.int .i64 (IntKind.i64.wrap (da + w)), []⟩ : Out) = some ⟨.int .i64 (da + w), []⟩ := by rw [wrap64 (by omega) (by omega)]
              have wb : some (⟨.int .i64 (IntKind.i64.wrap (db + w)), []⟩ : Out) = some ⟨.int .i64 (db + w), []⟩ := by rw [wrap64 (by omega) (by omega)]
              have ma := minV (x := da) (y := db + w) rfl
              have mb := minV (x := db) (y := da + w) rfl
              generalize min da (db + w) = A at *
              generalize min db (da + w) = B at *
              have sta := stI (h := hget [(1, .cells (iL R))]) (id := 1) (l := R) (k := x.a.toNat) (x := A) rfl (by omega)
              have stb := stI (h := hget [(1, .cells (iL (R.set x.a.toNat A)))]) (id := 1) (l := R.set x.a.toNat A) (k := x.b.toNat) (x := B) rfl (by rw [List.length_set]; omega)
              rw [hstep] at stb
              have c : decide ((j : Int) < ((s.gates.map cGt).length : Int)) = true := ltLen hlj
              exact ACode.vcM (.br 38 true <| .draw 13 <| .cells (cGt x) <| .cells (cGt x) <| .draw 34 <| .val 59 (.vptr 1 x.a.toNat) [] <| .val 60 (.int .i64 da) [] <| .val 63 (.vptr 1 x.b.toNat) [] <| .val 64 (.int .i64 db) [] <| .cells (encI w) <| .val 69 (.int .i64 (db + w)) [] <| .val 70 (.int .i64 A) [] <|
                .val 73 (.vptr 1 x.b.toNat) [] <| .val 74 (.int .i64 db) [] <| .val 77 (.vptr 1 x.a.toNat) [] <| .val 78 (.int .i64 da) [] <| .cells (encI w) <| .val 83 (.int .i64 (da + w)) [] <| .val 84 (.int .i64 B) [] <| .val 85 (.vptr 1 x.a.toNat) [] <| .val 1 .undef [(1, some (.cells (iL (R.set x.a.toNat A))))] <|
                .val 86 (.vptr 1 x.b.toNat) [] <| .val 1 .undef [(1, some (.cells (iL R')))] .nil) hn hlo (.round .cl)
                ⟨c, by kernel_rfl, mixed, by kernel_rfl, idx hx, idx hx, by kernel_rfl, by kernel_rfl, mixed, by kernel_rfl, Eq.trans (by kernel_rfl) ixa, Eq.trans (by kernel_rfl) lda, Eq.trans (by kernel_rfl) ixb, Eq.trans (by kernel_rfl) ldb, idx hw, Eq.trans (by kernel_rfl) wb, Eq.trans (by kernel_rfl) ma,
                 Eq.trans (by kernel_rfl) ixb, Eq.trans (by kernel_rfl) ldb, Eq.trans (by kernel_rfl) ixa, Eq.trans (by kernel_rfl) lda, idx hw, Eq.trans (by kernel_rfl) wa, Eq.trans (by kernel_rfl) mb, Eq.trans (by kernel_rfl) ixa, Eq.trans (by kernel_rfl) sta, by kernel_rfl, Eq.trans (by kernel_rfl) ixb, Eq.trans (by kernel_rfl) stb, j + 1, hlj, mu1 hlj,
                 St.le.of ⟨by kernel_rfl, rfl, by kernel_rfl, rfl, by kernel_rfl, rfl, by kernel_rfl, rfl, by kernel_rfl, rfl, Eq.trans (by kernel_rfl) ej, rfl, trivial⟩ ⟨by kernel_rfl, (by decide : (0 : Nat) < 2), by kernel_rfl, by kernel_rfl, (by decide : (1 : Nat) < 2), iL_ok _ _, trivial⟩⟩
            · have e1 : some (AObj.cells (iL (rowI (nR s) (preB (edgs s.gates ds) (basR r) k j)))) = some (.cells (iL (rowI (nR s) (bellV (edgs s.gates ds) (k + 1) (basR r))))) := by rw [pre_end (by omega)]
              exact ACode.vcM (.br 38 false .nil) hn hlo (.round .cl) ⟨geLen hlj, _, .refl _, .nil, k + 1, hlt, mu1 hlt,
                St.le.of ⟨by kernel_rfl, rfl, by kernel_rfl, rfl, by kernel_rfl, rfl, by kernel_rfl, rfl, Eq.trans (by kernel_rfl) ek, rfl, trivial⟩ ⟨by kernel_rfl, (by decide : (0 : Nat) < 2), by kernel_rfl, Eq.trans (by kernel_rfl) e1, (by decide : (1 : Nat) < 2), iL_ok _ _, trivial⟩⟩
        · have c : decide ((k : Int) < s.rooms) = false := decide_eq_false (by omega)
          have hk' : k = nR s := by omega
          have th := fun (h : Nat → Option AObj) (h0 : h 1 = some (.cells (iL (rowI (nR s) (bellV (edgs s.gates ds) k (basR r)))))) => (show thawF 8 h (.rsl 1 0 (nR s) 1) = some (encR (rowI (nR s) (rowP s ds r)), [1]) by
            have e := thawF_ints 6 h0
            rw [rowI_len, hk'] at e; exact e)
          exact ACode.vcM (.br 31 false .nil) hn hlo (.round .cl) ⟨c, _, .refl _, .nil, [1], th _ (by kernel_rfl)⟩
end Go.Proofs.YtoeankkhjpijlaaGreatDoor
