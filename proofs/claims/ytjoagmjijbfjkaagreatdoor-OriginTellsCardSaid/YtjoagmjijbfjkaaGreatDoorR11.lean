import Derived.Test.YtjoagmjijbfjkaaGreatDoorR3
import Derived.Test.YtjoagmjijbfjkaaGreatDoorW8
import Derived.Test.YtjoagmjijbfjkaaGreatDoorAm26
/-
  THE REFERENCE: the next list of delays; how far rooms are.
-/
namespace Go.Proofs.YtjoagmjijbfjkaaGreatDoor
open Go Go.Am
set_option maxRecDepth 100000
set_option maxHeartbeats 4000000
theorem rnext_mut (s : Scn) (ds : List Int) {N : Nat} (hN : N = ds.length) (hl : ds.length = s.gates.length) (hs : N ≤ 1000) (hb : ∀ d ∈ ds, -1000000 ≤ d ∧ d ≤ 1000000) :
    AMutP Tryz.prog Tryz.f59 (encSc s) N 1 [] (iL ds) (.bool (nextD (gSp s.gates) ds).isSome) (nxtQ s.gates ds) := by
  have hgl : (gSp s.gates).length = s.gates.length := by unfold gSp; rw [List.length_map]
  have hl2 : ds.length = (gSp s.gates).length := by omega
  refine AMutP.vc .loop ?_
  intro g hn hlo
  replace hn : g.n = 41 := hn
  replace hlo : g.low 1 := hlo
  have e0 : IntKind.i64.wrap ((N : Int) - 1) = ((s.gates.length : Nat) : Int) - 1 := by rw [wrap64 (by omega) (by omega)]; omega
  have e0 := congrArg (AV.int .i64) e0
  refine acode_while (fun p : Nat => ⟨[(1, .rsl 0 0 N 1), (2, .vptr 1 0), (5, .int .i64 ((p : Int) - 1))], [(0, .cells (iL (mixD (gSp s.gates) ds p))), (1, .cells (cSc s))], 2⟩) (fun p => p ≤ s.gates.length ∧ nextD ((gSp s.gates).drop p) (ds.drop p) = none) (fun p => p) s.gates.length ⟨Nat.le_refl _, by have := next_nil hl2; rw [hgl] at this; exact this⟩ ?_ (fun _ _ => hlo.mono (by decide : 1 ≤ 2)) ?_
  · have e1 : some (AObj.cells (iL ds)) = some (.cells (iL (mixD (gSp s.gates) ds s.gates.length))) := by
      unfold mixD
      rw [← hl, List.take_length, hl, ← hgl, List.drop_of_length_le (by unfold leastD; rw [List.length_map]; exact Nat.le_refl _), List.append_nil]
    exact St.le.of ⟨by kernel_rfl, rfl, by kernel_rfl, rfl, Eq.trans (by kernel_rfl) e0, rfl, trivial⟩ ⟨Eq.trans (by kernel_rfl) e1, (by decide : (0 : Nat) < 2), iL_ok _ _, by kernel_rfl, (by decide : (1 : Nat) < 2), by kernel_rfl, trivial⟩
  · rintro p ⟨hp1, hp2⟩
    replace hp1 : p ≤ s.gates.length := hp1
    cases p with
    | zero =>
      have e : nextD (gSp s.gates) ds = none := hp2
      have c : decide (((0 : Nat) : Int) - 1 ≥ 0) = false := by decide
      have v : AV.bool false = .bool (nextD (gSp s.gates) ds).isSome := by rw [e]; rfl
      have q : nxtQ s.gates ds (iL (mixD (gSp s.gates) ds 0)) := by unfold nxtQ nxtL mixD; rw [e]; rfl
      exact ACode.vcM (.br 10 false .nil) hn hlo (.round .cl) ⟨c, _, .refl _, .nil, v, _, rfl, q⟩
    | succ p =>
      refine Exists.elim (getE (show p < ds.length by omega)) fun d hd => ?_
      refine Exists.elim (getE (show p < s.gates.length by omega)) fun x hx => ?_
      have hsx : (gSp s.gates)[p]? = some (x.lo, x.hi) := by unfold gSp; rw [List.getElem?_map, hx]; rfl
      obtain ⟨n1, n2⟩ := nxt_none hl2 (by omega) hp2 hd hsx
      have hb2 := hb d (List.mem_of_getElem? hd)
      have c : decide (((p + 1 : Nat) : Int) - 1 ≥ 0) = true := decide_eq_true (by omega)
      have ei : ((p + 1 : Nat) : Int) - 1 = (p : Int) := by omega
      have hml := mix_len hl2 (p + 1)
      have ix1 := ixI (h := hget []) (id := 0) (n := N) ei (show p < N by omega)
      have ix2 := idxW (enc := cGt) ei hx
      have ld := ldI (h := hget [(0, .cells (iL (mixD (gSp s.gates) ds (p + 1))))]) (id := 0) (l := mixD (gSp s.gates) ds (p + 1)) rfl (mix_get hd)
      have st1 := stI (h := hget [(0, .cells (iL (mixD (gSp s.gates) ds (p + 1))))]) (id := 0) (l := mixD (gSp s.gates) ds (p + 1)) (k := p) (x := IntKind.i64.wrap (d + 1)) rfl (by omega)
      have st2 := stI (h := hget [(0, .cells (iL (mixD (gSp s.gates) ds (p + 1))))]) (id := 0) (l := mixD (gSp s.gates) ds (p + 1)) (k := p) (x := x.lo) rfl (by omega)
      have ew : IntKind.i64.wrap (d + 1) = d + 1 := wrap64 (by omega) (by omega)
      rw [ew] at st1
      have m1 := mix_up (g := gSp s.gates) hl2 hd
      have m2 := mix_lo hl2 hsx
      rw [m1] at st1
      rw [m2] at st2
      have wv : some (⟨.int .i64 (IntKind.i64.wrap (d + 1)), []⟩ : Out) = some ⟨.int .i64 (d + 1), []⟩ := by rw [ew]
      cases hlt : decide (d < x.hi)
      · have hn2 := n2 (of_decide_eq_false hlt)
        have ep : IntKind.i64.wrap (((p + 1 : Nat) : Int) - 1 - 1) = (p : Int) - 1 := by rw [wrap64 (by omega) (by omega)]; omega
        have ep := congrArg (AV.int .i64) ep
        generalize hM : mixD (gSp s.gates) ds (p + 1) = M at *
        exact ACode.vcM (.br 10 true <| .draw 11 <| .val 15 (.vptr 0 p) [] <| .val 16 (.int .i64 d) [] <| .cells (cGt x) <| .br 24 false <| .cells (cGt x) <| .val 40 (.vptr 0 p) [] <| .val 1 .undef [(0, some (.cells (iL (mixD (gSp s.gates) ds p))))] .nil) hn hlo (.round .cl)
          ⟨c, by kernel_rfl, mixed, by kernel_rfl, Eq.trans (by kernel_rfl) ix1, Eq.trans (by kernel_rfl) ld, ix2, by kernel_rfl, hlt, ix2, Eq.trans (by kernel_rfl) ix1, Eq.trans (by kernel_rfl) st2, p, ⟨by omega, hn2⟩, Nat.lt_succ_self p,
           St.le.of ⟨by kernel_rfl, rfl, by kernel_rfl, rfl, Eq.trans (by kernel_rfl) ep, rfl, trivial⟩ ⟨by kernel_rfl, (by decide : (0 : Nat) < 2), iL_ok _ _, by kernel_rfl, (by decide : (1 : Nat) < 2), by kernel_rfl, trivial⟩⟩
      · have hn1 := n1 (of_decide_eq_true hlt)
        have v : AV.bool true = .bool (nextD (gSp s.gates) ds).isSome := by rw [hn1]; rfl
        have q : nxtQ s.gates ds (iL (ds.take p ++ (d + 1) :: (leastD (gSp s.gates)).drop (p + 1))) := by unfold nxtQ nxtL; rw [hn1]; rfl
        generalize ds.take p ++ (d + 1) :: (leastD (gSp s.gates)).drop (p + 1) = R at *
        generalize hM : mixD (gSp s.gates) ds (p + 1) = M at *
        exact ACode.vcM (.br 10 true <| .draw 11 <| .val 15 (.vptr 0 p) [] <| .val 16 (.int .i64 d) [] <| .cells (cGt x) <| .br 24 true <| .val 27 (.vptr 0 p) [] <| .val 28 (.int .i64 d) [] <| .val 29 (.int .i64 (d + 1)) [] <| .val 30 (.vptr 0 p) [] <| .val 1 .undef [(0, some (.cells (iL R)))] .nil) hn hlo (.round .cl)
          ⟨c, by kernel_rfl, mixed, by kernel_rfl, Eq.trans (by kernel_rfl) ix1, Eq.trans (by kernel_rfl) ld, ix2, by kernel_rfl, hlt, Eq.trans (by kernel_rfl) ix1, Eq.trans (by kernel_rfl) ld, Eq.trans (by kernel_rfl) wv, Eq.trans (by kernel_rfl) ix1, Eq.trans (by kernel_rfl) st1, _, .refl _, .nil, v, _, rfl, q⟩
end Go.Proofs.YtjoagmjijbfjkaaGreatDoor
/-
  THE REFERENCE: how far rooms are.
-/
namespace Go.Proofs.YtjoagmjijbfjkaaGreatDoor
open Go Go.Am
set_option maxRecDepth 100000
set_option maxHeartbeats 4000000
def rowI (n : Nat) (d : Row) : List Int := (List.range n).map d
theorem rowI_len (n : Nat) (d : Row) : (rowI n d).length = n := by unfold rowI; rw [List.length_map, List.length_range]
theorem rowI_get {n x : Nat} (d : Row) (h : x < n) : (rowI n d)[x]? = some (d x) := by unfold rowI; rw [List.getElem?_map, List.getElem?_range h]; rfl
theorem rowI_ext {n : Nat} {d e : Row} (h : ∀ x, x < n → d x = e x) : rowI n d = rowI n e := List.map_congr_left fun x hx => h x (List.mem_range.1 hx)
theorem rowI_set {n a : Nat} (d : Row) (v : Int) (ha : a < n) : (rowI n d).set a v = rowI n (fun x => if x = a then v else d x) := by
  apply List.ext_getElem?
  intro i
  rw [List.getElem?_set]
  by_cases hi : i < n
  · rw [rowI_get _ hi, rowI_get _ hi, rowI_len]
    by_cases e : a = i
    · subst e; rw [if_pos rfl, if_pos ha, if_pos rfl]
    · rw [if_neg e, if_neg fun q => e q.symm]
  · rw [List.getElem?_eq_none (by rw [rowI_len]; omega), List.getElem?_eq_none (by rw [rowI_len]; omega), rowI_len]
    rw [if_neg (by omega)]
theorem row_step {n a b : Nat} (d : Row) (w : Int) (ha : a < n) (hb : b < n) : ((rowI n d).set a (min (d a) (d b + w))).set b (min (d b) (d a + w)) = rowI n (stepB d (a, b, w)) := by
  rw [rowI_set _ _ ha, rowI_set _ _ hb]
  rfl
def nevR (k : Nat) : Row := fun i => if i < k then 1000000 else 0
theorem nevZero (n : Nat) : List.replicate n (0 : Int) = rowI n (nevR 0) := by
  apply List.ext_getElem?
  intro i
  by_cases hi : i < n
  · rw [rowI_get _ hi, List.getElem?_replicate, if_pos hi]; rfl
  · rw [List.getElem?_eq_none (by rw [List.length_replicate]; omega), List.getElem?_eq_none (by rw [rowI_len]; omega)]
theorem nevStep {n k : Nat} (hk : k < n) : (rowI n (nevR k)).set k 1000000 = rowI n (nevR (k + 1)) := by
  rw [rowI_set _ _ hk]
  refine rowI_ext fun x _ => ?_
  unfold nevR
  by_cases e : x = k
  · rw [if_pos e, if_pos (by omega)]
  · by_cases q : x < k
    · rw [if_neg e, if_pos q, if_pos (by omega)]
    · rw [if_neg e, if_neg q, if_neg (by omega)]
def basR (r : Nat) : Row := fun y => if y = r then 0 else 1000000
theorem bas_step {n r : Nat} (hr : r < n) : (rowI n (nevR n)).set r 0 = rowI n (basR r) := by
  rw [rowI_set _ _ hr]
  refine rowI_ext fun x hx => ?_
  unfold basR nevR
  by_cases e : x = r
  · rw [if_pos e, if_pos e]
  · rw [if_neg e, if_neg e, if_pos hx]
def preB (E : List Edg) (d0 : Row) (k j : Nat) : Row := (E.take j).foldl stepB (bellV E k d0)
theorem pre_zero (E : List Edg) (d0 : Row) (k : Nat) : preB E d0 k 0 = bellV E k d0 := rfl
theorem pre_succ {E : List Edg} {d0 : Row} {k j : Nat} {e : Edg} (h : E[j]? = some e) : preB E d0 k (j + 1) = stepB (preB E d0 k j) e := by
  unfold preB; rw [take_snoc h, List.foldl_append]; rfl
theorem pre_end {E : List Edg} {d0 : Row} {k j : Nat} (h : E.length ≤ j) : preB E d0 k j = bellV E (k + 1) d0 := by
  unfold preB; rw [List.take_of_length_le h]; rfl
def bdR (d : Row) : Prop := ∀ x, 0 ≤ d x ∧ d x ≤ 1000000
theorem bd_step {d : Row} (h : bdR d) {e : Edg} (he : 0 ≤ e.2.2) : bdR (stepB d e) := by
  intro x
  have h1 := h e.1; have h2 := h e.2.1; have h3 := h x
  unfold stepB
  by_cases q : x = e.2.1
  · rw [if_pos q]; omega
  · rw [if_neg q]
    by_cases p : x = e.1
    · rw [if_pos p]; omega
    · rw [if_neg p]; exact h3
theorem bd_round {E : List Edg} (hE : ∀ e ∈ E, 0 ≤ e.2.2) : ∀ {L : List Edg} {d : Row}, (∀ e ∈ L, e ∈ E) → bdR d → bdR (L.foldl stepB d) := by
  intro L
  induction L with
  | nil => intro d _ h; exact h
  | cons e L ih => intro d hL h; exact ih (fun x hx => hL x (List.mem_cons_of_mem _ hx)) (bd_step h (hE e (hL e List.mem_cons_self)))
theorem bd_bell {E : List Edg} (hE : ∀ e ∈ E, 0 ≤ e.2.2) {d : Row} (h : bdR d) : ∀ k, bdR (bellV E k d) := by
  intro k
  induction k with
  | zero => exact h
  | succ k ih => exact bd_round hE (fun _ h => h) ih
theorem bd_pre {E : List Edg} (hE : ∀ e ∈ E, 0 ≤ e.2.2) {d : Row} (h : bdR d) (k j : Nat) : bdR (preB E d k j) :=
  bd_round hE (fun _ h => List.mem_of_mem_take h) (bd_bell hE h k)
theorem bd_bas (r : Nat) : bdR (basR r) := by
  intro x
  unfold basR
  by_cases e : x = r
  · rw [if_pos e]; omega
  · rw [if_neg e]; omega
theorem rmkI {id n : Nat} (hn : n ≤ 1000) : aMakeSlice Tryz.prog id 24 (.int .i64 n) (.int .i64 n) = some ⟨.rsl id 0 n 1, [(id, some (.cells (iL (List.replicate n 0))))]⟩ := by
  have e : rep n [.int .i64 0] = iL (List.replicate n 0) := by
    induction n with
    | zero => rfl
    | succ n ih => rw [List.replicate_succ]; show [AV.int .i64 0] ++ rep n [.int .i64 0] = _; rw [ih (by omega)]; rfl
  rw [← e]
  simp only [aMakeSlice, ty24, ty3]
  rw [if_pos ⟨trivial, by omega, by omega, by simp; omega, by omega, rfl⟩]
  simp
theorem minV {x y m : Int} (h : m = min x y) : some (⟨.int .i64 (if y < x then y else x), []⟩ : Out) = some ⟨.int .i64 m, []⟩ := by
  have : (if y < x then y else x) = m := by
    subst h
    by_cases q : y < x
    · rw [if_pos q]; omega
    · rw [if_neg q]; omega
  rw [this]
/-- What the reference finds far. -/
def rowP (s : Scn) (ds : List Int) (r : Nat) : Row := bellV (edgs s.gates ds) (nR s) (basR r)
theorem rfar_spec (s : Scn) (hs : ScOk s) (ds : List Int) (hd : areD (gSp s.gates) ds) {r : Nat} (hr : r < nR s) : APureF Tryz.prog 61 [encSc s, encR ds, .int .i64 (r : Int)] (encR (rowI (nR s) (rowP s ds r))) := by
  have hdl := ds_len hs hd
  obtain ⟨hnr, hn1, hn6⟩ := nR_eq hs
  have hsr := hs.rooms
  have hgl := hs.gl
  have hE0 : ∀ e ∈ edgs s.gates ds, 0 ≤ e.2.2 := fun e he => by
    have := (gok_of hs hd).lo e.1 e.2.1 e.2.2 (.inl he); exact this
  have hwb : ∀ d ∈ ds, -1000000 ≤ d ∧ d ≤ 1000000 := ds_bd hs hd
  have hel : (edgs s.gates ds).length = s.gates.length := by unfold edgs; rw [List.length_zipWith]; omega
  have hmk := rmkI (id := 1) (n := nR s) (by omega)
  rw [hnr] at hmk
  rw [nevZero] at hmk
  refine APureF.vcM Tryz.func61 (.val 15 (.rsl 1 0 (nR s) 1) [(1, some (.cells (iL (rowI (nR s) (nevR 0)))))] .loop) (by kernel_rfl) (by kernel_rfl) ⟨Eq.trans (by kernel_rfl) hmk, ?_⟩
  intro g hn hlo
  replace hn : g.n = 88 := hn
  replace hlo : g.low 0 := hlo
  refine acode_while (fun k : Nat => ⟨[(1, encR ds), (2, .int .i64 (r : Int)), (3, .vptr 0 0), (7, .rsl 1 0 (nR s) 1), (8, .int .i64 k)], [(0, .cells (cSc s)), (1, .cells (iL (rowI (nR s) (nevR k))))], 2⟩) (fun k => k ≤ nR s) (fun k => nR s - k) 0 (Nat.zero_le _) ?_ (fun _ _ => hlo.mono (Nat.zero_le _)) ?_
  · exact St.le.of ⟨by kernel_rfl, rfl, by kernel_rfl, rfl, by kernel_rfl, rfl, by kernel_rfl, rfl, by kernel_rfl, rfl, trivial⟩ ⟨by kernel_rfl, (by decide : (0 : Nat) < 2), by kernel_rfl, by kernel_rfl, (by decide : (1 : Nat) < 2), iL_ok _ _, trivial⟩
  · intro k hk
    replace hk : k ≤ nR s := hk
    by_cases hlt : k < nR s
    · have ek := congrArg (AV.int .i64) (succ64 (k := k) (by omega))
      have c : decide ((k : Int) < (nR s : Int)) = true := decide_eq_true (by omega)
      have ix := ixI (h := hget []) (id := 1) (n := nR s) (i := (k : Int)) rfl hlt
      have st := stI (h := hget [(1, .cells (iL (rowI (nR s) (nevR k))))]) (id := 1) (l := rowI (nR s) (nevR k)) (k := k) (x := 1000000) rfl (by rw [rowI_len]; exact hlt)
      rw [nevStep hlt] at st
      exact ACode.vcM (.br 19 true <| .val 24 (.vptr 1 k) [] <| .val 1 .undef [(1, some (.cells (iL (rowI (nR s) (nevR (k + 1))))))] .nil) hn hlo (.round .cl) ⟨c, Eq.trans (by kernel_rfl) ix, Eq.trans (by kernel_rfl) st, k + 1, hlt, mu1 hlt,
        St.le.of ⟨by kernel_rfl, rfl, by kernel_rfl, rfl, by kernel_rfl, rfl, by kernel_rfl, rfl, Eq.trans (by kernel_rfl) ek, rfl, trivial⟩ ⟨by kernel_rfl, (by decide : (0 : Nat) < 2), by kernel_rfl, by kernel_rfl, (by decide : (1 : Nat) < 2), iL_ok _ _, trivial⟩⟩
    · have hk' : k = nR s := by omega
      have c : decide ((k : Int) < (nR s : Int)) = false := decide_eq_false (by omega)
      have ix := ixI (h := hget []) (id := 1) (n := nR s) (i := (r : Int)) rfl hr
      have st := stI (h := hget [(1, .cells (iL (rowI (nR s) (nevR k))))]) (id := 1) (l := rowI (nR s) (nevR k)) (k := r) (x := 0) rfl (by rw [rowI_len]; exact hr)
      have eb : (rowI (nR s) (nevR k)).set r 0 = rowI (nR s) (basR r) := by rw [hk']; exact bas_step hr
      rw [eb] at st
      refine ACode.vcM (.br 19 false .nil) hn hlo (.round .cl) ⟨c, _, .refl _, .val 27 (.vptr 1 r) [] <| .val 1 .undef [(1, some (.cells (iL (rowI (nR s) (basR r)))))] .loop, Eq.trans (by kernel_rfl) ix, Eq.trans (by kernel_rfl) st, ?_⟩
      intro g hn hlo
      replace hn : g.n = 88 := hn
      replace hlo : g.low 0 := hlo
      refine acode_while (fun k : Nat => ⟨[(1, encR ds), (2, .int .i64 (r : Int)), (3, .vptr 0 0), (7, .rsl 1 0 (nR s) 1), (9, .int .i64 k)], [(0, .cells (cSc s)), (1, .cells (iL (rowI (nR s) (bellV (edgs s.gates ds) k (basR r)))))], 2⟩) (fun k => k ≤ nR s) (fun k => nR s - k) 0 (Nat.zero_le _) ?_ (fun _ _ => hlo.mono (Nat.zero_le _)) ?_
      · exact St.le.of ⟨by kernel_rfl, rfl, by kernel_rfl, rfl, by kernel_rfl, rfl, by kernel_rfl, rfl, by kernel_rfl, rfl, trivial⟩ ⟨by kernel_rfl, (by decide : (0 : Nat) < 2), by kernel_rfl, by kernel_rfl, (by decide : (1 : Nat) < 2), iL_ok _ _, trivial⟩
      · intro k hk
        replace hk : k ≤ nR s := hk
        by_cases hlt : k < nR s
        · have ek := congrArg (AV.int .i64) (succ64 (k := k) (by omega))
          have c : decide ((k : Int) < s.rooms) = true := decide_eq_true (by omega)
          refine ACode.vcM (.br 31 true .loop) hn hlo (.round .cl) ⟨c, ?_⟩
          intro g hn hlo
          replace hn : g.n = 88 := hn
          replace hlo : g.low 0 := hlo
          refine acode_while (fun j : Nat => ⟨[(1, encR ds), (2, .int .i64 (r : Int)), (3, .vptr 0 0), (7, .rsl 1 0 (nR s) 1), (9, .int .i64 k), (10, .int .i64 j)], [(0, .cells (cSc s)), (1, .cells (iL (rowI (nR s) (preB (edgs s.gates ds) (basR r) k j))))], 2⟩) (fun j => j ≤ s.gates.length) (fun j => s.gates.length - j) 0 (Nat.zero_le _) ?_ (fun _ _ => hlo.mono (Nat.zero_le _)) ?_
          · exact St.le.of ⟨by kernel_rfl, rfl, by kernel_rfl, rfl, by kernel_rfl, rfl, by kernel_rfl, rfl, by kernel_rfl, rfl, by kernel_rfl, rfl, trivial⟩ ⟨by kernel_rfl, (by decide : (0 : Nat) < 2), by kernel_rfl, by kernel_rfl, (by decide : (1 : Nat) < 2), iL_ok _ _, trivial⟩
          · intro j hj
            replace hj : j ≤ s.gates.length := hj
            by_cases hlj : j < s.gates.length
            · refine Exists.elim (getE hlj) fun x hx => ?_
              refine Exists.elim (getE (show j < ds.length by omega)) fun w hw => ?_
              have ej := congrArg (AV.int .i64) (succ64 (k := j) (by omega))
              have hg := gtB_iff.1 (hs.gs x (List.mem_of_getElem? hx))
              have hee := edgs_get hx hw
              have hps := pre_succ (d0 := basR r) (k := k) hee
              have hbd := bd_pre hE0 (bd_bas r) k j
              have hwd := hwb w (List.mem_of_getElem? hw)
              have ea : x.a = ((x.a.toNat : Nat) : Int) := by omega
              have eb : x.b = ((x.b.toNat : Nat) : Int) := by omega
              have ha : x.a.toNat < nR s := by omega
              have hb : x.b.toNat < nR s := by omega
              have hstep := row_step (preB (edgs s.gates ds) (basR r) k j) w ha hb
              have hps' : preB (edgs s.gates ds) (basR r) k (j + 1) = stepB (preB (edgs s.gates ds) (basR r) k j) (x.a.toNat, x.b.toNat, w) := hps
              rw [← hps'] at hstep
              have ba := hbd x.a.toNat
              have bb := hbd x.b.toNat
              have ga := rowI_get (preB (edgs s.gates ds) (basR r) k j) ha
              have gb := rowI_get (preB (edgs s.gates ds) (basR r) k j) hb
              generalize rowI (nR s) (preB (edgs s.gates ds) (basR r) k (j + 1)) = R' at *
              have hRl := rowI_len (nR s) (preB (edgs s.gates ds) (basR r) k j)
              generalize rowI (nR s) (preB (edgs s.gates ds) (basR r) k j) = R at *
              generalize preB (edgs s.gates ds) (basR r) k j x.a.toNat = da at *
              generalize preB (edgs s.gates ds) (basR r) k j x.b.toNat = db at *
              have ixa := ixI (h := hget []) (id := 1) (n := nR s) (i := x.a) (k := x.a.toNat) ea ha
              have ixb := ixI (h := hget []) (id := 1) (n := nR s) (i := x.b) (k := x.b.toNat) eb hb
              have lda := ldI (h := hget [(1, .cells (iL R))]) (id := 1) (l := R) rfl ga
              have ldb := ldI (h := hget [(1, .cells (iL R))]) (id := 1) (l := R) rfl gb
              have wa : some (⟨.int .i64 (IntKind.i64.wrap (da + w)), []⟩ : Out) = some ⟨.int .i64 (da + w), []⟩ := by rw [wrap64 (by omega) (by omega)]
              have wb : some (⟨.int .i64 (IntKind.i64.wrap (db + w)), []⟩ : Out) = some ⟨.int .i64 (db + w), []⟩ := by rw [wrap64 (by omega) (by omega)]
              have ma := minV (x := da) (y := db + w) rfl
              have mb := minV (x := db) (y := da + w) rfl
              generalize min da (db + w) = A at *
              generalize min db (da + w) = B at *
              have sta := stI (h := hget [(1, .cells (iL R))]) (id := 1) (l := R) (k := x.a.toNat) (x := A) rfl (by omega)
              have stb := stI (h := hget [(1, .cells (iL (R.set x.a.toNat A)))]) (id := 1) (l := R.set x.a.toNat A) (k := x.b.toNat) (x := B) rfl (by rw [List.length_set]; omega)
              rw [hstep] at stb
              have c : decide ((j : Int) < ((s.gates.map cGt).length : Int)) = true := ltLen hlj
              exact ACode.vcM (.br 38 true <| .draw 13 <| .cells (cGt x) <| .cells (cGt x) <| .draw 34 <| .val 59 (.vptr 1 x.a.toNat) [] <| .val 60 (.int .i64 da) [] <| .val 63 (.vptr 1 x.b.toNat) [] <| .val 64 (.int .i64 db) [] <| .cells (encI w) <| .val 69 (.int .i64 (db + w)) [] <| .val 70 (.int .i64 A) [] <|
                .val 73 (.vptr 1 x.b.toNat) [] <| .val 74 (.int .i64 db) [] <| .val 77 (.vptr 1 x.a.toNat) [] <| .val 78 (.int .i64 da) [] <| .cells (encI w) <| .val 83 (.int .i64 (da + w)) [] <| .val 84 (.int .i64 B) [] <| .val 85 (.vptr 1 x.a.toNat) [] <| .val 1 .undef [(1, some (.cells (iL (R.set x.a.toNat A))))] <|
                .val 86 (.vptr 1 x.b.toNat) [] <| .val 1 .undef [(1, some (.cells (iL R')))] .nil) hn hlo (.round .cl)
                ⟨c, by kernel_rfl, mixed, by kernel_rfl, idx hx, idx hx, by kernel_rfl, by kernel_rfl, mixed, by kernel_rfl, Eq.trans (by kernel_rfl) ixa, Eq.trans (by kernel_rfl) lda, Eq.trans (by kernel_rfl) ixb, Eq.trans (by kernel_rfl) ldb, idx hw, Eq.trans (by kernel_rfl) wb, Eq.trans (by kernel_rfl) ma,
                 Eq.trans (by kernel_rfl) ixb, Eq.trans (by kernel_rfl) ldb, Eq.trans (by kernel_rfl) ixa, Eq.trans (by kernel_rfl) lda, idx hw, Eq.trans (by kernel_rfl) wa, Eq.trans (by kernel_rfl) mb, Eq.trans (by kernel_rfl) ixa, Eq.trans (by kernel_rfl) sta, by kernel_rfl, Eq.trans (by kernel_rfl) ixb, Eq.trans (by kernel_rfl) stb, j + 1, hlj, mu1 hlj,
                 St.le.of ⟨by kernel_rfl, rfl, by kernel_rfl, rfl, by kernel_rfl, rfl, by kernel_rfl, rfl, by kernel_rfl, rfl, Eq.trans (by kernel_rfl) ej, rfl, trivial⟩ ⟨by kernel_rfl, (by decide : (0 : Nat) < 2), by kernel_rfl, by kernel_rfl, (by decide : (1 : Nat) < 2), iL_ok _ _, trivial⟩⟩
            · have e1 : some (AObj.cells (iL (rowI (nR s) (preB (edgs s.gates ds) (basR r) k j)))) = some (.cells (iL (rowI (nR s) (bellV (edgs s.gates ds) (k + 1) (basR r))))) := by rw [pre_end (by omega)]
              exact ACode.vcM (.br 38 false .nil) hn hlo (.round .cl) ⟨geLen hlj, _, .refl _, .nil, k + 1, hlt, mu1 hlt,
                St.le.of ⟨by kernel_rfl, rfl, by kernel_rfl, rfl, by kernel_rfl, rfl, by kernel_rfl, rfl, Eq.trans (by kernel_rfl) ek, rfl, trivial⟩ ⟨by kernel_rfl, (by decide : (0 : Nat) < 2), by kernel_rfl, Eq.trans (by kernel_rfl) e1, (by decide : (1 : Nat) < 2), iL_ok _ _, trivial⟩⟩
        · have c : decide ((k : Int) < s.rooms) = false := decide_eq_false (by omega)
          have hk' : k = nR s := by omega
          have th := fun (h : Nat → Option AObj) (h0 : h 1 = some (.cells (iL (rowI (nR s) (bellV (edgs s.gates ds) k (basR r)))))) => (show thawF 8 h (.rsl 1 0 (nR s) 1) = some (encR (rowI (nR s) (rowP s ds r)), [1]) by
            have e := thawF_ints 6 h0
            rw [rowI_len, hk'] at e; exact e)
          exact ACode.vcM (.br 31 false .nil) hn hlo (.round .cl) ⟨c, _, .refl _, .nil, [1], th _ (by kernel_rfl)⟩
end Go.Proofs.YtjoagmjijbfjkaaGreatDoor
/-
  THE REFERENCE: what a set of marks says.
-/
namespace Go.Proofs.YtjoagmjijbfjkaaGreatDoor
open Go Go.Am
set_option maxRecDepth 100000
set_option maxHeartbeats 4000000
theorem bShr {S i : Nat} (hi : i < 12) : ((if ((i : Int) < 0) then (none : Option AV) else some (.int .i64 ((S : Int).fdiv (2 ^ (min (i : Int).toNat IntKind.i64.bits))))).map fun v => (⟨v, []⟩ : Out)) = some ⟨.int .i64 ((S >>> i : Nat) : Int), []⟩ := by
  have hm : min (i : Int).toNat IntKind.i64.bits = i := by
    rw [Int.toNat_natCast]
    exact Nat.min_eq_left (show i ≤ 64 by omega)
  have e : (S : Int).fdiv (2 ^ i) = ((S >>> i : Nat) : Int) := by
    rw [Nat.shiftRight_eq_div_pow, Int.fdiv_eq_ediv_of_nonneg _ (Int.le_of_lt (Int.pow_pos (by decide)))]
    simp
  rw [if_neg (by omega), hm, e]
  rfl
theorem bOne {S i : Nat} (hS : S < 4096) : (IntKind.i64.wrap (BitVec.ofInt IntKind.i64.bits ((S >>> i : Nat) : Int) &&& BitVec.ofInt IntKind.i64.bits (1 : Int)).toNat == 1) = S.testBit i := by
  have hle : S >>> i ≤ S := Nat.shiftRight_le S i
  have e := bAnd (a := S >>> i) (b := 1) (by omega) (by omega)
  rw [show ((1 : Nat) : Int) = (1 : Int) from rfl] at e
  rw [e]
  unfold Nat.testBit
  rw [Nat.and_comm 1, Nat.and_one_is_mod]
  rcases Nat.mod_two_eq_zero_or_one (S >>> i) with h | h <;> rw [h] <;> rfl
def wndR (fin : Int) (d : Row) (ms : List Mk) (set : Nat) : Spn := (mrks (pickS ms set)).foldl (fun a m => overV a (windV 1000000 m fin (d m.room) (d m.other))) (0, fin)
theorem wnd_take {fin : Int} {d : Row} {ms : List Mk} {k : Nat} {m : Mk} (h : ms[k]? = some m) (set : Nat) :
    wndR fin d (ms.take (k + 1)) set = if set.testBit k then overV (wndR fin d (ms.take k) set) (windV 1000000 (mrk m) fin (d (mrk m).room) (d (mrk m).other)) else wndR fin d (ms.take k) set := by
  unfold wndR
  rw [pick_take h]
  cases set.testBit k
  · simp
  · simp [mrks, List.foldl_append]
theorem overM (a w : Spn) : some (AObj.cells [.int .i64 (if w.1 > a.1 then w.1 else a.1), .int .i64 (if w.2 < a.2 then w.2 else a.2)]) = some (.cells (cSp (overV a w))) := by
  have h1 : (if w.1 > a.1 then w.1 else a.1) = max a.1 w.1 := by
    by_cases q : w.1 > a.1
    · rw [if_pos q]; omega
    · rw [if_neg q]; omega
  have h2 : (if w.2 < a.2 then w.2 else a.2) = min a.2 w.2 := by
    by_cases q : w.2 < a.2
    · rw [if_pos q]; omega
    · rw [if_neg q]; omega
  rw [h1, h2]; rfl
theorem mk_kind {s : Scn} (hs : ScOk s) {m : Mk} (hm : m ∈ s.marks) : 1 ≤ m.kd.val ∧ m.kd.val ≤ 6 ∧ (0 ≤ m.room ∧ m.room.toNat < nR s) ∧ (0 ≤ m.other ∧ m.other.toNat < nR s) ∧ smM m := by
  have hmk := hs.ms m hm
  have hsm := mk_sm hs hm
  obtain ⟨hnr, hn1, hn6⟩ := nR_eq hs
  unfold mkB at hmk
  obtain ⟨h1, h2⟩ := Bool.and_eq_true_iff.1 hmk
  have hr := inB_iff.1 h1
  have key : 1 ≤ m.kd.val ∧ m.kd.val ≤ 6 ∧ (0 ≤ m.other ∧ m.other.toNat < nR s) := by
    unfold usB at h2
    by_cases k6 : m.kd.val = 6
    · rw [if_pos k6] at h2
      obtain ⟨h3, _⟩ := Bool.and_eq_true_iff.1 h2
      have ho := inB_iff.1 (Bool.and_eq_true_iff.1 h3).1
      exact ⟨by omega, by omega, by omega, by omega⟩
    · rw [if_neg k6] at h2
      by_cases k4 : m.kd.val = 4 ∨ m.kd.val = 5
      · rw [if_pos k4] at h2
        have ho := beq_iff_eq.1 (Bool.and_eq_true_iff.1 h2).1
        exact ⟨by omega, by omega, by omega, by omega⟩
      · rw [if_neg k4] at h2
        by_cases k1 : m.kd.val = 1 ∨ m.kd.val = 2 ∨ m.kd.val = 3
        · rw [if_pos k1] at h2
          have ho := beq_iff_eq.1 (Bool.and_eq_true_iff.1 h2).1
          exact ⟨by omega, by omega, by omega, by omega⟩
        · rw [if_neg k1] at h2; cases h2
  exact ⟨key.1, key.2.1, ⟨hr.1, by omega⟩, key.2.2, hsm⟩
theorem rboth_spec (s : Scn) (hs : ScOk s) (d : Row) (hd : bdR d) (set : Nat) (hset : set < 4096) : APure Tryz.prog 60 [encSc s, .int .i64 (set : Int), encR (rowI (nR s) d)] (encSp (wndR s.fin d s.marks set)) := by
  have hml := hs.ml
  have hfin := hs.fin
  refine APure.vcM Tryz.func60 .loop (by kernel_rfl) (by kernel_rfl) ?_
  intro g hn hlo
  replace hn : g.n = 45 := hn
  replace hlo : g.low 0 := hlo
  refine acode_while (fun k : Nat => ⟨[(1, .int .i64 (set : Int)), (2, encR (rowI (nR s) d)), (3, .vptr 0 0), (6, .vptr 1 0), (7, .vptr 2 0), (8, .int .i64 k)], [(0, .cells (cSc s)), (1, .cells [.int .i64 0, .int .i64 0]), (2, .cells (cSp (wndR s.fin d (s.marks.take k) set)))], 3⟩) (fun k => k ≤ s.marks.length) (fun k => s.marks.length - k) 0 (Nat.zero_le _) ?_ (fun _ _ => hlo.mono (Nat.zero_le _)) ?_
  · exact St.le.of ⟨by kernel_rfl, rfl, by kernel_rfl, rfl, by kernel_rfl, rfl, by kernel_rfl, rfl, by kernel_rfl, rfl, by kernel_rfl, rfl, trivial⟩ ⟨by kernel_rfl, (by decide : (0 : Nat) < 3), by kernel_rfl, by kernel_rfl, (by decide : (1 : Nat) < 3), by kernel_rfl, by kernel_rfl, (by decide : (2 : Nat) < 3), by kernel_rfl, trivial⟩
  · intro k hk
    replace hk : k ≤ s.marks.length := hk
    by_cases hlt : k < s.marks.length
    · refine Exists.elim (getE hlt) fun x hx => ?_
      have ek := congrArg (AV.int .i64) (succ64 (k := k) (by omega))
      obtain ⟨hk1, hk6, hrm, hot, hsm⟩ := mk_kind hs (List.mem_of_getElem? hx)
      have wn := win_spec s ⟨hfin.1, by omega⟩ x hsm ⟨hk1, hk6⟩ (rowI (nR s) d) (hd x.room.toNat) ⟨hrm.1, by rw [List.getElem?_map, rowI_get d hrm.2]; rfl⟩ ⟨hot.1, by rw [List.getElem?_map, rowI_get d hot.2]; rfl⟩
      have wt := wnd_take (fin := s.fin) (d := d) hx set
      replace wn : APure Tryz.prog 83 [encSc s, .agg (cMk x), encR (rowI (nR s) d)] (encSp (windV 1000000 (mrk x) s.fin (d (mrk x).room) (d (mrk x).other))) := wn
      have sh := bShr (S := set) (i := k) (by omega)
      have bo := bOne (S := set) (i := k) hset
      generalize windV 1000000 (mrk x) s.fin (d (mrk x).room) (d (mrk x).other) = W at *
      cases hb : set.testBit k
      · rw [hb] at bo wt
        have eA : some (AObj.cells (cSp (wndR s.fin d (s.marks.take k) set))) = some (.cells (cSp (wndR s.fin d (s.marks.take (k + 1)) set))) := by rw [wt]; rfl
        exact ACode.vcM (.br 17 true <| .val 22 (.int .i64 ((set >>> k : Nat) : Int)) [] <| .br 24 false .nil) hn hlo (.round .cl) ⟨ltLen hlt, Eq.trans (by kernel_rfl) sh, bo, k + 1, hlt, mu1 hlt,
          St.le.of ⟨by kernel_rfl, rfl, by kernel_rfl, rfl, by kernel_rfl, rfl, by kernel_rfl, rfl, by kernel_rfl, rfl, Eq.trans (by kernel_rfl) ek, rfl, trivial⟩ ⟨by kernel_rfl, (by decide : (0 : Nat) < 3), by kernel_rfl, by kernel_rfl, (by decide : (1 : Nat) < 3), by kernel_rfl, Eq.trans (by kernel_rfl) eA, (by decide : (2 : Nat) < 3), by kernel_rfl, trivial⟩⟩
      · rw [hb] at bo wt
        have eA := overM (wndR s.fin d (s.marks.take k) set) W
        rw [show overV (wndR s.fin d (s.marks.take k) set) W = wndR s.fin d (s.marks.take (k + 1)) set from wt.symm] at eA
        exact ACode.vcM (.br 17 true <| .val 22 (.int .i64 ((set >>> k : Nat) : Int)) [] <| .br 24 true <| .draw 9 <| .cells (cMk x) <| .call (encSp W) .nil) hn hlo (.round .cl) ⟨ltLen hlt, Eq.trans (by kernel_rfl) sh, bo, by kernel_rfl, mixed, by kernel_rfl, idx hx, wn, by kernel_rfl, k + 1, hlt, mu1 hlt,
          St.le.of ⟨by kernel_rfl, rfl, by kernel_rfl, rfl, by kernel_rfl, rfl, by kernel_rfl, rfl, by kernel_rfl, rfl, Eq.trans (by kernel_rfl) ek, rfl, trivial⟩ ⟨by kernel_rfl, (by decide : (0 : Nat) < 3), by kernel_rfl, by kernel_rfl, (by decide : (1 : Nat) < 3), by kernel_rfl, Eq.trans (by kernel_rfl) eA, (by decide : (2 : Nat) < 3), by kernel_rfl, trivial⟩⟩
    · have hall : s.marks.take k = s.marks := List.take_of_length_le (by omega)
      rw [hall]
      exact ACode.vcM (.br 17 false .nil) hn hlo (.round .cl) ⟨geLen hlt, _, .refl _, .nil, [], by kernel_rfl⟩
end Go.Proofs.YtjoagmjijbfjkaaGreatDoor
/-
  THE REFERENCE: whether there is a truth of a room.
-/
namespace Go.Proofs.YtjoagmjijbfjkaaGreatDoor
open Go Go.Am
set_option maxRecDepth 100000
set_option maxHeartbeats 4000000
theorem CRel.mono1 {κ : Nat → Option Nat} {av : Nat → Prop} {w : World} {pre post : List AV} {a b : AV} {vs : Array Value} (h : CRel κ av w (pre ++ a :: post) vs) (hab : ∀ {v : Value}, VRel κ av w a v → VRel κ av w b v) : CRel κ av w (pre ++ b :: post) vs := by
  refine ⟨by rw [h.1]; simp, fun i c hi => ?_⟩
  by_cases q : i = pre.length
  · subst q
    rw [List.getElem?_append_right (Nat.le_refl _), Nat.sub_self] at hi
    simp at hi
    subst hi
    obtain ⟨u, hu, hr⟩ := h.2 pre.length a (by rw [List.getElem?_append_right (Nat.le_refl _), Nat.sub_self]; rfl)
    exact ⟨u, hu, hab hr⟩
  · refine h.2 i c ?_
    by_cases p : i < pre.length
    · rw [List.getElem?_append_left p] at hi ⊢; exact hi
    · rw [List.getElem?_append_right (by omega)] at hi ⊢
      obtain ⟨j, hj⟩ : ∃ j, i - pre.length = j + 1 := ⟨i - pre.length - 1, by omega⟩
      rw [hj] at hi ⊢
      exact hi
/-- What asks a list of nothing takes nil too. -/
theorem APureF.nilArg {P : Program} {f : FuncId} {pre post : List AV} {n : Nat} {r : AV} (h : APureF P f (pre ++ .lst n [] :: post) r) : APureF P f (pre ++ .nil :: post) r :=
  fun κ N w cargs hN hg hc => h κ N w cargs hN hg (CRel.mono1 hc fun hv => VRel.nilLst hv)
def truR (s : Scn) (set room : Nat) (ds : List Int) : Bool := okW (wndR s.fin (rowP s ds room) s.marks set)
def someR (s : Scn) (set room : Nat) : Bool := (allD (gSp s.gates)).any (truR s set room)
theorem some_D (s : Scn) (hs : ScOk s) (hg : 0 < s.gates.length) (set : Nat) (hset : set < 4096) (room : Nat) (hroom : room < nR s) : APure Tryz.prog 82 [encSc s, .int .i64 (set : Int), .int .i64 (room : Int)] (.bool (someR s set room)) := by
  have h729 := all_729 hs
  have hg6 := hs.gl
  have hLl : (leastD (gSp s.gates)).length = s.gates.length := by unfold leastD gSp; rw [List.length_map, List.length_map]
  refine APure.vcM Tryz.func82 (.inl Tryz.f58 .loop) (by kernel_rfl) (by kernel_rfl) ⟨Tryz.func58, ?_⟩
  intro g hn hlo
  replace hn : g.n = 23 := hn
  replace hlo : g.low 1 := hlo
  refine acode_whileW (fun k : Nat => ⟨[(1, .vptr 1 0), (3, .rsl 2 0 ((leastD (gSp s.gates)).take k).length 1), (4, .int .i64 k)], [(0, .cells (cSc s)), (1, .cells (cSc s)), (2, .cells (iL ((leastD (gSp s.gates)).take k)))], 3⟩) (fun k => k ≤ s.gates.length) (fun k => s.gates.length - k) 0 (Nat.zero_le _) ?_ ?_
  · refine Wk.trans (Wk.le ?_ (hlo.mono (show 1 ≤ 3 by decide))) (Wk.own 3 1 (by kernel_rfl))
    exact St.le.of ⟨by kernel_rfl, rfl, by kernel_rfl, rfl, by kernel_rfl, rfl, trivial⟩ ⟨by kernel_rfl, (by decide : (0 : Nat) < 3), by kernel_rfl, by kernel_rfl, (by decide : (1 : Nat) < 3), by kernel_rfl, by kernel_rfl, (by decide : (2 : Nat) < 3), rfl, trivial⟩
  · intro k hk
    replace hk : k ≤ s.gates.length := hk
    by_cases hlt : k < s.gates.length
    · refine Exists.elim (getE hlt) fun x hx => ?_
      have ek := congrArg (AV.int .i64) (succ64 (k := k) (by omega))
      have hlx : (leastD (gSp s.gates))[k]? = some x.lo := by unfold leastD gSp; rw [List.getElem?_map, List.getElem?_map, hx]; rfl
      have es := take_snoc hlx
      have el : ((leastD (gSp s.gates)).take (k + 1)).length = ((leastD (gSp s.gates)).take k).length + 1 := by rw [es]; simp
      have ap := fun (h : Nat → Option AObj) (j nid : Nat) (q1 : h 2 = some (.cells (iL ((leastD (gSp s.gates)).take k)))) (q2 : h j = some (.cells [.int .i64 x.lo])) => app_one (h := h) (i := 2) (j := j) (nid := nid) (l := (leastD (gSp s.gates)).take k) (x := x.lo) q1 q2 (by rw [List.length_take]; omega)
      rw [← es, ← el] at ap
      exact ACode.vcM (.br 9 true <| .cells (cGt x) <| .val 21 (.rsl 4 0 ((leastD (gSp s.gates)).take (k + 1)).length 1) [(2, none), (4, some (.cells (iL ((leastD (gSp s.gates)).take (k + 1)))))] .nil) hn hlo (.roundW .cl) ⟨ltLen hlt, idx hx, Eq.trans (by kernel_rfl) (ap (hget [(2, .cells (iL ((leastD (gSp s.gates)).take k))), (3, .cells [.int .i64 x.lo])]) 3 4 rfl rfl), k + 1, hlt, mu1 hlt,
        Wk.ren (c := 2) (b := 4) (St.ren.of rfl (by decide) ⟨.inl ⟨by kernel_rfl, rfl⟩, .inr ⟨_, _, _, rfl, by kernel_rfl⟩, .inl ⟨Eq.trans (by kernel_rfl) ek, rfl⟩, trivial⟩
          ⟨.inl ⟨(by decide : (0 : Nat) < 2), by kernel_rfl, by kernel_rfl⟩, .inl ⟨(by decide : (1 : Nat) < 2), by kernel_rfl, by kernel_rfl⟩, .inr ⟨rfl, by kernel_rfl, _, rfl, iL_ok _ _⟩, trivial⟩) (hlo.mono (show 1 ≤ 2 by decide))⟩
    · have hk' : k = s.gates.length := by omega
      have e3 : AV.rsl 2 0 ((leastD (gSp s.gates)).take k).length 1 = .rsl 2 0 s.gates.length 1 := by rw [List.length_take, hk', hLl, Nat.min_self]
      obtain ⟨⟨t0, et0⟩, _⟩ := all_run (sp_le hs)
      have e9 : some (AObj.cells (iL ((leastD (gSp s.gates)).take k))) = some (.cells (iL (dsK s 0))) := by
        rw [hk', ← hLl, List.take_length]; unfold dsK; rw [et0]; rfl
      have e6 : AV.bool true = .bool (moreK s 0) := by unfold moreK; rw [et0]; rfl
      refine ACode.vcM (.br 9 false .nil) hn hlo (.roundW .cl) ⟨geLen hlt, _, .refl _, .loop, ?_⟩
      intro g hn hlo
      replace hn : g.n = 28 := hn
      replace hlo : g.low 0 := hlo
      refine acode_while (fun k : Nat => ⟨[(1, .int .i64 (set : Int)), (2, .int .i64 (room : Int)), (3, .vptr 0 0), (7, .rsl 2 0 s.gates.length 1), (8, .bool (moreK s k))], [(0, .cells (cSc s)), (2, .cells (iL (dsK s k)))], 3⟩) (fun k => k ≤ (allD (gSp s.gates)).length ∧ ((allD (gSp s.gates)).take k).any (truR s set room) = false) (fun k => (allD (gSp s.gates)).length - k) 0 ⟨Nat.zero_le _, rfl⟩ ?_ (fun _ _ => hlo.mono (Nat.zero_le _)) ?_
      · exact St.le.of ⟨by kernel_rfl, rfl, by kernel_rfl, rfl, by kernel_rfl, rfl, Eq.trans (by kernel_rfl) e3, rfl, Eq.trans (by kernel_rfl) e6, rfl, trivial⟩ ⟨by kernel_rfl, (by decide : (0 : Nat) < 3), by kernel_rfl, Eq.trans (by kernel_rfl) e9, (by decide : (2 : Nat) < 3), iL_ok _ _, trivial⟩
      · rintro k ⟨hk, hno⟩
        replace hk : k ≤ (allD (gSp s.gates)).length := hk
        by_cases hlt : k < (allD (gSp s.gates)).length
        · obtain ⟨ds, R⟩ := rnd_of hs hlt
          have hm : moreK s k = true := decide_eq_true hlt
          have hdl := ds_len hs R.are
          have hE0 : ∀ e ∈ edgs s.gates ds, 0 ≤ e.2.2 := fun e he => (gok_of hs R.are).lo e.1 e.2.1 e.2.2 (.inl he)
          have hfar := rfar_spec s hs ds R.are hroom
          have bo := rboth_spec s hs (rowP s ds room) (bd_bell hE0 (bd_bas room) _) set hset
          have htk : ((allD (gSp s.gates)).take (k + 1)).any (truR s set room) = truR s set room ds := by
            rw [take_snoc R.get, List.any_append, hno]; simp
          have hex : truR s set room ds = true → true = someR s set room := fun h => (List.any_eq_true.2 ⟨ds, List.mem_of_getElem? R.get, h⟩).symm
          have tc := fun (h : Nat → Option AObj) (h0 : h 2 = some (.cells (iL (dsK s k)))) => (show thawL h [encSc s, .rsl 2 0 s.gates.length 1, .int .i64 (room : Int)] = some ([encSc s, encR ds, .int .i64 (room : Int)], [2]) by
            rw [R.now] at h0
            have e := thaw_fl (enc := encI) (n := 1) 6 (fun _ => rfl) (fun _ => rfl) h0
            rw [hdl] at e
            have e1 : thaw 8 h (encSc s) = some (encSc s, []) := by unfold thaw; exact if_pos rfl
            have e2 : thaw 8 h (.int .i64 (room : Int)) = some (.int .i64 (room : Int), []) := by unfold thaw; exact if_pos rfl
            simp only [thawL, mapO, e, e1, e2]; rfl)
          have en : some (AObj.cells (iL (dsK s k))) = some (.cells (iL ds)) := by rw [R.now]
          have mutC := rnext_mut s ds (N := s.gates.length) hdl.symm hdl (by omega) (ds_bd hs R.are)
          have e6 : AV.bool (nextD (gSp s.gates) ds).isSome = .bool (moreK s (k + 1)) := by rw [R.isS]
          have htr : truR s set room ds = decide ((wndR s.fin (rowP s ds room) s.marks set).1 ≤ (wndR s.fin (rowP s ds room) s.marks set).2) := rfl
          generalize wndR s.fin (rowP s ds room) s.marks set = W at *
          generalize rowI (nR s) (rowP s ds room) = RW at *
          cases hb : decide (W.1 ≤ W.2)
          · rw [hb] at htr
            rw [htr] at htk
            exact ACode.vcM (.br 12 true <| .draw 8 <| .lent (encR RW) [2] <| .call (encSp W) <| .br 27 false <| .inl Tryz.f59 <| .nz .nil) hn hlo (.round .cl)
              ⟨hm, by kernel_rfl, mixed, by kernel_rfl, ⟨_, tc _ (by kernel_rfl), .inr hfar⟩, bo, by kernel_rfl, hb, Tryz.func59,
               AMutP.use (id := 2) mutC (by kernel_rfl) rfl rfl (iL_ok 0 ds) (fun _ h => (show _ = iL _ from h) ▸ iL_ok 0 _) (Eq.trans (by kernel_rfl) en) fun cs' hQ => ⟨k + 1, ⟨hlt, htk⟩, mu1 hlt,
                St.le.of ⟨by kernel_rfl, rfl, by kernel_rfl, rfl, by kernel_rfl, rfl, by kernel_rfl, rfl, Eq.trans (by kernel_rfl) e6, rfl, trivial⟩ ⟨by kernel_rfl, (by decide : (0 : Nat) < 3), by kernel_rfl, Eq.trans (by kernel_rfl) (show some (AObj.cells cs') = some (.cells (iL (dsK s (k + 1)))) by rw [show cs' = iL (nxtL s.gates ds) from hQ, R.nxt]), (by decide : (2 : Nat) < 3), iL_ok _ _, trivial⟩⟩⟩
          · rw [hb] at htr
            have eV := congrArg (fun b => some (AV.bool b, ([] : List Nat))) (hex htr)
            exact ACode.vcM (.br 12 true <| .draw 8 <| .lent (encR RW) [2] <| .call (encSp W) <| .br 27 true .nil) hn hlo (.round .cl)
              ⟨hm, by kernel_rfl, mixed, by kernel_rfl, ⟨_, tc _ (by kernel_rfl), .inr hfar⟩, bo, by kernel_rfl, hb, _, .refl _, .nil, [], Eq.trans (by kernel_rfl) eV⟩
        · have hm : moreK s k = false := decide_eq_false hlt
          have hall : (allD (gSp s.gates)).take k = allD (gSp s.gates) := List.take_of_length_le (by omega)
          rw [hall] at hno
          have eV := congrArg (fun b => some (AV.bool b, ([] : List Nat))) hno.symm
          exact ACode.vcM (.br 12 false .nil) hn hlo (.round .cl) ⟨hm, _, .refl _, .nil, [], Eq.trans (by kernel_rfl) eV⟩
end Go.Proofs.YtjoagmjijbfjkaaGreatDoor
/-
  THE REFERENCE: rooms in which there is a truth.
-/
namespace Go.Proofs.YtjoagmjijbfjkaaGreatDoor
open Go Go.Am
set_option maxRecDepth 100000
set_option maxHeartbeats 4000000
theorem rnextNil_spec (s : Scn) : APure Tryz.prog 59 [encSc s, .nil] (.bool false) := by
  refine APure.vc Tryz.func59 rfl .loop rfl rfl ?_
  intro g hn hl
  replace hn : g.n = 41 := hn
  replace hl : g.low 0 := hl
  refine acode_while (fun _ : Unit => ⟨[(5, .int .i64 (-1))], [], 0⟩) (fun _ => True) (fun _ => 0) () trivial ?_ (fun _ _ => hl) ?_
  · exact St.le.of ⟨by kernel_rfl, rfl, trivial⟩ trivial
  · intro _ _
    exact ACode.vc (.br 10 false .nil) hn hl (.round .cl) ⟨by decide, _, .refl _, .nil, rB rfl⟩
theorem some_N (s : Scn) (hs : ScOk s) (hg : s.gates = []) (set : Nat) (hset : set < 4096) (room : Nat) (hroom : room < nR s) : APure Tryz.prog 82 [encSc s, .int .i64 (set : Int), .int .i64 (room : Int)] (.bool (someR s set room)) := by
  have hall : allD (gSp s.gates) = [[]] := by rw [hg]; rfl
  have hd : areD (gSp s.gates) [] := (mem_all hs).1 (by rw [hall]; exact List.mem_singleton.2 rfl)
  refine APure.vcM Tryz.func82 (.inl Tryz.f58 .loop) (by kernel_rfl) (by kernel_rfl) ⟨Tryz.func58, ?_⟩
  intro g hn hlo
  replace hn : g.n = 23 := hn
  replace hlo : g.low 1 := hlo
  refine acode_while (fun _ : Unit => ⟨[(1, .vptr 1 0), (3, .nil), (4, .int .i64 ((0 : Nat) : Int))], [(0, .cells (cSc s)), (1, .cells (cSc s))], 2⟩) (fun _ => True) (fun _ => 0) () trivial ?_ (fun _ _ => hlo.mono (show 1 ≤ 2 by decide)) ?_
  · exact St.le.of ⟨by kernel_rfl, rfl, by kernel_rfl, rfl, by kernel_rfl, rfl, trivial⟩ ⟨by kernel_rfl, (by decide : (0 : Nat) < 2), by kernel_rfl, by kernel_rfl, (by decide : (1 : Nat) < 2), by kernel_rfl, trivial⟩
  · intro _ _
    have hno : decide (((0 : Nat) : Int) < ((s.gates.map cGt).length : Int)) = false := by rw [hg]; rfl
    refine ACode.vcM (.br 9 false .nil) hn hlo (.round .cl) ⟨hno, _, .refl _, .loop, ?_⟩
    intro g hn hlo
    replace hn : g.n = 28 := hn
    replace hlo : g.low 0 := hlo
    refine acode_while (fun b : Bool => ⟨[(1, .int .i64 (set : Int)), (2, .int .i64 (room : Int)), (3, .vptr 0 0), (7, .nil), (8, .bool b)], [(0, .cells (cSc s))], 1⟩) (fun b => b = false → someR s set room = false) (fun b => if b then 1 else 0) true (fun h => by cases h) ?_ (fun _ _ => hlo.mono (Nat.zero_le _)) ?_
    · exact St.le.of ⟨by kernel_rfl, rfl, by kernel_rfl, rfl, by kernel_rfl, rfl, by kernel_rfl, rfl, by kernel_rfl, rfl, trivial⟩ ⟨by kernel_rfl, (by decide : (0 : Nat) < 1), by kernel_rfl, trivial⟩
    · intro b hb
      have hE0 : ∀ e ∈ edgs s.gates [], 0 ≤ e.2.2 := fun e he => (gok_of hs hd).lo e.1 e.2.1 e.2.2 (.inl he)
      have hfar : APureF Tryz.prog 61 [encSc s, .nil, .int .i64 (room : Int)] (encR (rowI (nR s) (rowP s [] room))) := APureF.nilArg (pre := [encSc s]) (post := [.int .i64 (room : Int)]) (n := 1) (rfar_spec s hs [] hd hroom)
      have bo := rboth_spec s hs (rowP s [] room) (bd_bell hE0 (bd_bas room) _) set hset
      have hv : someR s set room = decide ((wndR s.fin (rowP s [] room) s.marks set).1 ≤ (wndR s.fin (rowP s [] room) s.marks set).2) := by
        unfold someR; rw [hall]; simp [truR, okW]
      have nx := rnextNil_spec s
      generalize wndR s.fin (rowP s [] room) s.marks set = W at *
      generalize rowI (nR s) (rowP s [] room) = RW at *
      cases b
      · have eV := congrArg (fun b => some (AV.bool b, ([] : List Nat))) (hb rfl).symm
        exact ACode.vcM .nil hn hlo (.round .cl) ⟨_, .refl _, .nil, [], Eq.trans (by kernel_rfl) eV⟩
      · cases hc : decide (W.1 ≤ W.2)
        · rw [hc] at hv
          exact ACode.vcM (.draw 8 <| .lent (encR RW) [] <| .call (encSp W) <| .br 27 false <| .call (.bool false) .nil) hn hlo (.round .cl)
            ⟨by kernel_rfl, mixed, by kernel_rfl, ⟨_, by kernel_rfl, .inr hfar⟩, bo, by kernel_rfl, hc, nx, false, fun _ => hv, by decide,
              St.le.of ⟨by kernel_rfl, rfl, by kernel_rfl, rfl, by kernel_rfl, rfl, by kernel_rfl, rfl, by kernel_rfl, rfl, trivial⟩ ⟨by kernel_rfl, (by decide : (0 : Nat) < 1), by kernel_rfl, trivial⟩⟩
        · rw [hc] at hv
          have eV := congrArg (fun b => some (AV.bool b, ([] : List Nat))) hv.symm
          exact ACode.vcM (.draw 8 <| .lent (encR RW) [] <| .call (encSp W) <| .br 27 true .nil) hn hlo (.round .cl)
            ⟨by kernel_rfl, mixed, by kernel_rfl, ⟨_, by kernel_rfl, .inr hfar⟩, bo, by kernel_rfl, hc, _, .refl _, .nil, [], Eq.trans (by kernel_rfl) eV⟩
theorem some_spec (s : Scn) (hs : ScOk s) (set : Nat) (hset : set < 4096) (room : Nat) (hroom : room < nR s) : APure Tryz.prog 82 [encSc s, .int .i64 (set : Int), .int .i64 (room : Int)] (.bool (someR s set room)) := by
  by_cases hg : 0 < s.gates.length
  · exact some_D s hs hg set hset room hroom
  · exact some_N s hs (List.eq_nil_of_length_eq_zero (by omega)) set hset room hroom
theorem every_spec (s : Scn) (h : s.marks.length < 12) : APure Tryz.prog 56 [encSc s] (.int .i64 ((allN s : Nat) : Int)) := by
  have sh := bShlO (k := s.marks.length) h
  have ez : (((s.marks.map cMk).length : Nat) : Int) = ((s.marks.length : Nat) : Int) := by rw [List.length_map]
  rw [← ez] at sh
  have h1 := two_lt h
  have h2 := Nat.two_pow_pos s.marks.length
  have e : IntKind.i64.wrap (((2 ^ s.marks.length : Nat) : Int) - 1) = ((allN s : Nat) : Int) := by
    unfold allN
    rw [wrap64 (by omega) (by omega)]; omega
  generalize 2 ^ s.marks.length = z at *
  exact APure.vc Tryz.func56 rfl (.val 6 (.int .i64 (z : Int)) [] .nil) (by kernel_rfl) rfl ⟨Eq.trans (by kernel_rfl) sh, rI e⟩
end Go.Proofs.YtjoagmjijbfjkaaGreatDoor
/-
  THE REFERENCE's rooms; its truths are the program's.
-/
namespace Go.Proofs.YtjoagmjijbfjkaaGreatDoor
open Go Go.Am
set_option maxRecDepth 100000
set_option maxHeartbeats 4000000
theorem foldl_cg {α β : Type} {f g : β → α → β} : ∀ {l : List α} {b : β}, (∀ a ∈ l, ∀ b, f b a = g b a) → l.foldl f b = l.foldl g b := by
  intro l
  induction l with
  | nil => intro b _; rfl
  | cons a l ih =>
    intro b h
    rw [List.foldl_cons, List.foldl_cons, h a List.mem_cons_self]
    exact ih fun x hx => h x (List.mem_cons_of_mem _ hx)
theorem row_far {s : Scn} (hs : ScOk s) {ds : List Int} (hd : areD (gSp s.gates) ds) {r x : Nat} (hr : r < nR s) (hx : x < nR s) : rowP s ds r x = asB 1000000 (farP s ds r x) := by
  obtain ⟨h1, h2, h3⟩ := nR_eq hs
  exact far_bell (gok_of hs hd) hr hx (N := 1000000) (by omega)
theorem wnd_win {s : Scn} (hs : ScOk s) {ds : List Int} (hd : areD (gSp s.gates) ds) {r : Nat} (hr : r < nR s) (set : Nat) : wndR s.fin (rowP s ds r) s.marks set = winM s.fin (farP s ds r) s.marks set := by
  have hm : ∀ m ∈ mrks (pickS s.marks set), m.room < nR s ∧ m.other < nR s := fun m hm => by
    obtain ⟨k, hk, rfl⟩ := List.mem_map.1 hm
    obtain ⟨i, h1, _⟩ := mem_pick.1 hk
    obtain ⟨_, _, q1, q2, _⟩ := mk_kind hs (List.mem_of_getElem? h1)
    exact ⟨q1.2, q2.2⟩
  have e1 : winM s.fin (farP s ds r) s.marks set = allV s.fin (fun x => if x < nR s then farP s ds r x else none) (0, s.fin) (mrks (pickS s.marks set)) := by
    unfold winM allV
    refine foldl_cg fun m hmm a => ?_
    obtain ⟨q1, q2⟩ := hm m hmm
    show _ = overV a (saysV m s.fin (if m.room < nR s then farP s ds r m.room else none) (if m.other < nR s then farP s ds r m.other else none))
    rw [if_pos q1, if_pos q2]
  rw [e1, all_wind (N := 1000000) hs.fin.2 (fun x c e => by
    by_cases hx : x < nR s
    · rw [if_pos hx] at e
      have := far_le hs hd hr hx e; omega
    · rw [if_neg hx] at e; cases e) (Int.le_refl _)]
  unfold wndR
  refine foldl_cg fun m hmm a => ?_
  obtain ⟨q1, q2⟩ := hm m hmm
  rw [row_far hs hd hr q1, row_far hs hd hr q2]
  show _ = overV a (windV 1000000 m s.fin (asB 1000000 (if m.room < nR s then farP s ds r m.room else none)) (asB 1000000 (if m.other < nR s then farP s ds r m.other else none)))
  rw [if_pos q1, if_pos q2]
theorem any_cg {α : Type} {p q : α → Bool} : ∀ {l : List α}, (∀ a ∈ l, p a = q a) → l.any p = l.any q := by
  intro l
  induction l with
  | nil => intro _; rfl
  | cons a l ih =>
    intro h
    rw [List.any_cons, List.any_cons, h a List.mem_cons_self, ih fun x hx => h x (List.mem_cons_of_mem _ hx)]
theorem some_ex {s : Scn} (hs : ScOk s) (set : Nat) {room : Nat} (hr : room < nR s) : someR s set room = !exB s room set := by
  rw [exB_M]
  unfold someR exM
  rw [any_cg (q := fun ds => okW (allV s.fin (farP s ds room) (0, s.fin) (mrks (pickS s.marks set)))) fun ds hd => by
    unfold truR; rw [wnd_win hs ((mem_all hs).1 hd) hr]; rfl]
  rw [List.any_eq_not_all_not]
def rmK (s : Scn) (set k : Nat) : List Int := ((List.range k).filter (someR s set)).map fun (r : Nat) => (r : Int)
theorem rmK_yes {s : Scn} {set k : Nat} (h : someR s set k = true) : rmK s set (k + 1) = rmK s set k ++ [(k : Int)] := by
  unfold rmK; rw [List.range_succ, List.filter_append, List.map_append, List.filter_cons_of_pos h]; rfl
theorem rmK_no {s : Scn} {set k : Nat} (h : someR s set k = false) : rmK s set (k + 1) = rmK s set k := by
  unfold rmK; rw [List.range_succ, List.filter_append, List.filter_cons_of_neg (by rw [h]; exact Bool.false_ne_true)]; simp
theorem rmK_len (s : Scn) (set k : Nat) : (rmK s set k).length ≤ k := by
  unfold rmK; rw [List.length_map]
  exact Nat.le_trans (List.length_filter_le _ _) (by rw [List.length_range]; exact Nat.le_refl _)
theorem rooms_spec (s : Scn) (hs : ScOk s) (set : Nat) (hset : set < 4096) : APureF Tryz.prog 57 [encSc s, .int .i64 (set : Int)] (encR (rmK s set (nR s))) := by
  obtain ⟨hnr, hn1, hn6⟩ := nR_eq hs
  refine APureF.vcM Tryz.func57 .loop (by kernel_rfl) rfl ?_
  intro g hn hlo
  replace hn : g.n = 22 := hn
  replace hlo : g.low 0 := hlo
  refine acode_whileW (fun i : Nat => ⟨[(1, .int .i64 (set : Int)), (2, .vptr 0 0), (5, .rsl 1 0 (rmK s set i).length 1), (6, .int .i64 i)], [(0, .cells (cSc s)), (1, .cells (iL (rmK s set i)))], 2⟩) (fun i => i ≤ nR s) (fun i => nR s - i) 0 (Nat.zero_le _) ?_ ?_
  · refine Wk.trans (Wk.le ?_ (hlo.mono (show 0 ≤ 2 by decide))) (Wk.own 5 1 (by kernel_rfl))
    exact St.le.of ⟨by kernel_rfl, rfl, by kernel_rfl, rfl, by kernel_rfl, rfl, by kernel_rfl, rfl, trivial⟩ ⟨by kernel_rfl, (by decide : (0 : Nat) < 2), by kernel_rfl, by kernel_rfl, (by decide : (1 : Nat) < 2), rfl, trivial⟩
  · intro i hi
    replace hi : i ≤ nR s := hi
    by_cases hlt : i < nR s
    · have ek := congrArg (AV.int .i64) (succ64 (k := i) (by omega))
      have c : decide ((i : Int) < s.rooms) = true := decide_eq_true (by omega)
      have so := some_spec s hs set hset i hlt
      have hil := rmK_len s set i
      refine (Bool.eq_false_or_eq_true (someR s set i)).symm.elim (fun hbit => ?_) (fun hbit => ?_)
      · rw [hbit] at so
        have es := rmK_no hbit
        have e5 : AV.rsl 1 0 (rmK s set i).length 1 = .rsl 1 0 (rmK s set (i + 1)).length 1 := by rw [es]
        have o1 : some (AObj.cells (iL (rmK s set i))) = some (.cells (iL (rmK s set (i + 1)))) := by rw [es]
        exact ACode.vcM (.br 10 true <| .call (.bool false) .nil) hn hlo (.roundW .cl) ⟨c, so, i + 1, hlt, mu1 hlt, Wk.le (St.le.of ⟨by kernel_rfl, rfl, by kernel_rfl, rfl, Eq.trans (by kernel_rfl) e5, rfl, Eq.trans (by kernel_rfl) ek, rfl, trivial⟩ ⟨by kernel_rfl, (by decide : (0 : Nat) < 2), by kernel_rfl, Eq.trans (by kernel_rfl) o1, (by decide : (1 : Nat) < 2), iL_ok _ _, trivial⟩) (hlo.mono (show 0 ≤ 2 by decide))⟩
      · rw [hbit] at so
        have es := rmK_yes hbit
        have el : (rmK s set (i + 1)).length = (rmK s set i).length + 1 := by rw [es]; simp
        have ap := app_one (h := hget [(1, .cells (iL (rmK s set i))), (2, .cells [.int .i64 (i : Int)])]) (i := 1) (j := 2) (nid := 3) (l := rmK s set i) (x := (i : Int)) rfl rfl (by omega)
        rw [← es, ← el] at ap
        exact ACode.vcM (.br 10 true <| .call (.bool true) <| .val 20 (.rsl 3 0 (rmK s set (i + 1)).length 1) [(1, none), (3, some (.cells (iL (rmK s set (i + 1)))))] .nil) hn hlo (.roundW .cl) ⟨c, so, Eq.trans (by kernel_rfl) ap, i + 1, hlt, mu1 hlt,
          Wk.ren (c := 1) (b := 3) (St.ren.of rfl (by decide) ⟨.inl ⟨by kernel_rfl, rfl⟩, .inl ⟨by kernel_rfl, rfl⟩, .inr ⟨_, _, _, rfl, by kernel_rfl⟩, .inl ⟨Eq.trans (by kernel_rfl) ek, rfl⟩, trivial⟩ ⟨.inl ⟨(by decide : (0 : Nat) < 1), by kernel_rfl, by kernel_rfl⟩, .inr ⟨rfl, by kernel_rfl, _, rfl, iL_ok _ _⟩, trivial⟩) (hlo.mono (show 0 ≤ 1 by decide))⟩
    · have hk' : i = nR s := by omega
      have c : decide ((i : Int) < s.rooms) = false := decide_eq_false (by omega)
      have th := fun (h : Nat → Option AObj) (hh : h 1 = some (.cells (iL (rmK s set i)))) => (show thawF 8 h (.rsl 1 0 (rmK s set i).length 1) = some (encR (rmK s set (nR s)), [1]) by
        have e := thawF_ints 6 hh
        rw [hk'] at e ⊢; exact e)
      exact ACode.vcM (.br 10 false .nil) hn hlo (.roundW .cl) ⟨c, _, .refl _, .nil, [1], th _ (by kernel_rfl)⟩
end Go.Proofs.YtjoagmjijbfjkaaGreatDoor
/-
  THE REFERENCE: what is the same, and scenes in new memory.
-/
namespace Go.Proofs.YtjoagmjijbfjkaaGreatDoor
open Go Go.Am
set_option maxRecDepth 100000
set_option maxHeartbeats 4000000
theorem ne_self64 (x : Int) : (x != x) = false := bne_self_eq_false x
theorem SameInts_self (l : List Int) (hl : l.length ≤ 100000) : APure Tryz.prog 18 [encR l, encR l] (.bool true) := by
  refine APure.vc Tryz.func18 rfl (.br 10 false .loop) rfl rfl ⟨ne_self64 _, ?_⟩
  intro g hn hlo
  replace hn : g.n = 26 := hn
  replace hlo : g.low 0 := hlo
  refine acode_while (fun k : Nat => ⟨[(0, encR l), (1, encR l), (5, .int .i64 k)], [], 0⟩) (fun k => k ≤ l.length) (fun k => l.length - k) 0 (Nat.zero_le _) ?_ (fun _ _ => hlo) ?_
  · exact St.le.of ⟨by kernel_rfl, rfl, by kernel_rfl, rfl, by kernel_rfl, rfl, trivial⟩ trivial
  · intro k hk
    replace hk : k ≤ l.length := hk
    by_cases hlt : k < l.length
    · refine Exists.elim (getE hlt) fun x hx => ?_
      have ek := congrArg (AV.int .i64) (succ64 (k := k) (by omega))
      exact ACode.vc (.br 14 true <| .draw 8 <| .cells (encI x) <| .cells (encI x) <| .br 25 false .nil) hn hlo (.round .cl) ⟨ltLen hlt, by kernel_rfl, mixed, by kernel_rfl, idx hx, idx hx, by kernel_rfl, ne_self64 x, k + 1, hlt, mu1 hlt,
        St.le.of ⟨by kernel_rfl, rfl, by kernel_rfl, rfl, Eq.trans (by kernel_rfl) ek, rfl, trivial⟩ trivial⟩
    · exact ACode.vc (.br 14 false .nil) hn hlo (.round .cl) ⟨geLen hlt, _, .refl _, .nil, rB rfl⟩
theorem neGt (x : Gt) : ((aeqT Tryz.prog 6 38 (.agg (cGt x)) (.agg (cGt x))).map fun b => AV.bool !b).map (fun v => (⟨v, []⟩ : Out)) = some ⟨.bool false, []⟩ := by
  simp [cGt, aeqT, aeqF, ty38, ty36, ty3, apart, TD.agg, andO]
theorem neMk (x : Mk) : ((aeqT Tryz.prog 6 46 (.agg (cMk x)) (.agg (cMk x))).map fun b => AV.bool !b).map (fun v => (⟨v, []⟩ : Out)) = some ⟨.bool false, []⟩ := by
  simp [cMk, kO, aeqT, aeqF, ty46, ty36, ty3, ty5, apart, TD.agg, andO]
theorem Same_self (s : Scn) (hg : s.gates.length ≤ 1000) (hm : s.marks.length ≤ 1000) : APure Tryz.prog 34 [encSc s, encSc s] (.bool true) := by
  refine APure.vcM Tryz.func34 (.br 12 false <| .br 19 false <| .br 28 false <| .br 36 false .loop) rfl rfl ⟨ne_self64 _, ne_self64 _, ne_self64 _, ne_self64 _, ?_⟩
  intro g hn hlo
  replace hn : g.n = 73 := hn
  replace hlo : g.low 0 := hlo
  refine acode_while (fun k : Nat => ⟨[(2, .vptr 0 0), (3, .vptr 1 0), (5, .int .i64 k)], [(0, .cells (cSc s)), (1, .cells (cSc s))], 2⟩) (fun k => k ≤ s.gates.length) (fun k => s.gates.length - k) 0 (Nat.zero_le _) ?_ (fun _ _ => hlo.mono (Nat.zero_le _)) ?_
  · exact St.le.of ⟨by kernel_rfl, rfl, by kernel_rfl, rfl, by kernel_rfl, rfl, trivial⟩ ⟨by kernel_rfl, (by decide : (0 : Nat) < 2), by kernel_rfl, by kernel_rfl, (by decide : (1 : Nat) < 2), by kernel_rfl, trivial⟩
  · intro k hk
    replace hk : k ≤ s.gates.length := hk
    by_cases hlt : k < s.gates.length
    · refine Exists.elim (getE hlt) fun x hx => ?_
      have ek := congrArg (AV.int .i64) (succ64 (k := k) (by omega))
      exact ACode.vcM (.br 41 true <| .draw 10 <| .cells (cGt x) <| .cells (cGt x) <| .val 54 (.bool false) [] .nil) hn hlo (.round .cl) ⟨ltLen hlt, by kernel_rfl, mixed, by kernel_rfl, idx hx, idx hx, by kernel_rfl, Eq.trans (by kernel_rfl) (neGt x), k + 1, hlt, mu1 hlt,
        St.le.of ⟨by kernel_rfl, rfl, by kernel_rfl, rfl, Eq.trans (by kernel_rfl) ek, rfl, trivial⟩ ⟨by kernel_rfl, (by decide : (0 : Nat) < 2), by kernel_rfl, by kernel_rfl, (by decide : (1 : Nat) < 2), by kernel_rfl, trivial⟩⟩
    · refine ACode.vcM (.br 41 false .nil) hn hlo (.round .cl) ⟨geLen hlt, _, .refl _, .loop, ?_⟩
      intro g hn hlo
      replace hn : g.n = 73 := hn
      replace hlo : g.low 0 := hlo
      refine acode_while (fun k : Nat => ⟨[(2, .vptr 0 0), (3, .vptr 1 0), (6, .int .i64 k)], [(0, .cells (cSc s)), (1, .cells (cSc s))], 2⟩) (fun k => k ≤ s.marks.length) (fun k => s.marks.length - k) 0 (Nat.zero_le _) ?_ (fun _ _ => hlo.mono (Nat.zero_le _)) ?_
      · exact St.le.of ⟨by kernel_rfl, rfl, by kernel_rfl, rfl, by kernel_rfl, rfl, trivial⟩ ⟨by kernel_rfl, (by decide : (0 : Nat) < 2), by kernel_rfl, by kernel_rfl, (by decide : (1 : Nat) < 2), by kernel_rfl, trivial⟩
      · intro k hk
        replace hk : k ≤ s.marks.length := hk
        by_cases hlt : k < s.marks.length
        · refine Exists.elim (getE hlt) fun x hx => ?_
          have ek := congrArg (AV.int .i64) (succ64 (k := k) (by omega))
          exact ACode.vcM (.br 59 true <| .draw 10 <| .cells (cMk x) <| .cells (cMk x) <| .val 72 (.bool false) [] .nil) hn hlo (.round .cl) ⟨ltLen hlt, by kernel_rfl, mixed, by kernel_rfl, idx hx, idx hx, by kernel_rfl, Eq.trans (by kernel_rfl) (neMk x), k + 1, hlt, mu1 hlt,
            St.le.of ⟨by kernel_rfl, rfl, by kernel_rfl, rfl, Eq.trans (by kernel_rfl) ek, rfl, trivial⟩ ⟨by kernel_rfl, (by decide : (0 : Nat) < 2), by kernel_rfl, by kernel_rfl, (by decide : (1 : Nat) < 2), by kernel_rfl, trivial⟩⟩
        · exact ACode.vcM (.br 59 false .nil) hn hlo (.round .cl) ⟨geLen hlt, _, .refl _, .nil, [], by kernel_rfl⟩
end Go.Proofs.YtjoagmjijbfjkaaGreatDoor
/-
  A SCENE IN NEW MEMORY.
-/
namespace Go.Proofs.YtjoagmjijbfjkaaGreatDoor
open Go Go.Am
set_option maxRecDepth 100000
set_option maxHeartbeats 4000000
theorem app_gts {h : Nat → Option AObj} {i nid : Nat} {l : List Gt} (h0 : h i = some (.cells [])) (hl : l.length ≤ 1000) : aAppend Tryz.prog h nid 28 28 (.rsl i 0 0 4) (.lst 4 (l.map cGt)) = some ⟨.rsl nid 0 l.length 4, [(i, none), (nid, some (.cells (fl cGt l)))]⟩ := by
  have hb := fl_cellB (enc := cGt) (fun _ => rfl) l
  have hln : (fl cGt l).length = l.length * 4 := fl_len (enc := cGt) (n := 4) (fun _ => rfl) l
  simp only [aAppend, aAppend0, ty28, ty38, srcCells, map_all (enc := cGt) (n := 4) (fun _ => rfl) l, fl_flatten, h0]
  simp [hb]; omega
theorem app_mks {h : Nat → Option AObj} {i nid : Nat} {l : List Mk} (h0 : h i = some (.cells [])) (hl : l.length ≤ 1000) : aAppend Tryz.prog h nid 29 29 (.rsl i 0 0 7) (.lst 7 (l.map cMk)) = some ⟨.rsl nid 0 l.length 7, [(i, none), (nid, some (.cells (fl cMk l)))]⟩ := by
  have hb := fl_cellB (enc := cMk) (fun _ => rfl) l
  have hln : (fl cMk l).length = l.length * 7 := fl_len (enc := cMk) (n := 7) (fun _ => rfl) l
  simp only [aAppend, aAppend0, ty29, ty46, srcCells, map_all (enc := cMk) (n := 7) (fun _ => rfl) l, fl_flatten, h0]
  simp [hb]; omega
theorem fl_flatC {α : Type} {enc : α → List AV} (h : ∀ a, ∀ c ∈ enc a, c.flat = true) (l : List α) : ∀ c ∈ fl enc l, c.flat = true := by
  intro c hc
  obtain ⟨x, _, hx⟩ := List.mem_flatMap.1 hc
  exact h x c hx
theorem thawF_fl {α : Type} {enc : α → List AV} {n : Nat} (d : Nat) (hn : ∀ a, (enc a).length = n) (hf : ∀ a, ∀ c ∈ enc a, c.flat = true) {h : Nat → Option AObj} {id : Nat} {l : List α} (h0 : h id = some (.cells (fl enc l))) :
    thawF (d + 2) h (.rsl id 0 l.length n) = some (.lst n (l.map enc), [id]) := by
  have e : thawF (d + 2) h (.rsl id 0 l.length n) = (match h id with
      | some (.cells cs) => if 0 + l.length * n ≤ cs.length then (match mapO (thawF (d + 1) h) cs with | some (cs', is) => some (.lst n (chunks n (cs'.drop 0) l.length), id :: is) | none => none) else none
      | _ => none) := rfl
  rw [e, h0]
  simp only []
  rw [if_pos (by rw [fl_len hn]; omega), thawF_all d h _ (fl_flatC hf l)]
  simp only [List.drop_zero]
  rw [fl_chunks hn]
theorem cGt_flat (g : Gt) : ∀ c ∈ cGt g, c.flat = true := by
  intro c hc
  simp only [cGt, List.mem_cons, List.not_mem_nil, or_false] at hc
  rcases hc with rfl | rfl | rfl | rfl <;> rfl
theorem cMk_flat (g : Mk) : ∀ c ∈ cMk g, c.flat = true := by
  intro c hc
  simp only [cMk, kO, List.mem_cons, List.not_mem_nil, or_false] at hc
  rcases hc with rfl | rfl | rfl | rfl | rfl | rfl | rfl <;> rfl
theorem thawF_Sc {h : Nat → Option AObj} {s : Scn} {i j : Nat} (hi : h i = some (.cells (fl cGt s.gates))) (hj : h j = some (.cells (fl cMk s.marks))) :
    thawF 8 h (.agg [.int .i64 s.rooms, .rsl i 0 s.gates.length 4, .int .i64 s.fin, .rsl j 0 s.marks.length 7]) = some (encSc s, [i, j]) := by
  have e1 : thawF 7 h (.rsl i 0 s.gates.length 4) = some (encGs s.gates, [i]) := thawF_fl (enc := cGt) (n := 4) (l := s.gates) 5 (fun _ => rfl) cGt_flat hi
  have e2 : thawF 7 h (.rsl j 0 s.marks.length 7) = some (encMs s.marks, [j]) := thawF_fl (enc := cMk) (n := 7) (l := s.marks) 5 (fun _ => rfl) cMk_flat hj
  have e3 : ∀ x : Int, thawF 7 h (.int .i64 x) = some (.int .i64 x, []) := fun _ => rfl
  have e : thawF 8 h (.agg [.int .i64 s.rooms, .rsl i 0 s.gates.length 4, .int .i64 s.fin, .rsl j 0 s.marks.length 7]) = (mapO (thawF 7 h) [.int .i64 s.rooms, .rsl i 0 s.gates.length 4, .int .i64 s.fin, .rsl j 0 s.marks.length 7]).map fun p => (.agg p.1, p.2) := rfl
  rw [e]
  simp only [mapO, e1, e2, e3]
  rfl
theorem Twin_spec (s : Scn) (hg : s.gates.length ≤ 1000) (hm : s.marks.length ≤ 1000) : APureF Tryz.prog 27 [encSc s] (encSc s) := by
  have a1 := app_gts (h := hget [(2, .cells [])]) (i := 2) (nid := 3) (l := s.gates) rfl hg
  have a2 := app_mks (h := hget [(5, .cells [])]) (i := 5) (nid := 6) (l := s.marks) rfl hm
  have th := fun (h : Nat → Option AObj) (hi : h 3 = some (.cells (fl cGt s.gates))) (hj : h 6 = some (.cells (fl cMk s.marks))) => thawF_Sc hi hj
  exact APureF.vcM Tryz.func27 (.val 6 (.rsl 3 0 s.gates.length 4) [(2, none), (3, some (.cells (fl cGt s.gates)))] <| .val 11 (.rsl 6 0 s.marks.length 7) [(5, none), (6, some (.cells (fl cMk s.marks)))] .nil) (by kernel_rfl) (by kernel_rfl)
    ⟨Eq.trans (by kernel_rfl) a1, Eq.trans (by kernel_rfl) a2, [3, 6], th _ (by kernel_rfl) (by kernel_rfl)⟩
end Go.Proofs.YtjoagmjijbfjkaaGreatDoor
