import Derived.Test.YtiggnliiigcjaaaDoorE17d
/-
  THE FIRST STAIR ON WHICH PEOPLE ARE LATE: one round.
-/
namespace Go.Proofs.YtiggnliiigcjaaaDoor
open Go Go.Am
set_option maxRecDepth 100000
set_option maxHeartbeats 8000000
def lateAt (e : Bool) (b : Bdg) (ws : List Wal) (n : Nat) : Bool := match b.ss[n]? with
  | none => false
  | some s => (leavesV e b ws n).any fun x => decide (x > gv e s.sLo s.sHi)
def lateSV (e : Bool) (b : Bdg) (ws : List Wal) : Int := match (List.range b.ss.length).find? (lateAt e b ws) with
  | none => -1
  | some n => (n : Int)
def IT (e : Bool) (b : Bdg) (ws : List Wal) (q : Nat × (Nat → List Int) × List Nat) : Prop := IS e b ws q ∧ ∀ j, j < q.1 → lateAt e b ws j = false
theorem lateAt_no {e : Bool} {b : Bdg} {ws : List Wal} {n : Nat} {s : Sta} (hs : b.ss[n]? = some s) (h : lateAt e b ws n = false) : ∀ x ∈ leavesV e b ws n, decide (x > gv e s.sLo s.sHi) = false := fun x hx => by
  unfold lateAt at h
  rw [hs] at h
  cases h2 : decide (x > gv e s.sLo s.sHi)
  · rfl
  · exact absurd (List.any_eq_true.2 ⟨x, hx, h2⟩) (fun h3 => Bool.false_ne_true (h.symm.trans h3))
theorem lateAt_yes {e : Bool} {b : Bdg} {ws : List Wal} {n : Nat} {s : Sta} (hs : b.ss[n]? = some s) (h : lateAt e b ws n = true) : ∃ x ∈ leavesV e b ws n, decide (x > gv e s.sLo s.sHi) = true := by
  unfold lateAt at h
  rw [hs] at h
  exact List.any_eq_true.1 h
theorem lateSV_none {e : Bool} {b : Bdg} {ws : List Wal} (h : ∀ j, j < b.ss.length → lateAt e b ws j = false) : lateSV e b ws = -1 := by
  unfold lateSV
  rw [List.find?_eq_none.2 fun j hj => by rw [h j (List.mem_range.1 hj)]; exact Bool.false_ne_true]
theorem lateSV_some {e : Bool} {b : Bdg} {ws : List Wal} {n : Nat} (hn : n < b.ss.length) (h : ∀ j, j < n → lateAt e b ws j = false) (hl : lateAt e b ws n = true) : lateSV e b ws = n := by
  have h1 : (List.range b.ss.length).find? (lateAt e b ws) = some n := by
    rw [List.find?_range_eq_some]
    exact ⟨hl, List.mem_range.2 hn, fun j hj => by rw [h j hj]; rfl⟩
  unfold lateSV
  rw [h1]
theorem it_step {e : Bool} {b : Bdg} {ws : List Wal} {n : Nat} {f : Nat → List Int} {ks : List Nat} (h : IT e b ws (n, f, ks)) (hl : lateAt e b ws n = false) (f' : Nat → List Int) (ks' : List Nat) (hI : IS e b ws (n + 1, f', ks')) : IT e b ws (n + 1, f', ks') :=
  ⟨hI, fun j hj => by rcases Nat.lt_succ_iff_lt_or_eq.1 hj with h2 | h2; exact h.2 j h2; rw [h2]; exact hl⟩
theorem okI {G : Int} {L : List Int} {i : Nat} (hi : ∀ j, j < i → ∀ x, L[j]? = some x → decide (x > G) = false) {x : Int} (hx : L[i]? = some x) (h : decide (x > G) = false) : ∀ j, j < i + 1 → ∀ x, L[j]? = some x → decide (x > G) = false := fun j hj y hy => by
  rcases Nat.lt_succ_iff_lt_or_eq.1 hj with h2 | h2
  · exact hi j h2 y hy
  · rw [h2, hx] at hy; cases hy; exact h
theorem noneL {G : Int} {L : List Int} {i : Nat} (hi : ∀ j, j < i → ∀ x, L[j]? = some x → decide (x > G) = false) (hil : ¬ i < L.length) : ¬ ∃ x ∈ L, decide (x > G) = true := fun h => Exists.elim h fun x h => by
  obtain ⟨j, hj, he⟩ := List.getElem_of_mem h.1
  exact absurd (hi j (Nat.lt_of_lt_of_le hj (Nat.not_lt.1 hil)) x (by rw [List.getElem?_eq_getElem hj, he])) (by rw [h.2]; exact Bool.noConfusion)
theorem stopSf1 {g : G} {Q : AX → St → Prop} (hQ : EClosed Q) (hn : g.n = 48) (hlo : g.low 5) (b : Bdg) (ws : List Wal) (vd : Vld b ws) (n : Nat) (f : Nat → List Int) (ks : List Nat) (hI : IS false b ws (n, f, ks)) (hlt : n < b.ss.length) (s : Sta) (hs : b.ss[n]? = some s) (G : Int) (hG : G = gv false s.sLo s.sHi) (hbad : ∃ x ∈ leavesV false b ws n, decide (x > G) = true) (hm1 : (n + 1) ∈ ks) (I : Nat × (Nat → List Int) × List Nat → Prop) (hend : ∀ env f ks k2 nx, Q .ret ⟨env, pulH 8 7 [(0, .cells (xC b ws)), (1, .cells (endC false)), (2, .cells [.int .i64 n]), (4, .loop (LS .done (some (.exit 0))))] f ks k2, nx⟩) :
    ACode Tryd.prog none g (lpB Tryd.f118) (AX.then (RoundW g (sSS false b ws) I (fun q => b.ss.length - q.1) (n, f, ks)) Q) (sSS false b ws (n, f, ks)) := by
  have hnl := hlt
  refine Exists.elim (oneS (e := false) (ws := ws) vd hs) fun k2 h => Exists.elim h fun come h => Exists.elim h fun L h1 => ?_
  have i2 : f = stF false b ws n := hI.2.1
  have i3 : KsOk f ks := hI.2.2
  rw [← i2] at h1
  have eLv : leavesV false b ws n = L := by rw [leavesV_eq hs, ← i2, h1.eL, h1.eC]
  rw [eLv] at hbad
  have sG := giv_spec false s.sLo s.sHi
  rw [← hG] at sG
  have hbas : ∀ st, basOk 8 7 (bS1 false b ws st) = true := fun st => rfl
  have hsl := vd.sl
  have hL1 := look1 (f := f) (ks := ks) (k2 := k2) (hbas .ready) h1.key1 h1.ne (by omega)
  have hdel := delV (h := hget (pulH 8 7 (bS1 false b ws .ready) f ks k2)) (i := 7) (v := updF (vC 8 f) k2 (.rsl 8 0 (f k2).length 1)) (ks := ks) (k := n + 1) (by kernel_rfl) i3.nd
  rw [h1.key1] at hdel
  have hdk := i3.del (n + 1)
  have okp : okE 17 (entV (updF (vC 8 f) k2 (.rsl 8 0 (f k2).length 1)) (ks.erase (n + 1))) = true := okE_entV (vC_ok hdk.lt (by decide) rfl)
  have sN : f (n + 1) = [] → APure Tryd.prog 120 [.nil] (encR come) := fun h => APure.nilArg (e := 1) (by have := h1.sI; rw [h] at this; exact this)
  refine ACode.wk (Wk.pull (c := 8) (M := 7) (B := bS1 false b ws .ready) (f := f) (ks := ks) (k := k2) (by kernel_rfl) (hbas _) (by decide) h1.k27 i3.lt (hlo.mono (by decide))) ?_
  refine ACode.vcM (.br 16 true <| .val 20 (.rsl (8 + 1 + (n + 1)) 0 (f (n + 1)).length 1) [] <| .lent (encR come) [8 + 1 + (n + 1)] <| .val 0 .undef [(7, some (.map (entV (updF (vC 8 f) k2 (.rsl 8 0 (f k2).length 1)) (ks.erase (n + 1)))))] <| .call (encR L) .loop) hn hlo (.roundW hQ) ⟨ltLen hnl, Eq.trans (by kernel_rfl) (hL1.1 hm1), ⟨_, Eq.trans (by kernel_rfl) hL1.2.2, .inr h1.sF⟩, Eq.trans (by kernel_rfl) hdel, h1.sL, ?_⟩
  intro g3 l3 hn3 hlo3 hid3
  replace hn3 : g3.n = 40 := hn3
  replace hlo3 : g3.low 17 := hlo3
  refine acode_whileW (iSS false b ws n f (ks.erase (n + 1)) k2 L) (fun i => ∀ j, j < i → ∀ x, L[j]? = some x → decide (x > G) = false) (fun i => L.length - i) 0 (fun j hj => absurd hj (Nat.not_lt_zero j)) (Wk.le (St.le.of ⟨by kernel_rfl, rfl, by kernel_rfl, rfl, by kernel_rfl, rfl, by kernel_rfl, rfl, by kernel_rfl, rfl, by kernel_rfl, rfl, by kernel_rfl, rfl, trivial⟩ ⟨by kernel_rfl, (by decide : (0 : Nat) < 17), rfl, by kernel_rfl, (by decide : (1 : Nat) < 17), rfl, by kernel_rfl, (by decide : (2 : Nat) < 17), rfl, by kernel_rfl, (by decide : (4 : Nat) < 17), rfl, by kernel_rfl, (by decide : (7 : Nat) < 17), okp, by kernel_rfl, (by decide : (8 : Nat) < 17), iL_ok _ _, by kernel_rfl, (by decide : (9 : Nat) < 17), iL_ok _ _, by kernel_rfl, (by decide : (10 : Nat) < 17), iL_ok _ _, by kernel_rfl, (by decide : (11 : Nat) < 17), iL_ok _ _, by kernel_rfl, (by decide : (12 : Nat) < 17), iL_ok _ _, by kernel_rfl, (by decide : (13 : Nat) < 17), iL_ok _ _, by kernel_rfl, (by decide : (14 : Nat) < 17), iL_ok _ _, by kernel_rfl, (by decide : (15 : Nat) < 17), iL_ok _ _, trivial⟩) hlo3) ?_
  intro i hi
  by_cases hil : i < L.length
  · refine Exists.elim (getE hil) fun x hx => ?_
    have ei := congrArg (AV.int .i64) (succ64 (k := i) (by have := h1.len; omega))
    refine (Bool.eq_false_or_eq_true (decide (x > G))).symm.elim (fun hx2 => ?_) (fun hx2 => ?_)
    · exact ACode.vcR (rid := some 4) 4 (.br 22 true <| .cells (encI x) <| .draw 11 <| .cells (cSt s) <| .call (.int .i64 G) <| .br 36 false .nil) hn3 hlo3 ⟨l3, rfl, hid3⟩ (.roundW .cl) ⟨ltLen hil, idx hx, by kernel_rfl, mixed, by kernel_rfl, idx hs, sG, by kernel_rfl, hx2, i + 1, okI hi hx hx2, mu1 hil, Wk.le (St.le.of ⟨by kernel_rfl, rfl, by kernel_rfl, rfl, by kernel_rfl, rfl, by kernel_rfl, rfl, by kernel_rfl, rfl, by kernel_rfl, rfl, Eq.trans (by kernel_rfl) ei, rfl, trivial⟩ ⟨by kernel_rfl, (by decide : (0 : Nat) < 17), rfl, by kernel_rfl, (by decide : (1 : Nat) < 17), rfl, by kernel_rfl, (by decide : (2 : Nat) < 17), rfl, by kernel_rfl, (by decide : (4 : Nat) < 17), rfl, by kernel_rfl, (by decide : (7 : Nat) < 17), okp, by kernel_rfl, (by decide : (8 : Nat) < 17), iL_ok _ _, by kernel_rfl, (by decide : (9 : Nat) < 17), iL_ok _ _, by kernel_rfl, (by decide : (10 : Nat) < 17), iL_ok _ _, by kernel_rfl, (by decide : (11 : Nat) < 17), iL_ok _ _, by kernel_rfl, (by decide : (12 : Nat) < 17), iL_ok _ _, by kernel_rfl, (by decide : (13 : Nat) < 17), iL_ok _ _, by kernel_rfl, (by decide : (14 : Nat) < 17), iL_ok _ _, by kernel_rfl, (by decide : (15 : Nat) < 17), iL_ok _ _, trivial⟩) hlo3⟩
    · exact ACode.vcR (rid := some 4) 4 (.br 22 true <| .cells (encI x) <| .draw 11 <| .cells (cSt s) <| .call (.int .i64 G) <| .br 36 true .nil) hn3 hlo3 ⟨l3, rfl, hid3⟩ (.roundW .cl) ⟨ltLen hil, idx hx, by kernel_rfl, mixed, by kernel_rfl, idx hs, sG, by kernel_rfl, hx2, _, .refl _, .nil, hend _ f (ks.erase (n + 1)) k2 _⟩
  · exact absurd hbad (noneL hi hil)
theorem stopSf2 {g : G} {Q : AX → St → Prop} (hQ : EClosed Q) (hn : g.n = 48) (hlo : g.low 5) (b : Bdg) (ws : List Wal) (vd : Vld b ws) (n : Nat) (f : Nat → List Int) (ks : List Nat) (hI : IS false b ws (n, f, ks)) (hlt : n < b.ss.length) (s : Sta) (hs : b.ss[n]? = some s) (G : Int) (hG : G = gv false s.sLo s.sHi) (hbad : ∃ x ∈ leavesV false b ws n, decide (x > G) = true) (hm1 : (n + 1) ∉ ks) (I : Nat × (Nat → List Int) × List Nat → Prop) (hend : ∀ env f ks k2 nx, Q .ret ⟨env, pulH 8 7 [(0, .cells (xC b ws)), (1, .cells (endC false)), (2, .cells [.int .i64 n]), (4, .loop (LS .done (some (.exit 0))))] f ks k2, nx⟩) :
    ACode Tryd.prog none g (lpB Tryd.f118) (AX.then (RoundW g (sSS false b ws) I (fun q => b.ss.length - q.1) (n, f, ks)) Q) (sSS false b ws (n, f, ks)) := by
  have hnl := hlt
  refine Exists.elim (oneS (e := false) (ws := ws) vd hs) fun k2 h => Exists.elim h fun come h => Exists.elim h fun L h1 => ?_
  have i2 : f = stF false b ws n := hI.2.1
  have i3 : KsOk f ks := hI.2.2
  rw [← i2] at h1
  have eLv : leavesV false b ws n = L := by rw [leavesV_eq hs, ← i2, h1.eL, h1.eC]
  rw [eLv] at hbad
  have sG := giv_spec false s.sLo s.sHi
  rw [← hG] at sG
  have hbas : ∀ st, basOk 8 7 (bS1 false b ws st) = true := fun st => rfl
  have hsl := vd.sl
  have hL1 := look1 (f := f) (ks := ks) (k2 := k2) (hbas .ready) h1.key1 h1.ne (by omega)
  have hdel := delV (h := hget (pulH 8 7 (bS1 false b ws .ready) f ks k2)) (i := 7) (v := updF (vC 8 f) k2 (.rsl 8 0 (f k2).length 1)) (ks := ks) (k := n + 1) (by kernel_rfl) i3.nd
  rw [h1.key1] at hdel
  have hdk := i3.del (n + 1)
  have okp : okE 17 (entV (updF (vC 8 f) k2 (.rsl 8 0 (f k2).length 1)) (ks.erase (n + 1))) = true := okE_entV (vC_ok hdk.lt (by decide) rfl)
  have sN : f (n + 1) = [] → APure Tryd.prog 120 [.nil] (encR come) := fun h => APure.nilArg (e := 1) (by have := h1.sI; rw [h] at this; exact this)
  replace sN := sN (i3.em (n + 1) (by omega) hm1)
  refine ACode.wk (Wk.pull (c := 8) (M := 7) (B := bS1 false b ws .ready) (f := f) (ks := ks) (k := k2) (by kernel_rfl) (hbas _) (by decide) h1.k27 i3.lt (hlo.mono (by decide))) ?_
  refine ACode.vcM (.br 16 true <| .val 20 .nil [] <| .call (encR come) <| .val 0 .undef [(7, some (.map (entV (updF (vC 8 f) k2 (.rsl 8 0 (f k2).length 1)) (ks.erase (n + 1)))))] <| .call (encR L) .loop) hn hlo (.roundW hQ) ⟨ltLen hnl, Eq.trans (by kernel_rfl) (hL1.2.1 hm1), sN, Eq.trans (by kernel_rfl) hdel, h1.sL, ?_⟩
  intro g3 l3 hn3 hlo3 hid3
  replace hn3 : g3.n = 40 := hn3
  replace hlo3 : g3.low 17 := hlo3
  refine acode_whileW (iSS false b ws n f (ks.erase (n + 1)) k2 L) (fun i => ∀ j, j < i → ∀ x, L[j]? = some x → decide (x > G) = false) (fun i => L.length - i) 0 (fun j hj => absurd hj (Nat.not_lt_zero j)) (Wk.le (St.le.of ⟨by kernel_rfl, rfl, by kernel_rfl, rfl, by kernel_rfl, rfl, by kernel_rfl, rfl, by kernel_rfl, rfl, by kernel_rfl, rfl, by kernel_rfl, rfl, trivial⟩ ⟨by kernel_rfl, (by decide : (0 : Nat) < 17), rfl, by kernel_rfl, (by decide : (1 : Nat) < 17), rfl, by kernel_rfl, (by decide : (2 : Nat) < 17), rfl, by kernel_rfl, (by decide : (4 : Nat) < 17), rfl, by kernel_rfl, (by decide : (7 : Nat) < 17), okp, by kernel_rfl, (by decide : (8 : Nat) < 17), iL_ok _ _, by kernel_rfl, (by decide : (9 : Nat) < 17), iL_ok _ _, by kernel_rfl, (by decide : (10 : Nat) < 17), iL_ok _ _, by kernel_rfl, (by decide : (11 : Nat) < 17), iL_ok _ _, by kernel_rfl, (by decide : (12 : Nat) < 17), iL_ok _ _, by kernel_rfl, (by decide : (13 : Nat) < 17), iL_ok _ _, by kernel_rfl, (by decide : (14 : Nat) < 17), iL_ok _ _, by kernel_rfl, (by decide : (15 : Nat) < 17), iL_ok _ _, trivial⟩) hlo3) ?_
  intro i hi
  by_cases hil : i < L.length
  · refine Exists.elim (getE hil) fun x hx => ?_
    have ei := congrArg (AV.int .i64) (succ64 (k := i) (by have := h1.len; omega))
    refine (Bool.eq_false_or_eq_true (decide (x > G))).symm.elim (fun hx2 => ?_) (fun hx2 => ?_)
    · exact ACode.vcR (rid := some 4) 4 (.br 22 true <| .cells (encI x) <| .draw 11 <| .cells (cSt s) <| .call (.int .i64 G) <| .br 36 false .nil) hn3 hlo3 ⟨l3, rfl, hid3⟩ (.roundW .cl) ⟨ltLen hil, idx hx, by kernel_rfl, mixed, by kernel_rfl, idx hs, sG, by kernel_rfl, hx2, i + 1, okI hi hx hx2, mu1 hil, Wk.le (St.le.of ⟨by kernel_rfl, rfl, by kernel_rfl, rfl, by kernel_rfl, rfl, by kernel_rfl, rfl, by kernel_rfl, rfl, by kernel_rfl, rfl, Eq.trans (by kernel_rfl) ei, rfl, trivial⟩ ⟨by kernel_rfl, (by decide : (0 : Nat) < 17), rfl, by kernel_rfl, (by decide : (1 : Nat) < 17), rfl, by kernel_rfl, (by decide : (2 : Nat) < 17), rfl, by kernel_rfl, (by decide : (4 : Nat) < 17), rfl, by kernel_rfl, (by decide : (7 : Nat) < 17), okp, by kernel_rfl, (by decide : (8 : Nat) < 17), iL_ok _ _, by kernel_rfl, (by decide : (9 : Nat) < 17), iL_ok _ _, by kernel_rfl, (by decide : (10 : Nat) < 17), iL_ok _ _, by kernel_rfl, (by decide : (11 : Nat) < 17), iL_ok _ _, by kernel_rfl, (by decide : (12 : Nat) < 17), iL_ok _ _, by kernel_rfl, (by decide : (13 : Nat) < 17), iL_ok _ _, by kernel_rfl, (by decide : (14 : Nat) < 17), iL_ok _ _, by kernel_rfl, (by decide : (15 : Nat) < 17), iL_ok _ _, trivial⟩) hlo3⟩
    · exact ACode.vcR (rid := some 4) 4 (.br 22 true <| .cells (encI x) <| .draw 11 <| .cells (cSt s) <| .call (.int .i64 G) <| .br 36 true .nil) hn3 hlo3 ⟨l3, rfl, hid3⟩ (.roundW .cl) ⟨ltLen hil, idx hx, by kernel_rfl, mixed, by kernel_rfl, idx hs, sG, by kernel_rfl, hx2, _, .refl _, .nil, hend _ f (ks.erase (n + 1)) k2 _⟩
  · exact absurd hbad (noneL hi hil)
end Go.Proofs.YtiggnliiigcjaaaDoor
/-
  THE FIRST STAIR ON WHICH PEOPLE ARE LATE: one round.
-/
namespace Go.Proofs.YtiggnliiigcjaaaDoor
open Go Go.Am
set_option maxRecDepth 100000
set_option maxHeartbeats 8000000
theorem stopSt1 {g : G} {Q : AX → St → Prop} (hQ : EClosed Q) (hn : g.n = 48) (hlo : g.low 5) (b : Bdg) (ws : List Wal) (vd : Vld b ws) (n : Nat) (f : Nat → List Int) (ks : List Nat) (hI : IS true b ws (n, f, ks)) (hlt : n < b.ss.length) (s : Sta) (hs : b.ss[n]? = some s) (G : Int) (hG : G = gv true s.sLo s.sHi) (hbad : ∃ x ∈ leavesV true b ws n, decide (x > G) = true) (hm1 : (n + 1) ∈ ks) (I : Nat × (Nat → List Int) × List Nat → Prop) (hend : ∀ env f ks k2 nx, Q .ret ⟨env, pulH 8 7 [(0, .cells (xC b ws)), (1, .cells (endC true)), (2, .cells [.int .i64 n]), (4, .loop (LS .done (some (.exit 0))))] f ks k2, nx⟩) :
    ACode Tryd.prog none g (lpB Tryd.f118) (AX.then (RoundW g (sSS true b ws) I (fun q => b.ss.length - q.1) (n, f, ks)) Q) (sSS true b ws (n, f, ks)) := by
  have hnl := hlt
  refine Exists.elim (oneS (e := true) (ws := ws) vd hs) fun k2 h => Exists.elim h fun come h => Exists.elim h fun L h1 => ?_
  have i2 : f = stF true b ws n := hI.2.1
  have i3 : KsOk f ks := hI.2.2
  rw [← i2] at h1
  have eLv : leavesV true b ws n = L := by rw [leavesV_eq hs, ← i2, h1.eL, h1.eC]
  rw [eLv] at hbad
  have sG := giv_spec true s.sLo s.sHi
  rw [← hG] at sG
  have hbas : ∀ st, basOk 8 7 (bS1 true b ws st) = true := fun st => rfl
  have hsl := vd.sl
  have hL1 := look1 (f := f) (ks := ks) (k2 := k2) (hbas .ready) h1.key1 h1.ne (by omega)
  have hdel := delV (h := hget (pulH 8 7 (bS1 true b ws .ready) f ks k2)) (i := 7) (v := updF (vC 8 f) k2 (.rsl 8 0 (f k2).length 1)) (ks := ks) (k := n + 1) (by kernel_rfl) i3.nd
  rw [h1.key1] at hdel
  have hdk := i3.del (n + 1)
  have okp : okE 17 (entV (updF (vC 8 f) k2 (.rsl 8 0 (f k2).length 1)) (ks.erase (n + 1))) = true := okE_entV (vC_ok hdk.lt (by decide) rfl)
  have sN : f (n + 1) = [] → APure Tryd.prog 120 [.nil] (encR come) := fun h => APure.nilArg (e := 1) (by have := h1.sI; rw [h] at this; exact this)
  refine ACode.wk (Wk.pull (c := 8) (M := 7) (B := bS1 true b ws .ready) (f := f) (ks := ks) (k := k2) (by kernel_rfl) (hbas _) (by decide) h1.k27 i3.lt (hlo.mono (by decide))) ?_
  refine ACode.vcM (.br 16 true <| .val 20 (.rsl (8 + 1 + (n + 1)) 0 (f (n + 1)).length 1) [] <| .lent (encR come) [8 + 1 + (n + 1)] <| .val 0 .undef [(7, some (.map (entV (updF (vC 8 f) k2 (.rsl 8 0 (f k2).length 1)) (ks.erase (n + 1)))))] <| .call (encR L) .loop) hn hlo (.roundW hQ) ⟨ltLen hnl, Eq.trans (by kernel_rfl) (hL1.1 hm1), ⟨_, Eq.trans (by kernel_rfl) hL1.2.2, .inr h1.sF⟩, Eq.trans (by kernel_rfl) hdel, h1.sL, ?_⟩
  intro g3 l3 hn3 hlo3 hid3
  replace hn3 : g3.n = 40 := hn3
  replace hlo3 : g3.low 17 := hlo3
  refine acode_whileW (iSS true b ws n f (ks.erase (n + 1)) k2 L) (fun i => ∀ j, j < i → ∀ x, L[j]? = some x → decide (x > G) = false) (fun i => L.length - i) 0 (fun j hj => absurd hj (Nat.not_lt_zero j)) (Wk.le (St.le.of ⟨by kernel_rfl, rfl, by kernel_rfl, rfl, by kernel_rfl, rfl, by kernel_rfl, rfl, by kernel_rfl, rfl, by kernel_rfl, rfl, by kernel_rfl, rfl, trivial⟩ ⟨by kernel_rfl, (by decide : (0 : Nat) < 17), rfl, by kernel_rfl, (by decide : (1 : Nat) < 17), rfl, by kernel_rfl, (by decide : (2 : Nat) < 17), rfl, by kernel_rfl, (by decide : (4 : Nat) < 17), rfl, by kernel_rfl, (by decide : (7 : Nat) < 17), okp, by kernel_rfl, (by decide : (8 : Nat) < 17), iL_ok _ _, by kernel_rfl, (by decide : (9 : Nat) < 17), iL_ok _ _, by kernel_rfl, (by decide : (10 : Nat) < 17), iL_ok _ _, by kernel_rfl, (by decide : (11 : Nat) < 17), iL_ok _ _, by kernel_rfl, (by decide : (12 : Nat) < 17), iL_ok _ _, by kernel_rfl, (by decide : (13 : Nat) < 17), iL_ok _ _, by kernel_rfl, (by decide : (14 : Nat) < 17), iL_ok _ _, by kernel_rfl, (by decide : (15 : Nat) < 17), iL_ok _ _, trivial⟩) hlo3) ?_
  intro i hi
  by_cases hil : i < L.length
  · refine Exists.elim (getE hil) fun x hx => ?_
    have ei := congrArg (AV.int .i64) (succ64 (k := i) (by have := h1.len; omega))
    refine (Bool.eq_false_or_eq_true (decide (x > G))).symm.elim (fun hx2 => ?_) (fun hx2 => ?_)
    · exact ACode.vcR (rid := some 4) 4 (.br 22 true <| .cells (encI x) <| .draw 11 <| .cells (cSt s) <| .call (.int .i64 G) <| .br 36 false .nil) hn3 hlo3 ⟨l3, rfl, hid3⟩ (.roundW .cl) ⟨ltLen hil, idx hx, by kernel_rfl, mixed, by kernel_rfl, idx hs, sG, by kernel_rfl, hx2, i + 1, okI hi hx hx2, mu1 hil, Wk.le (St.le.of ⟨by kernel_rfl, rfl, by kernel_rfl, rfl, by kernel_rfl, rfl, by kernel_rfl, rfl, by kernel_rfl, rfl, by kernel_rfl, rfl, Eq.trans (by kernel_rfl) ei, rfl, trivial⟩ ⟨by kernel_rfl, (by decide : (0 : Nat) < 17), rfl, by kernel_rfl, (by decide : (1 : Nat) < 17), rfl, by kernel_rfl, (by decide : (2 : Nat) < 17), rfl, by kernel_rfl, (by decide : (4 : Nat) < 17), rfl, by kernel_rfl, (by decide : (7 : Nat) < 17), okp, by kernel_rfl, (by decide : (8 : Nat) < 17), iL_ok _ _, by kernel_rfl, (by decide : (9 : Nat) < 17), iL_ok _ _, by kernel_rfl, (by decide : (10 : Nat) < 17), iL_ok _ _, by kernel_rfl, (by decide : (11 : Nat) < 17), iL_ok _ _, by kernel_rfl, (by decide : (12 : Nat) < 17), iL_ok _ _, by kernel_rfl, (by decide : (13 : Nat) < 17), iL_ok _ _, by kernel_rfl, (by decide : (14 : Nat) < 17), iL_ok _ _, by kernel_rfl, (by decide : (15 : Nat) < 17), iL_ok _ _, trivial⟩) hlo3⟩
    · exact ACode.vcR (rid := some 4) 4 (.br 22 true <| .cells (encI x) <| .draw 11 <| .cells (cSt s) <| .call (.int .i64 G) <| .br 36 true .nil) hn3 hlo3 ⟨l3, rfl, hid3⟩ (.roundW .cl) ⟨ltLen hil, idx hx, by kernel_rfl, mixed, by kernel_rfl, idx hs, sG, by kernel_rfl, hx2, _, .refl _, .nil, hend _ f (ks.erase (n + 1)) k2 _⟩
  · exact absurd hbad (noneL hi hil)
theorem stopSt2 {g : G} {Q : AX → St → Prop} (hQ : EClosed Q) (hn : g.n = 48) (hlo : g.low 5) (b : Bdg) (ws : List Wal) (vd : Vld b ws) (n : Nat) (f : Nat → List Int) (ks : List Nat) (hI : IS true b ws (n, f, ks)) (hlt : n < b.ss.length) (s : Sta) (hs : b.ss[n]? = some s) (G : Int) (hG : G = gv true s.sLo s.sHi) (hbad : ∃ x ∈ leavesV true b ws n, decide (x > G) = true) (hm1 : (n + 1) ∉ ks) (I : Nat × (Nat → List Int) × List Nat → Prop) (hend : ∀ env f ks k2 nx, Q .ret ⟨env, pulH 8 7 [(0, .cells (xC b ws)), (1, .cells (endC true)), (2, .cells [.int .i64 n]), (4, .loop (LS .done (some (.exit 0))))] f ks k2, nx⟩) :
    ACode Tryd.prog none g (lpB Tryd.f118) (AX.then (RoundW g (sSS true b ws) I (fun q => b.ss.length - q.1) (n, f, ks)) Q) (sSS true b ws (n, f, ks)) := by
  have hnl := hlt
  refine Exists.elim (oneS (e := true) (ws := ws) vd hs) fun k2 h => Exists.elim h fun come h => Exists.elim h fun L h1 => ?_
  have i2 : f = stF true b ws n := hI.2.1
  have i3 : KsOk f ks := hI.2.2
  rw [← i2] at h1
  have eLv : leavesV true b ws n = L := by rw [leavesV_eq hs, ← i2, h1.eL, h1.eC]
  rw [eLv] at hbad
  have sG := giv_spec true s.sLo s.sHi
  rw [← hG] at sG
  have hbas : ∀ st, basOk 8 7 (bS1 true b ws st) = true := fun st => rfl
  have hsl := vd.sl
  have hL1 := look1 (f := f) (ks := ks) (k2 := k2) (hbas .ready) h1.key1 h1.ne (by omega)
  have hdel := delV (h := hget (pulH 8 7 (bS1 true b ws .ready) f ks k2)) (i := 7) (v := updF (vC 8 f) k2 (.rsl 8 0 (f k2).length 1)) (ks := ks) (k := n + 1) (by kernel_rfl) i3.nd
  rw [h1.key1] at hdel
  have hdk := i3.del (n + 1)
  have okp : okE 17 (entV (updF (vC 8 f) k2 (.rsl 8 0 (f k2).length 1)) (ks.erase (n + 1))) = true := okE_entV (vC_ok hdk.lt (by decide) rfl)
  have sN : f (n + 1) = [] → APure Tryd.prog 120 [.nil] (encR come) := fun h => APure.nilArg (e := 1) (by have := h1.sI; rw [h] at this; exact this)
  replace sN := sN (i3.em (n + 1) (by omega) hm1)
  refine ACode.wk (Wk.pull (c := 8) (M := 7) (B := bS1 true b ws .ready) (f := f) (ks := ks) (k := k2) (by kernel_rfl) (hbas _) (by decide) h1.k27 i3.lt (hlo.mono (by decide))) ?_
  refine ACode.vcM (.br 16 true <| .val 20 .nil [] <| .call (encR come) <| .val 0 .undef [(7, some (.map (entV (updF (vC 8 f) k2 (.rsl 8 0 (f k2).length 1)) (ks.erase (n + 1)))))] <| .call (encR L) .loop) hn hlo (.roundW hQ) ⟨ltLen hnl, Eq.trans (by kernel_rfl) (hL1.2.1 hm1), sN, Eq.trans (by kernel_rfl) hdel, h1.sL, ?_⟩
  intro g3 l3 hn3 hlo3 hid3
  replace hn3 : g3.n = 40 := hn3
  replace hlo3 : g3.low 17 := hlo3
  refine acode_whileW (iSS true b ws n f (ks.erase (n + 1)) k2 L) (fun i => ∀ j, j < i → ∀ x, L[j]? = some x → decide (x > G) = false) (fun i => L.length - i) 0 (fun j hj => absurd hj (Nat.not_lt_zero j)) (Wk.le (St.le.of ⟨by kernel_rfl, rfl, by kernel_rfl, rfl, by kernel_rfl, rfl, by kernel_rfl, rfl, by kernel_rfl, rfl, by kernel_rfl, rfl, by kernel_rfl, rfl, trivial⟩ ⟨by kernel_rfl, (by decide : (0 : Nat) < 17), rfl, by kernel_rfl, (by decide : (1 : Nat) < 17), rfl, by kernel_rfl, (by decide : (2 : Nat) < 17), rfl, by kernel_rfl, (by decide : (4 : Nat) < 17), rfl, by kernel_rfl, (by decide : (7 : Nat) < 17), okp, by kernel_rfl, (by decide : (8 : Nat) < 17), iL_ok _ _, by kernel_rfl, (by decide : (9 : Nat) < 17), iL_ok _ _, by kernel_rfl, (by decide : (10 : Nat) < 17), iL_ok _ _, by kernel_rfl, (by decide : (11 : Nat) < 17), iL_ok _ _, by kernel_rfl, (by decide : (12 : Nat) < 17), iL_ok _ _, by kernel_rfl, (by decide : (13 : Nat) < 17), iL_ok _ _, by kernel_rfl, (by decide : (14 : Nat) < 17), iL_ok _ _, by kernel_rfl, (by decide : (15 : Nat) < 17), iL_ok _ _, trivial⟩) hlo3) ?_
  intro i hi
  by_cases hil : i < L.length
  · refine Exists.elim (getE hil) fun x hx => ?_
    have ei := congrArg (AV.int .i64) (succ64 (k := i) (by have := h1.len; omega))
    refine (Bool.eq_false_or_eq_true (decide (x > G))).symm.elim (fun hx2 => ?_) (fun hx2 => ?_)
    · exact ACode.vcR (rid := some 4) 4 (.br 22 true <| .cells (encI x) <| .draw 11 <| .cells (cSt s) <| .call (.int .i64 G) <| .br 36 false .nil) hn3 hlo3 ⟨l3, rfl, hid3⟩ (.roundW .cl) ⟨ltLen hil, idx hx, by kernel_rfl, mixed, by kernel_rfl, idx hs, sG, by kernel_rfl, hx2, i + 1, okI hi hx hx2, mu1 hil, Wk.le (St.le.of ⟨by kernel_rfl, rfl, by kernel_rfl, rfl, by kernel_rfl, rfl, by kernel_rfl, rfl, by kernel_rfl, rfl, by kernel_rfl, rfl, Eq.trans (by kernel_rfl) ei, rfl, trivial⟩ ⟨by kernel_rfl, (by decide : (0 : Nat) < 17), rfl, by kernel_rfl, (by decide : (1 : Nat) < 17), rfl, by kernel_rfl, (by decide : (2 : Nat) < 17), rfl, by kernel_rfl, (by decide : (4 : Nat) < 17), rfl, by kernel_rfl, (by decide : (7 : Nat) < 17), okp, by kernel_rfl, (by decide : (8 : Nat) < 17), iL_ok _ _, by kernel_rfl, (by decide : (9 : Nat) < 17), iL_ok _ _, by kernel_rfl, (by decide : (10 : Nat) < 17), iL_ok _ _, by kernel_rfl, (by decide : (11 : Nat) < 17), iL_ok _ _, by kernel_rfl, (by decide : (12 : Nat) < 17), iL_ok _ _, by kernel_rfl, (by decide : (13 : Nat) < 17), iL_ok _ _, by kernel_rfl, (by decide : (14 : Nat) < 17), iL_ok _ _, by kernel_rfl, (by decide : (15 : Nat) < 17), iL_ok _ _, trivial⟩) hlo3⟩
    · exact ACode.vcR (rid := some 4) 4 (.br 22 true <| .cells (encI x) <| .draw 11 <| .cells (cSt s) <| .call (.int .i64 G) <| .br 36 true .nil) hn3 hlo3 ⟨l3, rfl, hid3⟩ (.roundW .cl) ⟨ltLen hil, idx hx, by kernel_rfl, mixed, by kernel_rfl, idx hs, sG, by kernel_rfl, hx2, _, .refl _, .nil, hend _ f (ks.erase (n + 1)) k2 _⟩
  · exact absurd hbad (noneL hi hil)
end Go.Proofs.YtiggnliiigcjaaaDoor
/-
  THE FIRST STAIR ON WHICH PEOPLE ARE LATE.
-/
namespace Go.Proofs.YtiggnliiigcjaaaDoor
open Go Go.Am
set_option maxRecDepth 100000
set_option maxHeartbeats 8000000
theorem lateStair_false (b : Bdg) (ws : List Wal) (vd : Vld b ws) : APure Tryd.prog 102 [encX b ws, endV false] (.int .i64 (lateSV false b ws)) := by
  refine APure.vcM Tryd.func102 (.call (stairsCl false b ws) <| .inl Tryd.f118 <| .inl Tryd.f119 <| .call (takeCl false b ws) .loop) rfl rfl ⟨stairs_spec false b ws, Tryd.func118, Tryd.func119, taking_spec false b ws, ?_⟩
  intro g1 hn1 hlo1
  replace hn1 : g1.n = 41 := hn1
  replace hlo1 : g1.low 5 := hlo1
  refine acode_whileW (cL (.cells (endC false)) (.cells [.int .i64 (-1)]) (.loop (LS .ready none)) false b ws) (IC false b ws) (fun q => ws.length - q.1) (0, (fun _ => []), []) ⟨Nat.zero_le _, comeF_zero false b ws, ⟨List.nodup_nil, fun j hj => (by cases hj), fun j _ _ => rfl⟩⟩ ?_ ?_
  · refine Wk.trans (Wk.start (c := 8) (M := 7) (B := bL (.cells (endC false)) (.cells [.int .i64 (-1)]) (.loop (LS .ready none)) b ws) (n := 8) (by kernel_rfl) (by kernel_rfl) (by decide) (hlo1.mono (by decide))) (Wk.trans (Wk.le ?_ (hlo1.mono (show 5 ≤ 8 by decide))) (Wk.loopEnv (id := 4) (n := 4) [(2, .vptr 0 0), (3, .vptr 1 0), (5, .vptr 2 0)] rfl ⟨rfl, rfl, rfl, rfl, rfl, rfl, trivial⟩))
    exact St.le.of ⟨by kernel_rfl, rfl, by kernel_rfl, rfl, by kernel_rfl, rfl, by kernel_rfl, rfl, by kernel_rfl, rfl, by kernel_rfl, rfl, trivial⟩ ⟨by kernel_rfl, (by decide : (0 : Nat) < 8), rfl, by kernel_rfl, (by decide : (1 : Nat) < 8), rfl, by kernel_rfl, (by decide : (2 : Nat) < 8), rfl, by kernel_rfl, (by decide : (4 : Nat) < 8), rfl, by kernel_rfl, (by decide : (5 : Nat) < 8), rfl, by kernel_rfl, (by decide : (7 : Nat) < 8), rfl, trivial⟩
  · rintro ⟨n, f, ks⟩ hI
    by_cases hlt : n < ws.length
    · exact comeL _ _ _ rfl rfl rfl rfl rfl rfl .cl hn1 hlo1 false b ws vd n f ks hI hlt
    · have hnl : n = ws.length := Nat.le_antisymm hI.1 (Nat.not_lt.1 hlt)
      have hf : f = stF false b ws 0 := by
        have h9 : f = comeF false b (ws.take n) := hI.2.1
        rw [hnl, List.take_length] at h9
        exact h9
      have hks : KsOk f ks := hI.2.2
      have okm := okE_entV (n := 16) (v := vC 8 f) (ks := ks) fun j hj => (show decide (8 + 1 + j < 16) = true from decide_eq_true (by have := hks.lt j hj; omega))
      clear hI hnl
      refine ACode.vcM (.br 18 false .loop) hn1 hlo1 (.roundW .cl) ⟨geLen hlt, _, .refl _, .loop, ?_⟩
      intro g2 hn2 hlo2
      replace hn2 : g2.n = 48 := hn2
      replace hlo2 : g2.low 5 := hlo2
      refine acode_whileW (sSS false b ws) (IT false b ws) (fun q => b.ss.length - q.1) (0, f, ks) ⟨⟨Nat.zero_le _, hf, hks⟩, fun j hj => absurd hj (Nat.not_lt_zero j)⟩ ?_ ?_
      · exact Wk.le (St.le.of ⟨by kernel_rfl, rfl, by kernel_rfl, rfl, by kernel_rfl, rfl, by kernel_rfl, rfl, by kernel_rfl, rfl, by kernel_rfl, rfl, trivial⟩ ⟨by kernel_rfl, (by decide : (0 : Nat) < 16), rfl, by kernel_rfl, (by decide : (1 : Nat) < 16), rfl, by kernel_rfl, (by decide : (2 : Nat) < 16), rfl, by kernel_rfl, (by decide : (4 : Nat) < 16), rfl, by kernel_rfl, (by decide : (7 : Nat) < 16), okm, by kernel_rfl, (by decide : (9 : Nat) < 16), iL_ok _ _, by kernel_rfl, (by decide : (10 : Nat) < 16), iL_ok _ _, by kernel_rfl, (by decide : (11 : Nat) < 16), iL_ok _ _, by kernel_rfl, (by decide : (12 : Nat) < 16), iL_ok _ _, by kernel_rfl, (by decide : (13 : Nat) < 16), iL_ok _ _, by kernel_rfl, (by decide : (14 : Nat) < 16), iL_ok _ _, by kernel_rfl, (by decide : (15 : Nat) < 16), iL_ok _ _, trivial⟩) (hlo2.mono (show 5 ≤ 16 by decide))
      · rintro ⟨n, f, ks⟩ hI
        by_cases hlt : n < b.ss.length
        · refine Exists.elim (getE hlt) fun s hs => ?_
          refine (Bool.eq_false_or_eq_true (lateAt false b ws n)).symm.elim (fun hl => ?_) (fun hl => ?_)
          · have hok := lateAt_no hs hl
            by_cases hm : (n + 1) ∈ ks
            · exact roundSf1 .cl hn2 hlo2 b ws vd n f ks hI.1 hlt s hs _ rfl hok hm (IT false b ws) (it_step hI hl)
            · exact roundSf2 .cl hn2 hlo2 b ws vd n f ks hI.1 hlt s hs _ rfl hok hm (IT false b ws) (it_step hI hl)
          · have ev : lateSV false b ws = n := lateSV_some hlt hI.2 hl
            have hbad := lateAt_yes hs hl
            have et : thaw 8 (hget []) (.int .i64 (n : Int)) = some (.int .i64 (lateSV false b ws), []) := by rw [ev]; unfold thaw; exact if_pos rfl
            by_cases hm : (n + 1) ∈ ks
            · exact stopSf1 .cl hn2 hlo2 b ws vd n f ks hI.1 hlt s hs _ rfl hbad hm (IT false b ws) (fun env f ks k2 nx => ⟨_, .refl _, .nil, [], Eq.trans (by kernel_rfl) et⟩)
            · exact stopSf2 .cl hn2 hlo2 b ws vd n f ks hI.1 hlt s hs _ rfl hbad hm (IT false b ws) (fun env f ks k2 nx => ⟨_, .refl _, .nil, [], Eq.trans (by kernel_rfl) et⟩)
        · have hnk : n = b.ss.length := Nat.le_antisymm hI.1.1 (Nat.not_lt.1 hlt)
          have ev : lateSV false b ws = -1 := lateSV_none (by rw [← hnk]; exact hI.2)
          have et : thaw 8 (hget []) (.int .i64 (-1)) = some (.int .i64 (lateSV false b ws), []) := by rw [ev]; unfold thaw; exact if_pos rfl
          exact ACode.vcM (.br 16 false .nil) hn2 hlo2 (.roundW .cl) ⟨geLen hlt, _, .refl _, .nil, [], Eq.trans (by kernel_rfl) et⟩
theorem lateStair_true (b : Bdg) (ws : List Wal) (vd : Vld b ws) : APure Tryd.prog 102 [encX b ws, endV true] (.int .i64 (lateSV true b ws)) := by
  refine APure.vcM Tryd.func102 (.call (stairsCl true b ws) <| .inl Tryd.f118 <| .inl Tryd.f119 <| .call (takeCl true b ws) .loop) rfl rfl ⟨stairs_spec true b ws, Tryd.func118, Tryd.func119, taking_spec true b ws, ?_⟩
  intro g1 hn1 hlo1
  replace hn1 : g1.n = 41 := hn1
  replace hlo1 : g1.low 5 := hlo1
  refine acode_whileW (cL (.cells (endC true)) (.cells [.int .i64 (-1)]) (.loop (LS .ready none)) true b ws) (IC true b ws) (fun q => ws.length - q.1) (0, (fun _ => []), []) ⟨Nat.zero_le _, comeF_zero true b ws, ⟨List.nodup_nil, fun j hj => (by cases hj), fun j _ _ => rfl⟩⟩ ?_ ?_
  · refine Wk.trans (Wk.start (c := 8) (M := 7) (B := bL (.cells (endC true)) (.cells [.int .i64 (-1)]) (.loop (LS .ready none)) b ws) (n := 8) (by kernel_rfl) (by kernel_rfl) (by decide) (hlo1.mono (by decide))) (Wk.trans (Wk.le ?_ (hlo1.mono (show 5 ≤ 8 by decide))) (Wk.loopEnv (id := 4) (n := 4) [(2, .vptr 0 0), (3, .vptr 1 0), (5, .vptr 2 0)] rfl ⟨rfl, rfl, rfl, rfl, rfl, rfl, trivial⟩))
    exact St.le.of ⟨by kernel_rfl, rfl, by kernel_rfl, rfl, by kernel_rfl, rfl, by kernel_rfl, rfl, by kernel_rfl, rfl, by kernel_rfl, rfl, trivial⟩ ⟨by kernel_rfl, (by decide : (0 : Nat) < 8), rfl, by kernel_rfl, (by decide : (1 : Nat) < 8), rfl, by kernel_rfl, (by decide : (2 : Nat) < 8), rfl, by kernel_rfl, (by decide : (4 : Nat) < 8), rfl, by kernel_rfl, (by decide : (5 : Nat) < 8), rfl, by kernel_rfl, (by decide : (7 : Nat) < 8), rfl, trivial⟩
  · rintro ⟨n, f, ks⟩ hI
    by_cases hlt : n < ws.length
    · exact comeL _ _ _ rfl rfl rfl rfl rfl rfl .cl hn1 hlo1 true b ws vd n f ks hI hlt
    · have hnl : n = ws.length := Nat.le_antisymm hI.1 (Nat.not_lt.1 hlt)
      have hf : f = stF true b ws 0 := by
        have h9 : f = comeF true b (ws.take n) := hI.2.1
        rw [hnl, List.take_length] at h9
        exact h9
      have hks : KsOk f ks := hI.2.2
      have okm := okE_entV (n := 16) (v := vC 8 f) (ks := ks) fun j hj => (show decide (8 + 1 + j < 16) = true from decide_eq_true (by have := hks.lt j hj; omega))
      clear hI hnl
      refine ACode.vcM (.br 18 false .loop) hn1 hlo1 (.roundW .cl) ⟨geLen hlt, _, .refl _, .loop, ?_⟩
      intro g2 hn2 hlo2
      replace hn2 : g2.n = 48 := hn2
      replace hlo2 : g2.low 5 := hlo2
      refine acode_whileW (sSS true b ws) (IT true b ws) (fun q => b.ss.length - q.1) (0, f, ks) ⟨⟨Nat.zero_le _, hf, hks⟩, fun j hj => absurd hj (Nat.not_lt_zero j)⟩ ?_ ?_
      · exact Wk.le (St.le.of ⟨by kernel_rfl, rfl, by kernel_rfl, rfl, by kernel_rfl, rfl, by kernel_rfl, rfl, by kernel_rfl, rfl, by kernel_rfl, rfl, trivial⟩ ⟨by kernel_rfl, (by decide : (0 : Nat) < 16), rfl, by kernel_rfl, (by decide : (1 : Nat) < 16), rfl, by kernel_rfl, (by decide : (2 : Nat) < 16), rfl, by kernel_rfl, (by decide : (4 : Nat) < 16), rfl, by kernel_rfl, (by decide : (7 : Nat) < 16), okm, by kernel_rfl, (by decide : (9 : Nat) < 16), iL_ok _ _, by kernel_rfl, (by decide : (10 : Nat) < 16), iL_ok _ _, by kernel_rfl, (by decide : (11 : Nat) < 16), iL_ok _ _, by kernel_rfl, (by decide : (12 : Nat) < 16), iL_ok _ _, by kernel_rfl, (by decide : (13 : Nat) < 16), iL_ok _ _, by kernel_rfl, (by decide : (14 : Nat) < 16), iL_ok _ _, by kernel_rfl, (by decide : (15 : Nat) < 16), iL_ok _ _, trivial⟩) (hlo2.mono (show 5 ≤ 16 by decide))
      · rintro ⟨n, f, ks⟩ hI
        by_cases hlt : n < b.ss.length
        · refine Exists.elim (getE hlt) fun s hs => ?_
          refine (Bool.eq_false_or_eq_true (lateAt true b ws n)).symm.elim (fun hl => ?_) (fun hl => ?_)
          · have hok := lateAt_no hs hl
            by_cases hm : (n + 1) ∈ ks
            · exact roundSt1 .cl hn2 hlo2 b ws vd n f ks hI.1 hlt s hs _ rfl hok hm (IT true b ws) (it_step hI hl)
            · exact roundSt2 .cl hn2 hlo2 b ws vd n f ks hI.1 hlt s hs _ rfl hok hm (IT true b ws) (it_step hI hl)
          · have ev : lateSV true b ws = n := lateSV_some hlt hI.2 hl
            have hbad := lateAt_yes hs hl
            have et : thaw 8 (hget []) (.int .i64 (n : Int)) = some (.int .i64 (lateSV true b ws), []) := by rw [ev]; unfold thaw; exact if_pos rfl
            by_cases hm : (n + 1) ∈ ks
            · exact stopSt1 .cl hn2 hlo2 b ws vd n f ks hI.1 hlt s hs _ rfl hbad hm (IT true b ws) (fun env f ks k2 nx => ⟨_, .refl _, .nil, [], Eq.trans (by kernel_rfl) et⟩)
            · exact stopSt2 .cl hn2 hlo2 b ws vd n f ks hI.1 hlt s hs _ rfl hbad hm (IT true b ws) (fun env f ks k2 nx => ⟨_, .refl _, .nil, [], Eq.trans (by kernel_rfl) et⟩)
        · have hnk : n = b.ss.length := Nat.le_antisymm hI.1.1 (Nat.not_lt.1 hlt)
          have ev : lateSV true b ws = -1 := lateSV_none (by rw [← hnk]; exact hI.2)
          have et : thaw 8 (hget []) (.int .i64 (-1)) = some (.int .i64 (lateSV true b ws), []) := by rw [ev]; unfold thaw; exact if_pos rfl
          exact ACode.vcM (.br 16 false .nil) hn2 hlo2 (.roundW .cl) ⟨geLen hlt, _, .refl _, .nil, [], Eq.trans (by kernel_rfl) et⟩
end Go.Proofs.YtiggnliiigcjaaaDoor
