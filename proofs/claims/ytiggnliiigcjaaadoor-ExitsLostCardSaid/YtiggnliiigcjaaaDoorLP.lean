import Derived.Test.YtiggnliiigcjaaaDoorLF
import Derived.Test.YtiggnliiigcjaaaDoorLM
/-
  NOBODY IS LOST: lists of spans compared; a list of zeros; how many come to each stair.
-/
namespace Go.Proofs.YtiggnliiigcjaaaDoor
open Go Go.Am
set_option maxRecDepth 100000
set_option maxHeartbeats 4000000
def eqQ (a b : Int) : Bool := a == a && (b == b && true)
theorem eqQ_is (a b : Int) : (!(eqQ a b)) = false := by simp [eqQ]
theorem SameSpans_spec (l : List Sn) (hl : l.length ≤ 1000) : APure Tryd.prog 34 [encSn l, encSn l] (.bool true) := by
  have hne : (((l.map cS).length : Int) != ((l.map cS).length : Int)) = false := bne_self_eq_false _
  refine APure.vc Tryd.func34 rfl (.br 10 false .loop) rfl rfl ⟨hne, ?_⟩
  intro g hn hlo
  replace hn : g.n = 26 := hn
  replace hlo : g.low 0 := hlo
  refine acode_while (fun k : Nat => ⟨[(0, encSn l), (1, encSn l), (5, .int .i64 k)], [], 0⟩) (fun k => k ≤ l.length) (fun k => l.length - k) 0 (Nat.zero_le _) ?_ (fun _ _ => hlo) ?_
  · exact St.le.of ⟨by kernel_rfl, rfl, by kernel_rfl, rfl, by kernel_rfl, rfl, trivial⟩ trivial
  · intro k hk
    by_cases hlt : k < l.length
    · refine Exists.elim (getE hlt) fun x hx => ?_
      have ek := congrArg (AV.int .i64) (succ64 (k := k) (by omega))
      exact ACode.vc (.br 14 true <| .draw 8 <| .cells (cS x) <| .cells (cS x) <| .val 25 (.bool (!(eqQ x.1 x.2))) [] <| .br 25 false .nil) hn hlo (.round .cl) ⟨ltLen hlt, by kernel_rfl, mixed, by kernel_rfl, idx hx, idx hx, by kernel_rfl, by kernel_rfl, eqQ_is _ _, k + 1, hlt, mu1 hlt, St.le.of ⟨by kernel_rfl, rfl, by kernel_rfl, rfl, Eq.trans (by kernel_rfl) ek, rfl, trivial⟩ trivial⟩
    · exact ACode.vc (.br 14 false .nil) hn hlo (.round .cl) ⟨geLen hlt, _, .refl _, .nil, trivial, rfl⟩
/-- A list of zeros of one's own. -/
theorem mkI {id n : Nat} (hn : n ≤ 1000) : aMakeSlice Tryd.prog id 60 (.int .i64 n) (.int .i64 n) = some ⟨.rsl id 0 n 1, [(id, some (.cells (iL (List.replicate n 0))))]⟩ := by
  have e : rep n [.int .i64 0] = iL (List.replicate n 0) := by
    induction n with
    | zero => rfl
    | succ n ih => rw [List.replicate_succ]; show [AV.int .i64 0] ++ rep n [.int .i64 0] = _; rw [ih (by omega)]; rfl
  rw [← e]
  simp only [aMakeSlice, ty60, ty3]
  rw [if_pos ⟨trivial, by omega, by omega, by simp; omega, by omega, rfl⟩]
  simp
/-! ### how many come to each stair -/
/-- Those who come out of chambers. -/
def cnV (b : Bdg) (ws : List Wal) : List Int := (List.range b.ss.length).map fun j => ((comeF true b ws (j + 1)).length : Int)
/-- Before a stair's turn. -/
def cmV (b : Bdg) (ws : List Wal) : Nat → List Int
  | 0 => cnV b ws
  | i + 1 =>
    let s := b.ss.getD i default
    if s.nx = -1 then cmV b ws i else (cmV b ws i).set s.nx.toNat ((cmV b ws i).getD s.nx.toNat 0 + (leavesV true b ws i).length)
theorem cnV_len (b : Bdg) (ws : List Wal) : (cnV b ws).length = b.ss.length := by simp [cnV]
theorem cmV_len (b : Bdg) (ws : List Wal) : ∀ i, (cmV b ws i).length = b.ss.length
  | 0 => cnV_len b ws
  | i + 1 => by
    simp only [cmV]
    split
    · exact cmV_len b ws i
    · rw [List.length_set]; exact cmV_len b ws i
theorem cmV_is {b : Bdg} {ws : List Wal} (vd : Vld b ws) : ∀ i, i ≤ b.ss.length → ∀ j, i ≤ j → j < b.ss.length → (cmV b ws i)[j]? = some ((stF true b ws i (j + 1)).length : Int) := by
  intro i
  induction i with
  | zero =>
    intro _ j _ hj
    show (cnV b ws)[j]? = _
    unfold cnV
    rw [List.getElem?_map, List.getElem?_range hj]; rfl
  | succ i ih =>
    intro hi j h1 h2
    have ih := ih (by omega)
    obtain ⟨s, hs⟩ : ∃ s, b.ss[i]? = some s := ⟨_, List.getElem?_eq_getElem (by omega)⟩
    have hd : b.ss.getD i default = s := by rw [List.getD_eq_getElem?_getD, hs]; rfl
    have hv := (vd.s i s hs).1
    have hk : s.nx = (((s.nx + 1).toNat : Nat) : Int) - 1 := by omega
    simp only [cmV, hd]
    rw [stF_succ hs hk]
    by_cases hx : s.nx = -1
    · rw [if_pos hx, updF_ne _ _ (by omega : j + 1 ≠ (s.nx + 1).toNat), updF_ne _ _ (by omega : j + 1 ≠ i + 1)]
      exact ih j (by omega) h2
    · rw [if_neg hx]
      by_cases hj : j = s.nx.toNat
      · subst hj
        rw [List.getElem?_set_self (by rw [cmV_len]; exact h2), List.getD_eq_getElem?_getD, ih s.nx.toNat (by omega) h2]
        rw [show s.nx.toNat + 1 = (s.nx + 1).toNat by omega, updF_same, updF_ne _ _ (by omega : (s.nx + 1).toNat ≠ i + 1), List.length_append, leaveV_len, leavesV_lenF (by omega)]
        simp
      · rw [List.getElem?_set_ne (by omega), updF_ne _ _ (by omega : j + 1 ≠ (s.nx + 1).toNat), updF_ne _ _ (by omega : j + 1 ≠ i + 1)]
        exact ih j (by omega) h2
/-- How many are out. -/
theorem out_is {b : Bdg} {ws : List Wal} (vd : Vld b ws) {i : Nat} (hi : i < b.ss.length) : ((stF true b ws (i + 1) 0).length : Int) = (stF true b ws i 0).length + if (b.ss.getD i default).nx = -1 then ((leavesV true b ws i).length : Int) else 0 := by
  obtain ⟨s, hs⟩ : ∃ s, b.ss[i]? = some s := ⟨_, List.getElem?_eq_getElem hi⟩
  have hd : b.ss.getD i default = s := by rw [List.getD_eq_getElem?_getD, hs]; rfl
  have hv := (vd.s i s hs).1
  have hk : s.nx = (((s.nx + 1).toNat : Nat) : Int) - 1 := by omega
  rw [stF_succ hs hk, hd]
  by_cases hx : s.nx = -1
  · have e0 : (s.nx + 1).toNat = 0 := by omega
    rw [if_pos hx, e0, updF_same, updF_ne _ _ (by omega : (0 : Nat) ≠ i + 1), List.length_append, leaveV_len, leavesV_lenF hi]
    simp
  · rw [if_neg hx, updF_ne _ _ (by omega : (0 : Nat) ≠ (s.nx + 1).toNat), updF_ne _ _ (by omega : (0 : Nat) ≠ i + 1)]
    simp
theorem stF_00 {b : Bdg} {ws : List Wal} (vd : Vld b ws) : stF true b ws 0 0 = [] := by
  rw [stF_zero]
  unfold comeF comeV
  have : (ws.filter fun w => (chOf b w).st == ((0 : Nat) : Int) - 1) = [] := by
    rw [List.filter_eq_nil_iff]
    intro w hw
    have := (vd.c _ _ (vd.chm hw)).1
    simp; omega
  rw [this]; rfl
theorem cnV_step {b : Bdg} {ws : List Wal} (vd : Vld b ws) {k : Nat} {w : Wal} (hw : ws[k]? = some w) : ∃ j v, (chOf b w).st = ((j : Nat) : Int) ∧ j < b.ss.length ∧ (cnV b (ws.take k))[j]? = some v ∧ 0 ≤ v ∧ v ≤ 24 ∧ cnV b (ws.take (k + 1)) = (cnV b (ws.take k)).set j (v + 1) := by
  have hm := List.mem_of_getElem? hw
  have hc := (vd.c _ _ (vd.chm hm)).1
  refine ⟨(chOf b w).st.toNat, ((comeF true b (ws.take k) ((chOf b w).st.toNat + 1)).length : Int), by omega, by omega, ?_, by omega, ?_, ?_⟩
  · unfold cnV
    rw [List.getElem?_map, List.getElem?_range (by omega)]; rfl
  · have h1 := List.length_filter_le (fun w' => (chOf b w').st == (((chOf b w).st.toNat + 1 : Nat) : Int) - 1) (ws.take k)
    have h2 := vd.wl
    rw [List.length_take] at h1
    simp only [comeF, comeV, List.length_map]; omega
  · have e1 : ws.take (k + 1) = ws.take k ++ [w] := by rw [List.take_add_one, hw]; rfl
    have e2 := comeF_snoc (e := true) (b := b) (ws := ws.take k) (w := w) (k := (chOf b w).st.toNat + 1) (by omega)
    apply List.ext_getElem?
    intro i
    unfold cnV
    rw [e1, e2, List.getElem?_set, List.length_map, List.length_range]
    by_cases hi : i < b.ss.length
    · rw [List.getElem?_map, List.getElem?_range hi, List.getElem?_map, List.getElem?_range hi]
      by_cases h : (chOf b w).st.toNat = i
      · subst h
        rw [if_pos rfl, if_pos hi]
        simp [updF_same]
      · rw [if_neg h]
        simp [updF_ne _ _ (show i + 1 ≠ (chOf b w).st.toNat + 1 by omega)]
    · rw [List.getElem?_eq_none (by simp; omega), if_neg (by omega), List.getElem?_eq_none (by simp; omega)]
end Go.Proofs.YtiggnliiigcjaaaDoor
/-
  THE LAW OF WHO IS LOST: nobody.
-/
namespace Go.Proofs.YtiggnliiigcjaaaDoor
open Go Go.Am
set_option maxRecDepth 100000
set_option maxHeartbeats 4000000
theorem slcLo {h : Nat → Option AObj} {l : List Wal} {k : Nat} {i : Int} (hi : i = (k : Int)) (hk : k ≤ l.length) : aSlice Tryd.prog h 26 (encW l) (some (.int .i64 i)) none = some (encW (l.drop k)) := by
  subst hi
  simp only [encW, aSlice, ty26, ty30, abound]
  simp [hk, List.map_drop]
  rw [List.take_of_length_le (by rw [List.length_map]; exact Nat.le_refl _)]
theorem slcHi {h : Nat → Option AObj} {l : List Wal} {k : Nat} {i : Int} (hi : i = (k : Int)) (hk : k ≤ l.length) : aSlice Tryd.prog h 26 (encW l) none (some (.int .i64 i)) = some (encW (l.take k)) := by
  subst hi
  simp only [encW, aSlice, ty26, ty30, abound]
  simp [hk, List.map_take]
def oLt (b : Bdg) (ws tw : List Wal) (cm : List Int) (E : Env) (X : AHeap) (nx : Nat) : St :=
  ⟨[(1, encW ws), (3, .vptr 0 0), (7, .bool true), (8, .rsl 11 0 ws.length 5), (10, .rsl 12 0 b.ss.length 1)] ++ E, [(0, .cells (cB b)), (11, .cells (fl cWa tw)), (12, .cells (iL cm))] ++ X, nx⟩
theorem thawTw {h : Nat → Option AObj} (b : Bdg) {N : Nat} {tw : List Wal} (e : N = tw.length) (h0 : h 11 = some (.cells (fl cWa tw))) : thawL h [encB b, .rsl 11 0 N 5] = some ([encB b, encW tw], [11]) ∧ ∀ x : Int, thawL h [encB b, .rsl 11 0 N 5, .int .i64 x] = some ([encB b, encW tw, .int .i64 x], [11]) := by
  subst e
  refine ⟨thawBW b h0, fun x => ?_⟩
  have ht := thaw_fl (enc := cWa) (n := 5) 6 (id := 11) (l := tw) (fun _ => rfl) (fun _ => rfl) h0
  have u2 : thaw 8 h (.int .i64 x) = some (.int .i64 x, []) := by unfold thaw; exact if_pos rfl
  simp only [thawL, mapO]
  rw [thawB, ht, u2]
  rfl
theorem law_lost_pos (b : Bdg) (ws : List Wal) (z : Int) (hz0 : 0 ≤ z) (hz1 : z ≤ 255) (h1 : readyB b ws = true) (hwp : 0 < ws.length) : APure Tryd.prog 8 [encB b, encW ws, .int .u8 z] (.bool true) := by
  have sA := alive_spec
  have sR := ready_spec b ws
  rw [h1] at sR
  obtain ⟨b1, b2⟩ := ready_1 h1
  have vd := vld_of b1 b2
  have hsl := vd.sl
  have hcl := vd.cl
  have hwl := vd.wl
  have hk : z.toNat % ws.length < ws.length := Nat.mod_lt _ hwp
  have ek : (IntKind.i64.wrap z).tmod ((ws.map cWa).length : Int) = ((z.toNat % ws.length : Nat) : Int) := by
    rw [wrap64 (by omega) (by omega), List.length_map]
    have : z = (z.toNat : Int) := by omega
    rw [this]; rfl
  generalize z.toNat % ws.length = kk at *
  have hnz : ((ws.map cWa).length : Int) ≠ 0 := by rw [List.length_map]; omega
  have d46 : decide (((ws.map cWa).length : Int) > 0) = true := by rw [List.length_map]; exact decide_eq_true (by omega)
  have hperm : ws.Perm (ws.drop kk ++ ws.take kk) := by
    have := (List.perm_append_comm (l₁ := ws.drop kk) (l₂ := ws.take kk))
    rw [List.take_append_drop] at this
    exact this.symm
  have htl : (ws.drop kk).length + (ws.take kk).length = ws.length := by rw [List.length_drop, List.length_take, Nat.min_eq_left (Nat.le_of_lt hk)]; omega
  have s1 := slcLo (h := hget []) (l := ws) ek (Nat.le_of_lt hk)
  have s2 := slcHi (h := hget []) (l := ws) ek (Nat.le_of_lt hk)
  have a1 := appW0 (h := hget [(1, .cells [])]) (i := 1) (nid := 5) (l := ws.drop kk) rfl (by omega)
  have a2 := appW (h := hget [(5, .cells (fl cWa (ws.drop kk)))]) (i := 5) (nid := 11) (d := ws.drop kk) (r := []) (l := ws.take kk) (by rw [List.append_nil]; rfl) (by omega)
  have e8 : AV.rsl 11 0 ((ws.drop kk).length + (ws.take kk).length) 5 = .rsl 11 0 ws.length 5 := by rw [htl]
  have hvt : Vld b (ws.drop kk ++ ws.take kk) := ⟨vd.sl, vd.cl, by rw [List.length_append, htl]; exact hwl, vd.s, vd.c, fun w hw => vd.w w (hperm.mem_iff.2 hw)⟩
  have etl : ws.length = (ws.drop kk ++ ws.take kk).length := by rw [List.length_append, htl]
  generalize ws.drop kk ++ ws.take kk = tw at *
  have m1 := mkI (id := 12) (n := b.ss.length) (by omega)
  have m1' : aMakeSlice Tryd.prog 12 60 (.int .i64 ((b.ss.map cSt).length : Int)) (.int .i64 ((b.ss.map cSt).length : Int)) = some ⟨.rsl 12 0 b.ss.length 1, [(12, some (.cells (iL (List.replicate b.ss.length 0))))]⟩ := by rw [List.length_map]; exact m1
  have ez : List.replicate b.ss.length (0 : Int) = cnV b (ws.take 0) := by
    apply List.ext_getElem?
    intro i
    unfold cnV comeF comeV
    simp only [List.getElem?_replicate, List.getElem?_map]
    by_cases hi : i < b.ss.length
    · rw [if_pos hi, List.getElem?_range hi]; simp
    · rw [if_neg hi, List.getElem?_eq_none (by simp; omega)]; rfl
  have o12 := congrArg (fun l => some (AObj.cells (iL l))) ez
  refine APure.intro Tryd.func8 rfl rfl rfl fun g hn hlo => ?_
  replace hn : g.n = 257 := hn
  replace hlo : g.low 0 := hlo
  have hlo13 : g.low 13 := hlo.mono (Nat.zero_le _)
  refine ACode.cut 5 (fun _ : Unit => oLt b ws tw (List.replicate b.ss.length 0) [] [] 13) (fun _ => True)
    (.call (.bool true) <| .call (.bool true) <| .br 46 true <| .nz <| .draw 8 <| .val 55 (encW (ws.drop kk)) [] <| .val 56 (.rsl 5 0 (ws.drop kk).length 5) [(1, none), (5, some (.cells (fl cWa (ws.drop kk))))] <| .val 59 (encW (ws.take kk)) [] <| .val 60 (.rsl 11 0 ((ws.drop kk).length + (ws.take kk).length) 5) [(5, none), (11, some (.cells (fl cWa tw)))] <| .val 64 (.rsl 12 0 b.ss.length 1) [(12, some (.cells (iL (List.replicate b.ss.length 0))))] .nil) hn hlo .ret rfl
    ⟨sA, sR, d46, hnz, by kernel_rfl, mixed, by kernel_rfl, Eq.trans (by kernel_rfl) (congrArg (Option.map fun v => (⟨v, []⟩ : Out)) s1), Eq.trans (by kernel_rfl) a1, Eq.trans (by kernel_rfl) (congrArg (Option.map fun v => (⟨v, []⟩ : Out)) s2), by kernel_rfl, Eq.trans (by kernel_rfl) a2, Eq.trans (by kernel_rfl) m1', (), trivial,
      Wk.le (St.le.of ⟨by kernel_rfl, rfl, by kernel_rfl, rfl, by kernel_rfl, rfl, Eq.trans (by kernel_rfl) e8, rfl, by kernel_rfl, rfl, trivial⟩ ⟨by kernel_rfl, (by decide : (0 : Nat) < 13), rfl, by kernel_rfl, (by decide : (11 : Nat) < 13), okWa _ _, by kernel_rfl, (by decide : (12 : Nat) < 13), iL_ok _ _, trivial⟩) hlo13⟩ fun _ _ => ?_
  refine ACode.cut 0 (fun _ : Unit => oLt b ws tw (cmV b ws 0) [] [] 13) (fun _ => True) .loop hn hlo .ret rfl ?_ fun _ _ => ?_
  · intro g2 hn2 hlo2
    replace hn2 : g2.n = 257 := hn2
    replace hlo2 : g2.low 0 := hlo2
    have hlo213 : g2.low 13 := hlo2.mono (Nat.zero_le _)
    refine acode_whileW (fun k : Nat => oLt b ws tw (cnV b (ws.take k)) [(65, encW ws), (66, .int .i64 ((ws.map cWa).length : Int)), (67, .int .i64 k)] [] 13) (fun k => k ≤ ws.length) (fun k => ws.length - k) 0 (Nat.zero_le _) (Wk.le (St.le.of ⟨by kernel_rfl, rfl, by kernel_rfl, rfl, by kernel_rfl, rfl, by kernel_rfl, rfl, by kernel_rfl, rfl, by kernel_rfl, rfl, by kernel_rfl, rfl, by kernel_rfl, rfl, trivial⟩ ⟨by kernel_rfl, (by decide : (0 : Nat) < 13), rfl, by kernel_rfl, (by decide : (11 : Nat) < 13), okWa _ _, Eq.trans (by kernel_rfl) o12, (by decide : (12 : Nat) < 13), iL_ok _ _, trivial⟩) hlo213) ?_
    intro k hk
    by_cases hlt : k < ws.length
    · refine Exists.elim (getE hlt) fun p hp => Exists.elim (cnV_step vd hp) fun j h => Exists.elim h fun v h => ?_
      have ek := congrArg (AV.int .i64) (succ64 (k := k) (by omega))
      have hpm := List.mem_of_getElem? hp
      have vp := vd.w p hpm
      have hch : 0 ≤ p.ch ∧ (b.cs.map cCh)[p.ch.toNat]? = some (cCh (chOf b p)) := ⟨vp.1.1, by rw [List.getElem?_map, vd.chm hpm]; rfl⟩
      have ev : IntKind.i64.wrap (v + 1) = v + 1 := wrap64 (by omega) (by omega)
      have hjl : j < (cnV b (ws.take k)).length := by rw [cnV_len]; exact h.2.1
      have ix := ixI (h := hget []) (id := 12) (n := b.ss.length) (k := j) h.1 h.2.1
      have ld := ldI (h := hget [(12, .cells (iL (cnV b (ws.take k))))]) (id := 12) rfl h.2.2.1
      have st : aStore Tryd.prog (hget [(12, .cells (iL (cnV b (ws.take k))))]) 3 (.vptr 12 j) (.int .i64 (IntKind.i64.wrap (v + 1))) = some ⟨.undef, [(12, some (.cells (iL (cnV b (ws.take (k + 1))))))]⟩ := by
        rw [ev, h.2.2.2.2.2]; exact stI rfl hjl
      exact ACode.vcM (.br 68 true <| .cells (cWa p) <| .cells (cCh (chOf b p)) <| .val 79 (.vptr 12 j) [] <| .val 80 (.int .i64 v) [] <| .val 82 (.vptr 12 j) [] <| .val 1 .undef [(12, some (.cells (iL (cnV b (ws.take (k + 1))))))] .nil) hn2 hlo2 (.roundW .cl)
        ⟨ltLen hlt, idx hp, hch, Eq.trans (by kernel_rfl) ix, Eq.trans (by kernel_rfl) ld, Eq.trans (by kernel_rfl) ix, Eq.trans (by kernel_rfl) st, k + 1, hlt, mu1 hlt,
          Wk.le (St.le.of ⟨by kernel_rfl, rfl, by kernel_rfl, rfl, by kernel_rfl, rfl, by kernel_rfl, rfl, by kernel_rfl, rfl, by kernel_rfl, rfl, by kernel_rfl, rfl, Eq.trans (by kernel_rfl) ek, rfl, trivial⟩ ⟨by kernel_rfl, (by decide : (0 : Nat) < 13), rfl, by kernel_rfl, (by decide : (11 : Nat) < 13), okWa _ _, by kernel_rfl, (by decide : (12 : Nat) < 13), iL_ok _ _, trivial⟩) hlo213⟩
    · have hkn : k = ws.length := Nat.le_antisymm hk (Nat.not_lt.1 hlt)
      have o12' : some (AObj.cells (iL (cnV b (ws.take k)))) = some (.cells (iL (cmV b ws 0))) := by rw [hkn, List.take_length]; rfl
      exact ACode.vcM (.br 68 false .nil) hn2 hlo2 (.roundW .cl) ⟨geLen hlt, _, .refl _, .nil, (), trivial, Wk.le (St.le.of ⟨by kernel_rfl, rfl, by kernel_rfl, rfl, by kernel_rfl, rfl, by kernel_rfl, rfl, by kernel_rfl, rfl, trivial⟩ ⟨by kernel_rfl, (by decide : (0 : Nat) < 13), rfl, by kernel_rfl, (by decide : (11 : Nat) < 13), okWa _ _, Eq.trans (by kernel_rfl) o12', (by decide : (12 : Nat) < 13), iL_ok _ _, trivial⟩) hlo13⟩
  refine ACode.cut 1 (fun _ : Unit => oLt b ws tw (cmV b ws b.ss.length) [(13, .int .i64 (ws.length : Int))] [] 13) (fun _ => True) .loop hn hlo .ret rfl ?_ fun _ _ => ?_
  · have e0 : AV.int .i64 0 = .int .i64 ((stF true b ws 0 0).length : Int) := by rw [stF_00 vd]; rfl
    have en : AV.int .i64 ((stF true b ws b.ss.length 0).length : Int) = .int .i64 (ws.length : Int) := by rw [stF_out true vd]
    intro g2 hn2 hlo2
    replace hn2 : g2.n = 257 := hn2
    replace hlo2 : g2.low 0 := hlo2
    have hlo213 : g2.low 13 := hlo2.mono (Nat.zero_le _)
    refine acode_whileW (fun k : Nat => oLt b ws tw (cmV b ws k) [(13, .int .i64 ((stF true b ws k 0).length : Int)), (85, .lst 6 (b.ss.map cSt)), (86, .int .i64 ((b.ss.map cSt).length : Int)), (87, .int .i64 k)] [] 13) (fun k => k ≤ b.ss.length) (fun k => b.ss.length - k) 0 (Nat.zero_le _) (Wk.le (St.le.of ⟨by kernel_rfl, rfl, by kernel_rfl, rfl, by kernel_rfl, rfl, by kernel_rfl, rfl, by kernel_rfl, rfl, Eq.trans (by kernel_rfl) e0, rfl, by kernel_rfl, rfl, by kernel_rfl, rfl, by kernel_rfl, rfl, trivial⟩ ⟨by kernel_rfl, (by decide : (0 : Nat) < 13), rfl, by kernel_rfl, (by decide : (11 : Nat) < 13), okWa _ _, by kernel_rfl, (by decide : (12 : Nat) < 13), iL_ok _ _, trivial⟩) hlo213) ?_
    intro k hk
    by_cases hlt : k < b.ss.length
    · refine Exists.elim (getE hlt) fun s hs => ?_
      have ek := congrArg (AV.int .i64) (succ64 (k := k) (by omega))
      have lA := Leaves_ok b ws b1 b2 k hlt
      have lT := Leaves_okF b tw b1 (wals_of_vld hvt) k hlt
      unfold spansV at lA lT
      rw [← leavesV_perm false vd hperm hlt, ← leavesV_perm true vd hperm hlt] at lT
      have hAB := leavesV_len b ws k
      have hB1 := leavesV_short vd hlt true
      have hA5 := vd.lv5 false hlt
      have hB5 := vd.lv5 true hlt
      have vs := vd.s k s hs
      have hcm := cmV_is vd k (Nat.le_of_lt hlt) k (Nat.le_refl _) hlt
      have hlenF := leavesV_lenF (e := true) (ws := ws) hlt
      have hout := out_is vd hlt (ws := ws)
      have hd : b.ss.getD k default = s := by rw [List.getD_eq_getElem?_getD, hs]; rfl
      have hcs : cmV b ws (k + 1) = if s.nx = -1 then cmV b ws k else (cmV b ws k).set s.nx.toNat ((cmV b ws k).getD s.nx.toNat 0 + (leavesV true b ws k).length) := by simp only [cmV, hd]
      have hol := stF_short true vd (i := k) (j := 0) (Nat.le_of_lt hlt) (Nat.zero_le _)
      have hgA : ∀ (m : Nat) (x y : Int), (leavesV false b ws k)[m]? = some x → (leavesV false b ws k)[m + 1]? = some y → x + s.gap ≤ y := fun m x y h1 h2 => by rw [leavesV_eq hs] at h1 h2; exact leaveG_gap _ _ _ _ m x y h1 h2
      have hgB : ∀ (m : Nat) (x y : Int), (leavesV true b ws k)[m]? = some x → (leavesV true b ws k)[m + 1]? = some y → x + s.gap ≤ y := fun m x y h1 h2 => by rw [leavesV_eq hs] at h1 h2; exact leaveG_gap _ _ _ _ m x y h1 h2
      have hnxv : s.nx ≠ -1 → ∃ v : Int, (cmV b ws k)[s.nx.toNat]? = some v ∧ 0 ≤ v ∧ v ≤ 24 := fun h => ⟨_, cmV_is vd k (Nat.le_of_lt hlt) s.nx.toNat (by omega) (by omega), by omega, by have := stF_short true vd (i := k) (j := s.nx.toNat + 1) (Nat.le_of_lt hlt) (by omega); omega⟩
      rw [hd] at hout
      rw [← hlenF] at hcm
      generalize leavesV false b ws k = A at lA lT hAB hA5 hgA
      generalize leavesV true b ws k = B at lA lT hAB hB1 hB5 hgB hcm hout hcs hlenF
      have hBl : B.length ≤ 24 := by have := stF_short true vd (i := k) (j := k + 1) (Nat.le_of_lt hlt) (by omega); omega
      have hz : (A.zip B).length = B.length := by rw [List.length_zip, hAB, Nat.min_self]
      have sSame := SameSpans_spec (A.zip B) (by omega)
      have n125 : ((((A.zip B).map cS).length : Int) != (B.length : Int)) = false := by rw [List.length_map, hz]; exact bne_self_eq_false _
      have hcl' : (cmV b ws k).length = b.ss.length := cmV_len b ws k
      have ix := ixI (h := hget []) (id := 12) (n := b.ss.length) (k := k) (i := (k : Int)) rfl hlt
      have ld := ldI (h := hget [(12, .cells (iL (cmV b ws k)))]) (id := 12) rfl hcm
      have hTl := (thawTw (h := hget [(0, .cells (cB b)), (11, .cells (fl cWa tw)), (12, .cells (iL (cmV b ws k))), (13, .cells (cSt s))]) b etl rfl).2 k
      refine ACode.vcM (.br 88 true <| .cells (cSt s) <| .call (.tup [encSn (A.zip B), .int .i64 0]) <| .lent (.tup [encSn (A.zip B), .int .i64 0]) [11] <| .call (.bool true) <| .val 123 (.vptr 12 k) [] <| .val 124 (.int .i64 B.length) [] <| .br 126 false .loop) hn2 hlo2 (.roundW .cl)
        ⟨ltLen hlt, idx hs, lA, ⟨_, Eq.trans (by kernel_rfl) hTl, .inr lT⟩, sSame, Eq.trans (by kernel_rfl) ix, Eq.trans (by kernel_rfl) ld, n125, ?_⟩
      intro g3 hn3 hlo3
      replace hn3 : g3.n = 257 := hn3
      replace hlo3 : g3.low 0 := hlo3
      have hlo314 : g3.low 14 := hlo3.mono (Nat.zero_le _)
      refine acode_whileW (fun m : Nat => oLt b ws tw (cmV b ws k) [(13, .int .i64 ((stF true b ws k 0).length : Int)), (85, .lst 6 (b.ss.map cSt)), (86, .int .i64 ((b.ss.map cSt).length : Int)), (87, .int .i64 k), (14, .int .i64 k), (15, .vptr 13 0), (16, encSn (A.zip B)), (127, encSn (A.zip B)), (128, .int .i64 (((A.zip B).map cS).length : Int)), (129, .int .i64 m)] [(13, .cells (cSt s))] 14) (fun m => m ≤ (A.zip B).length) (fun m => (A.zip B).length - m) 0 (Nat.zero_le _) (Wk.le (St.le.of ⟨by kernel_rfl, rfl, by kernel_rfl, rfl, by kernel_rfl, rfl, by kernel_rfl, rfl, by kernel_rfl, rfl, by kernel_rfl, rfl, by kernel_rfl, rfl, by kernel_rfl, rfl, by kernel_rfl, rfl, by kernel_rfl, rfl, by kernel_rfl, rfl, by kernel_rfl, rfl, by kernel_rfl, rfl, by kernel_rfl, rfl, by kernel_rfl, rfl, trivial⟩ ⟨by kernel_rfl, (by decide : (0 : Nat) < 14), rfl, by kernel_rfl, (by decide : (11 : Nat) < 14), okWa _ _, by kernel_rfl, (by decide : (12 : Nat) < 14), iL_ok _ _, by kernel_rfl, (by decide : (13 : Nat) < 14), rfl, trivial⟩) hlo314) ?_
      intro m hm
      by_cases hmlt : m < (A.zip B).length
      · refine Exists.elim (getE (show m < A.length by omega)) fun x hx => Exists.elim (getE (show m < B.length by omega)) fun y hy => ?_
        have hxy : (A.zip B)[m]? = some (x, y) := List.getElem?_zip_eq_some.2 ⟨hx, hy⟩
        have em := congrArg (AV.int .i64) (succ64 (k := m) (by omega))
        refine Or.elim (Nat.eq_zero_or_pos m) (fun h0 => ?_) (fun h0 => ?_)
        · have d134 : decide ((m : Int) > 0) = false := decide_eq_false (by omega)
          exact ACode.vcM (.br 130 true <| .draw 33 <| .br 134 false .nil) hn3 hlo3 (.roundW .cl) ⟨ltLen hmlt, by kernel_rfl, mixed, by kernel_rfl, d134, by kernel_rfl, m + 1, hmlt, mu1 hmlt,
            Wk.le (St.le.of ⟨by kernel_rfl, rfl, by kernel_rfl, rfl, by kernel_rfl, rfl, by kernel_rfl, rfl, by kernel_rfl, rfl, by kernel_rfl, rfl, by kernel_rfl, rfl, by kernel_rfl, rfl, by kernel_rfl, rfl, by kernel_rfl, rfl, by kernel_rfl, rfl, by kernel_rfl, rfl, by kernel_rfl, rfl, by kernel_rfl, rfl, Eq.trans (by kernel_rfl) em, rfl, trivial⟩ ⟨by kernel_rfl, (by decide : (0 : Nat) < 14), rfl, by kernel_rfl, (by decide : (11 : Nat) < 14), okWa _ _, by kernel_rfl, (by decide : (12 : Nat) < 14), iL_ok _ _, by kernel_rfl, (by decide : (13 : Nat) < 14), rfl, trivial⟩) hlo314⟩
        · refine Exists.elim (getE (show m - 1 < A.length by omega)) fun x' hx' => Exists.elim (getE (show m - 1 < B.length by omega)) fun y' hy' => ?_
          have hxy' : (A.zip B)[m - 1]? = some (x', y') := List.getElem?_zip_eq_some.2 ⟨hx', hy'⟩
          have d134 : decide ((m : Int) > 0) = true := decide_eq_true (by omega)
          have ew : IntKind.i64.wrap ((m : Int) - 1) = ((m - 1 : Nat) : Int) := by rw [wrap64 (by omega) (by omega)]; omega
          have ip : 0 ≤ IntKind.i64.wrap ((m : Int) - 1) ∧ ((A.zip B).map cS)[(IntKind.i64.wrap ((m : Int) - 1)).toNat]? = some (cS (x', y')) := by rw [ew]; exact idx hxy'
          have gA := hgA (m - 1) x' x hx' (by rw [Nat.sub_add_cancel h0]; exact hx)
          have gB := hgB (m - 1) y' y hy' (by rw [Nat.sub_add_cancel h0]; exact hy)
          have rA := hA5 x' (List.mem_of_getElem? hx')
          have rB' := hB5 y' (List.mem_of_getElem? hy')
          have d150 : decide (x < IntKind.i64.wrap (x' + s.gap)) = false := by rw [wrap64 (by omega) (by omega)]; exact decide_eq_false (by omega)
          have d167 : decide (y < IntKind.i64.wrap (y' + s.gap)) = false := by rw [wrap64 (by omega) (by omega)]; exact decide_eq_false (by omega)
          exact ACode.vcM (.br 130 true <| .draw 33 <| .br 134 true <| .cells (cS (x, y)) <| .cells (cS (x', y')) <| .br 150 false <| .cells (cS (x, y)) <| .cells (cS (x', y')) <| .br 167 false .nil) hn3 hlo3 (.roundW .cl) ⟨ltLen hmlt, by kernel_rfl, mixed, by kernel_rfl, d134, idx hxy, ip, d150, idx hxy, ip, by kernel_rfl, d167, m + 1, hmlt, mu1 hmlt,
            Wk.le (St.le.of ⟨by kernel_rfl, rfl, by kernel_rfl, rfl, by kernel_rfl, rfl, by kernel_rfl, rfl, by kernel_rfl, rfl, by kernel_rfl, rfl, by kernel_rfl, rfl, by kernel_rfl, rfl, by kernel_rfl, rfl, by kernel_rfl, rfl, by kernel_rfl, rfl, by kernel_rfl, rfl, by kernel_rfl, rfl, by kernel_rfl, rfl, Eq.trans (by kernel_rfl) em, rfl, trivial⟩ ⟨by kernel_rfl, (by decide : (0 : Nat) < 14), rfl, by kernel_rfl, (by decide : (11 : Nat) < 14), okWa _ _, by kernel_rfl, (by decide : (12 : Nat) < 14), iL_ok _ _, by kernel_rfl, (by decide : (13 : Nat) < 14), rfl, trivial⟩) hlo314⟩
      · have lenE : (((A.zip B).map cS).length : Int) = (B.length : Int) := by rw [List.length_map, hz]
        refine Or.elim (Classical.em (s.nx = -1)) (fun hx => ?_) (fun hx => ?_)
        · have d171 : (s.nx == -1) = true := beq_iff_eq.2 hx
          rw [if_pos hx] at hout hcs
          have eo : AV.int .i64 (IntKind.i64.wrap (((stF true b ws k 0).length : Int) + (((A.zip B).map cS).length : Int))) = .int .i64 ((stF true b ws (k + 1) 0).length : Int) := by rw [lenE, wrap64 (by omega) (by omega), hout]
          have oc : some (AObj.cells (iL (cmV b ws k))) = some (.cells (iL (cmV b ws (k + 1)))) := by rw [hcs]
          exact ACode.vcM (.br 130 false .nil) hn3 hlo3 (.roundW .cl) ⟨geLen hmlt, _, .refl _, .br 171 true .nil, d171, k + 1, hlt, mu1 hlt,
            Wk.le (St.le.of ⟨by kernel_rfl, rfl, by kernel_rfl, rfl, by kernel_rfl, rfl, by kernel_rfl, rfl, by kernel_rfl, rfl, Eq.trans (by kernel_rfl) eo, rfl, by kernel_rfl, rfl, by kernel_rfl, rfl, Eq.trans (by kernel_rfl) ek, rfl, trivial⟩ ⟨by kernel_rfl, (by decide : (0 : Nat) < 13), rfl, by kernel_rfl, (by decide : (11 : Nat) < 13), okWa _ _, Eq.trans (by kernel_rfl) oc, (by decide : (12 : Nat) < 13), iL_ok _ _, trivial⟩) hlo213⟩
        · have d171 : (s.nx == -1) = false := beq_eq_false_iff_ne.2 hx
          rw [if_neg hx] at hout hcs
          refine Exists.elim (hnxv hx) fun v hv => ?_
          rw [List.getD_eq_getElem?_getD, hv.1] at hcs
          have hnl : s.nx.toNat < b.ss.length := by omega
          have hni : s.nx = ((s.nx.toNat : Nat) : Int) := by omega
          have eo : AV.int .i64 ((stF true b ws k 0).length : Int) = .int .i64 ((stF true b ws (k + 1) 0).length : Int) := by rw [hout, Int.add_zero]
          have ix2 := ixI (h := hget []) (id := 12) (n := b.ss.length) (k := s.nx.toNat) hni hnl
          have ld2 := ldI (h := hget [(12, .cells (iL (cmV b ws k)))]) (id := 12) rfl hv.1
          have st2 : aStore Tryd.prog (hget [(12, .cells (iL (cmV b ws k)))]) 3 (.vptr 12 s.nx.toNat) (.int .i64 (IntKind.i64.wrap (v + (((A.zip B).map cS).length : Int)))) = some ⟨.undef, [(12, some (.cells (iL (cmV b ws (k + 1)))))]⟩ := by
            rw [lenE, wrap64 (by omega) (by omega), hcs]
            exact stI rfl (by omega)
          exact ACode.vcM (.br 130 false .nil) hn3 hlo3 (.roundW .cl) ⟨geLen hmlt, _, .refl _, .br 171 false <| .val 179 (.vptr 12 s.nx.toNat) [] <| .val 180 (.int .i64 v) [] <| .val 184 (.vptr 12 s.nx.toNat) [] <| .val 1 .undef [(12, some (.cells (iL (cmV b ws (k + 1)))))] .nil, d171, Eq.trans (by kernel_rfl) ix2, Eq.trans (by kernel_rfl) ld2, Eq.trans (by kernel_rfl) ix2, Eq.trans (by kernel_rfl) st2, k + 1, hlt, mu1 hlt,
            Wk.le (St.le.of ⟨by kernel_rfl, rfl, by kernel_rfl, rfl, by kernel_rfl, rfl, by kernel_rfl, rfl, by kernel_rfl, rfl, Eq.trans (by kernel_rfl) eo, rfl, by kernel_rfl, rfl, by kernel_rfl, rfl, Eq.trans (by kernel_rfl) ek, rfl, trivial⟩ ⟨by kernel_rfl, (by decide : (0 : Nat) < 13), rfl, by kernel_rfl, (by decide : (11 : Nat) < 13), okWa _ _, by kernel_rfl, (by decide : (12 : Nat) < 13), iL_ok _ _, trivial⟩) hlo213⟩
    · have hkn : k = b.ss.length := Nat.le_antisymm hk (Nat.not_lt.1 hlt)
      subst hkn
      exact ACode.vcM (.br 88 false .nil) hn2 hlo2 (.roundW .cl) ⟨geLen hlt, _, .refl _, .nil, (), trivial, Wk.le (St.le.of ⟨by kernel_rfl, rfl, by kernel_rfl, rfl, by kernel_rfl, rfl, by kernel_rfl, rfl, by kernel_rfl, rfl, Eq.trans (by kernel_rfl) en, rfl, trivial⟩ ⟨by kernel_rfl, (by decide : (0 : Nat) < 13), rfl, by kernel_rfl, (by decide : (11 : Nat) < 13), okWa _ _, by kernel_rfl, (by decide : (12 : Nat) < 13), iL_ok _ _, trivial⟩) hlo13⟩
  have o2 := Out_ok b ws b1 b2
  have o1 := Out_ok b tw b1 (wals_of_vld hvt)
  have q2 := Safe_ok b ws b1 b2
  have q1 := Safe_ok b tw b1 (wals_of_vld hvt)
  rw [← lastV_perm false vd hperm, ← lastV_perm true vd hperm] at o1
  rw [← safeV_perm vd hperm] at q1
  generalize lastV false b ws = p at o2 o1
  generalize lastV true b ws = q at o2 o1
  generalize (safeV b ws).1 = v at q2 q1
  generalize (safeV b ws).2.1 = c at q2 q1
  generalize (safeV b ws).2.2 = d at q2 q1
  have hT1 := (thawTw (h := hget [(0, .cells (cB b)), (11, .cells (fl cWa tw)), (12, .cells (iL (cmV b ws b.ss.length))), (13, .cells (cS (p, q)))]) b etl rfl).1
  have hT2 := (thawTw (h := hget [(0, .cells (cB b)), (11, .cells (fl cWa tw)), (12, .cells (iL (cmV b ws b.ss.length))), (13, .cells (cS (p, q))), (15, .cells (cS (p, q)))]) b etl rfl).1
  have d221 : ((ws.length : Int) == ((ws.map cWa).length : Int)) = true := by rw [List.length_map]; exact beq_self_eq_true _
  have d234 : eqQ p q = true := by simp [eqQ]
  exact ACode.vcM (.call (.tup [encS (p, q), .int .i64 0]) <| .lent (.tup [encS (p, q), .int .i64 0]) [11] <| .call (.tup [.int .u8 v, .int .i64 c, .int .i64 d, .int .i64 0]) <| .lent (.tup [.int .u8 v, .int .i64 c, .int .i64 d, .int .i64 0]) [11] <| .br 221 true <| .val 232 (.bool (eqQ p q)) [] <| .br 234 true <| .br 247 true <| .br 252 true .nil) hn hlo .ret
    ⟨o2, ⟨_, Eq.trans (by kernel_rfl) hT1, .inl ⟨o1, .inr rfl⟩⟩, q2, ⟨_, Eq.trans (by kernel_rfl) hT2, .inl ⟨q1, .inr rfl⟩⟩, d221, by kernel_rfl, d234, beq_self_eq_true v, beq_self_eq_true c, rB (beq_self_eq_true d)⟩
end Go.Proofs.YtiggnliiigcjaaaDoor
/-
  THE LAW OF WHO IS LOST: nobody, also where nobody is.
-/
namespace Go.Proofs.YtiggnliiigcjaaaDoor
open Go Go.Am
set_option maxRecDepth 100000
set_option maxHeartbeats 4000000
def oLn (b : Bdg) (ws : List Wal) (cm : List Int) (E : Env) (X : AHeap) (nx : Nat) : St :=
  ⟨[(1, encW ws), (3, .vptr 0 0), (7, .bool true), (8, encW ws), (10, .rsl 1 0 b.ss.length 1)] ++ E, [(0, .cells (cB b)), (1, .cells (iL cm))] ++ X, nx⟩
theorem law_lost_nil (b : Bdg) (ws : List Wal) (z : Int) (_hz0 : 0 ≤ z) (_hz1 : z ≤ 255) (h1 : readyB b ws = true) (hw0 : ws.length = 0) : APure Tryd.prog 8 [encB b, encW ws, .int .u8 z] (.bool true) := by
  have sA := alive_spec
  have sR := ready_spec b ws
  rw [h1] at sR
  obtain ⟨b1, b2⟩ := ready_1 h1
  have vd := vld_of b1 b2
  have hsl := vd.sl
  have hcl := vd.cl
  have hwl := vd.wl
  have d46 : decide (((ws.map cWa).length : Int) > 0) = false := by rw [List.length_map]; exact decide_eq_false (by omega)
  have m1 := mkI (id := 1) (n := b.ss.length) (by omega)
  have m1' : aMakeSlice Tryd.prog 1 60 (.int .i64 ((b.ss.map cSt).length : Int)) (.int .i64 ((b.ss.map cSt).length : Int)) = some ⟨.rsl 1 0 b.ss.length 1, [(1, some (.cells (iL (List.replicate b.ss.length 0))))]⟩ := by rw [List.length_map]; exact m1
  have ez : List.replicate b.ss.length (0 : Int) = cnV b (ws.take 0) := by
    apply List.ext_getElem?
    intro i
    unfold cnV comeF comeV
    simp only [List.getElem?_replicate, List.getElem?_map]
    by_cases hi : i < b.ss.length
    · rw [if_pos hi, List.getElem?_range hi]; simp
    · rw [if_neg hi, List.getElem?_eq_none (by simp; omega)]; rfl
  have o12 := congrArg (fun l => some (AObj.cells (iL l))) ez
  refine APure.intro Tryd.func8 rfl rfl rfl fun g hn hlo => ?_
  replace hn : g.n = 257 := hn
  replace hlo : g.low 0 := hlo
  have hlo13 : g.low 2 := hlo.mono (Nat.zero_le _)
  refine ACode.cut 5 (fun _ : Unit => oLn b ws (List.replicate b.ss.length 0) [] [] 2) (fun _ => True)
    (.call (.bool true) <| .call (.bool true) <| .br 46 false <| .val 64 (.rsl 1 0 b.ss.length 1) [(1, some (.cells (iL (List.replicate b.ss.length 0))))] .nil) hn hlo .ret rfl
    ⟨sA, sR, d46, Eq.trans (by kernel_rfl) m1', (), trivial,
      Wk.le (St.le.of ⟨by kernel_rfl, rfl, by kernel_rfl, rfl, by kernel_rfl, rfl, by kernel_rfl, rfl, by kernel_rfl, rfl, trivial⟩ ⟨by kernel_rfl, (by decide : (0 : Nat) < 2), rfl, by kernel_rfl, (by decide : (1 : Nat) < 2), iL_ok _ _, trivial⟩) hlo13⟩ fun _ _ => ?_
  refine ACode.cut 0 (fun _ : Unit => oLn b ws (cmV b ws 0) [] [] 2) (fun _ => True) .loop hn hlo .ret rfl ?_ fun _ _ => ?_
  · intro g2 hn2 hlo2
    replace hn2 : g2.n = 257 := hn2
    replace hlo2 : g2.low 0 := hlo2
    have hlo213 : g2.low 2 := hlo2.mono (Nat.zero_le _)
    refine acode_whileW (fun k : Nat => oLn b ws (cnV b (ws.take k)) [(65, encW ws), (66, .int .i64 ((ws.map cWa).length : Int)), (67, .int .i64 k)] [] 2) (fun k => k ≤ ws.length) (fun k => ws.length - k) 0 (Nat.zero_le _) (Wk.le (St.le.of ⟨by kernel_rfl, rfl, by kernel_rfl, rfl, by kernel_rfl, rfl, by kernel_rfl, rfl, by kernel_rfl, rfl, by kernel_rfl, rfl, by kernel_rfl, rfl, by kernel_rfl, rfl, trivial⟩ ⟨by kernel_rfl, (by decide : (0 : Nat) < 2), rfl, Eq.trans (by kernel_rfl) o12, (by decide : (1 : Nat) < 2), iL_ok _ _, trivial⟩) hlo213) ?_
    intro k hk
    by_cases hlt : k < ws.length
    · exact absurd hlt (by omega)
    · have hkn : k = ws.length := Nat.le_antisymm hk (Nat.not_lt.1 hlt)
      have o12' : some (AObj.cells (iL (cnV b (ws.take k)))) = some (.cells (iL (cmV b ws 0))) := by rw [hkn, List.take_length]; rfl
      exact ACode.vcM (.br 68 false .nil) hn2 hlo2 (.roundW .cl) ⟨geLen hlt, _, .refl _, .nil, (), trivial, Wk.le (St.le.of ⟨by kernel_rfl, rfl, by kernel_rfl, rfl, by kernel_rfl, rfl, by kernel_rfl, rfl, by kernel_rfl, rfl, trivial⟩ ⟨by kernel_rfl, (by decide : (0 : Nat) < 2), rfl, Eq.trans (by kernel_rfl) o12', (by decide : (1 : Nat) < 2), iL_ok _ _, trivial⟩) hlo13⟩
  refine ACode.cut 1 (fun _ : Unit => oLn b ws (cmV b ws b.ss.length) [(13, .int .i64 (ws.length : Int))] [] 2) (fun _ => True) .loop hn hlo .ret rfl ?_ fun _ _ => ?_
  · have e0 : AV.int .i64 0 = .int .i64 ((stF true b ws 0 0).length : Int) := by rw [stF_00 vd]; rfl
    have en : AV.int .i64 ((stF true b ws b.ss.length 0).length : Int) = .int .i64 (ws.length : Int) := by rw [stF_out true vd]
    intro g2 hn2 hlo2
    replace hn2 : g2.n = 257 := hn2
    replace hlo2 : g2.low 0 := hlo2
    have hlo213 : g2.low 2 := hlo2.mono (Nat.zero_le _)
    refine acode_whileW (fun k : Nat => oLn b ws (cmV b ws k) [(13, .int .i64 ((stF true b ws k 0).length : Int)), (85, .lst 6 (b.ss.map cSt)), (86, .int .i64 ((b.ss.map cSt).length : Int)), (87, .int .i64 k)] [] 2) (fun k => k ≤ b.ss.length) (fun k => b.ss.length - k) 0 (Nat.zero_le _) (Wk.le (St.le.of ⟨by kernel_rfl, rfl, by kernel_rfl, rfl, by kernel_rfl, rfl, by kernel_rfl, rfl, by kernel_rfl, rfl, Eq.trans (by kernel_rfl) e0, rfl, by kernel_rfl, rfl, by kernel_rfl, rfl, by kernel_rfl, rfl, trivial⟩ ⟨by kernel_rfl, (by decide : (0 : Nat) < 2), rfl, by kernel_rfl, (by decide : (1 : Nat) < 2), iL_ok _ _, trivial⟩) hlo213) ?_
    intro k hk
    by_cases hlt : k < b.ss.length
    · refine Exists.elim (getE hlt) fun s hs => ?_
      have ek := congrArg (AV.int .i64) (succ64 (k := k) (by omega))
      have lA := Leaves_ok b ws b1 b2 k hlt
      unfold spansV at lA
      have hAB := leavesV_len b ws k
      have hB1 := leavesV_short vd hlt true
      have hA5 := vd.lv5 false hlt
      have hB5 := vd.lv5 true hlt
      have vs := vd.s k s hs
      have hcm := cmV_is vd k (Nat.le_of_lt hlt) k (Nat.le_refl _) hlt
      have hlenF := leavesV_lenF (e := true) (ws := ws) hlt
      have hout := out_is vd hlt (ws := ws)
      have hd : b.ss.getD k default = s := by rw [List.getD_eq_getElem?_getD, hs]; rfl
      have hcs : cmV b ws (k + 1) = if s.nx = -1 then cmV b ws k else (cmV b ws k).set s.nx.toNat ((cmV b ws k).getD s.nx.toNat 0 + (leavesV true b ws k).length) := by simp only [cmV, hd]
      have hol := stF_short true vd (i := k) (j := 0) (Nat.le_of_lt hlt) (Nat.zero_le _)
      have hgA : ∀ (m : Nat) (x y : Int), (leavesV false b ws k)[m]? = some x → (leavesV false b ws k)[m + 1]? = some y → x + s.gap ≤ y := fun m x y h1 h2 => by rw [leavesV_eq hs] at h1 h2; exact leaveG_gap _ _ _ _ m x y h1 h2
      have hgB : ∀ (m : Nat) (x y : Int), (leavesV true b ws k)[m]? = some x → (leavesV true b ws k)[m + 1]? = some y → x + s.gap ≤ y := fun m x y h1 h2 => by rw [leavesV_eq hs] at h1 h2; exact leaveG_gap _ _ _ _ m x y h1 h2
      have hnxv : s.nx ≠ -1 → ∃ v : Int, (cmV b ws k)[s.nx.toNat]? = some v ∧ 0 ≤ v ∧ v ≤ 24 := fun h => ⟨_, cmV_is vd k (Nat.le_of_lt hlt) s.nx.toNat (by omega) (by omega), by omega, by have := stF_short true vd (i := k) (j := s.nx.toNat + 1) (Nat.le_of_lt hlt) (by omega); omega⟩
      rw [hd] at hout
      rw [← hlenF] at hcm
      generalize leavesV false b ws k = A at lA hAB hA5 hgA
      generalize leavesV true b ws k = B at lA hAB hB1 hB5 hgB hcm hout hcs hlenF
      have hBl : B.length ≤ 24 := by have := stF_short true vd (i := k) (j := k + 1) (Nat.le_of_lt hlt) (by omega); omega
      have hz : (A.zip B).length = B.length := by rw [List.length_zip, hAB, Nat.min_self]
      have sSame := SameSpans_spec (A.zip B) (by omega)
      have n125 : ((((A.zip B).map cS).length : Int) != (B.length : Int)) = false := by rw [List.length_map, hz]; exact bne_self_eq_false _
      have hcl' : (cmV b ws k).length = b.ss.length := cmV_len b ws k
      have ix := ixI (h := hget []) (id := 1) (n := b.ss.length) (k := k) (i := (k : Int)) rfl hlt
      have ld := ldI (h := hget [(1, .cells (iL (cmV b ws k)))]) (id := 1) rfl hcm
      refine ACode.vcM (.br 88 true <| .cells (cSt s) <| .call (.tup [encSn (A.zip B), .int .i64 0]) <| .call (.tup [encSn (A.zip B), .int .i64 0]) <| .call (.bool true) <| .val 123 (.vptr 1 k) [] <| .val 124 (.int .i64 B.length) [] <| .br 126 false .loop) hn2 hlo2 (.roundW .cl)
        ⟨ltLen hlt, idx hs, lA, lA, sSame, Eq.trans (by kernel_rfl) ix, Eq.trans (by kernel_rfl) ld, n125, ?_⟩
      intro g3 hn3 hlo3
      replace hn3 : g3.n = 257 := hn3
      replace hlo3 : g3.low 0 := hlo3
      have hlo314 : g3.low 3 := hlo3.mono (Nat.zero_le _)
      refine acode_whileW (fun m : Nat => oLn b ws (cmV b ws k) [(13, .int .i64 ((stF true b ws k 0).length : Int)), (85, .lst 6 (b.ss.map cSt)), (86, .int .i64 ((b.ss.map cSt).length : Int)), (87, .int .i64 k), (14, .int .i64 k), (15, .vptr 2 0), (16, encSn (A.zip B)), (127, encSn (A.zip B)), (128, .int .i64 (((A.zip B).map cS).length : Int)), (129, .int .i64 m)] [(2, .cells (cSt s))] 3) (fun m => m ≤ (A.zip B).length) (fun m => (A.zip B).length - m) 0 (Nat.zero_le _) (Wk.le (St.le.of ⟨by kernel_rfl, rfl, by kernel_rfl, rfl, by kernel_rfl, rfl, by kernel_rfl, rfl, by kernel_rfl, rfl, by kernel_rfl, rfl, by kernel_rfl, rfl, by kernel_rfl, rfl, by kernel_rfl, rfl, by kernel_rfl, rfl, by kernel_rfl, rfl, by kernel_rfl, rfl, by kernel_rfl, rfl, by kernel_rfl, rfl, by kernel_rfl, rfl, trivial⟩ ⟨by kernel_rfl, (by decide : (0 : Nat) < 3), rfl, by kernel_rfl, (by decide : (1 : Nat) < 3), iL_ok _ _, by kernel_rfl, (by decide : (2 : Nat) < 3), rfl, trivial⟩) hlo314) ?_
      intro m hm
      by_cases hmlt : m < (A.zip B).length
      · refine Exists.elim (getE (show m < A.length by omega)) fun x hx => Exists.elim (getE (show m < B.length by omega)) fun y hy => ?_
        have hxy : (A.zip B)[m]? = some (x, y) := List.getElem?_zip_eq_some.2 ⟨hx, hy⟩
        have em := congrArg (AV.int .i64) (succ64 (k := m) (by omega))
        refine Or.elim (Nat.eq_zero_or_pos m) (fun h0 => ?_) (fun h0 => ?_)
        · have d134 : decide ((m : Int) > 0) = false := decide_eq_false (by omega)
          exact ACode.vcM (.br 130 true <| .draw 33 <| .br 134 false .nil) hn3 hlo3 (.roundW .cl) ⟨ltLen hmlt, by kernel_rfl, mixed, by kernel_rfl, d134, by kernel_rfl, m + 1, hmlt, mu1 hmlt,
            Wk.le (St.le.of ⟨by kernel_rfl, rfl, by kernel_rfl, rfl, by kernel_rfl, rfl, by kernel_rfl, rfl, by kernel_rfl, rfl, by kernel_rfl, rfl, by kernel_rfl, rfl, by kernel_rfl, rfl, by kernel_rfl, rfl, by kernel_rfl, rfl, by kernel_rfl, rfl, by kernel_rfl, rfl, by kernel_rfl, rfl, by kernel_rfl, rfl, Eq.trans (by kernel_rfl) em, rfl, trivial⟩ ⟨by kernel_rfl, (by decide : (0 : Nat) < 3), rfl, by kernel_rfl, (by decide : (1 : Nat) < 3), iL_ok _ _, by kernel_rfl, (by decide : (2 : Nat) < 3), rfl, trivial⟩) hlo314⟩
        · refine Exists.elim (getE (show m - 1 < A.length by omega)) fun x' hx' => Exists.elim (getE (show m - 1 < B.length by omega)) fun y' hy' => ?_
          have hxy' : (A.zip B)[m - 1]? = some (x', y') := List.getElem?_zip_eq_some.2 ⟨hx', hy'⟩
          have d134 : decide ((m : Int) > 0) = true := decide_eq_true (by omega)
          have ew : IntKind.i64.wrap ((m : Int) - 1) = ((m - 1 : Nat) : Int) := by rw [wrap64 (by omega) (by omega)]; omega
          have ip : 0 ≤ IntKind.i64.wrap ((m : Int) - 1) ∧ ((A.zip B).map cS)[(IntKind.i64.wrap ((m : Int) - 1)).toNat]? = some (cS (x', y')) := by rw [ew]; exact idx hxy'
          have gA := hgA (m - 1) x' x hx' (by rw [Nat.sub_add_cancel h0]; exact hx)
          have gB := hgB (m - 1) y' y hy' (by rw [Nat.sub_add_cancel h0]; exact hy)
          have rA := hA5 x' (List.mem_of_getElem? hx')
          have rB' := hB5 y' (List.mem_of_getElem? hy')
          have d150 : decide (x < IntKind.i64.wrap (x' + s.gap)) = false := by rw [wrap64 (by omega) (by omega)]; exact decide_eq_false (by omega)
          have d167 : decide (y < IntKind.i64.wrap (y' + s.gap)) = false := by rw [wrap64 (by omega) (by omega)]; exact decide_eq_false (by omega)
          exact ACode.vcM (.br 130 true <| .draw 33 <| .br 134 true <| .cells (cS (x, y)) <| .cells (cS (x', y')) <| .br 150 false <| .cells (cS (x, y)) <| .cells (cS (x', y')) <| .br 167 false .nil) hn3 hlo3 (.roundW .cl) ⟨ltLen hmlt, by kernel_rfl, mixed, by kernel_rfl, d134, idx hxy, ip, d150, idx hxy, ip, by kernel_rfl, d167, m + 1, hmlt, mu1 hmlt,
            Wk.le (St.le.of ⟨by kernel_rfl, rfl, by kernel_rfl, rfl, by kernel_rfl, rfl, by kernel_rfl, rfl, by kernel_rfl, rfl, by kernel_rfl, rfl, by kernel_rfl, rfl, by kernel_rfl, rfl, by kernel_rfl, rfl, by kernel_rfl, rfl, by kernel_rfl, rfl, by kernel_rfl, rfl, by kernel_rfl, rfl, by kernel_rfl, rfl, Eq.trans (by kernel_rfl) em, rfl, trivial⟩ ⟨by kernel_rfl, (by decide : (0 : Nat) < 3), rfl, by kernel_rfl, (by decide : (1 : Nat) < 3), iL_ok _ _, by kernel_rfl, (by decide : (2 : Nat) < 3), rfl, trivial⟩) hlo314⟩
      · have lenE : (((A.zip B).map cS).length : Int) = (B.length : Int) := by rw [List.length_map, hz]
        refine Or.elim (Classical.em (s.nx = -1)) (fun hx => ?_) (fun hx => ?_)
        · have d171 : (s.nx == -1) = true := beq_iff_eq.2 hx
          rw [if_pos hx] at hout hcs
          have eo : AV.int .i64 (IntKind.i64.wrap (((stF true b ws k 0).length : Int) + (((A.zip B).map cS).length : Int))) = .int .i64 ((stF true b ws (k + 1) 0).length : Int) := by rw [lenE, wrap64 (by omega) (by omega), hout]
          have oc : some (AObj.cells (iL (cmV b ws k))) = some (.cells (iL (cmV b ws (k + 1)))) := by rw [hcs]
          exact ACode.vcM (.br 130 false .nil) hn3 hlo3 (.roundW .cl) ⟨geLen hmlt, _, .refl _, .br 171 true .nil, d171, k + 1, hlt, mu1 hlt,
            Wk.le (St.le.of ⟨by kernel_rfl, rfl, by kernel_rfl, rfl, by kernel_rfl, rfl, by kernel_rfl, rfl, by kernel_rfl, rfl, Eq.trans (by kernel_rfl) eo, rfl, by kernel_rfl, rfl, by kernel_rfl, rfl, Eq.trans (by kernel_rfl) ek, rfl, trivial⟩ ⟨by kernel_rfl, (by decide : (0 : Nat) < 2), rfl, Eq.trans (by kernel_rfl) oc, (by decide : (1 : Nat) < 2), iL_ok _ _, trivial⟩) hlo213⟩
        · have d171 : (s.nx == -1) = false := beq_eq_false_iff_ne.2 hx
          rw [if_neg hx] at hout hcs
          refine Exists.elim (hnxv hx) fun v hv => ?_
          rw [List.getD_eq_getElem?_getD, hv.1] at hcs
          have hnl : s.nx.toNat < b.ss.length := by omega
          have hni : s.nx = ((s.nx.toNat : Nat) : Int) := by omega
          have eo : AV.int .i64 ((stF true b ws k 0).length : Int) = .int .i64 ((stF true b ws (k + 1) 0).length : Int) := by rw [hout, Int.add_zero]
          have ix2 := ixI (h := hget []) (id := 1) (n := b.ss.length) (k := s.nx.toNat) hni hnl
          have ld2 := ldI (h := hget [(1, .cells (iL (cmV b ws k)))]) (id := 1) rfl hv.1
          have st2 : aStore Tryd.prog (hget [(1, .cells (iL (cmV b ws k)))]) 3 (.vptr 1 s.nx.toNat) (.int .i64 (IntKind.i64.wrap (v + (((A.zip B).map cS).length : Int)))) = some ⟨.undef, [(1, some (.cells (iL (cmV b ws (k + 1)))))]⟩ := by
            rw [lenE, wrap64 (by omega) (by omega), hcs]
            exact stI rfl (by omega)
          exact ACode.vcM (.br 130 false .nil) hn3 hlo3 (.roundW .cl) ⟨geLen hmlt, _, .refl _, .br 171 false <| .val 179 (.vptr 1 s.nx.toNat) [] <| .val 180 (.int .i64 v) [] <| .val 184 (.vptr 1 s.nx.toNat) [] <| .val 1 .undef [(1, some (.cells (iL (cmV b ws (k + 1)))))] .nil, d171, Eq.trans (by kernel_rfl) ix2, Eq.trans (by kernel_rfl) ld2, Eq.trans (by kernel_rfl) ix2, Eq.trans (by kernel_rfl) st2, k + 1, hlt, mu1 hlt,
            Wk.le (St.le.of ⟨by kernel_rfl, rfl, by kernel_rfl, rfl, by kernel_rfl, rfl, by kernel_rfl, rfl, by kernel_rfl, rfl, Eq.trans (by kernel_rfl) eo, rfl, by kernel_rfl, rfl, by kernel_rfl, rfl, Eq.trans (by kernel_rfl) ek, rfl, trivial⟩ ⟨by kernel_rfl, (by decide : (0 : Nat) < 2), rfl, by kernel_rfl, (by decide : (1 : Nat) < 2), iL_ok _ _, trivial⟩) hlo213⟩
    · have hkn : k = b.ss.length := Nat.le_antisymm hk (Nat.not_lt.1 hlt)
      subst hkn
      exact ACode.vcM (.br 88 false .nil) hn2 hlo2 (.roundW .cl) ⟨geLen hlt, _, .refl _, .nil, (), trivial, Wk.le (St.le.of ⟨by kernel_rfl, rfl, by kernel_rfl, rfl, by kernel_rfl, rfl, by kernel_rfl, rfl, by kernel_rfl, rfl, Eq.trans (by kernel_rfl) en, rfl, trivial⟩ ⟨by kernel_rfl, (by decide : (0 : Nat) < 2), rfl, by kernel_rfl, (by decide : (1 : Nat) < 2), iL_ok _ _, trivial⟩) hlo13⟩
  have o2 := Out_ok b ws b1 b2
  have q2 := Safe_ok b ws b1 b2
  generalize lastV false b ws = p at o2
  generalize lastV true b ws = q at o2
  generalize (safeV b ws).1 = v at q2
  generalize (safeV b ws).2.1 = c at q2
  generalize (safeV b ws).2.2 = d at q2
  have d221 : ((ws.length : Int) == ((ws.map cWa).length : Int)) = true := by rw [List.length_map]; exact beq_self_eq_true _
  have d234 : eqQ p q = true := by simp [eqQ]
  exact ACode.vcM (.call (.tup [encS (p, q), .int .i64 0]) <| .call (.tup [encS (p, q), .int .i64 0]) <| .call (.tup [.int .u8 v, .int .i64 c, .int .i64 d, .int .i64 0]) <| .call (.tup [.int .u8 v, .int .i64 c, .int .i64 d, .int .i64 0]) <| .br 221 true <| .val 232 (.bool (eqQ p q)) [] <| .br 234 true <| .br 247 true <| .br 252 true .nil) hn hlo .ret
    ⟨o2, o2, q2, q2, d221, by kernel_rfl, d234, beq_self_eq_true v, beq_self_eq_true c, rB (beq_self_eq_true d)⟩
theorem law_lost (b : Bdg) (ws : List Wal) (z : Int) (hz0 : 0 ≤ z) (hz1 : z ≤ 255) : APure Tryd.prog 8 [encB b, encW ws, .int .u8 z] (.bool true) := by
  have sA := alive_spec
  have sR := ready_spec b ws
  cases h1 : readyB b ws
  · rw [h1] at sR
    exact APure.vcM Tryd.func8 (.call (.bool true) <| .call (.bool false) .nil) rfl rfl ⟨sA, sR, [], by kernel_rfl⟩
  by_cases hw0 : ws.length = 0
  · exact law_lost_nil b ws z hz0 hz1 h1 hw0
  · exact law_lost_pos b ws z hz0 hz1 h1 (by omega)
end Go.Proofs.YtiggnliiigcjaaaDoor
