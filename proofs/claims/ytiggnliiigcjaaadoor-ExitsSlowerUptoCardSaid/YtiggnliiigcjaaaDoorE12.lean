import Derived.Test.YtiggnliiigcjaaaDoorE9
/-
  WHEN THOSE LEAVE WHO COME TO ONE STAIR: the whole walk.
-/
namespace Go.Proofs.YtiggnliiigcjaaaDoor
open Go Go.Am
set_option maxRecDepth 100000
set_option maxHeartbeats 8000000
theorem leavesV_eq {e : Bool} {b : Bdg} {ws : List Wal} {k : Nat} {s : Sta} (hs : b.ss[k]? = some s) : leavesV e b ws k = leaveV e s (sortV (stF e b ws k (k + 1))) := by
  unfold leavesV
  rw [comesV_eq, List.getD_eq_getElem?_getD, hs]; rfl
theorem leavingAll_spec (e : Bool) (b : Bdg) (ws : List Wal) (vd : Vld b ws) (k : Nat) (hk : k < b.ss.length) : APure Tryd.prog 83 [encX b ws, .int .i64 k, endV e] (encR (leavesV e b ws k)) := by
  refine Exists.elim (getE hk) fun s hs => ?_
  rw [leavesV_eq hs]
  refine APure.vcM Tryd.func83 (.call (stairsCl e b ws) <| .inl Tryd.f118 <| .inl Tryd.f119 <| .call (takeCl e b ws) .loop) rfl rfl ⟨stairs_spec e b ws, Tryd.func118, Tryd.func119, taking_spec e b ws, ?_⟩
  intro g1 hn1 hlo1
  replace hn1 : g1.n = 41 := hn1
  replace hlo1 : g1.low 5 := hlo1
  refine acode_whileW (cA (.cells [.int .i64 k]) (.cells (endC e)) (.cells [.nil]) (.loop (LA .ready none)) e b ws) (IC e b ws) (fun q => ws.length - q.1) (0, (fun _ => []), []) ⟨Nat.zero_le _, comeF_zero e b ws, ⟨List.nodup_nil, fun j hj => (by cases hj), fun j _ _ => rfl⟩⟩ ?_ ?_
  · refine Wk.trans (Wk.start (c := 8) (M := 7) (B := bA (.cells [.int .i64 k]) (.cells (endC e)) (.cells [.nil]) (.loop (LA .ready none)) b ws) (n := 8) (by kernel_rfl) (by kernel_rfl) (by decide) (hlo1.mono (by decide))) (Wk.trans (Wk.le ?_ (hlo1.mono (show 5 ≤ 8 by decide))) (Wk.loopEnv (id := 4) (n := 4) [(3, .vptr 0 0), (4, .vptr 1 0), (5, .vptr 2 0), (7, .vptr 3 0)] rfl ⟨rfl, rfl, rfl, rfl, rfl, rfl, rfl, rfl, trivial⟩))
    exact St.le.of ⟨by kernel_rfl, rfl, by kernel_rfl, rfl, by kernel_rfl, rfl, by kernel_rfl, rfl, by kernel_rfl, rfl, by kernel_rfl, rfl, trivial⟩ ⟨by kernel_rfl, (by decide : (0 : Nat) < 8), rfl, by kernel_rfl, (by decide : (1 : Nat) < 8), rfl, by kernel_rfl, (by decide : (2 : Nat) < 8), rfl, by kernel_rfl, (by decide : (3 : Nat) < 8), rfl, by kernel_rfl, (by decide : (4 : Nat) < 8), rfl, by kernel_rfl, (by decide : (5 : Nat) < 8), rfl, by kernel_rfl, (by decide : (7 : Nat) < 8), rfl, trivial⟩
  · rintro ⟨n, f, ks⟩ hI
    by_cases hlt : n < ws.length
    · exact comeA _ _ _ _ rfl rfl rfl rfl rfl rfl rfl rfl .cl hn1 hlo1 e b ws vd n f ks hI hlt
    · have hnl : n = ws.length := Nat.le_antisymm hI.1 (Nat.not_lt.1 hlt)
      have hf : f = stF e b ws 0 := by
        have h9 : f = comeF e b (ws.take n) := hI.2.1
        rw [hnl, List.take_length] at h9
        exact h9
      have hks : KsOk f ks := hI.2.2
      have okm := okE_entV (n := 16) (v := vC 8 f) (ks := ks) fun j hj => (show decide (8 + 1 + j < 16) = true from decide_eq_true (by have := hks.lt j hj; omega))
      clear hI hnl
      refine ACode.vcM (.br 18 false .loop) hn1 hlo1 (.roundW .cl) ⟨geLen hlt, _, .refl _, .loop, ?_⟩
      intro g2 hn2 hlo2
      replace hn2 : g2.n = 48 := hn2
      replace hlo2 : g2.low 5 := hlo2
      refine acode_whileW (sA e b ws k) (ISk e b ws k) (fun q => k - q.1) (0, f, ks) ⟨Nat.zero_le _, Nat.zero_le _, hf, hks⟩ ?_ ?_
      · exact Wk.le (St.le.of ⟨by kernel_rfl, rfl, by kernel_rfl, rfl, by kernel_rfl, rfl, by kernel_rfl, rfl, by kernel_rfl, rfl, by kernel_rfl, rfl, trivial⟩ ⟨by kernel_rfl, (by decide : (0 : Nat) < 16), rfl, by kernel_rfl, (by decide : (1 : Nat) < 16), rfl, by kernel_rfl, (by decide : (2 : Nat) < 16), rfl, by kernel_rfl, (by decide : (3 : Nat) < 16), rfl, by kernel_rfl, (by decide : (4 : Nat) < 16), rfl, by kernel_rfl, (by decide : (7 : Nat) < 16), okm, by kernel_rfl, (by decide : (9 : Nat) < 16), iL_ok _ _, by kernel_rfl, (by decide : (10 : Nat) < 16), iL_ok _ _, by kernel_rfl, (by decide : (11 : Nat) < 16), iL_ok _ _, by kernel_rfl, (by decide : (12 : Nat) < 16), iL_ok _ _, by kernel_rfl, (by decide : (13 : Nat) < 16), iL_ok _ _, by kernel_rfl, (by decide : (14 : Nat) < 16), iL_ok _ _, by kernel_rfl, (by decide : (15 : Nat) < 16), iL_ok _ _, trivial⟩) (hlo2.mono (show 5 ≤ 16 by decide))
      · rintro ⟨n, f, ks⟩ hI
        by_cases hlt : n < k
        · exact roundA .cl hn2 hlo2 e b ws vd k hk n f ks hI hlt
        · have hnk : n = k := Nat.le_antisymm hI.1 (Nat.not_lt.1 hlt)
          refine Exists.elim (oneS (e := e) (ws := ws) vd hs) fun k2 h => Exists.elim h fun come h => Exists.elim h fun L h1 => ?_
          have i2 : f = stF e b ws k := by rw [← hnk]; exact hI.2.2.1
          have i3 : KsOk f ks := hI.2.2.2
          rw [← i2] at h1 ⊢
          have eR : leaveV e s (sortV (f (k + 1))) = L := by rw [h1.eL, h1.eC]
          rw [eR]
          subst hnk
          have hbas : basOk 8 7 (bA1 e b ws n) = true := by kernel_rfl
          have hsl := vd.sl
          have hL1 := look1 (f := f) (ks := ks) (k2 := k2) hbas h1.key1 h1.ne (by omega)
          have hdel := delV (h := hget (pulH 8 7 (bA1 e b ws n) f ks k2)) (i := 7) (v := updF (vC 8 f) k2 (.rsl 8 0 (f k2).length 1)) (ks := ks) (k := n + 1) (by kernel_rfl) i3.nd
          rw [h1.key1] at hdel
          have c17 : ((n : Int) == (n : Int)) = true := by simp
          have sN : f (n + 1) = [] → APure Tryd.prog 120 [.nil] (encR come) := fun h => APure.nilArg (e := 1) (by have := h1.sI; rw [h] at this; exact this)
          refine ACode.wk (Wk.pull (c := 8) (M := 7) (B := bA1 e b ws n) (f := f) (ks := ks) (k := k2) (by kernel_rfl) hbas (by decide) h1.k27 i3.lt (hlo2.mono (by decide))) ?_
          by_cases hm1 : (n + 1) ∈ ks
          · exact ACode.vcM (.br 16 true <| .val 20 (.rsl (8 + 1 + (n + 1)) 0 (f (n + 1)).length 1) [] <| .lent (encR come) [8 + 1 + (n + 1)] <| .val 0 .undef [(7, some (.map (entV (updF (vC 8 f) k2 (.rsl 8 0 (f k2).length 1)) (ks.erase (n + 1)))))] <| .br 17 true <| .call (encR L) .nil) hn2 hlo2 (.roundW .cl)
              ⟨ltLen hk, Eq.trans (by kernel_rfl) (hL1.1 hm1), ⟨_, Eq.trans (by kernel_rfl) hL1.2.2, .inr h1.sF⟩, Eq.trans (by kernel_rfl) hdel, c17, h1.sL, _, .refl _, .nil, [], by unfold thaw; exact if_pos rfl⟩
          · have sN := sN (i3.em (n + 1) (by omega) hm1)
            exact ACode.vcM (.br 16 true <| .val 20 .nil [] <| .call (encR come) <| .val 0 .undef [(7, some (.map (entV (updF (vC 8 f) k2 (.rsl 8 0 (f k2).length 1)) (ks.erase (n + 1)))))] <| .br 17 true <| .call (encR L) .nil) hn2 hlo2 (.roundW .cl)
              ⟨ltLen hk, Eq.trans (by kernel_rfl) (hL1.2.1 hm1), sN, Eq.trans (by kernel_rfl) hdel, c17, h1.sL, _, .refl _, .nil, [], by unfold thaw; exact if_pos rfl⟩
end Go.Proofs.YtiggnliiigcjaaaDoor
/-
  THE LEAST AND THE GREATEST TIMES AT WHICH ONE LEAVES A STAIR: Leaves.
-/
namespace Go.Proofs.YtiggnliiigcjaaaDoor
open Go Go.Am
set_option maxRecDepth 100000
set_option maxHeartbeats 8000000
def encSn (l : List Sn) : AV := .lst 2 (l.map cS)
def sL (l : List Sn) : List AV := fl cS l
theorem sL_ok (n : Nat) (l : List Sn) : okL n (sL l) = true := fl_ok (enc := cS) (fun _ => rfl) l
theorem sL_len (l : List Sn) : (sL l).length = l.length * 2 := fl_len (enc := cS) (n := 2) (fun _ => rfl) l
/-- One span more. -/
theorem app_span {h : Nat → Option AObj} {i j nid : Nat} {l : List Sn} {x : Sn} (h0 : h i = some (.cells (sL l))) (h1 : h j = some (.cells (cS x))) (hl : l.length ≤ 100000) :
    aAppend Tryd.prog h nid 52 52 (.rsl i 0 l.length 2) (.rsl j 0 1 2) = some ⟨.rsl nid 0 (l.length + 1) 2, [(i, none), (nid, some (.cells (sL (l ++ [x]))))]⟩ := by
  have e : sL (l ++ [x]) = sL l ++ cS x := by unfold sL fl; rw [List.flatMap_append]; simp
  rw [app_exact h0 (by rw [sL_len]; omega)]
  simp only [aAppend0, ty52, ty28, srcCells, h0, h1]
  simp [sL_len, e, cellB, cS]
  omega
/-- The spans of times that are told for a stair. -/
def spansV (b : Bdg) (ws : List Wal) (k : Nat) : List Sn := (leavesV false b ws k).zip (leavesV true b ws k)
theorem stF_len {b : Bdg} {ws : List Wal} : ∀ i j, (stF false b ws i j).length = (stF true b ws i j).length := by
  intro i
  unfold stF
  suffices h : ∀ z : Int, (stateV false b (comeV false b ws) i z).length = (stateV true b (comeV true b ws) i z).length from fun j => h _
  induction i with
  | zero => intro z; simp [stateV, comeV]
  | succ i ih =>
    intro z
    simp only [stateV]
    have hL : (leaveV false (b.ss.getD i default) (sortV (stateV false b (comeV false b ws) i (i : Int)))).length = (leaveV true (b.ss.getD i default) (sortV (stateV true b (comeV true b ws) i (i : Int)))).length := by
      unfold leaveV; rw [leaveG_len, leaveG_len, len_sortV, len_sortV, ih]
    split <;> split <;> simp only [List.length_append, List.length_nil, hL, ih]
theorem leavesV_len (b : Bdg) (ws : List Wal) (k : Nat) : (leavesV false b ws k).length = (leavesV true b ws k).length := by
  unfold leavesV leaveV
  rw [leaveG_len, leaveG_len, comesV_eq, comesV_eq, len_sortV, len_sortV, stF_len]
theorem leavesV_short {b : Bdg} {ws : List Wal} (vd : Vld b ws) {k : Nat} (hk : k < b.ss.length) (e : Bool) : (leavesV e b ws k).length ≤ 1000 := by
  unfold leavesV leaveV
  rw [leaveG_len, comesV_eq, len_sortV]
  have h1 := (vd.st e k (by omega) (k + 1)).1
  have hp : 2 ^ k ≤ 32 := Nat.le_trans (Nat.pow_le_pow_right (by decide) (by have := vd.sl; omega : k ≤ 5)) (by decide)
  omega
theorem leaves_spec (b : Bdg) (ws : List Wal) (vd : Vld b ws) (k : Nat) (hk : k < b.ss.length) : APure Tryd.prog 59 [encX b ws, .int .i64 k] (encSn (spansV b ws k)) := by
  have s1 := leavingAll_spec false b ws vd k hk
  have s2 := leavingAll_spec true b ws vd k hk
  have hlen := leavesV_len b ws k
  have hsh := leavesV_short vd hk true
  unfold spansV
  generalize leavesV false b ws k = A at *
  generalize leavesV true b ws k = B at *
  refine APure.vcM Tryd.func59 (.call (.tup [endV false, endV true]) <| .draw 7 <| .call (encR A) <| .call (encR B) .loop) rfl rfl ⟨endsV_spec, by kernel_rfl, mixed, by kernel_rfl, s1, by kernel_rfl, s2, ?_⟩
  intro g hn hlo
  replace hn : g.n = 42 := hn
  replace hlo : g.low 0 := hlo
  have hz : ∀ n x y, A[n]? = some x → B[n]? = some y → (A.zip B).take (n + 1) = (A.zip B).take n ++ [(x, y)] := fun n x y h1 h2 => by
    rw [List.take_add_one, List.getElem?_zip_eq_some.2 (show A[n]? = some (x, y).1 ∧ B[n]? = some (x, y).2 from ⟨h1, h2⟩)]; rfl
  have hzl : (A.zip B).length = A.length := by rw [List.length_zip, hlen, Nat.min_self]
  refine acode_whileW (fun n : Nat => ⟨[(7, encR A), (8, encR B), (9, .rsl 15 0 ((A.zip B).take n).length 2), (24, .int .i64 (A.map encI).length), (25, .int .i64 n)], [(15, .cells (sL ((A.zip B).take n)))], 16⟩) (fun n => n ≤ A.length) (fun n => A.length - n) 0 (Nat.zero_le _) ?_ ?_
  · refine Wk.trans (Wk.le ?_ (hlo.mono (Nat.zero_le _))) (Wk.own 9 2 (by kernel_rfl))
    exact St.le.of ⟨by kernel_rfl, rfl, by kernel_rfl, rfl, by kernel_rfl, rfl, by kernel_rfl, rfl, by kernel_rfl, rfl, trivial⟩ ⟨by kernel_rfl, (by decide : (15 : Nat) < 16), sL_ok _ _, trivial⟩
  · intro n hI
    by_cases hlt : n < A.length
    · refine Exists.elim (getE hlt) fun x hx => Exists.elim (getE (show n < B.length by omega)) fun y hy => ?_
      have ek := congrArg (AV.int .i64) (succ64 (k := n) (by omega))
      have hz := hz n x y hx hy
      have hz2 : ((A.zip B).take (n + 1)).length = ((A.zip B).take n).length + 1 := by rw [hz]; simp
      have ap := app_span (h := hget [(15, .cells (sL ((A.zip B).take n))), (26, .cells (cS (x, y)))]) (i := 15) (j := 26) (nid := 29) (l := (A.zip B).take n) (x := (x, y)) rfl rfl (by rw [List.length_take, hzl]; omega)
      rw [← hz, ← hz2] at ap
      exact ACode.vcM (.br 26 true <| .draw 11 <| .cells (encI x) <| .cells (encI y) <| .val 39 (.rsl (29) 0 ((A.zip B).take (n + 1)).length 2) [(15, none), (29, some (.cells (sL ((A.zip B).take (n + 1)))))] .nil) hn hlo (.roundW .cl)
        ⟨ltLen hlt, by kernel_rfl, mixed, by kernel_rfl, idx hx, idx hy, by kernel_rfl, Eq.trans (by kernel_rfl) ap, n + 1, hlt, mu1 hlt,
          Wk.ren (c := 15) (b := 29) (St.ren.of rfl (by decide) ⟨.inl ⟨by kernel_rfl, rfl⟩, .inl ⟨by kernel_rfl, rfl⟩, .inr ⟨_, _, _, rfl, by kernel_rfl⟩, .inl ⟨by kernel_rfl, rfl⟩, .inl ⟨Eq.trans (by kernel_rfl) ek, rfl⟩, trivial⟩ ⟨.inr ⟨rfl, by kernel_rfl, _, rfl, sL_ok _ _⟩, trivial⟩) (hlo.mono (Nat.zero_le _))⟩
    · have hk' : n = A.length := by have h9 : n ≤ A.length := hI; omega
      have et : (A.zip B).take n = A.zip B := by rw [hk', ← hzl, List.take_length]
      have ht := thaw_fl (enc := cS) (n := 2) 6 (h := hget [(15, .cells (sL ((A.zip B).take n)))]) (id := 15) (l := (A.zip B).take n) (fun _ => rfl) (fun _ => rfl) rfl
      have ht2 : thaw 8 (hget [(15, .cells (sL ((A.zip B).take n)))]) (.rsl 15 0 ((A.zip B).take n).length 2) = some (encSn (A.zip B), [15]) := by rw [ht, et]; rfl
      exact ACode.vcM (.br 26 false .nil) hn hlo (.roundW .cl) ⟨geLen hlt, _, .refl _, .nil, [15], Eq.trans (by kernel_rfl) ht2⟩
end Go.Proofs.YtiggnliiigcjaaaDoor
/-
  WHAT IS TOLD OF VALID BUILDINGS AND PEOPLE: Leaves; the last one.
-/
namespace Go.Proofs.YtiggnliiigcjaaaDoor
open Go Go.Am
set_option maxRecDepth 100000
set_option maxHeartbeats 8000000
theorem begin_spec (b : Bdg) (w : List Wal) : APure Tryd.prog 49 [encB b, encW w] (encX b w) := APure.vc Tryd.func49 rfl .nil rfl rfl ⟨trivial, rfl⟩
theorem Leaves_ok (b : Bdg) (w : List Wal) (h1 : bdgB b = true) (h2 : walsB b w = true) (k : Nat) (hk : k < b.ss.length) : APure Tryd.prog 27 [encB b, encW w, .int .i64 k] (.tup [encSn (spansV b w k), .int .i64 0]) := by
  have vd := vld_of h1 h2
  have hsl := vd.sl
  have sC := Check_spec b w
  have hc : checkV b w = 0 := by unfold checkV; rw [if_pos h1, if_pos h2]
  rw [hc] at sC
  have sL := leaves_spec b w vd k hk
  have sW := within1_spec (k : Int) 0 ((b.ss.length : Int) - 1)
  have hin : inB 0 ((b.ss.length : Int) - 1) (k : Int) = true := decide_eq_true ⟨by omega, by omega⟩
  rw [hin] at sW
  have eW : IntKind.i64.wrap (((b.ss.map cSt).length : Int) - 1) = (b.ss.length : Int) - 1 := by rw [List.length_map, wrap64 (by omega) (by omega)]
  have sU : APure Tryd.prog 58 [.int .i64 (IntKind.i64.wrap (((b.ss.map cSt).length : Int) - 1))] (.agg [.int .i64 0, .int .i64 ((b.ss.length : Int) - 1)]) := by rw [eW]; exact upTo_spec _
  exact APure.vcM Tryd.func27 (.call (.int .i64 0) <| .call (.agg [.int .i64 0, .int .i64 ((b.ss.length : Int) - 1)]) <| .lent (.bool true) [1] <| .call (encX b w) <| .call (encSn (spansV b w k)) .nil) rfl rfl
    ⟨sC, sU, ⟨_, by kernel_rfl, .inl ⟨sW, .inr rfl⟩⟩, begin_spec b w, sL, [], by unfold thaw; exact if_pos rfl⟩
end Go.Proofs.YtiggnliiigcjaaaDoor
