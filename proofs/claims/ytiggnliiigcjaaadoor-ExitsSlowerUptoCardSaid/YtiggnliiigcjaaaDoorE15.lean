import Derived.Test.YtiggnliiigcjaaaDoorE12
/-
  THOSE WHO COME OUT OF CHAMBERS: one round, where all stairs are gone through; the greatest of times.
-/
namespace Go.Proofs.YtiggnliiigcjaaaDoor
open Go Go.Am
set_option maxRecDepth 100000
set_option maxHeartbeats 8000000
def bL (o1 : AObj) (o2 : AObj) (o4 : AObj) (b : Bdg) (ws : List Wal) : AHeap := [(0, .cells (xC b ws)), (1, o1), (2, o2), (4, o4), (5, .cells (xC b ws))]
def cL (o1 : AObj) (o2 : AObj) (o4 : AObj) (e : Bool) (b : Bdg) (ws : List Wal) (q : Nat × (Nat → List Int) × List Nat) : St :=
  ⟨[(2, .vptr 5 0), (5, .mref 7), (6, takeCl e b ws), (15, encW ws), (16, .int .i64 (ws.map cWa).length), (17, .int .i64 q.1)], canH 8 7 (bL o1 o2 o4 b ws) q.2.1 q.2.2, 16⟩
theorem comeL (o1 : AObj) (o2 : AObj) (o4 : AObj) (ok1 : okO 8 o1 = true) (ok1' : okO 28 o1 = true) (ok2 : okO 8 o2 = true) (ok2' : okO 28 o2 = true) (ok4 : okO 8 o4 = true) (ok4' : okO 28 o4 = true) {g : G} {Q : AX → St → Prop} (hQ : EClosed Q) (hn : g.n = 41) (hlo : g.low 5) (e : Bool) (b : Bdg) (ws : List Wal) (vd : Vld b ws) (n : Nat) (f : Nat → List Int) (ks : List Nat) (hI : IC e b ws (n, f, ks)) (hlt : n < ws.length) :
    ACode Tryd.prog none g (lpB Tryd.f119) (AX.then (RoundW g (cL o1 o2 o4 e b ws) (IC e b ws) (fun q => ws.length - q.1) (n, f, ks)) Q) (cL o1 o2 o4 e b ws (n, f, ks)) := by
  refine Exists.elim (getE hlt) fun w hw => ?_
  refine Exists.elim (oneW (e := e) vd hw) fun c h => Exists.elim h fun j h => Exists.elim h fun t h1 => ?_
  have i2 : f = comeF e b (ws.take n) := hI.2.1
  have i3 : KsOk f ks := hI.2.2
  rw [← i2] at h1
  have h0 : okO 8 (.cells (xC b ws)) = true := rfl
  have hbas : basOk 8 7 (bL o1 o2 o4 b ws) = true := by
    simp only [basOk, bL, List.all_cons, List.all_nil, h0, ok1, ok2, ok4]
    rfl
  have hP := oneP (h := hget (pulH 8 7 (bL o1 o2 o4 b ws) f ks j)) (t := t) (nid := 27) (bid := 26) i3 h1.j7 h1.key (by decide) (by decide) (by have := h1.len; omega) (by kernel_rfl)
  refine ACode.wk (Wk.pull (c := 8) (M := 7) (B := bL o1 o2 o4 b ws) (f := f) (ks := ks) (k := j) (by kernel_rfl) hbas (by decide) h1.j7 i3.lt (hlo.mono (by decide))) ?_
  by_cases hm : j ∈ ks
  · have h2 := hP.1 hm
    exact ACode.vcM (.br 18 true <| .cells (cWa w) <| .cells (cCh c) <| .draw 10 <| .val 33 (.rsl 8 0 (f j).length 1) [] <| .call (.int .i64 t) <| .val 38 (.rsl 27 0 (f j ++ [t]).length 1) [(8, none), (27, some (.cells (iL (f j ++ [t]))))] <| .val 0 .undef [(7, some (.map (entV (updF (vC 8 f) j (.rsl 27 0 (f j ++ [t]).length 1)) ks)))] .nil) hn hlo (.roundW hQ)
      ⟨ltLen hlt, idx hw, h1.hi, by kernel_rfl, mixed, by kernel_rfl, Eq.trans (by kernel_rfl) h2.lk, h1.sT, Eq.trans (by kernel_rfl) h2.ap, by kernel_rfl, Eq.trans (by kernel_rfl) h2.pv, (n + 1, updF f j (f j ++ [t]), ks), ⟨hlt, h1.nx, h2.ok⟩, mu1 hlt,
        Wk.trans (Wk.push (c := 8) (M := 7) (B := bL o1 o2 o4 b ws) (f := f) (ks := ks) (k := j) (x := f j ++ [t]) (nid := 27) (by kernel_rfl) hbas (by decide) h1.j7 h2.ok.lt (by decide) (hlo.mono (by decide))) (Wk.le (St.le.of ⟨by kernel_rfl, rfl, by kernel_rfl, rfl, by kernel_rfl, rfl, by kernel_rfl, rfl, by kernel_rfl, rfl, Eq.trans (by kernel_rfl) h1.ek, rfl, trivial⟩ ⟨by kernel_rfl, (by decide : (0 : Nat) < 28), rfl, by kernel_rfl, (by decide : (1 : Nat) < 28), ok1', by kernel_rfl, (by decide : (2 : Nat) < 28), ok2', by kernel_rfl, (by decide : (4 : Nat) < 28), ok4', by kernel_rfl, (by decide : (5 : Nat) < 28), rfl, by kernel_rfl, (by decide : (7 : Nat) < 28), h2.okm, by kernel_rfl, (by decide : (27 : Nat) < 28), iL_ok _ _, by kernel_rfl, (by decide : (9 : Nat) < 28), iL_ok _ _, by kernel_rfl, (by decide : (10 : Nat) < 28), iL_ok _ _, by kernel_rfl, (by decide : (11 : Nat) < 28), iL_ok _ _, by kernel_rfl, (by decide : (12 : Nat) < 28), iL_ok _ _, by kernel_rfl, (by decide : (13 : Nat) < 28), iL_ok _ _, by kernel_rfl, (by decide : (14 : Nat) < 28), iL_ok _ _, by kernel_rfl, (by decide : (15 : Nat) < 28), iL_ok _ _, trivial⟩) (hlo.mono (show 5 ≤ 28 by decide)))⟩
  · have h2 := hP.2 hm
    exact ACode.vcM (.br 18 true <| .cells (cWa w) <| .cells (cCh c) <| .draw 10 <| .val 33 (.nil) [] <| .call (.int .i64 t) <| .val 38 (.rsl 27 0 (f j ++ [t]).length 1) [(27, some (.cells (iL (f j ++ [t]))))] <| .val 0 .undef [(7, some (.map (entV (updF (vC 8 f) j (.rsl 27 0 (f j ++ [t]).length 1)) (ks ++ [j]))))] .nil) hn hlo (.roundW hQ)
      ⟨ltLen hlt, idx hw, h1.hi, by kernel_rfl, mixed, by kernel_rfl, Eq.trans (by kernel_rfl) h2.lk, h1.sT, Eq.trans (by kernel_rfl) h2.ap, by kernel_rfl, Eq.trans (by kernel_rfl) h2.pv, (n + 1, updF f j (f j ++ [t]), (ks ++ [j])), ⟨hlt, h1.nx, h2.ok⟩, mu1 hlt,
        Wk.trans (Wk.push (c := 8) (M := 7) (B := bL o1 o2 o4 b ws) (f := f) (ks := (ks ++ [j])) (k := j) (x := f j ++ [t]) (nid := 27) (by kernel_rfl) hbas (by decide) h1.j7 h2.ok.lt (by decide) (hlo.mono (by decide))) (Wk.le (St.le.of ⟨by kernel_rfl, rfl, by kernel_rfl, rfl, by kernel_rfl, rfl, by kernel_rfl, rfl, by kernel_rfl, rfl, Eq.trans (by kernel_rfl) h1.ek, rfl, trivial⟩ ⟨by kernel_rfl, (by decide : (0 : Nat) < 28), rfl, by kernel_rfl, (by decide : (1 : Nat) < 28), ok1', by kernel_rfl, (by decide : (2 : Nat) < 28), ok2', by kernel_rfl, (by decide : (4 : Nat) < 28), ok4', by kernel_rfl, (by decide : (5 : Nat) < 28), rfl, by kernel_rfl, (by decide : (7 : Nat) < 28), h2.okm, by kernel_rfl, (by decide : (27 : Nat) < 28), iL_ok _ _, by kernel_rfl, (by decide : (9 : Nat) < 28), iL_ok _ _, by kernel_rfl, (by decide : (10 : Nat) < 28), iL_ok _ _, by kernel_rfl, (by decide : (11 : Nat) < 28), iL_ok _ _, by kernel_rfl, (by decide : (12 : Nat) < 28), iL_ok _ _, by kernel_rfl, (by decide : (13 : Nat) < 28), iL_ok _ _, by kernel_rfl, (by decide : (14 : Nat) < 28), iL_ok _ _, by kernel_rfl, (by decide : (15 : Nat) < 28), iL_ok _ _, trivial⟩) (hlo.mono (show 5 ≤ 28 by decide)))⟩
/-- The greatest one. -/
def maxV : List Int → Int
  | [] => 0
  | x :: r => r.foldl max x
theorem Max_spec (x : Int) (r : List Int) (hl : r.length ≤ 100000) : APure Tryd.prog 107 [encR (x :: r)] (.int .i64 (maxV (x :: r))) := by
  have d7 : decide ((((x :: r).map encI).length : Int) < 1) = false := decide_eq_false (by simp; omega)
  have i0 : (0 : Int) ≤ 0 ∧ ((x :: r).map encI)[(0 : Int).toNat]? = some (encI x) := ⟨Int.le_refl _, rfl⟩
  refine APure.vc Tryd.func107 rfl (.br 7 false <| .cells (encI x) .loop) rfl rfl ⟨d7, i0, ?_⟩
  intro g hn hlo
  replace hn : g.n = 25 := hn
  replace hlo : g.low 0 := hlo
  refine acode_while (fun k : Nat => ⟨[(0, encR (x :: r)), (3, .int .i64 ((r.take k).foldl max x)), (4, .int .i64 ((k : Int) + 1))], [], 0⟩) (fun k => k ≤ r.length) (fun k => r.length - k) 0 (Nat.zero_le _) ?_ (fun _ _ => hlo) ?_
  · exact St.le.of ⟨by kernel_rfl, rfl, by kernel_rfl, rfl, by kernel_rfl, rfl, trivial⟩ trivial
  · intro k hk
    by_cases hlt : k < r.length
    · refine Exists.elim (getE hlt) fun y hy => ?_
      have d15 : decide (((k : Int) + 1) < (((x :: r).map encI).length : Int)) = true := decide_eq_true (by simp; omega)
      have iy : (0 : Int) ≤ (k : Int) + 1 ∧ ((x :: r).map encI)[((k : Int) + 1).toNat]? = some (encI y) := ⟨by omega, by rw [show ((k : Int) + 1).toNat = k + 1 by omega]; simp [hy]⟩
      have ek : AV.int .i64 (IntKind.i64.wrap ((k : Int) + 1 + 1)) = .int .i64 (((k + 1 : Nat) : Int) + 1) := by rw [wrap64 (by omega) (by omega)]; congr 1
      have et : (r.take (k + 1)).foldl max x = max ((r.take k).foldl max x) y := by rw [List.take_add_one, hy]; simp [List.foldl_append]
      have em : some (⟨.int .i64 (if y > (r.take k).foldl max x then y else (r.take k).foldl max x), []⟩ : Out) = some ⟨.int .i64 ((r.take (k + 1)).foldl max x), []⟩ := by
        rw [et, Int.max_def]; split <;> split <;> first | rfl | (congr 3; omega)
      exact ACode.vc (.br 15 true <| .cells (encI y) <| .val 23 (.int .i64 ((r.take (k + 1)).foldl max x)) [] .nil) hn hlo (.round .cl) ⟨d15, iy, Eq.trans (by kernel_rfl) em, k + 1, hlt, mu1 hlt, St.le.of ⟨by kernel_rfl, rfl, by kernel_rfl, rfl, Eq.trans (by kernel_rfl) ek, rfl, trivial⟩ trivial⟩
    · have hk' : k = r.length := by omega
      have d15 : decide (((k : Int) + 1) < (((x :: r).map encI).length : Int)) = false := decide_eq_false (by simp; omega)
      have e : (r.take k).foldl max x = maxV (x :: r) := by rw [hk', List.take_length]; rfl
      exact ACode.vc (.br 15 false .nil) hn hlo (.round .cl) ⟨d15, _, .refl _, .nil, rI e⟩
/-- When the last one is out, of the first stairs. -/
def lastS (e : Bool) (b : Bdg) (ws : List Wal) : Nat → Int
  | 0 => 0
  | n + 1 => if (b.ss.getD n default).nx == -1 && decide (0 < (comesV e b ws n).length) then max (lastS e b ws n) (maxV (leavesV e b ws n)) else lastS e b ws n
end Go.Proofs.YtiggnliiigcjaaaDoor
/-
  FROM STAIR TO STAIR: when the last one is out; one round, whose people have come.
-/
namespace Go.Proofs.YtiggnliiigcjaaaDoor
open Go Go.Am
set_option maxRecDepth 100000
set_option maxHeartbeats 8000000
noncomputable def asgLL : Code := rfA Tryd.f84
noncomputable def bodLL : Code := rfB Tryd.f84
noncomputable def LL (st : LoopState) (pd : Option Code) : ALoop := ⟨st, pd, 35, [(2, .vptr 0 0), (3, .vptr 1 0), (5, .vptr 2 0)], #[11, 12], asgLL, bodLL⟩
noncomputable def bL1 (e : Bool) (b : Bdg) (ws : List Wal) (v : Int) : AHeap := [(0, .cells (xC b ws)), (1, .cells (endC e)), (2, .cells [.int .i64 v]), (4, .loop (LL .ready none))]
noncomputable def sLL (e : Bool) (b : Bdg) (ws : List Wal) (q : Nat × (Nat → List Int) × List Nat) : St :=
  ⟨[(0, .yld 4), (1, .cptr (xC b ws)), (2, .cptr (endC e)), (4, .mref 7), (14, .int .i64 (b.ss.map cSt).length), (15, .int .i64 q.1)], canH 8 7 (bL1 e b ws (lastS e b ws q.1)) q.2.1 q.2.2, 16⟩
theorem lastS_stay {e : Bool} {b : Bdg} {ws : List Wal} {n : Nat} {s : Sta} (hs : b.ss[n]? = some s) (h : s.nx ≠ -1 ∨ comesV e b ws n = []) : lastS e b ws (n + 1) = lastS e b ws n := by
  have hd : b.ss.getD n default = s := by rw [List.getD_eq_getElem?_getD, hs]; rfl
  simp only [lastS, hd]
  rw [if_neg]
  rcases h with h | h
  · simp [h]
  · simp [h]
theorem lastS_max {e : Bool} {b : Bdg} {ws : List Wal} {n : Nat} {s : Sta} (hs : b.ss[n]? = some s) (h : s.nx = -1) (h2 : comesV e b ws n ≠ []) : lastS e b ws (n + 1) = max (lastS e b ws n) (maxV (leavesV e b ws n)) := by
  have hd : b.ss.getD n default = s := by rw [List.getD_eq_getElem?_getD, hs]; rfl
  simp only [lastS, hd]
  rw [if_pos]
  have : 0 < (comesV e b ws n).length := List.length_pos_iff.2 h2
  simp [h, this]
theorem roundL1 {g : G} {Q : AX → St → Prop} (hQ : EClosed Q) (hn : g.n = 48) (hlo : g.low 5) (e : Bool) (b : Bdg) (ws : List Wal) (vd : Vld b ws) (n : Nat) (f : Nat → List Int) (ks : List Nat) (hI : IS e b ws (n, f, ks)) (hlt : n < b.ss.length) (hm1 : (n + 1) ∈ ks) :
    ACode Tryd.prog none g (lpB Tryd.f118) (AX.then (RoundW g (sLL e b ws) (IS e b ws) (fun q => b.ss.length - q.1) (n, f, ks)) Q) (sLL e b ws (n, f, ks)) := by
  have hnl := hlt
  refine Exists.elim (getE hnl) fun s hs => ?_
  refine Exists.elim (oneS (e := e) (ws := ws) vd hs) fun k2 h => Exists.elim h fun come h => Exists.elim h fun L h1 => ?_
  have i2 : f = stF e b ws n := hI.2.1
  have i3 : KsOk f ks := hI.2.2
  rw [← i2] at h1
  have eCm : comesV e b ws n = come := by rw [comesV_eq, ← i2, h1.eC]
  have eLv : leavesV e b ws n = L := by rw [leavesV_eq hs, ← i2, h1.eL, h1.eC]
  have hLl : L.length = come.length := by rw [h1.eL]; unfold leaveV; rw [leaveG_len]
  have hst := lastS_stay (e := e) (ws := ws) hs
  have hmx := lastS_max (e := e) (ws := ws) hs
  rw [eCm] at hst hmx
  rw [eLv] at hmx
  have hbas : ∀ v, basOk 8 7 (bL1 e b ws v) = true := fun v => rfl
  have hsl := vd.sl
  obtain ⟨v, hv⟩ : ∃ v, v = lastS e b ws n := ⟨_, rfl⟩
  rw [← hv] at hst hmx
  have hL1 := look1 (f := f) (ks := ks) (k2 := k2) (hbas v) h1.key1 h1.ne (by omega)
  have hdel := delV (h := hget (pulH 8 7 (bL1 e b ws v) f ks k2)) (i := 7) (v := updF (vC 8 f) k2 (.rsl 8 0 (f k2).length 1)) (ks := ks) (k := n + 1) (by kernel_rfl) i3.nd
  rw [h1.key1] at hdel
  have hdk := i3.del (n + 1)
  have hP := fun nid (h16 : 16 ≤ nid) => twoP (h := hget (pulH 8 7 (bL1 e b ws v) f (ks.erase (n + 1)) k2)) (f := f) (ks := ks.erase (n + 1)) (L := L) (nid := nid) hdk.nd hdk.lt h1.k27 (fun hm => i3.em k2 h1.k27 fun hk => hm ((List.mem_erase_of_ne (Ne.symm h1.ne)).2 hk)) h1.key2 h16 h1.len (by kernel_rfl)
  have hput := hdk.put h1.k27 (f k2 ++ L)
  have hne : (n + 1) ∉ ks.erase (n + 1) := fun h => absurd h (i3.nd.not_mem_erase)
  have hne2 : (n + 1) ∉ ks.erase (n + 1) ++ [k2] := fun h => by
    rcases List.mem_append.1 h with h | h
    · exact hne h
    · simp at h; exact h1.ne h
  have sN : f (n + 1) = [] → APure Tryd.prog 120 [.nil] (encR come) := fun h => APure.nilArg (e := 1) (by have := h1.sI; rw [h] at this; exact this)
  have hstart : sLL e b ws (n, f, ks) = ⟨[(0, .yld 4), (1, .cptr (xC b ws)), (2, .cptr (endC e)), (4, .mref 7), (14, .int .i64 (b.ss.map cSt).length), (15, .int .i64 n)], canH 8 7 (bL1 e b ws v) f ks, 16⟩ := by rw [hv]; rfl
  rw [hstart]
  refine ACode.wk (Wk.pull (c := 8) (M := 7) (B := bL1 e b ws v) (f := f) (ks := ks) (k := k2) (by kernel_rfl) (hbas v) (by decide) h1.k27 i3.lt (hlo.mono (by decide))) ?_
  cases c20 : (s.nx == -1)
  · have hx1 : s.nx ≠ -1 := fun h => by rw [h] at c20; cases c20
    have hob : some (AObj.cells [.int .i64 v]) = some (.cells [.int .i64 (lastS e b ws (n + 1))]) := by rw [hst (.inl hx1)]
    by_cases hm2 : k2 ∈ ks.erase (n + 1)
    · skip
      have h2 := (hP 27 (by decide)).1 hm2
      have hp := hput
      have hnx := h1.nx
      rw [if_pos hm2] at hp
      exact ACode.vcM (.br 16 true <| .val 20 (.rsl (8 + 1 + (n + 1)) 0 (f (n + 1)).length 1) [] <| .lent (encR come) [8 + 1 + (n + 1)] <| .val 0 .undef [(7, some (.map (entV (updF (vC 8 f) k2 (.rsl 8 0 (f k2).length 1)) (ks.erase (n + 1)))))] <| .cells (cSt s) <| .br 21 false <| .cells (cSt s) <| .draw 11 <| .val 40 (.rsl 8 0 (f k2).length 1) [] <| .call (encR L) <| .val 46 (.rsl 27 0 (f k2 ++ L).length 1) [(8, none), (27, some (.cells (iL (f k2 ++ L))))] <| .val 0 .undef [(7, some (.map (entV (updF (vC 8 f) k2 (.rsl 27 0 (f k2 ++ L).length 1)) (ks.erase (n + 1)))))] .nil) hn hlo (.roundW hQ)
        ⟨ltLen hnl, Eq.trans (by kernel_rfl) (hL1.1 hm1), ⟨_, Eq.trans (by kernel_rfl) hL1.2.2, .inr h1.sF⟩, Eq.trans (by kernel_rfl) hdel, idx hs, c20, idx hs, by kernel_rfl, mixed, by kernel_rfl, Eq.trans (by kernel_rfl) h2.lk, h1.sL, Eq.trans (by kernel_rfl) h2.ap, by kernel_rfl, Eq.trans (by kernel_rfl) h2.pv, (n + 1, updF (updF f (n + 1) []) k2 (f k2 ++ L), (ks.erase (n + 1))), ⟨hlt, hnx, hp⟩, mu1 hlt,
          Wk.trans (Wk.push2 (c := 8) (M := 7) (B := bL1 e b ws (lastS e b ws (n + 1))) (f := f) (ks := ks.erase (n + 1)) (k := k2) (k1 := n + 1) (x := f k2 ++ L) (nid := 27) (by kernel_rfl) (hbas _) (by decide) h1.k27 hdk.lt hne h1.ne (by decide) (hlo.mono (by decide))) (Wk.le (St.le.of ⟨by kernel_rfl, rfl, by kernel_rfl, rfl, by kernel_rfl, rfl, by kernel_rfl, rfl, by kernel_rfl, rfl, Eq.trans (by kernel_rfl) h1.ek, rfl, trivial⟩ ⟨by kernel_rfl, (by decide : (0 : Nat) < 28), rfl, by kernel_rfl, (by decide : (1 : Nat) < 28), rfl, Eq.trans (by kernel_rfl) hob, (by decide : (2 : Nat) < 28), rfl, by kernel_rfl, (by decide : (4 : Nat) < 28), rfl, by kernel_rfl, (by decide : (7 : Nat) < 28), h2.okm, by kernel_rfl, (by decide : (27 : Nat) < 28), iL_ok _ _, by kernel_rfl, (by decide : (9 : Nat) < 28), iL_ok _ _, by kernel_rfl, (by decide : (10 : Nat) < 28), iL_ok _ _, by kernel_rfl, (by decide : (11 : Nat) < 28), iL_ok _ _, by kernel_rfl, (by decide : (12 : Nat) < 28), iL_ok _ _, by kernel_rfl, (by decide : (13 : Nat) < 28), iL_ok _ _, by kernel_rfl, (by decide : (14 : Nat) < 28), iL_ok _ _, by kernel_rfl, (by decide : (15 : Nat) < 28), iL_ok _ _, trivial⟩) (hlo.mono (show 5 ≤ 28 by decide)))⟩
    · by_cases hLe : L = []
      · skip
        have hx : f k2 ++ L = [] := by rw [hLe, i3.em k2 h1.k27 fun hk => hm2 ((List.mem_erase_of_ne (Ne.symm h1.ne)).2 hk)]; rfl
        have h2 := (hP 27 (by decide)).2.2 hm2 hLe
        have hp := hput
        have hnx := h1.nx
        rw [if_neg hm2, hx] at hp
        rw [hx] at hnx
        exact ACode.vcM (.br 16 true <| .val 20 (.rsl (8 + 1 + (n + 1)) 0 (f (n + 1)).length 1) [] <| .lent (encR come) [8 + 1 + (n + 1)] <| .val 0 .undef [(7, some (.map (entV (updF (vC 8 f) k2 (.rsl 8 0 (f k2).length 1)) (ks.erase (n + 1)))))] <| .cells (cSt s) <| .br 21 false <| .cells (cSt s) <| .draw 11 <| .val 40 (.nil) [] <| .call (encR L) <| .val 46 (.nil) [] <| .val 0 .undef [(7, some (.map (entV (updF (vC 8 f) k2 (.nil)) (ks.erase (n + 1) ++ [k2]))))] .nil) hn hlo (.roundW hQ)
          ⟨ltLen hnl, Eq.trans (by kernel_rfl) (hL1.1 hm1), ⟨_, Eq.trans (by kernel_rfl) hL1.2.2, .inr h1.sF⟩, Eq.trans (by kernel_rfl) hdel, idx hs, c20, idx hs, by kernel_rfl, mixed, by kernel_rfl, Eq.trans (by kernel_rfl) h2.lk, h1.sL, Eq.trans (by kernel_rfl) h2.ap, by kernel_rfl, Eq.trans (by kernel_rfl) h2.pv, (n + 1, updF (updF f (n + 1) []) k2 [], (ks.erase (n + 1) ++ [k2])), ⟨hlt, hnx, hp⟩, mu1 hlt,
            Wk.trans (Wk.push2N (c := 8) (M := 7) (B := bL1 e b ws (lastS e b ws (n + 1))) (f := f) (ks := ks.erase (n + 1) ++ [k2]) (k := k2) (k1 := n + 1) (n := 28) (by kernel_rfl) (hbas _) (by decide) h1.k27 hp.lt hne2 h1.ne (hlo.mono (by decide))) (Wk.le (St.le.of ⟨by kernel_rfl, rfl, by kernel_rfl, rfl, by kernel_rfl, rfl, by kernel_rfl, rfl, by kernel_rfl, rfl, Eq.trans (by kernel_rfl) h1.ek, rfl, trivial⟩ ⟨by kernel_rfl, (by decide : (0 : Nat) < 28), rfl, by kernel_rfl, (by decide : (1 : Nat) < 28), rfl, Eq.trans (by kernel_rfl) hob, (by decide : (2 : Nat) < 28), rfl, by kernel_rfl, (by decide : (4 : Nat) < 28), rfl, by kernel_rfl, (by decide : (7 : Nat) < 28), h2.okm, by kernel_rfl, (by decide : (9 : Nat) < 28), iL_ok _ _, by kernel_rfl, (by decide : (10 : Nat) < 28), iL_ok _ _, by kernel_rfl, (by decide : (11 : Nat) < 28), iL_ok _ _, by kernel_rfl, (by decide : (12 : Nat) < 28), iL_ok _ _, by kernel_rfl, (by decide : (13 : Nat) < 28), iL_ok _ _, by kernel_rfl, (by decide : (14 : Nat) < 28), iL_ok _ _, by kernel_rfl, (by decide : (15 : Nat) < 28), iL_ok _ _, trivial⟩) (hlo.mono (show 5 ≤ 28 by decide)))⟩
      · skip
        have h2 := (hP 27 (by decide)).2.1 hm2 hLe
        have hp := hput
        have hnx := h1.nx
        rw [if_neg hm2] at hp
        exact ACode.vcM (.br 16 true <| .val 20 (.rsl (8 + 1 + (n + 1)) 0 (f (n + 1)).length 1) [] <| .lent (encR come) [8 + 1 + (n + 1)] <| .val 0 .undef [(7, some (.map (entV (updF (vC 8 f) k2 (.rsl 8 0 (f k2).length 1)) (ks.erase (n + 1)))))] <| .cells (cSt s) <| .br 21 false <| .cells (cSt s) <| .draw 11 <| .val 40 (.nil) [] <| .call (encR L) <| .val 46 (.rsl 27 0 (f k2 ++ L).length 1) [(27, some (.cells (iL (f k2 ++ L))))] <| .val 0 .undef [(7, some (.map (entV (updF (vC 8 f) k2 (.rsl 27 0 (f k2 ++ L).length 1)) (ks.erase (n + 1) ++ [k2]))))] .nil) hn hlo (.roundW hQ)
          ⟨ltLen hnl, Eq.trans (by kernel_rfl) (hL1.1 hm1), ⟨_, Eq.trans (by kernel_rfl) hL1.2.2, .inr h1.sF⟩, Eq.trans (by kernel_rfl) hdel, idx hs, c20, idx hs, by kernel_rfl, mixed, by kernel_rfl, Eq.trans (by kernel_rfl) h2.lk, h1.sL, Eq.trans (by kernel_rfl) h2.ap, by kernel_rfl, Eq.trans (by kernel_rfl) h2.pv, (n + 1, updF (updF f (n + 1) []) k2 (f k2 ++ L), (ks.erase (n + 1) ++ [k2])), ⟨hlt, hnx, hp⟩, mu1 hlt,
            Wk.trans (Wk.push2 (c := 8) (M := 7) (B := bL1 e b ws (lastS e b ws (n + 1))) (f := f) (ks := ks.erase (n + 1) ++ [k2]) (k := k2) (k1 := n + 1) (x := f k2 ++ L) (nid := 27) (by kernel_rfl) (hbas _) (by decide) h1.k27 hp.lt hne2 h1.ne (by decide) (hlo.mono (by decide))) (Wk.le (St.le.of ⟨by kernel_rfl, rfl, by kernel_rfl, rfl, by kernel_rfl, rfl, by kernel_rfl, rfl, by kernel_rfl, rfl, Eq.trans (by kernel_rfl) h1.ek, rfl, trivial⟩ ⟨by kernel_rfl, (by decide : (0 : Nat) < 28), rfl, by kernel_rfl, (by decide : (1 : Nat) < 28), rfl, Eq.trans (by kernel_rfl) hob, (by decide : (2 : Nat) < 28), rfl, by kernel_rfl, (by decide : (4 : Nat) < 28), rfl, by kernel_rfl, (by decide : (7 : Nat) < 28), h2.okm, by kernel_rfl, (by decide : (27 : Nat) < 28), iL_ok _ _, by kernel_rfl, (by decide : (9 : Nat) < 28), iL_ok _ _, by kernel_rfl, (by decide : (10 : Nat) < 28), iL_ok _ _, by kernel_rfl, (by decide : (11 : Nat) < 28), iL_ok _ _, by kernel_rfl, (by decide : (12 : Nat) < 28), iL_ok _ _, by kernel_rfl, (by decide : (13 : Nat) < 28), iL_ok _ _, by kernel_rfl, (by decide : (14 : Nat) < 28), iL_ok _ _, by kernel_rfl, (by decide : (15 : Nat) < 28), iL_ok _ _, trivial⟩) (hlo.mono (show 5 ≤ 28 by decide)))⟩
  · have hx1 : s.nx = -1 := by simpa using c20
    by_cases hce : come = []
    · have hLe : L = [] := List.eq_nil_of_length_eq_zero (by rw [hLl, hce]; rfl)
      have c24 : decide (((come.map encI).length : Int) > 0) = false := decide_eq_false (by rw [hce]; simp)
      have hob : some (AObj.cells [.int .i64 v]) = some (.cells [.int .i64 (lastS e b ws (n + 1))]) := by rw [hst (.inr hce)]
      by_cases hm2 : k2 ∈ ks.erase (n + 1)
      · skip
        have h2 := (hP 27 (by decide)).1 hm2
        have hp := hput
        have hnx := h1.nx
        rw [if_pos hm2] at hp
        exact ACode.vcM (.br 16 true <| .val 20 (.rsl (8 + 1 + (n + 1)) 0 (f (n + 1)).length 1) [] <| .lent (encR come) [8 + 1 + (n + 1)] <| .val 0 .undef [(7, some (.map (entV (updF (vC 8 f) k2 (.rsl 8 0 (f k2).length 1)) (ks.erase (n + 1)))))] <| .cells (cSt s) <| .br 21 true <| .br 25 false <| .cells (cSt s) <| .draw 11 <| .val 40 (.rsl 8 0 (f k2).length 1) [] <| .call (encR L) <| .val 46 (.rsl 27 0 (f k2 ++ L).length 1) [(8, none), (27, some (.cells (iL (f k2 ++ L))))] <| .val 0 .undef [(7, some (.map (entV (updF (vC 8 f) k2 (.rsl 27 0 (f k2 ++ L).length 1)) (ks.erase (n + 1)))))] .nil) hn hlo (.roundW hQ)
          ⟨ltLen hnl, Eq.trans (by kernel_rfl) (hL1.1 hm1), ⟨_, Eq.trans (by kernel_rfl) hL1.2.2, .inr h1.sF⟩, Eq.trans (by kernel_rfl) hdel, idx hs, c20, c24, idx hs, by kernel_rfl, mixed, by kernel_rfl, Eq.trans (by kernel_rfl) h2.lk, h1.sL, Eq.trans (by kernel_rfl) h2.ap, by kernel_rfl, Eq.trans (by kernel_rfl) h2.pv, (n + 1, updF (updF f (n + 1) []) k2 (f k2 ++ L), (ks.erase (n + 1))), ⟨hlt, hnx, hp⟩, mu1 hlt,
            Wk.trans (Wk.push2 (c := 8) (M := 7) (B := bL1 e b ws (lastS e b ws (n + 1))) (f := f) (ks := ks.erase (n + 1)) (k := k2) (k1 := n + 1) (x := f k2 ++ L) (nid := 27) (by kernel_rfl) (hbas _) (by decide) h1.k27 hdk.lt hne h1.ne (by decide) (hlo.mono (by decide))) (Wk.le (St.le.of ⟨by kernel_rfl, rfl, by kernel_rfl, rfl, by kernel_rfl, rfl, by kernel_rfl, rfl, by kernel_rfl, rfl, Eq.trans (by kernel_rfl) h1.ek, rfl, trivial⟩ ⟨by kernel_rfl, (by decide : (0 : Nat) < 28), rfl, by kernel_rfl, (by decide : (1 : Nat) < 28), rfl, Eq.trans (by kernel_rfl) hob, (by decide : (2 : Nat) < 28), rfl, by kernel_rfl, (by decide : (4 : Nat) < 28), rfl, by kernel_rfl, (by decide : (7 : Nat) < 28), h2.okm, by kernel_rfl, (by decide : (27 : Nat) < 28), iL_ok _ _, by kernel_rfl, (by decide : (9 : Nat) < 28), iL_ok _ _, by kernel_rfl, (by decide : (10 : Nat) < 28), iL_ok _ _, by kernel_rfl, (by decide : (11 : Nat) < 28), iL_ok _ _, by kernel_rfl, (by decide : (12 : Nat) < 28), iL_ok _ _, by kernel_rfl, (by decide : (13 : Nat) < 28), iL_ok _ _, by kernel_rfl, (by decide : (14 : Nat) < 28), iL_ok _ _, by kernel_rfl, (by decide : (15 : Nat) < 28), iL_ok _ _, trivial⟩) (hlo.mono (show 5 ≤ 28 by decide)))⟩
      · skip
        have hx : f k2 ++ L = [] := by rw [hLe, i3.em k2 h1.k27 fun hk => hm2 ((List.mem_erase_of_ne (Ne.symm h1.ne)).2 hk)]; rfl
        have h2 := (hP 27 (by decide)).2.2 hm2 hLe
        have hp := hput
        have hnx := h1.nx
        rw [if_neg hm2, hx] at hp
        rw [hx] at hnx
        exact ACode.vcM (.br 16 true <| .val 20 (.rsl (8 + 1 + (n + 1)) 0 (f (n + 1)).length 1) [] <| .lent (encR come) [8 + 1 + (n + 1)] <| .val 0 .undef [(7, some (.map (entV (updF (vC 8 f) k2 (.rsl 8 0 (f k2).length 1)) (ks.erase (n + 1)))))] <| .cells (cSt s) <| .br 21 true <| .br 25 false <| .cells (cSt s) <| .draw 11 <| .val 40 (.nil) [] <| .call (encR L) <| .val 46 (.nil) [] <| .val 0 .undef [(7, some (.map (entV (updF (vC 8 f) k2 (.nil)) (ks.erase (n + 1) ++ [k2]))))] .nil) hn hlo (.roundW hQ)
          ⟨ltLen hnl, Eq.trans (by kernel_rfl) (hL1.1 hm1), ⟨_, Eq.trans (by kernel_rfl) hL1.2.2, .inr h1.sF⟩, Eq.trans (by kernel_rfl) hdel, idx hs, c20, c24, idx hs, by kernel_rfl, mixed, by kernel_rfl, Eq.trans (by kernel_rfl) h2.lk, h1.sL, Eq.trans (by kernel_rfl) h2.ap, by kernel_rfl, Eq.trans (by kernel_rfl) h2.pv, (n + 1, updF (updF f (n + 1) []) k2 [], (ks.erase (n + 1) ++ [k2])), ⟨hlt, hnx, hp⟩, mu1 hlt,
            Wk.trans (Wk.push2N (c := 8) (M := 7) (B := bL1 e b ws (lastS e b ws (n + 1))) (f := f) (ks := ks.erase (n + 1) ++ [k2]) (k := k2) (k1 := n + 1) (n := 28) (by kernel_rfl) (hbas _) (by decide) h1.k27 hp.lt hne2 h1.ne (hlo.mono (by decide))) (Wk.le (St.le.of ⟨by kernel_rfl, rfl, by kernel_rfl, rfl, by kernel_rfl, rfl, by kernel_rfl, rfl, by kernel_rfl, rfl, Eq.trans (by kernel_rfl) h1.ek, rfl, trivial⟩ ⟨by kernel_rfl, (by decide : (0 : Nat) < 28), rfl, by kernel_rfl, (by decide : (1 : Nat) < 28), rfl, Eq.trans (by kernel_rfl) hob, (by decide : (2 : Nat) < 28), rfl, by kernel_rfl, (by decide : (4 : Nat) < 28), rfl, by kernel_rfl, (by decide : (7 : Nat) < 28), h2.okm, by kernel_rfl, (by decide : (9 : Nat) < 28), iL_ok _ _, by kernel_rfl, (by decide : (10 : Nat) < 28), iL_ok _ _, by kernel_rfl, (by decide : (11 : Nat) < 28), iL_ok _ _, by kernel_rfl, (by decide : (12 : Nat) < 28), iL_ok _ _, by kernel_rfl, (by decide : (13 : Nat) < 28), iL_ok _ _, by kernel_rfl, (by decide : (14 : Nat) < 28), iL_ok _ _, by kernel_rfl, (by decide : (15 : Nat) < 28), iL_ok _ _, trivial⟩) (hlo.mono (show 5 ≤ 28 by decide)))⟩
    · have hlen : 0 < come.length := List.length_pos_iff.2 hce
      have hLe : L ≠ [] := fun h => by rw [h] at hLl; simp at hLl; omega
      have c24 : decide (((come.map encI).length : Int) > 0) = true := decide_eq_true (by rw [List.length_map]; omega)
      have sM : APure Tryd.prog 107 [encR L] (.int .i64 (maxV L)) := by
        match L, hLe, h1.len with
        | x :: r, _, hl => exact Max_spec x r (by simp at hl; omega)
      have em : some (⟨.int .i64 (if maxV L > v then maxV L else v), []⟩ : Out) = some ⟨.int .i64 (max v (maxV L)), []⟩ := by rw [Int.max_def]; split <;> split <;> first | rfl | (congr 3; omega)
      have hob : some (AObj.cells [.int .i64 (max v (maxV L))]) = some (.cells [.int .i64 (lastS e b ws (n + 1))]) := by rw [hmx hx1 hce]
      by_cases hm2 : k2 ∈ ks.erase (n + 1)
      · skip
        have h2 := (hP 37 (by decide)).1 hm2
        have hp := hput
        have hnx := h1.nx
        rw [if_pos hm2] at hp
        exact ACode.vcM (.br 16 true <| .val 20 (.rsl (8 + 1 + (n + 1)) 0 (f (n + 1)).length 1) [] <| .lent (encR come) [8 + 1 + (n + 1)] <| .val 0 .undef [(7, some (.map (entV (updF (vC 8 f) k2 (.rsl 8 0 (f k2).length 1)) (ks.erase (n + 1)))))] <| .cells (cSt s) <| .br 21 true <| .br 25 true <| .draw 7 <| .call (encR L) <| .call (.int .i64 (maxV L)) <| .val 33 (.int .i64 (max v (maxV L))) [] <| .cells (cSt s) <| .draw 11 <| .val 40 (.rsl 8 0 (f k2).length 1) [] <| .call (encR L) <| .val 46 (.rsl 37 0 (f k2 ++ L).length 1) [(8, none), (37, some (.cells (iL (f k2 ++ L))))] <| .val 0 .undef [(7, some (.map (entV (updF (vC 8 f) k2 (.rsl 37 0 (f k2 ++ L).length 1)) (ks.erase (n + 1)))))] .nil) hn hlo (.roundW hQ)
          ⟨ltLen hnl, Eq.trans (by kernel_rfl) (hL1.1 hm1), ⟨_, Eq.trans (by kernel_rfl) hL1.2.2, .inr h1.sF⟩, Eq.trans (by kernel_rfl) hdel, idx hs, c20, c24, by kernel_rfl, mixed, by kernel_rfl, h1.sL, sM, by kernel_rfl, Eq.trans (by kernel_rfl) em, idx hs, by kernel_rfl, mixed, by kernel_rfl, Eq.trans (by kernel_rfl) h2.lk, h1.sL, Eq.trans (by kernel_rfl) h2.ap, by kernel_rfl, Eq.trans (by kernel_rfl) h2.pv, (n + 1, updF (updF f (n + 1) []) k2 (f k2 ++ L), (ks.erase (n + 1))), ⟨hlt, hnx, hp⟩, mu1 hlt,
            Wk.trans (Wk.push2 (c := 8) (M := 7) (B := bL1 e b ws (lastS e b ws (n + 1))) (f := f) (ks := ks.erase (n + 1)) (k := k2) (k1 := n + 1) (x := f k2 ++ L) (nid := 37) (by kernel_rfl) (hbas _) (by decide) h1.k27 hdk.lt hne h1.ne (by decide) (hlo.mono (by decide))) (Wk.le (St.le.of ⟨by kernel_rfl, rfl, by kernel_rfl, rfl, by kernel_rfl, rfl, by kernel_rfl, rfl, by kernel_rfl, rfl, Eq.trans (by kernel_rfl) h1.ek, rfl, trivial⟩ ⟨by kernel_rfl, (by decide : (0 : Nat) < 38), rfl, by kernel_rfl, (by decide : (1 : Nat) < 38), rfl, Eq.trans (by kernel_rfl) hob, (by decide : (2 : Nat) < 38), rfl, by kernel_rfl, (by decide : (4 : Nat) < 38), rfl, by kernel_rfl, (by decide : (7 : Nat) < 38), h2.okm, by kernel_rfl, (by decide : (37 : Nat) < 38), iL_ok _ _, by kernel_rfl, (by decide : (9 : Nat) < 38), iL_ok _ _, by kernel_rfl, (by decide : (10 : Nat) < 38), iL_ok _ _, by kernel_rfl, (by decide : (11 : Nat) < 38), iL_ok _ _, by kernel_rfl, (by decide : (12 : Nat) < 38), iL_ok _ _, by kernel_rfl, (by decide : (13 : Nat) < 38), iL_ok _ _, by kernel_rfl, (by decide : (14 : Nat) < 38), iL_ok _ _, by kernel_rfl, (by decide : (15 : Nat) < 38), iL_ok _ _, trivial⟩) (hlo.mono (show 5 ≤ 38 by decide)))⟩
      · skip
        have h2 := (hP 37 (by decide)).2.1 hm2 hLe
        have hp := hput
        have hnx := h1.nx
        rw [if_neg hm2] at hp
        exact ACode.vcM (.br 16 true <| .val 20 (.rsl (8 + 1 + (n + 1)) 0 (f (n + 1)).length 1) [] <| .lent (encR come) [8 + 1 + (n + 1)] <| .val 0 .undef [(7, some (.map (entV (updF (vC 8 f) k2 (.rsl 8 0 (f k2).length 1)) (ks.erase (n + 1)))))] <| .cells (cSt s) <| .br 21 true <| .br 25 true <| .draw 7 <| .call (encR L) <| .call (.int .i64 (maxV L)) <| .val 33 (.int .i64 (max v (maxV L))) [] <| .cells (cSt s) <| .draw 11 <| .val 40 (.nil) [] <| .call (encR L) <| .val 46 (.rsl 37 0 (f k2 ++ L).length 1) [(37, some (.cells (iL (f k2 ++ L))))] <| .val 0 .undef [(7, some (.map (entV (updF (vC 8 f) k2 (.rsl 37 0 (f k2 ++ L).length 1)) (ks.erase (n + 1) ++ [k2]))))] .nil) hn hlo (.roundW hQ)
          ⟨ltLen hnl, Eq.trans (by kernel_rfl) (hL1.1 hm1), ⟨_, Eq.trans (by kernel_rfl) hL1.2.2, .inr h1.sF⟩, Eq.trans (by kernel_rfl) hdel, idx hs, c20, c24, by kernel_rfl, mixed, by kernel_rfl, h1.sL, sM, by kernel_rfl, Eq.trans (by kernel_rfl) em, idx hs, by kernel_rfl, mixed, by kernel_rfl, Eq.trans (by kernel_rfl) h2.lk, h1.sL, Eq.trans (by kernel_rfl) h2.ap, by kernel_rfl, Eq.trans (by kernel_rfl) h2.pv, (n + 1, updF (updF f (n + 1) []) k2 (f k2 ++ L), (ks.erase (n + 1) ++ [k2])), ⟨hlt, hnx, hp⟩, mu1 hlt,
            Wk.trans (Wk.push2 (c := 8) (M := 7) (B := bL1 e b ws (lastS e b ws (n + 1))) (f := f) (ks := ks.erase (n + 1) ++ [k2]) (k := k2) (k1 := n + 1) (x := f k2 ++ L) (nid := 37) (by kernel_rfl) (hbas _) (by decide) h1.k27 hp.lt hne2 h1.ne (by decide) (hlo.mono (by decide))) (Wk.le (St.le.of ⟨by kernel_rfl, rfl, by kernel_rfl, rfl, by kernel_rfl, rfl, by kernel_rfl, rfl, by kernel_rfl, rfl, Eq.trans (by kernel_rfl) h1.ek, rfl, trivial⟩ ⟨by kernel_rfl, (by decide : (0 : Nat) < 38), rfl, by kernel_rfl, (by decide : (1 : Nat) < 38), rfl, Eq.trans (by kernel_rfl) hob, (by decide : (2 : Nat) < 38), rfl, by kernel_rfl, (by decide : (4 : Nat) < 38), rfl, by kernel_rfl, (by decide : (7 : Nat) < 38), h2.okm, by kernel_rfl, (by decide : (37 : Nat) < 38), iL_ok _ _, by kernel_rfl, (by decide : (9 : Nat) < 38), iL_ok _ _, by kernel_rfl, (by decide : (10 : Nat) < 38), iL_ok _ _, by kernel_rfl, (by decide : (11 : Nat) < 38), iL_ok _ _, by kernel_rfl, (by decide : (12 : Nat) < 38), iL_ok _ _, by kernel_rfl, (by decide : (13 : Nat) < 38), iL_ok _ _, by kernel_rfl, (by decide : (14 : Nat) < 38), iL_ok _ _, by kernel_rfl, (by decide : (15 : Nat) < 38), iL_ok _ _, trivial⟩) (hlo.mono (show 5 ≤ 38 by decide)))⟩
end Go.Proofs.YtiggnliiigcjaaaDoor
/-
  FROM STAIR TO STAIR: when the last one is out; one round, to whom nobody comes.
-/
namespace Go.Proofs.YtiggnliiigcjaaaDoor
open Go Go.Am
set_option maxRecDepth 100000
set_option maxHeartbeats 8000000
theorem roundL2 {g : G} {Q : AX → St → Prop} (hQ : EClosed Q) (hn : g.n = 48) (hlo : g.low 5) (e : Bool) (b : Bdg) (ws : List Wal) (vd : Vld b ws) (n : Nat) (f : Nat → List Int) (ks : List Nat) (hI : IS e b ws (n, f, ks)) (hlt : n < b.ss.length) (hm1 : (n + 1) ∉ ks) :
    ACode Tryd.prog none g (lpB Tryd.f118) (AX.then (RoundW g (sLL e b ws) (IS e b ws) (fun q => b.ss.length - q.1) (n, f, ks)) Q) (sLL e b ws (n, f, ks)) := by
  have hnl := hlt
  refine Exists.elim (getE hnl) fun s hs => ?_
  refine Exists.elim (oneS (e := e) (ws := ws) vd hs) fun k2 h => Exists.elim h fun come h => Exists.elim h fun L h1 => ?_
  have i2 : f = stF e b ws n := hI.2.1
  have i3 : KsOk f ks := hI.2.2
  rw [← i2] at h1
  have eCm : comesV e b ws n = come := by rw [comesV_eq, ← i2, h1.eC]
  have eLv : leavesV e b ws n = L := by rw [leavesV_eq hs, ← i2, h1.eL, h1.eC]
  have hLl : L.length = come.length := by rw [h1.eL]; unfold leaveV; rw [leaveG_len]
  have hst := lastS_stay (e := e) (ws := ws) hs
  have hmx := lastS_max (e := e) (ws := ws) hs
  rw [eCm] at hst hmx
  rw [eLv] at hmx
  have hbas : ∀ v, basOk 8 7 (bL1 e b ws v) = true := fun v => rfl
  have hsl := vd.sl
  obtain ⟨v, hv⟩ : ∃ v, v = lastS e b ws n := ⟨_, rfl⟩
  rw [← hv] at hst hmx
  have hL1 := look1 (f := f) (ks := ks) (k2 := k2) (hbas v) h1.key1 h1.ne (by omega)
  have hdel := delV (h := hget (pulH 8 7 (bL1 e b ws v) f ks k2)) (i := 7) (v := updF (vC 8 f) k2 (.rsl 8 0 (f k2).length 1)) (ks := ks) (k := n + 1) (by kernel_rfl) i3.nd
  rw [h1.key1] at hdel
  have hdk := i3.del (n + 1)
  have hP := fun nid (h16 : 16 ≤ nid) => twoP (h := hget (pulH 8 7 (bL1 e b ws v) f (ks.erase (n + 1)) k2)) (f := f) (ks := ks.erase (n + 1)) (L := L) (nid := nid) hdk.nd hdk.lt h1.k27 (fun hm => i3.em k2 h1.k27 fun hk => hm ((List.mem_erase_of_ne (Ne.symm h1.ne)).2 hk)) h1.key2 h16 h1.len (by kernel_rfl)
  have hput := hdk.put h1.k27 (f k2 ++ L)
  have hne : (n + 1) ∉ ks.erase (n + 1) := fun h => absurd h (i3.nd.not_mem_erase)
  have hne2 : (n + 1) ∉ ks.erase (n + 1) ++ [k2] := fun h => by
    rcases List.mem_append.1 h with h | h
    · exact hne h
    · simp at h; exact h1.ne h
  have sN : f (n + 1) = [] → APure Tryd.prog 120 [.nil] (encR come) := fun h => APure.nilArg (e := 1) (by have := h1.sI; rw [h] at this; exact this)
  have hstart : sLL e b ws (n, f, ks) = ⟨[(0, .yld 4), (1, .cptr (xC b ws)), (2, .cptr (endC e)), (4, .mref 7), (14, .int .i64 (b.ss.map cSt).length), (15, .int .i64 n)], canH 8 7 (bL1 e b ws v) f ks, 16⟩ := by rw [hv]; rfl
  rw [hstart]
  refine ACode.wk (Wk.pull (c := 8) (M := 7) (B := bL1 e b ws v) (f := f) (ks := ks) (k := k2) (by kernel_rfl) (hbas v) (by decide) h1.k27 i3.lt (hlo.mono (by decide))) ?_
  have sN := sN (i3.em (n + 1) (by omega) hm1)
  cases c20 : (s.nx == -1)
  · have hx1 : s.nx ≠ -1 := fun h => by rw [h] at c20; cases c20
    have hob : some (AObj.cells [.int .i64 v]) = some (.cells [.int .i64 (lastS e b ws (n + 1))]) := by rw [hst (.inl hx1)]
    by_cases hm2 : k2 ∈ ks.erase (n + 1)
    · skip
      have h2 := (hP 27 (by decide)).1 hm2
      have hp := hput
      have hnx := h1.nx
      rw [if_pos hm2] at hp
      exact ACode.vcM (.br 16 true <| .val 20 .nil [] <| .call (encR come) <| .val 0 .undef [(7, some (.map (entV (updF (vC 8 f) k2 (.rsl 8 0 (f k2).length 1)) (ks.erase (n + 1)))))] <| .cells (cSt s) <| .br 21 false <| .cells (cSt s) <| .draw 11 <| .val 40 (.rsl 8 0 (f k2).length 1) [] <| .call (encR L) <| .val 46 (.rsl 27 0 (f k2 ++ L).length 1) [(8, none), (27, some (.cells (iL (f k2 ++ L))))] <| .val 0 .undef [(7, some (.map (entV (updF (vC 8 f) k2 (.rsl 27 0 (f k2 ++ L).length 1)) (ks.erase (n + 1)))))] .nil) hn hlo (.roundW hQ)
        ⟨ltLen hnl, Eq.trans (by kernel_rfl) (hL1.2.1 hm1), sN, Eq.trans (by kernel_rfl) hdel, idx hs, c20, idx hs, by kernel_rfl, mixed, by kernel_rfl, Eq.trans (by kernel_rfl) h2.lk, h1.sL, Eq.trans (by kernel_rfl) h2.ap, by kernel_rfl, Eq.trans (by kernel_rfl) h2.pv, (n + 1, updF (updF f (n + 1) []) k2 (f k2 ++ L), (ks.erase (n + 1))), ⟨hlt, hnx, hp⟩, mu1 hlt,
          Wk.trans (Wk.push2 (c := 8) (M := 7) (B := bL1 e b ws (lastS e b ws (n + 1))) (f := f) (ks := ks.erase (n + 1)) (k := k2) (k1 := n + 1) (x := f k2 ++ L) (nid := 27) (by kernel_rfl) (hbas _) (by decide) h1.k27 hdk.lt hne h1.ne (by decide) (hlo.mono (by decide))) (Wk.le (St.le.of ⟨by kernel_rfl, rfl, by kernel_rfl, rfl, by kernel_rfl, rfl, by kernel_rfl, rfl, by kernel_rfl, rfl, Eq.trans (by kernel_rfl) h1.ek, rfl, trivial⟩ ⟨by kernel_rfl, (by decide : (0 : Nat) < 28), rfl, by kernel_rfl, (by decide : (1 : Nat) < 28), rfl, Eq.trans (by kernel_rfl) hob, (by decide : (2 : Nat) < 28), rfl, by kernel_rfl, (by decide : (4 : Nat) < 28), rfl, by kernel_rfl, (by decide : (7 : Nat) < 28), h2.okm, by kernel_rfl, (by decide : (27 : Nat) < 28), iL_ok _ _, by kernel_rfl, (by decide : (9 : Nat) < 28), iL_ok _ _, by kernel_rfl, (by decide : (10 : Nat) < 28), iL_ok _ _, by kernel_rfl, (by decide : (11 : Nat) < 28), iL_ok _ _, by kernel_rfl, (by decide : (12 : Nat) < 28), iL_ok _ _, by kernel_rfl, (by decide : (13 : Nat) < 28), iL_ok _ _, by kernel_rfl, (by decide : (14 : Nat) < 28), iL_ok _ _, by kernel_rfl, (by decide : (15 : Nat) < 28), iL_ok _ _, trivial⟩) (hlo.mono (show 5 ≤ 28 by decide)))⟩
    · by_cases hLe : L = []
      · skip
        have hx : f k2 ++ L = [] := by rw [hLe, i3.em k2 h1.k27 fun hk => hm2 ((List.mem_erase_of_ne (Ne.symm h1.ne)).2 hk)]; rfl
        have h2 := (hP 27 (by decide)).2.2 hm2 hLe
        have hp := hput
        have hnx := h1.nx
        rw [if_neg hm2, hx] at hp
        rw [hx] at hnx
        exact ACode.vcM (.br 16 true <| .val 20 .nil [] <| .call (encR come) <| .val 0 .undef [(7, some (.map (entV (updF (vC 8 f) k2 (.rsl 8 0 (f k2).length 1)) (ks.erase (n + 1)))))] <| .cells (cSt s) <| .br 21 false <| .cells (cSt s) <| .draw 11 <| .val 40 (.nil) [] <| .call (encR L) <| .val 46 (.nil) [] <| .val 0 .undef [(7, some (.map (entV (updF (vC 8 f) k2 (.nil)) (ks.erase (n + 1) ++ [k2]))))] .nil) hn hlo (.roundW hQ)
          ⟨ltLen hnl, Eq.trans (by kernel_rfl) (hL1.2.1 hm1), sN, Eq.trans (by kernel_rfl) hdel, idx hs, c20, idx hs, by kernel_rfl, mixed, by kernel_rfl, Eq.trans (by kernel_rfl) h2.lk, h1.sL, Eq.trans (by kernel_rfl) h2.ap, by kernel_rfl, Eq.trans (by kernel_rfl) h2.pv, (n + 1, updF (updF f (n + 1) []) k2 [], (ks.erase (n + 1) ++ [k2])), ⟨hlt, hnx, hp⟩, mu1 hlt,
            Wk.trans (Wk.push2N (c := 8) (M := 7) (B := bL1 e b ws (lastS e b ws (n + 1))) (f := f) (ks := ks.erase (n + 1) ++ [k2]) (k := k2) (k1 := n + 1) (n := 28) (by kernel_rfl) (hbas _) (by decide) h1.k27 hp.lt hne2 h1.ne (hlo.mono (by decide))) (Wk.le (St.le.of ⟨by kernel_rfl, rfl, by kernel_rfl, rfl, by kernel_rfl, rfl, by kernel_rfl, rfl, by kernel_rfl, rfl, Eq.trans (by kernel_rfl) h1.ek, rfl, trivial⟩ ⟨by kernel_rfl, (by decide : (0 : Nat) < 28), rfl, by kernel_rfl, (by decide : (1 : Nat) < 28), rfl, Eq.trans (by kernel_rfl) hob, (by decide : (2 : Nat) < 28), rfl, by kernel_rfl, (by decide : (4 : Nat) < 28), rfl, by kernel_rfl, (by decide : (7 : Nat) < 28), h2.okm, by kernel_rfl, (by decide : (9 : Nat) < 28), iL_ok _ _, by kernel_rfl, (by decide : (10 : Nat) < 28), iL_ok _ _, by kernel_rfl, (by decide : (11 : Nat) < 28), iL_ok _ _, by kernel_rfl, (by decide : (12 : Nat) < 28), iL_ok _ _, by kernel_rfl, (by decide : (13 : Nat) < 28), iL_ok _ _, by kernel_rfl, (by decide : (14 : Nat) < 28), iL_ok _ _, by kernel_rfl, (by decide : (15 : Nat) < 28), iL_ok _ _, trivial⟩) (hlo.mono (show 5 ≤ 28 by decide)))⟩
      · skip
        have h2 := (hP 27 (by decide)).2.1 hm2 hLe
        have hp := hput
        have hnx := h1.nx
        rw [if_neg hm2] at hp
        exact ACode.vcM (.br 16 true <| .val 20 .nil [] <| .call (encR come) <| .val 0 .undef [(7, some (.map (entV (updF (vC 8 f) k2 (.rsl 8 0 (f k2).length 1)) (ks.erase (n + 1)))))] <| .cells (cSt s) <| .br 21 false <| .cells (cSt s) <| .draw 11 <| .val 40 (.nil) [] <| .call (encR L) <| .val 46 (.rsl 27 0 (f k2 ++ L).length 1) [(27, some (.cells (iL (f k2 ++ L))))] <| .val 0 .undef [(7, some (.map (entV (updF (vC 8 f) k2 (.rsl 27 0 (f k2 ++ L).length 1)) (ks.erase (n + 1) ++ [k2]))))] .nil) hn hlo (.roundW hQ)
          ⟨ltLen hnl, Eq.trans (by kernel_rfl) (hL1.2.1 hm1), sN, Eq.trans (by kernel_rfl) hdel, idx hs, c20, idx hs, by kernel_rfl, mixed, by kernel_rfl, Eq.trans (by kernel_rfl) h2.lk, h1.sL, Eq.trans (by kernel_rfl) h2.ap, by kernel_rfl, Eq.trans (by kernel_rfl) h2.pv, (n + 1, updF (updF f (n + 1) []) k2 (f k2 ++ L), (ks.erase (n + 1) ++ [k2])), ⟨hlt, hnx, hp⟩, mu1 hlt,
            Wk.trans (Wk.push2 (c := 8) (M := 7) (B := bL1 e b ws (lastS e b ws (n + 1))) (f := f) (ks := ks.erase (n + 1) ++ [k2]) (k := k2) (k1 := n + 1) (x := f k2 ++ L) (nid := 27) (by kernel_rfl) (hbas _) (by decide) h1.k27 hp.lt hne2 h1.ne (by decide) (hlo.mono (by decide))) (Wk.le (St.le.of ⟨by kernel_rfl, rfl, by kernel_rfl, rfl, by kernel_rfl, rfl, by kernel_rfl, rfl, by kernel_rfl, rfl, Eq.trans (by kernel_rfl) h1.ek, rfl, trivial⟩ ⟨by kernel_rfl, (by decide : (0 : Nat) < 28), rfl, by kernel_rfl, (by decide : (1 : Nat) < 28), rfl, Eq.trans (by kernel_rfl) hob, (by decide : (2 : Nat) < 28), rfl, by kernel_rfl, (by decide : (4 : Nat) < 28), rfl, by kernel_rfl, (by decide : (7 : Nat) < 28), h2.okm, by kernel_rfl, (by decide : (27 : Nat) < 28), iL_ok _ _, by kernel_rfl, (by decide : (9 : Nat) < 28), iL_ok _ _, by kernel_rfl, (by decide : (10 : Nat) < 28), iL_ok _ _, by kernel_rfl, (by decide : (11 : Nat) < 28), iL_ok _ _, by kernel_rfl, (by decide : (12 : Nat) < 28), iL_ok _ _, by kernel_rfl, (by decide : (13 : Nat) < 28), iL_ok _ _, by kernel_rfl, (by decide : (14 : Nat) < 28), iL_ok _ _, by kernel_rfl, (by decide : (15 : Nat) < 28), iL_ok _ _, trivial⟩) (hlo.mono (show 5 ≤ 28 by decide)))⟩
  · have hx1 : s.nx = -1 := by simpa using c20
    by_cases hce : come = []
    · have hLe : L = [] := List.eq_nil_of_length_eq_zero (by rw [hLl, hce]; rfl)
      have c24 : decide (((come.map encI).length : Int) > 0) = false := decide_eq_false (by rw [hce]; simp)
      have hob : some (AObj.cells [.int .i64 v]) = some (.cells [.int .i64 (lastS e b ws (n + 1))]) := by rw [hst (.inr hce)]
      by_cases hm2 : k2 ∈ ks.erase (n + 1)
      · skip
        have h2 := (hP 27 (by decide)).1 hm2
        have hp := hput
        have hnx := h1.nx
        rw [if_pos hm2] at hp
        exact ACode.vcM (.br 16 true <| .val 20 .nil [] <| .call (encR come) <| .val 0 .undef [(7, some (.map (entV (updF (vC 8 f) k2 (.rsl 8 0 (f k2).length 1)) (ks.erase (n + 1)))))] <| .cells (cSt s) <| .br 21 true <| .br 25 false <| .cells (cSt s) <| .draw 11 <| .val 40 (.rsl 8 0 (f k2).length 1) [] <| .call (encR L) <| .val 46 (.rsl 27 0 (f k2 ++ L).length 1) [(8, none), (27, some (.cells (iL (f k2 ++ L))))] <| .val 0 .undef [(7, some (.map (entV (updF (vC 8 f) k2 (.rsl 27 0 (f k2 ++ L).length 1)) (ks.erase (n + 1)))))] .nil) hn hlo (.roundW hQ)
          ⟨ltLen hnl, Eq.trans (by kernel_rfl) (hL1.2.1 hm1), sN, Eq.trans (by kernel_rfl) hdel, idx hs, c20, c24, idx hs, by kernel_rfl, mixed, by kernel_rfl, Eq.trans (by kernel_rfl) h2.lk, h1.sL, Eq.trans (by kernel_rfl) h2.ap, by kernel_rfl, Eq.trans (by kernel_rfl) h2.pv, (n + 1, updF (updF f (n + 1) []) k2 (f k2 ++ L), (ks.erase (n + 1))), ⟨hlt, hnx, hp⟩, mu1 hlt,
            Wk.trans (Wk.push2 (c := 8) (M := 7) (B := bL1 e b ws (lastS e b ws (n + 1))) (f := f) (ks := ks.erase (n + 1)) (k := k2) (k1 := n + 1) (x := f k2 ++ L) (nid := 27) (by kernel_rfl) (hbas _) (by decide) h1.k27 hdk.lt hne h1.ne (by decide) (hlo.mono (by decide))) (Wk.le (St.le.of ⟨by kernel_rfl, rfl, by kernel_rfl, rfl, by kernel_rfl, rfl, by kernel_rfl, rfl, by kernel_rfl, rfl, Eq.trans (by kernel_rfl) h1.ek, rfl, trivial⟩ ⟨by kernel_rfl, (by decide : (0 : Nat) < 28), rfl, by kernel_rfl, (by decide : (1 : Nat) < 28), rfl, Eq.trans (by kernel_rfl) hob, (by decide : (2 : Nat) < 28), rfl, by kernel_rfl, (by decide : (4 : Nat) < 28), rfl, by kernel_rfl, (by decide : (7 : Nat) < 28), h2.okm, by kernel_rfl, (by decide : (27 : Nat) < 28), iL_ok _ _, by kernel_rfl, (by decide : (9 : Nat) < 28), iL_ok _ _, by kernel_rfl, (by decide : (10 : Nat) < 28), iL_ok _ _, by kernel_rfl, (by decide : (11 : Nat) < 28), iL_ok _ _, by kernel_rfl, (by decide : (12 : Nat) < 28), iL_ok _ _, by kernel_rfl, (by decide : (13 : Nat) < 28), iL_ok _ _, by kernel_rfl, (by decide : (14 : Nat) < 28), iL_ok _ _, by kernel_rfl, (by decide : (15 : Nat) < 28), iL_ok _ _, trivial⟩) (hlo.mono (show 5 ≤ 28 by decide)))⟩
      · skip
        have hx : f k2 ++ L = [] := by rw [hLe, i3.em k2 h1.k27 fun hk => hm2 ((List.mem_erase_of_ne (Ne.symm h1.ne)).2 hk)]; rfl
        have h2 := (hP 27 (by decide)).2.2 hm2 hLe
        have hp := hput
        have hnx := h1.nx
        rw [if_neg hm2, hx] at hp
        rw [hx] at hnx
        exact ACode.vcM (.br 16 true <| .val 20 .nil [] <| .call (encR come) <| .val 0 .undef [(7, some (.map (entV (updF (vC 8 f) k2 (.rsl 8 0 (f k2).length 1)) (ks.erase (n + 1)))))] <| .cells (cSt s) <| .br 21 true <| .br 25 false <| .cells (cSt s) <| .draw 11 <| .val 40 (.nil) [] <| .call (encR L) <| .val 46 (.nil) [] <| .val 0 .undef [(7, some (.map (entV (updF (vC 8 f) k2 (.nil)) (ks.erase (n + 1) ++ [k2]))))] .nil) hn hlo (.roundW hQ)
          ⟨ltLen hnl, Eq.trans (by kernel_rfl) (hL1.2.1 hm1), sN, Eq.trans (by kernel_rfl) hdel, idx hs, c20, c24, idx hs, by kernel_rfl, mixed, by kernel_rfl, Eq.trans (by kernel_rfl) h2.lk, h1.sL, Eq.trans (by kernel_rfl) h2.ap, by kernel_rfl, Eq.trans (by kernel_rfl) h2.pv, (n + 1, updF (updF f (n + 1) []) k2 [], (ks.erase (n + 1) ++ [k2])), ⟨hlt, hnx, hp⟩, mu1 hlt,
            Wk.trans (Wk.push2N (c := 8) (M := 7) (B := bL1 e b ws (lastS e b ws (n + 1))) (f := f) (ks := ks.erase (n + 1) ++ [k2]) (k := k2) (k1 := n + 1) (n := 28) (by kernel_rfl) (hbas _) (by decide) h1.k27 hp.lt hne2 h1.ne (hlo.mono (by decide))) (Wk.le (St.le.of ⟨by kernel_rfl, rfl, by kernel_rfl, rfl, by kernel_rfl, rfl, by kernel_rfl, rfl, by kernel_rfl, rfl, Eq.trans (by kernel_rfl) h1.ek, rfl, trivial⟩ ⟨by kernel_rfl, (by decide : (0 : Nat) < 28), rfl, by kernel_rfl, (by decide : (1 : Nat) < 28), rfl, Eq.trans (by kernel_rfl) hob, (by decide : (2 : Nat) < 28), rfl, by kernel_rfl, (by decide : (4 : Nat) < 28), rfl, by kernel_rfl, (by decide : (7 : Nat) < 28), h2.okm, by kernel_rfl, (by decide : (9 : Nat) < 28), iL_ok _ _, by kernel_rfl, (by decide : (10 : Nat) < 28), iL_ok _ _, by kernel_rfl, (by decide : (11 : Nat) < 28), iL_ok _ _, by kernel_rfl, (by decide : (12 : Nat) < 28), iL_ok _ _, by kernel_rfl, (by decide : (13 : Nat) < 28), iL_ok _ _, by kernel_rfl, (by decide : (14 : Nat) < 28), iL_ok _ _, by kernel_rfl, (by decide : (15 : Nat) < 28), iL_ok _ _, trivial⟩) (hlo.mono (show 5 ≤ 28 by decide)))⟩
    · have hlen : 0 < come.length := List.length_pos_iff.2 hce
      have hLe : L ≠ [] := fun h => by rw [h] at hLl; simp at hLl; omega
      have c24 : decide (((come.map encI).length : Int) > 0) = true := decide_eq_true (by rw [List.length_map]; omega)
      have sM : APure Tryd.prog 107 [encR L] (.int .i64 (maxV L)) := by
        match L, hLe, h1.len with
        | x :: r, _, hl => exact Max_spec x r (by simp at hl; omega)
      have em : some (⟨.int .i64 (if maxV L > v then maxV L else v), []⟩ : Out) = some ⟨.int .i64 (max v (maxV L)), []⟩ := by rw [Int.max_def]; split <;> split <;> first | rfl | (congr 3; omega)
      have hob : some (AObj.cells [.int .i64 (max v (maxV L))]) = some (.cells [.int .i64 (lastS e b ws (n + 1))]) := by rw [hmx hx1 hce]
      by_cases hm2 : k2 ∈ ks.erase (n + 1)
      · skip
        have h2 := (hP 37 (by decide)).1 hm2
        have hp := hput
        have hnx := h1.nx
        rw [if_pos hm2] at hp
        exact ACode.vcM (.br 16 true <| .val 20 .nil [] <| .call (encR come) <| .val 0 .undef [(7, some (.map (entV (updF (vC 8 f) k2 (.rsl 8 0 (f k2).length 1)) (ks.erase (n + 1)))))] <| .cells (cSt s) <| .br 21 true <| .br 25 true <| .draw 7 <| .call (encR L) <| .call (.int .i64 (maxV L)) <| .val 33 (.int .i64 (max v (maxV L))) [] <| .cells (cSt s) <| .draw 11 <| .val 40 (.rsl 8 0 (f k2).length 1) [] <| .call (encR L) <| .val 46 (.rsl 37 0 (f k2 ++ L).length 1) [(8, none), (37, some (.cells (iL (f k2 ++ L))))] <| .val 0 .undef [(7, some (.map (entV (updF (vC 8 f) k2 (.rsl 37 0 (f k2 ++ L).length 1)) (ks.erase (n + 1)))))] .nil) hn hlo (.roundW hQ)
          ⟨ltLen hnl, Eq.trans (by kernel_rfl) (hL1.2.1 hm1), sN, Eq.trans (by kernel_rfl) hdel, idx hs, c20, c24, by kernel_rfl, mixed, by kernel_rfl, h1.sL, sM, by kernel_rfl, Eq.trans (by kernel_rfl) em, idx hs, by kernel_rfl, mixed, by kernel_rfl, Eq.trans (by kernel_rfl) h2.lk, h1.sL, Eq.trans (by kernel_rfl) h2.ap, by kernel_rfl, Eq.trans (by kernel_rfl) h2.pv, (n + 1, updF (updF f (n + 1) []) k2 (f k2 ++ L), (ks.erase (n + 1))), ⟨hlt, hnx, hp⟩, mu1 hlt,
            Wk.trans (Wk.push2 (c := 8) (M := 7) (B := bL1 e b ws (lastS e b ws (n + 1))) (f := f) (ks := ks.erase (n + 1)) (k := k2) (k1 := n + 1) (x := f k2 ++ L) (nid := 37) (by kernel_rfl) (hbas _) (by decide) h1.k27 hdk.lt hne h1.ne (by decide) (hlo.mono (by decide))) (Wk.le (St.le.of ⟨by kernel_rfl, rfl, by kernel_rfl, rfl, by kernel_rfl, rfl, by kernel_rfl, rfl, by kernel_rfl, rfl, Eq.trans (by kernel_rfl) h1.ek, rfl, trivial⟩ ⟨by kernel_rfl, (by decide : (0 : Nat) < 38), rfl, by kernel_rfl, (by decide : (1 : Nat) < 38), rfl, Eq.trans (by kernel_rfl) hob, (by decide : (2 : Nat) < 38), rfl, by kernel_rfl, (by decide : (4 : Nat) < 38), rfl, by kernel_rfl, (by decide : (7 : Nat) < 38), h2.okm, by kernel_rfl, (by decide : (37 : Nat) < 38), iL_ok _ _, by kernel_rfl, (by decide : (9 : Nat) < 38), iL_ok _ _, by kernel_rfl, (by decide : (10 : Nat) < 38), iL_ok _ _, by kernel_rfl, (by decide : (11 : Nat) < 38), iL_ok _ _, by kernel_rfl, (by decide : (12 : Nat) < 38), iL_ok _ _, by kernel_rfl, (by decide : (13 : Nat) < 38), iL_ok _ _, by kernel_rfl, (by decide : (14 : Nat) < 38), iL_ok _ _, by kernel_rfl, (by decide : (15 : Nat) < 38), iL_ok _ _, trivial⟩) (hlo.mono (show 5 ≤ 38 by decide)))⟩
      · skip
        have h2 := (hP 37 (by decide)).2.1 hm2 hLe
        have hp := hput
        have hnx := h1.nx
        rw [if_neg hm2] at hp
        exact ACode.vcM (.br 16 true <| .val 20 .nil [] <| .call (encR come) <| .val 0 .undef [(7, some (.map (entV (updF (vC 8 f) k2 (.rsl 8 0 (f k2).length 1)) (ks.erase (n + 1)))))] <| .cells (cSt s) <| .br 21 true <| .br 25 true <| .draw 7 <| .call (encR L) <| .call (.int .i64 (maxV L)) <| .val 33 (.int .i64 (max v (maxV L))) [] <| .cells (cSt s) <| .draw 11 <| .val 40 (.nil) [] <| .call (encR L) <| .val 46 (.rsl 37 0 (f k2 ++ L).length 1) [(37, some (.cells (iL (f k2 ++ L))))] <| .val 0 .undef [(7, some (.map (entV (updF (vC 8 f) k2 (.rsl 37 0 (f k2 ++ L).length 1)) (ks.erase (n + 1) ++ [k2]))))] .nil) hn hlo (.roundW hQ)
          ⟨ltLen hnl, Eq.trans (by kernel_rfl) (hL1.2.1 hm1), sN, Eq.trans (by kernel_rfl) hdel, idx hs, c20, c24, by kernel_rfl, mixed, by kernel_rfl, h1.sL, sM, by kernel_rfl, Eq.trans (by kernel_rfl) em, idx hs, by kernel_rfl, mixed, by kernel_rfl, Eq.trans (by kernel_rfl) h2.lk, h1.sL, Eq.trans (by kernel_rfl) h2.ap, by kernel_rfl, Eq.trans (by kernel_rfl) h2.pv, (n + 1, updF (updF f (n + 1) []) k2 (f k2 ++ L), (ks.erase (n + 1) ++ [k2])), ⟨hlt, hnx, hp⟩, mu1 hlt,
            Wk.trans (Wk.push2 (c := 8) (M := 7) (B := bL1 e b ws (lastS e b ws (n + 1))) (f := f) (ks := ks.erase (n + 1) ++ [k2]) (k := k2) (k1 := n + 1) (x := f k2 ++ L) (nid := 37) (by kernel_rfl) (hbas _) (by decide) h1.k27 hp.lt hne2 h1.ne (by decide) (hlo.mono (by decide))) (Wk.le (St.le.of ⟨by kernel_rfl, rfl, by kernel_rfl, rfl, by kernel_rfl, rfl, by kernel_rfl, rfl, by kernel_rfl, rfl, Eq.trans (by kernel_rfl) h1.ek, rfl, trivial⟩ ⟨by kernel_rfl, (by decide : (0 : Nat) < 38), rfl, by kernel_rfl, (by decide : (1 : Nat) < 38), rfl, Eq.trans (by kernel_rfl) hob, (by decide : (2 : Nat) < 38), rfl, by kernel_rfl, (by decide : (4 : Nat) < 38), rfl, by kernel_rfl, (by decide : (7 : Nat) < 38), h2.okm, by kernel_rfl, (by decide : (37 : Nat) < 38), iL_ok _ _, by kernel_rfl, (by decide : (9 : Nat) < 38), iL_ok _ _, by kernel_rfl, (by decide : (10 : Nat) < 38), iL_ok _ _, by kernel_rfl, (by decide : (11 : Nat) < 38), iL_ok _ _, by kernel_rfl, (by decide : (12 : Nat) < 38), iL_ok _ _, by kernel_rfl, (by decide : (13 : Nat) < 38), iL_ok _ _, by kernel_rfl, (by decide : (14 : Nat) < 38), iL_ok _ _, by kernel_rfl, (by decide : (15 : Nat) < 38), iL_ok _ _, trivial⟩) (hlo.mono (show 5 ≤ 38 by decide)))⟩
end Go.Proofs.YtiggnliiigcjaaaDoor
/-
  WHEN THE LAST ONE IS OUT: Out.
-/
namespace Go.Proofs.YtiggnliiigcjaaaDoor
open Go Go.Am
set_option maxRecDepth 100000
set_option maxHeartbeats 8000000
def lastV (e : Bool) (b : Bdg) (ws : List Wal) : Int := lastS e b ws b.ss.length
theorem last_spec (e : Bool) (b : Bdg) (ws : List Wal) (vd : Vld b ws) : APure Tryd.prog 84 [encX b ws, endV e] (.int .i64 (lastV e b ws)) := by
  refine APure.vcM Tryd.func84 (.call (stairsCl e b ws) <| .inl Tryd.f118 <| .inl Tryd.f119 <| .call (takeCl e b ws) .loop) rfl rfl ⟨stairs_spec e b ws, Tryd.func118, Tryd.func119, taking_spec e b ws, ?_⟩
  intro g1 hn1 hlo1
  replace hn1 : g1.n = 41 := hn1
  replace hlo1 : g1.low 5 := hlo1
  refine acode_whileW (cL (.cells (endC e)) (.cells [.int .i64 0]) (.loop (LL .ready none)) e b ws) (IC e b ws) (fun q => ws.length - q.1) (0, (fun _ => []), []) ⟨Nat.zero_le _, comeF_zero e b ws, ⟨List.nodup_nil, fun j hj => (by cases hj), fun j _ _ => rfl⟩⟩ ?_ ?_
  · refine Wk.trans (Wk.start (c := 8) (M := 7) (B := bL (.cells (endC e)) (.cells [.int .i64 0]) (.loop (LL .ready none)) b ws) (n := 8) (by kernel_rfl) (by kernel_rfl) (by decide) (hlo1.mono (by decide))) (Wk.trans (Wk.le ?_ (hlo1.mono (show 5 ≤ 8 by decide))) (Wk.loopEnv (id := 4) (n := 4) [(2, .vptr 0 0), (3, .vptr 1 0), (5, .vptr 2 0)] rfl ⟨rfl, rfl, rfl, rfl, rfl, rfl, trivial⟩))
    exact St.le.of ⟨by kernel_rfl, rfl, by kernel_rfl, rfl, by kernel_rfl, rfl, by kernel_rfl, rfl, by kernel_rfl, rfl, by kernel_rfl, rfl, trivial⟩ ⟨by kernel_rfl, (by decide : (0 : Nat) < 8), rfl, by kernel_rfl, (by decide : (1 : Nat) < 8), rfl, by kernel_rfl, (by decide : (2 : Nat) < 8), rfl, by kernel_rfl, (by decide : (4 : Nat) < 8), rfl, by kernel_rfl, (by decide : (5 : Nat) < 8), rfl, by kernel_rfl, (by decide : (7 : Nat) < 8), rfl, trivial⟩
  · rintro ⟨n, f, ks⟩ hI
    by_cases hlt : n < ws.length
    · exact comeL _ _ _ rfl rfl rfl rfl rfl rfl .cl hn1 hlo1 e b ws vd n f ks hI hlt
    · have hnl : n = ws.length := Nat.le_antisymm hI.1 (Nat.not_lt.1 hlt)
      have hf : f = stF e b ws 0 := by
        have h9 : f = comeF e b (ws.take n) := hI.2.1
        rw [hnl, List.take_length] at h9
        exact h9
      have hks : KsOk f ks := hI.2.2
      have okm := okE_entV (n := 16) (v := vC 8 f) (ks := ks) fun j hj => (show decide (8 + 1 + j < 16) = true from decide_eq_true (by have := hks.lt j hj; omega))
      clear hI hnl
      refine ACode.vcM (.br 18 false .loop) hn1 hlo1 (.roundW .cl) ⟨geLen hlt, _, .refl _, .loop, ?_⟩
      intro g2 hn2 hlo2
      replace hn2 : g2.n = 48 := hn2
      replace hlo2 : g2.low 5 := hlo2
      refine acode_whileW (sLL e b ws) (IS e b ws) (fun q => b.ss.length - q.1) (0, f, ks) ⟨Nat.zero_le _, hf, hks⟩ ?_ ?_
      · exact Wk.le (St.le.of ⟨by kernel_rfl, rfl, by kernel_rfl, rfl, by kernel_rfl, rfl, by kernel_rfl, rfl, by kernel_rfl, rfl, by kernel_rfl, rfl, trivial⟩ ⟨by kernel_rfl, (by decide : (0 : Nat) < 16), rfl, by kernel_rfl, (by decide : (1 : Nat) < 16), rfl, by kernel_rfl, (by decide : (2 : Nat) < 16), rfl, by kernel_rfl, (by decide : (4 : Nat) < 16), rfl, by kernel_rfl, (by decide : (7 : Nat) < 16), okm, by kernel_rfl, (by decide : (9 : Nat) < 16), iL_ok _ _, by kernel_rfl, (by decide : (10 : Nat) < 16), iL_ok _ _, by kernel_rfl, (by decide : (11 : Nat) < 16), iL_ok _ _, by kernel_rfl, (by decide : (12 : Nat) < 16), iL_ok _ _, by kernel_rfl, (by decide : (13 : Nat) < 16), iL_ok _ _, by kernel_rfl, (by decide : (14 : Nat) < 16), iL_ok _ _, by kernel_rfl, (by decide : (15 : Nat) < 16), iL_ok _ _, trivial⟩) (hlo2.mono (show 5 ≤ 16 by decide))
      · rintro ⟨n, f, ks⟩ hI
        by_cases hlt : n < b.ss.length
        · by_cases hm : (n + 1) ∈ ks
          · exact roundL1 .cl hn2 hlo2 e b ws vd n f ks hI hlt hm
          · exact roundL2 .cl hn2 hlo2 e b ws vd n f ks hI hlt hm
        · have hnk : n = b.ss.length := Nat.le_antisymm hI.1 (Nat.not_lt.1 hlt)
          have ev : lastS e b ws n = lastV e b ws := by rw [hnk]; rfl
          have et : thaw 8 (hget []) (.int .i64 (lastS e b ws n)) = some (.int .i64 (lastV e b ws), []) := by rw [ev]; unfold thaw; exact if_pos rfl
          exact ACode.vcM (.br 16 false .nil) hn2 hlo2 (.roundW .cl) ⟨geLen hlt, _, .refl _, .nil, [], Eq.trans (by kernel_rfl) et⟩
theorem out_spec (b : Bdg) (ws : List Wal) (vd : Vld b ws) : APure Tryd.prog 60 [encX b ws] (encS (lastV false b ws, lastV true b ws)) := by
  have s1 := last_spec false b ws vd
  have s2 := last_spec true b ws vd
  generalize lastV false b ws = A at *
  generalize lastV true b ws = B at *
  exact APure.vcM Tryd.func60 (.call (.tup [endV false, endV true]) <| .draw 5 <| .call (.int .i64 A) <| .call (.int .i64 B) .nil) rfl rfl ⟨endsV_spec, by kernel_rfl, mixed, by kernel_rfl, s1, by kernel_rfl, s2, [], by unfold thaw; exact if_pos rfl⟩
theorem Out_ok (b : Bdg) (w : List Wal) (h1 : bdgB b = true) (h2 : walsB b w = true) : APure Tryd.prog 28 [encB b, encW w] (.tup [encS (lastV false b w, lastV true b w), .int .i64 0]) := by
  have vd := vld_of h1 h2
  have sC := Check_spec b w
  have hc : checkV b w = 0 := by unfold checkV; rw [if_pos h1, if_pos h2]
  rw [hc] at sC
  have sO := out_spec b w vd
  generalize lastV false b w = A at *
  generalize lastV true b w = B at *
  exact APure.vcM Tryd.func28 (.call (.int .i64 0) <| .call (encX b w) <| .call (encS (A, B)) .nil) rfl rfl ⟨sC, begin_spec b w, sO, [], by unfold thaw; exact if_pos rfl⟩
end Go.Proofs.YtiggnliiigcjaaaDoor
