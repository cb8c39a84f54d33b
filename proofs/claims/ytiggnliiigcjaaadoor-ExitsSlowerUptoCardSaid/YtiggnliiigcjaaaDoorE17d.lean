import Derived.Test.YtiggnliiigcjaaaDoorE15
/-
  THE FIRST CHAMBER IN WHICH PEOPLE ARE LATE.
-/
namespace Go.Proofs.YtiggnliiigcjaaaDoor
open Go Go.Am
set_option maxRecDepth 100000
set_option maxHeartbeats 8000000
def isLateC (e : Bool) (b : Bdg) (w : Wal) : Bool := decide (takeV e b w > gv e (chOf b w).sLo (chOf b w).sHi)
def lateStep (e : Bool) (b : Bdg) (v : Int) (w : Wal) : Int := if isLateC e b w && (v == -1 || decide (w.ch < v)) then w.ch else v
def lateCV (e : Bool) (b : Bdg) (ws : List Wal) : Int := ws.foldl (lateStep e b) (-1)
theorem lateChamber_spec (e : Bool) (b : Bdg) (ws : List Wal) (vd : Vld b ws) : APure Tryd.prog 101 [encX b ws, endV e] (.int .i64 (lateCV e b ws)) := by
  have all : ∀ n w, ws[n]? = some w → ∃ c, b.cs[w.ch.toNat]? = some c ∧ c = chOf b w ∧ 0 ≤ w.ch ∧ APure Tryd.prog 121 [.agg (cWa w), .cptr (endC e), .cptr (xC b ws)] (.int .i64 (takeV e b w)) := fun n w hw => by
    have hwm := List.mem_of_getElem? hw
    have hwv := vd.w w hwm
    have hcg := vd.chm hwm
    have hcv := vd.c _ _ hcg
    exact ⟨_, hcg, rfl, hwv.1.1, take1_spec e b ws w _ hwv.1.1 hcg hcv.2.1 hwv.2.1 hwv.2.2⟩
  have hwl := vd.wl
  refine APure.vc Tryd.func101 rfl (.call (takeCl e b ws) .loop) rfl rfl ⟨taking_spec e b ws, ?_⟩
  intro g hn hlo
  replace hn : g.n = 50 := hn
  replace hlo : g.low 0 := hlo
  refine acode_while (fun k : Nat => ⟨[(2, .vptr 0 0), (3, .vptr 1 0), (5, .int .i64 ((ws.take k).foldl (lateStep e b) (-1))), (6, takeCl e b ws), (14, encW ws), (15, .int .i64 (ws.map cWa).length), (16, .int .i64 k)], [(0, .cells (xC b ws)), (1, .cells (endC e))], 2⟩) (fun k => k ≤ ws.length) (fun k => ws.length - k) 0 (Nat.zero_le _) ?_ (fun _ _ => hlo.mono (Nat.zero_le _)) ?_
  · exact St.le.of ⟨by kernel_rfl, rfl, by kernel_rfl, rfl, by kernel_rfl, rfl, by kernel_rfl, rfl, by kernel_rfl, rfl, by kernel_rfl, rfl, by kernel_rfl, rfl, trivial⟩ ⟨by kernel_rfl, (by decide : (0 : Nat) < 2), rfl, by kernel_rfl, (by decide : (1 : Nat) < 2), rfl, trivial⟩
  · intro k hk
    by_cases hlt : k < ws.length
    · refine Exists.elim (getE hlt) fun w hw => Exists.elim (all k w hw) fun c hc => ?_
      have ek := congrArg (AV.int .i64) (succ64 (k := k) (by omega))
      have hi : 0 ≤ w.ch ∧ (b.cs.map cCh)[w.ch.toNat]? = some (cCh c) := ⟨hc.2.2.1, by rw [List.getElem?_map, hc.1]; rfl⟩
      have sG := giv_spec e c.sLo c.sHi
      have hlate : isLateC e b w = decide (takeV e b w > gv e c.sLo c.sHi) := by unfold isLateC; rw [hc.2.1]
      have hstep : (ws.take (k + 1)).foldl (lateStep e b) (-1) = lateStep e b ((ws.take k).foldl (lateStep e b) (-1)) w := by rw [List.take_add_one, hw]; simp [List.foldl_append]
      have sT := hc.2.2.2
      clear hc
      generalize takeV e b w = T at *
      generalize gv e c.sLo c.sHi = G at *
      generalize (ws.take k).foldl (lateStep e b) (-1) = v at *
      have fin : ∀ v', lateStep e b v w = v' → AV.int .i64 v' = .int .i64 ((ws.take (k + 1)).foldl (lateStep e b) (-1)) := fun v' h => by rw [hstep, h]
      have c0 : isLateC e b w = false → lateStep e b v w = v := fun h => by unfold lateStep; rw [h]; rfl
      have c1 : isLateC e b w = true → (v == -1) = true → lateStep e b v w = w.ch := fun h h2 => by unfold lateStep; rw [h, h2]; rfl
      have c2 : isLateC e b w = true → (v == -1) = false → decide (w.ch < v) = true → lateStep e b v w = w.ch := fun h h2 h3 => by unfold lateStep; rw [h, h2, h3]; rfl
      have c3 : isLateC e b w = true → (v == -1) = false → decide (w.ch < v) = false → lateStep e b v w = v := fun h h2 h3 => by unfold lateStep; rw [h, h2, h3]; rfl
      clear hstep
      cases h1 : isLateC e b w
      · have f5 := fin _ (c0 h1)
        rw [hlate] at h1
        cases e
        all_goals exact ACode.vc (.br 17 true <| .cells (cWa w) <| .draw 13 <| .call (.int .i64 T) <| .cells (cCh c) <| .call (.int .i64 G) <| .br 36 false .nil) hn hlo (.round .cl) ⟨ltLen hlt, idx hw, by kernel_rfl, mixed, by kernel_rfl, sT, hi, by kernel_rfl, sG, h1, k + 1, hlt, mu1 hlt, St.le.of ⟨by kernel_rfl, rfl, by kernel_rfl, rfl, Eq.trans (by kernel_rfl) f5, rfl, by kernel_rfl, rfl, by kernel_rfl, rfl, by kernel_rfl, rfl, Eq.trans (by kernel_rfl) ek, rfl, trivial⟩ ⟨by kernel_rfl, (by decide : (0 : Nat) < 2), rfl, by kernel_rfl, (by decide : (1 : Nat) < 2), rfl, trivial⟩⟩
      · cases h2 : (v == -1)
        · cases h3 : decide (w.ch < v)
          · have f5 := fin _ (c3 h1 h2 h3)
            rw [hlate] at h1
            cases e
            all_goals exact ACode.vc (.br 17 true <| .cells (cWa w) <| .draw 13 <| .call (.int .i64 T) <| .cells (cCh c) <| .call (.int .i64 G) <| .br 36 true <| .br 39 false <| .br 45 false .nil) hn hlo (.round .cl) ⟨ltLen hlt, idx hw, by kernel_rfl, mixed, by kernel_rfl, sT, hi, by kernel_rfl, sG, h1, h2, h3, k + 1, hlt, mu1 hlt, St.le.of ⟨by kernel_rfl, rfl, by kernel_rfl, rfl, Eq.trans (by kernel_rfl) f5, rfl, by kernel_rfl, rfl, by kernel_rfl, rfl, by kernel_rfl, rfl, Eq.trans (by kernel_rfl) ek, rfl, trivial⟩ ⟨by kernel_rfl, (by decide : (0 : Nat) < 2), rfl, by kernel_rfl, (by decide : (1 : Nat) < 2), rfl, trivial⟩⟩
          · have f5 := fin _ (c2 h1 h2 h3)
            rw [hlate] at h1
            cases e
            all_goals exact ACode.vc (.br 17 true <| .cells (cWa w) <| .draw 13 <| .call (.int .i64 T) <| .cells (cCh c) <| .call (.int .i64 G) <| .br 36 true <| .br 39 false <| .br 45 true .nil) hn hlo (.round .cl) ⟨ltLen hlt, idx hw, by kernel_rfl, mixed, by kernel_rfl, sT, hi, by kernel_rfl, sG, h1, h2, h3, k + 1, hlt, mu1 hlt, St.le.of ⟨by kernel_rfl, rfl, by kernel_rfl, rfl, Eq.trans (by kernel_rfl) f5, rfl, by kernel_rfl, rfl, by kernel_rfl, rfl, by kernel_rfl, rfl, Eq.trans (by kernel_rfl) ek, rfl, trivial⟩ ⟨by kernel_rfl, (by decide : (0 : Nat) < 2), rfl, by kernel_rfl, (by decide : (1 : Nat) < 2), rfl, trivial⟩⟩
        · have f5 := fin _ (c1 h1 h2)
          rw [hlate] at h1
          cases e
          all_goals exact ACode.vc (.br 17 true <| .cells (cWa w) <| .draw 13 <| .call (.int .i64 T) <| .cells (cCh c) <| .call (.int .i64 G) <| .br 36 true <| .br 39 true .nil) hn hlo (.round .cl) ⟨ltLen hlt, idx hw, by kernel_rfl, mixed, by kernel_rfl, sT, hi, by kernel_rfl, sG, h1, h2, k + 1, hlt, mu1 hlt, St.le.of ⟨by kernel_rfl, rfl, by kernel_rfl, rfl, Eq.trans (by kernel_rfl) f5, rfl, by kernel_rfl, rfl, by kernel_rfl, rfl, by kernel_rfl, rfl, Eq.trans (by kernel_rfl) ek, rfl, trivial⟩ ⟨by kernel_rfl, (by decide : (0 : Nat) < 2), rfl, by kernel_rfl, (by decide : (1 : Nat) < 2), rfl, trivial⟩⟩
    · have hk' : k = ws.length := by omega
      have e5 : (ws.take k).foldl (lateStep e b) (-1) = lateCV e b ws := by rw [hk', List.take_length]; rfl
      exact ACode.vc (.br 17 false .nil) hn hlo (.round .cl) ⟨geLen hlt, _, .refl _, .nil, rI e5⟩
end Go.Proofs.YtiggnliiigcjaaaDoor
/-
  FROM STAIR TO STAIR: where nobody is late; one round, at one end.
-/
namespace Go.Proofs.YtiggnliiigcjaaaDoor
open Go Go.Am
set_option maxRecDepth 100000
set_option maxHeartbeats 8000000
noncomputable def asgLS : Code := rfA Tryd.f102
noncomputable def bodLS : Code := rfB Tryd.f102
noncomputable def LS (st : LoopState) (pd : Option Code) : ALoop := ⟨st, pd, 40, [(2, .vptr 0 0), (3, .vptr 1 0), (5, .vptr 2 0)], #[13, 14], asgLS, bodLS⟩
noncomputable def bS1 (e : Bool) (b : Bdg) (ws : List Wal) (st : LoopState) : AHeap := [(0, .cells (xC b ws)), (1, .cells (endC e)), (2, .cells [.int .i64 (-1)]), (4, .loop (LS st none))]
noncomputable def sSS (e : Bool) (b : Bdg) (ws : List Wal) (q : Nat × (Nat → List Int) × List Nat) : St :=
  ⟨[(0, .yld 4), (1, .cptr (xC b ws)), (2, .cptr (endC e)), (4, .mref 7), (14, .int .i64 (b.ss.map cSt).length), (15, .int .i64 q.1)], canH 8 7 (bS1 e b ws .ready) q.2.1 q.2.2, 16⟩
/-- In the body, at one of those who leave. -/
noncomputable def iSS (e : Bool) (b : Bdg) (ws : List Wal) (n : Nat) (f : Nat → List Int) (ks : List Nat) (k2 : Nat) (L : List Int) (i : Nat) : St :=
  ⟨[(2, .vptr 0 0), (3, .vptr 1 0), (5, .vptr 2 0), (6, .int .i64 n), (19, encR L), (20, .int .i64 (L.map encI).length), (21, .int .i64 i)], pulH 8 7 (bS1 e b ws .busy) f ks k2, 17⟩
theorem roundSf1 {g : G} {Q : AX → St → Prop} (hQ : EClosed Q) (hn : g.n = 48) (hlo : g.low 5) (b : Bdg) (ws : List Wal) (vd : Vld b ws) (n : Nat) (f : Nat → List Int) (ks : List Nat) (hI : IS false b ws (n, f, ks)) (hlt : n < b.ss.length) (s : Sta) (hs : b.ss[n]? = some s) (G : Int) (hG : G = gv false s.sLo s.sHi) (hok : ∀ x ∈ leavesV false b ws n, decide (x > G) = false) (hm1 : (n + 1) ∈ ks) (I : Nat × (Nat → List Int) × List Nat → Prop) (hI2 : ∀ f' ks', IS false b ws (n + 1, f', ks') → I (n + 1, f', ks')) :
    ACode Tryd.prog none g (lpB Tryd.f118) (AX.then (RoundW g (sSS false b ws) I (fun q => b.ss.length - q.1) (n, f, ks)) Q) (sSS false b ws (n, f, ks)) := by
  have hnl := hlt
  refine Exists.elim (oneS (e := false) (ws := ws) vd hs) fun k2 h => Exists.elim h fun come h => Exists.elim h fun L h1 => ?_
  have i2 : f = stF false b ws n := hI.2.1
  have i3 : KsOk f ks := hI.2.2
  rw [← i2] at h1
  have eLv : leavesV false b ws n = L := by rw [leavesV_eq hs, ← i2, h1.eL, h1.eC]
  rw [eLv] at hok
  have sG := giv_spec false s.sLo s.sHi
  rw [← hG] at sG
  have hbas : ∀ st, basOk 8 7 (bS1 false b ws st) = true := fun st => rfl
  have hsl := vd.sl
  have hL1 := look1 (f := f) (ks := ks) (k2 := k2) (hbas .ready) h1.key1 h1.ne (by omega)
  have hdel := delV (h := hget (pulH 8 7 (bS1 false b ws .ready) f ks k2)) (i := 7) (v := updF (vC 8 f) k2 (.rsl 8 0 (f k2).length 1)) (ks := ks) (k := n + 1) (by kernel_rfl) i3.nd
  rw [h1.key1] at hdel
  have hdk := i3.del (n + 1)
  have hP := twoP (h := hget (pulH 8 7 (bS1 false b ws .ready) f (ks.erase (n + 1)) k2)) (f := f) (ks := ks.erase (n + 1)) (L := L) (nid := 27) hdk.nd hdk.lt h1.k27 (fun hm => i3.em k2 h1.k27 fun hk => hm ((List.mem_erase_of_ne (Ne.symm h1.ne)).2 hk)) h1.key2 (by decide) h1.len (by kernel_rfl)
  have okp : okE 17 (entV (updF (vC 8 f) k2 (.rsl 8 0 (f k2).length 1)) (ks.erase (n + 1))) = true := okE_entV (vC_ok hdk.lt (by decide) rfl)
  have hput := hdk.put h1.k27 (f k2 ++ L)
  have hne : (n + 1) ∉ ks.erase (n + 1) := fun h => absurd h (i3.nd.not_mem_erase)
  have hne2 : (n + 1) ∉ ks.erase (n + 1) ++ [k2] := fun h => by
    rcases List.mem_append.1 h with h | h
    · exact hne h
    · simp at h; exact h1.ne h
  have sN : f (n + 1) = [] → APure Tryd.prog 120 [.nil] (encR come) := fun h => APure.nilArg (e := 1) (by have := h1.sI; rw [h] at this; exact this)
  refine ACode.wk (Wk.pull (c := 8) (M := 7) (B := bS1 false b ws .ready) (f := f) (ks := ks) (k := k2) (by kernel_rfl) (hbas _) (by decide) h1.k27 i3.lt (hlo.mono (by decide))) ?_
  by_cases hm2 : k2 ∈ ks.erase (n + 1)
  · skip
    have h2 := hP.1 hm2
    have hp := hput
    have hnx := h1.nx
    rw [if_pos hm2] at hp
    refine ACode.vcM (.br 16 true <| .val 20 (.rsl (8 + 1 + (n + 1)) 0 (f (n + 1)).length 1) [] <| .lent (encR come) [8 + 1 + (n + 1)] <| .val 0 .undef [(7, some (.map (entV (updF (vC 8 f) k2 (.rsl 8 0 (f k2).length 1)) (ks.erase (n + 1)))))] <| .call (encR L) .loop) hn hlo (.roundW hQ) ⟨ltLen hnl, Eq.trans (by kernel_rfl) (hL1.1 hm1), ⟨_, Eq.trans (by kernel_rfl) hL1.2.2, .inr h1.sF⟩, Eq.trans (by kernel_rfl) hdel, h1.sL, ?_⟩
    intro g3 l3 hn3 hlo3 hid3
    replace hn3 : g3.n = 40 := hn3
    replace hlo3 : g3.low 17 := hlo3
    refine acode_whileW (iSS false b ws n f (ks.erase (n + 1)) k2 L) (fun i => i ≤ L.length) (fun i => L.length - i) 0 (Nat.zero_le _) (Wk.le (St.le.of ⟨by kernel_rfl, rfl, by kernel_rfl, rfl, by kernel_rfl, rfl, by kernel_rfl, rfl, by kernel_rfl, rfl, by kernel_rfl, rfl, by kernel_rfl, rfl, trivial⟩ ⟨by kernel_rfl, (by decide : (0 : Nat) < 17), rfl, by kernel_rfl, (by decide : (1 : Nat) < 17), rfl, by kernel_rfl, (by decide : (2 : Nat) < 17), rfl, by kernel_rfl, (by decide : (4 : Nat) < 17), rfl, by kernel_rfl, (by decide : (7 : Nat) < 17), okp, by kernel_rfl, (by decide : (8 : Nat) < 17), iL_ok _ _, by kernel_rfl, (by decide : (9 : Nat) < 17), iL_ok _ _, by kernel_rfl, (by decide : (10 : Nat) < 17), iL_ok _ _, by kernel_rfl, (by decide : (11 : Nat) < 17), iL_ok _ _, by kernel_rfl, (by decide : (12 : Nat) < 17), iL_ok _ _, by kernel_rfl, (by decide : (13 : Nat) < 17), iL_ok _ _, by kernel_rfl, (by decide : (14 : Nat) < 17), iL_ok _ _, by kernel_rfl, (by decide : (15 : Nat) < 17), iL_ok _ _, trivial⟩) hlo3) ?_
    intro i hi
    by_cases hil : i < L.length
    · refine Exists.elim (getE hil) fun x hx => ?_
      have ei := congrArg (AV.int .i64) (succ64 (k := i) (by have := h1.len; omega))
      exact ACode.vcR (rid := some 4) 4 (.br 22 true <| .cells (encI x) <| .draw 11 <| .cells (cSt s) <| .call (.int .i64 G) <| .br 36 false .nil) hn3 hlo3 ⟨l3, rfl, hid3⟩ (.roundW .cl) ⟨ltLen hil, idx hx, by kernel_rfl, mixed, by kernel_rfl, idx hs, sG, by kernel_rfl, hok x (List.mem_of_getElem? hx), i + 1, hil, mu1 hil, Wk.le (St.le.of ⟨by kernel_rfl, rfl, by kernel_rfl, rfl, by kernel_rfl, rfl, by kernel_rfl, rfl, by kernel_rfl, rfl, by kernel_rfl, rfl, Eq.trans (by kernel_rfl) ei, rfl, trivial⟩ ⟨by kernel_rfl, (by decide : (0 : Nat) < 17), rfl, by kernel_rfl, (by decide : (1 : Nat) < 17), rfl, by kernel_rfl, (by decide : (2 : Nat) < 17), rfl, by kernel_rfl, (by decide : (4 : Nat) < 17), rfl, by kernel_rfl, (by decide : (7 : Nat) < 17), okp, by kernel_rfl, (by decide : (8 : Nat) < 17), iL_ok _ _, by kernel_rfl, (by decide : (9 : Nat) < 17), iL_ok _ _, by kernel_rfl, (by decide : (10 : Nat) < 17), iL_ok _ _, by kernel_rfl, (by decide : (11 : Nat) < 17), iL_ok _ _, by kernel_rfl, (by decide : (12 : Nat) < 17), iL_ok _ _, by kernel_rfl, (by decide : (13 : Nat) < 17), iL_ok _ _, by kernel_rfl, (by decide : (14 : Nat) < 17), iL_ok _ _, by kernel_rfl, (by decide : (15 : Nat) < 17), iL_ok _ _, trivial⟩) hlo3⟩
    · exact ACode.vcR (rid := some 4) 4 (.br 22 false .nil) hn3 hlo3 ⟨l3, rfl, hid3⟩ (.roundW .cl) ⟨geLen hil, _, .refl _, .cells (cSt s) <| .draw 11 <| .val 40 (.rsl 8 0 (f k2).length 1) [] <| .call (encR L) <| .val 46 (.rsl 27 0 (f k2 ++ L).length 1) [(8, none), (27, some (.cells (iL (f k2 ++ L))))] <| .val 0 .undef [(7, some (.map (entV (updF (vC 8 f) k2 (.rsl 27 0 (f k2 ++ L).length 1)) (ks.erase (n + 1)))))] .nil, idx hs, by kernel_rfl, mixed, by kernel_rfl, Eq.trans (by kernel_rfl) h2.lk, h1.sL, Eq.trans (by kernel_rfl) h2.ap, by kernel_rfl, Eq.trans (by kernel_rfl) h2.pv, (n + 1, updF (updF f (n + 1) []) k2 (f k2 ++ L), (ks.erase (n + 1))), hI2 _ _ ⟨hlt, hnx, hp⟩, mu1 hlt, Wk.trans (Wk.push2 (c := 8) (M := 7) (B := bS1 false b ws .ready) (f := f) (ks := ks.erase (n + 1)) (k := k2) (k1 := n + 1) (x := f k2 ++ L) (nid := 27) (by kernel_rfl) (hbas _) (by decide) h1.k27 hdk.lt hne h1.ne (by decide) (hlo.mono (by decide))) (Wk.le (St.le.of ⟨by kernel_rfl, rfl, by kernel_rfl, rfl, by kernel_rfl, rfl, by kernel_rfl, rfl, by kernel_rfl, rfl, Eq.trans (by kernel_rfl) h1.ek, rfl, trivial⟩ ⟨by kernel_rfl, (by decide : (0 : Nat) < 28), rfl, by kernel_rfl, (by decide : (1 : Nat) < 28), rfl, by kernel_rfl, (by decide : (2 : Nat) < 28), rfl, by kernel_rfl, (by decide : (4 : Nat) < 28), rfl, by kernel_rfl, (by decide : (7 : Nat) < 28), h2.okm, by kernel_rfl, (by decide : (27 : Nat) < 28), iL_ok _ _, by kernel_rfl, (by decide : (9 : Nat) < 28), iL_ok _ _, by kernel_rfl, (by decide : (10 : Nat) < 28), iL_ok _ _, by kernel_rfl, (by decide : (11 : Nat) < 28), iL_ok _ _, by kernel_rfl, (by decide : (12 : Nat) < 28), iL_ok _ _, by kernel_rfl, (by decide : (13 : Nat) < 28), iL_ok _ _, by kernel_rfl, (by decide : (14 : Nat) < 28), iL_ok _ _, by kernel_rfl, (by decide : (15 : Nat) < 28), iL_ok _ _, trivial⟩) (hlo.mono (show 5 ≤ 28 by decide)))⟩
  · by_cases hLe : L = []
    · skip
      have hx : f k2 ++ L = [] := by rw [hLe, i3.em k2 h1.k27 fun hk => hm2 ((List.mem_erase_of_ne (Ne.symm h1.ne)).2 hk)]; rfl
      have h2 := hP.2.2 hm2 hLe
      have hp := hput
      have hnx := h1.nx
      rw [if_neg hm2, hx] at hp
      rw [hx] at hnx
      refine ACode.vcM (.br 16 true <| .val 20 (.rsl (8 + 1 + (n + 1)) 0 (f (n + 1)).length 1) [] <| .lent (encR come) [8 + 1 + (n + 1)] <| .val 0 .undef [(7, some (.map (entV (updF (vC 8 f) k2 (.rsl 8 0 (f k2).length 1)) (ks.erase (n + 1)))))] <| .call (encR L) .loop) hn hlo (.roundW hQ) ⟨ltLen hnl, Eq.trans (by kernel_rfl) (hL1.1 hm1), ⟨_, Eq.trans (by kernel_rfl) hL1.2.2, .inr h1.sF⟩, Eq.trans (by kernel_rfl) hdel, h1.sL, ?_⟩
      intro g3 l3 hn3 hlo3 hid3
      replace hn3 : g3.n = 40 := hn3
      replace hlo3 : g3.low 17 := hlo3
      refine acode_whileW (iSS false b ws n f (ks.erase (n + 1)) k2 L) (fun i => i ≤ L.length) (fun i => L.length - i) 0 (Nat.zero_le _) (Wk.le (St.le.of ⟨by kernel_rfl, rfl, by kernel_rfl, rfl, by kernel_rfl, rfl, by kernel_rfl, rfl, by kernel_rfl, rfl, by kernel_rfl, rfl, by kernel_rfl, rfl, trivial⟩ ⟨by kernel_rfl, (by decide : (0 : Nat) < 17), rfl, by kernel_rfl, (by decide : (1 : Nat) < 17), rfl, by kernel_rfl, (by decide : (2 : Nat) < 17), rfl, by kernel_rfl, (by decide : (4 : Nat) < 17), rfl, by kernel_rfl, (by decide : (7 : Nat) < 17), okp, by kernel_rfl, (by decide : (8 : Nat) < 17), iL_ok _ _, by kernel_rfl, (by decide : (9 : Nat) < 17), iL_ok _ _, by kernel_rfl, (by decide : (10 : Nat) < 17), iL_ok _ _, by kernel_rfl, (by decide : (11 : Nat) < 17), iL_ok _ _, by kernel_rfl, (by decide : (12 : Nat) < 17), iL_ok _ _, by kernel_rfl, (by decide : (13 : Nat) < 17), iL_ok _ _, by kernel_rfl, (by decide : (14 : Nat) < 17), iL_ok _ _, by kernel_rfl, (by decide : (15 : Nat) < 17), iL_ok _ _, trivial⟩) hlo3) ?_
      intro i hi
      by_cases hil : i < L.length
      · refine Exists.elim (getE hil) fun x hx => ?_
        have ei := congrArg (AV.int .i64) (succ64 (k := i) (by have := h1.len; omega))
        exact ACode.vcR (rid := some 4) 4 (.br 22 true <| .cells (encI x) <| .draw 11 <| .cells (cSt s) <| .call (.int .i64 G) <| .br 36 false .nil) hn3 hlo3 ⟨l3, rfl, hid3⟩ (.roundW .cl) ⟨ltLen hil, idx hx, by kernel_rfl, mixed, by kernel_rfl, idx hs, sG, by kernel_rfl, hok x (List.mem_of_getElem? hx), i + 1, hil, mu1 hil, Wk.le (St.le.of ⟨by kernel_rfl, rfl, by kernel_rfl, rfl, by kernel_rfl, rfl, by kernel_rfl, rfl, by kernel_rfl, rfl, by kernel_rfl, rfl, Eq.trans (by kernel_rfl) ei, rfl, trivial⟩ ⟨by kernel_rfl, (by decide : (0 : Nat) < 17), rfl, by kernel_rfl, (by decide : (1 : Nat) < 17), rfl, by kernel_rfl, (by decide : (2 : Nat) < 17), rfl, by kernel_rfl, (by decide : (4 : Nat) < 17), rfl, by kernel_rfl, (by decide : (7 : Nat) < 17), okp, by kernel_rfl, (by decide : (8 : Nat) < 17), iL_ok _ _, by kernel_rfl, (by decide : (9 : Nat) < 17), iL_ok _ _, by kernel_rfl, (by decide : (10 : Nat) < 17), iL_ok _ _, by kernel_rfl, (by decide : (11 : Nat) < 17), iL_ok _ _, by kernel_rfl, (by decide : (12 : Nat) < 17), iL_ok _ _, by kernel_rfl, (by decide : (13 : Nat) < 17), iL_ok _ _, by kernel_rfl, (by decide : (14 : Nat) < 17), iL_ok _ _, by kernel_rfl, (by decide : (15 : Nat) < 17), iL_ok _ _, trivial⟩) hlo3⟩
      · exact ACode.vcR (rid := some 4) 4 (.br 22 false .nil) hn3 hlo3 ⟨l3, rfl, hid3⟩ (.roundW .cl) ⟨geLen hil, _, .refl _, .cells (cSt s) <| .draw 11 <| .val 40 (.nil) [] <| .call (encR L) <| .val 46 (.nil) [] <| .val 0 .undef [(7, some (.map (entV (updF (vC 8 f) k2 (.nil)) (ks.erase (n + 1) ++ [k2]))))] .nil, idx hs, by kernel_rfl, mixed, by kernel_rfl, Eq.trans (by kernel_rfl) h2.lk, h1.sL, Eq.trans (by kernel_rfl) h2.ap, by kernel_rfl, Eq.trans (by kernel_rfl) h2.pv, (n + 1, updF (updF f (n + 1) []) k2 [], (ks.erase (n + 1) ++ [k2])), hI2 _ _ ⟨hlt, hnx, hp⟩, mu1 hlt, Wk.trans (Wk.push2N (c := 8) (M := 7) (B := bS1 false b ws .ready) (f := f) (ks := ks.erase (n + 1) ++ [k2]) (k := k2) (k1 := n + 1) (n := 28) (by kernel_rfl) (hbas _) (by decide) h1.k27 hp.lt hne2 h1.ne (hlo.mono (by decide))) (Wk.le (St.le.of ⟨by kernel_rfl, rfl, by kernel_rfl, rfl, by kernel_rfl, rfl, by kernel_rfl, rfl, by kernel_rfl, rfl, Eq.trans (by kernel_rfl) h1.ek, rfl, trivial⟩ ⟨by kernel_rfl, (by decide : (0 : Nat) < 28), rfl, by kernel_rfl, (by decide : (1 : Nat) < 28), rfl, by kernel_rfl, (by decide : (2 : Nat) < 28), rfl, by kernel_rfl, (by decide : (4 : Nat) < 28), rfl, by kernel_rfl, (by decide : (7 : Nat) < 28), h2.okm, by kernel_rfl, (by decide : (9 : Nat) < 28), iL_ok _ _, by kernel_rfl, (by decide : (10 : Nat) < 28), iL_ok _ _, by kernel_rfl, (by decide : (11 : Nat) < 28), iL_ok _ _, by kernel_rfl, (by decide : (12 : Nat) < 28), iL_ok _ _, by kernel_rfl, (by decide : (13 : Nat) < 28), iL_ok _ _, by kernel_rfl, (by decide : (14 : Nat) < 28), iL_ok _ _, by kernel_rfl, (by decide : (15 : Nat) < 28), iL_ok _ _, trivial⟩) (hlo.mono (show 5 ≤ 28 by decide)))⟩
    · skip
      have h2 := hP.2.1 hm2 hLe
      have hp := hput
      have hnx := h1.nx
      rw [if_neg hm2] at hp
      refine ACode.vcM (.br 16 true <| .val 20 (.rsl (8 + 1 + (n + 1)) 0 (f (n + 1)).length 1) [] <| .lent (encR come) [8 + 1 + (n + 1)] <| .val 0 .undef [(7, some (.map (entV (updF (vC 8 f) k2 (.rsl 8 0 (f k2).length 1)) (ks.erase (n + 1)))))] <| .call (encR L) .loop) hn hlo (.roundW hQ) ⟨ltLen hnl, Eq.trans (by kernel_rfl) (hL1.1 hm1), ⟨_, Eq.trans (by kernel_rfl) hL1.2.2, .inr h1.sF⟩, Eq.trans (by kernel_rfl) hdel, h1.sL, ?_⟩
      intro g3 l3 hn3 hlo3 hid3
      replace hn3 : g3.n = 40 := hn3
      replace hlo3 : g3.low 17 := hlo3
      refine acode_whileW (iSS false b ws n f (ks.erase (n + 1)) k2 L) (fun i => i ≤ L.length) (fun i => L.length - i) 0 (Nat.zero_le _) (Wk.le (St.le.of ⟨by kernel_rfl, rfl, by kernel_rfl, rfl, by kernel_rfl, rfl, by kernel_rfl, rfl, by kernel_rfl, rfl, by kernel_rfl, rfl, by kernel_rfl, rfl, trivial⟩ ⟨by kernel_rfl, (by decide : (0 : Nat) < 17), rfl, by kernel_rfl, (by decide : (1 : Nat) < 17), rfl, by kernel_rfl, (by decide : (2 : Nat) < 17), rfl, by kernel_rfl, (by decide : (4 : Nat) < 17), rfl, by kernel_rfl, (by decide : (7 : Nat) < 17), okp, by kernel_rfl, (by decide : (8 : Nat) < 17), iL_ok _ _, by kernel_rfl, (by decide : (9 : Nat) < 17), iL_ok _ _, by kernel_rfl, (by decide : (10 : Nat) < 17), iL_ok _ _, by kernel_rfl, (by decide : (11 : Nat) < 17), iL_ok _ _, by kernel_rfl, (by decide : (12 : Nat) < 17), iL_ok _ _, by kernel_rfl, (by decide : (13 : Nat) < 17), iL_ok _ _, by kernel_rfl, (by decide : (14 : Nat) < 17), iL_ok _ _, by kernel_rfl, (by decide : (15 : Nat) < 17), iL_ok _ _, trivial⟩) hlo3) ?_
      intro i hi
      by_cases hil : i < L.length
      · refine Exists.elim (getE hil) fun x hx => ?_
        have ei := congrArg (AV.int .i64) (succ64 (k := i) (by have := h1.len; omega))
        exact ACode.vcR (rid := some 4) 4 (.br 22 true <| .cells (encI x) <| .draw 11 <| .cells (cSt s) <| .call (.int .i64 G) <| .br 36 false .nil) hn3 hlo3 ⟨l3, rfl, hid3⟩ (.roundW .cl) ⟨ltLen hil, idx hx, by kernel_rfl, mixed, by kernel_rfl, idx hs, sG, by kernel_rfl, hok x (List.mem_of_getElem? hx), i + 1, hil, mu1 hil, Wk.le (St.le.of ⟨by kernel_rfl, rfl, by kernel_rfl, rfl, by kernel_rfl, rfl, by kernel_rfl, rfl, by kernel_rfl, rfl, by kernel_rfl, rfl, Eq.trans (by kernel_rfl) ei, rfl, trivial⟩ ⟨by kernel_rfl, (by decide : (0 : Nat) < 17), rfl, by kernel_rfl, (by decide : (1 : Nat) < 17), rfl, by kernel_rfl, (by decide : (2 : Nat) < 17), rfl, by kernel_rfl, (by decide : (4 : Nat) < 17), rfl, by kernel_rfl, (by decide : (7 : Nat) < 17), okp, by kernel_rfl, (by decide : (8 : Nat) < 17), iL_ok _ _, by kernel_rfl, (by decide : (9 : Nat) < 17), iL_ok _ _, by kernel_rfl, (by decide : (10 : Nat) < 17), iL_ok _ _, by kernel_rfl, (by decide : (11 : Nat) < 17), iL_ok _ _, by kernel_rfl, (by decide : (12 : Nat) < 17), iL_ok _ _, by kernel_rfl, (by decide : (13 : Nat) < 17), iL_ok _ _, by kernel_rfl, (by decide : (14 : Nat) < 17), iL_ok _ _, by kernel_rfl, (by decide : (15 : Nat) < 17), iL_ok _ _, trivial⟩) hlo3⟩
      · exact ACode.vcR (rid := some 4) 4 (.br 22 false .nil) hn3 hlo3 ⟨l3, rfl, hid3⟩ (.roundW .cl) ⟨geLen hil, _, .refl _, .cells (cSt s) <| .draw 11 <| .val 40 (.nil) [] <| .call (encR L) <| .val 46 (.rsl 27 0 (f k2 ++ L).length 1) [(27, some (.cells (iL (f k2 ++ L))))] <| .val 0 .undef [(7, some (.map (entV (updF (vC 8 f) k2 (.rsl 27 0 (f k2 ++ L).length 1)) (ks.erase (n + 1) ++ [k2]))))] .nil, idx hs, by kernel_rfl, mixed, by kernel_rfl, Eq.trans (by kernel_rfl) h2.lk, h1.sL, Eq.trans (by kernel_rfl) h2.ap, by kernel_rfl, Eq.trans (by kernel_rfl) h2.pv, (n + 1, updF (updF f (n + 1) []) k2 (f k2 ++ L), (ks.erase (n + 1) ++ [k2])), hI2 _ _ ⟨hlt, hnx, hp⟩, mu1 hlt, Wk.trans (Wk.push2 (c := 8) (M := 7) (B := bS1 false b ws .ready) (f := f) (ks := ks.erase (n + 1) ++ [k2]) (k := k2) (k1 := n + 1) (x := f k2 ++ L) (nid := 27) (by kernel_rfl) (hbas _) (by decide) h1.k27 hp.lt hne2 h1.ne (by decide) (hlo.mono (by decide))) (Wk.le (St.le.of ⟨by kernel_rfl, rfl, by kernel_rfl, rfl, by kernel_rfl, rfl, by kernel_rfl, rfl, by kernel_rfl, rfl, Eq.trans (by kernel_rfl) h1.ek, rfl, trivial⟩ ⟨by kernel_rfl, (by decide : (0 : Nat) < 28), rfl, by kernel_rfl, (by decide : (1 : Nat) < 28), rfl, by kernel_rfl, (by decide : (2 : Nat) < 28), rfl, by kernel_rfl, (by decide : (4 : Nat) < 28), rfl, by kernel_rfl, (by decide : (7 : Nat) < 28), h2.okm, by kernel_rfl, (by decide : (27 : Nat) < 28), iL_ok _ _, by kernel_rfl, (by decide : (9 : Nat) < 28), iL_ok _ _, by kernel_rfl, (by decide : (10 : Nat) < 28), iL_ok _ _, by kernel_rfl, (by decide : (11 : Nat) < 28), iL_ok _ _, by kernel_rfl, (by decide : (12 : Nat) < 28), iL_ok _ _, by kernel_rfl, (by decide : (13 : Nat) < 28), iL_ok _ _, by kernel_rfl, (by decide : (14 : Nat) < 28), iL_ok _ _, by kernel_rfl, (by decide : (15 : Nat) < 28), iL_ok _ _, trivial⟩) (hlo.mono (show 5 ≤ 28 by decide)))⟩
end Go.Proofs.YtiggnliiigcjaaaDoor
/-
  FROM STAIR TO STAIR: where nobody is late; one round, at one end.
-/
namespace Go.Proofs.YtiggnliiigcjaaaDoor
open Go Go.Am
set_option maxRecDepth 100000
set_option maxHeartbeats 8000000
theorem roundSf2 {g : G} {Q : AX → St → Prop} (hQ : EClosed Q) (hn : g.n = 48) (hlo : g.low 5) (b : Bdg) (ws : List Wal) (vd : Vld b ws) (n : Nat) (f : Nat → List Int) (ks : List Nat) (hI : IS false b ws (n, f, ks)) (hlt : n < b.ss.length) (s : Sta) (hs : b.ss[n]? = some s) (G : Int) (hG : G = gv false s.sLo s.sHi) (hok : ∀ x ∈ leavesV false b ws n, decide (x > G) = false) (hm1 : (n + 1) ∉ ks) (I : Nat × (Nat → List Int) × List Nat → Prop) (hI2 : ∀ f' ks', IS false b ws (n + 1, f', ks') → I (n + 1, f', ks')) :
    ACode Tryd.prog none g (lpB Tryd.f118) (AX.then (RoundW g (sSS false b ws) I (fun q => b.ss.length - q.1) (n, f, ks)) Q) (sSS false b ws (n, f, ks)) := by
  have hnl := hlt
  refine Exists.elim (oneS (e := false) (ws := ws) vd hs) fun k2 h => Exists.elim h fun come h => Exists.elim h fun L h1 => ?_
  have i2 : f = stF false b ws n := hI.2.1
  have i3 : KsOk f ks := hI.2.2
  rw [← i2] at h1
  have eLv : leavesV false b ws n = L := by rw [leavesV_eq hs, ← i2, h1.eL, h1.eC]
  rw [eLv] at hok
  have sG := giv_spec false s.sLo s.sHi
  rw [← hG] at sG
  have hbas : ∀ st, basOk 8 7 (bS1 false b ws st) = true := fun st => rfl
  have hsl := vd.sl
  have hL1 := look1 (f := f) (ks := ks) (k2 := k2) (hbas .ready) h1.key1 h1.ne (by omega)
  have hdel := delV (h := hget (pulH 8 7 (bS1 false b ws .ready) f ks k2)) (i := 7) (v := updF (vC 8 f) k2 (.rsl 8 0 (f k2).length 1)) (ks := ks) (k := n + 1) (by kernel_rfl) i3.nd
  rw [h1.key1] at hdel
  have hdk := i3.del (n + 1)
  have hP := twoP (h := hget (pulH 8 7 (bS1 false b ws .ready) f (ks.erase (n + 1)) k2)) (f := f) (ks := ks.erase (n + 1)) (L := L) (nid := 27) hdk.nd hdk.lt h1.k27 (fun hm => i3.em k2 h1.k27 fun hk => hm ((List.mem_erase_of_ne (Ne.symm h1.ne)).2 hk)) h1.key2 (by decide) h1.len (by kernel_rfl)
  have okp : okE 17 (entV (updF (vC 8 f) k2 (.rsl 8 0 (f k2).length 1)) (ks.erase (n + 1))) = true := okE_entV (vC_ok hdk.lt (by decide) rfl)
  have hput := hdk.put h1.k27 (f k2 ++ L)
  have hne : (n + 1) ∉ ks.erase (n + 1) := fun h => absurd h (i3.nd.not_mem_erase)
  have hne2 : (n + 1) ∉ ks.erase (n + 1) ++ [k2] := fun h => by
    rcases List.mem_append.1 h with h | h
    · exact hne h
    · simp at h; exact h1.ne h
  have sN : f (n + 1) = [] → APure Tryd.prog 120 [.nil] (encR come) := fun h => APure.nilArg (e := 1) (by have := h1.sI; rw [h] at this; exact this)
  have sN := sN (i3.em (n + 1) (by omega) hm1)
  refine ACode.wk (Wk.pull (c := 8) (M := 7) (B := bS1 false b ws .ready) (f := f) (ks := ks) (k := k2) (by kernel_rfl) (hbas _) (by decide) h1.k27 i3.lt (hlo.mono (by decide))) ?_
  by_cases hm2 : k2 ∈ ks.erase (n + 1)
  · skip
    have h2 := hP.1 hm2
    have hp := hput
    have hnx := h1.nx
    rw [if_pos hm2] at hp
    refine ACode.vcM (.br 16 true <| .val 20 .nil [] <| .call (encR come) <| .val 0 .undef [(7, some (.map (entV (updF (vC 8 f) k2 (.rsl 8 0 (f k2).length 1)) (ks.erase (n + 1)))))] <| .call (encR L) .loop) hn hlo (.roundW hQ) ⟨ltLen hnl, Eq.trans (by kernel_rfl) (hL1.2.1 hm1), sN, Eq.trans (by kernel_rfl) hdel, h1.sL, ?_⟩
    intro g3 l3 hn3 hlo3 hid3
    replace hn3 : g3.n = 40 := hn3
    replace hlo3 : g3.low 17 := hlo3
    refine acode_whileW (iSS false b ws n f (ks.erase (n + 1)) k2 L) (fun i => i ≤ L.length) (fun i => L.length - i) 0 (Nat.zero_le _) (Wk.le (St.le.of ⟨by kernel_rfl, rfl, by kernel_rfl, rfl, by kernel_rfl, rfl, by kernel_rfl, rfl, by kernel_rfl, rfl, by kernel_rfl, rfl, by kernel_rfl, rfl, trivial⟩ ⟨by kernel_rfl, (by decide : (0 : Nat) < 17), rfl, by kernel_rfl, (by decide : (1 : Nat) < 17), rfl, by kernel_rfl, (by decide : (2 : Nat) < 17), rfl, by kernel_rfl, (by decide : (4 : Nat) < 17), rfl, by kernel_rfl, (by decide : (7 : Nat) < 17), okp, by kernel_rfl, (by decide : (8 : Nat) < 17), iL_ok _ _, by kernel_rfl, (by decide : (9 : Nat) < 17), iL_ok _ _, by kernel_rfl, (by decide : (10 : Nat) < 17), iL_ok _ _, by kernel_rfl, (by decide : (11 : Nat) < 17), iL_ok _ _, by kernel_rfl, (by decide : (12 : Nat) < 17), iL_ok _ _, by kernel_rfl, (by decide : (13 : Nat) < 17), iL_ok _ _, by kernel_rfl, (by decide : (14 : Nat) < 17), iL_ok _ _, by kernel_rfl, (by decide : (15 : Nat) < 17), iL_ok _ _, trivial⟩) hlo3) ?_
    intro i hi
    by_cases hil : i < L.length
    · refine Exists.elim (getE hil) fun x hx => ?_
      have ei := congrArg (AV.int .i64) (succ64 (k := i) (by have := h1.len; omega))
      exact ACode.vcR (rid := some 4) 4 (.br 22 true <| .cells (encI x) <| .draw 11 <| .cells (cSt s) <| .call (.int .i64 G) <| .br 36 false .nil) hn3 hlo3 ⟨l3, rfl, hid3⟩ (.roundW .cl) ⟨ltLen hil, idx hx, by kernel_rfl, mixed, by kernel_rfl, idx hs, sG, by kernel_rfl, hok x (List.mem_of_getElem? hx), i + 1, hil, mu1 hil, Wk.le (St.le.of ⟨by kernel_rfl, rfl, by kernel_rfl, rfl, by kernel_rfl, rfl, by kernel_rfl, rfl, by kernel_rfl, rfl, by kernel_rfl, rfl, Eq.trans (by kernel_rfl) ei, rfl, trivial⟩ ⟨by kernel_rfl, (by decide : (0 : Nat) < 17), rfl, by kernel_rfl, (by decide : (1 : Nat) < 17), rfl, by kernel_rfl, (by decide : (2 : Nat) < 17), rfl, by kernel_rfl, (by decide : (4 : Nat) < 17), rfl, by kernel_rfl, (by decide : (7 : Nat) < 17), okp, by kernel_rfl, (by decide : (8 : Nat) < 17), iL_ok _ _, by kernel_rfl, (by decide : (9 : Nat) < 17), iL_ok _ _, by kernel_rfl, (by decide : (10 : Nat) < 17), iL_ok _ _, by kernel_rfl, (by decide : (11 : Nat) < 17), iL_ok _ _, by kernel_rfl, (by decide : (12 : Nat) < 17), iL_ok _ _, by kernel_rfl, (by decide : (13 : Nat) < 17), iL_ok _ _, by kernel_rfl, (by decide : (14 : Nat) < 17), iL_ok _ _, by kernel_rfl, (by decide : (15 : Nat) < 17), iL_ok _ _, trivial⟩) hlo3⟩
    · exact ACode.vcR (rid := some 4) 4 (.br 22 false .nil) hn3 hlo3 ⟨l3, rfl, hid3⟩ (.roundW .cl) ⟨geLen hil, _, .refl _, .cells (cSt s) <| .draw 11 <| .val 40 (.rsl 8 0 (f k2).length 1) [] <| .call (encR L) <| .val 46 (.rsl 27 0 (f k2 ++ L).length 1) [(8, none), (27, some (.cells (iL (f k2 ++ L))))] <| .val 0 .undef [(7, some (.map (entV (updF (vC 8 f) k2 (.rsl 27 0 (f k2 ++ L).length 1)) (ks.erase (n + 1)))))] .nil, idx hs, by kernel_rfl, mixed, by kernel_rfl, Eq.trans (by kernel_rfl) h2.lk, h1.sL, Eq.trans (by kernel_rfl) h2.ap, by kernel_rfl, Eq.trans (by kernel_rfl) h2.pv, (n + 1, updF (updF f (n + 1) []) k2 (f k2 ++ L), (ks.erase (n + 1))), hI2 _ _ ⟨hlt, hnx, hp⟩, mu1 hlt, Wk.trans (Wk.push2 (c := 8) (M := 7) (B := bS1 false b ws .ready) (f := f) (ks := ks.erase (n + 1)) (k := k2) (k1 := n + 1) (x := f k2 ++ L) (nid := 27) (by kernel_rfl) (hbas _) (by decide) h1.k27 hdk.lt hne h1.ne (by decide) (hlo.mono (by decide))) (Wk.le (St.le.of ⟨by kernel_rfl, rfl, by kernel_rfl, rfl, by kernel_rfl, rfl, by kernel_rfl, rfl, by kernel_rfl, rfl, Eq.trans (by kernel_rfl) h1.ek, rfl, trivial⟩ ⟨by kernel_rfl, (by decide : (0 : Nat) < 28), rfl, by kernel_rfl, (by decide : (1 : Nat) < 28), rfl, by kernel_rfl, (by decide : (2 : Nat) < 28), rfl, by kernel_rfl, (by decide : (4 : Nat) < 28), rfl, by kernel_rfl, (by decide : (7 : Nat) < 28), h2.okm, by kernel_rfl, (by decide : (27 : Nat) < 28), iL_ok _ _, by kernel_rfl, (by decide : (9 : Nat) < 28), iL_ok _ _, by kernel_rfl, (by decide : (10 : Nat) < 28), iL_ok _ _, by kernel_rfl, (by decide : (11 : Nat) < 28), iL_ok _ _, by kernel_rfl, (by decide : (12 : Nat) < 28), iL_ok _ _, by kernel_rfl, (by decide : (13 : Nat) < 28), iL_ok _ _, by kernel_rfl, (by decide : (14 : Nat) < 28), iL_ok _ _, by kernel_rfl, (by decide : (15 : Nat) < 28), iL_ok _ _, trivial⟩) (hlo.mono (show 5 ≤ 28 by decide)))⟩
  · by_cases hLe : L = []
    · skip
      have hx : f k2 ++ L = [] := by rw [hLe, i3.em k2 h1.k27 fun hk => hm2 ((List.mem_erase_of_ne (Ne.symm h1.ne)).2 hk)]; rfl
      have h2 := hP.2.2 hm2 hLe
      have hp := hput
      have hnx := h1.nx
      rw [if_neg hm2, hx] at hp
      rw [hx] at hnx
      refine ACode.vcM (.br 16 true <| .val 20 .nil [] <| .call (encR come) <| .val 0 .undef [(7, some (.map (entV (updF (vC 8 f) k2 (.rsl 8 0 (f k2).length 1)) (ks.erase (n + 1)))))] <| .call (encR L) .loop) hn hlo (.roundW hQ) ⟨ltLen hnl, Eq.trans (by kernel_rfl) (hL1.2.1 hm1), sN, Eq.trans (by kernel_rfl) hdel, h1.sL, ?_⟩
      intro g3 l3 hn3 hlo3 hid3
      replace hn3 : g3.n = 40 := hn3
      replace hlo3 : g3.low 17 := hlo3
      refine acode_whileW (iSS false b ws n f (ks.erase (n + 1)) k2 L) (fun i => i ≤ L.length) (fun i => L.length - i) 0 (Nat.zero_le _) (Wk.le (St.le.of ⟨by kernel_rfl, rfl, by kernel_rfl, rfl, by kernel_rfl, rfl, by kernel_rfl, rfl, by kernel_rfl, rfl, by kernel_rfl, rfl, by kernel_rfl, rfl, trivial⟩ ⟨by kernel_rfl, (by decide : (0 : Nat) < 17), rfl, by kernel_rfl, (by decide : (1 : Nat) < 17), rfl, by kernel_rfl, (by decide : (2 : Nat) < 17), rfl, by kernel_rfl, (by decide : (4 : Nat) < 17), rfl, by kernel_rfl, (by decide : (7 : Nat) < 17), okp, by kernel_rfl, (by decide : (8 : Nat) < 17), iL_ok _ _, by kernel_rfl, (by decide : (9 : Nat) < 17), iL_ok _ _, by kernel_rfl, (by decide : (10 : Nat) < 17), iL_ok _ _, by kernel_rfl, (by decide : (11 : Nat) < 17), iL_ok _ _, by kernel_rfl, (by decide : (12 : Nat) < 17), iL_ok _ _, by kernel_rfl, (by decide : (13 : Nat) < 17), iL_ok _ _, by kernel_rfl, (by decide : (14 : Nat) < 17), iL_ok _ _, by kernel_rfl, (by decide : (15 : Nat) < 17), iL_ok _ _, trivial⟩) hlo3) ?_
      intro i hi
      by_cases hil : i < L.length
      · refine Exists.elim (getE hil) fun x hx => ?_
        have ei := congrArg (AV.int .i64) (succ64 (k := i) (by have := h1.len; omega))
        exact ACode.vcR (rid := some 4) 4 (.br 22 true <| .cells (encI x) <| .draw 11 <| .cells (cSt s) <| .call (.int .i64 G) <| .br 36 false .nil) hn3 hlo3 ⟨l3, rfl, hid3⟩ (.roundW .cl) ⟨ltLen hil, idx hx, by kernel_rfl, mixed, by kernel_rfl, idx hs, sG, by kernel_rfl, hok x (List.mem_of_getElem? hx), i + 1, hil, mu1 hil, Wk.le (St.le.of ⟨by kernel_rfl, rfl, by kernel_rfl, rfl, by kernel_rfl, rfl, by kernel_rfl, rfl, by kernel_rfl, rfl, by kernel_rfl, rfl, Eq.trans (by kernel_rfl) ei, rfl, trivial⟩ ⟨by kernel_rfl, (by decide : (0 : Nat) < 17), rfl, by kernel_rfl, (by decide : (1 : Nat) < 17), rfl, by kernel_rfl, (by decide : (2 : Nat) < 17), rfl, by kernel_rfl, (by decide : (4 : Nat) < 17), rfl, by kernel_rfl, (by decide : (7 : Nat) < 17), okp, by kernel_rfl, (by decide : (8 : Nat) < 17), iL_ok _ _, by kernel_rfl, (by decide : (9 : Nat) < 17), iL_ok _ _, by kernel_rfl, (by decide : (10 : Nat) < 17), iL_ok _ _, by kernel_rfl, (by decide : (11 : Nat) < 17), iL_ok _ _, by kernel_rfl, (by decide : (12 : Nat) < 17), iL_ok _ _, by kernel_rfl, (by decide : (13 : Nat) < 17), iL_ok _ _, by kernel_rfl, (by decide : (14 : Nat) < 17), iL_ok _ _, by kernel_rfl, (by decide : (15 : Nat) < 17), iL_ok _ _, trivial⟩) hlo3⟩
      · exact ACode.vcR (rid := some 4) 4 (.br 22 false .nil) hn3 hlo3 ⟨l3, rfl, hid3⟩ (.roundW .cl) ⟨geLen hil, _, .refl _, .cells (cSt s) <| .draw 11 <| .val 40 (.nil) [] <| .call (encR L) <| .val 46 (.nil) [] <| .val 0 .undef [(7, some (.map (entV (updF (vC 8 f) k2 (.nil)) (ks.erase (n + 1) ++ [k2]))))] .nil, idx hs, by kernel_rfl, mixed, by kernel_rfl, Eq.trans (by kernel_rfl) h2.lk, h1.sL, Eq.trans (by kernel_rfl) h2.ap, by kernel_rfl, Eq.trans (by kernel_rfl) h2.pv, (n + 1, updF (updF f (n + 1) []) k2 [], (ks.erase (n + 1) ++ [k2])), hI2 _ _ ⟨hlt, hnx, hp⟩, mu1 hlt, Wk.trans (Wk.push2N (c := 8) (M := 7) (B := bS1 false b ws .ready) (f := f) (ks := ks.erase (n + 1) ++ [k2]) (k := k2) (k1 := n + 1) (n := 28) (by kernel_rfl) (hbas _) (by decide) h1.k27 hp.lt hne2 h1.ne (hlo.mono (by decide))) (Wk.le (St.le.of ⟨by kernel_rfl, rfl, by kernel_rfl, rfl, by kernel_rfl, rfl, by kernel_rfl, rfl, by kernel_rfl, rfl, Eq.trans (by kernel_rfl) h1.ek, rfl, trivial⟩ ⟨by kernel_rfl, (by decide : (0 : Nat) < 28), rfl, by kernel_rfl, (by decide : (1 : Nat) < 28), rfl, by kernel_rfl, (by decide : (2 : Nat) < 28), rfl, by kernel_rfl, (by decide : (4 : Nat) < 28), rfl, by kernel_rfl, (by decide : (7 : Nat) < 28), h2.okm, by kernel_rfl, (by decide : (9 : Nat) < 28), iL_ok _ _, by kernel_rfl, (by decide : (10 : Nat) < 28), iL_ok _ _, by kernel_rfl, (by decide : (11 : Nat) < 28), iL_ok _ _, by kernel_rfl, (by decide : (12 : Nat) < 28), iL_ok _ _, by kernel_rfl, (by decide : (13 : Nat) < 28), iL_ok _ _, by kernel_rfl, (by decide : (14 : Nat) < 28), iL_ok _ _, by kernel_rfl, (by decide : (15 : Nat) < 28), iL_ok _ _, trivial⟩) (hlo.mono (show 5 ≤ 28 by decide)))⟩
    · skip
      have h2 := hP.2.1 hm2 hLe
      have hp := hput
      have hnx := h1.nx
      rw [if_neg hm2] at hp
      refine ACode.vcM (.br 16 true <| .val 20 .nil [] <| .call (encR come) <| .val 0 .undef [(7, some (.map (entV (updF (vC 8 f) k2 (.rsl 8 0 (f k2).length 1)) (ks.erase (n + 1)))))] <| .call (encR L) .loop) hn hlo (.roundW hQ) ⟨ltLen hnl, Eq.trans (by kernel_rfl) (hL1.2.1 hm1), sN, Eq.trans (by kernel_rfl) hdel, h1.sL, ?_⟩
      intro g3 l3 hn3 hlo3 hid3
      replace hn3 : g3.n = 40 := hn3
      replace hlo3 : g3.low 17 := hlo3
      refine acode_whileW (iSS false b ws n f (ks.erase (n + 1)) k2 L) (fun i => i ≤ L.length) (fun i => L.length - i) 0 (Nat.zero_le _) (Wk.le (St.le.of ⟨by kernel_rfl, rfl, by kernel_rfl, rfl, by kernel_rfl, rfl, by kernel_rfl, rfl, by kernel_rfl, rfl, by kernel_rfl, rfl, by kernel_rfl, rfl, trivial⟩ ⟨by kernel_rfl, (by decide : (0 : Nat) < 17), rfl, by kernel_rfl, (by decide : (1 : Nat) < 17), rfl, by kernel_rfl, (by decide : (2 : Nat) < 17), rfl, by kernel_rfl, (by decide : (4 : Nat) < 17), rfl, by kernel_rfl, (by decide : (7 : Nat) < 17), okp, by kernel_rfl, (by decide : (8 : Nat) < 17), iL_ok _ _, by kernel_rfl, (by decide : (9 : Nat) < 17), iL_ok _ _, by kernel_rfl, (by decide : (10 : Nat) < 17), iL_ok _ _, by kernel_rfl, (by decide : (11 : Nat) < 17), iL_ok _ _, by kernel_rfl, (by decide : (12 : Nat) < 17), iL_ok _ _, by kernel_rfl, (by decide : (13 : Nat) < 17), iL_ok _ _, by kernel_rfl, (by decide : (14 : Nat) < 17), iL_ok _ _, by kernel_rfl, (by decide : (15 : Nat) < 17), iL_ok _ _, trivial⟩) hlo3) ?_
      intro i hi
      by_cases hil : i < L.length
      · refine Exists.elim (getE hil) fun x hx => ?_
        have ei := congrArg (AV.int .i64) (succ64 (k := i) (by have := h1.len; omega))
        exact ACode.vcR (rid := some 4) 4 (.br 22 true <| .cells (encI x) <| .draw 11 <| .cells (cSt s) <| .call (.int .i64 G) <| .br 36 false .nil) hn3 hlo3 ⟨l3, rfl, hid3⟩ (.roundW .cl) ⟨ltLen hil, idx hx, by kernel_rfl, mixed, by kernel_rfl, idx hs, sG, by kernel_rfl, hok x (List.mem_of_getElem? hx), i + 1, hil, mu1 hil, Wk.le (St.le.of ⟨by kernel_rfl, rfl, by kernel_rfl, rfl, by kernel_rfl, rfl, by kernel_rfl, rfl, by kernel_rfl, rfl, by kernel_rfl, rfl, Eq.trans (by kernel_rfl) ei, rfl, trivial⟩ ⟨by kernel_rfl, (by decide : (0 : Nat) < 17), rfl, by kernel_rfl, (by decide : (1 : Nat) < 17), rfl, by kernel_rfl, (by decide : (2 : Nat) < 17), rfl, by kernel_rfl, (by decide : (4 : Nat) < 17), rfl, by kernel_rfl, (by decide : (7 : Nat) < 17), okp, by kernel_rfl, (by decide : (8 : Nat) < 17), iL_ok _ _, by kernel_rfl, (by decide : (9 : Nat) < 17), iL_ok _ _, by kernel_rfl, (by decide : (10 : Nat) < 17), iL_ok _ _, by kernel_rfl, (by decide : (11 : Nat) < 17), iL_ok _ _, by kernel_rfl, (by decide : (12 : Nat) < 17), iL_ok _ _, by kernel_rfl, (by decide : (13 : Nat) < 17), iL_ok _ _, by kernel_rfl, (by decide : (14 : Nat) < 17), iL_ok _ _, by kernel_rfl, (by decide : (15 : Nat) < 17), iL_ok _ _, trivial⟩) hlo3⟩
      · exact ACode.vcR (rid := some 4) 4 (.br 22 false .nil) hn3 hlo3 ⟨l3, rfl, hid3⟩ (.roundW .cl) ⟨geLen hil, _, .refl _, .cells (cSt s) <| .draw 11 <| .val 40 (.nil) [] <| .call (encR L) <| .val 46 (.rsl 27 0 (f k2 ++ L).length 1) [(27, some (.cells (iL (f k2 ++ L))))] <| .val 0 .undef [(7, some (.map (entV (updF (vC 8 f) k2 (.rsl 27 0 (f k2 ++ L).length 1)) (ks.erase (n + 1) ++ [k2]))))] .nil, idx hs, by kernel_rfl, mixed, by kernel_rfl, Eq.trans (by kernel_rfl) h2.lk, h1.sL, Eq.trans (by kernel_rfl) h2.ap, by kernel_rfl, Eq.trans (by kernel_rfl) h2.pv, (n + 1, updF (updF f (n + 1) []) k2 (f k2 ++ L), (ks.erase (n + 1) ++ [k2])), hI2 _ _ ⟨hlt, hnx, hp⟩, mu1 hlt, Wk.trans (Wk.push2 (c := 8) (M := 7) (B := bS1 false b ws .ready) (f := f) (ks := ks.erase (n + 1) ++ [k2]) (k := k2) (k1 := n + 1) (x := f k2 ++ L) (nid := 27) (by kernel_rfl) (hbas _) (by decide) h1.k27 hp.lt hne2 h1.ne (by decide) (hlo.mono (by decide))) (Wk.le (St.le.of ⟨by kernel_rfl, rfl, by kernel_rfl, rfl, by kernel_rfl, rfl, by kernel_rfl, rfl, by kernel_rfl, rfl, Eq.trans (by kernel_rfl) h1.ek, rfl, trivial⟩ ⟨by kernel_rfl, (by decide : (0 : Nat) < 28), rfl, by kernel_rfl, (by decide : (1 : Nat) < 28), rfl, by kernel_rfl, (by decide : (2 : Nat) < 28), rfl, by kernel_rfl, (by decide : (4 : Nat) < 28), rfl, by kernel_rfl, (by decide : (7 : Nat) < 28), h2.okm, by kernel_rfl, (by decide : (27 : Nat) < 28), iL_ok _ _, by kernel_rfl, (by decide : (9 : Nat) < 28), iL_ok _ _, by kernel_rfl, (by decide : (10 : Nat) < 28), iL_ok _ _, by kernel_rfl, (by decide : (11 : Nat) < 28), iL_ok _ _, by kernel_rfl, (by decide : (12 : Nat) < 28), iL_ok _ _, by kernel_rfl, (by decide : (13 : Nat) < 28), iL_ok _ _, by kernel_rfl, (by decide : (14 : Nat) < 28), iL_ok _ _, by kernel_rfl, (by decide : (15 : Nat) < 28), iL_ok _ _, trivial⟩) (hlo.mono (show 5 ≤ 28 by decide)))⟩
end Go.Proofs.YtiggnliiigcjaaaDoor
/-
  FROM STAIR TO STAIR: where nobody is late; one round, at one end.
-/
namespace Go.Proofs.YtiggnliiigcjaaaDoor
open Go Go.Am
set_option maxRecDepth 100000
set_option maxHeartbeats 8000000
theorem roundSt1 {g : G} {Q : AX → St → Prop} (hQ : EClosed Q) (hn : g.n = 48) (hlo : g.low 5) (b : Bdg) (ws : List Wal) (vd : Vld b ws) (n : Nat) (f : Nat → List Int) (ks : List Nat) (hI : IS true b ws (n, f, ks)) (hlt : n < b.ss.length) (s : Sta) (hs : b.ss[n]? = some s) (G : Int) (hG : G = gv true s.sLo s.sHi) (hok : ∀ x ∈ leavesV true b ws n, decide (x > G) = false) (hm1 : (n + 1) ∈ ks) (I : Nat × (Nat → List Int) × List Nat → Prop) (hI2 : ∀ f' ks', IS true b ws (n + 1, f', ks') → I (n + 1, f', ks')) :
    ACode Tryd.prog none g (lpB Tryd.f118) (AX.then (RoundW g (sSS true b ws) I (fun q => b.ss.length - q.1) (n, f, ks)) Q) (sSS true b ws (n, f, ks)) := by
  have hnl := hlt
  refine Exists.elim (oneS (e := true) (ws := ws) vd hs) fun k2 h => Exists.elim h fun come h => Exists.elim h fun L h1 => ?_
  have i2 : f = stF true b ws n := hI.2.1
  have i3 : KsOk f ks := hI.2.2
  rw [← i2] at h1
  have eLv : leavesV true b ws n = L := by rw [leavesV_eq hs, ← i2, h1.eL, h1.eC]
  rw [eLv] at hok
  have sG := giv_spec true s.sLo s.sHi
  rw [← hG] at sG
  have hbas : ∀ st, basOk 8 7 (bS1 true b ws st) = true := fun st => rfl
  have hsl := vd.sl
  have hL1 := look1 (f := f) (ks := ks) (k2 := k2) (hbas .ready) h1.key1 h1.ne (by omega)
  have hdel := delV (h := hget (pulH 8 7 (bS1 true b ws .ready) f ks k2)) (i := 7) (v := updF (vC 8 f) k2 (.rsl 8 0 (f k2).length 1)) (ks := ks) (k := n + 1) (by kernel_rfl) i3.nd
  rw [h1.key1] at hdel
  have hdk := i3.del (n + 1)
  have hP := twoP (h := hget (pulH 8 7 (bS1 true b ws .ready) f (ks.erase (n + 1)) k2)) (f := f) (ks := ks.erase (n + 1)) (L := L) (nid := 27) hdk.nd hdk.lt h1.k27 (fun hm => i3.em k2 h1.k27 fun hk => hm ((List.mem_erase_of_ne (Ne.symm h1.ne)).2 hk)) h1.key2 (by decide) h1.len (by kernel_rfl)
  have okp : okE 17 (entV (updF (vC 8 f) k2 (.rsl 8 0 (f k2).length 1)) (ks.erase (n + 1))) = true := okE_entV (vC_ok hdk.lt (by decide) rfl)
  have hput := hdk.put h1.k27 (f k2 ++ L)
  have hne : (n + 1) ∉ ks.erase (n + 1) := fun h => absurd h (i3.nd.not_mem_erase)
  have hne2 : (n + 1) ∉ ks.erase (n + 1) ++ [k2] := fun h => by
    rcases List.mem_append.1 h with h | h
    · exact hne h
    · simp at h; exact h1.ne h
  have sN : f (n + 1) = [] → APure Tryd.prog 120 [.nil] (encR come) := fun h => APure.nilArg (e := 1) (by have := h1.sI; rw [h] at this; exact this)
  refine ACode.wk (Wk.pull (c := 8) (M := 7) (B := bS1 true b ws .ready) (f := f) (ks := ks) (k := k2) (by kernel_rfl) (hbas _) (by decide) h1.k27 i3.lt (hlo.mono (by decide))) ?_
  by_cases hm2 : k2 ∈ ks.erase (n + 1)
  · skip
    have h2 := hP.1 hm2
    have hp := hput
    have hnx := h1.nx
    rw [if_pos hm2] at hp
    refine ACode.vcM (.br 16 true <| .val 20 (.rsl (8 + 1 + (n + 1)) 0 (f (n + 1)).length 1) [] <| .lent (encR come) [8 + 1 + (n + 1)] <| .val 0 .undef [(7, some (.map (entV (updF (vC 8 f) k2 (.rsl 8 0 (f k2).length 1)) (ks.erase (n + 1)))))] <| .call (encR L) .loop) hn hlo (.roundW hQ) ⟨ltLen hnl, Eq.trans (by kernel_rfl) (hL1.1 hm1), ⟨_, Eq.trans (by kernel_rfl) hL1.2.2, .inr h1.sF⟩, Eq.trans (by kernel_rfl) hdel, h1.sL, ?_⟩
    intro g3 l3 hn3 hlo3 hid3
    replace hn3 : g3.n = 40 := hn3
    replace hlo3 : g3.low 17 := hlo3
    refine acode_whileW (iSS true b ws n f (ks.erase (n + 1)) k2 L) (fun i => i ≤ L.length) (fun i => L.length - i) 0 (Nat.zero_le _) (Wk.le (St.le.of ⟨by kernel_rfl, rfl, by kernel_rfl, rfl, by kernel_rfl, rfl, by kernel_rfl, rfl, by kernel_rfl, rfl, by kernel_rfl, rfl, by kernel_rfl, rfl, trivial⟩ ⟨by kernel_rfl, (by decide : (0 : Nat) < 17), rfl, by kernel_rfl, (by decide : (1 : Nat) < 17), rfl, by kernel_rfl, (by decide : (2 : Nat) < 17), rfl, by kernel_rfl, (by decide : (4 : Nat) < 17), rfl, by kernel_rfl, (by decide : (7 : Nat) < 17), okp, by kernel_rfl, (by decide : (8 : Nat) < 17), iL_ok _ _, by kernel_rfl, (by decide : (9 : Nat) < 17), iL_ok _ _, by kernel_rfl, (by decide : (10 : Nat) < 17), iL_ok _ _, by kernel_rfl, (by decide : (11 : Nat) < 17), iL_ok _ _, by kernel_rfl, (by decide : (12 : Nat) < 17), iL_ok _ _, by kernel_rfl, (by decide : (13 : Nat) < 17), iL_ok _ _, by kernel_rfl, (by decide : (14 : Nat) < 17), iL_ok _ _, by kernel_rfl, (by decide : (15 : Nat) < 17), iL_ok _ _, trivial⟩) hlo3) ?_
    intro i hi
    by_cases hil : i < L.length
    · refine Exists.elim (getE hil) fun x hx => ?_
      have ei := congrArg (AV.int .i64) (succ64 (k := i) (by have := h1.len; omega))
      exact ACode.vcR (rid := some 4) 4 (.br 22 true <| .cells (encI x) <| .draw 11 <| .cells (cSt s) <| .call (.int .i64 G) <| .br 36 false .nil) hn3 hlo3 ⟨l3, rfl, hid3⟩ (.roundW .cl) ⟨ltLen hil, idx hx, by kernel_rfl, mixed, by kernel_rfl, idx hs, sG, by kernel_rfl, hok x (List.mem_of_getElem? hx), i + 1, hil, mu1 hil, Wk.le (St.le.of ⟨by kernel_rfl, rfl, by kernel_rfl, rfl, by kernel_rfl, rfl, by kernel_rfl, rfl, by kernel_rfl, rfl, by kernel_rfl, rfl, Eq.trans (by kernel_rfl) ei, rfl, trivial⟩ ⟨by kernel_rfl, (by decide : (0 : Nat) < 17), rfl, by kernel_rfl, (by decide : (1 : Nat) < 17), rfl, by kernel_rfl, (by decide : (2 : Nat) < 17), rfl, by kernel_rfl, (by decide : (4 : Nat) < 17), rfl, by kernel_rfl, (by decide : (7 : Nat) < 17), okp, by kernel_rfl, (by decide : (8 : Nat) < 17), iL_ok _ _, by kernel_rfl, (by decide : (9 : Nat) < 17), iL_ok _ _, by kernel_rfl, (by decide : (10 : Nat) < 17), iL_ok _ _, by kernel_rfl, (by decide : (11 : Nat) < 17), iL_ok _ _, by kernel_rfl, (by decide : (12 : Nat) < 17), iL_ok _ _, by kernel_rfl, (by decide : (13 : Nat) < 17), iL_ok _ _, by kernel_rfl, (by decide : (14 : Nat) < 17), iL_ok _ _, by kernel_rfl, (by decide : (15 : Nat) < 17), iL_ok _ _, trivial⟩) hlo3⟩
    · exact ACode.vcR (rid := some 4) 4 (.br 22 false .nil) hn3 hlo3 ⟨l3, rfl, hid3⟩ (.roundW .cl) ⟨geLen hil, _, .refl _, .cells (cSt s) <| .draw 11 <| .val 40 (.rsl 8 0 (f k2).length 1) [] <| .call (encR L) <| .val 46 (.rsl 27 0 (f k2 ++ L).length 1) [(8, none), (27, some (.cells (iL (f k2 ++ L))))] <| .val 0 .undef [(7, some (.map (entV (updF (vC 8 f) k2 (.rsl 27 0 (f k2 ++ L).length 1)) (ks.erase (n + 1)))))] .nil, idx hs, by kernel_rfl, mixed, by kernel_rfl, Eq.trans (by kernel_rfl) h2.lk, h1.sL, Eq.trans (by kernel_rfl) h2.ap, by kernel_rfl, Eq.trans (by kernel_rfl) h2.pv, (n + 1, updF (updF f (n + 1) []) k2 (f k2 ++ L), (ks.erase (n + 1))), hI2 _ _ ⟨hlt, hnx, hp⟩, mu1 hlt, Wk.trans (Wk.push2 (c := 8) (M := 7) (B := bS1 true b ws .ready) (f := f) (ks := ks.erase (n + 1)) (k := k2) (k1 := n + 1) (x := f k2 ++ L) (nid := 27) (by kernel_rfl) (hbas _) (by decide) h1.k27 hdk.lt hne h1.ne (by decide) (hlo.mono (by decide))) (Wk.le (St.le.of ⟨by kernel_rfl, rfl, by kernel_rfl, rfl, by kernel_rfl, rfl, by kernel_rfl, rfl, by kernel_rfl, rfl, Eq.trans (by kernel_rfl) h1.ek, rfl, trivial⟩ ⟨by kernel_rfl, (by decide : (0 : Nat) < 28), rfl, by kernel_rfl, (by decide : (1 : Nat) < 28), rfl, by kernel_rfl, (by decide : (2 : Nat) < 28), rfl, by kernel_rfl, (by decide : (4 : Nat) < 28), rfl, by kernel_rfl, (by decide : (7 : Nat) < 28), h2.okm, by kernel_rfl, (by decide : (27 : Nat) < 28), iL_ok _ _, by kernel_rfl, (by decide : (9 : Nat) < 28), iL_ok _ _, by kernel_rfl, (by decide : (10 : Nat) < 28), iL_ok _ _, by kernel_rfl, (by decide : (11 : Nat) < 28), iL_ok _ _, by kernel_rfl, (by decide : (12 : Nat) < 28), iL_ok _ _, by kernel_rfl, (by decide : (13 : Nat) < 28), iL_ok _ _, by kernel_rfl, (by decide : (14 : Nat) < 28), iL_ok _ _, by kernel_rfl, (by decide : (15 : Nat) < 28), iL_ok _ _, trivial⟩) (hlo.mono (show 5 ≤ 28 by decide)))⟩
  · by_cases hLe : L = []
    · skip
      have hx : f k2 ++ L = [] := by rw [hLe, i3.em k2 h1.k27 fun hk => hm2 ((List.mem_erase_of_ne (Ne.symm h1.ne)).2 hk)]; rfl
      have h2 := hP.2.2 hm2 hLe
      have hp := hput
      have hnx := h1.nx
      rw [if_neg hm2, hx] at hp
      rw [hx] at hnx
      refine ACode.vcM (.br 16 true <| .val 20 (.rsl (8 + 1 + (n + 1)) 0 (f (n + 1)).length 1) [] <| .lent (encR come) [8 + 1 + (n + 1)] <| .val 0 .undef [(7, some (.map (entV (updF (vC 8 f) k2 (.rsl 8 0 (f k2).length 1)) (ks.erase (n + 1)))))] <| .call (encR L) .loop) hn hlo (.roundW hQ) ⟨ltLen hnl, Eq.trans (by kernel_rfl) (hL1.1 hm1), ⟨_, Eq.trans (by kernel_rfl) hL1.2.2, .inr h1.sF⟩, Eq.trans (by kernel_rfl) hdel, h1.sL, ?_⟩
      intro g3 l3 hn3 hlo3 hid3
      replace hn3 : g3.n = 40 := hn3
      replace hlo3 : g3.low 17 := hlo3
      refine acode_whileW (iSS true b ws n f (ks.erase (n + 1)) k2 L) (fun i => i ≤ L.length) (fun i => L.length - i) 0 (Nat.zero_le _) (Wk.le (St.le.of ⟨by kernel_rfl, rfl, by kernel_rfl, rfl, by kernel_rfl, rfl, by kernel_rfl, rfl, by kernel_rfl, rfl, by kernel_rfl, rfl, by kernel_rfl, rfl, trivial⟩ ⟨by kernel_rfl, (by decide : (0 : Nat) < 17), rfl, by kernel_rfl, (by decide : (1 : Nat) < 17), rfl, by kernel_rfl, (by decide : (2 : Nat) < 17), rfl, by kernel_rfl, (by decide : (4 : Nat) < 17), rfl, by kernel_rfl, (by decide : (7 : Nat) < 17), okp, by kernel_rfl, (by decide : (8 : Nat) < 17), iL_ok _ _, by kernel_rfl, (by decide : (9 : Nat) < 17), iL_ok _ _, by kernel_rfl, (by decide : (10 : Nat) < 17), iL_ok _ _, by kernel_rfl, (by decide : (11 : Nat) < 17), iL_ok _ _, by kernel_rfl, (by decide : (12 : Nat) < 17), iL_ok _ _, by kernel_rfl, (by decide : (13 : Nat) < 17), iL_ok _ _, by kernel_rfl, (by decide : (14 : Nat) < 17), iL_ok _ _, by kernel_rfl, (by decide : (15 : Nat) < 17), iL_ok _ _, trivial⟩) hlo3) ?_
      intro i hi
      by_cases hil : i < L.length
      · refine Exists.elim (getE hil) fun x hx => ?_
        have ei := congrArg (AV.int .i64) (succ64 (k := i) (by have := h1.len; omega))
        exact ACode.vcR (rid := some 4) 4 (.br 22 true <| .cells (encI x) <| .draw 11 <| .cells (cSt s) <| .call (.int .i64 G) <| .br 36 false .nil) hn3 hlo3 ⟨l3, rfl, hid3⟩ (.roundW .cl) ⟨ltLen hil, idx hx, by kernel_rfl, mixed, by kernel_rfl, idx hs, sG, by kernel_rfl, hok x (List.mem_of_getElem? hx), i + 1, hil, mu1 hil, Wk.le (St.le.of ⟨by kernel_rfl, rfl, by kernel_rfl, rfl, by kernel_rfl, rfl, by kernel_rfl, rfl, by kernel_rfl, rfl, by kernel_rfl, rfl, Eq.trans (by kernel_rfl) ei, rfl, trivial⟩ ⟨by kernel_rfl, (by decide : (0 : Nat) < 17), rfl, by kernel_rfl, (by decide : (1 : Nat) < 17), rfl, by kernel_rfl, (by decide : (2 : Nat) < 17), rfl, by kernel_rfl, (by decide : (4 : Nat) < 17), rfl, by kernel_rfl, (by decide : (7 : Nat) < 17), okp, by kernel_rfl, (by decide : (8 : Nat) < 17), iL_ok _ _, by kernel_rfl, (by decide : (9 : Nat) < 17), iL_ok _ _, by kernel_rfl, (by decide : (10 : Nat) < 17), iL_ok _ _, by kernel_rfl, (by decide : (11 : Nat) < 17), iL_ok _ _, by kernel_rfl, (by decide : (12 : Nat) < 17), iL_ok _ _, by kernel_rfl, (by decide : (13 : Nat) < 17), iL_ok _ _, by kernel_rfl, (by decide : (14 : Nat) < 17), iL_ok _ _, by kernel_rfl, (by decide : (15 : Nat) < 17), iL_ok _ _, trivial⟩) hlo3⟩
      · exact ACode.vcR (rid := some 4) 4 (.br 22 false .nil) hn3 hlo3 ⟨l3, rfl, hid3⟩ (.roundW .cl) ⟨geLen hil, _, .refl _, .cells (cSt s) <| .draw 11 <| .val 40 (.nil) [] <| .call (encR L) <| .val 46 (.nil) [] <| .val 0 .undef [(7, some (.map (entV (updF (vC 8 f) k2 (.nil)) (ks.erase (n + 1) ++ [k2]))))] .nil, idx hs, by kernel_rfl, mixed, by kernel_rfl, Eq.trans (by kernel_rfl) h2.lk, h1.sL, Eq.trans (by kernel_rfl) h2.ap, by kernel_rfl, Eq.trans (by kernel_rfl) h2.pv, (n + 1, updF (updF f (n + 1) []) k2 [], (ks.erase (n + 1) ++ [k2])), hI2 _ _ ⟨hlt, hnx, hp⟩, mu1 hlt, Wk.trans (Wk.push2N (c := 8) (M := 7) (B := bS1 true b ws .ready) (f := f) (ks := ks.erase (n + 1) ++ [k2]) (k := k2) (k1 := n + 1) (n := 28) (by kernel_rfl) (hbas _) (by decide) h1.k27 hp.lt hne2 h1.ne (hlo.mono (by decide))) (Wk.le (St.le.of ⟨by kernel_rfl, rfl, by kernel_rfl, rfl, by kernel_rfl, rfl, by kernel_rfl, rfl, by kernel_rfl, rfl, Eq.trans (by kernel_rfl) h1.ek, rfl, trivial⟩ ⟨by kernel_rfl, (by decide : (0 : Nat) < 28), rfl, by kernel_rfl, (by decide : (1 : Nat) < 28), rfl, by kernel_rfl, (by decide : (2 : Nat) < 28), rfl, by kernel_rfl, (by decide : (4 : Nat) < 28), rfl, by kernel_rfl, (by decide : (7 : Nat) < 28), h2.okm, by kernel_rfl, (by decide : (9 : Nat) < 28), iL_ok _ _, by kernel_rfl, (by decide : (10 : Nat) < 28), iL_ok _ _, by kernel_rfl, (by decide : (11 : Nat) < 28), iL_ok _ _, by kernel_rfl, (by decide : (12 : Nat) < 28), iL_ok _ _, by kernel_rfl, (by decide : (13 : Nat) < 28), iL_ok _ _, by kernel_rfl, (by decide : (14 : Nat) < 28), iL_ok _ _, by kernel_rfl, (by decide : (15 : Nat) < 28), iL_ok _ _, trivial⟩) (hlo.mono (show 5 ≤ 28 by decide)))⟩
    · skip
      have h2 := hP.2.1 hm2 hLe
      have hp := hput
      have hnx := h1.nx
      rw [if_neg hm2] at hp
      refine ACode.vcM (.br 16 true <| .val 20 (.rsl (8 + 1 + (n + 1)) 0 (f (n + 1)).length 1) [] <| .lent (encR come) [8 + 1 + (n + 1)] <| .val 0 .undef [(7, some (.map (entV (updF (vC 8 f) k2 (.rsl 8 0 (f k2).length 1)) (ks.erase (n + 1)))))] <| .call (encR L) .loop) hn hlo (.roundW hQ) ⟨ltLen hnl, Eq.trans (by kernel_rfl) (hL1.1 hm1), ⟨_, Eq.trans (by kernel_rfl) hL1.2.2, .inr h1.sF⟩, Eq.trans (by kernel_rfl) hdel, h1.sL, ?_⟩
      intro g3 l3 hn3 hlo3 hid3
      replace hn3 : g3.n = 40 := hn3
      replace hlo3 : g3.low 17 := hlo3
      refine acode_whileW (iSS true b ws n f (ks.erase (n + 1)) k2 L) (fun i => i ≤ L.length) (fun i => L.length - i) 0 (Nat.zero_le _) (Wk.le (St.le.of ⟨by kernel_rfl, rfl, by kernel_rfl, rfl, by kernel_rfl, rfl, by kernel_rfl, rfl, by kernel_rfl, rfl, by kernel_rfl, rfl, by kernel_rfl, rfl, trivial⟩ ⟨by kernel_rfl, (by decide : (0 : Nat) < 17), rfl, by kernel_rfl, (by decide : (1 : Nat) < 17), rfl, by kernel_rfl, (by decide : (2 : Nat) < 17), rfl, by kernel_rfl, (by decide : (4 : Nat) < 17), rfl, by kernel_rfl, (by decide : (7 : Nat) < 17), okp, by kernel_rfl, (by decide : (8 : Nat) < 17), iL_ok _ _, by kernel_rfl, (by decide : (9 : Nat) < 17), iL_ok _ _, by kernel_rfl, (by decide : (10 : Nat) < 17), iL_ok _ _, by kernel_rfl, (by decide : (11 : Nat) < 17), iL_ok _ _, by kernel_rfl, (by decide : (12 : Nat) < 17), iL_ok _ _, by kernel_rfl, (by decide : (13 : Nat) < 17), iL_ok _ _, by kernel_rfl, (by decide : (14 : Nat) < 17), iL_ok _ _, by kernel_rfl, (by decide : (15 : Nat) < 17), iL_ok _ _, trivial⟩) hlo3) ?_
      intro i hi
      by_cases hil : i < L.length
      · refine Exists.elim (getE hil) fun x hx => ?_
        have ei := congrArg (AV.int .i64) (succ64 (k := i) (by have := h1.len; omega))
        exact ACode.vcR (rid := some 4) 4 (.br 22 true <| .cells (encI x) <| .draw 11 <| .cells (cSt s) <| .call (.int .i64 G) <| .br 36 false .nil) hn3 hlo3 ⟨l3, rfl, hid3⟩ (.roundW .cl) ⟨ltLen hil, idx hx, by kernel_rfl, mixed, by kernel_rfl, idx hs, sG, by kernel_rfl, hok x (List.mem_of_getElem? hx), i + 1, hil, mu1 hil, Wk.le (St.le.of ⟨by kernel_rfl, rfl, by kernel_rfl, rfl, by kernel_rfl, rfl, by kernel_rfl, rfl, by kernel_rfl, rfl, by kernel_rfl, rfl, Eq.trans (by kernel_rfl) ei, rfl, trivial⟩ ⟨by kernel_rfl, (by decide : (0 : Nat) < 17), rfl, by kernel_rfl, (by decide : (1 : Nat) < 17), rfl, by kernel_rfl, (by decide : (2 : Nat) < 17), rfl, by kernel_rfl, (by decide : (4 : Nat) < 17), rfl, by kernel_rfl, (by decide : (7 : Nat) < 17), okp, by kernel_rfl, (by decide : (8 : Nat) < 17), iL_ok _ _, by kernel_rfl, (by decide : (9 : Nat) < 17), iL_ok _ _, by kernel_rfl, (by decide : (10 : Nat) < 17), iL_ok _ _, by kernel_rfl, (by decide : (11 : Nat) < 17), iL_ok _ _, by kernel_rfl, (by decide : (12 : Nat) < 17), iL_ok _ _, by kernel_rfl, (by decide : (13 : Nat) < 17), iL_ok _ _, by kernel_rfl, (by decide : (14 : Nat) < 17), iL_ok _ _, by kernel_rfl, (by decide : (15 : Nat) < 17), iL_ok _ _, trivial⟩) hlo3⟩
      · exact ACode.vcR (rid := some 4) 4 (.br 22 false .nil) hn3 hlo3 ⟨l3, rfl, hid3⟩ (.roundW .cl) ⟨geLen hil, _, .refl _, .cells (cSt s) <| .draw 11 <| .val 40 (.nil) [] <| .call (encR L) <| .val 46 (.rsl 27 0 (f k2 ++ L).length 1) [(27, some (.cells (iL (f k2 ++ L))))] <| .val 0 .undef [(7, some (.map (entV (updF (vC 8 f) k2 (.rsl 27 0 (f k2 ++ L).length 1)) (ks.erase (n + 1) ++ [k2]))))] .nil, idx hs, by kernel_rfl, mixed, by kernel_rfl, Eq.trans (by kernel_rfl) h2.lk, h1.sL, Eq.trans (by kernel_rfl) h2.ap, by kernel_rfl, Eq.trans (by kernel_rfl) h2.pv, (n + 1, updF (updF f (n + 1) []) k2 (f k2 ++ L), (ks.erase (n + 1) ++ [k2])), hI2 _ _ ⟨hlt, hnx, hp⟩, mu1 hlt, Wk.trans (Wk.push2 (c := 8) (M := 7) (B := bS1 true b ws .ready) (f := f) (ks := ks.erase (n + 1) ++ [k2]) (k := k2) (k1 := n + 1) (x := f k2 ++ L) (nid := 27) (by kernel_rfl) (hbas _) (by decide) h1.k27 hp.lt hne2 h1.ne (by decide) (hlo.mono (by decide))) (Wk.le (St.le.of ⟨by kernel_rfl, rfl, by kernel_rfl, rfl, by kernel_rfl, rfl, by kernel_rfl, rfl, by kernel_rfl, rfl, Eq.trans (by kernel_rfl) h1.ek, rfl, trivial⟩ ⟨by kernel_rfl, (by decide : (0 : Nat) < 28), rfl, by kernel_rfl, (by decide : (1 : Nat) < 28), rfl, by kernel_rfl, (by decide : (2 : Nat) < 28), rfl, by kernel_rfl, (by decide : (4 : Nat) < 28), rfl, by kernel_rfl, (by decide : (7 : Nat) < 28), h2.okm, by kernel_rfl, (by decide : (27 : Nat) < 28), iL_ok _ _, by kernel_rfl, (by decide : (9 : Nat) < 28), iL_ok _ _, by kernel_rfl, (by decide : (10 : Nat) < 28), iL_ok _ _, by kernel_rfl, (by decide : (11 : Nat) < 28), iL_ok _ _, by kernel_rfl, (by decide : (12 : Nat) < 28), iL_ok _ _, by kernel_rfl, (by decide : (13 : Nat) < 28), iL_ok _ _, by kernel_rfl, (by decide : (14 : Nat) < 28), iL_ok _ _, by kernel_rfl, (by decide : (15 : Nat) < 28), iL_ok _ _, trivial⟩) (hlo.mono (show 5 ≤ 28 by decide)))⟩
end Go.Proofs.YtiggnliiigcjaaaDoor
/-
  FROM STAIR TO STAIR: where nobody is late; one round, at one end.
-/
namespace Go.Proofs.YtiggnliiigcjaaaDoor
open Go Go.Am
set_option maxRecDepth 100000
set_option maxHeartbeats 8000000
theorem roundSt2 {g : G} {Q : AX → St → Prop} (hQ : EClosed Q) (hn : g.n = 48) (hlo : g.low 5) (b : Bdg) (ws : List Wal) (vd : Vld b ws) (n : Nat) (f : Nat → List Int) (ks : List Nat) (hI : IS true b ws (n, f, ks)) (hlt : n < b.ss.length) (s : Sta) (hs : b.ss[n]? = some s) (G : Int) (hG : G = gv true s.sLo s.sHi) (hok : ∀ x ∈ leavesV true b ws n, decide (x > G) = false) (hm1 : (n + 1) ∉ ks) (I : Nat × (Nat → List Int) × List Nat → Prop) (hI2 : ∀ f' ks', IS true b ws (n + 1, f', ks') → I (n + 1, f', ks')) :
    ACode Tryd.prog none g (lpB Tryd.f118) (AX.then (RoundW g (sSS true b ws) I (fun q => b.ss.length - q.1) (n, f, ks)) Q) (sSS true b ws (n, f, ks)) := by
  have hnl := hlt
  refine Exists.elim (oneS (e := true) (ws := ws) vd hs) fun k2 h => Exists.elim h fun come h => Exists.elim h fun L h1 => ?_
  have i2 : f = stF true b ws n := hI.2.1
  have i3 : KsOk f ks := hI.2.2
  rw [← i2] at h1
  have eLv : leavesV true b ws n = L := by rw [leavesV_eq hs, ← i2, h1.eL, h1.eC]
  rw [eLv] at hok
  have sG := giv_spec true s.sLo s.sHi
  rw [← hG] at sG
  have hbas : ∀ st, basOk 8 7 (bS1 true b ws st) = true := fun st => rfl
  have hsl := vd.sl
  have hL1 := look1 (f := f) (ks := ks) (k2 := k2) (hbas .ready) h1.key1 h1.ne (by omega)
  have hdel := delV (h := hget (pulH 8 7 (bS1 true b ws .ready) f ks k2)) (i := 7) (v := updF (vC 8 f) k2 (.rsl 8 0 (f k2).length 1)) (ks := ks) (k := n + 1) (by kernel_rfl) i3.nd
  rw [h1.key1] at hdel
  have hdk := i3.del (n + 1)
  have hP := twoP (h := hget (pulH 8 7 (bS1 true b ws .ready) f (ks.erase (n + 1)) k2)) (f := f) (ks := ks.erase (n + 1)) (L := L) (nid := 27) hdk.nd hdk.lt h1.k27 (fun hm => i3.em k2 h1.k27 fun hk => hm ((List.mem_erase_of_ne (Ne.symm h1.ne)).2 hk)) h1.key2 (by decide) h1.len (by kernel_rfl)
  have okp : okE 17 (entV (updF (vC 8 f) k2 (.rsl 8 0 (f k2).length 1)) (ks.erase (n + 1))) = true := okE_entV (vC_ok hdk.lt (by decide) rfl)
  have hput := hdk.put h1.k27 (f k2 ++ L)
  have hne : (n + 1) ∉ ks.erase (n + 1) := fun h => absurd h (i3.nd.not_mem_erase)
  have hne2 : (n + 1) ∉ ks.erase (n + 1) ++ [k2] := fun h => by
    rcases List.mem_append.1 h with h | h
    · exact hne h
    · simp at h; exact h1.ne h
  have sN : f (n + 1) = [] → APure Tryd.prog 120 [.nil] (encR come) := fun h => APure.nilArg (e := 1) (by have := h1.sI; rw [h] at this; exact this)
  have sN := sN (i3.em (n + 1) (by omega) hm1)
  refine ACode.wk (Wk.pull (c := 8) (M := 7) (B := bS1 true b ws .ready) (f := f) (ks := ks) (k := k2) (by kernel_rfl) (hbas _) (by decide) h1.k27 i3.lt (hlo.mono (by decide))) ?_
  by_cases hm2 : k2 ∈ ks.erase (n + 1)
  · skip
    have h2 := hP.1 hm2
    have hp := hput
    have hnx := h1.nx
    rw [if_pos hm2] at hp
    refine ACode.vcM (.br 16 true <| .val 20 .nil [] <| .call (encR come) <| .val 0 .undef [(7, some (.map (entV (updF (vC 8 f) k2 (.rsl 8 0 (f k2).length 1)) (ks.erase (n + 1)))))] <| .call (encR L) .loop) hn hlo (.roundW hQ) ⟨ltLen hnl, Eq.trans (by kernel_rfl) (hL1.2.1 hm1), sN, Eq.trans (by kernel_rfl) hdel, h1.sL, ?_⟩
    intro g3 l3 hn3 hlo3 hid3
    replace hn3 : g3.n = 40 := hn3
    replace hlo3 : g3.low 17 := hlo3
    refine acode_whileW (iSS true b ws n f (ks.erase (n + 1)) k2 L) (fun i => i ≤ L.length) (fun i => L.length - i) 0 (Nat.zero_le _) (Wk.le (St.le.of ⟨by kernel_rfl, rfl, by kernel_rfl, rfl, by kernel_rfl, rfl, by kernel_rfl, rfl, by kernel_rfl, rfl, by kernel_rfl, rfl, by kernel_rfl, rfl, trivial⟩ ⟨by kernel_rfl, (by decide : (0 : Nat) < 17), rfl, by kernel_rfl, (by decide : (1 : Nat) < 17), rfl, by kernel_rfl, (by decide : (2 : Nat) < 17), rfl, by kernel_rfl, (by decide : (4 : Nat) < 17), rfl, by kernel_rfl, (by decide : (7 : Nat) < 17), okp, by kernel_rfl, (by decide : (8 : Nat) < 17), iL_ok _ _, by kernel_rfl, (by decide : (9 : Nat) < 17), iL_ok _ _, by kernel_rfl, (by decide : (10 : Nat) < 17), iL_ok _ _, by kernel_rfl, (by decide : (11 : Nat) < 17), iL_ok _ _, by kernel_rfl, (by decide : (12 : Nat) < 17), iL_ok _ _, by kernel_rfl, (by decide : (13 : Nat) < 17), iL_ok _ _, by kernel_rfl, (by decide : (14 : Nat) < 17), iL_ok _ _, by kernel_rfl, (by decide : (15 : Nat) < 17), iL_ok _ _, trivial⟩) hlo3) ?_
    intro i hi
    by_cases hil : i < L.length
    · refine Exists.elim (getE hil) fun x hx => ?_
      have ei := congrArg (AV.int .i64) (succ64 (k := i) (by have := h1.len; omega))
      exact ACode.vcR (rid := some 4) 4 (.br 22 true <| .cells (encI x) <| .draw 11 <| .cells (cSt s) <| .call (.int .i64 G) <| .br 36 false .nil) hn3 hlo3 ⟨l3, rfl, hid3⟩ (.roundW .cl) ⟨ltLen hil, idx hx, by kernel_rfl, mixed, by kernel_rfl, idx hs, sG, by kernel_rfl, hok x (List.mem_of_getElem? hx), i + 1, hil, mu1 hil, Wk.le (St.le.of ⟨by kernel_rfl, rfl, by kernel_rfl, rfl, by kernel_rfl, rfl, by kernel_rfl, rfl, by kernel_rfl, rfl, by kernel_rfl, rfl, Eq.trans (by kernel_rfl) ei, rfl, trivial⟩ ⟨by kernel_rfl, (by decide : (0 : Nat) < 17), rfl, by kernel_rfl, (by decide : (1 : Nat) < 17), rfl, by kernel_rfl, (by decide : (2 : Nat) < 17), rfl, by kernel_rfl, (by decide : (4 : Nat) < 17), rfl, by kernel_rfl, (by decide : (7 : Nat) < 17), okp, by kernel_rfl, (by decide : (8 : Nat) < 17), iL_ok _ _, by kernel_rfl, (by decide : (9 : Nat) < 17), iL_ok _ _, by kernel_rfl, (by decide : (10 : Nat) < 17), iL_ok _ _, by kernel_rfl, (by decide : (11 : Nat) < 17), iL_ok _ _, by kernel_rfl, (by decide : (12 : Nat) < 17), iL_ok _ _, by kernel_rfl, (by decide : (13 : Nat) < 17), iL_ok _ _, by kernel_rfl, (by decide : (14 : Nat) < 17), iL_ok _ _, by kernel_rfl, (by decide : (15 : Nat) < 17), iL_ok _ _, trivial⟩) hlo3⟩
    · exact ACode.vcR (rid := some 4) 4 (.br 22 false .nil) hn3 hlo3 ⟨l3, rfl, hid3⟩ (.roundW .cl) ⟨geLen hil, _, .refl _, .cells (cSt s) <| .draw 11 <| .val 40 (.rsl 8 0 (f k2).length 1) [] <| .call (encR L) <| .val 46 (.rsl 27 0 (f k2 ++ L).length 1) [(8, none), (27, some (.cells (iL (f k2 ++ L))))] <| .val 0 .undef [(7, some (.map (entV (updF (vC 8 f) k2 (.rsl 27 0 (f k2 ++ L).length 1)) (ks.erase (n + 1)))))] .nil, idx hs, by kernel_rfl, mixed, by kernel_rfl, Eq.trans (by kernel_rfl) h2.lk, h1.sL, Eq.trans (by kernel_rfl) h2.ap, by kernel_rfl, Eq.trans (by kernel_rfl) h2.pv, (n + 1, updF (updF f (n + 1) []) k2 (f k2 ++ L), (ks.erase (n + 1))), hI2 _ _ ⟨hlt, hnx, hp⟩, mu1 hlt, Wk.trans (Wk.push2 (c := 8) (M := 7) (B := bS1 true b ws .ready) (f := f) (ks := ks.erase (n + 1)) (k := k2) (k1 := n + 1) (x := f k2 ++ L) (nid := 27) (by kernel_rfl) (hbas _) (by decide) h1.k27 hdk.lt hne h1.ne (by decide) (hlo.mono (by decide))) (Wk.le (St.le.of ⟨by kernel_rfl, rfl, by kernel_rfl, rfl, by kernel_rfl, rfl, by kernel_rfl, rfl, by kernel_rfl, rfl, Eq.trans (by kernel_rfl) h1.ek, rfl, trivial⟩ ⟨by kernel_rfl, (by decide : (0 : Nat) < 28), rfl, by kernel_rfl, (by decide : (1 : Nat) < 28), rfl, by kernel_rfl, (by decide : (2 : Nat) < 28), rfl, by kernel_rfl, (by decide : (4 : Nat) < 28), rfl, by kernel_rfl, (by decide : (7 : Nat) < 28), h2.okm, by kernel_rfl, (by decide : (27 : Nat) < 28), iL_ok _ _, by kernel_rfl, (by decide : (9 : Nat) < 28), iL_ok _ _, by kernel_rfl, (by decide : (10 : Nat) < 28), iL_ok _ _, by kernel_rfl, (by decide : (11 : Nat) < 28), iL_ok _ _, by kernel_rfl, (by decide : (12 : Nat) < 28), iL_ok _ _, by kernel_rfl, (by decide : (13 : Nat) < 28), iL_ok _ _, by kernel_rfl, (by decide : (14 : Nat) < 28), iL_ok _ _, by kernel_rfl, (by decide : (15 : Nat) < 28), iL_ok _ _, trivial⟩) (hlo.mono (show 5 ≤ 28 by decide)))⟩
  · by_cases hLe : L = []
    · skip
      have hx : f k2 ++ L = [] := by rw [hLe, i3.em k2 h1.k27 fun hk => hm2 ((List.mem_erase_of_ne (Ne.symm h1.ne)).2 hk)]; rfl
      have h2 := hP.2.2 hm2 hLe
      have hp := hput
      have hnx := h1.nx
      rw [if_neg hm2, hx] at hp
      rw [hx] at hnx
      refine ACode.vcM (.br 16 true <| .val 20 .nil [] <| .call (encR come) <| .val 0 .undef [(7, some (.map (entV (updF (vC 8 f) k2 (.rsl 8 0 (f k2).length 1)) (ks.erase (n + 1)))))] <| .call (encR L) .loop) hn hlo (.roundW hQ) ⟨ltLen hnl, Eq.trans (by kernel_rfl) (hL1.2.1 hm1), sN, Eq.trans (by kernel_rfl) hdel, h1.sL, ?_⟩
      intro g3 l3 hn3 hlo3 hid3
      replace hn3 : g3.n = 40 := hn3
      replace hlo3 : g3.low 17 := hlo3
      refine acode_whileW (iSS true b ws n f (ks.erase (n + 1)) k2 L) (fun i => i ≤ L.length) (fun i => L.length - i) 0 (Nat.zero_le _) (Wk.le (St.le.of ⟨by kernel_rfl, rfl, by kernel_rfl, rfl, by kernel_rfl, rfl, by kernel_rfl, rfl, by kernel_rfl, rfl, by kernel_rfl, rfl, by kernel_rfl, rfl, trivial⟩ ⟨by kernel_rfl, (by decide : (0 : Nat) < 17), rfl, by kernel_rfl, (by decide : (1 : Nat) < 17), rfl, by kernel_rfl, (by decide : (2 : Nat) < 17), rfl, by kernel_rfl, (by decide : (4 : Nat) < 17), rfl, by kernel_rfl, (by decide : (7 : Nat) < 17), okp, by kernel_rfl, (by decide : (8 : Nat) < 17), iL_ok _ _, by kernel_rfl, (by decide : (9 : Nat) < 17), iL_ok _ _, by kernel_rfl, (by decide : (10 : Nat) < 17), iL_ok _ _, by kernel_rfl, (by decide : (11 : Nat) < 17), iL_ok _ _, by kernel_rfl, (by decide : (12 : Nat) < 17), iL_ok _ _, by kernel_rfl, (by decide : (13 : Nat) < 17), iL_ok _ _, by kernel_rfl, (by decide : (14 : Nat) < 17), iL_ok _ _, by kernel_rfl, (by decide : (15 : Nat) < 17), iL_ok _ _, trivial⟩) hlo3) ?_
      intro i hi
      by_cases hil : i < L.length
      · refine Exists.elim (getE hil) fun x hx => ?_
        have ei := congrArg (AV.int .i64) (succ64 (k := i) (by have := h1.len; omega))
        exact ACode.vcR (rid := some 4) 4 (.br 22 true <| .cells (encI x) <| .draw 11 <| .cells (cSt s) <| .call (.int .i64 G) <| .br 36 false .nil) hn3 hlo3 ⟨l3, rfl, hid3⟩ (.roundW .cl) ⟨ltLen hil, idx hx, by kernel_rfl, mixed, by kernel_rfl, idx hs, sG, by kernel_rfl, hok x (List.mem_of_getElem? hx), i + 1, hil, mu1 hil, Wk.le (St.le.of ⟨by kernel_rfl, rfl, by kernel_rfl, rfl, by kernel_rfl, rfl, by kernel_rfl, rfl, by kernel_rfl, rfl, by kernel_rfl, rfl, Eq.trans (by kernel_rfl) ei, rfl, trivial⟩ ⟨by kernel_rfl, (by decide : (0 : Nat) < 17), rfl, by kernel_rfl, (by decide : (1 : Nat) < 17), rfl, by kernel_rfl, (by decide : (2 : Nat) < 17), rfl, by kernel_rfl, (by decide : (4 : Nat) < 17), rfl, by kernel_rfl, (by decide : (7 : Nat) < 17), okp, by kernel_rfl, (by decide : (8 : Nat) < 17), iL_ok _ _, by kernel_rfl, (by decide : (9 : Nat) < 17), iL_ok _ _, by kernel_rfl, (by decide : (10 : Nat) < 17), iL_ok _ _, by kernel_rfl, (by decide : (11 : Nat) < 17), iL_ok _ _, by kernel_rfl, (by decide : (12 : Nat) < 17), iL_ok _ _, by kernel_rfl, (by decide : (13 : Nat) < 17), iL_ok _ _, by kernel_rfl, (by decide : (14 : Nat) < 17), iL_ok _ _, by kernel_rfl, (by decide : (15 : Nat) < 17), iL_ok _ _, trivial⟩) hlo3⟩
      · exact ACode.vcR (rid := some 4) 4 (.br 22 false .nil) hn3 hlo3 ⟨l3, rfl, hid3⟩ (.roundW .cl) ⟨geLen hil, _, .refl _, .cells (cSt s) <| .draw 11 <| .val 40 (.nil) [] <| .call (encR L) <| .val 46 (.nil) [] <| .val 0 .undef [(7, some (.map (entV (updF (vC 8 f) k2 (.nil)) (ks.erase (n + 1) ++ [k2]))))] .nil, idx hs, by kernel_rfl, mixed, by kernel_rfl, Eq.trans (by kernel_rfl) h2.lk, h1.sL, Eq.trans (by kernel_rfl) h2.ap, by kernel_rfl, Eq.trans (by kernel_rfl) h2.pv, (n + 1, updF (updF f (n + 1) []) k2 [], (ks.erase (n + 1) ++ [k2])), hI2 _ _ ⟨hlt, hnx, hp⟩, mu1 hlt, Wk.trans (Wk.push2N (c := 8) (M := 7) (B := bS1 true b ws .ready) (f := f) (ks := ks.erase (n + 1) ++ [k2]) (k := k2) (k1 := n + 1) (n := 28) (by kernel_rfl) (hbas _) (by decide) h1.k27 hp.lt hne2 h1.ne (hlo.mono (by decide))) (Wk.le (St.le.of ⟨by kernel_rfl, rfl, by kernel_rfl, rfl, by kernel_rfl, rfl, by kernel_rfl, rfl, by kernel_rfl, rfl, Eq.trans (by kernel_rfl) h1.ek, rfl, trivial⟩ ⟨by kernel_rfl, (by decide : (0 : Nat) < 28), rfl, by kernel_rfl, (by decide : (1 : Nat) < 28), rfl, by kernel_rfl, (by decide : (2 : Nat) < 28), rfl, by kernel_rfl, (by decide : (4 : Nat) < 28), rfl, by kernel_rfl, (by decide : (7 : Nat) < 28), h2.okm, by kernel_rfl, (by decide : (9 : Nat) < 28), iL_ok _ _, by kernel_rfl, (by decide : (10 : Nat) < 28), iL_ok _ _, by kernel_rfl, (by decide : (11 : Nat) < 28), iL_ok _ _, by kernel_rfl, (by decide : (12 : Nat) < 28), iL_ok _ _, by kernel_rfl, (by decide : (13 : Nat) < 28), iL_ok _ _, by kernel_rfl, (by decide : (14 : Nat) < 28), iL_ok _ _, by kernel_rfl, (by decide : (15 : Nat) < 28), iL_ok _ _, trivial⟩) (hlo.mono (show 5 ≤ 28 by decide)))⟩
    · skip
      have h2 := hP.2.1 hm2 hLe
      have hp := hput
      have hnx := h1.nx
      rw [if_neg hm2] at hp
      refine ACode.vcM (.br 16 true <| .val 20 .nil [] <| .call (encR come) <| .val 0 .undef [(7, some (.map (entV (updF (vC 8 f) k2 (.rsl 8 0 (f k2).length 1)) (ks.erase (n + 1)))))] <| .call (encR L) .loop) hn hlo (.roundW hQ) ⟨ltLen hnl, Eq.trans (by kernel_rfl) (hL1.2.1 hm1), sN, Eq.trans (by kernel_rfl) hdel, h1.sL, ?_⟩
      intro g3 l3 hn3 hlo3 hid3
      replace hn3 : g3.n = 40 := hn3
      replace hlo3 : g3.low 17 := hlo3
      refine acode_whileW (iSS true b ws n f (ks.erase (n + 1)) k2 L) (fun i => i ≤ L.length) (fun i => L.length - i) 0 (Nat.zero_le _) (Wk.le (St.le.of ⟨by kernel_rfl, rfl, by kernel_rfl, rfl, by kernel_rfl, rfl, by kernel_rfl, rfl, by kernel_rfl, rfl, by kernel_rfl, rfl, by kernel_rfl, rfl, trivial⟩ ⟨by kernel_rfl, (by decide : (0 : Nat) < 17), rfl, by kernel_rfl, (by decide : (1 : Nat) < 17), rfl, by kernel_rfl, (by decide : (2 : Nat) < 17), rfl, by kernel_rfl, (by decide : (4 : Nat) < 17), rfl, by kernel_rfl, (by decide : (7 : Nat) < 17), okp, by kernel_rfl, (by decide : (8 : Nat) < 17), iL_ok _ _, by kernel_rfl, (by decide : (9 : Nat) < 17), iL_ok _ _, by kernel_rfl, (by decide : (10 : Nat) < 17), iL_ok _ _, by kernel_rfl, (by decide : (11 : Nat) < 17), iL_ok _ _, by kernel_rfl, (by decide : (12 : Nat) < 17), iL_ok _ _, by kernel_rfl, (by decide : (13 : Nat) < 17), iL_ok _ _, by kernel_rfl, (by decide : (14 : Nat) < 17), iL_ok _ _, by kernel_rfl, (by decide : (15 : Nat) < 17), iL_ok _ _, trivial⟩) hlo3) ?_
      intro i hi
      by_cases hil : i < L.length
      · refine Exists.elim (getE hil) fun x hx => ?_
        have ei := congrArg (AV.int .i64) (succ64 (k := i) (by have := h1.len; omega))
        exact ACode.vcR (rid := some 4) 4 (.br 22 true <| .cells (encI x) <| .draw 11 <| .cells (cSt s) <| .call (.int .i64 G) <| .br 36 false .nil) hn3 hlo3 ⟨l3, rfl, hid3⟩ (.roundW .cl) ⟨ltLen hil, idx hx, by kernel_rfl, mixed, by kernel_rfl, idx hs, sG, by kernel_rfl, hok x (List.mem_of_getElem? hx), i + 1, hil, mu1 hil, Wk.le (St.le.of ⟨by kernel_rfl, rfl, by kernel_rfl, rfl, by kernel_rfl, rfl, by kernel_rfl, rfl, by kernel_rfl, rfl, by kernel_rfl, rfl, Eq.trans (by kernel_rfl) ei, rfl, trivial⟩ ⟨by kernel_rfl, (by decide : (0 : Nat) < 17), rfl, by kernel_rfl, (by decide : (1 : Nat) < 17), rfl, by kernel_rfl, (by decide : (2 : Nat) < 17), rfl, by kernel_rfl, (by decide : (4 : Nat) < 17), rfl, by kernel_rfl, (by decide : (7 : Nat) < 17), okp, by kernel_rfl, (by decide : (8 : Nat) < 17), iL_ok _ _, by kernel_rfl, (by decide : (9 : Nat) < 17), iL_ok _ _, by kernel_rfl, (by decide : (10 : Nat) < 17), iL_ok _ _, by kernel_rfl, (by decide : (11 : Nat) < 17), iL_ok _ _, by kernel_rfl, (by decide : (12 : Nat) < 17), iL_ok _ _, by kernel_rfl, (by decide : (13 : Nat) < 17), iL_ok _ _, by kernel_rfl, (by decide : (14 : Nat) < 17), iL_ok _ _, by kernel_rfl, (by decide : (15 : Nat) < 17), iL_ok _ _, trivial⟩) hlo3⟩
      · exact ACode.vcR (rid := some 4) 4 (.br 22 false .nil) hn3 hlo3 ⟨l3, rfl, hid3⟩ (.roundW .cl) ⟨geLen hil, _, .refl _, .cells (cSt s) <| .draw 11 <| .val 40 (.nil) [] <| .call (encR L) <| .val 46 (.rsl 27 0 (f k2 ++ L).length 1) [(27, some (.cells (iL (f k2 ++ L))))] <| .val 0 .undef [(7, some (.map (entV (updF (vC 8 f) k2 (.rsl 27 0 (f k2 ++ L).length 1)) (ks.erase (n + 1) ++ [k2]))))] .nil, idx hs, by kernel_rfl, mixed, by kernel_rfl, Eq.trans (by kernel_rfl) h2.lk, h1.sL, Eq.trans (by kernel_rfl) h2.ap, by kernel_rfl, Eq.trans (by kernel_rfl) h2.pv, (n + 1, updF (updF f (n + 1) []) k2 (f k2 ++ L), (ks.erase (n + 1) ++ [k2])), hI2 _ _ ⟨hlt, hnx, hp⟩, mu1 hlt, Wk.trans (Wk.push2 (c := 8) (M := 7) (B := bS1 true b ws .ready) (f := f) (ks := ks.erase (n + 1) ++ [k2]) (k := k2) (k1 := n + 1) (x := f k2 ++ L) (nid := 27) (by kernel_rfl) (hbas _) (by decide) h1.k27 hp.lt hne2 h1.ne (by decide) (hlo.mono (by decide))) (Wk.le (St.le.of ⟨by kernel_rfl, rfl, by kernel_rfl, rfl, by kernel_rfl, rfl, by kernel_rfl, rfl, by kernel_rfl, rfl, Eq.trans (by kernel_rfl) h1.ek, rfl, trivial⟩ ⟨by kernel_rfl, (by decide : (0 : Nat) < 28), rfl, by kernel_rfl, (by decide : (1 : Nat) < 28), rfl, by kernel_rfl, (by decide : (2 : Nat) < 28), rfl, by kernel_rfl, (by decide : (4 : Nat) < 28), rfl, by kernel_rfl, (by decide : (7 : Nat) < 28), h2.okm, by kernel_rfl, (by decide : (27 : Nat) < 28), iL_ok _ _, by kernel_rfl, (by decide : (9 : Nat) < 28), iL_ok _ _, by kernel_rfl, (by decide : (10 : Nat) < 28), iL_ok _ _, by kernel_rfl, (by decide : (11 : Nat) < 28), iL_ok _ _, by kernel_rfl, (by decide : (12 : Nat) < 28), iL_ok _ _, by kernel_rfl, (by decide : (13 : Nat) < 28), iL_ok _ _, by kernel_rfl, (by decide : (14 : Nat) < 28), iL_ok _ _, by kernel_rfl, (by decide : (15 : Nat) < 28), iL_ok _ _, trivial⟩) (hlo.mono (show 5 ≤ 28 by decide)))⟩
end Go.Proofs.YtiggnliiigcjaaaDoor
