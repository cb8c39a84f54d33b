/-
  THE LAW OF EVERYBODY LATER.
-/
import Derived.Test.YtiggnliiigcjaaaDoorLF
import Derived.Test.YtiggnliiigcjaaaDoorLM
namespace Go.Proofs.YtiggnliiigcjaaaDoor
open Go Go.Am
set_option maxRecDepth 100000
set_option maxHeartbeats 4000000
theorem thawBdg2 {h : Nat → Option AObj} {i j k : Nat} {N M Q : Nat} {ss : List Sta} {cs : List Cha} {ws : List Wal} (e1 : N = ss.length) (e2 : M = cs.length) (e3 : Q = ws.length) (h1 : h i = some (.cells (fl cSt ss))) (h2 : h j = some (.cells (fl cCh cs))) (h3 : h k = some (.cells (fl cWa ws))) :
    thawL h [.agg [.rsl i 0 N 6, .rsl j 0 M 4], .rsl k 0 Q 5] = some ([encB ⟨ss, cs⟩, encW ws], [i, j, k]) ∧ ∀ x : Int, thawL h [.agg [.rsl i 0 N 6, .rsl j 0 M 4], .rsl k 0 Q 5, .int .i64 x] = some ([encB ⟨ss, cs⟩, encW ws, .int .i64 x], [i, j, k]) := by
  subst e1; subst e2; subst e3
  have t1 := thaw_fl (enc := cSt) (n := 6) 5 (id := i) (l := ss) (fun _ => rfl) (fun _ => rfl) h1
  have t2 := thaw_fl (enc := cCh) (n := 4) 5 (id := j) (l := cs) (fun _ => rfl) (fun _ => rfl) h2
  have t3 := thaw_fl (enc := cWa) (n := 5) 6 (id := k) (l := ws) (fun _ => rfl) (fun _ => rfl) h3
  have u1 : thaw 8 h (.agg [.rsl i 0 ss.length 6, .rsl j 0 cs.length 4]) = some (encB ⟨ss, cs⟩, [i, j]) := by
    have e : thaw 8 h (.agg [.rsl i 0 ss.length 6, .rsl j 0 cs.length 4]) = (mapO (thaw 7 h) [.rsl i 0 ss.length 6, .rsl j 0 cs.length 4]).map fun p => (.agg p.1, p.2) := rfl
    rw [e]
    simp only [mapO]
    rw [t1, t2]
    rfl
  refine ⟨?_, fun x => ?_⟩
  · simp only [thawL, mapO]
    rw [u1, t3]
    rfl
  · have u2 : thaw 8 h (.int .i64 x) = some (.int .i64 x, []) := by unfold thaw; exact if_pos rfl
    simp only [thawL, mapO]
    rw [u1, t3, u2]
    rfl
theorem lastV_rng (e : Bool) {b : Bdg} {ws : List Wal} (vd : Vld b ws) : 0 ≤ lastV e b ws ∧ lastV e b ws ≤ 17000 := by
  unfold lastV
  suffices h : ∀ n, n ≤ b.ss.length → 0 ≤ lastS e b ws n ∧ lastS e b ws n ≤ 17000 from h _ (Nat.le_refl _)
  intro n
  induction n with
  | zero => intro _; exact ⟨Int.le_refl _, by show (0 : Int) ≤ 17000; decide⟩
  | succ n ih =>
    intro hn
    have ih := ih (by omega)
    simp only [lastS]
    split
    · rename_i hc
      simp only [Bool.and_eq_true, decide_eq_true_eq] at hc
      have h1 := vd.lv5 e (show n < b.ss.length by omega) _ (maxV_is (by rw [comesV_len]; exact hc.2)).1
      omega
    · exact ih
def tSt (b : Bdg) (ws : List Wal) (z n : Int) (ss : List Sta) (cs : List Cha) (vs : List Wal) (E : Env) (X : AHeap) (nx : Nat) : St :=
  ⟨[(1, encW ws), (3, .int .u8 z), (4, .vptr 0 0), (9, .bool true), (10, .int .i64 n), (11, .vptr 17 0), (12, .rsl 16 0 ws.length 5)] ++ E,
    [(0, .cells (cB b)), (6, .cells (fl cSt ss)), (13, .cells (fl cCh cs)), (16, .cells (fl cWa vs)), (17, .cells [.rsl 6 0 b.ss.length 6, .rsl 13 0 b.cs.length 4])] ++ X, nx⟩
def eq2 (a b c d : Int) : Bool := a == c && (b == d && true)
theorem eq2_same (a b : Int) : (!(eq2 a b a b)) = false := by simp [eq2]
theorem spanW (a b n : Int) (h1 : -1000000 ≤ a ∧ a ≤ 1000000) (h2 : -1000000 ≤ b ∧ b ≤ 1000000) (h3 : 0 ≤ n ∧ n < 1000) : APure Tryd.prog 24 [.int .i64 (IntKind.i64.wrap (a + n)), .int .i64 (IntKind.i64.wrap (b + n))] (.agg [.int .i64 (a + n), .int .i64 (b + n)]) := by
  rw [wrap64 (by omega) (by omega), wrap64 (by omega) (by omega)]
  exact spanE_spec _ _
theorem law_later (b : Bdg) (ws : List Wal) (y z : Int) (hy0 : 0 ≤ y) (hy1 : y ≤ 65535) (hz0 : 0 ≤ z) (hz1 : z ≤ 255) : APure Tryd.prog 9 [encB b, encW ws, .int .u16 y, .int .u8 z] (.bool true) := by
  have sA := alive_spec
  have sR := ready_spec b ws
  cases h1 : readyB b ws
  · rw [h1] at sR
    exact APure.vcM Tryd.func9 (.call (.bool true) <| .call (.bool false) .nil) rfl rfl ⟨sA, sR, [], by kernel_rfl⟩
  rw [h1] at sR
  by_cases hw0 : ws.length = 0
  · have hw : ws = [] := List.length_eq_zero_iff.1 hw0
    subst hw
    exact APure.vcM Tryd.func9 (.call (.bool true) <| .call (.bool true) .nil) rfl rfl ⟨sA, sR, [], by kernel_rfl⟩
  have hwp : 0 < ws.length := by omega
  obtain ⟨b1, b2⟩ := ready_1 h1
  have vd := vld_of b1 b2
  have hsl := vd.sl
  have hcl := vd.cl
  have hwl := vd.wl
  have hk : z.toNat % b.ss.length < b.ss.length := Nat.mod_lt _ (by omega)
  have ek : (IntKind.i64.wrap z).tmod ((b.ss.map cSt).length : Int) = ((z.toNat % b.ss.length : Nat) : Int) := by
    rw [wrap64 (by omega) (by omega), List.length_map]
    have : z = (z.toNat : Int) := by omega
    rw [this]; rfl
  generalize z.toNat % b.ss.length = kk at *
  have hnz : ((b.ss.map cSt).length : Int) ≠ 0 := by rw [List.length_map]; omega
  have hnr : 0 ≤ (IntKind.i64.wrap y).tmod 1000 ∧ (IntKind.i64.wrap y).tmod 1000 < 1000 := by
    rw [wrap64 (by omega) (by omega)]
    exact tmod_rng hy0 (by decide)
  have d44 : (((ws.map cWa).length : Int) == 0) = false := by rw [List.length_map]; exact beq_eq_false_iff_ne.2 (by omega)
  refine APure.intro Tryd.func9 rfl rfl rfl fun g hn hlo => ?_
  replace hn : g.n = 283 := hn
  replace hlo : g.low 0 := hlo
  have hlo19 : g.low 19 := hlo.mono (Nat.zero_le _)
  have a1 := appS0 (h := hget [(3, .cells [])]) (i := 3) (nid := 6) (l := b.ss) rfl (by omega)
  have a2 := appC0 (h := hget [(7, .cells [])]) (i := 7) (nid := 13) (l := b.cs) rfl (by omega)
  have a3 := appW0 (h := hget [(15, .cells [])]) (i := 15) (nid := 16) (l := ws) rfl (by omega)
  generalize hgn : (IntKind.i64.wrap y).tmod 1000 = n at hnr
  have e10 := congrArg (AV.int .i64) hgn
  refine ACode.cut 4 (fun _ : Unit => tSt b ws z n b.ss b.cs ws [] [] 19) (fun _ => True)
    (.call (.bool true) <| .call (.bool true) <| .br 44 false <| .inl Tryd.f15 <| .draw 7 <| .val 6 (.rsl 6 0 b.ss.length 6) [(3, none), (6, some (.cells (fl cSt b.ss)))] <| .val 10 (.rsl 13 0 b.cs.length 4) [(7, none), (13, some (.cells (fl cCh b.cs)))] <| .val 56 (.rsl 16 0 ws.length 5) [(15, none), (16, some (.cells (fl cWa ws)))] .nil) hn hlo .ret rfl
    ⟨sA, sR, d44, Tryd.func15, by kernel_rfl, mixed, by kernel_rfl, Eq.trans (by kernel_rfl) a1, by kernel_rfl, Eq.trans (by kernel_rfl) a2, Eq.trans (by kernel_rfl) a3, (), trivial, Wk.le (St.le.of ⟨by kernel_rfl, rfl, by kernel_rfl, rfl, by kernel_rfl, rfl, by kernel_rfl, rfl, Eq.trans (by kernel_rfl) e10, rfl, by kernel_rfl, rfl, by kernel_rfl, rfl, trivial⟩ ⟨by kernel_rfl, (by decide : (0 : Nat) < 19), rfl, by kernel_rfl, (by decide : (6 : Nat) < 19), okSt _ _, by kernel_rfl, (by decide : (13 : Nat) < 19), okCh _ _, by kernel_rfl, (by decide : (16 : Nat) < 19), okWa _ _, by kernel_rfl, (by decide : (17 : Nat) < 19), rfl, trivial⟩) hlo19⟩ fun _ _ => ?_
  refine ACode.cut 0 (fun _ : Unit => tSt b ws z n (b.ss.map (latS n)) b.cs ws [] [] 19) (fun _ => True) .loop hn hlo .ret rfl ?_ fun _ _ => ?_
  · have z0 : some (AObj.cells (fl cSt b.ss)) = some (.cells (fl cSt (mapTo (latS n) b.ss 0))) := by rw [mapTo_zero]
    have z1 : some (AObj.cells (fl cSt (mapTo (latS n) b.ss b.ss.length))) = some (.cells (fl cSt (b.ss.map (latS n)))) := by rw [mapTo_all]
    intro g2 hn2 hlo2
    replace hn2 : g2.n = 283 := hn2
    replace hlo2 : g2.low 0 := hlo2
    have hlo219 : g2.low 19 := hlo2.mono (Nat.zero_le _)
    refine acode_whileW (fun k : Nat => tSt b ws z n (mapTo (latS n) b.ss k) b.cs ws [(59, .int .i64 b.ss.length), (60, .int .i64 k)] [] 19) (fun k => k ≤ b.ss.length) (fun k => b.ss.length - k) 0 (Nat.zero_le _) (Wk.le (St.le.of ⟨by kernel_rfl, rfl, by kernel_rfl, rfl, by kernel_rfl, rfl, by kernel_rfl, rfl, by kernel_rfl, rfl, by kernel_rfl, rfl, by kernel_rfl, rfl, by kernel_rfl, rfl, by kernel_rfl, rfl, trivial⟩ ⟨by kernel_rfl, (by decide : (0 : Nat) < 19), rfl, Eq.trans (by kernel_rfl) z0, (by decide : (6 : Nat) < 19), okSt _ _, by kernel_rfl, (by decide : (13 : Nat) < 19), okCh _ _, by kernel_rfl, (by decide : (16 : Nat) < 19), okWa _ _, by kernel_rfl, (by decide : (17 : Nat) < 19), rfl, trivial⟩) hlo219) ?_
    intro k hk
    by_cases hlt : k < b.ss.length
    · refine Exists.elim (getE hlt) fun s hs => ?_
      have hL := mapTo_get (f := latS n) hs
      have hd : decide ((k : Int) < (b.ss.length : Int)) = true := decide_eq_true (Int.ofNat_lt.2 hlt)
      have ek := congrArg (AV.int .i64) (succ64 (k := k) (by omega))
      have hmu : b.ss.length - (k + 1) < b.ss.length - k := by omega
      have hrg := (vd.s k s hs).2.2.2
      have ix := ixSt (h := hget []) (id := 6) (N := b.ss.length) (i := (k : Int)) rfl hlt
      have l1 := ldFl (enc := cSt) (n := 6) (j := 4) (o := k * 6 + 4 + 0) (fun _ => rfl) (h := hget [(6, .cells (fl cSt (mapTo (latS n) b.ss k)))]) (id := 6) rfl hL rfl rfl
      have l2 := ldFl (enc := cSt) (n := 6) (j := 4 + 1) (o := k * 6 + 4 + 1) (fun _ => rfl) (h := hget [(6, .cells (fl cSt (mapTo (latS n) b.ss k)))]) (id := 6) rfl hL rfl rfl
      have c1 := spanW s.sLo s.sHi n (by omega) (by omega) hnr
      have s1 := stFlS (enc := cSt) (n := 6) (j := 4) (o := k * 6 + 4) (a' := latS n s) (fun _ => rfl) (h := hget [(6, .cells (fl cSt (mapTo (latS n) b.ss k)))]) (id := 6) rfl hL (by decide) rfl rfl
      rw [mapTo_set hs] at s1
      generalize mapTo (latS n) b.ss k = L0 at *
      exact ACode.vcM (.br 61 true <| .draw 22 <| .val 69 (.vptr 6 (k * 6)) [] <| .val 72 (.int .i64 s.sLo) [] <| .val 78 (.vptr 6 (k * 6)) [] <| .val 81 (.int .i64 s.sHi) [] <| .call (.agg [.int .i64 (s.sLo + n), .int .i64 (s.sHi + n)]) <| .val 85 (.vptr 6 (k * 6)) [] <| .val 1 .undef [(6, some (.cells (fl cSt (mapTo (latS n) b.ss (k + 1)))))] .nil) hn2 hlo2 (.roundW .cl)
        ⟨hd, by kernel_rfl, mixed, by kernel_rfl, Eq.trans (by kernel_rfl) ix, Eq.trans (by kernel_rfl) l1, Eq.trans (by kernel_rfl) ix, Eq.trans (by kernel_rfl) l2, c1, by kernel_rfl, Eq.trans (by kernel_rfl) ix, Eq.trans (by kernel_rfl) s1, k + 1, hlt, hmu,
          Wk.le (St.le.of ⟨by kernel_rfl, rfl, by kernel_rfl, rfl, by kernel_rfl, rfl, by kernel_rfl, rfl, by kernel_rfl, rfl, by kernel_rfl, rfl, by kernel_rfl, rfl, by kernel_rfl, rfl, Eq.trans (by kernel_rfl) ek, rfl, trivial⟩ ⟨by kernel_rfl, (by decide : (0 : Nat) < 19), rfl, by kernel_rfl, (by decide : (6 : Nat) < 19), okSt _ _, by kernel_rfl, (by decide : (13 : Nat) < 19), okCh _ _, by kernel_rfl, (by decide : (16 : Nat) < 19), okWa _ _, by kernel_rfl, (by decide : (17 : Nat) < 19), rfl, trivial⟩) hlo219⟩
    · have hkn : k = b.ss.length := Nat.le_antisymm hk (Nat.not_lt.1 hlt)
      subst hkn
      have hd : decide ((b.ss.length : Int) < (b.ss.length : Int)) = false := decide_eq_false (Int.lt_irrefl _)
      exact ACode.vcM (.br 61 false .nil) hn2 hlo2 (.roundW .cl) ⟨hd, _, .refl _, .nil, (), trivial, Wk.le (St.le.of ⟨by kernel_rfl, rfl, by kernel_rfl, rfl, by kernel_rfl, rfl, by kernel_rfl, rfl, by kernel_rfl, rfl, by kernel_rfl, rfl, by kernel_rfl, rfl, trivial⟩ ⟨by kernel_rfl, (by decide : (0 : Nat) < 19), rfl, Eq.trans (by kernel_rfl) z1, (by decide : (6 : Nat) < 19), okSt _ _, by kernel_rfl, (by decide : (13 : Nat) < 19), okCh _ _, by kernel_rfl, (by decide : (16 : Nat) < 19), okWa _ _, by kernel_rfl, (by decide : (17 : Nat) < 19), rfl, trivial⟩) hlo19⟩
  refine ACode.cut 0 (fun _ : Unit => tSt b ws z n (b.ss.map (latS n)) (b.cs.map (latC n)) ws [] [] 19) (fun _ => True) .loop hn hlo .ret rfl ?_ fun _ _ => ?_
  · have z0 : some (AObj.cells (fl cCh b.cs)) = some (.cells (fl cCh (mapTo (latC n) b.cs 0))) := by rw [mapTo_zero]
    have z1 : some (AObj.cells (fl cCh (mapTo (latC n) b.cs b.cs.length))) = some (.cells (fl cCh (b.cs.map (latC n)))) := by rw [mapTo_all]
    intro g2 hn2 hlo2
    replace hn2 : g2.n = 283 := hn2
    replace hlo2 : g2.low 0 := hlo2
    have hlo219 : g2.low 19 := hlo2.mono (Nat.zero_le _)
    refine acode_whileW (fun k : Nat => tSt b ws z n (b.ss.map (latS n)) (mapTo (latC n) b.cs k) ws [(90, .int .i64 b.cs.length), (91, .int .i64 k)] [] 19) (fun k => k ≤ b.cs.length) (fun k => b.cs.length - k) 0 (Nat.zero_le _) (Wk.le (St.le.of ⟨by kernel_rfl, rfl, by kernel_rfl, rfl, by kernel_rfl, rfl, by kernel_rfl, rfl, by kernel_rfl, rfl, by kernel_rfl, rfl, by kernel_rfl, rfl, by kernel_rfl, rfl, by kernel_rfl, rfl, trivial⟩ ⟨by kernel_rfl, (by decide : (0 : Nat) < 19), rfl, by kernel_rfl, (by decide : (6 : Nat) < 19), okSt _ _, Eq.trans (by kernel_rfl) z0, (by decide : (13 : Nat) < 19), okCh _ _, by kernel_rfl, (by decide : (16 : Nat) < 19), okWa _ _, by kernel_rfl, (by decide : (17 : Nat) < 19), rfl, trivial⟩) hlo219) ?_
    intro k hk
    by_cases hlt : k < b.cs.length
    · refine Exists.elim (getE hlt) fun s hs => ?_
      have hL := mapTo_get (f := latC n) hs
      have hd : decide ((k : Int) < (b.cs.length : Int)) = true := decide_eq_true (Int.ofNat_lt.2 hlt)
      have ek := congrArg (AV.int .i64) (succ64 (k := k) (by omega))
      have hmu : b.cs.length - (k + 1) < b.cs.length - k := by omega
      have hrg := (vd.c k s hs).2.2
      have ix := ixCh (h := hget []) (id := 13) (N := b.cs.length) (i := (k : Int)) rfl hlt
      have l1 := ldFl (enc := cCh) (n := 4) (j := 2) (o := k * 4 + 2 + 0) (fun _ => rfl) (h := hget [(13, .cells (fl cCh (mapTo (latC n) b.cs k)))]) (id := 13) rfl hL rfl rfl
      have l2 := ldFl (enc := cCh) (n := 4) (j := 2 + 1) (o := k * 4 + 2 + 1) (fun _ => rfl) (h := hget [(13, .cells (fl cCh (mapTo (latC n) b.cs k)))]) (id := 13) rfl hL rfl rfl
      have c1 := spanW s.sLo s.sHi n (by omega) (by omega) hnr
      have s1 := stFlS (enc := cCh) (n := 4) (j := 2) (o := k * 4 + 2) (a' := latC n s) (fun _ => rfl) (h := hget [(13, .cells (fl cCh (mapTo (latC n) b.cs k)))]) (id := 13) rfl hL (by decide) rfl rfl
      rw [mapTo_set hs] at s1
      generalize mapTo (latC n) b.cs k = L0 at *
      exact ACode.vcM (.br 92 true <| .draw 22 <| .val 100 (.vptr 13 (k * 4)) [] <| .val 103 (.int .i64 s.sLo) [] <| .val 109 (.vptr 13 (k * 4)) [] <| .val 112 (.int .i64 s.sHi) [] <| .call (.agg [.int .i64 (s.sLo + n), .int .i64 (s.sHi + n)]) <| .val 116 (.vptr 13 (k * 4)) [] <| .val 1 .undef [(13, some (.cells (fl cCh (mapTo (latC n) b.cs (k + 1)))))] .nil) hn2 hlo2 (.roundW .cl)
        ⟨hd, by kernel_rfl, mixed, by kernel_rfl, Eq.trans (by kernel_rfl) ix, Eq.trans (by kernel_rfl) l1, Eq.trans (by kernel_rfl) ix, Eq.trans (by kernel_rfl) l2, c1, by kernel_rfl, Eq.trans (by kernel_rfl) ix, Eq.trans (by kernel_rfl) s1, k + 1, hlt, hmu,
          Wk.le (St.le.of ⟨by kernel_rfl, rfl, by kernel_rfl, rfl, by kernel_rfl, rfl, by kernel_rfl, rfl, by kernel_rfl, rfl, by kernel_rfl, rfl, by kernel_rfl, rfl, by kernel_rfl, rfl, Eq.trans (by kernel_rfl) ek, rfl, trivial⟩ ⟨by kernel_rfl, (by decide : (0 : Nat) < 19), rfl, by kernel_rfl, (by decide : (6 : Nat) < 19), okSt _ _, by kernel_rfl, (by decide : (13 : Nat) < 19), okCh _ _, by kernel_rfl, (by decide : (16 : Nat) < 19), okWa _ _, by kernel_rfl, (by decide : (17 : Nat) < 19), rfl, trivial⟩) hlo219⟩
    · have hkn : k = b.cs.length := Nat.le_antisymm hk (Nat.not_lt.1 hlt)
      subst hkn
      have hd : decide ((b.cs.length : Int) < (b.cs.length : Int)) = false := decide_eq_false (Int.lt_irrefl _)
      exact ACode.vcM (.br 92 false .nil) hn2 hlo2 (.roundW .cl) ⟨hd, _, .refl _, .nil, (), trivial, Wk.le (St.le.of ⟨by kernel_rfl, rfl, by kernel_rfl, rfl, by kernel_rfl, rfl, by kernel_rfl, rfl, by kernel_rfl, rfl, by kernel_rfl, rfl, by kernel_rfl, rfl, trivial⟩ ⟨by kernel_rfl, (by decide : (0 : Nat) < 19), rfl, by kernel_rfl, (by decide : (6 : Nat) < 19), okSt _ _, Eq.trans (by kernel_rfl) z1, (by decide : (13 : Nat) < 19), okCh _ _, by kernel_rfl, (by decide : (16 : Nat) < 19), okWa _ _, by kernel_rfl, (by decide : (17 : Nat) < 19), rfl, trivial⟩) hlo19⟩
  refine ACode.cut 0 (fun _ : Unit => tSt b ws z n (b.ss.map (latS n)) (b.cs.map (latC n)) (ws.map (latP n)) [] [] 19) (fun _ => True) .loop hn hlo .ret rfl ?_ fun _ _ => ?_
  · have z0 : some (AObj.cells (fl cWa ws)) = some (.cells (fl cWa (mapTo (latP n) ws 0))) := by rw [mapTo_zero]
    have z1 : some (AObj.cells (fl cWa (mapTo (latP n) ws ws.length))) = some (.cells (fl cWa (ws.map (latP n)))) := by rw [mapTo_all]
    intro g2 hn2 hlo2
    replace hn2 : g2.n = 283 := hn2
    replace hlo2 : g2.low 0 := hlo2
    have hlo219 : g2.low 19 := hlo2.mono (Nat.zero_le _)
    refine acode_whileW (fun k : Nat => tSt b ws z n (b.ss.map (latS n)) (b.cs.map (latC n)) (mapTo (latP n) ws k) [(120, .int .i64 ws.length), (121, .int .i64 k)] [] 19) (fun k => k ≤ ws.length) (fun k => ws.length - k) 0 (Nat.zero_le _) (Wk.le (St.le.of ⟨by kernel_rfl, rfl, by kernel_rfl, rfl, by kernel_rfl, rfl, by kernel_rfl, rfl, by kernel_rfl, rfl, by kernel_rfl, rfl, by kernel_rfl, rfl, by kernel_rfl, rfl, by kernel_rfl, rfl, trivial⟩ ⟨by kernel_rfl, (by decide : (0 : Nat) < 19), rfl, by kernel_rfl, (by decide : (6 : Nat) < 19), okSt _ _, by kernel_rfl, (by decide : (13 : Nat) < 19), okCh _ _, Eq.trans (by kernel_rfl) z0, (by decide : (16 : Nat) < 19), okWa _ _, by kernel_rfl, (by decide : (17 : Nat) < 19), rfl, trivial⟩) hlo219) ?_
    intro k hk
    by_cases hlt : k < ws.length
    · refine Exists.elim (getE hlt) fun s hs => ?_
      have hL := mapTo_get (f := latP n) hs
      have hd : decide ((k : Int) < (ws.length : Int)) = true := decide_eq_true (Int.ofNat_lt.2 hlt)
      have ek := congrArg (AV.int .i64) (succ64 (k := k) (by omega))
      have hmu : ws.length - (k + 1) < ws.length - k := by omega
      have hrg := (vd.w s (List.mem_of_getElem? hs)).2.2
      have ix := ixWa (h := hget []) (id := 16) (N := ws.length) (i := (k : Int)) rfl hlt
      have l1 := ldFl (enc := cWa) (n := 5) (j := 3) (o := k * 5 + 3 + 0) (fun _ => rfl) (h := hget [(16, .cells (fl cWa (mapTo (latP n) ws k)))]) (id := 16) rfl hL rfl rfl
      have l2 := ldFl (enc := cWa) (n := 5) (j := 3 + 1) (o := k * 5 + 3 + 1) (fun _ => rfl) (h := hget [(16, .cells (fl cWa (mapTo (latP n) ws k)))]) (id := 16) rfl hL rfl rfl
      have c1 := spanW s.tLo s.tHi n (by omega) (by omega) hnr
      have s1 := stFlS (enc := cWa) (n := 5) (j := 3) (o := k * 5 + 3) (a' := latP n s) (fun _ => rfl) (h := hget [(16, .cells (fl cWa (mapTo (latP n) ws k)))]) (id := 16) rfl hL (by decide) rfl rfl
      rw [mapTo_set hs] at s1
      generalize mapTo (latP n) ws k = L0 at *
      exact ACode.vcM (.br 122 true <| .draw 19 <| .val 128 (.vptr 16 (k * 5)) [] <| .val 131 (.int .i64 s.tLo) [] <| .val 136 (.vptr 16 (k * 5)) [] <| .val 139 (.int .i64 s.tHi) [] <| .call (.agg [.int .i64 (s.tLo + n), .int .i64 (s.tHi + n)]) <| .val 143 (.vptr 16 (k * 5)) [] <| .val 1 .undef [(16, some (.cells (fl cWa (mapTo (latP n) ws (k + 1)))))] .nil) hn2 hlo2 (.roundW .cl)
        ⟨hd, by kernel_rfl, mixed, by kernel_rfl, Eq.trans (by kernel_rfl) ix, Eq.trans (by kernel_rfl) l1, Eq.trans (by kernel_rfl) ix, Eq.trans (by kernel_rfl) l2, c1, by kernel_rfl, Eq.trans (by kernel_rfl) ix, Eq.trans (by kernel_rfl) s1, k + 1, hlt, hmu,
          Wk.le (St.le.of ⟨by kernel_rfl, rfl, by kernel_rfl, rfl, by kernel_rfl, rfl, by kernel_rfl, rfl, by kernel_rfl, rfl, by kernel_rfl, rfl, by kernel_rfl, rfl, by kernel_rfl, rfl, Eq.trans (by kernel_rfl) ek, rfl, trivial⟩ ⟨by kernel_rfl, (by decide : (0 : Nat) < 19), rfl, by kernel_rfl, (by decide : (6 : Nat) < 19), okSt _ _, by kernel_rfl, (by decide : (13 : Nat) < 19), okCh _ _, by kernel_rfl, (by decide : (16 : Nat) < 19), okWa _ _, by kernel_rfl, (by decide : (17 : Nat) < 19), rfl, trivial⟩) hlo219⟩
    · have hkn : k = ws.length := Nat.le_antisymm hk (Nat.not_lt.1 hlt)
      subst hkn
      have hd : decide ((ws.length : Int) < (ws.length : Int)) = false := decide_eq_false (Int.lt_irrefl _)
      exact ACode.vcM (.br 122 false .nil) hn2 hlo2 (.roundW .cl) ⟨hd, _, .refl _, .nil, (), trivial, Wk.le (St.le.of ⟨by kernel_rfl, rfl, by kernel_rfl, rfl, by kernel_rfl, rfl, by kernel_rfl, rfl, by kernel_rfl, rfl, by kernel_rfl, rfl, by kernel_rfl, rfl, trivial⟩ ⟨by kernel_rfl, (by decide : (0 : Nat) < 19), rfl, by kernel_rfl, (by decide : (6 : Nat) < 19), okSt _ _, by kernel_rfl, (by decide : (13 : Nat) < 19), okCh _ _, Eq.trans (by kernel_rfl) z1, (by decide : (16 : Nat) < 19), okWa _ _, by kernel_rfl, (by decide : (17 : Nat) < 19), rfl, trivial⟩) hlo19⟩
  have sR2 := ready_spec (latB n b) (latW n ws)
  have hT0 := thawBdg2 (h := hget [(0, .cells (cB b)), (6, .cells (fl cSt (b.ss.map (latS n)))), (13, .cells (fl cCh (b.cs.map (latC n)))), (16, .cells (fl cWa (ws.map (latP n)))), (17, .cells [.rsl 6 0 b.ss.length 6, .rsl 13 0 b.cs.length 4])]) (i := 6) (j := 13) (k := 16) (ss := (b.ss.map (latS n))) (cs := (b.cs.map (latC n))) (ws := (ws.map (latP n))) (List.length_map ..).symm (List.length_map ..).symm (List.length_map ..).symm rfl rfl rfl
  refine (Bool.eq_false_or_eq_true (readyB (latB n b) (latW n ws))).symm.elim (fun hr => ?_) (fun hr => ?_)
  · rw [hr] at sR2
    exact ACode.vcM (.lent (.bool false) [6, 13, 16] .nil) hn hlo .ret ⟨⟨_, Eq.trans (by kernel_rfl) hT0.1, .inl ⟨sR2, .inr rfl⟩⟩, trivial, rfl⟩
  rw [hr] at sR2
  have b1' := (ready_1 hr).1
  have b2' := (ready_1 hr).2
  have l2 := Leaves_ok b ws b1 b2 kk hk
  have l1 := Leaves_okF (latB n b) (latW n ws) b1' b2' kk (by rw [show (latB n b).ss.length = b.ss.length from List.length_map ..]; exact hk)
  have o2 := Out_ok b ws b1 b2
  have o1 := Out_ok (latB n b) (latW n ws) b1' b2'
  have s2 := Safe_ok b ws b1 b2
  have s1 := Safe_ok (latB n b) (latW n ws) b1' b2'
  have hn0 := hnr.1
  unfold spansV at l2 l1
  rw [leaves_lat false hn0 vd (vd.st0 false) hk, leaves_lat true hn0 vd (vd.st0 true) hk] at l1
  rw [lastV_lat false hn0 vd hwp (vd.st0 false), lastV_lat true hn0 vd hwp (vd.st0 true)] at o1
  rw [safeV_lat hn0 vd vd.st0] at s1
  rw [← ek] at l2 l1
  have hAB := leavesV_len b ws kk
  have hA5 := vd.lv5 false hk
  have hB5 := vd.lv5 true hk
  have hB1 := leavesV_short vd hk true
  have hp5 := lastV_rng false vd
  have hq5 := lastV_rng true vd
  generalize leavesV false b ws kk = A at l2 l1 hAB hA5
  generalize leavesV true b ws kk = B at l2 l1 hAB hB5 hB1
  generalize lastV false b ws = p at o2 o1 hp5
  generalize lastV true b ws = q at o2 o1 hq5
  generalize (safeV b ws).1 = v at s2 s1
  generalize (safeV b ws).2.1 = c at s2 s1
  generalize (safeV b ws).2.2 = d at s2 s1
  have hT1 := thawBdg2 (h := hget [(0, .cells (cB b)), (6, .cells (fl cSt (b.ss.map (latS n)))), (13, .cells (fl cCh (b.cs.map (latC n)))), (16, .cells (fl cWa (ws.map (latP n)))), (17, .cells [.rsl 6 0 b.ss.length 6, .rsl 13 0 b.cs.length 4]), (19, .cells (cS (p, q)))]) (i := 6) (j := 13) (k := 16) (ss := (b.ss.map (latS n))) (cs := (b.cs.map (latC n))) (ws := (ws.map (latP n))) (List.length_map ..).symm (List.length_map ..).symm (List.length_map ..).symm rfl rfl rfl
  have hT2 := thawBdg2 (h := hget [(0, .cells (cB b)), (6, .cells (fl cSt (b.ss.map (latS n)))), (13, .cells (fl cCh (b.cs.map (latC n)))), (16, .cells (fl cWa (ws.map (latP n)))), (17, .cells [.rsl 6 0 b.ss.length 6, .rsl 13 0 b.cs.length 4]), (19, .cells (cS (p, q))), (21, .cells (cS (p + n, q + n)))]) (i := 6) (j := 13) (k := 16) (ss := (b.ss.map (latS n))) (cs := (b.cs.map (latC n))) (ws := (ws.map (latP n))) (List.length_map ..).symm (List.length_map ..).symm (List.length_map ..).symm rfl rfl rfl
  have hT3 := hT0.2 ((IntKind.i64.wrap z).tmod ((b.ss.map cSt).length : Int))
  refine ACode.cut 7 (fun _ : Unit => tSt b ws z n (b.ss.map (latS n)) (b.cs.map (latC n)) (ws.map (latP n)) [(17, encSn (A.zip B)), (18, .int .i64 0), (19, encSn ((sh n A).zip (sh n B))), (20, .int .i64 0), (21, .vptr 19 0), (22, .int .i64 0), (23, .vptr 21 0), (24, .int .i64 0), (25, .int .u8 v), (26, .int .i64 c), (27, .int .i64 d), (28, .int .i64 0), (29, .int .u8 v), (30, .int .i64 c), (31, .int .i64 d), (32, .int .i64 0)] [(19, .cells (cS (p, q))), (21, .cells (cS (p + n, q + n)))] 23) (fun _ => True)
    (.lent (.bool true) [6, 13, 16] <| .nz <| .call (.tup [encSn (A.zip B), .int .i64 0]) <| .lent (.tup [encSn ((sh n A).zip (sh n B)), .int .i64 0]) [6, 13, 16] <| .call (.tup [encS (p, q), .int .i64 0]) <| .lent (.tup [encS (p + n, q + n), .int .i64 0]) [6, 13, 16] <| .call (.tup [.int .u8 v, .int .i64 c, .int .i64 d, .int .i64 0]) <| .lent (.tup [.int .u8 v, .int .i64 c, .int .i64 d, .int .i64 0]) [6, 13, 16] .nil) hn hlo .ret rfl
    ⟨⟨_, Eq.trans (by kernel_rfl) hT0.1, .inl ⟨sR2, .inr rfl⟩⟩, hnz, l2, ⟨_, Eq.trans (by kernel_rfl) hT3, .inr l1⟩, o2, ⟨_, Eq.trans (by kernel_rfl) hT1.1, .inl ⟨o1, .inr rfl⟩⟩, s2, ⟨_, Eq.trans (by kernel_rfl) hT2.1, .inl ⟨s1, .inr rfl⟩⟩, (), trivial,
      Wk.le (St.le.of ⟨by kernel_rfl, rfl, by kernel_rfl, rfl, by kernel_rfl, rfl, by kernel_rfl, rfl, by kernel_rfl, rfl, by kernel_rfl, rfl, by kernel_rfl, rfl, by kernel_rfl, rfl, by kernel_rfl, rfl, by kernel_rfl, rfl, by kernel_rfl, rfl, by kernel_rfl, rfl, by kernel_rfl, rfl, by kernel_rfl, rfl, by kernel_rfl, rfl, by kernel_rfl, rfl, by kernel_rfl, rfl, by kernel_rfl, rfl, by kernel_rfl, rfl, by kernel_rfl, rfl, by kernel_rfl, rfl, by kernel_rfl, rfl, by kernel_rfl, rfl, trivial⟩ ⟨by kernel_rfl, (by decide : (0 : Nat) < 23), rfl, by kernel_rfl, (by decide : (6 : Nat) < 23), okSt _ _, by kernel_rfl, (by decide : (13 : Nat) < 23), okCh _ _, by kernel_rfl, (by decide : (16 : Nat) < 23), okWa _ _, by kernel_rfl, (by decide : (17 : Nat) < 23), rfl, by kernel_rfl, (by decide : (19 : Nat) < 23), rfl, by kernel_rfl, (by decide : (21 : Nat) < 23), rfl, trivial⟩) (hlo.mono (Nat.zero_le _))⟩ fun _ _ => ?_
  have n1 : ((((A.zip B).map cS).length : Int) != ((((sh n A).zip (sh n B)).map cS).length : Int)) = false := by simp [List.length_zip, sh]
  have cpq := spanW p q n (by omega) (by omega) hnr
  have nv : (v != v) = false := bne_self_eq_false v
  have nc : (c != c) = false := bne_self_eq_false c
  have nd : (d != d) = false := bne_self_eq_false d
  refine ACode.cut 0 (fun _ : Unit => tSt b ws z n (b.ss.map (latS n)) (b.cs.map (latC n)) (ws.map (latP n)) [(17, encSn (A.zip B)), (19, encSn ((sh n A).zip (sh n B)))] [] 19) (fun _ => True)
    (.draw 55 <| .br 228 false <| .call (.agg [.int .i64 (p + n), .int .i64 (q + n)]) <| .val 239 (.bool (!(eq2 (p + n) (q + n) (p + n) (q + n)))) [] <| .br 241 false <| .br 246 false <| .br 251 false <| .br 255 false .nil) hn hlo .ret rfl
    ⟨by kernel_rfl, mixed, by kernel_rfl, n1, cpq, by kernel_rfl, eq2_same _ _, nv, nc, by kernel_rfl, nd, (), trivial, Wk.le (St.le.of ⟨by kernel_rfl, rfl, by kernel_rfl, rfl, by kernel_rfl, rfl, by kernel_rfl, rfl, by kernel_rfl, rfl, by kernel_rfl, rfl, by kernel_rfl, rfl, by kernel_rfl, rfl, by kernel_rfl, rfl, trivial⟩ ⟨by kernel_rfl, (by decide : (0 : Nat) < 19), rfl, by kernel_rfl, (by decide : (6 : Nat) < 19), okSt _ _, by kernel_rfl, (by decide : (13 : Nat) < 19), okCh _ _, by kernel_rfl, (by decide : (16 : Nat) < 19), okWa _ _, by kernel_rfl, (by decide : (17 : Nat) < 19), rfl, trivial⟩) hlo19⟩ fun _ _ => ?_
  refine ACode.cut 0 (fun _ : Unit => tSt b ws z n (b.ss.map (latS n)) (b.cs.map (latC n)) (ws.map (latP n)) [(17, encSn (A.zip B)), (19, encSn ((sh n A).zip (sh n B)))] [] 19) (fun _ => True) .loop hn hlo .ret rfl ?_ fun _ _ => ?_
  · intro g2 hn2 hlo2
    replace hn2 : g2.n = 283 := hn2
    replace hlo2 : g2.low 0 := hlo2
    have hlo219 : g2.low 19 := hlo2.mono (Nat.zero_le _)
    have hz : (A.zip B).length = A.length := by rw [List.length_zip, hAB, Nat.min_self]
    refine acode_whileW (fun k : Nat => tSt b ws z n (b.ss.map (latS n)) (b.cs.map (latC n)) (ws.map (latP n)) [(17, encSn (A.zip B)), (19, encSn ((sh n A).zip (sh n B))), (257, .int .i64 (((A.zip B).map cS).length : Int)), (258, .int .i64 k)] [] 19) (fun k => k ≤ (A.zip B).length) (fun k => (A.zip B).length - k) 0 (Nat.zero_le _) (Wk.le (St.le.of ⟨by kernel_rfl, rfl, by kernel_rfl, rfl, by kernel_rfl, rfl, by kernel_rfl, rfl, by kernel_rfl, rfl, by kernel_rfl, rfl, by kernel_rfl, rfl, by kernel_rfl, rfl, by kernel_rfl, rfl, by kernel_rfl, rfl, by kernel_rfl, rfl, trivial⟩ ⟨by kernel_rfl, (by decide : (0 : Nat) < 19), rfl, by kernel_rfl, (by decide : (6 : Nat) < 19), okSt _ _, by kernel_rfl, (by decide : (13 : Nat) < 19), okCh _ _, by kernel_rfl, (by decide : (16 : Nat) < 19), okWa _ _, by kernel_rfl, (by decide : (17 : Nat) < 19), rfl, trivial⟩) hlo219) ?_
    intro k hk
    by_cases hlt : k < (A.zip B).length
    · refine Exists.elim (getE (show k < A.length by omega)) fun x hx => Exists.elim (getE (show k < B.length by omega)) fun y hy => ?_
      have hxy : (A.zip B)[k]? = some (x, y) := List.getElem?_zip_eq_some.2 ⟨hx, hy⟩
      have hxy' : ((sh n A).zip (sh n B))[k]? = some (x + n, y + n) := List.getElem?_zip_eq_some.2 ⟨by unfold sh; rw [List.getElem?_map, hx]; rfl, by unfold sh; rw [List.getElem?_map, hy]; rfl⟩
      have ek := congrArg (AV.int .i64) (succ64 (k := k) (by omega))
      have rx := hA5 x (List.mem_of_getElem? hx)
      have ry := hB5 y (List.mem_of_getElem? hy)
      have cxy := spanW x y n (by omega) (by omega) hnr
      exact ACode.vcM (.br 259 true <| .draw 19 <| .cells (cS (x + n, y + n)) <| .cells (cS (x, y)) <| .cells (cS (x, y)) <| .call (.agg [.int .i64 (x + n), .int .i64 (y + n)]) <| .val 280 (.bool (!(eq2 (x + n) (y + n) (x + n) (y + n)))) [] <| .br 280 false .nil) hn2 hlo2 (.roundW .cl)
        ⟨ltLen hlt, by kernel_rfl, mixed, by kernel_rfl, idx hxy', idx hxy, idx hxy, cxy, by kernel_rfl, by kernel_rfl, eq2_same _ _, k + 1, hlt, mu1 hlt,
          Wk.le (St.le.of ⟨by kernel_rfl, rfl, by kernel_rfl, rfl, by kernel_rfl, rfl, by kernel_rfl, rfl, by kernel_rfl, rfl, by kernel_rfl, rfl, by kernel_rfl, rfl, by kernel_rfl, rfl, by kernel_rfl, rfl, by kernel_rfl, rfl, Eq.trans (by kernel_rfl) ek, rfl, trivial⟩ ⟨by kernel_rfl, (by decide : (0 : Nat) < 19), rfl, by kernel_rfl, (by decide : (6 : Nat) < 19), okSt _ _, by kernel_rfl, (by decide : (13 : Nat) < 19), okCh _ _, by kernel_rfl, (by decide : (16 : Nat) < 19), okWa _ _, by kernel_rfl, (by decide : (17 : Nat) < 19), rfl, trivial⟩) hlo219⟩
    · exact ACode.vcM (.br 259 false .nil) hn2 hlo2 (.roundW .cl) ⟨geLen hlt, _, .refl _, .nil, (), trivial, Wk.le (St.le.of ⟨by kernel_rfl, rfl, by kernel_rfl, rfl, by kernel_rfl, rfl, by kernel_rfl, rfl, by kernel_rfl, rfl, by kernel_rfl, rfl, by kernel_rfl, rfl, by kernel_rfl, rfl, by kernel_rfl, rfl, trivial⟩ ⟨by kernel_rfl, (by decide : (0 : Nat) < 19), rfl, by kernel_rfl, (by decide : (6 : Nat) < 19), okSt _ _, by kernel_rfl, (by decide : (13 : Nat) < 19), okCh _ _, by kernel_rfl, (by decide : (16 : Nat) < 19), okWa _ _, by kernel_rfl, (by decide : (17 : Nat) < 19), rfl, trivial⟩) hlo19⟩
  exact ACode.vcM .nil hn hlo .ret ⟨trivial, rfl⟩
end Go.Proofs.YtiggnliiigcjaaaDoor
