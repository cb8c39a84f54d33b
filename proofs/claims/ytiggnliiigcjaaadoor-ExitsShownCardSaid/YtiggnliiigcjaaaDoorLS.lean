/-
  THE LAW OF WHAT IS SHOWN.
-/
import Derived.Test.YtiggnliiigcjaaaDoorFX
import Derived.Test.YtiggnliiigcjaaaDoorLM
namespace Go.Proofs.YtiggnliiigcjaaaDoor
open Go Go.Am
set_option maxRecDepth 100000
set_option maxHeartbeats 4000000
/-- The state of the law, between its pieces. -/
def wSt (b : Bdg) (ws : List Wal) (C S : Int) (E : Env) (X : AHeap) (nx : Nat) : St :=
  ⟨[(1, encW ws), (2, .vptr 0 0), (5, .bool true), (7, .int .i64 C), (8, .int .i64 S)] ++ E, [(0, .cells (cB b))] ++ X, nx⟩
def anyS (B : List Int) (lo : Int) (m : Nat) : Bool := (B.take m).any fun y => decide (y > lo)
theorem anyS_step {B : List Int} {lo : Int} {m : Nat} {y : Int} (h : B[m]? = some y) : anyS B lo (m + 1) = (anyS B lo m || decide (y > lo)) := by
  unfold anyS
  rw [List.take_add_one, h, List.any_append]
  simp
def anyC (b : Bdg) (ws : List Wal) (k m : Nat) : Bool := (ws.take m).any fun p => p.ch == (k : Int) && isLateC true b p
theorem anyC_step {b : Bdg} {ws : List Wal} {k m : Nat} {p : Wal} (h : ws[m]? = some p) : anyC b ws k (m + 1) = (anyC b ws k m || (p.ch == (k : Int) && isLateC true b p)) := by
  unfold anyC
  rw [List.take_add_one, h, List.any_append]
  simp
theorem modify_set {α : Type} {f : α → α} {l : List α} {k : Nat} {a : α} (h : l[k]? = some a) : l.modify k f = l.set k (f a) := by
  apply List.ext_getElem?
  intro i
  rw [List.getElem?_modify, List.getElem?_set]
  by_cases e : k = i
  · subst e
    have hl : k < l.length := by
      rcases Nat.lt_or_ge k l.length with h' | h'
      · exact h'
      · rw [List.getElem?_eq_none h'] at h; cases h
    have h' := h
    rw [List.getElem?_eq_getElem hl] at h'
    simp [hl, Option.some.inj h']
  · simp [e]
theorem bdg_okS {b : Bdg} {ws : List Wal} (vd : Vld b ws) : bdgB b = true := by
  unfold bdgB stasB chasB
  have h1 := vd.sl
  have h2 := vd.cl
  simp only [Bool.and_eq_true]
  refine ⟨⟨decide_eq_true (by omega), allI_iff.2 fun i s hi => ?_⟩, decide_eq_true (by omega), List.all_eq_true.2 fun c hc => ?_⟩
  · have := vd.s i s hi
    simp only [staB, nextB, Bool.and_eq_true, Bool.or_eq_true, spB_iff, inB, decide_eq_true_eq, Bool.not_eq_true', bne_eq_false_iff_eq]
    exact ⟨this.1, this.2.1, this.2.2.1, this.2.2.2⟩
  · obtain ⟨i, hi⟩ := List.getElem?_of_mem hc
    have := vd.c i c hi
    simp only [chaB, Bool.and_eq_true, spB_iff, inB, decide_eq_true_eq]
    exact ⟨this.1, this.2.1, this.2.2⟩
theorem thawBdg1 {h : Nat → Option AObj} {i j : Nat} {N M : Nat} {ss : List Sta} {cs : List Cha} (e1 : N = ss.length) (e2 : M = cs.length) (h1 : h i = some (.cells (fl cSt ss))) (h2 : h j = some (.cells (fl cCh cs))) (ws : List Wal) :
    thawL h [.agg [.rsl i 0 N 6, .rsl j 0 M 4], encW ws] = some ([encB ⟨ss, cs⟩, encW ws], [i, j]) := by
  subst e1; subst e2
  have t1 := thaw_fl (enc := cSt) (n := 6) 5 (id := i) (l := ss) (fun _ => rfl) (fun _ => rfl) h1
  have t2 := thaw_fl (enc := cCh) (n := 4) 5 (id := j) (l := cs) (fun _ => rfl) (fun _ => rfl) h2
  have u1 : thaw 8 h (.agg [.rsl i 0 ss.length 6, .rsl j 0 cs.length 4]) = some (encB ⟨ss, cs⟩, [i, j]) := by
    have e : thaw 8 h (.agg [.rsl i 0 ss.length 6, .rsl j 0 cs.length 4]) = (mapO (thaw 7 h) [.rsl i 0 ss.length 6, .rsl j 0 cs.length 4]).map fun p => (.agg p.1, p.2) := rfl
    rw [e]
    simp only [mapO]
    rw [t1, t2]
    rfl
  have u2 : thaw 8 h (encW ws) = some (encW ws, []) := by unfold thaw; exact if_pos rfl
  simp only [thawL, mapO]
  rw [u1, u2]
  rfl
theorem law_shown (b : Bdg) (ws : List Wal) : APure Tryd.prog 7 [encB b, encW ws] (.bool true) := by
  have sA := alive_spec
  have sR := ready_spec b ws
  cases h1 : readyB b ws
  · rw [h1] at sR
    exact APure.vcM Tryd.func7 (.call (.bool true) <| .call (.bool false) .nil) rfl rfl ⟨sA, sR, [], by kernel_rfl⟩
  rw [h1] at sR
  obtain ⟨b1, b2⟩ := ready_1 h1
  have vd := vld_of b1 b2
  have hsl := vd.sl
  have hcl := vd.cl
  have hwl := vd.wl
  have sS : APure Tryd.prog 16 [encB b, encW ws] (.tup [.int .u8 (safeV b ws).1, .int .i64 (lateCV true b ws), .int .i64 (lateSV true b ws), .int .i64 0]) := by
    have := Safe_ok b ws b1 b2
    rw [safeV_2 b ws] at this
    exact this
  have hv : ((safeV b ws).1 == 2) = (decide (lateCV true b ws < 0) && decide (lateSV true b ws < 0)) := by
    rw [← noL_neg vd, Bool.eq_iff_iff, beq_iff_eq]; exact safeV_1 b ws
  have hrng := shown_rng vd
  have hss := fun n (hn : n < b.ss.length) => shown_s b ws hn
  have hsc := fun n => shown_c (b := b) (ws := ws) (fun x hx => (vd.w x hx).1.1) n
  have hlater := clr_later vd _ _ rfl rfl
  have sL := fun k (hk : k < b.ss.length) => Leaves_ok b ws b1 b2 k hk
  have vc := vld_clr vd (lateCV true b ws) (lateSV true b ws)
  have s3 : APure Tryd.prog 16 [encB (clrB b (lateCV true b ws) (lateSV true b ws)), encW ws] (.tup [.int .u8 (safeV (clrB b (lateCV true b ws) (lateSV true b ws)) ws).1, .int .i64 (lateCV true (clrB b (lateCV true b ws) (lateSV true b ws)) ws), .int .i64 (lateSV true (clrB b (lateCV true b ws) (lateSV true b ws)) ws), .int .i64 0]) := by
    have := Safe_ok (clrB b (lateCV true b ws) (lateSV true b ws)) ws (bdg_okS vc) (wals_of_vld vc)
    rw [safeV_2 _ ws] at this
    exact this
  generalize (safeV (clrB b (lateCV true b ws) (lateSV true b ws)) ws).1 = v3 at *
  generalize lateCV true (clrB b (lateCV true b ws) (lateSV true b ws)) ws = D at *
  generalize lateSV true (clrB b (lateCV true b ws) (lateSV true b ws)) ws = T at *
  generalize (safeV b ws).1 = v at *
  generalize lateCV true b ws = C at *
  generalize lateSV true b ws = S at *
  have d50 : decide (C < -1) = false := decide_eq_false (by omega)
  have d57 : decide (C ≥ ((b.cs.map cCh).length : Int)) = false := decide_eq_false (by rw [List.length_map]; omega)
  have d61 : decide (S < -1) = false := decide_eq_false (by omega)
  have d68 : decide (S ≥ ((b.ss.map cSt).length : Int)) = false := decide_eq_false (by rw [List.length_map]; omega)
  have vt : decide (C < 0) = true → ((v == 2) != decide (S < 0)) = false := fun h => by rw [hv, h]; simp
  have vf : decide (C < 0) = false → ((v == 2) != false) = false := fun h => by rw [hv, h]; simp
  refine APure.intro Tryd.func7 rfl rfl rfl fun g hn hlo => ?_
  replace hn : g.n = 246 := hn
  replace hlo : g.low 0 := hlo
  have hlo1 : g.low 1 := hlo.mono (Nat.zero_le _)
  refine ACode.cut 4 (fun _ : Unit => wSt b ws C S [] [] 1) (fun _ => True)
    (.call (.bool true) <| .call (.bool true) <| .call (.tup [.int .u8 v, .int .i64 C, .int .i64 S, .int .i64 0]) <| .br 50 false <| .br 57 false <| .br 61 false <| .br 68 false <| .both 73 (.br 78 false .nil) (.br 78 false .nil)) hn hlo .ret rfl
    ⟨sA, sR, sS, d50, d57, d61, d68, fun e => ⟨vt e, (), trivial, Wk.le (St.le.of ⟨by kernel_rfl, rfl, by kernel_rfl, rfl, by kernel_rfl, rfl, by kernel_rfl, rfl, by kernel_rfl, rfl, trivial⟩ ⟨by kernel_rfl, (by decide : (0 : Nat) < 1), rfl, trivial⟩) hlo1⟩, fun e => ⟨vf e, (), trivial, Wk.le (St.le.of ⟨by kernel_rfl, rfl, by kernel_rfl, rfl, by kernel_rfl, rfl, by kernel_rfl, rfl, by kernel_rfl, rfl, trivial⟩ ⟨by kernel_rfl, (by decide : (0 : Nat) < 1), rfl, trivial⟩) hlo1⟩⟩ fun _ _ => ?_
  refine ACode.cut 0 (fun _ : Unit => wSt b ws C S [] [] 1) (fun _ => True) .loop hn hlo .ret rfl ?_ fun _ _ => ?_
  · intro g2 hn2 hlo2
    replace hn2 : g2.n = 246 := hn2
    replace hlo2 : g2.low 0 := hlo2
    have hlo21 : g2.low 1 := hlo2.mono (Nat.zero_le _)
    refine acode_whileW (fun k : Nat => wSt b ws C S [(81, .int .i64 ((b.ss.map cSt).length : Int)), (82, .int .i64 k)] [] 1) (fun k => k ≤ b.ss.length) (fun k => b.ss.length - k) 0 (Nat.zero_le _) (Wk.le (St.le.of ⟨by kernel_rfl, rfl, by kernel_rfl, rfl, by kernel_rfl, rfl, by kernel_rfl, rfl, by kernel_rfl, rfl, by kernel_rfl, rfl, by kernel_rfl, rfl, trivial⟩ ⟨by kernel_rfl, (by decide : (0 : Nat) < 1), rfl, trivial⟩) hlo21) ?_
    intro k hk
    by_cases hlt : k < b.ss.length
    · refine Exists.elim (getE hlt) fun s hs => ?_
      have ek := congrArg (AV.int .i64) (succ64 (k := k) (by omega))
      have sLk := sL k hlt
      unfold spansV at sLk
      have hAB := leavesV_len b ws k
      have hB1 := leavesV_short vd hlt true
      have hsk := hss k hlt
      have hat : lateAt true b ws k = anyS (leavesV true b ws k) s.sLo (leavesV true b ws k).length := by
        unfold lateAt anyS
        rw [hs, List.take_length]; rfl
      rw [hat] at hsk
      generalize leavesV false b ws k = A at sLk hAB hB1 hsk hat
      generalize leavesV true b ws k = B at sLk hAB hB1 hsk hat
      have hz : (A.zip B).length = B.length := by rw [List.length_zip, hAB, Nat.min_self]
      refine ACode.vcM (.br 83 true <| .call (.tup [encSn (A.zip B), .int .i64 0]) .loop) hn2 hlo2 (.roundW .cl) ⟨ltLen hlt, sLk, ?_⟩
      intro g3 hn3 hlo3
      replace hn3 : g3.n = 246 := hn3
      replace hlo3 : g3.low 0 := hlo3
      have hlo31 : g3.low 1 := hlo3.mono (Nat.zero_le _)
      refine acode_whileW (fun q : Nat × Bool => wSt b ws C S [(10, .int .i64 k), (13, .bool q.2), (81, .int .i64 ((b.ss.map cSt).length : Int)), (82, .int .i64 k), (94, encSn (A.zip B)), (95, .int .i64 (((A.zip B).map cS).length : Int)), (96, .int .i64 q.1)] [] 1) (fun q => q.1 ≤ (A.zip B).length ∧ q.2 = anyS B s.sLo q.1) (fun q => (A.zip B).length - q.1) (0, false) ⟨Nat.zero_le _, rfl⟩ (Wk.le (St.le.of ⟨by kernel_rfl, rfl, by kernel_rfl, rfl, by kernel_rfl, rfl, by kernel_rfl, rfl, by kernel_rfl, rfl, by kernel_rfl, rfl, by kernel_rfl, rfl, by kernel_rfl, rfl, by kernel_rfl, rfl, by kernel_rfl, rfl, by kernel_rfl, rfl, by kernel_rfl, rfl, trivial⟩ ⟨by kernel_rfl, (by decide : (0 : Nat) < 1), rfl, trivial⟩) hlo31) ?_
      rintro ⟨m, L⟩ hI
      have hm : m ≤ (A.zip B).length := hI.1
      have hL : L = anyS B s.sLo m := hI.2
      by_cases hmlt : m < (A.zip B).length
      · refine Exists.elim (getE (show m < A.length by omega)) fun x hx => Exists.elim (getE (show m < B.length by omega)) fun y hy => ?_
        have hxy : (A.zip B)[m]? = some (x, y) := List.getElem?_zip_eq_some.2 ⟨hx, hy⟩
        have em := congrArg (AV.int .i64) (succ64 (k := m) (by omega))
        have hst := anyS_step (lo := s.sLo) hy
        rw [← hL] at hst
        clear hI hL
        cases L
        · have hI2 : m + 1 ≤ (A.zip B).length ∧ decide (y > s.sLo) = anyS B s.sLo (m + 1) := ⟨hmlt, hst.symm⟩
          exact ACode.vcM (.br 97 true <| .cells (cS (x, y)) <| .draw 11 <| .cells (cSt s) .nil) hn3 hlo3 (.roundW .cl) ⟨ltLen hmlt, idx hxy, by kernel_rfl, mixed, by kernel_rfl, idx hs, by kernel_rfl, (m + 1, decide (y > s.sLo)), hI2, mu1 hmlt,
            Wk.le (St.le.of ⟨by kernel_rfl, rfl, by kernel_rfl, rfl, by kernel_rfl, rfl, by kernel_rfl, rfl, by kernel_rfl, rfl, by kernel_rfl, rfl, by kernel_rfl, rfl, by kernel_rfl, rfl, by kernel_rfl, rfl, by kernel_rfl, rfl, by kernel_rfl, rfl, Eq.trans (by kernel_rfl) em, rfl, trivial⟩ ⟨by kernel_rfl, (by decide : (0 : Nat) < 1), rfl, trivial⟩) hlo31⟩
        · have hI2 : m + 1 ≤ (A.zip B).length ∧ true = anyS B s.sLo (m + 1) := ⟨hmlt, hst.symm⟩
          exact ACode.vcM (.br 97 true <| .cells (cS (x, y)) <| .draw 11 .nil) hn3 hlo3 (.roundW .cl) ⟨ltLen hmlt, idx hxy, by kernel_rfl, mixed, by kernel_rfl, by kernel_rfl, (m + 1, true), hI2, mu1 hmlt,
            Wk.le (St.le.of ⟨by kernel_rfl, rfl, by kernel_rfl, rfl, by kernel_rfl, rfl, by kernel_rfl, rfl, by kernel_rfl, rfl, by kernel_rfl, rfl, by kernel_rfl, rfl, by kernel_rfl, rfl, by kernel_rfl, rfl, by kernel_rfl, rfl, by kernel_rfl, rfl, Eq.trans (by kernel_rfl) em, rfl, trivial⟩ ⟨by kernel_rfl, (by decide : (0 : Nat) < 1), rfl, trivial⟩) hlo31⟩
      · have hme : m = B.length := by omega
        rw [hme] at hL
        rw [← hL] at hsk
        clear hI hL hat
        cases L
        · have hkS : ((k : Int) == S) = false := beq_eq_false_iff_ne.2 fun h => Bool.false_ne_true (hsk.1 h)
          exact ACode.vcM (.br 97 false .nil) hn3 hlo3 (.roundW .cl) ⟨geLen hmlt, _, .refl _, .br 117 false .nil, hkS, k + 1, hlt, mu1 hlt, Wk.le (St.le.of ⟨by kernel_rfl, rfl, by kernel_rfl, rfl, by kernel_rfl, rfl, by kernel_rfl, rfl, by kernel_rfl, rfl, by kernel_rfl, rfl, Eq.trans (by kernel_rfl) ek, rfl, trivial⟩ ⟨by kernel_rfl, (by decide : (0 : Nat) < 1), rfl, trivial⟩) hlo21⟩
        · have h2 := hsk.2 rfl
          have d126 : decide (S < 0) = false := decide_eq_false (by omega)
          have d132 : decide ((k : Int) < S) = false := decide_eq_false (by omega)
          exact ACode.vcM (.br 97 false .nil) hn3 hlo3 (.roundW .cl) ⟨geLen hmlt, _, .refl _, .both 117 (.br 126 false <| .br 132 false .nil) (.br 126 false <| .br 132 false .nil),
            fun _ => ⟨d126, d132, k + 1, hlt, mu1 hlt, Wk.le (St.le.of ⟨by kernel_rfl, rfl, by kernel_rfl, rfl, by kernel_rfl, rfl, by kernel_rfl, rfl, by kernel_rfl, rfl, by kernel_rfl, rfl, Eq.trans (by kernel_rfl) ek, rfl, trivial⟩ ⟨by kernel_rfl, (by decide : (0 : Nat) < 1), rfl, trivial⟩) hlo21⟩,
            fun _ => ⟨d126, d132, k + 1, hlt, mu1 hlt, Wk.le (St.le.of ⟨by kernel_rfl, rfl, by kernel_rfl, rfl, by kernel_rfl, rfl, by kernel_rfl, rfl, by kernel_rfl, rfl, by kernel_rfl, rfl, Eq.trans (by kernel_rfl) ek, rfl, trivial⟩ ⟨by kernel_rfl, (by decide : (0 : Nat) < 1), rfl, trivial⟩) hlo21⟩⟩
    · exact ACode.vcM (.br 83 false .nil) hn2 hlo2 (.roundW .cl) ⟨geLen hlt, _, .refl _, .nil, (), trivial, Wk.le (St.le.of ⟨by kernel_rfl, rfl, by kernel_rfl, rfl, by kernel_rfl, rfl, by kernel_rfl, rfl, by kernel_rfl, rfl, trivial⟩ ⟨by kernel_rfl, (by decide : (0 : Nat) < 1), rfl, trivial⟩) hlo1⟩
  refine ACode.cut 0 (fun _ : Unit => wSt b ws C S [] [] 1) (fun _ => True) .loop hn hlo .ret rfl ?_ fun _ _ => ?_
  · intro g2 hn2 hlo2
    replace hn2 : g2.n = 246 := hn2
    replace hlo2 : g2.low 0 := hlo2
    have hlo21 : g2.low 1 := hlo2.mono (Nat.zero_le _)
    refine acode_whileW (fun k : Nat => wSt b ws C S [(135, .lst 4 (b.cs.map cCh)), (136, .int .i64 ((b.cs.map cCh).length : Int)), (137, .int .i64 k)] [] 1) (fun k => k ≤ b.cs.length) (fun k => b.cs.length - k) 0 (Nat.zero_le _) (Wk.le (St.le.of ⟨by kernel_rfl, rfl, by kernel_rfl, rfl, by kernel_rfl, rfl, by kernel_rfl, rfl, by kernel_rfl, rfl, by kernel_rfl, rfl, by kernel_rfl, rfl, by kernel_rfl, rfl, trivial⟩ ⟨by kernel_rfl, (by decide : (0 : Nat) < 1), rfl, trivial⟩) hlo21) ?_
    intro k hk
    by_cases hlt : k < b.cs.length
    · refine Exists.elim (getE hlt) fun c hc => ?_
      have ek := congrArg (AV.int .i64) (succ64 (k := k) (by omega))
      have hsk := hsc k
      have hat : lateCh true b ws k = anyC b ws k ws.length := by
        unfold lateCh anyC
        rw [List.take_length]
      rw [hat] at hsk
      refine ACode.vcM (.br 138 true <| .cells (cCh c) .loop) hn2 hlo2 (.roundW .cl) ⟨ltLen hlt, idx hc, ?_⟩
      intro g3 hn3 hlo3
      replace hn3 : g3.n = 246 := hn3
      replace hlo3 : g3.low 0 := hlo3
      have hlo31 : g3.low 2 := hlo3.mono (Nat.zero_le _)
      refine acode_whileW (fun q : Nat × Bool => wSt b ws C S [(16, .int .i64 k), (17, .vptr 1 0), (18, .bool q.2), (135, .lst 4 (b.cs.map cCh)), (136, .int .i64 ((b.cs.map cCh).length : Int)), (137, .int .i64 k), (142, encW ws), (143, .int .i64 ((ws.map cWa).length : Int)), (144, .int .i64 q.1)] [(1, .cells (cCh c))] 2) (fun q => q.1 ≤ ws.length ∧ q.2 = anyC b ws k q.1) (fun q => ws.length - q.1) (0, false) ⟨Nat.zero_le _, rfl⟩ (Wk.le (St.le.of ⟨by kernel_rfl, rfl, by kernel_rfl, rfl, by kernel_rfl, rfl, by kernel_rfl, rfl, by kernel_rfl, rfl, by kernel_rfl, rfl, by kernel_rfl, rfl, by kernel_rfl, rfl, by kernel_rfl, rfl, by kernel_rfl, rfl, by kernel_rfl, rfl, by kernel_rfl, rfl, by kernel_rfl, rfl, by kernel_rfl, rfl, trivial⟩ ⟨by kernel_rfl, (by decide : (0 : Nat) < 2), rfl, by kernel_rfl, (by decide : (1 : Nat) < 2), rfl, trivial⟩) hlo31) ?_
      rintro ⟨m, L⟩ hI
      have hm : m ≤ ws.length := hI.1
      have hL : L = anyC b ws k m := hI.2
      by_cases hmlt : m < ws.length
      · refine Exists.elim (getE hmlt) fun p hp => ?_
        have em := congrArg (AV.int .i64) (succ64 (k := m) (by omega))
        have hst := anyC_step (b := b) (k := k) hp
        rw [← hL] at hst
        clear hI hL
        cases L
        · refine (Bool.eq_false_or_eq_true (p.ch == (k : Int))).symm.elim (fun hch => ?_) (fun hch => ?_)
          · rw [hch] at hst
            have hI2 : m + 1 ≤ ws.length ∧ false = anyC b ws k (m + 1) := ⟨hmlt, hst.symm⟩
            exact ACode.vcM (.br 145 true <| .cells (cWa p) <| .draw 25 <| .br 154 false .nil) hn3 hlo3 (.roundW .cl) ⟨ltLen hmlt, idx hp, by kernel_rfl, mixed, by kernel_rfl, hch, by kernel_rfl, (m + 1, false), hI2, mu1 hmlt,
              Wk.le (St.le.of ⟨by kernel_rfl, rfl, by kernel_rfl, rfl, by kernel_rfl, rfl, by kernel_rfl, rfl, by kernel_rfl, rfl, by kernel_rfl, rfl, by kernel_rfl, rfl, by kernel_rfl, rfl, by kernel_rfl, rfl, by kernel_rfl, rfl, by kernel_rfl, rfl, by kernel_rfl, rfl, by kernel_rfl, rfl, Eq.trans (by kernel_rfl) em, rfl, trivial⟩ ⟨by kernel_rfl, (by decide : (0 : Nat) < 2), rfl, by kernel_rfl, (by decide : (1 : Nat) < 2), rfl, trivial⟩) hlo31⟩
          · rw [hch, Bool.true_and, Bool.false_or] at hst
            have hI2 : m + 1 ≤ ws.length ∧ isLateC true b p = anyC b ws k (m + 1) := ⟨hmlt, hst.symm⟩
            have hpm := List.mem_of_getElem? hp
            have vp := vd.w p hpm
            have vk := vd.c k c hc
            have hnz : p.pLo ≠ 0 := by omega
            have hco : chOf b p = c := by
              have h1 := vd.chm hpm
              have h2 : p.ch = (k : Int) := beq_iff_eq.1 hch
              rw [h2, Int.toNat_natCast, hc] at h1
              exact (Option.some.inj h1).symm
            have hcn := cdiv_nn (n := c.way) (k := p.pLo) (by omega) (by omega)
            have hcm := (cdiv_le_iff (n := c.way) (k := p.pLo) (m := 1000) (by omega) (by omega)).2 (by omega)
            have eV : AV.bool (decide (IntKind.i64.wrap (p.tHi + IntKind.i64.wrap ((IntKind.i64.wrap (IntKind.i64.wrap (c.way + p.pLo) - 1)).tdiv p.pLo)) > c.sLo)) = .bool (isLateC true b p) := by
              have w1 : IntKind.i64.wrap (c.way + p.pLo) = c.way + p.pLo := wrap64 (by omega) (by omega)
              have w2 : IntKind.i64.wrap (c.way + p.pLo - 1) = c.way + p.pLo - 1 := wrap64 (by omega) (by omega)
              rw [w1, w2, show (c.way + p.pLo - 1).tdiv p.pLo = cdiv c.way p.pLo from rfl, wrap64 (n := cdiv c.way p.pLo) (by omega) (by omega), wrap64 (by omega) (by omega)]
              unfold isLateC takeV
              rw [hco]; rfl
            exact ACode.vcM (.br 145 true <| .cells (cWa p) <| .draw 25 <| .br 154 true <| .nz .nil) hn3 hlo3 (.roundW .cl) ⟨ltLen hmlt, idx hp, by kernel_rfl, mixed, by kernel_rfl, hch, hnz, by kernel_rfl, (m + 1, isLateC true b p), hI2, mu1 hmlt,
              Wk.le (St.le.of ⟨by kernel_rfl, rfl, by kernel_rfl, rfl, by kernel_rfl, rfl, by kernel_rfl, rfl, by kernel_rfl, rfl, by kernel_rfl, rfl, by kernel_rfl, rfl, Eq.trans (by kernel_rfl) eV, rfl, by kernel_rfl, rfl, by kernel_rfl, rfl, by kernel_rfl, rfl, by kernel_rfl, rfl, by kernel_rfl, rfl, Eq.trans (by kernel_rfl) em, rfl, trivial⟩ ⟨by kernel_rfl, (by decide : (0 : Nat) < 2), rfl, by kernel_rfl, (by decide : (1 : Nat) < 2), rfl, trivial⟩) hlo31⟩
        · have hI2 : m + 1 ≤ ws.length ∧ true = anyC b ws k (m + 1) := ⟨hmlt, hst.symm⟩
          exact ACode.vcM (.br 145 true <| .cells (cWa p) <| .draw 25 .nil) hn3 hlo3 (.roundW .cl) ⟨ltLen hmlt, idx hp, by kernel_rfl, mixed, by kernel_rfl, by kernel_rfl, (m + 1, true), hI2, mu1 hmlt,
            Wk.le (St.le.of ⟨by kernel_rfl, rfl, by kernel_rfl, rfl, by kernel_rfl, rfl, by kernel_rfl, rfl, by kernel_rfl, rfl, by kernel_rfl, rfl, by kernel_rfl, rfl, by kernel_rfl, rfl, by kernel_rfl, rfl, by kernel_rfl, rfl, by kernel_rfl, rfl, by kernel_rfl, rfl, by kernel_rfl, rfl, Eq.trans (by kernel_rfl) em, rfl, trivial⟩ ⟨by kernel_rfl, (by decide : (0 : Nat) < 2), rfl, by kernel_rfl, (by decide : (1 : Nat) < 2), rfl, trivial⟩) hlo31⟩
      · have hme : m = ws.length := by omega
        rw [hme] at hL
        rw [← hL] at hsk
        clear hI hL hat
        cases L
        · have hkS : ((k : Int) == C) = false := beq_eq_false_iff_ne.2 fun h => Bool.false_ne_true (hsk.1 h)
          exact ACode.vcM (.br 145 false .nil) hn3 hlo3 (.roundW .cl) ⟨geLen hmlt, _, .refl _, .br 180 false .nil, hkS, k + 1, hlt, mu1 hlt, Wk.le (St.le.of ⟨by kernel_rfl, rfl, by kernel_rfl, rfl, by kernel_rfl, rfl, by kernel_rfl, rfl, by kernel_rfl, rfl, by kernel_rfl, rfl, by kernel_rfl, rfl, Eq.trans (by kernel_rfl) ek, rfl, trivial⟩ ⟨by kernel_rfl, (by decide : (0 : Nat) < 1), rfl, trivial⟩) hlo21⟩
        · have h2 := hsk.2 rfl
          have d189 : decide (C < 0) = false := decide_eq_false (by omega)
          have d195 : decide ((k : Int) < C) = false := decide_eq_false (by omega)
          exact ACode.vcM (.br 145 false .nil) hn3 hlo3 (.roundW .cl) ⟨geLen hmlt, _, .refl _, .both 180 (.br 189 false <| .br 195 false .nil) (.br 189 false <| .br 195 false .nil),
            fun _ => ⟨d189, d195, k + 1, hlt, mu1 hlt, Wk.le (St.le.of ⟨by kernel_rfl, rfl, by kernel_rfl, rfl, by kernel_rfl, rfl, by kernel_rfl, rfl, by kernel_rfl, rfl, by kernel_rfl, rfl, by kernel_rfl, rfl, Eq.trans (by kernel_rfl) ek, rfl, trivial⟩ ⟨by kernel_rfl, (by decide : (0 : Nat) < 1), rfl, trivial⟩) hlo21⟩,
            fun _ => ⟨d189, d195, k + 1, hlt, mu1 hlt, Wk.le (St.le.of ⟨by kernel_rfl, rfl, by kernel_rfl, rfl, by kernel_rfl, rfl, by kernel_rfl, rfl, by kernel_rfl, rfl, by kernel_rfl, rfl, by kernel_rfl, rfl, Eq.trans (by kernel_rfl) ek, rfl, trivial⟩ ⟨by kernel_rfl, (by decide : (0 : Nat) < 1), rfl, trivial⟩) hlo21⟩⟩
    · exact ACode.vcM (.br 138 false .nil) hn2 hlo2 (.roundW .cl) ⟨geLen hlt, _, .refl _, .nil, (), trivial, Wk.le (St.le.of ⟨by kernel_rfl, rfl, by kernel_rfl, rfl, by kernel_rfl, rfl, by kernel_rfl, rfl, by kernel_rfl, rfl, trivial⟩ ⟨by kernel_rfl, (by decide : (0 : Nat) < 1), rfl, trivial⟩) hlo1⟩
  have a1 := appS0 (h := hget [(3, .cells [])]) (i := 3) (nid := 6) (l := b.ss) rfl (by omega)
  have a2 := appC0 (h := hget [(7, .cells [])]) (i := 7) (nid := 13) (l := b.cs) rfl (by omega)
  refine ACode.cut 0 (fun _ : Unit => wSt b ws C S [(21, .vptr 15 0)] [(6, .cells (fl cSt b.ss)), (13, .cells (fl cCh b.cs)), (15, .cells [.rsl 6 0 b.ss.length 6, .rsl 13 0 b.cs.length 4])] 17) (fun _ => True)
    (.inl Tryd.f15 <| .draw 7 <| .val 6 (.rsl 6 0 b.ss.length 6) [(3, none), (6, some (.cells (fl cSt b.ss)))] <| .val 10 (.rsl 13 0 b.cs.length 4) [(7, none), (13, some (.cells (fl cCh b.cs)))] .nil) hn hlo .ret rfl
    ⟨Tryd.func15, by kernel_rfl, mixed, by kernel_rfl, Eq.trans (by kernel_rfl) a1, by kernel_rfl, Eq.trans (by kernel_rfl) a2, (), trivial, Wk.le (St.le.of ⟨by kernel_rfl, rfl, by kernel_rfl, rfl, by kernel_rfl, rfl, by kernel_rfl, rfl, by kernel_rfl, rfl, by kernel_rfl, rfl, trivial⟩ ⟨by kernel_rfl, (by decide : (0 : Nat) < 17), rfl, by kernel_rfl, (by decide : (6 : Nat) < 17), okSt _ _, by kernel_rfl, (by decide : (13 : Nat) < 17), okCh _ _, by kernel_rfl, (by decide : (15 : Nat) < 17), rfl, trivial⟩) (hlo.mono (Nat.zero_le _))⟩ fun _ _ => ?_
  have hCx : decide (C ≥ 0) = true → (aindexAddr Tryd.prog (hget []) 23 (.rsl 13 0 b.cs.length 4) (.int .i64 C)).map (fun v => (⟨v, []⟩ : Out)) = some ⟨.vptr 13 (C.toNat * 4), []⟩ ∧ aStore Tryd.prog (hget [(13, .cells (fl cCh b.cs))]) 28 (.vptr 13 (C.toNat * 4 + 2)) (.agg [.int .i64 36000, .int .i64 36000]) = some ⟨.undef, [(13, some (.cells (fl cCh (clrC1 b.cs C))))]⟩ := fun h => by
    have h0 := of_decide_eq_true h
    have hl : C.toNat < b.cs.length := by omega
    obtain ⟨x, hx⟩ := getE hl
    refine ⟨ixCh (by omega) hl, ?_⟩
    have e : clrC1 b.cs C = b.cs.set C.toNat (clrC x) := by unfold clrC1; rw [if_pos h0, modify_set hx]
    rw [e]
    exact stFlS (enc := cCh) (n := 4) (j := 2) (fun _ => rfl) rfl hx (by decide) rfl rfl
  have hC0 : decide (C ≥ 0) = false → some (AObj.cells (fl cCh b.cs)) = some (.cells (fl cCh (clrC1 b.cs C))) := fun h => by
    unfold clrC1; rw [if_neg (of_decide_eq_false h)]
  have hSx : decide (S ≥ 0) = true → (aindexAddr Tryd.prog (hget []) 22 (.rsl 6 0 b.ss.length 6) (.int .i64 S)).map (fun v => (⟨v, []⟩ : Out)) = some ⟨.vptr 6 (S.toNat * 6), []⟩ ∧ aStore Tryd.prog (hget [(6, .cells (fl cSt b.ss))]) 28 (.vptr 6 (S.toNat * 6 + 4)) (.agg [.int .i64 36000, .int .i64 36000]) = some ⟨.undef, [(6, some (.cells (fl cSt (clrS1 b.ss S))))]⟩ := fun h => by
    have h0 := of_decide_eq_true h
    have hl : S.toNat < b.ss.length := by omega
    obtain ⟨x, hx⟩ := getE hl
    refine ⟨ixSt (by omega) hl, ?_⟩
    have e : clrS1 b.ss S = b.ss.set S.toNat (clrS x) := by unfold clrS1; rw [if_pos h0, modify_set hx]
    rw [e]
    exact stFlS (enc := cSt) (n := 6) (j := 4) (fun _ => rfl) rfl hx (by decide) rfl rfl
  have hS0 : decide (S ≥ 0) = false → some (AObj.cells (fl cSt b.ss)) = some (.cells (fl cSt (clrS1 b.ss S))) := fun h => by
    unfold clrS1; rw [if_neg (of_decide_eq_false h)]
  refine ACode.cut 0 (fun _ : Unit => wSt b ws C S [(21, .vptr 15 0)] [(6, .cells (fl cSt b.ss)), (13, .cells (fl cCh (clrC1 b.cs C))), (15, .cells [.rsl 6 0 b.ss.length 6, .rsl 13 0 b.cs.length 4])] 17) (fun _ => True)
    (.both 200 (.draw 4 <| .call (.agg [.int .i64 36000, .int .i64 36000]) <| .val 205 (.vptr 13 (C.toNat * 4)) [] <| .val 1 .undef [(13, some (.cells (fl cCh (clrC1 b.cs C))))] .nil) .nil) hn hlo .ret rfl
    ⟨fun e => ⟨by kernel_rfl, mixed, by kernel_rfl, spanE_spec 36000 36000, by kernel_rfl, Eq.trans (by kernel_rfl) (hCx e).1, Eq.trans (by kernel_rfl) (hCx e).2, (), trivial, Wk.le (St.le.of ⟨by kernel_rfl, rfl, by kernel_rfl, rfl, by kernel_rfl, rfl, by kernel_rfl, rfl, by kernel_rfl, rfl, by kernel_rfl, rfl, trivial⟩ ⟨by kernel_rfl, (by decide : (0 : Nat) < 17), rfl, by kernel_rfl, (by decide : (6 : Nat) < 17), okSt _ _, by kernel_rfl, (by decide : (13 : Nat) < 17), okCh _ _, by kernel_rfl, (by decide : (15 : Nat) < 17), rfl, trivial⟩) (hlo.mono (Nat.zero_le _))⟩,
     fun e => ⟨(), trivial, Wk.le (St.le.of ⟨by kernel_rfl, rfl, by kernel_rfl, rfl, by kernel_rfl, rfl, by kernel_rfl, rfl, by kernel_rfl, rfl, by kernel_rfl, rfl, trivial⟩ ⟨by kernel_rfl, (by decide : (0 : Nat) < 17), rfl, by kernel_rfl, (by decide : (6 : Nat) < 17), okSt _ _, Eq.trans (by kernel_rfl) (hC0 e), (by decide : (13 : Nat) < 17), okCh _ _, by kernel_rfl, (by decide : (15 : Nat) < 17), rfl, trivial⟩) (hlo.mono (Nat.zero_le _))⟩⟩ fun _ _ => ?_
  refine ACode.cut 0 (fun _ : Unit => wSt b ws C S [(21, .vptr 15 0)] [(6, .cells (fl cSt (clrS1 b.ss S))), (13, .cells (fl cCh (clrC1 b.cs C))), (15, .cells [.rsl 6 0 b.ss.length 6, .rsl 13 0 b.cs.length 4])] 17) (fun _ => True)
    (.both 208 (.draw 4 <| .call (.agg [.int .i64 36000, .int .i64 36000]) <| .val 213 (.vptr 6 (S.toNat * 6)) [] <| .val 1 .undef [(6, some (.cells (fl cSt (clrS1 b.ss S))))] .nil) .nil) hn hlo .ret rfl
    ⟨fun e => ⟨by kernel_rfl, mixed, by kernel_rfl, spanE_spec 36000 36000, by kernel_rfl, Eq.trans (by kernel_rfl) (hSx e).1, Eq.trans (by kernel_rfl) (hSx e).2, (), trivial, Wk.le (St.le.of ⟨by kernel_rfl, rfl, by kernel_rfl, rfl, by kernel_rfl, rfl, by kernel_rfl, rfl, by kernel_rfl, rfl, by kernel_rfl, rfl, trivial⟩ ⟨by kernel_rfl, (by decide : (0 : Nat) < 17), rfl, by kernel_rfl, (by decide : (6 : Nat) < 17), okSt _ _, by kernel_rfl, (by decide : (13 : Nat) < 17), okCh _ _, by kernel_rfl, (by decide : (15 : Nat) < 17), rfl, trivial⟩) (hlo.mono (Nat.zero_le _))⟩,
     fun e => ⟨(), trivial, Wk.le (St.le.of ⟨by kernel_rfl, rfl, by kernel_rfl, rfl, by kernel_rfl, rfl, by kernel_rfl, rfl, by kernel_rfl, rfl, by kernel_rfl, rfl, trivial⟩ ⟨by kernel_rfl, (by decide : (0 : Nat) < 17), rfl, Eq.trans (by kernel_rfl) (hS0 e), (by decide : (6 : Nat) < 17), okSt _ _, by kernel_rfl, (by decide : (13 : Nat) < 17), okCh _ _, by kernel_rfl, (by decide : (15 : Nat) < 17), rfl, trivial⟩) (hlo.mono (Nat.zero_le _))⟩⟩ fun _ _ => ?_
  have hT := thawBdg1 (h := hget [(0, .cells (cB b)), (6, .cells (fl cSt (clrS1 b.ss S))), (13, .cells (fl cCh (clrC1 b.cs C))), (15, .cells [.rsl 6 0 b.ss.length 6, .rsl 13 0 b.cs.length 4])]) (i := 6) (j := 13) (ss := clrS1 b.ss S) (cs := clrC1 b.cs C) (clrS1_len b.ss S).symm (clrC1_len b.cs C).symm rfl rfl ws
  have hD : decide (D < 0) = false → decide (D > C) = true := fun h => decide_eq_true (by have := of_decide_eq_false h; omega)
  have hT2 : decide (T < 0) = false → decide (T > S) = true := fun h => decide_eq_true (by have := of_decide_eq_false h; omega)
  exact ACode.vcM (.lent (.tup [.int .u8 v3, .int .i64 D, .int .i64 T, .int .i64 0]) [6, 13] <| .both 231 (.both 240 .nil .nil) (.br 237 true <| .both 240 .nil .nil)) hn hlo .ret
    ⟨⟨_, Eq.trans (by kernel_rfl) hT, .inl ⟨s3, .inr rfl⟩⟩, fun _ => ⟨fun _ => ⟨trivial, rfl⟩, fun e2 => rB (hT2 e2)⟩, fun e => ⟨hD e, fun _ => ⟨trivial, rfl⟩, fun e2 => rB (hT2 e2)⟩⟩
end Go.Proofs.YtiggnliiigcjaaaDoor
