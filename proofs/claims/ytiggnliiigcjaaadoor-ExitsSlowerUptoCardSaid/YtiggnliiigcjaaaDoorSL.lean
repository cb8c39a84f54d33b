/-
  THE LAW OF WHO GOES SLOWER (people two millions at most; Out and Safe are lent memory of one's own).
-/
import Derived.Test.YtiggnliiigcjaaaDoorLT
namespace Go.Proofs.YtiggnliiigcjaaaDoor
open Go Go.Am
set_option maxRecDepth 100000
set_option maxHeartbeats 4000000
def idxTo {α : Type} (f : Nat → α → α) (l : List α) (k : Nat) : List α := l.mapIdx fun i a => if i < k then f i a else a
theorem idxTo_zero {α : Type} (f : Nat → α → α) (l : List α) : idxTo f l 0 = l := by
  apply List.ext_getElem?
  intro i
  unfold idxTo
  rw [List.getElem?_mapIdx]
  cases l[i]? <;> simp
theorem idxTo_all {α : Type} (f : Nat → α → α) (l : List α) : idxTo f l l.length = l.mapIdx f := by
  apply List.ext_getElem?
  intro i
  unfold idxTo
  rw [List.getElem?_mapIdx, List.getElem?_mapIdx]
  cases h : l[i]? with
  | none => rfl
  | some a =>
    have hi : i < l.length := by
      rcases Nat.lt_or_ge i l.length with h' | h'
      · exact h'
      · rw [List.getElem?_eq_none h'] at h; cases h
    simp [hi]
theorem idxTo_len {α : Type} (f : Nat → α → α) (l : List α) (k : Nat) : (idxTo f l k).length = l.length := List.length_mapIdx ..
theorem idxTo_get {α : Type} {f : Nat → α → α} {l : List α} {k : Nat} {a : α} (h : l[k]? = some a) : (idxTo f l k)[k]? = some a := by
  unfold idxTo
  rw [List.getElem?_mapIdx, h]
  simp
theorem idxTo_set {α : Type} {f : Nat → α → α} {l : List α} {k : Nat} {a : α} (h : l[k]? = some a) : (idxTo f l k).set k (f k a) = idxTo f l (k + 1) := by
  apply List.ext_getElem?
  intro i
  rw [List.getElem?_set, idxTo_len]
  have hl : k < l.length := by
    rcases Nat.lt_or_ge k l.length with h' | h'
    · exact h'
    · rw [List.getElem?_eq_none h'] at h; cases h
  unfold idxTo
  rw [List.getElem?_mapIdx, List.getElem?_mapIdx]
  by_cases e : k = i
  · subst e
    rw [if_pos rfl, if_pos hl, h]; simp
  · rw [if_neg e]
    cases h2 : l[i]? with
    | none => rfl
    | some c =>
      by_cases h3 : i < k
      · simp [h3, show i < k + 1 by omega]
      · simp [h3, show ¬ i < k + 1 by omega]
theorem appWM {h : Nat → Option AObj} {i nid : Nat} {l : List Wal} (h0 : h i = some (.cells [])) (hn : l.length ≤ 2000000) :
    aAppend Tryd.prog h nid 26 26 (.rsl i 0 0 5) (encW l) = some ⟨.rsl nid 0 l.length 5, [(i, none), (nid, some (.cells (fl cWa l)))]⟩ := by
  unfold aAppend
  simp only [h0]
  rw [if_neg (by decide)]
  simp only [aAppend0, ty26, ty30, srcW, h0]
  rw [if_pos ⟨by decide, by decide, rfl⟩]
  rw [if_pos ⟨trivial, rfl, fl_cellB (fun _ => rfl) _, by omega⟩, Nat.zero_add, List.nil_append]
theorem appWM1 {h : Nat → Option AObj} {i j nid : Nat} {d : List Wal} {x : Wal} (h0 : h i = some (.cells (fl cWa d))) (h1 : h j = some (.cells (cWa x))) (hn : d.length ≤ 2000000) :
    aAppend Tryd.prog h nid 26 26 (.rsl i 0 d.length 5) (.rsl j 0 1 5) = some ⟨.rsl nid 0 (d.length + 1) 5, [(i, none), (nid, some (.cells (fl cWa (d ++ [x]))))]⟩ := by
  have e : fl cWa (d ++ [x]) = fl cWa d ++ cWa x := by rw [flW_app]; simp [fl]
  rw [app_exact h0 (by rw [flW_len]; exact Nat.lt_irrefl _)]
  simp only [aAppend0, ty26, ty30, srcCells, h0, h1]
  simp [flW_len, e, cellB, cWa]
  omega
theorem bdg_okS {b : Bdg} {ws : List Wal} (vd : Vld b ws) : bdgB b = true := by
  unfold bdgB stasB chasB
  have h1 := vd.sl
  have h2 := vd.cl
  simp only [Bool.and_eq_true]
  refine ⟨⟨decide_eq_true (by omega), allI_iff.2 fun i s hi => ?_⟩, decide_eq_true (by omega), List.all_eq_true.2 fun c hc => ?_⟩
  · have := vd.s i s hi
    simp only [staB, nextB, Bool.and_eq_true, Bool.or_eq_true, spB_iff, inB, decide_eq_true_eq, Bool.not_eq_true', bne_eq_false_iff_eq]
    exact ⟨this.1, this.2.1, this.2.2.1, this.2.2.2⟩
  · obtain ⟨i, hi⟩ := List.getElem?_of_mem hc
    have := vd.c i c hi
    simp only [chaB, Bool.and_eq_true, spB_iff, inB, decide_eq_true_eq]
    exact ⟨this.1, this.2.1, this.2.2⟩
def uSt (b : Bdg) (ws aw : List Wal) (l : List Int) (ss : List Sta) (vs : List Wal) (E : Env) (X : AHeap) (nx : Nat) : St :=
  ⟨[(1, encW ws), (2, .lst 1 (l.map encU)), (4, .vptr 0 0), (9, .bool true), (10, .rsl 9 0 (ws.length + 1) 5), (11, .vptr 26 0), (12, .rsl 25 0 ws.length 5)] ++ E,
    [(0, .cells (cB b)), (9, .cells (fl cWa aw)), (15, .cells (fl cSt ss)), (22, .cells (fl cCh b.cs)), (25, .cells (fl cWa vs)), (26, .cells [.rsl 15 0 b.ss.length 6, .rsl 22 0 b.cs.length 4])] ++ X, nx⟩
theorem law_slower (b : Bdg) (ws : List Wal) (l : List Int) (hl : ∀ x ∈ l, 0 ≤ x ∧ x < 4294967296) (more : Wal) (hbig : ws.length ≤ 2000000) : APure Tryd.prog 10 [encB b, encW ws, .lst 1 (l.map encU), .agg (cWa more)] (.bool true) := by
  have sA := alive_spec
  have sR := ready_spec b ws
  have sL := ready_spec b (ws ++ [more])
  have a1 := appWM (h := hget [(2, .cells [])]) (i := 2) (nid := 4) (l := ws) rfl hbig
  have a2 := appWM1 (h := hget [(4, .cells (fl cWa ws)), (6, .cells (cWa more))]) (i := 4) (j := 6) (nid := 9) (d := ws) (x := more) rfl rfl hbig
  have hlen : (ws ++ [more]).length = ws.length + 1 := by simp
  have hT : thawL (hget [(0, .cells (cB b)), (1, .cells (cWa more)), (6, .cells (cWa more)), (9, .cells (fl cWa (ws ++ [more])))]) [encB b, .rsl 9 0 (ws.length + 1) 5] = some ([encB b, encW (ws ++ [more])], [9]) := by rw [← hlen]; exact thawBW b rfl
  cases h1 : readyB b ws
  · rw [h1] at sR
    exact APure.vcM Tryd.func10 (.call (.bool true) <| .draw 5 <| .val 36 (.rsl 4 0 ws.length 5) [(2, none), (4, some (.cells (fl cWa ws)))] <| .val 39 (.rsl 9 0 (ws.length + 1) 5) [(4, none), (9, some (.cells (fl cWa (ws ++ [more]))))] <| .call (.bool false) .nil) rfl rfl ⟨sA, by kernel_rfl, mixed, by kernel_rfl, Eq.trans (by kernel_rfl) a1, by kernel_rfl, Eq.trans (by kernel_rfl) a2, sR, [], by kernel_rfl⟩
  rw [h1] at sR
  cases h2 : readyB b (ws ++ [more])
  · rw [h2] at sL
    exact APure.vcM Tryd.func10 (.call (.bool true) <| .draw 5 <| .val 36 (.rsl 4 0 ws.length 5) [(2, none), (4, some (.cells (fl cWa ws)))] <| .val 39 (.rsl 9 0 (ws.length + 1) 5) [(4, none), (9, some (.cells (fl cWa (ws ++ [more]))))] <| .call (.bool true) <| .lent (.bool false) [9] .nil) rfl rfl ⟨sA, by kernel_rfl, mixed, by kernel_rfl, Eq.trans (by kernel_rfl) a1, by kernel_rfl, Eq.trans (by kernel_rfl) a2, sR, ⟨_, Eq.trans (by kernel_rfl) hT, .inl ⟨sL, .inr rfl⟩⟩, [], by kernel_rfl⟩
  rw [h2] at sL
  have b1 := (ready_1 h1).1
  have b2 := (ready_1 h1).2
  have b3 := (ready_1 h2).2
  have vd := vld_of b1 b2
  have va := vld_of b1 b3
  have hsl := vd.sl
  have hcl := vd.cl
  have hwl := vd.wl
  have a3 := appS0 (h := hget [(12, .cells [])]) (i := 12) (nid := 15) (l := b.ss) rfl (by omega)
  have a4 := appC0 (h := hget [(16, .cells [])]) (i := 16) (nid := 22) (l := b.cs) rfl (by omega)
  have a5 := appW0 (h := hget [(24, .cells [])]) (i := 24) (nid := 25) (l := ws) rfl (by omega)
  refine APure.intro Tryd.func10 rfl rfl rfl fun g hn hlo => ?_
  replace hn : g.n = 239 := hn
  replace hlo : g.low 0 := hlo
  have hlo28 : g.low 28 := hlo.mono (Nat.zero_le _)
  refine ACode.cut 4 (fun _ : Unit => uSt b ws (ws ++ [more]) l b.ss ws [] [] 28) (fun _ => True)
    (.call (.bool true) <| .draw 5 <| .val 36 (.rsl 4 0 ws.length 5) [(2, none), (4, some (.cells (fl cWa ws)))] <| .val 39 (.rsl 9 0 (ws.length + 1) 5) [(4, none), (9, some (.cells (fl cWa (ws ++ [more]))))] <| .call (.bool true) <| .lent (.bool true) [9] <| .inl Tryd.f15 <| .draw 7 <| .val 6 (.rsl 15 0 b.ss.length 6) [(12, none), (15, some (.cells (fl cSt b.ss)))] <| .val 10 (.rsl 22 0 b.cs.length 4) [(16, none), (22, some (.cells (fl cCh b.cs)))] <| .val 59 (.rsl 25 0 ws.length 5) [(24, none), (25, some (.cells (fl cWa ws)))] .nil) hn hlo .ret rfl
    ⟨sA, by kernel_rfl, mixed, by kernel_rfl, Eq.trans (by kernel_rfl) a1, by kernel_rfl, Eq.trans (by kernel_rfl) a2, sR, ⟨_, Eq.trans (by kernel_rfl) hT, .inl ⟨sL, .inr rfl⟩⟩, Tryd.func15, by kernel_rfl, mixed, by kernel_rfl, Eq.trans (by kernel_rfl) a3, by kernel_rfl, Eq.trans (by kernel_rfl) a4, Eq.trans (by kernel_rfl) a5, (), trivial,
      Wk.le (St.le.of ⟨by kernel_rfl, rfl, by kernel_rfl, rfl, by kernel_rfl, rfl, by kernel_rfl, rfl, by kernel_rfl, rfl, by kernel_rfl, rfl, by kernel_rfl, rfl, trivial⟩ ⟨by kernel_rfl, (by decide : (0 : Nat) < 28), rfl, by kernel_rfl, (by decide : (9 : Nat) < 28), okWa _ _, by kernel_rfl, (by decide : (15 : Nat) < 28), okSt _ _, by kernel_rfl, (by decide : (22 : Nat) < 28), okCh _ _, by kernel_rfl, (by decide : (25 : Nat) < 28), okWa _ _, by kernel_rfl, (by decide : (26 : Nat) < 28), rfl, trivial⟩) hlo28⟩ fun _ _ => ?_
  refine ACode.cut 0 (fun _ : Unit => uSt b ws (ws ++ [more]) l (b.ss.mapIdx (slS l)) ws [] [] 28) (fun _ => True) .loop hn hlo .ret rfl ?_ fun _ _ => ?_
  · have z0 : some (AObj.cells (fl cSt b.ss)) = some (.cells (fl cSt (idxTo (slS l) b.ss 0))) := by rw [idxTo_zero]
    have z1 : some (AObj.cells (fl cSt (idxTo (slS l) b.ss b.ss.length))) = some (.cells (fl cSt (b.ss.mapIdx (slS l)))) := by rw [idxTo_all]
    intro g2 hn2 hlo2
    replace hn2 : g2.n = 239 := hn2
    replace hlo2 : g2.low 0 := hlo2
    have hlo228 : g2.low 28 := hlo2.mono (Nat.zero_le _)
    refine acode_whileW (fun k : Nat => uSt b ws (ws ++ [more]) l (idxTo (slS l) b.ss k) ws [(62, .int .i64 b.ss.length), (63, .int .i64 k)] [] 28) (fun k => k ≤ b.ss.length) (fun k => b.ss.length - k) 0 (Nat.zero_le _) (Wk.le (St.le.of ⟨by kernel_rfl, rfl, by kernel_rfl, rfl, by kernel_rfl, rfl, by kernel_rfl, rfl, by kernel_rfl, rfl, by kernel_rfl, rfl, by kernel_rfl, rfl, by kernel_rfl, rfl, by kernel_rfl, rfl, trivial⟩ ⟨by kernel_rfl, (by decide : (0 : Nat) < 28), rfl, by kernel_rfl, (by decide : (9 : Nat) < 28), okWa _ _, Eq.trans (by kernel_rfl) z0, (by decide : (15 : Nat) < 28), okSt _ _, by kernel_rfl, (by decide : (22 : Nat) < 28), okCh _ _, by kernel_rfl, (by decide : (25 : Nat) < 28), okWa _ _, by kernel_rfl, (by decide : (26 : Nat) < 28), rfl, trivial⟩) hlo228) ?_
    intro k hk
    by_cases hlt : k < b.ss.length
    · refine Exists.elim (getE hlt) fun s hs => ?_
      have hL := idxTo_get (f := slS l) hs
      have hd : decide ((k : Int) < (b.ss.length : Int)) = true := decide_eq_true (Int.ofNat_lt.2 hlt)
      have ek := congrArg (AV.int .i64) (succ64 (k := k) (by omega))
      have hmu : b.ss.length - (k + 1) < b.ss.length - k := by omega
      have vs := vd.s k s hs
      have hc := choose_spec l hl k
      have ht := tmod_rng (chV_rng hl k).1 (by decide : (0 : Int) < 5)
      have ix := ixSt (h := hget []) (id := 15) (N := b.ss.length) (i := (k : Int)) rfl hlt
      have l1 := ldFl (enc := cSt) (n := 6) (j := 1) (o := k * 6 + 1) (fun _ => rfl) (h := hget [(15, .cells (fl cSt (idxTo (slS l) b.ss k)))]) (id := 15) rfl hL rfl rfl
      have em : some (⟨.int .i64 (if 60 < IntKind.i64.wrap (s.gap + (chV l k).tmod 5) then 60 else IntKind.i64.wrap (s.gap + (chV l k).tmod 5)), []⟩ : Out) = some ⟨.int .i64 (min (s.gap + (chV l k).tmod 5) 60), []⟩ := by
        rw [wrap64 (by omega) (by omega), Int.min_def]; split <;> split <;> first | rfl | (congr 3; omega)
      have s1 := stFl (enc := cSt) (n := 6) (j := 1) (o := k * 6 + 1) (a' := slS l k s) (x := min (s.gap + (chV l k).tmod 5) 60) (fun _ => rfl) (h := hget [(15, .cells (fl cSt (idxTo (slS l) b.ss k)))]) (id := 15) rfl hL (by decide) rfl rfl
      rw [idxTo_set hs] at s1
      generalize idxTo (slS l) b.ss k = L0 at *
      exact ACode.vcM (.br 64 true <| .draw 15 <| .val 72 (.vptr 15 (k * 6)) [] <| .val 74 (.int .i64 s.gap) [] <| .call (.int .i64 (chV l k)) <| .val 80 (.int .i64 (min (s.gap + (chV l k).tmod 5) 60)) [] <| .val 81 (.vptr 15 (k * 6)) [] <| .val 1 .undef [(15, some (.cells (fl cSt (idxTo (slS l) b.ss (k + 1)))))] .nil) hn2 hlo2 (.roundW .cl)
        ⟨hd, by kernel_rfl, mixed, by kernel_rfl, Eq.trans (by kernel_rfl) ix, Eq.trans (by kernel_rfl) l1, hc, Eq.trans (by kernel_rfl) em, by kernel_rfl, Eq.trans (by kernel_rfl) ix, Eq.trans (by kernel_rfl) s1, k + 1, hlt, hmu,
          Wk.le (St.le.of ⟨by kernel_rfl, rfl, by kernel_rfl, rfl, by kernel_rfl, rfl, by kernel_rfl, rfl, by kernel_rfl, rfl, by kernel_rfl, rfl, by kernel_rfl, rfl, by kernel_rfl, rfl, Eq.trans (by kernel_rfl) ek, rfl, trivial⟩ ⟨by kernel_rfl, (by decide : (0 : Nat) < 28), rfl, by kernel_rfl, (by decide : (9 : Nat) < 28), okWa _ _, by kernel_rfl, (by decide : (15 : Nat) < 28), okSt _ _, by kernel_rfl, (by decide : (22 : Nat) < 28), okCh _ _, by kernel_rfl, (by decide : (25 : Nat) < 28), okWa _ _, by kernel_rfl, (by decide : (26 : Nat) < 28), rfl, trivial⟩) hlo228⟩
    · have hkn : k = b.ss.length := Nat.le_antisymm hk (Nat.not_lt.1 hlt)
      subst hkn
      have hd : decide ((b.ss.length : Int) < (b.ss.length : Int)) = false := decide_eq_false (Int.lt_irrefl _)
      exact ACode.vcM (.br 64 false .nil) hn2 hlo2 (.roundW .cl) ⟨hd, _, .refl _, .nil, (), trivial, Wk.le (St.le.of ⟨by kernel_rfl, rfl, by kernel_rfl, rfl, by kernel_rfl, rfl, by kernel_rfl, rfl, by kernel_rfl, rfl, by kernel_rfl, rfl, by kernel_rfl, rfl, trivial⟩ ⟨by kernel_rfl, (by decide : (0 : Nat) < 28), rfl, by kernel_rfl, (by decide : (9 : Nat) < 28), okWa _ _, Eq.trans (by kernel_rfl) z1, (by decide : (15 : Nat) < 28), okSt _ _, by kernel_rfl, (by decide : (22 : Nat) < 28), okCh _ _, by kernel_rfl, (by decide : (25 : Nat) < 28), okWa _ _, by kernel_rfl, (by decide : (26 : Nat) < 28), rfl, trivial⟩) hlo28⟩
  refine ACode.cut 0 (fun _ : Unit => uSt b ws (ws ++ [more]) l (b.ss.mapIdx (slS l)) (ws.mapIdx (slP l)) [] [] 28) (fun _ => True) .loop hn hlo .ret rfl ?_ fun _ _ => ?_
  · have z0 : some (AObj.cells (fl cWa ws)) = some (.cells (fl cWa (idxTo (slP l) ws 0))) := by rw [idxTo_zero]
    have z1 : some (AObj.cells (fl cWa (idxTo (slP l) ws ws.length))) = some (.cells (fl cWa (ws.mapIdx (slP l)))) := by rw [idxTo_all]
    intro g2 hn2 hlo2
    replace hn2 : g2.n = 239 := hn2
    replace hlo2 : g2.low 0 := hlo2
    have hlo228 : g2.low 28 := hlo2.mono (Nat.zero_le _)
    refine acode_whileW (fun k : Nat => uSt b ws (ws ++ [more]) l (b.ss.mapIdx (slS l)) (idxTo (slP l) ws k) [(85, .int .i64 ws.length), (86, .int .i64 k)] [] 28) (fun k => k ≤ ws.length) (fun k => ws.length - k) 0 (Nat.zero_le _) (Wk.le (St.le.of ⟨by kernel_rfl, rfl, by kernel_rfl, rfl, by kernel_rfl, rfl, by kernel_rfl, rfl, by kernel_rfl, rfl, by kernel_rfl, rfl, by kernel_rfl, rfl, by kernel_rfl, rfl, by kernel_rfl, rfl, trivial⟩ ⟨by kernel_rfl, (by decide : (0 : Nat) < 28), rfl, by kernel_rfl, (by decide : (9 : Nat) < 28), okWa _ _, by kernel_rfl, (by decide : (15 : Nat) < 28), okSt _ _, by kernel_rfl, (by decide : (22 : Nat) < 28), okCh _ _, Eq.trans (by kernel_rfl) z0, (by decide : (25 : Nat) < 28), okWa _ _, by kernel_rfl, (by decide : (26 : Nat) < 28), rfl, trivial⟩) hlo228) ?_
    intro k hk
    by_cases hlt : k < ws.length
    · refine Exists.elim (getE hlt) fun w hw => ?_
      have hL := idxTo_get (f := slP l) hw
      have hLl := idxTo_len (slP l) ws k
      have hd : decide ((k : Int) < (ws.length : Int)) = true := decide_eq_true (Int.ofNat_lt.2 hlt)
      have ek := congrArg (AV.int .i64) (succ64 (k := k) (by omega))
      have hmu : ws.length - (k + 1) < ws.length - k := by omega
      have vw := (vd.w w (List.mem_of_getElem? hw)).2.1
      have hc1 : APure Tryd.prog 35 [.lst 1 (l.map encU), .int .i64 (IntKind.i64.wrap (6 + IntKind.i64.wrap (2 * (k : Int))))] (.int .i64 (chV l (6 + 2 * k))) := by
        have e : IntKind.i64.wrap (6 + IntKind.i64.wrap (2 * (k : Int))) = ((6 + 2 * k : Nat) : Int) := by rw [wrap64 (n := 2 * (k : Int)) (by omega) (by omega), wrap64 (by omega) (by omega)]; omega
        rw [e]; exact choose_spec l hl _
      have hc2 : APure Tryd.prog 35 [.lst 1 (l.map encU), .int .i64 (IntKind.i64.wrap (7 + IntKind.i64.wrap (2 * (k : Int))))] (.int .i64 (chV l (7 + 2 * k))) := by
        have e : IntKind.i64.wrap (7 + IntKind.i64.wrap (2 * (k : Int))) = ((7 + 2 * k : Nat) : Int) := by rw [wrap64 (n := 2 * (k : Int)) (by omega) (by omega), wrap64 (by omega) (by omega)]; omega
        rw [e]; exact choose_spec l hl _
      have t1 := tmod_rng (chV_rng hl (6 + 2 * k)).1 (by decide : (0 : Int) < 200)
      have t2 := tmod_rng (chV_rng hl (7 + 2 * k)).1 (by decide : (0 : Int) < 200)
      have ix := ixWa (h := hget []) (id := 25) (N := ws.length) (i := (k : Int)) rfl hlt
      have l1 := ldFl (enc := cWa) (n := 5) (j := 1) (o := k * 5 + 1 + 0) (fun _ => rfl) (h := hget [(25, .cells (fl cWa (idxTo (slP l) ws k)))]) (id := 25) rfl hL rfl rfl
      have em1 : some (⟨.int .i64 (if 100 > IntKind.i64.wrap (w.pLo - (chV l (6 + 2 * k)).tmod 200) then 100 else IntKind.i64.wrap (w.pLo - (chV l (6 + 2 * k)).tmod 200)), []⟩ : Out) = some ⟨.int .i64 (slLo l k w), []⟩ := by
        unfold slLo
        rw [wrap64 (by omega) (by omega), Int.max_def]; split <;> split <;> first | rfl | (congr 3; omega)
      have s1 := stFl (enc := cWa) (n := 5) (j := 1) (o := k * 5 + 1 + 0) (a' := ⟨w.ch, slLo l k w, w.pHi, w.tLo, w.tHi⟩) (x := slLo l k w) (fun _ => rfl) (h := hget [(25, .cells (fl cWa (idxTo (slP l) ws k)))]) (id := 25) rfl hL (by decide) rfl rfl
      have hL1 : ((idxTo (slP l) ws k).set k ⟨w.ch, slLo l k w, w.pHi, w.tLo, w.tHi⟩)[k]? = some ⟨w.ch, slLo l k w, w.pHi, w.tLo, w.tHi⟩ := List.getElem?_set_self (by omega)
      have l2 := ldFl (enc := cWa) (n := 5) (j := 2) (o := k * 5 + 1 + 1) (fun _ => rfl) (h := hget [(25, .cells (fl cWa ((idxTo (slP l) ws k).set k ⟨w.ch, slLo l k w, w.pHi, w.tLo, w.tHi⟩)))]) (id := 25) rfl hL1 rfl rfl
      have l3 := ldFl (enc := cWa) (n := 5) (j := 1) (o := k * 5 + 1 + 0) (fun _ => rfl) (h := hget [(25, .cells (fl cWa ((idxTo (slP l) ws k).set k ⟨w.ch, slLo l k w, w.pHi, w.tLo, w.tHi⟩)))]) (id := 25) rfl hL1 rfl rfl
      have hlo5 : 100 ≤ slLo l k w ∧ slLo l k w ≤ 3000 := by unfold slLo; omega
      have em2 : some (⟨.int .i64 (if slLo l k w > IntKind.i64.wrap (w.pHi - (chV l (7 + 2 * k)).tmod 200) then slLo l k w else IntKind.i64.wrap (w.pHi - (chV l (7 + 2 * k)).tmod 200)), []⟩ : Out) = some ⟨.int .i64 (slP l k w).pHi, []⟩ := by
        rw [wrap64 (by omega) (by omega)]
        show _ = some (⟨.int .i64 (max (w.pHi - (chV l (7 + 2 * k)).tmod 200) (slLo l k w)), []⟩ : Out)
        rw [Int.max_def]; split <;> split <;> first | rfl | (congr 3; omega)
      have s2 := stFl (enc := cWa) (n := 5) (j := 2) (o := k * 5 + 1 + 1) (a' := slP l k w) (x := (slP l k w).pHi) (fun _ => rfl) (h := hget [(25, .cells (fl cWa ((idxTo (slP l) ws k).set k ⟨w.ch, slLo l k w, w.pHi, w.tLo, w.tHi⟩)))]) (id := 25) rfl hL1 (by decide) rfl rfl
      rw [List.set_set, idxTo_set hw] at s2
      generalize (idxTo (slP l) ws k).set k ⟨w.ch, slLo l k w, w.pHi, w.tLo, w.tHi⟩ = L1 at *
      generalize idxTo (slP l) ws k = L0 at *
      generalize (slP l k w).pHi = hi at *
      generalize slLo l k w = lo at *
      exact ACode.vcM (.br 87 true <| .draw 16 <| .val 93 (.vptr 25 (k * 5)) [] <| .val 96 (.int .i64 w.pLo) [] <| .call (.int .i64 (chV l (6 + 2 * k))) <| .val 104 (.int .i64 lo) [] <| .val 105 (.vptr 25 (k * 5)) [] <| .val 1 .undef [(25, some (.cells (fl cWa L1)))] <|
          .draw 22 <| .val 112 (.vptr 25 (k * 5)) [] <| .val 115 (.int .i64 w.pHi) [] <| .call (.int .i64 (chV l (7 + 2 * k))) <| .val 125 (.vptr 25 (k * 5)) [] <| .val 128 (.int .i64 lo) [] <| .val 129 (.int .i64 hi) [] <| .val 130 (.vptr 25 (k * 5)) [] <| .val 1 .undef [(25, some (.cells (fl cWa (idxTo (slP l) ws (k + 1)))))] .nil) hn2 hlo2 (.roundW .cl)
        ⟨hd, by kernel_rfl, mixed, by kernel_rfl, Eq.trans (by kernel_rfl) ix, Eq.trans (by kernel_rfl) l1, hc1, Eq.trans (by kernel_rfl) em1, by kernel_rfl, Eq.trans (by kernel_rfl) ix, Eq.trans (by kernel_rfl) s1,
          by kernel_rfl, mixed, by kernel_rfl, Eq.trans (by kernel_rfl) ix, Eq.trans (by kernel_rfl) l2, hc2, Eq.trans (by kernel_rfl) ix, Eq.trans (by kernel_rfl) l3, Eq.trans (by kernel_rfl) em2, by kernel_rfl, Eq.trans (by kernel_rfl) ix, Eq.trans (by kernel_rfl) s2, k + 1, hlt, hmu,
          Wk.le (St.le.of ⟨by kernel_rfl, rfl, by kernel_rfl, rfl, by kernel_rfl, rfl, by kernel_rfl, rfl, by kernel_rfl, rfl, by kernel_rfl, rfl, by kernel_rfl, rfl, by kernel_rfl, rfl, Eq.trans (by kernel_rfl) ek, rfl, trivial⟩ ⟨by kernel_rfl, (by decide : (0 : Nat) < 28), rfl, by kernel_rfl, (by decide : (9 : Nat) < 28), okWa _ _, by kernel_rfl, (by decide : (15 : Nat) < 28), okSt _ _, by kernel_rfl, (by decide : (22 : Nat) < 28), okCh _ _, by kernel_rfl, (by decide : (25 : Nat) < 28), okWa _ _, by kernel_rfl, (by decide : (26 : Nat) < 28), rfl, trivial⟩) hlo228⟩
    · have hkn : k = ws.length := Nat.le_antisymm hk (Nat.not_lt.1 hlt)
      subst hkn
      have hd : decide ((ws.length : Int) < (ws.length : Int)) = false := decide_eq_false (Int.lt_irrefl _)
      exact ACode.vcM (.br 87 false .nil) hn2 hlo2 (.roundW .cl) ⟨hd, _, .refl _, .nil, (), trivial, Wk.le (St.le.of ⟨by kernel_rfl, rfl, by kernel_rfl, rfl, by kernel_rfl, rfl, by kernel_rfl, rfl, by kernel_rfl, rfl, by kernel_rfl, rfl, by kernel_rfl, rfl, trivial⟩ ⟨by kernel_rfl, (by decide : (0 : Nat) < 28), rfl, by kernel_rfl, (by decide : (9 : Nat) < 28), okWa _ _, by kernel_rfl, (by decide : (15 : Nat) < 28), okSt _ _, by kernel_rfl, (by decide : (22 : Nat) < 28), okCh _ _, Eq.trans (by kernel_rfl) z1, (by decide : (25 : Nat) < 28), okWa _ _, by kernel_rfl, (by decide : (26 : Nat) < 28), rfl, trivial⟩) hlo28⟩
  have vc := vld_sl hl vd
  have o1 := Out_ok b ws b1 b2
  have o2 := Out_ok (swB l b) (swW l ws) (bdg_okS vc) (wals_of_vld vc)
  have o3 := Out_ok b (ws ++ [more]) b1 b3
  have r1 := Safe_ok b ws b1 b2
  have r2 := Safe_ok (swB l b) (swW l ws) (bdg_okS vc) (wals_of_vld vc)
  have r3 := Safe_ok b (ws ++ [more]) b1 b3
  have h5 := sl_is hl vd
  have h6 := slow_all va
  generalize lastV false b ws = p at o1 h5 h6
  generalize lastV true b ws = q at o1 h5 h6
  generalize lastV false (swB l b) (swW l ws) = p2 at o2 h5
  generalize lastV true (swB l b) (swW l ws) = q2 at o2 h5
  generalize lastV false b (ws ++ [more]) = p3 at o3 h6
  generalize lastV true b (ws ++ [more]) = q3 at o3 h6
  generalize safeV b ws = v at r1 h5 h6
  generalize safeV (swB l b) (swW l ws) = v2 at r2 h5
  generalize safeV b (ws ++ [more]) = v3 at r3 h6
  have d1 : decide (p2 ≥ p) = true := decide_eq_true h5.1
  have d2 : decide (q2 ≥ q) = true := decide_eq_true h5.2.1
  have d3 : decide (p3 ≥ p) = true := decide_eq_true h6.1
  have d4 : decide (q3 ≥ q) = true := decide_eq_true h6.2.1
  have d5 : decide (v2.1 ≤ v.1) = true := decide_eq_true h5.2.2
  have d6 : decide (v3.1 ≤ v.1) = true := decide_eq_true h6.2.2
  have hc0 := (thawBdg2 (h := hget [(0, .cells (cB b)), (9, .cells (fl cWa (ws ++ [more]))), (15, .cells (fl cSt (b.ss.mapIdx (slS l)))), (22, .cells (fl cCh b.cs)), (25, .cells (fl cWa (ws.mapIdx (slP l)))), (26, .cells [.rsl 15 0 b.ss.length 6, .rsl 22 0 b.cs.length 4]), (28, .cells (cS (p, q)))]) (i := 15) (j := 22) (k := 25) (ss := (b.ss.mapIdx (slS l))) (cs := b.cs) (ws := (ws.mapIdx (slP l))) (List.length_mapIdx ..).symm rfl (List.length_mapIdx ..).symm rfl rfl rfl).1
  have hc2 := (thawBdg2 (h := hget [(0, .cells (cB b)), (9, .cells (fl cWa (ws ++ [more]))), (15, .cells (fl cSt (b.ss.mapIdx (slS l)))), (22, .cells (fl cCh b.cs)), (25, .cells (fl cWa (ws.mapIdx (slP l)))), (26, .cells [.rsl 15 0 b.ss.length 6, .rsl 22 0 b.cs.length 4]), (28, .cells (cS (p, q))), (30, .cells (cS (p2, q2))), (32, .cells (cS (p3, q3)))]) (i := 15) (j := 22) (k := 25) (ss := (b.ss.mapIdx (slS l))) (cs := b.cs) (ws := (ws.mapIdx (slP l))) (List.length_mapIdx ..).symm rfl (List.length_mapIdx ..).symm rfl rfl rfl).1
  have ha1 := thawBW (h := hget [(0, .cells (cB b)), (9, .cells (fl cWa (ws ++ [more]))), (15, .cells (fl cSt (b.ss.mapIdx (slS l)))), (22, .cells (fl cCh b.cs)), (25, .cells (fl cWa (ws.mapIdx (slP l)))), (26, .cells [.rsl 15 0 b.ss.length 6, .rsl 22 0 b.cs.length 4]), (28, .cells (cS (p, q))), (30, .cells (cS (p2, q2)))]) (id := 9) b (l := ws ++ [more]) rfl
  have ha2 := thawBW (h := hget [(0, .cells (cB b)), (9, .cells (fl cWa (ws ++ [more]))), (15, .cells (fl cSt (b.ss.mapIdx (slS l)))), (22, .cells (fl cCh b.cs)), (25, .cells (fl cWa (ws.mapIdx (slP l)))), (26, .cells [.rsl 15 0 b.ss.length 6, .rsl 22 0 b.cs.length 4]), (28, .cells (cS (p, q))), (30, .cells (cS (p2, q2))), (32, .cells (cS (p3, q3)))]) (id := 9) b (l := ws ++ [more]) rfl
  rw [hlen] at ha1 ha2
  exact ACode.vcM (.call (.tup [encS (p, q), .int .i64 0]) <| .lent (.tup [encS (p2, q2), .int .i64 0]) [15, 22, 25] <| .lent (.tup [encS (p3, q3), .int .i64 0]) [9] <| .call (.tup [.int .u8 v.1, .int .i64 v.2.1, .int .i64 v.2.2, .int .i64 0]) <| .lent (.tup [.int .u8 v2.1, .int .i64 v2.2.1, .int .i64 v2.2.2, .int .i64 0]) [15, 22, 25] <| .lent (.tup [.int .u8 v3.1, .int .i64 v3.2.1, .int .i64 v3.2.2, .int .i64 0]) [9] <| .br 208 true <| .br 215 true <| .br 222 true <| .br 229 true <| .br 234 true .nil) hn hlo .ret
    ⟨o1, ⟨_, Eq.trans (by kernel_rfl) hc0, .inl ⟨o2, .inr rfl⟩⟩, ⟨_, Eq.trans (by kernel_rfl) ha1, .inl ⟨o3, .inr rfl⟩⟩, r1, ⟨_, Eq.trans (by kernel_rfl) hc2, .inl ⟨r2, .inr rfl⟩⟩, ⟨_, Eq.trans (by kernel_rfl) ha2, .inl ⟨r3, .inr rfl⟩⟩, d1, d2, d3, d4, d5, rB d6⟩
end Go.Proofs.YtiggnliiigcjaaaDoor
