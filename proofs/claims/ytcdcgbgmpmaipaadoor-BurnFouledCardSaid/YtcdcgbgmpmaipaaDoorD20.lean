import Derived.Test.YtcdcgbgmpmaipaaDoorD19
namespace Go.Proofs.YtcdcgbgmpmaipaaDoor
open Go Go.Am
set_option maxRecDepth 100000
set_option maxHeartbeats 16000000
def hdL (h : Hd) : List AV := [.int .i64 h.bLo, .int .i64 h.bHi, .int .i64 h.fLo, .int .i64 h.fHi, .int .i64 h.jLo, .int .i64 h.jHi, .int .i64 h.lLo, .int .i64 h.lHi, .int .i64 h.dr]
theorem app_one {h : Nat → Option AObj} {i j nid : Nat} {l : List Int} {v : Int} (h0 : h i = some (.cells (fl encI l))) (h1 : h j = some (.cells [.int .i64 v])) (hl : l.length ≤ 1000) :
    aAppend Tryd.prog h nid 26 26 (.rsl i 0 l.length 1) (.rsl j 0 1 1) = some ⟨.rsl nid 0 (l.length + 1) 1, [(i, none), (nid, some (.cells (fl encI (l ++ [v]))))]⟩ := by
  have hln := fl_len (enc := encI) (n := 1) (fun _ => rfl) l
  have e : fl encI (l ++ [v]) = fl encI l ++ [.int .i64 v] := by simp [fl, encI]
  rw [e]
  simp only [aAppend, ty26, ty3, srcCells, h0, h1]
  rw [if_pos (by decide)]
  simp [hln, cellB]
  omega
theorem truth_spec (h : Hd) (r by' : List Int) (ho : Ok h r) (hb : ∀ x ∈ by', 0 ≤ x ∧ x < 4294967296) : APure Tryd.prog 32 [encHd h, encR r, .lst 1 (by'.map encU)] (encR (trL h r by' (secN h r))) := by
  have hN := secN_le ho
  obtain ⟨lm, le⟩ := trLag_mem ho.h hb
  have hl30 := ho.h.l
  have sC := choose_spec by' hb 0
  have sP := pick_spec h.lLo h.lHi (chs by' 0) (chs_rng hb 0).1 hl30.1 hl30.2.1 (by omega)
  rw [← le] at sP
  have sS := rSeconds_spec h r ho
  have hlag : ∀ k, k < secN h r → k + trLag h by' < r.length := fun k hk => by
    rw [mem_lags ho.h] at lm
    unfold secN at hk
    omega
  have hlag30 : trLag h by' ≤ 30 := by rw [mem_lags ho.h] at lm; omega
  refine APure.vcT Tryd.func32 (.draw 4 <| .call (.int .i64 (chs by' 0)) <| .call (.int .i64 (trLag h by' : Nat)) <| .call (.int .i64 (secN h r : Nat)) .loop) rfl rfl ⟨by kernel_rfl, mixed, by kernel_rfl, sC, by kernel_rfl, sP, sS, ?_⟩
  intro g hn hl
  replace hn : g.n = 78 := hn
  replace hl : g.low 0 := hl
  refine acode_whileW (fun k : Nat => ⟨[(1, encR r), (2, .lst 1 (by'.map encU)), (3, .vptr 0 0), (7, .int .i64 (trLag h by' : Nat)), (8, .rsl 7 0 (trL h r by' k).length 1), (19, .int .i64 (secN h r : Nat)), (20, .int .i64 k)],
      [(0, .cells (hdL h)), (7, .cells (fl encI (trL h r by' k)))], 8⟩)
    (fun k => k ≤ secN h r) (fun k => secN h r - k) 0 (Nat.zero_le _) (Wk.trans (Wk.le ?_ (hl.mono (Nat.zero_le _))) (Wk.own 8 1 rfl)) ?_
  · exact St.le.of ⟨rfl, rfl, rfl, rfl, rfl, rfl, rfl, rfl, rfl, rfl, rfl, rfl, rfl, rfl, trivial⟩ ⟨rfl, (by decide : (0 : Nat) < 8), rfl, rfl, (by decide : (7 : Nat) < 8), rfl, trivial⟩
  · intro k hk
    by_cases hlt : k < secN h r
    · have w4 : ∀ j : Int, 0 ≤ j → j ≤ 4 → IntKind.i64.wrap (IntKind.i64.wrap (4 * (k : Int)) + j) = 4 * (k : Int) + j := fun j h0 h4 => by rw [wrap64 (n := 4 * (k : Int)) (by omega) (by omega)]; exact wrap64 (by omega) (by omega)
      have sc : ∀ j : Nat, j ≤ 4 → APure Tryd.prog 36 [.lst 1 (by'.map encU), .int .i64 (IntKind.i64.wrap (IntKind.i64.wrap (4 * (k : Int)) + (j : Int)))] (.int .i64 (chs by' (4 * k + j))) := fun j hj => by
        rw [w4 j (by omega) (by omega)]
        have e : ((4 * k + j : Nat) : Int) = 4 * (k : Int) + (j : Int) := by omega
        have := choose_spec by' hb (4 * k + j)
        rwa [e] at this
      have sc1 : APure Tryd.prog 36 [.lst 1 (by'.map encU), .int .i64 (IntKind.i64.wrap (IntKind.i64.wrap (4 * (k : Int)) + 1))] (.int .i64 (chs by' (4 * k + 1))) := sc 1 (by decide)
      have sc2 : APure Tryd.prog 36 [.lst 1 (by'.map encU), .int .i64 (IntKind.i64.wrap (IntKind.i64.wrap (4 * (k : Int)) + 2))] (.int .i64 (chs by' (4 * k + 2))) := sc 2 (by decide)
      have sc3 : APure Tryd.prog 36 [.lst 1 (by'.map encU), .int .i64 (IntKind.i64.wrap (IntKind.i64.wrap (4 * (k : Int)) + 3))] (.int .i64 (chs by' (4 * k + 3))) := sc 3 (by decide)
      have sc4 : APure Tryd.prog 36 [.lst 1 (by'.map encU), .int .i64 (IntKind.i64.wrap (IntKind.i64.wrap (4 * (k : Int)) + 4))] (.int .i64 (chs by' (4 * k + 4))) := sc 4 (by decide)
      have b1 := ho.h.b
      have b2 := ho.h.j
      have b3 := ho.h.f
      have b4 := ho.h.d
      have sp1 := pick_spec h.bLo h.bHi (chs by' (4 * k + 1)) (chs_rng hb _).1 b1.1 b1.2.1 b1.2.2
      have sp2 := pick_spec h.jLo h.jHi (chs by' (4 * k + 2)) (chs_rng hb _).1 b2.1 b2.2.1 (by omega)
      have sp3 := pick_spec h.fLo h.fHi (chs by' (4 * k + 3)) (chs_rng hb _).1 b3.1 b3.2.1 (by omega)
      have r1 := pk_rng (chs_rng hb (4 * k + 1)).1 b1.2.1
      have r2 := pk_rng (chs_rng hb (4 * k + 2)).1 b2.2.1
      have r3 := pk_rng (chs_rng hb (4 * k + 3)).1 b3.2.1
      have r4 := trOff_rng ho.h hb k
      have rm := trMis_rng (r := r) ho.h hb k
      have mm := m_rng ho (trLag h by') k
      have rr := rd_rng ho.r (by decide) (k + trLag h by')
      have vr := trV_rng ho hb k
      have ar := a_rng ho (trLag h by') k
      have ix := idxW (enc := encI) (n := IntKind.i64.wrap ((k : Int) + (trLag h by' : Nat))) (k := k + trLag h by') (by rw [wrap64 (by omega) (by omega)]; omega) (rd_get (hlag k hlt))
      have e32 : IntKind.i64.wrap (IntKind.i64.wrap (2 * h.dr) + 1) = 2 * h.dr + 1 := by rw [wrap64 (n := 2 * h.dr) (by omega) (by omega)]; exact wrap64 (by omega) (by omega)
      have n32 : IntKind.i64.wrap (IntKind.i64.wrap (2 * h.dr) + 1) ≠ 0 := by rw [e32]; omega
      have v35 : some (⟨.int .i64 (IntKind.i64.wrap ((chs by' (4 * k + 4)).tmod (IntKind.i64.wrap (IntKind.i64.wrap (2 * h.dr) + 1)) - h.dr)), []⟩ : Out) = some ⟨.int .i64 (trOff h by' k), []⟩ := by
        rw [e32]; unfold trOff at r4 ⊢; rw [wrap64 (by omega) (by omega)]
      have v53 : some (⟨.int .i64 (if IntKind.i64.wrap (IntKind.i64.wrap (pk h.bLo h.bHi (chs by' (4 * k + 1)) - rd r (k + trLag h by')) - trOff h by' k) > 0 then IntKind.i64.wrap (IntKind.i64.wrap (pk h.bLo h.bHi (chs by' (4 * k + 1)) - rd r (k + trLag h by')) - trOff h by' k) else 0), []⟩ : Out) = some ⟨.int .i64 (trMis h r by' k), []⟩ := by
        rw [ifmax, wrap64 (n := pk h.bLo h.bHi (chs by' (4 * k + 1)) - rd r (k + trLag h by')) (by omega) (by omega), wrap64 (by omega) (by omega)]; rfl
      have p0 : 0 ≤ pk h.jLo h.jHi (chs by' (4 * k + 2)) * pk h.fLo h.fHi (chs by' (4 * k + 3)) ∧ pk h.jLo h.jHi (chs by' (4 * k + 2)) * pk h.fLo h.fHi (chs by' (4 * k + 3)) ≤ 30000 * 10000 := mul_rng (by omega) (by omega) (by omega) (by omega)
      have wV : IntKind.i64.wrap (IntKind.i64.wrap (pk h.jLo h.jHi (chs by' (4 * k + 2)) * pk h.fLo h.fHi (chs by' (4 * k + 3))) * trMis h r by' k) = trV h r by' k := by
        rw [wrap64 (n := pk h.jLo h.jHi (chs by' (4 * k + 2)) * pk h.fLo h.fHi (chs by' (4 * k + 3))) (by omega) (by omega)]; unfold trV at vr ⊢; exact wrap64 (by omega) (by omega)
      have ap : aAppend Tryd.prog (hget [(7, .cells (fl encI (trL h r by' k))), (61, .cells [.int .i64 (IntKind.i64.wrap (IntKind.i64.wrap (pk h.jLo h.jHi (chs by' (4 * k + 2)) * pk h.fLo h.fHi (chs by' (4 * k + 3))) * trMis h r by' k))])]) 64 26 26 (.rsl 7 0 (trL h r by' k).length 1) (.rsl 61 0 1 1) = some ⟨.rsl 64 0 ((trL h r by' k).length + 1) 1, [(7, none), (64, some (.cells (fl encI (trL h r by' (k + 1)))))]⟩ :=
        (app_one (l := trL h r by' k) rfl rfl (by rw [trL_len]; omega)).trans (by rw [wV, ← trL_succ])
      have elen : AV.rsl 7 0 (trL h r by' (k + 1)).length 1 = AV.rsl 7 0 ((trL h r by' k).length + 1) 1 := by rw [trL_len, trL_len]
      have okV := fl_ok (enc := encI) (n := 7) (fun _ => rfl) (trL h r by' (k + 1))
      have lt := decide_eq_true (show (k : Int) < (secN h r : Nat) by omega)
      have ek := congrArg (AV.int .i64) (succ64 (k := k) (by omega))
      clear wV p0 ar vr rr mm rm r1 r2 r3 r4 b1 b2 b3 b4 sc w4 e32
      generalize trOff h by' k = f at *
      generalize trMis h r by' k = m at *
      generalize rd r (k + trLag h by') = x at *
      generalize pk h.bLo h.bHi (chs by' (4 * k + 1)) = p1 at *
      generalize pk h.jLo h.jHi (chs by' (4 * k + 2)) = p2 at *
      generalize pk h.fLo h.fHi (chs by' (4 * k + 3)) = p3 at *
      generalize chs by' (4 * k + 1) = c1 at *
      generalize chs by' (4 * k + 2) = c2 at *
      generalize chs by' (4 * k + 3) = c3 at *
      generalize chs by' (4 * k + 4) = c4 at *
      exact ACode.vc (.br 21 true <| .draw 12 <| .call (.int .i64 c4) <| .nz <| .val 35 (.int .i64 f) [] <| .draw 16 <| .call (.int .i64 c1) <| .call (.int .i64 p1) <| .cells (encI x) <| .val 53 (.int .i64 m) [] <| .draw 21 <| .call (.int .i64 c2) <| .call (.int .i64 p2) <| .call (.int .i64 c3) <| .call (.int .i64 p3) <| .val 75 (.rsl 64 0 ((trL h r by' k).length + 1) 1) [(7, none), (64, some (.cells (fl encI (trL h r by' (k + 1)))))] .nil) hn hl (.roundW .cl)
        ⟨lt, by kernel_rfl, mixed, by kernel_rfl, sc4, n32, by kernel_rfl, v35, by kernel_rfl, mixed, by kernel_rfl, sc1, sp1, ix, by kernel_rfl, v53, by kernel_rfl, mixed, by kernel_rfl, sc2, sp2, sc3, sp3, by kernel_rfl, Eq.trans (by kernel_rfl) ap, k + 1, hlt, mu1 hlt,
          Wk.ren (c := 7) (b := 64) (St.ren.of rfl (by decide) ⟨.inl ⟨rfl, rfl⟩, .inl ⟨rfl, rfl⟩, .inl ⟨rfl, rfl⟩, .inl ⟨rfl, rfl⟩, .inr ⟨0, _, 1, elen, rfl⟩, .inl ⟨rfl, rfl⟩, .inl ⟨ek, rfl⟩, trivial⟩ ⟨.inl ⟨(by decide : (0 : Nat) < 7), rfl, rfl⟩, .inr ⟨rfl, rfl, _, rfl, okV⟩, trivial⟩) (hl.mono (Nat.zero_le _))⟩
    · have hk' : k = secN h r := by omega
      subst hk'
      have th := thaw_fl (n := 1) (d := 6) (h := hget [(0, .cells (hdL h)), (7, .cells (fl encI (trL h r by' (secN h r))))]) (id := 7) (enc := encI) (l := trL h r by' (secN h r)) (fun _ => rfl) (fun _ => rfl) rfl
      have lt := decide_eq_false (show ¬ ((secN h r : Nat) : Int) < (secN h r : Nat) by omega)
      exact ACode.vc (.br 21 false .nil) hn hl (.roundW .cl) ⟨lt, _, .refl _, .nil, [7], Eq.trans (by kernel_rfl) th⟩
end Go.Proofs.YtcdcgbgmpmaipaaDoor
