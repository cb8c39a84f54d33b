import Derived.Test.YtmllgnnhblhfeaaDoorW4
import Derived.Test.YtmllgnnhblhfeaaDoorW2
import Derived.Test.YtmllgnnhblhfeaaDoorNF
/-
  HOW FAR ROOMS ARE: the program's table.
-/
namespace Go.Proofs.YtmllgnnhblhfeaaDoor
open Go Go.Am
set_option maxRecDepth 100000
set_option maxHeartbeats 4000000
def cCr (c : Crs) : List AV := encR c.1 :: cTab c.2
def cXa (s : Scn) (C : AV) : List AV := cSc s ++ (kdL ++ [C])
def encCs (crs : List Crs) : AV := .lst 73 (crs.map cCr)
def encX (s : Scn) (crs : List Crs) : AV := .agg (cXa s (encCs crs))
theorem ixTab {h : Nat → Option AObj} {id a : Nat} {i : Int} (hi : i = (a : Int)) (ha : a < 6) : (aindexAddr Tryd.prog h 70 (.vptr id 0) (.int .i64 i)).map (fun v => (⟨v, []⟩ : Out)) = some ⟨.vptr id (12 * a), []⟩ := by
  subst hi
  simp only [aindexAddr, ty70, ty68]
  rw [if_pos ⟨Int.natCast_nonneg _, by simpa using ha⟩]
  simp [Nat.mul_comm]
theorem ixRow {h : Nat → Option AObj} {id off b : Nat} {i : Int} (hi : i = (b : Int)) (hb : b < 6) : (aindexAddr Tryd.prog h 68 (.vptr id off) (.int .i64 i)).map (fun v => (⟨v, []⟩ : Out)) = some ⟨.vptr id (off + 2 * b), []⟩ := by
  subst hi
  simp only [aindexAddr, ty68, ty67]
  rw [if_pos ⟨Int.natCast_nonneg _, by simpa using hb⟩]
  simp [Nat.mul_comm]
theorem stTab {h : Nat → Option AObj} {id a b : Nat} {F : Tab} {t : Tm} (h0 : h id = some (.cells (cTab F))) (ha : a < 6) (hb : b < 6) :
    aStore Tryd.prog h 67 (.vptr id (12 * a + 2 * b)) (encTm t) = some ⟨.undef, [(id, some (.cells (cTab (setT F a b t))))]⟩ := by
  have e := tab_set (F := F) ha hb t
  have hl : 12 * a + 2 * b + 2 ≤ (cTab F).length := by rw [tab_len]; omega
  have hc : acells (encTm t) = some (cTm t) := rfl
  have hc2 : (cTm t).length = 2 := rfl
  have hc3 : (cTm t).all cellB = true := rfl
  simp only [aStore, ty67, hc, h0]
  rw [if_pos ⟨by rw [hc2], by rw [hc2]; exact hl, hc3⟩, e]
theorem ldTab {h : Nat → Option AObj} {id a b : Nat} {F : Tab} (h0 : h id = some (.cells (cTab F))) (ha : a < 6) (hb : b < 6) : aLoad Tryd.prog h 67 (.vptr id (12 * a + 2 * b)) = some ⟨encTm (F a b), []⟩ := by
  have e := tab_at (F := F) ha hb
  have hl : 2 ≤ ((cTab F).drop (12 * a + 2 * b)).length := by rw [List.length_drop, tab_len]; omega
  simp only [aLoad, ty67, h0, aread, TD.agg, if_true]
  rw [if_pos hl, e]; rfl
def zF : Tab := fun _ _ => some 0
theorem ne_int {a b : Nat} : ((a : Int) != (b : Int)) = (a != b) := by
  cases h : (a != b)
  · have : a = b := by simpa using h
    subst this; simp
  · have : a ≠ b := by simpa using h
    rw [bne_iff_ne]; omega
theorem lt_rooms {s : Scn} (h : ScOk s) {a : Nat} : (a < nR s → decide ((a : Int) < s.rooms) = true) ∧ (¬ a < nR s → decide ((a : Int) < s.rooms) = false) := by
  have := (nR_eq h).1
  exact ⟨fun q => decide_eq_true (by omega), fun q => decide_eq_false (by omega)⟩
theorem cX_ok (s : Scn) (crs : List Crs) : okL 0 (cXa s (encCs crs)) = true := by kernel_rfl
theorem far_spec (s : Scn) (hs : ScOk s) (crs : List Crs) (ds : List Int) (hd : areD (gSp s.gates) ds) (hlen : ds.length = s.gates.length) :
    APure Tryd.prog 27 [encX s crs, encR ds] (.agg (cTab (farP s ds))) := by
  obtain ⟨hR, hR1, hR6⟩ := nR_eq hs
  have hfar : farP s ds = floydV (pairsOf (nR s)) (nR s) (baseF (nR s) (edgs s.gates ds)) := rfl
  rw [hfar]
  have hbd : BdF (nR s) 60 (baseF (nR s) (edgs s.gates ds)) := base_bd fun e he => by
    have g := gok_of hs hd
    exact ⟨g.lo e.1 e.2.1 e.2.2 (.inl he), g.hi e.1 e.2.1 e.2.2 (.inl he), g.ne e.1 e.2.1 e.2.2 (.inl he)⟩
  have hlt := fun a => (lt_rooms hs (a := a)).1
  have hge := fun a => (lt_rooms hs (a := a)).2
  have hgl := hs.gl
  have hgs := hs.gs
  have hel : (edgs s.gates ds).length ≤ s.gates.length := by unfold edgs; rw [List.length_zipWith]; omega
  refine APure.vc Tryd.func27 rfl (.val 4 (.vptr 1 0) [(1, some (.cells (cTab zF)))] <| .val 5 (.vptr 2 0) [(2, some (.cells (cTab zF)))] .loop) (by kernel_rfl) (by kernel_rfl) ⟨by kernel_rfl, by kernel_rfl, ?_⟩
  intro g hn hl
  replace hn : g.n = 116 := hn
  replace hl : g.low 0 := hl
  have hl3 : g.low 3 := hl.mono (by decide)
  have hroom : ∀ x : Int, 0 ≤ x → x ≤ s.rooms - 1 → x = (x.toNat : Int) ∧ x.toNat < 6 := fun x h1 h2 => by omega
  have enR : ((nR s : Nat) : Int) = s.rooms := hR
  have hgE : ∀ (k : Nat) (x : Gt) (d : Int), s.gates[k]? = some x → ds[k]? = some d → gatK (nR s) s.gates ds (k + 1) = gateF (gatK (nR s) s.gates ds k) (edgOf x d) := fun k x d h1 h2 => gatK_succ h1 h2
  generalize hnn : nR s = n at *
  refine acode_while (fun a : Nat => ⟨[(1, encR ds), (2, .vptr 0 0), (4, .vptr 1 0), (5, .vptr 2 0), (16, .int .i64 s.rooms), (17, .int .i64 a)], [(0, .cells (cXa s (encCs crs))), (1, .cells (cTab zF)), (2, .cells (cTab (nevF n a 0)))], 3⟩) (fun a => a ≤ n) (fun a => n - a) 0 (Nat.zero_le _) ?_ (fun _ _ => hl3) ?_
  · have e0 : some (AObj.cells (cTab zF)) = some (.cells (cTab (nevF n 0 0))) := by rw [nev_zero]; rfl
    exact St.le.of ⟨by kernel_rfl, rfl, by kernel_rfl, rfl, by kernel_rfl, rfl, by kernel_rfl, rfl, by kernel_rfl, rfl, by kernel_rfl, rfl, trivial⟩ ⟨by kernel_rfl, (by decide : (0 : Nat) < 3), (by kernel_rfl), by kernel_rfl, (by decide : (1 : Nat) < 3), (by kernel_rfl), Eq.trans (by kernel_rfl) e0, (by decide : (2 : Nat) < 3), (by kernel_rfl), trivial⟩
  · intro a ha
    replace ha : a ≤ n := ha
    by_cases hlta : a < n
    · have ea := congrArg (AV.int .i64) (succ64 (k := a) (by omega))
      refine ACode.vc (.br 18 true .loop) hn hl (.round .cl) ⟨hlt a hlta, ?_⟩
      intro g hn hl
      replace hn : g.n = 116 := hn
      replace hl : g.low 0 := hl
      have hl3 : g.low 3 := hl.mono (by decide)
      refine acode_while (fun b : Nat => ⟨[(1, encR ds), (2, .vptr 0 0), (4, .vptr 1 0), (5, .vptr 2 0), (16, .int .i64 s.rooms), (17, .int .i64 a), (6, .int .i64 a), (22, .int .i64 s.rooms), (23, .int .i64 b)], [(0, .cells (cXa s (encCs crs))), (1, .cells (cTab zF)), (2, .cells (cTab (nevF n a b)))], 3⟩) (fun b => b ≤ n) (fun b => n - b) 0 (Nat.zero_le _) ?_ (fun _ _ => hl3) ?_
      · exact St.le.of ⟨by kernel_rfl, rfl, by kernel_rfl, rfl, by kernel_rfl, rfl, by kernel_rfl, rfl, by kernel_rfl, rfl, by kernel_rfl, rfl, by kernel_rfl, rfl, by kernel_rfl, rfl, by kernel_rfl, rfl, trivial⟩ ⟨by kernel_rfl, (by decide : (0 : Nat) < 3), (by kernel_rfl), by kernel_rfl, (by decide : (1 : Nat) < 3), (by kernel_rfl), by kernel_rfl, (by decide : (2 : Nat) < 3), (by kernel_rfl), trivial⟩
      · intro b hb
        replace hb : b ≤ n := hb
        by_cases hltb : b < n
        · have eb := congrArg (AV.int .i64) (succ64 (k := b) (by omega))
          have hcond : ((a : Int) != (b : Int)) = (a != b) := ne_int
          cases hab : (a != b)
          · have e : a = b := by simpa using hab
            subst e
            have eF : some (AObj.cells (cTab (nevF n a a))) = some (.cells (cTab (nevF n a (a + 1)))) := by rw [nev_eq]
            rw [hab] at hcond
            exact ACode.vc (.br 24 true <| .br 28 false .nil) hn hl (.round .cl) ⟨hlt a hltb, hcond, a + 1, hltb, mu1 hltb, St.le.of ⟨by kernel_rfl, rfl, by kernel_rfl, rfl, by kernel_rfl, rfl, by kernel_rfl, rfl, by kernel_rfl, rfl, by kernel_rfl, rfl, by kernel_rfl, rfl, by kernel_rfl, rfl, Eq.trans (by kernel_rfl) eb, rfl, trivial⟩ ⟨by kernel_rfl, (by decide : (0 : Nat) < 3), (by kernel_rfl), by kernel_rfl, (by decide : (1 : Nat) < 3), (by kernel_rfl), Eq.trans (by kernel_rfl) eF, (by decide : (2 : Nat) < 3), (by kernel_rfl), trivial⟩⟩
          · have e : a ≠ b := by simpa using hab
            rw [hab] at hcond
            have x1 := ixTab (h := hget []) (id := 2) (i := (a : Int)) rfl (show a < 6 by omega)
            have x2 := ixRow (h := hget []) (id := 2) (off := 12 * a) (i := (b : Int)) rfl (show b < 6 by omega)
            have x3 := stTab (h := hget [(2, .cells (cTab (nevF n a b)))]) (id := 2) (t := none) rfl (show a < 6 by omega) (show b < 6 by omega)
            rw [nev_ne hltb e] at x3
            exact ACode.vc (.br 24 true <| .br 28 true <| .draw 4 <| .val 32 (.vptr 2 (12 * a)) [] <| .val 33 (.vptr 2 (12 * a + 2 * b)) [] <| .val 1 .undef [(2, some (.cells (cTab (nevF n a (b + 1)))))] .nil) hn hl (.round .cl) ⟨hlt b hltb, hcond, by kernel_rfl, mixed, by kernel_rfl, Eq.trans (by kernel_rfl) x1, by kernel_rfl, Eq.trans (by kernel_rfl) x2, Eq.trans (by kernel_rfl) x3, b + 1, hltb, mu1 hltb, St.le.of ⟨by kernel_rfl, rfl, by kernel_rfl, rfl, by kernel_rfl, rfl, by kernel_rfl, rfl, by kernel_rfl, rfl, by kernel_rfl, rfl, by kernel_rfl, rfl, by kernel_rfl, rfl, Eq.trans (by kernel_rfl) eb, rfl, trivial⟩ ⟨by kernel_rfl, (by decide : (0 : Nat) < 3), (by kernel_rfl), by kernel_rfl, (by decide : (1 : Nat) < 3), (by kernel_rfl), by kernel_rfl, (by decide : (2 : Nat) < 3), (by kernel_rfl), trivial⟩⟩
        · have hb' : b = n := by omega
          subst hb'
          have eF : some (AObj.cells (cTab (nevF b a b))) = some (.cells (cTab (nevF b (a + 1) 0))) := by rw [nev_row]
          exact ACode.vc (.br 24 false .nil) hn hl (.round .cl) ⟨hge b hltb, _, .refl _, .nil, a + 1, hlta, mu1 hlta, St.le.of ⟨by kernel_rfl, rfl, by kernel_rfl, rfl, by kernel_rfl, rfl, by kernel_rfl, rfl, by kernel_rfl, rfl, Eq.trans (by kernel_rfl) ea, rfl, trivial⟩ ⟨by kernel_rfl, (by decide : (0 : Nat) < 3), (by kernel_rfl), by kernel_rfl, (by decide : (1 : Nat) < 3), (by kernel_rfl), Eq.trans (by kernel_rfl) eF, (by decide : (2 : Nat) < 3), (by kernel_rfl), trivial⟩⟩
    · have ha' : a = n := by omega
      have eF : some (AObj.cells (cTab (nevF n a 0))) = some (.cells (cTab (gatK n s.gates ds 0))) := by rw [ha', nev_all]; rfl
      refine ACode.vc (.br 18 false .nil) hn hl (.round .cl) ⟨hge a hlta, _, .refl _, .loop, ?_⟩
      intro g hn hl
      replace hn : g.n = 116 := hn
      replace hl : g.low 0 := hl
      have hl3 : g.low 3 := hl.mono (by decide)
      refine acode_while (fun k : Nat => ⟨[(1, encR ds), (2, .vptr 0 0), (4, .vptr 1 0), (5, .vptr 2 0), (38, encGs s.gates), (39, .int .i64 (s.gates.map cGt).length), (40, .int .i64 k)], [(0, .cells (cXa s (encCs crs))), (1, .cells (cTab zF)), (2, .cells (cTab (gatK n s.gates ds k)))], 3⟩) (fun k => k ≤ s.gates.length) (fun k => s.gates.length - k) 0 (Nat.zero_le _) ?_ (fun _ _ => hl3) ?_
      · exact St.le.of ⟨by kernel_rfl, rfl, by kernel_rfl, rfl, by kernel_rfl, rfl, by kernel_rfl, rfl, by kernel_rfl, rfl, by kernel_rfl, rfl, by kernel_rfl, rfl, trivial⟩ ⟨by kernel_rfl, (by decide : (0 : Nat) < 3), (by kernel_rfl), by kernel_rfl, (by decide : (1 : Nat) < 3), (by kernel_rfl), Eq.trans (by kernel_rfl) eF, (by decide : (2 : Nat) < 3), (by kernel_rfl), trivial⟩
      · intro k hk
        replace hk : k ≤ s.gates.length := hk
        by_cases hltk : k < s.gates.length
        · refine Exists.elim (getE hltk) fun x hx => ?_
          refine Exists.elim (getE (show k < ds.length by omega)) fun d hd' => ?_
          have ek := congrArg (AV.int .i64) (succ64 (k := k) (by omega))
          have hgx := gtB_iff.1 (hgs x (List.mem_of_getElem? hx))
          obtain ⟨ga1, ga2⟩ := hroom x.a hgx.1.1 hgx.1.2
          obtain ⟨gb1, gb2⟩ := hroom x.b hgx.2.1.1 hgx.2.1.2
          have eG := hgE k x d hx hd'
          generalize gatK n s.gates ds k = F at *
          have eG2 : some (AObj.cells (cTab (setT (setT F x.a.toNat x.b.toNat (soonT (F x.a.toNat x.b.toNat) (some d))) x.b.toNat x.a.toNat (soonT (F x.a.toNat x.b.toNat) (some d))))) = some (.cells (cTab (gatK n s.gates ds (k + 1)))) := by rw [eG]; rfl
          clear eG
          have sn := sooner_spec (F x.a.toNat x.b.toNat) (some d)
          have x1 := ixTab (h := hget []) (id := 2) ga1 ga2
          have x2 := ixRow (h := hget []) (id := 2) (off := 12 * x.a.toNat) gb1 gb2
          have x3 := ldTab (h := hget [(2, .cells (cTab F))]) (id := 2) (F := F) rfl ga2 gb2
          have y1 := ixTab (h := hget []) (id := 2) gb1 gb2
          have y2 := ixRow (h := hget []) (id := 2) (off := 12 * x.b.toNat) ga1 ga2
          generalize soonT (F x.a.toNat x.b.toNat) (some d) = T at *
          have x4 := stTab (h := hget [(2, .cells (cTab F))]) (id := 2) (t := T) rfl ga2 gb2
          have y4 := stTab (h := hget [(2, .cells (cTab (setT F x.a.toNat x.b.toNat T)))]) (id := 2) (t := T) rfl gb2 ga2
          generalize hF1 : setT F x.a.toNat x.b.toNat T = F1 at *
          generalize setT F1 x.b.toNat x.a.toNat T = F2 at *
          exact ACode.vc (.br 41 true <| .cells (cGt x) <| .draw 14 <| .val 49 (.vptr 2 (12 * x.a.toNat)) [] <| .val 50 (.vptr 2 (12 * x.a.toNat + 2 * x.b.toNat)) [] <| .val 51 (encTm (F x.a.toNat x.b.toNat)) [] <| .cells (encI d) <| .call (encTm T) <|
            .draw 14 <| .val 68 (.vptr 2 (12 * x.a.toNat)) [] <| .val 69 (.vptr 2 (12 * x.a.toNat + 2 * x.b.toNat)) [] <| .val 1 .undef [(2, some (.cells (cTab F1)))] <| .val 70 (.vptr 2 (12 * x.b.toNat)) [] <| .val 71 (.vptr 2 (12 * x.b.toNat + 2 * x.a.toNat)) [] <| .val 1 .undef [(2, some (.cells (cTab F2)))] .nil) hn hl (.round .cl)
            ⟨ltLen hltk, idx hx, by kernel_rfl, mixed, by kernel_rfl, Eq.trans (by kernel_rfl) x1, Eq.trans (by kernel_rfl) x2, Eq.trans (by kernel_rfl) x3, idx hd', sn, by kernel_rfl,
             by kernel_rfl, mixed, by kernel_rfl, Eq.trans (by kernel_rfl) x1, Eq.trans (by kernel_rfl) x2, Eq.trans (by kernel_rfl) x4, Eq.trans (by kernel_rfl) y1, by kernel_rfl, Eq.trans (by kernel_rfl) y2, Eq.trans (by kernel_rfl) y4,
             k + 1, hltk, mu1 hltk, St.le.of ⟨by kernel_rfl, rfl, by kernel_rfl, rfl, by kernel_rfl, rfl, by kernel_rfl, rfl, by kernel_rfl, rfl, by kernel_rfl, rfl, Eq.trans (by kernel_rfl) ek, rfl, trivial⟩ ⟨by kernel_rfl, (by decide : (0 : Nat) < 3), (by kernel_rfl), by kernel_rfl, (by decide : (1 : Nat) < 3), (by kernel_rfl), Eq.trans (by kernel_rfl) eG2, (by decide : (2 : Nat) < 3), (by kernel_rfl), trivial⟩⟩
        · have hk' : k = s.gates.length := by omega
          have eB : gatK n s.gates ds k = baseF n (edgs s.gates ds) := gatK_all (by omega)
          have eF : some (AObj.cells (cTab (gatK n s.gates ds k))) = some (.cells (cTab (flK n (baseF n (edgs s.gates ds)) 0 0 0))) := by rw [eB]; rfl
          generalize baseF n (edgs s.gates ds) = B at *
          refine ACode.vc (.br 41 false .nil) hn hl (.round .cl) ⟨geLen hltk, _, .refl _, .loop, ?_⟩
          intro g hn hl
          replace hn : g.n = 116 := hn
          replace hl : g.low 0 := hl
          have hl3 : g.low 3 := hl.mono (by decide)
          refine acode_while (fun k : Nat => ⟨[(1, encR ds), (2, .vptr 0 0), (4, .vptr 1 0), (5, .vptr 2 0), (75, .int .i64 s.rooms), (76, .int .i64 k)], [(0, .cells (cXa s (encCs crs))), (1, .cells (cTab zF)), (2, .cells (cTab (flK n B k 0 0)))], 3⟩) (fun k => k ≤ n) (fun k => n - k) 0 (Nat.zero_le _) ?_ (fun _ _ => hl3) ?_
          · exact St.le.of ⟨by kernel_rfl, rfl, by kernel_rfl, rfl, by kernel_rfl, rfl, by kernel_rfl, rfl, by kernel_rfl, rfl, by kernel_rfl, rfl, trivial⟩ ⟨by kernel_rfl, (by decide : (0 : Nat) < 3), (by kernel_rfl), by kernel_rfl, (by decide : (1 : Nat) < 3), (by kernel_rfl), Eq.trans (by kernel_rfl) eF, (by decide : (2 : Nat) < 3), (by kernel_rfl), trivial⟩
          · intro k hk
            replace hk : k ≤ n := hk
            by_cases hltk : k < n
            · have ek := congrArg (AV.int .i64) (succ64 (k := k) (by omega))
              refine ACode.vc (.br 77 true .loop) hn hl (.round .cl) ⟨hlt k hltk, ?_⟩
              intro g hn hl
              replace hn : g.n = 116 := hn
              replace hl : g.low 0 := hl
              have hl3 : g.low 3 := hl.mono (by decide)
              refine acode_while (fun a : Nat => ⟨[(1, encR ds), (2, .vptr 0 0), (4, .vptr 1 0), (5, .vptr 2 0), (75, .int .i64 s.rooms), (76, .int .i64 k), (11, .int .i64 k), (81, .int .i64 s.rooms), (82, .int .i64 a)], [(0, .cells (cXa s (encCs crs))), (1, .cells (cTab zF)), (2, .cells (cTab (flK n B k a 0)))], 3⟩) (fun a => a ≤ n) (fun a => n - a) 0 (Nat.zero_le _) ?_ (fun _ _ => hl3) ?_
              · exact St.le.of ⟨by kernel_rfl, rfl, by kernel_rfl, rfl, by kernel_rfl, rfl, by kernel_rfl, rfl, by kernel_rfl, rfl, by kernel_rfl, rfl, by kernel_rfl, rfl, by kernel_rfl, rfl, by kernel_rfl, rfl, trivial⟩ ⟨by kernel_rfl, (by decide : (0 : Nat) < 3), (by kernel_rfl), by kernel_rfl, (by decide : (1 : Nat) < 3), (by kernel_rfl), by kernel_rfl, (by decide : (2 : Nat) < 3), (by kernel_rfl), trivial⟩
              · intro a ha
                replace ha : a ≤ n := ha
                by_cases hlta : a < n
                · have ea := congrArg (AV.int .i64) (succ64 (k := a) (by omega))
                  refine ACode.vc (.br 83 true .loop) hn hl (.round .cl) ⟨hlt a hlta, ?_⟩
                  intro g hn hl
                  replace hn : g.n = 116 := hn
                  replace hl : g.low 0 := hl
                  have hl3 : g.low 3 := hl.mono (by decide)
                  refine acode_while (fun b : Nat => ⟨[(1, encR ds), (2, .vptr 0 0), (4, .vptr 1 0), (5, .vptr 2 0), (75, .int .i64 s.rooms), (76, .int .i64 k), (11, .int .i64 k), (81, .int .i64 s.rooms), (82, .int .i64 a), (12, .int .i64 a), (87, .int .i64 s.rooms), (88, .int .i64 b)], [(0, .cells (cXa s (encCs crs))), (1, .cells (cTab zF)), (2, .cells (cTab (flK n B k a b)))], 3⟩) (fun b => b ≤ n) (fun b => n - b) 0 (Nat.zero_le _) ?_ (fun _ _ => hl3) ?_
                  · exact St.le.of ⟨by kernel_rfl, rfl, by kernel_rfl, rfl, by kernel_rfl, rfl, by kernel_rfl, rfl, by kernel_rfl, rfl, by kernel_rfl, rfl, by kernel_rfl, rfl, by kernel_rfl, rfl, by kernel_rfl, rfl, by kernel_rfl, rfl, by kernel_rfl, rfl, by kernel_rfl, rfl, trivial⟩ ⟨by kernel_rfl, (by decide : (0 : Nat) < 3), (by kernel_rfl), by kernel_rfl, (by decide : (1 : Nat) < 3), (by kernel_rfl), by kernel_rfl, (by decide : (2 : Nat) < 3), (by kernel_rfl), trivial⟩
                  · intro b hb
                    replace hb : b ≤ n := hb
                    by_cases hltb : b < n
                    · have eb := congrArg (AV.int .i64) (succ64 (k := b) (by omega))
                      obtain ⟨m1, m2⟩ := flK_sm (a := a) (b := b) hR6 hbd hltk hlta hb
                      have es : some (AObj.cells (cTab (setT (flK n B k a b) a b (soonT (flK n B k a b a b) (andT (flK n B k a b a k) (flK n B k a b k b)))))) = some (.cells (cTab (flK n B k a (b + 1)))) := by rw [flK_succ]; rfl
                      generalize flK n B k a b = F at *
                      have an := and_spec (F a k) (F k b) (fun c q => m1 a c hlta q) (fun c q => m2 b c hltb q)
                      have sn := sooner_spec (F a b) (andT (F a k) (F k b))
                      have h6a : a < 6 := by omega
                      have h6b : b < 6 := by omega
                      have h6k : k < 6 := by omega
                      have xa := ixTab (h := hget []) (id := 2) (i := (a : Int)) rfl h6a
                      have xk := ixTab (h := hget []) (id := 2) (i := (k : Int)) rfl h6k
                      have xab := ixRow (h := hget []) (id := 2) (off := 12 * a) (i := (b : Int)) rfl h6b
                      have xak := ixRow (h := hget []) (id := 2) (off := 12 * a) (i := (k : Int)) rfl h6k
                      have xkb := ixRow (h := hget []) (id := 2) (off := 12 * k) (i := (b : Int)) rfl h6b
                      have lab := ldTab (h := hget [(2, .cells (cTab F))]) (id := 2) (F := F) rfl h6a h6b
                      have lak := ldTab (h := hget [(2, .cells (cTab F))]) (id := 2) (F := F) rfl h6a h6k
                      have lkb := ldTab (h := hget [(2, .cells (cTab F))]) (id := 2) (F := F) rfl h6k h6b
                      have st := stTab (h := hget [(2, .cells (cTab F))]) (id := 2) (t := soonT (F a b) (andT (F a k) (F k b))) rfl h6a h6b
                      generalize andT (F a k) (F k b) = T1 at *
                      generalize soonT (F a b) T1 = T2 at *
                      generalize setT F a b T2 = F2 at *
                      exact ACode.vc (.br 89 true <| .draw 20 <| .val 95 (.vptr 2 (12 * a)) [] <| .val 96 (.vptr 2 (12 * a + 2 * b)) [] <| .val 97 (encTm (F a b)) [] <| .val 100 (.vptr 2 (12 * a)) [] <| .val 101 (.vptr 2 (12 * a + 2 * k)) [] <| .val 102 (encTm (F a k)) [] <|
                        .val 105 (.vptr 2 (12 * k)) [] <| .val 106 (.vptr 2 (12 * k + 2 * b)) [] <| .val 107 (encTm (F k b)) [] <| .call (encTm T1) <| .call (encTm T2) <| .val 110 (.vptr 2 (12 * a)) [] <| .val 111 (.vptr 2 (12 * a + 2 * b)) [] <| .val 1 .undef [(2, some (.cells (cTab F2)))] .nil) hn hl (.round .cl)
                        ⟨hlt b hltb, by kernel_rfl, mixed, by kernel_rfl, Eq.trans (by kernel_rfl) xa, Eq.trans (by kernel_rfl) xab, Eq.trans (by kernel_rfl) lab, Eq.trans (by kernel_rfl) xa, Eq.trans (by kernel_rfl) xak, Eq.trans (by kernel_rfl) lak,
                         Eq.trans (by kernel_rfl) xk, Eq.trans (by kernel_rfl) xkb, Eq.trans (by kernel_rfl) lkb, an, sn, Eq.trans (by kernel_rfl) xa, by kernel_rfl, Eq.trans (by kernel_rfl) xab, Eq.trans (by kernel_rfl) st,
                         b + 1, hltb, mu1 hltb, St.le.of ⟨by kernel_rfl, rfl, by kernel_rfl, rfl, by kernel_rfl, rfl, by kernel_rfl, rfl, by kernel_rfl, rfl, by kernel_rfl, rfl, by kernel_rfl, rfl, by kernel_rfl, rfl, by kernel_rfl, rfl, by kernel_rfl, rfl, by kernel_rfl, rfl, Eq.trans (by kernel_rfl) eb, rfl, trivial⟩ ⟨by kernel_rfl, (by decide : (0 : Nat) < 3), (by kernel_rfl), by kernel_rfl, (by decide : (1 : Nat) < 3), (by kernel_rfl), Eq.trans (by kernel_rfl) es, (by decide : (2 : Nat) < 3), (by kernel_rfl), trivial⟩⟩
                    · have hb' : b = n := by omega
                      subst hb'
                      have eF : some (AObj.cells (cTab (flK b B k a b))) = some (.cells (cTab (flK b B k (a + 1) 0))) := by rw [flK_row]
                      exact ACode.vc (.br 89 false .nil) hn hl (.round .cl) ⟨hge b hltb, _, .refl _, .nil, a + 1, hlta, mu1 hlta, St.le.of ⟨by kernel_rfl, rfl, by kernel_rfl, rfl, by kernel_rfl, rfl, by kernel_rfl, rfl, by kernel_rfl, rfl, by kernel_rfl, rfl, by kernel_rfl, rfl, by kernel_rfl, rfl, Eq.trans (by kernel_rfl) ea, rfl, trivial⟩ ⟨by kernel_rfl, (by decide : (0 : Nat) < 3), (by kernel_rfl), by kernel_rfl, (by decide : (1 : Nat) < 3), (by kernel_rfl), Eq.trans (by kernel_rfl) eF, (by decide : (2 : Nat) < 3), (by kernel_rfl), trivial⟩⟩
                · have ha' : a = n := by omega
                  subst ha'
                  have eF : some (AObj.cells (cTab (flK a B k a 0))) = some (.cells (cTab (flK a B (k + 1) 0 0))) := by rw [flK_all]
                  exact ACode.vc (.br 83 false .nil) hn hl (.round .cl) ⟨hge a hlta, _, .refl _, .nil, k + 1, hltk, mu1 hltk, St.le.of ⟨by kernel_rfl, rfl, by kernel_rfl, rfl, by kernel_rfl, rfl, by kernel_rfl, rfl, by kernel_rfl, rfl, Eq.trans (by kernel_rfl) ek, rfl, trivial⟩ ⟨by kernel_rfl, (by decide : (0 : Nat) < 3), (by kernel_rfl), by kernel_rfl, (by decide : (1 : Nat) < 3), (by kernel_rfl), Eq.trans (by kernel_rfl) eF, (by decide : (2 : Nat) < 3), (by kernel_rfl), trivial⟩⟩
            · have hk' : k = n := by omega
              subst hk'
              have eF := flK_end k B
              generalize flK k B k 0 0 = F at *
              rw [← eF]
              exact ACode.vc (.br 77 false .nil) hn hl (.round .cl) ⟨hge k hltk, _, .refl _, .val 115 (.agg (cTab F)) [] <| .val 1 .undef [(1, some (.cells (cTab F)))] .nil, by kernel_rfl, by kernel_rfl, trivial, by kernel_rfl⟩
end Go.Proofs.YtmllgnnhblhfeaaDoor
