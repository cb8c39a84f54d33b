import Derived.Test.YtjoagmjijbfjkaaGreatDoorW4
import Derived.Test.YtjoagmjijbfjkaaGreatDoorNU
/-
  HOW FAR ROOMS ARE: the program's table.
-/
namespace Go.Proofs.YtjoagmjijbfjkaaGreatDoor
open Go Go.Am
set_option maxRecDepth 100000
set_option maxHeartbeats 4000000
def cCr (c : Crs) : List AV := encR c.1 :: cTab c.2
def cXa (s : Scn) (C : AV) : List AV := cSc s ++ (kdL ++ [C])
def encCs (crs : List Crs) : AV := .lst 73 (crs.map cCr)
def encX (s : Scn) (crs : List Crs) : AV := .agg (cXa s (encCs crs))
theorem ixTab {h : Nat → Option AObj} {id a : Nat} {i : Int} (hi : i = (a : Int)) (ha : a < 6) : (aindexAddr Tryz.prog h 116 (.vptr id 0) (.int .i64 i)).map (fun v => (⟨v, []⟩ : Out)) = some ⟨.vptr id (12 * a), []⟩ := by
  subst hi
  simp only [aindexAddr, ty116, ty114]
  rw [if_pos ⟨Int.natCast_nonneg _, by simpa using ha⟩]
  simp [Nat.mul_comm]
theorem ixRow {h : Nat → Option AObj} {id off b : Nat} {i : Int} (hi : i = (b : Int)) (hb : b < 6) : (aindexAddr Tryz.prog h 114 (.vptr id off) (.int .i64 i)).map (fun v => (⟨v, []⟩ : Out)) = some ⟨.vptr id (off + 2 * b), []⟩ := by
  subst hi
  simp only [aindexAddr, ty114, ty113]
  rw [if_pos ⟨Int.natCast_nonneg _, by simpa using hb⟩]
  simp [Nat.mul_comm]
theorem stTab {h : Nat → Option AObj} {id a b : Nat} {F : Tab} {t : Tm} (h0 : h id = some (.cells (cTab F))) (ha : a < 6) (hb : b < 6) :
    aStore Tryz.prog h 113 (.vptr id (12 * a + 2 * b)) (encTm t) = some ⟨.undef, [(id, some (.cells (cTab (setT F a b t))))]⟩ := by
  have e := tab_set (F := F) ha hb t
  have hl : 12 * a + 2 * b + 2 ≤ (cTab F).length := by rw [tab_len]; omega
  have hc : acells (encTm t) = some (cTm t) := rfl
  have hc2 : (cTm t).length = 2 := rfl
  have hc3 : (cTm t).all cellB = true := rfl
  simp only [aStore, ty113, hc, h0]
  rw [if_pos ⟨by rw [hc2], by rw [hc2]; exact hl, hc3⟩, e]
theorem ldTab {h : Nat → Option AObj} {id a b : Nat} {F : Tab} (h0 : h id = some (.cells (cTab F))) (ha : a < 6) (hb : b < 6) : aLoad Tryz.prog h 113 (.vptr id (12 * a + 2 * b)) = some ⟨encTm (F a b), []⟩ := by
  have e := tab_at (F := F) ha hb
  have hl : 2 ≤ ((cTab F).drop (12 * a + 2 * b)).length := by rw [List.length_drop, tab_len]; omega
  simp only [aLoad, ty113, h0, aread, TD.agg, if_true]
  rw [if_pos hl, e]; rfl
def zF : Tab := fun _ _ => some 0
theorem ne_int {a b : Nat} : ((a : Int) != (b : Int)) = (a != b) := by
  cases h : (a != b)
  · have : a = b := by simpa using h
    subst this; simp
  · have : a ≠ b := by simpa using h
    rw [bne_iff_ne]; omega
theorem lt_rooms {s : Scn} (h : ScOk s) {a : Nat} : (a < nR s → decide ((a : Int) < s.rooms) = true) ∧ (¬ a < nR s → decide ((a : Int) < s.rooms) = false) := by
  have := (nR_eq h).1
  exact ⟨fun q => decide_eq_true (by omega), fun q => decide_eq_false (by omega)⟩
theorem cX_ok (s : Scn) (crs : List Crs) : okL 0 (cXa s (encCs crs)) = true := by kernel_rfl
theorem far_spec (s : Scn) (hs : ScOk s) (crs : List Crs) (ds : List Int) (hd : areD (gSp s.gates) ds) (hlen : ds.length = s.gates.length) :
    APure Tryz.prog 65 [encX s crs, encR ds] (.agg (cTab (farP s ds))) := by
  obtain ⟨hR, hR1, hR6⟩ := nR_eq hs
  have hfar : farP s ds = floydV (pairsOf (nR s)) (nR s) (baseF (nR s) (edgs s.gates ds)) := rfl
  rw [hfar]
  have hbd : BdF (nR s) 60 (baseF (nR s) (edgs s.gates ds)) := base_bd fun e he => by
    have g := gok_of hs hd
    exact ⟨g.lo e.1 e.2.1 e.2.2 (.inl he), g.hi e.1 e.2.1 e.2.2 (.inl he), g.ne e.1 e.2.1 e.2.2 (.inl he)⟩
  have hlt := fun a => (lt_rooms hs (a := a)).1
  have hge := fun a => (lt_rooms hs (a := a)).2
  have hgl := hs.gl
  have hgs := hs.gs
  have hel : (edgs s.gates ds).length ≤ s.gates.length := by unfold edgs; rw [List.length_zipWith]; omega
  refine APure.vc Tryz.func65 rfl (.val 4 (.vptr 1 0) [(1, some (.cells (cTab zF)))] <| .val 5 (.vptr 2 0) [(2, some (.cells (cTab zF)))] .loop) (by kernel_rfl) (by kernel_rfl) ⟨by kernel_rfl, by kernel_rfl, ?_⟩
  intro g hn hl
  replace hn : g.n = 116 := hn
  replace hl : g.low 0 := hl
  have hl3 : g.low 3 := hl.mono (by decide)
  have hroom : ∀ x : Int, 0 ≤ x → x ≤ s.rooms - 1 → x = (x.toNat : Int) ∧ x.toNat < 6 := fun x h1 h2 => by omega
  have enR : ((nR s : Nat) : Int) = s.rooms := hR
  have hgE : ∀ (k : Nat) (x : Gt) (d : Int), s.gates[k]? = some x → ds[k]? = some d → gatK (nR s) s.gates ds (k + 1) = gateF (gatK (nR s) s.gates ds k) (edgOf x d) := fun k x d h1 h2 => gatK_succ h1 h2
  generalize hnn : nR s = n at *
  refine acode_while (fun a : Nat => ⟨[(1, encR ds), (2, .vptr 0 0), (4, .vptr 1 0), (5, .vptr 2 0), (16, .int .i64 s.rooms), (17, .int .i64 a)], [(0, .cells (cXa s (encCs crs))), (1, .cells (cTab zF)), (2, .cells (cTab (nevF n a 0)))], 3⟩) (fun a => a ≤ n) (fun a => n - a) 0 (Nat.zero_le _) ?_ (fun _ _ => hl3) ?_
  · have e0 : some (AObj.cells (cTab zF)) = some (.cells (cTab (nevF n 0 0))) := by rw [nev_zero]; rfl
    exact St.le.of ⟨by kernel_rfl, rfl, by kernel_rfl, rfl, by kernel_rfl, rfl, by kernel_rfl, rfl, by kernel_rfl, rfl, by kernel_rfl, rfl, trivial⟩ ⟨by kernel_rfl, (by decide : (0 : Nat) < 3), (by kernel_rfl), by kernel_rfl, (by decide : (1 : Nat) < 3), (by kernel_rfl), Eq.trans (by kernel_rfl) e0, (by decide : (2 : Nat) < 3), (by kernel_rfl), trivial⟩
  · intro a ha
    replace ha : a ≤ n := ha
    by_cases hlta : a < n
    · have ea := congrArg (AV.int .i64) (succ64 (k := a) (by omega))
      refine ACode.vc (.br 18 true .loop) hn hl (.round .cl) ⟨hlt a hlta, ?_⟩
      intro g hn hl
      replace hn : g.n = 116 := hn
      replace hl : g.low 0 := hl
      have hl3 : g.low 3 := hl.mono (by decide)
      refine acode_while (fun b : Nat => ⟨[(1, encR ds), (2, .vptr 0 0), (4, .vptr 1 0), (5, .vptr 2 0), (16, .int .i64 s.rooms), (17, .int .i64 a), (6, .int .i64 a), (22, .int .i64 s.rooms), (23, .int .i64 b)], [(0, .cells (cXa s (encCs crs))), (1, .cells (cTab zF)), (2, .cells (cTab (nevF n a b)))], 3⟩) (fun b => b ≤ n) (fun b => n - b) 0 (Nat.zero_le _) ?_ (fun _ _ => hl3) ?_
      · exact St.le.of ⟨by kernel_rfl, rfl, by kernel_rfl, rfl, by kernel_rfl, rfl, by kernel_rfl, rfl, by kernel_rfl, rfl, by kernel_rfl, rfl, by kernel_rfl, rfl, by kernel_rfl, rfl, by kernel_rfl, rfl, trivial⟩ ⟨by kernel_rfl, (by decide : (0 : Nat) < 3), (by kernel_rfl), by kernel_rfl, (by decide : (1 : Nat) < 3), (by kernel_rfl), by kernel_rfl, (by decide : (2 : Nat) < 3), (by kernel_rfl), trivial⟩
      · intro b hb
        replace hb : b ≤ n := hb
        by_cases hltb : b < n
        · have eb := congrArg (AV.int .i64) (succ64 (k := b) (by omega))
          have hcond : ((a : Int) != (b : Int)) = (a != b) := ne_int
          cases hab : (a != b)
          · have e : a = b := by simpa using hab
            subst e
            have eF : some (AObj.cells (cTab (nevF n a a))) = some (.cells (cTab (nevF n a (a + 1)))) := by rw [nev_eq]
            rw [hab] at hcond
            exact ACode.vc (.br 24 true <| .br 28 false .nil) hn hl (.round .cl) ⟨hlt a hltb, hcond, a + 1, hltb, mu1 hltb, St.le.of ⟨by kernel_rfl, rfl, by kernel_rfl, rfl, by kernel_rfl, rfl, by kernel_rfl, rfl, by kernel_rfl, rfl, by kernel_rfl, rfl, by kernel_rfl, rfl, by kernel_rfl, rfl, Eq.trans (by kernel_rfl) eb, rfl, trivial⟩ ⟨by kernel_rfl, (by decide : (0 : Nat) < 3), (by kernel_rfl), by kernel_rfl, (by decide : (1 : Nat) < 3), (by kernel_rfl), Eq.trans (by kernel_rfl) eF, (by decide : (2 : Nat) < 3), (by kernel_rfl), trivial⟩⟩
          · have e : a ≠ b := by simpa using hab
            rw [hab] at hcond
            have x1 := ixTab (h := hget []) (id := 2) (i := (a : Int)) rfl (show a < 6 by omega)
            have x2 := ixRow (h := hget []) (id := 2) (off := 12 * a) (i := (b : Int)) rfl (show b < 6 by omega)
            have x3 := stTab (h := hget [(2, .cells (cTab (nevF n a b)))]) (id := 2) (t := none) rfl (show a < 6 by omega) (show b < 6 by omega)
            rw [nev_ne hltb e] at x3
            exact ACode.vc (.br 24 true <| .br 28 true <| .draw 4 <| .val 32 (.vptr 2 (12 * a)) [] <| .val 33 (.vptr 2 (12 * a + 2 * b)) [] <| .val 1 .undef [(2, some (.cells (cTab (nevF n a (b + 1)))))] .nil) hn hl (.round .cl) ⟨hlt b hltb, hcond, by kernel_rfl, mixed, by kernel_rfl, Eq.trans (by kernel_rfl) x1, by kernel_rfl, Eq.trans (by kernel_rfl) x2, Eq.trans (by kernel_rfl) x3, b + 1, hltb, mu1 hltb, St.le.of ⟨by kernel_rfl, rfl, by kernel_rfl, rfl, by kernel_rfl, rfl, by kernel_rfl, rfl, by kernel_rfl, rfl, by kernel_rfl, rfl, by kernel_rfl, rfl, by kernel_rfl, rfl, Eq.trans (by kernel_rfl) eb, rfl, trivial⟩ ⟨by kernel_rfl, (by decide : (0 : Nat) < 3), (by kernel_rfl), by kernel_rfl, (by decide : (1 : Nat) < 3), (by kernel_rfl), by kernel_rfl, (by decide : (2 : Nat) < 3), (by kernel_rfl), trivial⟩⟩
        · have hb' : b = n := by omega
          subst hb'
          have eF : some (AObj.cells (cTab (nevF b a b))) = some (.cells (cTab (nevF b (a + 1) 0))) := by rw [nev_row]
          exact ACode.vc (.br 24 false .nil) hn hl (.round .cl) ⟨hge b hltb, _, .refl _, .nil, a + 1, hlta, mu1 hlta, St.le.of ⟨by kernel_rfl, rfl, by kernel_rfl, rfl, by kernel_rfl, rfl, by kernel_rfl, rfl, by kernel_rfl, rfl, Eq.trans (by kernel_rfl) ea, rfl, trivial⟩ ⟨by kernel_rfl, (by decide : (0 : Nat) < 3), (by kernel_rfl), by kernel_rfl, (by decide : (1 : Nat) < 3), (by kernel_rfl), Eq.trans (by kernel_rfl) eF, (by decide : (2 : Nat) < 3), (by kernel_rfl), trivial⟩⟩
    · have ha' : a = n := by omega
      have eF : some (AObj.cells (cTab (nevF n a 0))) = some (.cells (cTab (gatK n s.gates ds 0))) := by rw [ha', nev_all]; rfl
      refine ACode.vc (.br 18 false .nil) hn hl (.round .cl) ⟨hge a hlta, _, .refl _, .loop, ?_⟩
      intro g hn hl
      replace hn : g.n = 116 := hn
      replace hl : g.low 0 := hl
      have hl3 : g.low 3 := hl.mono (by decide)
      refine acode_while (fun k : Nat => ⟨[(1, encR ds), (2, .vptr 0 0), (4, .vptr 1 0), (5, .vptr 2 0), (38, encGs s.gates), (39, .int .i64 (s.gates.map cGt).length), (40, .int .i64 k)], [(0, .cells (cXa s (encCs crs))), (1, .cells (cTab zF)), (2, .cells (cTab (gatK n s.gates ds k)))], 3⟩) (fun k => k ≤ s.gates.length) (fun k => s.gates.length - k) 0 (Nat.zero_le _) ?_ (fun _ _ => hl3) ?_
      · exact St.le.of ⟨by kernel_rfl, rfl, by kernel_rfl, rfl, by kernel_rfl, rfl, by kernel_rfl, rfl, by kernel_rfl, rfl, by kernel_rfl, rfl, by kernel_rfl, rfl, trivial⟩ ⟨by kernel_rfl, (by decide : (0 : Nat) < 3), (by kernel_rfl), by kernel_rfl, (by decide : (1 : Nat) < 3), (by kernel_rfl), Eq.trans (by kernel_rfl) eF, (by decide : (2 : Nat) < 3), (by kernel_rfl), trivial⟩
      · intro k hk
        replace hk : k ≤ s.gates.length := hk
        by_cases hltk : k < s.gates.length
        · refine Exists.elim (getE hltk) fun x hx => ?_
          refine Exists.elim (getE (show k < ds.length by omega)) fun d hd' => ?_
          have ek := congrArg (AV.int .i64) (succ64 (k := k) (by omega))
          have hgx := gtB_iff.1 (hgs x (List.mem_of_getElem? hx))
          obtain ⟨ga1, ga2⟩ := hroom x.a hgx.1.1 hgx.1.2
          obtain ⟨gb1, gb2⟩ := hroom x.b hgx.2.1.1 hgx.2.1.2
          have eG := hgE k x d hx hd'
          generalize gatK n s.gates ds k = F at *
          have eG2 : some (AObj.cells (cTab (setT (setT F x.a.toNat x.b.toNat (soonT (F x.a.toNat x.b.toNat) (some d))) x.b.toNat x.a.toNat (soonT (F x.a.toNat x.b.toNat) (some d))))) = some (.cells (cTab (gatK n s.gates ds (k + 1)))) := by rw [eG]; rfl
          clear eG
          have sn := sooner_spec (F x.a.toNat x.b.toNat) (some d)
          have x1 := ixTab (h := hget []) (id := 2) ga1 ga2
          have x2 := ixRow (h := hget []) (id := 2) (off := 12 * x.a.toNat) gb1 gb2
          have x3 := ldTab (h := hget [(2, .cells (cTab F))]) (id := 2) (F := F) rfl ga2 gb2
          have y1 := ixTab (h := hget []) (id := 2) gb1 gb2
          have y2 := ixRow (h := hget []) (id := 2) (off := 12 * x.b.toNat) ga1 ga2
          generalize soonT (F x.a.toNat x.b.toNat) (some d) = T at *
          have x4 := stTab (h := hget [(2, .cells (cTab F))]) (id := 2) (t := T) rfl ga2 gb2
          have y4 := stTab (h := hget [(2, .cells (cTab (setT F x.a.toNat x.b.toNat T)))]) (id := 2) (t := T) rfl gb2 ga2
          generalize hF1 : setT F x.a.toNat x.b.toNat T = F1 at *
          generalize setT F1 x.b.toNat x.a.toNat T = F2 at *
          exact ACode.vc (.br 41 true <| .cells (cGt x) <| .draw 14 <| .val 49 (.vptr 2 (12 * x.a.toNat)) [] <| .val 50 (.vptr 2 (12 * x.a.toNat + 2 * x.b.toNat)) [] <| .val 51 (encTm (F x.a.toNat x.b.toNat)) [] <| .cells (encI d) <| .call (encTm T) <|
            .draw 14 <| .val 68 (.vptr 2 (12 * x.a.toNat)) [] <| .val 69 (.vptr 2 (12 * x.a.toNat + 2 * x.b.toNat)) [] <| .val 1 .undef [(2, some (.cells (cTab F1)))] <| .val 70 (.vptr 2 (12 * x.b.toNat)) [] <| .val 71 (.vptr 2 (12 * x.b.toNat + 2 * x.a.toNat)) [] <| .val 1 .undef [(2, some (.cells (cTab F2)))] .nil) hn hl (.round .cl)
            ⟨ltLen hltk, idx hx, by kernel_rfl, mixed, by kernel_rfl, Eq.trans (by kernel_rfl) x1, Eq.trans (by kernel_rfl) x2, Eq.trans (by kernel_rfl) x3, idx hd', sn, by kernel_rfl,
             by kernel_rfl, mixed, by kernel_rfl, Eq.trans (by kernel_rfl) x1, Eq.trans (by kernel_rfl) x2, Eq.trans (by kernel_rfl) x4, Eq.trans (by kernel_rfl) y1, by kernel_rfl, Eq.trans (by kernel_rfl) y2, Eq.trans (by kernel_rfl) y4,
             k + 1, hltk, mu1 hltk, St.le.of ⟨by kernel_rfl, rfl, by kernel_rfl, rfl, by kernel_rfl, rfl, by kernel_rfl, rfl, by kernel_rfl, rfl, by kernel_rfl, rfl, Eq.trans (by kernel_rfl) ek, rfl, trivial⟩ ⟨by kernel_rfl, (by decide : (0 : Nat) < 3), (by kernel_rfl), by kernel_rfl, (by decide : (1 : Nat) < 3), (by kernel_rfl), Eq.trans (by kernel_rfl) eG2, (by decide : (2 : Nat) < 3), (by kernel_rfl), trivial⟩⟩
        · have hk' : k = s.gates.length := by omega
          have eB : gatK n s.gates ds k = baseF n (edgs s.gates ds) := gatK_all (by omega)
          have eF : some (AObj.cells (cTab (gatK n s.gates ds k))) = some (.cells (cTab (flK n (baseF n (edgs s.gates ds)) 0 0 0))) := by rw [eB]; rfl
          generalize baseF n (edgs s.gates ds) = B at *
          refine ACode.vc (.br 41 false .nil) hn hl (.round .cl) ⟨geLen hltk, _, .refl _, .loop, ?_⟩
          intro g hn hl
          replace hn : g.n = 116 := hn
          replace hl : g.low 0 := hl
          have hl3 : g.low 3 := hl.mono (by decide)
          refine acode_while (fun k : Nat => ⟨[(1, encR ds), (2, .vptr 0 0), (4, .vptr 1 0), (5, .vptr 2 0), (75, .int .i64 s.rooms), (76, .int .i64 k)], [(0, .cells (cXa s (encCs crs))), (1, .cells (cTab zF)), (2, .cells (cTab (flK n B k 0 0)))], 3⟩) (fun k => k ≤ n) (fun k => n - k) 0 (Nat.zero_le _) ?_ (fun _ _ => hl3) ?_
          · exact St.le.of ⟨by kernel_rfl, rfl, by kernel_rfl, rfl, by kernel_rfl, rfl, by kernel_rfl, rfl, by kernel_rfl, rfl, by kernel_rfl, rfl, trivial⟩ ⟨by kernel_rfl, (by decide : (0 : Nat) < 3), (by kernel_rfl), by kernel_rfl, (by decide : (1 : Nat) < 3), (by kernel_rfl), Eq.trans (by kernel_rfl) eF, (by decide : (2 : Nat) < 3), (by kernel_rfl), trivial⟩
          · intro k hk
            replace hk : k ≤ n := hk
            by_cases hltk : k < n
            · have ek := congrArg (AV.int .i64) (succ64 (k := k) (by omega))
              refine ACode.vc (.br 77 true .loop) hn hl (.round .cl) ⟨hlt k hltk, ?_⟩
              intro g hn hl
              replace hn : g.n = 116 := hn
              replace hl : g.low 0 := hl
              have hl3 : g.low 3 := hl.mono (by decide)
              refine acode_while (fun a : Nat => ⟨[(1, encR ds), (2, .vptr 0 0), (4, .vptr 1 0), (5, .vptr 2 0), (75, .int .i64 s.rooms), (76, .int .i64 k), (11, .int .i64 k), (81, .int .i64 s.rooms), (82, .int .i64 a)], [(0, .cells (cXa s (encCs crs))), (1, .cells (cTab zF)), (2, .cells (cTab (flK n B k a 0)))], 3⟩) (fun a => a ≤ n) (fun a => n - a) 0 (Nat.zero_le _) ?_ (fun _ _ => hl3) ?_
              · exact St.le.of ⟨by kernel_rfl, rfl, by kernel_rfl, rfl, by kernel_rfl, rfl, by kernel_rfl, rfl, by kernel_rfl, rfl, by kernel_rfl, rfl, by kernel_rfl, rfl, by kernel_rfl, rfl, by kernel_rfl, rfl, trivial⟩ ⟨by kernel_rfl, (by decide : (0 : Nat) < 3), (by kernel_rfl), by kernel_rfl, (by decide : (1 : Nat) < 3), (by kernel_rfl), by kernel_rfl, (by decide : (2 : Nat) < 3), (by kernel_rfl), trivial⟩
              · intro a ha
                replace ha : a ≤ n := ha
                by_cases hlta : a < n
                · have ea := congrArg (AV.int .i64) (succ64 (k := a) (by omega))
                  refine ACode.vc (.br 83 true .loop) hn hl (.round .cl) ⟨hlt a hlta, ?_⟩
                  intro g hn hl
                  replace hn : g.n = 116 := hn
                  replace hl : g.low 0 := hl
                  have hl3 : g.low 3 := hl.mono (by decide)
                  refine acode_while (fun b : Nat => ⟨[(1, encR ds), (2, .vptr 0 0), (4, .vptr 1 0), (5, .vptr 2 0), (75, .int .i64 s.rooms), (76, .int .i64 k), (11, .int .i64 k), (81, .int .i64 s.rooms), (82, .int .i64 a), (12, .int .i64 a), (87, .int .i64 s.rooms), (88, .int .i64 b)], [(0, .cells (cXa s (encCs crs))), (1, .cells (cTab zF)), (2, .cells (cTab (flK n B k a b)))], 3⟩) (fun b => b ≤ n) (fun b => n - b) 0 (Nat.zero_le _) ?_ (fun _ _ => hl3) ?_
                  · exact St.le.of ⟨by kernel_rfl, rfl, by kernel_rfl, rfl, by kernel_rfl, rfl, by kernel_rfl, rfl, by kernel_rfl, rfl, by kernel_rfl, rfl, by kernel_rfl, rfl, by kernel_rfl, rfl, by kernel_rfl, rfl, by kernel_rfl, rfl, by kernel_rfl, rfl, by kernel_rfl, rfl, trivial⟩ ⟨by kernel_rfl, (by decide : (0 : Nat) < 3), (by kernel_rfl), by kernel_rfl, (by decide : (1 : Nat) < 3), (by kernel_rfl), by kernel_rfl, (by decide : (2 : Nat) < 3), (by kernel_rfl), trivial⟩
                  · intro b hb
                    replace hb : b ≤ n := hb
                    by_cases hltb : b < n
                    · have eb := congrArg (AV.int .i64) (succ64 (k := b) (by omega))
                      obtain ⟨m1, m2⟩ := flK_sm (a := a) (b := b) hR6 hbd hltk hlta hb
                      have es : some (AObj.cells (cTab (setT (flK n B k a b) a b (soonT (flK n B k a b a b) (andT (flK n B k a b a k) (flK n B k a b k b)))))) = some (.cells (cTab (flK n B k a (b + 1)))) := by rw [flK_succ]; rfl
                      generalize flK n B k a b = F at *
                      have an := and_spec (F a k) (F k b) (fun c q => m1 a c hlta q) (fun c q => m2 b c hltb q)
                      have sn := sooner_spec (F a b) (andT (F a k) (F k b))
                      have h6a : a < 6 := by omega
                      have h6b : b < 6 := by omega
                      have h6k : k < 6 := by omega
                      have xa := ixTab (h := hget []) (id := 2) (i := (a : Int)) rfl h6a
                      have xk := ixTab (h := hget []) (id := 2) (i := (k : Int)) rfl h6k
                      have xab := ixRow (h := hget []) (id := 2) (off := 12 * a) (i := (b : Int)) rfl h6b
                      have xak := ixRow (h := hget []) (id := 2) (off := 12 * a) (i := (k : Int)) rfl h6k
                      have xkb := ixRow (h := hget []) (id := 2) (off := 12 * k) (i := (b : Int)) rfl h6b
                      have lab := ldTab (h := hget [(2, .cells (cTab F))]) (id := 2) (F := F) rfl h6a h6b
                      have lak := ldTab (h := hget [(2, .cells (cTab F))]) (id := 2) (F := F) rfl h6a h6k
                      have lkb := ldTab (h := hget [(2, .cells (cTab F))]) (id := 2) (F := F) rfl h6k h6b
                      have st := stTab (h := hget [(2, .cells (cTab F))]) (id := 2) (t := soonT (F a b) (andT (F a k) (F k b))) rfl h6a h6b
                      generalize andT (F a k) (F k b) = T1 at *
                      generalize soonT (F a b) T1 = T2 at *
                      generalize setT F a b T2 = F2 at *
                      exact ACode.vc (.br 89 true <| .draw 20 <| .val 95 (.vptr 2 (12 * a)) [] <| .val 96 (.vptr 2 (12 * a + 2 * b)) [] <| .val 97 (encTm (F a b)) [] <| .val 100 (.vptr 2 (12 * a)) [] <| .val 101 (.vptr 2 (12 * a + 2 * k)) [] <| .val 102 (encTm (F a k)) [] <|
                        .val 105 (.vptr 2 (12 * k)) [] <| .val 106 (.vptr 2 (12 * k + 2 * b)) [] <| .val 107 (encTm (F k b)) [] <| .call (encTm T1) <| .call (encTm T2) <| .val 110 (.vptr 2 (12 * a)) [] <| .val 111 (.vptr 2 (12 * a + 2 * b)) [] <| .val 1 .undef [(2, some (.cells (cTab F2)))] .nil) hn hl (.round .cl)
                        ⟨hlt b hltb, by kernel_rfl, mixed, by kernel_rfl, Eq.trans (by kernel_rfl) xa, Eq.trans (by kernel_rfl) xab, Eq.trans (by kernel_rfl) lab, Eq.trans (by kernel_rfl) xa, Eq.trans (by kernel_rfl) xak, Eq.trans (by kernel_rfl) lak,
                         Eq.trans (by kernel_rfl) xk, Eq.trans (by kernel_rfl) xkb, Eq.trans (by kernel_rfl) lkb, an, sn, Eq.trans (by kernel_rfl) xa, by kernel_rfl, Eq.trans (by kernel_rfl) xab, Eq.trans (by kernel_rfl) st,
                         b + 1, hltb, mu1 hltb, St.le.of ⟨by kernel_rfl, rfl, by kernel_rfl, rfl, by kernel_rfl, rfl, by kernel_rfl, rfl, by kernel_rfl, rfl, by kernel_rfl, rfl, by kernel_rfl, rfl, by kernel_rfl, rfl, by kernel_rfl, rfl, by kernel_rfl, rfl, by kernel_rfl, rfl, Eq.trans (by kernel_rfl) eb, rfl, trivial⟩ ⟨by kernel_rfl, (by decide : (0 : Nat) < 3), (by kernel_rfl), by kernel_rfl, (by decide : (1 : Nat) < 3), (by kernel_rfl), Eq.trans (by kernel_rfl) es, (by decide : (2 : Nat) < 3), (by kernel_rfl), trivial⟩⟩
                    · have hb' : b = n := by omega
                      subst hb'
                      have eF : some (AObj.cells (cTab (flK b B k a b))) = some (.cells (cTab (flK b B k (a + 1) 0))) := by rw [flK_row]
                      exact ACode.vc (.br 89 false .nil) hn hl (.round .cl) ⟨hge b hltb, _, .refl _, .nil, a + 1, hlta, mu1 hlta, St.le.of ⟨by kernel_rfl, rfl, by kernel_rfl, rfl, by kernel_rfl, rfl, by kernel_rfl, rfl, by kernel_rfl, rfl, by kernel_rfl, rfl, by kernel_rfl, rfl, by kernel_rfl, rfl, Eq.trans (by kernel_rfl) ea, rfl, trivial⟩ ⟨by kernel_rfl, (by decide : (0 : Nat) < 3), (by kernel_rfl), by kernel_rfl, (by decide : (1 : Nat) < 3), (by kernel_rfl), Eq.trans (by kernel_rfl) eF, (by decide : (2 : Nat) < 3), (by kernel_rfl), trivial⟩⟩
                · have ha' : a = n := by omega
                  subst ha'
                  have eF : some (AObj.cells (cTab (flK a B k a 0))) = some (.cells (cTab (flK a B (k + 1) 0 0))) := by rw [flK_all]
                  exact ACode.vc (.br 83 false .nil) hn hl (.round .cl) ⟨hge a hlta, _, .refl _, .nil, k + 1, hltk, mu1 hltk, St.le.of ⟨by kernel_rfl, rfl, by kernel_rfl, rfl, by kernel_rfl, rfl, by kernel_rfl, rfl, by kernel_rfl, rfl, Eq.trans (by kernel_rfl) ek, rfl, trivial⟩ ⟨by kernel_rfl, (by decide : (0 : Nat) < 3), (by kernel_rfl), by kernel_rfl, (by decide : (1 : Nat) < 3), (by kernel_rfl), Eq.trans (by kernel_rfl) eF, (by decide : (2 : Nat) < 3), (by kernel_rfl), trivial⟩⟩
            · have hk' : k = n := by omega
              subst hk'
              have eF := flK_end k B
              generalize flK k B k 0 0 = F at *
              rw [← eF]
              exact ACode.vc (.br 77 false .nil) hn hl (.round .cl) ⟨hge k hltk, _, .refl _, .val 115 (.agg (cTab F)) [] <| .val 1 .undef [(1, some (.cells (cTab F)))] .nil, by kernel_rfl, by kernel_rfl, trivial, by kernel_rfl⟩
end Go.Proofs.YtjoagmjijbfjkaaGreatDoor
/-
  LISTS OF DELAYS, one after the other.
-/
namespace Go.Proofs.YtjoagmjijbfjkaaGreatDoor
open Go Go.Am
set_option maxRecDepth 100000
set_option maxHeartbeats 4000000
theorem nxt_none {g : List Spn} {ds : List Int} (hl : ds.length = g.length) {p : Nat} (hp : p < g.length) (h : nextD (g.drop (p + 1)) (ds.drop (p + 1)) = none) {d : Int} {s : Spn} (hd : ds[p]? = some d) (hs : g[p]? = some s) :
    (d < s.2 → nextD g ds = some (ds.take p ++ (d + 1) :: (leastD g).drop (p + 1))) ∧ (¬ d < s.2 → nextD (g.drop p) (ds.drop p) = none) := by
  have := next_at hl hp h
  have e1 : ds[p]! = d := by rw [getElem!_pos ds p (by omega)]; rw [List.getElem?_eq_getElem (by omega)] at hd; exact Option.some.inj hd
  have e2 : g[p]! = s := by rw [getElem!_pos g p hp]; rw [List.getElem?_eq_getElem hp] at hs; exact Option.some.inj hs
  rw [e1, e2] at this
  exact this
/-- What stands in the slice while the last p delays are left. -/
def mixD (g : List Spn) (ds : List Int) (p : Nat) : List Int := ds.take p ++ (leastD g).drop p
theorem mix_len {g : List Spn} {ds : List Int} (hl : ds.length = g.length) (p : Nat) : (mixD g ds p).length = g.length := by
  unfold mixD leastD
  rw [List.length_append, List.length_take, List.length_drop, List.length_map]; omega
theorem mix_get {g : List Spn} {ds : List Int} {p : Nat} {d : Int} (hd : ds[p]? = some d) : (mixD g ds (p + 1))[p]? = some d := by
  have hp : p < ds.length := by
    rcases Nat.lt_or_ge p ds.length with q | q
    · exact q
    · rw [List.getElem?_eq_none q] at hd; cases hd
  unfold mixD
  rw [List.getElem?_append_left (by rw [List.length_take]; omega), List.getElem?_take, if_pos (by omega), hd]
theorem mix_lo {g : List Spn} {ds : List Int} (hl : ds.length = g.length) {p : Nat} {s : Spn} (hs : g[p]? = some s) : (mixD g ds (p + 1)).set p s.1 = mixD g ds p := by
  have hp : p < g.length := by
    rcases Nat.lt_or_ge p g.length with q | q
    · exact q
    · rw [List.getElem?_eq_none q] at hs; cases hs
  have hlp : p < (leastD g).length := by unfold leastD; rw [List.length_map]; exact hp
  have hle : (leastD g)[p]? = some s.1 := by unfold leastD; rw [List.getElem?_map, hs]; rfl
  have hd : ds[p]? = some ds[p] := List.getElem?_eq_getElem (by omega)
  unfold mixD
  rw [take_snoc hd, List.append_assoc, List.set_append_right _ _ (by rw [List.length_take]; omega), drop_cons hle, List.length_take, show p - min p ds.length = 0 by omega]
  rfl
theorem mix_up {g : List Spn} {ds : List Int} (hl : ds.length = g.length) {p : Nat} {d : Int} (hd : ds[p]? = some d) : (mixD g ds (p + 1)).set p (d + 1) = ds.take p ++ (d + 1) :: (leastD g).drop (p + 1) := by
  have hp : p < ds.length := by
    rcases Nat.lt_or_ge p ds.length with q | q
    · exact q
    · rw [List.getElem?_eq_none q] at hd; cases hd
  unfold mixD
  rw [take_snoc hd, List.append_assoc, List.set_append_right _ _ (by rw [List.length_take]; omega), List.length_take, show p - min p ds.length = 0 by omega]
  rfl
/-- What isNext leaves in the slice. -/
def nxtL (gs : List Gt) (ds : List Int) : List Int := (nextD (gSp gs) ds).getD (leastD (gSp gs))
def nxtQ (gs : List Gt) (ds : List Int) (cs : List AV) : Prop := cs = iL (nxtL gs ds)
theorem isNext_mut (gs : List Gt) (ds : List Int) {N : Nat} (hN : N = ds.length) (hl : ds.length = gs.length) (hs : N ≤ 1000) (hb : ∀ d ∈ ds, -1000000 ≤ d ∧ d ≤ 1000000) :
    AMut Tryz.prog Tryz.f95 N 1 [encGs gs] (iL ds) (.bool (nextD (gSp gs) ds).isSome) (nxtQ gs ds) := by
  have hgl : (gSp gs).length = gs.length := by unfold gSp; rw [List.length_map]
  have hl2 : ds.length = (gSp gs).length := by omega
  refine AMut.vc .loop ?_
  intro g hn hlo
  replace hn : g.n = 39 := hn
  replace hlo : g.low 1 := hlo
  have e0 : IntKind.i64.wrap (((gs.map cGt).length : Int) - 1) = ((gs.length : Nat) : Int) - 1 := by rw [List.length_map]; exact wrap64 (by omega) (by omega)
  have e0 := congrArg (AV.int .i64) e0
  refine acode_while (fun p : Nat => ⟨[(0, .rsl 0 0 N 1), (1, encGs gs), (5, .int .i64 ((p : Int) - 1))], [(0, .cells (iL (mixD (gSp gs) ds p)))], 1⟩) (fun p => p ≤ gs.length ∧ nextD ((gSp gs).drop p) (ds.drop p) = none) (fun p => p) gs.length ⟨Nat.le_refl _, by have := next_nil hl2; rw [hgl] at this; exact this⟩ ?_ (fun _ _ => hlo) ?_
  · have e1 : some (AObj.cells (iL ds)) = some (.cells (iL (mixD (gSp gs) ds gs.length))) := by
      unfold mixD
      rw [← hl, List.take_length, hl, ← hgl, List.drop_of_length_le (by unfold leastD; rw [List.length_map]; exact Nat.le_refl _), List.append_nil]
    exact St.le.of ⟨by kernel_rfl, rfl, by kernel_rfl, rfl, Eq.trans (by kernel_rfl) e0, rfl, trivial⟩ ⟨Eq.trans (by kernel_rfl) e1, Nat.zero_lt_one, iL_ok _ _, trivial⟩
  · rintro p ⟨hp1, hp2⟩
    replace hp1 : p ≤ gs.length := hp1
    cases p with
    | zero =>
      have e : nextD (gSp gs) ds = none := hp2
      have c : decide (((0 : Nat) : Int) - 1 ≥ 0) = false := by decide
      have v : AV.bool false = .bool (nextD (gSp gs) ds).isSome := by rw [e]; rfl
      have q : nxtQ gs ds (iL (mixD (gSp gs) ds 0)) := by unfold nxtQ nxtL mixD; rw [e]; rfl
      exact ACode.vcM (.br 10 false .nil) hn hlo (.round .cl) ⟨c, _, .refl _, .nil, v, _, rfl, q⟩
    | succ p =>
      refine Exists.elim (getE (show p < ds.length by omega)) fun d hd => ?_
      refine Exists.elim (getE (show p < gs.length by omega)) fun x hx => ?_
      have hsx : (gSp gs)[p]? = some (x.lo, x.hi) := by unfold gSp; rw [List.getElem?_map, hx]; rfl
      obtain ⟨n1, n2⟩ := nxt_none hl2 (by omega) hp2 hd hsx
      have hb2 := hb d (List.mem_of_getElem? hd)
      have c : decide (((p + 1 : Nat) : Int) - 1 ≥ 0) = true := decide_eq_true (by omega)
      have ei : ((p + 1 : Nat) : Int) - 1 = (p : Int) := by omega
      have hml := mix_len hl2 (p + 1)
      have ix1 := ixI (h := hget []) (id := 0) (n := N) ei (show p < N by omega)
      have ix2 := idxW (enc := cGt) ei hx
      have ld := ldI (h := hget [(0, .cells (iL (mixD (gSp gs) ds (p + 1))))]) (id := 0) (l := mixD (gSp gs) ds (p + 1)) rfl (mix_get hd)
      have st1 := stI (h := hget [(0, .cells (iL (mixD (gSp gs) ds (p + 1))))]) (id := 0) (l := mixD (gSp gs) ds (p + 1)) (k := p) (x := IntKind.i64.wrap (d + 1)) rfl (by omega)
      have st2 := stI (h := hget [(0, .cells (iL (mixD (gSp gs) ds (p + 1))))]) (id := 0) (l := mixD (gSp gs) ds (p + 1)) (k := p) (x := x.lo) rfl (by omega)
      have ew : IntKind.i64.wrap (d + 1) = d + 1 := wrap64 (by omega) (by omega)
      rw [ew] at st1
      have m1 := mix_up (g := gSp gs) hl2 hd
      have m2 := mix_lo hl2 hsx
      rw [m1] at st1
      rw [m2] at st2
      have wv : some (⟨.int .i64 (IntKind.i64.wrap (d + 1)), []⟩ : Out) = some ⟨.int .i64 (d + 1), []⟩ := by rw [ew]
      cases hlt : decide (d < x.hi)
      · have hn2 := n2 (of_decide_eq_false hlt)
        have ep : IntKind.i64.wrap (((p + 1 : Nat) : Int) - 1 - 1) = (p : Int) - 1 := by rw [wrap64 (by omega) (by omega)]; omega
        have ep := congrArg (AV.int .i64) ep
        generalize hM : mixD (gSp gs) ds (p + 1) = M at *
        exact ACode.vcM (.br 10 true <| .draw 10 <| .val 15 (.vptr 0 p) [] <| .val 16 (.int .i64 d) [] <| .cells (cGt x) <| .br 23 false <| .cells (cGt x) <| .val 38 (.vptr 0 p) [] <| .val 1 .undef [(0, some (.cells (iL (mixD (gSp gs) ds p))))] .nil) hn hlo (.round .cl)
          ⟨c, by kernel_rfl, mixed, by kernel_rfl, Eq.trans (by kernel_rfl) ix1, Eq.trans (by kernel_rfl) ld, ix2, by kernel_rfl, hlt, ix2, Eq.trans (by kernel_rfl) ix1, Eq.trans (by kernel_rfl) st2, p, ⟨by omega, hn2⟩, Nat.lt_succ_self p,
           St.le.of ⟨by kernel_rfl, rfl, by kernel_rfl, rfl, Eq.trans (by kernel_rfl) ep, rfl, trivial⟩ ⟨by kernel_rfl, Nat.zero_lt_one, iL_ok _ _, trivial⟩⟩
      · have hn1 := n1 (of_decide_eq_true hlt)
        have v : AV.bool true = .bool (nextD (gSp gs) ds).isSome := by rw [hn1]; rfl
        have q : nxtQ gs ds (iL (ds.take p ++ (d + 1) :: (leastD (gSp gs)).drop (p + 1))) := by unfold nxtQ nxtL; rw [hn1]; rfl
        generalize ds.take p ++ (d + 1) :: (leastD (gSp gs)).drop (p + 1) = R at *
        generalize hM : mixD (gSp gs) ds (p + 1) = M at *
        exact ACode.vcM (.br 10 true <| .draw 10 <| .val 15 (.vptr 0 p) [] <| .val 16 (.int .i64 d) [] <| .cells (cGt x) <| .br 23 true <| .val 26 (.vptr 0 p) [] <| .val 27 (.int .i64 d) [] <| .val 28 (.int .i64 (d + 1)) [] <| .val 29 (.vptr 0 p) [] <| .val 1 .undef [(0, some (.cells (iL R)))] .nil) hn hlo (.round .cl)
          ⟨c, by kernel_rfl, mixed, by kernel_rfl, Eq.trans (by kernel_rfl) ix1, Eq.trans (by kernel_rfl) ld, ix2, by kernel_rfl, hlt, Eq.trans (by kernel_rfl) ix1, Eq.trans (by kernel_rfl) ld, Eq.trans (by kernel_rfl) wv, Eq.trans (by kernel_rfl) ix1, Eq.trans (by kernel_rfl) st1, _, .refl _, .nil, v, _, rfl, q⟩
end Go.Proofs.YtjoagmjijbfjkaaGreatDoor
/-
  A SCENE AT WORK: all of its courses.
-/
namespace Go.Proofs.YtjoagmjijbfjkaaGreatDoor
open Go Go.Am
set_option maxRecDepth 100000
set_option maxHeartbeats 4000000
theorem Clone_spec (d : Int) (l : List Int) (hl : (d :: l).length ≤ 100000) : APureF Tryz.prog 96 [encR (d :: l)] (encR (d :: l)) := by
  have ap := app_ints (h := hget [(0, .cells [])]) (i := 0) (nid := 1) (l := d :: l) rfl hl
  have th := thawF_ints 6 (h := hget [(1, .cells (iL (d :: l)))]) (id := 1) (l := d :: l) rfl
  exact APureF.vcM Tryz.func96 (.val 7 (.rsl 1 0 (d :: l).length 1) [(0, none), (1, some (.cells (fl encI (d :: l))))] .nil) rfl rfl ⟨Eq.trans (by kernel_rfl) ap, [1], Eq.trans (by kernel_rfl) th⟩
/-- What is nil is a list of nothing. -/
theorem VRel.nilLst {κ : Nat → Option Nat} {av : Nat → Prop} {w : World} {v : Value} {n : Nat} (h : VRel κ av w .nil v) : VRel κ av w (.lst n []) v := by
  cases h
  exact VR.lst (xs := []) n none 0 (fun _ _ => .nilFunc) (fun _ => rfl) (Nat.le_refl _) (fun i x h => by simp at h) (fun i x h => by simp at h)
theorem APure.toF {P : Program} {f : FuncId} {args : List AV} {r r' : AV} (h : APure P f args r) (hr : ∀ {κ : Nat → Option Nat} {av av' : Nat → Prop} {w : World} {v : Value}, VRel κ av w r v → VRel κ av' w r' v) : APureF P f args r' := fun κ N w cargs hN hg hc =>
  (h κ N w cargs hN hg hc).mono fun _e _w' ⟨v, h1, h2, h3, h4⟩ => ⟨v, h1, h2, h3, hr h4⟩
theorem CloneNil_spec : APureF Tryz.prog 96 [.nil] (encR []) :=
  APure.toF (r := .nil) (APure.vc (args := [.nil]) (r := .nil) Tryz.func96 rfl .nil rfl rfl ⟨trivial, rfl⟩) fun h => by
    cases h
    exact VRel.nilLst (n := 1) VR.nil
theorem isNextNil_spec : APure Tryz.prog 95 [.nil, encGs []] (.bool false) := by
  refine APure.vc Tryz.func95 rfl .loop rfl rfl ?_
  intro g hn hl
  replace hn : g.n = 39 := hn
  replace hl : g.low 0 := hl
  refine acode_while (fun _ : Unit => ⟨[(5, .int .i64 (-1))], [], 0⟩) (fun _ => True) (fun _ => 0) () trivial ?_ (fun _ _ => hl) ?_
  · exact St.le.of ⟨by kernel_rfl, rfl, trivial⟩ trivial
  · intro _ _
    exact ACode.vc (.br 10 false .nil) hn hl (.round .cl) ⟨by decide, _, .refl _, .nil, rB rfl⟩
theorem lists_spec (gs : List Gt) : APure Tryz.prog 64 [encGs gs] (.fn (.func 94) [] [.cptr [encGs gs]]) :=
  APure.vcM Tryz.func64 .nil rfl rfl ⟨[0], by kernel_rfl⟩
/-! ### courses, cell by cell -/
theorem cCr_len (c : Crs) : (cCr c).length = 73 := rfl
theorem cCr_ok (n : Nat) (c : Crs) : okL n (cCr c) = true := by kernel_rfl
theorem crs_ok (n : Nat) (l : List Crs) : okL n (fl cCr l) = true := fl_ok (cCr_ok n) l
theorem thaw_last (n : Nat) (h : Nat → Option AObj) : ∀ {l : List AV} {x x' : AV} {is : List Nat}, okL 0 l = true → thaw (n + 1) h x = some (x', is) → mapO (thaw (n + 1) h) (l ++ [x]) = some (l ++ [x'], is) := by
  intro l
  induction l with
  | nil =>
    intro x x' is _ hx
    simp only [List.nil_append, mapO, hx, List.append_nil]
  | cons a l ih =>
    intro x x' is hl hx
    simp only [okL, Bool.and_eq_true] at hl
    have ea : thaw (n + 1) h a = some (a, []) := by unfold thaw; rw [if_pos hl.1]
    simp only [List.cons_append, mapO, ea, ih hl.2 hx, List.nil_append]
theorem thaw_X {h : Nat → Option AObj} {s : Scn} {c : Nat} {crs : List Crs} (h0 : h c = some (.cells (fl cCr crs))) : thaw 8 h (.agg (cXa s (.rsl c 0 crs.length 73))) = some (encX s crs, [c]) := by
  have e : thaw 8 h (.agg (cXa s (.rsl c 0 crs.length 73))) = (if (AV.agg (cXa s (.rsl c 0 crs.length 73))).ok 0 = true then some (.agg (cXa s (.rsl c 0 crs.length 73)), []) else (mapO (thaw 7 h) (cXa s (.rsl c 0 crs.length 73))).map fun p => (.agg p.1, p.2)) := rfl
  have hno : (AV.agg (cXa s (.rsl c 0 crs.length 73))).ok 0 = false := by
    show okL 0 (cXa s (.rsl c 0 crs.length 73)) = false
    rw [okL_eq]
    unfold cXa
    simp only [List.all_append, List.all_cons, List.all_nil, AV.ok]
    simp
  have hC : thaw 7 h (.rsl c 0 crs.length 73) = some (encCs crs, [c]) := thaw_fl 5 cCr_len (cCr_ok 0) h0
  have hl := thaw_last 6 h (l := cSc s ++ kdL) (x := .rsl c 0 crs.length 73) (by kernel_rfl) hC
  have e2 : cXa s (.rsl c 0 crs.length 73) = (cSc s ++ kdL) ++ [.rsl c 0 crs.length 73] := rfl
  rw [e, hno, e2, hl]
  rfl
theorem thawL_X {h : Nat → Option AObj} {s : Scn} {c : Nat} {crs : List Crs} {ds : List Int} (h0 : h c = some (.cells (fl cCr crs))) : thawL h [.agg (cXa s (.rsl c 0 crs.length 73)), encR ds] = some ([encX s crs, encR ds], [c]) := by
  have e1 : thaw 8 h (encR ds) = some (encR ds, []) := by unfold thaw; exact if_pos rfl
  simp only [thawL, mapO, thaw_X h0, e1]
  rfl
theorem cCr_cell (c : Crs) : (cCr c).all cellB = true := by kernel_rfl
/-- One course more. -/
theorem app_crs {h : Nat → Option AObj} {i j nid : Nat} {l : List Crs} {x : Crs} (h0 : h i = some (.cells (fl cCr l))) (h1 : h j = some (.cells (cCr x))) (hl : l.length ≤ 1000) :
    aAppend Tryz.prog h nid 90 90 (.rsl i 0 l.length 73) (.rsl j 0 1 73) = some ⟨.rsl nid 0 (l.length + 1) 73, [(i, none), (nid, some (.cells (fl cCr (l ++ [x]))))]⟩ := by
  have e : fl cCr (l ++ [x]) = fl cCr l ++ cCr x := by unfold fl; simp
  have hlen : (fl cCr l).length = l.length * 73 := fl_len cCr_len l
  have hcb := cCr_cell x
  have hcl := cCr_len x
  rw [app_exact h0 (by rw [hlen]; omega), e]
  generalize cCr x = X at *
  simp only [aAppend0, ty90, ty119, srcCells, h0, h1]
  have htk : List.take 73 X = X := List.take_of_length_le (by omega)
  have hca := List.all_eq_true.1 hcb
  simp [hlen, hcl, htk]
  exact ⟨hca, by omega⟩
theorem rvL_last {c b : Nat} : ∀ {l : List AV}, okL c l = true → ∀ {x y : AV}, RV c b x y → rvL c b (l ++ [x]) (l ++ [y]) := by
  intro l
  induction l with
  | nil => intro _ x y h; exact ⟨h, trivial⟩
  | cons a l ih =>
    intro hl x y h
    simp only [okL, Bool.and_eq_true] at hl
    exact ⟨RV.eq rfl hl.1, ih hl.2 h⟩
theorem rvL_X {s : Scn} {c b n : Nat} : rvL c b (cXa s (.rsl c 0 n 73)) (cXa s (.rsl b 0 n 73)) :=
  rvL_last (l := cSc s ++ kdL) (by kernel_rfl) .rsl
/-! ### all of them -/
theorem run_get {nx : List Int → Option (List Int)} : ∀ {L : List (List Int)}, runD nx L → ∀ {k : Nat} {a : List Int}, L[k]? = some a → nx a = L[k + 1]? := by
  intro L
  induction L with
  | nil => intro h; exact h.elim
  | cons a L ih =>
    intro h k x hx
    cases L with
    | nil =>
      cases k with
      | zero => cases hx; exact h
      | succ k => simp at hx
    | cons b L =>
      obtain ⟨h1, h2⟩ := h
      cases k with
      | zero => cases hx; exact h1
      | succ k => exact ih h2 hx
/-- The delays after k lists. -/
def dsK (s : Scn) (k : Nat) : List Int := ((allD (gSp s.gates))[k]?).getD (leastD (gSp s.gates))
def moreK (s : Scn) (k : Nat) : Bool := decide (k < (allD (gSp s.gates)).length)
noncomputable def asgW : Code := rfA Tryz.f46
noncomputable def bodW : Code := rfB Tryz.f46
def zX : List AV := [.int .i64 0, .nil, .int .i64 0, .nil, .bool false, .bool false, .bool false, .nilFunc, .bool false, .bool false, .bool false, .nilFunc, .bool false, .bool false, .bool false, .nilFunc, .bool false, .bool false, .bool false, .nilFunc, .bool false, .bool false, .bool false, .nilFunc, .bool false, .bool false, .bool false, .nilFunc, .bool false, .bool false, .bool false, .nilFunc, .nil]
theorem ds_len {s : Scn} (_h : ScOk s) {ds : List Int} (hd : areD (gSp s.gates) ds) : ds.length = s.gates.length := by
  have key : ∀ {g : List Spn} {ds : List Int}, areD g ds → ds.length = g.length := by
    intro g
    induction g with
    | nil => intro ds q; cases ds with
      | nil => rfl
      | cons _ _ => exact q.elim
    | cons a g ih => intro ds q; cases ds with
      | nil => exact q.elim
      | cons d ds => rw [List.length_cons, List.length_cons, ih q.2]
  rw [key hd]; unfold gSp; rw [List.length_map]
theorem ds_bd {s : Scn} (h : ScOk s) {ds : List Int} (hd : areD (gSp s.gates) ds) : ∀ d ∈ ds, -1000000 ≤ d ∧ d ≤ 1000000 := by
  have key : ∀ {g : List Spn} {ds : List Int}, (∀ x ∈ g, 0 ≤ x.1 ∧ x.2 ≤ 60) → areD g ds → ∀ d ∈ ds, 0 ≤ d ∧ d ≤ 60 := by
    intro g
    induction g with
    | nil => intro ds _ q; cases ds with
      | nil => intro d hd; cases hd
      | cons _ _ => exact q.elim
    | cons a g ih => intro ds hg q; cases ds with
      | nil => exact q.elim
      | cons e ds =>
        intro d hd
        have := hg a List.mem_cons_self
        have q1 := q.1.1; have q2 := q.1.2
        rcases List.mem_cons.1 hd with rfl | hd
        · omega
        · exact ih (fun x hx => hg x (List.mem_cons_of_mem _ hx)) q.2 d hd
  intro d hdd
  have := key (fun x hx => by
    obtain ⟨g, hg, rfl⟩ := List.mem_map.1 hx
    have := (gtB_iff.1 (h.gs g hg)).2.2.2.1
    exact ⟨this.1.1, this.2.1.2⟩) hd d hdd
  omega

theorem all_729 {s : Scn} (h : ScOk s) : (allD (gSp s.gates)).length ≤ 729 := by
  have h1 := all_len (sp_two h)
  have h2 : 3 ^ (gSp s.gates).length ≤ 3 ^ 6 := Nat.pow_le_pow_right (by decide) (by unfold gSp; rw [List.length_map]; exact h.gl)
  have : (3 : Nat) ^ 6 = 729 := by decide
  omega
theorem crsP_len (s : Scn) : (crsP s).length = (allD (gSp s.gates)).length := by unfold crsP; rw [List.length_map]
/-- One list of delays, and the next one. -/
structure RndK (s : Scn) (k : Nat) (ds : List Int) : Prop where
  get : (allD (gSp s.gates))[k]? = some ds
  now : dsK s k = ds
  are : areD (gSp s.gates) ds
  nxt : nxtL s.gates ds = dsK s (k + 1)
  isS : (nextD (gSp s.gates) ds).isSome = moreK s (k + 1)
  crs : (crsP s)[k]? = some (ds, farP s ds)
theorem rnd_of {s : Scn} (h : ScOk s) {k : Nat} (hk : k < (allD (gSp s.gates)).length) : ∃ ds, RndK s k ds := by
  obtain ⟨ds, hd⟩ := getE hk
  have hn := run_get (all_run (sp_le h)).2 hd
  refine ⟨ds, hd, by unfold dsK; rw [hd]; rfl, (mem_all h).1 (List.mem_of_getElem? hd), ?_, ?_, ?_⟩
  · unfold nxtL dsK; rw [hn]
  · rw [hn]
    unfold moreK
    rw [Bool.eq_iff_iff, decide_eq_true_eq]
    simp
  · unfold crsP; rw [List.getElem?_map, hd]; rfl

theorem atWork_N (s : Scn) (hs : ScOk s) (hg : s.gates = []) : APure Tryz.prog 46 [encSc s] (encX s (crsP s)) := by
  have h729 := all_729 hs
  have hcl := crsP_len s
  refine APure.vcM Tryz.func46 (.val 2 (.vptr 1 0) [(1, some (.cells zX))] <| .draw 4 <| .call (.agg kdL) <| .val 7 (.agg (cXa s .nil)) [] <| .val 3 (.vptr 5 0) [(5, some (.cells zX))] <| .val 1 .undef [(5, some (.cells (cXa s .nil)))] <|
    .call (.fn (.func 94) [] [.cptr [encGs s.gates]]) <| .inl Tryz.f94 .loop) rfl (by kernel_rfl) ⟨by kernel_rfl, by kernel_rfl, mixed, by kernel_rfl, kinds_spec, by kernel_rfl, by kernel_rfl, by kernel_rfl, by kernel_rfl, lists_spec _, Tryz.func94, ?_⟩
  intro g hn hlo
  replace hn : g.n = 29 := hn
  replace hlo : g.low 9 := hlo
  have hg6 := hs.gl
  refine acode_whileW (fun _ : Unit => ⟨[(0, .yld 8), (1, .cptr [encGs s.gates]), (3, .nil), (7, encGs s.gates), (8, .int .i64 (s.gates.map cGt).length), (9, .int .i64 0)], [(1, .cells zX), (5, .cells (cXa s .nil)), (8, .loop ⟨.ready, none, 23, [(2, .vptr 1 0), (3, .vptr 5 0)], #[11], asgW, bodW⟩)], 9⟩) (fun _ => True) (fun _ => 0) () trivial ?_ ?_
  · refine Wk.trans (Wk.le ?_ (hlo.mono (show 9 ≤ 9 by decide))) (Wk.loopEnv (id := 8) (n := 9) [(2, .vptr 1 0), (3, .vptr 5 0)] rfl ⟨rfl, rfl, rfl, rfl, trivial⟩)
    exact St.le.of ⟨by kernel_rfl, rfl, by kernel_rfl, rfl, by kernel_rfl, rfl, by kernel_rfl, rfl, by kernel_rfl, rfl, by kernel_rfl, rfl, trivial⟩ ⟨by kernel_rfl, (by decide : (1 : Nat) < 9), by kernel_rfl, by kernel_rfl, (by decide : (5 : Nat) < 9), by kernel_rfl, by kernel_rfl, (by decide : (8 : Nat) < 9), by kernel_rfl, trivial⟩
  · intro _ _
    have hno : decide (((0 : Nat) : Int) < ((s.gates.map cGt).length : Int)) = false := by rw [hg]; rfl
    refine ACode.vcM (.br 10 false .nil) hn hlo (.roundW .cl) ⟨hno, _, .refl _, .loop, ?_⟩
    obtain ⟨⟨t0, et0⟩, _⟩ := all_run (sp_le hs)
    have e6 : AV.bool true = .bool (moreK s 0) := by unfold moreK; rw [et0]; rfl
    intro g hn hlo
    replace hn : g.n = 29 := hn
    replace hlo : g.low 9 := hlo
    refine acode_whileW (fun k : Nat => ⟨[(0, .yld 8), (1, .cptr [encGs s.gates]), (3, .nil), (6, .bool (moreK s (k)))], [(1, .cells zX), (5, .cells (cXa s (.rsl 9 0 ((crsP s).take (k)).length 73))), (8, .loop ⟨.ready, none, 23, [(2, .vptr 1 0), (3, .vptr 5 0)], #[11], asgW, bodW⟩), (9, .cells (fl cCr ((crsP s).take (k))))], 10⟩) (fun k => k ≤ (allD (gSp s.gates)).length) (fun k => (allD (gSp s.gates)).length - k) 0 (Nat.zero_le _) ?_ ?_
    · refine Wk.trans (Wk.le ?_ (hlo.mono (show 9 ≤ 10 by decide))) (Wk.ownC 5 32 73 (cs := cXa s .nil) (by kernel_rfl) (by kernel_rfl))
      exact St.le.of ⟨by kernel_rfl, rfl, by kernel_rfl, rfl, by kernel_rfl, rfl, Eq.trans (by kernel_rfl) e6, rfl, trivial⟩ ⟨by kernel_rfl, (by decide : (1 : Nat) < 10), by kernel_rfl, by kernel_rfl, (by decide : (5 : Nat) < 10), by kernel_rfl, by kernel_rfl, (by decide : (8 : Nat) < 10), by kernel_rfl, by kernel_rfl, (by decide : (9 : Nat) < 10), rfl, trivial⟩
    · intro k hk
      replace hk : k ≤ (allD (gSp s.gates)).length := hk
      by_cases hlt : k < (allD (gSp s.gates)).length
      · obtain ⟨ds, R⟩ := rnd_of hs hlt
        have hm : moreK s k = true := decide_eq_true hlt
        have hdl := ds_len hs R.are
        have hfar := far_spec s hs ((crsP s).take k) ds R.are hdl
        have tX := fun (h : Nat → Option AObj) (h0 : h 9 = some (.cells (fl cCr ((crsP s).take k)))) => thawL_X (s := s) (ds := ds) h0
        have ecrs := take_snoc R.crs
        have elen : ((crsP s).take (k + 1)).length = ((crsP s).take k).length + 1 := by rw [ecrs]; simp
        have ap := app_crs (h := hget [(9, .cells (fl cCr ((crsP s).take k))), (17, .cells (cCr (ds, farP s ds)))]) (i := 9) (j := 17) (nid := 21) (l := (crsP s).take k) (x := (ds, farP s ds)) rfl rfl (by rw [List.length_take]; omega)
        rw [← ecrs, ← elen] at ap
        have eds : ds = [] := List.eq_nil_of_length_eq_zero (by rw [hdl, hg]; rfl)
        have hcl0 : APureF Tryz.prog 96 [.nil] (encR ds) := by rw [eds]; exact CloneNil_spec
        have hnx : APure Tryz.prog 95 [.nil, encGs s.gates] (.bool false) := by rw [hg]; exact isNextNil_spec
        have e6 : AV.bool false = .bool (moreK s (k + 1)) := by
          rw [← R.isS, eds, hg]; rfl
        exact ACode.vcM (.br 20 true <| .lent (encR ds) [] <| .draw 8 <| .val 13 (.rsl 9 0 ((crsP s).take k).length 73) [] <| .val 15 (.agg (cXa s (.rsl 9 0 ((crsP s).take k).length 73))) [] <| .lent (.agg (cTab (farP s ds))) [9] <| .val 18 (.agg (cCr (ds, farP s ds))) [] <| .val 19 (.rsl 17 0 1 73) [(17, some (.cells (cCr (ds, farP s ds))))] <|
            .val 20 (.rsl 21 0 ((crsP s).take (k + 1)).length 73) [(9, none), (21, some (.cells (fl cCr ((crsP s).take (k + 1)))))] <| .val 1 .undef [(5, some (.cells (cXa s (.rsl 21 0 ((crsP s).take (k + 1)).length 73))))] <| .call (.bool false) .nil) hn hlo (.roundW .cl)
          ⟨hm, ⟨_, by kernel_rfl, .inr hcl0⟩, by kernel_rfl, mixed, by kernel_rfl, by kernel_rfl, by kernel_rfl, ⟨_, tX _ (by kernel_rfl), .inl ⟨hfar, .inr (by kernel_rfl)⟩⟩, by kernel_rfl, by kernel_rfl, by kernel_rfl, Eq.trans (by kernel_rfl) ap, by kernel_rfl, hnx, k + 1, hlt, mu1 hlt,
            Wk.renC (c := 9) (b := 21) (St.renC.of rfl (.inl (by decide)) ⟨RV.eq (by kernel_rfl) rfl, RV.eq (by kernel_rfl) rfl, RV.eq (by kernel_rfl) rfl, RV.eq (Eq.trans (by kernel_rfl) e6) rfl, trivial⟩
              ⟨rvO.same (by decide : (1 : Nat) < 9) (by kernel_rfl) (by kernel_rfl), rvO.turn (by decide : (5 : Nat) < 9) (by kernel_rfl) rvL_X, rvO.same (by decide : (8 : Nat) < 9) (by kernel_rfl) (by kernel_rfl), rvO.new (by kernel_rfl) (crs_ok _ _), trivial⟩) (hlo.mono (show 9 ≤ 9 by decide))⟩
      · have hm : moreK s k = false := decide_eq_false hlt
        have hall : (crsP s).take k = crsP s := List.take_of_length_le (by omega)
        have tE := fun (h : Nat → Option AObj) (h0 : h 9 = some (.cells (fl cCr ((crsP s).take k)))) => (show thaw 8 h (.agg (cXa s (.rsl 9 0 ((crsP s).take k).length 73))) = some (encX s (crsP s), [9]) by rw [hall] at h0 ⊢; exact thaw_X h0)
        exact ACode.vcM (.br 20 false .nil) hn hlo (.roundW .cl) ⟨hm, _, .refl _, .val 22 (.agg (cXa s (.rsl 9 0 ((crsP s).take k).length 73))) [] <| .val 1 .undef [(1, some (.cells (cXa s (.rsl 9 0 ((crsP s).take k).length 73))))] .nil, by kernel_rfl, by kernel_rfl, [9], tE _ (by kernel_rfl)⟩

theorem atWork_D (s : Scn) (hs : ScOk s) (hg : 0 < s.gates.length) : APure Tryz.prog 46 [encSc s] (encX s (crsP s)) := by
  have h729 := all_729 hs
  have hcl := crsP_len s
  refine APure.vcM Tryz.func46 (.val 2 (.vptr 1 0) [(1, some (.cells zX))] <| .draw 4 <| .call (.agg kdL) <| .val 7 (.agg (cXa s .nil)) [] <| .val 3 (.vptr 5 0) [(5, some (.cells zX))] <| .val 1 .undef [(5, some (.cells (cXa s .nil)))] <|
    .call (.fn (.func 94) [] [.cptr [encGs s.gates]]) <| .inl Tryz.f94 .loop) rfl (by kernel_rfl) ⟨by kernel_rfl, by kernel_rfl, mixed, by kernel_rfl, kinds_spec, by kernel_rfl, by kernel_rfl, by kernel_rfl, by kernel_rfl, lists_spec _, Tryz.func94, ?_⟩
  intro g hn hlo
  replace hn : g.n = 29 := hn
  replace hlo : g.low 9 := hlo
  have hLl : (leastD (gSp s.gates)).length = s.gates.length := by unfold leastD gSp; rw [List.length_map, List.length_map]
  have hg6 := hs.gl
  refine acode_whileW (fun k : Nat => ⟨[(0, .yld 8), (1, .cptr [encGs s.gates]), (3, .rsl 9 0 ((leastD (gSp s.gates)).take k).length 1), (7, encGs s.gates), (8, .int .i64 (s.gates.map cGt).length), (9, .int .i64 k)], [(1, .cells zX), (5, .cells (cXa s .nil)), (8, .loop ⟨.ready, none, 23, [(2, .vptr 1 0), (3, .vptr 5 0)], #[11], asgW, bodW⟩), (9, .cells (iL ((leastD (gSp s.gates)).take k)))], 10⟩) (fun k => k ≤ s.gates.length) (fun k => s.gates.length - k) 0 (Nat.zero_le _) ?_ ?_
  · refine Wk.trans (Wk.le ?_ (hlo.mono (show 9 ≤ 10 by decide))) (Wk.trans (Wk.own 3 1 (by kernel_rfl)) (Wk.loopEnv (id := 8) (n := 9) [(2, .vptr 1 0), (3, .vptr 5 0)] rfl ⟨rfl, rfl, rfl, rfl, trivial⟩))
    exact St.le.of ⟨by kernel_rfl, rfl, by kernel_rfl, rfl, by kernel_rfl, rfl, by kernel_rfl, rfl, by kernel_rfl, rfl, by kernel_rfl, rfl, trivial⟩ ⟨by kernel_rfl, (by decide : (1 : Nat) < 10), by kernel_rfl, by kernel_rfl, (by decide : (5 : Nat) < 10), by kernel_rfl, by kernel_rfl, (by decide : (8 : Nat) < 10), by kernel_rfl, by kernel_rfl, (by decide : (9 : Nat) < 10), rfl, trivial⟩
  · intro k hk
    replace hk : k ≤ s.gates.length := hk
    by_cases hlt : k < s.gates.length
    · refine Exists.elim (getE hlt) fun x hx => ?_
      have ek := congrArg (AV.int .i64) (succ64 (k := k) (by omega))
      have hlx : (leastD (gSp s.gates))[k]? = some x.lo := by unfold leastD gSp; rw [List.getElem?_map, List.getElem?_map, hx]; rfl
      have es := take_snoc hlx
      have el : ((leastD (gSp s.gates)).take (k + 1)).length = ((leastD (gSp s.gates)).take k).length + 1 := by rw [es]; simp
      have ap := app_one (h := hget [(9, .cells (iL ((leastD (gSp s.gates)).take k))), (12, .cells [.int .i64 x.lo])]) (i := 9) (j := 12) (nid := 13) (l := (leastD (gSp s.gates)).take k) (x := x.lo) rfl rfl (by rw [List.length_take]; omega)
      rw [← es, ← el] at ap
      exact ACode.vcM (.br 10 true <| .cells (cGt x) <| .val 18 (.rsl 13 0 ((leastD (gSp s.gates)).take (k + 1)).length 1) [(9, none), (13, some (.cells (iL ((leastD (gSp s.gates)).take (k + 1)))))] .nil) hn hlo (.roundW .cl) ⟨ltLen hlt, idx hx, Eq.trans (by kernel_rfl) ap, k + 1, hlt, mu1 hlt,
        Wk.ren (c := 9) (b := 13) (St.ren.of rfl (by decide) ⟨.inl ⟨by kernel_rfl, rfl⟩, .inl ⟨by kernel_rfl, rfl⟩, .inr ⟨_, _, _, rfl, by kernel_rfl⟩, .inl ⟨by kernel_rfl, rfl⟩, .inl ⟨by kernel_rfl, rfl⟩, .inl ⟨Eq.trans (by kernel_rfl) ek, rfl⟩, trivial⟩
          ⟨.inl ⟨(by decide : (1 : Nat) < 9), by kernel_rfl, by kernel_rfl⟩, .inl ⟨(by decide : (5 : Nat) < 9), by kernel_rfl, by kernel_rfl⟩, .inl ⟨(by decide : (8 : Nat) < 9), by kernel_rfl, by kernel_rfl⟩, .inr ⟨rfl, by kernel_rfl, _, rfl, iL_ok _ _⟩, trivial⟩) (hlo.mono (show 9 ≤ 9 by decide))⟩
    · have hk' : k = s.gates.length := by omega
      refine ACode.vcM (.br 10 false .nil) hn hlo (.roundW .cl) ⟨geLen hlt, _, .refl _, .loop, ?_⟩
      have e3 : AV.rsl 9 0 ((leastD (gSp s.gates)).take k).length 1 = .rsl 9 0 s.gates.length 1 := by rw [List.length_take, hk', hLl, Nat.min_self]
      obtain ⟨⟨t0, et0⟩, _⟩ := all_run (sp_le hs)
      have e9 : some (AObj.cells (iL ((leastD (gSp s.gates)).take k))) = some (.cells (iL (dsK s 0))) := by
        rw [hk', ← hLl, List.take_length]; unfold dsK; rw [et0]; rfl
      have e6 : AV.bool true = .bool (moreK s 0) := by unfold moreK; rw [et0]; rfl
      intro g hn hlo
      replace hn : g.n = 29 := hn
      replace hlo : g.low 9 := hlo
      refine acode_whileW (fun k : Nat => ⟨[(0, .yld 8), (1, .cptr [encGs s.gates]), (3, .rsl 9 0 s.gates.length 1), (6, .bool (moreK s (k)))], [(1, .cells zX), (5, .cells (cXa s (.rsl 10 0 ((crsP s).take (k)).length 73))), (8, .loop ⟨.ready, none, 23, [(2, .vptr 1 0), (3, .vptr 5 0)], #[11], asgW, bodW⟩), (9, .cells (iL (dsK s (k)))), (10, .cells (fl cCr ((crsP s).take (k))))], 11⟩) (fun k => k ≤ (allD (gSp s.gates)).length) (fun k => (allD (gSp s.gates)).length - k) 0 (Nat.zero_le _) ?_ ?_
      · refine Wk.trans (Wk.le ?_ (hlo.mono (show 9 ≤ 11 by decide))) (Wk.ownC 5 32 73 (cs := cXa s .nil) (by kernel_rfl) (by kernel_rfl))
        exact St.le.of ⟨by kernel_rfl, rfl, by kernel_rfl, rfl, Eq.trans (by kernel_rfl) e3, rfl, Eq.trans (by kernel_rfl) e6, rfl, trivial⟩ ⟨by kernel_rfl, (by decide : (1 : Nat) < 11), by kernel_rfl, by kernel_rfl, (by decide : (5 : Nat) < 11), by kernel_rfl, by kernel_rfl, (by decide : (8 : Nat) < 11), by kernel_rfl, Eq.trans (by kernel_rfl) e9, (by decide : (9 : Nat) < 11), iL_ok _ _, by kernel_rfl, (by decide : (10 : Nat) < 11), rfl, trivial⟩
      · intro k hk
        replace hk : k ≤ (allD (gSp s.gates)).length := hk
        by_cases hlt : k < (allD (gSp s.gates)).length
        · obtain ⟨ds, R⟩ := rnd_of hs hlt
          have hm : moreK s k = true := decide_eq_true hlt
          have hdl := ds_len hs R.are
          have hfar := far_spec s hs ((crsP s).take k) ds R.are hdl
          have tX := fun (h : Nat → Option AObj) (h0 : h 10 = some (.cells (fl cCr ((crsP s).take k)))) => thawL_X (s := s) (ds := ds) h0
          have ecrs := take_snoc R.crs
          have elen : ((crsP s).take (k + 1)).length = ((crsP s).take k).length + 1 := by rw [ecrs]; simp
          have ap := app_crs (h := hget [(10, .cells (fl cCr ((crsP s).take k))), (18, .cells (cCr (ds, farP s ds)))]) (i := 10) (j := 18) (nid := 22) (l := (crsP s).take k) (x := (ds, farP s ds)) rfl rfl (by rw [List.length_take]; omega)
          rw [← ecrs, ← elen] at ap
          obtain ⟨d0, l0, edl⟩ : ∃ d0 l0, ds = d0 :: l0 := by
            cases ds with
            | nil => rw [← hdl] at hg; exact absurd hg (Nat.lt_irrefl 0)
            | cons d l => exact ⟨d, l, rfl⟩
          have hcl0 : APureF Tryz.prog 96 [encR ds] (encR ds) := by rw [edl]; exact Clone_spec d0 l0 (by rw [← edl]; omega)
          have tc := fun (h : Nat → Option AObj) (h0 : h 9 = some (.cells (iL (dsK s k)))) => (show thawL h [.rsl 9 0 s.gates.length 1] = some ([encR ds], [9]) by
            rw [R.now] at h0
            have e := thaw_fl (enc := encI) (n := 1) 6 (fun _ => rfl) (fun _ => rfl) h0
            rw [hdl] at e
            simp only [thawL, mapO, e]; rfl)
          have en : some (AObj.cells (iL (dsK s k))) = some (.cells (iL ds)) := by rw [R.now]
          have mutC := isNext_mut s.gates ds (N := s.gates.length) hdl.symm hdl (by omega) (ds_bd hs R.are)
          have e6 : AV.bool (nextD (gSp s.gates) ds).isSome = .bool (moreK s (k + 1)) := by rw [R.isS]
          exact ACode.vcM (.br 20 true <| .lent (encR ds) [9] <| .draw 8 <| .val 13 (.rsl 10 0 ((crsP s).take k).length 73) [] <| .val 15 (.agg (cXa s (.rsl 10 0 ((crsP s).take k).length 73))) [] <| .lent (.agg (cTab (farP s ds))) [10] <| .val 18 (.agg (cCr (ds, farP s ds))) [] <| .val 19 (.rsl 18 0 1 73) [(18, some (.cells (cCr (ds, farP s ds))))] <|
              .val 20 (.rsl 22 0 ((crsP s).take (k + 1)).length 73) [(10, none), (22, some (.cells (fl cCr ((crsP s).take (k + 1)))))] <| .val 1 .undef [(5, some (.cells (cXa s (.rsl 22 0 ((crsP s).take (k + 1)).length 73))))] <| .inl Tryz.f95 <| .nz .nil) hn hlo (.roundW .cl)
            ⟨hm, ⟨_, tc _ (by kernel_rfl), .inr hcl0⟩, by kernel_rfl, mixed, by kernel_rfl, by kernel_rfl, by kernel_rfl, ⟨_, tX _ (by kernel_rfl), .inl ⟨hfar, .inr (by kernel_rfl)⟩⟩, by kernel_rfl, by kernel_rfl, by kernel_rfl, Eq.trans (by kernel_rfl) ap, by kernel_rfl, Tryz.func95,
             AMut.use (id := 9) mutC (by kernel_rfl) rfl (iL_ok 0 ds) (fun _ h => (show _ = iL _ from h) ▸ iL_ok 0 _) (Eq.trans (by kernel_rfl) en) fun cs' hQ => ⟨k + 1, hlt, mu1 hlt,
              Wk.renC (c := 10) (b := 22) (St.renC.of rfl (.inl (by decide)) ⟨RV.eq (by kernel_rfl) rfl, RV.eq (by kernel_rfl) rfl, RV.eq (by kernel_rfl) rfl, RV.eq (Eq.trans (by kernel_rfl) e6) rfl, trivial⟩
                ⟨rvO.same (by decide : (1 : Nat) < 10) (by kernel_rfl) (by kernel_rfl), rvO.turn (by decide : (5 : Nat) < 10) (by kernel_rfl) rvL_X, rvO.same (by decide : (8 : Nat) < 10) (by kernel_rfl) (by kernel_rfl), rvO.same (by decide : (9 : Nat) < 10) (Eq.trans (by kernel_rfl) (show some (AObj.cells cs') = some (.cells (iL (dsK s (k + 1)))) by rw [show cs' = iL (nxtL s.gates ds) from hQ, R.nxt])) (iL_ok _ _), rvO.new (by kernel_rfl) (crs_ok _ _), trivial⟩) (hlo.mono (show 9 ≤ 10 by decide))⟩⟩
        · have hm : moreK s k = false := decide_eq_false hlt
          have hall : (crsP s).take k = crsP s := List.take_of_length_le (by omega)
          have tE := fun (h : Nat → Option AObj) (h0 : h 10 = some (.cells (fl cCr ((crsP s).take k)))) => (show thaw 8 h (.agg (cXa s (.rsl 10 0 ((crsP s).take k).length 73))) = some (encX s (crsP s), [10]) by rw [hall] at h0 ⊢; exact thaw_X h0)
          exact ACode.vcM (.br 20 false .nil) hn hlo (.roundW .cl) ⟨hm, _, .refl _, .val 22 (.agg (cXa s (.rsl 10 0 ((crsP s).take k).length 73))) [] <| .val 1 .undef [(1, some (.cells (cXa s (.rsl 10 0 ((crsP s).take k).length 73))))] .nil, by kernel_rfl, by kernel_rfl, [10], tE _ (by kernel_rfl)⟩

theorem atWork_spec (s : Scn) (hs : ScOk s) : APure Tryz.prog 46 [encSc s] (encX s (crsP s)) := by
  by_cases hg : 0 < s.gates.length
  · exact atWork_D s hs hg
  · exact atWork_N s hs (List.eq_nil_of_length_eq_zero (by omega))
end Go.Proofs.YtjoagmjijbfjkaaGreatDoor
/-
  TRUTHS, ONE AFTER THE OTHER: what the walk wants.
-/
namespace Go.Proofs.YtjoagmjijbfjkaaGreatDoor
open Go Go.Am
set_option maxRecDepth 100000
set_option maxHeartbeats 4000000
/-! bits -/
theorem and64 {a b : Nat} (ha : a < 4096) (hb : b < 4096) : (BitVec.ofInt 64 (a : Int) &&& BitVec.ofInt 64 (b : Int)).toNat = a &&& b := by
  rw [BitVec.ofInt_natCast, BitVec.ofInt_natCast, BitVec.toNat_and, BitVec.toNat_ofNat, BitVec.toNat_ofNat, Nat.mod_eq_of_lt (by omega), Nat.mod_eq_of_lt (by omega)]
theorem bAnd {a b : Nat} (ha : a < 4096) (hb : b < 4096) : IntKind.i64.wrap (BitVec.ofInt IntKind.i64.bits (a : Int) &&& BitVec.ofInt IntKind.i64.bits (b : Int)).toNat = ((a &&& b : Nat) : Int) := by
  have e : (BitVec.ofInt IntKind.i64.bits (a : Int) &&& BitVec.ofInt IntKind.i64.bits (b : Int)).toNat = a &&& b := and64 ha hb
  rw [e]
  have : a &&& b ≤ a := Nat.and_le_left
  exact wrap64 (by omega) (by omega)
theorem two_lt {i : Nat} (h : i < 12) : 2 ^ i < 4096 := Nat.pow_lt_pow_right (by omega) (show i < 12 from h)
theorem and_two (S i : Nat) : S &&& 2 ^ i = if S.testBit i then 2 ^ i else 0 := by
  refine Nat.eq_of_testBit_eq fun j => ?_
  rw [Nat.testBit_and, Nat.testBit_two_pow]
  by_cases h : i = j
  · subst h
    cases hS : S.testBit i <;> simp
  · rw [decide_eq_false h, Bool.and_false]
    split
    · rw [Nat.testBit_two_pow, decide_eq_false h]
    · rw [Nat.zero_testBit]
theorem bHas {S i : Nat} (hS : S < 4096) (hi : i < 12) : (IntKind.i64.wrap (BitVec.ofInt IntKind.i64.bits (S : Int) &&& BitVec.ofInt IntKind.i64.bits ((2 ^ i : Nat) : Int)).toNat != 0) = S.testBit i := by
  rw [bAnd hS (two_lt hi), and_two]
  cases S.testBit i
  · rfl
  · have := Nat.two_pow_pos i
    rw [if_pos rfl, bne_iff_ne]
    omega
theorem bHas0 {S i : Nat} (hS : S < 4096) (hi : i < 12) : (IntKind.i64.wrap (BitVec.ofInt IntKind.i64.bits (S : Int) &&& BitVec.ofInt IntKind.i64.bits ((2 ^ i : Nat) : Int)).toNat == 0) = !S.testBit i := by
  have := bHas hS hi
  rw [← this]
  simp [bne]
theorem bShl {k : Nat} (h : k < 12) : (if ((k : Int) < 0) then (none : Option AV) else some (.int .i64 (IntKind.i64.wrap (1 * 2 ^ (min (k : Int).toNat IntKind.i64.bits))))) = some (.int .i64 ((2 ^ k : Nat) : Int)) := by
  have hm : min (k : Int).toNat IntKind.i64.bits = k := by
    rw [Int.toNat_natCast]
    exact Nat.min_eq_left (show k ≤ 64 by omega)
  rw [if_neg (by omega), hm, Int.one_mul]
  have := two_lt h
  rw [show ((2 : Int) ^ k) = ((2 ^ k : Nat) : Int) from by simp]
  generalize 2 ^ k = z at this ⊢
  rw [wrap64 (by omega) (by omega)]
theorem bShlO {k : Nat} (h : k < 12) : (if ((k : Int) < 0) then (none : Option AV) else some (.int .i64 (IntKind.i64.wrap (1 * 2 ^ (min (k : Int).toNat IntKind.i64.bits))))).map (fun v => (⟨v, []⟩ : Out)) = some ⟨.int .i64 ((2 ^ k : Nat) : Int), []⟩ := by rw [bShl h]; rfl
/-! rows -/
theorem ixTabO {h : Nat → Option AObj} {id off a : Nat} {i : Int} (hi : i = (a : Int)) (ha : a < 6) : (aindexAddr Tryz.prog h 116 (.vptr id off) (.int .i64 i)).map (fun v => (⟨v, []⟩ : Out)) = some ⟨.vptr id (off + 12 * a), []⟩ := by
  subst hi
  simp only [aindexAddr, ty116, ty114]
  rw [if_pos ⟨Int.natCast_nonneg _, by simpa using ha⟩]
  simp [Nat.mul_comm]
theorem ldRowC {h : Nat → Option AObj} {id a : Nat} {c : Crs} (h0 : h id = some (.cells (cCr c))) (ha : a < 6) : aLoad Tryz.prog h 114 (.vptr id (1 + 12 * a)) = some ⟨.agg (cRow (c.2 a)), []⟩ := by
  have e := tab_row (F := c.2) ha
  have e2 : (cCr c).drop (1 + 12 * a) = (cTab c.2).drop (12 * a) := by rw [Nat.add_comm]; rfl
  have hl : 12 ≤ ((cTab c.2).drop (12 * a)).length := by rw [List.length_drop, tab_len]; omega
  simp only [aLoad, ty114, h0, aread, TD.agg, if_true, e2]
  rw [if_pos hl, e]; rfl
theorem ldRow {h : Nat → Option AObj} {id x : Nat} {f : Nat → Tm} (h0 : h id = some (.cells (cRow f))) (hx : x < 6) : aLoad Tryz.prog h 113 (.vptr id (0 + 2 * x)) = some ⟨encTm (f x), []⟩ := by
  have e := row_at (f := f) hx
  have hl : 2 ≤ ((cRow f).drop (2 * x)).length := by rw [List.length_drop]; show 2 ≤ 12 - 2 * x; omega
  simp only [aLoad, ty113, h0, aread, TD.agg, if_true, Nat.zero_add]
  rw [if_pos hl, e]; rfl
def zC : List AV := .nil :: cTab zF
theorem truths_spec (s : Scn) (crs : List Crs) (room set : Nat) : APure Tryz.prog 67 [encX s crs, .int .i64 (room : Int), .int .i64 (set : Int)] (.fn (.func 99) [] [.cptr (cXa s (encCs crs)), .cptr [.int .i64 (room : Int)], .cptr [.int .i64 (set : Int)]]) := by
  have th : thaw 8 (hget [(0, .cells (cXa s (encCs crs))), (1, .cells [.int .i64 (room : Int)]), (2, .cells [.int .i64 (set : Int)])]) (.fn (.func 99) [] [.vptr 0 0, .vptr 1 0, .vptr 2 0]) = some (.fn (.func 99) [] [.cptr (cXa s (encCs crs)), .cptr [.int .i64 (room : Int)], .cptr [.int .i64 (set : Int)]], [0, 1, 2]) := by
    have e1 : thaw 7 (hget [(0, .cells (cXa s (encCs crs))), (1, .cells [.int .i64 (room : Int)]), (2, .cells [.int .i64 (set : Int)])]) (.vptr 0 0) = some (.cptr (cXa s (encCs crs)), [0]) := by
      have := thaw_all 5 (hget [(0, .cells (cXa s (encCs crs))), (1, .cells [.int .i64 (room : Int)]), (2, .cells [.int .i64 (set : Int)])]) (cXa s (encCs crs)) (cX_ok s crs)
      have e : thaw 7 (hget [(0, .cells (cXa s (encCs crs))), (1, .cells [.int .i64 (room : Int)]), (2, .cells [.int .i64 (set : Int)])]) (.vptr 0 0) = (match mapO (thaw 6 (hget [(0, .cells (cXa s (encCs crs))), (1, .cells [.int .i64 (room : Int)]), (2, .cells [.int .i64 (set : Int)])])) (cXa s (encCs crs)) with | some (cs', is) => some (.cptr (cs'.drop 0), 0 :: is) | none => none) := rfl
      rw [e, this]; rfl
    have e : thaw 8 (hget [(0, .cells (cXa s (encCs crs))), (1, .cells [.int .i64 (room : Int)]), (2, .cells [.int .i64 (set : Int)])]) (.fn (.func 99) [] [.vptr 0 0, .vptr 1 0, .vptr 2 0]) = (match mapO (thaw 7 (hget [(0, .cells (cXa s (encCs crs))), (1, .cells [.int .i64 (room : Int)]), (2, .cells [.int .i64 (set : Int)])])) [], mapO (thaw 7 (hget [(0, .cells (cXa s (encCs crs))), (1, .cells [.int .i64 (room : Int)]), (2, .cells [.int .i64 (set : Int)])])) [.vptr 0 0, .vptr 1 0, .vptr 2 0] with | some (fs', i), some (cs', j) => some (.fn (.func 99) fs' cs', i ++ j) | _, _ => none) := rfl
    rw [e]
    simp only [mapO, e1]
    rfl
  exact APure.vcM Tryz.func67 .nil (by kernel_rfl) (by kernel_rfl) ⟨[0, 1, 2], Eq.trans (by kernel_rfl) th⟩
theorem all_spec (s : Scn) (crs : List Crs) (hl : s.marks.length ≤ 8) : APure Tryz.prog 68 [encX s crs] (.int .i64 ((allN s : Nat) : Int)) := by
  have sh := bShlO (k := s.marks.length) (by omega)
  have hlen : ((s.marks.map cMk).length : Int) = (s.marks.length : Int) := by rw [List.length_map]
  rw [← hlen] at sh
  have p := two_lt (i := s.marks.length) (by omega)
  have p0 := Nat.two_pow_pos s.marks.length
  have e : IntKind.i64.wrap (((2 ^ s.marks.length : Nat) : Int) - 1) = ((allN s : Nat) : Int) := by
    unfold allN
    generalize 2 ^ s.marks.length = z at *
    rw [wrap64 (by omega) (by omega)]; omega
  generalize 2 ^ s.marks.length = z at *
  exact APure.vc Tryz.func68 rfl (.val 7 (.int .i64 (z : Int)) [] .nil) (by kernel_rfl) rfl ⟨Eq.trans (by kernel_rfl) sh, rI e⟩
/-! what is known of a mark of a valid scene -/
theorem mk_sm {s : Scn} (h : ScOk s) {m : Mk} (hm : m ∈ s.marks) : smM m := by
  obtain ⟨_, _, h3, _, _, _, h7⟩ := mk_rooms h hm
  exact ⟨by omega, by omega, by omega⟩
theorem win_bad {fin : Int} {f : Nat → Tm} {ms : List Mk} {set j : Nat} (h : okW (winM fin f (ms.take j) set) = false) : okW (winM fin f ms set) = false := by
  rw [Bool.eq_false_iff] at h ⊢
  intro q
  refine h ?_
  have q1 := of_decide_eq_true q
  obtain ⟨w1, w2⟩ := win_iff.1 (show inS (winM fin f ms set) (winM fin f ms set).1 from ⟨Int.le_refl _, q1⟩)
  have w3 : inS (winM fin f (ms.take j) set) (winM fin f ms set).1 := win_iff.2 ⟨w1, fun m hm => w2 m (by
    obtain ⟨i, h1, h2⟩ := mem_pick.1 hm
    rw [List.getElem?_take] at h1
    split at h1
    · exact mem_pick.2 ⟨i, h1, h2⟩
    · cases h1)⟩
  exact decide_eq_true (Int.le_trans w3.1 w3.2)
/-- What a mark says, by its kind's number. -/
theorem says_k {m : Mk} {fin : Int} {r o : Tm} :
    (m.kd.val = 1 → saysV (mrk m) fin r o = inT r m.lo m.hi) ∧ (m.kd.val = 2 → saysV (mrk m) fin r o = afterT r m.lo) ∧ (m.kd.val = 3 → saysV (mrk m) fin r o = untilT r m.hi) ∧
    (m.kd.val = 4 → saysV (mrk m) fin r o = untilT r (fin - m.long)) ∧ (m.kd.val = 5 → saysV (mrk m) fin r o = afterT r (fin - m.long)) ∧ (m.kd.val = 6 → saysV (mrk m) fin r o = if befT r o then (0, 600) else (1, 0)) := by
  unfold saysV mrk
  dsimp only
  refine ⟨fun h => ?_, fun h => ?_, fun h => ?_, fun h => ?_, fun h => ?_, fun h => ?_⟩
  · rw [if_pos (show ((m.kd.val : Nat) : Int) = 1 by omega)]
  · rw [if_neg (show ¬ ((m.kd.val : Nat) : Int) = 1 by omega), if_pos (show ((m.kd.val : Nat) : Int) = 2 by omega)]
  · rw [if_neg (show ¬ ((m.kd.val : Nat) : Int) = 1 by omega), if_neg (show ¬ ((m.kd.val : Nat) : Int) = 2 by omega), if_pos (show ((m.kd.val : Nat) : Int) = 3 by omega)]
  · rw [if_neg (show ¬ ((m.kd.val : Nat) : Int) = 1 by omega), if_neg (show ¬ ((m.kd.val : Nat) : Int) = 2 by omega), if_neg (show ¬ ((m.kd.val : Nat) : Int) = 3 by omega), if_pos (show ((m.kd.val : Nat) : Int) = 4 by omega)]
  · rw [if_neg (show ¬ ((m.kd.val : Nat) : Int) = 1 by omega), if_neg (show ¬ ((m.kd.val : Nat) : Int) = 2 by omega), if_neg (show ¬ ((m.kd.val : Nat) : Int) = 3 by omega), if_neg (show ¬ ((m.kd.val : Nat) : Int) = 4 by omega), if_pos (show ((m.kd.val : Nat) : Int) = 5 by omega)]
  · rw [if_neg (show ¬ ((m.kd.val : Nat) : Int) = 1 by omega), if_neg (show ¬ ((m.kd.val : Nat) : Int) = 2 by omega), if_neg (show ¬ ((m.kd.val : Nat) : Int) = 3 by omega), if_neg (show ¬ ((m.kd.val : Nat) : Int) = 4 by omega), if_neg (show ¬ ((m.kd.val : Nat) : Int) = 5 by omega)]
/-- The kinds, one by one: what is called, and what it answers. -/
theorem say_fn {s : Scn} (hs : ScOk s) {m : Mk} (hm : m ∈ s.marks) {r o : Tm} (hr : smT r) :
    (m.kd.val = 1 ∧ APure Tryz.prog 84 [.agg (cMj m.id 1 m.room m.other m.lo m.hi m.long), .int .i64 s.fin, encTm r, encTm o] (encSp (saysV (mrk m) s.fin r o))) ∨
    (m.kd.val = 2 ∧ APure Tryz.prog 86 [.agg (cMj m.id 2 m.room m.other m.lo m.hi m.long), .int .i64 s.fin, encTm r, encTm o] (encSp (saysV (mrk m) s.fin r o))) ∨
    (m.kd.val = 3 ∧ APure Tryz.prog 88 [.agg (cMj m.id 3 m.room m.other m.lo m.hi m.long), .int .i64 s.fin, encTm r, encTm o] (encSp (saysV (mrk m) s.fin r o))) ∨
    (m.kd.val = 4 ∧ APure Tryz.prog 90 [.agg (cMj m.id 4 m.room m.other m.lo m.hi m.long), .int .i64 s.fin, encTm r, encTm o] (encSp (saysV (mrk m) s.fin r o))) ∨
    (m.kd.val = 5 ∧ APure Tryz.prog 91 [.agg (cMj m.id 5 m.room m.other m.lo m.hi m.long), .int .i64 s.fin, encTm r, encTm o] (encSp (saysV (mrk m) s.fin r o))) ∨
    (m.kd.val = 6 ∧ APure Tryz.prog 92 [.agg (cMj m.id 6 m.room m.other m.lo m.hi m.long), .int .i64 s.fin, encTm r, encTm o] (encSp (saysV (mrk m) s.fin r o))) := by
  obtain ⟨_, _, _, _, k1, k6, _⟩ := mk_rooms hs hm
  have sm := mk_sm hs hm
  have hf := hs.fin
  obtain ⟨q1, q2, q3, q4, q5, q6⟩ := @says_k m s.fin r o
  have e : ∀ j : Nat, m.kd.val = j → cMk m = cMj m.id (j : Int) m.room m.other m.lo m.hi m.long := fun j h => by rw [cMk_eq, h]
  have six : m.kd.val = 1 ∨ m.kd.val = 2 ∨ m.kd.val = 3 ∨ m.kd.val = 4 ∨ m.kd.val = 5 ∨ m.kd.val = 6 := by omega
  rcases six with h | h | h | h | h | h
  · refine .inl ⟨h, ?_⟩
    have := say1 sm s.fin o hr
    rw [e 1 h] at this; rw [q1 h]; exact this
  · refine .inr (.inl ⟨h, ?_⟩)
    have := say2 sm s.fin o hr
    rw [e 2 h] at this; rw [q2 h]; exact this
  · refine .inr (.inr (.inl ⟨h, ?_⟩))
    have := say3 sm s.fin o hr
    rw [e 3 h] at this; rw [q3 h]; exact this
  · refine .inr (.inr (.inr (.inl ⟨h, ?_⟩)))
    have := say4 sm (fin := s.fin) ⟨hf.1, by omega⟩ o hr
    rw [e 4 h] at this; rw [q4 h]; exact this
  · refine .inr (.inr (.inr (.inr (.inl ⟨h, ?_⟩))))
    have := say5 sm (fin := s.fin) ⟨hf.1, by omega⟩ o hr
    rw [e 5 h] at this; rw [q5 h]; exact this
  · refine .inr (.inr (.inr (.inr (.inr ⟨h, ?_⟩))))
    have := say6 m s.fin r o
    rw [e 6 h] at this; rw [q6 h]; exact this
/-- Courses of a valid scene. -/
structure CrOk (s : Scn) (c : Crs) : Prop where
  are : areD (gSp s.gates) c.1
  far : c.2 = farP s c.1
theorem cr_ok {s : Scn} (hs : ScOk s) {c : Crs} (h : c ∈ crsP s) : CrOk s c := by
  unfold crsP at h
  obtain ⟨ds, hd, rfl⟩ := List.mem_map.1 h
  exact ⟨(mem_all hs).1 hd, rfl⟩
theorem CrOk.sm {s : Scn} (hs : ScOk s) {c : Crs} (h : CrOk s c) {r x : Nat} (hr : r < nR s) (hx : x < nR s) : smT (c.2 r x) := fun d e => by
  rw [h.far] at e
  have := far_le hs h.are hr hx e
  omega
/-- All that the walk over one mark asks. -/
structure MkF (s : Scn) (c : Crs) (room set i : Nat) (m : Mk) (SY : Spn) : Prop where
  ov : APure Tryz.prog 100 [encSp (winM s.fin (c.2 room) (s.marks.take i) set), encSp SY] (encSp (winM s.fin (c.2 room) (s.marks.take (i + 1)) set))
  say : (m.kd.val = 1 ∧ APure Tryz.prog 84 [.agg (cMj m.id 1 m.room m.other m.lo m.hi m.long), .int .i64 s.fin, encTm (c.2 room (mrk m).room), encTm (c.2 room (mrk m).other)] (encSp SY)) ∨
    (m.kd.val = 2 ∧ APure Tryz.prog 86 [.agg (cMj m.id 2 m.room m.other m.lo m.hi m.long), .int .i64 s.fin, encTm (c.2 room (mrk m).room), encTm (c.2 room (mrk m).other)] (encSp SY)) ∨
    (m.kd.val = 3 ∧ APure Tryz.prog 88 [.agg (cMj m.id 3 m.room m.other m.lo m.hi m.long), .int .i64 s.fin, encTm (c.2 room (mrk m).room), encTm (c.2 room (mrk m).other)] (encSp SY)) ∨
    (m.kd.val = 4 ∧ APure Tryz.prog 90 [.agg (cMj m.id 4 m.room m.other m.lo m.hi m.long), .int .i64 s.fin, encTm (c.2 room (mrk m).room), encTm (c.2 room (mrk m).other)] (encSp SY)) ∨
    (m.kd.val = 5 ∧ APure Tryz.prog 91 [.agg (cMj m.id 5 m.room m.other m.lo m.hi m.long), .int .i64 s.fin, encTm (c.2 room (mrk m).room), encTm (c.2 room (mrk m).other)] (encSp SY)) ∨
    (m.kd.val = 6 ∧ APure Tryz.prog 92 [.agg (cMj m.id 6 m.room m.other m.lo m.hi m.long), .int .i64 s.fin, encTm (c.2 room (mrk m).room), encTm (c.2 room (mrk m).other)] (encSp SY))
  room : m.room = (((mrk m).room : Nat) : Int) ∧ (mrk m).room < 6
  other : m.other = (((mrk m).other : Nat) : Int) ∧ (mrk m).other < 6
  cell : ∀ j : Nat, m.kd.val = j → some (cMk m) = some (cMj m.id (j : Int) m.room m.other m.lo m.hi m.long)
theorem mk_facts {s : Scn} (hs : ScOk s) {c : Crs} (hco : CrOk s c) {room set i : Nat} (hroom : room < nR s) {m : Mk} (hmi : s.marks[i]? = some m) (hbit : set.testBit i = true) : ∃ SY, MkF s c room set i m SY := by
  have hmm := List.mem_of_getElem? hmi
  have hn6 := nR_eq hs
  obtain ⟨mr1, mr2, _, ⟨mr3, mr4⟩, _⟩ := mk_rooms hs hmm
  refine ⟨saysV (mrk m) s.fin (c.2 room (mrk m).room) (c.2 room (mrk m).other), ?_, say_fn hs hmm (hco.sm hs hroom mr1), ⟨?_, by omega⟩, ⟨?_, by omega⟩, fun j h => by rw [cMk_eq, h]⟩
  · have ov := overlap_spec (winM s.fin (c.2 room) (s.marks.take i) set) (saysV (mrk m) s.fin (c.2 room (mrk m).room) (c.2 room (mrk m).other))
    rw [win_take hmi, hbit]
    exact ov
  · show m.room = (m.room.toNat : Int); omega
  · show m.other = (m.other.toNat : Int); omega
theorem win_no {s : Scn} {c : Crs} {room set i : Nat} {m : Mk} (hmi : s.marks[i]? = some m) (hbit : set.testBit i = false) : winM s.fin (c.2 room) (s.marks.take (i + 1)) set = winM s.fin (c.2 room) (s.marks.take i) set := by
  rw [win_take hmi, hbit]; rfl
theorem gtr_ok (W : Spn) : decide (W.1 > W.2) = !okW W := by
  unfold okW
  rcases Int.lt_or_le W.2 W.1 with q | q
  · rw [decide_eq_true (show W.1 > W.2 from q), decide_eq_false (by omega)]; rfl
  · rw [decide_eq_false (by omega), decide_eq_true q]; rfl
end Go.Proofs.YtjoagmjijbfjkaaGreatDoor
