import Derived.Test.YticiopkiikcokaaPZ
import Derived.Test.YticiopkiikcokaaPW
/-
  THE LAW OF WIDER ERRORS AND LAGS: its last parts.
-/
namespace Go.Proofs.Yticiopkiikcokaa
open Go Go.Am Go.Srt
noncomputable def bodyWi : Code := (Try.f10.body).getD .skip
def w1St (a b : List Br) (k : Nat) : St := ⟨[(7, .bool true), (13, .lst 4 (b.map encBr)), (19, .mref 0), (196, .lst 4 (a.map encBr)), (197, .int .i64 ((a.map encBr).length : Int)), (198, .int .i64 (k : Int))], [(0, .map (ents (a.take k)))], 1⟩
theorem w1_le {a b : List Br} {k : Nat} {S : St} (h7 : elook S.env 7 = .bool true) (h13 : elook S.env 13 = .lst 4 (b.map encBr)) (h19 : elook S.env 19 = .mref 0) (h196 : elook S.env 196 = .lst 4 (a.map encBr)) (h197 : elook S.env 197 = .int .i64 ((a.map encBr).length : Int)) (h198 : elook S.env 198 = .int .i64 (k : Int)) (g : hget S.H 0 = some (.map (ents (a.take k)))) : (w1St a b k).le S :=
  St.le.of ⟨h7, rfl, h13, rfl, h19, rfl, h196, rfl, h197, rfl, h198, rfl, trivial⟩ ⟨g, (by decide : (0 : Nat) < 1), okE_ents _ _, trivial⟩
def w2St (a b : List Br) (k : Nat) : St := ⟨[(7, .bool true), (19, .mref 0), (213, .lst 4 (b.map encBr)), (214, .int .i64 ((b.map encBr).length : Int)), (215, .int .i64 (k : Int))], [(0, .map (ents a))], 1⟩
theorem w2_le {a b : List Br} {k : Nat} {S : St} (h7 : elook S.env 7 = .bool true) (h19 : elook S.env 19 = .mref 0) (h213 : elook S.env 213 = .lst 4 (b.map encBr)) (h214 : elook S.env 214 = .int .i64 ((b.map encBr).length : Int)) (h215 : elook S.env 215 = .int .i64 (k : Int)) (g : hget S.H 0 = some (.map (ents a))) : (w2St a b k).le S :=
  St.le.of ⟨h7, rfl, h19, rfl, h213, rfl, h214, rfl, h215, rfl, trivial⟩ ⟨g, (by decide : (0 : Nat) < 1), okE_ents _ _, trivial⟩
set_option maxRecDepth 100000
set_option maxHeartbeats 8000000
/-- The last part: no limit is surely left that was not. -/
theorem wi3 {a b : List Br} (hla : a.length ≤ 2000) (hlb : b.length ≤ 2000) (huq : Uq a) (hlk : ∀ e ∈ b, e.n = 2 → lookN a e = 2) {g : G} (hn : g.n = 236) (hlo0 : g.low 0) :
    ACode Try.prog none g (cdrop 11 bodyWi) (Ret Try.prog Try.f10 (.bool true)) ⟨[(7, .bool true), (11, .lst 4 (a.map encBr)), (13, .lst 4 (b.map encBr))], [], 0⟩ := by
  refine ACode.vcM .loop hn hlo0 .ret ?_
  intro g hn hl
  replace hn : g.n = 236 := hn
  replace hl : g.low 0 := hl.mono (Nat.zero_le _)
  refine acode_while (fun k : Nat => w1St a b k) (fun k => k ≤ a.length) (fun k => a.length - k) 0 (Nat.zero_le _) ?_ (fun _ _ => hl.mono (Nat.zero_le _)) ?_
  · exact w1_le (by kernel_rfl) (by kernel_rfl) (by kernel_rfl) (by kernel_rfl) (by kernel_rfl) (by kernel_rfl) (by kernel_rfl)
  · intro k hk
    replace hk : k ≤ a.length := hk
    by_cases hlt : k < a.length
    · refine Exists.elim (getE hlt) fun e he => ?_
      have ek := congrArg (AV.int .i64) (succ64 (k := k) (by omega))
      have es : some (AObj.map (ents (a.take k ++ [e]))) = some (.map (ents (a.take (k + 1)))) := by rw [take_snoc he]
      have up := updB (h := hget [(0, .map (ents (a.take k))), (1, .cells (encBr e))]) (i := 0) rfl (uq_take huq he)
      exact ACode.vcM (.br 199 true <| .cells (encBr e) <| .val 0 .undef [(0, some (.map (ents (a.take k ++ [e]))))] .nil) hn hl (.round .cl)
        ⟨ltLen hlt, idx he, up, k + 1, hlt, mu1 hlt,
          w1_le (by kernel_rfl) (by kernel_rfl) (by kernel_rfl) (by kernel_rfl) (by kernel_rfl) (Eq.trans (by kernel_rfl) ek) (Eq.trans (by kernel_rfl) es)⟩
    · have hk' : k = a.length := Nat.le_antisymm hk (Nat.le_of_not_lt hlt)
      have et : some (AObj.map (ents (a.take k))) = some (.map (ents a)) := by rw [hk', List.take_length]
      refine ACode.vcM (.br 199 false .nil) hn hl (.round .cl) ⟨geLen hlt, _, .refl _, .loop, ?_⟩
      intro g hn hl
      replace hn : g.n = 236 := hn
      replace hl : g.low 0 := hl.mono (Nat.zero_le _)
      refine acode_while (fun k : Nat => w2St a b k) (fun k => k ≤ b.length) (fun k => b.length - k) 0 (Nat.zero_le _) ?_ (fun _ _ => hl.mono (Nat.zero_le _)) ?_
      · exact w2_le (by kernel_rfl) (by kernel_rfl) (by kernel_rfl) (by kernel_rfl) (by kernel_rfl) (Eq.trans (by kernel_rfl) et)
      · intro k hk
        replace hk : k ≤ b.length := hk
        by_cases hlt : k < b.length
        · refine Exists.elim (getE hlt) fun e he => ?_
          have ek := congrArg (AV.int .i64) (succ64 (k := k) (by omega))
          have lk := congrArg (fun o => o.map fun v => (⟨v, []⟩ : Out)) (lookB (h := hget [(0, .map (ents a)), (1, .cells (encBr e))]) (i := 0) e rfl)
          by_cases h2 : e.n = 2
          · have d222 : (e.n == 2) = true := by rw [h2]; rfl
            have d232 : (lookN a e != 2) = false := by rw [hlk e (List.mem_of_getElem? he) h2]; rfl
            exact ACode.vcM (.br 216 true <| .cells (encBr e) <| .br 222 true <| .val 231 (.int .u8 (lookN a e)) [] <| .br 233 false .nil) hn hl (.round .cl)
              ⟨ltLen hlt, idx he, d222, Eq.trans (by kernel_rfl) lk, d232, k + 1, hlt, mu1 hlt, w2_le (by kernel_rfl) (by kernel_rfl) (by kernel_rfl) (by kernel_rfl) (Eq.trans (by kernel_rfl) ek) (by kernel_rfl)⟩
          · have d222 : (e.n == 2) = false := by rw [beq_eq_false_iff_ne]; exact h2
            exact ACode.vcM (.br 216 true <| .cells (encBr e) <| .br 222 false .nil) hn hl (.round .cl)
              ⟨ltLen hlt, idx he, d222, k + 1, hlt, mu1 hlt, w2_le (by kernel_rfl) (by kernel_rfl) (by kernel_rfl) (by kernel_rfl) (Eq.trans (by kernel_rfl) ek) (by kernel_rfl)⟩
        · exact ACode.vcM (.br 216 false .nil) hn hl (.round .cl) ⟨geLen hlt, _, .refl _, .nil, trivial, by kernel_rfl⟩
theorem wi2 {r v : Rn} {u : Ru} (hr : RunOk r) (hr' : RunOk v) (hC : checkI r u = 0) (hC' : checkI v u = 0) (hW : Wide r v) {g : G} (hn : g.n = 236) (hlo0 : g.low 0) :
    ACode Try.prog none g (cdrop 6 bodyWi) (Ret Try.prog Try.f10 (.bool true)) ⟨[(3, .cptr (runL r)), (4, .cptr (ruL u)), (7, .bool true), (8, .cptr (runL v))], [], 0⟩ := by
  have sL := Left_spec r u
  have sL' := Left_spec v u
  have sN := Counts_spec r u
  have sN' := Counts_spec v u
  unfold leftV at sL sL'
  unfold countV at sN sN'
  rw [if_pos hC] at sL sN
  rw [if_pos hC'] at sL' sN'
  have sA := among_spec (leftL r u) (leftL v u) (by have := leftL_len hr u; omega) (by have := leftL_len hr' u; omega) (uq_left hr' u)
  rw [among_wide hr hr' hW u] at sA
  have hcn : decide (countI v u > countI r u) = false := decide_eq_false (by have := count_wide hr hr' hW u; omega)
  have hlk : ∀ e ∈ leftL v u, e.n = 2 → lookN (leftL r u) e = 2 := fun e he h2 => look_wide hr hW u he h2
  have hla := leftL_len hr u
  have hlb := leftL_len hr' u
  have huq := uq_left hr u
  generalize leftL r u = a at *
  generalize leftL v u = b at *
  generalize countI r u = c at *
  generalize countI v u = d at *
  exact ACode.cut 4 (fun _ : Unit => ⟨[(7, .bool true), (11, .lst 4 (a.map encBr)), (13, .lst 4 (b.map encBr))], [], 0⟩) (fun _ => True) (.call (.tup [.lst 4 (a.map encBr), .int .i64 0]) <| .call (.tup [.lst 4 (b.map encBr), .int .i64 0]) <| .call (.tup [.int .i64 c, .int .i64 0]) <| .call (.tup [.int .i64 d, .int .i64 0]) <| .br 189 false <| .call (.bool true) .nil) hn hlo0 .ret rfl
    ⟨sL, sL', sN, sN', hcn, sA, (), trivial, Wk.le (St.le.of ⟨by kernel_rfl, rfl, by kernel_rfl, rfl, by kernel_rfl, rfl, trivial⟩ trivial) hlo0⟩ fun _ _ => wi3 hla hlb huq hlk hn hlo0
end Go.Proofs.Yticiopkiikcokaa

/-
  THE LAW OF WIDER ERRORS AND LAGS.
-/
namespace Go.Proofs.Yticiopkiikcokaa
open Go Go.Am Go.Srt
def rnV (n : Nat) (v : Rn) : List AV := [.int .i64 v.id, .rsl 5 0 v.curve.length 2, .rsl 8 0 n 6, .rsl 11 0 v.rows.length 2, .int .i64 v.gLo, .int .i64 v.gHi]
def m10St (r : Rn) (u : Ru) (y : List Int) (k : Nat) : St :=
  ⟨[(2, .lst 1 (y.map encU)), (3, .vptr 0 0), (4, .vptr 1 0), (7, .bool true), (8, .vptr 14 0), (36, .int .i64 (r.cps.length : Int)), (37, .int .i64 (k : Int))],
    [(0, .cells (runL r)), (1, .cells (ruL u)), (5, .cells (fl encPt r.curve)), (8, .cells (fl encCp (cpsK y r.cps k))), (11, .cells (fl encRw r.rows)), (14, .cells (rnV r.cps.length r))], 14 + 1⟩
theorem m10_le {r : Rn} {u : Ru} {y : List Int} {k : Nat} {S : St} (h2 : elook S.env 2 = .lst 1 (y.map encU)) (h3 : elook S.env 3 = .vptr 0 0) (h4 : elook S.env 4 = .vptr 1 0) (h7 : elook S.env 7 = .bool true) (h8 : elook S.env 8 = .vptr 14 0) (h36 : elook S.env 36 = .int .i64 (r.cps.length : Int)) (h37 : elook S.env 37 = .int .i64 (k : Int))
    (g0 : hget S.H 0 = some (.cells (runL r))) (g1 : hget S.H 1 = some (.cells (ruL u))) (g5 : hget S.H 5 = some (.cells (fl encPt r.curve))) (g8 : hget S.H 8 = some (.cells (fl encCp (cpsK y r.cps k)))) (g11 : hget S.H 11 = some (.cells (fl encRw r.rows))) (g13 : hget S.H 14 = some (.cells (rnV r.cps.length r))) : (m10St r u y k).le S :=
  St.le.of ⟨h2, rfl, h3, rfl, h4, rfl, h7, rfl, h8, rfl, h36, rfl, h37, rfl, trivial⟩ ⟨g0, (by decide : (0 : Nat) < 14 + 1), rfl, g1, (by decide : (1 : Nat) < 14 + 1), rfl, g5, (by decide : (5 : Nat) < 14 + 1), fl_ok (enc := encPt) (fun _ => rfl) _, g8, (by decide : (8 : Nat) < 14 + 1), fl_ok (enc := encCp) (fun _ => rfl) _, g11, (by decide : (11 : Nat) < 14 + 1), fl_ok (enc := encRw) (fun _ => rfl) _, g13, (by decide : (14 : Nat) < 14 + 1), rfl, trivial⟩
theorem subM {a m c : Int} (h0 : 0 ≤ c) (h1 : c < 4294967296) (hm : m ≤ 100) (hm' : 0 ≤ a + m) (hM : a ≤ 2000) : IntKind.i64.wrap (IntKind.i64.wrap (a + m) + 1) ≠ 0 ∧
    some (⟨.int .i64 (IntKind.i64.wrap (a - (IntKind.i64.wrap c).tmod (IntKind.i64.wrap (IntKind.i64.wrap (a + m) + 1)))), []⟩ : Out) = some ⟨.int .i64 (a - c.tmod (a + m + 1)), []⟩ := by
  have e1 : IntKind.i64.wrap (a + m) = a + m := wrap64 (by omega) (by omega)
  rw [e1]
  exact twm h0 h1 hm' (by omega) (by omega) (by omega)
theorem chooseW (y : List Int) {k j : Nat} {n : Int} (hk : k ≤ 1000) (hj : j ≤ 1000) (hn : n = (j : Int)) : APure Try.prog 37 [.lst 1 (y.map encU), .int .i64 (IntKind.i64.wrap ((k : Int) + n))] (.int .u32 (chs y (k + j))) := by
  have e : IntKind.i64.wrap ((k : Int) + n) = ((k + j : Nat) : Int) := by rw [wrap64 (by omega) (by omega)]; omega
  rw [e]; exact choose_spec y (k + j)
theorem thaw_rnP {h : Nat → Option AObj} {v : Rn} {n : Nat} (hn : n = v.cps.length) (h13 : h 14 = some (.cells (rnV n v))) (h5 : h 5 = some (.cells (fl encPt v.curve))) (h8 : h 8 = some (.cells (fl encCp v.cps))) (h11 : h 11 = some (.cells (fl encRw v.rows))) : thaw 8 h (.vptr 14 0) = some (.cptr (runL v), [14, 5, 8, 11]) := by
  subst hn
  have i1 : ∀ n : Int, thaw 7 h (.int .i64 n) = some (.int .i64 n, []) := fun _ => rfl
  have t5 : thaw 7 h (.rsl 5 0 v.curve.length 2) = some (.lst 2 (v.curve.map encPt), [5]) := thaw_fl (n := 2) (d := 5) (fun _ => rfl) (fun _ => rfl) h5
  have t8 : thaw 7 h (.rsl 8 0 v.cps.length 6) = some (.lst 6 (v.cps.map encCp), [8]) := thaw_fl (n := 6) (d := 5) (fun _ => rfl) (fun _ => rfl) h8
  have t11 : thaw 7 h (.rsl 11 0 v.rows.length 2) = some (.lst 2 (v.rows.map encRw), [11]) := thaw_fl (n := 2) (d := 5) (fun _ => rfl) (fun _ => rfl) h11
  have e : thaw 8 h (.vptr 14 0) = (match h 14 with
      | some (.cells cs) => (match mapO (thaw 7 h) cs with | some (cs', is) => some (.cptr (cs'.drop 0), 14 :: is) | none => none)
      | _ => none) := rfl
  rw [e, h13]
  simp only [rnV, mapO, t5, t8, t11, i1, List.append_nil, List.nil_append]
  rfl
set_option maxRecDepth 100000
set_option maxHeartbeats 8000000
theorem wi1 {r : Rn} {u : Ru} {y : List Int} (hy : ∀ x ∈ y, 0 ≤ x ∧ x < 4294967296) (hr : RunOk r) (hC : checkI r u = 0) {g : G} (hn : g.n = 236) (hlo0 : g.low 0) :
    ACode Try.prog none g (cdrop 4 bodyWi) (Ret Try.prog Try.f10 (.bool true)) ⟨[(2, .lst 1 (y.map encU)), (3, .vptr 0 0), (4, .vptr 1 0), (7, .bool true), (8, .vptr 14 0)], [(0, .cells (runL r)), (1, .cells (ruL u)), (5, .cells (fl encPt r.curve)), (8, .cells (fl encCp r.cps)), (11, .cells (fl encRw r.rows)), (14, .cells (rnV r.cps.length r))], 15⟩ := by
  have hcl := hr.cl
  have g3 := hr.gauge
  have c4 : APure Try.prog 37 [.lst 1 (y.map encU), .int .i64 4] (.int .u32 (chs y 4)) := choose_spec y 4
  have a4 := addE (chs_rng hy 4).1 (chs_rng hy 4).2 (show -1000 ≤ r.gHi by omega) (show r.gHi ≤ 20 by omega) (by omega)
  have hR := (checkI_ok hC).1
  have hC' := wide_check hy hC
  have hW := wide_ok hy hR
  have hr' := runB_out (wide_run hy hR)
  have hsl : r.cps.length = (wideR y r).cps.length := (cpsK_len y r.cps _).symm
  have th := fun (h : Nat → Option AObj) (h13 : h 14 = some (.cells (rnV r.cps.length (wideR y r)))) (h5 : h 5 = some (.cells (fl encPt (wideR y r).curve))) (h8 : h 8 = some (.cells (fl encCp (wideR y r).cps))) (h11 : h 11 = some (.cells (fl encRw (wideR y r).rows))) => thaw_rnP hsl h13 h5 h8 h11
  refine ACode.cut 1 (fun _ : Unit => ⟨[(3, .cptr (runL r)), (4, .cptr (ruL u)), (7, .bool true), (8, .cptr (runL (wideR y r)))], [], 0⟩) (fun _ => True) .loop hn hlo0 .ret rfl ?_ fun _ _ => wi2 hr hr' hC hC' hW hn hlo0
  intro g hn hl
  replace hn : g.n = 236 := hn
  replace hl : g.low 0 := hl
  refine acode_while (fun k : Nat => m10St r u y k) (fun k => k ≤ r.cps.length) (fun k => r.cps.length - k) 0 (Nat.zero_le _) ?_ (fun _ _ => hl.mono (Nat.zero_le _)) ?_
  · exact m10_le rfl rfl rfl rfl rfl rfl rfl rfl rfl rfl rfl rfl rfl
  · intro k hk
    by_cases hlt : k < r.cps.length
    · refine Exists.elim (getE hlt) fun c hc => ?_
      obtain ⟨_, q1, q2, _⟩ := hr.cp k c hc
      have hL : (cpsK y r.cps k)[k]? = some c := (cpsK_ge y r.cps k k (Nat.le_refl _)).trans hc
      have hset : cpsK y r.cps (k + 1) = (cpsK y r.cps k).set k (wideC y k c) := by simp only [cpsK, hc]
      have hlL := cpsK_len y r.cps k
      have d38 : decide ((k : Int) < (r.cps.length : Int)) = true := decide_eq_true (by omega)
      have ek := congrArg (AV.int .i64) (succ64 (k := k) (by omega))
      have ix := ixC (h := hget []) (id := 8) hlt
      have k0 := choose_spec y k
      have k1 := chooseW y (k := k) (j := 1) (n := 1) (by omega) (by omega) rfl
      have k2 := chooseW y (k := k) (j := 2) (n := 2) (by omega) (by omega) rfl
      have k3 := chooseW y (k := k) (j := 3) (n := 3) (by omega) (by omega) rfl
      have e1 := subM (m := 50) (chs_rng hy k).1 (chs_rng hy k).2 (by omega) (show 0 ≤ c.eLo + 50 by omega) (by omega)
      have e2 := addE (chs_rng hy (k + 1)).1 (chs_rng hy (k + 1)).2 (show -1000 ≤ c.eHi by omega) (show c.eHi ≤ 50 by omega) (by omega)
      have e3 := twm (chs_rng hy (k + 2)).1 (chs_rng hy (k + 2)).2 (show 0 ≤ c.lLo by omega) (by omega) (show -100 ≤ c.lLo by omega) (by omega)
      have e4 := addE (chs_rng hy (k + 3)).1 (chs_rng hy (k + 3)).2 (show -1000 ≤ c.lHi by omega) (show c.lHi ≤ 3 by omega) (by omega)
      have hw : wideC y k c = ⟨c.id, c.eLo - (chs y k).tmod (c.eLo + 50 + 1), c.eHi + (chs y (k + 1)).tmod (50 - c.eHi + 1), c.lLo - (chs y (k + 2)).tmod (c.lLo + 1), c.lHi + (chs y (k + 3)).tmod (3 - c.lHi + 1), c.brk⟩ := rfl
      have s1 := e1.2
      have s2 := e2.2
      have s3 := e3.2
      have s4 := e4.2
      generalize c.eLo - (chs y k).tmod (c.eLo + 50 + 1) = V1 at hw s1
      generalize c.eHi + (chs y (k + 1)).tmod (50 - c.eHi + 1) = V2 at hw s2
      generalize c.lLo - (chs y (k + 2)).tmod (c.lLo + 1) = V3 at hw s3
      generalize c.lHi + (chs y (k + 3)).tmod (3 - c.lHi + 1) = V4 at hw s4
      have hkl : k < (cpsK y r.cps k).length := by omega
      have o4 : some (AObj.cells (fl encCp (((((cpsK y r.cps k).set k ⟨c.id, V1, c.eHi, c.lLo, c.lHi, c.brk⟩).set k ⟨c.id, V1, V2, c.lLo, c.lHi, c.brk⟩).set k ⟨c.id, V1, V2, V3, c.lHi, c.brk⟩).set k ⟨c.id, V1, V2, V3, V4, c.brk⟩))) = some (.cells (fl encCp (cpsK y r.cps (k + 1)))) := by
        rw [hset, hw, List.set_set, List.set_set, List.set_set]
      generalize cpsK y r.cps k = L at *
      have m1 : (L.set k ⟨c.id, V1, c.eHi, c.lLo, c.lHi, c.brk⟩)[k]? = some ⟨c.id, V1, c.eHi, c.lLo, c.lHi, c.brk⟩ := List.getElem?_set_self hkl
      have m2 : ((L.set k ⟨c.id, V1, c.eHi, c.lLo, c.lHi, c.brk⟩).set k ⟨c.id, V1, V2, c.lLo, c.lHi, c.brk⟩)[k]? = some ⟨c.id, V1, V2, c.lLo, c.lHi, c.brk⟩ := List.getElem?_set_self (by rw [List.length_set]; exact hkl)
      have m3 : (((L.set k ⟨c.id, V1, c.eHi, c.lLo, c.lHi, c.brk⟩).set k ⟨c.id, V1, V2, c.lLo, c.lHi, c.brk⟩).set k ⟨c.id, V1, V2, V3, c.lHi, c.brk⟩)[k]? = some ⟨c.id, V1, V2, V3, c.lHi, c.brk⟩ := List.getElem?_set_self (by rw [List.length_set, List.length_set]; exact hkl)
      have l1 := ldC (h := hget [(8, .cells (fl encCp L))]) (id := 8) (n := c.eLo) (A := [.int .i64 c.id]) (B := [.int .i64 c.eHi, .int .i64 c.lLo, .int .i64 c.lHi, .int .i64 c.brk]) rfl hL rfl rfl
      have t1 := stC (h := hget [(8, .cells (fl encCp L))]) (id := 8) (n := c.eLo) (p := V1) (c' := ⟨c.id, V1, c.eHi, c.lLo, c.lHi, c.brk⟩) (A := [.int .i64 c.id]) (B := [.int .i64 c.eHi, .int .i64 c.lLo, .int .i64 c.lHi, .int .i64 c.brk]) rfl hL rfl rfl rfl
      generalize L.set k ⟨c.id, V1, c.eHi, c.lLo, c.lHi, c.brk⟩ = L1 at *
      have l2 := ldC (h := hget [(8, .cells (fl encCp L1))]) (id := 8) (n := c.eHi) (A := [.int .i64 c.id, .int .i64 V1]) (B := [.int .i64 c.lLo, .int .i64 c.lHi, .int .i64 c.brk]) rfl m1 rfl rfl
      have t2 := stC (h := hget [(8, .cells (fl encCp L1))]) (id := 8) (n := c.eHi) (p := V2) (c' := ⟨c.id, V1, V2, c.lLo, c.lHi, c.brk⟩) (A := [.int .i64 c.id, .int .i64 V1]) (B := [.int .i64 c.lLo, .int .i64 c.lHi, .int .i64 c.brk]) rfl m1 rfl rfl rfl
      generalize L1.set k ⟨c.id, V1, V2, c.lLo, c.lHi, c.brk⟩ = L2 at *
      have l3 := ldC (h := hget [(8, .cells (fl encCp L2))]) (id := 8) (n := c.lLo) (A := [.int .i64 c.id, .int .i64 V1, .int .i64 V2]) (B := [.int .i64 c.lHi, .int .i64 c.brk]) rfl m2 rfl rfl
      have t3 := stC (h := hget [(8, .cells (fl encCp L2))]) (id := 8) (n := c.lLo) (p := V3) (c' := ⟨c.id, V1, V2, V3, c.lHi, c.brk⟩) (A := [.int .i64 c.id, .int .i64 V1, .int .i64 V2]) (B := [.int .i64 c.lHi, .int .i64 c.brk]) rfl m2 rfl rfl rfl
      generalize L2.set k ⟨c.id, V1, V2, V3, c.lHi, c.brk⟩ = L3 at *
      have l4 := ldC (h := hget [(8, .cells (fl encCp L3))]) (id := 8) (n := c.lHi) (A := [.int .i64 c.id, .int .i64 V1, .int .i64 V2, .int .i64 V3]) (B := [.int .i64 c.brk]) rfl m3 rfl rfl
      have t4 := stC (h := hget [(8, .cells (fl encCp L3))]) (id := 8) (n := c.lHi) (p := V4) (c' := ⟨c.id, V1, V2, V3, V4, c.brk⟩) (A := [.int .i64 c.id, .int .i64 V1, .int .i64 V2, .int .i64 V3]) (B := [.int .i64 c.brk]) rfl m3 rfl rfl rfl
      generalize L3.set k ⟨c.id, V1, V2, V3, V4, c.brk⟩ = L4 at *
      exact ACode.vcM (.br 38 true <| .val 43 (.vptr 8 (0 + k * 6)) [] <|
          .draw 17 <| .val 48 (.int .i64 c.eLo) [] <| .call (.int .u32 (chs y k)) <| .val 57 (.int .i64 c.eLo) [] <| .nz <| .val 61 (.int .i64 V1) [] <| .val 1 .undef [(8, some (.cells (fl encCp L1)))] <|
          .draw 18 <| .val 69 (.int .i64 c.eHi) [] <| .call (.int .u32 (chs y (k + 1))) <| .val 79 (.int .i64 c.eHi) [] <| .nz <| .val 83 (.int .i64 V2) [] <| .val 1 .undef [(8, some (.cells (fl encCp L2)))] <|
          .draw 17 <| .val 91 (.int .i64 c.lLo) [] <| .call (.int .u32 (chs y (k + 2))) <| .val 101 (.int .i64 c.lLo) [] <| .nz <| .val 104 (.int .i64 V3) [] <| .val 1 .undef [(8, some (.cells (fl encCp L3)))] <|
          .draw 18 <| .val 112 (.int .i64 c.lHi) [] <| .call (.int .u32 (chs y (k + 3))) <| .val 122 (.int .i64 c.lHi) [] <| .nz <| .val 126 (.int .i64 V4) [] <| .val 1 .undef [(8, some (.cells (fl encCp L4)))] .nil) hn hl (.round .cl)
        ⟨d38, Eq.trans (by kernel_rfl) ix,
          by kernel_rfl, mixed, by kernel_rfl, Eq.trans (by kernel_rfl) l1, k0, Eq.trans (by kernel_rfl) l1, e1.1, by kernel_rfl, Eq.trans (by kernel_rfl) s1, Eq.trans (by kernel_rfl) t1,
          by kernel_rfl, mixed, by kernel_rfl, Eq.trans (by kernel_rfl) l2, k1, Eq.trans (by kernel_rfl) l2, e2.1, by kernel_rfl, Eq.trans (by kernel_rfl) s2, Eq.trans (by kernel_rfl) t2,
          by kernel_rfl, mixed, by kernel_rfl, Eq.trans (by kernel_rfl) l3, k2, Eq.trans (by kernel_rfl) l3, e3.1, by kernel_rfl, Eq.trans (by kernel_rfl) s3, Eq.trans (by kernel_rfl) t3,
          by kernel_rfl, mixed, by kernel_rfl, Eq.trans (by kernel_rfl) l4, k3, Eq.trans (by kernel_rfl) l4, e4.1, by kernel_rfl, Eq.trans (by kernel_rfl) s4, Eq.trans (by kernel_rfl) t4,
          k + 1, hlt, mu1 hlt, m10_le rfl rfl rfl rfl rfl rfl ek rfl rfl rfl o4 rfl rfl⟩
    · have hk' : k = r.cps.length := Nat.le_antisymm hk (Nat.le_of_not_lt hlt)
      have d38 : decide ((k : Int) < (r.cps.length : Int)) = false := decide_eq_false (by omega)
      have o8 : some (AObj.cells (fl encCp (cpsK y r.cps k))) = some (.cells (fl encCp (wideR y r).cps)) := by rw [hk']; rfl
      exact ACode.vcM (.br 38 false .nil) hn hl (.round .cl) ⟨d38, _, .refl _,
          .draw 12 <| .call (.int .u32 (chs y 4)) <| .nz <| .val 143 (.int .i64 (wideR y r).gHi) [] .nil,
          by kernel_rfl, mixed, by kernel_rfl, c4, a4.1, by kernel_rfl, Eq.trans (by kernel_rfl) a4.2, (), trivial,
          Wk.all ⟨⟨[0], by kernel_rfl⟩, ⟨[1], by kernel_rfl⟩, ⟨_, thaw_sk rfl⟩, ⟨_, th _ (by kernel_rfl) (by kernel_rfl) (Eq.trans (by kernel_rfl) o8) (by kernel_rfl)⟩, trivial⟩ hlo0⟩
end Go.Proofs.Yticiopkiikcokaa
