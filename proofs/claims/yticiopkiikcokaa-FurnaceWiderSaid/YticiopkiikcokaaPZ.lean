import Derived.Test.YticiopkiikcokaaPY
import Derived.Test.YticiopkiikcokaaPo
import Derived.Test.YticiopkiikcokaaNW
/-
  THE LAW OF LOOSER RULES.
-/
namespace Go.Proofs.Yticiopkiikcokaa
open Go Go.Am Go.Srt
def ruO (n : Nat) (u : Ru) : List AV := [.rsl 5 0 n 2, .int .i64 u.single, .int .i64 u.sFrom, .int .i64 u.pLo, .int .i64 u.pHi, .int .i64 u.pFrom]
def m11St (r : Rn) (u : Ru) (y : List Int) (k : Nat) : St :=
  ⟨[(2, .lst 1 (y.map encU)), (3, .vptr 0 0), (4, .vptr 1 0), (7, .bool true), (8, .vptr 8 0), (35, .int .i64 (u.steps.length : Int)), (36, .int .i64 (k : Int))],
    [(0, .cells (runL r)), (1, .cells (ruL u)), (5, .cells (fl encSp (stepsK y u.steps k))), (8, .cells (ruO u.steps.length u))], 8 + 1⟩
theorem m11_le {r : Rn} {u : Ru} {y : List Int} {k : Nat} {S : St} (h2 : elook S.env 2 = .lst 1 (y.map encU)) (h3 : elook S.env 3 = .vptr 0 0) (h4 : elook S.env 4 = .vptr 1 0) (h7 : elook S.env 7 = .bool true) (h8 : elook S.env 8 = .vptr 8 0) (h35 : elook S.env 35 = .int .i64 (u.steps.length : Int)) (h36 : elook S.env 36 = .int .i64 (k : Int))
    (g0 : hget S.H 0 = some (.cells (runL r))) (g1 : hget S.H 1 = some (.cells (ruL u))) (g5 : hget S.H 5 = some (.cells (fl encSp (stepsK y u.steps k)))) (g8 : hget S.H 8 = some (.cells (ruO u.steps.length u))) : (m11St r u y k).le S :=
  St.le.of ⟨h2, rfl, h3, rfl, h4, rfl, h7, rfl, h8, rfl, h35, rfl, h36, rfl, trivial⟩ ⟨g0, (by decide : (0 : Nat) < 8 + 1), rfl, g1, (by decide : (1 : Nat) < 8 + 1), rfl, g5, (by decide : (5 : Nat) < 8 + 1), fl_ok (enc := encSp) (fun _ => rfl) _, g8, (by decide : (8 : Nat) < 8 + 1), rfl, trivial⟩
theorem addE {a M c : Int} (h0 : 0 ≤ c) (h1 : c < 4294967296) (ha : -1000 ≤ a) (hM : a ≤ M) (hM' : M ≤ 3000) : IntKind.i64.wrap (IntKind.i64.wrap (M - a) + 1) ≠ 0 ∧
    some (⟨.int .i64 (IntKind.i64.wrap (a + (IntKind.i64.wrap c).tmod (IntKind.i64.wrap (IntKind.i64.wrap (M - a) + 1)))), []⟩ : Out) = some ⟨.int .i64 (a + c.tmod (M - a + 1)), []⟩ := by
  have e1 : IntKind.i64.wrap (IntKind.i64.wrap (M - a) + 1) = M - a + 1 := by rw [wrap64 (n := M - a) (by omega) (by omega)]; exact wrap64 (by omega) (by omega)
  have e2 : IntKind.i64.wrap c = c := wrap64 (by omega) (by omega)
  have := tm_rng h0 (show 0 < M - a + 1 by omega)
  rw [e1, e2, wrap64 (by omega) (by omega)]
  exact ⟨by omega, rfl⟩
theorem subE {a c : Int} (h0 : 0 ≤ c) (h1 : c < 4294967296) (ha : -100 ≤ a) (hM : a ≤ 3000) : IntKind.i64.wrap (IntKind.i64.wrap (a + 100) + 1) ≠ 0 ∧
    some (⟨.int .i64 (IntKind.i64.wrap (a - (IntKind.i64.wrap c).tmod (IntKind.i64.wrap (IntKind.i64.wrap (a + 100) + 1)))), []⟩ : Out) = some ⟨.int .i64 (a - c.tmod (a + 100 + 1)), []⟩ := by
  have e1 : IntKind.i64.wrap (IntKind.i64.wrap (a + 100) + 1) = a + 100 + 1 := by rw [wrap64 (n := a + 100) (by omega) (by omega)]; exact wrap64 (by omega) (by omega)
  have e2 : IntKind.i64.wrap c = c := wrap64 (by omega) (by omega)
  have := tm_rng h0 (show 0 < a + 100 + 1 by omega)
  rw [e1, e2, wrap64 (by omega) (by omega)]
  exact ⟨by omega, rfl⟩
def ruV (n : Nat) (v : Ru) : List AV := [.rsl 5 0 n 2, .int .i64 v.single, .int .i64 v.sFrom, .int .i64 v.pLo, .int .i64 v.pHi, .int .i64 v.pFrom]
theorem thaw_ruP {h : Nat → Option AObj} {v : Ru} {n : Nat} (hn : n = v.steps.length) (h8 : h 8 = some (.cells (ruV n v))) (h5 : h 5 = some (.cells (fl encSp v.steps))) : thaw 8 h (.vptr 8 0) = some (.cptr (ruL v), [8, 5]) := by
  subst hn
  have t3 : thaw 7 h (.rsl 5 0 v.steps.length 2) = some (.lst 2 (v.steps.map encSp), [5]) := thaw_fl (n := 2) (d := 5) (fun _ => rfl) (fun _ => rfl) h5
  have i1 : ∀ n : Int, thaw 7 h (.int .i64 n) = some (.int .i64 n, []) := fun _ => rfl
  have e : thaw 8 h (.vptr 8 0) = (match h 8 with
      | some (.cells cs) => (match mapO (thaw 7 h) cs with | some (cs', is) => some (.cptr (cs'.drop 0), 8 :: is) | none => none)
      | _ => none) := rfl
  rw [e, h8]
  simp only [ruV, mapO, t3, i1, List.append_nil]
  rfl
theorem thaw_sk {h : Nat → Option AObj} {v : AV} (hv : v.ok 0 = true) : thaw 8 h v = some (v, []) := by unfold thaw; exact if_pos hv
noncomputable def bodyLo : Code := (Try.f11.body).getD .skip
def k1St (a b : List Br) (k : Nat) : St := ⟨[(7, .bool true), (12, .lst 4 (b.map encBr)), (18, .mref 0), (163, .lst 4 (a.map encBr)), (164, .int .i64 ((a.map encBr).length : Int)), (165, .int .i64 (k : Int))], [(0, .map (ents (a.take k)))], 1⟩
theorem k1_le {a b : List Br} {k : Nat} {S : St} (h7 : elook S.env 7 = .bool true) (h12 : elook S.env 12 = .lst 4 (b.map encBr)) (h18 : elook S.env 18 = .mref 0) (h163 : elook S.env 163 = .lst 4 (a.map encBr)) (h164 : elook S.env 164 = .int .i64 ((a.map encBr).length : Int)) (h165 : elook S.env 165 = .int .i64 (k : Int)) (g : hget S.H 0 = some (.map (ents (a.take k)))) : (k1St a b k).le S :=
  St.le.of ⟨h7, rfl, h12, rfl, h18, rfl, h163, rfl, h164, rfl, h165, rfl, trivial⟩ ⟨g, (by decide : (0 : Nat) < 1), okE_ents _ _, trivial⟩
def k2St (a b : List Br) (k : Nat) : St := ⟨[(7, .bool true), (18, .mref 0), (180, .lst 4 (b.map encBr)), (181, .int .i64 ((b.map encBr).length : Int)), (182, .int .i64 (k : Int))], [(0, .map (ents a))], 1⟩
theorem k2_le {a b : List Br} {k : Nat} {S : St} (h7 : elook S.env 7 = .bool true) (h18 : elook S.env 18 = .mref 0) (h180 : elook S.env 180 = .lst 4 (b.map encBr)) (h181 : elook S.env 181 = .int .i64 ((b.map encBr).length : Int)) (h182 : elook S.env 182 = .int .i64 (k : Int)) (g : hget S.H 0 = some (.map (ents a))) : (k2St a b k).le S :=
  St.le.of ⟨h7, rfl, h18, rfl, h180, rfl, h181, rfl, h182, rfl, trivial⟩ ⟨g, (by decide : (0 : Nat) < 1), okE_ents _ _, trivial⟩
set_option maxRecDepth 100000
set_option maxHeartbeats 8000000
/-- The last part: no limit is known to be left more surely. -/
theorem lo3 {a b : List Br} (hla : a.length ≤ 2000) (hlb : b.length ≤ 2000) (huq : Uq a) (hlk : ∀ e ∈ b, decide (e.n > lookN a e) = false) {g : G} (hn : g.n = 200) (hlo0 : g.low 0) :
    ACode Try.prog none g (cdrop 14 bodyLo) (Ret Try.prog Try.f11 (.bool true)) ⟨[(7, .bool true), (10, .lst 4 (a.map encBr)), (12, .lst 4 (b.map encBr))], [], 0⟩ := by
  refine ACode.vcM .loop hn hlo0 .ret ?_
  intro g hn hl
  replace hn : g.n = 200 := hn
  replace hl : g.low 0 := hl.mono (Nat.zero_le _)
  refine acode_while (fun k : Nat => k1St a b k) (fun k => k ≤ a.length) (fun k => a.length - k) 0 (Nat.zero_le _) ?_ (fun _ _ => hl.mono (Nat.zero_le _)) ?_
  · exact k1_le (by kernel_rfl) (by kernel_rfl) (by kernel_rfl) (by kernel_rfl) (by kernel_rfl) (by kernel_rfl) (by kernel_rfl)
  · intro k hk
    replace hk : k ≤ a.length := hk
    by_cases hlt : k < a.length
    · refine Exists.elim (getE hlt) fun e he => ?_
      have ek := congrArg (AV.int .i64) (succ64 (k := k) (by omega))
      have es : some (AObj.map (ents (a.take k ++ [e]))) = some (.map (ents (a.take (k + 1)))) := by rw [take_snoc he]
      have up := updB (h := hget [(0, .map (ents (a.take k))), (1, .cells (encBr e))]) (i := 0) rfl (uq_take huq he)
      exact ACode.vcM (.br 166 true <| .cells (encBr e) <| .val 0 .undef [(0, some (.map (ents (a.take k ++ [e]))))] .nil) hn hl (.round .cl)
        ⟨ltLen hlt, idx he, up, k + 1, hlt, mu1 hlt,
          k1_le (by kernel_rfl) (by kernel_rfl) (by kernel_rfl) (by kernel_rfl) (by kernel_rfl) (Eq.trans (by kernel_rfl) ek) (Eq.trans (by kernel_rfl) es)⟩
    · have hk' : k = a.length := Nat.le_antisymm hk (Nat.le_of_not_lt hlt)
      have et : some (AObj.map (ents (a.take k))) = some (.map (ents a)) := by rw [hk', List.take_length]
      refine ACode.vcM (.br 166 false .nil) hn hl (.round .cl) ⟨geLen hlt, _, .refl _, .loop, ?_⟩
      intro g hn hl
      replace hn : g.n = 200 := hn
      replace hl : g.low 0 := hl.mono (Nat.zero_le _)
      refine acode_while (fun k : Nat => k2St a b k) (fun k => k ≤ b.length) (fun k => b.length - k) 0 (Nat.zero_le _) ?_ (fun _ _ => hl.mono (Nat.zero_le _)) ?_
      · exact k2_le (by kernel_rfl) (by kernel_rfl) (by kernel_rfl) (by kernel_rfl) (by kernel_rfl) (Eq.trans (by kernel_rfl) et)
      · intro k hk
        replace hk : k ≤ b.length := hk
        by_cases hlt : k < b.length
        · refine Exists.elim (getE hlt) fun e he => ?_
          have ek := congrArg (AV.int .i64) (succ64 (k := k) (by omega))
          have d197 := hlk e (List.mem_of_getElem? he)
          have lk := congrArg (fun o => o.map fun v => (⟨v, []⟩ : Out)) (lookB (h := hget [(0, .map (ents a)), (1, .cells (encBr e))]) (i := 0) e rfl)
          exact ACode.vcM (.br 183 true <| .cells (encBr e) <| .draw 11 <| .val 196 (.int .u8 (lookN a e)) [] <| .br 197 false .nil) hn hl (.round .cl)
            ⟨ltLen hlt, idx he, by kernel_rfl, mixed, by kernel_rfl, Eq.trans (by kernel_rfl) lk, by kernel_rfl, d197, k + 1, hlt, mu1 hlt, k2_le (by kernel_rfl) (by kernel_rfl) (by kernel_rfl) (by kernel_rfl) (Eq.trans (by kernel_rfl) ek) (by kernel_rfl)⟩
        · exact ACode.vcM (.br 183 false .nil) hn hl (.round .cl) ⟨geLen hlt, _, .refl _, .nil, trivial, by kernel_rfl⟩
theorem lo2 {r : Rn} {u v : Ru} (hr : RunOk r) (hu : RuOk u) (hC : checkI r u = 0) (hC' : checkI r v = 0) (hLo : Loose u v) {g : G} (hn : g.n = 200) (hlo0 : g.low 0) :
    ACode Try.prog none g (cdrop 9 bodyLo) (Ret Try.prog Try.f11 (.bool true)) ⟨[(3, .cptr (runL r)), (4, .cptr (ruL u)), (7, .bool true), (8, .cptr (ruL v))], [], 0⟩ := by
  have sL := Left_spec r u
  have sL' := Left_spec r v
  have sN := Counts_spec r u
  have sN' := Counts_spec r v
  unfold leftV at sL sL'
  unfold countV at sN sN'
  rw [if_pos hC] at sL sN
  rw [if_pos hC'] at sL' sN'
  have sA := among_spec (leftL r v) (leftL r u) (by have := leftL_len hr v; omega) (by have := leftL_len hr u; omega) (uq_left hr u)
  rw [among_loose hr hu hLo] at sA
  have hcn : decide (countI r v < countI r u) = false := decide_eq_false (by have := count_loose hr hu hLo; omega)
  have hlk : ∀ e ∈ leftL r v, decide (e.n > lookN (leftL r u) e) = false := fun e he => decide_eq_false (by have := (look_loose hr hu hLo he).1; omega)
  have hla := leftL_len hr u
  have hlb := leftL_len hr v
  have huq := uq_left hr u
  generalize leftL r u = a at *
  generalize leftL r v = b at *
  generalize countI r u = c at *
  generalize countI r v = d at *
  exact ACode.cut 4 (fun _ : Unit => ⟨[(7, .bool true), (10, .lst 4 (a.map encBr)), (12, .lst 4 (b.map encBr))], [], 0⟩) (fun _ => True) (.call (.tup [.lst 4 (a.map encBr), .int .i64 0]) <| .call (.tup [.lst 4 (b.map encBr), .int .i64 0]) <| .call (.tup [.int .i64 c, .int .i64 0]) <| .call (.tup [.int .i64 d, .int .i64 0]) <| .br 156 false <| .call (.bool true) .nil) hn hlo0 .ret rfl
    ⟨sL, sL', sN, sN', hcn, sA, (), trivial, Wk.le (St.le.of ⟨by kernel_rfl, rfl, by kernel_rfl, rfl, by kernel_rfl, rfl, trivial⟩ trivial) hlo0⟩ fun _ _ => lo3 hla hlb huq hlk hn hlo0
theorem lo1 {r : Rn} {u : Ru} {y : List Int} (hy : ∀ x ∈ y, 0 ≤ x ∧ x < 4294967296) (hr : RunOk r) (hu : RuOk u) (hC : checkI r u = 0) {g : G} (hn : g.n = 200) (hlo0 : g.low 0) :
    ACode Try.prog none g (cdrop 4 bodyLo) (Ret Try.prog Try.f11 (.bool true)) ⟨[(2, .lst 1 (y.map encU)), (3, .vptr 0 0), (4, .vptr 1 0), (7, .bool true), (8, .vptr 8 0)], [(0, .cells (runL r)), (1, .cells (ruL u)), (5, .cells (fl encSp u.steps)), (8, .cells (ruO u.steps.length u))], 9⟩ := by
  have hul := hu.len
  have g1 := hu.single
  have g2 := hu.sFrom
  have g3 := hu.press
  have g4 := hu.pFrom
  have c1 : APure Try.prog 37 [.lst 1 (y.map encU), .int .i64 1] (.int .u32 (chs y 1)) := choose_spec y 1
  have c2 : APure Try.prog 37 [.lst 1 (y.map encU), .int .i64 2] (.int .u32 (chs y 2)) := choose_spec y 2
  have c3 : APure Try.prog 37 [.lst 1 (y.map encU), .int .i64 3] (.int .u32 (chs y 3)) := choose_spec y 3
  have c4 : APure Try.prog 37 [.lst 1 (y.map encU), .int .i64 4] (.int .u32 (chs y 4)) := choose_spec y 4
  have a1 := addE (chs_rng hy 1).1 (chs_rng hy 1).2 (show -1000 ≤ u.single by omega) (show u.single ≤ 2000 by omega) (by omega)
  have a2 := addE (chs_rng hy 2).1 (chs_rng hy 2).2 (show -1000 ≤ u.sFrom by omega) (show u.sFrom ≤ 600 by omega) (by omega)
  have a3 := subE (chs_rng hy 3).1 (chs_rng hy 3).2 (show -100 ≤ u.pLo by omega) (show u.pLo ≤ 3000 by omega)
  have a4 := addE (chs_rng hy 4).1 (chs_rng hy 4).2 (show -1000 ≤ u.pFrom by omega) (show u.pFrom ≤ 600 by omega) (by omega)
  have hC' := loose_check hy hC
  have hLo := loose_ok hy hu
  have hsl : u.steps.length = (looseR y u).steps.length := (stepsK_len y u.steps _).symm
  have th := fun (h : Nat → Option AObj) (h8 : h 8 = some (.cells (ruV u.steps.length (looseR y u)))) (h5 : h 5 = some (.cells (fl encSp (looseR y u).steps))) => thaw_ruP hsl h8 h5
  refine ACode.cut 4 (fun _ : Unit => ⟨[(3, .cptr (runL r)), (4, .cptr (ruL u)), (7, .bool true), (8, .cptr (ruL (looseR y u)))], [], 0⟩) (fun _ => True) .loop hn hlo0 .ret rfl ?_ fun _ _ => lo2 hr hu hC hC' hLo hn hlo0
  intro g hn hl
  replace hn : g.n = 200 := hn
  replace hl : g.low 0 := hl
  refine acode_while (fun k : Nat => m11St r u y k) (fun k => k ≤ u.steps.length) (fun k => u.steps.length - k) 0 (Nat.zero_le _) ?_ (fun _ _ => hl.mono (Nat.zero_le _)) ?_
  · exact m11_le rfl rfl rfl rfl rfl rfl rfl rfl rfl rfl rfl
  · intro k hk
    by_cases hlt : k < u.steps.length
    · refine Exists.elim (getE hlt) fun s hs => ?_
      have hsp := (hu.step k s hs).2
      have hL : (stepsK y u.steps k)[k]? = some s := (stepsK_ge y u.steps k k (Nat.le_refl _)).trans hs
      have hset : some (AObj.cells (fl encSp ((stepsK y u.steps k).set k ⟨s.f, nP y k s⟩))) = some (.cells (fl encSp (stepsK y u.steps (k + 1)))) := by simp only [stepsK, hs]
      have hlL := stepsK_len y u.steps k
      have d37 : decide ((k : Int) < (u.steps.length : Int)) = true := decide_eq_true (by omega)
      have ek := congrArg (AV.int .i64) (succ64 (k := k) (by omega))
      have ix := ixP (h := hget []) (id := 5) (n := u.steps.length) (i := (k : Int)) rfl hlt
      have ch := choose_spec y k
      have er := addE (chs_rng hy k).1 (chs_rng hy k).2 (show -1000 ≤ s.p by omega) (show s.p ≤ 1000 by omega) (by omega)
      have e58 : some (⟨.int .i64 (IntKind.i64.wrap (s.p + (IntKind.i64.wrap (chs y k)).tmod (IntKind.i64.wrap (IntKind.i64.wrap (1000 - s.p) + 1)))), []⟩ : Out) = some ⟨.int .i64 (nP y k s), []⟩ := er.2
      generalize nP y k s = V at *
      have ld := ldP (h := hget [(0, .cells (runL r)), (1, .cells (ruL u)), (5, .cells (fl encSp (stepsK y u.steps k))), (8, .cells (ruO u.steps.length u))]) (id := 5) (l := stepsK y u.steps k) rfl hL
      have st := stP (h := hget [(0, .cells (runL r)), (1, .cells (ruL u)), (5, .cells (fl encSp (stepsK y u.steps k))), (8, .cells (ruO u.steps.length u))]) (id := 5) (l := stepsK y u.steps k) (p := V) rfl hL
      exact ACode.vcM (.br 37 true <| .draw 19 <| .val 42 (.vptr 5 (0 + k * 2)) [] <| .val 44 (.int .i64 s.p) [] <| .call (.int .u32 (chs y k)) <| .val 52 (.vptr 5 (0 + k * 2)) [] <| .val 54 (.int .i64 s.p) [] <| .nz <| .val 58 (.int .i64 V) [] <| .val 59 (.vptr 5 (0 + k * 2)) [] <|
          .val 1 .undef [(5, some (.cells (fl encSp ((stepsK y u.steps k).set k ⟨s.f, V⟩))))] .nil) hn hl (.round .cl)
        ⟨d37, by kernel_rfl, mixed, by kernel_rfl, Eq.trans (by kernel_rfl) ix, Eq.trans (by kernel_rfl) ld, ch, Eq.trans (by kernel_rfl) ix, Eq.trans (by kernel_rfl) ld, er.1, by kernel_rfl, Eq.trans (by kernel_rfl) e58, Eq.trans (by kernel_rfl) ix, Eq.trans (by kernel_rfl) st,
          k + 1, hlt, mu1 hlt, m11_le rfl rfl rfl rfl rfl rfl ek rfl rfl hset rfl⟩
    · have hk' : k = u.steps.length := Nat.le_antisymm hk (Nat.le_of_not_lt hlt)
      have d37 : decide ((k : Int) < (u.steps.length : Int)) = false := decide_eq_false (by omega)
      have o5 : some (AObj.cells (fl encSp (stepsK y u.steps k))) = some (.cells (fl encSp (looseR y u).steps)) := by rw [hk']; rfl
      exact ACode.vcM (.br 37 false .nil) hn hl (.round .cl) ⟨d37, _, .refl _,
          .draw 10 <| .call (.int .u32 (chs y 1)) <| .nz <| .val 72 (.int .i64 (looseR y u).single) [] <| .draw 10 <| .call (.int .u32 (chs y 2)) <| .nz <| .val 84 (.int .i64 (looseR y u).sFrom) [] <|
          .draw 12 <| .call (.int .u32 (chs y 3)) <| .nz <| .val 98 (.int .i64 (looseR y u).pLo) [] <| .draw 10 <| .call (.int .u32 (chs y 4)) <| .nz <| .val 111 (.int .i64 (looseR y u).pFrom) [] .nil,
          by kernel_rfl, mixed, by kernel_rfl, c1, a1.1, by kernel_rfl, Eq.trans (by kernel_rfl) a1.2, by kernel_rfl, mixed, by kernel_rfl, c2, a2.1, by kernel_rfl, Eq.trans (by kernel_rfl) a2.2,
          by kernel_rfl, mixed, by kernel_rfl, c3, a3.1, by kernel_rfl, Eq.trans (by kernel_rfl) a3.2, by kernel_rfl, mixed, by kernel_rfl, c4, a4.1, by kernel_rfl, Eq.trans (by kernel_rfl) a4.2, (), trivial,
          Wk.all ⟨⟨[0], by kernel_rfl⟩, ⟨[1], by kernel_rfl⟩, ⟨_, thaw_sk rfl⟩, ⟨_, th _ (by kernel_rfl) (Eq.trans (by kernel_rfl) o5)⟩, trivial⟩ hlo0⟩
theorem law11 (r : Rn) (u : Ru) (y : List Int) (hy : ∀ x ∈ y, 0 ≤ x ∧ x < 4294967296) : APure Try.prog 11 [encRn r, encRu u, .lst 1 (y.map encU)] (.bool true) := by
  have sR := ready_spec r u
  by_cases hrd : readyB r u = true
  · rw [hrd] at sR
    have hC := ready_out hrd
    have hr := runB_out (checkI_ok hC).1
    have hu := rulesB_out (checkI_ok hC).2
    have hul := hu.len
    have ap := app29 (h := hget [(4, .cells [])]) (i := 4) (nid := 5) (l := u.steps) rfl (by omega)
    refine APure.intro Try.func11 rfl (by kernel_rfl) rfl fun g hn hlo0 => ?_
    replace hn : g.n = 200 := hn
    exact ACode.cut 4 (fun _ : Unit => ⟨[(2, .lst 1 (y.map encU)), (3, .vptr 0 0), (4, .vptr 1 0), (7, .bool true), (8, .vptr 8 0)], [(0, .cells (runL r)), (1, .cells (ruL u)), (5, .cells (fl encSp u.steps)), (8, .cells (ruO u.steps.length u))], 9⟩) (fun _ => True) (.call (.bool true) <| .call (.bool true) <| .inl Try.f24 <| .val 6 (.rsl 5 0 u.steps.length 2) [(4, none), (5, some (.cells (fl encSp u.steps)))] .nil) hn hlo0 .ret rfl
      ⟨alive_spec, sR, Try.func24, Eq.trans (by kernel_rfl) ap, (), trivial, Wk.le (St.le.of ⟨by kernel_rfl, rfl, by kernel_rfl, rfl, by kernel_rfl, rfl, by kernel_rfl, rfl, by kernel_rfl, rfl, trivial⟩ ⟨by kernel_rfl, (by decide : (0 : Nat) < 9), by kernel_rfl, by kernel_rfl, (by decide : (1 : Nat) < 9), by kernel_rfl, by kernel_rfl, (by decide : (5 : Nat) < 9), fl_ok (enc := encSp) (fun _ => rfl) _, by kernel_rfl, (by decide : (8 : Nat) < 9), rfl, trivial⟩) (hlo0.mono (Nat.zero_le _))⟩ fun _ _ => lo1 hy hr hu hC hn hlo0
  · have hrd' : readyB r u = false := by simpa using hrd
    rw [hrd'] at sR
    exact APure.vc Try.func11 rfl (.call (.bool true) <| .call (.bool false) .nil) rfl rfl ⟨alive_spec, sR, rB rfl⟩
end Go.Proofs.Yticiopkiikcokaa
