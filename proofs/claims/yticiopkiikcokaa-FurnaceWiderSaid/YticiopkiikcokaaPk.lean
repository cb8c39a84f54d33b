import Derived.Test.YticiopkiikcokaaPj
import Derived.Test.YticiopkiikcokaaPe
namespace Go.Proofs.Yticiopkiikcokaa
open Go Go.Am Go.Srt
def rfFind : Code → Option (Code × Code)
  | .rangeFunc _ _ a b => some (a, b)
  | .seq a b => (match rfFind a with | some p => some p | none => rfFind b)
  | .block _ a => rfFind a
  | .loop a => rfFind a
  | .scope a => rfFind a
  | .cond _ a b => (match rfFind a with | some p => some p | none => rfFind b)
  | _ => none
noncomputable def asg59 : Code := match rfFind (cOf Try.f59) with | some p => p.1 | none => .skip
noncomputable def bod59 : Code := match rfFind (cOf Try.f59) with | some p => p.2 | none => .skip
theorem app_L {h : Nat → Option AObj} {i id : Nat} {l x : List Br} (h0 : h i = some (.cells (brs l))) (hl : l.length + x.length ≤ 10000) :
    aAppend Try.prog h id 49 49 (.rsl i 0 l.length 4) (.lst 4 (x.map encBr)) = some ⟨.rsl id 0 (l ++ x).length 4, [(i, none), (id, some (.cells (brs (l ++ x))))]⟩ := by
  have hb := fl_cellB (enc := encBr) (fun _ => rfl) x
  simp only [aAppend, ty49, ty71, srcCells, map_all (enc := encBr) (n := 4) (fun _ => rfl) x, fl_flatten, h0]
  have e1 : (brs l).length = l.length * 4 := brs_len l
  rw [if_pos (by decide), brs_app, List.length_append, List.length_map]
  exact if_pos ⟨trivial, e1, hb, by show (l.length + x.length) * 32 ≤ 1099511627776; omega⟩
def lsK (r : Rn) (u : Ru) (j k : Nat) : List Br := rawJ r u j ++ rawK r u j k
theorem lsK_succ (r : Rn) (u : Ru) (j k : Nat) : lsK r u j (k + 1) = lsK r u j k ++ limB r u j (k + 1) := by
  unfold lsK; rw [rawK_succ, List.append_assoc]
theorem lsK_zero (r : Rn) (u : Ru) (j : Nat) : lsK r u j 0 = rawJ r u j := by unfold lsK; simp [rawK]
theorem lsK_end (r : Rn) (u : Ru) (j : Nat) : lsK r u j r.rows.length = rawJ r u (j + 1) := by unfold lsK; rw [rawJ_succ]
theorem lsK_len {r : Rn} (hr : RunOk r) (u : Ru) {j k : Nat} (hj : j ≤ 4) (hk : k ≤ 60) : (lsK r u j k).length ≤ 3000 := by
  unfold lsK
  rw [List.length_append]
  have := rawJ_len hr u j
  have := rawK_len hr u j k
  omega
theorem thawF_all (n : Nat) (h : Nat → Option AObj) : ∀ l : List AV, (∀ c ∈ l, c.flat = true) → mapO (thawF (n + 1) h) l = some (l, []) := by
  intro l
  induction l with
  | nil => intro _; rfl
  | cons a l ih =>
    intro hl
    have e : thawF (n + 1) h a = some (a, []) := by unfold thawF; rw [if_pos (hl a List.mem_cons_self)]
    simp only [mapO, e, ih fun c hc => hl c (List.mem_cons_of_mem _ hc), List.nil_append]
theorem thawF_brs {h : Nat → Option AObj} {id : Nat} {l : List Br} (h0 : h id = some (.cells (brs l))) : thawF 8 h (.rsl id 0 l.length 4) = some (.lst 4 (l.map encBr), [id]) := by
  have e : thawF 8 h (.rsl id 0 l.length 4) = (match h id with
      | some (.cells cs) => if 0 + l.length * 4 ≤ cs.length then (match mapO (thawF 7 h) cs with | some (cs', is) => some (.lst 4 (chunks 4 (cs'.drop 0) l.length), id :: is) | none => none) else none
      | _ => none) := rfl
  rw [e, h0]
  simp only []
  have hc : chunks 4 (brs l) l.length = l.map encBr := fl_chunks (enc := encBr) (n := 4) (fun _ => rfl) l
  rw [if_pos (by rw [brs_len]; omega), thawF_all 6 h _ (brs_flat l)]
  simp only [List.drop_zero, hc]
theorem APureF.vcM {P : Program} {f : FuncId} {fn : Func} {args : List AV} {r : AV} (hf : P.funcs[f]? = some fn) (τ : Tp) (ha : okL 0 args = true) (hr : r.ok 0 = true)
    (h : vFn P (vxm P 4) fn args [] 0 τ fun r0 H' _ _ => ∃ is, thawF 8 (hget H') r0 = some (r, is)) : APureF P f args r :=
  .range ha hr (((vFn_ok (vxm_ok P 4)).call h hf).mono fun _ _ _ ⟨_, h⟩ => h)
def fnsL : List AV := [.fn (.func 82) [] [], .fn (.func 83) [] [], .fn (.func 84) [] []]
set_option maxHeartbeats 64000000 in
set_option maxRecDepth 100000 in
theorem breaches_spec {r : Rn} (hr : RunOk r) {u : Ru} (hu : RuOk u) {R : List AV} (hR : R = arrL (mF r) ++ arrL (cF r)) :
    APureF Try.prog 59 [.cptr (runL r ++ R), encRu u] (.lst 4 ((leftL r u).map encBr)) := by
  have hrl := hr.rl
  have sL := limits_spec r u R
  have b0 : ∀ m : Nat, 1 ≤ m → m ≤ r.rows.length → APure Try.prog 80 [.cptr (runL r ++ R), .agg [.int .u8 1, .bool false, .fn (.func 91) [] [capW r R]], .int .i64 (m : Int)] (.lst 4 ((limB r u 0 m).map encBr)) := fun m h1 h2 => broken1 hr R
  have b1 : ∀ m : Nat, 1 ≤ m → m ≤ r.rows.length → APure Try.prog 80 [.cptr (runL r ++ R), .agg [.int .u8 2, .bool false, .fn (.func 93) [] [capW r R, .cptr (ruL u)]], .int .i64 (m : Int)] (.lst 4 ((limB r u 1 m).map encBr)) := fun m h1 h2 => broken2 hr hu hR h1 h2
  have b2 : ∀ m : Nat, 1 ≤ m → m ≤ r.rows.length → APure Try.prog 80 [.cptr (runL r ++ R), .agg [.int .u8 3, .bool true, .fn (.func 95) [] [capW r R, .cptr (ruL u)]], .int .i64 (m : Int)] (.lst 4 ((limB r u 2 m).map encBr)) := fun m h1 h2 => broken3 hr hu R h1 h2
  have b3 : ∀ m : Nat, 1 ≤ m → m ≤ r.rows.length → APure Try.prog 80 [.cptr (runL r ++ R), .agg [.int .u8 4, .bool false, .fn (.func 97) [] [capW r R, .cptr (ruL u)]], .int .i64 (m : Int)] (.lst 4 ((limB r u 3 m).map encBr)) := fun m h1 h2 => broken4 hr u R h1 h2
  have hok : (AV.lst 4 ((leftL r u).map encBr)).ok 0 = true := rfl
  clear hR
  refine APureF.vcM Try.func59 (.call (.lst 3 (limsL r u R)) .loop) rfl hok ⟨sL, ?_⟩
  intro g0 hn0 hl0
  replace hn0 : g0.n = 31 := hn0
  replace hl0 : g0.low 0 := hl0
  refine acode_whileW (fun j : Nat => ⟨[(2, .vptr 0 0), (5, .vptr 2 0), (11, .lst 3 (limsL r u R)), (12, .int .i64 4), (13, .int .i64 (j : Int))],
      [(0, .cells [.cptr (runL r ++ R)]), (2, .cells [.rsl 3 0 (rawJ r u j).length 4]), (3, .cells (brs (rawJ r u j)))], 4⟩)
    (fun j => j ≤ 4) (fun j => 4 - j) 0 (Nat.zero_le _) (Wk.trans (Wk.le ?_ (hl0.mono (Nat.zero_le _))) (Wk.ownC 2 0 4 (cs := [.nil]) rfl rfl)) ?_
  · exact St.le.of ⟨rfl, rfl, rfl, rfl, rfl, rfl, rfl, rfl, rfl, rfl, trivial⟩ ⟨rfl, (by decide : (0 : Nat) < 4), rfl, rfl, (by decide : (2 : Nat) < 4), rfl, rfl, (by decide : (3 : Nat) < 4), rfl, trivial⟩
  · intro j hj
    have hcase : j = 0 ∨ j = 1 ∨ j = 2 ∨ j = 3 ∨ j = 4 := by omega
    rcases hcase with rfl | rfl | rfl | rfl | rfl
    · refine ACode.vcM (.br 14 true <| .cells [.int .u8 1, .bool false, .fn (.func 91) [] [capW r R]] <| .inl Try.f73 <| .inl Try.f88 <| .loop) hn0 hl0 (.roundW .cl) ⟨rfl, ⟨by decide, rfl⟩, Try.func73, Try.func88, ?_⟩
      intro g hn hl
      replace hn : g.n = 19 := hn
      replace hl : g.low 8 := hl
      refine acode_whileW (fun k : Nat => ⟨[(0, .yld 7), (1, .vptr 6 0), (9, .int .i64 (r.rows.map encRw).length), (10, .int .i64 (k : Int))],
          [(0, .cells [.cptr (runL r ++ R)]), (2, .cells [.rsl 8 0 (lsK r u 0 k).length 4]), (4, .cells [.int .u8 1, .bool false, .fn (.func 91) [] [capW r R]]), (6, .cells [.cptr (runL r ++ R)]), (7, .loop ⟨.ready, none, 31, [(2, .vptr 0 0), (5, .vptr 2 0), (7, .vptr 4 0)], #[19], asg59, bod59⟩), (8, .cells (brs (lsK r u 0 k)))], 9⟩)
        (fun k => k ≤ r.rows.length) (fun k => r.rows.length - k) 0 (Nat.zero_le _) (Wk.trans (Wk.renC (c := 8) (b := 3) ?_ hl) (Wk.loopEnv (id := 7) (n := 8) [(2, .vptr 0 0), (5, .vptr 2 0), (7, .vptr 4 0)] rfl ⟨rfl, rfl, rfl, rfl, rfl, rfl, trivial⟩)) ?_
      · have q2 := congrArg (fun l : List Br => AV.rsl 8 0 l.length 4) (lsK_zero r u 0)
        have q3 := congrArg (fun l : List Br => some (AObj.cells (brs l))) (lsK_zero r u 0).symm
        have q4 : RV 8 3 (.rsl 8 0 (lsK r u 0 0).length 4) (.rsl 3 0 (rawJ r u 0).length 4) := by rw [lsK_zero]; exact .rsl
        exact St.renC.of rfl (.inr rfl) ⟨.eq (by kernel_rfl) rfl, .eq (by kernel_rfl) rfl, .eq (by kernel_rfl) rfl, .eq (by kernel_rfl) rfl, trivial⟩
          ⟨rvO.same (by decide : (0 : Nat) < 8) (by kernel_rfl) rfl, rvO.turn (by decide : (2 : Nat) < 8) (ys := [.rsl 3 0 (rawJ r u 0).length 4]) (by kernel_rfl) ⟨q4, trivial⟩, rvO.same (by decide : (4 : Nat) < 8) (by kernel_rfl) rfl, rvO.same (by decide : (6 : Nat) < 8) (by kernel_rfl) rfl, rvO.same (by decide : (7 : Nat) < 8) (by kernel_rfl) rfl,
            rvO.new (Eq.trans (by kernel_rfl) q3) (brs_ok _ _), trivial⟩
      · intro k hk
        have hlen := lsK_len hr u (j := 0) (k := k) (by omega) (by omega)
        by_cases hlt : k < r.rows.length
        · have ek : IntKind.i64.wrap ((k : Int) + 1) = ((k + 1 : Nat) : Int) := succ64 (by omega)
          have sB := b0 (k + 1) (by omega) (by omega)
          rw [← ek] at sB
          have hx := limB_len hr u 0 (k + 1)
          have ap := app_L (h := hget [(8, .cells (brs (lsK r u 0 k)))]) (i := 8) (id := 16) (l := lsK r u 0 k) (x := limB r u 0 (k + 1)) rfl (by omega)
          rw [← lsK_succ] at ap
          exact ACode.vcM (.br 11 true <| .draw 5 <| .call (.lst 4 ((limB r u 0 (k + 1)).map encBr)) <| .val 25 (.rsl 16 0 (lsK r u 0 (k + 1)).length 4) [(8, none), (16, some (.cells (brs (lsK r u 0 (k + 1)))))] .nil) hn hl (.roundW .cl)
            ⟨ltLen hlt, by kernel_rfl, mixed, by kernel_rfl, sB, by kernel_rfl, Eq.trans (by kernel_rfl) ap, k + 1, hlt, mu1 hlt,
              Wk.renC (c := 8) (b := 16) (St.renC.of rfl (.inl (by decide)) ⟨.eq (by kernel_rfl) rfl, .eq (by kernel_rfl) rfl, .eq (by kernel_rfl) rfl, .eq (Eq.trans (by kernel_rfl) (congrArg (AV.int .i64) ek)) rfl, trivial⟩
                ⟨rvO.same (by decide : (0 : Nat) < 8) (by kernel_rfl) rfl, rvO.turn (by decide : (2 : Nat) < 8) (ys := [.rsl 16 0 (lsK r u 0 (k + 1)).length 4]) (by kernel_rfl) ⟨.rsl, trivial⟩, rvO.same (by decide : (4 : Nat) < 8) (by kernel_rfl) rfl, rvO.same (by decide : (6 : Nat) < 8) (by kernel_rfl) rfl, rvO.same (by decide : (7 : Nat) < 8) (by kernel_rfl) rfl,
                  rvO.new (by kernel_rfl) (brs_ok _ _), trivial⟩) hl⟩
        · have hk' : k = r.rows.length := by omega
          subst hk'
          have q3 := congrArg (fun l : List Br => some (AObj.cells (brs l))) (lsK_end r u 0)
          have q4 : RV 3 8 (.rsl 3 0 (rawJ r u 1).length 4) (.rsl 8 0 (lsK r u 0 r.rows.length).length 4) := by rw [lsK_end]; exact .rsl
          exact ACode.vcM (.br 11 false .nil) hn hl (.roundW .cl) ⟨geLen hlt, _, .refl _, .nil, 1, (by decide : 1 ≤ 4), (by decide : 4 - 1 < 4 - 0),
            Wk.renC (c := 3) (b := 8) (St.renC.of rfl (.inl (by decide)) ⟨.eq (by kernel_rfl) rfl, .eq (by kernel_rfl) rfl, .eq (by kernel_rfl) rfl, .eq (by kernel_rfl) rfl, .eq (by kernel_rfl) rfl, trivial⟩
              ⟨rvO.same (by decide : (0 : Nat) < 3) (by kernel_rfl) rfl, rvO.turn (by decide : (2 : Nat) < 3) (ys := [.rsl 8 0 (lsK r u 0 r.rows.length).length 4]) (by kernel_rfl) ⟨q4, trivial⟩, rvO.new (Eq.trans (by kernel_rfl) q3) (brs_ok _ _), trivial⟩) (hl0.mono (Nat.zero_le _))⟩
    · refine ACode.vcM (.br 14 true <| .cells [.int .u8 2, .bool false, .fn (.func 93) [] [capW r R, .cptr (ruL u)]] <| .inl Try.f73 <| .inl Try.f88 <| .loop) hn0 hl0 (.roundW .cl) ⟨rfl, ⟨by decide, rfl⟩, Try.func73, Try.func88, ?_⟩
      intro g hn hl
      replace hn : g.n = 19 := hn
      replace hl : g.low 8 := hl
      refine acode_whileW (fun k : Nat => ⟨[(0, .yld 7), (1, .vptr 6 0), (9, .int .i64 (r.rows.map encRw).length), (10, .int .i64 (k : Int))],
          [(0, .cells [.cptr (runL r ++ R)]), (2, .cells [.rsl 8 0 (lsK r u 1 k).length 4]), (4, .cells [.int .u8 2, .bool false, .fn (.func 93) [] [capW r R, .cptr (ruL u)]]), (6, .cells [.cptr (runL r ++ R)]), (7, .loop ⟨.ready, none, 31, [(2, .vptr 0 0), (5, .vptr 2 0), (7, .vptr 4 0)], #[19], asg59, bod59⟩), (8, .cells (brs (lsK r u 1 k)))], 9⟩)
        (fun k => k ≤ r.rows.length) (fun k => r.rows.length - k) 0 (Nat.zero_le _) (Wk.trans (Wk.renC (c := 8) (b := 3) ?_ hl) (Wk.loopEnv (id := 7) (n := 8) [(2, .vptr 0 0), (5, .vptr 2 0), (7, .vptr 4 0)] rfl ⟨rfl, rfl, rfl, rfl, rfl, rfl, trivial⟩)) ?_
      · have q2 := congrArg (fun l : List Br => AV.rsl 8 0 l.length 4) (lsK_zero r u 1)
        have q3 := congrArg (fun l : List Br => some (AObj.cells (brs l))) (lsK_zero r u 1).symm
        have q4 : RV 8 3 (.rsl 8 0 (lsK r u 1 0).length 4) (.rsl 3 0 (rawJ r u 1).length 4) := by rw [lsK_zero]; exact .rsl
        exact St.renC.of rfl (.inr rfl) ⟨.eq (by kernel_rfl) rfl, .eq (by kernel_rfl) rfl, .eq (by kernel_rfl) rfl, .eq (by kernel_rfl) rfl, trivial⟩
          ⟨rvO.same (by decide : (0 : Nat) < 8) (by kernel_rfl) rfl, rvO.turn (by decide : (2 : Nat) < 8) (ys := [.rsl 3 0 (rawJ r u 1).length 4]) (by kernel_rfl) ⟨q4, trivial⟩, rvO.same (by decide : (4 : Nat) < 8) (by kernel_rfl) rfl, rvO.same (by decide : (6 : Nat) < 8) (by kernel_rfl) rfl, rvO.same (by decide : (7 : Nat) < 8) (by kernel_rfl) rfl,
            rvO.new (Eq.trans (by kernel_rfl) q3) (brs_ok _ _), trivial⟩
      · intro k hk
        have hlen := lsK_len hr u (j := 1) (k := k) (by omega) (by omega)
        by_cases hlt : k < r.rows.length
        · have ek : IntKind.i64.wrap ((k : Int) + 1) = ((k + 1 : Nat) : Int) := succ64 (by omega)
          have sB := b1 (k + 1) (by omega) (by omega)
          rw [← ek] at sB
          have hx := limB_len hr u 1 (k + 1)
          have ap := app_L (h := hget [(8, .cells (brs (lsK r u 1 k)))]) (i := 8) (id := 16) (l := lsK r u 1 k) (x := limB r u 1 (k + 1)) rfl (by omega)
          rw [← lsK_succ] at ap
          exact ACode.vcM (.br 11 true <| .draw 5 <| .call (.lst 4 ((limB r u 1 (k + 1)).map encBr)) <| .val 25 (.rsl 16 0 (lsK r u 1 (k + 1)).length 4) [(8, none), (16, some (.cells (brs (lsK r u 1 (k + 1)))))] .nil) hn hl (.roundW .cl)
            ⟨ltLen hlt, by kernel_rfl, mixed, by kernel_rfl, sB, by kernel_rfl, Eq.trans (by kernel_rfl) ap, k + 1, hlt, mu1 hlt,
              Wk.renC (c := 8) (b := 16) (St.renC.of rfl (.inl (by decide)) ⟨.eq (by kernel_rfl) rfl, .eq (by kernel_rfl) rfl, .eq (by kernel_rfl) rfl, .eq (Eq.trans (by kernel_rfl) (congrArg (AV.int .i64) ek)) rfl, trivial⟩
                ⟨rvO.same (by decide : (0 : Nat) < 8) (by kernel_rfl) rfl, rvO.turn (by decide : (2 : Nat) < 8) (ys := [.rsl 16 0 (lsK r u 1 (k + 1)).length 4]) (by kernel_rfl) ⟨.rsl, trivial⟩, rvO.same (by decide : (4 : Nat) < 8) (by kernel_rfl) rfl, rvO.same (by decide : (6 : Nat) < 8) (by kernel_rfl) rfl, rvO.same (by decide : (7 : Nat) < 8) (by kernel_rfl) rfl,
                  rvO.new (by kernel_rfl) (brs_ok _ _), trivial⟩) hl⟩
        · have hk' : k = r.rows.length := by omega
          subst hk'
          have q3 := congrArg (fun l : List Br => some (AObj.cells (brs l))) (lsK_end r u 1)
          have q4 : RV 3 8 (.rsl 3 0 (rawJ r u 2).length 4) (.rsl 8 0 (lsK r u 1 r.rows.length).length 4) := by rw [lsK_end]; exact .rsl
          exact ACode.vcM (.br 11 false .nil) hn hl (.roundW .cl) ⟨geLen hlt, _, .refl _, .nil, 2, (by decide : 2 ≤ 4), (by decide : 4 - 2 < 4 - 1),
            Wk.renC (c := 3) (b := 8) (St.renC.of rfl (.inl (by decide)) ⟨.eq (by kernel_rfl) rfl, .eq (by kernel_rfl) rfl, .eq (by kernel_rfl) rfl, .eq (by kernel_rfl) rfl, .eq (by kernel_rfl) rfl, trivial⟩
              ⟨rvO.same (by decide : (0 : Nat) < 3) (by kernel_rfl) rfl, rvO.turn (by decide : (2 : Nat) < 3) (ys := [.rsl 8 0 (lsK r u 1 r.rows.length).length 4]) (by kernel_rfl) ⟨q4, trivial⟩, rvO.new (Eq.trans (by kernel_rfl) q3) (brs_ok _ _), trivial⟩) (hl0.mono (Nat.zero_le _))⟩
    · refine ACode.vcM (.br 14 true <| .cells [.int .u8 3, .bool true, .fn (.func 95) [] [capW r R, .cptr (ruL u)]] <| .inl Try.f73 <| .inl Try.f88 <| .loop) hn0 hl0 (.roundW .cl) ⟨rfl, ⟨by decide, rfl⟩, Try.func73, Try.func88, ?_⟩
      intro g hn hl
      replace hn : g.n = 19 := hn
      replace hl : g.low 8 := hl
      refine acode_whileW (fun k : Nat => ⟨[(0, .yld 7), (1, .vptr 6 0), (9, .int .i64 (r.rows.map encRw).length), (10, .int .i64 (k : Int))],
          [(0, .cells [.cptr (runL r ++ R)]), (2, .cells [.rsl 8 0 (lsK r u 2 k).length 4]), (4, .cells [.int .u8 3, .bool true, .fn (.func 95) [] [capW r R, .cptr (ruL u)]]), (6, .cells [.cptr (runL r ++ R)]), (7, .loop ⟨.ready, none, 31, [(2, .vptr 0 0), (5, .vptr 2 0), (7, .vptr 4 0)], #[19], asg59, bod59⟩), (8, .cells (brs (lsK r u 2 k)))], 9⟩)
        (fun k => k ≤ r.rows.length) (fun k => r.rows.length - k) 0 (Nat.zero_le _) (Wk.trans (Wk.renC (c := 8) (b := 3) ?_ hl) (Wk.loopEnv (id := 7) (n := 8) [(2, .vptr 0 0), (5, .vptr 2 0), (7, .vptr 4 0)] rfl ⟨rfl, rfl, rfl, rfl, rfl, rfl, trivial⟩)) ?_
      · have q2 := congrArg (fun l : List Br => AV.rsl 8 0 l.length 4) (lsK_zero r u 2)
        have q3 := congrArg (fun l : List Br => some (AObj.cells (brs l))) (lsK_zero r u 2).symm
        have q4 : RV 8 3 (.rsl 8 0 (lsK r u 2 0).length 4) (.rsl 3 0 (rawJ r u 2).length 4) := by rw [lsK_zero]; exact .rsl
        exact St.renC.of rfl (.inr rfl) ⟨.eq (by kernel_rfl) rfl, .eq (by kernel_rfl) rfl, .eq (by kernel_rfl) rfl, .eq (by kernel_rfl) rfl, trivial⟩
          ⟨rvO.same (by decide : (0 : Nat) < 8) (by kernel_rfl) rfl, rvO.turn (by decide : (2 : Nat) < 8) (ys := [.rsl 3 0 (rawJ r u 2).length 4]) (by kernel_rfl) ⟨q4, trivial⟩, rvO.same (by decide : (4 : Nat) < 8) (by kernel_rfl) rfl, rvO.same (by decide : (6 : Nat) < 8) (by kernel_rfl) rfl, rvO.same (by decide : (7 : Nat) < 8) (by kernel_rfl) rfl,
            rvO.new (Eq.trans (by kernel_rfl) q3) (brs_ok _ _), trivial⟩
      · intro k hk
        have hlen := lsK_len hr u (j := 2) (k := k) (by omega) (by omega)
        by_cases hlt : k < r.rows.length
        · have ek : IntKind.i64.wrap ((k : Int) + 1) = ((k + 1 : Nat) : Int) := succ64 (by omega)
          have sB := b2 (k + 1) (by omega) (by omega)
          rw [← ek] at sB
          have hx := limB_len hr u 2 (k + 1)
          have ap := app_L (h := hget [(8, .cells (brs (lsK r u 2 k)))]) (i := 8) (id := 16) (l := lsK r u 2 k) (x := limB r u 2 (k + 1)) rfl (by omega)
          rw [← lsK_succ] at ap
          exact ACode.vcM (.br 11 true <| .draw 5 <| .call (.lst 4 ((limB r u 2 (k + 1)).map encBr)) <| .val 25 (.rsl 16 0 (lsK r u 2 (k + 1)).length 4) [(8, none), (16, some (.cells (brs (lsK r u 2 (k + 1)))))] .nil) hn hl (.roundW .cl)
            ⟨ltLen hlt, by kernel_rfl, mixed, by kernel_rfl, sB, by kernel_rfl, Eq.trans (by kernel_rfl) ap, k + 1, hlt, mu1 hlt,
              Wk.renC (c := 8) (b := 16) (St.renC.of rfl (.inl (by decide)) ⟨.eq (by kernel_rfl) rfl, .eq (by kernel_rfl) rfl, .eq (by kernel_rfl) rfl, .eq (Eq.trans (by kernel_rfl) (congrArg (AV.int .i64) ek)) rfl, trivial⟩
                ⟨rvO.same (by decide : (0 : Nat) < 8) (by kernel_rfl) rfl, rvO.turn (by decide : (2 : Nat) < 8) (ys := [.rsl 16 0 (lsK r u 2 (k + 1)).length 4]) (by kernel_rfl) ⟨.rsl, trivial⟩, rvO.same (by decide : (4 : Nat) < 8) (by kernel_rfl) rfl, rvO.same (by decide : (6 : Nat) < 8) (by kernel_rfl) rfl, rvO.same (by decide : (7 : Nat) < 8) (by kernel_rfl) rfl,
                  rvO.new (by kernel_rfl) (brs_ok _ _), trivial⟩) hl⟩
        · have hk' : k = r.rows.length := by omega
          subst hk'
          have q3 := congrArg (fun l : List Br => some (AObj.cells (brs l))) (lsK_end r u 2)
          have q4 : RV 3 8 (.rsl 3 0 (rawJ r u 3).length 4) (.rsl 8 0 (lsK r u 2 r.rows.length).length 4) := by rw [lsK_end]; exact .rsl
          exact ACode.vcM (.br 11 false .nil) hn hl (.roundW .cl) ⟨geLen hlt, _, .refl _, .nil, 3, (by decide : 3 ≤ 4), (by decide : 4 - 3 < 4 - 2),
            Wk.renC (c := 3) (b := 8) (St.renC.of rfl (.inl (by decide)) ⟨.eq (by kernel_rfl) rfl, .eq (by kernel_rfl) rfl, .eq (by kernel_rfl) rfl, .eq (by kernel_rfl) rfl, .eq (by kernel_rfl) rfl, trivial⟩
              ⟨rvO.same (by decide : (0 : Nat) < 3) (by kernel_rfl) rfl, rvO.turn (by decide : (2 : Nat) < 3) (ys := [.rsl 8 0 (lsK r u 2 r.rows.length).length 4]) (by kernel_rfl) ⟨q4, trivial⟩, rvO.new (Eq.trans (by kernel_rfl) q3) (brs_ok _ _), trivial⟩) (hl0.mono (Nat.zero_le _))⟩
    · refine ACode.vcM (.br 14 true <| .cells [.int .u8 4, .bool false, .fn (.func 97) [] [capW r R, .cptr (ruL u)]] <| .inl Try.f73 <| .inl Try.f88 <| .loop) hn0 hl0 (.roundW .cl) ⟨rfl, ⟨by decide, rfl⟩, Try.func73, Try.func88, ?_⟩
      intro g hn hl
      replace hn : g.n = 19 := hn
      replace hl : g.low 8 := hl
      refine acode_whileW (fun k : Nat => ⟨[(0, .yld 7), (1, .vptr 6 0), (9, .int .i64 (r.rows.map encRw).length), (10, .int .i64 (k : Int))],
          [(0, .cells [.cptr (runL r ++ R)]), (2, .cells [.rsl 8 0 (lsK r u 3 k).length 4]), (4, .cells [.int .u8 4, .bool false, .fn (.func 97) [] [capW r R, .cptr (ruL u)]]), (6, .cells [.cptr (runL r ++ R)]), (7, .loop ⟨.ready, none, 31, [(2, .vptr 0 0), (5, .vptr 2 0), (7, .vptr 4 0)], #[19], asg59, bod59⟩), (8, .cells (brs (lsK r u 3 k)))], 9⟩)
        (fun k => k ≤ r.rows.length) (fun k => r.rows.length - k) 0 (Nat.zero_le _) (Wk.trans (Wk.renC (c := 8) (b := 3) ?_ hl) (Wk.loopEnv (id := 7) (n := 8) [(2, .vptr 0 0), (5, .vptr 2 0), (7, .vptr 4 0)] rfl ⟨rfl, rfl, rfl, rfl, rfl, rfl, trivial⟩)) ?_
      · have q2 := congrArg (fun l : List Br => AV.rsl 8 0 l.length 4) (lsK_zero r u 3)
        have q3 := congrArg (fun l : List Br => some (AObj.cells (brs l))) (lsK_zero r u 3).symm
        have q4 : RV 8 3 (.rsl 8 0 (lsK r u 3 0).length 4) (.rsl 3 0 (rawJ r u 3).length 4) := by rw [lsK_zero]; exact .rsl
        exact St.renC.of rfl (.inr rfl) ⟨.eq (by kernel_rfl) rfl, .eq (by kernel_rfl) rfl, .eq (by kernel_rfl) rfl, .eq (by kernel_rfl) rfl, trivial⟩
          ⟨rvO.same (by decide : (0 : Nat) < 8) (by kernel_rfl) rfl, rvO.turn (by decide : (2 : Nat) < 8) (ys := [.rsl 3 0 (rawJ r u 3).length 4]) (by kernel_rfl) ⟨q4, trivial⟩, rvO.same (by decide : (4 : Nat) < 8) (by kernel_rfl) rfl, rvO.same (by decide : (6 : Nat) < 8) (by kernel_rfl) rfl, rvO.same (by decide : (7 : Nat) < 8) (by kernel_rfl) rfl,
            rvO.new (Eq.trans (by kernel_rfl) q3) (brs_ok _ _), trivial⟩
      · intro k hk
        have hlen := lsK_len hr u (j := 3) (k := k) (by omega) (by omega)
        by_cases hlt : k < r.rows.length
        · have ek : IntKind.i64.wrap ((k : Int) + 1) = ((k + 1 : Nat) : Int) := succ64 (by omega)
          have sB := b3 (k + 1) (by omega) (by omega)
          rw [← ek] at sB
          have hx := limB_len hr u 3 (k + 1)
          have ap := app_L (h := hget [(8, .cells (brs (lsK r u 3 k)))]) (i := 8) (id := 16) (l := lsK r u 3 k) (x := limB r u 3 (k + 1)) rfl (by omega)
          rw [← lsK_succ] at ap
          exact ACode.vcM (.br 11 true <| .draw 5 <| .call (.lst 4 ((limB r u 3 (k + 1)).map encBr)) <| .val 25 (.rsl 16 0 (lsK r u 3 (k + 1)).length 4) [(8, none), (16, some (.cells (brs (lsK r u 3 (k + 1)))))] .nil) hn hl (.roundW .cl)
            ⟨ltLen hlt, by kernel_rfl, mixed, by kernel_rfl, sB, by kernel_rfl, Eq.trans (by kernel_rfl) ap, k + 1, hlt, mu1 hlt,
              Wk.renC (c := 8) (b := 16) (St.renC.of rfl (.inl (by decide)) ⟨.eq (by kernel_rfl) rfl, .eq (by kernel_rfl) rfl, .eq (by kernel_rfl) rfl, .eq (Eq.trans (by kernel_rfl) (congrArg (AV.int .i64) ek)) rfl, trivial⟩
                ⟨rvO.same (by decide : (0 : Nat) < 8) (by kernel_rfl) rfl, rvO.turn (by decide : (2 : Nat) < 8) (ys := [.rsl 16 0 (lsK r u 3 (k + 1)).length 4]) (by kernel_rfl) ⟨.rsl, trivial⟩, rvO.same (by decide : (4 : Nat) < 8) (by kernel_rfl) rfl, rvO.same (by decide : (6 : Nat) < 8) (by kernel_rfl) rfl, rvO.same (by decide : (7 : Nat) < 8) (by kernel_rfl) rfl,
                  rvO.new (by kernel_rfl) (brs_ok _ _), trivial⟩) hl⟩
        · have hk' : k = r.rows.length := by omega
          subst hk'
          have q3 := congrArg (fun l : List Br => some (AObj.cells (brs l))) (lsK_end r u 3)
          have q4 : RV 3 8 (.rsl 3 0 (rawJ r u 4).length 4) (.rsl 8 0 (lsK r u 3 r.rows.length).length 4) := by rw [lsK_end]; exact .rsl
          exact ACode.vcM (.br 11 false .nil) hn hl (.roundW .cl) ⟨geLen hlt, _, .refl _, .nil, 4, (by decide : 4 ≤ 4), (by decide : 4 - 4 < 4 - 3),
            Wk.renC (c := 3) (b := 8) (St.renC.of rfl (.inl (by decide)) ⟨.eq (by kernel_rfl) rfl, .eq (by kernel_rfl) rfl, .eq (by kernel_rfl) rfl, .eq (by kernel_rfl) rfl, .eq (by kernel_rfl) rfl, trivial⟩
              ⟨rvO.same (by decide : (0 : Nat) < 3) (by kernel_rfl) rfl, rvO.turn (by decide : (2 : Nat) < 3) (ys := [.rsl 8 0 (lsK r u 3 r.rows.length).length 4]) (by kernel_rfl) ⟨q4, trivial⟩, rvO.new (Eq.trans (by kernel_rfl) q3) (brs_ok _ _), trivial⟩) (hl0.mono (Nat.zero_le _))⟩
    · have hlr := rawJ_len hr u 4
      have sw := order_spec (rawJ r u 4) rfl (by omega)
      have th : thawL (hget [(0, .cells [.cptr (runL r ++ R)]), (2, .cells [.rsl 3 0 (rawJ r u 4).length 4]), (4, .cells fnsL)]) [.rsl 4 0 3 1] = some ([numsV], [4]) := by kernel_rfl
      have hll : (rawJ r u 4).length = (leftL r u).length := (raw_perm r u).length_eq
      have tw := thawF_brs (h := hget [(0, .cells [.cptr (runL r ++ R)]), (2, .cells [.rsl 3 0 (rawJ r u 4).length 4]), (3, .cells (brs (leftL r u))), (4, .cells fnsL)]) (id := 3) (l := leftL r u) rfl
      rw [← hll] at tw
      refine ACode.vcM (.br 14 false .nil) hn0 hl0 (.roundW .cl) ⟨rfl, _, .refl _, .inl Try.f81 <| .nz .nil, Try.func81,
        AMut.useLent (H := [(0, .cells [.cptr (runL r ++ R)]), (2, .cells [.rsl 3 0 (rawJ r u 4).length 4]), (3, .cells (brs (rawJ r u 4))), (4, .cells fnsL)]) (id := 3) (rest := [.rsl 4 0 3 1]) sw rfl (brs_flat _) Sorted.flat rfl (Eq.trans (by kernel_rfl) th) fun cs' hQ => ?_⟩
      refine Exists.elim hQ fun l' h => ?_
      have e := left_uniq hr u h.1 h.2.1
      have hcs := h.2.2.trans (congrArg brs e)
      clear h hQ sw e
      subst hcs
      exact ⟨[3], Eq.trans (by kernel_rfl) tw⟩
end Go.Proofs.Yticiopkiikcokaa
namespace Go.Proofs.Yticiopkiikcokaa
open Go Go.Am Go.Srt
def leftV (r : Rn) (u : Ru) : AV := if checkI r u = 0 then .tup [.lst 4 ((leftL r u).map encBr), .int .i64 0] else .tup [.nil, .int .i64 (checkI r u)]
set_option maxHeartbeats 16000000 in
set_option maxRecDepth 100000 in
theorem left_err {r : Rn} {u : Ru} (h : checkI r u ≠ 0) : APure Try.prog 25 [encRn r, encRu u] (.tup [.nil, .int .i64 (checkI r u)]) := by
  have s := check_spec r u
  generalize checkI r u = C at s h ⊢
  have e : (C != 0) = true := by simp [h]
  exact APure.vc Try.func25 rfl (.call (.int .i64 C) <| .br 12 true .nil) rfl rfl ⟨s, e, trivial, rfl⟩
theorem thaw_W2 {h : Nat → Option AObj} {i : Nat} {cs : List AV} {b : AV} (h0 : h i = some (.cells cs)) (hok : okL 0 cs = true) (hb : b.ok 0 = true) : thawL h [.vptr i 0, b] = some ([.cptr cs, b], [i]) := by
  have e : thaw 8 h (.vptr i 0) = (match h i with
      | some (.cells cs) => (match mapO (thaw 7 h) cs with | some (cs', is) => some (.cptr (cs'.drop 0), i :: is) | none => none)
      | _ => none) := rfl
  have eb : thaw 8 h b = some (b, []) := by unfold thaw; rw [if_pos hb]
  have e2 : thawL h [.vptr i 0, b] = (match thaw 8 h (.vptr i 0), mapO (thaw 8 h) [b] with
      | some (a, is), some (l, js) => some (a :: l, is ++ js)
      | _, _ => none) := rfl
  rw [e2, e, h0]
  simp only []
  rw [mapO_ok 6 h cs hok]
  simp only [mapO, eb]
  rfl
set_option maxHeartbeats 16000000 in
set_option maxRecDepth 100000 in
theorem left_ok {r : Rn} {u : Ru} (h : checkI r u = 0) : APure Try.prog 25 [encRn r, encRu u] (.tup [.lst 4 ((leftL r u).map encBr), .int .i64 0]) := by
  have s := check_spec r u
  rw [h] at s
  obtain ⟨h1, h2⟩ := checkI_ok h
  have hr := runB_out h1
  have hu := rulesB_out h2
  have s3 := atWork_spec hr
  have sB := breaches_spec hr hu (R := arrL (mF r) ++ arrL (cF r)) rfl
  have eW : workL r (mfK r r.rows.length) (cfK r r.rows.length) = runL r ++ (arrL (mF r) ++ arrL (cF r)) := rfl
  rw [← eW] at sB
  obtain ⟨W, hW⟩ : ∃ W, W = workL r (mfK r r.rows.length) (cfK r r.rows.length) := ⟨_, rfl⟩
  have hl : W.length = 250 := by rw [hW]; exact workL_len _ _ _
  have hc : W.all cellB = true := by rw [hW]; exact workL_cellB _ _ _
  have hok : okL 0 W = true := by rw [hW]; exact workL_ok _ _ _ _
  rw [← hW] at s3 sB
  generalize leftL r u = l at sB ⊢
  clear hW
  have st : aStore Try.prog (hget [(0, .cells (runL r)), (1, .cells (ruL u)), (2, .cells Z101)]) 101 (.vptr 2 0) (.agg W) = some ⟨.undef, [(2, some (.cells W))]⟩ := stW2 rfl hl hc
  have th : thawL (hget [(0, .cells (runL r)), (1, .cells (ruL u)), (2, .cells W)]) [.vptr 2 0, encRu u] = some ([.cptr W, encRu u], [2]) := thaw_W2 rfl hok rfl
  exact APure.vc Try.func25 rfl (.call (.int .i64 0) <| .br 12 false <| .call (.agg W) <| .val 7 (.vptr 2 0) [(2, some (.cells Z101))] <| .val 1 .undef [(2, some (.cells W))] <| .lent (.lst 4 (l.map encBr)) [2] .nil) rfl rfl
    ⟨s, rfl, s3, by kernel_rfl, Eq.trans (by kernel_rfl) st, ⟨[.cptr W, encRu u], Eq.trans (by kernel_rfl) th, .inr sB⟩, trivial, rfl⟩
theorem Left_spec (r : Rn) (u : Ru) : APure Try.prog 25 [encRn r, encRu u] (leftV r u) := by
  unfold leftV
  split
  · rename_i h; exact left_ok h
  · rename_i h; exact left_err h
end Go.Proofs.Yticiopkiikcokaa
namespace Go.Proofs.Yticiopkiikcokaa
open Go Go.Am Go.Srt
theorem find_at {α : Type} {p : α → Bool} : ∀ {l : List α} {k : Nat} {b : α}, l[k]? = some b → p b = true → (∀ (i : Nat) a, i < k → l[i]? = some a → p a = false) → l.find? p = some b := by
  intro l
  induction l with
  | nil => intro k b h; simp at h
  | cons x l ih =>
    intro k b h hp hk
    cases k with
    | zero => simp at h; subst h; simp [hp]
    | succ k =>
      have h0 := hk 0 x (by omega) rfl
      rw [List.find?_cons, h0]
      exact ih (by simpa using h) hp fun i a hi ha => hk (i + 1) a (by omega) (by simpa using ha)
theorem find_no {α : Type} {p : α → Bool} {l : List α} {k : Nat} (hk : l.length ≤ k) (h : ∀ (i : Nat) a, i < k → l[i]? = some a → p a = false) : l.find? p = none := by
  rw [List.find?_eq_none]
  intro x hx
  obtain ⟨i, hi⟩ := List.mem_iff_getElem?.1 hx
  obtain ⟨h1, _⟩ := List.getElem?_eq_some_iff.1 hi
  rw [h i x (by omega) hi]; simp
theorem step_no {α : Type} {p : α → Bool} {l : List α} {k : Nat} {b : α} (h : ∀ (i : Nat) a, i < k → l[i]? = some a → p a = false) (hb : l[k]? = some b) (hp : p b = false) : ∀ (i : Nat) a, i < k + 1 → l[i]? = some a → p a = false := by
  intro i a hi ha
  rcases Nat.lt_succ_iff_lt_or_eq.1 hi with h' | rfl
  · exact h i a h' ha
  · rw [hb] at ha; cases ha; exact hp
def br0 : Br := ⟨0, 0, 0, 0⟩
def firstP (t n : Int) (b : Br) : Bool := decide (b.m ≤ t) && decide (b.n ≥ n)
def firstB (l : List Br) (t n : Int) : Br := (l.find? (firstP t n)).getD br0
set_option maxHeartbeats 4000000 in
set_option maxRecDepth 100000 in
theorem noBreach_spec : APure Try.prog 62 [] (.agg (encBr br0)) := APure.vc Try.func62 rfl .nil rfl rfl ⟨trivial, rfl⟩
set_option maxHeartbeats 8000000 in
set_option maxRecDepth 100000 in
theorem first_spec (l : List Br) (t n : Int) (hl0 : l.length ≤ 100000) : APure Try.prog 61 [.lst 4 (l.map encBr), .int .i64 t, .int .u8 n] (.agg (encBr (firstB l t n))) := by
  refine APure.vc Try.func61 rfl .loop rfl rfl ?_
  intro g hn hl
  replace hn : g.n = 28 := hn
  replace hl : g.low 0 := hl
  refine acode_while (fun k : Nat => ⟨[(1, .int .i64 t), (2, .int .u8 n), (6, .vptr 0 0), (9, .lst 4 (l.map encBr)), (10, .int .i64 (l.map encBr).length), (11, .int .i64 k)], [(0, .cells (encBr br0))], 1⟩)
    (fun k => k ≤ l.length ∧ ∀ (i : Nat) a, i < k → l[i]? = some a → firstP t n a = false) (fun k => l.length - k) 0 ⟨Nat.zero_le _, fun i a hi => absurd hi (Nat.not_lt_zero _)⟩ ?_ (fun _ _ => hl.mono (Nat.zero_le _)) ?_
  · exact St.le.of ⟨rfl, rfl, rfl, rfl, rfl, rfl, rfl, rfl, rfl, rfl, rfl, rfl, trivial⟩ ⟨rfl, Nat.zero_lt_one, rfl, trivial⟩
  · rintro k ⟨hk1, hk2⟩
    by_cases hlt : k < l.length
    · obtain ⟨b, hb⟩ := getE hlt
      have ek := succ64 (k := k) (by omega)
      have yes : firstP t n b = true → some (AV.agg (encBr b)) = some (.agg (encBr (firstB l t n))) := fun h => by rw [firstB, find_at hb h hk2]; rfl
      have no : firstP t n b = false → ∀ (i : Nat) a, i < k + 1 → l[i]? = some a → firstP t n a = false := fun h => step_no hk2 hb h
      refine ACode.vc (.br 12 true <| .cells (encBr b) <| .both 19 (.both 24 .nil .nil) .nil) hn hl (.round .cl) ⟨ltLen hlt, idx hb, fun h1 => ⟨fun h2 => ⟨_, .refl _, .nil, trivial, Eq.trans (by kernel_rfl) (yes ?_)⟩, fun h2 => ⟨k + 1, ⟨hlt, no ?_⟩, mu1 hlt, St.le.of ⟨rfl, rfl, rfl, rfl, rfl, rfl, rfl, rfl, rfl, rfl, congrArg (AV.int .i64) ek, rfl, trivial⟩ ⟨rfl, Nat.zero_lt_one, rfl, trivial⟩⟩⟩,
        fun h1 => ⟨k + 1, ⟨hlt, no ?_⟩, mu1 hlt, St.le.of ⟨rfl, rfl, rfl, rfl, rfl, rfl, rfl, rfl, rfl, rfl, congrArg (AV.int .i64) ek, rfl, trivial⟩ ⟨rfl, Nat.zero_lt_one, rfl, trivial⟩⟩⟩
      · unfold firstP; rw [h1, h2]; rfl
      · unfold firstP; rw [h2, Bool.and_false]
      · unfold firstP; rw [h1, Bool.false_and]
    · have e : some (AV.agg (encBr br0)) = some (.agg (encBr (firstB l t n))) := by rw [firstB, find_no (by omega) hk2]; rfl
      exact ACode.vc (.br 12 false .nil) hn hl (.round .cl) ⟨geLen hlt, _, .refl _, .call (.agg (encBr br0)) .nil, noBreach_spec, trivial, Eq.trans (by kernel_rfl) e⟩
theorem eqBr (a b : Br) : aeqT Try.prog 6 71 (.agg (encBr a)) (.agg (encBr b)) = some ((a.m == b.m) && ((a.k == b.k) && ((a.c == b.c) && (a.n == b.n)))) := by
  simp [aeqT, aeqF, ty71, ty3, ty5, encBr, apart, TD.agg, andO]
theorem neBr {a b : Br} {c : Bool} (h : (!((a.m == b.m) && ((a.k == b.k) && ((a.c == b.c) && (a.n == b.n))))) = c) : ((aeqT Try.prog 6 71 (.agg (encBr a)) (.agg (encBr b))).map fun b => AV.bool !b).map (fun v => (⟨v, []⟩ : Out)) = some ⟨.bool c, []⟩ := by
  rw [eqBr, ← h]; rfl
theorem ne_yes {b : Br} (h : 1 ≤ b.m) : (!((b.m == br0.m) && ((b.k == br0.k) && ((b.c == br0.c) && (b.n == br0.n))))) = true := by
  have : (b.m == br0.m) = false := by rw [beq_eq_false_iff_ne]; show b.m ≠ 0; omega
  rw [this]; rfl
theorem ne_no : (!((br0.m == br0.m) && ((br0.k == br0.k) && ((br0.c == br0.c) && (br0.n == br0.n))))) = false := rfl
def kPair (l : List Br) (t : Int) : Int × Int := match l.find? (firstP t 2) with
  | some b => (0, b.m)
  | none => match l.find? (firstP t 1) with
    | some b => (1, b.m)
    | none => (2, 0)
def kTup (p : Int × Int) (e : Int) : AV := .tup [.int .u8 p.1, .int .i64 p.2, .int .i64 e]
def keptV (r : Rn) (u : Ru) (t : Int) : AV := if checkI r u = 0 then (if within t 0 r.rows.length = true then kTup (kPair (leftL r u) t) 0 else kTup (0, 0) 2) else kTup (0, 0) (checkI r u)
theorem leftL_len {r : Rn} (hr : RunOk r) (u : Ru) : (leftL r u).length ≤ 2000 := by
  have := rawJ_len hr u 4
  rw [← (raw_perm r u).length_eq]; omega
theorem find_m {r : Rn} {u : Ru} {p : Br → Bool} {b : Br} (h : (leftL r u).find? p = some b) : 1 ≤ b.m ∧ b.m ≤ r.rows.length := by
  have := left_out (List.mem_of_find?_eq_some h); omega
set_option maxHeartbeats 8000000 in
set_option maxRecDepth 100000 in
theorem Kept_spec (r : Rn) (u : Ru) (t : Int) : APure Try.prog 27 [encRn r, encRu u, .int .i64 t] (keptV r u t) := by
  have sL := Left_spec r u
  unfold keptV
  by_cases hC : checkI r u = 0
  · rw [if_pos hC]
    unfold leftV at sL
    rw [if_pos hC] at sL
    obtain ⟨h1, _⟩ := checkI_ok hC
    have hr := runB_out h1
    have hlen := leftL_len hr u
    have sW := within_spec t 0 r.rows.length
    have sW' : APure Try.prog 45 [.int .i64 t, .int .i64 0, .int .i64 ((r.rows.map encRw).length : Int)] (.bool (within t 0 r.rows.length)) := by rw [List.length_map]; exact sW
    have hm := fun p b (h : (leftL r u).find? p = some b) => find_m h
    generalize leftL r u = l at sL hlen hm ⊢
    by_cases hw : within t 0 r.rows.length = true
    · rw [if_pos hw]
      rw [hw] at sW'
      have s2 := first_spec l t 2 (by omega)
      have s1 := first_spec l t 1 (by omega)
      unfold kPair
      cases h2 : l.find? (firstP t 2) with
      | some b =>
        have e2 : firstB l t 2 = b := by unfold firstB; rw [h2]; rfl
        rw [e2] at s2
        have ne := neBr (ne_yes (hm _ b h2).1)
        exact APure.vc Try.func27 rfl (.call (.tup [.lst 4 (l.map encBr), .int .i64 0]) <| .br 19 false <| .call (.bool true) <| .call (.agg (encBr b)) <| .draw 2 <| .call (.agg (encBr br0)) <| .val 32 (.bool true) [] <| .draw 3 .nil) rfl rfl
          ⟨sL, rfl, sW', s2, by kernel_rfl, mixed, by kernel_rfl, noBreach_spec, by kernel_rfl, Eq.trans (by kernel_rfl) ne, by kernel_rfl, mixed, by kernel_rfl, by kernel_rfl, trivial, rfl⟩
      | none =>
        have e2 : firstB l t 2 = br0 := by unfold firstB; rw [h2]; rfl
        rw [e2] at s2
        have ne := neBr ne_no
        cases h3 : l.find? (firstP t 1) with
        | some b =>
          have e1 : firstB l t 1 = b := by unfold firstB; rw [h3]; rfl
          rw [e1] at s1
          have ne1 := neBr (ne_yes (hm _ b h3).1)
          exact APure.vc Try.func27 rfl (.call (.tup [.lst 4 (l.map encBr), .int .i64 0]) <| .br 19 false <| .call (.bool true) <| .call (.agg (encBr br0)) <| .draw 2 <| .call (.agg (encBr br0)) <| .val 32 (.bool false) [] <|
              .call (.agg (encBr b)) <| .draw 2 <| .call (.agg (encBr br0)) <| .val 40 (.bool true) [] <| .draw 3 .nil) rfl rfl
            ⟨sL, rfl, sW', s2, by kernel_rfl, mixed, by kernel_rfl, noBreach_spec, by kernel_rfl, Eq.trans (by kernel_rfl) ne, s1, by kernel_rfl, mixed, by kernel_rfl, noBreach_spec, by kernel_rfl, Eq.trans (by kernel_rfl) ne1, by kernel_rfl, mixed, by kernel_rfl, by kernel_rfl, trivial, rfl⟩
        | none =>
          have e1 : firstB l t 1 = br0 := by unfold firstB; rw [h3]; rfl
          rw [e1] at s1
          exact APure.vc Try.func27 rfl (.call (.tup [.lst 4 (l.map encBr), .int .i64 0]) <| .br 19 false <| .call (.bool true) <| .call (.agg (encBr br0)) <| .draw 2 <| .call (.agg (encBr br0)) <| .val 32 (.bool false) [] <|
              .call (.agg (encBr br0)) <| .draw 2 <| .call (.agg (encBr br0)) <| .val 40 (.bool false) [] .nil) rfl rfl
            ⟨sL, rfl, sW', s2, by kernel_rfl, mixed, by kernel_rfl, noBreach_spec, by kernel_rfl, Eq.trans (by kernel_rfl) ne, s1, by kernel_rfl, mixed, by kernel_rfl, noBreach_spec, by kernel_rfl, Eq.trans (by kernel_rfl) ne, trivial, rfl⟩
    · rw [if_neg hw]
      have hw' : within t 0 r.rows.length = false := by simpa using hw
      rw [hw'] at sW'
      exact APure.vc Try.func27 rfl (.call (.tup [.lst 4 (l.map encBr), .int .i64 0]) <| .br 19 false <| .call (.bool false) .nil) rfl rfl ⟨sL, rfl, sW', trivial, rfl⟩
  · rw [if_neg hC]
    unfold leftV at sL
    rw [if_neg hC] at sL
    generalize checkI r u = C at sL hC ⊢
    have e : (C != 0) = true := by simp [hC]
    exact APure.vc Try.func27 rfl (.call (.tup [.nil, .int .i64 C]) <| .br 19 true .nil) rfl rfl ⟨sL, e, trivial, rfl⟩
def countI (r : Rn) (u : Ru) : Int := match (leftL r u).find? (firstP r.rows.length 1) with
  | some b => b.m - 1
  | none => r.rows.length
def countV (r : Rn) (u : Ru) : AV := if checkI r u = 0 then .tup [.int .i64 (countI r u), .int .i64 0] else .tup [.int .i64 0, .int .i64 (checkI r u)]
set_option maxHeartbeats 8000000 in
set_option maxRecDepth 100000 in
theorem Counts_spec (r : Rn) (u : Ru) : APure Try.prog 29 [encRn r, encRu u] (countV r u) := by
  have sL := Left_spec r u
  unfold countV
  by_cases hC : checkI r u = 0
  · rw [if_pos hC]
    unfold leftV at sL
    rw [if_pos hC] at sL
    obtain ⟨h1, _⟩ := checkI_ok hC
    have hr := runB_out h1
    have hrl := hr.rl
    have hlen := leftL_len hr u
    unfold countI
    have hm := fun p b (h : (leftL r u).find? p = some b) => find_m h
    generalize leftL r u = l at sL hlen hm ⊢
    have s1 := first_spec l r.rows.length 1 (by omega)
    have s1' : APure Try.prog 61 [.lst 4 (l.map encBr), .int .i64 ((r.rows.map encRw).length : Int), .int .u8 1] (.agg (encBr (firstB l r.rows.length 1))) := by rw [List.length_map]; exact s1
    cases h3 : l.find? (firstP r.rows.length 1) with
    | some b =>
      have e1 : firstB l r.rows.length 1 = b := by unfold firstB; rw [h3]; rfl
      rw [e1] at s1'
      have hb := hm _ b h3
      have ne1 := neBr (ne_yes hb.1)
      have e : some (AV.tup [.int .i64 (IntKind.i64.wrap (b.m - 1)), .int .i64 0]) = some (.tup [.int .i64 (b.m - 1), .int .i64 0]) := by rw [wrap64 (by omega) (by omega)]
      exact APure.vc Try.func29 rfl (.call (.tup [.lst 4 (l.map encBr), .int .i64 0]) <| .br 16 false <| .call (.agg (encBr b)) <| .draw 2 <| .call (.agg (encBr br0)) <| .val 25 (.bool true) [] .nil) rfl rfl
        ⟨sL, rfl, s1', by kernel_rfl, mixed, by kernel_rfl, noBreach_spec, by kernel_rfl, Eq.trans (by kernel_rfl) ne1, trivial, Eq.trans (by kernel_rfl) e⟩
    | none =>
      have e1 : firstB l r.rows.length 1 = br0 := by unfold firstB; rw [h3]; rfl
      rw [e1] at s1'
      have ne := neBr ne_no
      have e : some (AV.tup [.int .i64 ((r.rows.map encRw).length : Int), .int .i64 0]) = some (.tup [.int .i64 (r.rows.length : Int), .int .i64 0]) := by rw [List.length_map]
      exact APure.vc Try.func29 rfl (.call (.tup [.lst 4 (l.map encBr), .int .i64 0]) <| .br 16 false <| .call (.agg (encBr br0)) <| .draw 2 <| .call (.agg (encBr br0)) <| .val 25 (.bool false) [] .nil) rfl rfl
        ⟨sL, rfl, s1', by kernel_rfl, mixed, by kernel_rfl, noBreach_spec, by kernel_rfl, Eq.trans (by kernel_rfl) ne, trivial, Eq.trans (by kernel_rfl) e⟩
  · rw [if_neg hC]
    unfold leftV at sL
    rw [if_neg hC] at sL
    generalize checkI r u = C at sL hC ⊢
    have e : (C != 0) = true := by simp [hC]
    exact APure.vc Try.func29 rfl (.call (.tup [.nil, .int .i64 C]) <| .br 16 true .nil) rfl rfl ⟨sL, e, trivial, rfl⟩
end Go.Proofs.Yticiopkiikcokaa
