/-
  THE LAW OF BOTH ENDS.
-/
import Derived.Test.YtiggnliiigcjaaaDoorFX
import Derived.Test.YtiggnliiigcjaaaDoorLM
namespace Go.Proofs.YtiggnliiigcjaaaDoor
open Go Go.Am
set_option maxRecDepth 100000
set_option maxHeartbeats 4000000
theorem bdg_of_vld {b : Bdg} {ws : List Wal} (vd : Vld b ws) : bdgB b = true := by
  unfold bdgB stasB chasB
  have h1 := vd.sl
  have h2 := vd.cl
  simp only [Bool.and_eq_true]
  refine ⟨⟨decide_eq_true (by omega), allI_iff.2 fun i s hi => ?_⟩, decide_eq_true (by omega), List.all_eq_true.2 fun c hc => ?_⟩
  · have := vd.s i s hi
    simp only [staB, nextB, Bool.and_eq_true, Bool.or_eq_true, spB_iff, inB, decide_eq_true_eq, Bool.not_eq_true', bne_eq_false_iff_eq]
    exact ⟨this.1, this.2.1, this.2.2.1, this.2.2.2⟩
  · obtain ⟨i, hi⟩ := List.getElem?_of_mem hc
    have := vd.c i c hi
    simp only [chaB, Bool.and_eq_true, spB_iff, inB, decide_eq_true_eq]
    exact ⟨this.1, this.2.1, this.2.2⟩
def eqI (a b : Int) : Bool := a == b && (a == b && true)
/-- What is told of three: as it is, with all slow, with all fast. -/
theorem safe_ends {b : Bdg} {ws : List Wal} (vd : Vld b ws) :
    (safeV b ws = (2, -1, -1) ∧ safeV (fixB true b) (fixW true ws) = (2, -1, -1) ∧ safeV (fixB false b) (fixW false ws) = (2, -1, -1)) ∨
    (∃ C S : Int, safeV b ws = (1, C, S) ∧ safeV (fixB true b) (fixW true ws) = (0, C, S) ∧ safeV (fixB false b) (fixW false ws) = (2, -1, -1)) ∨
    (∃ C S C' S' : Int, safeV b ws = (0, C, S) ∧ safeV (fixB true b) (fixW true ws) = (0, C, S) ∧ safeV (fixB false b) (fixW false ws) = (0, C', S')) := by
  rw [safeV_fix true vd, safeV_fix false vd]
  unfold safeV
  by_cases h1 : noL (lateV true b ws) = true
  · have h0 := noL_best vd h1
    rw [if_pos h1, if_pos h1, if_pos h0]
    exact .inl ⟨rfl, rfl, rfl⟩
  · rw [if_neg h1, if_neg h1]
    by_cases h0 : noL (lateV false b ws) = true
    · rw [if_pos h0, if_pos h0]
      exact .inr (.inl ⟨_, _, rfl, rfl, rfl⟩)
    · rw [if_neg h0, if_neg h0]
      exact .inr (.inr ⟨_, _, _, _, rfl, rfl, rfl⟩)
/-- The state of the law, between its pieces. -/
def eSt (b c1 c0 : Bdg) (ws u1 u0 : List Wal) (A B : List Int) (E : Env) (X : AHeap) (nx : Nat) : St :=
  ⟨[(1, encW ws), (3, .vptr 0 0), (7, .bool true), (9, .vptr 1 0), (10, encW u1), (11, .vptr 3 0), (12, encW u0), (13, encSn (A.zip B)), (15, encSn (B.zip B)), (17, encSn (A.zip A))] ++ E,
    [(0, .cells (cB b)), (1, .cells (cB c1)), (3, .cells (cB c0))] ++ X, nx⟩
theorem law_ends (b : Bdg) (ws : List Wal) (y : Int) (hy0 : 0 ≤ y) (hy1 : y ≤ 255) : APure Tryd.prog 6 [encB b, encW ws, .int .u8 y] (.bool true) := by
  have sA := alive_spec
  have sR := ready_spec b ws
  cases h1 : readyB b ws
  · rw [h1] at sR
    exact APure.vcM Tryd.func6 (.call (.bool true) <| .call (.bool false) .nil) rfl rfl ⟨sA, sR, [], by kernel_rfl⟩
  rw [h1] at sR
  obtain ⟨b1, b2⟩ := ready_1 h1
  have vd := vld_of b1 b2
  have hsl := vd.sl
  have hcl := vd.cl
  have hwl := vd.wl
  have hk : y.toNat % b.ss.length < b.ss.length := Nat.mod_lt _ (by omega)
  have ek : (IntKind.i64.wrap y).tmod ((b.ss.map cSt).length : Int) = ((y.toNat % b.ss.length : Nat) : Int) := by
    rw [wrap64 (by omega) (by omega), List.length_map]
    have : y = (y.toNat : Int) := by omega
    rw [this]; rfl
  generalize y.toNat % b.ss.length = k at *
  have hnz : ((b.ss.map cSt).length : Int) ≠ 0 := by rw [List.length_map]; omega
  have f1 := fixed_spec true b ws (by omega) (by omega) (by omega)
  have f0 := fixed_spec false b ws (by omega) (by omega) (by omega)
  have v1 := vld_fix true vd
  have v0 := vld_fix false vd
  have hl : ∀ e, (fixB e b).ss.length = b.ss.length := fun e => List.length_map ..
  have l2 := Leaves_ok b ws b1 b2 k hk
  have l1 := Leaves_ok (fixB true b) (fixW true ws) (bdg_of_vld v1) (wals_of_vld v1) k (by rw [hl]; exact hk)
  have l0 := Leaves_ok (fixB false b) (fixW false ws) (bdg_of_vld v0) (wals_of_vld v0) k (by rw [hl]; exact hk)
  have o2 := Out_ok b ws b1 b2
  have o1 := Out_ok (fixB true b) (fixW true ws) (bdg_of_vld v1) (wals_of_vld v1)
  have o0 := Out_ok (fixB false b) (fixW false ws) (bdg_of_vld v0) (wals_of_vld v0)
  have s2 := Safe_ok b ws b1 b2
  have s1 := Safe_ok (fixB true b) (fixW true ws) (bdg_of_vld v1) (wals_of_vld v1)
  have s0 := Safe_ok (fixB false b) (fixW false ws) (bdg_of_vld v0) (wals_of_vld v0)
  have hS := safe_ends vd
  unfold spansV at l2 l1 l0
  rw [leaves_fix true true b ws k hk, leaves_fix false true b ws k hk] at l1
  rw [leaves_fix true false b ws k hk, leaves_fix false false b ws k hk] at l0
  rw [last_fix, last_fix] at o1 o0
  rw [← ek] at l2 l1 l0
  have hAB := leavesV_len b ws k
  have hB1 := leavesV_short vd hk true
  generalize leavesV false b ws k = A at *
  generalize leavesV true b ws k = B at *
  generalize lastV false b ws = p at *
  generalize lastV true b ws = q at *
  generalize safeV b ws = sv2 at *
  generalize safeV (fixB true b) (fixW true ws) = sv1 at *
  generalize safeV (fixB false b) (fixW false ws) = sv0 at *
  generalize fixB true b = c1 at *
  generalize fixW true ws = u1 at *
  generalize fixB false b = c0 at *
  generalize fixW false ws = u0 at *
  have n1 : ((((A.zip B).map cS).length : Int) != (((B.zip B).map cS).length : Int)) = false := by simp [List.length_zip, hAB]
  have n2 : ((((A.zip B).map cS).length : Int) != (((A.zip A).map cS).length : Int)) = false := by simp [List.length_zip, hAB]
  have e1 : (!(eqI q q)) = false := by simp [eqI]
  have e0 : (!(eqI p p)) = false := by simp [eqI]
  refine APure.intro Tryd.func6 rfl rfl rfl fun g hn hlo => ?_
  replace hn : g.n = 268 := hn
  replace hlo : g.low 0 := hlo
  refine ACode.cut 11 (fun _ : Unit => eSt b c1 c0 ws u1 u0 A B [(14, .int .i64 0), (16, .int .i64 0), (18, .int .i64 0), (19, .vptr 5 0), (20, .int .i64 0), (21, .vptr 7 0), (22, .int .i64 0), (23, .vptr 9 0), (24, .int .i64 0)] [(5, .cells (cS (p, q))), (7, .cells (cS (q, q))), (9, .cells (cS (p, p)))] 11) (fun _ => True)
    (.call (.bool true) <| .call (.bool true) <| .nz <| .call (.tup [encB c1, encW u1]) <| .call (.tup [encB c0, encW u0]) <| .call (.tup [encSn (A.zip B), .int .i64 0]) <| .call (.tup [encSn (B.zip B), .int .i64 0]) <| .call (.tup [encSn (A.zip A), .int .i64 0]) <| .call (.tup [encS (p, q), .int .i64 0]) <| .call (.tup [encS (q, q), .int .i64 0]) <| .call (.tup [encS (p, p), .int .i64 0]) .nil) hn hlo .ret rfl
    ⟨sA, sR, hnz, f1, f0, l2, l1, l0, o2, o1, o0, (), trivial, Wk.le (St.le.of ⟨by kernel_rfl, rfl, by kernel_rfl, rfl, by kernel_rfl, rfl, by kernel_rfl, rfl, by kernel_rfl, rfl, by kernel_rfl, rfl, by kernel_rfl, rfl, by kernel_rfl, rfl, by kernel_rfl, rfl, by kernel_rfl, rfl, by kernel_rfl, rfl, by kernel_rfl, rfl, by kernel_rfl, rfl, by kernel_rfl, rfl, by kernel_rfl, rfl, by kernel_rfl, rfl, by kernel_rfl, rfl, by kernel_rfl, rfl, by kernel_rfl, rfl, trivial⟩
      ⟨by kernel_rfl, (by decide : (0 : Nat) < 11), rfl, by kernel_rfl, (by decide : (1 : Nat) < 11), rfl, by kernel_rfl, (by decide : (3 : Nat) < 11), rfl, by kernel_rfl, (by decide : (5 : Nat) < 11), rfl, by kernel_rfl, (by decide : (7 : Nat) < 11), rfl, by kernel_rfl, (by decide : (9 : Nat) < 11), rfl, trivial⟩) (hlo.mono (Nat.zero_le _))⟩ fun _ _ => ?_
  refine ACode.cut 0 (fun _ : Unit => eSt b c1 c0 ws u1 u0 A B [] [] 5) (fun _ => True)
    (.draw 52 <| .br 134 false <| .br 141 false <| .call (.agg [.int .i64 q, .int .i64 q]) <| .val 148 (.bool (!(eqI q q))) [] <| .br 150 false <| .call (.agg [.int .i64 p, .int .i64 p]) <| .val 157 (.bool (!(eqI p p))) [] <| .br 158 false .nil) hn hlo .ret rfl
    ⟨by kernel_rfl, mixed, by kernel_rfl, n1, n2, spanE_spec q q, by kernel_rfl, e1, spanE_spec p p, by kernel_rfl, by kernel_rfl, e0, (), trivial, Wk.le (St.le.of ⟨by kernel_rfl, rfl, by kernel_rfl, rfl, by kernel_rfl, rfl, by kernel_rfl, rfl, by kernel_rfl, rfl, by kernel_rfl, rfl, by kernel_rfl, rfl, by kernel_rfl, rfl, by kernel_rfl, rfl, by kernel_rfl, rfl, trivial⟩ ⟨by kernel_rfl, (by decide : (0 : Nat) < 5), rfl, by kernel_rfl, (by decide : (1 : Nat) < 5), rfl, by kernel_rfl, (by decide : (3 : Nat) < 5), rfl, trivial⟩) (hlo.mono (Nat.zero_le _))⟩ fun _ _ => ?_
  refine ACode.cut 0 (fun _ : Unit => eSt b c1 c0 ws u1 u0 A B [] [] 5) (fun _ => True) .loop hn hlo .ret rfl ?_ fun _ _ => ?_
  · intro g2 hn2 hlo2
    replace hn2 : g2.n = 268 := hn2
    replace hlo2 : g2.low 0 := hlo2
    have hz : (A.zip B).length = A.length := by rw [List.length_zip, hAB, Nat.min_self]
    refine acode_whileW (fun k : Nat => eSt b c1 c0 ws u1 u0 A B [(160, .int .i64 (((A.zip B).map cS).length : Int)), (161, .int .i64 k)] [] 5) (fun k => k ≤ (A.zip B).length) (fun k => (A.zip B).length - k) 0 (Nat.zero_le _) (Wk.le (St.le.of ⟨by kernel_rfl, rfl, by kernel_rfl, rfl, by kernel_rfl, rfl, by kernel_rfl, rfl, by kernel_rfl, rfl, by kernel_rfl, rfl, by kernel_rfl, rfl, by kernel_rfl, rfl, by kernel_rfl, rfl, by kernel_rfl, rfl, by kernel_rfl, rfl, by kernel_rfl, rfl, trivial⟩ ⟨by kernel_rfl, (by decide : (0 : Nat) < 5), rfl, by kernel_rfl, (by decide : (1 : Nat) < 5), rfl, by kernel_rfl, (by decide : (3 : Nat) < 5), rfl, trivial⟩) (hlo2.mono (Nat.zero_le _))) ?_
    intro k hk
    by_cases hlt : k < (A.zip B).length
    · refine Exists.elim (getE (show k < A.length by omega)) fun x hx => Exists.elim (getE (show k < B.length by omega)) fun y hy => ?_
      have hxy : (A.zip B)[k]? = some (x, y) := List.getElem?_zip_eq_some.2 ⟨hx, hy⟩
      have hyy : (B.zip B)[k]? = some (y, y) := List.getElem?_zip_eq_some.2 ⟨hy, hy⟩
      have hxx : (A.zip A)[k]? = some (x, x) := List.getElem?_zip_eq_some.2 ⟨hx, hx⟩
      have ek := congrArg (AV.int .i64) (succ64 (k := k) (by omega))
      have ey : (!(eqI y y)) = false := by simp [eqI]
      have ex : (!(eqI x x)) = false := by simp [eqI]
      exact ACode.vcM (.br 162 true <| .draw 32 <| .cells (cS (y, y)) <| .cells (cS (x, y)) <| .cells (cS (x, y)) <| .call (.agg [.int .i64 y, .int .i64 y]) <| .val 179 (.bool (!(eqI y y))) [] <| .br 180 false <| .cells (cS (x, x)) <| .cells (cS (x, y)) <| .cells (cS (x, y)) <| .call (.agg [.int .i64 x, .int .i64 x]) <| .val 196 (.bool (!(eqI x x))) [] <| .br 197 false .nil) hn2 hlo2 (.roundW .cl)
        ⟨ltLen hlt, by kernel_rfl, mixed, by kernel_rfl, idx hyy, idx hxy, idx hxy, spanE_spec y y, by kernel_rfl, ey, idx hxx, idx hxy, idx hxy, spanE_spec x x, by kernel_rfl, by kernel_rfl, ex, k + 1, hlt, mu1 hlt,
          Wk.le (St.le.of ⟨by kernel_rfl, rfl, by kernel_rfl, rfl, by kernel_rfl, rfl, by kernel_rfl, rfl, by kernel_rfl, rfl, by kernel_rfl, rfl, by kernel_rfl, rfl, by kernel_rfl, rfl, by kernel_rfl, rfl, by kernel_rfl, rfl, by kernel_rfl, rfl, Eq.trans (by kernel_rfl) ek, rfl, trivial⟩ ⟨by kernel_rfl, (by decide : (0 : Nat) < 5), rfl, by kernel_rfl, (by decide : (1 : Nat) < 5), rfl, by kernel_rfl, (by decide : (3 : Nat) < 5), rfl, trivial⟩) (hlo2.mono (Nat.zero_le _))⟩
    · exact ACode.vcM (.br 162 false .nil) hn2 hlo2 (.roundW .cl) ⟨geLen hlt, _, .refl _, .nil, (), trivial, Wk.le (St.le.of ⟨by kernel_rfl, rfl, by kernel_rfl, rfl, by kernel_rfl, rfl, by kernel_rfl, rfl, by kernel_rfl, rfl, by kernel_rfl, rfl, by kernel_rfl, rfl, by kernel_rfl, rfl, by kernel_rfl, rfl, by kernel_rfl, rfl, trivial⟩ ⟨by kernel_rfl, (by decide : (0 : Nat) < 5), rfl, by kernel_rfl, (by decide : (1 : Nat) < 5), rfl, by kernel_rfl, (by decide : (3 : Nat) < 5), rfl, trivial⟩) (hlo.mono (Nat.zero_le _))⟩
  · refine Or.elim hS (fun h => ?_) (fun h => Or.elim h (fun h => Exists.elim h fun C h => Exists.elim h fun S h => ?_) (fun h => Exists.elim h fun C h => Exists.elim h fun S h => Exists.elim h fun C' h => Exists.elim h fun S' h => ?_))
    · rw [h.1] at s2
      rw [h.2.1] at s1
      rw [h.2.2] at s0
      exact ACode.vcM (.call (.tup [.int .u8 2, .int .i64 (-1), .int .i64 (-1), .int .i64 0]) <| .call (.tup [.int .u8 2, .int .i64 (-1), .int .i64 (-1), .int .i64 0]) <| .call (.tup [.int .u8 2, .int .i64 (-1), .int .i64 (-1), .int .i64 0]) .nil) hn hlo .ret ⟨s2, s1, s0, trivial, rfl⟩
    · rw [h.1] at s2
      rw [h.2.1] at s1
      rw [h.2.2] at s0
      have hC : (C == C) = true := beq_self_eq_true C
      exact ACode.vcM (.call (.tup [.int .u8 1, .int .i64 C, .int .i64 S, .int .i64 0]) <| .call (.tup [.int .u8 0, .int .i64 C, .int .i64 S, .int .i64 0]) <| .call (.tup [.int .u8 2, .int .i64 (-1), .int .i64 (-1), .int .i64 0]) <| .br 263 true .nil) hn hlo .ret ⟨s2, s1, s0, hC, rB (beq_self_eq_true S)⟩
    · rw [h.1] at s2
      rw [h.2.1] at s1
      rw [h.2.2] at s0
      have hC : (C == C) = true := beq_self_eq_true C
      exact ACode.vcM (.call (.tup [.int .u8 0, .int .i64 C, .int .i64 S, .int .i64 0]) <| .call (.tup [.int .u8 0, .int .i64 C, .int .i64 S, .int .i64 0]) <| .call (.tup [.int .u8 0, .int .i64 C', .int .i64 S', .int .i64 0]) <| .br 263 true .nil) hn hlo .ret ⟨s2, s1, s0, hC, rB (beq_self_eq_true S)⟩
end Go.Proofs.YtiggnliiigcjaaaDoor
