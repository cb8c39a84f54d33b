/-
  INSERTION SORT OF NUMBERS.
-/
import Derived.Test.YtcbdggmojnnbdaaDoorS0
namespace Go.Proofs.YtcbdggmojnnbdaaDoor
open Go Go.Am Go.Srt
set_option maxRecDepth 100000
def ltI (x y : Int) : Bool := decide (x < y)
theorem ordI : SOrd ltI := ⟨fun a b h => by simp only [ltI, decide_eq_true_eq, decide_eq_false_iff_not] at *; omega, fun a b c h1 h2 => by simp only [ltI, decide_eq_false_iff_not] at *; omega⟩
theorem isNaN_spec (x : Int) : APure Tryd.prog 108 [.int .i64 x] (.bool false) := APure.vc Tryd.func108 rfl .nil rfl rfl (rB (by simp))
theorem Less_spec (x y : Int) : APure Tryd.prog 120 [.int .i64 x, .int .i64 y] (.bool (ltI x y)) :=
  APure.vc Tryd.func120 rfl (.call (.bool false) .nil) rfl rfl ⟨isNaN_spec x, rB rfl⟩
structure Ins where
  U : List Int
  V : List Int
set_option maxHeartbeats 16000000 in
theorem ins_spec (S : List Int) {N : Nat} (hN : N = S.length) (hs : N ≤ 100000) :
    AMut Tryd.prog Tryd.f114 N 1 [.int .i64 0, .int .i64 N] (iL S) .undef (fun cs' => ∃ S', S'.Perm S ∧ Sd ltI S' ∧ cs' = iL S') := by
  have ea : IntKind.i64.wrap ((0 : Int) + 1) = 1 := wrap64 (by omega) (by omega)
  cases S with
  | nil =>
    refine AMut.vc .loop ?_
    intro g hn hl
    replace hn : g.n = 49 := hn
    replace hl : g.low 1 := hl
    simp only [List.length_nil] at hN
    have hc : decide ((1 : Int) < (N : Int)) = false := decide_eq_false (by omega)
    refine acode_while (fun _ : Unit => ⟨[(0, .rsl 0 0 N 1), (1, .int .i64 0), (2, .int .i64 N), (6, .int .i64 1)], [(0, .cells (iL []))], 1⟩) (fun _ => True) (fun _ => 0) () trivial ?_ (fun _ _ => hl) ?_
    · exact St.le.of ⟨rfl, rfl, rfl, rfl, rfl, rfl, congrArg (AV.int .i64) ea, rfl, trivial⟩ ⟨rfl, Nat.zero_lt_one, iL_ok _ _, trivial⟩
    · rintro _ _
      exact ACode.vcM (.br 12 false .nil) hn hl (.round .cl) ⟨hc, _, .refl _, .nil, rfl, _, rfl, [], .refl _, List.Pairwise.nil, rfl⟩
  | cons s S =>
    refine AMut.vc .loop ?_
    intro g hn hl
    replace hn : g.n = 49 := hn
    replace hl : g.low 1 := hl
    simp only [List.length_cons] at hN
    refine acode_while (fun o : Ins => ⟨[(0, .rsl 0 0 N 1), (1, .int .i64 0), (2, .int .i64 N), (6, .int .i64 ((o.U.length : Nat) : Int))], [(0, .cells (iL (o.U ++ o.V)))], 1⟩)
      (fun o => Sd ltI o.U ∧ (o.U ++ o.V).Perm (s :: S)) (fun o => o.V.length) ⟨[s], S⟩ ⟨List.pairwise_singleton _ _, .refl _⟩ ?_ (fun _ _ => hl) ?_
    · exact St.le.of ⟨rfl, rfl, rfl, rfl, rfl, rfl, congrArg (AV.int .i64) ea, rfl, trivial⟩ ⟨rfl, Nat.zero_lt_one, iL_ok _ _, trivial⟩
    · rintro ⟨U, V⟩ ⟨h1, h2⟩
      simp only at h1 h2 ⊢
      have hlen := h2.length_eq
      simp only [List.length_append, List.length_cons] at hlen
      cases V with
      | nil =>
        have hc : decide (((U.length : Nat) : Int) < (N : Int)) = false := decide_eq_false (by simp only [List.length_nil] at hlen; omega)
        have h3 := h2
        rw [List.append_nil] at h3
        have e3 : iL (U ++ []) = iL U := by rw [List.append_nil]
        exact ACode.vcM (.br 12 false .nil) hn hl (.round .cl) ⟨hc, _, .refl _, .nil, rfl, _, rfl, U, h3, h1, e3⟩
      | cons x V =>
        simp only [List.length_cons] at hlen
        have hc : decide (((U.length : Nat) : Int) < (N : Int)) = true := decide_eq_true (by omega)
        refine ACode.vcM (.br 12 true .loop) hn hl (.round .cl) ⟨hc, ?_⟩
        intro g hn hl
        replace hn : g.n = 49 := hn
        replace hl : g.low 1 := hl
        refine acode_while (fun o : Ins => ⟨[(0, .rsl 0 0 N 1), (1, .int .i64 0), (2, .int .i64 N), (6, .int .i64 ((U.length : Nat) : Int)), (7, .int .i64 ((o.U.length : Nat) : Int))], [(0, .cells (iL (o.U ++ (x :: (o.V ++ V)))))], 1⟩)
          (fun o => o.U ++ o.V = U ∧ ∀ v ∈ o.V, ltI x v = true) (fun o => o.U.length) ⟨U, []⟩ ⟨List.append_nil U, fun v hv => by cases hv⟩ ?_ (fun _ _ => hl) ?_
        · exact St.le.of ⟨rfl, rfl, rfl, rfl, rfl, rfl, rfl, rfl, rfl, rfl, trivial⟩ ⟨rfl, Nat.zero_lt_one, iL_ok _ _, trivial⟩
        · rintro ⟨U1, W⟩ ⟨i1, i2⟩
          simp only at i1 i2 ⊢
          have hUl := congrArg List.length i1
          simp only [List.length_append] at hUl
          have fin : (∀ U' u, U1 = U' ++ [u] → ltI x u = false) → Sd ltI (U1 ++ x :: W) ∧ ((U1 ++ x :: W) ++ V).Perm (s :: S) ∧ iL (U1 ++ (x :: (W ++ V))) = iL ((U1 ++ x :: W) ++ V) ∧ (U1 ++ x :: W).length = U.length + 1 := fun hu => by
            refine ⟨ins_done ordI (i1 ▸ h1) i2 hu, ?_, by simp, by simp; omega⟩
            refine List.Perm.trans ?_ h2
            rw [← i1]
            have : U1 ++ x :: W ++ V = U1 ++ (x :: (W ++ V)) := by simp
            rw [this, List.append_assoc]
            exact List.Perm.append_left U1 List.perm_middle.symm
          rcases List.eq_nil_or_concat U1 with e | ⟨U2, u, e⟩
          · subst e
            have hg : decide (((([] : List Int).length : Nat) : Int) > (0 : Int)) = false := rfl
            have hf := fin fun U' u h => by simp at h
            have e8 : IntKind.i64.wrap (((U.length : Nat) : Int) + 1) = ((([] ++ x :: W).length : Nat) : Int) := by rw [succ64 (by omega), hf.2.2.2]
            exact ACode.vcM (.draw 13 <| .br 19 false .nil) hn hl (.round .cl) ⟨by kernel_rfl, mixed, by kernel_rfl, hg, by kernel_rfl, _, .refl _, .nil, ⟨[] ++ x :: W, V⟩, ⟨hf.1, hf.2.1⟩, Nat.lt_succ_self _,
              St.le.of ⟨rfl, rfl, rfl, rfl, rfl, rfl, congrArg (AV.int .i64) e8, rfl, trivial⟩ ⟨congrArg (fun z => some (AObj.cells z)) hf.2.2.1, Nat.zero_lt_one, iL_ok _ _, trivial⟩⟩
          · rw [List.concat_eq_append] at e
            subst e
            have hul : (U2 ++ [u]).length = U2.length + 1 := by simp
            have hg : decide ((((U2 ++ [u]).length : Nat) : Int) > (0 : Int)) = true := decide_eq_true (by omega)
            obtain ⟨L, hL⟩ : ∃ L, L = (U2 ++ [u]) ++ (x :: (W ++ V)) := ⟨_, rfl⟩
            have hL2 : L = U2 ++ u :: ([] ++ x :: (W ++ V)) := by rw [hL]; simp
            have gu : L[U2.length]? = some u := by rw [hL2]; exact get1 rfl
            have gx : L[(U2 ++ [u]).length]? = some x := by rw [hL2]; exact get2 (by simp)
            have hLl : L.length = U2.length + 1 + 1 + (W ++ V).length := by rw [hL2]; simp; omega
            have hLN : L.length = N := by rw [hLl]; simp only [List.length_append]; omega
            have ej : IntKind.i64.wrap ((((U2 ++ [u]).length : Nat) : Int) - 1) = ((U2.length : Nat) : Int) := by
              rw [hul]; exact pred64 (j := U2.length) (by omega)
            have ix1 := ixI (h := hget []) (id := 0) (n := N) (i := (((U2 ++ [u]).length : Nat) : Int)) rfl (by omega)
            have ix2 := ixI (h := hget []) (id := 0) (n := N) ej (by omega)
            have l1 := ldI (h := hget [(0, .cells (iL L))]) (id := 0) (l := L) rfl gx
            have l2 := ldI (h := hget [(0, .cells (iL L))]) (id := 0) (l := L) rfl gu
            rw [← hL]
            cases hlt : ltI x u
            · have sl := Less_spec x u
              rw [hlt] at sl
              have hf := fin fun U' u' h => by
                have := List.append_inj' h rfl
                have := this.2
                simp at this; subst this; exact hlt
              rw [← hL] at hf
              have e8 : IntKind.i64.wrap (((U.length : Nat) : Int) + 1) = (((U2 ++ [u] ++ x :: W).length : Nat) : Int) := by rw [succ64 (by omega), hf.2.2.2]
              exact ACode.vcM (.draw 13 <| .br 19 true <| .val 22 (.vptr 0 (U2 ++ [u]).length) [] <| .val 23 (.int .i64 x) [] <| .val 27 (.vptr 0 U2.length) [] <| .val 28 (.int .i64 u) [] <|
                  .call (.bool false) .nil) hn hl (.round .cl)
                ⟨by kernel_rfl, mixed, by kernel_rfl, hg, Eq.trans (by kernel_rfl) ix1, Eq.trans (by kernel_rfl) l1, Eq.trans (by kernel_rfl) ix2, Eq.trans (by kernel_rfl) l2, by kernel_rfl, sl, _, .refl _, .nil,
                  ⟨U2 ++ [u] ++ x :: W, V⟩, ⟨hf.1, hf.2.1⟩, Nat.lt_succ_self _,
                  St.le.of ⟨rfl, rfl, rfl, rfl, rfl, rfl, congrArg (AV.int .i64) e8, rfl, trivial⟩ ⟨congrArg (fun z => some (AObj.cells z)) hf.2.2.1, Nat.zero_lt_one, iL_ok _ _, trivial⟩⟩
            · have sl := Less_spec x u
              rw [hlt] at sl
              have s1 := stI (h := hget [(0, .cells (iL L))]) (id := 0) (l := L) (x := u) rfl (show (U2 ++ [u]).length < L.length by omega)
              have s2 := stI (h := hget [(0, .cells (iL (L.set (U2 ++ [u]).length u)))]) (id := 0) (l := L.set (U2 ++ [u]).length u) (x := x) rfl (show U2.length < (L.set (U2 ++ [u]).length u).length by rw [List.length_set]; omega)
              have sw : (L.set (U2 ++ [u]).length u).set U2.length x = U2 ++ (x :: ((u :: W) ++ V)) := by
                rw [hL2, swap2' rfl (by simp)]; simp
              rw [sw] at s2
              have i3 : U2 ++ u :: W = U := by rw [← i1]; simp
              have i4 : ∀ v ∈ u :: W, ltI x v = true := fun v hv => by
                rcases List.mem_cons.1 hv with rfl | hv
                · exact hlt
                · exact i2 v hv
              have i5 : U2.length < (U2 ++ [u]).length := by omega
              exact ACode.vcM (.draw 13 <| .br 19 true <| .val 22 (.vptr 0 (U2 ++ [u]).length) [] <| .val 23 (.int .i64 x) [] <| .val 27 (.vptr 0 U2.length) [] <| .val 28 (.int .i64 u) [] <|
                  .call (.bool true) <| .draw 16 <| .val 41 (.vptr 0 U2.length) [] <| .val 42 (.int .i64 u) [] <| .val 45 (.vptr 0 (U2 ++ [u]).length) [] <| .val 46 (.int .i64 x) [] <|
                  .val 47 (.vptr 0 (U2 ++ [u]).length) [] <| .val 1 .undef [(0, some (.cells (iL (L.set (U2 ++ [u]).length u))))] <| .val 48 (.vptr 0 U2.length) [] <|
                  .val 1 .undef [(0, some (.cells (iL (U2 ++ (x :: ((u :: W) ++ V))))))] .nil) hn hl (.round .cl)
                ⟨by kernel_rfl, mixed, by kernel_rfl, hg, Eq.trans (by kernel_rfl) ix1, Eq.trans (by kernel_rfl) l1, Eq.trans (by kernel_rfl) ix2, Eq.trans (by kernel_rfl) l2, by kernel_rfl, sl,
                  by kernel_rfl, mixed, by kernel_rfl, Eq.trans (by kernel_rfl) ix2, Eq.trans (by kernel_rfl) l2, Eq.trans (by kernel_rfl) ix1, Eq.trans (by kernel_rfl) l1, Eq.trans (by kernel_rfl) ix1, Eq.trans (by kernel_rfl) s1, by kernel_rfl, Eq.trans (by kernel_rfl) ix2, Eq.trans (by kernel_rfl) s2,
                  ⟨U2, u :: W⟩, ⟨i3, i4⟩, i5,
                  St.le.of ⟨rfl, rfl, rfl, rfl, rfl, rfl, rfl, rfl, congrArg (AV.int .i64) ej, rfl, trivial⟩ ⟨rfl, Nat.zero_lt_one, iL_ok _ _, trivial⟩⟩
end Go.Proofs.YtcbdggmojnnbdaaDoor
