import Derived.Test.YtiggnliiigcjaaaDoorS0
import Derived.Test.YtiggnliiigcjaaaDoorM4
import Derived.Shelf.Sort.Plain
/-
  INSERTION SORT OF NUMBERS.
-/
namespace Go.Proofs.YtiggnliiigcjaaaDoor
open Go Go.Am Go.Srt
set_option maxRecDepth 100000
def ltI (x y : Int) : Bool := decide (x < y)
theorem ordI : SOrd ltI := ⟨fun a b h => by simp only [ltI, decide_eq_true_eq, decide_eq_false_iff_not] at *; omega, fun a b c h1 h2 => by simp only [ltI, decide_eq_false_iff_not] at *; omega⟩
theorem isNaN_spec (x : Int) : APure Tryd.prog 147 [.int .i64 x] (.bool false) := APure.vc Tryd.func147 rfl .nil rfl rfl (rB (by simp))
theorem Less_spec (x y : Int) : APure Tryd.prog 137 [.int .i64 x, .int .i64 y] (.bool (ltI x y)) :=
  APure.vc Tryd.func137 rfl (.call (.bool false) .nil) rfl rfl ⟨isNaN_spec x, rB rfl⟩
structure Ins where
  U : List Int
  V : List Int
set_option maxHeartbeats 16000000 in
theorem ins_spec (S : List Int) {N : Nat} (hN : N = S.length) (hs : N ≤ 100000) :
    AMut Tryd.prog Tryd.f131 N 1 [.int .i64 0, .int .i64 N] (iL S) .undef (fun cs' => ∃ S', S'.Perm S ∧ Sd ltI S' ∧ cs' = iL S') := by
  have ea : IntKind.i64.wrap ((0 : Int) + 1) = 1 := wrap64 (by omega) (by omega)
  cases S with
  | nil =>
    refine AMut.vc .loop ?_
    intro g hn hl
    replace hn : g.n = 49 := hn
    replace hl : g.low 1 := hl
    simp only [List.length_nil] at hN
    have hc : decide ((1 : Int) < (N : Int)) = false := decide_eq_false (by omega)
    refine acode_while (fun _ : Unit => ⟨[(0, .rsl 0 0 N 1), (1, .int .i64 0), (2, .int .i64 N), (6, .int .i64 1)], [(0, .cells (iL []))], 1⟩) (fun _ => True) (fun _ => 0) () trivial ?_ (fun _ _ => hl) ?_
    · exact St.le.of ⟨rfl, rfl, rfl, rfl, rfl, rfl, congrArg (AV.int .i64) ea, rfl, trivial⟩ ⟨rfl, Nat.zero_lt_one, iL_ok _ _, trivial⟩
    · rintro _ _
      exact ACode.vcM (.br 12 false .nil) hn hl (.round .cl) ⟨hc, _, .refl _, .nil, rfl, _, rfl, [], .refl _, List.Pairwise.nil, rfl⟩
  | cons s S =>
    refine AMut.vc .loop ?_
    intro g hn hl
    replace hn : g.n = 49 := hn
    replace hl : g.low 1 := hl
    simp only [List.length_cons] at hN
    refine acode_while (fun o : Ins => ⟨[(0, .rsl 0 0 N 1), (1, .int .i64 0), (2, .int .i64 N), (6, .int .i64 ((o.U.length : Nat) : Int))], [(0, .cells (iL (o.U ++ o.V)))], 1⟩)
      (fun o => Sd ltI o.U ∧ (o.U ++ o.V).Perm (s :: S)) (fun o => o.V.length) ⟨[s], S⟩ ⟨List.pairwise_singleton _ _, .refl _⟩ ?_ (fun _ _ => hl) ?_
    · exact St.le.of ⟨rfl, rfl, rfl, rfl, rfl, rfl, congrArg (AV.int .i64) ea, rfl, trivial⟩ ⟨rfl, Nat.zero_lt_one, iL_ok _ _, trivial⟩
    · rintro ⟨U, V⟩ ⟨h1, h2⟩
      simp only at h1 h2 ⊢
      have hlen := h2.length_eq
      simp only [List.length_append, List.length_cons] at hlen
      cases V with
      | nil =>
        have hc : decide (((U.length : Nat) : Int) < (N : Int)) = false := decide_eq_false (by simp only [List.length_nil] at hlen; omega)
        have h3 := h2
        rw [List.append_nil] at h3
        have e3 : iL (U ++ []) = iL U := by rw [List.append_nil]
        exact ACode.vcM (.br 12 false .nil) hn hl (.round .cl) ⟨hc, _, .refl _, .nil, rfl, _, rfl, U, h3, h1, e3⟩
      | cons x V =>
        simp only [List.length_cons] at hlen
        have hc : decide (((U.length : Nat) : Int) < (N : Int)) = true := decide_eq_true (by omega)
        refine ACode.vcM (.br 12 true .loop) hn hl (.round .cl) ⟨hc, ?_⟩
        intro g hn hl
        replace hn : g.n = 49 := hn
        replace hl : g.low 1 := hl
        refine acode_while (fun o : Ins => ⟨[(0, .rsl 0 0 N 1), (1, .int .i64 0), (2, .int .i64 N), (6, .int .i64 ((U.length : Nat) : Int)), (7, .int .i64 ((o.U.length : Nat) : Int))], [(0, .cells (iL (o.U ++ (x :: (o.V ++ V)))))], 1⟩)
          (fun o => o.U ++ o.V = U ∧ ∀ v ∈ o.V, ltI x v = true) (fun o => o.U.length) ⟨U, []⟩ ⟨List.append_nil U, fun v hv => by cases hv⟩ ?_ (fun _ _ => hl) ?_
        · exact St.le.of ⟨rfl, rfl, rfl, rfl, rfl, rfl, rfl, rfl, rfl, rfl, trivial⟩ ⟨rfl, Nat.zero_lt_one, iL_ok _ _, trivial⟩
        · rintro ⟨U1, W⟩ ⟨i1, i2⟩
          simp only at i1 i2 ⊢
          have hUl := congrArg List.length i1
          simp only [List.length_append] at hUl
          have fin : (∀ U' u, U1 = U' ++ [u] → ltI x u = false) → Sd ltI (U1 ++ x :: W) ∧ ((U1 ++ x :: W) ++ V).Perm (s :: S) ∧ iL (U1 ++ (x :: (W ++ V))) = iL ((U1 ++ x :: W) ++ V) ∧ (U1 ++ x :: W).length = U.length + 1 := fun hu => by
            refine ⟨ins_done ordI (i1 ▸ h1) i2 hu, ?_, by simp, by simp; omega⟩
            refine List.Perm.trans ?_ h2
            rw [← i1]
            have : U1 ++ x :: W ++ V = U1 ++ (x :: (W ++ V)) := by simp
            rw [this, List.append_assoc]
            exact List.Perm.append_left U1 List.perm_middle.symm
          rcases List.eq_nil_or_concat U1 with e | ⟨U2, u, e⟩
          · subst e
            have hg : decide (((([] : List Int).length : Nat) : Int) > (0 : Int)) = false := rfl
            have hf := fin fun U' u h => by simp at h
            have e8 : IntKind.i64.wrap (((U.length : Nat) : Int) + 1) = ((([] ++ x :: W).length : Nat) : Int) := by rw [succ64 (by omega), hf.2.2.2]
            exact ACode.vcM (.draw 13 <| .br 19 false .nil) hn hl (.round .cl) ⟨by kernel_rfl, mixed, by kernel_rfl, hg, by kernel_rfl, _, .refl _, .nil, ⟨[] ++ x :: W, V⟩, ⟨hf.1, hf.2.1⟩, Nat.lt_succ_self _,
              St.le.of ⟨rfl, rfl, rfl, rfl, rfl, rfl, congrArg (AV.int .i64) e8, rfl, trivial⟩ ⟨congrArg (fun z => some (AObj.cells z)) hf.2.2.1, Nat.zero_lt_one, iL_ok _ _, trivial⟩⟩
          · rw [List.concat_eq_append] at e
            subst e
            have hul : (U2 ++ [u]).length = U2.length + 1 := by simp
            have hg : decide ((((U2 ++ [u]).length : Nat) : Int) > (0 : Int)) = true := decide_eq_true (by omega)
            obtain ⟨L, hL⟩ : ∃ L, L = (U2 ++ [u]) ++ (x :: (W ++ V)) := ⟨_, rfl⟩
            have hL2 : L = U2 ++ u :: ([] ++ x :: (W ++ V)) := by rw [hL]; simp
            have gu : L[U2.length]? = some u := by rw [hL2]; exact get1 rfl
            have gx : L[(U2 ++ [u]).length]? = some x := by rw [hL2]; exact get2 (by simp)
            have hLl : L.length = U2.length + 1 + 1 + (W ++ V).length := by rw [hL2]; simp; omega
            have hLN : L.length = N := by rw [hLl]; simp only [List.length_append]; omega
            have ej : IntKind.i64.wrap ((((U2 ++ [u]).length : Nat) : Int) - 1) = ((U2.length : Nat) : Int) := by
              rw [hul]; exact pred64 (j := U2.length) (by omega)
            have ix1 := ixI (h := hget []) (id := 0) (n := N) (i := (((U2 ++ [u]).length : Nat) : Int)) rfl (by omega)
            have ix2 := ixI (h := hget []) (id := 0) (n := N) ej (by omega)
            have l1 := ldI (h := hget [(0, .cells (iL L))]) (id := 0) (l := L) rfl gx
            have l2 := ldI (h := hget [(0, .cells (iL L))]) (id := 0) (l := L) rfl gu
            rw [← hL]
            cases hlt : ltI x u
            · have sl := Less_spec x u
              rw [hlt] at sl
              have hf := fin fun U' u' h => by
                have := List.append_inj' h rfl
                have := this.2
                simp at this; subst this; exact hlt
              rw [← hL] at hf
              have e8 : IntKind.i64.wrap (((U.length : Nat) : Int) + 1) = (((U2 ++ [u] ++ x :: W).length : Nat) : Int) := by rw [succ64 (by omega), hf.2.2.2]
              exact ACode.vcM (.draw 13 <| .br 19 true <| .val 22 (.vptr 0 (U2 ++ [u]).length) [] <| .val 23 (.int .i64 x) [] <| .val 27 (.vptr 0 U2.length) [] <| .val 28 (.int .i64 u) [] <|
                  .call (.bool false) .nil) hn hl (.round .cl)
                ⟨by kernel_rfl, mixed, by kernel_rfl, hg, Eq.trans (by kernel_rfl) ix1, Eq.trans (by kernel_rfl) l1, Eq.trans (by kernel_rfl) ix2, Eq.trans (by kernel_rfl) l2, by kernel_rfl, sl, _, .refl _, .nil,
                  ⟨U2 ++ [u] ++ x :: W, V⟩, ⟨hf.1, hf.2.1⟩, Nat.lt_succ_self _,
                  St.le.of ⟨rfl, rfl, rfl, rfl, rfl, rfl, congrArg (AV.int .i64) e8, rfl, trivial⟩ ⟨congrArg (fun z => some (AObj.cells z)) hf.2.2.1, Nat.zero_lt_one, iL_ok _ _, trivial⟩⟩
            · have sl := Less_spec x u
              rw [hlt] at sl
              have s1 := stI (h := hget [(0, .cells (iL L))]) (id := 0) (l := L) (x := u) rfl (show (U2 ++ [u]).length < L.length by omega)
              have s2 := stI (h := hget [(0, .cells (iL (L.set (U2 ++ [u]).length u)))]) (id := 0) (l := L.set (U2 ++ [u]).length u) (x := x) rfl (show U2.length < (L.set (U2 ++ [u]).length u).length by rw [List.length_set]; omega)
              have sw : (L.set (U2 ++ [u]).length u).set U2.length x = U2 ++ (x :: ((u :: W) ++ V)) := by
                rw [hL2, swap2' rfl (by simp)]; simp
              rw [sw] at s2
              have i3 : U2 ++ u :: W = U := by rw [← i1]; simp
              have i4 : ∀ v ∈ u :: W, ltI x v = true := fun v hv => by
                rcases List.mem_cons.1 hv with rfl | hv
                · exact hlt
                · exact i2 v hv
              have i5 : U2.length < (U2 ++ [u]).length := by omega
              exact ACode.vcM (.draw 13 <| .br 19 true <| .val 22 (.vptr 0 (U2 ++ [u]).length) [] <| .val 23 (.int .i64 x) [] <| .val 27 (.vptr 0 U2.length) [] <| .val 28 (.int .i64 u) [] <|
                  .call (.bool true) <| .draw 16 <| .val 41 (.vptr 0 U2.length) [] <| .val 42 (.int .i64 u) [] <| .val 45 (.vptr 0 (U2 ++ [u]).length) [] <| .val 46 (.int .i64 x) [] <|
                  .val 47 (.vptr 0 (U2 ++ [u]).length) [] <| .val 1 .undef [(0, some (.cells (iL (L.set (U2 ++ [u]).length u))))] <| .val 48 (.vptr 0 U2.length) [] <|
                  .val 1 .undef [(0, some (.cells (iL (U2 ++ (x :: ((u :: W) ++ V))))))] .nil) hn hl (.round .cl)
                ⟨by kernel_rfl, mixed, by kernel_rfl, hg, Eq.trans (by kernel_rfl) ix1, Eq.trans (by kernel_rfl) l1, Eq.trans (by kernel_rfl) ix2, Eq.trans (by kernel_rfl) l2, by kernel_rfl, sl,
                  by kernel_rfl, mixed, by kernel_rfl, Eq.trans (by kernel_rfl) ix2, Eq.trans (by kernel_rfl) l2, Eq.trans (by kernel_rfl) ix1, Eq.trans (by kernel_rfl) l1, Eq.trans (by kernel_rfl) ix1, Eq.trans (by kernel_rfl) s1, by kernel_rfl, Eq.trans (by kernel_rfl) ix2, Eq.trans (by kernel_rfl) s2,
                  ⟨U2, u :: W⟩, ⟨i3, i4⟩, i5,
                  St.le.of ⟨rfl, rfl, rfl, rfl, rfl, rfl, rfl, rfl, congrArg (AV.int .i64) ej, rfl, trivial⟩ ⟨rfl, Nat.zero_lt_one, iL_ok _ _, trivial⟩⟩
set_option maxHeartbeats 4000000
/-! ### sorting -/
theorem Len_spec (n : Nat) (h : n ≤ 12) : ∃ v : Int, APure Tryd.prog 130 [.int .u64 n] (.int .i64 v) := by
  match n, h with
  | 0, _ => exact ⟨0, .runK .nil 100 30 (by kernel_rfl)⟩
  | 1, _ => exact ⟨1, .runK .nil 100 30 (by kernel_rfl)⟩
  | 2, _ => exact ⟨2, .runK .nil 100 30 (by kernel_rfl)⟩
  | 3, _ => exact ⟨2, .runK .nil 100 30 (by kernel_rfl)⟩
  | 4, _ => exact ⟨3, .runK .nil 100 30 (by kernel_rfl)⟩
  | 5, _ => exact ⟨3, .runK .nil 100 30 (by kernel_rfl)⟩
  | 6, _ => exact ⟨3, .runK .nil 100 30 (by kernel_rfl)⟩
  | 7, _ => exact ⟨3, .runK .nil 100 30 (by kernel_rfl)⟩
  | 8, _ => exact ⟨4, .runK .nil 100 30 (by kernel_rfl)⟩
  | 9, _ => exact ⟨4, .runK .nil 100 30 (by kernel_rfl)⟩
  | 10, _ => exact ⟨4, .runK .nil 100 30 (by kernel_rfl)⟩
  | 11, _ => exact ⟨4, .runK .nil 100 30 (by kernel_rfl)⟩
  | 12, _ => exact ⟨4, .runK .nil 100 30 (by kernel_rfl)⟩
  | n + 13, h => omega
def SrtQ (S : List Int) (cs' : List AV) : Prop := ∃ S', S'.Perm S ∧ Sd ltI S' ∧ cs' = iL S'
theorem SrtQ.ok {S : List Int} {cs : List AV} (h : SrtQ S cs) : okL 0 cs = true := by
  obtain ⟨S', _, _, e⟩ := h
  rw [e]; exact iL_ok 0 S'
theorem pdq_spec (S : List Int) (v : Int) {N : Nat} (hN : N = S.length) (hs : N ≤ 12) :
    AMut Tryd.prog Tryd.f129 N 1 [.int .i64 0, .int .i64 N, .int .i64 v] (iL S) .undef (SrtQ S) := by
  have sI := ins_spec S hN (by omega)
  have d23 : decide (IntKind.i64.wrap ((N : Int) - 0) ≤ 12) = true := decide_eq_true (by rw [wrap64 (by omega) (by omega)]; omega)
  refine AMut.vc .loop ?_
  intro g hn hl
  replace hn : g.n = 134 := hn
  replace hl : g.low 1 := hl
  refine acode_while (fun _ : Unit => ⟨[(0, .rsl 0 0 N 1), (1, .int .i64 0), (2, .int .i64 N)], [(0, .cells (iL S))], 1⟩) (fun _ => True) (fun _ => 0) () trivial ?_ (fun _ _ => hl) ?_
  · exact St.le.of ⟨rfl, rfl, rfl, rfl, rfl, rfl, trivial⟩ ⟨rfl, Nat.zero_lt_one, iL_ok _ _, trivial⟩
  · rintro _ _
    exact ACode.vcM (.br 23 true <| .inl Tryd.f131 <| .nz .nil) hn hl (.round .cl) ⟨d23, Tryd.func131,
      AMut.use sI rfl rfl (iL_ok 0 S) (fun _ h => SrtQ.ok h) rfl fun cs' hQ => ⟨_, .refl _, .nil, rfl, _, rfl, hQ⟩⟩
theorem Sort_spec (S : List Int) {N : Nat} (hN : N = S.length) (hs : N ≤ 12) : AMut Tryd.prog Tryd.f126 N 1 [] (iL S) .undef (SrtQ S) := by
  obtain ⟨v, hv⟩ := Len_spec N hs
  have sP := pdq_spec S v hN hs
  have ew : IntKind.u64.wrap (N : Int) = (N : Int) := by
    unfold IntKind.wrap
    have e1 : (2 : Int) ^ IntKind.u64.bits = 18446744073709551616 := by decide
    simp only [e1, IntKind.signed, Bool.false_and]
    have : (N : Int) % 18446744073709551616 = N := Int.emod_eq_of_lt (by omega) (by omega)
    rw [this]; rfl
  rw [← ew] at hv
  exact AMut.vc (.call (.int .i64 v) <| .inl Tryd.f129 <| .nz .nil) ⟨hv, Tryd.func129,
    AMut.use sP rfl rfl (iL_ok 0 S) (fun _ h => SrtQ.ok h) rfl fun cs' hQ => ⟨rfl, _, rfl, hQ⟩⟩
end Go.Proofs.YtiggnliiigcjaaaDoor
/-
  TIMES IN THEIR ORDER.
-/
namespace Go.Proofs.YtiggnliiigcjaaaDoor
open Go Go.Am Go.Srt
set_option maxRecDepth 100000
set_option maxHeartbeats 4000000
def valsCl (l : List Int) : AV := .fn (.func 127) [] [.cptr [encR l]]
theorem Values_spec (l : List Int) : APure Tryd.prog 124 [encR l] (valsCl l) :=
  APure.vcT Tryd.func124 .nil rfl rfl ⟨[0], by kernel_rfl⟩
noncomputable def asgA : Code := rfA Tryd.f128
noncomputable def bodA : Code := rfB Tryd.f128
/-- What the library's sort does. -/
def SortOk : Prop := ∀ (S : List Int) (N : Nat), N = S.length → N ≤ 1000 → AMut Tryd.prog Tryd.f126 N 1 [] (iL S) .undef (SrtQ S)
theorem sd_sortV (l : List Int) : Sd ltI (sortV l) := by
  have h := List.pairwise_mergeSort (le := fun x y : Int => decide (x ≤ y)) (fun a b c h1 h2 => by simp at *; omega) (fun a b => by simp; omega) l
  unfold Sd
  exact h.imp fun {a b} hab => decide_eq_false (by have := of_decide_eq_true hab; omega)
theorem perm_sortV (l : List Int) : (sortV l).Perm l := List.mergeSort_perm l _
theorem sd_le {l : List Int} (h : Sd ltI l) : l.Pairwise (fun a b => a ≤ b) := h.imp fun {a b} hab => by have := of_decide_eq_false hab; omega
theorem sortV_of {S l : List Int} (hp : S.Perm l) (hs : Sd ltI S) : S = sortV l :=
  List.Perm.eq_of_pairwise (le := fun a b : Int => a ≤ b) (fun _a _b _ _ h1 h2 => Int.le_antisymm h1 h2) (sd_le hs) (sd_le (sd_sortV l)) (hp.trans (perm_sortV l).symm)
theorem len_sortV (l : List Int) : (sortV l).length = l.length := (perm_sortV l).length_eq
theorem inOrder_of (hSort : SortOk) (l : List Int) (hl : l.length ≤ 1000) : APure Tryd.prog 120 [encR l] (encR (sortV l)) := by
  refine APure.vcM Tryd.func120 (.call (valsCl l) <| .inl Tryd.f123 <| .inl Tryd.f125 <| .inl Tryd.f128 <| .inl Tryd.f127 .loop) rfl rfl
    ⟨Values_spec l, Tryd.func123, Tryd.func125, Tryd.func128, Tryd.func127, ?_⟩
  intro g hn hlo
  replace hn : g.n = 16 := hn
  replace hlo : g.low 2 := hlo
  refine acode_whileW (fun k : Nat => ⟨[(0, .yld 1), (5, encR l), (6, .int .i64 (l.map encI).length), (7, .int .i64 k)],
      [(0, .cells [.rsl 2 0 (l.take k).length 1]), (1, .loop ⟨.ready, none, 13, [(2, .vptr 0 0)], #[7], asgA, bodA⟩), (2, .cells (iL (l.take k)))], 3⟩)
    (fun k => k ≤ l.length) (fun k => l.length - k) 0 (Nat.zero_le _) ?_ ?_
  · refine Wk.trans (Wk.le ?_ (hlo.mono (show 2 ≤ 3 by decide))) (Wk.trans (Wk.ownC 0 0 1 (cs := [.nil]) (by kernel_rfl) rfl) (Wk.loopEnv (id := 1) (n := 2) [(2, .vptr 0 0)] rfl ⟨rfl, rfl, trivial⟩))
    exact St.le.of ⟨by kernel_rfl, rfl, by kernel_rfl, rfl, by kernel_rfl, rfl, by kernel_rfl, rfl, trivial⟩ ⟨by kernel_rfl, (by decide : (0 : Nat) < 3), rfl, by kernel_rfl, (by decide : (1 : Nat) < 3), rfl, by kernel_rfl, (by decide : (2 : Nat) < 3), iL_ok _ _, trivial⟩
  · intro k hk
    by_cases hlt : k < l.length
    · refine Exists.elim (getE hlt) fun x hx => ?_
      have ek := congrArg (AV.int .i64) (succ64 (k := k) (by omega))
      have hz : l.take (k + 1) = l.take k ++ [x] := by rw [List.take_add_one, hx]; rfl
      have hzl : (l.take (k + 1)).length = (l.take k).length + 1 := by rw [hz]; simp
      have ap := app_one (h := hget [(2, .cells (iL (l.take k))), (3, .cells [.int .i64 x])]) (i := 2) (j := 3) (nid := 4) (l := l.take k) (x := x) rfl rfl (by rw [List.length_take]; omega)
      rw [← hz, ← hzl] at ap
      exact ACode.vcM (.br 8 true <| .cells (encI x) <| .val 11 (.yld 1) [] <| .val 11 (.rsl 4 0 (l.take (k + 1)).length 1) [(2, none), (4, some (.cells (iL (l.take (k + 1)))))] .nil) hn hlo (.roundW .cl)
        ⟨ltLen hlt, idx hx, by kernel_rfl, Eq.trans (by kernel_rfl) ap, k + 1, hlt, mu1 hlt, Wk.renC (c := 2) (b := 4) (St.renC.of rfl (.inl (by decide)) ⟨.eq (by kernel_rfl) rfl, .eq (by kernel_rfl) rfl, .eq (by kernel_rfl) rfl, .eq (Eq.trans (by kernel_rfl) ek) rfl, trivial⟩
          ⟨rvO.turn (by decide : (0 : Nat) < 2) (ys := [.rsl 4 0 (l.take (k + 1)).length 1]) (by kernel_rfl) ⟨.rsl, trivial⟩, rvO.same (by decide : (1 : Nat) < 2) (by kernel_rfl) rfl, rvO.new (by kernel_rfl) (iL_ok _ _), trivial⟩) hlo⟩
    · have hk' : k = l.length := by have h9 : k ≤ l.length := hk; omega
      have et : l.take k = l := by rw [hk', List.take_length]
      have fin : ∀ cs', SrtQ l cs' → ∃ is, thaw 8 (hget [(0, .cells [.rsl 2 0 l.length 1]), (2, .cells cs')]) (.rsl 2 0 l.length 1) = some (encR (sortV l), is) := fun cs' ⟨S', h1, h2, h3⟩ => by
        have e3 : S' = sortV l := sortV_of h1 h2
        have := thaw_fl (enc := encI) (n := 1) 6 (h := hget [(0, .cells [.rsl 2 0 l.length 1]), (2, .cells cs')]) (id := 2) (l := sortV l) (fun _ => rfl) (fun _ => rfl) (by rw [h3, e3]; rfl)
        rw [len_sortV] at this
        exact ⟨_, this⟩
      have fin2 : ∀ cs', SrtQ (l.take k) cs' → ∃ is, thaw 8 (hget [(0, .cells [.rsl 2 0 (l.take k).length 1]), (2, .cells cs')]) (.rsl 2 0 (l.take k).length 1) = some (encR (sortV l), is) := by rw [et]; exact fin
      have sS := hSort (l.take k) (l.take k).length rfl (by rw [et]; exact hl)
      clear fin et
      exact ACode.vcM (.br 8 false .nil) hn hlo (.roundW .cl) ⟨geLen hlt, _, .refl _, .inl Tryd.f126 <| .nz .nil, Tryd.func126,
        AMut.use (id := 2) sS rfl rfl (iL_ok 0 _) (fun _ h => SrtQ.ok h) (by kernel_rfl) fun cs' hq => Exists.elim (fin2 cs' hq) fun is ht => ⟨is, Eq.trans (by kernel_rfl) ht⟩⟩
theorem inOrderF_of (hSort : SortOk) (l : List Int) (hl : l.length ≤ 1000) : APureF Tryd.prog 120 [encR l] (encR (sortV l)) := by
  refine APureF.vcM Tryd.func120 (.call (valsCl l) <| .inl Tryd.f123 <| .inl Tryd.f125 <| .inl Tryd.f128 <| .inl Tryd.f127 .loop) rfl rfl
    ⟨Values_spec l, Tryd.func123, Tryd.func125, Tryd.func128, Tryd.func127, ?_⟩
  intro g hn hlo
  replace hn : g.n = 16 := hn
  replace hlo : g.low 2 := hlo
  refine acode_whileW (fun k : Nat => ⟨[(0, .yld 1), (5, encR l), (6, .int .i64 (l.map encI).length), (7, .int .i64 k)],
      [(0, .cells [.rsl 2 0 (l.take k).length 1]), (1, .loop ⟨.ready, none, 13, [(2, .vptr 0 0)], #[7], asgA, bodA⟩), (2, .cells (iL (l.take k)))], 3⟩)
    (fun k => k ≤ l.length) (fun k => l.length - k) 0 (Nat.zero_le _) ?_ ?_
  · refine Wk.trans (Wk.le ?_ (hlo.mono (show 2 ≤ 3 by decide))) (Wk.trans (Wk.ownC 0 0 1 (cs := [.nil]) (by kernel_rfl) rfl) (Wk.loopEnv (id := 1) (n := 2) [(2, .vptr 0 0)] rfl ⟨rfl, rfl, trivial⟩))
    exact St.le.of ⟨by kernel_rfl, rfl, by kernel_rfl, rfl, by kernel_rfl, rfl, by kernel_rfl, rfl, trivial⟩ ⟨by kernel_rfl, (by decide : (0 : Nat) < 3), rfl, by kernel_rfl, (by decide : (1 : Nat) < 3), rfl, by kernel_rfl, (by decide : (2 : Nat) < 3), iL_ok _ _, trivial⟩
  · intro k hk
    by_cases hlt : k < l.length
    · refine Exists.elim (getE hlt) fun x hx => ?_
      have ek := congrArg (AV.int .i64) (succ64 (k := k) (by omega))
      have hz : l.take (k + 1) = l.take k ++ [x] := by rw [List.take_add_one, hx]; rfl
      have hzl : (l.take (k + 1)).length = (l.take k).length + 1 := by rw [hz]; simp
      have ap := app_one (h := hget [(2, .cells (iL (l.take k))), (3, .cells [.int .i64 x])]) (i := 2) (j := 3) (nid := 4) (l := l.take k) (x := x) rfl rfl (by rw [List.length_take]; omega)
      rw [← hz, ← hzl] at ap
      exact ACode.vcM (.br 8 true <| .cells (encI x) <| .val 11 (.yld 1) [] <| .val 11 (.rsl 4 0 (l.take (k + 1)).length 1) [(2, none), (4, some (.cells (iL (l.take (k + 1)))))] .nil) hn hlo (.roundW .cl)
        ⟨ltLen hlt, idx hx, by kernel_rfl, Eq.trans (by kernel_rfl) ap, k + 1, hlt, mu1 hlt, Wk.renC (c := 2) (b := 4) (St.renC.of rfl (.inl (by decide)) ⟨.eq (by kernel_rfl) rfl, .eq (by kernel_rfl) rfl, .eq (by kernel_rfl) rfl, .eq (Eq.trans (by kernel_rfl) ek) rfl, trivial⟩
          ⟨rvO.turn (by decide : (0 : Nat) < 2) (ys := [.rsl 4 0 (l.take (k + 1)).length 1]) (by kernel_rfl) ⟨.rsl, trivial⟩, rvO.same (by decide : (1 : Nat) < 2) (by kernel_rfl) rfl, rvO.new (by kernel_rfl) (iL_ok _ _), trivial⟩) hlo⟩
    · have hk' : k = l.length := by have h9 : k ≤ l.length := hk; omega
      have et : l.take k = l := by rw [hk', List.take_length]
      have fin : ∀ cs', SrtQ l cs' → ∃ is, thawF 8 (hget [(0, .cells [.rsl 2 0 l.length 1]), (2, .cells cs')]) (.rsl 2 0 l.length 1) = some (encR (sortV l), is) := fun cs' ⟨S', h1, h2, h3⟩ => by
        have e3 : S' = sortV l := sortV_of h1 h2
        have := thawF_ints 6 (h := hget [(0, .cells [.rsl 2 0 l.length 1]), (2, .cells cs')]) (id := 2) (l := sortV l) (by rw [h3, e3]; rfl)
        rw [len_sortV] at this
        exact ⟨_, this⟩
      have fin2 : ∀ cs', SrtQ (l.take k) cs' → ∃ is, thawF 8 (hget [(0, .cells [.rsl 2 0 (l.take k).length 1]), (2, .cells cs')]) (.rsl 2 0 (l.take k).length 1) = some (encR (sortV l), is) := by rw [et]; exact fin
      have sS := hSort (l.take k) (l.take k).length rfl (by rw [et]; exact hl)
      clear fin et
      exact ACode.vcM (.br 8 false .nil) hn hlo (.roundW .cl) ⟨geLen hlt, _, .refl _, .inl Tryd.f126 <| .nz .nil, Tryd.func126,
        AMut.use (id := 2) sS rfl rfl (iL_ok 0 _) (fun _ h => SrtQ.ok h) (by kernel_rfl) fun cs' hq => Exists.elim (fin2 cs' hq) fun is ht => ⟨is, Eq.trans (by kernel_rfl) ht⟩⟩
end Go.Proofs.YtiggnliiigcjaaaDoor
/-
  THE LIBRARY's SORT, of any number of numbers: by the shelf's contract.
-/
namespace Go.Proofs.YtiggnliiigcjaaaDoor
open Go Go.Am Go.Srt Go.Sort Go.Shelf
set_option maxRecDepth 100000
set_option maxHeartbeats 4000000
def sortRen : Ren := ⟨fun n => match n with
  | 125 => 130
  | 128 => 140
  | 129 => 141
  | 189 => 126
  | 215 => 147
  | 216 => 137
  | 257 => 129
  | 294 => 131
  | 295 => 132
  | 296 => 133
  | 297 => 134
  | 298 => 135
  | 299 => 136
  | 300 => 138
  | 301 => 139
  | 328 => 142
  | 329 => 143
  | 330 => 144
  | 331 => 145
  | 332 => 146
  | 343 => 148
  | _ => 0, fun n => match n with
  | 0 => 0
  | 3 => 3
  | 4 => 4
  | 5 => 5
  | 9 => 9
  | 28 => 60
  | 46 => 146
  | 51 => 77
  | 53 => 159
  | 131 => 179
  | 182 => 174
  | 183 => 175
  | 218 => 183
  | 222 => 187
  | 228 => 189
  | 229 => 40
  | _ => 0, fun n => n⟩
theorem sortLays : Lays.n189 Tryd.prog sortRen :=
  { mixed := mixed,
    f125 := Eq.trans Tryd.func130 (by kernel_rfl),
    f128 := Eq.trans Tryd.func140 (by kernel_rfl),
    f129 := Eq.trans Tryd.func141 (by kernel_rfl),
    f189 := Eq.trans Tryd.func126 (by kernel_rfl),
    f215 := Eq.trans Tryd.func147 (by kernel_rfl),
    f216 := Eq.trans Tryd.func137 (by kernel_rfl),
    f257 := Eq.trans Tryd.func129 (by kernel_rfl),
    f294 := Eq.trans Tryd.func131 (by kernel_rfl),
    f295 := Eq.trans Tryd.func132 (by kernel_rfl),
    f296 := Eq.trans Tryd.func133 (by kernel_rfl),
    f297 := Eq.trans Tryd.func134 (by kernel_rfl),
    f298 := Eq.trans Tryd.func135 (by kernel_rfl),
    f299 := Eq.trans Tryd.func136 (by kernel_rfl),
    f300 := Eq.trans Tryd.func138 (by kernel_rfl),
    f301 := Eq.trans Tryd.func139 (by kernel_rfl),
    f328 := Eq.trans Tryd.func142 (by kernel_rfl),
    f329 := Eq.trans Tryd.func143 (by kernel_rfl),
    f330 := Eq.trans Tryd.func144 (by kernel_rfl),
    f331 := Eq.trans Tryd.func145 (by kernel_rfl),
    f332 := Eq.trans Tryd.func146 (by kernel_rfl),
    f343 := Eq.trans Tryd.func148 (by kernel_rfl),
    t0 := Tryd.underlying0, a0 := Tryd.isAgg0, z0 := Tryd.sizeOf0, v0 := Tryd.zeroValue0,
    t3 := Tryd.underlying3, a3 := Tryd.isAgg3, z3 := Tryd.sizeOf3, v3 := Tryd.zeroValue3,
    t4 := Tryd.underlying4, a4 := Tryd.isAgg4, z4 := Tryd.sizeOf4, v4 := Tryd.zeroValue4,
    t5 := Tryd.underlying5, a5 := Tryd.isAgg5, z5 := Tryd.sizeOf5, v5 := Tryd.zeroValue5,
    t9 := Tryd.underlying9, a9 := Tryd.isAgg9, z9 := Tryd.sizeOf9, v9 := Tryd.zeroValue9,
    t28 := Tryd.underlying60, a28 := Tryd.isAgg60, z28 := Tryd.sizeOf60, v28 := Tryd.zeroValue60,
    t46 := Tryd.underlying146, a46 := Tryd.isAgg146, z46 := Tryd.sizeOf146, v46 := Tryd.zeroValue146,
    t51 := Tryd.underlying77, a51 := Tryd.isAgg77, z51 := Tryd.sizeOf77, v51 := Tryd.zeroValue77,
    t53 := Tryd.underlying159, a53 := Tryd.isAgg159, z53 := Tryd.sizeOf159, v53 := Tryd.zeroValue159,
    t131 := Tryd.underlying179, a131 := Tryd.isAgg179, z131 := Tryd.sizeOf179, v131 := Tryd.zeroValue179,
    t182 := Tryd.underlying174, a182 := Tryd.isAgg174, z182 := Tryd.sizeOf174, v182 := Tryd.zeroValue174,
    t183 := Tryd.underlying175, a183 := Tryd.isAgg175, z183 := Tryd.sizeOf175, v183 := Tryd.zeroValue175,
    t218 := Tryd.underlying183, a218 := Tryd.isAgg183, z218 := Tryd.sizeOf183, v218 := Tryd.zeroValue183,
    t222 := Tryd.underlying187, a222 := Tryd.isAgg187, z222 := Tryd.sizeOf187, v222 := Tryd.zeroValue187,
    t228 := Tryd.underlying189, a228 := Tryd.isAgg189, z228 := Tryd.sizeOf189, v228 := Tryd.zeroValue189,
    t229 := Tryd.underlying40, a229 := Tryd.isAgg40, z229 := Tryd.sizeOf40, v229 := Tryd.zeroValue40 }
theorem Sort_big (S : List Int) (N : Nat) (hN : N = S.length) (h0 : 0 < N) (hs : N ≤ 1000) : AMut Tryd.prog Tryd.f126 N 1 [] (iL S) .undef (SrtQ S) := by
  intro f hf κ Nn w cargs hr hfr hc
  have hsz : cargs.size = 1 := hc.1
  obtain ⟨v, hv, hvr⟩ := hc.2 0 _ rfl
  have hca : cargs = #[v] := by
    apply Array.ext'
    have : cargs.toList.length = 1 := by simpa using hsz
    match hl : cargs.toList, this with
    | [a], _ =>
      have h1 : cargs.toList[0]? = some v := by simpa using hv
      rw [hl] at h1
      simp at h1
      simp [h1]
  subst hca
  cases hvr with
  | rsl0 _ _ _ base => exact absurd h0 (Nat.lt_irrefl 0)
  | rsl _ _ _ _ cap blk c e fz hk hl hb hcap =>
    have hi : hget [(0, AObj.cells (iL S))] 0 = some (.cells (iL S)) := rfl
    rcases hr.rel 0 _ hi with ⟨e1, _⟩ | ⟨blk', c', e', g1, g2, g3, g4⟩
    · have : (iL S).length = 0 := by rw [e1]; rfl
      rw [iL_len] at this; omega
    · rw [hk] at g1
      cases g1
      rw [g2] at hb
      cases hb
      rw [iL_len] at g3
      have hcell : ∀ j, j < S.length → c[j]? = some (.int .i64 (S.getD j 0)) := fun j hj => by
        obtain ⟨x, hx⟩ : ∃ x, S[j]? = some x := ⟨_, List.getElem?_eq_getElem hj⟩
        obtain ⟨u, hu, hur⟩ := g4 j (.int .i64 x) (by rw [iL_eq, List.getElem?_map, hx]; rfl)
        cases hur
        rw [hu, List.getD_eq_getElem?_getD, hx]; rfl
      have hH : Holds (Value.int .i64) w blk 0 S.toArray := fun j hj => by
        have hj' : j < S.length := by simpa using hj
        refine ⟨?_, ?_⟩
        · have : (⟨blk, 0 + j, none⟩ : Addr) = ⟨blk, j, none⟩ := by rw [Nat.zero_add]
          rw [this]
          simp only [World.cell?, g2]
          simp [hcell j hj', List.getD_eq_getElem?_getD]
        · simp [World.frozen?, g2]
      have hblk := hr.bd 0 blk hk
      have key := Any.slices_Sort_int sortLays blk 0 cap S w hH hblk (by omega)
      have hfid : f = 126 := by
        have hu : ((List.range Tryd.prog.funcs.size).all fun i => i == 126 || !((Tryd.prog.funcs[i]?).map (·.name) == some Tryd.f126.name)) = true := by kernel_rfl
        have hlt : f < Tryd.prog.funcs.size := by
          rcases Nat.lt_or_ge f Tryd.prog.funcs.size with h | h
          · exact h
          · rw [Array.getElem?_eq_none h] at hf; cases hf
        have := List.all_eq_true.1 hu f (List.mem_range.2 hlt)
        rw [hf] at this
        simpa using this
      subst hfid
      rw [hN]
      refine key.mono ?_
      rintro en w' ⟨rfl, n, os, rfl⟩
      have st1 := Step.draw (w' := Sort.ahead w n) hr rfl ⟨rfl, rfl, rfl⟩
      obtain ⟨d, hd⟩ : ∃ d : Array Int, d = (S.mergeSort fun x y => decide (x ≤ y)).toArray := ⟨_, rfl⟩
      have hds : d.size = S.length := by rw [hd]; simp [List.length_mergeSort]
      have hheap : (putRow (Value.int .i64) (Sort.ahead w n) blk 0 d).heap[blk]? = some (.cells (putCells (Value.int .i64) 0 d c) e (0, 0)) := by
        simp [putRow, mapBlock, Array.getElem?_modify, onCells]
        exact ⟨_, g2, rfl⟩
      have hother : ∀ b, b ≠ blk → (putRow (Value.int .i64) (Sort.ahead w n) blk 0 d).heap[b]? = (Sort.ahead w n).heap[b]? := fun b hb => by
        simp [putRow, mapBlock, Array.getElem?_modify, Ne.symm hb]
      have hcs : (putCells (Value.int .i64) 0 d c).size = c.size := by simp [putCells]
      have hle : Wle (Sort.ahead w n) (putRow (Value.int .i64) (Sort.ahead w n) blk 0 d) := by
        refine ⟨by simp, fun b c1 e1 f1 hb1 => ?_, fun b L hb1 => ?_, rfl, rfl, rfl⟩
        · by_cases hbb : b = blk
          · subst hbb
            have : (Sort.ahead w n).heap[b]? = some (.cells c e (0, 0)) := g2
            rw [this] at hb1; cases hb1
            exact ⟨_, _, hheap, hcs⟩
          · exact ⟨c1, f1, by rw [hother b hbb]; exact hb1, rfl⟩
        · by_cases hbb : b = blk
          · subst hbb
            have : (Sort.ahead w n).heap[b]? = some (.cells c e (0, 0)) := g2
            rw [this] at hb1; cases hb1
          · exact ⟨L, by rw [hother b hbb]; exact hb1⟩
      have st2 := Step.turn st1.hrel hi hk hle hother (by simp) (.cells (iL (sortV S))) fun _ => .inr ⟨blk, _, e, hk, hheap, by rw [iL_len, len_sortV, hcs]; exact g3, fun i x hx => by
        rw [iL_eq, List.getElem?_map] at hx
        cases hg : (sortV S)[i]? with
        | none => rw [hg] at hx; cases hx
        | some z =>
          rw [hg] at hx
          cases hx
          have hil : i < S.length := by
            rcases Nat.lt_or_ge i (sortV S).length with h | h
            · rw [len_sortV] at h; exact h
            · rw [List.getElem?_eq_none h] at hg; cases hg
          refine ⟨.int .i64 z, ?_, .int _ _⟩
          have hci : i < c.size := by omega
          have hdz : d[i]! = z := by
            rw [hd]
            have : (S.mergeSort fun x y => decide (x ≤ y))[i]? = some z := hg
            simp [this]
          simp only [putCells, Array.getElem?_mapIdx]
          rw [Array.getElem?_eq_getElem hci]
          simp only [Option.map_some, Nat.zero_le, true_and, Nat.zero_add, Nat.sub_zero]
          rw [if_pos (by rw [hds]; exact hil), hdz]⟩
      have hold : ∀ b, b < (putRow (Value.int .i64) (Sort.ahead w n) blk 0 d).heap.size → (grow (putRow (Value.int .i64) (Sort.ahead w n) blk 0 d) os).heap[b]? = (putRow (Value.int .i64) (Sort.ahead w n) blk 0 d).heap[b]? := fun b hb => by
        show (_ ++ os)[b]? = _
        rw [Array.getElem?_append, if_pos hb]
      have hle3 : Wle (putRow (Value.int .i64) (Sort.ahead w n) blk 0 d) (grow (putRow (Value.int .i64) (Sort.ahead w n) blk 0 d) os) := by
        have ho : ∀ (b : Nat) (o : Obj), (putRow (Value.int .i64) (Sort.ahead w n) blk 0 d).heap[b]? = some o → (grow (putRow (Value.int .i64) (Sort.ahead w n) blk 0 d) os).heap[b]? = some o := fun b o hb => by
          rw [hold b (by
            rcases Nat.lt_or_ge b (putRow (Value.int .i64) (Sort.ahead w n) blk 0 d).heap.size with h | h
            · exact h
            · rw [Array.getElem?_eq_none h] at hb; cases hb)]
          exact hb
        exact ⟨by show _ ≤ (_ ++ os).size; rw [Array.size_append]; omega, fun b c1 e1 f1 hb1 => ⟨c1, f1, ho _ _ hb1, rfl⟩, fun b L hb1 => ⟨L, ho _ _ hb1⟩, rfl, rfl, rfl⟩
      have st3 := Step.still st2.hrel hle3 hold
      rw [← hd]
      exact ⟨_, .undef, κ, [(0, .cells (iL (sortV S)))], 1, rfl, (st1.trans st2).trans st3, fun id hid => ⟨(hfr id hid).1, by show hget [(0, _)] id = none; simp only [hget]; rw [if_neg (by omega)]⟩, .undef, rfl, _, rfl, sortV S, perm_sortV S, sd_sortV S, rfl⟩
theorem sort_ok : SortOk := fun S N hN hs => by
  by_cases h : N ≤ 12
  · exact Sort_spec S hN h
  · exact Sort_big S N hN (by omega) hs
theorem inOrder_spec (l : List Int) (hl : l.length ≤ 1000) : APure Tryd.prog 120 [encR l] (encR (sortV l)) := inOrder_of sort_ok l hl
theorem inOrderF_spec (l : List Int) (hl : l.length ≤ 1000) : APureF Tryd.prog 120 [encR l] (encR (sortV l)) := inOrderF_of sort_ok l hl
end Go.Proofs.YtiggnliiigcjaaaDoor
