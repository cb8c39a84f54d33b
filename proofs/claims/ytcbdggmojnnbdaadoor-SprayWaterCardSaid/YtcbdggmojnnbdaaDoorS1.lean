import Derived.Test.YtcbdggmojnnbdaaDoorS0
/-
  INSERTION SORT OF NUMBERS.
-/
namespace Go.Proofs.YtcbdggmojnnbdaaDoor
open Go Go.Am Go.Srt
set_option maxRecDepth 100000
def ltI (x y : Int) : Bool := decide (x < y)
theorem ordI : SOrd ltI := ⟨fun a b h => by simp only [ltI, decide_eq_true_eq, decide_eq_false_iff_not] at *; omega, fun a b c h1 h2 => by simp only [ltI, decide_eq_false_iff_not] at *; omega⟩
theorem isNaN_spec (x : Int) : APure Tryd.prog 108 [.int .i64 x] (.bool false) := APure.vc Tryd.func108 rfl .nil rfl rfl (rB (by simp))
theorem Less_spec (x y : Int) : APure Tryd.prog 120 [.int .i64 x, .int .i64 y] (.bool (ltI x y)) :=
  APure.vc Tryd.func120 rfl (.call (.bool false) .nil) rfl rfl ⟨isNaN_spec x, rB rfl⟩
structure Ins where
  U : List Int
  V : List Int
set_option maxHeartbeats 16000000 in
theorem ins_spec (S : List Int) {N : Nat} (hN : N = S.length) (hs : N ≤ 100000) :
    AMut Tryd.prog Tryd.f114 N 1 [.int .i64 0, .int .i64 N] (iL S) .undef (fun cs' => ∃ S', S'.Perm S ∧ Sd ltI S' ∧ cs' = iL S') := by
  have ea : IntKind.i64.wrap ((0 : Int) + 1) = 1 := wrap64 (by omega) (by omega)
  cases S with
  | nil =>
    refine AMut.vc .loop ?_
    intro g hn hl
    replace hn : g.n = 49 := hn
    replace hl : g.low 1 := hl
    simp only [List.length_nil] at hN
    have hc : decide ((1 : Int) < (N : Int)) = false := decide_eq_false (by omega)
    refine acode_while (fun _ : Unit => ⟨[(0, .rsl 0 0 N 1), (1, .int .i64 0), (2, .int .i64 N), (6, .int .i64 1)], [(0, .cells (iL []))], 1⟩) (fun _ => True) (fun _ => 0) () trivial ?_ (fun _ _ => hl) ?_
    · exact St.le.of ⟨rfl, rfl, rfl, rfl, rfl, rfl, congrArg (AV.int .i64) ea, rfl, trivial⟩ ⟨rfl, Nat.zero_lt_one, iL_ok _ _, trivial⟩
    · rintro _ _
      exact ACode.vcM (.br 12 false .nil) hn hl (.round .cl) ⟨hc, _, .refl _, .nil, rfl, _, rfl, [], .refl _, List.Pairwise.nil, rfl⟩
  | cons s S =>
    refine AMut.vc .loop ?_
    intro g hn hl
    replace hn : g.n = 49 := hn
    replace hl : g.low 1 := hl
    simp only [List.length_cons] at hN
    refine acode_while (fun o : Ins => ⟨[(0, .rsl 0 0 N 1), (1, .int .i64 0), (2, .int .i64 N), (6, .int .i64 ((o.U.length : Nat) : Int))], [(0, .cells (iL (o.U ++ o.V)))], 1⟩)
      (fun o => Sd ltI o.U ∧ (o.U ++ o.V).Perm (s :: S)) (fun o => o.V.length) ⟨[s], S⟩ ⟨List.pairwise_singleton _ _, .refl _⟩ ?_ (fun _ _ => hl) ?_
    · exact St.le.of ⟨rfl, rfl, rfl, rfl, rfl, rfl, congrArg (AV.int .i64) ea, rfl, trivial⟩ ⟨rfl, Nat.zero_lt_one, iL_ok _ _, trivial⟩
    · rintro ⟨U, V⟩ ⟨h1, h2⟩
      simp only at h1 h2 ⊢
      have hlen := h2.length_eq
      simp only [List.length_append, List.length_cons] at hlen
      cases V with
      | nil =>
        have hc : decide (((U.length : Nat) : Int) < (N : Int)) = false := decide_eq_false (by simp only [List.length_nil] at hlen; omega)
        have h3 := h2
        rw [List.append_nil] at h3
        have e3 : iL (U ++ []) = iL U := by rw [List.append_nil]
        exact ACode.vcM (.br 12 false .nil) hn hl (.round .cl) ⟨hc, _, .refl _, .nil, rfl, _, rfl, U, h3, h1, e3⟩
      | cons x V =>
        simp only [List.length_cons] at hlen
        have hc : decide (((U.length : Nat) : Int) < (N : Int)) = true := decide_eq_true (by omega)
        refine ACode.vcM (.br 12 true .loop) hn hl (.round .cl) ⟨hc, ?_⟩
        intro g hn hl
        replace hn : g.n = 49 := hn
        replace hl : g.low 1 := hl
        refine acode_while (fun o : Ins => ⟨[(0, .rsl 0 0 N 1), (1, .int .i64 0), (2, .int .i64 N), (6, .int .i64 ((U.length : Nat) : Int)), (7, .int .i64 ((o.U.length : Nat) : Int))], [(0, .cells (iL (o.U ++ (x :: (o.V ++ V)))))], 1⟩)
          (fun o => o.U ++ o.V = U ∧ ∀ v ∈ o.V, ltI x v = true) (fun o => o.U.length) ⟨U, []⟩ ⟨List.append_nil U, fun v hv => by cases hv⟩ ?_ (fun _ _ => hl) ?_
        · exact St.le.of ⟨rfl, rfl, rfl, rfl, rfl, rfl, rfl, rfl, rfl, rfl, trivial⟩ ⟨rfl, Nat.zero_lt_one, iL_ok _ _, trivial⟩
        · rintro ⟨U1, W⟩ ⟨i1, i2⟩
          simp only at i1 i2 ⊢
          have hUl := congrArg List.length i1
          simp only [List.length_append] at hUl
          have fin : (∀ U' u, U1 = U' ++ [u] → ltI x u = false) → Sd ltI (U1 ++ x :: W) ∧ ((U1 ++ x :: W) ++ V).Perm (s :: S) ∧ iL (U1 ++ (x :: (W ++ V))) = iL ((U1 ++ x :: W) ++ V) ∧ (U1 ++ x :: W).length = U.length + 1 := fun hu => by
            refine ⟨ins_done ordI (i1 ▸ h1) i2 hu, ?_, by simp, by simp; omega⟩
            refine List.Perm.trans ?_ h2
            rw [← i1]
            have : U1 ++ x :: W ++ V = U1 ++ (x :: (W ++ V)) := by simp
            rw [this, List.append_assoc]
            exact List.Perm.append_left U1 List.perm_middle.symm
          rcases List.eq_nil_or_concat U1 with e | ⟨U2, u, e⟩
          · subst e
            have hg : decide (((([] : List Int).length : Nat) : Int) > (0 : Int)) = false := rfl
            have hf := fin fun U' u h => by simp at h
            have e8 : IntKind.i64.wrap (((U.length : Nat) : Int) + 1) = ((([] ++ x :: W).length : Nat) : Int) := by rw [succ64 (by omega), hf.2.2.2]
            exact ACode.vcM (.draw 13 <| .br 19 false .nil) hn hl (.round .cl) ⟨by kernel_rfl, mixed, by kernel_rfl, hg, by kernel_rfl, _, .refl _, .nil, ⟨[] ++ x :: W, V⟩, ⟨hf.1, hf.2.1⟩, Nat.lt_succ_self _,
              St.le.of ⟨rfl, rfl, rfl, rfl, rfl, rfl, congrArg (AV.int .i64) e8, rfl, trivial⟩ ⟨congrArg (fun z => some (AObj.cells z)) hf.2.2.1, Nat.zero_lt_one, iL_ok _ _, trivial⟩⟩
          · rw [List.concat_eq_append] at e
            subst e
            have hul : (U2 ++ [u]).length = U2.length + 1 := by simp
            have hg : decide ((((U2 ++ [u]).length : Nat) : Int) > (0 : Int)) = true := decide_eq_true (by omega)
            obtain ⟨L, hL⟩ : ∃ L, L = (U2 ++ [u]) ++ (x :: (W ++ V)) := ⟨_, rfl⟩
            have hL2 : L = U2 ++ u :: ([] ++ x :: (W ++ V)) := by rw [hL]; simp
            have gu : L[U2.length]? = some u := by rw [hL2]; exact get1 rfl
            have gx : L[(U2 ++ [u]).length]? = some x := by rw [hL2]; exact get2 (by simp)
            have hLl : L.length = U2.length + 1 + 1 + (W ++ V).length := by rw [hL2]; simp; omega
            have hLN : L.length = N := by rw [hLl]; simp only [List.length_append]; omega
            have ej : IntKind.i64.wrap ((((U2 ++ [u]).length : Nat) : Int) - 1) = ((U2.length : Nat) : Int) := by
              rw [hul]; exact pred64 (j := U2.length) (by omega)
            have ix1 := ixI (h := hget []) (id := 0) (n := N) (i := (((U2 ++ [u]).length : Nat) : Int)) rfl (by omega)
            have ix2 := ixI (h := hget []) (id := 0) (n := N) ej (by omega)
            have l1 := ldI (h := hget [(0, .cells (iL L))]) (id := 0) (l := L) rfl gx
            have l2 := ldI (h := hget [(0, .cells (iL L))]) (id := 0) (l := L) rfl gu
            rw [← hL]
            cases hlt : ltI x u
            · have sl := Less_spec x u
              rw [hlt] at sl
              have hf := fin fun U' u' h => by
                have := List.append_inj' h rfl
                have := this.2
                simp at this; subst this; exact hlt
              rw [← hL] at hf
              have e8 : IntKind.i64.wrap (((U.length : Nat) : Int) + 1) = (((U2 ++ [u] ++ x :: W).length : Nat) : Int) := by rw [succ64 (by omega), hf.2.2.2]
              exact ACode.vcM (.draw 13 <| .br 19 true <| .val 22 (.vptr 0 (U2 ++ [u]).length) [] <| .val 23 (.int .i64 x) [] <| .val 27 (.vptr 0 U2.length) [] <| .val 28 (.int .i64 u) [] <|
                  .call (.bool false) .nil) hn hl (.round .cl)
                ⟨by kernel_rfl, mixed, by kernel_rfl, hg, Eq.trans (by kernel_rfl) ix1, Eq.trans (by kernel_rfl) l1, Eq.trans (by kernel_rfl) ix2, Eq.trans (by kernel_rfl) l2, by kernel_rfl, sl, _, .refl _, .nil,
                  ⟨U2 ++ [u] ++ x :: W, V⟩, ⟨hf.1, hf.2.1⟩, Nat.lt_succ_self _,
                  St.le.of ⟨rfl, rfl, rfl, rfl, rfl, rfl, congrArg (AV.int .i64) e8, rfl, trivial⟩ ⟨congrArg (fun z => some (AObj.cells z)) hf.2.2.1, Nat.zero_lt_one, iL_ok _ _, trivial⟩⟩
            · have sl := Less_spec x u
              rw [hlt] at sl
              have s1 := stI (h := hget [(0, .cells (iL L))]) (id := 0) (l := L) (x := u) rfl (show (U2 ++ [u]).length < L.length by omega)
              have s2 := stI (h := hget [(0, .cells (iL (L.set (U2 ++ [u]).length u)))]) (id := 0) (l := L.set (U2 ++ [u]).length u) (x := x) rfl (show U2.length < (L.set (U2 ++ [u]).length u).length by rw [List.length_set]; omega)
              have sw : (L.set (U2 ++ [u]).length u).set U2.length x = U2 ++ (x :: ((u :: W) ++ V)) := by
                rw [hL2, swap2' rfl (by simp)]; simp
              rw [sw] at s2
              have i3 : U2 ++ u :: W = U := by rw [← i1]; simp
              have i4 : ∀ v ∈ u :: W, ltI x v = true := fun v hv => by
                rcases List.mem_cons.1 hv with rfl | hv
                · exact hlt
                · exact i2 v hv
              have i5 : U2.length < (U2 ++ [u]).length := by omega
              exact ACode.vcM (.draw 13 <| .br 19 true <| .val 22 (.vptr 0 (U2 ++ [u]).length) [] <| .val 23 (.int .i64 x) [] <| .val 27 (.vptr 0 U2.length) [] <| .val 28 (.int .i64 u) [] <|
                  .call (.bool true) <| .draw 16 <| .val 41 (.vptr 0 U2.length) [] <| .val 42 (.int .i64 u) [] <| .val 45 (.vptr 0 (U2 ++ [u]).length) [] <| .val 46 (.int .i64 x) [] <|
                  .val 47 (.vptr 0 (U2 ++ [u]).length) [] <| .val 1 .undef [(0, some (.cells (iL (L.set (U2 ++ [u]).length u))))] <| .val 48 (.vptr 0 U2.length) [] <|
                  .val 1 .undef [(0, some (.cells (iL (U2 ++ (x :: ((u :: W) ++ V))))))] .nil) hn hl (.round .cl)
                ⟨by kernel_rfl, mixed, by kernel_rfl, hg, Eq.trans (by kernel_rfl) ix1, Eq.trans (by kernel_rfl) l1, Eq.trans (by kernel_rfl) ix2, Eq.trans (by kernel_rfl) l2, by kernel_rfl, sl,
                  by kernel_rfl, mixed, by kernel_rfl, Eq.trans (by kernel_rfl) ix2, Eq.trans (by kernel_rfl) l2, Eq.trans (by kernel_rfl) ix1, Eq.trans (by kernel_rfl) l1, Eq.trans (by kernel_rfl) ix1, Eq.trans (by kernel_rfl) s1, by kernel_rfl, Eq.trans (by kernel_rfl) ix2, Eq.trans (by kernel_rfl) s2,
                  ⟨U2, u :: W⟩, ⟨i3, i4⟩, i5,
                  St.le.of ⟨rfl, rfl, rfl, rfl, rfl, rfl, rfl, rfl, congrArg (AV.int .i64) ej, rfl, trivial⟩ ⟨rfl, Nat.zero_lt_one, iL_ok _ _, trivial⟩⟩
end Go.Proofs.YtcbdggmojnnbdaaDoor
/-
  SETS AS MAPS, AND THEIR LISTS.
-/
namespace Go.Proofs.YtcbdggmojnnbdaaDoor
open Go Go.Am Go.Srt
set_option maxRecDepth 100000
set_option maxHeartbeats 4000000
def entO (x : Int) : AV × AV := (.int .i64 x, .bool true)
def entsO (l : List Int) : List (AV × AV) := l.map entO
theorem okE_entsO (n : Nat) : ∀ l : List Int, okE n (entsO l) = true := by
  intro l
  induction l with
  | nil => rfl
  | cons a l ih => show (okP n (entO a) && okE n (entsO l)) = true; rw [ih]; rfl
theorem mapOE_O (n : Nat) (h : Nat → Option AObj) : ∀ l : List Int, mapOE (thaw (n + 1) h) (entsO l) = some (entsO l, []) := by
  intro l
  induction l with
  | nil => rfl
  | cons a l ih =>
    show mapOE (thaw (n + 1) h) (entO a :: entsO l) = some (entO a :: entsO l, [])
    have h1 : thaw (n + 1) h (entO a).1 = some ((entO a).1, []) := by unfold thaw; exact if_pos rfl
    have h2 : thaw (n + 1) h (entO a).2 = some ((entO a).2, []) := by unfold thaw; exact if_pos rfl
    generalize entO a = p at h1 h2 ⊢
    simp only [mapOE, h1, h2, ih, List.nil_append]
theorem thaw_O {h : Nat → Option AObj} {i : Nat} {l : List Int} (h0 : h i = some (.map (entsO l))) : thaw 8 h (.mref i) = some (.imap (entsO l), [i]) := by
  have e : thaw 8 h (.mref i) = (match h i with
      | some (.map es) => (match mapOE (thaw 7 h) es with | some (es', is) => some (.imap es', i :: is) | none => none)
      | _ => none) := rfl
  rw [e, h0]
  simp only []
  rw [mapOE_O 6]
theorem afindO (x : Int) : ∀ (l : List Int) (i : Nat), afind Tryd.prog 3 (.int .i64) (.int .i64 x) (entsO l) i = some (if x ∈ l then some (i + l.idxOf x, .bool true) else none) := by
  intro l
  induction l with
  | nil => intro i; rfl
  | cons a l ih =>
    intro i
    show (match akeq Tryd.prog 3 (.int .i64) (.int .i64 x) (.int .i64 a) with
      | some true => some (some (i, (entO a).2))
      | some false => afind Tryd.prog 3 (.int .i64) (.int .i64 x) (entsO l) (i + 1)
      | none => none) = _
    have hk : akeq Tryd.prog 3 (.int .i64) (.int .i64 x) (.int .i64 a) = some (decide (x = a)) := by
      show (if IntKind.i64 = IntKind.i64 then some (x == a) else none) = _
      rw [if_pos rfl]
      congr 1
    rw [hk]
    by_cases e : x = a
    · subst e
      simp [entO]
    · rw [decide_eq_false e]
      simp only []
      rw [ih (i + 1)]
      by_cases hm : x ∈ l
      · rw [if_pos hm, if_pos (List.mem_cons_of_mem _ hm), show (a :: l).idxOf x = l.idxOf x + 1 from by rw [List.idxOf_cons, show (a == x) = false from by rw [beq_eq_false_iff_ne]; exact Ne.symm e]; rfl]
        congr 2
        rw [Nat.add_assoc, Nat.add_comm 1]
      · rw [if_neg hm, if_neg (by simp [e, hm])]
theorem updO {h : Nat → Option AObj} {i : Nat} {l : List Int} {x : Int} (h0 : h i = some (.map (entsO l))) (hl : x ∉ l) :
    aMapUpdate Tryd.prog h 98 (.mref i) (.int .i64 x) (.bool true) = some ⟨.undef, [(i, some (.map (entsO (l ++ [x]))))]⟩ := by
  simp only [aMapUpdate, ty98, ty3, h0]
  rw [if_pos (show akeyB Tryd.prog (.int .i64) (.int .i64 x) = true from rfl), afindO, if_neg hl]
  simp [entsO, entO]
theorem lookO {h : Nat → Option AObj} {l : List Int} {x : Int} : aLookup Tryd.prog h 98 (.imap (entsO l)) (.int .i64 x) false = some (.bool (l.contains x)) := by
  have hz : azero Tryd.prog 4 = some (.bool false) := by kernel_rfl
  have ha : amap h (.imap (entsO l)) = some (entsO l) := rfl
  simp only [aLookup, ty98, ty3, ha]
  rw [if_pos (show akeyB Tryd.prog (.int .i64) (.int .i64 x) = true from rfl), afindO, hz]
  by_cases hm : x ∈ l
  · rw [if_pos hm, show l.contains x = true from by simpa using hm]; rfl
  · rw [if_neg hm, show l.contains x = false from by simpa using hm]; rfl
theorem nxtO {l : List Int} {p : Nat → AV × AV → Prop} (h : ∀ j x, l[j]? = some x → p j (entO x)) : ∀ j e, (entsO l)[j]? = some e → p j e := fun j e he => by
  unfold entsO at he
  rw [List.getElem?_map] at he
  cases hl : l[j]? with
  | none => rw [hl] at he; cases he
  | some x => rw [hl] at he; cases he; exact h j x hl
theorem okIter (n : Nat) (c : Option Int) (l : List Int) : okO n (.iter (c.map entO) (entsO l)) = true := by
  show (okE n (c.map entO).toList && okE n (entsO l)) = true
  rw [okE_entsO]
  cases c <;> rfl
/-! ### sorting -/
theorem Len_spec (n : Nat) (h : n ≤ 12) : ∃ v : Int, APure Tryd.prog 111 [.int .u64 n] (.int .i64 v) := by
  match n, h with
  | 0, _ => exact ⟨0, .runK .nil 100 30 (by kernel_rfl)⟩
  | 1, _ => exact ⟨1, .runK .nil 100 30 (by kernel_rfl)⟩
  | 2, _ => exact ⟨2, .runK .nil 100 30 (by kernel_rfl)⟩
  | 3, _ => exact ⟨2, .runK .nil 100 30 (by kernel_rfl)⟩
  | 4, _ => exact ⟨3, .runK .nil 100 30 (by kernel_rfl)⟩
  | 5, _ => exact ⟨3, .runK .nil 100 30 (by kernel_rfl)⟩
  | 6, _ => exact ⟨3, .runK .nil 100 30 (by kernel_rfl)⟩
  | 7, _ => exact ⟨3, .runK .nil 100 30 (by kernel_rfl)⟩
  | 8, _ => exact ⟨4, .runK .nil 100 30 (by kernel_rfl)⟩
  | 9, _ => exact ⟨4, .runK .nil 100 30 (by kernel_rfl)⟩
  | 10, _ => exact ⟨4, .runK .nil 100 30 (by kernel_rfl)⟩
  | 11, _ => exact ⟨4, .runK .nil 100 30 (by kernel_rfl)⟩
  | 12, _ => exact ⟨4, .runK .nil 100 30 (by kernel_rfl)⟩
  | n + 13, h => omega
def SrtQ (S : List Int) (cs' : List AV) : Prop := ∃ S', S'.Perm S ∧ Sd ltI S' ∧ cs' = iL S'
theorem SrtQ.ok {S : List Int} {cs : List AV} (h : SrtQ S cs) : okL 0 cs = true := by
  obtain ⟨S', _, _, e⟩ := h
  rw [e]; exact iL_ok 0 S'
theorem pdq_spec (S : List Int) (v : Int) {N : Nat} (hN : N = S.length) (hs : N ≤ 12) :
    AMut Tryd.prog Tryd.f110 N 1 [.int .i64 0, .int .i64 N, .int .i64 v] (iL S) .undef (SrtQ S) := by
  have sI := ins_spec S hN (by omega)
  have d23 : decide (IntKind.i64.wrap ((N : Int) - 0) ≤ 12) = true := decide_eq_true (by rw [wrap64 (by omega) (by omega)]; omega)
  refine AMut.vc .loop ?_
  intro g hn hl
  replace hn : g.n = 134 := hn
  replace hl : g.low 1 := hl
  refine acode_while (fun _ : Unit => ⟨[(0, .rsl 0 0 N 1), (1, .int .i64 0), (2, .int .i64 N)], [(0, .cells (iL S))], 1⟩) (fun _ => True) (fun _ => 0) () trivial ?_ (fun _ _ => hl) ?_
  · exact St.le.of ⟨rfl, rfl, rfl, rfl, rfl, rfl, trivial⟩ ⟨rfl, Nat.zero_lt_one, iL_ok _ _, trivial⟩
  · rintro _ _
    exact ACode.vcM (.br 23 true <| .inl Tryd.f114 <| .nz .nil) hn hl (.round .cl) ⟨d23, Tryd.func114,
      AMut.use sI rfl rfl (iL_ok 0 S) (fun _ h => SrtQ.ok h) rfl fun cs' hQ => ⟨_, .refl _, .nil, rfl, _, rfl, hQ⟩⟩
theorem Sort_spec (S : List Int) {N : Nat} (hN : N = S.length) (hs : N ≤ 12) : AMut Tryd.prog Tryd.f103 N 1 [] (iL S) .undef (SrtQ S) := by
  obtain ⟨v, hv⟩ := Len_spec N hs
  have sP := pdq_spec S v hN hs
  have ew : IntKind.u64.wrap (N : Int) = (N : Int) := by
    unfold IntKind.wrap
    have e1 : (2 : Int) ^ IntKind.u64.bits = 18446744073709551616 := by decide
    simp only [e1, IntKind.signed, Bool.false_and]
    have : (N : Int) % 18446744073709551616 = N := Int.emod_eq_of_lt (by omega) (by omega)
    rw [this]; rfl
  rw [← ew] at hv
  exact AMut.vc (.call (.int .i64 v) <| .inl Tryd.f110 <| .nz .nil) ⟨hv, Tryd.func110,
    AMut.use sP rfl rfl (iL_ok 0 S) (fun _ h => SrtQ.ok h) rfl fun cs' hQ => ⟨rfl, _, rfl, hQ⟩⟩
end Go.Proofs.YtcbdggmojnnbdaaDoor
/-
  THE LIST OF A SET: in increasing order, whatever order the map is ranged over in.
-/
namespace Go.Proofs.YtcbdggmojnnbdaaDoor
open Go Go.Am Go.Srt
set_option maxRecDepth 100000
set_option maxHeartbeats 16000000
def keysCl (o : List Int) : AV := .fn (.func 104) [] [.cptr [.imap (entsO o)]]
theorem Keys_spec (o : List Int) : APure Tryd.prog 92 [.imap (entsO o)] (keysCl o) :=
  APure.vcT Tryd.func92 .nil rfl rfl ⟨[0], by kernel_rfl⟩
noncomputable def asgA : Code := rfA Tryd.f109
noncomputable def bodA : Code := rfB Tryd.f109
theorem listOf_spec (o : List Int) (ho : o.Pairwise (fun a b => a < b)) (h12 : o.length ≤ 12) : APureF Tryd.prog 69 [.imap (entsO o)] (encR o) := by
  have sK := Keys_spec o
  have hu : ∀ l : List Int, l.Perm o → Sd ltI l → l = o := fun l hp hs => uniq ordI hp (ho.imp fun {a b} h => by simpa [ltI] using h) hs
  refine APureF.vcM Tryd.func69 (.call (keysCl o) <| .inl Tryd.f91 <| .inl Tryd.f102 <| .inl Tryd.f109 <| .inl Tryd.f104 .loop) rfl rfl
    ⟨sK, Tryd.func91, Tryd.func102, Tryd.func109, Tryd.func104, ?_⟩
  intro g hn hl
  replace hn : g.n = 14 := hn
  replace hl : g.low 2 := hl
  refine acode_whileW (fun q : Option Int × List Int × List Int => ⟨[(0, .yld 1), (5, .vptr 2 0)],
      [(0, .cells [.rsl 3 0 q.2.1.length 1]), (1, .loop ⟨.ready, none, 13, [(2, .vptr 0 0)], #[7], asgA, bodA⟩), (2, .iter (q.1.map entO) (entsO q.2.2)), (3, .cells (iL q.2.1))], 4⟩)
    (fun q => (q.2.1 ++ q.2.2).Perm o) (fun q => q.2.2.length) (none, [], o) (List.Perm.refl _) ?_ ?_
  · refine Wk.trans (Wk.le ?_ (hl.mono (show 2 ≤ 4 by decide))) (Wk.trans (Wk.ownC 0 0 1 (cs := [.nil]) (by kernel_rfl) rfl) (Wk.loopEnv (id := 1) (n := 2) [(2, .vptr 0 0)] rfl ⟨rfl, rfl, trivial⟩))
    exact St.le.of ⟨by kernel_rfl, rfl, by kernel_rfl, rfl, trivial⟩ ⟨by kernel_rfl, (by decide : (0 : Nat) < 4), rfl, by kernel_rfl, (by decide : (1 : Nat) < 4), rfl, by kernel_rfl, (by decide : (2 : Nat) < 4), okIter _ none _, by kernel_rfl, (by decide : (3 : Nat) < 4), iL_ok _ _, trivial⟩
  · rintro ⟨c, done, left⟩ hp
    replace hp : (done ++ left).Perm o := hp
    have hlen := hp.length_eq
    rw [List.length_append] at hlen
    have hD : ∀ j x, left[j]? = some x → left.getD j 0 = x := fun j x hj => by rw [List.getD_eq_getElem?_getD, hj]; rfl
    have hQ : ∀ (j : Nat) (x : Int), left[j]? = some x → ((done ++ [left.getD j 0]) ++ left.eraseIdx j).Perm o ∧ (left.eraseIdx j).length < left.length := fun j x hj => by
      obtain ⟨hj', e⟩ := List.getElem?_eq_some_iff.1 hj
      rw [hD j x hj]
      refine ⟨?_, by rw [List.length_eraseIdx, if_pos hj']; omega⟩
      have := perm_erase hj
      rw [List.append_assoc]
      exact ((List.Perm.refl done).append (by simpa using this)).trans hp
    have hO : ∀ (j : Nat) (x : Int), left[j]? = some x → some (AObj.iter (some (entO x)) ((entsO left).eraseIdx j)) = some (.iter (Option.map entO (some (left.getD j 0))) (entsO (left.eraseIdx j))) := fun j x hj => by
      rw [hD j x hj]
      unfold entsO
      rw [map_erase]; rfl
    have hA : ∀ (j : Nat) (x : Int), left[j]? = some x → aAppend Tryd.prog (hget [(3, .cells (iL done)), (4, .cells [.int .i64 (left.getD j 0)])]) 5 23 23 (.rsl 3 0 done.length 1) (.rsl 4 0 1 1) = some ⟨.rsl 5 0 (done.length + 1) 1, [(3, none), (5, some (.cells (iL (done ++ [left.getD j 0]))))]⟩ := fun j x hj => by
      exact app_one rfl rfl (by omega)
    have hV : ∀ (j : Nat) (x : Int), left[j]? = some x → some (⟨.int .i64 x, []⟩ : Out) = some ⟨.int .i64 (left.getD j 0), []⟩ := fun j x hj => by rw [hD j x hj]
    have hL : ∀ j : Nat, (done ++ [left.getD j 0]).length = done.length + 1 := fun j => by simp
    have hE : entsO left = [] → left = [] := fun e => List.map_eq_nil_iff.1 e
    have fin : entsO left = [] → ∀ cs', SrtQ done cs' → ∃ is, thawF 8 (hget [(0, .cells [.rsl 3 0 done.length 1]), (2, .iter (c.map entO) (entsO left)), (3, .cells cs')]) (.rsl 3 0 done.length 1) = some (encR o, is) := fun e cs' ⟨S', h1, h2, h3⟩ => by
      have e2 := hE e
      rw [e2, List.append_nil] at hp
      have e3 : S' = o := hu S' (h1.trans hp) h2
      have hd : done.length = o.length := hp.length_eq
      have := thawF_ints 6 (h := hget [(0, .cells [.rsl 3 0 done.length 1]), (2, .iter (c.map entO) (entsO left)), (3, .cells cs')]) (id := 3) (l := o) (by rw [h3, e3]; rfl)
      rw [← hd] at this
      exact ⟨_, this⟩
    have sS := Sort_spec done (N := done.length) rfl (by omega)
    refine ACode.vcM (.nxt .nil fun j => .val 11 (.int .i64 (left.getD j 0)) [] <| .val 11 (.rsl 5 0 (done.length + 1) 1) [(3, none), (5, some (.cells (iL (done ++ [left.getD j 0]))))] .nil) hn hl (.roundW .cl) ⟨fun e => ⟨_, .refl _, .inl Tryd.f103 <| .nz .nil, Tryd.func103,
        AMut.use (id := 3) sS rfl rfl (iL_ok 0 _) (fun _ h => SrtQ.ok h) (by kernel_rfl) fun cs' hq => Exists.elim (fin e cs' hq) fun is ht => ⟨is, Eq.trans (by kernel_rfl) ht⟩⟩,
      nxtO fun j x hj => ⟨Eq.trans (by kernel_rfl) (hV j x hj), Eq.trans (by kernel_rfl) (hA j x hj), (some (left.getD j 0), done ++ [left.getD j 0], left.eraseIdx j), (hQ j x hj).1, (hQ j x hj).2, ?_⟩⟩
    refine Wk.renC (c := 3) (b := 5) (St.renC.of rfl (.inl (by decide)) ⟨.eq (by kernel_rfl) rfl, .eq (by kernel_rfl) rfl, trivial⟩
      ⟨rvO.turn (by decide : (0 : Nat) < 3) (ys := [.rsl 5 0 (done.length + 1) 1]) (by kernel_rfl) ⟨?_, trivial⟩, rvO.same (by decide : (1 : Nat) < 3) (by kernel_rfl) rfl, rvO.same (by decide : (2 : Nat) < 3) (Eq.trans (by kernel_rfl) (hO j x hj)) (okIter _ (some _) _), rvO.new (by kernel_rfl) (iL_ok _ _), trivial⟩) (hl.mono (by decide))
    show RV 3 5 (.rsl 3 0 (done ++ [left.getD j 0]).length 1) _
    rw [hL]
    exact .rsl
end Go.Proofs.YtcbdggmojnnbdaaDoor
