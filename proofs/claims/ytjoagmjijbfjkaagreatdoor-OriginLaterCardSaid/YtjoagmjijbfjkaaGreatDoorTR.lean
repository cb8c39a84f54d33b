import Derived.Test.YtjoagmjijbfjkaaGreatDoorW4
import Derived.Test.YtjoagmjijbfjkaaGreatDoorSr
import Derived.Test.YtjoagmjijbfjkaaGreatDoorAm20
import Derived.Test.YtjoagmjijbfjkaaGreatDoorAm16
import Derived.Test.YtjoagmjijbfjkaaGreatDoorTD
import Derived.Test.YtjoagmjijbfjkaaGreatDoorXT
/-
  INSERTION SORT OF NUMBERS.
-/
namespace Go.Proofs.YtjoagmjijbfjkaaGreatDoor
open Go Go.Am Go.Srt
set_option maxRecDepth 100000
def ltI (x y : Int) : Bool := decide (x < y)
theorem ordI : SOrd ltI := ⟨fun a b h => by simp only [ltI, decide_eq_true_eq, decide_eq_false_iff_not] at *; omega, fun a b c h1 h2 => by simp only [ltI, decide_eq_false_iff_not] at *; omega⟩
theorem isNaN_spec (x : Int) : APure Tryz.prog 117 [.int .i64 x] (.bool false) := APure.vc Tryz.func117 rfl .nil rfl rfl (rB (by simp))
theorem Less_spec (x y : Int) : APure Tryz.prog 130 [.int .i64 x, .int .i64 y] (.bool (ltI x y)) :=
  APure.vc Tryz.func130 rfl (.call (.bool false) .nil) rfl rfl ⟨isNaN_spec x, rB rfl⟩
structure Ins where
  U : List Int
  V : List Int
set_option maxHeartbeats 16000000 in
theorem ins_spec (S : List Int) {N : Nat} (hN : N = S.length) (hs : N ≤ 100000) :
    AMut Tryz.prog Tryz.f124 N 1 [.int .i64 0, .int .i64 N] (iL S) .undef (fun cs' => ∃ S', S'.Perm S ∧ Sd ltI S' ∧ cs' = iL S') := by
  have ea : IntKind.i64.wrap ((0 : Int) + 1) = 1 := wrap64 (by omega) (by omega)
  cases S with
  | nil =>
    refine AMut.vc .loop ?_
    intro g hn hl
    replace hn : g.n = 49 := hn
    replace hl : g.low 1 := hl
    simp only [List.length_nil] at hN
    have hc : decide ((1 : Int) < (N : Int)) = false := decide_eq_false (by omega)
    refine acode_while (fun _ : Unit => ⟨[(0, .rsl 0 0 N 1), (1, .int .i64 0), (2, .int .i64 N), (6, .int .i64 1)], [(0, .cells (iL []))], 1⟩) (fun _ => True) (fun _ => 0) () trivial ?_ (fun _ _ => hl) ?_
    · exact St.le.of ⟨rfl, rfl, rfl, rfl, rfl, rfl, congrArg (AV.int .i64) ea, rfl, trivial⟩ ⟨rfl, Nat.zero_lt_one, iL_ok _ _, trivial⟩
    · rintro _ _
      exact ACode.vcM (.br 12 false .nil) hn hl (.round .cl) ⟨hc, _, .refl _, .nil, rfl, _, rfl, [], .refl _, List.Pairwise.nil, rfl⟩
  | cons s S =>
    refine AMut.vc .loop ?_
    intro g hn hl
    replace hn : g.n = 49 := hn
    replace hl : g.low 1 := hl
    simp only [List.length_cons] at hN
    refine acode_while (fun o : Ins => ⟨[(0, .rsl 0 0 N 1), (1, .int .i64 0), (2, .int .i64 N), (6, .int .i64 ((o.U.length : Nat) : Int))], [(0, .cells (iL (o.U ++ o.V)))], 1⟩)
      (fun o => Sd ltI o.U ∧ (o.U ++ o.V).Perm (s :: S)) (fun o => o.V.length) ⟨[s], S⟩ ⟨List.pairwise_singleton _ _, .refl _⟩ ?_ (fun _ _ => hl) ?_
    · exact St.le.of ⟨rfl, rfl, rfl, rfl, rfl, rfl, congrArg (AV.int .i64) ea, rfl, trivial⟩ ⟨rfl, Nat.zero_lt_one, iL_ok _ _, trivial⟩
    · rintro ⟨U, V⟩ ⟨h1, h2⟩
      simp only at h1 h2 ⊢
      have hlen := h2.length_eq
      simp only [List.length_append, List.length_cons] at hlen
      cases V with
      | nil =>
        have hc : decide (((U.length : Nat) : Int) < (N : Int)) = false := decide_eq_false (by simp only [List.length_nil] at hlen; omega)
        have h3 := h2
        rw [List.append_nil] at h3
        have e3 : iL (U ++ []) = iL U := by rw [List.append_nil]
        exact ACode.vcM (.br 12 false .nil) hn hl (.round .cl) ⟨hc, _, .refl _, .nil, rfl, _, rfl, U, h3, h1, e3⟩
      | cons x V =>
        simp only [List.length_cons] at hlen
        have hc : decide (((U.length : Nat) : Int) < (N : Int)) = true := decide_eq_true (by omega)
        refine ACode.vcM (.br 12 true .loop) hn hl (.round .cl) ⟨hc, ?_⟩
        intro g hn hl
        replace hn : g.n = 49 := hn
        replace hl : g.low 1 := hl
        refine acode_while (fun o : Ins => ⟨[(0, .rsl 0 0 N 1), (1, .int .i64 0), (2, .int .i64 N), (6, .int .i64 ((U.length : Nat) : Int)), (7, .int .i64 ((o.U.length : Nat) : Int))], [(0, .cells (iL (o.U ++ (x :: (o.V ++ V)))))], 1⟩)
          (fun o => o.U ++ o.V = U ∧ ∀ v ∈ o.V, ltI x v = true) (fun o => o.U.length) ⟨U, []⟩ ⟨List.append_nil U, fun v hv => by cases hv⟩ ?_ (fun _ _ => hl) ?_
        · exact St.le.of ⟨rfl, rfl, rfl, rfl, rfl, rfl, rfl, rfl, rfl, rfl, trivial⟩ ⟨rfl, Nat.zero_lt_one, iL_ok _ _, trivial⟩
        · rintro ⟨U1, W⟩ ⟨i1, i2⟩
          simp only at i1 i2 ⊢
          have hUl := congrArg List.length i1
          simp only [List.length_append] at hUl
          have fin : (∀ U' u, U1 = U' ++ [u] → ltI x u = false) → Sd ltI (U1 ++ x :: W) ∧ ((U1 ++ x :: W) ++ V).Perm (s :: S) ∧ iL (U1 ++ (x :: (W ++ V))) = iL ((U1 ++ x :: W) ++ V) ∧ (U1 ++ x :: W).length = U.length + 1 := fun hu => by
            refine ⟨ins_done ordI (i1 ▸ h1) i2 hu, ?_, by simp, by simp; omega⟩
            refine List.Perm.trans ?_ h2
            rw [← i1]
            have : U1 ++ x :: W ++ V = U1 ++ (x :: (W ++ V)) := by simp
            rw [this, List.append_assoc]
            exact List.Perm.append_left U1 List.perm_middle.symm
          rcases List.eq_nil_or_concat U1 with e | ⟨U2, u, e⟩
          · subst e
            have hg : decide (((([] : List Int).length : Nat) : Int) > (0 : Int)) = false := rfl
            have hf := fin fun U' u h => by simp at h
            have e8 : IntKind.i64.wrap (((U.length : Nat) : Int) + 1) = ((([] ++ x :: W).length : Nat) : Int) := by rw [succ64 (by omega), hf.2.2.2]
            exact ACode.vcM (.draw 13 <| .br 19 false .nil) hn hl (.round .cl) ⟨by kernel_rfl, mixed, by kernel_rfl, hg, by kernel_rfl, _, .refl _, .nil, ⟨[] ++ x :: W, V⟩, ⟨hf.1, hf.2.1⟩, Nat.lt_succ_self _,
              St.le.of ⟨rfl, rfl, rfl, rfl, rfl, rfl, congrArg (AV.int .i64) e8, rfl, trivial⟩ ⟨congrArg (fun z => some (AObj.cells z)) hf.2.2.1, Nat.zero_lt_one, iL_ok _ _, trivial⟩⟩
          · rw [List.concat_eq_append] at e
            subst e
            have hul : (U2 ++ [u]).length = U2.length + 1 := by simp
            have hg : decide ((((U2 ++ [u]).length : Nat) : Int) > (0 : Int)) = true := decide_eq_true (by omega)
            obtain ⟨L, hL⟩ : ∃ L, L = (U2 ++ [u]) ++ (x :: (W ++ V)) := ⟨_, rfl⟩
            have hL2 : L = U2 ++ u :: ([] ++ x :: (W ++ V)) := by rw [hL]; simp
            have gu : L[U2.length]? = some u := by rw [hL2]; exact get1 rfl
            have gx : L[(U2 ++ [u]).length]? = some x := by rw [hL2]; exact get2 (by simp)
            have hLl : L.length = U2.length + 1 + 1 + (W ++ V).length := by rw [hL2]; simp; omega
            have hLN : L.length = N := by rw [hLl]; simp only [List.length_append]; omega
            have ej : IntKind.i64.wrap ((((U2 ++ [u]).length : Nat) : Int) - 1) = ((U2.length : Nat) : Int) := by
              rw [hul]; exact pred64 (j := U2.length) (by omega)
            have ix1 := ixI (h := hget []) (id := 0) (n := N) (i := (((U2 ++ [u]).length : Nat) : Int)) rfl (by omega)
            have ix2 := ixI (h := hget []) (id := 0) (n := N) ej (by omega)
            have l1 := ldI (h := hget [(0, .cells (iL L))]) (id := 0) (l := L) rfl gx
            have l2 := ldI (h := hget [(0, .cells (iL L))]) (id := 0) (l := L) rfl gu
            rw [← hL]
            cases hlt : ltI x u
            · have sl := Less_spec x u
              rw [hlt] at sl
              have hf := fin fun U' u' h => by
                have := List.append_inj' h rfl
                have := this.2
                simp at this; subst this; exact hlt
              rw [← hL] at hf
              have e8 : IntKind.i64.wrap (((U.length : Nat) : Int) + 1) = (((U2 ++ [u] ++ x :: W).length : Nat) : Int) := by rw [succ64 (by omega), hf.2.2.2]
              exact ACode.vcM (.draw 13 <| .br 19 true <| .val 22 (.vptr 0 (U2 ++ [u]).length) [] <| .val 23 (.int .i64 x) [] <| .val 27 (.vptr 0 U2.length) [] <| .val 28 (.int .i64 u) [] <|
                  .call (.bool false) .nil) hn hl (.round .cl)
                ⟨by kernel_rfl, mixed, by kernel_rfl, hg, Eq.trans (by kernel_rfl) ix1, Eq.trans (by kernel_rfl) l1, Eq.trans (by kernel_rfl) ix2, Eq.trans (by kernel_rfl) l2, by kernel_rfl, sl, _, .refl _, .nil,
                  ⟨U2 ++ [u] ++ x :: W, V⟩, ⟨hf.1, hf.2.1⟩, Nat.lt_succ_self _,
                  St.le.of ⟨rfl, rfl, rfl, rfl, rfl, rfl, congrArg (AV.int .i64) e8, rfl, trivial⟩ ⟨congrArg (fun z => some (AObj.cells z)) hf.2.2.1, Nat.zero_lt_one, iL_ok _ _, trivial⟩⟩
            · have sl := Less_spec x u
              rw [hlt] at sl
              have s1 := stI (h := hget [(0, .cells (iL L))]) (id := 0) (l := L) (x := u) rfl (show (U2 ++ [u]).length < L.length by omega)
              have s2 := stI (h := hget [(0, .cells (iL (L.set (U2 ++ [u]).length u)))]) (id := 0) (l := L.set (U2 ++ [u]).length u) (x := x) rfl (show U2.length < (L.set (U2 ++ [u]).length u).length by rw [List.length_set]; omega)
              have sw : (L.set (U2 ++ [u]).length u).set U2.length x = U2 ++ (x :: ((u :: W) ++ V)) := by
                rw [hL2, swap2' rfl (by simp)]; simp
              rw [sw] at s2
              have i3 : U2 ++ u :: W = U := by rw [← i1]; simp
              have i4 : ∀ v ∈ u :: W, ltI x v = true := fun v hv => by
                rcases List.mem_cons.1 hv with rfl | hv
                · exact hlt
                · exact i2 v hv
              have i5 : U2.length < (U2 ++ [u]).length := by omega
              exact ACode.vcM (.draw 13 <| .br 19 true <| .val 22 (.vptr 0 (U2 ++ [u]).length) [] <| .val 23 (.int .i64 x) [] <| .val 27 (.vptr 0 U2.length) [] <| .val 28 (.int .i64 u) [] <|
                  .call (.bool true) <| .draw 16 <| .val 41 (.vptr 0 U2.length) [] <| .val 42 (.int .i64 u) [] <| .val 45 (.vptr 0 (U2 ++ [u]).length) [] <| .val 46 (.int .i64 x) [] <|
                  .val 47 (.vptr 0 (U2 ++ [u]).length) [] <| .val 1 .undef [(0, some (.cells (iL (L.set (U2 ++ [u]).length u))))] <| .val 48 (.vptr 0 U2.length) [] <|
                  .val 1 .undef [(0, some (.cells (iL (U2 ++ (x :: ((u :: W) ++ V))))))] .nil) hn hl (.round .cl)
                ⟨by kernel_rfl, mixed, by kernel_rfl, hg, Eq.trans (by kernel_rfl) ix1, Eq.trans (by kernel_rfl) l1, Eq.trans (by kernel_rfl) ix2, Eq.trans (by kernel_rfl) l2, by kernel_rfl, sl,
                  by kernel_rfl, mixed, by kernel_rfl, Eq.trans (by kernel_rfl) ix2, Eq.trans (by kernel_rfl) l2, Eq.trans (by kernel_rfl) ix1, Eq.trans (by kernel_rfl) l1, Eq.trans (by kernel_rfl) ix1, Eq.trans (by kernel_rfl) s1, by kernel_rfl, Eq.trans (by kernel_rfl) ix2, Eq.trans (by kernel_rfl) s2,
                  ⟨U2, u :: W⟩, ⟨i3, i4⟩, i5,
                  St.le.of ⟨rfl, rfl, rfl, rfl, rfl, rfl, rfl, rfl, congrArg (AV.int .i64) ej, rfl, trivial⟩ ⟨rfl, Nat.zero_lt_one, iL_ok _ _, trivial⟩⟩
end Go.Proofs.YtjoagmjijbfjkaaGreatDoor
/-
  SORTING NUMBERS.
-/
namespace Go.Proofs.YtjoagmjijbfjkaaGreatDoor
open Go Go.Am Go.Srt
set_option maxRecDepth 100000
set_option maxHeartbeats 4000000
theorem Len_spec (n : Nat) (h : n ≤ 12) : ∃ v : Int, APure Tryz.prog 116 [.int .u64 n] (.int .i64 v) := by
  match n, h with
  | 0, _ => exact ⟨0, .runK .nil 100 30 (by kernel_rfl)⟩
  | 1, _ => exact ⟨1, .runK .nil 100 30 (by kernel_rfl)⟩
  | 2, _ => exact ⟨2, .runK .nil 100 30 (by kernel_rfl)⟩
  | 3, _ => exact ⟨2, .runK .nil 100 30 (by kernel_rfl)⟩
  | 4, _ => exact ⟨3, .runK .nil 100 30 (by kernel_rfl)⟩
  | 5, _ => exact ⟨3, .runK .nil 100 30 (by kernel_rfl)⟩
  | 6, _ => exact ⟨3, .runK .nil 100 30 (by kernel_rfl)⟩
  | 7, _ => exact ⟨3, .runK .nil 100 30 (by kernel_rfl)⟩
  | 8, _ => exact ⟨4, .runK .nil 100 30 (by kernel_rfl)⟩
  | 9, _ => exact ⟨4, .runK .nil 100 30 (by kernel_rfl)⟩
  | 10, _ => exact ⟨4, .runK .nil 100 30 (by kernel_rfl)⟩
  | 11, _ => exact ⟨4, .runK .nil 100 30 (by kernel_rfl)⟩
  | 12, _ => exact ⟨4, .runK .nil 100 30 (by kernel_rfl)⟩
  | n + 13, h => omega
def SrtQ (S : List Int) (cs' : List AV) : Prop := ∃ S', S'.Perm S ∧ Sd ltI S' ∧ cs' = iL S'
theorem SrtQ.ok {S : List Int} {cs : List AV} (h : SrtQ S cs) : okL 0 cs = true := by
  obtain ⟨S', _, _, e⟩ := h
  rw [e]; exact iL_ok 0 S'
theorem pdq_spec (S : List Int) (v : Int) {N : Nat} (hN : N = S.length) (hs : N ≤ 12) :
    AMut Tryz.prog Tryz.f115 N 1 [.int .i64 0, .int .i64 N, .int .i64 v] (iL S) .undef (SrtQ S) := by
  have sI := ins_spec S hN (by omega)
  have d23 : decide (IntKind.i64.wrap ((N : Int) - 0) ≤ 12) = true := decide_eq_true (by rw [wrap64 (by omega) (by omega)]; omega)
  refine AMut.vc .loop ?_
  intro g hn hl
  replace hn : g.n = 134 := hn
  replace hl : g.low 1 := hl
  refine acode_while (fun _ : Unit => ⟨[(0, .rsl 0 0 N 1), (1, .int .i64 0), (2, .int .i64 N)], [(0, .cells (iL S))], 1⟩) (fun _ => True) (fun _ => 0) () trivial ?_ (fun _ _ => hl) ?_
  · exact St.le.of ⟨rfl, rfl, rfl, rfl, rfl, rfl, trivial⟩ ⟨rfl, Nat.zero_lt_one, iL_ok _ _, trivial⟩
  · rintro _ _
    exact ACode.vcM (.br 23 true <| .inl Tryz.f124 <| .nz .nil) hn hl (.round .cl) ⟨d23, Tryz.func124,
      AMut.use sI rfl rfl (iL_ok 0 S) (fun _ h => SrtQ.ok h) rfl fun cs' hQ => ⟨_, .refl _, .nil, rfl, _, rfl, hQ⟩⟩
theorem Sort_spec (S : List Int) {N : Nat} (hN : N = S.length) (hs : N ≤ 12) : AMut Tryz.prog Tryz.f102 N 1 [] (iL S) .undef (SrtQ S) := by
  obtain ⟨v, hv⟩ := Len_spec N hs
  have sP := pdq_spec S v hN hs
  have ew : IntKind.u64.wrap (N : Int) = (N : Int) := by
    unfold IntKind.wrap
    have e1 : (2 : Int) ^ IntKind.u64.bits = 18446744073709551616 := by decide
    simp only [e1, IntKind.signed, Bool.false_and]
    have : (N : Int) % 18446744073709551616 = N := Int.emod_eq_of_lt (by omega) (by omega)
    rw [this]; rfl
  rw [← ew] at hv
  exact AMut.vc (.call (.int .i64 v) <| .inl Tryz.f115 <| .nz .nil) ⟨hv, Tryz.func115,
    AMut.use sP rfl rfl (iL_ok 0 S) (fun _ h => SrtQ.ok h) rfl fun cs' hQ => ⟨rfl, _, rfl, hQ⟩⟩
end Go.Proofs.YtjoagmjijbfjkaaGreatDoor
/-
  MINUTES, ROOMS, WHAT IS NAMED.
-/
namespace Go.Proofs.YtjoagmjijbfjkaaGreatDoor
open Go Go.Am Go.Srt
set_option maxRecDepth 100000
set_option maxHeartbeats 4000000
def tolF (s : Scn) (x : Int) : AV := encSps (toldP s x.toNat)
theorem told_V (s : Scn) (x : Int) : tlV s (crsP s) (allN s) x = toldP s x.toNat := by
  obtain ⟨hp, ho⟩ := pdqS_facts (spT s (crsP s) x.toNat (allN s))
  exact told_any (l := spT s (crsP s) x.toNat (allN s)) (fun u hu => (spT_in hu).2.1) hp ho
theorem told_spec (s : Scn) (hs : ScOk s) : APure Tryz.prog 49 [encX s (crsP s)] (.imap (entsG (tolF s) (roomsP s))) := by
  have t := told_of s hs (crsP s) (fun c hc => cr_ok hs hc) (by rw [crsP_len]; have := all_729 hs; omega) (allN s) (set_lt hs) rfl
  have e1 : tlF s (crsP s) (allN s) = tolF s := by
    funext x
    unfold tlF tolF
    rw [told_V]
  have e2 : (rmL (nR s)).filter (neL (tlV s (crsP s) (allN s))) = roomsP s := by
    unfold roomsP rmL
    rw [← neR_rooms, List.filter_map]
    congr 1
    refine List.filter_congr fun r _ => ?_
    show neL _ (r : Int) = neR s r
    unfold neL neR
    rw [told_V, Int.toNat_natCast]
  rw [e1, e2] at t
  exact t
theorem Minutes_ok (s : Scn) (room : Int) : APure Tryz.prog 19 [encSc s, .int .i64 room] (.tup [encSps (mnV s room), .int .i64 (rmE s room)]) := by
  have c := checkRoom_spec s room
  unfold mnV
  by_cases h0 : rmE s room = 0
  · rw [h0] at c
    rw [if_pos h0, h0]
    obtain ⟨h1, h2⟩ := rm_0 h0
    have hs := scB_iff.1 h1
    obtain ⟨e1, e2⟩ := rm_nat hs h2
    have w := atWork_spec s hs
    have t := told_spec s hs
    have lk := lookG (h := hget []) (f := tolF s) (l := roomsP s) (x := room)
    by_cases hm : room ∈ roomsP s
    · rw [if_pos hm] at lk
      have ef : tolF s room = encSps (toldP s room.toNat) := rfl
      rw [ef] at lk
      have lk2 : (aLookup Tryz.prog (hget []) 96 (.imap (entsG (tolF s) (roomsP s))) (.int .i64 room) false).map (fun v => (⟨v, []⟩ : Out)) = some ⟨encSps (toldP s room.toNat), []⟩ := by rw [lk]; rfl
      exact APure.vc Tryz.func19 rfl (.call (.int .i64 0) <| .call (encX s (crsP s)) <| .call (.imap (entsG (tolF s) (roomsP s))) <| .val 17 (encSps (toldP s room.toNat)) [] .nil) rfl rfl ⟨c, w, t, Eq.trans (by kernel_rfl) lk2, trivial, by kernel_rfl⟩
    · rw [if_neg hm] at lk
      have hnil : toldP s room.toNat = [] := by
        rw [told_nil]
        cases q : exB s room.toNat (allN s) with
        | true => rfl
        | false => exact absurd (e1 ▸ mem_roomsP.2 ⟨e2, q⟩) hm
      rw [hnil]
      have lk2 : (aLookup Tryz.prog (hget []) 96 (.imap (entsG (tolF s) (roomsP s))) (.int .i64 room) false).map (fun v => (⟨v, []⟩ : Out)) = some ⟨.nil, []⟩ := by rw [lk]; rfl
      exact APure.weak (r := .tup [.nil, .int .i64 0]) (APure.vc Tryz.func19 rfl (.call (.int .i64 0) <| .call (encX s (crsP s)) <| .call (.imap (entsG (tolF s) (roomsP s))) <| .val 17 .nil [] .nil) rfl rfl ⟨c, w, t, Eq.trans (by kernel_rfl) lk2, trivial, by kernel_rfl⟩) VRel.tupNil
  · have hne : (rmE s room != 0) = true := bne_iff_ne.2 h0
    rw [if_neg h0]
    generalize rmE s room = E at *
    exact APure.weak (r := .tup [.nil, .int .i64 E]) (APure.vc Tryz.func19 rfl (.call (.int .i64 E) <| .br 11 true .nil) rfl rfl ⟨c, hne, trivial, by kernel_rfl⟩) VRel.tupNil
/-! ### rooms -/
def keysC (f : Int → AV) (o : List Int) : AV := .fn (.func 103) [] [.cptr [.imap (entsG f o)]]
theorem Keys_spec (f : Int → AV) (o : List Int) : APure Tryz.prog 72 [.imap (entsG f o)] (keysC f o) :=
  APure.vcT Tryz.func72 .nil rfl rfl ⟨[0], by kernel_rfl⟩
noncomputable def asgA : Code := rfA Tryz.f114
noncomputable def bodA : Code := rfB Tryz.f114
theorem okIterG (f : Int → AV) (hf : ∀ (n : Nat) x, (f x).ok n = true) (n : Nat) (c : Option Int) (l : List Int) : okO n (.iter (c.map (entG f)) (entsG f l)) = true := by
  show (okE n (c.map (entG f)).toList && okE n (entsG f l)) = true
  rw [okE_entsG (hf n)]
  cases c with
  | none => rfl
  | some x =>
    show ((((entG f x).1.ok n && (entG f x).2.ok n) && true) && true) = true
    rw [show (entG f x).2.ok n = true from hf n x]; rfl
theorem nxtG {f : Int → AV} {l : List Int} {p : Nat → AV × AV → Prop} (h : ∀ j x, l[j]? = some x → p j (entG f x)) : ∀ j e, (entsG f l)[j]? = some e → p j e := fun j e he => by
  unfold entsG at he
  rw [List.getElem?_map] at he
  cases hl : l[j]? with
  | none => rw [hl] at he; cases he
  | some x => rw [hl] at he; cases he; exact h j x hl
theorem Sorted_spec (f : Int → AV) (hf : ∀ (n : Nat) x, (f x).ok n = true) (o : List Int) (ho : o.Pairwise (fun a b => a < b)) (h12 : o.length ≤ 12) : APureF Tryz.prog 71 [keysC f o] (encR o) := by
  have hu : ∀ l : List Int, l.Perm o → Sd ltI l → l = o := fun l hp hs => uniq ordI hp (ho.imp fun {a b} h => by simpa [ltI] using h) hs
  refine APureF.vcM Tryz.func71 (.inl Tryz.f101 <| .inl Tryz.f114 <| .inl Tryz.f103 .loop) rfl rfl
    ⟨Tryz.func101, Tryz.func114, Tryz.func103, ?_⟩
  intro g hn hl
  replace hn : g.n = 14 := hn
  replace hl : g.low 2 := hl
  refine acode_whileW (fun q : Option Int × List Int × List Int => ⟨[(0, .yld 1), (5, .vptr 2 0)],
      [(0, .cells [.rsl 3 0 q.2.1.length 1]), (1, .loop ⟨.ready, none, 13, [(2, .vptr 0 0)], #[7], asgA, bodA⟩), (2, .iter (q.1.map (entG f)) (entsG f q.2.2)), (3, .cells (iL q.2.1))], 4⟩)
    (fun q => (q.2.1 ++ q.2.2).Perm o) (fun q => q.2.2.length) (none, [], o) (List.Perm.refl _) ?_ ?_
  · refine Wk.trans (Wk.le ?_ (hl.mono (show 2 ≤ 4 by decide))) (Wk.trans (Wk.ownC 0 0 1 (cs := [.nil]) (by kernel_rfl) rfl) (Wk.loopEnv (id := 1) (n := 2) [(2, .vptr 0 0)] rfl ⟨rfl, rfl, trivial⟩))
    exact St.le.of ⟨by kernel_rfl, rfl, by kernel_rfl, rfl, trivial⟩ ⟨by kernel_rfl, (by decide : (0 : Nat) < 4), rfl, by kernel_rfl, (by decide : (1 : Nat) < 4), rfl, by kernel_rfl, (by decide : (2 : Nat) < 4), okIterG f hf _ none _, by kernel_rfl, (by decide : (3 : Nat) < 4), iL_ok _ _, trivial⟩
  · rintro ⟨c, done, left⟩ hp
    replace hp : (done ++ left).Perm o := hp
    have hlen := hp.length_eq
    rw [List.length_append] at hlen
    have hD : ∀ j x, left[j]? = some x → left.getD j 0 = x := fun j x hj => by rw [List.getD_eq_getElem?_getD, hj]; rfl
    have hQ : ∀ (j : Nat) (x : Int), left[j]? = some x → ((done ++ [left.getD j 0]) ++ left.eraseIdx j).Perm o ∧ (left.eraseIdx j).length < left.length := fun j x hj => by
      obtain ⟨hj', e⟩ := List.getElem?_eq_some_iff.1 hj
      rw [hD j x hj]
      refine ⟨?_, by rw [List.length_eraseIdx, if_pos hj']; omega⟩
      have := perm_erase hj
      rw [List.append_assoc]
      exact ((List.Perm.refl done).append (by simpa using this)).trans hp
    have hO : ∀ (j : Nat) (x : Int), left[j]? = some x → some (AObj.iter (some (entG f x)) ((entsG f left).eraseIdx j)) = some (.iter (Option.map (entG f) (some (left.getD j 0))) (entsG f (left.eraseIdx j))) := fun j x hj => by
      rw [hD j x hj]
      unfold entsG
      rw [map_erase]; rfl
    have hA : ∀ (j : Nat) (x : Int), left[j]? = some x → aAppend Tryz.prog (hget [(3, .cells (iL done)), (4, .cells [.int .i64 (left.getD j 0)])]) 5 24 24 (.rsl 3 0 done.length 1) (.rsl 4 0 1 1) = some ⟨.rsl 5 0 (done.length + 1) 1, [(3, none), (5, some (.cells (iL (done ++ [left.getD j 0]))))]⟩ := fun j x hj => by
      exact app_one rfl rfl (by omega)
    have hV : ∀ (j : Nat) (x : Int), left[j]? = some x → some (⟨.int .i64 x, []⟩ : Out) = some ⟨.int .i64 (left.getD j 0), []⟩ := fun j x hj => by rw [hD j x hj]
    have hL : ∀ j : Nat, (done ++ [left.getD j 0]).length = done.length + 1 := fun j => by simp
    have hE : entsG f left = [] → left = [] := fun e => List.map_eq_nil_iff.1 e
    have fin : entsG f left = [] → ∀ cs', SrtQ done cs' → ∃ is, thawF 8 (hget [(0, .cells [.rsl 3 0 done.length 1]), (2, .iter (c.map (entG f)) (entsG f left)), (3, .cells cs')]) (.rsl 3 0 done.length 1) = some (encR o, is) := fun e cs' ⟨S', h1, h2, h3⟩ => by
      have e2 := hE e
      rw [e2, List.append_nil] at hp
      have e3 : S' = o := hu S' (h1.trans hp) h2
      have hd : done.length = o.length := hp.length_eq
      have := thawF_ints 6 (h := hget [(0, .cells [.rsl 3 0 done.length 1]), (2, .iter (c.map (entG f)) (entsG f left)), (3, .cells cs')]) (id := 3) (l := o) (by rw [h3, e3]; rfl)
      rw [← hd] at this
      exact ⟨_, this⟩
    have sS := Sort_spec done (N := done.length) rfl (by omega)
    refine ACode.vcM (.nxt .nil fun j => .val 11 (.int .i64 (left.getD j 0)) [] <| .val 11 (.rsl 5 0 (done.length + 1) 1) [(3, none), (5, some (.cells (iL (done ++ [left.getD j 0]))))] .nil) hn hl (.roundW .cl) ⟨fun e => ⟨_, .refl _, .inl Tryz.f102 <| .nz .nil, Tryz.func102,
        AMut.use (id := 3) sS rfl rfl (iL_ok 0 _) (fun _ h => SrtQ.ok h) (by kernel_rfl) fun cs' hq => Exists.elim (fin e cs' hq) fun is ht => ⟨is, Eq.trans (by kernel_rfl) ht⟩⟩,
      nxtG fun j x hj => ⟨Eq.trans (by kernel_rfl) (hV j x hj), Eq.trans (by kernel_rfl) (hA j x hj), (some (left.getD j 0), done ++ [left.getD j 0], left.eraseIdx j), (hQ j x hj).1, (hQ j x hj).2, ?_⟩⟩
    refine Wk.renC (c := 3) (b := 5) (St.renC.of rfl (.inl (by decide)) ⟨.eq (by kernel_rfl) rfl, .eq (by kernel_rfl) rfl, trivial⟩
      ⟨rvO.turn (by decide : (0 : Nat) < 3) (ys := [.rsl 5 0 (done.length + 1) 1]) (by kernel_rfl) ⟨?_, trivial⟩, rvO.same (by decide : (1 : Nat) < 3) (by kernel_rfl) rfl, rvO.same (by decide : (2 : Nat) < 3) (Eq.trans (by kernel_rfl) (hO j x hj)) (okIterG f hf _ (some _) _), rvO.new (by kernel_rfl) (iL_ok _ _), trivial⟩) (hl.mono (by decide))
    show RV 3 5 (.rsl 3 0 (done ++ [left.getD j 0]).length 1) _
    rw [hL]
    exact .rsl
theorem roomsP_inc (s : Scn) : (roomsP s).Pairwise (fun a b => a < b) := by
  unfold roomsP roomsN
  rw [List.pairwise_map]
  exact (List.pairwise_lt_range.filter _).imp fun h => by omega
theorem roomsP_len (s : Scn) : (roomsP s).length ≤ nR s := by
  unfold roomsP roomsN
  rw [List.length_map]
  exact Nat.le_trans (List.length_filter_le _ _) (by rw [List.length_range]; exact Nat.le_refl _)
theorem prooms_spec (s : Scn) (hs : ScOk s) : APure Tryz.prog 48 [encX s (crsP s)] (encR (roomsP s)) := by
  have t := told_spec s hs
  have k := Keys_spec (tolF s) (roomsP s)
  have so := (Sorted_spec (tolF s) (fun _ _ => rfl) (roomsP s) (roomsP_inc s) (by have := roomsP_len s; have := nR_eq hs; omega)).pure
  exact APure.vc Tryz.func48 rfl (.val 3 (encX s (crsP s)) [] <| .call (.imap (entsG (tolF s) (roomsP s))) <| .call (keysC (tolF s) (roomsP s)) <| .call (encR (roomsP s)) .nil) (by kernel_rfl) rfl ⟨by kernel_rfl, t, k, so, trivial, by kernel_rfl⟩
theorem Rooms_ok (s : Scn) : APure Tryz.prog 17 [encSc s] (encLe (rsV s) (ckE s)) := by
  have c := Check_spec s
  unfold rsV ckE at *
  by_cases h : scB s = true
  · rw [if_pos h] at c ⊢
    rw [if_pos h]
    have hs := scB_iff.1 h
    have w := atWork_spec s hs
    have r := prooms_spec s hs
    exact APure.vc Tryz.func17 rfl (.call (.int .i64 0) <| .call (encX s (crsP s)) <| .call (encR (roomsP s)) .nil) rfl rfl ⟨c, w, r, trivial, by kernel_rfl⟩
  · rw [if_neg h] at c ⊢
    rw [if_neg h]
    exact APure.weak (r := .tup [.nil, .int .i64 90]) (APure.vc Tryz.func17 rfl (.call (.int .i64 90) .nil) rfl rfl ⟨c, trivial, by kernel_rfl⟩) VRel.tupNil
theorem Named_ok (s : Scn) : APure Tryz.prog 21 [encSc s] (.tup [.int .i64 (nmV s).1, .int .i64 (nmV s).2]) := by
  have r := Rooms_ok s
  unfold rsV ckE at r
  unfold nmV
  by_cases h : scB s = true
  · rw [if_pos h, if_pos h] at r
    rw [if_pos h]
    have hl := roomsP_len s
    generalize roomsP s = l at *
    match l with
    | [] => exact APure.vc Tryz.func21 rfl (.call (encLe [] 0) .nil) rfl rfl ⟨r, trivial, by kernel_rfl⟩
    | [x] => exact APure.vc Tryz.func21 rfl (.call (encLe [x] 0) .nil) rfl rfl ⟨r, trivial, by kernel_rfl⟩
    | x :: y :: l =>
      exact APure.vc Tryz.func21 rfl (.call (encLe (x :: y :: l) 0) .nil) rfl rfl ⟨r, trivial, by kernel_rfl⟩
  · rw [if_neg h, if_neg h] at r
    rw [if_neg h]
    exact APure.vc Tryz.func21 rfl (.call (encLe [] 90) .nil) rfl rfl ⟨r, trivial, by kernel_rfl⟩
end Go.Proofs.YtjoagmjijbfjkaaGreatDoor
