/-
  FLOWS; SOME HEADS; WHERE A HEAD IS; THE FLOW OF OPEN HEADS.
-/
import Derived.Test.YtcbdggmojnnbdaaDoorW1
namespace Go.Proofs.YtcbdggmojnnbdaaDoor
open Go Go.Am
set_option maxRecDepth 100000
set_option maxHeartbeats 16000000
theorem Flows_ok (n : Nt) (l : List Int) (ho : NetOk n) (hop : openB n l = true) (hl : l.length ≤ 100000) : APure Tryd.prog 13 [encN n, encR l] (.tup [encR (flowsL n.ps (opened n l)), .int .i64 0]) := by
  have hb : netB n = true := netB_iff.2 ho
  have s1 := checkOpen_spec n l (by have := ho.ml; omega) hl
  rw [show openI n l = 0 by simp [openI, hb, hop]] at s1
  have s2 := begin_spec n l ho hl
  exact APure.vc Tryd.func13 rfl (.call (.int .i64 0) <| .call (encWk n (opened n l)) .nil) rfl rfl ⟨s1, s2, trivial, rfl⟩
/-! ### some heads -/
def shV (b : Int) (k : Nat) : Int := b.fdiv (2 ^ (min ((k : Int).tmod 8).toNat IntKind.u8.bits))
def bitF (b : Int) (k : Nat) : Bool := (IntKind.u8.wrap ((BitVec.ofInt IntKind.u8.bits (shV b k) &&& BitVec.ofInt IntKind.u8.bits 1).toNat : Int)) == 1
def selK (hs : List Hh) (f : Nat → Bool) : Nat → List Hh
  | 0 => []
  | k + 1 => selK hs f k ++ (if f k then [hs.getD k default] else [])
def selH (n : Nt) (b : Int) : List Hh := selK n.hs (bitF b) n.hs.length
def idsL (l : List Hh) : List Int := l.map (·.id)
theorem selK_len (hs : List Hh) (f : Nat → Bool) : ∀ k, (selK hs f k).length ≤ k
  | 0 => Nat.le_refl _
  | k + 1 => by
    have := selK_len hs f k
    simp only [selK, List.length_append]
    split <;> simp <;> omega
theorem some_spec (n : Nt) (b : Int) (hn0 : n.hs.length ≤ 1000) : APure Tryd.prog 32 [encN n, .int .u8 b] (encR (idsL (selH n b))) := by
  refine APure.vcM Tryd.func32 .loop rfl rfl ?_
  intro g hn hl
  replace hn : g.n = 29 := hn
  replace hl : g.low 0 := hl
  refine acode_whileW (fun k : Nat => ⟨[(1, .int .u8 b), (5, .rsl 1 0 (idsL (selK n.hs (bitF b) k)).length 1), (9, encH n.hs), (10, .int .i64 (n.hs.map cH).length), (11, .int .i64 k)], [(1, .cells (iL (idsL (selK n.hs (bitF b) k))))], 2⟩) (fun k => k ≤ n.hs.length) (fun k => n.hs.length - k) 0 (Nat.zero_le _) ?_ ?_
  · refine Wk.trans (Wk.le ?_ (hl.mono (Nat.zero_le _))) (Wk.own 5 1 (by kernel_rfl))
    exact St.le.of ⟨by kernel_rfl, rfl, by kernel_rfl, rfl, by kernel_rfl, rfl, by kernel_rfl, rfl, by kernel_rfl, rfl, trivial⟩ ⟨by kernel_rfl, (by decide : (1 : Nat) < 2), rfl, trivial⟩
  · intro k hk
    by_cases hlt : k < n.hs.length
    · refine Exists.elim (getE hlt) fun h hh => ?_
      have ek := congrArg (AV.int .i64) (succ64 (k := k) (by omega))
      have v19 : (if ((k : Int).tmod 8) < 0 then none else some (AV.int .u8 (b.fdiv (2 ^ (min ((k : Int).tmod 8).toNat IntKind.u8.bits))))).map (fun v => (⟨v, []⟩ : Out)) = some ⟨.int .u8 (shV b k), []⟩ := by
        rw [if_neg (by rw [Int.tmod_eq_emod_of_nonneg (by omega)]; omega)]; rfl
      have hsl := selK_len n.hs (bitF b) k
      have hgd : n.hs.getD k default = h := by rw [List.getD_eq_getElem?_getD, hh]; rfl
      cases hb : bitF b k
      · have e : selK n.hs (bitF b) (k + 1) = selK n.hs (bitF b) k := by simp [selK, hb]
        have e1 := congrArg (fun m => AV.rsl 1 0 (idsL m).length 1) e.symm
        have e2 := congrArg (fun m => some (AObj.cells (iL (idsL m)))) e.symm
        exact ACode.vcM (.br 12 true <| .cells (cH h) <| .val 19 (.int .u8 (shV b k)) [] <| .br 21 false .nil) hn hl (.roundW .cl) ⟨ltLen hlt, idx hh, Eq.trans (by kernel_rfl) v19, hb, k + 1, hlt, mu1 hlt,
          Wk.le (St.le.of ⟨by kernel_rfl, rfl, Eq.trans (by kernel_rfl) e1, rfl, by kernel_rfl, rfl, by kernel_rfl, rfl, Eq.trans (by kernel_rfl) ek, rfl, trivial⟩ ⟨Eq.trans (by kernel_rfl) e2, (by decide : (1 : Nat) < 2), iL_ok _ _, trivial⟩) (hl.mono (Nat.zero_le _))⟩
      · have e : idsL (selK n.hs (bitF b) (k + 1)) = idsL (selK n.hs (bitF b) k) ++ [h.id] := by
          unfold idsL
          rw [selK, hb, if_pos rfl, hgd, List.map_append]; rfl
        have elen : (idsL (selK n.hs (bitF b) (k + 1))).length = (idsL (selK n.hs (bitF b) k)).length + 1 := by rw [e]; simp
        have ap := app_one (h := hget [(1, .cells (iL (idsL (selK n.hs (bitF b) k)))), (4, .cells [.int .i64 h.id])]) (i := 1) (j := 4) (nid := 5) (l := idsL (selK n.hs (bitF b) k)) (x := h.id) rfl rfl (by simp only [idsL, List.length_map]; omega)
        rw [← e, ← elen] at ap
        exact ACode.vcM (.br 12 true <| .cells (cH h) <| .val 19 (.int .u8 (shV b k)) [] <| .br 21 true <| .val 26 (.rsl 5 0 (idsL (selK n.hs (bitF b) (k + 1))).length 1) [(1, none), (5, some (.cells (iL (idsL (selK n.hs (bitF b) (k + 1))))))] .nil) hn hl (.roundW .cl)
          ⟨ltLen hlt, idx hh, Eq.trans (by kernel_rfl) v19, hb, Eq.trans (by kernel_rfl) ap, k + 1, hlt, mu1 hlt,
            Wk.ren (c := 1) (b := 5) (St.ren.of rfl (by decide) ⟨.inl ⟨by kernel_rfl, rfl⟩, .inr ⟨_, _, _, rfl, by kernel_rfl⟩, .inl ⟨by kernel_rfl, rfl⟩, .inl ⟨by kernel_rfl, rfl⟩, .inl ⟨Eq.trans (by kernel_rfl) ek, rfl⟩, trivial⟩ ⟨.inr ⟨rfl, by kernel_rfl, _, rfl, iL_ok _ _⟩, trivial⟩) (hl.mono (Nat.zero_le _))⟩
    · have hk' : k = n.hs.length := by omega
      subst hk'
      have tw := thaw_fl 6 (h := hget [(1, .cells (iL (idsL (selK n.hs (bitF b) n.hs.length))))]) (id := 1) (enc := encI) (n := 1) (l := idsL (selK n.hs (bitF b) n.hs.length)) (fun _ => rfl) (fun _ => rfl) rfl
      exact ACode.vcM (.br 12 false .nil) hn hl (.roundW .cl) ⟨geLen hlt, _, .refl _, .nil, [1], Eq.trans (by kernel_rfl) tw⟩
theorem has_spec (l : List Int) (v : Int) (hl : l.length ≤ 1000000) : APure Tryd.prog 36 [encR l, .int .i64 v] (.bool (l.contains v)) := by
  refine APure.vc Tryd.func36 rfl .loop rfl rfl ?_
  intro g hn hl'
  replace hn : g.n = 17 := hn
  replace hl' : g.low 0 := hl'
  refine acode_while (fun k : Nat => ⟨[(1, .int .i64 v), (7, encR l), (8, .int .i64 (l.map encI).length), (9, .int .i64 k)], [], 0⟩) (fun k => k ≤ l.length ∧ ∀ y ∈ l.take k, (y == v) = false) (fun k => l.length - k) 0 ⟨Nat.zero_le _, fun y hy => by simp at hy⟩ ?_ (fun _ _ => hl') ?_
  · exact St.le.of ⟨rfl, rfl, rfl, rfl, rfl, rfl, rfl, rfl, trivial⟩ trivial
  · rintro k ⟨hk1, hk2⟩
    by_cases hlt : k < l.length
    · refine Exists.elim (getE hlt) fun x hx => ?_
      have ek := congrArg (AV.int .i64) (succ64 (k := k) (by omega))
      cases hb : (x == v)
      · exact ACode.vc (.br 10 true <| .cells (encI x) <| .br 15 false .nil) hn hl' (.round .cl) ⟨ltLen hlt, idx hx, hb, k + 1, ⟨hlt, take_none (p := fun y => y == v) hx hk2 hb⟩, mu1 hlt, St.le.of ⟨rfl, rfl, rfl, rfl, rfl, rfl, ek, rfl, trivial⟩ trivial⟩
      · have e : true = l.contains v := by
          have : v ∈ l := by rw [← eq_of_beq hb]; exact List.mem_of_getElem? hx
          exact (by simpa using this : l.contains v = true).symm
        exact ACode.vc (.br 10 true <| .cells (encI x) <| .br 15 true .nil) hn hl' (.round .cl) ⟨ltLen hlt, idx hx, hb, _, .refl _, .nil, rB e⟩
    · have hk' : k = l.length := by omega
      have e : false = l.contains v := by
        rw [hk', List.take_length] at hk2
        have : ¬ v ∈ l := fun hm => by have := hk2 v hm; simp at this
        exact (by simpa using this : l.contains v = false).symm
      exact ACode.vc (.br 10 false .nil) hn hl' (.round .cl) ⟨geLen hlt, _, .refl _, .nil, rB e⟩
theorem At_spec (n : Nt) (x : Int) (hl : n.hs.length ≤ 1000) : APure Tryd.prog 60 [encN n, .int .i64 x] (.int .i64 (idxA (fun h : Hh => h.id == x) n.hs)) := by
  refine APure.vc Tryd.func60 rfl .loop rfl rfl ?_
  intro g hn hl'
  replace hn : g.n = 22 := hn
  replace hl' : g.low 0 := hl'
  refine acode_while (fun k : Nat => ⟨[(1, .int .i64 x), (2, .vptr 0 0), (5, .int .i64 k)], [(0, .cells (cN n))], 1⟩) (fun k => k ≤ n.hs.length ∧ ∀ y ∈ n.hs.take k, (y.id == x) = false) (fun k => n.hs.length - k) 0 ⟨Nat.zero_le _, fun y hy => by simp at hy⟩ ?_ (fun _ _ => hl'.mono (Nat.zero_le _)) ?_
  · exact St.le.of ⟨rfl, rfl, rfl, rfl, rfl, rfl, trivial⟩ ⟨rfl, (by decide : (0 : Nat) < 1), rfl, trivial⟩
  · rintro k ⟨hk1, hk2⟩
    by_cases hlt : k < n.hs.length
    · refine Exists.elim (getE hlt) fun h hh => ?_
      have ek := congrArg (AV.int .i64) (succ64 (k := k) (by omega))
      cases hb : (h.id == x)
      · exact ACode.vc (.br 10 true <| .cells (cH h) <| .br 20 false .nil) hn hl' (.round .cl) ⟨ltLen hlt, idx hh, hb, k + 1, ⟨hlt, take_none (p := fun h : Hh => h.id == x) hh hk2 hb⟩, mu1 hlt, St.le.of ⟨rfl, rfl, rfl, rfl, ek, rfl, trivial⟩ ⟨rfl, (by decide : (0 : Nat) < 1), rfl, trivial⟩⟩
      · exact ACode.vc (.br 10 true <| .cells (cH h) <| .br 20 true .nil) hn hl' (.round .cl) ⟨ltLen hlt, idx hh, hb, _, .refl _, .nil, rI (idxA_hit (p := fun h : Hh => h.id == x) hh hk2 hb).symm⟩
    · have hk' : k = n.hs.length := by omega
      exact ACode.vc (.br 10 false .nil) hn hl' (.round .cl) ⟨geLen hlt, _, .refl _, .nil, rI (idxA_none (p := fun h : Hh => h.id == x) (by rw [hk', List.take_length] at hk2; exact hk2)).symm⟩
/-! ### ids are told apart -/
theorem NetOk.lt {n : Nt} (ho : NetOk n) : ∀ (d i : Nat) (h k : Hh), n.hs[i]? = some h → n.hs[i + d + 1]? = some k → h.id < k.id
  | 0, i, h, k, h1, h2 => ho.inc i h k h1 h2
  | d + 1, i, h, k, h1, h2 => by
    have hi : i + d + 1 < n.hs.length := by have := (List.getElem?_eq_some_iff.1 h2).1; omega
    have h3 := List.getElem?_eq_getElem hi
    have e1 := NetOk.lt ho d i h _ h1 h3
    have e2 := ho.inc (i + d + 1) _ k h3 h2
    omega
theorem NetOk.uniq {n : Nt} (ho : NetOk n) {i j : Nat} {h k : Hh} (h1 : n.hs[i]? = some h) (h2 : n.hs[j]? = some k) (e : h.id = k.id) : i = j := by
  rcases Nat.lt_trichotomy i j with hij | hij | hij
  · have := ho.lt (j - i - 1) i h k h1 (by rw [show i + (j - i - 1) + 1 = j by omega]; exact h2)
    omega
  · exact hij
  · have := ho.lt (i - j - 1) j k h h2 (by rw [show j + (i - j - 1) + 1 = i by omega]; exact h1)
    omega
theorem idxA_id {n : Nt} (ho : NetOk n) {i : Nat} {h : Hh} (hh : n.hs[i]? = some h) : idxA (fun k : Hh => k.id == h.id) n.hs = i :=
  idxA_hit (p := fun k : Hh => k.id == h.id) hh (fun y hy => by
    obtain ⟨j, hj⟩ := List.getElem?_of_mem hy
    have hji : j < i := by
      have := (List.getElem?_eq_some_iff.1 hj).1
      rw [List.length_take] at this; omega
    rw [List.getElem?_take, if_pos hji] at hj
    rw [beq_eq_false_iff_ne]
    intro e
    have := ho.uniq hj hh e
    omega) (by simp)
theorem selK_mem {hs : List Hh} {f : Nat → Bool} : ∀ {k : Nat}, k ≤ hs.length → ∀ x ∈ selK hs f k, ∃ i : Nat, i < k ∧ hs[i]? = some x ∧ f i = true
  | 0, _, x, hx => by cases hx
  | k + 1, hk, x, hx => by
    simp only [selK, List.mem_append] at hx
    rcases hx with hx | hx
    · obtain ⟨i, h1, h2⟩ := selK_mem (by omega) x hx
      exact ⟨i, by omega, h2⟩
    · cases hf : f k
      · rw [hf] at hx; simp at hx
      · rw [hf] at hx
        simp only [if_true, List.mem_singleton] at hx
        subst hx
        refine ⟨k, by omega, ?_, hf⟩
        rw [List.getD_eq_getElem?_getD, List.getElem?_eq_getElem (by omega)]; rfl
theorem selK_in {hs : List Hh} {f : Nat → Bool} {i : Nat} {x : Hh} (hx : hs[i]? = some x) (hf : f i = true) : ∀ {k : Nat}, i < k → x ∈ selK hs f k
  | 0, h => by omega
  | k + 1, h => by
    simp only [selK, List.mem_append]
    by_cases e : i = k
    · subst e
      right
      rw [hf, if_pos rfl, List.getD_eq_getElem?_getD, hx]; simp
    · exact .inl (selK_in hx hf (by omega))
theorem sel_has {n : Nt} (ho : NetOk n) {b : Int} {i : Nat} {h : Hh} (hh : n.hs[i]? = some h) : (idsL (selH n b)).contains h.id = bitF b i := by
  have hil := (List.getElem?_eq_some_iff.1 hh).1
  cases hf : bitF b i
  · have : ¬ h.id ∈ idsL (selH n b) := fun hm => by
      obtain ⟨x, hx, he⟩ := List.mem_map.1 hm
      obtain ⟨j, _, h2, h3⟩ := selK_mem (Nat.le_refl _) x hx
      have := ho.uniq h2 hh he
      subst this
      rw [hf] at h3; cases h3
    simpa using this
  · have : h.id ∈ idsL (selH n b) := List.mem_map.2 ⟨h, selK_in hh hf hil, rfl⟩
    simpa using this
theorem selK_opened {n : Nt} (ho : NetOk n) (b : Int) : ∀ k, k ≤ n.hs.length → (n.hs.take k).filter (fun h => (idsL (selH n b)).contains h.id) = selK n.hs (bitF b) k
  | 0, _ => rfl
  | k + 1, hk => by
    obtain ⟨h, hh⟩ := getE (show k < n.hs.length by omega)
    have hgd : n.hs.getD k default = h := by rw [List.getD_eq_getElem?_getD, hh]; rfl
    have hs := sel_has ho (b := b) hh
    rw [List.take_add_one, hh, List.filter_append, selK_opened ho b k (by omega), selK, hgd]
    congr 1
    cases hf : bitF b k
    · rw [hf] at hs
      simp only [Option.toList_some, List.filter_cons, hs]; rfl
    · rw [hf] at hs
      simp only [Option.toList_some, List.filter_cons, hs]; rfl
theorem opened_sel {n : Nt} (ho : NetOk n) (b : Int) : opened n (idsL (selH n b)) = selH n b := by
  have := selK_opened ho b n.hs.length (Nat.le_refl _)
  rw [List.take_length] at this
  exact this
theorem selK_inc {n : Nt} (ho : NetOk n) (f : Nat → Bool) : ∀ k, k ≤ n.hs.length → (idsL (selK n.hs f k)).Pairwise (fun a b => a < b)
  | 0, _ => List.Pairwise.nil
  | k + 1, hk => by
    simp only [selK, idsL, List.map_append]
    refine List.pairwise_append.2 ⟨selK_inc ho f k (by omega), ?_, fun a ha c hc => ?_⟩
    · cases f k <;> simp
    · cases hf : f k
      · rw [hf] at hc; simp at hc
      · rw [hf] at hc
        simp only [if_true, List.map_cons, List.map_nil, List.mem_singleton] at hc
        obtain ⟨x, hx, rfl⟩ := List.mem_map.1 ha
        obtain ⟨i, h1, h2, _⟩ := selK_mem (by omega) x hx
        obtain ⟨h, hh⟩ := getE (show k < n.hs.length by omega)
        have hgd : n.hs.getD k default = h := by rw [List.getD_eq_getElem?_getD, hh]; rfl
        rw [hc, hgd]
        exact ho.lt (k - i - 1) i x h h2 (by rw [show i + (k - i - 1) + 1 = k by omega]; exact hh)
theorem inc_of {l : List Int} (h : l.Pairwise (fun a b => a < b)) : incB l = true := by
  unfold incB
  rw [allI_iff]
  intro k a ha
  unfold incI
  cases k with
  | zero => rfl
  | succ k =>
    obtain ⟨hk1, hk2⟩ := List.getElem?_eq_some_iff.1 ha
    have : l[k]'(by omega) < l[k + 1]'hk1 := List.pairwise_iff_getElem.1 h k (k + 1) (by omega) hk1 (by omega)
    rw [Nat.add_sub_cancel, List.getD_eq_getElem?_getD, List.getElem?_eq_getElem (by omega), Option.getD_some, decide_eq_true (Nat.succ_pos k), Bool.true_and]
    simp only [Bool.not_eq_true', decide_eq_false_iff_not]
    rw [hk2] at this
    omega
theorem open_sel {n : Nt} (ho : NetOk n) (b : Int) : openB n (idsL (selH n b)) = true := by
  have h1 : (idsL (selH n b)).all (hasId n) = true := by
    rw [List.all_eq_true]
    intro x hx
    obtain ⟨h, hh, rfl⟩ := List.mem_map.1 hx
    obtain ⟨i, _, h2, _⟩ := selK_mem (Nat.le_refl _) h hh
    exact List.any_eq_true.2 ⟨h, List.mem_of_getElem? h2, by simp⟩
  simp only [openB, h1, Bool.true_and]
  exact inc_of (selK_inc ho _ _ (Nat.le_refl _))
theorem Flow_spec (n : Nt) (b : Int) (ho : NetOk n) : APure Tryd.prog 35 [encN n, encR (idsL (selH n b))] (.int .i64 (needS (selH n b))) := by
  have hlen := selK_len n.hs (bitF b) n.hs.length
  have hhl := ho.hl
  have hmem : ∀ x ∈ selH n b, ∃ i : Nat, n.hs[i]? = some x := fun x hx => by
    obtain ⟨i, _, h2, _⟩ := selK_mem (Nat.le_refl _) x hx
    exact ⟨i, h2⟩
  have hneed : ∀ x ∈ selH n b, 1 ≤ x.need ∧ x.need ≤ 500 := fun x hx => by
    obtain ⟨i, hi⟩ := hmem x hx
    exact (ho.h i x hi).need
  change (selH n b).length ≤ _ at hlen
  generalize selH n b = S at *
  refine APure.vc Tryd.func35 rfl .loop rfl rfl ?_
  intro g hn hl'
  replace hn : g.n = 27 := hn
  replace hl' : g.low 0 := hl'
  refine acode_while (fun k : Nat => ⟨[(1, encR (idsL S)), (2, .vptr 0 0), (5, .int .i64 (needS (S.take k))), (6, .int .i64 k)], [(0, .cells (cN n))], 1⟩) (fun k => k ≤ S.length) (fun k => S.length - k) 0 (Nat.zero_le _) ?_ (fun _ _ => hl'.mono (Nat.zero_le _)) ?_
  · exact St.le.of ⟨rfl, rfl, rfl, rfl, rfl, rfl, rfl, rfl, trivial⟩ ⟨rfl, (by decide : (0 : Nat) < 1), rfl, trivial⟩
  · intro k hk
    have hil : (idsL S).length = S.length := by simp [idsL]
    by_cases hlt : k < S.length
    · refine Exists.elim (getE hlt) fun x hx => ?_
      have ek := congrArg (AV.int .i64) (succ64 (k := k) (by omega))
      have hxi : (idsL S)[k]? = some x.id := by unfold idsL; rw [List.getElem?_map, hx]; rfl
      refine Exists.elim (hmem x (List.mem_of_getElem? hx)) fun i hi => ?_
      have sA := At_spec n x.id (by omega)
      rw [idxA_id ho hi] at sA
      have hx1 := hneed x (List.mem_of_getElem? hx)
      have hr := needS_rng (l := S.take k) fun y hy => hneed y (List.mem_of_mem_take hy)
      have hr2 : (S.take k).length ≤ 8 := by rw [List.length_take]; omega
      have en : needS (S.take (k + 1)) = needS (S.take k) + x.need := by rw [List.take_add_one, hx, needS_app]; simp [needS]
      have ev : AV.int .i64 (IntKind.i64.wrap (needS (S.take k) + x.need)) = .int .i64 (needS (S.take (k + 1))) := by rw [en, wrap64 (by omega) (by omega)]
      exact ACode.vc (.br 10 true <| .draw 12 <| .cells (encI x.id) <| .call (.int .i64 i) <| .cells (cH x) .nil) hn hl' (.round .cl) ⟨ltLen (by rw [hil]; exact hlt), by kernel_rfl, mixed, by kernel_rfl, idx hxi, sA, idx hi, by kernel_rfl, k + 1, hlt, mu1 hlt,
        St.le.of ⟨by kernel_rfl, rfl, by kernel_rfl, rfl, Eq.trans (by kernel_rfl) ev, rfl, Eq.trans (by kernel_rfl) ek, rfl, trivial⟩ ⟨by kernel_rfl, (by decide : (0 : Nat) < 1), rfl, trivial⟩⟩
    · have hk' : k = S.length := by omega
      exact ACode.vc (.br 10 false .nil) hn hl' (.round .cl) ⟨geLen (by rw [hil]; exact hlt), _, .refl _, .nil, rI (by rw [hk', List.take_length])⟩
theorem Great_spec (n : Nt) : APure Tryd.prog 23 [encN n] (.bool (decide (n.ps.length > 20) || (decide (n.hs.length > 12) || decide (n.pm.length > 6)))) := by
  have e1 : decide (((n.ps.map cP).length : Int) > 20) = decide (n.ps.length > 20) := by rw [List.length_map]; exact decide_eq_decide.2 (by omega)
  have e2 : decide (((n.hs.map cH).length : Int) > 12) = decide (n.hs.length > 12) := by rw [List.length_map]; exact decide_eq_decide.2 (by omega)
  have e3 : decide (((n.pm.map cM).length : Int) > 6) = decide (n.pm.length > 6) := by rw [List.length_map]; exact decide_eq_decide.2 (by omega)
  exact APure.vc Tryd.func23 rfl (.both 7 .nil (.both 13 .nil .nil)) rfl rfl ⟨fun h => rB (by rw [e1] at h; rw [h]; rfl), fun h => ⟨fun h2 => rB (by rw [e1] at h; rw [e2] at h2; rw [h, h2]; rfl), fun h2 => rB (by rw [e1] at h; rw [e2] at h2; rw [h, h2, e3]; rfl)⟩⟩
end Go.Proofs.YtcbdggmojnnbdaaDoor
