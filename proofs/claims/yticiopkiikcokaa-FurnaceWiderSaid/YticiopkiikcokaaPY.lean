import Derived.Test.YticiopkiikcokaaPr
import Derived.Test.YticiopkiikcokaaPn
namespace Go.Proofs.Yticiopkiikcokaa
open Go Go.Am Go.Srt
/-! Maps from limits to what is known of them. -/
def encK (b : Br) : AV := .agg [.int .i64 b.m, .int .u8 b.k, .int .i64 b.c]
def ents (l : List Br) : List (AV × AV) := l.map fun b => (encK b, .int .u8 b.n)
def kEq (a b : Br) : Bool := a.m == b.m && (a.k == b.k && a.c == b.c)
theorem akB (b : Br) : akeyB Try.prog (.struct [(0, 3, false), (1, 5, false), (2, 3, false)]) (encK b) = true := by
  simp [akeyB, encK, akeyF, akey1, ty3, ty5, apart, TD.agg]
theorem akqB (a b : Br) : akeq Try.prog 73 (.struct [(0, 3, false), (1, 5, false), (2, 3, false)]) (encK a) (encK b) = some (kEq a b) := by
  have e : aeqT Try.prog 6 73 (encK a) (encK b) = some (kEq a b) := by
    simp [aeqT, aeqF, ty73, ty3, ty5, encK, apart, TD.agg, andO, kEq]
  unfold akeq
  simp only [encK] at e ⊢
  rw [e]
  cases h : kEq a b with
  | false => rfl
  | true =>
    simp only [kEq, Bool.and_eq_true, beq_iff_eq] at h
    obtain ⟨h1, h2, h3⟩ := h
    rw [h1, h2, h3]
    simp [plainEqL, plainEq]
def fnd (b : Br) : List Br → Nat → Option (Nat × Br)
  | [], _ => none
  | e :: es, i => if kEq b e = true then some (i, e) else fnd b es (i + 1)
theorem af_step {d : TD} {k : AV} {e : AV × AV} {es : List (AV × AV)} {i : Nat} {x : Bool} (h : akeq Try.prog 73 d k e.1 = some x) : afind Try.prog 73 d k (e :: es) i = if x = true then some (some (i, e.2)) else afind Try.prog 73 d k es (i + 1) := by
  conv => lhs; unfold afind
  rw [h]
  cases x with
  | true => rw [if_pos rfl]
  | false => rw [if_neg Bool.false_ne_true]
theorem afB (b : Br) : ∀ (l : List Br) (i : Nat), afind Try.prog 73 (.struct [(0, 3, false), (1, 5, false), (2, 3, false)]) (encK b) (ents l) i = some ((fnd b l i).map fun p => (p.1, .int .u8 p.2.n)) := by
  intro l
  induction l with
  | nil => intro i; rfl
  | cons e es ih =>
    intro i
    have e1 : ents (e :: es) = (encK e, .int .u8 e.n) :: ents es := rfl
    rw [e1, af_step (e := (encK e, .int .u8 e.n)) (akqB b e)]
    unfold fnd
    cases h : kEq b e with
    | true => rw [if_pos rfl, if_pos rfl]; rfl
    | false => rw [if_neg Bool.false_ne_true, if_neg Bool.false_ne_true]; exact ih (i + 1)
theorem fnd_none {b : Br} : ∀ {l : List Br} {i : Nat}, (∀ e ∈ l, kEq b e = false) → fnd b l i = none := by
  intro l
  induction l with
  | nil => intro i _; rfl
  | cons e es ih =>
    intro i h
    unfold fnd
    rw [h e (List.mem_cons_self ..), if_neg (by decide)]
    exact ih fun x hx => h x (List.mem_cons_of_mem _ hx)
def lookN (l : List Br) (b : Br) : Int := match l.find? (kEq b) with
  | some e => e.n
  | none => 0
theorem fnd_look {b : Br} : ∀ (l : List Br) (i : Nat), ((fnd b l i).map fun p => p.2) = l.find? (kEq b) := by
  intro l
  induction l with
  | nil => intro i; rfl
  | cons e es ih =>
    intro i
    unfold fnd
    rw [List.find?_cons]
    cases h : kEq b e with
    | true => simp
    | false => simpa using ih (i + 1)
theorem ents_snoc (l : List Br) (b : Br) : ents l ++ [(encK b, .int .u8 b.n)] = ents (l ++ [b]) := by simp [ents]
theorem updB {h : Nat → Option AObj} {i : Nat} {l : List Br} {b : Br} (h0 : h i = some (.map (ents l))) (hk : ∀ e ∈ l, kEq b e = false) : aMapUpdate Try.prog h 83 (.mref i) (encK b) (.int .u8 b.n) = some ⟨.undef, [(i, some (.map (ents (l ++ [b]))))]⟩ := by
  simp only [aMapUpdate, ty83, ty73, h0]
  rw [if_pos (akB b), afB, fnd_none hk]
  simp only [Option.map_none, ents_snoc]
theorem lookB {h : Nat → Option AObj} {i : Nat} {l : List Br} (b : Br) (h0 : h i = some (.map (ents l))) : aLookup Try.prog h 83 (.mref i) (encK b) false = some (.int .u8 (lookN l b)) := by
  have hz : azero Try.prog 5 = some (.int .u8 0) := by kernel_rfl
  have ha : amap h (.mref i) = some (ents l) := by simp [amap, h0]
  simp only [aLookup, ty83, ty73, ha]
  rw [if_pos (akB b), afB, hz]
  unfold lookN
  rw [← fnd_look l 0]
  cases fnd b l 0 with
  | none => rfl
  | some p => rfl
/-- No limit is told of twice. -/
def Uq (l : List Br) : Prop := l.Pairwise fun a b => kEq b a = false
theorem uq_take {l : List Br} (h : Uq l) {k : Nat} {b : Br} (hb : l[k]? = some b) : ∀ e ∈ l.take k, kEq b e = false := by
  intro e he
  obtain ⟨i, hi, rfl⟩ := List.mem_iff_getElem.1 he
  rw [List.length_take] at hi
  obtain ⟨hk, rfl⟩ := List.getElem?_eq_some_iff.1 hb
  rw [List.getElem_take]
  exact List.pairwise_iff_getElem.1 h i k (by omega) hk (by omega)
theorem take_snoc {α : Type} {l : List α} {k : Nat} {b : α} (hb : l[k]? = some b) : l.take k ++ [b] = l.take (k + 1) := by
  rw [List.take_add_one, hb]; rfl
theorem okE_ents (n : Nat) : ∀ l : List Br, okE n (ents l) = true := by
  intro l
  induction l with
  | nil => rfl
  | cons b l ih => show (okP n (encK b, .int .u8 b.n) && okE n (ents l)) = true; rw [ih]; rfl
def amongB (few all : List Br) : Bool := few.all fun b => !(lookN all b == 0)
theorem among_no {few all : List Br} {k : Nat} {b : Br} (hb : few[k]? = some b) (h : (lookN all b == 0) = true) : amongB few all = false := by
  unfold amongB
  rw [List.all_eq_false]
  exact ⟨b, List.mem_of_getElem? hb, by rw [h]; decide⟩
theorem among_yes {few all : List Br} (h : ∀ (i : Nat) b, i < few.length → few[i]? = some b → (lookN all b == 0) = false) : amongB few all = true := by
  unfold amongB
  rw [List.all_eq_true]
  intro b hb
  obtain ⟨i, hi, e⟩ := List.mem_iff_getElem.1 hb
  rw [h i b hi (by rw [List.getElem?_eq_getElem hi, e])]; rfl
set_option maxHeartbeats 8000000 in
set_option maxRecDepth 100000 in
theorem among_spec (few all : List Br) (h1 : few.length ≤ 100000) (h2 : all.length ≤ 100000) (hu : Uq all) : APure Try.prog 42 [.lst 4 (few.map encBr), .lst 4 (all.map encBr)] (.bool (amongB few all)) := by
  refine APure.vc Try.func42 rfl .loop rfl rfl ?_
  intro g hn hl
  replace hn : g.n = 45 := hn
  replace hl : g.low 0 := hl
  refine acode_while (fun k : Nat => ⟨[(0, .lst 4 (few.map encBr)), (5, .mref 0), (11, .lst 4 (all.map encBr)), (12, .int .i64 (all.map encBr).length), (13, .int .i64 k)], [(0, .map (ents (all.take k)))], 1⟩) (fun k => k ≤ all.length) (fun k => all.length - k) 0 (Nat.zero_le _) ?_ (fun _ _ => hl.mono (Nat.zero_le _)) ?_
  · exact St.le.of ⟨rfl, rfl, rfl, rfl, rfl, rfl, rfl, rfl, rfl, rfl, trivial⟩ ⟨rfl, Nat.zero_lt_one, rfl, trivial⟩
  · intro k hk
    by_cases hlt : k < all.length
    · refine Exists.elim (getE hlt) fun b hb => ?_
      have ek := congrArg (AV.int .i64) (succ64 (k := k) (by omega))
      have es : some (AObj.map (ents (all.take k ++ [b]))) = some (.map (ents (all.take (k + 1)))) := by rw [take_snoc hb]
      exact ACode.vc (.br 14 true <| .cells (encBr b) <| .val 0 .undef [(0, some (.map (ents (all.take k ++ [b]))))] .nil) hn hl (.round .cl)
        ⟨ltLen hlt, idx hb, updB (h := hget [(0, .map (ents (all.take k))), (1, .cells (encBr b))]) (i := 0) rfl (uq_take hu hb), k + 1, hlt, mu1 hlt,
          St.le.of ⟨rfl, rfl, rfl, rfl, rfl, rfl, rfl, rfl, ek, rfl, trivial⟩ ⟨es, Nat.zero_lt_one, okE_ents _ _, trivial⟩⟩
    · have hk' : k = all.length := by omega
      subst hk'
      have et : some (AObj.map (ents (all.take all.length))) = some (.map (ents all)) := by rw [List.take_length]
      refine ACode.vc (.br 14 false .nil) hn hl (.round .cl) ⟨geLen hlt, _, .refl _, .loop, ?_⟩
      intro g hn hl
      replace hn : g.n = 45 := hn
      replace hl : g.low 0 := hl.mono (Nat.zero_le _)
      refine acode_while (fun k : Nat => ⟨[(5, .mref 0), (28, .lst 4 (few.map encBr)), (29, .int .i64 (few.map encBr).length), (30, .int .i64 k)], [(0, .map (ents all))], 1⟩)
        (fun k => k ≤ few.length ∧ ∀ (i : Nat) b, i < k → few[i]? = some b → (lookN all b == 0) = false) (fun k => few.length - k) 0 ⟨Nat.zero_le _, fun i b hi => absurd hi (Nat.not_lt_zero _)⟩ ?_ (fun _ _ => hl.mono (Nat.zero_le _)) ?_
      · exact St.le.of ⟨rfl, rfl, rfl, rfl, rfl, rfl, rfl, rfl, trivial⟩ ⟨et, Nat.zero_lt_one, okE_ents _ _, trivial⟩
      · intro k hk
        by_cases hlt : k < few.length
        · refine Exists.elim (getE hlt) fun b hb => ?_
          have ek := congrArg (AV.int .i64) (succ64 (k := k) (by omega))
          have lk := congrArg (fun o => o.map fun v => (⟨v, []⟩ : Out)) (lookB (h := hget [(0, .map (ents all)), (1, .cells (encBr b))]) (i := 0) b rfl)
          exact ACode.vc (.br 31 true <| .cells (encBr b) <| .val 42 (.int .u8 (lookN all b)) [] <| .both 43 .nil .nil) hn hl (.round .cl)
            ⟨ltLen hlt, idx hb, lk, fun h => ⟨_, .refl _, .nil, rB (among_no hb h).symm⟩, fun h => ⟨k + 1, ⟨hlt, fun i x hi hx => by
              rcases Nat.lt_succ_iff_lt_or_eq.1 hi with h' | h'
              · exact hk.2 i x h' hx
              · subst h'; rw [hb] at hx; cases hx; exact h⟩, mu1 hlt, St.le.of ⟨rfl, rfl, rfl, rfl, rfl, rfl, ek, rfl, trivial⟩ ⟨rfl, Nat.zero_lt_one, okE_ents _ _, trivial⟩⟩⟩
        · have hk' : k = few.length := by omega
          subst hk'
          exact ACode.vc (.br 31 false .nil) hn hl (.round .cl) ⟨geLen hlt, _, .refl _, .nil, rB (among_yes hk.2).symm⟩
end Go.Proofs.Yticiopkiikcokaa
namespace Go.Proofs.Yticiopkiikcokaa
open Go Go.Am
/-! A number that is chosen. -/
def encU (x : Int) : List AV := [.int .u32 x]
def chs (l : List Int) (i : Nat) : Int := match l[i % l.length]? with
  | some x => x
  | none => 0
set_option maxHeartbeats 4000000 in
set_option maxRecDepth 100000 in
theorem choose_spec (l : List Int) (i : Nat) : APure Try.prog 37 [.lst 1 (l.map encU), .int .i64 (i : Int)] (.int .u32 (chs l i)) := by
  by_cases h : l.length = 0
  · have b7 : (((l.map encU).length : Int) == 0) = true := by rw [List.length_map, h]; rfl
    have e : chs l i = 0 := by unfold chs; rw [List.eq_nil_of_length_eq_zero h]; rfl
    rw [e]
    exact APure.vc Try.func37 rfl (.br 7 true .nil) rfl rfl ⟨b7, rI rfl⟩
  · have b7 : (((l.map encU).length : Int) == 0) = false := by rw [List.length_map, beq_eq_false_iff_ne]; omega
    have hz : ((l.map encU).length : Int) ≠ 0 := by rw [List.length_map]; omega
    obtain ⟨x, hx⟩ := getE (show i % l.length < l.length from Nat.mod_lt _ (by omega))
    have e : chs l i = x := by unfold chs; rw [hx]
    have ei : (i : Int).tmod ((l.map encU).length : Int) = ((i % l.length : Nat) : Int) := by
      rw [List.length_map, Int.tmod_eq_emod_of_nonneg (by omega)]; rfl
    have hc : 0 ≤ (i : Int).tmod ((l.map encU).length : Int) ∧ (l.map encU)[((i : Int).tmod ((l.map encU).length : Int)).toNat]? = some (encU x) := by
      rw [ei]; exact idx hx
    rw [e]
    exact APure.vc Try.func37 rfl (.br 7 false <| .nz <| .cells (encU x) .nil) rfl rfl ⟨b7, hz, hc, rI rfl⟩
theorem chs_rng {l : List Int} (h : ∀ x ∈ l, 0 ≤ x ∧ x < 4294967296) (i : Nat) : 0 ≤ chs l i ∧ chs l i < 4294967296 := by
  unfold chs
  cases e : l[i % l.length]? with
  | none => simp
  | some x => exact h x (List.mem_of_getElem? e)
end Go.Proofs.Yticiopkiikcokaa
namespace Go.Proofs.Yticiopkiikcokaa
open Go Go.Am Go.Srt
/-! Looser rules. -/
structure Loose (u u' : Ru) : Prop where
  len : u'.steps.length = u.steps.length
  step : ∀ (k : Nat) (s s' : Sp), u.steps[k]? = some s → u'.steps[k]? = some s' → s'.f = s.f ∧ s.p ≤ s'.p
  single : u.single ≤ u'.single
  sFrom : u.sFrom ≤ u'.sFrom
  pLo : u'.pLo ≤ u.pLo
  pHi : u'.pHi = u.pHi
  pFrom : u.pFrom ≤ u'.pFrom
theorem outI_mono {lo hi a b a' b' : Int} (h1 : a' ≤ a) (h2 : b ≤ b') : outI lo hi a' b' ≤ outI lo hi a b := by
  unfold outI
  by_cases c1 : hi < a
  · rw [if_pos c1]; split
    · omega
    · split <;> (try split) <;> (try split) <;> omega
  · rw [if_neg c1, if_neg (show ¬ hi < a' by omega)]
    by_cases c2 : lo > b
    · rw [if_pos c2]; split <;> (try split) <;> (try split) <;> omega
    · rw [if_neg c2, if_neg (show ¬ lo > b' by omega)]
      by_cases c3 : lo < a
      · rw [if_pos c3]; split <;> (try split) <;> omega
      · rw [if_neg c3, if_neg (show ¬ lo < a' by omega)]
        by_cases c4 : hi > b
        · rw [if_pos c4]; split <;> omega
        · rw [if_neg c4, if_neg (show ¬ hi > b' by omega)]; omega
theorem partK_loose {u u' : Ru} (hu : RuOk u) (h : Loose u u') (m : Int) : ∀ k, (partK u.steps m k < 0 → partK u'.steps m k < 0) ∧ (0 ≤ partK u.steps m k → partK u.steps m k ≤ partK u'.steps m k) := by
  intro k
  induction k with
  | zero => exact ⟨fun h => h, fun _ => Int.le_refl _⟩
  | succ k ih =>
    simp only [partK]
    cases e : u.steps[k]? with
    | none =>
      have e' : u'.steps[k]? = none := by
        rw [List.getElem?_eq_none_iff] at e ⊢; rw [h.len]; exact e
      rw [e']; exact ih
    | some s =>
      obtain ⟨hk, _⟩ := List.getElem?_eq_some_iff.1 e
      obtain ⟨s', e'⟩ := getE (show k < u'.steps.length by rw [h.len]; exact hk)
      obtain ⟨f1, f2⟩ := h.step k s s' e e'
      have f3 := (hu.step k s e).2.1
      rw [e']
      simp only [f1]
      by_cases c : s.f ≤ m
      · rw [if_pos c, if_pos c]; exact ⟨fun g => by omega, fun _ => f2⟩
      · rw [if_neg c, if_neg c]; exact ih
theorem sum_pos : ∀ l : List Int, (∀ x ∈ l, 0 ≤ x) → 0 ≤ l.sum := by
  intro l
  induction l with
  | nil => intro _; simp
  | cons a l ih =>
    intro h
    have h1 := h a (List.mem_cons_self ..)
    have h2 := ih fun x hx => h x (List.mem_cons_of_mem _ hx)
    simp only [List.sum_cons]; omega
theorem cF_pos {r : Rn} (hr : RunOk r) (i : Nat) : 0 ≤ (cF r i).lo ∧ 0 ≤ (cF r i).hi := by
  unfold cF cfK
  by_cases h : 1 ≤ i ∧ i ≤ r.rows.length ∧ blindB r i = false
  · rw [if_pos h]
    obtain ⟨hcl, _⟩ := curveB_out hr.curve
    obtain ⟨p, hp⟩ := getE (show r.curve.length - 1 < r.curve.length by omega)
    have hlast := hr.last
    rw [lastM_some hp] at hlast
    have := deg_rng hr.curve hp (m := (i : Int)) (by omega) (by omega)
    exact ⟨by show 0 ≤ 840 * deg r.curve i; omega, by show 0 ≤ 840 * deg r.curve i; omega⟩
  · rw [if_neg h]; exact ⟨Int.le_refl _, Int.le_refl _⟩
theorem accC_pos {r : Rn} (hr : RunOk r) (m : Nat) : 0 ≤ accS (cF r) Sn.lo m ∧ 0 ≤ accS (cF r) Sn.hi m := by
  unfold accS
  constructor
  · exact sum_pos _ fun x hx => by
      obtain ⟨s, hs, rfl⟩ := List.mem_map.1 hx
      obtain ⟨i, _, rfl⟩ := List.mem_map.1 hs
      exact (cF_pos hr i).1
  · exact sum_pos _ fun x hx => by
      obtain ⟨s, hs, rfl⟩ := List.mem_map.1 hx
      obtain ⟨i, _, rfl⟩ := List.mem_map.1 hs
      exact (cF_pos hr i).2
theorem area_loose {r : Rn} (hr : RunOk r) {u u' : Ru} (hu : RuOk u) (h : Loose u u') (m : Nat) : kArea r u' m ≤ kArea r u m := by
  obtain ⟨p1, p2⟩ := partK_loose hu h m u.steps.length
  obtain ⟨c1, c2⟩ := accC_pos hr m
  unfold kArea partI
  rw [h.len]
  by_cases c : partK u.steps m u.steps.length < 0
  · rw [if_pos c, if_pos (p1 c)]; omega
  · have := p2 (by omega)
    rw [if_neg c, if_neg (by omega)]
    exact outI_mono (Int.mul_le_mul_of_nonneg_right (by omega) c1) (Int.mul_le_mul_of_nonneg_right (by omega) c2)
theorem sing_loose {r : Rn} {u u' : Ru} (h : Loose u u') (m i : Nat) : kSing r u' m i ≤ kSing r u m i := by
  have h1 := h.sFrom
  have h2 := h.single
  unfold kSing
  by_cases c : (m : Int) < u'.sFrom
  · rw [if_pos c]; split
    · omega
    · exact (outI_rng _ _ _ _).1
  · rw [if_neg c, if_neg (by omega)]
    exact outI_mono (by omega) (by omega)
theorem press_loose {r : Rn} {u u' : Ru} (h : Loose u u') (m : Nat) : kPress r u' m ≤ kPress r u m := by
  have h1 := h.pFrom
  have h2 := h.pLo
  have h3 := h.pHi
  unfold kPress
  by_cases c : (m : Int) < u'.pFrom
  · rw [if_pos c]; split
    · omega
    · exact (outI_rng _ _ _ _).1
  · rw [if_neg c, if_neg (by omega)]
    exact outI_mono (by omega) (by omega)
theorem kEq_iff {a b : Br} : kEq a b = true ↔ a.m = b.m ∧ a.k = b.k ∧ a.c = b.c := by simp [kEq]
theorem brk1_up {m k c x y : Int} (h0 : 0 ≤ x) (h : x ≤ y) {e : Br} (he : e ∈ brk1 m k c x) : ∃ e' ∈ brk1 m k c y, kEq e e' = true ∧ e.n ≤ e'.n := by
  obtain ⟨e1, e2, e3, e4⟩ := brk1_mem he
  have hx : x ≠ 0 := fun h => by rw [h] at he; simp [brk1] at he
  refine ⟨⟨m, k, c, y⟩, ?_, kEq_iff.2 ⟨e1, e2, e3⟩, by show e.n ≤ y; omega⟩
  unfold brk1
  rw [if_neg (by omega)]
  exact List.mem_cons_self ..
theorem left_loose {r : Rn} (hr : RunOk r) {u u' : Ru} (hu : RuOk u) (h : Loose u u') {e : Br} (he : e ∈ leftL r u') : ∃ e' ∈ leftL r u, kEq e e' = true ∧ e.n ≤ e'.n := by
  obtain ⟨i, hi, he⟩ := List.mem_flatMap.1 he
  have key : ∃ e' ∈ leftAt r u (i + 1), kEq e e' = true ∧ e.n ≤ e'.n := by
    unfold leftAt at he ⊢
    rcases List.mem_append.1 he with he | he
    · obtain ⟨x, hx, h1⟩ := brk1_up (kBlind_rng _ _).1 (Int.le_refl _) he
      exact ⟨x, List.mem_append.2 (.inl hx), h1⟩
    · rcases List.mem_append.1 he with he | he
      · obtain ⟨x, hx, h1⟩ := brk1_up (kArea_rng _ _ _).1 (area_loose hr hu h (i + 1)) he
        exact ⟨x, List.mem_append.2 (.inr (List.mem_append.2 (.inl hx))), h1⟩
      · rcases List.mem_append.1 he with he | he
        · obtain ⟨j, hj, hw, he⟩ := mem_bS he
          obtain ⟨x, hx, h1⟩ := brk1_up (kSing_rng _ _ _ _).1 (sing_loose h (i + 1) j) he
          exact ⟨x, List.mem_append.2 (.inr (List.mem_append.2 (.inr (List.mem_append.2 (.inl (List.mem_flatMap.2 ⟨j, List.mem_filter.2 ⟨List.mem_range.2 hj, hw⟩, hx⟩)))))), h1⟩
        · obtain ⟨x, hx, h1⟩ := brk1_up (kPress_rng _ _ _).1 (press_loose h (i + 1)) he
          exact ⟨x, List.mem_append.2 (.inr (List.mem_append.2 (.inr (List.mem_append.2 (.inr hx))))), h1⟩
  obtain ⟨x, hx, h1⟩ := key
  exact ⟨x, List.mem_flatMap.2 ⟨i, hi, hx⟩, h1⟩
theorem uq_left {r : Rn} (hr : RunOk r) (u : Ru) : Uq (leftL r u) := (left_sorted hr u).imp fun {a b} h => by
  cases e : kEq b a with
  | false => rfl
  | true =>
    obtain ⟨e1, e2, e3⟩ := kEq_iff.1 e
    have e4 : kk b = kk a := by unfold kk; rw [e2]
    rw [ltBr_iff] at h
    omega
theorem uq_find {e e' : Br} (hk : kEq e e' = true) : ∀ {l : List Br}, Uq l → e' ∈ l → l.find? (kEq e) = some e' := by
  intro l
  induction l with
  | nil => intro _ h; cases h
  | cons a t ih =>
    intro hu hm
    obtain ⟨h1, h2⟩ := List.pairwise_cons.1 hu
    rw [List.find?_cons]
    cases hc : kEq e a with
    | true =>
      rcases List.mem_cons.1 hm with rfl | hm
      · rfl
      · have := h1 e' hm
        obtain ⟨a1, a2, a3⟩ := kEq_iff.1 hc
        obtain ⟨b1, b2, b3⟩ := kEq_iff.1 hk
        have : kEq e' a = true := kEq_iff.2 ⟨by omega, by omega, by omega⟩
        simp_all
    | false =>
      rcases List.mem_cons.1 hm with rfl | hm
      · rw [hk] at hc; cases hc
      · exact ih h2 hm
theorem uq_look {e e' : Br} (hk : kEq e e' = true) {l : List Br} (hu : Uq l) (hm : e' ∈ l) : lookN l e = e'.n := by
  unfold lookN; rw [uq_find hk hu hm]
/-- What may be with looser rules was told before, and as surely. -/
theorem look_loose {r : Rn} (hr : RunOk r) {u u' : Ru} (hu : RuOk u) (h : Loose u u') {e : Br} (he : e ∈ leftL r u') : e.n ≤ lookN (leftL r u) e ∧ 1 ≤ e.n := by
  obtain ⟨x, hx, h1, h2⟩ := left_loose hr hu h he
  rw [uq_look h1 (uq_left hr u) hx]
  exact ⟨h2, (left_out he).2.2.1⟩
theorem among_loose {r : Rn} (hr : RunOk r) {u u' : Ru} (hu : RuOk u) (h : Loose u u') : amongB (leftL r u') (leftL r u) = true := by
  refine among_yes fun i b hi hb => ?_
  have := look_loose hr hu h (List.mem_of_getElem? hb)
  rw [beq_eq_false_iff_ne]; omega
theorem find_min {p : Br → Bool} {b e : Br} : ∀ {l : List Br}, (l.Pairwise fun a b => ltBr a b = true) → l.find? p = some b → e ∈ l → p e = true → b.m ≤ e.m := by
  intro l
  induction l with
  | nil => intro _ h; cases h
  | cons a t ih =>
    intro hs hf hm hp
    obtain ⟨h1, h2⟩ := List.pairwise_cons.1 hs
    rw [List.find?_cons] at hf
    cases hc : p a with
    | true =>
      rw [hc] at hf
      cases hf
      rcases List.mem_cons.1 hm with rfl | hm
      · omega
      · have := ltBr_iff.1 (h1 e hm); omega
    | false =>
      rw [hc] at hf
      rcases List.mem_cons.1 hm with rfl | hm
      · rw [hp] at hc; cases hc
      · exact ih h2 hf hm hp
theorem count_loose {r : Rn} (hr : RunOk r) {u u' : Ru} (hu : RuOk u) (h : Loose u u') : countI r u ≤ countI r u' := by
  have h0 := count_rng (r := r) u
  unfold countI at h0 ⊢
  cases e' : (leftL r u').find? (firstP r.rows.length 1) with
  | none => exact h0.2
  | some b' =>
    have hb' := List.mem_of_find?_eq_some e'
    obtain ⟨x, hx, h1, h2⟩ := left_loose hr hu h hb'
    have hm := left_out hx
    obtain ⟨k1, _, _⟩ := kEq_iff.1 h1
    have hp : firstP r.rows.length 1 x = true := by simp [firstP]; omega
    cases e : (leftL r u).find? (firstP r.rows.length 1) with
    | none => exact absurd hp (List.find?_eq_none.1 e x hx)
    | some b =>
      have := find_min (left_sorted hr u) e hx hp
      show b.m - 1 ≤ b'.m - 1
      omega
end Go.Proofs.Yticiopkiikcokaa
namespace Go.Proofs.Yticiopkiikcokaa
open Go Go.Am Go.Srt
/-! Steps whose part is written. -/
theorem sps_len (l : List Sp) : (fl encSp l).length = l.length * 2 := fl_len (enc := encSp) (n := 2) (fun _ => rfl) l
theorem sps_split {P R : List Sp} {s : Sp} : fl encSp (P ++ s :: R) = (fl encSp P ++ [.int .i64 s.f]) ++ ([.int .i64 s.p] ++ fl encSp R) := by simp [fl, encSp]
theorem sps_alen {P : List Sp} {s : Sp} {k : Nat} (hP : P.length = k) : (fl encSp P ++ [AV.int .i64 s.f]).length = 0 + k * 2 + 1 := by
  rw [List.length_append, sps_len, hP]; show k * 2 + 1 = _; omega
theorem ixP {h : Nat → Option AObj} {id n k : Nat} {i : Int} (hi : i = (k : Int)) (hk : k < n) : (aindexAddr Try.prog h 29 (.rsl id 0 n 2) (.int .i64 i)).map (fun v => (⟨v, []⟩ : Out)) = some ⟨.vptr id (0 + k * 2), []⟩ := by
  subst hi
  simp only [aindexAddr, ty29, ty85]
  rw [if_pos ⟨trivial, Int.natCast_nonneg _, by simpa using hk⟩]; rfl
theorem ldP {h : Nat → Option AObj} {id k : Nat} {l : List Sp} {s : Sp} (h0 : h id = some (.cells (fl encSp l))) (hk : l[k]? = some s) : aLoad Try.prog h 3 (.vptr id (0 + k * 2 + 1)) = some ⟨.int .i64 s.p, []⟩ := by
  obtain ⟨P, R, rfl, hP⟩ := split1 hk
  have e : (fl encSp (P ++ s :: R)).drop (0 + k * 2 + 1) = .int .i64 s.p :: fl encSp R := by
    rw [sps_split, ← sps_alen (s := s) hP, List.drop_left]; rfl
  simp only [aLoad, ty3, h0, e]
  rfl
theorem stP {h : Nat → Option AObj} {id k : Nat} {l : List Sp} {s : Sp} {p : Int} (h0 : h id = some (.cells (fl encSp l))) (hk : l[k]? = some s) :
    aStore Try.prog h 3 (.vptr id (0 + k * 2 + 1)) (.int .i64 p) = some ⟨.undef, [(id, some (.cells (fl encSp (l.set k ⟨s.f, p⟩))))]⟩ := by
  obtain ⟨P, R, rfl, hP⟩ := split1 hk
  have e : splice (fl encSp (P ++ s :: R)) (0 + k * 2 + 1) [.int .i64 p] = fl encSp ((P ++ s :: R).set k ⟨s.f, p⟩) := by
    rw [set1 hP.symm, sps_split, sps_split, ← sps_alen (s := s) hP]
    exact splice_mid _ _ _ _ rfl
  have hl : 0 + k * 2 + 1 + [AV.int .i64 p].length ≤ (fl encSp (P ++ s :: R)).length := by
    rw [sps_len, List.length_append, List.length_cons, hP]; show 0 + k * 2 + 1 + 1 ≤ (k + (R.length + 1)) * 2; omega
  simp only [aStore, ty3, acells, h0]
  rw [if_pos ⟨rfl, hl, rfl⟩, e]
def nP (y : List Int) (k : Nat) (s : Sp) : Int := s.p + (chs y k).tmod (1000 - s.p + 1)
def stepsK (y : List Int) (l : List Sp) : Nat → List Sp
  | 0 => l
  | k + 1 => match l[k]? with
    | some s => (stepsK y l k).set k ⟨s.f, nP y k s⟩
    | none => stepsK y l k
theorem stepsK_len (y : List Int) (l : List Sp) : ∀ k, (stepsK y l k).length = l.length := by
  intro k
  induction k with
  | zero => rfl
  | succ k ih =>
    simp only [stepsK]
    cases l[k]? with
    | none => exact ih
    | some s => rw [List.length_set]; exact ih
theorem stepsK_ge (y : List Int) (l : List Sp) : ∀ k j, k ≤ j → (stepsK y l k)[j]? = l[j]? := by
  intro k
  induction k with
  | zero => intro j _; rfl
  | succ k ih =>
    intro j hj
    simp only [stepsK]
    cases l[k]? with
    | none => exact ih j (by omega)
    | some s => rw [List.getElem?_set_ne (by omega)]; exact ih j (by omega)
theorem stepsK_lt (y : List Int) (l : List Sp) {j : Nat} {s : Sp} (hs : l[j]? = some s) : ∀ k, j < k → (stepsK y l k)[j]? = some ⟨s.f, nP y j s⟩ := by
  intro k
  induction k with
  | zero => intro h; exact absurd h (Nat.not_lt_zero _)
  | succ k ih =>
    intro hj
    simp only [stepsK]
    by_cases e : j = k
    · subst e
      rw [hs]
      obtain ⟨h1, _⟩ := List.getElem?_eq_some_iff.1 hs
      exact List.getElem?_set_self (by rw [stepsK_len]; exact h1)
    · have := ih (by omega)
      cases l[k]? with
      | none => exact this
      | some s' => show ((stepsK y l k).set k _)[j]? = _; rw [List.getElem?_set_ne (by omega)]; exact this
theorem tm_rng {a b : Int} (h : 0 ≤ a) (hb : 0 < b) : 0 ≤ a.tmod b ∧ a.tmod b < b := by
  rw [Int.tmod_eq_emod_of_nonneg h]
  exact ⟨Int.emod_nonneg _ (by omega), Int.emod_lt_of_pos _ hb⟩
theorem nP_rng {y : List Int} (hy : ∀ x ∈ y, 0 ≤ x ∧ x < 4294967296) (k : Nat) {s : Sp} (h : 0 ≤ s.p ∧ s.p ≤ 1000) : s.p ≤ nP y k s ∧ nP y k s ≤ 1000 := by
  have := tm_rng (chs_rng hy k).1 (show 0 < 1000 - s.p + 1 by omega)
  unfold nP; omega
/-- The rules, looser. -/
def looseR (y : List Int) (u : Ru) : Ru := ⟨stepsK y u.steps u.steps.length, u.single + (chs y 1).tmod (2000 - u.single + 1), u.sFrom + (chs y 2).tmod (600 - u.sFrom + 1), u.pLo - (chs y 3).tmod (u.pLo + 100 + 1), u.pHi, u.pFrom + (chs y 4).tmod (600 - u.pFrom + 1)⟩
theorem loose_ok {y : List Int} (hy : ∀ x ∈ y, 0 ≤ x ∧ x < 4294967296) {u : Ru} (hu : RuOk u) : Loose u (looseR y u) := by
  have g1 := hu.single
  have g2 := hu.sFrom
  have g3 := hu.press
  have g4 := hu.pFrom
  have a1 := tm_rng (chs_rng hy 1).1 (show 0 < 2000 - u.single + 1 by omega)
  have a2 := tm_rng (chs_rng hy 2).1 (show 0 < 600 - u.sFrom + 1 by omega)
  have a3 := tm_rng (chs_rng hy 3).1 (show 0 < u.pLo + 100 + 1 by omega)
  have a4 := tm_rng (chs_rng hy 4).1 (show 0 < 600 - u.pFrom + 1 by omega)
  refine ⟨stepsK_len y _ _, fun k s s' h1 h2 => ?_, ?_, ?_, ?_, rfl, ?_⟩
  · obtain ⟨hk, _⟩ := List.getElem?_eq_some_iff.1 h1
    have e := stepsK_lt y u.steps h1 _ hk
    have e2 : (stepsK y u.steps u.steps.length)[k]? = some s' := h2
    rw [e] at e2
    cases e2
    exact ⟨rfl, (nP_rng hy k (hu.step k s h1).2).1⟩
  · show u.single ≤ u.single + _; omega
  · show u.sFrom ≤ u.sFrom + _; omega
  · show u.pLo - _ ≤ u.pLo; omega
  · show u.pFrom ≤ u.pFrom + _; omega
theorem loose_rules {y : List Int} (hy : ∀ x ∈ y, 0 ≤ x ∧ x < 4294967296) {u : Ru} (h : rulesB u = true) : rulesB (looseR y u) = true := by
  have hu := rulesB_out h
  have g1 := hu.single
  have g2 := hu.sFrom
  have g3 := hu.press
  have g4 := hu.pFrom
  have a1 := tm_rng (chs_rng hy 1).1 (show 0 < 2000 - u.single + 1 by omega)
  have a2 := tm_rng (chs_rng hy 2).1 (show 0 < 600 - u.sFrom + 1 by omega)
  have a3 := tm_rng (chs_rng hy 3).1 (show 0 < u.pLo + 100 + 1 by omega)
  have a4 := tm_rng (chs_rng hy 4).1 (show 0 < 600 - u.pFrom + 1 by omega)
  simp only [rulesB, stepsB, Bool.and_eq_true, within_iff, spanB_iff, decide_eq_true_eq, List.all_eq_true, List.mem_range] at h ⊢
  obtain ⟨⟨h1, h2⟩, _⟩ := h
  have el : (looseR y u).steps.length = u.steps.length := stepsK_len y _ _
  refine ⟨⟨by rw [el]; exact h1, fun i hi => ?_⟩, ?_, ?_, ?_, ?_⟩
  · rw [el] at hi
    have h3 := h2 i hi
    obtain ⟨s, hs⟩ := getE hi
    have e : (looseR y u).steps[i]? = some ⟨s.f, nP y i s⟩ := stepsK_lt y u.steps hs _ hi
    unfold spAt at h3 ⊢
    rw [hs] at h3
    rw [e]
    simp only [Bool.and_eq_true, spOk, within_iff] at h3 ⊢
    refine ⟨⟨h3.1.1, ?_⟩, ?_⟩
    · have := nP_rng hy i h3.1.2; omega
    · by_cases h0 : i = 0
      · subst h0; rfl
      · obtain ⟨b, hb⟩ := getE (show i - 1 < u.steps.length by omega)
        have e2 : (looseR y u).steps[i - 1]? = some ⟨b.f, nP y (i - 1) b⟩ := stepsK_lt y u.steps hb _ (by omega)
        have h4 := h3.2
        rw [hb] at h4
        rw [e2]
        exact h4
  · show 0 ≤ u.single + _ ∧ u.single + _ ≤ 2000; omega
  · show 1 ≤ u.sFrom + _ ∧ u.sFrom + _ ≤ 600; omega
  · show -100 ≤ u.pLo - _ ∧ u.pLo - _ ≤ u.pHi ∧ u.pHi ≤ 100; omega
  · show 1 ≤ u.pFrom + _ ∧ u.pFrom + _ ≤ 600; omega
theorem loose_check {y : List Int} (hy : ∀ x ∈ y, 0 ≤ x ∧ x < 4294967296) {r : Rn} {u : Ru} (h : checkI r u = 0) : checkI r (looseR y u) = 0 := by
  obtain ⟨h1, h2⟩ := checkI_ok h
  unfold checkI
  rw [if_pos h1, if_pos (loose_rules hy h2)]
end Go.Proofs.Yticiopkiikcokaa
