import Derived.Test.YtmdhgkfjlphliaaG4
import Derived.Test.YtmdhgkfjlphliaaR7
import Derived.Test.YtmdhgkfjlphliaaT5
/-
  WHAT A RECORD RESTS ON, AS SETS: plain theory.
-/
namespace Go.Proofs.Ytmdhgkfjlphliaa
open Go Go.Am
set_option maxRecDepth 100000
set_option maxHeartbeats 4000000
theorem lessN_0 {a b : Nat} : lessN a b = 0 ↔ ∀ i, a.testBit i = true → b.testBit i = true := by
  constructor
  · intro h i hi
    have h1 := lessN_bit a b i
    rw [h, Nat.zero_testBit, hi, Bool.true_and] at h1
    cases hb : b.testBit i
    · rw [hb] at h1; cases h1
    · rfl
  · intro h
    refine Nat.eq_of_testBit_eq fun i => ?_
    rw [lessN_bit, Nat.zero_testBit]
    cases ha : a.testBit i
    · rfl
    · rw [h i ha]; rfl
theorem sub_le {a b : Nat} (h : ∀ i, a.testBit i = true → b.testBit i = true) : a ≤ b := by
  have e : a = a &&& b := by
    refine Nat.eq_of_testBit_eq fun i => ?_
    rw [Nat.testBit_and]
    cases ha : a.testBit i
    · rfl
    · rw [h i ha]; rfl
  rw [e]; exact Nat.and_le_right
theorem popN_mono {a b : Nat} (h : ∀ i, a.testBit i = true → b.testBit i = true) : popN a ≤ popN b := List.countP_mono_left fun i _ hi => h i hi
theorem befB_pop {a b : Nat} : (befB a b = true → popN a ≤ popN b) ∧ (befB a b = false → popN b ≤ popN a) := by
  unfold befB
  by_cases h : popN a ≠ popN b
  · rw [if_pos h]
    constructor
    · intro h2; have := of_decide_eq_true h2; omega
    · intro h2; have := of_decide_eq_false h2; omega
  · rw [if_neg h]
    have : popN a = popN b := Decidable.not_not.1 h
    constructor <;> intro _ <;> omega
theorem fewK_facts {of : Nat} {p : Nat → Bool} (hof : p of = true) : ∀ k, (∀ i, (fewK of p k).testBit i = true → of.testBit i = true) ∧ p (fewK of p k) = true ∧ popN (fewK of p k) ≤ popN of ∧ ∀ j, j < k → (∀ i, j.testBit i = true → of.testBit i = true) → p j = true → popN (fewK of p k) ≤ popN j := by
  intro k
  induction k with
  | zero => exact ⟨fun i h => h, hof, Nat.le_refl _, fun j hj => absurd hj (Nat.not_lt_zero j)⟩
  | succ k ih =>
    obtain ⟨h1, h2, h3, h4⟩ := ih
    unfold fewK
    cases c : fewB of p (fewK of p k) k
    · rw [if_neg (by decide)]
      refine ⟨h1, h2, h3, fun j hj hs hp => ?_⟩
      by_cases hjk : j < k
      · exact h4 j hjk hs hp
      · have e : j = k := by omega
        subst e
        unfold fewB at c
        rw [lessN_0.2 hs, hp] at c
        cases hb : befB j (fewK of p j)
        · exact befB_pop.2 hb
        · rw [hb] at c; cases c
    · rw [if_pos rfl]
      unfold fewB at c
      rw [Bool.and_eq_true, Bool.and_eq_true] at c
      obtain ⟨c1, c2, c3⟩ := c
      have c1' : lessN k of = 0 := by have := eq_of_beq c1; omega
      have hb := befB_pop.1 c2
      refine ⟨lessN_0.1 c1', c3, by omega, fun j hj hs hp => ?_⟩
      by_cases hjk : j < k
      · have := h4 j hjk hs hp; omega
      · have e : j = k := by omega
        subst e
        exact Nat.le_refl _
theorem fewV_facts {of : Nat} {p : Nat → Bool} (hof : p of = true) : (∀ i, (fewV of p).testBit i = true → of.testBit i = true) ∧ p (fewV of p) = true ∧ ∀ j, (∀ i, j.testBit i = true → of.testBit i = true) → p j = true → popN (fewV of p) ≤ popN j := by
  obtain ⟨h1, h2, h3, h4⟩ := fewK_facts hof of
  refine ⟨h1, h2, fun j hs hp => ?_⟩
  have hl := sub_le hs
  by_cases e : j = of
  · subst e; exact h3
  · exact h4 j (by omega) hs hp
theorem id_inj {r : List Rcd} (hn : (idsR r).Nodup) {i k : Nat} {x : Rcd} (hx : r[k]? = some x) (hi : i < r.length) (e : idA r i = x.id) : i = k := by
  have hy : r[i]? = some r[i] := List.getElem?_eq_getElem hi
  rw [idA_get hy] at e
  refine (List.getElem?_inj (by unfold idsR; rw [List.length_map]; exact hi) hn).1 ?_
  rw [idsR_get hy, idsR_get hx, e]
theorem mem_bit {r : List Rcd} (hn : (idsR r).Nodup) {k : Nat} {x : Rcd} (hx : r[k]? = some x) (S : Nat) : memB r S x.id = S.testBit k := by
  have hk := (List.getElem?_eq_some_iff.1 hx).1
  have hb : ∀ i, (S &&& sV r x.id r.length).testBit i = (S.testBit i && decide (i = k)) := by
    intro i
    unfold sV
    rw [Nat.testBit_and, setN_bit]
    congr 1
    unfold isA
    by_cases e : i = k
    · subst e; rw [decide_eq_true hk, idA_get hx]; simp
    · rw [decide_eq_false e]
      by_cases hi : i < r.length
      · rw [decide_eq_false (fun h => e (id_inj hn hx hi h)), Bool.and_false]
      · rw [decide_eq_false hi, Bool.false_and]
  unfold memB
  cases h : S.testBit k
  · have e0 : S &&& sV r x.id r.length = 0 := by
      refine Nat.eq_of_testBit_eq fun i => ?_
      rw [hb, Nat.zero_testBit]
      by_cases e : i = k
      · subst e; rw [h]; rfl
      · rw [decide_eq_false e, Bool.and_false]
    rw [e0]; rfl
  · have h1 := hb k
    rw [h, decide_eq_true rfl] at h1
    refine bne_iff_ne.2 fun h2 => ?_
    have h3 : S &&& sV r x.id r.length = 0 := by omega
    rw [h3, Nat.zero_testBit] at h1
    cases h1
theorem ids_bit {r : List Rcd} (hn : (idsR r).Nodup) {k : Nat} {x : Rcd} (hx : r[k]? = some x) (S : Nat) : (idsOf r S).contains x.id = S.testBit k := by
  have hk := (List.getElem?_eq_some_iff.1 hx).1
  rw [Bool.eq_iff_iff, List.contains_iff_mem]
  unfold idsOf
  rw [List.mem_map]
  constructor
  · rintro ⟨i, hi, e⟩
    rw [List.mem_filter, List.mem_range] at hi
    have e2 := id_inj hn hx hi.1 e
    subst e2
    exact hi.2
  · intro h
    exact ⟨k, by rw [List.mem_filter, List.mem_range]; exact ⟨hk, h⟩, idA_get hx⟩
theorem stands_on {so so' : Int → Bool} {ws : List (List Int)} (h : ∀ w ∈ ws, ∀ v ∈ w, so v = true → so' v = true) (hs : standsB so ws = true) : standsB so' ws = true := by
  unfold standsB at *
  rw [Bool.or_eq_true] at *
  rcases hs with hs | hs
  · exact .inl hs
  · refine .inr ?_
    obtain ⟨w, hw, ha⟩ := List.any_eq_true.1 hs
    exact List.any_eq_true.2 ⟨w, hw, List.all_eq_true.2 fun v hv => h w hw v hv (List.all_eq_true.1 ha v hv)⟩
theorem whole_held {r : List Rcd} (hr : recsB r = true) {S : Nat} (hw : wholeV r S = true) : ∀ k x, r[k]? = some x → (heldV (fun i => !(idsOf r S).contains i) [] r).contains x.id = S.testBit k := by
  have hn := (recs_nodup hr).1
  intro k
  induction k using Nat.strongRecOn with
  | _ k ih =>
    intro x hx
    have hxm := List.mem_of_getElem? hx
    have hi : x.id ∈ heldV (fun i => !(idsOf r S).contains i) [] r ↔ (!(idsOf r S).contains x.id) = false ∧ standsB (fun i => (heldV (fun i => !(idsOf r S).contains i) [] r).contains i) x.ways = true := held_iff hr _ hxm
    rw [ids_bit hn hx] at hi
    rw [Bool.eq_iff_iff, List.contains_iff_mem, hi]
    constructor
    · rintro ⟨h, _⟩; simpa using h
    · intro h
      refine ⟨by rw [h]; rfl, ?_⟩
      unfold wholeV at hw
      have h2 := allI_iff.1 hw k x hx
      unfold wholeI at h2
      rw [h, Bool.not_true, Bool.false_or] at h2
      refine stands_on (fun w hw v hv hs => ?_) h2
      obtain ⟨j, y, hj, hy, e, _⟩ := ref_at hr hx hw hv
      subst e
      rw [mem_bit hn hy] at hs
      rw [ih j hj y hy, hs]
theorem held_whole {r : List Rcd} (hr : recsB r = true) (g : Int → Bool) : wholeV r (setK g r r.length) = true := by
  have hn := (recs_nodup hr).1
  have hb : ∀ {k : Nat} {x : Rcd}, r[k]? = some x → (setK g r r.length).testBit k = (heldV g [] r).contains x.id := fun {k x} hx => by
    unfold setK
    rw [setN_bit, decide_eq_true (List.getElem?_eq_some_iff.1 hx).1, idA_get hx]; rfl
  unfold wholeV
  refine allI_iff.2 fun k x hx => ?_
  unfold wholeI
  rw [hb hx]
  cases h : (heldV g [] r).contains x.id
  · rfl
  · rw [Bool.not_true, Bool.false_or]
    have h2 := ((held_iff hr g (List.mem_of_getElem? hx)).1 (List.contains_iff_mem.1 h)).2
    refine stands_on (fun w hw v hv hs => ?_) h2
    obtain ⟨j, y, hj, hy, e, _⟩ := ref_at hr hx hw hv
    subst e
    rw [mem_bit hn hy, hb hy]; exact hs
theorem setK_bit (g : Int → Bool) {r : List Rcd} {k : Nat} {x : Rcd} (hx : r[k]? = some x) : (setK g r r.length).testBit k = (heldV g [] r).contains x.id := by
  unfold setK
  rw [setN_bit, decide_eq_true (List.getElem?_eq_some_iff.1 hx).1, idA_get hx]; rfl
theorem range_split (n : Nat) (p : Nat → Bool) : ∀ m, n ≤ m → (∀ i, n ≤ i → p i = false) → (List.range m).countP p = (List.range n).countP p := by
  intro m
  induction m with
  | zero => intro h _; have : n = 0 := by omega
            subst this; rfl
  | succ m ih =>
    intro h hp
    by_cases e : n = m + 1
    · subst e; rfl
    · rw [List.range_succ, List.countP_append, ih (by omega) hp]
      simp [hp m (by omega)]
theorem idsOf_pop {r : List Rcd} {S : Nat} (hr : r.length ≤ 12) (hS : S < 2 ^ r.length) : (idsOf r S).length = popN S := by
  unfold idsOf popN
  rw [List.length_map, ← List.countP_eq_length_filter]
  refine (range_split r.length (fun i => S.testBit i) 12 hr fun i hi => ?_).symm
  exact Nat.testBit_lt_two_pow (Nat.lt_of_lt_of_le hS (Nat.pow_le_pow_right (by omega) hi))
end Go.Proofs.Ytmdhgkfjlphliaa
/-
  LISTS THAT COME BEFORE: the program's order of sets is the reference's order of lists.
-/
namespace Go.Proofs.Ytmdhgkfjlphliaa
open Go Go.Am
set_option maxRecDepth 100000
set_option maxHeartbeats 4000000
def lexV : List Int → List Int → Bool
  | x :: a, y :: b => if x = y then lexV a b else decide (x < y)
  | _, _ => false
def aheadV (a b : List Int) : Bool := if a.length = b.length then lexV a b else decide (a.length < b.length)
theorem lexV_self : ∀ a : List Int, lexV a a = false := by
  intro a
  induction a with
  | nil => rfl
  | cons x a ih => unfold lexV; rw [if_pos rfl]; exact ih
theorem lexV_pre (x y : List Int) : ∀ p : List Int, lexV (p ++ x) (p ++ y) = lexV x y := by
  intro p
  induction p with
  | nil => rfl
  | cons a p ih =>
    have e : lexV (a :: (p ++ x)) (a :: (p ++ y)) = lexV (p ++ x) (p ++ y) := if_pos rfl
    exact e.trans ih
theorem lexV_trans : ∀ {a b c : List Int}, lexV a b = true → lexV b c = true → lexV a c = true := by
  intro a
  induction a with
  | nil => intro b c h; cases b <;> cases h
  | cons x a ih =>
    intro b c h1 h2
    cases b with
    | nil => cases h1
    | cons y b =>
      cases c with
      | nil => cases h2
      | cons z c =>
        unfold lexV at h1 h2 ⊢
        by_cases e1 : x = y
        · rw [if_pos e1] at h1
          by_cases e2 : y = z
          · rw [if_pos e2] at h2
            rw [if_pos (e1.trans e2)]; exact ih h1 h2
          · rw [if_neg e2] at h2
            have := of_decide_eq_true h2
            rw [if_neg (by omega)]; exact decide_eq_true (by omega)
        · rw [if_neg e1] at h1
          have h3 := of_decide_eq_true h1
          by_cases e2 : y = z
          · rw [if_neg (by omega)]; exact decide_eq_true (by omega)
          · rw [if_neg e2] at h2
            have h4 := of_decide_eq_true h2
            rw [if_neg (by omega)]; exact decide_eq_true (by omega)
theorem lexV_tot : ∀ {a b : List Int}, a.length = b.length → lexV a b = false → lexV b a = false → a = b := by
  intro a
  induction a with
  | nil => intro b h _ _; exact (List.eq_nil_of_length_eq_zero h.symm).symm
  | cons x a ih =>
    intro b h h1 h2
    cases b with
    | nil => cases h
    | cons y b =>
      unfold lexV at h1 h2
      by_cases e : x = y
      · subst e
        rw [if_pos rfl] at h1 h2
        rw [ih (by simpa using h) h1 h2]
      · rw [if_neg e] at h1
        rw [if_neg (Ne.symm e)] at h2
        have := of_decide_eq_false h1
        have := of_decide_eq_false h2
        omega
theorem aheadV_self (a : List Int) : aheadV a a = false := by unfold aheadV; rw [if_pos rfl]; exact lexV_self a
theorem aheadV_trans {a b c : List Int} (h1 : aheadV a b = true) (h2 : aheadV b c = true) : aheadV a c = true := by
  unfold aheadV at *
  by_cases e1 : a.length = b.length
  · rw [if_pos e1] at h1
    by_cases e2 : b.length = c.length
    · rw [if_pos e2] at h2
      rw [if_pos (e1.trans e2)]; exact lexV_trans h1 h2
    · rw [if_neg e2] at h2
      rw [if_neg (by omega), e1]; exact h2
  · rw [if_neg e1] at h1
    have h3 := of_decide_eq_true h1
    by_cases e2 : b.length = c.length
    · rw [if_neg (by omega)]; exact decide_eq_true (by omega)
    · rw [if_neg e2] at h2
      have h4 := of_decide_eq_true h2
      rw [if_neg (by omega)]; exact decide_eq_true (by omega)
theorem aheadV_tot {a b : List Int} (h1 : aheadV a b = false) (h2 : aheadV b a = false) : a = b := by
  unfold aheadV at *
  by_cases e : a.length = b.length
  · rw [if_pos e] at h1
    rw [if_pos e.symm] at h2
    exact lexV_tot e h1 h2
  · rw [if_neg e] at h1
    rw [if_neg (Ne.symm e)] at h2
    have := of_decide_eq_false h1
    have := of_decide_eq_false h2
    omega
/-! ### the lowest bit -/
def lowN (x : Nat) : Nat := ((List.range 12).find? fun i => x.testBit i).getD 0
theorem neg_all : ((List.range 4096).all fun x => ((BitVec.ofInt 64 (IntKind.i64.wrap (0 - (x : Int)))).toNat &&& 4095) == ((4096 - x) &&& 4095)) = true := by kernel_rfl
theorem low_all : ((List.range 4096).all fun x => x == 0 || (x &&& ((4096 - x) &&& 4095)) == 2 ^ lowN x) = true := by kernel_rfl
theorem low_facts {x : Nat} (h : x < 4096) (h0 : x ≠ 0) : x.testBit (lowN x) = true ∧ (∀ i, i < lowN x → x.testBit i = false) ∧ lowN x < 12 := by
  have hex : ∃ i, i < 12 ∧ x.testBit i = true := by
    refine Classical.byContradiction fun hn => h0 (Nat.eq_of_testBit_eq fun i => ?_)
    rw [Nat.zero_testBit]
    by_cases hi : i < 12
    · cases hb : x.testBit i
      · rfl
      · exact absurd ⟨i, hi, hb⟩ hn
    · exact Nat.testBit_lt_two_pow (Nat.lt_of_lt_of_le h (Nat.pow_le_pow_right (n := 2) (by omega) (show 12 ≤ i by omega)))
  unfold lowN
  cases hf : (List.range 12).find? fun i => x.testBit i with
  | none =>
    obtain ⟨i, hi, hb⟩ := hex
    have := List.find?_eq_none.1 hf i (List.mem_range.2 hi)
    rw [hb] at this; exact absurd rfl this
  | some m =>
    have h1 := List.find?_some hf
    have h2 := List.mem_range.1 (List.mem_of_find?_eq_some hf)
    refine ⟨h1, fun i hi => ?_, h2⟩
    replace hi : i < m := hi
    obtain ⟨_, l1, l2, e, h3⟩ := List.find?_eq_some_iff_append.1 hf
    have hmem : i ∈ l1 := by
      have hlen : l1.length = m := by
        have h4 : (List.range 12)[l1.length]? = some m := by rw [e, List.getElem?_append_right (Nat.le_refl _)]; simp
        have h5 := (List.getElem?_eq_some_iff.1 h4)
        obtain ⟨h6, h7⟩ := h5
        rw [List.getElem_range] at h7; exact h7
      have h4 : (List.range 12)[i]? = some i := List.getElem?_range (by omega)
      rw [e, List.getElem?_append_left (by rw [hlen]; exact hi)] at h4
      exact List.mem_of_getElem? h4
    have := h3 i hmem
    simpa using this
theorem and_4095 {c : Nat} (h : c < 4096) : c &&& 4095 = c := by
  have := Nat.and_two_pow_sub_one_eq_mod c 12
  rw [show (2 : Nat) ^ 12 - 1 = 4095 by decide] at this
  rw [this]; exact Nat.mod_eq_of_lt h
theorem xor_0 {a b : Nat} (e : a ^^^ b = 0) : a = b := Nat.eq_of_testBit_eq fun i => by
  have h := congrArg (fun x => x.testBit i) e
  simp only [Nat.testBit_xor, Nat.zero_testBit] at h
  cases h1 : a.testBit i <;> cases h2 : b.testBit i <;> simp_all
theorem firB_low {a b : Nat} (ha : a < 4096) (hb : b < 4096) : firB a b = if a = b then false else a.testBit (lowN (a ^^^ b)) := by
  have hx := xorN_lt ha hb
  have hc : a &&& (a ^^^ b) < 4096 := Nat.lt_of_le_of_lt Nat.and_le_left ha
  have e1 := beq_iff_eq.1 (List.all_eq_true.1 neg_all _ (List.mem_range.2 hx))
  have e2 : (BitVec.ofInt IntKind.i64.bits ((a &&& (a ^^^ b) : Nat) : Int) &&& BitVec.ofInt IntKind.i64.bits (IntKind.i64.wrap (0 - ((a ^^^ b : Nat) : Int)))).toNat = (a &&& (a ^^^ b)) &&& ((4096 - (a ^^^ b)) &&& 4095) := by
    show (BitVec.ofInt 64 ((a &&& (a ^^^ b) : Nat) : Int) &&& BitVec.ofInt 64 (IntKind.i64.wrap (0 - ((a ^^^ b : Nat) : Int)))).toNat = _
    rw [BitVec.toNat_and, BitVec.ofInt_natCast, BitVec.toNat_ofNat, Nat.mod_eq_of_lt (by omega), ← e1]
    conv => lhs; rw [← and_4095 hc]
    rw [Nat.and_assoc, Nat.and_comm 4095]
  unfold firB
  rw [e2]
  by_cases h : a = b
  · subst h
    rw [if_pos rfl, Nat.xor_self]
    simp [wrap64]
  · rw [if_neg h]
    have h0 : a ^^^ b ≠ 0 := fun e => h (xor_0 e)
    have e3 := List.all_eq_true.1 low_all _ (List.mem_range.2 hx)
    rw [Bool.or_eq_true, beq_iff_eq, beq_iff_eq] at e3
    have e3 := e3.resolve_left h0
    rw [Nat.and_assoc, e3]
    have hl := (low_facts hx h0).2.2
    rw [and_two]
    cases a.testBit (lowN (a ^^^ b))
    · rfl
    · have h2 : 2 ^ lowN (a ^^^ b) ≤ 2 ^ 12 := Nat.pow_le_pow_right (by omega) (by omega)
      have h3 := Nat.two_pow_pos (lowN (a ^^^ b))
      have e4 : IntKind.i64.wrap ((if true = true then 2 ^ lowN (a ^^^ b) else 0 : Nat) : Int) = ((2 ^ lowN (a ^^^ b) : Nat) : Int) := by
        rw [if_pos rfl, wrap64 (by omega) (by omega)]
      rw [e4]
      exact bne_iff_ne.2 (by omega)
/-! ### the lists of two sets -/
def idsT (r : List Rcd) (S m : Nat) : List Int := ((List.range' m (r.length - m)).filter fun i => S.testBit i).map (idA r)
theorem idsOf_split (r : List Rcd) (S : Nat) {m : Nat} (hm : m ≤ r.length) : idsOf r S = idsK r S m ++ idsT r S m := by
  unfold idsOf idsK idsT
  rw [← List.map_append, ← List.filter_append]
  congr 2
  rw [List.range_eq_range', List.range_eq_range']
  have h := List.range'_append_1 (s := 0) (m := m) (n := r.length - m)
  rw [Nat.zero_add, show m + (r.length - m) = r.length by omega] at h
  exact h.symm
theorem idsT_succ (r : List Rcd) (S : Nat) {m : Nat} (hm : m < r.length) : idsT r S m = if S.testBit m then idA r m :: idsT r S (m + 1) else idsT r S (m + 1) := by
  unfold idsT
  rw [show r.length - m = (r.length - (m + 1)) + 1 by omega, List.range'_succ]
  cases h : S.testBit m
  · rw [List.filter_cons_of_neg (by rw [h]; decide)]; rfl
  · rw [List.filter_cons_of_pos h]; rfl
theorem idsK_congr (r : List Rcd) {S T : Nat} : ∀ m, (∀ i, i < m → S.testBit i = T.testBit i) → idsK r S m = idsK r T m := by
  intro m
  induction m with
  | zero => intro _; rfl
  | succ m ih => intro h; rw [idsK_succ, idsK_succ, ih fun i hi => h i (by omega), h m (by omega)]
theorem idsT_gt {r : List Rcd} (hs : ∀ i j, i < j → j < r.length → idA r i < idA r j) {S m : Nat} {y : Int} (hy : y ∈ idsT r S (m + 1)) : idA r m < y := by
  unfold idsT at hy
  obtain ⟨i, hi, e⟩ := List.mem_map.1 hy
  have h1 := List.mem_range'_1.1 (List.mem_filter.1 hi).1
  rw [← e]; exact hs m i (by omega) (by omega)
theorem idA_lt {r : List Rcd} (hr : recsB r = true) : ∀ i j, i < j → j < r.length → idA r i < idA r j := fun i j hij hj => by
  simp only [recsB, Bool.and_eq_true] at hr
  have h := List.pairwise_iff_getElem.1 (incF_sorted hr.1.2)
  have hl : (idsR r).length = r.length := by unfold idsR; rw [List.length_map]
  have h1 := h i j (by omega) (by omega) hij
  have a1 : (idsR r)[i]? = some (idA r i) := by
    have hx := List.getElem?_eq_getElem (show i < r.length by omega)
    rw [idA_get hx]; exact idsR_get hx
  have a2 : (idsR r)[j]? = some (idA r j) := by
    have hx := List.getElem?_eq_getElem hj
    rw [idA_get hx]; exact idsR_get hx
  rw [List.getElem?_eq_getElem (by omega)] at a1 a2
  rw [Option.some.inj a1, Option.some.inj a2] at h1
  exact h1
theorem ahead_bef {r : List Rcd} (hr : recsB r = true) {S T : Nat} (hS : S < 2 ^ r.length) (hT : T < 2 ^ r.length) : aheadV (idsOf r S) (idsOf r T) = befB S T := by
  have hn := (recs_nodup hr).2.2
  have hs := idA_lt hr
  have lS := idsOf_pop hn hS
  have lT := idsOf_pop hn hT
  have h12 : (2 : Nat) ^ r.length ≤ 4096 := Nat.pow_le_pow_right (n := 2) (by omega) hn
  unfold aheadV befB
  rw [lS, lT]
  by_cases hp : popN S = popN T
  · rw [if_pos hp, if_neg (fun h => h hp), firB_low (by omega) (by omega)]
    by_cases e : S = T
    · subst e; rw [if_pos rfl]; exact lexV_self _
    · rw [if_neg e]
      have h0 : S ^^^ T ≠ 0 := fun h => e (xor_0 h)
      obtain ⟨q1, q2, q3⟩ := low_facts (xorN_lt (a := S) (b := T) (by omega) (by omega)) h0
      generalize lowN (S ^^^ T) = m at *
      have hm : m < r.length := by
        rcases Nat.lt_or_ge m r.length with h | h
        · exact h
        · have b1 := Nat.testBit_lt_two_pow (Nat.lt_of_lt_of_le hS (Nat.pow_le_pow_right (n := 2) (by omega) h))
          have b2 := Nat.testBit_lt_two_pow (Nat.lt_of_lt_of_le hT (Nat.pow_le_pow_right (n := 2) (by omega) h))
          rw [Nat.testBit_xor, b1, b2] at q1; cases q1
      have hpre : ∀ i, i < m → S.testBit i = T.testBit i := fun i hi => by
        have := q2 i hi
        rw [Nat.testBit_xor] at this
        cases h1 : S.testBit i <;> cases h2 : T.testBit i <;> simp_all
      rw [idsOf_split r S (Nat.le_of_lt hm), idsOf_split r T (Nat.le_of_lt hm)] at *
      rw [idsK_congr r m hpre, lexV_pre]
      rw [idsK_congr r m hpre] at lS
      rw [List.length_append] at lS lT
      have hlen : (idsT r S m).length = (idsT r T m).length := by omega
      rw [idsT_succ r S hm, idsT_succ r T hm] at *
      rw [Nat.testBit_xor] at q1
      cases h1 : S.testBit m
      · rw [h1] at hlen q1
        have h2 : T.testBit m = true := by cases h : T.testBit m; (rw [h] at q1; cases q1); rfl
        rw [h2] at hlen ⊢
        simp only [Bool.false_eq_true, if_false, if_true] at hlen ⊢
        cases hq : idsT r S (m + 1) with
        | nil => rw [hq] at hlen; cases hlen
        | cons x l =>
          have hx := idsT_gt hs (S := S) (m := m) (y := x) (by rw [hq]; exact List.mem_cons_self)
          show (if x = idA r m then _ else decide (x < idA r m)) = false
          rw [if_neg (by omega)]; exact decide_eq_false (by omega)
      · rw [h1] at hlen q1
        have h2 : T.testBit m = false := by cases h : T.testBit m; rfl; (rw [h] at q1; cases q1)
        rw [h2] at hlen ⊢
        simp only [Bool.false_eq_true, if_false, if_true] at hlen ⊢
        cases hq : idsT r T (m + 1) with
        | nil => rw [hq] at hlen; cases hlen
        | cons x l =>
          have hx := idsT_gt hs (S := T) (m := m) (y := x) (by rw [hq]; exact List.mem_cons_self)
          show (if idA r m = x then _ else decide (idA r m < x)) = true
          rw [if_neg (by omega)]; exact decide_eq_true (by omega)
  · rw [if_neg hp, if_pos hp]
theorem idsOf_inj {r : List Rcd} (hr : recsB r = true) {S T : Nat} (hS : S < 2 ^ r.length) (hT : T < 2 ^ r.length) (e : idsOf r S = idsOf r T) : S = T := by
  have hn := (recs_nodup hr).1
  refine Nat.eq_of_testBit_eq fun i => ?_
  by_cases hi : i < r.length
  · have hx := List.getElem?_eq_getElem hi
    rw [← ids_bit hn hx S, ← ids_bit hn hx T, e]
  · rw [Nat.testBit_lt_two_pow (Nat.lt_of_lt_of_le hS (Nat.pow_le_pow_right (n := 2) (by omega) (by omega))), Nat.testBit_lt_two_pow (Nat.lt_of_lt_of_le hT (Nat.pow_le_pow_right (n := 2) (by omega) (by omega)))]
/-! ### the fewest, in order -/
def subN (a b : Nat) : Prop := ∀ i, a.testBit i = true → b.testBit i = true
theorem few_min {r : List Rcd} (hr : recsB r = true) {of : Nat} {p : Nat → Bool} (ho : of < 2 ^ r.length) (hof : p of = true) : ∀ k, k ≤ of → (fewK of p k < 2 ^ r.length ∧ subN (fewK of p k) of ∧ p (fewK of p k) = true) ∧ aheadV (idsOf r of) (idsOf r (fewK of p k)) = false ∧ ∀ j, j < k → subN j of → p j = true → aheadV (idsOf r j) (idsOf r (fewK of p k)) = false := by
  intro k
  induction k with
  | zero => intro _; exact ⟨⟨ho, fun _ h => h, hof⟩, aheadV_self _, fun j hj => by omega⟩
  | succ k ih =>
    intro hk
    obtain ⟨⟨h1, h2, h3⟩, h4, h5⟩ := ih (by omega)
    have hkl : k < 2 ^ r.length := by omega
    show (_ ∧ _ ∧ _) ∧ _ ∧ _
    unfold fewK
    cases hc : fewB of p (fewK of p k) k
    · simp only [Bool.false_eq_true, if_false]
      refine ⟨⟨h1, h2, h3⟩, h4, fun j hj hs hp => ?_⟩
      by_cases e : j = k
      · subst e
        unfold fewB at hc
        rw [lessN_0.2 hs, hp, ← ahead_bef hr hkl h1] at hc
        simpa using hc
      · exact h5 j (by omega) hs hp
    · simp only [if_true]
      unfold fewB at hc
      simp only [Bool.and_eq_true] at hc
      have hb : aheadV (idsOf r k) (idsOf r (fewK of p k)) = true := by rw [ahead_bef hr hkl h1]; exact hc.2.1
      have no : ∀ j, aheadV (idsOf r j) (idsOf r (fewK of p k)) = false → aheadV (idsOf r j) (idsOf r k) = false := fun j hj => by
        cases h : aheadV (idsOf r j) (idsOf r k)
        · rfl
        · rw [aheadV_trans h hb] at hj; cases hj
      refine ⟨⟨hkl, lessN_0.1 (by have := beq_iff_eq.1 hc.1; omega), hc.2.2⟩, no of h4, fun j hj hs hp => ?_⟩
      by_cases e : j = k
      · subst e; exact aheadV_self _
      · exact no j (h5 j (by omega) hs hp)
theorem few_is {r : List Rcd} (hr : recsB r = true) {of : Nat} {p : Nat → Bool} (ho : of < 2 ^ r.length) (hof : p of = true) : (fewV of p < 2 ^ r.length ∧ subN (fewV of p) of ∧ p (fewV of p) = true) ∧ ∀ j, subN j of → p j = true → aheadV (idsOf r j) (idsOf r (fewV of p)) = false := by
  obtain ⟨h1, h2, h3⟩ := few_min hr ho hof of (Nat.le_refl _)
  refine ⟨h1, fun j hs hp => ?_⟩
  by_cases e : j = of
  · subst e; exact h2
  · exact h3 j (by have := sub_le hs; omega) hs hp
/-- The best so far. -/
def besK (r : List Rcd) (v : Nat → Bool) : Nat → List Int
  | 0 => []
  | k + 1 => if v k && (decide ((besK r v k).length = 0) || aheadV (idsOf r k) (besK r v k)) then idsOf r k else besK r v k
theorem bes_min (r : List Rcd) (v : Nat → Bool) (hne : ∀ j, v j = true → idsOf r j ≠ []) : ∀ k, (besK r v k = [] ∧ ∀ j, j < k → v j = false) ∨ ∃ c, c < k ∧ v c = true ∧ besK r v k = idsOf r c ∧ ∀ j, j < k → v j = true → aheadV (idsOf r j) (idsOf r c) = false := by
  intro k
  induction k with
  | zero => exact .inl ⟨rfl, fun j hj => by omega⟩
  | succ k ih =>
    have e : besK r v (k + 1) = if v k && (decide ((besK r v k).length = 0) || aheadV (idsOf r k) (besK r v k)) then idsOf r k else besK r v k := rfl
    rw [e]
    rcases ih with ⟨h1, h2⟩ | ⟨c, hc, h1, h2, h3⟩
    · rw [h1]
      cases hv : v k
      · refine .inl ⟨rfl, fun j hj => ?_⟩
        by_cases e : j = k
        · subst e; exact hv
        · exact h2 j (by omega)
      · refine .inr ⟨k, by omega, hv, rfl, fun j hj hvj => ?_⟩
        by_cases e : j = k
        · subst e; exact aheadV_self _
        · rw [h2 j (by omega)] at hvj; cases hvj
    · rw [h2]
      have hl : ¬ (idsOf r c).length = 0 := fun h => hne c h1 (List.eq_nil_of_length_eq_zero h)
      rw [decide_eq_false hl, Bool.false_or]
      cases hv : v k
      · refine .inr ⟨c, by omega, h1, rfl, fun j hj hvj => ?_⟩
        by_cases e : j = k
        · subst e; rw [hv] at hvj; cases hvj
        · exact h3 j (by omega) hvj
      · cases ha : aheadV (idsOf r k) (idsOf r c)
        · refine .inr ⟨c, by omega, h1, rfl, fun j hj hvj => ?_⟩
          by_cases e : j = k
          · subst e; exact ha
          · exact h3 j (by omega) hvj
        · refine .inr ⟨k, by omega, hv, rfl, fun j hj hvj => ?_⟩
          by_cases e : j = k
          · subst e; exact aheadV_self _
          · cases h : aheadV (idsOf r j) (idsOf r k)
            · rfl
            · have := h3 j (by omega) hvj
              rw [aheadV_trans h ha] at this; cases this
/-- The reference's best is the program's fewest. -/
theorem bes_few {r : List Rcd} (hr : recsB r = true) {of : Nat} {p v : Nat → Bool} (ho : of < 2 ^ r.length) (hof : p of = true) (hv : ∀ j, j < 2 ^ r.length → (v j = true ↔ subN j of ∧ p j = true)) (hne : ∀ j, v j = true → idsOf r j ≠ []) : besK r v (2 ^ r.length) = idsOf r (fewV of p) := by
  obtain ⟨⟨h1, h2, h3⟩, h4⟩ := few_is hr ho hof
  have hvb := (hv _ h1).2 ⟨h2, h3⟩
  rcases bes_min r v hne (2 ^ r.length) with ⟨_, h5⟩ | ⟨c, hc, h5, h6, h7⟩
  · rw [h5 _ h1] at hvb; cases hvb
  · rw [h6]
    have q1 := h7 _ h1 hvb
    obtain ⟨q2, q3⟩ := (hv c hc).1 h5
    exact aheadV_tot (h4 c q2 q3) q1
end Go.Proofs.Ytmdhgkfjlphliaa
