/-
  THE LAW OF CAUSES.
-/
import Derived.Test.YtepbiedolkghhaaGreatL1
import Derived.Test.YtepbiedolkghhaaGreatG4
import Derived.Test.YtepbiedolkghhaaGreatR7
import Derived.Test.YtepbiedolkghhaaGreatT5
namespace Go.Proofs.YtepbiedolkghhaaGreat
open Go Go.Am
set_option maxRecDepth 100000
set_option maxHeartbeats 8000000
theorem lessN_0 {a b : Nat} : lessN a b = 0 ↔ ∀ i, a.testBit i = true → b.testBit i = true := by
  constructor
  · intro h i hi
    have h1 := lessN_bit a b i
    rw [h, Nat.zero_testBit, hi, Bool.true_and] at h1
    cases hb : b.testBit i
    · rw [hb] at h1; cases h1
    · rfl
  · intro h
    refine Nat.eq_of_testBit_eq fun i => ?_
    rw [lessN_bit, Nat.zero_testBit]
    cases ha : a.testBit i
    · rfl
    · rw [h i ha]; rfl
theorem sub_le {a b : Nat} (h : ∀ i, a.testBit i = true → b.testBit i = true) : a ≤ b := by
  have e : a = a &&& b := by
    refine Nat.eq_of_testBit_eq fun i => ?_
    rw [Nat.testBit_and]
    cases ha : a.testBit i
    · rfl
    · rw [h i ha]; rfl
  rw [e]; exact Nat.and_le_right
theorem popN_mono {a b : Nat} (h : ∀ i, a.testBit i = true → b.testBit i = true) : popN a ≤ popN b := List.countP_mono_left fun i _ hi => h i hi
theorem befB_pop {a b : Nat} : (befB a b = true → popN a ≤ popN b) ∧ (befB a b = false → popN b ≤ popN a) := by
  unfold befB
  by_cases h : popN a ≠ popN b
  · rw [if_pos h]
    constructor
    · intro h2; have := of_decide_eq_true h2; omega
    · intro h2; have := of_decide_eq_false h2; omega
  · rw [if_neg h]
    have : popN a = popN b := Decidable.not_not.1 h
    constructor <;> intro _ <;> omega
theorem fewK_facts {of : Nat} {p : Nat → Bool} (hof : p of = true) : ∀ k, (∀ i, (fewK of p k).testBit i = true → of.testBit i = true) ∧ p (fewK of p k) = true ∧ popN (fewK of p k) ≤ popN of ∧ ∀ j, j < k → (∀ i, j.testBit i = true → of.testBit i = true) → p j = true → popN (fewK of p k) ≤ popN j := by
  intro k
  induction k with
  | zero => exact ⟨fun i h => h, hof, Nat.le_refl _, fun j hj => absurd hj (Nat.not_lt_zero j)⟩
  | succ k ih =>
    obtain ⟨h1, h2, h3, h4⟩ := ih
    unfold fewK
    cases c : fewB of p (fewK of p k) k
    · rw [if_neg (by decide)]
      refine ⟨h1, h2, h3, fun j hj hs hp => ?_⟩
      by_cases hjk : j < k
      · exact h4 j hjk hs hp
      · have e : j = k := by omega
        subst e
        unfold fewB at c
        rw [lessN_0.2 hs, hp] at c
        cases hb : befB j (fewK of p j)
        · exact befB_pop.2 hb
        · rw [hb] at c; cases c
    · rw [if_pos rfl]
      unfold fewB at c
      rw [Bool.and_eq_true, Bool.and_eq_true] at c
      obtain ⟨c1, c2, c3⟩ := c
      have c1' : lessN k of = 0 := by have := eq_of_beq c1; omega
      have hb := befB_pop.1 c2
      refine ⟨lessN_0.1 c1', c3, by omega, fun j hj hs hp => ?_⟩
      by_cases hjk : j < k
      · have := h4 j hjk hs hp; omega
      · have e : j = k := by omega
        subst e
        exact Nat.le_refl _
theorem fewV_facts {of : Nat} {p : Nat → Bool} (hof : p of = true) : (∀ i, (fewV of p).testBit i = true → of.testBit i = true) ∧ p (fewV of p) = true ∧ ∀ j, (∀ i, j.testBit i = true → of.testBit i = true) → p j = true → popN (fewV of p) ≤ popN j := by
  obtain ⟨h1, h2, h3, h4⟩ := fewK_facts hof of
  refine ⟨h1, h2, fun j hs hp => ?_⟩
  have hl := sub_le hs
  by_cases e : j = of
  · subst e; exact h3
  · exact h4 j (by omega) hs hp
theorem id_inj {r : List Rcd} (hn : (idsR r).Nodup) {i k : Nat} {x : Rcd} (hx : r[k]? = some x) (hi : i < r.length) (e : idA r i = x.id) : i = k := by
  have hy : r[i]? = some r[i] := List.getElem?_eq_getElem hi
  rw [idA_get hy] at e
  refine (List.getElem?_inj (by unfold idsR; rw [List.length_map]; exact hi) hn).1 ?_
  rw [idsR_get hy, idsR_get hx, e]
theorem mem_bit {r : List Rcd} (hn : (idsR r).Nodup) {k : Nat} {x : Rcd} (hx : r[k]? = some x) (S : Nat) : memB r S x.id = S.testBit k := by
  have hk := (List.getElem?_eq_some_iff.1 hx).1
  have hb : ∀ i, (S &&& sV r x.id r.length).testBit i = (S.testBit i && decide (i = k)) := by
    intro i
    unfold sV
    rw [Nat.testBit_and, setN_bit]
    congr 1
    unfold isA
    by_cases e : i = k
    · subst e; rw [decide_eq_true hk, idA_get hx]; simp
    · rw [decide_eq_false e]
      by_cases hi : i < r.length
      · rw [decide_eq_false (fun h => e (id_inj hn hx hi h)), Bool.and_false]
      · rw [decide_eq_false hi, Bool.false_and]
  unfold memB
  cases h : S.testBit k
  · have e0 : S &&& sV r x.id r.length = 0 := by
      refine Nat.eq_of_testBit_eq fun i => ?_
      rw [hb, Nat.zero_testBit]
      by_cases e : i = k
      · subst e; rw [h]; rfl
      · rw [decide_eq_false e, Bool.and_false]
    rw [e0]; rfl
  · have h1 := hb k
    rw [h, decide_eq_true rfl] at h1
    refine bne_iff_ne.2 fun h2 => ?_
    have h3 : S &&& sV r x.id r.length = 0 := by omega
    rw [h3, Nat.zero_testBit] at h1
    cases h1
theorem ids_bit {r : List Rcd} (hn : (idsR r).Nodup) {k : Nat} {x : Rcd} (hx : r[k]? = some x) (S : Nat) : (idsOf r S).contains x.id = S.testBit k := by
  have hk := (List.getElem?_eq_some_iff.1 hx).1
  rw [Bool.eq_iff_iff, List.contains_iff_mem]
  unfold idsOf
  rw [List.mem_map]
  constructor
  · rintro ⟨i, hi, e⟩
    rw [List.mem_filter, List.mem_range] at hi
    have e2 := id_inj hn hx hi.1 e
    subst e2
    exact hi.2
  · intro h
    exact ⟨k, by rw [List.mem_filter, List.mem_range]; exact ⟨hk, h⟩, idA_get hx⟩
theorem stands_on {so so' : Int → Bool} {ws : List (List Int)} (h : ∀ w ∈ ws, ∀ v ∈ w, so v = true → so' v = true) (hs : standsB so ws = true) : standsB so' ws = true := by
  unfold standsB at *
  rw [Bool.or_eq_true] at *
  rcases hs with hs | hs
  · exact .inl hs
  · refine .inr ?_
    obtain ⟨w, hw, ha⟩ := List.any_eq_true.1 hs
    exact List.any_eq_true.2 ⟨w, hw, List.all_eq_true.2 fun v hv => h w hw v hv (List.all_eq_true.1 ha v hv)⟩
theorem whole_held {r : List Rcd} (hr : recsB r = true) {S : Nat} (hw : wholeV r S = true) : ∀ k x, r[k]? = some x → (heldV (fun i => !(idsOf r S).contains i) [] r).contains x.id = S.testBit k := by
  have hn := (recs_nodup hr).1
  intro k
  induction k using Nat.strongRecOn with
  | _ k ih =>
    intro x hx
    have hxm := List.mem_of_getElem? hx
    have hi : x.id ∈ heldV (fun i => !(idsOf r S).contains i) [] r ↔ (!(idsOf r S).contains x.id) = false ∧ standsB (fun i => (heldV (fun i => !(idsOf r S).contains i) [] r).contains i) x.ways = true := held_iff hr _ hxm
    rw [ids_bit hn hx] at hi
    rw [Bool.eq_iff_iff, List.contains_iff_mem, hi]
    constructor
    · rintro ⟨h, _⟩; simpa using h
    · intro h
      refine ⟨by rw [h]; rfl, ?_⟩
      unfold wholeV at hw
      have h2 := allI_iff.1 hw k x hx
      unfold wholeI at h2
      rw [h, Bool.not_true, Bool.false_or] at h2
      refine stands_on (fun w hw v hv hs => ?_) h2
      obtain ⟨j, y, hj, hy, e, _⟩ := ref_at hr hx hw hv
      subst e
      rw [mem_bit hn hy] at hs
      rw [ih j hj y hy, hs]
theorem held_whole {r : List Rcd} (hr : recsB r = true) (g : Int → Bool) : wholeV r (setK g r r.length) = true := by
  have hn := (recs_nodup hr).1
  have hb : ∀ {k : Nat} {x : Rcd}, r[k]? = some x → (setK g r r.length).testBit k = (heldV g [] r).contains x.id := fun {k x} hx => by
    unfold setK
    rw [setN_bit, decide_eq_true (List.getElem?_eq_some_iff.1 hx).1, idA_get hx]; rfl
  unfold wholeV
  refine allI_iff.2 fun k x hx => ?_
  unfold wholeI
  rw [hb hx]
  cases h : (heldV g [] r).contains x.id
  · rfl
  · rw [Bool.not_true, Bool.false_or]
    have h2 := ((held_iff hr g (List.mem_of_getElem? hx)).1 (List.contains_iff_mem.1 h)).2
    refine stands_on (fun w hw v hv hs => ?_) h2
    obtain ⟨j, y, hj, hy, e, _⟩ := ref_at hr hx hw hv
    subst e
    rw [mem_bit hn hy, hb hy]; exact hs
theorem setK_bit (g : Int → Bool) {r : List Rcd} {k : Nat} {x : Rcd} (hx : r[k]? = some x) : (setK g r r.length).testBit k = (heldV g [] r).contains x.id := by
  unfold setK
  rw [setN_bit, decide_eq_true (List.getElem?_eq_some_iff.1 hx).1, idA_get hx]; rfl
theorem range_split (n : Nat) (p : Nat → Bool) : ∀ m, n ≤ m → (∀ i, n ≤ i → p i = false) → (List.range m).countP p = (List.range n).countP p := by
  intro m
  induction m with
  | zero => intro h _; have : n = 0 := by omega
            subst this; rfl
  | succ m ih =>
    intro h hp
    by_cases e : n = m + 1
    · subst e; rfl
    · rw [List.range_succ, List.countP_append, ih (by omega) hp]
      simp [hp m (by omega)]
theorem idsOf_pop {r : List Rcd} {S : Nat} (hr : r.length ≤ 12) (hS : S < 2 ^ r.length) : (idsOf r S).length = popN S := by
  unfold idsOf popN
  rw [List.length_map, ← List.countP_eq_length_filter]
  refine (range_split r.length (fun i => S.testBit i) 12 hr fun i hi => ?_).symm
  exact Nat.testBit_lt_two_pow (Nat.lt_of_lt_of_le hS (Nat.pow_le_pow_right (by omega) hi))
theorem set_nil : APure Tryz.prog 14 [.nil] (.tup [.imap (entsO []), .bool true]) := by
  refine APure.vcM Tryz.func14 .loop rfl rfl ?_
  intro g hn hlo
  replace hn : g.n = 30 := hn
  replace hlo : g.low 0 := hlo
  refine acode_whileW (fun _ : Nat => ⟨[(0, .nil), (4, .mref 0), (8, .nil), (9, .int .i64 0), (10, .int .i64 0)], [(0, .map (entsO []))], 1⟩) (fun _ => True) (fun k => k) 0 trivial ?_ ?_
  · exact Wk.le (St.le.of ⟨by kernel_rfl, rfl, by kernel_rfl, rfl, by kernel_rfl, rfl, by kernel_rfl, rfl, by kernel_rfl, rfl, trivial⟩ ⟨by kernel_rfl, (by decide : (0 : Nat) < 1), rfl, trivial⟩) (hlo.mono (Nat.zero_le _))
  · intro k _
    have hv : thawL (hget [(0, .map (entsO []))]) [.mref 0, .bool true] = some ([.imap (entsO []), .bool true], [0]) := by rfl
    exact ACode.vcM .nil hn hlo (.roundW .cl) ⟨_, .refl _, .nil, [0], by kernel_rfl⟩
theorem thawL_bools {h : Nat → Option AObj} {i n : Nat} {r : List Rcd} {l : List Bool} (hn : n = l.length) (h0 : h i = some (.cells (boL l))) : thawL h [encRs r, .rsl i 0 n 1] = some ([encRs r, encBs l], [i]) := by
  subst hn
  have t1 : thaw 8 h (encRs r) = some (encRs r, []) := by unfold thaw; exact if_pos rfl
  have t2 := thaw_fl 6 (h := h) (id := i) (enc := encBo) (n := 1) (l := l) (fun _ => rfl) (fun _ => rfl) h0
  simp only [thawL, mapO, t1, t2]
  rfl
theorem lookE {h : Nat → Option AObj} {L : List Int} {W : Int → Bool} (hL : ∀ i, L.contains i = W i) (x : Int) : (aLookup Tryz.prog h 36 (.imap (entsO L)) (.int .i64 x) false).map (fun v => (⟨v, []⟩ : Out)) = some ⟨.bool (W x), []⟩ := by rw [lookD, hL]
/-- The bit of a number that a record's place has. -/
def shO (other k : Nat) : Int := (other : Int).fdiv (2 ^ (min ((k : Nat) : Int).toNat IntKind.u16.bits))
theorem cnt_succ {L : List Bool} {k : Nat} {b : Bool} (h : L[k]? = some b) : ((L.take (k + 1)).countP fun b => !b) = ((L.take k).countP fun b => !b) + (bif b then 0 else 1) := by
  rw [List.take_add_one, h, List.countP_append]
  cases b <;> rfl
theorem ids_mem {r : List Rcd} {S : Nat} {i : Int} (h : (idsOf r S).contains i = true) : ∃ (k : Nat) (x : Rcd), r[k]? = some x ∧ x.id = i ∧ S.testBit k = true := by
  have h1 := List.contains_iff_mem.1 h
  unfold idsOf at h1
  obtain ⟨k, hk, e⟩ := List.mem_map.1 h1
  rw [List.mem_filter, List.mem_range] at hk
  have hx : r[k]? = some r[k] := List.getElem?_eq_getElem hk.1
  exact ⟨k, r[k], hx, by rw [← e, idA_get hx], hk.2⟩
/-- A list of what is so, by the Ids. -/
def gL (r : List Rcd) (L : List Bool) (i : Int) : Bool := L.getD (fndV (isId i) r).toNat false
theorem gL_at {r : List Rcd} (hn : (idsR r).Nodup) {L : List Bool} {k : Nat} {x : Rcd} (hx : r[k]? = some x) : gL r L x.id = L.getD k false := by
  have e : fndV (isId x.id) r = (k : Int) := by
    refine fndV_hit hx ?_ (by unfold isId; simp)
    intro z hz
    have h3 := (nodup_at hn (idsR_get hx)).1
    unfold isId
    refine beq_eq_false_iff_ne.2 fun h4 => h3 ?_
    rw [← h4]
    unfold idsR
    rw [← List.map_take]
    exact List.mem_map_of_mem hz
  unfold gL
  rw [e, Int.toNat_natCast]
theorem goB_of {r : List Rcd} (hn : (idsR r).Nodup) {L : List Bool} (hL : L.length = r.length) : goB (gL r L) r = L := by
  refine List.ext_getElem? fun k => ?_
  unfold goB
  rw [List.getElem?_map]
  by_cases hk : k < r.length
  · have hx : r[k]? = some r[k] := List.getElem?_eq_getElem hk
    rw [hx, Option.map_some, gL_at hn hx, List.getD_eq_getElem?_getD, List.getElem?_eq_getElem (by omega)]
    rfl
  · rw [List.getElem?_eq_none (by omega), List.getElem?_eq_none (by omega)]; rfl
theorem srcB (h : Nat → Option AObj) (l : List Bool) : srcCells h 1 (.lst 1 (l.map encBo)) = some (fl encBo l, l.length) := by
  have h1 : (l.map encBo).all (fun y => y.length == 1) = true := by simp [encBo]
  simp only [srcCells]
  rw [if_pos ⟨trivial, h1⟩, fl_flatten, List.length_map]
theorem appB0 {h : Nat → Option AObj} {i nid : Nat} {l : List Bool} (h0 : h i = some (.cells [])) (hn : l.length ≤ 1000) :
    aAppend Tryz.prog h nid 44 44 (.rsl i 0 0 1) (encBs l) = some ⟨.rsl nid 0 l.length 1, [(i, none), (nid, some (.cells (boL l)))]⟩ := by
  unfold aAppend encBs boL
  simp only [h0]
  rw [if_neg (by decide)]
  simp only [aAppend0, ty44, ty4, srcB, h0]
  rw [if_pos ⟨by decide, by decide, rfl⟩]
  rw [if_pos ⟨trivial, rfl, fl_cellB (fun _ => rfl) _, by omega⟩, Nat.zero_add, List.nil_append]
theorem thawL_lets1 {h : Nat → Option AObj} {i n : Nat} {l : List Ltr} (hn : n = l.length) (h0 : h i = some (.cells (lL l))) : thawL h [.rsl i 0 n 4] = some ([encLs l], [i]) := by
  subst hn
  have t2 := thaw_fl 6 (h := h) (id := i) (enc := cLt) (n := 4) (l := l) (fun _ => rfl) (fun _ => rfl) h0
  simp only [thawL, mapO, t2]
  rfl
def bit1 (other k : Nat) : Bool := IntKind.u16.wrap (BitVec.ofInt IntKind.u16.bits (shO other k) &&& BitVec.ofInt IntKind.u16.bits 1).toNat == 1
/-- The letters, with those that restore what is named so far. -/
def adK (r : List Rcd) (l : List Ltr) (d : Int) (B : Int → Bool) : Nat → List Ltr
  | 0 => l
  | k + 1 => if B (idA r k) then adK r l d B k ++ [rLet (nextV (adK r l d B k)) d (idA r k)] else adK r l d B k
theorem adK_succ {r : List Rcd} {l : List Ltr} {d : Int} {B : Int → Bool} {k : Nat} {x : Rcd} (hx : r[k]? = some x) : adK r l d B (k + 1) = if B x.id then adK r l d B k ++ [rLet (nextV (adK r l d B k)) d x.id] else adK r l d B k := by
  rw [adK, idA_get hx]
/-- What is done so far, and what was there. -/
def fK (gs Ls : List Bool) (k : Nat) : List Bool := Ls.take k ++ gs.drop k
theorem fK_set {gs Ls : List Bool} (hl : gs.length = Ls.length) {k : Nat} {b : Bool} (hb : Ls[k]? = some b) : (fK gs Ls k).set k b = fK gs Ls (k + 1) := by
  have hk := (List.getElem?_eq_some_iff.1 hb).1
  unfold fK
  refine Exists.elim (getE (show k < gs.length by omega)) fun y hy => ?_
  rw [List.set_append_right _ _ (by rw [List.length_take]; omega), List.length_take, Nat.min_eq_left (by omega), Nat.sub_self, List.take_add_one, hb, drop_cons hy]
  simp
theorem fK_same {gs Ls : List Bool} {k : Nat} {b : Bool} (hb : Ls[k]? = some b) (hg : gs[k]? = some b) : fK gs Ls k = fK gs Ls (k + 1) := by
  unfold fK
  rw [drop_cons hg, List.take_add_one, hb]
  simp
theorem fK_len {gs Ls : List Bool} (hl : gs.length = Ls.length) {k : Nat} (hk : k ≤ gs.length) : (fK gs Ls k).length = gs.length := by
  unfold fK; rw [List.length_append, List.length_take, List.length_drop]; omega
/-- What the law asks of what is told. -/
structure CaF (r : List Rcd) (l : List Ltr) (d : Int) (m other : Nat) (T : List Int) (B : Int → Bool) (gs Ls Cs Hs : List Bool) : Prop where
  t : ∀ i, T.contains i = B i
  gl : gs.length = r.length
  ls : gs.length = Ls.length
  g : ∀ (k : Nat) (x : Rcd), r[k]? = some x → ∃ b, gs[k]? = some b ∧ (B x.id = true → b = true) ∧ Ls[k]? = some (b && !bit1 other k) ∧ Cs[k]? = some (!(b && bit1 other k))
  cl : Cs.length = r.length
  hs : ∃ b, Hs[m]? = some b ∧ ((Cs.countP fun b => !b) < T.length → b = false)
  ok : letsB r l = true
  add : ∀ A x, x ∈ r → letsB r A = true → nextB A = true → letsB r (A ++ [rLet (nextV A) d x.id]) = true
  nxt : ∀ A, letsB r A = true → APure Tryz.prog 15 [encLs A] (.tup [.int .i64 (nextV A), .bool (nextB A)])
theorem causes_core (r : List Rcd) (l : List Ltr) (n which other : Nat) (d : Int) (x0 : Rcd) (id : Int) (hid : id = x0.id) (H T N : List Int) (B : Int → Bool) (m : Nat) (gs Ls Cs Hs : List Bool) (hf : CaF r l d m other T B gs Ls Cs Hs) (hr12 : r.length ≤ 12)
    (sA : APure Tryz.prog 9 [] (.bool true)) (sR : APure Tryz.prog 10 [encRs r, encLs l] (.bool true)) (d45 : (((r.map cRc).length : Int) == 0) = false)
    (sD : APure Tryz.prog 11 [encLs l, .int .u32 (n : Int)] (.int .i64 d))
    (v54 : some (⟨.int .i64 (IntKind.i64.wrap (which : Int)), []⟩ : Out) = some ⟨.int .i64 (which : Int), []⟩)
    (hm : (which : Int).tmod ((r.map cRc).length : Int) = (m : Int)) (hx0 : r[m]? = some x0)
    (hne : ((r.map cRc).length : Int) ≠ 0)
    (lk101 : (aLookup Tryz.prog (hget []) 36 (.imap (entsO H)) (.int .i64 id) false).map (fun v => (⟨v, []⟩ : Out)) = some ⟨.bool false, []⟩)
    (sH : APureF Tryz.prog 12 [encRs r, encLs l, .int .i64 d] (.tup [encR H, .int .i64 0]))
    (sT : APureF Tryz.prog 19 [encRs r, encLs l, .int .i64 d, .int .i64 id] (.tup [encR T, .int .i64 0]))
    (sSH : APure Tryz.prog 14 [encR H] (.tup [.imap (entsO H), .bool true]))
    (sST : APure Tryz.prog 14 [encR T] (.tup [.imap (entsO T), .bool true]))
    (sG : APureF Tryz.prog 16 [encRs r, encLs l, .int .i64 d] (encBs gs))
    (sN : letsB r (adK r l d B r.length) = true → APureF Tryz.prog 12 [encRs r, encLs (adK r l d B r.length), .int .i64 d] (.tup [encR N, .int .i64 0]))
    (sSN : APure Tryz.prog 14 [encR N] (.tup [.imap (entsO N), .bool true]))
    (lkN : (aLookup Tryz.prog (hget []) 36 (.imap (entsO N)) (.int .i64 id) false).map (fun v => (⟨v, []⟩ : Out)) = some ⟨.bool true, []⟩)
    (sHs : APureF Tryz.prog 18 [encRs r, encBs Ls] (encBs Hs)) :
    APure Tryz.prog 6 [encRs r, encLs l, .int .u32 (n : Int), .int .u8 (which : Int), .int .u16 (other : Int)] (.bool true) := by
  refine APure.intro Tryz.func6 rfl rfl rfl fun g hn hlo => ?_
  replace hn : g.n = 217 := hn
  replace hlo : g.low 0 := hlo
  have hrl : (r.map cRc).length = r.length := List.length_map _
  have ix0 : 0 ≤ (which : Int).tmod ((r.map cRc).length : Int) ∧ (r.map cRc)[((which : Int).tmod ((r.map cRc).length : Int)).toNat]? = some (cRc x0) := by rw [hm]; exact idx hx0
  have em : AV.int .i64 ((which : Int).tmod ((r.map cRc).length : Int)) = .int .i64 (m : Int) := by rw [hm]
  have vid : some (⟨.int .i64 x0.id, []⟩ : Out) = some ⟨.int .i64 id, []⟩ := by rw [hid]
  have hll := lets_len hf.ok
  have hgl := hf.gl
  have hlsl := hf.ls
  have ap0 := appL0 (h := hget [(10, .cells [])]) (i := 10) (nid := 11) (l := l) rfl (by omega)
  have ap1 := appB0 (h := hget [(12, .cells [])]) (i := 12) (nid := 13) (l := gs) rfl (by omega)
  have hlo14 : g.low 14 := hlo.mono (show 0 ≤ 14 by decide)
  have hlo15 : g.low 15 := hlo.mono (show 0 ≤ 15 by decide)
  refine ACode.cut 14 (fun _ : Unit => ⟨[(0, encRs r), (4, .int .u16 (other : Int)), (11, .bool true), (12, .int .i64 d), (13, .int .i64 (m : Int)), (14, .int .i64 id), (17, encR T), (21, .imap (entsO T)), (23, encBs gs), (24, .rsl 14 0 (l).length 4), (25, .rsl 13 0 gs.length 1), (26, .int .i64 0)], [(13, .cells (boL (gs))), (14, .cells (lL (l)))], 15⟩) (fun _ => True)
    (.call (.bool true) <| .call (.bool true) <| .br 45 false <| .draw 9 <| .call (.int .i64 d) <| .val 54 (.int .i64 (which : Int)) [] <| .nz <| .cells (cRc x0) <| .val 62 (.int .i64 id) [] <| .lent (.tup [encR H, .int .i64 0]) [] <| .lent (.tup [encR T, .int .i64 0]) [] <| .call (.tup [.imap (entsO H), .bool true]) <| .call (.tup [.imap (entsO T), .bool true]) <| .val 101 (.bool false) [] <| .lent (encBs gs) [] <| .val 124 (.rsl 11 0 l.length 4) [(10, none), (11, some (.cells (lL l)))] <| .val 127 (.rsl 13 0 gs.length 1) [(12, none), (13, some (.cells (boL gs)))] .nil) hn hlo .ret rfl
    ⟨sA, sR, d45, by kernel_rfl, mixed, by kernel_rfl, sD, Eq.trans (by kernel_rfl) v54, hne, by kernel_rfl, ix0, Eq.trans (by kernel_rfl) vid, ⟨_, by kernel_rfl, .inr sH⟩, ⟨_, by kernel_rfl, .inr sT⟩, sSH, sST, Eq.trans (by kernel_rfl) lk101, ⟨_, by kernel_rfl, .inr sG⟩, Eq.trans (by kernel_rfl) ap0, Eq.trans (by kernel_rfl) ap1, (), trivial, Wk.renC (c := 14) (b := 11) (St.renC.of rfl (.inr rfl) ⟨.eq (by kernel_rfl) rfl, .eq (by kernel_rfl) rfl, .eq (by kernel_rfl) rfl, .eq (by kernel_rfl) rfl, .eq (Eq.trans (by kernel_rfl) em) rfl, .eq (by kernel_rfl) rfl, .eq (by kernel_rfl) rfl, .eq (by kernel_rfl) rfl, .eq (by kernel_rfl) rfl, .inr (.inr ⟨_, _, _, rfl, by kernel_rfl⟩), .eq (by kernel_rfl) rfl, .eq (by kernel_rfl) rfl, trivial⟩ ⟨.same (show (13 : Nat) < 14 by decide) (by kernel_rfl) (boL_ok _ _), .new (by kernel_rfl) (lL_ok _ _), trivial⟩) hlo14⟩ fun _ _ => ?_
  clear sA sR sD sH sT sSH sST sG lk101 ap0 ap1
  refine ACode.cut 0 (fun _ : Unit => ⟨[(0, encRs r), (4, .int .u16 (other : Int)), (11, .bool true), (12, .int .i64 d), (13, .int .i64 (m : Int)), (14, .int .i64 id), (17, encR T), (21, .imap (entsO T)), (23, encBs gs), (24, .rsl 14 0 (adK r l d B r.length).length 4), (25, .rsl 13 0 gs.length 1), (26, .int .i64 ((Cs.countP fun b => !b : Nat) : Int))], [(13, .cells (boL (Ls))), (14, .cells (lL (adK r l d B r.length)))], 15⟩) (fun _ => letsB r (adK r l d B r.length) = true) .loop hn hlo .ret rfl ?_ fun _ hadl => ?_
  · intro g2 hn2 hlo2
    replace hn2 : g2.n = 217 := hn2
    replace hlo2 : g2.low 0 := hlo2
    have hlo24 : g2.low 14 := hlo2.mono (show 0 ≤ 14 by decide)
    have hlo25 : g2.low 15 := hlo2.mono (show 0 ≤ 15 by decide)
    refine acode_whileW (fun p : Nat × List Ltr => ⟨[(0, encRs r), (4, .int .u16 (other : Int)), (11, .bool true), (12, .int .i64 d), (13, .int .i64 (m : Int)), (14, .int .i64 id), (17, encR T), (21, .imap (entsO T)), (23, encBs gs), (24, .rsl 14 0 (p.2).length 4), (25, .rsl 13 0 gs.length 1), (26, .int .i64 (((Cs.take p.1).countP fun b => !b : Nat) : Int)), (128, encRs r), (129, .int .i64 ((r.map cRc).length : Int)), (130, .int .i64 p.1)], [(13, .cells (boL (fK gs Ls p.1))), (14, .cells (lL (p.2)))], 15⟩) (fun p => p.1 ≤ r.length ∧ p.2 = adK r l d B p.1 ∧ letsB r p.2 = true) (fun p => r.length - p.1) (0, l) ⟨Nat.zero_le _, rfl, hf.ok⟩ (Wk.le (St.le.of ⟨by kernel_rfl, rfl, by kernel_rfl, rfl, by kernel_rfl, rfl, by kernel_rfl, rfl, by kernel_rfl, rfl, by kernel_rfl, rfl, by kernel_rfl, rfl, by kernel_rfl, rfl, by kernel_rfl, rfl, by kernel_rfl, rfl, by kernel_rfl, rfl, by kernel_rfl, rfl, by kernel_rfl, rfl, by kernel_rfl, rfl, by kernel_rfl, rfl, trivial⟩ ⟨by kernel_rfl, (by decide : (13 : Nat) < 15), boL_ok _ _, by kernel_rfl, (by decide : (14 : Nat) < 15), lL_ok _ _, trivial⟩) hlo25) ?_
    rintro ⟨k, A⟩ ⟨hk, hAe, hA⟩
    replace hk : k ≤ r.length := hk
    replace hAe : A = adK r l d B k := hAe
    replace hA : letsB r A = true := hA
    by_cases hlt : k < r.length
    · refine Exists.elim (getE hlt) fun x hx => ?_
      have ek := congrArg (AV.int .i64) (succ64 (k := k) (by omega))
      have lkT := lookE (h := hget []) hf.t x.id
      refine Exists.elim (hf.g k x hx) fun gb hgb => ?_
      obtain ⟨hgk, hbg, hlk, hck⟩ := hgb
      have hcn := cnt_succ hck
      have hct : ((Cs.take k).countP fun b => !b) ≤ k := Nat.le_trans List.countP_le_length (by rw [List.length_take]; exact Nat.min_le_left _ _)
      have ix1 := ixBo (h := hget []) (id := 13) (n := gs.length) (k := k) (by omega)
      have st1 := fun (hz : Ls[k]? = some false) => (stBo (h := hget [(13, .cells (boL (fK gs Ls k)))]) (id := 13) (k := k) (l := fK gs Ls k) (x := false) rfl (by rw [fK_len hlsl (by omega)]; omega)).trans (by rw [fK_set hlsl hz])
      have fks := fun (b : Bool) (hz : Ls[k]? = some b) (hz2 : gs[k]? = some b) => congrArg (fun F => some (AObj.cells (boL F))) (fK_same hz hz2)
      have v167 : (if ((k : Nat) : Int) < 0 then none else some (AV.int .u16 ((other : Int).fdiv (2 ^ (min ((k : Nat) : Int).toNat IntKind.u16.bits))))).map (fun v => (⟨v, []⟩ : Out)) = some ⟨.int .u16 (shO other k), []⟩ := by rw [if_neg (by omega)]; rfl
      have e169 : some (⟨.bool (IntKind.u16.wrap (BitVec.ofInt IntKind.u16.bits (shO other k) &&& BitVec.ofInt IntKind.u16.bits 1).toNat == 1), []⟩ : Out) = some ⟨.bool (bit1 other k), []⟩ := rfl
      have hak := adK_succ (l := l) (d := d) (B := B) hx
      rw [← hAe] at hak
      have hAl := lets_len hA
      have sX := hf.nxt _ hA
      have hadd := hf.add _ x (List.mem_of_getElem? hx) hA
      generalize hO : bit1 other k = ob at *
      generalize B x.id = b at *
      generalize ((Cs.take k).countP fun b => !b) = C at *
      have ec := congrArg (AV.int .i64) (succ64 (k := C) (by omega))
      have tlA := thawL_lets1 (h := hget [(13, .cells (boL (fK gs Ls k))), (14, .cells (lL A)), (15, .cells (cRc x))]) (i := 14) (n := A.length) (l := A) rfl rfl
      cases b <;> cases gb <;> cases ob
      · have hcn : ((Cs.take (k + 1)).countP fun b => !b) = C := hcn
        have hlk : Ls[k]? = some false := hlk
        have ecc : AV.int .i64 (C : Int) = .int .i64 (((Cs.take (k + 1)).countP fun b => !b : Nat) : Int) := by rw [hcn]
        have ef : some (AObj.cells (boL (fK gs Ls k))) = some (.cells (boL (fK gs Ls (k + 1)))) := fks false hlk hgk
        have hak : A = adK r l d B (k + 1) := hak.symm
        exact ACode.vcM (.br 131 true <| .cells (cRc x) <| .val 138 (.bool false) [] <| .cells (encBo false) .nil) hn2 hlo2 (.roundW .cl) ⟨ltLen hlt, idx hx, Eq.trans (by kernel_rfl) lkT, idx hgk, (k + 1, A), ⟨hlt, hak, hA⟩, mu1 hlt, Wk.le (St.le.of ⟨by kernel_rfl, rfl, by kernel_rfl, rfl, by kernel_rfl, rfl, by kernel_rfl, rfl, by kernel_rfl, rfl, by kernel_rfl, rfl, by kernel_rfl, rfl, by kernel_rfl, rfl, by kernel_rfl, rfl, by kernel_rfl, rfl, by kernel_rfl, rfl, Eq.trans (by kernel_rfl) ecc, rfl, by kernel_rfl, rfl, by kernel_rfl, rfl, Eq.trans (by kernel_rfl) ek, rfl, trivial⟩ ⟨Eq.trans (by kernel_rfl) ef, (by decide : (13 : Nat) < 15), boL_ok _ _, by kernel_rfl, (by decide : (14 : Nat) < 15), lL_ok _ _, trivial⟩) hlo25⟩
      · have hcn : ((Cs.take (k + 1)).countP fun b => !b) = C := hcn
        have hlk : Ls[k]? = some false := hlk
        have ecc : AV.int .i64 (C : Int) = .int .i64 (((Cs.take (k + 1)).countP fun b => !b : Nat) : Int) := by rw [hcn]
        have ef : some (AObj.cells (boL (fK gs Ls k))) = some (.cells (boL (fK gs Ls (k + 1)))) := fks false hlk hgk
        have hak : A = adK r l d B (k + 1) := hak.symm
        exact ACode.vcM (.br 131 true <| .cells (cRc x) <| .val 138 (.bool false) [] <| .cells (encBo false) .nil) hn2 hlo2 (.roundW .cl) ⟨ltLen hlt, idx hx, Eq.trans (by kernel_rfl) lkT, idx hgk, (k + 1, A), ⟨hlt, hak, hA⟩, mu1 hlt, Wk.le (St.le.of ⟨by kernel_rfl, rfl, by kernel_rfl, rfl, by kernel_rfl, rfl, by kernel_rfl, rfl, by kernel_rfl, rfl, by kernel_rfl, rfl, by kernel_rfl, rfl, by kernel_rfl, rfl, by kernel_rfl, rfl, by kernel_rfl, rfl, by kernel_rfl, rfl, Eq.trans (by kernel_rfl) ecc, rfl, by kernel_rfl, rfl, by kernel_rfl, rfl, Eq.trans (by kernel_rfl) ek, rfl, trivial⟩ ⟨Eq.trans (by kernel_rfl) ef, (by decide : (13 : Nat) < 15), boL_ok _ _, by kernel_rfl, (by decide : (14 : Nat) < 15), lL_ok _ _, trivial⟩) hlo25⟩
      · have hcn : ((Cs.take (k + 1)).countP fun b => !b) = C := hcn
        have hlk : Ls[k]? = some true := hlk
        have ecc : AV.int .i64 (C : Int) = .int .i64 (((Cs.take (k + 1)).countP fun b => !b : Nat) : Int) := by rw [hcn]
        have ef : some (AObj.cells (boL (fK gs Ls k))) = some (.cells (boL (fK gs Ls (k + 1)))) := fks true hlk hgk
        have hak : A = adK r l d B (k + 1) := hak.symm
        exact ACode.vcM (.br 131 true <| .cells (cRc x) <| .val 138 (.bool false) [] <| .cells (encBo true) <| .val 167 (.int .u16 (shO other k)) [] <| .val 169 (.bool false) [] .nil) hn2 hlo2 (.roundW .cl) ⟨ltLen hlt, idx hx, Eq.trans (by kernel_rfl) lkT, idx hgk, Eq.trans (by kernel_rfl) v167, Eq.trans (by kernel_rfl) e169, (k + 1, A), ⟨hlt, hak, hA⟩, mu1 hlt, Wk.le (St.le.of ⟨by kernel_rfl, rfl, by kernel_rfl, rfl, by kernel_rfl, rfl, by kernel_rfl, rfl, by kernel_rfl, rfl, by kernel_rfl, rfl, by kernel_rfl, rfl, by kernel_rfl, rfl, by kernel_rfl, rfl, by kernel_rfl, rfl, by kernel_rfl, rfl, Eq.trans (by kernel_rfl) ecc, rfl, by kernel_rfl, rfl, by kernel_rfl, rfl, Eq.trans (by kernel_rfl) ek, rfl, trivial⟩ ⟨Eq.trans (by kernel_rfl) ef, (by decide : (13 : Nat) < 15), boL_ok _ _, by kernel_rfl, (by decide : (14 : Nat) < 15), lL_ok _ _, trivial⟩) hlo25⟩
      · have hcn : ((Cs.take (k + 1)).countP fun b => !b) = C + 1 := hcn
        have hlk : Ls[k]? = some false := hlk
        have ecc : AV.int .i64 (IntKind.i64.wrap ((C : Int) + 1)) = .int .i64 (((Cs.take (k + 1)).countP fun b => !b : Nat) : Int) := by rw [hcn]; exact ec
        have st1 := st1 hlk
        have hak : A = adK r l d B (k + 1) := hak.symm
        exact ACode.vcM (.br 131 true <| .cells (cRc x) <| .val 138 (.bool false) [] <| .cells (encBo true) <| .val 167 (.int .u16 (shO other k)) [] <| .val 169 (.bool true) [] <| .val 173 (.vptr 13 k) [] <| .val 1 .undef [(13, some (.cells (boL (fK gs Ls (k + 1)))))] .nil) hn2 hlo2 (.roundW .cl) ⟨ltLen hlt, idx hx, Eq.trans (by kernel_rfl) lkT, idx hgk, Eq.trans (by kernel_rfl) v167, Eq.trans (by kernel_rfl) e169, Eq.trans (by kernel_rfl) ix1, Eq.trans (by kernel_rfl) st1, (k + 1, A), ⟨hlt, hak, hA⟩, mu1 hlt, Wk.le (St.le.of ⟨by kernel_rfl, rfl, by kernel_rfl, rfl, by kernel_rfl, rfl, by kernel_rfl, rfl, by kernel_rfl, rfl, by kernel_rfl, rfl, by kernel_rfl, rfl, by kernel_rfl, rfl, by kernel_rfl, rfl, by kernel_rfl, rfl, by kernel_rfl, rfl, Eq.trans (by kernel_rfl) ecc, rfl, by kernel_rfl, rfl, by kernel_rfl, rfl, Eq.trans (by kernel_rfl) ek, rfl, trivial⟩ ⟨by kernel_rfl, (by decide : (13 : Nat) < 15), boL_ok _ _, by kernel_rfl, (by decide : (14 : Nat) < 15), lL_ok _ _, trivial⟩) hlo25⟩
      · exact absurd (hbg rfl) (by decide)
      · exact absurd (hbg rfl) (by decide)
      · have hcn : ((Cs.take (k + 1)).countP fun b => !b) = C := hcn
        have hlk : Ls[k]? = some true := hlk
        have ecc : AV.int .i64 (C : Int) = .int .i64 (((Cs.take (k + 1)).countP fun b => !b : Nat) : Int) := by rw [hcn]
        have ef : some (AObj.cells (boL (fK gs Ls k))) = some (.cells (boL (fK gs Ls (k + 1)))) := fks true hlk hgk
        have hak : adK r l d B (k + 1) = A ++ [rLet (nextV A) d x.id] := hak
        generalize nextV A = nv at *
        cases hnb : nextB A
        · rw [hnb] at sX
          exact ACode.vcM (.br 131 true <| .cells (cRc x) <| .val 138 (.bool true) [] <| .cells (encBo true) <| .lent (.tup [.int .i64 nv, .bool false]) [14] .nil) hn2 hlo2 (.roundW .cl) ⟨ltLen hlt, idx hx, Eq.trans (by kernel_rfl) lkT, idx hgk, ⟨_, Eq.trans (by kernel_rfl) tlA, .inl ⟨sX, .inr rfl⟩⟩, _, .refl _, .nil, trivial, rfl⟩
        · rw [hnb] at sX
          have hA2 := hadd hnb
          have ap := appL1 (h := hget [(14, .cells (lL A)), (17, .cells (cLt (rLet nv d x.id)))]) (i := 14) (j := 17) (nid := 18) (l := A) (x := rLet nv d x.id) rfl rfl (by omega)
          obtain ⟨A', hA'⟩ : ∃ A', A' = A ++ [rLet nv d x.id] := ⟨_, rfl⟩
          have hl1 : A'.length = A.length + 1 := by rw [hA']; simp
          rw [← hA'] at hA2 ap
          have hk2 : A' = adK r l d B (k + 1) := hA'.trans hak.symm
          rw [← hl1] at ap
          exact ACode.vcM (.br 131 true <| .cells (cRc x) <| .val 138 (.bool true) [] <| .cells (encBo true) <| .lent (.tup [.int .i64 nv, .bool true]) [14] <| .val 159 (.rsl 18 0 A'.length 4) [(14, none), (18, some (.cells (lL A')))] <| .cells (encBo true) <| .val 167 (.int .u16 (shO other k)) [] <| .val 169 (.bool false) [] .nil) hn2 hlo2 (.roundW .cl) ⟨ltLen hlt, idx hx, Eq.trans (by kernel_rfl) lkT, idx hgk, ⟨_, Eq.trans (by kernel_rfl) tlA, .inl ⟨sX, .inr rfl⟩⟩, Eq.trans (by kernel_rfl) ap, idx hgk, Eq.trans (by kernel_rfl) v167, Eq.trans (by kernel_rfl) e169, (k + 1, A'), ⟨hlt, hk2, hA2⟩, mu1 hlt, Wk.renC (c := 14) (b := 18) (St.renC.of rfl (.inl (by decide)) ⟨.eq (by kernel_rfl) rfl, .eq (by kernel_rfl) rfl, .eq (by kernel_rfl) rfl, .eq (by kernel_rfl) rfl, .eq (by kernel_rfl) rfl, .eq (by kernel_rfl) rfl, .eq (by kernel_rfl) rfl, .eq (by kernel_rfl) rfl, .eq (by kernel_rfl) rfl, .inr (.inr ⟨_, _, _, rfl, by kernel_rfl⟩), .eq (by kernel_rfl) rfl, .eq (Eq.trans (by kernel_rfl) ecc) rfl, .eq (by kernel_rfl) rfl, .eq (by kernel_rfl) rfl, .eq (Eq.trans (by kernel_rfl) ek) rfl, trivial⟩ ⟨.same (show (13 : Nat) < 14 by decide) (Eq.trans (by kernel_rfl) ef) (boL_ok _ _), .new (by kernel_rfl) (lL_ok _ _), trivial⟩) hlo24⟩
      · have hcn : ((Cs.take (k + 1)).countP fun b => !b) = C + 1 := hcn
        have hlk : Ls[k]? = some false := hlk
        have ecc : AV.int .i64 (IntKind.i64.wrap ((C : Int) + 1)) = .int .i64 (((Cs.take (k + 1)).countP fun b => !b : Nat) : Int) := by rw [hcn]; exact ec
        have st1 := st1 hlk
        have hak : adK r l d B (k + 1) = A ++ [rLet (nextV A) d x.id] := hak
        generalize nextV A = nv at *
        cases hnb : nextB A
        · rw [hnb] at sX
          exact ACode.vcM (.br 131 true <| .cells (cRc x) <| .val 138 (.bool true) [] <| .cells (encBo true) <| .lent (.tup [.int .i64 nv, .bool false]) [14] .nil) hn2 hlo2 (.roundW .cl) ⟨ltLen hlt, idx hx, Eq.trans (by kernel_rfl) lkT, idx hgk, ⟨_, Eq.trans (by kernel_rfl) tlA, .inl ⟨sX, .inr rfl⟩⟩, _, .refl _, .nil, trivial, rfl⟩
        · rw [hnb] at sX
          have hA2 := hadd hnb
          have ap := appL1 (h := hget [(14, .cells (lL A)), (17, .cells (cLt (rLet nv d x.id)))]) (i := 14) (j := 17) (nid := 18) (l := A) (x := rLet nv d x.id) rfl rfl (by omega)
          obtain ⟨A', hA'⟩ : ∃ A', A' = A ++ [rLet nv d x.id] := ⟨_, rfl⟩
          have hl1 : A'.length = A.length + 1 := by rw [hA']; simp
          rw [← hA'] at hA2 ap
          have hk2 : A' = adK r l d B (k + 1) := hA'.trans hak.symm
          rw [← hl1] at ap
          exact ACode.vcM (.br 131 true <| .cells (cRc x) <| .val 138 (.bool true) [] <| .cells (encBo true) <| .lent (.tup [.int .i64 nv, .bool true]) [14] <| .val 159 (.rsl 18 0 A'.length 4) [(14, none), (18, some (.cells (lL A')))] <| .cells (encBo true) <| .val 167 (.int .u16 (shO other k)) [] <| .val 169 (.bool true) [] <| .val 173 (.vptr 13 k) [] <| .val 1 .undef [(13, some (.cells (boL (fK gs Ls (k + 1)))))] .nil) hn2 hlo2 (.roundW .cl) ⟨ltLen hlt, idx hx, Eq.trans (by kernel_rfl) lkT, idx hgk, ⟨_, Eq.trans (by kernel_rfl) tlA, .inl ⟨sX, .inr rfl⟩⟩, Eq.trans (by kernel_rfl) ap, idx hgk, Eq.trans (by kernel_rfl) v167, Eq.trans (by kernel_rfl) e169, Eq.trans (by kernel_rfl) ix1, Eq.trans (by kernel_rfl) st1, (k + 1, A'), ⟨hlt, hk2, hA2⟩, mu1 hlt, Wk.renC (c := 14) (b := 18) (St.renC.of rfl (.inl (by decide)) ⟨.eq (by kernel_rfl) rfl, .eq (by kernel_rfl) rfl, .eq (by kernel_rfl) rfl, .eq (by kernel_rfl) rfl, .eq (by kernel_rfl) rfl, .eq (by kernel_rfl) rfl, .eq (by kernel_rfl) rfl, .eq (by kernel_rfl) rfl, .eq (by kernel_rfl) rfl, .inr (.inr ⟨_, _, _, rfl, by kernel_rfl⟩), .eq (by kernel_rfl) rfl, .eq (Eq.trans (by kernel_rfl) ecc) rfl, .eq (by kernel_rfl) rfl, .eq (by kernel_rfl) rfl, .eq (Eq.trans (by kernel_rfl) ek) rfl, trivial⟩ ⟨.same (show (13 : Nat) < 14 by decide) (by kernel_rfl) (boL_ok _ _), .new (by kernel_rfl) (lL_ok _ _), trivial⟩) hlo24⟩
    · have hk' : k = r.length := by omega
      have eF : some (AObj.cells (boL (fK gs Ls k))) = some (.cells (boL Ls)) := by
        unfold fK; rw [hk', ← hgl, List.drop_length, List.append_nil, hlsl, List.take_length]
      have eA : some (AObj.cells (lL A)) = some (.cells (lL (adK r l d B r.length))) := by rw [hAe, hk']
      have eR : AV.rsl 14 0 A.length 4 = .rsl 14 0 (adK r l d B r.length).length 4 := by rw [hAe, hk']
      have ec : AV.int .i64 (((Cs.take k).countP fun b => !b : Nat) : Int) = .int .i64 ((Cs.countP fun b => !b : Nat) : Int) := by rw [hk', ← hf.cl, List.take_length]
      have hA2 : letsB r (adK r l d B r.length) = true := by rw [← hk', ← hAe]; exact hA
      exact ACode.vcM (.br 131 false .nil) hn2 hlo2 (.roundW .cl) ⟨geLen hlt, _, .refl _, .nil, (), hA2, Wk.le (St.le.of ⟨by kernel_rfl, rfl, by kernel_rfl, rfl, by kernel_rfl, rfl, by kernel_rfl, rfl, by kernel_rfl, rfl, by kernel_rfl, rfl, by kernel_rfl, rfl, by kernel_rfl, rfl, by kernel_rfl, rfl, Eq.trans (by kernel_rfl) eR, rfl, by kernel_rfl, rfl, Eq.trans (by kernel_rfl) ec, rfl, trivial⟩ ⟨Eq.trans (by kernel_rfl) eF, (by decide : (13 : Nat) < 15), boL_ok _ _, Eq.trans (by kernel_rfl) eA, (by decide : (14 : Nat) < 15), lL_ok _ _, trivial⟩) hlo15⟩
  have sN := sN hadl
  generalize adK r l d B r.length = A at *
  have tlN := thawL_letters (h := hget [(13, .cells (boL (Ls))), (14, .cells (lL (A)))]) (i := 14) (n := A.length) (r := r) (l := A) (d := d) rfl rfl
  have tls := thawL_bools (h := hget [(13, .cells (boL (Ls))), (14, .cells (lL (A)))]) (i := 13) (n := gs.length) (r := r) (l := Ls) hlsl rfl
  refine Exists.elim hf.hs fun hb hhb => ?_
  cases c207 : decide (((Cs.countP fun b => !b : Nat) : Int) ≥ ((T.map encI).length : Int))
  · have hlt : (Cs.countP fun b => !b) < T.length := by
      have := of_decide_eq_false c207
      rw [List.length_map] at this
      omega
    have hb0 := hhb.2 hlt
    have ixm := hhb.1
    rw [hb0] at ixm
    exact ACode.vcM (.lent (.tup [encR N, .int .i64 0]) [14] <| .call (.tup [.imap (entsO N), .bool true]) <| .val 198 (.bool true) [] <| .br 207 false <| .lent (encBs Hs) [13] <| .cells (encBo false) .nil) hn hlo .ret ⟨⟨_, Eq.trans (by kernel_rfl) tlN, .inr sN⟩, sSN, Eq.trans (by kernel_rfl) lkN, c207, ⟨_, Eq.trans (by kernel_rfl) tls, .inr sHs⟩, idx ixm, trivial, rfl⟩
  · exact ACode.vcM (.lent (.tup [encR N, .int .i64 0]) [14] <| .call (.tup [.imap (entsO N), .bool true]) <| .val 198 (.bool true) [] <| .br 207 true .nil) hn hlo .ret ⟨⟨_, Eq.trans (by kernel_rfl) tlN, .inr sN⟩, sSN, Eq.trans (by kernel_rfl) lkN, c207, trivial, rfl⟩
theorem all_held {r : List Rcd} (hr : recsB r = true) {g : Int → Bool} (hg : ∀ x ∈ r, g x.id = false) : ∀ (k : Nat) (x : Rcd), r[k]? = some x → (heldV g [] r).contains x.id = true := by
  intro k
  induction k using Nat.strongRecOn with
  | _ k ih =>
    intro x hx
    have hxm := List.mem_of_getElem? hx
    refine List.contains_iff_mem.2 ((held_iff hr g hxm).2 ⟨hg x hxm, ?_⟩)
    unfold standsB
    cases hw : x.ways with
    | nil => rfl
    | cons w ws =>
      have hwm : w ∈ x.ways := by rw [hw]; exact List.mem_cons_self
      have hall : (w.all fun i => (heldV g [] r).contains i) = true := List.all_eq_true.2 fun v hv => by
        obtain ⟨j, y, hj, hy, e, _⟩ := ref_at hr hx hwm hv
        rw [← e]; exact ih j hj y hy
      rw [List.any_cons, hall, Bool.true_or, Bool.or_true]
theorem erase_all : ∀ (I g : List Int), g.Nodup → (I.foldl (fun g i => g.erase i) g).Nodup ∧ ∀ i, i ∈ I.foldl (fun g i => g.erase i) g ↔ i ∈ g ∧ i ∉ I := by
  intro I
  induction I with
  | nil => intro g h; exact ⟨h, fun i => by simp⟩
  | cons a I ih =>
    intro g h
    obtain ⟨h1, h2⟩ := ih (g.erase a) (h.erase a)
    refine ⟨h1, fun i => ?_⟩
    rw [List.foldl_cons, h2, h.mem_erase_iff]
    simp only [List.mem_cons, not_or]
    constructor
    · rintro ⟨⟨q1, q2⟩, q3⟩; exact ⟨q2, q1, q3⟩
    · rintro ⟨q2, q1, q3⟩; exact ⟨⟨q1, q2⟩, q3⟩
theorem restG_has {r : List Rcd} {G : List Int} (hG : G.Nodup) (S : Nat) (i : Int) : gF (restG r G S) i = (G.contains i && !(idsOf r S).contains i) := by
  unfold gF restG
  rw [Bool.eq_iff_iff, List.contains_iff_mem, (erase_all _ _ hG).2, Bool.and_eq_true, List.contains_iff_mem]
  constructor
  · rintro ⟨a, b⟩; exact ⟨a, by cases h : (idsOf r S).contains i; rfl; exact absurd (List.contains_iff_mem.1 h) b⟩
  · rintro ⟨a, b⟩; exact ⟨a, fun h => by rw [List.contains_iff_mem.2 h] at b; cases b⟩
theorem gone_ad (r : List Rcd) (l : List Ltr) (d : Int) (B : Int → Bool) (i : Int) : ∀ k, goneV (adK r l d B k) d i = (goneV l d i && !((List.range k).any fun j => decide (idA r j = i) && B i)) := by
  intro k
  induction k with
  | zero => simp [adK]
  | succ k ih =>
    rw [adK, List.range_succ, List.any_append]
    by_cases e : idA r k = i
    · subst e
      cases hB : B (idA r k)
      · rw [if_neg (by decide), ih, hB]; simp
      · rw [if_pos rfl, gone_r, if_pos rfl]; simp
    · have e1 : (decide (idA r k = i) && B i) = false := by rw [decide_eq_false e]; rfl
      simp only [List.any_cons, List.any_nil, e1, Bool.or_false]
      split
      · rw [gone_r, if_neg e, ih]
      · exact ih
theorem gone_ads {r : List Rcd} {l : List Ltr} {d : Int} {B : Int → Bool} {k : Nat} {x : Rcd} (hx : r[k]? = some x) : goneV (adK r l d B r.length) d x.id = (goneV l d x.id && !B x.id) := by
  rw [gone_ad]
  have hk := (List.getElem?_eq_some_iff.1 hx).1
  cases hB : B x.id
  · simp
  · rw [List.any_eq_true.2 ⟨k, List.mem_range.2 hk, by rw [idA_get hx]; simp⟩]
theorem law_causes (r : List Rcd) (l : List Ltr) (n : Nat) (which other : Nat) (hn32 : n < 4294967296) (hw8 : which < 256) : APure Tryz.prog 6 [encRs r, encLs l, .int .u32 (n : Int), .int .u8 (which : Int), .int .u16 (other : Int)] (.bool true) := by
  have sA := alive_spec
  have sR := ready_spec r l
  cases h1 : readyB r l
  · rw [h1] at sR
    exact APure.vc Tryz.func6 rfl (.call (.bool true) <| .call (.bool false) .nil) rfl rfl ⟨sA, sR, trivial, rfl⟩
  rw [h1] at sR
  have hlen : ((r.map cRc).length : Int) = r.length := by rw [List.length_map]
  by_cases h0 : r.length = 0
  · have d45 : (((r.map cRc).length : Int) == 0) = true := by rw [hlen, h0]; rfl
    exact APure.vc Tryz.func6 rfl (.call (.bool true) <| .call (.bool true) <| .br 45 true .nil) rfl rfl ⟨sA, sR, d45, trivial, rfl⟩
  have d45 : (((r.map cRc).length : Int) == 0) = false := by rw [hlen]; exact beq_eq_false_iff_ne.2 (by omega)
  have hck : checkV r l = 0 := by
    unfold readyB at h1
    rw [Bool.and_eq_true] at h1
    exact of_decide_eq_true h1.2
  obtain ⟨hR, hL⟩ := check_0 hck
  have hnd := (recs_nodup hR).1
  have hr12 := (recs_nodup hR).2.2
  have hl20 := lets_len hL
  have hAd : ∀ A, letsB r A = true → ∀ x ∈ A, (0 ≤ x.day ∧ x.day ≤ 100000) ∧ (0 ≤ x.id ∧ x.id ≤ 9999) := fun A hA x hx => by
    simp only [letsB, Bool.and_eq_true, List.all_eq_true] at hA
    have h2 := hA.2 x hx
    simp only [letB, Bool.and_eq_true, inB_iff] at h2
    exact ⟨h2.1.1, incF_lt hA.1.2 x.id (List.mem_map.2 ⟨x, hx, rfl⟩)⟩
  have sD := day_spec l n hn32 (by omega) fun x hx => (hAd l hL x hx).1
  have hdr := dayV_rng l n
  generalize dayV l n = d at *
  obtain ⟨m, hmd⟩ : ∃ m, m = which % r.length := ⟨_, rfl⟩
  have hml : m < r.length := by rw [hmd]; exact Nat.mod_lt _ (by omega)
  refine Exists.elim (getE hml) fun x0 hx0 => ?_
  have hx0m := List.mem_of_getElem? hx0
  have v54 : some (⟨.int .i64 (IntKind.i64.wrap (which : Int)), []⟩ : Out) = some ⟨.int .i64 (which : Int), []⟩ := by rw [wrap64 (by omega) (by omega)]
  have hm : (which : Int).tmod ((r.map cRc).length : Int) = (m : Int) := by rw [hlen, hmd]; rfl
  have ix0 : 0 ≤ (which : Int).tmod ((r.map cRc).length : Int) ∧ (r.map cRc)[((which : Int).tmod ((r.map cRc).length : Int)).toNat]? = some (cRc x0) := by rw [hm]; exact idx hx0
  have hne : ((r.map cRc).length : Int) ≠ 0 := by rw [hlen]; omega
  have hday : dayE r l d = 0 := by unfold dayE; rw [if_pos hck, if_pos (inB_iff.2 hdr)]
  have hidm : (idsR r).contains x0.id = true := List.contains_iff_mem.2 (List.mem_map.2 ⟨x0, hx0m, rfl⟩)
  have hwith : withE r l d x0.id = 0 := by unfold withE; rw [if_pos hday, if_pos hidm]
  have sH := Holds_ok r l d
  rw [hday] at sH
  have sT := Causes_ok r l d x0.id
  unfold causE at sT
  rw [if_pos hwith] at sT
  have hfl := filt_len (r := r)
  have sSH := set_spec (holdsV r l d) (holds_sorted hR l d) (by have := hfl (fun i => (heldV (goneV l d) [] r).contains i); unfold holdsV; omega)
  obtain ⟨id, hid⟩ : ∃ id, id = x0.id := ⟨_, rfl⟩
  have vid : some (⟨.int .i64 x0.id, []⟩ : Out) = some ⟨.int .i64 id, []⟩ := by rw [hid]
  have lk101 := lookE (h := hget []) (fun i => holds_has r l d i) x0.id
  cases hw0 : (heldV (goneV l d) [] r).contains x0.id
  case true =>
    rw [hw0] at sT
    have sT : APureF Tryz.prog 19 [encRs r, encLs l, .int .i64 d, .int .i64 x0.id] (.tup [.nil, .int .i64 8]) := sT
    have w0 : heldW r l d x0.id = true := hw0
    rw [w0] at lk101
    rw [← hid] at sT lk101
    refine APure.intro Tryz.func6 rfl rfl rfl fun g hn hlo => ?_
    exact ACode.vcM (.call (.bool true) <| .call (.bool true) <| .br 45 false <| .draw 9 <| .call (.int .i64 d) <| .val 54 (.int .i64 (which : Int)) [] <| .nz <| .cells (cRc x0) <| .val 62 (.int .i64 id) [] <| .lent (.tup [encR (holdsV r l d), .int .i64 0]) [] <| .lent (.tup [.nil, .int .i64 8]) [] <| .call (.tup [.imap (entsO (holdsV r l d)), .bool true]) <| .call (.tup [.imap (entsO []), .bool true]) <| .val 101 (.bool true) [] .nil) hn hlo .ret
      ⟨sA, sR, d45, by kernel_rfl, mixed, by kernel_rfl, sD, Eq.trans (by kernel_rfl) v54, hne, by kernel_rfl, ix0, Eq.trans (by kernel_rfl) vid, ⟨_, by kernel_rfl, .inr sH⟩, ⟨_, by kernel_rfl, .inr sT⟩, sSH, set_nil, Eq.trans (by kernel_rfl) lk101, trivial, rfl⟩
  rw [hw0] at sT
  have sT : APureF Tryz.prog 19 [encRs r, encLs l, .int .i64 d, .int .i64 x0.id] (.tup [encR (causD r l d x0.id), .int .i64 0]) := sT
  have w0 : heldW r l d x0.id = false := hw0
  rw [w0] at lk101
  rw [← hid] at lk101
  -- why it does not hold
  have hGn : (goneL l d r).Nodup := hnd.sublist List.filter_sublist
  have hGc : ∀ (k : Nat) (x : Rcd), r[k]? = some x → (goneL l d r).contains x.id = goneV l d x.id := fun k x hx => by
    unfold goneL
    rw [Bool.eq_iff_iff, List.contains_iff_mem, List.mem_filter]
    exact ⟨fun h => h.2, fun h2 => ⟨List.mem_map.2 ⟨x, List.mem_of_getElem? hx, rfl⟩, h2⟩⟩
  have hgb : ∀ (k : Nat) (x : Rcd), r[k]? = some x → (gS r (goneL l d r) r.length).testBit k = goneV l d x.id := fun k x hx => by
    unfold gS
    rw [setN_bit, decide_eq_true (List.getElem?_eq_some_iff.1 hx).1, idA_get hx]
    exact hGc k x hx
  have hgl : gS r (goneL l d r) r.length < 2 ^ r.length := setN_lt _ _
  have hcp : ∀ S, causP r (goneL l d r) x0.id S = (heldV (fun i => goneV l d i && !(idsOf r S).contains i) [] r).contains x0.id := fun S => by
    unfold causP
    rw [held_on r [] fun x hx => ?_]
    obtain ⟨k, hk, e⟩ := List.mem_iff_getElem.1 hx
    have hx2 : r[k]? = some x := by rw [List.getElem?_eq_getElem hk, e]
    rw [restG_has hGn, hGc k x hx2]
  have hof : causP r (goneL l d r) x0.id (gS r (goneL l d r) r.length) = true := by
    rw [hcp]
    refine all_held hR (fun x hx => ?_) m x0 hx0
    obtain ⟨k, hk, e⟩ := List.mem_iff_getElem.1 hx
    have hx2 : r[k]? = some x := by rw [List.getElem?_eq_getElem hk, e]
    simp only [ids_bit hnd hx2, hgb k x hx2]
    cases goneV l d x.id <;> rfl
  obtain ⟨f1, f2, f3⟩ := fewV_facts hof
  have hTd : causD r l d x0.id = idsOf r (fewV (gS r (goneL l d r) r.length) (causP r (goneL l d r) x0.id)) := rfl
  generalize fewV (gS r (goneL l d r) r.length) (causP r (goneL l d r) x0.id) = S at *
  have hSl : S < 2 ^ r.length := Nat.lt_of_le_of_lt (sub_le f1) hgl
  rw [hTd] at sT
  have sST := set_spec (idsOf r S) (by
      have e : idsOf r S = (idsR r).filter fun i => (idsOf r S).contains i := by
        have h5 := idsOf_setN r fun i => (idsOf r S).contains i
        rw [← h5]
        congr 1
        refine Nat.eq_of_testBit_eq fun i => ?_
        rw [setN_bit]
        by_cases hi : i < r.length
        · have hx : r[i]? = some r[i] := List.getElem?_eq_getElem hi
          rw [decide_eq_true hi, idA_get hx, ids_bit hnd hx]; rfl
        · rw [decide_eq_false hi]
          exact Nat.testBit_lt_two_pow (Nat.lt_of_lt_of_le hSl (Nat.pow_le_pow_right (by omega) (by omega)))
      rw [e]
      have h6 := hR
      simp only [recsB, Bool.and_eq_true] at h6
      exact (incF_sorted h6.1.2).sublist List.filter_sublist) (by have := idsOf_len r S; omega)
  obtain ⟨B, hB⟩ : ∃ B : Int → Bool, B = fun i => (idsOf r S).contains i := ⟨_, rfl⟩
  have hBb : ∀ (k : Nat) (x : Rcd), r[k]? = some x → B x.id = S.testBit k := fun k x hx => by rw [hB]; exact ids_bit hnd hx S
  have sG := rGone_spec r l d (by omega) (by omega)
  obtain ⟨Ls, hLs⟩ : ∃ Ls, Ls = (List.range r.length).map fun k => goneV l d (idA r k) && !bit1 other k := ⟨_, rfl⟩
  obtain ⟨Cs, hCs⟩ : ∃ Cs, Cs = (List.range r.length).map fun k => !(goneV l d (idA r k) && bit1 other k) := ⟨_, rfl⟩
  have hLl : Ls.length = r.length := by rw [hLs, List.length_map, List.length_range]
  have hCl : Cs.length = r.length := by rw [hCs, List.length_map, List.length_range]
  have hLk : ∀ (k : Nat) (x : Rcd), r[k]? = some x → Ls[k]? = some (goneV l d x.id && !bit1 other k) := fun k x hx => by
    rw [hLs, List.getElem?_map, List.getElem?_range (List.getElem?_eq_some_iff.1 hx).1, Option.map_some, idA_get hx]
  have hCk : ∀ (k : Nat) (x : Rcd), r[k]? = some x → Cs[k]? = some (!(goneV l d x.id && bit1 other k)) := fun k x hx => by
    rw [hCs, List.getElem?_map, List.getElem?_range (List.getElem?_eq_some_iff.1 hx).1, Option.map_some, idA_get hx]
  have hgl2 : (goneBs r l d).length = r.length := List.length_map _
  have sHs := rHold_spec r (gL r Ls) hR
  rw [goB_of hnd hLl] at sHs
  rw [← hid] at sT
  have hN : (heldV (goneV (adK r l d B r.length) d) [] r).contains x0.id = true := by
    rw [hcp] at f2
    rw [← f2, held_on r [] fun x hx => ?_]
    obtain ⟨k, hk, e⟩ := List.mem_iff_getElem.1 hx
    have hx2 : r[k]? = some x := by rw [List.getElem?_eq_getElem hk, e]
    rw [gone_ads hx2, hB]
  have sSN := set_spec (holdsV r (adK r l d B r.length) d) (holds_sorted hR _ d) (by have := hfl (fun i => (heldV (goneV (adK r l d B r.length) d) [] r).contains i); unfold holdsV; omega)
  have lkN := lookE (h := hget []) (fun i => holds_has r (adK r l d B r.length) d i) x0.id
  rw [show heldW r (adK r l d B r.length) d x0.id = true from hN, ← hid] at lkN
  refine causes_core r l n which other d x0 id hid _ _ (holdsV r (adK r l d B r.length) d) B m (goneBs r l d) Ls Cs _ ?_ hr12 sA sR d45 sD v54 hm hx0 hne lk101 sH sT sSH sST sG (fun hv => ?_) sSN lkN sHs
  · refine ⟨fun i => by rw [hB], hgl2, by rw [hgl2, hLl], fun k x hx => ⟨goneV l d x.id, ?_, fun hb => ?_, hLk k x hx, hCk k x hx⟩, hCl, ?_, hL, fun A x hx hA hnb => ?_, fun A hA => next_spec A (by have := lets_len hA; omega) fun x hx => (hAd A hA x hx).2⟩
    · unfold goneBs; rw [List.getElem?_map, hx]; rfl
    · rw [hBb k x hx] at hb
      rw [← hgb k x hx]; exact f1 k hb
    · refine ⟨(heldV (gL r Ls) [] r).contains x0.id, by unfold hoB; rw [List.getElem?_map, hx0]; rfl, fun hc => ?_⟩
      cases hh : (heldV (gL r Ls) [] r).contains x0.id
      · rfl
      · exfalso
        obtain ⟨F, hF⟩ : ∃ F, F = setN (fun k => goneV l d (idA r k) && bit1 other k) r.length := ⟨_, rfl⟩
        have hFb : ∀ (k : Nat) (x : Rcd), r[k]? = some x → F.testBit k = (goneV l d x.id && bit1 other k) := fun k x hx => by
          rw [hF, setN_bit, decide_eq_true (List.getElem?_eq_some_iff.1 hx).1, idA_get hx]; rfl
        have hFl : F < 2 ^ r.length := by rw [hF]; exact setN_lt _ _
        have g2 : ∀ i, F.testBit i = true → (gS r (goneL l d r) r.length).testBit i = true := fun i hi => by
          by_cases hil : i < r.length
          · have hx : r[i]? = some r[i] := List.getElem?_eq_getElem hil
            rw [hFb i _ hx, Bool.and_eq_true] at hi
            rw [hgb i _ hx]; exact hi.1
          · rw [hF, setN_bit, decide_eq_false hil] at hi; cases hi
        have g3 := f3 F g2 (by
          rw [hcp, ← hh, held_on r [] fun x hx => ?_]
          obtain ⟨k, hk, e⟩ := List.mem_iff_getElem.1 hx
          have hx2 : r[k]? = some x := by rw [List.getElem?_eq_getElem hk, e]
          rw [gL_at hnd hx2, List.getD_eq_getElem?_getD, hLk k x hx2]
          simp only [ids_bit hnd hx2, hFb k x hx2]
          cases goneV l d x.id <;> cases bit1 other k <;> rfl)
        have g4 : popN F ≤ Cs.countP fun b => !b := by
          unfold popN
          rw [range_split r.length _ 12 hr12 fun i hi => Nat.testBit_lt_two_pow (Nat.lt_of_lt_of_le hFl (Nat.pow_le_pow_right (by omega) hi))]
          conv => rhs; rw [hCs]
          rw [List.countP_map]
          refine List.countP_mono_left fun i hi hbi => ?_
          have hil := List.mem_range.1 hi
          have hx : r[i]? = some r[i] := List.getElem?_eq_getElem hil
          have hbi : F.testBit i = true := hbi
          rw [hFb i _ hx] at hbi
          show (!(!(goneV l d (idA r i) && bit1 other i))) = true
          rw [idA_get hx, hbi]; rfl
        have g5 := idsOf_pop hr12 hSl
        omega
    · have hlt : nextV A ≤ 9999 ∧ A.length < 20 := by
        unfold nextB at hnb
        unfold nextV
        cases hg : A.getLast? with
        | none =>
          rw [List.getLast?_eq_none_iff] at hg
          subst hg
          exact ⟨by decide, by decide⟩
        | some z =>
          rw [hg] at hnb
          simp only [Bool.and_eq_true, decide_eq_true_eq] at hnb
          show z.id + 1 ≤ 9999 ∧ A.length < 20
          omega
      exact lets_snoc hA (rLet (nextV A) d x.id) rfl hlt.1 hlt.2 (by
        unfold letB
        rw [show (idsR r).contains (rLet (nextV A) d x.id).about = true from List.contains_iff_mem.2 (List.mem_map.2 ⟨x, hx, rfl⟩), show inB 0 100000 (rLet (nextV A) d x.id).day = true from inB_iff.2 hdr]; rfl)
  · have sN := Holds_ok r (adK r l d B r.length) d
    have e : dayE r (adK r l d B r.length) d = 0 := by
      unfold dayE checkV
      rw [if_neg (show ¬ recsB r = false by rw [hR]; decide), if_neg (show ¬ letsB r (adK r l d B r.length) = false by rw [hv]; decide), if_pos rfl, if_pos (inB_iff.2 hdr)]
    rw [e] at sN; exact sN
end Go.Proofs.YtepbiedolkghhaaGreat
