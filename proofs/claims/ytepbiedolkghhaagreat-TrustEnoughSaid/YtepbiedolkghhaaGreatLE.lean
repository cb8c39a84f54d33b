/-
  THE LAW OF WHAT IS ENOUGH FOR A RECORD.
-/
import Derived.Test.YtepbiedolkghhaaGreatL1
import Derived.Test.YtepbiedolkghhaaGreatG4
import Derived.Test.YtepbiedolkghhaaGreatR7
import Derived.Test.YtepbiedolkghhaaGreatT5
namespace Go.Proofs.YtepbiedolkghhaaGreat
open Go Go.Am
set_option maxRecDepth 100000
set_option maxHeartbeats 8000000
theorem lessN_0 {a b : Nat} : lessN a b = 0 ↔ ∀ i, a.testBit i = true → b.testBit i = true := by
  constructor
  · intro h i hi
    have h1 := lessN_bit a b i
    rw [h, Nat.zero_testBit, hi, Bool.true_and] at h1
    cases hb : b.testBit i
    · rw [hb] at h1; cases h1
    · rfl
  · intro h
    refine Nat.eq_of_testBit_eq fun i => ?_
    rw [lessN_bit, Nat.zero_testBit]
    cases ha : a.testBit i
    · rfl
    · rw [h i ha]; rfl
theorem sub_le {a b : Nat} (h : ∀ i, a.testBit i = true → b.testBit i = true) : a ≤ b := by
  have e : a = a &&& b := by
    refine Nat.eq_of_testBit_eq fun i => ?_
    rw [Nat.testBit_and]
    cases ha : a.testBit i
    · rfl
    · rw [h i ha]; rfl
  rw [e]; exact Nat.and_le_right
theorem popN_mono {a b : Nat} (h : ∀ i, a.testBit i = true → b.testBit i = true) : popN a ≤ popN b := List.countP_mono_left fun i _ hi => h i hi
theorem befB_pop {a b : Nat} : (befB a b = true → popN a ≤ popN b) ∧ (befB a b = false → popN b ≤ popN a) := by
  unfold befB
  by_cases h : popN a ≠ popN b
  · rw [if_pos h]
    constructor
    · intro h2; have := of_decide_eq_true h2; omega
    · intro h2; have := of_decide_eq_false h2; omega
  · rw [if_neg h]
    have : popN a = popN b := Decidable.not_not.1 h
    constructor <;> intro _ <;> omega
theorem fewK_facts {of : Nat} {p : Nat → Bool} (hof : p of = true) : ∀ k, (∀ i, (fewK of p k).testBit i = true → of.testBit i = true) ∧ p (fewK of p k) = true ∧ popN (fewK of p k) ≤ popN of ∧ ∀ j, j < k → (∀ i, j.testBit i = true → of.testBit i = true) → p j = true → popN (fewK of p k) ≤ popN j := by
  intro k
  induction k with
  | zero => exact ⟨fun i h => h, hof, Nat.le_refl _, fun j hj => absurd hj (Nat.not_lt_zero j)⟩
  | succ k ih =>
    obtain ⟨h1, h2, h3, h4⟩ := ih
    unfold fewK
    cases c : fewB of p (fewK of p k) k
    · rw [if_neg (by decide)]
      refine ⟨h1, h2, h3, fun j hj hs hp => ?_⟩
      by_cases hjk : j < k
      · exact h4 j hjk hs hp
      · have e : j = k := by omega
        subst e
        unfold fewB at c
        rw [lessN_0.2 hs, hp] at c
        cases hb : befB j (fewK of p j)
        · exact befB_pop.2 hb
        · rw [hb] at c; cases c
    · rw [if_pos rfl]
      unfold fewB at c
      rw [Bool.and_eq_true, Bool.and_eq_true] at c
      obtain ⟨c1, c2, c3⟩ := c
      have c1' : lessN k of = 0 := by have := eq_of_beq c1; omega
      have hb := befB_pop.1 c2
      refine ⟨lessN_0.1 c1', c3, by omega, fun j hj hs hp => ?_⟩
      by_cases hjk : j < k
      · have := h4 j hjk hs hp; omega
      · have e : j = k := by omega
        subst e
        exact Nat.le_refl _
theorem fewV_facts {of : Nat} {p : Nat → Bool} (hof : p of = true) : (∀ i, (fewV of p).testBit i = true → of.testBit i = true) ∧ p (fewV of p) = true ∧ ∀ j, (∀ i, j.testBit i = true → of.testBit i = true) → p j = true → popN (fewV of p) ≤ popN j := by
  obtain ⟨h1, h2, h3, h4⟩ := fewK_facts hof of
  refine ⟨h1, h2, fun j hs hp => ?_⟩
  have hl := sub_le hs
  by_cases e : j = of
  · subst e; exact h3
  · exact h4 j (by omega) hs hp
theorem id_inj {r : List Rcd} (hn : (idsR r).Nodup) {i k : Nat} {x : Rcd} (hx : r[k]? = some x) (hi : i < r.length) (e : idA r i = x.id) : i = k := by
  have hy : r[i]? = some r[i] := List.getElem?_eq_getElem hi
  rw [idA_get hy] at e
  refine (List.getElem?_inj (by unfold idsR; rw [List.length_map]; exact hi) hn).1 ?_
  rw [idsR_get hy, idsR_get hx, e]
theorem mem_bit {r : List Rcd} (hn : (idsR r).Nodup) {k : Nat} {x : Rcd} (hx : r[k]? = some x) (S : Nat) : memB r S x.id = S.testBit k := by
  have hk := (List.getElem?_eq_some_iff.1 hx).1
  have hb : ∀ i, (S &&& sV r x.id r.length).testBit i = (S.testBit i && decide (i = k)) := by
    intro i
    unfold sV
    rw [Nat.testBit_and, setN_bit]
    congr 1
    unfold isA
    by_cases e : i = k
    · subst e; rw [decide_eq_true hk, idA_get hx]; simp
    · rw [decide_eq_false e]
      by_cases hi : i < r.length
      · rw [decide_eq_false (fun h => e (id_inj hn hx hi h)), Bool.and_false]
      · rw [decide_eq_false hi, Bool.false_and]
  unfold memB
  cases h : S.testBit k
  · have e0 : S &&& sV r x.id r.length = 0 := by
      refine Nat.eq_of_testBit_eq fun i => ?_
      rw [hb, Nat.zero_testBit]
      by_cases e : i = k
      · subst e; rw [h]; rfl
      · rw [decide_eq_false e, Bool.and_false]
    rw [e0]; rfl
  · have h1 := hb k
    rw [h, decide_eq_true rfl] at h1
    refine bne_iff_ne.2 fun h2 => ?_
    have h3 : S &&& sV r x.id r.length = 0 := by omega
    rw [h3, Nat.zero_testBit] at h1
    cases h1
theorem ids_bit {r : List Rcd} (hn : (idsR r).Nodup) {k : Nat} {x : Rcd} (hx : r[k]? = some x) (S : Nat) : (idsOf r S).contains x.id = S.testBit k := by
  have hk := (List.getElem?_eq_some_iff.1 hx).1
  rw [Bool.eq_iff_iff, List.contains_iff_mem]
  unfold idsOf
  rw [List.mem_map]
  constructor
  · rintro ⟨i, hi, e⟩
    rw [List.mem_filter, List.mem_range] at hi
    have e2 := id_inj hn hx hi.1 e
    subst e2
    exact hi.2
  · intro h
    exact ⟨k, by rw [List.mem_filter, List.mem_range]; exact ⟨hk, h⟩, idA_get hx⟩
theorem stands_on {so so' : Int → Bool} {ws : List (List Int)} (h : ∀ w ∈ ws, ∀ v ∈ w, so v = true → so' v = true) (hs : standsB so ws = true) : standsB so' ws = true := by
  unfold standsB at *
  rw [Bool.or_eq_true] at *
  rcases hs with hs | hs
  · exact .inl hs
  · refine .inr ?_
    obtain ⟨w, hw, ha⟩ := List.any_eq_true.1 hs
    exact List.any_eq_true.2 ⟨w, hw, List.all_eq_true.2 fun v hv => h w hw v hv (List.all_eq_true.1 ha v hv)⟩
theorem whole_held {r : List Rcd} (hr : recsB r = true) {S : Nat} (hw : wholeV r S = true) : ∀ k x, r[k]? = some x → (heldV (fun i => !(idsOf r S).contains i) [] r).contains x.id = S.testBit k := by
  have hn := (recs_nodup hr).1
  intro k
  induction k using Nat.strongRecOn with
  | _ k ih =>
    intro x hx
    have hxm := List.mem_of_getElem? hx
    have hi : x.id ∈ heldV (fun i => !(idsOf r S).contains i) [] r ↔ (!(idsOf r S).contains x.id) = false ∧ standsB (fun i => (heldV (fun i => !(idsOf r S).contains i) [] r).contains i) x.ways = true := held_iff hr _ hxm
    rw [ids_bit hn hx] at hi
    rw [Bool.eq_iff_iff, List.contains_iff_mem, hi]
    constructor
    · rintro ⟨h, _⟩; simpa using h
    · intro h
      refine ⟨by rw [h]; rfl, ?_⟩
      unfold wholeV at hw
      have h2 := allI_iff.1 hw k x hx
      unfold wholeI at h2
      rw [h, Bool.not_true, Bool.false_or] at h2
      refine stands_on (fun w hw v hv hs => ?_) h2
      obtain ⟨j, y, hj, hy, e, _⟩ := ref_at hr hx hw hv
      subst e
      rw [mem_bit hn hy] at hs
      rw [ih j hj y hy, hs]
theorem held_whole {r : List Rcd} (hr : recsB r = true) (g : Int → Bool) : wholeV r (setK g r r.length) = true := by
  have hn := (recs_nodup hr).1
  have hb : ∀ {k : Nat} {x : Rcd}, r[k]? = some x → (setK g r r.length).testBit k = (heldV g [] r).contains x.id := fun {k x} hx => by
    unfold setK
    rw [setN_bit, decide_eq_true (List.getElem?_eq_some_iff.1 hx).1, idA_get hx]; rfl
  unfold wholeV
  refine allI_iff.2 fun k x hx => ?_
  unfold wholeI
  rw [hb hx]
  cases h : (heldV g [] r).contains x.id
  · rfl
  · rw [Bool.not_true, Bool.false_or]
    have h2 := ((held_iff hr g (List.mem_of_getElem? hx)).1 (List.contains_iff_mem.1 h)).2
    refine stands_on (fun w hw v hv hs => ?_) h2
    obtain ⟨j, y, hj, hy, e, _⟩ := ref_at hr hx hw hv
    subst e
    rw [mem_bit hn hy, hb hy]; exact hs
theorem setK_bit (g : Int → Bool) {r : List Rcd} {k : Nat} {x : Rcd} (hx : r[k]? = some x) : (setK g r r.length).testBit k = (heldV g [] r).contains x.id := by
  unfold setK
  rw [setN_bit, decide_eq_true (List.getElem?_eq_some_iff.1 hx).1, idA_get hx]; rfl
theorem range_split (n : Nat) (p : Nat → Bool) : ∀ m, n ≤ m → (∀ i, n ≤ i → p i = false) → (List.range m).countP p = (List.range n).countP p := by
  intro m
  induction m with
  | zero => intro h _; have : n = 0 := by omega
            subst this; rfl
  | succ m ih =>
    intro h hp
    by_cases e : n = m + 1
    · subst e; rfl
    · rw [List.range_succ, List.countP_append, ih (by omega) hp]
      simp [hp m (by omega)]
theorem idsOf_pop {r : List Rcd} {S : Nat} (hr : r.length ≤ 12) (hS : S < 2 ^ r.length) : (idsOf r S).length = popN S := by
  unfold idsOf popN
  rw [List.length_map, ← List.countP_eq_length_filter]
  refine (range_split r.length (fun i => S.testBit i) 12 hr fun i hi => ?_).symm
  exact Nat.testBit_lt_two_pow (Nat.lt_of_lt_of_le hS (Nat.pow_le_pow_right (by omega) hi))
theorem set_nil : APure Tryz.prog 14 [.nil] (.tup [.imap (entsO []), .bool true]) := by
  refine APure.vcM Tryz.func14 .loop rfl rfl ?_
  intro g hn hlo
  replace hn : g.n = 30 := hn
  replace hlo : g.low 0 := hlo
  refine acode_whileW (fun _ : Nat => ⟨[(0, .nil), (4, .mref 0), (8, .nil), (9, .int .i64 0), (10, .int .i64 0)], [(0, .map (entsO []))], 1⟩) (fun _ => True) (fun k => k) 0 trivial ?_ ?_
  · exact Wk.le (St.le.of ⟨by kernel_rfl, rfl, by kernel_rfl, rfl, by kernel_rfl, rfl, by kernel_rfl, rfl, by kernel_rfl, rfl, trivial⟩ ⟨by kernel_rfl, (by decide : (0 : Nat) < 1), rfl, trivial⟩) (hlo.mono (Nat.zero_le _))
  · intro k _
    have hv : thawL (hget [(0, .map (entsO []))]) [.mref 0, .bool true] = some ([.imap (entsO []), .bool true], [0]) := by rfl
    exact ACode.vcM .nil hn hlo (.roundW .cl) ⟨_, .refl _, .nil, [0], by kernel_rfl⟩
theorem thawL_bools {h : Nat → Option AObj} {i n : Nat} {r : List Rcd} {l : List Bool} (hn : n = l.length) (h0 : h i = some (.cells (boL l))) : thawL h [encRs r, .rsl i 0 n 1] = some ([encRs r, encBs l], [i]) := by
  subst hn
  have t1 : thaw 8 h (encRs r) = some (encRs r, []) := by unfold thaw; exact if_pos rfl
  have t2 := thaw_fl 6 (h := h) (id := i) (enc := encBo) (n := 1) (l := l) (fun _ => rfl) (fun _ => rfl) h0
  simp only [thawL, mapO, t1, t2]
  rfl
theorem lookE {h : Nat → Option AObj} {L : List Int} {W : Int → Bool} (hL : ∀ i, L.contains i = W i) (x : Int) : (aLookup Tryz.prog h 36 (.imap (entsO L)) (.int .i64 x) false).map (fun v => (⟨v, []⟩ : Out)) = some ⟨.bool (W x), []⟩ := by rw [lookD, hL]
/-- The bit of a number that a record's place has. -/
def shO (other k : Nat) : Int := (other : Int).fdiv (2 ^ (min ((k : Nat) : Int).toNat IntKind.u16.bits))
def bitO (other k : Nat) : Bool := IntKind.u16.wrap (BitVec.ofInt IntKind.u16.bits (shO other k) &&& BitVec.ofInt IntKind.u16.bits 1).toNat == 0
/-- What the law asks of what is told. -/
structure EnF (r : List Rcd) (m other : Nat) (H T : List Int) (W B : Int → Bool) (Lg Ls Hg Hs : List Bool) : Prop where
  h : ∀ i, H.contains i = W i
  t : ∀ i, T.contains i = B i
  less : ∀ i, B i = true → W i = true
  lg : Lg.length = r.length
  ls : Ls.length = r.length
  g : ∀ (k : Nat) (x : Rcd), r[k]? = some x → Lg[k]? = some (!B x.id)
  s : ∀ (k : Nat) (x : Rcd), r[k]? = some x → Ls[k]? = some (!W x.id || bitO other k)
  hg : ∀ (k : Nat) (x : Rcd), r[k]? = some x → Hg[k]? = some (B x.id)
  hs : ∃ b, Hs[m]? = some b ∧ ((Ls.countP fun b => !b) < T.length → b = false)
theorem cnt_succ {L : List Bool} {k : Nat} {b : Bool} (h : L[k]? = some b) : ((L.take (k + 1)).countP fun b => !b) = ((L.take k).countP fun b => !b) + (bif b then 0 else 1) := by
  rw [List.take_add_one, h, List.countP_append]
  cases b <;> rfl
theorem enough_core (r : List Rcd) (l : List Ltr) (n which other : Nat) (d : Int) (x0 : Rcd) (H T : List Int) (W B : Int → Bool) (m : Nat) (Lg Ls Hg Hs : List Bool) (hf : EnF r m other H T W B Lg Ls Hg Hs) (hr12 : r.length ≤ 12)
    (sA : APure Tryz.prog 9 [] (.bool true)) (sR : APure Tryz.prog 10 [encRs r, encLs l] (.bool true)) (d39 : (((r.map cRc).length : Int) == 0) = false)
    (sD : APure Tryz.prog 11 [encLs l, .int .u32 (n : Int)] (.int .i64 d))
    (v48 : some (⟨.int .i64 (IntKind.i64.wrap (which : Int)), []⟩ : Out) = some ⟨.int .i64 (which : Int), []⟩)
    (hm : (which : Int).tmod ((r.map cRc).length : Int) = (m : Int)) (hx0 : r[m]? = some x0)
    (hne : ((r.map cRc).length : Int) ≠ 0)
    (w0 : W x0.id = true) (b0 : B x0.id = true)
    (sH : APureF Tryz.prog 12 [encRs r, encLs l, .int .i64 d] (.tup [encR H, .int .i64 0]))
    (sT : APureF Tryz.prog 17 [encRs r, encLs l, .int .i64 d, .int .i64 x0.id] (.tup [encR T, .int .i64 0]))
    (sSH : APure Tryz.prog 14 [encR H] (.tup [.imap (entsO H), .bool true]))
    (sST : APure Tryz.prog 14 [encR T] (.tup [.imap (entsO T), .bool true]))
    (sHg : APureF Tryz.prog 18 [encRs r, encBs Lg] (encBs Hg))
    (sHs : APureF Tryz.prog 18 [encRs r, encBs Ls] (encBs Hs)) :
    APure Tryz.prog 5 [encRs r, encLs l, .int .u32 (n : Int), .int .u8 (which : Int), .int .u16 (other : Int)] (.bool true) := by
  refine APure.intro Tryz.func5 rfl rfl rfl fun g hn hlo => ?_
  replace hn : g.n = 213 := hn
  replace hlo : g.low 0 := hlo
  have hrl : (r.map cRc).length = r.length := List.length_map _
  have ix0 : 0 ≤ (which : Int).tmod ((r.map cRc).length : Int) ∧ (r.map cRc)[((which : Int).tmod ((r.map cRc).length : Int)).toNat]? = some (cRc x0) := by rw [hm]; exact idx hx0
  have lk98 := lookE (h := hget []) hf.h x0.id
  have lk121 := lookE (h := hget []) hf.t x0.id
  rw [w0] at lk98
  rw [b0] at lk121
  have mk1 := mk_bools (id := 12) (len := (r.map cRc).length) (by omega)
  have mk2 := mk_bools (id := 15) (len := (r.map cRc).length) (by omega)
  have em : AV.int .i64 ((which : Int).tmod ((r.map cRc).length : Int)) = .int .i64 (m : Int) := by rw [hm]
  have eg0 : some (AObj.cells (boL (List.replicate (r.map cRc).length false))) = some (.cells (boL (bK Lg r.length 0))) := by rw [hrl]; rfl
  have es0 : some (AObj.cells (boL (List.replicate (r.map cRc).length false))) = some (.cells (boL (bK Ls r.length 0))) := by rw [hrl]; rfl
  refine ACode.cut 12 (fun _ : Unit => ⟨[(0, encRs r), (4, .int .u16 (other : Int)), (11, .bool true), (13, .int .i64 (m : Int)), (16, encR T), (18, .imap (entsO H)), (20, .imap (entsO T)), (22, .rsl 12 0 (r.map cRc).length 1), (23, .rsl 15 0 (r.map cRc).length 1), (24, .int .i64 0)], [(12, .cells (boL (bK Lg r.length 0))), (15, .cells (boL (bK Ls r.length 0)))], 18⟩) (fun _ => True)
    (.call (.bool true) <| .call (.bool true) <| .br 39 false <| .draw 9 <| .call (.int .i64 d) <| .val 48 (.int .i64 (which : Int)) [] <| .nz <| .lent (.tup [encR H, .int .i64 0]) [] <| .cells (cRc x0) <| .lent (.tup [encR T, .int .i64 0]) [] <| .call (.tup [.imap (entsO H), .bool true]) <| .call (.tup [.imap (entsO T), .bool true]) <| .cells (cRc x0) <| .val 98 (.bool true) [] <| .cells (cRc x0) <| .val 121 (.bool true) [] <| .draw 7 <| .val 125 (.rsl 12 0 (r.map cRc).length 1) [(12, some (.cells (boL (List.replicate (r.map cRc).length false))))] <| .val 128 (.rsl 15 0 (r.map cRc).length 1) [(15, some (.cells (boL (List.replicate (r.map cRc).length false))))] .nil) hn hlo .ret rfl
    ⟨sA, sR, d39, by kernel_rfl, mixed, by kernel_rfl, sD, Eq.trans (by kernel_rfl) v48, hne, by kernel_rfl, ⟨_, by kernel_rfl, .inr sH⟩, ix0, ⟨_, by kernel_rfl, .inr sT⟩, sSH, sST, ix0, Eq.trans (by kernel_rfl) lk98, ix0, Eq.trans (by kernel_rfl) lk121, by kernel_rfl, mixed, by kernel_rfl, Eq.trans (by kernel_rfl) mk1, Eq.trans (by kernel_rfl) mk2, by kernel_rfl, (), trivial, Wk.le (St.le.of ⟨by kernel_rfl, rfl, by kernel_rfl, rfl, by kernel_rfl, rfl, Eq.trans (by kernel_rfl) em, rfl, by kernel_rfl, rfl, by kernel_rfl, rfl, by kernel_rfl, rfl, by kernel_rfl, rfl, by kernel_rfl, rfl, by kernel_rfl, rfl, trivial⟩ ⟨Eq.trans (by kernel_rfl) eg0, (by decide : (12 : Nat) < 18), boL_ok _ _, Eq.trans (by kernel_rfl) es0, (by decide : (15 : Nat) < 18), boL_ok _ _, trivial⟩) (hlo.mono (show 0 ≤ 18 by decide))⟩ fun _ _ => ?_
  clear sA sR sD sH sT sSH sST lk98 lk121 mk1 mk2
  have hlo18 : g.low 18 := hlo.mono (show 0 ≤ 18 by decide)
  refine ACode.cut 0 (fun _ : Unit => ⟨[(0, encRs r), (4, .int .u16 (other : Int)), (11, .bool true), (13, .int .i64 (m : Int)), (16, encR T), (18, .imap (entsO H)), (20, .imap (entsO T)), (22, .rsl 12 0 (r.map cRc).length 1), (23, .rsl 15 0 (r.map cRc).length 1), (24, .int .i64 ((Ls.countP fun b => !b : Nat) : Int))], [(12, .cells (boL (Lg))), (15, .cells (boL (Ls)))], 18⟩) (fun _ => True) .loop hn hlo18 .ret rfl ?_ fun _ _ => ?_
  · intro g2 hn2 hlo2
    replace hn2 : g2.n = 213 := hn2
    replace hlo2 : g2.low 18 := hlo2
    refine acode_whileW (fun k : Nat => ⟨[(0, encRs r), (4, .int .u16 (other : Int)), (11, .bool true), (13, .int .i64 (m : Int)), (16, encR T), (18, .imap (entsO H)), (20, .imap (entsO T)), (22, .rsl 12 0 (r.map cRc).length 1), (23, .rsl 15 0 (r.map cRc).length 1), (24, .int .i64 (((Ls.take k).countP fun b => !b : Nat) : Int)), (129, encRs r), (130, .int .i64 ((r.map cRc).length : Int)), (131, .int .i64 k)], [(12, .cells (boL (bK Lg r.length k))), (15, .cells (boL (bK Ls r.length k)))], 18⟩) (fun k => k ≤ r.length) (fun k => r.length - k) 0 (Nat.zero_le _) (Wk.le (St.le.of ⟨by kernel_rfl, rfl, by kernel_rfl, rfl, by kernel_rfl, rfl, by kernel_rfl, rfl, by kernel_rfl, rfl, by kernel_rfl, rfl, by kernel_rfl, rfl, by kernel_rfl, rfl, by kernel_rfl, rfl, by kernel_rfl, rfl, by kernel_rfl, rfl, by kernel_rfl, rfl, by kernel_rfl, rfl, trivial⟩ ⟨by kernel_rfl, (by decide : (12 : Nat) < 18), boL_ok _ _, by kernel_rfl, (by decide : (15 : Nat) < 18), boL_ok _ _, trivial⟩) hlo2) ?_
    intro k hk
    replace hk : k ≤ r.length := hk
    by_cases hlt : k < r.length
    · refine Exists.elim (getE hlt) fun x hx => ?_
      have ek := congrArg (AV.int .i64) (succ64 (k := k) (by omega))
      have lkH := lookE (h := hget []) hf.h x.id
      have lkT := lookE (h := hget []) hf.t x.id
      have hless := hf.less x.id
      have hgk := hf.g k x hx
      have hsk := hf.s k x hx
      have hcn := cnt_succ hsk
      have hct : ((Ls.take k).countP fun b => !b) ≤ k := Nat.le_trans List.countP_le_length (by rw [List.length_take]; exact Nat.min_le_left _ _)
      have ix1 := ixBo (h := hget []) (id := 12) (n := (r.map cRc).length) (k := k) (by omega)
      have ix2 := ixBo (h := hget []) (id := 15) (n := (r.map cRc).length) (k := k) (by omega)
      have bl1 := bK_len (L := Lg) (n := r.length) (k := k) hf.lg (by omega)
      have bl2 := bK_len (L := Ls) (n := r.length) (k := k) hf.ls (by omega)
      have st1 := fun (z : Bool) (hz : Lg[k]? = some z) => (stBo (h := hget [(12, .cells (boL (bK Lg r.length k)))]) (id := 12) (k := k) (l := bK Lg r.length k) (x := z) rfl (by omega)).trans (by rw [bK_set hf.lg hlt hz])
      have st2 := fun (z : Bool) (hz : Ls[k]? = some z) => (stBo (h := hget [(15, .cells (boL (bK Ls r.length k)))]) (id := 15) (k := k) (l := bK Ls r.length k) (x := z) rfl (by omega)).trans (by rw [bK_set hf.ls hlt hz])
      have ld2 := fun (z : Bool) (hz : Ls[k]? = some z) => ldBo (h := hget [(15, .cells (boL (bK Ls r.length (k + 1))))]) (id := 15) (k := k) (l := bK Ls r.length (k + 1)) (x := z) rfl (by
        unfold bK
        rw [List.getElem?_append_left (by rw [List.length_take, hf.ls]; omega), List.getElem?_take_of_lt (by omega), hz])
      have v165 : (if ((k : Nat) : Int) < 0 then none else some (AV.int .u16 ((other : Int).fdiv (2 ^ (min ((k : Nat) : Int).toNat IntKind.u16.bits))))).map (fun v => (⟨v, []⟩ : Out)) = some ⟨.int .u16 (shO other k), []⟩ := by rw [if_neg (by omega)]; rfl
      have e167 : some (⟨.bool (IntKind.u16.wrap (BitVec.ofInt IntKind.u16.bits (shO other k) &&& BitVec.ofInt IntKind.u16.bits 1).toNat == 0), []⟩ : Out) = some ⟨.bool (bitO other k), []⟩ := rfl
      generalize hO : bitO other k = ob at *
      generalize W x.id = w at *
      generalize B x.id = b at *
      generalize ((Ls.take k).countP fun b => !b) = C at *
      have ec := congrArg (AV.int .i64) (succ64 (k := C) (by omega))
      cases b <;> cases w <;> cases ob
      · have hcn : ((Ls.take (k + 1)).countP fun b => !b) = C := hcn
        have ecc : AV.int .i64 (C : Int) = .int .i64 (((Ls.take (k + 1)).countP fun b => !b : Nat) : Int) := by rw [hcn]
        exact ACode.vcM (.br 132 true <| .cells (cRc x) <| .val 139 (.bool false) [] <| .val 152 (.bool false) [] <| .val 154 (.vptr 12 k) [] <| .val 1 .undef [(12, some (.cells (boL (bK Lg r.length (k + 1)))))] <| .val 160 (.bool false) [] <| .val 169 (.vptr 15 k) [] <| .val 1 .undef [(15, some (.cells (boL (bK Ls r.length (k + 1)))))] <| .val 172 (.vptr 15 k) [] <| .val 173 (.bool true) [] .nil) hn2 hlo2 (.roundW .cl) ⟨ltLen hlt, idx hx, Eq.trans (by kernel_rfl) lkT, Eq.trans (by kernel_rfl) lkT, Eq.trans (by kernel_rfl) ix1, Eq.trans (by kernel_rfl) (st1 true hgk), Eq.trans (by kernel_rfl) lkH, Eq.trans (by kernel_rfl) ix2, Eq.trans (by kernel_rfl) (st2 true hsk), Eq.trans (by kernel_rfl) ix2, Eq.trans (by kernel_rfl) (ld2 true hsk), k + 1, hlt, mu1 hlt, Wk.le (St.le.of ⟨by kernel_rfl, rfl, by kernel_rfl, rfl, by kernel_rfl, rfl, by kernel_rfl, rfl, by kernel_rfl, rfl, by kernel_rfl, rfl, by kernel_rfl, rfl, by kernel_rfl, rfl, by kernel_rfl, rfl, Eq.trans (by kernel_rfl) ecc, rfl, by kernel_rfl, rfl, by kernel_rfl, rfl, Eq.trans (by kernel_rfl) ek, rfl, trivial⟩ ⟨by kernel_rfl, (by decide : (12 : Nat) < 18), boL_ok _ _, by kernel_rfl, (by decide : (15 : Nat) < 18), boL_ok _ _, trivial⟩) hlo2⟩
      · have hcn : ((Ls.take (k + 1)).countP fun b => !b) = C := hcn
        have ecc : AV.int .i64 (C : Int) = .int .i64 (((Ls.take (k + 1)).countP fun b => !b : Nat) : Int) := by rw [hcn]
        exact ACode.vcM (.br 132 true <| .cells (cRc x) <| .val 139 (.bool false) [] <| .val 152 (.bool false) [] <| .val 154 (.vptr 12 k) [] <| .val 1 .undef [(12, some (.cells (boL (bK Lg r.length (k + 1)))))] <| .val 160 (.bool false) [] <| .val 169 (.vptr 15 k) [] <| .val 1 .undef [(15, some (.cells (boL (bK Ls r.length (k + 1)))))] <| .val 172 (.vptr 15 k) [] <| .val 173 (.bool true) [] .nil) hn2 hlo2 (.roundW .cl) ⟨ltLen hlt, idx hx, Eq.trans (by kernel_rfl) lkT, Eq.trans (by kernel_rfl) lkT, Eq.trans (by kernel_rfl) ix1, Eq.trans (by kernel_rfl) (st1 true hgk), Eq.trans (by kernel_rfl) lkH, Eq.trans (by kernel_rfl) ix2, Eq.trans (by kernel_rfl) (st2 true hsk), Eq.trans (by kernel_rfl) ix2, Eq.trans (by kernel_rfl) (ld2 true hsk), k + 1, hlt, mu1 hlt, Wk.le (St.le.of ⟨by kernel_rfl, rfl, by kernel_rfl, rfl, by kernel_rfl, rfl, by kernel_rfl, rfl, by kernel_rfl, rfl, by kernel_rfl, rfl, by kernel_rfl, rfl, by kernel_rfl, rfl, by kernel_rfl, rfl, Eq.trans (by kernel_rfl) ecc, rfl, by kernel_rfl, rfl, by kernel_rfl, rfl, Eq.trans (by kernel_rfl) ek, rfl, trivial⟩ ⟨by kernel_rfl, (by decide : (12 : Nat) < 18), boL_ok _ _, by kernel_rfl, (by decide : (15 : Nat) < 18), boL_ok _ _, trivial⟩) hlo2⟩
      · have hcn : ((Ls.take (k + 1)).countP fun b => !b) = C + 1 := hcn
        have ecc : AV.int .i64 (IntKind.i64.wrap ((C : Int) + 1)) = .int .i64 (((Ls.take (k + 1)).countP fun b => !b : Nat) : Int) := by rw [hcn]; exact ec
        exact ACode.vcM (.br 132 true <| .cells (cRc x) <| .val 139 (.bool false) [] <| .val 152 (.bool false) [] <| .val 154 (.vptr 12 k) [] <| .val 1 .undef [(12, some (.cells (boL (bK Lg r.length (k + 1)))))] <| .val 160 (.bool true) [] <| .val 165 (.int .u16 (shO other k)) [] <| .val 167 (.bool false) [] <| .val 169 (.vptr 15 k) [] <| .val 1 .undef [(15, some (.cells (boL (bK Ls r.length (k + 1)))))] <| .val 172 (.vptr 15 k) [] <| .val 173 (.bool false) [] .nil) hn2 hlo2 (.roundW .cl) ⟨ltLen hlt, idx hx, Eq.trans (by kernel_rfl) lkT, Eq.trans (by kernel_rfl) lkT, Eq.trans (by kernel_rfl) ix1, Eq.trans (by kernel_rfl) (st1 true hgk), Eq.trans (by kernel_rfl) lkH, Eq.trans (by kernel_rfl) v165, Eq.trans (by kernel_rfl) e167, Eq.trans (by kernel_rfl) ix2, Eq.trans (by kernel_rfl) (st2 false hsk), Eq.trans (by kernel_rfl) ix2, Eq.trans (by kernel_rfl) (ld2 false hsk), k + 1, hlt, mu1 hlt, Wk.le (St.le.of ⟨by kernel_rfl, rfl, by kernel_rfl, rfl, by kernel_rfl, rfl, by kernel_rfl, rfl, by kernel_rfl, rfl, by kernel_rfl, rfl, by kernel_rfl, rfl, by kernel_rfl, rfl, by kernel_rfl, rfl, Eq.trans (by kernel_rfl) ecc, rfl, by kernel_rfl, rfl, by kernel_rfl, rfl, Eq.trans (by kernel_rfl) ek, rfl, trivial⟩ ⟨by kernel_rfl, (by decide : (12 : Nat) < 18), boL_ok _ _, by kernel_rfl, (by decide : (15 : Nat) < 18), boL_ok _ _, trivial⟩) hlo2⟩
      · have hcn : ((Ls.take (k + 1)).countP fun b => !b) = C := hcn
        have ecc : AV.int .i64 (C : Int) = .int .i64 (((Ls.take (k + 1)).countP fun b => !b : Nat) : Int) := by rw [hcn]
        exact ACode.vcM (.br 132 true <| .cells (cRc x) <| .val 139 (.bool false) [] <| .val 152 (.bool false) [] <| .val 154 (.vptr 12 k) [] <| .val 1 .undef [(12, some (.cells (boL (bK Lg r.length (k + 1)))))] <| .val 160 (.bool true) [] <| .val 165 (.int .u16 (shO other k)) [] <| .val 167 (.bool true) [] <| .val 169 (.vptr 15 k) [] <| .val 1 .undef [(15, some (.cells (boL (bK Ls r.length (k + 1)))))] <| .val 172 (.vptr 15 k) [] <| .val 173 (.bool true) [] .nil) hn2 hlo2 (.roundW .cl) ⟨ltLen hlt, idx hx, Eq.trans (by kernel_rfl) lkT, Eq.trans (by kernel_rfl) lkT, Eq.trans (by kernel_rfl) ix1, Eq.trans (by kernel_rfl) (st1 true hgk), Eq.trans (by kernel_rfl) lkH, Eq.trans (by kernel_rfl) v165, Eq.trans (by kernel_rfl) e167, Eq.trans (by kernel_rfl) ix2, Eq.trans (by kernel_rfl) (st2 true hsk), Eq.trans (by kernel_rfl) ix2, Eq.trans (by kernel_rfl) (ld2 true hsk), k + 1, hlt, mu1 hlt, Wk.le (St.le.of ⟨by kernel_rfl, rfl, by kernel_rfl, rfl, by kernel_rfl, rfl, by kernel_rfl, rfl, by kernel_rfl, rfl, by kernel_rfl, rfl, by kernel_rfl, rfl, by kernel_rfl, rfl, by kernel_rfl, rfl, Eq.trans (by kernel_rfl) ecc, rfl, by kernel_rfl, rfl, by kernel_rfl, rfl, Eq.trans (by kernel_rfl) ek, rfl, trivial⟩ ⟨by kernel_rfl, (by decide : (12 : Nat) < 18), boL_ok _ _, by kernel_rfl, (by decide : (15 : Nat) < 18), boL_ok _ _, trivial⟩) hlo2⟩
      · exact absurd (hless rfl) (by decide)
      · exact absurd (hless rfl) (by decide)
      · have hcn : ((Ls.take (k + 1)).countP fun b => !b) = C + 1 := hcn
        have ecc : AV.int .i64 (IntKind.i64.wrap ((C : Int) + 1)) = .int .i64 (((Ls.take (k + 1)).countP fun b => !b : Nat) : Int) := by rw [hcn]; exact ec
        exact ACode.vcM (.br 132 true <| .cells (cRc x) <| .val 139 (.bool true) [] <| .val 144 (.bool true) [] <| .val 152 (.bool true) [] <| .val 154 (.vptr 12 k) [] <| .val 1 .undef [(12, some (.cells (boL (bK Lg r.length (k + 1)))))] <| .val 160 (.bool true) [] <| .val 165 (.int .u16 (shO other k)) [] <| .val 167 (.bool false) [] <| .val 169 (.vptr 15 k) [] <| .val 1 .undef [(15, some (.cells (boL (bK Ls r.length (k + 1)))))] <| .val 172 (.vptr 15 k) [] <| .val 173 (.bool false) [] .nil) hn2 hlo2 (.roundW .cl) ⟨ltLen hlt, idx hx, Eq.trans (by kernel_rfl) lkT, Eq.trans (by kernel_rfl) lkH, Eq.trans (by kernel_rfl) lkT, Eq.trans (by kernel_rfl) ix1, Eq.trans (by kernel_rfl) (st1 false hgk), Eq.trans (by kernel_rfl) lkH, Eq.trans (by kernel_rfl) v165, Eq.trans (by kernel_rfl) e167, Eq.trans (by kernel_rfl) ix2, Eq.trans (by kernel_rfl) (st2 false hsk), Eq.trans (by kernel_rfl) ix2, Eq.trans (by kernel_rfl) (ld2 false hsk), k + 1, hlt, mu1 hlt, Wk.le (St.le.of ⟨by kernel_rfl, rfl, by kernel_rfl, rfl, by kernel_rfl, rfl, by kernel_rfl, rfl, by kernel_rfl, rfl, by kernel_rfl, rfl, by kernel_rfl, rfl, by kernel_rfl, rfl, by kernel_rfl, rfl, Eq.trans (by kernel_rfl) ecc, rfl, by kernel_rfl, rfl, by kernel_rfl, rfl, Eq.trans (by kernel_rfl) ek, rfl, trivial⟩ ⟨by kernel_rfl, (by decide : (12 : Nat) < 18), boL_ok _ _, by kernel_rfl, (by decide : (15 : Nat) < 18), boL_ok _ _, trivial⟩) hlo2⟩
      · have hcn : ((Ls.take (k + 1)).countP fun b => !b) = C := hcn
        have ecc : AV.int .i64 (C : Int) = .int .i64 (((Ls.take (k + 1)).countP fun b => !b : Nat) : Int) := by rw [hcn]
        exact ACode.vcM (.br 132 true <| .cells (cRc x) <| .val 139 (.bool true) [] <| .val 144 (.bool true) [] <| .val 152 (.bool true) [] <| .val 154 (.vptr 12 k) [] <| .val 1 .undef [(12, some (.cells (boL (bK Lg r.length (k + 1)))))] <| .val 160 (.bool true) [] <| .val 165 (.int .u16 (shO other k)) [] <| .val 167 (.bool true) [] <| .val 169 (.vptr 15 k) [] <| .val 1 .undef [(15, some (.cells (boL (bK Ls r.length (k + 1)))))] <| .val 172 (.vptr 15 k) [] <| .val 173 (.bool true) [] .nil) hn2 hlo2 (.roundW .cl) ⟨ltLen hlt, idx hx, Eq.trans (by kernel_rfl) lkT, Eq.trans (by kernel_rfl) lkH, Eq.trans (by kernel_rfl) lkT, Eq.trans (by kernel_rfl) ix1, Eq.trans (by kernel_rfl) (st1 false hgk), Eq.trans (by kernel_rfl) lkH, Eq.trans (by kernel_rfl) v165, Eq.trans (by kernel_rfl) e167, Eq.trans (by kernel_rfl) ix2, Eq.trans (by kernel_rfl) (st2 true hsk), Eq.trans (by kernel_rfl) ix2, Eq.trans (by kernel_rfl) (ld2 true hsk), k + 1, hlt, mu1 hlt, Wk.le (St.le.of ⟨by kernel_rfl, rfl, by kernel_rfl, rfl, by kernel_rfl, rfl, by kernel_rfl, rfl, by kernel_rfl, rfl, by kernel_rfl, rfl, by kernel_rfl, rfl, by kernel_rfl, rfl, by kernel_rfl, rfl, Eq.trans (by kernel_rfl) ecc, rfl, by kernel_rfl, rfl, by kernel_rfl, rfl, Eq.trans (by kernel_rfl) ek, rfl, trivial⟩ ⟨by kernel_rfl, (by decide : (12 : Nat) < 18), boL_ok _ _, by kernel_rfl, (by decide : (15 : Nat) < 18), boL_ok _ _, trivial⟩) hlo2⟩
    · have hk' : k = r.length := by omega
      have eg : some (AObj.cells (boL (bK Lg r.length k))) = some (.cells (boL Lg)) := by rw [hk', bK_all hf.lg]
      have es : some (AObj.cells (boL (bK Ls r.length k))) = some (.cells (boL Ls)) := by rw [hk', bK_all hf.ls]
      have ec : AV.int .i64 (((Ls.take k).countP fun b => !b : Nat) : Int) = .int .i64 ((Ls.countP fun b => !b : Nat) : Int) := by rw [hk', ← hf.ls, List.take_length]
      exact ACode.vcM (.br 132 false .nil) hn2 hlo2 (.roundW .cl) ⟨geLen hlt, _, .refl _, .nil, (), trivial, Wk.le (St.le.of ⟨by kernel_rfl, rfl, by kernel_rfl, rfl, by kernel_rfl, rfl, by kernel_rfl, rfl, by kernel_rfl, rfl, by kernel_rfl, rfl, by kernel_rfl, rfl, by kernel_rfl, rfl, by kernel_rfl, rfl, Eq.trans (by kernel_rfl) ec, rfl, trivial⟩ ⟨Eq.trans (by kernel_rfl) eg, (by decide : (12 : Nat) < 18), boL_ok _ _, Eq.trans (by kernel_rfl) es, (by decide : (15 : Nat) < 18), boL_ok _ _, trivial⟩) hlo18⟩
  have tlg := thawL_bools (h := hget [(12, .cells (boL (Lg))), (15, .cells (boL (Ls)))]) (i := 12) (n := (r.map cRc).length) (r := r) (l := Lg) (by rw [hrl, hf.lg]) rfl
  have tls := thawL_bools (h := hget [(12, .cells (boL (Lg))), (15, .cells (boL (Ls)))]) (i := 15) (n := (r.map cRc).length) (r := r) (l := Ls) (by rw [hrl, hf.ls]) rfl
  refine ACode.cut 0 (fun _ : Unit => ⟨[(0, encRs r), (4, .int .u16 (other : Int)), (11, .bool true), (13, .int .i64 (m : Int)), (16, encR T), (18, .imap (entsO H)), (20, .imap (entsO T)), (22, .rsl 12 0 (r.map cRc).length 1), (23, .rsl 15 0 (r.map cRc).length 1), (24, .int .i64 ((Ls.countP fun b => !b : Nat) : Int)), (27, encBs Hg)], [(12, .cells (boL (Lg))), (15, .cells (boL (Ls)))], 18⟩) (fun _ => True) (.lent (encBs Hg) [12] .nil) hn hlo18 .ret rfl ⟨⟨_, Eq.trans (by kernel_rfl) tlg, .inr sHg⟩, (), trivial, Wk.le (St.le.of ⟨by kernel_rfl, rfl, by kernel_rfl, rfl, by kernel_rfl, rfl, by kernel_rfl, rfl, by kernel_rfl, rfl, by kernel_rfl, rfl, by kernel_rfl, rfl, by kernel_rfl, rfl, by kernel_rfl, rfl, by kernel_rfl, rfl, by kernel_rfl, rfl, trivial⟩ ⟨by kernel_rfl, (by decide : (12 : Nat) < 18), boL_ok _ _, by kernel_rfl, (by decide : (15 : Nat) < 18), boL_ok _ _, trivial⟩) hlo18⟩ fun _ _ => ?_
  clear tlg
  refine ACode.cut 0 (fun _ : Unit => ⟨[(0, encRs r), (4, .int .u16 (other : Int)), (11, .bool true), (13, .int .i64 (m : Int)), (16, encR T), (18, .imap (entsO H)), (20, .imap (entsO T)), (22, .rsl 12 0 (r.map cRc).length 1), (23, .rsl 15 0 (r.map cRc).length 1), (24, .int .i64 ((Ls.countP fun b => !b : Nat) : Int))], [(12, .cells (boL (Lg))), (15, .cells (boL (Ls)))], 18⟩) (fun _ => True) .loop hn hlo18 .ret rfl ?_ fun _ _ => ?_
  · intro g2 hn2 hlo2
    replace hn2 : g2.n = 213 := hn2
    replace hlo2 : g2.low 18 := hlo2
    refine acode_whileW (fun k : Nat => ⟨[(0, encRs r), (4, .int .u16 (other : Int)), (11, .bool true), (13, .int .i64 (m : Int)), (16, encR T), (18, .imap (entsO H)), (20, .imap (entsO T)), (22, .rsl 12 0 (r.map cRc).length 1), (23, .rsl 15 0 (r.map cRc).length 1), (24, .int .i64 ((Ls.countP fun b => !b : Nat) : Int)), (27, encBs Hg), (182, .int .i64 ((r.map cRc).length : Int)), (183, .int .i64 k)], [(12, .cells (boL (Lg))), (15, .cells (boL (Ls)))], 18⟩) (fun k => k ≤ r.length) (fun k => r.length - k) 0 (Nat.zero_le _) (Wk.le (St.le.of ⟨by kernel_rfl, rfl, by kernel_rfl, rfl, by kernel_rfl, rfl, by kernel_rfl, rfl, by kernel_rfl, rfl, by kernel_rfl, rfl, by kernel_rfl, rfl, by kernel_rfl, rfl, by kernel_rfl, rfl, by kernel_rfl, rfl, by kernel_rfl, rfl, by kernel_rfl, rfl, by kernel_rfl, rfl, trivial⟩ ⟨by kernel_rfl, (by decide : (12 : Nat) < 18), boL_ok _ _, by kernel_rfl, (by decide : (15 : Nat) < 18), boL_ok _ _, trivial⟩) hlo2) ?_
    intro k hk
    replace hk : k ≤ r.length := hk
    by_cases hlt : k < r.length
    · refine Exists.elim (getE hlt) fun x hx => ?_
      have ek := congrArg (AV.int .i64) (succ64 (k := k) (by omega))
      have hgk := hf.g k x hx
      have hhk := hf.hg k x hx
      have ix1 := ixBo (h := hget []) (id := 12) (n := (r.map cRc).length) (k := k) (by omega)
      have ld1 := ldBo (h := hget [(12, .cells (boL Lg))]) (id := 12) rfl hgk
      generalize B x.id = b at *
      cases b
      · exact ACode.vcM (.br 184 true <| .draw 9 <| .cells (encBo false) <| .val 192 (.vptr 12 k) [] <| .val 193 (.bool true) [] .nil) hn2 hlo2 (.roundW .cl) ⟨ltLen hlt, by kernel_rfl, mixed, by kernel_rfl, idx hhk, Eq.trans (by kernel_rfl) ix1, Eq.trans (by kernel_rfl) ld1, by kernel_rfl, k + 1, hlt, mu1 hlt, Wk.le (St.le.of ⟨by kernel_rfl, rfl, by kernel_rfl, rfl, by kernel_rfl, rfl, by kernel_rfl, rfl, by kernel_rfl, rfl, by kernel_rfl, rfl, by kernel_rfl, rfl, by kernel_rfl, rfl, by kernel_rfl, rfl, by kernel_rfl, rfl, by kernel_rfl, rfl, by kernel_rfl, rfl, Eq.trans (by kernel_rfl) ek, rfl, trivial⟩ ⟨by kernel_rfl, (by decide : (12 : Nat) < 18), boL_ok _ _, by kernel_rfl, (by decide : (15 : Nat) < 18), boL_ok _ _, trivial⟩) hlo2⟩
      · exact ACode.vcM (.br 184 true <| .draw 9 <| .cells (encBo true) <| .val 192 (.vptr 12 k) [] <| .val 193 (.bool false) [] .nil) hn2 hlo2 (.roundW .cl) ⟨ltLen hlt, by kernel_rfl, mixed, by kernel_rfl, idx hhk, Eq.trans (by kernel_rfl) ix1, Eq.trans (by kernel_rfl) ld1, by kernel_rfl, k + 1, hlt, mu1 hlt, Wk.le (St.le.of ⟨by kernel_rfl, rfl, by kernel_rfl, rfl, by kernel_rfl, rfl, by kernel_rfl, rfl, by kernel_rfl, rfl, by kernel_rfl, rfl, by kernel_rfl, rfl, by kernel_rfl, rfl, by kernel_rfl, rfl, by kernel_rfl, rfl, by kernel_rfl, rfl, by kernel_rfl, rfl, Eq.trans (by kernel_rfl) ek, rfl, trivial⟩ ⟨by kernel_rfl, (by decide : (12 : Nat) < 18), boL_ok _ _, by kernel_rfl, (by decide : (15 : Nat) < 18), boL_ok _ _, trivial⟩) hlo2⟩
    · exact ACode.vcM (.br 184 false .nil) hn2 hlo2 (.roundW .cl) ⟨geLen hlt, _, .refl _, .nil, (), trivial, Wk.le (St.le.of ⟨by kernel_rfl, rfl, by kernel_rfl, rfl, by kernel_rfl, rfl, by kernel_rfl, rfl, by kernel_rfl, rfl, by kernel_rfl, rfl, by kernel_rfl, rfl, by kernel_rfl, rfl, by kernel_rfl, rfl, by kernel_rfl, rfl, trivial⟩ ⟨by kernel_rfl, (by decide : (12 : Nat) < 18), boL_ok _ _, by kernel_rfl, (by decide : (15 : Nat) < 18), boL_ok _ _, trivial⟩) hlo18⟩
  · refine Exists.elim hf.hs fun hb hhb => ?_
    cases c203 : decide (((Ls.countP fun b => !b : Nat) : Int) ≥ ((T.map encI).length : Int))
    · have hlt : (Ls.countP fun b => !b) < T.length := by
        have := of_decide_eq_false c203
        rw [List.length_map] at this
        omega
      have hb0 := hhb.2 hlt
      have ixm := hhb.1
      rw [hb0] at ixm
      exact ACode.vcM (.br 203 false <| .lent (encBs Hs) [15] <| .cells (encBo false) .nil) hn hlo18 .ret ⟨c203, ⟨_, Eq.trans (by kernel_rfl) tls, .inr sHs⟩, idx ixm, trivial, rfl⟩
    · exact ACode.vcM (.br 203 true .nil) hn hlo18 .ret ⟨c203, trivial, rfl⟩
theorem ids_mem {r : List Rcd} {S : Nat} {i : Int} (h : (idsOf r S).contains i = true) : ∃ (k : Nat) (x : Rcd), r[k]? = some x ∧ x.id = i ∧ S.testBit k = true := by
  have h1 := List.contains_iff_mem.1 h
  unfold idsOf at h1
  obtain ⟨k, hk, e⟩ := List.mem_map.1 h1
  rw [List.mem_filter, List.mem_range] at hk
  have hx : r[k]? = some r[k] := List.getElem?_eq_getElem hk.1
  exact ⟨k, r[k], hx, by rw [← e, idA_get hx], hk.2⟩
/-- A list of what is so, by the Ids. -/
def gL (r : List Rcd) (L : List Bool) (i : Int) : Bool := L.getD (fndV (isId i) r).toNat false
theorem gL_at {r : List Rcd} (hn : (idsR r).Nodup) {L : List Bool} {k : Nat} {x : Rcd} (hx : r[k]? = some x) : gL r L x.id = L.getD k false := by
  have e : fndV (isId x.id) r = (k : Int) := by
    refine fndV_hit hx ?_ (by unfold isId; simp)
    intro z hz
    have h3 := (nodup_at hn (idsR_get hx)).1
    unfold isId
    refine beq_eq_false_iff_ne.2 fun h4 => h3 ?_
    rw [← h4]
    unfold idsR
    rw [← List.map_take]
    exact List.mem_map_of_mem hz
  unfold gL
  rw [e, Int.toNat_natCast]
theorem goB_of {r : List Rcd} (hn : (idsR r).Nodup) {L : List Bool} (hL : L.length = r.length) : goB (gL r L) r = L := by
  refine List.ext_getElem? fun k => ?_
  unfold goB
  rw [List.getElem?_map]
  by_cases hk : k < r.length
  · have hx : r[k]? = some r[k] := List.getElem?_eq_getElem hk
    rw [hx, Option.map_some, gL_at hn hx, List.getD_eq_getElem?_getD, List.getElem?_eq_getElem (by omega)]
    rfl
  · rw [List.getElem?_eq_none (by omega), List.getElem?_eq_none (by omega)]; rfl
theorem law_enough (r : List Rcd) (l : List Ltr) (n : Nat) (which other : Nat) (hn32 : n < 4294967296) (hw8 : which < 256) : APure Tryz.prog 5 [encRs r, encLs l, .int .u32 (n : Int), .int .u8 (which : Int), .int .u16 (other : Int)] (.bool true) := by
  have sA := alive_spec
  have sR := ready_spec r l
  cases h1 : readyB r l
  · rw [h1] at sR
    exact APure.vc Tryz.func5 rfl (.call (.bool true) <| .call (.bool false) .nil) rfl rfl ⟨sA, sR, trivial, rfl⟩
  rw [h1] at sR
  have hlen : ((r.map cRc).length : Int) = r.length := by rw [List.length_map]
  by_cases h0 : r.length = 0
  · have d39 : (((r.map cRc).length : Int) == 0) = true := by rw [hlen, h0]; rfl
    exact APure.vc Tryz.func5 rfl (.call (.bool true) <| .call (.bool true) <| .br 39 true .nil) rfl rfl ⟨sA, sR, d39, trivial, rfl⟩
  have d39 : (((r.map cRc).length : Int) == 0) = false := by rw [hlen]; exact beq_eq_false_iff_ne.2 (by omega)
  have hck : checkV r l = 0 := by
    unfold readyB at h1
    rw [Bool.and_eq_true] at h1
    exact of_decide_eq_true h1.2
  obtain ⟨hR, hL⟩ := check_0 hck
  have hnd := (recs_nodup hR).1
  have hr12 := (recs_nodup hR).2.2
  have hl20 := lets_len hL
  have hLd : ∀ x ∈ l, (0 ≤ x.day ∧ x.day ≤ 100000) ∧ (0 ≤ x.id ∧ x.id ≤ 9999) := fun x hx => by
    simp only [letsB, Bool.and_eq_true, List.all_eq_true] at hL
    have h2 := hL.2 x hx
    simp only [letB, Bool.and_eq_true, inB_iff] at h2
    exact ⟨h2.1.1, incF_lt hL.1.2 x.id (List.mem_map.2 ⟨x, hx, rfl⟩)⟩
  have sD := day_spec l n hn32 (by omega) fun x hx => (hLd x hx).1
  have hdr := dayV_rng l n
  generalize dayV l n = d at *
  obtain ⟨m, hmd⟩ : ∃ m, m = which % r.length := ⟨_, rfl⟩
  have hml : m < r.length := by rw [hmd]; exact Nat.mod_lt _ (by omega)
  refine Exists.elim (getE hml) fun x0 hx0 => ?_
  have hx0m := List.mem_of_getElem? hx0
  have v48 : some (⟨.int .i64 (IntKind.i64.wrap (which : Int)), []⟩ : Out) = some ⟨.int .i64 (which : Int), []⟩ := by rw [wrap64 (by omega) (by omega)]
  have hm : (which : Int).tmod ((r.map cRc).length : Int) = (m : Int) := by rw [hlen, hmd]; rfl
  have ix0 : 0 ≤ (which : Int).tmod ((r.map cRc).length : Int) ∧ (r.map cRc)[((which : Int).tmod ((r.map cRc).length : Int)).toNat]? = some (cRc x0) := by rw [hm]; exact idx hx0
  have hne : ((r.map cRc).length : Int) ≠ 0 := by rw [hlen]; omega
  have hday : dayE r l d = 0 := by unfold dayE; rw [if_pos hck, if_pos (inB_iff.2 hdr)]
  have hidm : (idsR r).contains x0.id = true := List.contains_iff_mem.2 (List.mem_map.2 ⟨x0, hx0m, rfl⟩)
  have hwith : withE r l d x0.id = 0 := by unfold withE; rw [if_pos hday, if_pos hidm]
  have sH := Holds_ok r l d
  rw [hday] at sH
  have sT := Rests_ok r l d x0.id
  unfold restE at sT
  rw [if_pos hwith] at sT
  have sSH := set_spec (holdsV r l d) (holds_sorted hR l d) (by have := filt_len (r := r) (fun i => (heldV (goneV l d) [] r).contains i); unfold holdsV; omega)
  cases hw0 : (heldV (goneV l d) [] r).contains x0.id
  · rw [hw0] at sT
    have sT : APureF Tryz.prog 17 [encRs r, encLs l, .int .i64 d, .int .i64 x0.id] (.tup [.nil, .int .i64 8]) := sT
    have lk98 := lookE (h := hget []) (fun i => holds_has r l d i) x0.id
    have w0 : heldW r l d x0.id = false := hw0
    rw [w0] at lk98
    refine APure.intro Tryz.func5 rfl rfl rfl fun g hn hlo => ?_
    exact ACode.vcM (.call (.bool true) <| .call (.bool true) <| .br 39 false <| .draw 9 <| .call (.int .i64 d) <| .val 48 (.int .i64 (which : Int)) [] <| .nz <| .lent (.tup [encR (holdsV r l d), .int .i64 0]) [] <| .cells (cRc x0) <| .lent (.tup [.nil, .int .i64 8]) [] <| .call (.tup [.imap (entsO (holdsV r l d)), .bool true]) <| .call (.tup [.imap (entsO []), .bool true]) <| .cells (cRc x0) <| .val 98 (.bool false) [] .nil) hn hlo .ret
      ⟨sA, sR, d39, by kernel_rfl, mixed, by kernel_rfl, sD, Eq.trans (by kernel_rfl) v48, hne, by kernel_rfl, ⟨_, by kernel_rfl, .inr sH⟩, ix0, ⟨_, by kernel_rfl, .inr sT⟩, sSH, set_nil, ix0, Eq.trans (by kernel_rfl) lk98, trivial, rfl⟩
  rw [hw0] at sT
  have sT : APureF Tryz.prog 17 [encRs r, encLs l, .int .i64 d, .int .i64 x0.id] (.tup [encR (restD r l d x0.id), .int .i64 0]) := sT
  -- what it rests on
  obtain ⟨HS, hHS⟩ : ∃ HS, HS = setK (gF (goneL l d r)) r r.length := ⟨_, rfl⟩
  have hb : ∀ (k : Nat) (x : Rcd), r[k]? = some x → HS.testBit k = heldW r l d x.id := fun k x hx => by
    rw [hHS, setK_bit _ hx, held_gone]; rfl
  have hHl : HS < 2 ^ r.length := by rw [hHS]; exact setK_lt _ _ _
  have hHw : wholeV r HS = true := by rw [hHS]; exact held_whole hR _
  have hof : restP r (sV r x0.id r.length) HS = true := by
    have h2 : memB r HS x0.id = true := by rw [mem_bit hnd hx0, hb m x0 hx0]; exact hw0
    unfold restP
    rw [hHw, Bool.and_true]; exact h2
  obtain ⟨f1, f2, f3⟩ := fewV_facts hof
  have hTd : restD r l d x0.id = idsOf r (fewV HS (restP r (sV r x0.id r.length))) := by unfold restD restS; rw [hHS]
  generalize fewV HS (restP r (sV r x0.id r.length)) = S at *
  unfold restP at f2
  rw [Bool.and_eq_true] at f2
  have hSm : S.testBit m = true := by rw [← mem_bit hnd hx0]; exact f2.1
  have hSl : S < 2 ^ r.length := Nat.lt_of_le_of_lt (sub_le f1) hHl
  rw [hTd] at sT
  have sST := set_spec (idsOf r S) (by
      have e : idsOf r S = (idsR r).filter fun i => (idsOf r S).contains i := by
        have h5 := idsOf_setN r fun i => (idsOf r S).contains i
        rw [← h5]
        congr 1
        refine Nat.eq_of_testBit_eq fun i => ?_
        rw [setN_bit]
        by_cases hi : i < r.length
        · have hx : r[i]? = some r[i] := List.getElem?_eq_getElem hi
          rw [decide_eq_true hi, idA_get hx, ids_bit hnd hx]; rfl
        · rw [decide_eq_false hi]
          exact Nat.testBit_lt_two_pow (Nat.lt_of_lt_of_le hSl (Nat.pow_le_pow_right (by omega) (by omega)))
      rw [e]
      have h6 := hR
      simp only [recsB, Bool.and_eq_true] at h6
      exact (incF_sorted h6.1.2).sublist List.filter_sublist) (by have := idsOf_len r S; omega)
  have sHg := rHold_spec r (fun i => !(idsOf r S).contains i) hR
  obtain ⟨Ls, hLs⟩ : ∃ Ls, Ls = (List.range r.length).map fun k => !heldW r l d (idA r k) || bitO other k := ⟨_, rfl⟩
  have hLl : Ls.length = r.length := by rw [hLs, List.length_map, List.length_range]
  have hLk : ∀ (k : Nat) (x : Rcd), r[k]? = some x → Ls[k]? = some (!heldW r l d x.id || bitO other k) := fun k x hx => by
    have hk := (List.getElem?_eq_some_iff.1 hx).1
    rw [hLs, List.getElem?_map, List.getElem?_range hk, Option.map_some, idA_get hx]
  have sHs := rHold_spec r (gL r Ls) hR
  rw [goB_of hnd hLl] at sHs
  refine enough_core r l n which other d x0 _ _ (heldW r l d) (fun i => (idsOf r S).contains i) m _ Ls _ _ ?_ hr12 sA sR d39 sD v48 hm hx0 hne hw0 (by rw [ids_bit hnd hx0]; exact hSm) sH sT sSH sST sHg sHs
  refine ⟨fun i => holds_has r l d i, fun i => rfl, fun i hi => ?_, List.length_map _, hLl, fun k x hx => ?_, hLk, fun k x hx => ?_, ?_⟩
  · obtain ⟨k, x, hx, e, hbk⟩ := ids_mem hi
    rw [← e, ← hb k x hx]
    exact f1 k hbk
  · unfold goB; rw [List.getElem?_map, hx]; rfl
  · unfold hoB
    rw [List.getElem?_map, hx, Option.map_some, whole_held hR f2.2 k x hx, ids_bit hnd hx]
  · refine ⟨(heldV (gL r Ls) [] r).contains x0.id, by unfold hoB; rw [List.getElem?_map, hx0]; rfl, fun hc => ?_⟩
    cases hh : (heldV (gL r Ls) [] r).contains x0.id
    · rfl
    · exfalso
      have g1 : ∀ i, (setK (gL r Ls) r r.length).testBit i = true → i < r.length ∧ Ls[i]? = some false := fun i hi => by
        have hil : i < r.length := by
          unfold setK at hi
          rw [setN_bit, Bool.and_eq_true] at hi
          exact of_decide_eq_true hi.1
        have hx : r[i]? = some r[i] := List.getElem?_eq_getElem hil
        rw [setK_bit _ hx] at hi
        have h7 := ((held_iff hR _ (List.mem_of_getElem? hx)).1 (List.contains_iff_mem.1 hi)).1
        rw [gL_at hnd hx, List.getD_eq_getElem?_getD, List.getElem?_eq_getElem (by omega)] at h7
        exact ⟨hil, by rw [List.getElem?_eq_getElem (by omega)]; exact congrArg some h7⟩
      have g2 : ∀ i, (setK (gL r Ls) r r.length).testBit i = true → HS.testBit i = true := fun i hi => by
        obtain ⟨hil, e⟩ := g1 i hi
        have hx : r[i]? = some r[i] := List.getElem?_eq_getElem hil
        rw [hLk i _ hx] at e
        rw [hb i _ hx]
        cases hq : heldW r l d (r[i]).id
        · rw [hq] at e; cases e
        · rfl
      have g3 := f3 (setK (gL r Ls) r r.length) g2 (by
        have h2 : memB r (setK (gL r Ls) r r.length) x0.id = true := by rw [mem_bit hnd hx0, setK_bit _ hx0]; exact hh
        unfold restP
        rw [held_whole hR _, Bool.and_true]; exact h2)
      have g4 : popN (setK (gL r Ls) r r.length) ≤ Ls.countP fun b => !b := by
        unfold popN
        rw [range_split r.length _ 12 hr12 fun i hi => Nat.testBit_lt_two_pow (Nat.lt_of_lt_of_le (setK_lt _ _ _) (Nat.pow_le_pow_right (by omega) hi))]
        conv => rhs; rw [hLs]
        rw [List.countP_map]
        refine List.countP_mono_left fun i hi hbi => ?_
        obtain ⟨hil, e⟩ := g1 i hbi
        have hx : r[i]? = some r[i] := List.getElem?_eq_getElem hil
        rw [hLk i _ hx] at e
        show (!(!heldW r l d (idA r i) || bitO other i)) = true
        rw [idA_get hx, Option.some.inj e]; rfl
      have g5 := idsOf_pop hr12 hSl
      omega
end Go.Proofs.YtepbiedolkghhaaGreat
