import Derived.Test.YtmdhgkfjlphliaaT4
/-
  WHAT IS WITHDRAWN TAKES WITH IT JUST WHAT HUNG ON IT: plain theory.
-/
namespace Go.Proofs.Ytmdhgkfjlphliaa
open Go Go.Am
def heldW (r : List Rcd) (l : List Ltr) (d : Int) (i : Int) : Bool := (heldV (goneV l d) [] r).contains i
def heldX (r : List Rcd) (l : List Ltr) (d id : Int) (i : Int) : Bool := (heldV (withG (goneV l d) id) [] r).contains i
theorem held_ids (g : Int → Bool) (r : List Rcd) {i : Int} (h : i ∈ heldV g [] r) : i ∈ idsR r := by
  rcases held_in r [] i h with h1 | ⟨_, x, hx, e⟩
  · cases h1
  · exact List.mem_map.2 ⟨x, hx, e⟩
theorem holds_has (r : List Rcd) (l : List Ltr) (d i : Int) : (holdsV r l d).contains i = heldW r l d i := by
  unfold holdsV heldW
  rw [Bool.eq_iff_iff, List.contains_iff_mem, List.mem_filter]
  exact ⟨fun h => h.2, fun h => ⟨held_ids _ r (List.contains_iff_mem.1 h), h⟩⟩
theorem takes_has (g : Int → Bool) (r : List Rcd) (id i : Int) : (takesV g r id).contains i = ((heldV g [] r).contains i && !(heldV (withG g id) [] r).contains i) := by
  unfold takesV
  rw [Bool.eq_iff_iff, List.contains_iff_mem, List.mem_filter]
  exact ⟨fun h => h.2, fun h => ⟨held_ids g r (List.contains_iff_mem.1 ((Bool.and_eq_true _ _).mp h).1), h⟩⟩
theorem withG_le (g : Int → Bool) (id i : Int) (h : g i = true) : withG g id i = true := by unfold withG; rw [h, Bool.or_true]
theorem heldX_le (r : List Rcd) (l : List Ltr) (d id i : Int) (h : heldX r l d id i = true) : heldW r l d i = true :=
  List.contains_iff_mem.2 (held_mono (withG_le (goneV l d) id) r [] [] (fun _ h => h) i (List.contains_iff_mem.1 h))
theorem heldX_self (r : List Rcd) (l : List Ltr) (d id : Int) : heldX r l d id id = false := by
  cases h : heldX r l d id id
  · rfl
  · rcases held_in r [] id (List.contains_iff_mem.1 h) with h1 | ⟨h1, _⟩
    · cases h1
    · unfold withG at h1; rw [decide_eq_true rfl, Bool.true_or] at h1; cases h1
theorem heldX_same (r : List Rcd) (l : List Ltr) (d id : Int) (h : heldW r l d id = false) (i : Int) : heldX r l d id i = heldW r l d i := by
  unfold heldX heldW
  rw [held_same (g := goneV l d) (g' := withG (goneV l d) id) (id := id) (fun j hj => by unfold withG; rw [decide_eq_false hj, Bool.false_or]) (by unfold withG; rw [decide_eq_true rfl, Bool.true_or]) r [] (fun hm => by
    have := List.contains_iff_mem.2 hm
    unfold heldW at h
    rw [h] at this; cases this)]
def takesD0 (r : List Rcd) (l : List Ltr) (d id : Int) : List Int := takesV (goneV l d) r id
theorem tk_has (r : List Rcd) (l : List Ltr) (d id i : Int) : (takesD0 r l d id).contains i = (heldW r l d i && !heldX r l d id i) := takes_has _ r id i
theorem tk_self (r : List Rcd) (l : List Ltr) (d id : Int) : (takesD0 r l d id).contains id = heldW r l d id := by
  rw [tk_has, heldX_self]; simp
theorem tk_none (r : List Rcd) (l : List Ltr) (d id : Int) (h : heldW r l d id = false) : takesD0 r l d id = [] := by
  refine List.eq_nil_iff_forall_not_mem.2 fun i hi => ?_
  have h1 := tk_has r l d id i
  rw [List.contains_iff_mem.2 hi, heldX_same r l d id h] at h1
  cases h2 : heldW r l d i <;> rw [h2] at h1 <;> cases h1
theorem tk_held (r : List Rcd) (l : List Ltr) (d id i : Int) (h : (takesD0 r l d id).contains i = true) : heldW r l d i = true := by
  rw [tk_has, Bool.and_eq_true] at h; exact h.1
/-- Each other thing that falls hangs on one that falls, in each of its ways that held. -/
theorem tk_hung {r : List Rcd} (hr : recsB r = true) (l : List Ltr) (d id : Int) {x : Rcd} (hx : x ∈ r) (hne : x.id ≠ id) (ht : (takesD0 r l d id).contains x.id = true) {w : List Int} (hw : w ∈ x.ways) (hh : w.all (heldW r l d) = true) : w.any (fun k => (takesD0 r l d id).contains k) = true := by
  rw [tk_has, Bool.and_eq_true] at ht
  cases hc : w.any (fun k => (takesD0 r l d id).contains k)
  · exfalso
    have hall : w.all (heldX r l d id) = true := by
      rw [List.all_eq_true] at hh ⊢
      intro k hk
      rw [List.any_eq_false] at hc
      have h1 := hc k hk
      rw [tk_has, hh k hk] at h1
      simpa using h1
    have h1 := (held_iff hr (goneV l d) hx).1 (List.contains_iff_mem.1 ht.1)
    have h2 : x.id ∈ heldV (withG (goneV l d) id) [] r := (held_iff hr (withG (goneV l d) id) hx).2 ⟨by unfold withG; rw [decide_eq_false hne, h1.1]; rfl, by
      unfold standsB
      rw [List.any_eq_true.2 ⟨w, hw, hall⟩, Bool.or_true]⟩
    have h3 : heldX r l d id x.id = true := List.contains_iff_mem.2 h2
    rw [h3] at ht
    exact absurd ht.2 (by decide)
  · rfl
/-! ### one letter more -/
def wLet (i d id : Int) : Ltr := ⟨i, d, id, 1⟩
def rLet (i d id : Int) : Ltr := ⟨i, d, id, 2⟩
theorem gone_w (l : List Ltr) (i d id j : Int) : goneV (l ++ [wLet i d id]) d j = withG (goneV l d) id j := by
  rw [goneV_snoc l (wLet i d id) d j rfl]
  unfold withG
  by_cases h : id = j
  · rw [if_pos (show (wLet i d id).about = j from h), decide_eq_true h.symm]; rfl
  · rw [if_neg (show ¬ (wLet i d id).about = j from h), decide_eq_false (Ne.symm h)]; rfl
theorem gone_r (l : List Ltr) (i d id j : Int) : goneV (l ++ [rLet i d id]) d j = if id = j then false else goneV l d j := by
  rw [goneV_snoc l (rLet i d id) d j rfl]
  by_cases h : id = j
  · rw [if_pos (show (rLet i d id).about = j from h), if_pos h]; rfl
  · rw [if_neg (show ¬ (rLet i d id).about = j from h), if_neg h]
theorem heldW_w (r : List Rcd) (l : List Ltr) (i d id j : Int) : heldW r (l ++ [wLet i d id]) d j = heldX r l d id j := by
  unfold heldW heldX
  rw [held_ext (g := withG (goneV l d) id) (g' := goneV (l ++ [wLet i d id]) d) (gone_w l i d id)]
/-- What is told on the next Id: valid letters with one more behind them. -/
def nextV (l : List Ltr) : Int := match l.getLast? with
  | none => 0
  | some x => x.id + 1
def nextB (l : List Ltr) : Bool := match l.getLast? with
  | none => true
  | some x => decide (x.id < 9999) && decide (l.length < 20)
theorem incF_snoc : ∀ (l : List Int) (a : Int) (x : Int), incF a l = true → 0 ≤ a → (∀ y ∈ l.getLast?, y < x) → a ≤ x → x ≤ 9999 → incF a (l ++ [x]) = true := by
  intro l
  induction l with
  | nil => intro a x _ _ _ h1 h2; simp only [List.nil_append, incF, Bool.and_true, inB_iff]; exact ⟨h1, h2⟩
  | cons y l ih =>
    intro a x h h0 hl h1 h2
    simp only [List.cons_append, incF, Bool.and_eq_true, inB_iff] at h ⊢
    have hyx : y < x := by
      cases l with
      | nil => exact hl y rfl
      | cons z l =>
        have h3 : (z :: l).getLast (by simp) ∈ (z :: l) := List.getLast_mem _
        have h4 := hl ((z :: l).getLast (by simp)) (by rw [List.getLast?_cons_cons, List.getLast?_eq_some_getLast (by simp)]; rfl)
        have h5 := incF_lt h.2 _ h3
        omega
    exact ⟨h.1, ih (y + 1) x h.2 (by omega) (fun z hz => by
      refine hl z ?_
      cases l with
      | nil => cases hz
      | cons u l => rw [List.getLast?_cons_cons]; exact hz) (by omega) h2⟩
theorem lets_snoc {r : List Rcd} {l : List Ltr} (h : letsB r l = true) (x : Ltr) (hid : x.id = nextV l) (hlt : x.id ≤ 9999) (hlen : l.length < 20) (hx : letB r x = true) : letsB r (l ++ [x]) = true := by
  simp only [letsB, Bool.and_eq_true, decide_eq_true_eq] at h ⊢
  have hlast : ∀ y ∈ (idsL l).getLast?, y < x.id ∧ 0 ≤ y := fun y hy => by
    unfold idsL at hy
    rw [List.getLast?_map] at hy
    cases hg : l.getLast? with
    | none => rw [hg] at hy; cases hy
    | some z =>
      rw [hg] at hy
      cases hy
      have hm : z.id ∈ idsL l := List.mem_map.2 ⟨z, List.mem_of_getLast? hg, rfl⟩
      have := incF_lt h.1.2 _ hm
      have e : nextV l = z.id + 1 := by unfold nextV; rw [hg]
      show z.id < x.id ∧ 0 ≤ z.id
      omega
  have h0 : 0 ≤ x.id := by
    rw [hid]
    unfold nextV
    cases hg : l.getLast? with
    | none => exact Int.le_refl 0
    | some z =>
      have hm : z.id ∈ idsL l := List.mem_map.2 ⟨z, List.mem_of_getLast? hg, rfl⟩
      have := incF_lt h.1.2 _ hm
      show 0 ≤ z.id + 1
      omega
  refine ⟨⟨by rw [List.length_append]; simp; omega, ?_⟩, by rw [List.all_append, h.2]; simp [hx]⟩
  unfold idsL
  rw [List.map_append]
  exact incF_snoc _ 0 x.id h.1.2 (Int.le_refl 0) (fun y hy => (hlast y hy).1) h0 hlt
/-! ### who is withdrawn, and restored -/
theorem heldW_back {r : List Rcd} (l : List Ltr) (i j d id : Int) (k : Int) (h : heldW r l d k = true) : heldW r ((l ++ [wLet i d id]) ++ [rLet j d id]) d k = true := by
  refine List.contains_iff_mem.2 (held_mono (g := goneV ((l ++ [wLet i d id]) ++ [rLet j d id]) d) (g' := goneV l d) (fun m hm => ?_) r [] [] (fun _ h => h) k (List.contains_iff_mem.1 h))
  rw [gone_r] at hm
  by_cases h1 : id = m
  · rw [if_pos h1] at hm; cases hm
  · rw [if_neg h1, gone_w] at hm
    unfold withG at hm
    rw [decide_eq_false (Ne.symm h1), Bool.false_or] at hm
    exact hm
theorem heldW_again {r : List Rcd} (l : List Ltr) (i j d id : Int) (hg : goneV l d id = false) (k : Int) : heldW r ((l ++ [wLet i d id]) ++ [rLet j d id]) d k = heldW r l d k := by
  unfold heldW
  rw [held_ext (g := goneV l d) (g' := goneV ((l ++ [wLet i d id]) ++ [rLet j d id]) d) fun m => ?_]
  rw [gone_r]
  by_cases h1 : id = m
  · rw [if_pos h1, ← h1, hg]
  · rw [if_neg h1, gone_w]
    unfold withG
    rw [decide_eq_false (Ne.symm h1), Bool.false_or]
end Go.Proofs.Ytmdhgkfjlphliaa
