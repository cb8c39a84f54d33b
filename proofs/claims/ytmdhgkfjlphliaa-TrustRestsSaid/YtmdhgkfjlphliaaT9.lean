import Derived.Test.YtmdhgkfjlphliaaT5
/-
  MOVES AND STORES: plain theory.
-/
namespace Go.Proofs.Ytmdhgkfjlphliaa
open Go Go.Am
structure Sto where
  made : Int
  ret : Int
  tst : Int
  sold : Int
  scr : Int
  left : Int
def addS (s : Sto) (k : Nat) (n : Int) : Sto := match k with
  | 1 => { s with made := s.made + n, left := s.left + n }
  | 2 => { s with ret := s.ret + n, left := s.left + n }
  | 3 => { s with tst := s.tst + n, left := s.left - n }
  | 4 => { s with sold := s.sold + n, left := s.left - n }
  | 5 => { s with scr := s.scr + n, left := s.left - n }
  | _ => s
def stoK (ids : List Int) : Sto → List Mov → Sto
  | s, [] => s
  | s, m :: l => stoK ids (if ids.contains m.batch then addS s m.kd.val m.n else s) l
def sto0 : Sto := ⟨0, 0, 0, 0, 0, 0⟩
def storeV (l : List Mov) (ids : List Int) : Sto := stoK ids sto0 l
/-- Moves of valid kinds, and pieces. -/
def MvOk (l : List Mov) : Prop := l.length ≤ 1000 ∧ ∀ m ∈ l, (1 ≤ m.kd.val ∧ m.kd.val ≤ 5) ∧ 1 ≤ m.n ∧ m.n ≤ 100000
structure Bnd (s : Sto) (k : Int) : Prop where
  made : 0 ≤ s.made ∧ s.made ≤ 100000 * k
  ret : 0 ≤ s.ret ∧ s.ret ≤ 100000 * k
  tst : 0 ≤ s.tst ∧ s.tst ≤ 100000 * k
  sold : 0 ≤ s.sold ∧ s.sold ≤ 100000 * k
  scr : 0 ≤ s.scr ∧ s.scr ≤ 100000 * k
  left : -(100000 * k) ≤ s.left ∧ s.left ≤ 100000 * k
theorem Bnd.up {s : Sto} {k : Int} (h : Bnd s k) : Bnd s (k + 1) := by
  obtain ⟨h1, h2, h3, h4, h5, h6⟩ := h
  constructor <;> omega
theorem Bnd.add {s : Sto} {k : Int} (h : Bnd s k) {n : Int} (hn : 1 ≤ n ∧ n ≤ 100000) {c : Nat} (hc : 1 ≤ c ∧ c ≤ 5) : Bnd (addS s c n) (k + 1) := by
  obtain ⟨h1, h2, h3, h4, h5, h6⟩ := h
  have : c = 1 ∨ c = 2 ∨ c = 3 ∨ c = 4 ∨ c = 5 := by omega
  rcases this with rfl | rfl | rfl | rfl | rfl <;> (constructor <;> simp only [addS] <;> omega)
def stoP (ids : List Int) (l : List Mov) (k : Nat) : Sto := stoK ids sto0 (l.take k)
theorem stoK_app (ids : List Int) : ∀ (l m : List Mov) (s : Sto), stoK ids s (l ++ m) = stoK ids (stoK ids s l) m := by
  intro l m
  induction l with
  | nil => intro s; rfl
  | cons x l ih => intro s; exact ih _
theorem stoP_succ {ids : List Int} {l : List Mov} {k : Nat} {m : Mov} (hm : l[k]? = some m) : stoP ids l (k + 1) = if ids.contains m.batch then addS (stoP ids l k) m.kd.val m.n else stoP ids l k := by
  unfold stoP
  rw [List.take_add_one, hm, stoK_app]; rfl
theorem stoP_bnd {ids : List Int} {l : List Mov} (ho : MvOk l) : ∀ k : Nat, k ≤ l.length → Bnd (stoP ids l k) k := by
  intro k
  induction k with
  | zero =>
    intro _
    have e : stoP ids l 0 = sto0 := rfl
    rw [e]
    constructor <;> simp [sto0]
  | succ k ih =>
    intro hk
    obtain ⟨m, hm⟩ : ∃ m, l[k]? = some m := ⟨_, List.getElem?_eq_getElem (show k < l.length by omega)⟩
    have h0 := ih (by omega)
    have hmo := ho.2 m (List.mem_of_getElem? hm)
    rw [stoP_succ hm]
    have e : ((k + 1 : Nat) : Int) = (k : Int) + 1 := by omega
    rw [e]
    split
    · exact h0.add hmo.2 hmo.1
    · exact h0.up
theorem stoP_all (ids : List Int) (l : List Mov) : stoP ids l l.length = storeV l ids := by unfold stoP storeV; rw [List.take_length]
theorem storeV_bnd {ids : List Int} {l : List Mov} (ho : MvOk l) : Bnd (storeV l ids) l.length := stoP_all ids l ▸ stoP_bnd ho l.length (Nat.le_refl _)
/-! ### sums of stores -/
def plusS (a b : Sto) : Sto := ⟨a.made + b.made, a.ret + b.ret, a.tst + b.tst, a.sold + b.sold, a.scr + b.scr, a.left + b.left⟩
theorem Sto.ext' {a b : Sto} (h1 : a.made = b.made) (h2 : a.ret = b.ret) (h3 : a.tst = b.tst) (h4 : a.sold = b.sold) (h5 : a.scr = b.scr) (h6 : a.left = b.left) : a = b := by
  cases a; cases b; simp only at *; subst h1 h2 h3 h4 h5 h6; rfl
theorem plusS_zero (a : Sto) : plusS a sto0 = a := by apply Sto.ext' <;> simp [plusS, sto0]
theorem zero_plusS (a : Sto) : plusS sto0 a = a := by apply Sto.ext' <;> simp [plusS, sto0]
theorem plusS_assoc (a b c : Sto) : plusS (plusS a b) c = plusS a (plusS b c) := by apply Sto.ext' <;> simp only [plusS] <;> omega
theorem plusS_comm (a b : Sto) : plusS a b = plusS b a := by apply Sto.ext' <;> simp only [plusS] <;> omega
theorem addS_plus (s : Sto) (k : Nat) (n : Int) : addS s k n = plusS s (addS sto0 k n) := by
  unfold addS
  split <;> (apply Sto.ext' <;> simp [plusS, sto0] <;> omega)
def gSt (ids : List Int) (m : Mov) : Sto := if ids.contains m.batch then addS sto0 m.kd.val m.n else sto0
def totS (ids : List Int) (l : List Mov) : Sto := (l.map (gSt ids)).foldr plusS sto0
theorem stoK_tot (ids : List Int) : ∀ (l : List Mov) (s : Sto), stoK ids s l = plusS s (totS ids l) := by
  intro l
  induction l with
  | nil => intro s; exact (plusS_zero s).symm
  | cons m l ih =>
    intro s
    show stoK ids (if ids.contains m.batch then addS s m.kd.val m.n else s) l = plusS s (plusS (gSt ids m) (totS ids l))
    rw [ih, ← plusS_assoc]
    congr 1
    unfold gSt
    split
    · exact addS_plus _ _ _
    · exact (plusS_zero s).symm
theorem storeV_tot (l : List Mov) (ids : List Int) : storeV l ids = totS ids l := by unfold storeV; rw [stoK_tot, zero_plusS]
theorem foldr_perm {l l' : List Sto} (h : l.Perm l') : l.foldr plusS sto0 = l'.foldr plusS sto0 := by
  induction h with
  | nil => rfl
  | cons x _ ih => simp only [List.foldr_cons, ih]
  | swap x y l => simp only [List.foldr_cons, ← plusS_assoc]; rw [plusS_comm y x]
  | trans _ _ h1 h2 => exact h1.trans h2
/-- What a move says, but for its Id. -/
def coreM (m : Mov) : Int × Fin 256 × Int := (m.batch, m.kd, m.n)
theorem gSt_core {ids : List Int} {m m' : Mov} (h : coreM m = coreM m') : gSt ids m = gSt ids m' := by
  unfold coreM at h
  injection h with h1 h2
  injection h2 with h2 h3
  unfold gSt
  rw [h1, h2, h3]
def gC (ids : List Int) (c : Int × Fin 256 × Int) : Sto := gSt ids ⟨0, c.1, c.2.1, c.2.2⟩
theorem tot_core (ids : List Int) (l : List Mov) : totS ids l = ((l.map coreM).map (gC ids)).foldr plusS sto0 := by
  unfold totS
  rw [List.map_map]
  rfl
theorem tot_perm (ids : List Int) {l l' : List Mov} (h : (l.map coreM).Perm (l'.map coreM)) : totS ids l = totS ids l' := by
  rw [tot_core, tot_core]
  exact foldr_perm (h.map _)
theorem tot_nil (l : List Mov) : totS [] l = sto0 := by
  unfold totS
  induction l with
  | nil => rfl
  | cons m l ih => rw [List.map_cons, List.foldr_cons, ih]; rfl
theorem tot_cons {b : Int} {B : List Int} (hb : b ∉ B) (l : List Mov) : totS (b :: B) l = plusS (totS [b] l) (totS B l) := by
  unfold totS
  induction l with
  | nil => exact (plusS_zero _).symm
  | cons m l ih =>
    simp only [List.map_cons, List.foldr_cons, ih]
    have e : gSt (b :: B) m = plusS (gSt [b] m) (gSt B m) := by
      unfold gSt
      by_cases h : m.batch = b
      · have h1 : B.contains m.batch = false := by rw [h]; simpa using hb
        have h2 : (b :: B).contains m.batch = true := by simp [h]
        have h3 : [b].contains m.batch = true := by simp [h]
        rw [h1, h2, h3]
        exact (plusS_zero _).symm
      · have h2 : (b :: B).contains m.batch = B.contains m.batch := by
          rw [List.contains_cons, show (m.batch == b) = false from beq_eq_false_iff_ne.2 h, Bool.false_or]
        have h3 : [b].contains m.batch = false := by simp [h]
        rw [h2, h3]
        exact (zero_plusS _).symm
    rw [e]
    generalize gSt [b] m = p
    generalize gSt B m = q
    generalize List.foldr plusS sto0 (List.map (gSt [b]) l) = u
    generalize List.foldr plusS sto0 (List.map (gSt B) l) = v
    apply Sto.ext' <;> simp only [plusS] <;> omega
def balB (s : Sto) : Bool := decide (s.ret ≤ s.sold) && decide (0 ≤ s.left)
theorem balB_iff {s : Sto} : balB s = true ↔ s.ret ≤ s.sold ∧ 0 ≤ s.left := by simp [balB]
theorem tot_bal (l : List Mov) : ∀ B : List Int, B.Nodup → (∀ b ∈ B, balB (totS [b] l) = true) → balB (totS B l) = true := by
  intro B
  induction B with
  | nil => intro _ _; rw [tot_nil]; rfl
  | cons b B ih =>
    intro hn h
    rw [List.nodup_cons] at hn
    have h1 := balB_iff.1 (ih hn.2 fun c hc => h c (List.mem_cons_of_mem _ hc))
    have h2 := balB_iff.1 (h b List.mem_cons_self)
    rw [tot_cons hn.1, balB_iff]
    simp only [plusS]
    omega
/-- What came is what went, and what is left. -/
def cloS (s : Sto) : Prop := s.made + s.ret = s.tst + s.sold + s.scr + s.left
theorem gSt_clo (ids : List Int) (m : Mov) : cloS (gSt ids m) := by
  unfold gSt
  split
  · unfold addS cloS
    split <;> simp [sto0] <;> omega
  · rfl
theorem tot_clo (ids : List Int) (l : List Mov) : cloS (totS ids l) := by
  unfold totS
  induction l with
  | nil => rfl
  | cons m l ih =>
    have := gSt_clo ids m
    rw [List.map_cons, List.foldr_cons]
    unfold cloS at *
    simp only [plusS]
    omega
/-! ### what is valid -/
def movB (r : List Rcd) (m : Mov) : Bool := (inB 1 5 m.kd.val && inB 1 100000 m.n) && r.any fun x => x.id == m.batch && x.kd.val == 3
def movsB (r : List Rcd) (l : List Mov) : Bool := (decide (l.length ≤ 40) && incF 0 (idsM l)) && (l.all (movB r) && r.all fun x => balB (storeV l [x.id]))
theorem movs_ok {r : List Rcd} {l : List Mov} (hl : l.length ≤ 1000) (h : l.all (movB r) = true) : MvOk l := by
  refine ⟨hl, fun m hm => ?_⟩
  have := List.all_eq_true.1 h m hm
  simp only [movB, Bool.and_eq_true, inB_iff] at this
  omega
theorem movs_len {r : List Rcd} {l : List Mov} (h : movsB r l = true) : l.length ≤ 40 ∧ MvOk l := by
  simp only [movsB, Bool.and_eq_true, decide_eq_true_eq] at h
  exact ⟨h.1.1, movs_ok (by omega) h.2.1⟩
/-- Moves turned: those from the k-th on first, their Ids given anew. -/
def turnM (l : List Mov) (k : Nat) (t : Int) : List Mov := (l.drop k ++ l.take k).zipIdx.map fun p => { p.1 with id := 3 * (p.2 : Int) + t }
theorem turnM_core (l : List Mov) (k : Nat) (t : Int) : ((turnM l k t).map coreM).Perm (l.map coreM) := by
  have e : (turnM l k t).map coreM = (l.drop k ++ l.take k).map coreM := by
    unfold turnM
    rw [List.map_map]
    generalize l.drop k ++ l.take k = m
    have : ∀ (m : List Mov) (n : Nat), (m.zipIdx n).map (coreM ∘ fun p => { p.1 with id := 3 * (p.2 : Int) + t }) = m.map coreM := by
      intro m
      induction m with
      | nil => intro n; rfl
      | cons a m ih => intro n; simp only [List.zipIdx_cons, List.map_cons, ih]; rfl
    exact this m 0
  rw [e]
  refine List.Perm.map _ ?_
  conv => rhs; rw [← List.take_append_drop k l]
  exact List.perm_append_comm
theorem turnM_len (l : List Mov) (k : Nat) (t : Int) : (turnM l k t).length = l.length := by
  unfold turnM
  rw [List.length_map, List.length_zipIdx, List.length_append, List.length_drop, List.length_take]
  omega
theorem turnM_id {l : List Mov} {k : Nat} {t : Int} {i : Nat} (hi : i < (idsM (turnM l k t)).length) : (idsM (turnM l k t))[i] = 3 * (i : Int) + t := by
  unfold idsM turnM
  simp
theorem turnM_store (l : List Mov) (k : Nat) (t : Int) (ids : List Int) : storeV (turnM l k t) ids = storeV l ids := by
  rw [storeV_tot, storeV_tot]
  exact tot_perm ids (turnM_core l k t)
theorem turnM_ok {r : List Rcd} {l : List Mov} (h : movsB r l = true) (k : Nat) {t : Int} (h0 : 0 ≤ t) (h1 : t ≤ 255) : movsB r (turnM l k t) = true := by
  simp only [movsB, Bool.and_eq_true, List.all_eq_true, decide_eq_true_eq, turnM_store] at h ⊢
  have hil : (idsM (turnM l k t)).length = l.length := by unfold idsM; rw [List.length_map, turnM_len]
  refine ⟨⟨by rw [turnM_len]; exact h.1.1, incF_of (fun x hx => ?_) ?_⟩, fun y hy => ?_, h.2.2⟩
  · obtain ⟨i, hi, e⟩ := List.mem_iff_getElem.1 hx
    rw [turnM_id] at e
    omega
  · rw [List.pairwise_iff_getElem]
    intro i j hi hj hij
    rw [turnM_id, turnM_id]; omega
  · obtain ⟨x, hx, e⟩ := List.mem_map.1 ((turnM_core l k t).mem_iff.1 (List.mem_map_of_mem hy))
    have := h.2.1 x hx
    unfold coreM at e
    injection e with e1 e2
    injection e2 with e2 e3
    unfold movB at this ⊢
    rw [← e1, ← e2, ← e3]; exact this
/-! ### batches that come of a record -/
def ofB (id : Int) (acc : List Int) (x : Rcd) : Bool := decide (x.kd.val = 3) && (x.id == id || x.ways.any fun w => w.any fun i => i == id || acc.contains i)
def batK (id : Int) : List Int → List Rcd → List Int
  | acc, [] => acc
  | acc, x :: r => batK id (if ofB id acc x then acc ++ [x.id] else acc) r
def batV (r : List Rcd) (id : Int) : List Int := batK id [] r
theorem batK_app (id : Int) : ∀ (r s : List Rcd) (acc : List Int), batK id acc (r ++ s) = batK id (batK id acc r) s := by
  intro r s
  induction r with
  | nil => intro acc; rfl
  | cons x r ih => intro acc; exact ih _
theorem bat_acc (id : Int) : ∀ (r : List Rcd) (acc : List Int), ∀ i ∈ acc, i ∈ batK id acc r := by
  intro r
  induction r with
  | nil => intro acc i h; exact h
  | cons x r ih =>
    intro acc i h
    refine ih _ i ?_
    split
    · exact List.mem_append_left _ h
    · exact h
theorem bat_in (id : Int) : ∀ (r : List Rcd) (acc : List Int), ∀ i ∈ batK id acc r, i ∈ acc ∨ ∃ x ∈ r, x.id = i ∧ x.kd.val = 3 := by
  intro r
  induction r with
  | nil => intro acc i h; exact .inl h
  | cons x r ih =>
    intro acc i h
    rcases ih _ i h with h1 | ⟨y, hy, h2⟩
    · split at h1
      · rename_i h2
        rcases List.mem_append.1 h1 with h3 | h3
        · exact .inl h3
        · have h4 := List.mem_singleton.1 h3
          subst h4
          simp only [ofB, Bool.and_eq_true, decide_eq_true_eq] at h2
          exact .inr ⟨x, List.mem_cons_self, rfl, h2.1⟩
      · exact .inl h1
    · exact .inr ⟨y, List.mem_cons_of_mem _ hy, h2⟩
theorem bat_nodup (id : Int) : ∀ (r : List Rcd) (acc : List Int), (acc ++ idsR r).Nodup → (batK id acc r).Nodup := by
  intro r
  induction r with
  | nil => intro acc h; simpa [idsR, batK] using h
  | cons x r ih =>
    intro acc h
    refine ih _ ?_
    split
    · simpa [idsR] using h
    · refine h.sublist ?_
      exact List.Sublist.append (List.Sublist.refl _) (by simp [idsR])
theorem batV_nodup {r : List Rcd} (h : recsB r = true) (id : Int) : (batV r id).Nodup := bat_nodup id r [] (by simpa using (recs_nodup h).1)
theorem batK_len (id : Int) : ∀ (r : List Rcd) (acc : List Int), (batK id acc r).length ≤ acc.length + r.length := by
  intro r
  induction r with
  | nil => intro acc; exact Nat.le_refl _
  | cons x r ih =>
    intro acc
    refine Nat.le_trans (ih _) ?_
    split <;> simp <;> omega
/-- A batch comes of a record just if it is this record, or needs it, or one that comes of it. -/
theorem bat_of (id : Int) : ∀ (r : List Rcd) (bef acc : List Int), (∀ i ∈ acc, i ∈ bef) → waysI bef r = true → (bef ++ idsR r).Nodup → ∀ x ∈ r, (batK id acc r).contains x.id = ofB id (batK id acc r) x := by
  intro r
  induction r with
  | nil => intro bef acc _ _ _ x hx; cases hx
  | cons y r ih =>
    intro bef acc hsub hv hnd x hx
    simp only [waysI, Bool.and_eq_true] at hv
    generalize hA : (if ofB id acc y then acc ++ [y.id] else acc) = acc'
    have e : batK id acc (y :: r) = batK id acc' r := by rw [← hA]; rfl
    rw [e]
    have hnd' : (bef ++ [y.id] ++ idsR r).Nodup := by simpa [idsR] using hnd
    have hsub' : ∀ i ∈ acc', i ∈ bef ++ [y.id] := by
      intro i hi
      rw [← hA] at hi
      split at hi
      · rcases List.mem_append.1 hi with h | h
        · exact List.mem_append_left _ (hsub i h)
        · exact List.mem_append_right _ h
      · exact List.mem_append_left _ (hsub i hi)
    have hk : ∀ i ∈ bef ++ [y.id], (i ∈ batK id acc' r ↔ i ∈ acc') := fun i hi => ⟨fun h => by
      rcases bat_in id r acc' i h with h1 | ⟨z, hz, h2, _⟩
      · exact h1
      · exact absurd (List.mem_map.2 ⟨z, hz, h2⟩) (fun h3 => (List.nodup_append.1 hnd').2.2 _ hi _ h3 rfl), bat_acc id r acc' i⟩
    rcases List.mem_cons.1 hx with rfl | hx
    · have hyb : x.id ∉ bef := fun h => (List.nodup_append.1 hnd).2.2 _ h _ (List.mem_map.2 ⟨x, List.mem_cons_self, rfl⟩) rfl
      have hya : x.id ∉ acc := fun h => hyb (hsub _ h)
      have es : ofB id (batK id acc' r) x = ofB id acc x := by
        unfold ofB
        congr 2
        rw [Bool.eq_iff_iff]
        simp only [List.any_eq_true]
        have : ∀ w ∈ x.ways, ∀ i ∈ w, ((i == id || (batK id acc' r).contains i) = true ↔ (i == id || acc.contains i) = true) := fun w hw i hi => by
          have hb := waysB_mem hv.1 hw hi
          have hne : i ≠ x.id := fun h => hyb (h ▸ hb)
          have hiff : i ∈ batK id acc' r ↔ i ∈ acc := by
            rw [hk i (List.mem_append_left _ hb), ← hA]
            split
            · simp [hne]
            · rfl
          simp only [Bool.or_eq_true, List.contains_iff_mem, hiff]
        exact ⟨fun ⟨w, hw, i, hi, h⟩ => ⟨w, hw, i, hi, (this w hw i hi).1 h⟩, fun ⟨w, hw, i, hi, h⟩ => ⟨w, hw, i, hi, (this w hw i hi).2 h⟩⟩
      rw [es, Bool.eq_iff_iff, List.contains_iff_mem, hk _ (List.mem_append_right _ List.mem_cons_self), ← hA]
      cases h1 : ofB id acc x <;> simp [hya]
    · exact ih (bef ++ [y.id]) acc' hsub' hv.2 hnd' x hx
theorem bat_iff {r : List Rcd} (h : recsB r = true) (id : Int) {x : Rcd} (hx : x ∈ r) : (batV r id).contains x.id = ofB id (batV r id) x :=
  bat_of id r [] [] (fun _ h => h) (recs_nodup h).2.1 (by simpa using (recs_nodup h).1) x hx
theorem bat_self {r : List Rcd} (h : recsB r = true) {x : Rcd} (hx : x ∈ r) : (batV r x.id).contains x.id = decide (x.kd.val = 3) := by
  rw [bat_iff h x.id hx]
  unfold ofB
  simp
theorem bat_bal {r : List Rcd} (h : recsB r = true) {l : List Mov} (hm : movsB r l = true) (id : Int) : balB (storeV l (batV r id)) = true := by
  rw [storeV_tot]
  refine tot_bal l _ (batV_nodup h id) fun b hb => ?_
  rw [← storeV_tot]
  rcases bat_in id r [] b hb with h1 | ⟨x, hx, e, _⟩
  · cases h1
  · simp only [movsB, Bool.and_eq_true, List.all_eq_true] at hm
    rw [← e]; exact hm.2.2 x hx
end Go.Proofs.Ytmdhgkfjlphliaa
/-
  WHAT IS CALLED BACK: plain theory.
-/
namespace Go.Proofs.Ytmdhgkfjlphliaa
open Go Go.Am
/-- What is out of a batch. -/
def outV (l : List Mov) (b : Int) : Int := (storeV l [b]).sold - (storeV l [b]).ret
/-- What is called back of some batches, and how many pieces, if of these something holds. -/
def calB (W : Int → Bool) (o : Int → Int) (i : Int) : Bool := !W i && decide (o i > 0)
def calL (W : Int → Bool) (o : Int → Int) (L : List Int) : List Int := L.filter (calB W o)
def calN (W : Int → Bool) (o : Int → Int) : List Int → Int
  | [] => 0
  | i :: L => (if calB W o i then o i else 0) + calN W o L
def maxN (o : Int → Int) : List Int → Int
  | [] => 0
  | i :: L => max 0 (o i) + maxN o L
theorem calN_app (W : Int → Bool) (o : Int → Int) (L M : List Int) : calN W o (L ++ M) = calN W o L + calN W o M := by
  induction L with
  | nil => simp [calN]
  | cons i L ih => simp only [List.cons_append, calN, ih]; omega
theorem maxN_app (o : Int → Int) (L M : List Int) : maxN o (L ++ M) = maxN o L + maxN o M := by
  induction L with
  | nil => simp [maxN]
  | cons i L ih => simp only [List.cons_append, maxN, ih]; omega
theorem calN_take {W : Int → Bool} {o : Int → Int} {L : List Int} {k : Nat} {i : Int} (h : L[k]? = some i) : calN W o (L.take (k + 1)) = calN W o (L.take k) + if calB W o i then o i else 0 := by
  rw [List.take_add_one, h, calN_app]
  simp [calN]
theorem maxN_take {o : Int → Int} {L : List Int} {k : Nat} {i : Int} (h : L[k]? = some i) : maxN o (L.take (k + 1)) = maxN o (L.take k) + max 0 (o i) := by
  rw [List.take_add_one, h, maxN_app]
  simp [maxN]
theorem calL_take {W : Int → Bool} {o : Int → Int} {L : List Int} {k : Nat} {i : Int} (h : L[k]? = some i) : calL W o (L.take (k + 1)) = if calB W o i then calL W o (L.take k) ++ [i] else calL W o (L.take k) := by
  unfold calL
  rw [List.take_add_one, h, List.filter_append]
  cases hb : calB W o i <;> simp [hb]
/-- What falls is what is called back more. -/
theorem calN_more {W X F : Int → Bool} {o : Int → Int} (hx : ∀ i, X i = (W i && !F i)) (hf : ∀ i, F i = true → W i = true) (L : List Int) : calN X o L = calN W o L + maxN o (L.filter F) := by
  induction L with
  | nil => rfl
  | cons i L ih =>
    have e1 : calN X o (i :: L) = (if calB X o i then o i else 0) + calN X o L := rfl
    have e2 : calN W o (i :: L) = (if calB W o i then o i else 0) + calN W o L := rfl
    rw [e1, e2, ih]
    refine (Bool.eq_false_or_eq_true (F i)).elim (fun h => ?_) (fun h => ?_)
    · have e3 : calB W o i = false := by simp [calB, hf i h]
      have e4 : calB X o i = decide (o i > 0) := by simp [calB, hx, h]
      rw [List.filter_cons_of_pos h, e3, e4]
      simp only [maxN]
      by_cases h2 : o i > 0
      · simp [h2]; omega
      · simp [h2]; omega
    · have e4 : calB X o i = calB W o i := by simp [calB, hx, h]
      rw [List.filter_cons_of_neg (by simp [h]), e4]
      omega
/-- The bound of sums. -/
theorem calN_bnd {W : Int → Bool} {o : Int → Int} {c : Int} (hc : 0 ≤ c) (ho : ∀ i, o i ≤ c) (L : List Int) : 0 ≤ calN W o L ∧ calN W o L ≤ c * L.length := by
  induction L with
  | nil => simp [calN]
  | cons i L ih =>
    have := ho i
    simp only [calN, List.length_cons]
    have e : c * ((L.length + 1 : Nat) : Int) = c * L.length + c := by rw [Int.natCast_add, Int.mul_add]; simp
    rw [e]
    by_cases h : calB W o i = true
    · rw [if_pos h]
      simp only [calB, Bool.and_eq_true, decide_eq_true_eq] at h
      omega
    · rw [if_neg h]; omega
theorem maxN_bnd {o : Int → Int} {c : Int} (hc : 0 ≤ c) (ho : ∀ i, o i ≤ c) (L : List Int) : 0 ≤ maxN o L ∧ maxN o L ≤ c * L.length := by
  induction L with
  | nil => simp [maxN]
  | cons i L ih =>
    have := ho i
    simp only [maxN, List.length_cons]
    have e : c * ((L.length + 1 : Nat) : Int) = c * L.length + c := by rw [Int.natCast_add, Int.mul_add]; simp
    rw [e]
    omega
theorem outV_bnd {l : List Mov} (ho : MvOk l) (b : Int) : -(100000 * (l.length : Int)) ≤ outV l b ∧ outV l b ≤ 100000 * l.length := by
  have h := storeV_bnd (ids := [b]) ho
  obtain ⟨_, h1, _, h2, _, _⟩ := h
  unfold outV
  omega
/-- What a move adds to what is out. -/
def outM (m : Mov) (b : Int) : Int := if m.batch = b then (if m.kd.val = 4 then m.n else if m.kd.val = 2 then -m.n else 0) else 0
theorem outV_take {l : List Mov} {k : Nat} {m : Mov} (hm : l[k]? = some m) (b : Int) : outV (l.take (k + 1)) b = outV (l.take k) b + outM m b := by
  have e := stoP_succ (ids := [b]) hm
  unfold stoP at e
  unfold outV storeV
  rw [e]
  unfold outM
  by_cases h : m.batch = b
  · rw [if_pos (by simp [h]), if_pos h]
    generalize stoK [b] sto0 (l.take k) = s
    unfold addS
    split
    · rename_i h; simp [h]
    · rename_i h; simp [h]; omega
    · rename_i h; simp [h]
    · rename_i h; simp [h]; omega
    · rename_i h; simp [h]
    · rename_i h1 h2 h3 h4 h5
      rw [if_neg h4, if_neg h2]; omega
  · rw [if_neg (by simp [h]), if_neg h]; omega
/-! ### moves, as the reference asks -/
def movI (ids : List Int) (r : List Rcd) (k : Nat) (m : Mov) : Bool := (inB 0 9999 m.id && incI ids k m.id) && movB r m
theorem movI_eq (r : List Rcd) (l : List Mov) : allI (movI (idsM l) r) l = (incF 0 (idsM l) && l.all (movB r)) := by
  rw [show (idsM l) = l.map (·.id) from rfl, inc_eq, ← allI_const (f := movB r), ← allI_and]
  rfl
theorem store_none {l : List Mov} {b : Int} (h : ∀ m ∈ l, m.batch ≠ b) : storeV l [b] = sto0 := by
  rw [storeV_tot]
  unfold totS
  induction l with
  | nil => rfl
  | cons m l ih =>
    rw [List.map_cons, List.foldr_cons, ih fun x hx => h x (List.mem_cons_of_mem _ hx)]
    have : gSt [b] m = sto0 := by unfold gSt; rw [if_neg]; simpa using h m List.mem_cons_self
    rw [this]; rfl
/-- It is enough to look at the batches that moves name. -/
theorem bal_all {r : List Rcd} {l : List Mov} (h : l.all (movB r) = true) : (r.all fun x => balB (storeV l [x.id])) = l.all fun m => balB (storeV l [m.batch]) := by
  rw [Bool.eq_iff_iff, List.all_eq_true, List.all_eq_true]
  constructor
  · intro h1 m hm
    have := List.all_eq_true.1 h m hm
    simp only [movB, Bool.and_eq_true, List.any_eq_true, beq_iff_eq] at this
    obtain ⟨_, x, hx, e, _⟩ := this
    rw [← e]; exact h1 x hx
  · intro h1 x hx
    by_cases hb : ∃ m ∈ l, m.batch = x.id
    · obtain ⟨m, hm, e⟩ := hb
      rw [← e]; exact h1 m hm
    · rw [store_none fun m hm e => hb ⟨m, hm, e⟩]; rfl
def movsR (r : List Rcd) (l : List Mov) : Bool := (decide (l.length ≤ 40) && allI (movI (idsM l) r) l) && l.all fun m => balB (storeV l [m.batch])
theorem movsR_eq (r : List Rcd) (l : List Mov) : movsR r l = movsB r l := by
  unfold movsR movsB
  rw [movI_eq]
  cases h : l.all (movB r)
  · simp
  · rw [bal_all h]; simp [Bool.and_assoc]
/-- Of increasing Ids a record is found by its Id alone. -/
theorem rec_one {r : List Rcd} (h : recsB r = true) {x y : Rcd} (hx : x ∈ r) (hy : y ∈ r) (e : x.id = y.id) : x = y := by
  have hn := (recs_nodup h).1
  obtain ⟨i, hi, e1⟩ := List.mem_iff_getElem.1 hx
  obtain ⟨j, hj, e2⟩ := List.mem_iff_getElem.1 hy
  have h1 : (idsR r)[i]? = (idsR r)[j]? := by
    unfold idsR
    rw [List.getElem?_map, List.getElem?_map, List.getElem?_eq_getElem hi, List.getElem?_eq_getElem hj, e1, e2]
    simp [e]
  have hp := List.pairwise_iff_getElem.1 hn
  have hil : i < (idsR r).length := by unfold idsR; rw [List.length_map]; exact hi
  have hjl : j < (idsR r).length := by unfold idsR; rw [List.length_map]; exact hj
  rw [List.getElem?_eq_getElem hil, List.getElem?_eq_getElem hjl] at h1
  have h1 := Option.some.inj h1
  have : i = j := by
    rcases Nat.lt_trichotomy i j with h2 | h2 | h2
    · exact absurd h1 (hp i j hil hjl h2)
    · exact h2
    · exact absurd h1.symm (hp j i hjl hil h2)
  subst this
  rw [← e1, ← e2]
theorem movB_of {r : List Rcd} (h : recsB r = true) {m : Mov} {x : Rcd} (hx : x ∈ r) (e : x.id = m.batch) : movB r m = ((inB 1 5 m.kd.val && inB 1 100000 m.n) && decide (x.kd.val = 3)) := by
  unfold movB
  congr 1
  rw [Bool.eq_iff_iff, List.any_eq_true]
  simp only [Bool.and_eq_true, beq_iff_eq, decide_eq_true_eq]
  constructor
  · rintro ⟨y, hy, e2, h3⟩
    rw [rec_one h hx hy (e.trans e2.symm)]; exact h3
  · intro h3
    exact ⟨x, hx, e, h3⟩
theorem movB_no {r : List Rcd} {m : Mov} (h : (idsR r).contains m.batch = false) : movB r m = false := by
  unfold movB
  rw [Bool.and_eq_false_iff]
  refine .inr (List.any_eq_false.2 fun x hx hb => ?_)
  rw [Bool.and_eq_true, beq_iff_eq] at hb
  have : (idsR r).contains m.batch = true := List.contains_iff_mem.2 (List.mem_map.2 ⟨x, hx, hb.1⟩)
  rw [h] at this; cases this
end Go.Proofs.Ytmdhgkfjlphliaa
