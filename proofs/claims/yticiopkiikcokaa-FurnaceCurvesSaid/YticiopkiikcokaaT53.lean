import Derived.Test.YticiopkiikcokaaT51
import Derived.Test.YticiopkiikcokaaAm19
namespace Go.Proofs.Yticiopkiikcokaa
open Go Go.Am
/-! Lists of things, laid cell by cell. -/
def fl {α : Type} (enc : α → List AV) (l : List α) : List AV := l.flatMap enc
theorem fl_cons {α : Type} (enc : α → List AV) (a : α) (l : List α) : fl enc (a :: l) = enc a ++ fl enc l := rfl
theorem fl_len {α : Type} {enc : α → List AV} {n : Nat} (h : ∀ a, (enc a).length = n) : ∀ l : List α, (fl enc l).length = l.length * n := by
  intro l
  induction l with
  | nil => simp [fl]
  | cons a l ih => rw [fl_cons, List.length_append, ih, h, List.length_cons, Nat.succ_mul]; omega
theorem okL_app (n : Nat) : ∀ a b : List AV, okL n a = true → okL n b = true → okL n (a ++ b) = true := by
  intro a b ha hb
  induction a with
  | nil => exact hb
  | cons x a ih =>
    simp only [okL, Bool.and_eq_true] at ha
    show (x.ok n && okL n (a ++ b)) = true
    rw [ha.1, ih ha.2]; rfl
theorem fl_ok {α : Type} {enc : α → List AV} {n : Nat} (h : ∀ a, okL n (enc a) = true) : ∀ l : List α, okL n (fl enc l) = true := by
  intro l
  induction l with
  | nil => rfl
  | cons a l ih => rw [fl_cons]; exact okL_app n _ _ (h a) ih
theorem fl_cellB {α : Type} {enc : α → List AV} (h : ∀ a, (enc a).all cellB = true) : ∀ l : List α, (fl enc l).all cellB = true := by
  intro l
  induction l with
  | nil => rfl
  | cons a l ih => rw [fl_cons, List.all_append, h, ih]; rfl
theorem fl_chunks {α : Type} {enc : α → List AV} {n : Nat} (h : ∀ a, (enc a).length = n) : ∀ l : List α, chunks n (fl enc l) l.length = l.map enc := by
  intro l
  induction l with
  | nil => rfl
  | cons a l ih =>
    have e1 : (enc a ++ fl enc l).take n = enc a := by rw [← h a, List.take_left]
    have e2 : (enc a ++ fl enc l).drop n = fl enc l := by rw [← h a, List.drop_left]
    show ((enc a ++ fl enc l).take n) :: chunks n ((enc a ++ fl enc l).drop n) l.length = _
    rw [e1, e2, ih]; rfl
theorem fl_flatten {α : Type} (enc : α → List AV) (l : List α) : (l.map enc).flatten = fl enc l := by
  unfold fl; rw [List.flatMap_def]
theorem map_all {α : Type} {enc : α → List AV} {n : Nat} (h : ∀ a, (enc a).length = n) (l : List α) : ((l.map enc).all fun y => y.length == n) = true := by
  rw [List.all_eq_true]
  intro y hy
  obtain ⟨a, _, rfl⟩ := List.mem_map.1 hy
  simp [h a]
/-- A slice of one's own, let go of as the whole answer's part. -/
theorem thaw_fl {α : Type} {enc : α → List AV} {n : Nat} (d : Nat) {h : Nat → Option AObj} {id : Nat} {l : List α} (hn : ∀ a, (enc a).length = n) (hok : ∀ a, okL 0 (enc a) = true) (h0 : h id = some (.cells (fl enc l))) :
    thaw (d + 2) h (.rsl id 0 l.length n) = some (.lst n (l.map enc), [id]) := by
  have e : thaw (d + 2) h (.rsl id 0 l.length n) = (match h id with
      | some (.cells cs) => if 0 + l.length * n ≤ cs.length then (match mapO (thaw (d + 1) h) cs with | some (cs', is) => some (.lst n (chunks n (cs'.drop 0) l.length), id :: is) | none => none) else none
      | _ => none) := rfl
  rw [e, h0]
  simp only []
  rw [if_pos (by rw [fl_len hn]; omega), thaw_all d h _ (fl_ok hok l)]
  simp only [List.drop_zero, fl_chunks hn]
end Go.Proofs.Yticiopkiikcokaa
namespace Go.Proofs.Yticiopkiikcokaa
open Go Go.Am
def frzH (H : AHeap) (c id esz : Nat) (cs : List AV) : AHeap → Prop
  | [] => True
  | p :: l => (p.1 < c ∧ ((hget H p.1 = some p.2 ∧ okO c p.2 = true) ∨ ∃ xs ys : List AV, p.2 = .cells xs ∧ hget H p.1 = some (.cells ys) ∧ xs.length = ys.length ∧
    ∀ (i : Nat) (x : AV), xs[i]? = some x → (ys[i]? = some x ∧ x.ok c = true) ∨ ∃ n, ys[i]? = some (.rsl id 0 n esz) ∧ x = .lst esz (chunks esz cs n) ∧ n * esz ≤ cs.length)) ∧ frzH H c id esz cs l
theorem St.frz.of {S' S : St} {c id esz : Nat} {cs : List AV} (hnx : S'.nx = c) (hci : c ≤ id) (ho : hget S.H id = some (.cells cs)) (hok : okL 0 cs = true) (h1 : leE S.env c S'.env) (h2 : frzH S.H c id esz cs S'.H) : St.frz c id esz cs S' S := by
  refine ⟨hnx, hci, ho, hok, fun t => ?_, fun j o hj => ?_⟩
  · generalize S'.env = l at h1 ⊢
    induction l with
    | nil => exact .inl rfl
    | cons p l ih =>
      obtain ⟨k, v⟩ := p
      by_cases e : k = t
      · subst e
        have : elook ((k, v) :: l) k = v := by simp [elook]
        rw [this]; exact .inr ⟨h1.1.symm, h1.2.1⟩
      · have : elook ((k, v) :: l) t = elook l t := by simp [elook, e]
        rw [this]; exact ih h1.2.2
  · generalize S'.H = l at h2 hj
    induction l with
    | nil => simp [hget] at hj
    | cons p l ih =>
      obtain ⟨k, v⟩ := p
      by_cases e : k = j
      · subst e; simp [hget] at hj; subst hj; exact h2.1
      · simp only [hget, if_neg e] at hj; exact ih h2.2 hj
theorem all_cellB_ints : ∀ c : Cp, (encCp c).all cellB = true := fun _ => rfl
theorem app22 {h : Nat → Option AObj} {i nid : Nat} {l : List Pt} (h0 : h i = some (.cells [])) (hl : l.length ≤ 1000) : aAppend Try.prog h nid 22 22 (.rsl i 0 0 2) (.lst 2 (l.map encPt)) = some ⟨.rsl nid 0 l.length 2, [(i, none), (nid, some (.cells (fl encPt l)))]⟩ := by
  have hb := fl_cellB (enc := encPt) (fun _ => rfl) l
  simp only [aAppend, ty22, ty93, srcCells, map_all (enc := encPt) (n := 2) (fun _ => rfl) l, fl_flatten, h0]
  simp [hb]; omega
theorem app23 {h : Nat → Option AObj} {i nid : Nat} {l : List Cp} (h0 : h i = some (.cells [])) (hl : l.length ≤ 1000) : aAppend Try.prog h nid 23 23 (.rsl i 0 0 6) (.lst 6 (l.map encCp)) = some ⟨.rsl nid 0 l.length 6, [(i, none), (nid, some (.cells (fl encCp l)))]⟩ := by
  have hb := fl_cellB (enc := encCp) (fun _ => rfl) l
  simp only [aAppend, ty23, ty76, srcCells, map_all (enc := encCp) (n := 6) (fun _ => rfl) l, fl_flatten, h0]
  simp [hb]; omega
theorem app24 {h : Nat → Option AObj} {i nid : Nat} {l : List Rw} (h0 : h i = some (.cells [])) (hl : l.length ≤ 1000) : aAppend Try.prog h nid 24 24 (.rsl i 0 0 2) (.lst 2 (l.map encRw)) = some ⟨.rsl nid 0 l.length 2, [(i, none), (nid, some (.cells (fl encRw l)))]⟩ := by
  have hb := fl_cellB (enc := encRw) (fun _ => rfl) l
  simp only [aAppend, ty24, ty89, srcCells, map_all (enc := encRw) (n := 2) (fun _ => rfl) l, fl_flatten, h0]
  simp [hb]; omega
theorem app87 {h : Nat → Option AObj} {i nid : Nat} {l : List Int} (h0 : h i = some (.cells [])) (hl : l.length ≤ 1000) : aAppend Try.prog h nid 87 87 (.rsl i 0 0 1) (.lst 1 (l.map encD)) = some ⟨.rsl nid 0 l.length 1, [(i, none), (nid, some (.cells (fl encD l)))]⟩ := by
  have hb := fl_cellB (enc := encD) (fun _ => rfl) l
  simp only [aAppend, ty87, ty3, srcCells, map_all (enc := encD) (n := 1) (fun _ => rfl) l, fl_flatten, h0]
  simp [hb]; omega
end Go.Proofs.Yticiopkiikcokaa
