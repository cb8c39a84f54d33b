import Derived.Test.YtmllgnnhblhfeaaDoorNQ
/-
  THE FEWEST MARKS: facts. Plain.
-/
namespace Go.Proofs.YtmllgnnhblhfeaaDoor
open Go Go.Am
/-- Some marks, and no others, exclude a room. -/
def exM (s : Scn) (room : Nat) (ms : List Mk) : Bool := (allD (gSp s.gates)).all fun ds => !okW (allV s.fin (farP s ds room) (0, s.fin) (mrks ms))
theorem exB_M (s : Scn) (room set : Nat) : exB s room set = exM s room (pickS s.marks set) := by
  have e : exB s room set = true ↔ exM s room (pickS s.marks set) = true := by
    rw [ex_iff]
    unfold exM
    rw [List.all_eq_true]
    constructor
    · intro h ds hd
      cases q : okW (allV s.fin (farP s ds room) (0, s.fin) (mrks (pickS s.marks set))) with
      | false => rfl
      | true => exact absurd ⟨Int.le_refl _, of_decide_eq_true q⟩ (h ds hd _)
    · intro h ds hd n q
      have := h ds hd
      rw [Bool.not_eq_true'] at this
      exact absurd (Int.le_trans q.1 q.2) (of_decide_eq_false this)
  cases h1 : exB s room set <;> cases h2 : exM s room (pickS s.marks set)
  · rfl
  · exact absurd (e.2 h2) (by rw [h1]; exact Bool.false_ne_true)
  · exact absurd (e.1 h1) (by rw [h2]; exact Bool.false_ne_true)
  · rfl
/-- A scene with other marks. -/
def wM (s : Scn) (ms : List Mk) : Scn := { s with marks := ms }
theorem ex_wM (s : Scn) (room : Nat) (ms : List Mk) : exB (wM s ms) room (allN (wM s ms)) = exM s room ms := by
  rw [exB_M, all_bits]; rfl
theorem allD_ne {s : Scn} (h : ScOk s) : ∃ ds, ds ∈ allD (gSp s.gates) := by
  obtain ⟨⟨t, e⟩, _⟩ := all_run (sp_le h)
  exact ⟨_, by rw [e]; exact List.mem_cons_self⟩
theorem ex_none {s : Scn} (h : ScOk s) (room : Nat) : exM s room [] = false := by
  obtain ⟨ds, hd⟩ := allD_ne h
  unfold exM
  rw [List.all_eq_false]
  refine ⟨ds, hd, ?_⟩
  have : okW (allV s.fin (farP s ds room) (0, s.fin) (mrks [])) = true := decide_eq_true h.fin.1
  rw [this]; decide
theorem exM_mono {s : Scn} {room : Nat} {a b : List Mk} (hab : ∀ m ∈ a, m ∈ b) (h : exM s room a = true) : exM s room b = true := by
  unfold exM at h ⊢
  rw [List.all_eq_true] at h ⊢
  intro ds hd
  cases q : okW (allV s.fin (farP s ds room) (0, s.fin) (mrks b)) with
  | false => rfl
  | true =>
    have q1 := of_decide_eq_true q
    have i := allV_iff.1 (show inS (allV s.fin (farP s ds room) (0, s.fin) (mrks b)) _ from ⟨Int.le_refl _, q1⟩)
    have j : inS (allV s.fin (farP s ds room) (0, s.fin) (mrks a)) (allV s.fin (farP s ds room) (0, s.fin) (mrks b)).1 := allV_iff.2 ⟨i.1, fun m hm => by
      obtain ⟨x, hx, rfl⟩ := List.mem_map.1 hm
      exact i.2 _ (List.mem_map.2 ⟨x, hab x hx, rfl⟩)⟩
    have k := h ds hd
    rw [Bool.not_eq_true'] at k
    exact absurd (Int.le_trans j.1 j.2) (of_decide_eq_false k)
/-! ### sets and their lists -/
theorem pick_cons (m : Mk) (ms : List Mk) (b : Nat) (set : Nat) (hb : b < 2) : pickS (m :: ms) (2 * set + b) = (if b = 1 then [m] else []) ++ pickS ms set := by
  have hz : (m :: ms).zipIdx = (m, 0) :: (ms.zipIdx).map (fun p => (p.1, p.2 + 1)) := by
    rw [List.zipIdx_cons, Nat.zero_add, List.zipIdx_succ]
  unfold pickS
  rw [hz, List.filterMap_cons, List.filterMap_map]
  have h0 : (2 * set + b).testBit 0 = decide (b = 1) := by
    rw [Nat.testBit_zero]
    congr 1
    exact propext ⟨fun q => by omega, fun q => by omega⟩
  have hs : ∀ i, (2 * set + b).testBit (i + 1) = set.testBit i := fun i => by
    rw [Nat.testBit_succ]
    congr 1; omega
  have e : ((fun p : Mk × Nat => if (2 * set + b).testBit p.2 = true then some p.1 else none) ∘ fun p : Mk × Nat => (p.1, p.2 + 1)) = fun p : Mk × Nat => if set.testBit p.2 = true then some p.1 else none := by
    funext p
    simp only [Function.comp_apply, hs]
  rw [e]
  simp only [h0, decide_eq_true_eq]
  by_cases q : b = 1
  · simp [q]
  · simp [q]
theorem sub_set : ∀ {ms sub : List Mk}, List.Sublist sub ms → ∃ set, set < 2 ^ ms.length ∧ pickS ms set = sub := by
  intro ms sub h
  induction h with
  | slnil => exact ⟨0, by decide, rfl⟩
  | @cons l₁ l₂ a _ ih =>
    obtain ⟨k, h1, h2⟩ := ih
    refine ⟨2 * k + 0, by rw [List.length_cons, Nat.pow_succ]; omega, ?_⟩
    rw [pick_cons _ _ 0 k (by decide), h2]; rfl
  | @cons_cons l₁ l₂ a _ ih =>
    obtain ⟨k, h1, h2⟩ := ih
    refine ⟨2 * k + 1, by rw [List.length_cons, Nat.pow_succ]; omega, ?_⟩
    rw [pick_cons _ _ 1 k (by decide), h2]; rfl
theorem pick_sub (set : Nat) : ∀ ms : List Mk, List.Sublist (pickS ms set) ms := by
  intro ms
  induction ms generalizing set with
  | nil => exact .slnil
  | cons m ms ih =>
    have e : set = 2 * (set / 2) + set % 2 := by omega
    rw [e, pick_cons _ _ _ _ (Nat.mod_lt _ (by decide))]
    by_cases q : set % 2 = 1
    · rw [if_pos q]; exact (ih _).cons_cons m
    · rw [if_neg q]; exact (ih _).cons m
/-- The places of a set's marks. -/
theorem pick_pos : ∀ (ms : List Mk) (set : Nat), set < 2 ^ ms.length → ms.length ≤ 8 → pickS ms set = (posD set).map (fun i => ms.getD i default) := by
  intro ms set hs hl
  have h1 : posD set = (List.range ms.length).filter fun i => set.testBit i := by
    unfold posD
    have : List.range 8 = List.range ms.length ++ (List.range (8 - ms.length)).map (ms.length + ·) := by
      rw [← List.range_add]; congr 1; omega
    rw [this, List.filter_append]
    have z : ((List.range (8 - ms.length)).map (ms.length + ·)).filter (fun i => set.testBit i) = [] := by
      rw [List.filter_eq_nil_iff]
      intro i hi
      obtain ⟨j, _, rfl⟩ := List.mem_map.1 hi
      rw [Nat.testBit_lt_two_pow (Nat.lt_of_lt_of_le hs (Nat.pow_le_pow_right (by decide) (by omega)))]
      decide
    rw [z, List.append_nil]
  rw [h1]
  have key : ∀ k, k ≤ ms.length → pickS (ms.take k) set = ((List.range k).filter fun i => set.testBit i).map (fun i => ms.getD i default) := by
    intro k
    induction k with
    | zero => intro _; rfl
    | succ k ih =>
      intro hk
      have hx : ms[k]? = some ms[k] := List.getElem?_eq_getElem (by omega)
      have hd : ms.getD k default = ms[k] := by rw [List.getD_eq_getElem?_getD, hx]; rfl
      rw [pick_take hx, ih (by omega), List.range_succ, List.filter_append, List.map_append]
      congr 1
      cases q : set.testBit k
      · simp [q]
      · simp [q, hx]
  have := key ms.length (Nat.le_refl _)
  rwa [List.take_length] at this
theorem pos_len (set : Nat) : (posD set).length = popD set := by unfold posD popD; rw [List.countP_eq_length_filter]
theorem ids_inc : ∀ {l : List Mk} {L : Int}, incF L (l.map (·.id)) = true → (∀ m ∈ l, L ≤ m.id) ∧ l.Pairwise fun a b => a.id < b.id := by
  intro l
  induction l with
  | nil => intro L _; exact ⟨fun m h => (List.not_mem_nil h).elim, .nil⟩
  | cons m l ih =>
    intro L h
    simp only [List.map_cons, incF, Bool.and_eq_true, inB_iff] at h
    obtain ⟨i1, i2⟩ := ih h.2
    refine ⟨fun x hx => ?_, List.pairwise_cons.2 ⟨fun x hx => by have := i1 x hx; omega, i2⟩⟩
    rcases List.mem_cons.1 hx with rfl | hx
    · exact h.1.1
    · have := i1 x hx; omega
/-- The order of sets is that of the lists of their Ids. -/
theorem ord_ids {s : Scn} (h : ScOk s) {a b : Nat} (ha : a < 2 ^ s.marks.length) (hb : b < 2 ^ s.marks.length) : ordD a b = ahdD (idsP s a) (idsP s b) := by
  have p8 : 2 ^ s.marks.length ≤ 256 := by
    have := Nat.pow_le_pow_right (n := 2) (by decide) h.ml
    exact this
  rw [ord_eq (by omega) (by omega)]
  unfold ordL idsP
  rw [pick_pos _ _ ha h.ml, pick_pos _ _ hb h.ml, List.map_map, List.map_map]
  unfold ahdD
  simp only [List.length_map]
  have bnd : ∀ {c i : Nat}, c < 2 ^ s.marks.length → i ∈ posD c → i < s.marks.length := by
    intro c i hc hi
    refine Classical.byContradiction fun q => ?_
    have := (posD_mem.1 hi).2
    rw [Nat.testBit_lt_two_pow (Nat.lt_of_lt_of_le hc (Nat.pow_le_pow_right (by decide) (by omega)))] at this
    cases this
  have hinc := (ids_inc h.inc).2
  have mono : ∀ {i j : Nat}, i < s.marks.length → j < s.marks.length → i < j → (s.marks.getD i default).id < (s.marks.getD j default).id := by
    intro i j hi hj hij
    rw [List.getD_eq_getElem?_getD, List.getElem?_eq_getElem hi, List.getD_eq_getElem?_getD, List.getElem?_eq_getElem hj]
    exact List.pairwise_iff_getElem.1 hinc i j hi hj hij
  have e : lexD ((posD a).map fun (i : Nat) => (s.marks.getD i default).id) ((posD b).map fun (i : Nat) => (s.marks.getD i default).id) = lexD ((posD a).map fun (n : Nat) => (n : Int)) ((posD b).map fun (n : Nat) => (n : Int)) := by
    refine lex_map _ fun x y hx hy => ?_
    have hx := bnd ha hx
    have hy := bnd hb hy
    rcases Nat.lt_trichotomy x y with q | q | q
    · have := mono hx hy q
      exact ⟨⟨fun _ => q, fun _ => this⟩, ⟨fun e => by omega, fun e => by omega⟩⟩
    · subst q
      exact ⟨⟨fun e => absurd e (Int.lt_irrefl _), fun e => absurd e (Nat.lt_irrefl _)⟩, ⟨fun _ => rfl, fun _ => rfl⟩⟩
    · have := mono hy hx q
      exact ⟨⟨fun e => by omega, fun e => by omega⟩, ⟨fun e => by omega, fun e => by omega⟩⟩
  have e2 : ((fun x : Mk => x.id) ∘ fun i => s.marks.getD i default) = fun (i : Nat) => (s.marks.getD i default).id := rfl
  rw [e2, e]
/-- What is told is the first of the fewest. -/
theorem few_min {s : Scn} (h : ScOk s) {p : Nat → Bool} {w : List Int} (e : fewP s p = some w) : ∃ b, w = idsP s b ∧ b < 2 ^ s.marks.length ∧ p b = true ∧ ∀ t, t < 2 ^ s.marks.length → p t = true → ordD t b = false := by
  unfold fewP at e
  split at e
  · rename_i hp
    cases e
    have p8 : 2 ^ s.marks.length ≤ 256 := Nat.pow_le_pow_right (n := 2) (by decide) h.ml
    have p1 : 0 < 2 ^ s.marks.length := Nat.pow_pos (by decide)
    have en : allN s + 1 = 2 ^ s.marks.length := by unfold allN; omega
    have m := best_min (ordD_ord.le (show allN s + 1 ≤ 256 by omega)) hp
    rw [en] at m
    exact ⟨_, rfl, m.1, m.2.1, m.2.2⟩
  · cases e
theorem few_none {s : Scn} {p : Nat → Bool} : fewP s p = none ↔ p (allN s) = false := by
  unfold fewP
  cases p (allN s) <;> simp
/-! ### the marks with some Ids -/
def withG : List Mk → List Int → List Mk × List Int
  | [], ids => ([], ids)
  | _ :: _, [] => ([], [])
  | m :: ms, i :: ids => if i = m.id then (m :: (withG ms ids).1, (withG ms ids).2) else withG ms (i :: ids)
theorem withG_nil (ms : List Mk) : withG ms [] = ([], []) := by cases ms <;> rfl
theorem withG_sub : ∀ {ms sub : List Mk}, List.Sublist sub ms → ms.Pairwise (fun a b => a.id < b.id) → withG ms (sub.map (·.id)) = (sub, []) := by
  intro ms sub h
  induction h with
  | slnil => intro _; rfl
  | @cons l₁ l₂ a q ih =>
    intro hp
    obtain ⟨h1, h2⟩ := List.pairwise_cons.1 hp
    cases l₁ with
    | nil => exact withG_nil _
    | cons x l =>
      have hx := h1 x (q.subset List.mem_cons_self)
      show (if x.id = a.id then _ else withG l₂ (x.id :: l.map (·.id))) = _
      rw [if_neg (by omega)]
      exact ih h2
  | @cons_cons l₁ l₂ a q ih =>
    intro hp
    obtain ⟨h1, h2⟩ := List.pairwise_cons.1 hp
    show (if a.id = a.id then (a :: (withG l₂ (l₁.map (·.id))).1, (withG l₂ (l₁.map (·.id))).2) else _) = _
    rw [if_pos rfl, ih h2]
end Go.Proofs.YtmllgnnhblhfeaaDoor
