import Derived.Test.YtmdhgkfjlphliaaS1
/-
  CELLS OF LISTS OF STRUCTURES; lists that are changed one by one.
-/
namespace Go.Proofs.Ytmdhgkfjlphliaa
open Go Go.Am
set_option maxRecDepth 100000
set_option maxHeartbeats 4000000
theorem splice_is : ∀ (new cs : List AV) (off : Nat), off + new.length ≤ cs.length → splice cs off new = cs.take off ++ new ++ cs.drop (off + new.length)
  | [], cs, off, _ => by simp [splice]
  | x :: r, cs, off, h => by
    have h1 : off < cs.length := by simp at h; omega
    have ih := splice_is r (cs.set off x) (off + 1) (by simp at h ⊢; omega)
    show splice (cs.set off x) (off + 1) r = _
    rw [ih]
    have e1 : (cs.set off x).take (off + 1) = cs.take off ++ [x] := by
      rw [List.take_add_one, List.getElem?_set_self h1, List.take_set_of_le (Nat.le_refl _)]; rfl
    have e2 : (cs.set off x).drop (off + 1 + r.length) = cs.drop (off + (x :: r).length) := by
      rw [List.drop_set_of_lt (by omega)]
      congr 1; simp; omega
    rw [e1, e2]
    simp
/-! ### cells of a list of structures of one's own -/
theorem fl_split {α : Type} {enc : α → List AV} {n : Nat} (hn : ∀ a, (enc a).length = n) {l : List α} {k : Nat} {a : α} (hk : l[k]? = some a) :
    fl enc l = fl enc (l.take k) ++ (enc a ++ fl enc (l.drop (k + 1))) ∧ (fl enc (l.take k)).length = k * n := by
  have hl : k < l.length := by
    rcases Nat.lt_or_ge k l.length with h' | h'
    · exact h'
    · rw [List.getElem?_eq_none h'] at hk; cases hk
  refine ⟨?_, by rw [fl_len hn, List.length_take, Nat.min_eq_left (Nat.le_of_lt hl)]⟩
  have e : l = l.take k ++ a :: l.drop (k + 1) := by rw [← drop_cons hk, List.take_append_drop]
  have e2 : fl enc l = fl enc (l.take k ++ a :: l.drop (k + 1)) := congrArg _ e
  rw [e2]
  simp [fl]
theorem fl_get {α : Type} {enc : α → List AV} {n : Nat} (hn : ∀ a, (enc a).length = n) {l : List α} {k j : Nat} {a : α} (hk : l[k]? = some a) (hj : j < n) : (fl enc l)[k * n + j]? = (enc a)[j]? := by
  obtain ⟨e, h1⟩ := fl_split hn hk
  rw [e, List.getElem?_append_right (by omega), h1, Nat.add_sub_cancel_left, List.getElem?_append_left (by rw [hn]; exact hj)]
theorem fl_splice {α : Type} {enc : α → List AV} {n : Nat} (hn : ∀ a, (enc a).length = n) {l : List α} {k j : Nat} {a a' : α} {ys : List AV} (hk : l[k]? = some a) (hj : j + ys.length ≤ n) (ha : enc a' = (enc a).take j ++ ys ++ (enc a).drop (j + ys.length)) :
    k * n + j + ys.length ≤ (fl enc l).length ∧ splice (fl enc l) (k * n + j) ys = fl enc (l.set k a') := by
  obtain ⟨e, h1⟩ := fl_split hn hk
  have hl : k < l.length := by
    rcases Nat.lt_or_ge k l.length with h' | h'
    · exact h'
    · rw [List.getElem?_eq_none h'] at hk; cases hk
  have hk' : (l.set k a')[k]? = some a' := by rw [List.getElem?_set_self hl]
  obtain ⟨e', h1'⟩ := fl_split hn hk'
  rw [List.take_set_of_le (Nat.le_refl k), List.drop_set_of_lt (Nat.lt_succ_self k)] at e'
  have h2 : (enc a).length = n := hn a
  have hlen : k * n + j + ys.length ≤ (fl enc l).length := by rw [e, List.length_append, List.length_append, h1, h2]; omega
  refine ⟨hlen, ?_⟩
  rw [splice_is _ _ _ hlen, e', ha, e]
  have t1 : (fl enc (l.take k) ++ (enc a ++ fl enc (l.drop (k + 1)))).take (k * n + j) = fl enc (l.take k) ++ (enc a).take j := by
    rw [List.take_append, h1, List.take_of_length_le (by omega), Nat.add_sub_cancel_left, List.take_append_of_le_length (by omega)]
  have t2 : (fl enc (l.take k) ++ (enc a ++ fl enc (l.drop (k + 1)))).drop (k * n + j + ys.length) = (enc a).drop (j + ys.length) ++ fl enc (l.drop (k + 1)) := by
    rw [List.drop_append, h1, List.drop_eq_nil_of_le (by omega), List.nil_append, show k * n + j + ys.length - k * n = j + ys.length by omega, List.drop_append_of_le_length (by omega)]
  rw [t1, t2]
  simp only [List.append_assoc]
/-- A number of a structure is read. -/
theorem ldFl {α : Type} {enc : α → List AV} {n : Nat} (hn : ∀ a, (enc a).length = n) {h : Nat → Option AObj} {id : Nat} {l : List α} {k j o : Nat} {a : α} {x : Int} (h0 : h id = some (.cells (fl enc l))) (hk : l[k]? = some a) (hj : (enc a)[j]? = some (.int .i64 x)) (ho : o = k * n + j) : aLoad Try.prog h 3 (.vptr id o) = some ⟨.int .i64 x, []⟩ := by
  have hjn : j < n := by
    rcases Nat.lt_or_ge j n with h' | h'
    · exact h'
    · rw [List.getElem?_eq_none (by rw [hn]; exact h')] at hj; cases hj
  have e := drop_cons (show (fl enc l)[o]? = some (.int .i64 x) by rw [ho, fl_get hn hk hjn]; exact hj)
  simp only [aLoad, ty3, h0, e, aread]
  rfl
/-- A number of a structure is written. -/
theorem stFl {α : Type} {enc : α → List AV} {n : Nat} (hn : ∀ a, (enc a).length = n) {h : Nat → Option AObj} {id : Nat} {l : List α} {k j o : Nat} {a a' : α} {x : Int} (h0 : h id = some (.cells (fl enc l))) (hk : l[k]? = some a) (hj : j < n) (ha : enc a' = (enc a).take j ++ [.int .i64 x] ++ (enc a).drop (j + 1)) (ho : o = k * n + j) :
    aStore Try.prog h 3 (.vptr id o) (.int .i64 x) = some ⟨.undef, [(id, some (.cells (fl enc (l.set k a'))))]⟩ := by
  obtain ⟨h1, h2⟩ := fl_splice hn (ys := [.int .i64 x]) hk hj ha
  subst ho
  simp only [aStore, ty3, acells, h0]
  rw [if_pos ⟨rfl, h1, rfl⟩, h2]
/-- The first j of a list are changed. -/
def stepG {α : Type} (f : Nat → α → α) (l : List α) (j : Nat) : List α := l.zipIdx.map fun p => if p.2 < j then f p.2 p.1 else p.1
theorem stepG_len {α : Type} (f : Nat → α → α) (l : List α) (j : Nat) : (stepG f l j).length = l.length := by unfold stepG; rw [List.length_map, List.length_zipIdx]
theorem stepG_get {α : Type} (f : Nat → α → α) {l : List α} (j : Nat) {i : Nat} {x : α} (hx : l[i]? = some x) : (stepG f l j)[i]? = some (if i < j then f i x else x) := by
  unfold stepG
  rw [List.getElem?_map, List.getElem?_zipIdx, hx]
  simp
theorem stepG_zero {α : Type} (f : Nat → α → α) (l : List α) : stepG f l 0 = l := by
  refine List.ext_getElem? fun i => ?_
  by_cases h : i < l.length
  · have hx := List.getElem?_eq_getElem h
    rw [stepG_get f 0 hx, if_neg (by omega), hx]
  · rw [List.getElem?_eq_none (by rw [stepG_len]; omega), List.getElem?_eq_none (by omega)]
theorem stepG_set {α : Type} (f : Nat → α → α) {l : List α} {j : Nat} {x : α} (hx : l[j]? = some x) : (stepG f l j).set j (f j x) = stepG f l (j + 1) := by
  have hj := (List.getElem?_eq_some_iff.1 hx).1
  refine List.ext_getElem? fun i => ?_
  by_cases h : i < l.length
  · have hy := List.getElem?_eq_getElem h
    rw [stepG_get f (j + 1) hy]
    by_cases e : i = j
    · subst e
      rw [List.getElem?_set_self (by rw [stepG_len]; exact h), if_pos (by omega)]
      rw [hx] at hy
      rw [Option.some.inj hy]
    · rw [List.getElem?_set_ne (Ne.symm e), stepG_get f j hy]
      by_cases h2 : i < j
      · rw [if_pos h2, if_pos (by omega)]
      · rw [if_neg h2, if_neg (by omega)]
  · rw [List.getElem?_eq_none (by rw [List.length_set, stepG_len]; omega), List.getElem?_eq_none (by rw [stepG_len]; omega)]
theorem stepG_all {α : Type} (f : Nat → α → α) (l : List α) : stepG f l l.length = l.zipIdx.map fun p => f p.2 p.1 := by
  unfold stepG
  refine List.map_congr_left fun p hp => ?_
  rw [if_pos]
  have := List.mem_zipIdx' (x := p.1) (i := p.2) hp
  exact this.1
end Go.Proofs.Ytmdhgkfjlphliaa
