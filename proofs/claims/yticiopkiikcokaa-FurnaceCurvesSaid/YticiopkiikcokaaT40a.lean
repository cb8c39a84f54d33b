import Derived.Test.YticiopkiikcokaaT39
namespace Go.Proofs.Yticiopkiikcokaa
open Go Go.Am
def arrL (f : Nat → Sn) : List AV := flS ((List.range 61).map f)
def workL (r : Rn) (mf cf : Nat → Sn) : List AV := runL r ++ (arrL mf ++ arrL cf)
theorem splice_two (cs : List AV) (off : Nat) (x y : AV) : splice cs off [x, y] = (cs.set off x).set (off + 1) y := rfl
theorem splice_flS (s : Sn) : ∀ (xs : List Sn) (i : Nat), i < xs.length → splice (flS xs) (i * 2) [.int .i64 s.lo, .int .i64 s.hi] = flS (xs.set i s) := by
  intro xs
  induction xs with
  | nil => intro i h; simp at h
  | cons a xs ih =>
    intro i h
    have ea : ∀ b ys, flS (b :: ys) = AV.int .i64 b.lo :: AV.int .i64 b.hi :: flS ys := fun _ _ => rfl
    cases i with
    | zero => rw [splice_two, ea]; rfl
    | succ i =>
      have := ih i (by simpa using h)
      rw [splice_two] at this
      have e : (i + 1) * 2 = i * 2 + 1 + 1 := by omega
      rw [splice_two, ea, e, List.set_cons_succ, List.set_cons_succ, List.set_cons_succ, List.set_cons_succ, this, List.set_cons_succ, ea]
theorem splice_right (A B : List AV) (off : Nat) (x y : AV) : splice (A ++ B) (A.length + off) [x, y] = A ++ splice B off [x, y] := by
  rw [splice_two, splice_two, List.set_append_right _ _ (by omega), List.set_append_right _ _ (by omega)]
  have e1 : A.length + off - A.length = off := by omega
  have e2 : A.length + off + 1 - A.length = off + 1 := by omega
  rw [e1, e2]
theorem splice_left (A B : List AV) (off : Nat) (x y : AV) (h : off + 1 < A.length) : splice (A ++ B) off [x, y] = splice A off [x, y] ++ B := by
  rw [splice_two, splice_two, List.set_append_left _ _ (by omega), List.set_append_left _ _ (by rw [List.length_set]; omega)]
def updF (f : Nat → Sn) (i : Nat) (s : Sn) : Nat → Sn := fun j => if j = i then s else f j
theorem map_set (f : Nat → Sn) (i : Nat) (s : Sn) (hi : i < 61) : ((List.range 61).map f).set i s = (List.range 61).map (updF f i s) := by
  refine List.ext_getElem (by simp) fun j h1 h2 => ?_
  simp only [List.length_set, List.length_map, List.length_range] at h1
  rw [List.getElem_set]
  by_cases e : i = j
  · subst e; simp [updF]
  · rw [if_neg e]
    have : ¬ j = i := fun h => e h.symm
    simp [updF, this]
theorem arrL_len (f : Nat → Sn) : (arrL f).length = 122 := by unfold arrL; rw [flS_length]; simp
theorem splice_m (r : Rn) (mf cf : Nat → Sn) (i : Nat) (s : Sn) (hi : i < 61) : splice (workL r mf cf) (6 + i * 2) [.int .i64 s.lo, .int .i64 s.hi] = workL r (updF mf i s) cf := by
  have h6 : (runL r).length = 6 := rfl
  unfold workL
  rw [← h6, splice_right, splice_left _ _ _ _ _ (by rw [arrL_len]; omega)]
  have : splice (arrL mf) (i * 2) [.int .i64 s.lo, .int .i64 s.hi] = arrL (updF mf i s) := by
    unfold arrL; rw [splice_flS _ _ _ (by simpa using hi), map_set _ _ _ hi]
  rw [this]
theorem splice_c (r : Rn) (mf cf : Nat → Sn) (i : Nat) (s : Sn) (hi : i < 61) : splice (workL r mf cf) (128 + i * 2) [.int .i64 s.lo, .int .i64 s.hi] = workL r mf (updF cf i s) := by
  have h6 : (runL r ++ arrL mf).length = 128 := by rw [List.length_append, arrL_len]; rfl
  unfold workL
  rw [← List.append_assoc, ← List.append_assoc, ← h6, splice_right]
  have : splice (arrL cf) (i * 2) [.int .i64 s.lo, .int .i64 s.hi] = arrL (updF cf i s) := by
    unfold arrL; rw [splice_flS _ _ _ (by simpa using hi), map_set _ _ _ hi]
  rw [this]
theorem workL_len (r : Rn) (mf cf : Nat → Sn) : (workL r mf cf).length = 250 := by
  unfold workL; simp only [List.length_append, arrL_len]; rfl
theorem okL_append (n : Nat) : ∀ a b : List AV, okL n a = true → okL n b = true → okL n (a ++ b) = true := by
  intro a b ha hb
  induction a with
  | nil => exact hb
  | cons x a ih =>
    simp only [okL, Bool.and_eq_true] at ha
    show (x.ok n && okL n (a ++ b)) = true
    rw [ha.1, ih ha.2]; rfl
theorem workL_ok (n : Nat) (r : Rn) (mf cf : Nat → Sn) : okL n (workL r mf cf) = true := okL_append n _ _ rfl (okL_append n _ _ (flS_ok n _) (flS_ok n _))
theorem mapO_ok (n : Nat) (h : Nat → Option AObj) : ∀ l : List AV, okL 0 l = true → mapO (thaw (n + 1) h) l = some (l, []) := by
  intro l
  induction l with
  | nil => intro _; rfl
  | cons a l ih =>
    intro hl
    simp only [okL, Bool.and_eq_true] at hl
    have e : thaw (n + 1) h a = some (a, []) := by unfold thaw; rw [if_pos hl.1]
    simp only [mapO, e, ih hl.2, List.nil_append]
/-- A pointer to what is at work, and a number, lent. -/
theorem thaw_W {h : Nat → Option AObj} {i : Nat} {cs : List AV} {v : Int} (h0 : h i = some (.cells cs)) (hok : okL 0 cs = true) : thawL h [.vptr i 0, .int .i64 v] = some ([.cptr cs, .int .i64 v], [i]) := by
  have e : thaw 8 h (.vptr i 0) = (match h i with
      | some (.cells cs) => (match mapO (thaw 7 h) cs with | some (cs', is) => some (.cptr (cs'.drop 0), i :: is) | none => none)
      | _ => none) := rfl
  have e2 : thawL h [.vptr i 0, .int .i64 v] = (match thaw 8 h (.vptr i 0), mapO (thaw 8 h) [.int .i64 v] with
      | some (a, is), some (l, js) => some (a :: l, is ++ js)
      | _, _ => none) := rfl
  rw [e2, e, h0]
  simp only []
  rw [mapO_ok 6 h cs hok, mapO_ok 7 h [.int .i64 v] rfl]
  rfl
theorem arrIx {h : Nat → Option AObj} {id off : Nat} {i : Int} {k : Nat} (hi : i = (k : Int)) (hk : k < 61) : aindexAddr Try.prog h 99 (.vptr id off) (.int .i64 i) = some (.vptr id (off + k * 2)) := by
  subst hi
  simp only [aindexAddr, ty99, ty26]
  rw [if_pos ⟨Int.natCast_nonneg _, by simpa using hk⟩]; rfl
theorem arrSt {h : Nat → Option AObj} {id off : Nat} {cs : List AV} {s : Sn} (h0 : h id = some (.cells cs)) (hl : off + 2 ≤ cs.length) : aStore Try.prog h 26 (.vptr id off) (.agg [.int .i64 s.lo, .int .i64 s.hi]) = some ⟨.undef, [(id, some (.cells (splice cs off [.int .i64 s.lo, .int .i64 s.hi])))]⟩ := by
  simp only [aStore, ty26, acells, h0]
  rw [if_pos ⟨rfl, hl, rfl⟩]
end Go.Proofs.Yticiopkiikcokaa
