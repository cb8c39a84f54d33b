import Derived.Test.YtmdhgkfjlphliaaGreatS1
import Derived.Test.YtmdhgkfjlphliaaGreatT9
/-
  MAPS FROM NUMBERS TO NUMBERS OR TRUTHS.
-/
namespace Go.Proofs.YtmdhgkfjlphliaaGreat
open Go Go.Am
set_option maxRecDepth 100000
set_option maxHeartbeats 4000000
def entG (f : Int → AV) (x : Int) : AV × AV := (.int .i64 x, f x)
def entsG (f : Int → AV) (l : List Int) : List (AV × AV) := l.map (entG f)
theorem okE_entsG {n : Nat} {f : Int → AV} (hf : ∀ x, (f x).ok n = true) : ∀ l : List Int, okE n (entsG f l) = true := by
  intro l
  induction l with
  | nil => rfl
  | cons a l ih =>
    show (((entG f a).1.ok n && (entG f a).2.ok n) && okE n (entsG f l)) = true
    rw [ih, show (entG f a).2.ok n = true from hf a]; rfl
theorem afindG (f : Int → AV) (x : Int) : ∀ (l : List Int) (i : Nat), afind Tryz.prog 3 (.int .i64) (.int .i64 x) (entsG f l) i = some (if x ∈ l then some (i + l.idxOf x, f x) else none) := by
  intro l
  induction l with
  | nil => intro i; rfl
  | cons a l ih =>
    intro i
    show (match akeq Tryz.prog 3 (.int .i64) (.int .i64 x) (.int .i64 a) with
      | some true => some (some (i, (entG f a).2))
      | some false => afind Tryz.prog 3 (.int .i64) (.int .i64 x) (entsG f l) (i + 1)
      | none => none) = _
    have hk : akeq Tryz.prog 3 (.int .i64) (.int .i64 x) (.int .i64 a) = some (decide (x = a)) := by
      show (if IntKind.i64 = IntKind.i64 then some (x == a) else none) = _
      rw [if_pos rfl]
      congr 1
    rw [hk]
    by_cases e : x = a
    · subst e
      simp [entG]
    · rw [decide_eq_false e]
      simp only []
      rw [ih (i + 1)]
      by_cases hm : x ∈ l
      · rw [if_pos hm, if_pos (List.mem_cons_of_mem _ hm), show (a :: l).idxOf x = l.idxOf x + 1 from by rw [List.idxOf_cons, show (a == x) = false from by rw [beq_eq_false_iff_ne]; exact Ne.symm e]; rfl]
        congr 2
        rw [Nat.add_assoc, Nat.add_comm 1]
      · rw [if_neg hm, if_neg (by simp [e, hm])]
def boF (p : Int → Bool) (x : Int) : AV := .bool (p x)
def inF (o : Int → Int) (x : Int) : AV := .int .i64 (o x)
/-- Truths under numbers. -/
theorem lookBo {h : Nat → Option AObj} {p : Int → Bool} {l : List Int} {x : Int} {m : AV} (hm : amap h m = some (entsG (boF p) l)) : aLookup Tryz.prog h 36 m (.int .i64 x) false = some (.bool (l.contains x && p x)) := by
  have hz : azero Tryz.prog 4 = some (.bool false) := by kernel_rfl
  simp only [aLookup, ty36, ty3, hm]
  rw [if_pos (show akeyB Tryz.prog (.int .i64) (.int .i64 x) = true from rfl), afindG, hz]
  by_cases hm : x ∈ l
  · rw [if_pos hm, show l.contains x = true from by simpa using hm]; rfl
  · rw [if_neg hm, show l.contains x = false from by simpa using hm]; rfl
theorem updBo {h : Nat → Option AObj} {i : Nat} {p : Int → Bool} {l : List Int} {x : Int} (h0 : h i = some (.map (entsG (boF p) l))) (hl : x ∉ l) :
    aMapUpdate Tryz.prog h 36 (.mref i) (.int .i64 x) (.bool (p x)) = some ⟨.undef, [(i, some (.map (entsG (boF p) (l ++ [x]))))]⟩ := by
  simp only [aMapUpdate, ty36, ty3, h0]
  rw [if_pos (show akeyB Tryz.prog (.int .i64) (.int .i64 x) = true from rfl), afindG, if_neg hl]
  simp [entsG, entG, boF]
/-- Numbers under numbers. -/
theorem lookIn {h : Nat → Option AObj} {o : Int → Int} {l : List Int} {x : Int} {m : AV} (hm : amap h m = some (entsG (inF o) l)) (h0 : x ∉ l → o x = 0) : aLookup Tryz.prog h 61 m (.int .i64 x) false = some (.int .i64 (o x)) := by
  have hz : azero Tryz.prog 3 = some (.int .i64 0) := by kernel_rfl
  simp only [aLookup, ty61, ty3, hm]
  rw [if_pos (show akeyB Tryz.prog (.int .i64) (.int .i64 x) = true from rfl), afindG, hz]
  by_cases hm : x ∈ l
  · rw [if_pos hm]; rfl
  · rw [if_neg hm, h0 hm]; rfl
def addK (l : List Int) (x : Int) : List Int := if x ∈ l then l else l ++ [x]
theorem set_entsG {f : Int → AV} {g : Int → AV} {x : Int} (hg : ∀ y, y ≠ x → g y = f y) : ∀ {l : List Int}, l.Nodup → x ∈ l → (entsG f l).set (l.idxOf x) (.int .i64 x, g x) = entsG g l := by
  intro l
  induction l with
  | nil => intro _ h; cases h
  | cons a l ih =>
    intro hn hx
    rw [List.nodup_cons] at hn
    have cg : ∀ l : List Int, x ∉ l → entsG f l = entsG g l := by
      intro l hl
      unfold entsG
      refine List.map_congr_left fun y hy => ?_
      unfold entG
      rw [hg y fun e => hl (e ▸ hy)]
    by_cases e : a = x
    · subst e
      rw [List.idxOf_cons_self]
      show (Prod.mk (AV.int .i64 a) (g a)) :: entsG f l = entsG g (a :: l)
      rw [cg l hn.1]; rfl
    · have hm : x ∈ l := by rcases List.mem_cons.1 hx with h | h; exact absurd h.symm e; exact h
      rw [List.idxOf_cons, show (a == x) = false from beq_eq_false_iff_ne.2 e]
      show entG f a :: (entsG f l).set (l.idxOf x) (.int .i64 x, g x) = entsG g (a :: l)
      rw [ih hn.2 hm]
      show entG f a :: entsG g l = entG g a :: entsG g l
      unfold entG
      rw [hg a e]
theorem updIn {h : Nat → Option AObj} {i : Nat} {o o' : Int → Int} {l : List Int} {x : Int} (h0 : h i = some (.map (entsG (inF o) l))) (hn : l.Nodup) (ho : ∀ y, y ≠ x → o' y = o y) :
    aMapUpdate Tryz.prog h 61 (.mref i) (.int .i64 x) (.int .i64 (o' x)) = some ⟨.undef, [(i, some (.map (entsG (inF o') (addK l x))))]⟩ := by
  simp only [aMapUpdate, ty61, ty3, h0]
  rw [if_pos (show akeyB Tryz.prog (.int .i64) (.int .i64 x) = true from rfl), afindG]
  have hg : ∀ y, y ≠ x → inF o' y = inF o y := fun y hy => by unfold inF; rw [ho y hy]
  by_cases hm : x ∈ l
  · rw [if_pos hm]
    unfold addK
    rw [if_pos hm, ← set_entsG hg hn hm]
    simp [inF]
  · rw [if_neg hm]
    unfold addK
    rw [if_neg hm]
    have e : entsG (inF o) l = entsG (inF o') l := by
      unfold entsG
      refine List.map_congr_left fun y hy => ?_
      unfold entG
      rw [hg y fun e => hm (e ▸ hy)]
    rw [e]
    simp [entsG, entG, inF]
theorem addK_nodup {l : List Int} (h : l.Nodup) (x : Int) : (addK l x).Nodup := by
  unfold addK
  split
  · exact h
  · rename_i hx
    exact List.nodup_append.2 ⟨h, by simp, fun a ha b hb => by rw [List.mem_singleton.1 hb]; exact fun e => hx (e ▸ ha)⟩
theorem addK_mem {l : List Int} {x y : Int} : y ∈ addK l x ↔ y ∈ l ∨ y = x := by
  unfold addK
  split
  · rename_i h; exact ⟨.inl, fun h' => h'.elim id fun e => e ▸ h⟩
  · simp
/-- The batches of which something was sold, or came back. -/
def keyK : List Mov → List Int
  | l => l.foldl (fun K m => if m.kd.val = 4 ∨ m.kd.val = 2 then addK K m.batch else K) []
theorem keyK_take {l : List Mov} {k : Nat} {m : Mov} (hm : l[k]? = some m) : keyK (l.take (k + 1)) = if m.kd.val = 4 ∨ m.kd.val = 2 then addK (keyK (l.take k)) m.batch else keyK (l.take k) := by
  unfold keyK
  rw [List.take_add_one, hm, List.foldl_append]; rfl
theorem keyK_ok (l : List Mov) : ∀ k : Nat, k ≤ l.length → (keyK (l.take k)).Nodup ∧ ∀ b, b ∉ keyK (l.take k) → outV (l.take k) b = 0 := by
  intro k
  induction k with
  | zero => intro _; exact ⟨.nil, fun b _ => by simp [outV, storeV, stoK, sto0]⟩
  | succ k ih =>
    intro hk
    obtain ⟨m, hm⟩ : ∃ m, l[k]? = some m := ⟨_, List.getElem?_eq_getElem (show k < l.length by omega)⟩
    obtain ⟨h1, h2⟩ := ih (by omega)
    rw [keyK_take hm]
    split
    · rename_i h
      refine ⟨addK_nodup h1 _, fun b hb => ?_⟩
      rw [addK_mem, not_or] at hb
      rw [outV_take hm, h2 b hb.1]
      unfold outM
      rw [if_neg fun e => hb.2 e.symm]; rfl
    · rename_i h
      refine ⟨h1, fun b hb => ?_⟩
      rw [outV_take hm, h2 b hb]
      unfold outM
      split
      · rw [if_neg fun e => h (.inl e), if_neg fun e => h (.inr e)]; rfl
      · rfl
end Go.Proofs.YtmdhgkfjlphliaaGreat
/-
  CELLS OF LISTS OF STRUCTURES; lists that are changed one by one.
-/
namespace Go.Proofs.YtmdhgkfjlphliaaGreat
open Go Go.Am
set_option maxRecDepth 100000
set_option maxHeartbeats 4000000
theorem splice_is : ∀ (new cs : List AV) (off : Nat), off + new.length ≤ cs.length → splice cs off new = cs.take off ++ new ++ cs.drop (off + new.length)
  | [], cs, off, _ => by simp [splice]
  | x :: r, cs, off, h => by
    have h1 : off < cs.length := by simp at h; omega
    have ih := splice_is r (cs.set off x) (off + 1) (by simp at h ⊢; omega)
    show splice (cs.set off x) (off + 1) r = _
    rw [ih]
    have e1 : (cs.set off x).take (off + 1) = cs.take off ++ [x] := by
      rw [List.take_add_one, List.getElem?_set_self h1, List.take_set_of_le (Nat.le_refl _)]; rfl
    have e2 : (cs.set off x).drop (off + 1 + r.length) = cs.drop (off + (x :: r).length) := by
      rw [List.drop_set_of_lt (by omega)]
      congr 1; simp; omega
    rw [e1, e2]
    simp
/-! ### cells of a list of structures of one's own -/
theorem fl_split {α : Type} {enc : α → List AV} {n : Nat} (hn : ∀ a, (enc a).length = n) {l : List α} {k : Nat} {a : α} (hk : l[k]? = some a) :
    fl enc l = fl enc (l.take k) ++ (enc a ++ fl enc (l.drop (k + 1))) ∧ (fl enc (l.take k)).length = k * n := by
  have hl : k < l.length := by
    rcases Nat.lt_or_ge k l.length with h' | h'
    · exact h'
    · rw [List.getElem?_eq_none h'] at hk; cases hk
  refine ⟨?_, by rw [fl_len hn, List.length_take, Nat.min_eq_left (Nat.le_of_lt hl)]⟩
  have e : l = l.take k ++ a :: l.drop (k + 1) := by rw [← drop_cons hk, List.take_append_drop]
  have e2 : fl enc l = fl enc (l.take k ++ a :: l.drop (k + 1)) := congrArg _ e
  rw [e2]
  simp [fl]
theorem fl_get {α : Type} {enc : α → List AV} {n : Nat} (hn : ∀ a, (enc a).length = n) {l : List α} {k j : Nat} {a : α} (hk : l[k]? = some a) (hj : j < n) : (fl enc l)[k * n + j]? = (enc a)[j]? := by
  obtain ⟨e, h1⟩ := fl_split hn hk
  rw [e, List.getElem?_append_right (by omega), h1, Nat.add_sub_cancel_left, List.getElem?_append_left (by rw [hn]; exact hj)]
theorem fl_splice {α : Type} {enc : α → List AV} {n : Nat} (hn : ∀ a, (enc a).length = n) {l : List α} {k j : Nat} {a a' : α} {ys : List AV} (hk : l[k]? = some a) (hj : j + ys.length ≤ n) (ha : enc a' = (enc a).take j ++ ys ++ (enc a).drop (j + ys.length)) :
    k * n + j + ys.length ≤ (fl enc l).length ∧ splice (fl enc l) (k * n + j) ys = fl enc (l.set k a') := by
  obtain ⟨e, h1⟩ := fl_split hn hk
  have hl : k < l.length := by
    rcases Nat.lt_or_ge k l.length with h' | h'
    · exact h'
    · rw [List.getElem?_eq_none h'] at hk; cases hk
  have hk' : (l.set k a')[k]? = some a' := by rw [List.getElem?_set_self hl]
  obtain ⟨e', h1'⟩ := fl_split hn hk'
  rw [List.take_set_of_le (Nat.le_refl k), List.drop_set_of_lt (Nat.lt_succ_self k)] at e'
  have h2 : (enc a).length = n := hn a
  have hlen : k * n + j + ys.length ≤ (fl enc l).length := by rw [e, List.length_append, List.length_append, h1, h2]; omega
  refine ⟨hlen, ?_⟩
  rw [splice_is _ _ _ hlen, e', ha, e]
  have t1 : (fl enc (l.take k) ++ (enc a ++ fl enc (l.drop (k + 1)))).take (k * n + j) = fl enc (l.take k) ++ (enc a).take j := by
    rw [List.take_append, h1, List.take_of_length_le (by omega), Nat.add_sub_cancel_left, List.take_append_of_le_length (by omega)]
  have t2 : (fl enc (l.take k) ++ (enc a ++ fl enc (l.drop (k + 1)))).drop (k * n + j + ys.length) = (enc a).drop (j + ys.length) ++ fl enc (l.drop (k + 1)) := by
    rw [List.drop_append, h1, List.drop_eq_nil_of_le (by omega), List.nil_append, show k * n + j + ys.length - k * n = j + ys.length by omega, List.drop_append_of_le_length (by omega)]
  rw [t1, t2]
  simp only [List.append_assoc]
/-- A number of a structure is read. -/
theorem ldFl {α : Type} {enc : α → List AV} {n : Nat} (hn : ∀ a, (enc a).length = n) {h : Nat → Option AObj} {id : Nat} {l : List α} {k j o : Nat} {a : α} {x : Int} (h0 : h id = some (.cells (fl enc l))) (hk : l[k]? = some a) (hj : (enc a)[j]? = some (.int .i64 x)) (ho : o = k * n + j) : aLoad Tryz.prog h 3 (.vptr id o) = some ⟨.int .i64 x, []⟩ := by
  have hjn : j < n := by
    rcases Nat.lt_or_ge j n with h' | h'
    · exact h'
    · rw [List.getElem?_eq_none (by rw [hn]; exact h')] at hj; cases hj
  have e := drop_cons (show (fl enc l)[o]? = some (.int .i64 x) by rw [ho, fl_get hn hk hjn]; exact hj)
  simp only [aLoad, ty3, h0, e, aread]
  rfl
/-- A number of a structure is written. -/
theorem stFl {α : Type} {enc : α → List AV} {n : Nat} (hn : ∀ a, (enc a).length = n) {h : Nat → Option AObj} {id : Nat} {l : List α} {k j o : Nat} {a a' : α} {x : Int} (h0 : h id = some (.cells (fl enc l))) (hk : l[k]? = some a) (hj : j < n) (ha : enc a' = (enc a).take j ++ [.int .i64 x] ++ (enc a).drop (j + 1)) (ho : o = k * n + j) :
    aStore Tryz.prog h 3 (.vptr id o) (.int .i64 x) = some ⟨.undef, [(id, some (.cells (fl enc (l.set k a'))))]⟩ := by
  obtain ⟨h1, h2⟩ := fl_splice hn (ys := [.int .i64 x]) hk hj ha
  subst ho
  simp only [aStore, ty3, acells, h0]
  rw [if_pos ⟨rfl, h1, rfl⟩, h2]
/-- The first j of a list are changed. -/
def stepG {α : Type} (f : Nat → α → α) (l : List α) (j : Nat) : List α := l.zipIdx.map fun p => if p.2 < j then f p.2 p.1 else p.1
theorem stepG_len {α : Type} (f : Nat → α → α) (l : List α) (j : Nat) : (stepG f l j).length = l.length := by unfold stepG; rw [List.length_map, List.length_zipIdx]
theorem stepG_get {α : Type} (f : Nat → α → α) {l : List α} (j : Nat) {i : Nat} {x : α} (hx : l[i]? = some x) : (stepG f l j)[i]? = some (if i < j then f i x else x) := by
  unfold stepG
  rw [List.getElem?_map, List.getElem?_zipIdx, hx]
  simp
theorem stepG_zero {α : Type} (f : Nat → α → α) (l : List α) : stepG f l 0 = l := by
  refine List.ext_getElem? fun i => ?_
  by_cases h : i < l.length
  · have hx := List.getElem?_eq_getElem h
    rw [stepG_get f 0 hx, if_neg (by omega), hx]
  · rw [List.getElem?_eq_none (by rw [stepG_len]; omega), List.getElem?_eq_none (by omega)]
theorem stepG_set {α : Type} (f : Nat → α → α) {l : List α} {j : Nat} {x : α} (hx : l[j]? = some x) : (stepG f l j).set j (f j x) = stepG f l (j + 1) := by
  have hj := (List.getElem?_eq_some_iff.1 hx).1
  refine List.ext_getElem? fun i => ?_
  by_cases h : i < l.length
  · have hy := List.getElem?_eq_getElem h
    rw [stepG_get f (j + 1) hy]
    by_cases e : i = j
    · subst e
      rw [List.getElem?_set_self (by rw [stepG_len]; exact h), if_pos (by omega)]
      rw [hx] at hy
      rw [Option.some.inj hy]
    · rw [List.getElem?_set_ne (Ne.symm e), stepG_get f j hy]
      by_cases h2 : i < j
      · rw [if_pos h2, if_pos (by omega)]
      · rw [if_neg h2, if_neg (by omega)]
  · rw [List.getElem?_eq_none (by rw [List.length_set, stepG_len]; omega), List.getElem?_eq_none (by rw [stepG_len]; omega)]
theorem stepG_all {α : Type} (f : Nat → α → α) (l : List α) : stepG f l l.length = l.zipIdx.map fun p => f p.2 p.1 := by
  unfold stepG
  refine List.map_congr_left fun p hp => ?_
  rw [if_pos]
  have := List.mem_zipIdx' (x := p.1) (i := p.2) hp
  exact this.1
end Go.Proofs.YtmdhgkfjlphliaaGreat
