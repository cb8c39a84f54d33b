import Derived.Test.YticiopkiikcokaaN14
import Derived.ProofKit
/-
  FROM WHAT A ROW READS TO ABSTRACT VALUES: what can be read as data of a type is an abstract value of that type's shape; a function that only computes meets a row that says 'true; its arguments read as before'.
-/
namespace Go.Am
open Go.ChangeShapes Go.WideShapes Go.ChangeAt Go.RowKit

inductive Ty where
  | int (k : IntKind)
  | bool
  | str
  | slice (esz : Nat) (e : Ty)
  | struct (fs : List Ty)
mutual
def Ty.size : Ty → Nat
  | .struct fs => sizeL fs
  | _ => 1
termination_by structural a => a
def sizeL : List Ty → Nat
  | [] => 0
  | f :: fs => f.size + sizeL fs
termination_by structural a => a
end
mutual
/-- Cells of a shape. -/
def Vals : Ty → List AV → Prop
  | .int k, l => ∃ n, l = [.int k n] ∧ k.min ≤ n ∧ n ≤ k.max
  | .bool, l => ∃ b, l = [.bool b]
  | .str, l => ∃ s, l = [.str s] ∧ s.size ≤ maxLen
  | .slice esz e, l => ∃ xs : List (List AV), l = [.lst esz xs] ∧ xs.length ≤ maxLen ∧ ∀ x ∈ xs, Vals e x
  | .struct fs, l => ValsL fs l
termination_by structural a => a
def ValsL : List Ty → List AV → Prop
  | [], l => l = []
  | f :: fs, l => ∃ a b, l = a ++ b ∧ Vals f a ∧ ValsL fs b
termination_by structural a => a
end
mutual
theorem Vals.length : ∀ {T : Ty} {l : List AV}, Vals T l → l.length = T.size
  | .int k, l, h => by simp only [Vals] at h; obtain ⟨n, rfl, _⟩ := h; rfl
  | .bool, l, h => by simp only [Vals] at h; obtain ⟨n, rfl⟩ := h; rfl
  | .str, l, h => by simp only [Vals] at h; obtain ⟨n, rfl, _⟩ := h; rfl
  | .slice _ _, l, h => by simp only [Vals] at h; obtain ⟨n, rfl, _⟩ := h; rfl
  | .struct fs, l, h => by simp only [Vals] at h; simp only [Ty.size]; exact ValsL.length h
theorem ValsL.length : ∀ {fs : List Ty} {l : List AV}, ValsL fs l → l.length = sizeL fs
  | [], l, h => by simp only [ValsL] at h; subst h; rfl
  | f :: fs, l, h => by
    simp only [ValsL] at h
    obtain ⟨a, b, rfl, h1, h2⟩ := h
    simp only [List.length_append, sizeL, Vals.length h1, ValsL.length h2]
end

def tyOkF (P : Program) (f : TypeId → Ty → Bool) : Nat → List Field → List Ty → Bool
  | _, [], [] => true
  | off, d :: ds, T :: Ts => (d.offset == off) && (P.cellsOf d.type == T.size) && f d.type T && tyOkF P f (off + T.size) ds Ts
  | _, _, _ => false
/-- A type of the program has a shape. -/
def tyOk (P : Program) : Nat → TypeId → Ty → Bool
  | 0, _, _ => false
  | n + 1, t, T =>
    match P.underlying t, T with
    | some (.int k), .int k' => decide (k = k')
    | some .bool, .bool => true
    | some .string, .str => true
    | some (.slice e), .slice esz E => (P.cellsOf e == esz) && (E.size == esz) && tyOk P n e E
    | some (.struct Fs), .struct Ts => (P.cellsOf t == sizeL Ts) && tyOkF P (tyOk P n) 0 Fs.toList Ts
    | _, _ => false

theorem choice_list {Q : Nat → List AV → Prop} : ∀ n, (∀ i, i < n → ∃ x, Q i x) → ∃ xs : List (List AV), xs.length = n ∧ ∀ (i : Nat) x, xs[i]? = some x → Q i x := by
  intro n
  induction n with
  | zero => intro _; exact ⟨[], rfl, fun i x h => by simp at h⟩
  | succ n ih =>
    intro h
    obtain ⟨xs, h1, h2⟩ := ih fun i hi => h i (by omega)
    obtain ⟨y, hy⟩ := h n (by omega)
    refine ⟨xs ++ [y], by simp [h1], fun i x hx => ?_⟩
    rw [List.getElem?_append] at hx
    split at hx
    · exact h2 i x hx
    · rename_i hge
      have : i = n := by
        rcases Nat.lt_or_ge (i - xs.length) 1 with h | h
        · omega
        · rw [List.getElem?_eq_none (by simpa using h)] at hx; cases hx
      subst this
      rw [h1] at hx; simp at hx; subst hx; exact hy

section
variable {H : Type} {enc : TypeId × Value → H} {P : Program} {w : World} {κ : Nat → Option Nat}

def LRel (κ : Nat → Option Nat) (w : World) (as : List AV) (cs : List Value) : Prop := cs.length = as.length ∧ ∀ (i : Nat) (c : AV), as[i]? = some c → ∃ u, cs[i]? = some u ∧ VRel κ (fun _ => False) w c u
theorem LRel.one {a : AV} {v : Value} (h : VRel nok (fun _ => False) w a v) : LRel nok w [a] [v] := ⟨rfl, fun i c hi => by
  cases i with
  | zero => simp at hi; subst hi; exact ⟨v, rfl, h⟩
  | succ i => simp at hi⟩
theorem LRel.append {as bs : List AV} {cs ds : List Value} (h1 : LRel nok w as cs) (h2 : LRel nok w bs ds) : LRel nok w (as ++ bs) (cs ++ ds) := by
  refine ⟨by simp [h1.1, h2.1], fun i c hi => ?_⟩
  rw [List.getElem?_append] at hi
  rw [List.getElem?_append, h1.1]
  split at hi
  · rename_i hlt; rw [if_pos hlt]; exact h1.2 i c hi
  · rename_i hlt; rw [if_neg hlt]; exact h2.2 _ c hi

theorem cells?_get {base : Nat} {a : Addr} {n : Nat} {row : List Value} (h : w.cells? base a n = some row) : row.length = n ∧ ∀ j, j < n → w.cell? (a.add j) = row[j]? := by
  unfold World.cells? at h
  split at h
  · have key : ∀ (l : List Nat) (row : List Value), l.mapM (fun i => w.cell? (a.add i)) = some row → row.length = l.length ∧ ∀ (j k : Nat), l[j]? = some k → w.cell? (a.add k) = row[j]? := by
      intro l
      induction l with
      | nil => intro row hm; simp at hm; subst hm; exact ⟨rfl, fun j k hj => by simp at hj⟩
      | cons x l ih =>
        intro row hm
        rw [List.mapM_cons] at hm
        cases hx : w.cell? (a.add x) with
        | none => rw [hx] at hm; cases hm
        | some v =>
          rw [hx] at hm
          cases hl : l.mapM (fun i => w.cell? (a.add i)) with
          | none => rw [hl] at hm; cases hm
          | some r =>
            rw [hl] at hm; cases hm
            obtain ⟨e1, e2⟩ := ih r hl
            refine ⟨by simp [e1], fun j k hj => ?_⟩
            cases j with
            | zero => simp at hj; subst hj; simpa using hx
            | succ j => simpa using e2 j k (by simpa using hj)
    obtain ⟨h1, h2⟩ := key _ _ h
    exact ⟨by simpa using h1, fun j hj => h2 j j (by rw [List.getElem?_range hj])⟩
  · cases h

theorem read_vals {base : Nat} {spare : Nat → Bool} {held : Bool} : ∀ (n : Nat) (t : TypeId) (T : Ty), tyOk P n t T = true → ∀ (fuel : Nat) (cs : List Value) (x : DataW H × List MemPlace), DataW.trod enc P w base spare held fuel t cs = some x →
    ∃ as, Vals T as ∧ LRel nok w as cs := by
  intro n
  induction n with
  | zero => intro t T h; cases h
  | succ n ih =>
    intro t T h fuel cs x hx
    unfold tyOk at h
    split at h
    · rename_i k k' ht
      simp only [decide_eq_true_eq] at h; subst h
      obtain ⟨m, rfl, _, hw⟩ := DataW.trod_int ht hx
      simp only [Lit.wf, Bool.and_eq_true, decide_eq_true_eq] at hw
      exact ⟨[.int k m], by simp only [Vals]; exact ⟨m, rfl, hw.1, hw.2⟩, .one (.int _ _)⟩
    · rename_i ht
      obtain ⟨b, rfl, _⟩ := DataW.trod_bool ht hx
      exact ⟨[.bool b], by simp only [Vals]; exact ⟨b, rfl⟩, .one (.bool _)⟩
    · rename_i ht
      obtain ⟨s, rfl, _, hs⟩ := DataW.trod_string ht hx
      exact ⟨[.str s], by simp only [Vals]; exact ⟨s, rfl, hs⟩, .one (.str _)⟩
    · rename_i e esz E ht
      simp only [Bool.and_eq_true, beq_iff_eq] at h
      obtain ⟨⟨h1, h2⟩, h3⟩ := h
      subst h1
      rcases DataW.trod_slice ht hx with ⟨rfl, _⟩ | ⟨a, len, cap, elems, rest, m, _, rfl, _, hb, hlc, hcap, hel, hget, _⟩
      · refine ⟨[.lst (P.cellsOf e) []], by simp only [Vals]; exact ⟨[], rfl, Nat.zero_le _, fun x hx => by cases hx⟩, .one ?_⟩
        exact .lst _ [] none 0 (fun _ _ => default) (fun _ => rfl) (Nat.le_refl _) (fun i x hx => by simp at hx) (fun i x hx => by simp at hx)
      · obtain ⟨xs, hl, hxs⟩ := choice_list (Q := fun i x => Vals E x ∧ ∀ (j : Nat) (c : AV), x[j]? = some c → ∃ u, w.cell? (a.add (i * P.cellsOf e + j)) = some u ∧ VRel nok (fun _ => False) w c u) len (fun i hi => by
          have hg := hget i hi
          cases hc : w.cells? base (a.add (i * P.cellsOf e)) (P.cellsOf e) with
          | none =>
            rw [hc] at hg
            have hlt : i < elems.length := by omega
            rw [List.getElem?_eq_getElem hlt] at hg
            cases hg
          | some row =>
            rw [hc] at hg
            have hlt : i < elems.length := by omega
            rw [List.getElem?_eq_getElem hlt] at hg
            obtain ⟨as, ha, hr⟩ := ih e E h3 m row _ hg
            obtain ⟨r1, r2⟩ := cells?_get hc
            refine ⟨as, ha, fun j c hj => ?_⟩
            obtain ⟨u, hu, hur⟩ := hr.2 j c hj
            have hjl : j < P.cellsOf e := by
              rw [← r1]
              rcases Nat.lt_or_ge j row.length with h | h
              · exact h
              · rw [List.getElem?_eq_none h] at hu; cases hu
            exact ⟨u, by rw [← add_add, r2 j hjl]; exact hu, hur⟩)
        refine ⟨[.lst (P.cellsOf e) xs], ?_, .one ?_⟩
        · simp only [Vals]
          refine ⟨xs, rfl, by omega, fun x hx => ?_⟩
          obtain ⟨i, hi⟩ := List.mem_iff_getElem?.1 hx
          exact (hxs i x hi).1
        · have : VRel nok (fun _ => False) w (.lst (P.cellsOf e) xs) (.slice (some a) xs.length cap) := by
            refine .lst _ xs (some a) cap (fun i j => (w.cell? (a.add (i * P.cellsOf e + j))).getD default) (fun h => by cases h) (by omega) (fun i x hi j c hj => ?_) (fun i x hi j c hj => ?_)
            all_goals obtain ⟨u, hu, hur⟩ := (hxs i x hi).2 j c hj
            · exact ⟨a, rfl, fun h => h, by rw [hu]; rfl⟩
            · simp only [hu, Option.getD_some]; exact hur
          rw [hl] at this
          exact this
    · rename_i Fs Ts ht
      simp only [Bool.and_eq_true, beq_iff_eq] at h
      obtain ⟨hsz, hF⟩ := h
      obtain ⟨ys, m, _, _, hlen, hyl, hget⟩ := DataW.trod_struct ht hx
      have key : ∀ (ds : List Field) (Ts : List Ty) (off k : Nat), tyOkF P (tyOk P n) off ds Ts = true → (∀ (i : Nat) (d : Field), ds[i]? = some d → ∃ y, DataW.trod enc P w base spare held m d.type ((cs.drop d.offset).take (P.cellsOf d.type)) = some y) →
          off + sizeL Ts ≤ cs.length → ∃ as, ValsL Ts as ∧ LRel nok w as ((cs.drop off).take (sizeL Ts)) := by
        intro ds
        induction ds with
        | nil =>
          intro Ts off k hf _ _
          cases Ts with
          | nil => exact ⟨[], by simp only [ValsL], by simp [sizeL, LRel]⟩
          | cons T Ts => cases hf
        | cons d ds ihd =>
          intro Ts off k hf hall hle
          cases Ts with
          | nil => cases hf
          | cons T Ts =>
            simp only [tyOkF, Bool.and_eq_true, beq_iff_eq] at hf
            obtain ⟨⟨⟨f1, f2⟩, f3⟩, f4⟩ := hf
            simp only [sizeL] at hle ⊢
            obtain ⟨y, hy⟩ := hall 0 d rfl
            rw [f1, f2] at hy
            obtain ⟨a, ha, hra⟩ := ih d.type T f3 m _ _ hy
            obtain ⟨b, hb, hrb⟩ := ihd Ts (off + T.size) k f4 (fun i d' hi => hall (i + 1) d' (by simpa using hi)) (by omega)
            refine ⟨a ++ b, by simp only [ValsL]; exact ⟨a, b, rfl, ha, hb⟩, ?_⟩
            have : (cs.drop off).take (T.size + sizeL Ts) = (cs.drop off).take T.size ++ (cs.drop (off + T.size)).take (sizeL Ts) := by
              rw [List.take_add, List.drop_drop]
            rw [this]
            exact hra.append hrb
      obtain ⟨as, h1, h2⟩ := key Fs.toList Ts 0 0 hF (fun i d hd => by
        have hd' : Fs[i]? = some d := by simpa using hd
        have := hget i d hd'
        have hlt : i < ys.length := by
          rw [hyl]
          rcases Nat.lt_or_ge i Fs.size with h | h
          · exact h
          · rw [Array.getElem?_eq_none h] at hd'; cases hd'
        rw [List.getElem?_eq_getElem hlt] at this
        exact ⟨_, this⟩) (by omega)
      refine ⟨as, by simp only [Vals]; exact h1, ?_⟩
      rw [List.drop_zero, ← hsz, ← hlen, List.take_length] at h2
      exact h2
    · cases h

/-- An argument of a shape. -/
def ArgV : Ty → AV → Prop
  | .struct fs, a => ∃ as, ValsL fs as ∧ a = .agg as
  | T, a => Vals T [a]
def ArgsV : List Ty → List AV → Prop
  | [], l => l = []
  | T :: Ts, l => ∃ a r, l = a :: r ∧ ArgV T a ∧ ArgsV Ts r

theorem read_arg {base b0 : Nat} {spare : Nat → Bool} {held : Bool} {n : Nat} {t : TypeId} {T : Ty} (hT : tyOk P n t T = true) {v : Value} {d : DataW H} {ps : List MemPlace} (hval : Value.okWide P w .any b0 t v) (h : DataW.Trod enc P w base spare held t v d ps) :
    ∃ a, ArgV T a ∧ VRel nok (fun _ => False) w a v := by
  obtain ⟨fuel, hf⟩ := h
  obtain ⟨as, ha, hr⟩ := read_vals n t T hT fuel _ _ hf
  have hnt : ∀ x, as = [x] → (∀ cs, v ≠ .agg cs) → VRel nok (fun _ => False) w x v := by
    intro x hx hv
    subst hx
    have : v.cells = #[v] := by cases v <;> first | rfl | exact absurd rfl (hv _)
    rw [this] at hr
    obtain ⟨u, hu, hur⟩ := hr.2 0 x rfl
    simp at hu; subst hu; exact hur
  have hns : ∀ {td : TypeDesc}, P.underlying t = some td → (∀ fs, td ≠ .struct fs) → (∀ k e, td ≠ .array k e) → ∀ cs, v ≠ .agg cs := by
    intro td htd h1 h2 cs hv
    subst hv
    unfold Value.okWide at hval
    rw [htd] at hval
    cases td <;> first | exact absurd rfl (h1 _) | exact absurd rfl (h2 _ _) | (simp only [Cell.okWide, htd] at hval; try simp [Cell.ok] at hval)
  cases n with
  | zero => cases hT
  | succ n =>
    unfold tyOk at hT
    split at hT
    · rename_i k k' ht
      simp only [ArgV]
      simp only [Vals] at ha ⊢
      obtain ⟨m, rfl, h1, h2⟩ := ha
      exact ⟨_, ⟨m, rfl, h1, h2⟩, hnt _ rfl (hns ht (by simp) (by simp))⟩
    · rename_i ht
      simp only [ArgV]
      simp only [Vals] at ha ⊢
      obtain ⟨m, rfl⟩ := ha
      exact ⟨_, ⟨m, rfl⟩, hnt _ rfl (hns ht (by simp) (by simp))⟩
    · rename_i ht
      simp only [ArgV]
      simp only [Vals] at ha ⊢
      obtain ⟨m, rfl, h1⟩ := ha
      exact ⟨_, ⟨m, rfl, h1⟩, hnt _ rfl (hns ht (by simp) (by simp))⟩
    · rename_i e esz E ht
      simp only [ArgV]
      simp only [Vals] at ha ⊢
      obtain ⟨m, rfl, h1⟩ := ha
      exact ⟨_, ⟨m, rfl, h1⟩, hnt _ rfl (hns ht (by simp) (by simp))⟩
    · rename_i Fs Ts ht
      simp only [Vals] at ha
      unfold Value.okWide at hval
      rw [ht] at hval
      obtain ⟨cs, rfl, _, _⟩ := hval
      refine ⟨.agg as, by simp only [ArgV]; exact ⟨as, ha, rfl⟩, .aggOf (by have := hr.1; simpa [Value.cells] using this) fun i c hi => ?_⟩
      obtain ⟨u, hu, hur⟩ := hr.2 i c hi
      exact ⟨u, by simpa [Value.cells] using hu, hur⟩
    · cases hT
end
end Go.Am
