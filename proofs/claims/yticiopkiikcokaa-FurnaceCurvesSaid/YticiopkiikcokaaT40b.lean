import Derived.Test.YticiopkiikcokaaT40a
namespace Go.Proofs.Yticiopkiikcokaa
open Go Go.Am
def rfParts : Code → Option (Code × Code)
  | .rangeFunc _ _ a b => some (a, b)
  | .seq a b => (match rfParts a with | some p => some p | none => rfParts b)
  | .block _ a => rfParts a
  | _ => none
def cOf (f : Func) : Code := match f.body with | some c => c | none => .skip
def sqR (c : Code) : Code := match c with | .seq _ b => b | c => c
def sqL (c : Code) : Code := match c with | .seq a _ => a | c => c
def blB (c : Code) : Code := match c with | .block _ a => a | c => c
def rfA (c : Code) : Code := match c with | .rangeFunc _ _ a _ => a | c => c
def rfB (c : Code) : Code := match c with | .rangeFunc _ _ _ b => b | c => c
noncomputable def rf51 : Code := blB (sqR (sqL (sqR (sqR (cOf Try.f51)))))
noncomputable def asg51 : Code := rfA rf51
noncomputable def bod51 : Code := rfB rf51
theorem rf51_ok : rfParts (cOf Try.f51) = some (asg51, bod51) := by kernel_rfl
def Z101 : List AV := [.int .i64 0, .nil, .nil, .nil] ++ List.replicate 246 (.int .i64 0)
def zf : Nat → Sn := fun _ => ⟨0, 0⟩
def mfK (r : Rn) (k : Nat) : Nat → Sn := fun i => if 1 ≤ i ∧ i ≤ k ∧ blindB r i = false then ⟨mLo r i, mHi r i⟩ else ⟨0, 0⟩
def cfK (r : Rn) (k : Nat) : Nat → Sn := fun i => if 1 ≤ i ∧ i ≤ k ∧ blindB r i = false then ⟨840 * deg r.curve i, 840 * deg r.curve i⟩ else ⟨0, 0⟩
theorem fK_zero (r : Rn) : mfK r 0 = zf ∧ cfK r 0 = zf := by
  constructor <;> funext i <;> simp only [mfK, cfK, zf] <;> rw [if_neg (by omega)]
theorem fK_blind {r : Rn} {k : Nat} (h : blindB r ((k + 1 : Nat) : Int) = true) : mfK r (k + 1) = mfK r k ∧ cfK r (k + 1) = cfK r k := by
  constructor <;> funext i <;> simp only [mfK, cfK] <;>
  · by_cases e : i = k + 1
    · subst e; rw [if_neg (by rw [h]; simp), if_neg (by omega)]
    · have : (i ≤ k + 1) ↔ (i ≤ k) := by omega
      simp only [this]
theorem fK_sees {r : Rn} {k : Nat} (h : blindB r ((k + 1 : Nat) : Int) = false) : mfK r (k + 1) = updF (mfK r k) (k + 1) ⟨mLo r ((k + 1 : Nat) : Int), mHi r ((k + 1 : Nat) : Int)⟩ ∧
    cfK r (k + 1) = updF (cfK r k) (k + 1) ⟨840 * deg r.curve ((k + 1 : Nat) : Int), 840 * deg r.curve ((k + 1 : Nat) : Int)⟩ := by
  constructor <;> funext i <;> simp only [mfK, cfK, updF] <;>
  · by_cases e : i = k + 1
    · subst e; rw [if_pos ⟨by omega, by omega, h⟩, if_pos rfl]
    · have : (i ≤ k + 1) ↔ (i ≤ k) := by omega
      simp only [this, if_neg e]
theorem blind_len {r : Rn} {m : Int} (h : blindB r m = false) : 1 ≤ (wl r m).length := by
  unfold blindB at h
  rw [wl_len] at h
  simp at h
  cases hl : wl r m with
  | nil => rw [hl] at h; simp at h
  | cons a l => simp
theorem ldW {h : Nat → Option AObj} {i : Nat} {cs : List AV} (h0 : h i = some (.cells cs)) (hl : cs.length = 250) : aLoad Try.prog h 101 (.vptr i 0) = some ⟨.agg cs, []⟩ := by
  simp only [aLoad, ty101, h0, List.drop_zero, aread]
  have ha : (TD.struct [(0, 28, false), (6, 99, false), (128, 99, false)]).agg = true := rfl
  have h2 : 250 ≤ cs.length := by omega
  rw [if_pos ha, if_pos h2, ← hl, List.take_length]; rfl
theorem aresW {S : St} {cs : List AV} (ht : elook S.env 2 = .vptr 1 0) (h : hget S.H 1 = some (.cells cs)) (hl : cs.length = 250) : ares Try.prog S [.cell 2 101] = some (.agg cs) := by
  simp only [ares, aresL, ares1, ht, ldW h hl, Option.map_some]
theorem flS_cellB : ∀ xs : List Sn, (flS xs).all cellB = true := by
  intro xs
  induction xs with
  | nil => rfl
  | cons s xs ih => show (true && (true && (flS xs).all cellB)) = true; rw [ih]; rfl
theorem workL_cellB (r : Rn) (mf cf : Nat → Sn) : (workL r mf cf).all cellB = true := by
  unfold workL arrL
  rw [List.all_append, List.all_append, flS_cellB, flS_cellB]; rfl
theorem splice_all : ∀ (xs A B : List AV), A.length = xs.length → splice (B ++ A) B.length xs = B ++ xs := by
  intro xs
  induction xs with
  | nil => intro A B h; simp at h; subst h; simp [splice]
  | cons x xs ih =>
    intro A B h
    cases A with
    | nil => simp at h
    | cons a A =>
      have e : splice (B ++ a :: A) B.length (x :: xs) = splice ((B ++ a :: A).set B.length x) (B.length + 1) xs := rfl
      rw [e, List.set_append_right _ _ (Nat.le_refl _), Nat.sub_self, List.set_cons_zero]
      have := ih A (B ++ [x]) (by simpa using h)
      simp only [List.append_assoc, List.singleton_append, List.length_append, List.length_singleton] at this
      exact this
theorem Z101_len : Z101.length = 250 := by unfold Z101; rw [List.length_append, List.length_replicate]; rfl
theorem stW1 {cs : List AV} (hl : cs.length = 250) (hc : cs.all cellB = true) : aStore Try.prog (hget [(1, .cells Z101)]) 101 (.vptr 1 0) (.agg cs) = some ⟨.undef, [(1, some (.cells cs))]⟩ := by
  have e : splice Z101 0 cs = cs := splice_all cs Z101 [] (by rw [hl, Z101_len])
  have h2 : 0 + cs.length ≤ Z101.length := by rw [hl, Z101_len]; omega
  simp only [aStore, ty101, acells, hget, if_true]
  rw [if_pos ⟨hl, h2, hc⟩, e]
end Go.Proofs.Yticiopkiikcokaa
