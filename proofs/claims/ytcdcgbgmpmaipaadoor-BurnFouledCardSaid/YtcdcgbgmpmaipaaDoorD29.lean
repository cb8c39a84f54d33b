import Derived.Test.YtcdcgbgmpmaipaaDoorD20
import Derived.Test.YtcdcgbgmpmaipaaDoorE0
namespace Go.Proofs.YtcdcgbgmpmaipaaDoor
open Go Go.Am
set_option maxRecDepth 100000
set_option maxHeartbeats 16000000
/-! ### A way in which a lamp fouls, by choices -/
def nwV (l : Lp) (r y : List Int) : Nat → Int
  | 0 => l.before
  | k + 1 => pk (cleanV l r k) (nwV l r y k) (chs y k)
theorem maxL_le_max (m : Int) (l : List Int) (M : Int) (h : m ≤ M) : maxL m l ≤ maxL M l := by
  induction l generalizing m M with
  | nil => exact h
  | cons a l ih => exact ih (max m a) (max M a) (by omega)
theorem cleanV_step (l : Lp) (r : List Int) {k : Nat} (hk : k < r.length) : cleanV l r (k + 1) ≤ cleanV l r k := by
  unfold cleanV
  rw [drop_cons (rd_get hk)]
  exact maxL_le_max _ _ _ (by omega)
theorem nwV_rng {l : Lp} {r y : List Int} (ho : LOk l r) (hy : ∀ x ∈ y, 0 ≤ x ∧ x < 4294967296) : ∀ k, k < r.length → (cleanV l r k ≤ nwV l r y k ∧ nwV l r y k ≤ l.before) ∧ cleanV l r k ≤ nwV l r y (k + 1) ∧ nwV l r y (k + 1) ≤ nwV l r y k := by
  intro k
  induction k with
  | zero =>
    intro hk
    have hc := clean_rng ho 0
    have := pk_rng (chs_rng hy 0).1 hc.2.2
    exact ⟨⟨hc.2.2, Int.le_refl _⟩, this⟩
  | succ k ih =>
    intro hk
    obtain ⟨⟨h1, h2⟩, h3, h4⟩ := ih (by omega)
    have hs := cleanV_step l r (k := k) (by omega)
    have hle : cleanV l r (k + 1) ≤ nwV l r y (k + 1) := by omega
    exact ⟨⟨hle, by omega⟩, pk_rng (chs_rng hy (k + 1)).1 hle⟩
theorem darkV_mono {a c d : Int} (h0 : 0 ≤ a) (h1 : 1 ≤ c) (h2 : c ≤ d) : darkV a c ≤ darkV a d := by
  unfold darkV
  rw [Int.tdiv_eq_ediv_of_nonneg (by omega), Int.tdiv_eq_ediv_of_nonneg (by omega)]
  have hq : 0 ≤ 1000 * a / d := Int.ediv_nonneg (by omega) (by omega)
  have h3 : 1000 * a / d ≤ 1000 * a / c := by
    rw [Int.le_ediv_iff_mul_le (by omega)]
    have h4 : 1000 * a / d * c ≤ 1000 * a / d * d := Int.mul_le_mul_of_nonneg_left h2 hq
    have h5 : 1000 * a / d * d ≤ 1000 * a := Int.ediv_mul_le _ (by omega)
    omega
  omega
theorem fdark_spec (r : List Int) (i : Nat) (c : Int) (h0 : 0 ≤ rd r i) (h1 : 1 ≤ c) (h2 : rd r i ≤ c) (h3 : c ≤ 1000000) (hi : i < r.length) :
    APure Tryd.prog 38 [.int .i64 i, .int .i64 c, .cptr [encR r]] (.int .i64 (darkV (rd r i) c)) := by
  have hd := dark_rng h0 h1 h2
  have n1 : c ≠ 0 := by omega
  have w1 : IntKind.i64.wrap (1000 * rd r i) = 1000 * rd r i := wrap64 (by omega) (by omega)
  have e : some (AV.int .i64 (IntKind.i64.wrap (1000 - IntKind.i64.wrap ((IntKind.i64.wrap (1000 * rd r i)).tdiv c)))) = some (.int .i64 (darkV (rd r i) c)) := by
    rw [w1, wrap64 (n := (1000 * rd r i).tdiv c) (by omega) (by omega), wrap64 (by omega) (by omega)]; rfl
  exact APure.vc Tryd.func38 rfl (.cells (encI (rd r i)) <| .nz .nil) rfl rfl ⟨idx (rd_get hi), n1, trivial, Eq.trans (by kernel_rfl) e⟩
end Go.Proofs.YtcdcgbgmpmaipaaDoor
namespace Go.Proofs.YtcdcgbgmpmaipaaDoor
open Go Go.Am
set_option maxRecDepth 100000
set_option maxHeartbeats 16000000
/-! ### A slice of integers that is written -/
theorem fl_map (l : List Int) : fl encI l = l.map (AV.int .i64) := by
  induction l with
  | nil => rfl
  | cons a l ih => show AV.int .i64 a :: fl encI l = _; rw [ih]; rfl
theorem ixI {h : Nat → Option AObj} {id n k : Nat} {i : Int} (hi : i = (k : Int)) (hk : k < n) : (aindexAddr Tryd.prog h 26 (.rsl id 0 n 1) (.int .i64 i)).map (fun v => (⟨v, []⟩ : Out)) = some ⟨.vptr id (0 + k * 1), []⟩ := by
  subst hi
  simp only [aindexAddr, ty26, ty3]
  rw [if_pos ⟨trivial, Int.natCast_nonneg _, by simpa using hk⟩]; rfl
theorem ldI {h : Nat → Option AObj} {id k : Nat} {l : List Int} {x : Int} (h0 : h id = some (.cells (fl encI l))) (hk : l[k]? = some x) : aLoad Tryd.prog h 3 (.vptr id (0 + k * 1)) = some ⟨.int .i64 x, []⟩ := by
  have e : ((fl encI l).drop (0 + k * 1))[0]? = some (.int .i64 x) := by
    rw [List.getElem?_drop, fl_map, List.getElem?_map, show 0 + k * 1 + 0 = k by omega, hk]; rfl
  simp only [aLoad, ty3, h0, aread, TD.agg, Bool.false_eq_true, if_false, e]
  rfl
theorem stI {h : Nat → Option AObj} {id k : Nat} {l : List Int} {x : Int} (h0 : h id = some (.cells (fl encI l))) (hk : k < l.length) : aStore Tryd.prog h 3 (.vptr id (0 + k * 1)) (.int .i64 x) = some ⟨.undef, [(id, some (.cells (fl encI (l.set k x))))]⟩ := by
  have e : splice (fl encI l) (0 + k * 1) [AV.int .i64 x] = fl encI (l.set k x) := by
    rw [fl_map, fl_map, List.map_set, show 0 + k * 1 = k by omega]; rfl
  have hl : 0 + k * 1 + [AV.int .i64 x].length ≤ (fl encI l).length := by rw [fl_map, List.length_map]; show 0 + k * 1 + 1 ≤ _; omega
  simp only [aStore, ty3, acells, h0]
  rw [if_pos ⟨rfl, hl, rfl⟩, e]
/-- The numbers from the second N - k on; those before are not known yet. -/
def wsL (f : Nat → Int) (N k : Nat) : List Int := (List.range N).map fun j => if N - k ≤ j then f j else 0
theorem wsL_len (f : Nat → Int) (N k : Nat) : (wsL f N k).length = N := by simp [wsL]
theorem wsL_step (f : Nat → Int) {N k : Nat} (hk : k < N) : (wsL f N k).set (N - 1 - k) (f (N - 1 - k)) = wsL f N (k + 1) := by
  refine List.ext_getElem (by simp [wsL]) fun i h1 h2 => ?_
  have hi : i < N := by simpa [wsL] using h2
  rw [List.getElem_set]
  simp only [wsL, List.getElem_map, List.getElem_range]
  by_cases e : N - 1 - k = i
  · rw [if_pos e, if_pos (by omega), e]
  · rw [if_neg e]
    by_cases h : N - k ≤ i
    · rw [if_pos h, if_pos (by omega)]
    · rw [if_neg h, if_neg (by omega)]
theorem wsL_end (f : Nat → Int) (N : Nat) {i : Nat} (hi : i < N) : (wsL f N N)[i]? = some (f i) := by simp [wsL, hi]
theorem wsL_zero (f : Nat → Int) (N : Nat) : wsL f N 0 = List.replicate N 0 := by
  refine List.ext_getElem (by simp [wsL]) fun i h1 h2 => ?_
  have hi : i < N := by simpa using h2
  simp only [wsL, List.getElem_map, List.getElem_range, List.getElem_replicate]
  rw [if_neg (by omega)]
theorem rep_ints : ∀ n, rep n [AV.int .i64 0] = fl encI (List.replicate n 0)
  | 0 => rfl
  | n + 1 => by show AV.int .i64 0 :: rep n [AV.int .i64 0] = AV.int .i64 0 :: fl encI (List.replicate n 0); rw [rep_ints n]
theorem maxL_maxr (m x : Int) (l : List Int) : maxL (max m x) l = max (maxL m l) x := by
  induction l generalizing m with
  | nil => rfl
  | cons a l ih => show maxL (max (max m x) a) l = max (maxL (max m a) l) x; rw [← ih, show max (max m x) a = max (max m a) x by omega]
theorem cleanV_back (l : Lp) (r : List Int) {i : Nat} (hi : i < r.length) : max (cleanV l r (i + 1)) (rd r i) = cleanV l r i := by
  unfold cleanV
  rw [drop_cons (rd_get hi)]
  exact (maxL_maxr _ _ _).symm
theorem cleanV_end (l : Lp) (r : List Int) : cleanV l r r.length = l.after := by unfold cleanV; rw [List.drop_length]; rfl
/-- A sum over seconds from a on, before b, as it stands behind k seconds. -/
def sumW (f : Nat → Int) (a b k : Nat) : Int := sumF f a (min k b - a)
theorem sumW_zero (f : Nat → Int) (a b : Nat) : sumW f a b 0 = 0 := by simp [sumW, sumF]
theorem sumW_in (f : Nat → Int) {a b k : Nat} (h1 : a ≤ k) (h2 : k < b) : sumW f a b (k + 1) = sumW f a b k + f k := by
  unfold sumW
  rw [show min (k + 1) b - a = (min k b - a) + 1 by omega]
  show sumF f a (min k b - a) + f (a + (min k b - a)) = _
  rw [show a + (min k b - a) = k by omega]
theorem sumW_out (f : Nat → Int) {a b k : Nat} (h : k < a ∨ b ≤ k) : sumW f a b (k + 1) = sumW f a b k := by
  unfold sumW
  rw [show min (k + 1) b - a = min k b - a by omega]
theorem sumW_end (f : Nat → Int) {a b N : Nat} (h : b ≤ N) : sumW f a b N = sumF f a (b - a) := by unfold sumW; rw [show min N b = b by omega]
theorem thawV {h : Nat → Option AObj} {id : Nat} {r : List Int} {i c : Int} (h0 : h id = some (.cells [encR r])) : thawL h [.int .i64 i, .int .i64 c, .vptr id 0] = some ([.int .i64 i, .int .i64 c, .cptr [encR r]], [id]) := by
  have e : thawL h [.int .i64 i, .int .i64 c, .vptr id 0] = mapO (thaw 8 h) [.int .i64 i, .int .i64 c, .vptr id 0] := rfl
  have e2 : thaw 8 h (.vptr id 0) = some (.cptr [encR r], [id]) := by
    simp [thaw, h0, mapO, encR, AV.ok]
  rw [e]
  simp only [mapO, thaw_k (h := h) (a := .int .i64 i) rfl, thaw_k (h := h) (a := .int .i64 c) rfl, e2, List.nil_append, List.append_nil]
theorem mkI {f : Nat → Int} {id n : Nat} (hn : n ≤ 1000) : aMakeSlice Tryd.prog id 26 (.int .i64 n) (.int .i64 n) = some ⟨.rsl id 0 n 1, [(id, some (.cells (fl encI (wsL f n 0))))]⟩ := by
  rw [wsL_zero, ← rep_ints]
  simp only [aMakeSlice, ty26, ty3]
  rw [if_pos ⟨trivial, by omega, by omega, by simp; omega, by omega, rfl⟩]
  simp
end Go.Proofs.YtcdcgbgmpmaipaaDoor
