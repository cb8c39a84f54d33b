import Derived.Test.YtcdcgbgmpmaipaaDoorE2
namespace Go.Proofs.YtcdcgbgmpmaipaaDoor
open Go Go.Am
set_option maxRecDepth 100000
set_option maxHeartbeats 16000000
/-! ### A truth by choices -/
/-- A number of a span by a choice. -/
def pk (lo hi c : Int) : Int := lo + c.tmod (hi - lo + 1)
theorem pk_rng {lo hi c : Int} (h0 : 0 ≤ c) (hle : lo ≤ hi) : lo ≤ pk lo hi c ∧ pk lo hi c ≤ hi := by
  have := tm_rng h0 (show 0 < hi - lo + 1 by omega)
  unfold pk; omega
theorem pick_spec (lo hi c : Int) (h0 : 0 ≤ c) (hlo : 0 ≤ lo) (hle : lo ≤ hi) (hhi : hi ≤ 1000000) : APure Tryd.prog 39 [.agg [.int .i64 lo, .int .i64 hi], .int .i64 c] (.int .i64 (pk lo hi c)) := by
  have e1 : IntKind.i64.wrap (IntKind.i64.wrap (hi - lo) + 1) = hi - lo + 1 := by rw [wrap64 (n := hi - lo) (by omega) (by omega)]; exact wrap64 (by omega) (by omega)
  have hr := pk_rng h0 hle
  have n1 : IntKind.i64.wrap (IntKind.i64.wrap (hi - lo) + 1) ≠ 0 := by rw [e1]; omega
  have w : IntKind.i64.wrap (lo + c.tmod (IntKind.i64.wrap (IntKind.i64.wrap (hi - lo) + 1))) = pk lo hi c := by
    rw [e1]; unfold pk at hr ⊢; exact wrap64 (by omega) (by omega)
  have eF : some (AV.int .i64 (IntKind.i64.wrap (lo + c.tmod (IntKind.i64.wrap (IntKind.i64.wrap (hi - lo) + 1))))) = some (.int .i64 (pk lo hi c)) := by rw [w]
  exact APure.vc Tryd.func39 rfl (.draw 10 <| .nz .nil) rfl rfl (kmp (by kernel_rfl) <| And.intro tTrue <| And.intro mixed <| And.intro (Eq.refl (10 : Nat)) <| And.intro n1 <| And.intro tTrue <| And.intro trivial eF)
def trLag (h : Hd) (by' : List Int) : Nat := (pk h.lLo h.lHi (chs by' 0)).toNat
def trOff (h : Hd) (by' : List Int) (i : Nat) : Int := (chs by' (4 * i + 4)).tmod (2 * h.dr + 1) - h.dr
def trMis (h : Hd) (r by' : List Int) (i : Nat) : Int := max 0 (pk h.bLo h.bHi (chs by' (4 * i + 1)) - rd r (i + trLag h by') - trOff h by' i)
def trV (h : Hd) (r by' : List Int) (i : Nat) : Int := pk h.jLo h.jHi (chs by' (4 * i + 2)) * pk h.fLo h.fHi (chs by' (4 * i + 3)) * trMis h r by' i
def trL (h : Hd) (r by' : List Int) (k : Nat) : List Int := (List.range k).map (trV h r by')
theorem trL_len (h : Hd) (r by' : List Int) (k : Nat) : (trL h r by' k).length = k := by simp [trL]
theorem trL_succ (h : Hd) (r by' : List Int) (k : Nat) : trL h r by' (k + 1) = trL h r by' k ++ [trV h r by' k] := by simp [trL, List.range_succ]
theorem trL_get (h : Hd) (r by' : List Int) {k n : Nat} (hk : k < n) : (trL h r by' n)[k]? = some (trV h r by' k) := by
  simp [trL, hk]
theorem trLag_mem {h : Hd} {by' : List Int} (ho : HoodOk h) (hb : ∀ x ∈ by', 0 ≤ x ∧ x < 4294967296) : trLag h by' ∈ lagsN h ∧ ((trLag h by' : Nat) : Int) = pk h.lLo h.lHi (chs by' 0) := by
  have hl := ho.l
  have := pk_rng (chs_rng hb 0).1 hl.2.1
  rw [mem_lags ho]
  unfold trLag
  omega
theorem trOff_rng {h : Hd} {by' : List Int} (ho : HoodOk h) (hb : ∀ x ∈ by', 0 ≤ x ∧ x < 4294967296) (i : Nat) : -h.dr ≤ trOff h by' i ∧ trOff h by' i ≤ h.dr := by
  have hd := ho.d
  have := tm_rng (chs_rng hb (4 * i + 4)).1 (show 0 < 2 * h.dr + 1 by omega)
  unfold trOff; omega
theorem trMis_rng {h : Hd} {r by' : List Int} (ho : HoodOk h) (hb : ∀ x ∈ by', 0 ≤ x ∧ x < 4294967296) (i : Nat) : mLo h r (trLag h by') i ≤ trMis h r by' i ∧ trMis h r by' i ≤ mHi h r (trLag h by') i := by
  have h1 := trOff_rng ho hb i
  have h2 := pk_rng (chs_rng hb (4 * i + 1)).1 ho.b.2.1
  unfold trMis mLo mHi
  omega
theorem trV_rng {h : Hd} {r by' : List Int} (ho : Ok h r) (hb : ∀ x ∈ by', 0 ≤ x ∧ x < 4294967296) (i : Nat) : aLo h r (trLag h by') i ≤ trV h r by' i ∧ trV h r by' i ≤ aHi h r (trLag h by') i := by
  have hm := m_rng ho (trLag h by') i
  have h1 := trMis_rng (r := r) ho.h hb i
  have hj := pk_rng (chs_rng hb (4 * i + 2)).1 ho.h.j.2.1
  have hf := pk_rng (chs_rng hb (4 * i + 3)).1 ho.h.f.2.1
  have j0 := ho.h.j.1
  have f0 := ho.h.f.1
  unfold aLo aHi trV
  generalize trMis h r by' i = M at *
  generalize mLo h r (trLag h by') i = A at *
  generalize mHi h r (trLag h by') i = B at *
  generalize pk h.jLo h.jHi (chs by' (4 * i + 2)) = J at *
  generalize pk h.fLo h.fHi (chs by' (4 * i + 3)) = F at *
  have m1 : h.jLo * h.fLo ≤ J * F := Int.mul_le_mul hj.1 hf.1 f0 (by omega)
  have m2 : J * F ≤ h.jHi * h.fHi := Int.mul_le_mul hj.2 hf.2 (by omega) (by omega)
  have p0 : 0 ≤ J * F := Int.mul_nonneg (by omega) (by omega)
  exact ⟨Int.mul_le_mul m1 h1.1 hm.1 p0, Int.mul_le_mul m2 h1.2 (by omega) (by omega)⟩
end Go.Proofs.YtcdcgbgmpmaipaaDoor
