import Derived.Test.YtcdcgbgmpmaipaaDoorD3
namespace Go.Proofs.YtcdcgbgmpmaipaaDoor
open Go Go.Am
set_option maxRecDepth 100000
theorem sumS_rng {h : Hd} {r : List Int} (ho : Ok h r) (a n lag : Nat) (hn : n ≤ 120) : 0 ≤ (sumS h r a n lag).1 ∧ (sumS h r a n lag).1 ≤ (sumS h r a n lag).2 ∧ (sumS h r a n lag).2 ≤ 36036000000000000 := by
  have h1 := sumF_rng (f := aLo h r lag) (B := 300300000000000) (fun i => ⟨(a_rng ho lag i).1, by have := a_rng ho lag i; omega⟩) a n
  have h2 := sumF_rng (f := aHi h r lag) (B := 300300000000000) (fun i => ⟨by have := a_rng ho lag i; omega, (a_rng ho lag i).2.2⟩) a n
  have h3 := sumF_le (f := aLo h r lag) (g := aHi h r lag) (fun i => (a_rng ho lag i).2.1) a n
  show 0 ≤ sumF (aLo h r lag) a n ∧ sumF (aLo h r lag) a n ≤ sumF (aHi h r lag) a n ∧ sumF (aHi h r lag) a n ≤ 36036000000000000
  omega
theorem total_heat_spec (h : Hd) (r : List Int) (lag a n : Nat) (ho : Ok h r) (ha : a + n ≤ 120) (hb : ∀ i, i < n → a + i + lag < r.length) : APure Tryd.prog 60 [.int .i64 a, .int .i64 (a + n : Nat), hCl h r lag] (encS (sumS h r a n lag)) := by
  have hlen := ho.r.len
  have ew : IntKind.i64.wrap (((a + n : Nat) : Int) - (a : Int)) = (n : Int) := by rw [wrap64 (by omega) (by omega)]; omega
  refine APure.vc Tryd.func60 rfl .loop rfl rfl ?_
  intro g hn hl
  replace hn : g.n = 34 := hn
  replace hl : g.low 0 := hl
  refine acode_while (fun k : Nat => ⟨[(0, .int .i64 a), (2, hCl h r lag), (6, .vptr 0 0), (7, .vptr 1 0), (12, .int .i64 n), (13, .int .i64 k)], [(0, .cells [.int .i64 0, .int .i64 0]), (1, .cells [.int .i64 (sumS h r a k lag).1, .int .i64 (sumS h r a k lag).2])], 2⟩)
    (fun k => k ≤ n) (fun k => n - k) 0 (Nat.zero_le _) ?_ (fun _ _ => hl.mono (Nat.zero_le _)) ?_
  · exact St.le.of ⟨rfl, rfl, rfl, rfl, rfl, rfl, rfl, rfl, congrArg (AV.int .i64) ew, rfl, rfl, rfl, trivial⟩ ⟨rfl, (by decide : (0 : Nat) < 2), rfl, rfl, (by decide : (1 : Nat) < 2), rfl, trivial⟩
  · intro k hk
    by_cases hlt : k < n
    · have ek := congrArg (AV.int .i64) (succ64 (k := k) (by omega))
      have d14 : decide ((k : Int) < (n : Int)) = true := decide_eq_true (by omega)
      have ea : IntKind.i64.wrap ((a : Int) + (k : Int)) = ((a + k : Nat) : Int) := by rw [wrap64 (by omega) (by omega)]; omega
      have s : APure Tryd.prog 80 [.int .i64 (IntKind.i64.wrap ((a : Int) + (k : Int))), .cptr [h1Cl (h.jLo * h.fLo) (mCl (h.bLo - h.dr) h r lag), h1Cl (h.jHi * h.fHi) (mCl (h.bHi + h.dr) h r lag)]] (encS (aLo h r lag (a + k), aHi h r lag (a + k))) := by
        rw [ea]; exact heat2_spec h r lag (a + k) ho (hb k hlt)
      have q := a_rng ho lag (a + k)
      have q1 := sumS_rng ho a k lag (by omega)
      have w1 : IntKind.i64.wrap ((sumS h r a k lag).1 + aLo h r lag (a + k)) = (sumS h r a (k + 1) lag).1 := wrap64 (by omega) (by omega)
      have w2 : IntKind.i64.wrap ((sumS h r a k lag).2 + aHi h r lag (a + k)) = (sumS h r a (k + 1) lag).2 := wrap64 (by omega) (by omega)
      have eo : some (AObj.cells [.int .i64 (IntKind.i64.wrap ((sumS h r a k lag).1 + aLo h r lag (a + k))), .int .i64 (IntKind.i64.wrap ((sumS h r a k lag).2 + aHi h r lag (a + k)))]) = some (.cells [.int .i64 (sumS h r a (k + 1) lag).1, .int .i64 (sumS h r a (k + 1) lag).2]) := by rw [w1, w2]
      exact ACode.vc (.br 14 true <| .call (encS (aLo h r lag (a + k), aHi h r lag (a + k))) .nil) hn hl (.round .cl) ⟨d14, s, k + 1, hlt, mu1 hlt,
        St.le.of ⟨rfl, rfl, rfl, rfl, rfl, rfl, rfl, rfl, rfl, rfl, ek, rfl, trivial⟩ ⟨rfl, (by decide : (0 : Nat) < 2), rfl, eo, (by decide : (1 : Nat) < 2), rfl, trivial⟩⟩
    · have hk' : k = n := by omega
      subst hk'
      have d14 : decide ((k : Int) < (k : Int)) = false := decide_eq_false (by omega)
      exact ACode.vc (.br 14 false .nil) hn hl (.round .cl) ⟨d14, _, .refl _, .nil, trivial, rfl⟩
theorem sum1_spec (h : Hd) (r : List Int) (lag a n : Nat) (ho : Ok h r) (ha : a + n ≤ 120) (hb : ∀ i, i < n → a + i + lag < r.length) :
    APure Tryd.prog 66 [.int .i64 lag, .cptr [.int .i64 a], .cptr [.int .i64 (a + n : Nat)], .cptr (dtL h r)] (encS (sumS h r a n lag)) := by
  have s1 := heat_spec h r lag ho.h
  have s2 := total_heat_spec h r lag a n ho ha hb
  exact APure.vc Tryd.func66 rfl (.draw 5 <| .call (hCl h r lag) <| .call (encS (sumS h r a n lag)) .nil) rfl rfl
    ⟨by kernel_rfl, mixed, by kernel_rfl, s1, by kernel_rfl, s2, trivial, rfl⟩
def rfParts : Code → Option (Code × Code)
  | .rangeFunc _ _ a b => some (a, b)
  | .seq a b => (match rfParts a with | some p => some p | none => rfParts b)
  | .block _ a => rfParts a
  | .scope a => rfParts a
  | _ => none
def cOf (f : Func) : Code := match f.body with | some c => c | none => .skip
def rfA (f : Func) : Code := match rfParts (cOf f) with | some p => p.1 | none => .skip
def rfB (f : Func) : Code := match rfParts (cOf f) with | some p => p.2 | none => .skip
end Go.Proofs.YtcdcgbgmpmaipaaDoor
