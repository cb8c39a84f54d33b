import Derived.Test.YtcdcgbgmpmaipaaBs2
import Derived.Test.YtcdcgbgmpmaipaaBs3
namespace Go.Proofs.Ytcdcgbgmpmaipaa
open Go Go.Am
theorem rdark_spec (a c : Int) (h0 : 0 ≤ a) (h1 : 1 ≤ c) (h2 : a ≤ c) (h3 : c ≤ 1000000) : APure Try.prog 27 [.int .i64 a, .int .i64 c] (.int .i64 (darkV a c)) := by
  have e1 : IntKind.i64.wrap (1000 * a) = 1000 * a := wrap64 (by omega) (by omega)
  have hr := dark_rng h0 h1 h2
  have e2 : IntKind.i64.wrap ((1000 * a).tdiv c) = (1000 * a).tdiv c := wrap64 (by omega) (by omega)
  have e3 : IntKind.i64.wrap (1000 - (1000 * a).tdiv c) = 1000 - (1000 * a).tdiv c := wrap64 (by omega) (by omega)
  exact APure.vc Try.func27 rfl (.nz .nil) rfl rfl ⟨by omega, rI (by rw [e1, e2, e3]; rfl)⟩
theorem maxL_snoc (m : Int) (l : List Int) (x : Int) : maxL m (l ++ [x]) = max (maxL m l) x := by simp [maxL]
set_option maxRecDepth 100000 in
theorem rclean_spec (l : Lp) (r : List Int) (i : Nat) (hr : r.length ≤ 120) (hi : i ≤ r.length) : APure Try.prog 16 [encLp l, encR r, .int .i64 i] (.int .i64 (cleanV l r i)) := by
  refine APure.vc Try.func16 rfl .loop rfl rfl ?_
  intro g hn hl
  replace hn : g.n = 25 := hn
  replace hl : g.low 0 := hl
  refine acode_while (fun k : Nat => ⟨[(1, encR r), (7, .int .i64 (maxL l.after ((r.drop i).take k))), (8, .int .i64 (i + k : Nat))], [], 0⟩) (fun k => i + k ≤ r.length) (fun k => r.length - (i + k)) 0 hi ?_ (fun _ _ => hl) ?_
  · exact St.le.of ⟨rfl, rfl, rfl, rfl, rfl, rfl, trivial⟩ trivial
  · intro k hk
    by_cases hlt : i + k < r.length
    · refine Exists.elim (getE hlt) fun x hx => ?_
      have ek := congrArg (AV.int .i64) (succ64 (k := i + k) (by omega))
      have em : AV.int .i64 (if x > maxL l.after ((r.drop i).take k) then x else maxL l.after ((r.drop i).take k)) = .int .i64 (maxL l.after ((r.drop i).take (k + 1))) := by
        rw [ifmax, List.take_add_one, List.getElem?_drop, hx]; simp [maxL_snoc]
      exact ACode.vc (.br 15 true <| .cells (encI x) .nil) hn hl (.round .cl) ⟨ltLen hlt, idx hx, k + 1, hlt, (by omega : r.length - (i + (k + 1)) < r.length - (i + k)), St.le.of ⟨rfl, rfl, em, rfl, ek, rfl, trivial⟩ trivial⟩
    · have e : maxL l.after ((r.drop i).take k) = cleanV l r i := by rw [List.take_of_length_le (by simp; omega)]; rfl
      exact ACode.vc (.br 15 false .nil) hn hl (.round .cl) ⟨geLen hlt, _, .refl _, .nil, rI e⟩
set_option maxRecDepth 100000 in
theorem darks_spec (l : Lp) (r : List Int) (a n : Nat) (ho : LOk l r) (hb : a + n ≤ r.length) : APure Try.prog 18 [encLp l, encR r, .int .i64 a, .int .i64 (a + n : Nat)] (encS (smokeS l r a n)) := by
  have hlen := ho.r.len
  refine APure.vc Try.func18 rfl .loop rfl rfl ?_
  intro g hn hl
  replace hn : g.n = 42 := hn
  replace hl : g.low 0 := hl
  refine acode_while (fun k : Nat => ⟨[(1, encR r), (3, .int .i64 (a + n : Nat)), (4, .vptr 0 0), (8, .vptr 1 0), (9, .vptr 2 0), (10, .int .i64 (a + k : Nat))],
      [(0, .cells [.int .i64 l.before, .int .i64 l.after]), (1, .cells [.int .i64 0, .int .i64 0]), (2, .cells [.int .i64 (smokeS l r a k).1, .int .i64 (smokeS l r a k).2])], 3⟩)
    (fun k => k ≤ n) (fun k => n - k) 0 (Nat.zero_le _) ?_ (fun _ _ => hl.mono (Nat.zero_le _)) ?_
  · exact St.le.of ⟨rfl, rfl, rfl, rfl, rfl, rfl, rfl, rfl, rfl, rfl, rfl, rfl, trivial⟩ ⟨rfl, (by decide : (0 : Nat) < 3), rfl, rfl, (by decide : (1 : Nat) < 3), rfl, rfl, (by decide : (2 : Nat) < 3), rfl, trivial⟩
  · intro k hk
    by_cases hlt : k < n
    · have hi : a + k < r.length := by omega
      have hx := rd_get hi
      have ek := congrArg (AV.int .i64) (succ64 (k := a + k) (by omega))
      have d14 : decide (((a + k : Nat) : Int) < ((a + n : Nat) : Int)) = true := decide_eq_true (by omega)
      have hr := ho.r.el _ (List.mem_of_getElem? hx)
      have hb := ho.b
      have hc := clean_rng ho (a + k)
      have s1 := rclean_spec l r (a + k) hlen (by omega)
      have s2 := rdark_spec (rd r (a + k)) (cleanV l r (a + k)) hr.1 hc.1 (clean_ge hi) (by omega)
      have s3 := rdark_spec (rd r (a + k)) l.before hr.1 hb.1 hr.2 hb.2
      have q := darkS_rng ho hi
      have q1 : 0 ≤ (smokeS l r a k).1 ∧ (smokeS l r a k).1 ≤ k * 1000 := sumF_rngL fun i h1 h2 => (darkS_rng ho (i := i) (by omega)).1
      have q2 : 0 ≤ (smokeS l r a k).2 ∧ (smokeS l r a k).2 ≤ k * 1000 := sumF_rngL fun i h1 h2 => (darkS_rng ho (i := i) (by omega)).2
      have w1 : IntKind.i64.wrap ((smokeS l r a k).1 + (darkS l r (a + k)).1) = (smokeS l r a (k + 1)).1 := wrap64 (by omega) (by omega)
      have w2 : IntKind.i64.wrap ((smokeS l r a k).2 + (darkS l r (a + k)).2) = (smokeS l r a (k + 1)).2 := wrap64 (by omega) (by omega)
      have eo : some (AObj.cells [.int .i64 (IntKind.i64.wrap ((smokeS l r a k).1 + (darkS l r (a + k)).1)), .int .i64 (IntKind.i64.wrap ((smokeS l r a k).2 + (darkS l r (a + k)).2))]) = some (.cells [.int .i64 (smokeS l r a (k + 1)).1, .int .i64 (smokeS l r a (k + 1)).2]) := by rw [w1, w2]
      exact ACode.vc (.br 14 true <| .draw 11 <| .cells (encI (rd r (a + k))) <| .call (.int .i64 (cleanV l r (a + k))) <| .call (.int .i64 (darkV (rd r (a + k)) (cleanV l r (a + k)))) <| .draw 9 <| .cells (encI (rd r (a + k))) <| .call (.int .i64 (darkV (rd r (a + k)) l.before)) .nil) hn hl (.round .cl)
        ⟨d14, by kernel_rfl, mixed, by kernel_rfl, idx hx, s1, s2, by kernel_rfl, by kernel_rfl, mixed, by kernel_rfl, idx hx, s3, by kernel_rfl, k + 1, hlt, mu1 hlt,
        St.le.of ⟨rfl, rfl, rfl, rfl, rfl, rfl, rfl, rfl, rfl, rfl, ek, rfl, trivial⟩ ⟨rfl, (by decide : (0 : Nat) < 3), rfl, rfl, (by decide : (1 : Nat) < 3), rfl, eo, (by decide : (2 : Nat) < 3), rfl, trivial⟩⟩
    · have hk' : k = n := by omega
      subst hk'
      have d14 : decide (((a + k : Nat) : Int) < ((a + k : Nat) : Int)) = false := decide_eq_false (by omega)
      exact ACode.vc (.br 14 false .nil) hn hl (.round .cl) ⟨d14, _, .refl _, .nil, trivial, rfl⟩
end Go.Proofs.Ytcdcgbgmpmaipaa
