import Derived.Test.YticiopkiikcokaaPg
import Derived.Test.YticiopkiikcokaaPh
namespace Go.Proofs.Yticiopkiikcokaa
open Go Go.Am Go.Srt
def Insd (X Y S : List Br) (cs' : List AV) : Prop := ∃ S' : List Br, S'.Perm S ∧ Sd ltBr S' ∧ cs' = brs (X ++ (S' ++ Y))
theorem Insd.br {X Y S : List Br} (cs' : List AV) (h : Insd X Y S cs') : ∃ l', cs' = brs l' := by obtain ⟨S', _, _, h⟩ := h; exact ⟨_, h⟩
theorem ins_at (X S Y : List Br) {N : Nat} {a b : Int} (hN : N = (X ++ (S ++ Y)).length) (hs : N ≤ 100000) (ha : a = (X.length : Int)) (hb : b = ((X.length + S.length : Nat) : Int)) :
    AMut Try.prog Try.f109 N 4 [.int .i64 a, .int .i64 b, cmpV] (brs (X ++ (S ++ Y))) .undef (Insd X Y S) := by
  subst ha; subst hb
  exact ins_spec X S Y hN hs rfl rfl
theorem okI2 (a b : Int) : okL 0 [.int .i64 a, .int .i64 b, cmpV] = true := rfl
/-- What is so before the pairs are merged, and behind each pair. -/
def Blk (l0 : List Br) (w k : Nat) (l : List Br) : Prop := l.Perm l0 ∧ (∀ j, j < k → Ch ltBr (2 * w) l j) ∧ ∀ j, 2 * k ≤ j → Ch ltBr w l j
theorem blk_ins {l0 l : List Br} {k b : Nat} (hp : l.Perm l0) (hc : ∀ j, j < k → Ch ltBr 20 l j) (hk : k * 20 ≤ b) (hb : b ≤ l.length) (hb2 : b = k * 20 + 20 ∨ b = l.length ∧ b ≤ k * 20 + 20) :
    ∃ X S Y, l = X ++ (S ++ Y) ∧ X.length = k * 20 ∧ X.length + S.length = b ∧ ∀ S' : List Br, S'.Perm S → Sd ltBr S' → (X ++ (S' ++ Y)).Perm l0 ∧ ∀ j, j < k + 1 → Ch ltBr 20 (X ++ (S' ++ Y)) j := by
  obtain ⟨X, S, Y, rfl, hX, hS⟩ := split3 (l := l) (a := k * 20) (b := b) hk hb
  refine ⟨X, S, Y, by simp, hX, by omega, fun S' hp' hs' => ⟨?_, ?_⟩⟩
  · refine List.Perm.trans ?_ hp
    rw [List.append_assoc]
    exact List.Perm.append_left X (List.Perm.append_right Y hp')
  · have := blk1 (S' := S') hc hX (by
      rcases hb2 with h | ⟨h, h2⟩
      · left; omega
      · right
        refine ⟨by omega, List.length_eq_zero_iff.1 ?_⟩
        simp only [List.length_append] at h; omega) hp' hs'
    intro j hj
    rw [← List.append_assoc]; exact this j hj
theorem blk_sym {l0 l : List Br} {w k c : Nat} (h : Blk l0 w k l) (hk : k * (2 * w) + w < c) (hc : c ≤ l.length) (hc2 : c = k * (2 * w) + 2 * w ∨ c = l.length ∧ c ≤ k * (2 * w) + 2 * w) :
    ∃ X A B Y, l = X ++ (A ++ (B ++ Y)) ∧ X.length = k * (2 * w) ∧ A.length = w ∧ X.length + A.length + B.length = c ∧ 0 < B.length ∧ Sd ltBr A ∧ Sd ltBr B ∧ ∀ S' : List Br, S'.Perm (A ++ B) → Sd ltBr S' → Blk l0 w (k + 1) (X ++ (S' ++ Y)) := by
  obtain ⟨hp, h1, h2⟩ := h
  obtain ⟨X, S, Y, rfl, hX, hS⟩ := split3 (l := l) (a := k * (2 * w)) (b := c) (by omega) hc
  obtain ⟨A, B, rfl, hA⟩ := split2 (l := S) (a := w) (by omega)
  have hAB : (A ++ B).length = A.length + B.length := List.length_append
  have hB : B.length = w ∨ B.length ≤ w ∧ Y = [] := by
    rcases hc2 with h | ⟨h, h3⟩
    · left; omega
    · right
      refine ⟨by omega, List.length_eq_zero_iff.1 ?_⟩
      simp only [List.length_append] at h; omega
  obtain ⟨sA, sB, key⟩ := mrg1 h1 h2 hX hA hB
  refine ⟨X, A, B, Y, by simp, hX, hA, by omega, by omega, sA, sB, fun S' hp' hs' => ?_⟩
  obtain ⟨k1, k2⟩ := key S' hp' hs'
  rw [← List.append_assoc]
  refine ⟨List.Perm.trans ?_ hp, k1, k2⟩
  rw [List.append_assoc, List.append_assoc]
  exact List.Perm.append_left X (List.Perm.append_right Y hp')
/-- All blocks of the next width, once no pair is left. -/
theorem blk_end {l0 l : List Br} {w k : Nat} (h : Blk l0 w k l) (hn : l.length ≤ k * (2 * w) + w) : l.Perm l0 ∧ ∀ j, Ch ltBr (2 * w) l j := by
  refine ⟨h.1, fun j => ?_⟩
  rcases Nat.lt_trichotomy j k with hj | hj | hj
  · exact h.2.1 j hj
  · subst hj; exact mrg0 hn (h.2.2 (2 * j) (Nat.le_refl _))
  · refine Ch.none ?_
    have h1 : (k + 1) * (2 * w) ≤ j * (2 * w) := Nat.mul_le_mul_right _ hj
    rw [Nat.add_mul, Nat.one_mul] at h1; omega
theorem blk_end2 {l0 l : List Br} {w k : Nat} (h : Blk l0 w (k + 1) l) (hn : l.length ≤ k * (2 * w) + 2 * w) : l.Perm l0 ∧ ∀ j, Ch ltBr (2 * w) l j := by
  refine ⟨h.1, fun j => ?_⟩
  by_cases hj : j < k + 1
  · exact h.2.1 j hj
  · refine Ch.none ?_
    have h1 : (k + 1) * (2 * w) ≤ j * (2 * w) := Nat.mul_le_mul_right _ (by omega)
    rw [Nat.add_mul, Nat.one_mul] at h1; omega
theorem mul64 {a b : Nat} (h : a * b < 1000000) : IntKind.i64.wrap ((a : Int) * (b : Int)) = ((a * b : Nat) : Int) := by rw [← Int.natCast_mul]; exact wrap64 (by omega) (by omega)
end Go.Proofs.Yticiopkiikcokaa
namespace Go.Proofs.Yticiopkiikcokaa
open Go Go.Am Go.Srt
def Sorted (l0 : List Br) (cs' : List AV) : Prop := ∃ l' : List Br, l'.Perm l0 ∧ Sd ltBr l' ∧ cs' = brs l'
theorem Sorted.br {l0 : List Br} (cs' : List AV) (h : Sorted l0 cs') : ∃ l', cs' = brs l' := by obtain ⟨S', _, _, h⟩ := h; exact ⟨_, h⟩
set_option maxHeartbeats 64000000 in
set_option maxRecDepth 100000 in
theorem stable_spec (l0 : List Br) {N : Nat} (hN : N = l0.length) (hs : N ≤ 2000) : AMut Try.prog Try.f107 N 4 [.int .i64 N, cmpV] (brs l0) .undef (Sorted l0) := by
  refine AMut.vc .loop ?_
  intro g hn hl
  replace hn : g.n = 63 := hn
  replace hl : g.low 1 := hl
  refine acode_while (fun o : Nat × List Br => ⟨[(0, .rsl 0 0 N 4), (1, .int .i64 N), (2, cmpV), (6, .int .i64 20), (7, .int .i64 ((o.1 * 20 : Nat) : Int)), (8, .int .i64 ((o.1 * 20 + 20 : Nat) : Int))], [(0, .cells (brs o.2))], 1⟩)
    (fun o => o.2.Perm l0 ∧ (∀ j, j < o.1 → Ch ltBr 20 o.2 j) ∧ o.1 * 20 ≤ N) (fun o => N - o.1 * 20) (0, l0) ⟨.refl _, fun j h => absurd h (Nat.not_lt_zero _), Nat.zero_le _⟩ ?_ (fun _ _ => hl) ?_
  · exact St.le.of ⟨rfl, rfl, rfl, rfl, rfl, rfl, rfl, rfl, rfl, rfl, rfl, rfl, trivial⟩ ⟨rfl, Nat.zero_lt_one, brs_ok _ _, trivial⟩
  · rintro ⟨k, l⟩ ⟨h1, h2, h3⟩
    simp only at h1 h2 h3 ⊢
    have hl1 := h1.length_eq
    by_cases hlt : k * 20 + 20 ≤ N
    · have d1 : decide (((k * 20 + 20 : Nat) : Int) ≤ (N : Int)) = true := decide_eq_true (by omega)
      obtain ⟨X, S, Y, rfl, hX, hS, key⟩ := blk_ins h1 h2 (b := k * 20 + 20) (by omega) (by omega) (.inl rfl)
      have hlen : N = (X ++ (S ++ Y)).length := by omega
      have sw := ins_at X S Y (N := N) (a := ((k * 20 : Nat) : Int)) (b := ((k * 20 + 20 : Nat) : Int)) hlen (by omega) (by congr 1; omega) (by congr 1; omega)
      have e7 : ((k * 20 + 20 : Nat) : Int) = (((k + 1) * 20 : Nat) : Int) := by omega
      have e8 : IntKind.i64.wrap (((k * 20 + 20 : Nat) : Int) + 20) = (((k + 1) * 20 + 20 : Nat) : Int) := by rw [wrap64 (by omega) (by omega)]; omega
      have h3' : (k + 1) * 20 ≤ N := by omega
      have hmu : N - (k + 1) * 20 < N - k * 20 := by omega
      clear h1 h2 h3 hl1 hX hS hlen hlt
      refine ACode.vcM (.br 13 true <| .inl Try.f109 <| .nz .nil) hn hl (.round .cl) ⟨d1, Try.func109, AMut.br sw (okI2 _ _) rfl Insd.br rfl fun cs' hQ => ?_⟩
      refine Exists.elim hQ fun S' h => ?_
      have k1 := key S' h.1 h.2.1
      have hcs := h.2.2
      clear key h hQ sw
      subst hcs
      exact ⟨(k + 1, X ++ (S' ++ Y)), ⟨k1.1, k1.2, h3'⟩, hmu, St.le.of ⟨rfl, rfl, rfl, rfl, rfl, rfl, rfl, rfl, congrArg (AV.int .i64) e7, rfl, congrArg (AV.int .i64) e8, rfl, trivial⟩ ⟨rfl, Nat.zero_lt_one, brs_ok _ _, trivial⟩⟩
    · have d1 : decide (((k * 20 + 20 : Nat) : Int) ≤ (N : Int)) = false := decide_eq_false (by omega)
      obtain ⟨X, S, Y, rfl, hX, hS, key⟩ := blk_ins h1 h2 (b := N) (by omega) (by omega) (.inr ⟨by omega, by omega⟩)
      have hlen : N = (X ++ (S ++ Y)).length := by omega
      have sw := ins_at X S Y (N := N) (a := ((k * 20 : Nat) : Int)) (b := (N : Int)) hlen (by omega) (by congr 1; omega) (by congr 1; omega)
      have key' : ∀ S' : List Br, S'.Perm S → Sd ltBr S' → (X ++ (S' ++ Y)).Perm l0 ∧ ∀ j, Ch ltBr 20 (X ++ (S' ++ Y)) j := fun S' p s => by
        obtain ⟨a1, a2⟩ := key S' p s
        refine ⟨a1, fun j => ?_⟩
        by_cases hj : j < k + 1
        · exact a2 j hj
        · refine Ch.none ?_
          have := a1.length_eq
          have h4 : (k + 1) * 20 ≤ j * 20 := Nat.mul_le_mul_right _ (by omega)
          omega
      clear h1 h2 h3 hl1 hX hS hlen hlt key
      refine ACode.vcM (.br 13 false .nil) hn hl (.round .cl) ⟨d1, _, .refl _, .inl Try.f109 <| .nz .loop, Try.func109, AMut.br sw (okI2 _ _) rfl Insd.br rfl fun cs' hQ => ?_⟩
      refine Exists.elim hQ fun S' h => ?_
      have k1 := key' S' h.1 h.2.1
      have hcs := h.2.2
      clear key' h hQ sw d1 hn hl
      subst hcs
      intro g hn hl
      replace hn : g.n = 63 := hn
      replace hl : g.low 1 := hl
      refine acode_while (fun o : Nat × List Br => ⟨[(0, .rsl 0 0 N 4), (1, .int .i64 N), (2, cmpV), (6, .int .i64 (o.1 : Int))], [(0, .cells (brs o.2))], 1⟩)
        (fun o => o.2.Perm l0 ∧ (∀ j, Ch ltBr o.1 o.2 j) ∧ 1 ≤ o.1 ∧ o.1 ≤ 4000) (fun o => N - o.1) (20, X ++ (S' ++ Y)) ⟨k1.1, k1.2, by show 1 ≤ 20; omega, by show 20 ≤ 4000; omega⟩ ?_ (fun _ _ => hl) ?_
      · exact St.le.of ⟨rfl, rfl, rfl, rfl, rfl, rfl, rfl, rfl, trivial⟩ ⟨rfl, Nat.zero_lt_one, brs_ok _ _, trivial⟩
      · clear k1
        rintro ⟨w, l⟩ ⟨h1, h2, h3, h4⟩
        simp only at h1 h2 h3 h4 ⊢
        by_cases hlt : w < N
        · have d1 : decide ((w : Int) < (N : Int)) = true := decide_eq_true (by omega)
          have e8 : IntKind.i64.wrap (2 * (w : Int)) = ((0 * (2 * w) + 2 * w : Nat) : Int) := by rw [wrap64 (by omega) (by omega)]; omega
          have e7 : (0 : Int) = ((0 * (2 * w) : Nat) : Int) := by simp
          have e6 : IntKind.i64.wrap ((w : Int) * 2) = ((2 * w : Nat) : Int) := by rw [wrap64 (by omega) (by omega)]; omega
          have hb0 : Blk l0 w 0 l := ⟨h1, fun j h => absurd h (Nat.not_lt_zero _), fun j _ => h2 j⟩
          refine ACode.vcM (.br 30 true .loop) hn hl (.round .cl) ⟨d1, ?_⟩
          clear d1 h1 h2 hn hl
          intro g hn hl
          replace hn : g.n = 63 := hn
          replace hl : g.low 1 := hl
          refine acode_while (fun o : Nat × List Br => ⟨[(0, .rsl 0 0 N 4), (1, .int .i64 N), (2, cmpV), (6, .int .i64 (w : Int)), (7, .int .i64 ((o.1 * (2 * w) : Nat) : Int)), (8, .int .i64 ((o.1 * (2 * w) + 2 * w : Nat) : Int))], [(0, .cells (brs o.2))], 1⟩)
            (fun o => Blk l0 w o.1 o.2 ∧ o.1 * (2 * w) ≤ N) (fun o => N - o.1 * (2 * w)) (0, l) ⟨hb0, by simp⟩ ?_ (fun _ _ => hl) ?_
          · exact St.le.of ⟨rfl, rfl, rfl, rfl, rfl, rfl, rfl, rfl, congrArg (AV.int .i64) e7, rfl, congrArg (AV.int .i64) e8, rfl, trivial⟩ ⟨rfl, Nat.zero_lt_one, brs_ok _ _, trivial⟩
          · clear e7 e8 hb0
            rintro ⟨k, l⟩ ⟨h1, h2⟩
            simp only at h1 h2 ⊢
            have hl1 := h1.1.length_eq
            obtain ⟨u, hu⟩ : ∃ u, u = k * (2 * w) := ⟨_, rfl⟩
            have hu1 : (k + 1) * (2 * w) = u + 2 * w := by rw [Nat.add_mul, Nat.one_mul, hu]
            rw [← hu] at h2 ⊢
            have e9 : IntKind.i64.wrap ((u : Int) + (w : Int)) = ((u + w : Nat) : Int) := add64 (by omega)
            by_cases hle : u + 2 * w ≤ N
            · have d2 : decide (((u + 2 * w : Nat) : Int) ≤ (N : Int)) = true := decide_eq_true (by omega)
              obtain ⟨X, A, B, Y, rfl, hX, hA, hAB, hB, sA, sB, key⟩ := blk_sym h1 (c := u + 2 * w) (by omega) (by omega) (.inl (by rw [hu]))
              have hlen : N = (X ++ (A ++ (B ++ Y))).length := by omega
              have sw := sym_spec (A.length + B.length) X A B Y (N := N) (a := (u : Int)) (m := IntKind.i64.wrap ((u : Int) + (w : Int))) (b := ((u + 2 * w : Nat) : Int)) (Nat.le_refl _) (by omega) hB hlen (by omega) (by congr 1; omega) (by rw [e9]; congr 1; omega) (by congr 1; omega) sA sB
              have e7 : ((u + 2 * w : Nat) : Int) = (((k + 1) * (2 * w) : Nat) : Int) := by rw [hu1]
              have e8 : IntKind.i64.wrap (((u + 2 * w : Nat) : Int) + IntKind.i64.wrap (2 * (w : Int))) = (((k + 1) * (2 * w) + 2 * w : Nat) : Int) := by rw [hu1, wrap64 (n := 2 * (w : Int)) (by omega) (by omega), wrap64 (by omega) (by omega)]; omega
              have h3' : (k + 1) * (2 * w) ≤ N := by omega
              have hmu : N - (k + 1) * (2 * w) < N - k * (2 * w) := by rw [← hu]; omega
              clear h1 h2 hl1 hX hA hAB hB sA sB hlen hle e9 e6
              refine ACode.vcM (.br 35 true <| .inl Try.f110 <| .nz .nil) hn hl (.round .cl) ⟨d2, Try.func110, AMut.br sw (okI3 _ _ _) rfl Symd.br rfl fun cs' hQ => ?_⟩
              refine Exists.elim hQ fun S' h => ?_
              have k1 := key S' h.1 h.2.1
              have hcs := h.2.2
              clear key h hQ sw
              subst hcs
              exact ⟨(k + 1, X ++ (S' ++ Y)), ⟨k1, h3'⟩, hmu, St.le.of ⟨rfl, rfl, rfl, rfl, rfl, rfl, rfl, rfl, congrArg (AV.int .i64) e7, rfl, congrArg (AV.int .i64) e8, rfl, trivial⟩ ⟨rfl, Nat.zero_lt_one, brs_ok _ _, trivial⟩⟩
            · have d2 : decide (((u + 2 * w : Nat) : Int) ≤ (N : Int)) = false := decide_eq_false (by omega)
              have hmu : N - 2 * w < N - w := by omega
              have hw1 : 1 ≤ 2 * w := by omega
              have hw2 : 2 * w ≤ 4000 := by omega
              by_cases hm : u + w < N
              · have d3 : decide (IntKind.i64.wrap ((u : Int) + (w : Int)) < (N : Int)) = true := by rw [e9]; exact decide_eq_true (by omega)
                obtain ⟨X, A, B, Y, rfl, hX, hA, hAB, hB, sA, sB, key⟩ := blk_sym h1 (c := N) (by omega) (by omega) (.inr ⟨by omega, by omega⟩)
                have hlen : N = (X ++ (A ++ (B ++ Y))).length := by omega
                have sw := sym_spec (A.length + B.length) X A B Y (N := N) (a := (u : Int)) (m := IntKind.i64.wrap ((u : Int) + (w : Int))) (b := (N : Int)) (Nat.le_refl _) (by omega) hB hlen (by omega) (by congr 1; omega) (by rw [e9]; congr 1; omega) (by congr 1; omega) sA sB
                have key' : ∀ S' : List Br, S'.Perm (A ++ B) → Sd ltBr S' → (X ++ (S' ++ Y)).Perm l0 ∧ ∀ j, Ch ltBr (2 * w) (X ++ (S' ++ Y)) j := fun S' p s => by
                  have k1 := key S' p s
                  exact blk_end2 k1 (by have := k1.1.length_eq; omega)
                clear h1 h2 hl1 hX hA hAB hB sA sB hlen hle e9 key hu1 hm
                refine ACode.vcM (.br 35 false .nil) hn hl (.round .cl) ⟨d2, _, .refl _, .br 54 true <| .inl Try.f110 <| .nz .nil, d3, Try.func110, AMut.br sw (okI3 _ _ _) rfl Symd.br rfl fun cs' hQ => ?_⟩
                refine Exists.elim hQ fun S' h => ?_
                have k1 := key' S' h.1 h.2.1
                have hcs := h.2.2
                clear key' h hQ sw
                subst hcs
                exact ⟨(2 * w, X ++ (S' ++ Y)), ⟨k1.1, k1.2, hw1, hw2⟩, hmu, St.le.of ⟨rfl, rfl, rfl, rfl, rfl, rfl, congrArg (AV.int .i64) e6, rfl, trivial⟩ ⟨rfl, Nat.zero_lt_one, brs_ok _ _, trivial⟩⟩
              · have d3 : decide (IntKind.i64.wrap ((u : Int) + (w : Int)) < (N : Int)) = false := by rw [e9]; exact decide_eq_false (by omega)
                have k1 := blk_end h1 (by rw [← hu]; omega)
                clear h1 h2 hl1 hle e9 hu1 hm
                exact ACode.vcM (.br 35 false .nil) hn hl (.round .cl) ⟨d2, _, .refl _, .br 54 false .nil, d3, (2 * w, l), ⟨k1.1, k1.2, hw1, hw2⟩, hmu, St.le.of ⟨rfl, rfl, rfl, rfl, rfl, rfl, congrArg (AV.int .i64) e6, rfl, trivial⟩ ⟨rfl, Nat.zero_lt_one, brs_ok _ _, trivial⟩⟩
        · have d1 : decide ((w : Int) < (N : Int)) = false := decide_eq_false (by omega)
          have hsd := Ch.all (by rw [h1.length_eq]; omega) (h2 0)
          exact ACode.vcM (.br 30 false .nil) hn hl (.round .cl) ⟨d1, _, .refl _, .nil, rfl, _, rfl, l, h1, hsd, rfl⟩
end Go.Proofs.Yticiopkiikcokaa
namespace Go.Proofs.Yticiopkiikcokaa
open Go Go.Am Go.Srt
set_option maxHeartbeats 4000000 in
set_option maxRecDepth 100000 in
theorem sortSt_spec (l0 : List Br) {N : Nat} (hN : N = l0.length) (hs : N ≤ 2000) : AMut Try.prog Try.f100 N 4 [cmpV] (brs l0) .undef (Sorted l0) := by
  have sw := stable_spec l0 hN hs
  have ho : okL 0 [.int .i64 (N : Int), cmpV] = true := rfl
  exact AMut.vc (.inl Try.f107 <| .nz .nil) ⟨Try.func107, AMut.br sw ho rfl Sorted.br rfl fun cs' hQ => ⟨rfl, _, rfl, hQ⟩⟩
theorem Sorted.flat {l0 : List Br} (cs' : List AV) (h : Sorted l0 cs') : ∀ c ∈ cs', c.flat = true := by
  obtain ⟨S', _, _, rfl⟩ := h; exact brs_flat _
set_option maxHeartbeats 4000000 in
set_option maxRecDepth 100000 in
theorem order_spec (l0 : List Br) {N : Nat} (hN : N = l0.length) (hs : N ≤ 2000) : AMut Try.prog Try.f81 N 4 [numsV] (brs l0) .undef (Sorted l0) := by
  have sw := sortSt_spec l0 hN hs
  have th : thawL (hget [(1, .cells [numsV])]) [.fn (.func 101) [] [.vptr 1 0]] = some ([cmpV], [1]) := by kernel_rfl
  exact AMut.vc (.inl Try.f100 <| .nz .nil) ⟨Try.func100, AMut.useLent (H := [(0, .cells (brs l0)), (1, .cells [numsV])]) (id := 0) (rest := [.fn (.func 101) [] [.vptr 1 0]]) sw rfl (brs_flat l0) Sorted.flat rfl (Eq.trans (by kernel_rfl) th) fun cs' hQ => ⟨rfl, _, rfl, hQ⟩⟩
end Go.Proofs.Yticiopkiikcokaa
