import Derived.Test.YticiopkiikcokaaPg
namespace Go.Proofs.Yticiopkiikcokaa
open Go Go.Am Go.Srt
theorem rot_at (X A B Y : List Br) {N : Nat} {a m b : Int} (hA : 0 < A.length) (hB : 0 < B.length) (hN : N = (X ++ (A ++ (B ++ Y))).length) (hs : N ≤ 100000) (ha : a = (X.length : Int)) (hm : m = ((X.length + A.length : Nat) : Int)) (hb : b = ((X.length + A.length + B.length : Nat) : Int)) :
    AMut Try.prog Try.f111 N 4 [.int .i64 a, .int .i64 m, .int .i64 b, cmpV] (brs (X ++ (A ++ (B ++ Y)))) .undef (fun cs' => cs' = brs (X ++ (B ++ (A ++ Y)))) := by
  subst ha; subst hm; subst hb
  exact rot_spec X A B Y cmpV cmpV_ok hA hB hN hs rfl rfl rfl
theorem okI3 (a b c : Int) : okL 0 [.int .i64 a, .int .i64 b, .int .i64 c, cmpV] = true := rfl
def Symd (X Y A B : List Br) (cs' : List AV) : Prop := ∃ S' : List Br, S'.Perm (A ++ B) ∧ Sd ltBr S' ∧ cs' = brs (X ++ (S' ++ Y))
theorem Symd.br {X Y A B : List Br} (cs' : List AV) (h : Symd X Y A B cs') : ∃ l', cs' = brs l' := by obtain ⟨S', _, _, h⟩ := h; exact ⟨_, h⟩
theorem sym_split {X A B Y L : List Br} {a m b d s0 r0 s : Nat} (ha : a = X.length) (hm : m = X.length + A.length) (hb : b = X.length + A.length + B.length) (hL : L = X ++ (A ++ (B ++ Y)))
    (F1 : a ≤ s0 ∧ s0 ≤ r0 ∧ r0 ≤ m ∧ r0 ≤ d ∧ d + m - s0 ≤ b ∧ m ≤ d + m - r0) (F2 : (s0 = a ∨ d + m - s0 = b) ∧ (r0 = m ∨ d + m - r0 = m)) (h1 : s0 ≤ s) (h3 : s ≤ r0)
    (h4 : ∀ x y, s0 < s → L[s - 1]? = some x → L[d + m - s]? = some y → ltBr y x = false) (h5 : ∀ x y, s < r0 → L[s]? = some x → L[d + m - 1 - s]? = some y → ltBr y x = true) :
    ∃ (A1 A2 B1 B2 : List Br) (e : Nat), A = A1 ++ A2 ∧ B = B1 ++ B2 ∧ e = d + m - s ∧ (A1.length + a = s ∧ A2.length + s = m ∧ B1.length + m = e ∧ B2.length + e = b ∧ e + s = d + m) ∧
      (∀ A' x y B', A1 = A' ++ [x] → B2 = y :: B' → ltBr y x = false) ∧ ∀ A' x y B', A2 = x :: A' → B1 = B' ++ [y] → ltBr y x = true := by
  obtain ⟨e, he⟩ : ∃ e, e = d + m - s := ⟨_, rfl⟩
  have hes : e + s = d + m := by omega
  have hem : m ≤ e := by omega
  have heb : e ≤ b := by omega
  obtain ⟨A1, A2, hAe, ha1⟩ := split2 (l := A) (a := s - a) (by omega)
  obtain ⟨B1, B2, hBe, hb1⟩ := split2 (l := B) (a := e - m) (by omega)
  have hal : A.length = A1.length + A2.length := by rw [hAe]; exact List.length_append
  have hbl : B.length = B1.length + B2.length := by rw [hBe]; exact List.length_append
  have w1 : s0 = a ∨ e + (s - s0) = b := by omega
  have w2 : r0 = m ∨ e = m + (r0 - s) := by omega
  have E : A1.length + a = s ∧ A2.length + s = m ∧ B1.length + m = e ∧ B2.length + e = b ∧ e + s = d + m := by
    clear F2 w1 w2 h4 h5
    omega
  refine ⟨A1, A2, B1, B2, e, hAe, hBe, he, E, fun A' x y B' eA eB => ?_, fun A' x y B' eA eB => ?_⟩
  · have eA' := congrArg List.length eA; simp only [List.length_append, List.length_cons, List.length_nil] at eA'
    have eB' := congrArg List.length eB; simp only [List.length_cons] at eB'
    refine h4 x y (by omega) ?_ ?_
    · rw [hL, hAe, eA]
      have : X ++ (A' ++ [x] ++ A2 ++ (B ++ Y)) = (X ++ A') ++ x :: (A2 ++ (B ++ Y)) := by simp
      rw [this]; exact get1 (by rw [List.length_append]; omega)
    · rw [hL, hBe, eB, ← he]
      have : X ++ (A ++ (B1 ++ y :: B' ++ Y)) = (X ++ (A ++ B1)) ++ y :: (B' ++ Y) := by simp
      rw [this]; exact get1 (by rw [List.length_append, List.length_append]; omega)
  · have eA' := congrArg List.length eA; simp only [List.length_cons] at eA'
    have eB' := congrArg List.length eB; simp only [List.length_append, List.length_cons, List.length_nil] at eB'
    refine h5 x y (by omega) ?_ ?_
    · rw [hL, hAe, eA]
      have : X ++ (A1 ++ x :: A' ++ (B ++ Y)) = (X ++ A1) ++ x :: (A' ++ (B ++ Y)) := by simp
      rw [this]; exact get1 (by rw [List.length_append]; omega)
    · rw [hL, hBe, eB]
      have : X ++ (A ++ (B' ++ [y] ++ B2 ++ Y)) = (X ++ (A ++ B')) ++ y :: (B2 ++ Y) := by simp
      rw [this]; exact get1 (by rw [List.length_append, List.length_append]; omega)
theorem symZ {A1 A2 B1 B2 : List Br} {a m b d e r : Nat} (E : A1.length + a = r ∧ A2.length + r = m ∧ B1.length + m = e ∧ B2.length + e = b ∧ e + r = d + m) :
    ((a < r → 0 < A1.length) ∧ (r < d → 0 < B1.length) ∧ (d < e → 0 < A2.length) ∧ (e < b → 0 < B2.length) ∧ (r < m → 0 < A2.length) ∧ (m < e → 0 < B1.length)) ∧
    ((¬ a < r → A1 = []) ∧ (¬ r < d → B1 = []) ∧ (¬ d < e → A2 = []) ∧ (¬ e < b → B2 = []) ∧ (¬ r < m → A2 = []) ∧ (¬ m < e → B1 = [])) := by
  refine ⟨⟨?_, ?_, ?_, ?_, ?_, ?_⟩, ?_, ?_, ?_, ?_, ?_, ?_⟩ <;> first | omega | exact fun h => List.length_eq_zero_iff.1 (by omega)
set_option maxHeartbeats 64000000 in
set_option maxRecDepth 100000 in
theorem sym_spec : ∀ (k : Nat) (X A B Y : List Br) {N : Nat} {a m b : Int}, A.length + B.length ≤ k → 0 < A.length → 0 < B.length → N = (X ++ (A ++ (B ++ Y))).length → N ≤ 100000 → a = (X.length : Int) → m = ((X.length + A.length : Nat) : Int) → b = ((X.length + A.length + B.length : Nat) : Int) → Sd ltBr A → Sd ltBr B →
    AMut Try.prog Try.f110 N 4 [.int .i64 a, .int .i64 m, .int .i64 b, cmpV] (brs (X ++ (A ++ (B ++ Y)))) .undef (Symd X Y A B) := by
  intro k
  induction k with
  | zero => intro X A B Y N a m b h h1; omega
  | succ k ih =>
    intro X A B Y N a m b hk hA hB hN hs ha hm hb hAs hBs
    by_cases hA1 : A.length = 1
    · match A, hA1 with
      | [x], _ =>
        subst ha; subst hm; subst hb
        exact sym_left X B Y x hB hN hs rfl rfl rfl hBs
    by_cases hB1 : B.length = 1
    · match B, hB1 with
      | [x], _ =>
        subst ha; subst hm; subst hb
        exact sym_right X A Y x (by omega) hN hs rfl rfl rfl hAs
    have hN' : N = X.length + (A.length + (B.length + Y.length)) := by rw [hN]; simp only [List.length_append]
    obtain ⟨a', ha'⟩ : ∃ a', a' = X.length := ⟨_, rfl⟩
    obtain ⟨m', hm'⟩ : ∃ m', m' = X.length + A.length := ⟨_, rfl⟩
    obtain ⟨b', hb'⟩ : ∃ b', b' = X.length + A.length + B.length := ⟨_, rfl⟩
    rw [← ha'] at ha; rw [← hm'] at hm; rw [← hb'] at hb
    subst ha; subst hm; subst hb
    have c1 : (IntKind.i64.wrap ((m' : Int) - (a' : Int)) == 1) = false := by rw [sub64 (by omega) (by omega), beq_eq_false_iff_ne]; omega
    have c2 : (IntKind.i64.wrap ((b' : Int) - (m' : Int)) == 1) = false := by rw [sub64 (by omega) (by omega), beq_eq_false_iff_ne]; omega
    have em := half64 (i := a') (j := b') (by omega)
    obtain ⟨d, hd⟩ : ∃ d, d = (a' + b') / 2 := ⟨_, rfl⟩
    rw [← hd] at em
    have en := (congrArg (fun z => IntKind.i64.wrap (z + (m' : Int))) em).trans (add64 (a := d) (b := m') (by omega))
    have ep := (congrArg (fun z => IntKind.i64.wrap (z - 1)) en).trans (show IntKind.i64.wrap (((d + m' : Nat) : Int) - 1) = ((d + m' - 1 : Nat) : Int) by rw [wrap64 (by omega) (by omega)]; omega)
    obtain ⟨L, hL⟩ : ∃ L, L = X ++ (A ++ (B ++ Y)) := ⟨_, rfl⟩
    have hLN : L.length = N := by rw [hL, hN]
    rw [← hL]
    by_cases hmd : (m' : Int) > (d : Int)
    · have dm : decide ((m' : Int) > IntKind.i64.wrap ((IntKind.u64.wrap (IntKind.i64.wrap ((a' : Int) + (b' : Int)))).fdiv (2 ^ (min (Int.toNat 1) IntKind.u64.bits)))) = true := by rw [em]; exact decide_eq_true hmd
      have e20 := (congrArg (fun z => IntKind.i64.wrap (z - (b' : Int))) en).trans (sub64 (a := d + m') (b := b') (by omega) (by omega))
      have e21 := em
      obtain ⟨s0, hs0⟩ : ∃ s0, s0 = d + m' - b' := ⟨_, rfl⟩
      obtain ⟨r0, hr0⟩ : ∃ r0, r0 = d := ⟨_, rfl⟩
      rw [← hs0] at e20; rw [← hr0] at e21
      have F1 : a' ≤ s0 ∧ s0 ≤ r0 ∧ r0 ≤ m' ∧ r0 ≤ d ∧ d + m' - s0 ≤ b' ∧ m' ≤ d + m' - r0 := by omega
      have F2 : (s0 = a' ∨ d + m' - s0 = b') ∧ (r0 = m' ∨ d + m' - r0 = m') := by omega
      refine AMut.vc (.br 28 false <| .br 80 false <| .br 140 true .loop) ⟨c1, c2, dm, ?_⟩
      clear hs0 hr0 dm c1 c2
      intro g hn hl
      replace hn : g.n = 220 := hn
      replace hl : g.low 1 := hl
      refine acode_while (fun o : Nat × Nat => ⟨[(0, .rsl 0 0 N 4), (1, .int .i64 a'), (2, .int .i64 m'), (3, .int .i64 b'), (4, cmpV), (18, .int .i64 d), (19, .int .i64 ((d + m' : Nat) : Int)), (20, .int .i64 (o.1 : Int)), (21, .int .i64 (o.2 : Int)), (22, .int .i64 ((d + m' - 1 : Nat) : Int))], [(0, .cells (brs L))], 1⟩)
        (fun o => s0 ≤ o.1 ∧ o.1 ≤ o.2 ∧ o.2 ≤ r0 ∧ (∀ x y, s0 < o.1 → L[o.1 - 1]? = some x → L[d + m' - o.1]? = some y → ltBr y x = false) ∧ ∀ x y, o.2 < r0 → L[o.2]? = some x → L[d + m' - 1 - o.2]? = some y → ltBr y x = true) (fun o => o.2 - o.1) (s0, r0)
        ⟨Nat.le_refl _, F1.2.1, Nat.le_refl _, fun x y h => absurd h (Nat.lt_irrefl _), fun x y h => absurd h (Nat.lt_irrefl _)⟩ ?_ (fun _ _ => hl) ?_
      · exact St.le.of ⟨rfl, rfl, rfl, rfl, rfl, rfl, rfl, rfl, rfl, rfl, congrArg (AV.int .i64) em, rfl, congrArg (AV.int .i64) en, rfl, congrArg (AV.int .i64) e20, rfl, congrArg (AV.int .i64) e21, rfl, congrArg (AV.int .i64) ep, rfl, trivial⟩ ⟨rfl, Nat.zero_lt_one, brs_ok _ _, trivial⟩
      · rintro ⟨s, r⟩ ⟨h1, h2, h3, h4, h5⟩
        simp only at h1 h2 h3 h4 h5 ⊢
        clear e20 e21 em en ep
        by_cases hlt : s < r
        · have d1 : decide ((s : Int) < (r : Int)) = true := decide_eq_true (by omega)
          have ec := half64 (i := s) (j := r) (by omega)
          obtain ⟨c, hc⟩ : ∃ c, c = (s + r) / 2 := ⟨_, rfl⟩
          rw [← hc] at ec
          have hc1 : s ≤ c := by omega
          have hc2 : c < r := by omega
          have epc := (congrArg (fun z => IntKind.i64.wrap (((d + m' - 1 : Nat) : Int) - z)) ec).trans (sub64 (a := d + m' - 1) (b := c) (by omega) (by omega))
          refine Exists.elim (getE (l := L) (k := c) (by omega)) fun x hx => Exists.elim (getE (l := L) (k := d + m' - 1 - c) (by omega)) fun y hy => ?_
          have ix1 := ixO (h := hget []) (id := 0) (n := N) epc (by omega)
          have ix2 := ixO (h := hget []) (id := 0) (n := N) ec (by omega)
          have l1 := ldB (h := hget [(0, .cells (brs L))]) (id := 0) (l := L) rfl hy
          have l2 := ldB (h := hget [(0, .cells (brs L))]) (id := 0) (l := L) rfl hx
          cases hv : ltBr y x
          · have k1 : s0 ≤ c + 1 ∧ c + 1 ≤ r ∧ r ≤ r0 ∧ (∀ x y, s0 < c + 1 → L[c + 1 - 1]? = some x → L[d + m' - (c + 1)]? = some y → ltBr y x = false) ∧ ∀ x y, r < r0 → L[r]? = some x → L[d + m' - 1 - r]? = some y → ltBr y x = true :=
              ⟨by omega, by omega, h3, fun x' y' _ hx' hy' => by
                have e1 : d + m' - (c + 1) = d + m' - 1 - c := by omega
                rw [Nat.add_sub_cancel, hx] at hx'; rw [e1, hy] at hy'; cases hx'; cases hy'; exact hv, h5⟩
            have k2 : r - (c + 1) < r - s := by omega
            have es := (congrArg (fun z => IntKind.i64.wrap (z + 1)) ec).trans (succ64 (k := c) (by omega))
            exact ACode.vcM (.br 151 true <| .draw 11 <| .val 163 (.vptr 0 (0 + (d + m' - 1 - c) * 4)) [] <| .val 164 (.agg (encBr y)) [] <| .val 167 (.vptr 0 (0 + c * 4)) [] <| .val 168 (.agg (encBr x)) [] <| .call (.int .i64 (cmpI y x)) <| .br 171 true .nil) hn hl (.round .cl)
              ⟨d1, by kernel_rfl, mixed, by kernel_rfl, Eq.trans (by kernel_rfl) ix1, Eq.trans (by kernel_rfl) l1, Eq.trans (by kernel_rfl) ix2, Eq.trans (by kernel_rfl) l2, by kernel_rfl, cmp_spec y x, congrArg Bool.not (lt_cmp _ _ hv), (c + 1, r), k1, k2,
                St.le.of ⟨rfl, rfl, rfl, rfl, rfl, rfl, rfl, rfl, rfl, rfl, rfl, rfl, rfl, rfl, congrArg (AV.int .i64) es, rfl, rfl, rfl, rfl, rfl, trivial⟩ ⟨rfl, Nat.zero_lt_one, brs_ok _ _, trivial⟩⟩
          · have k1 : s0 ≤ s ∧ s ≤ c ∧ c ≤ r0 ∧ (∀ x y, s0 < s → L[s - 1]? = some x → L[d + m' - s]? = some y → ltBr y x = false) ∧ ∀ x y, c < r0 → L[c]? = some x → L[d + m' - 1 - c]? = some y → ltBr y x = true :=
              ⟨h1, hc1, by omega, h4, fun x' y' _ hx' hy' => by
                rw [hx] at hx'; rw [hy] at hy'; cases hx'; cases hy'; exact hv⟩
            have k2 : c - s < r - s := by omega
            exact ACode.vcM (.br 151 true <| .draw 11 <| .val 163 (.vptr 0 (0 + (d + m' - 1 - c) * 4)) [] <| .val 164 (.agg (encBr y)) [] <| .val 167 (.vptr 0 (0 + c * 4)) [] <| .val 168 (.agg (encBr x)) [] <| .call (.int .i64 (cmpI y x)) <| .br 171 false .nil) hn hl (.round .cl)
              ⟨d1, by kernel_rfl, mixed, by kernel_rfl, Eq.trans (by kernel_rfl) ix1, Eq.trans (by kernel_rfl) l1, Eq.trans (by kernel_rfl) ix2, Eq.trans (by kernel_rfl) l2, by kernel_rfl, cmp_spec y x, congrArg Bool.not (lt_cmp _ _ hv), (s, c), k1, k2,
                St.le.of ⟨rfl, rfl, rfl, rfl, rfl, rfl, rfl, rfl, rfl, rfl, rfl, rfl, rfl, rfl, rfl, rfl, congrArg (AV.int .i64) ec, rfl, rfl, rfl, trivial⟩ ⟨rfl, Nat.zero_lt_one, brs_ok _ _, trivial⟩⟩
        · have d1 : decide ((s : Int) < (r : Int)) = false := decide_eq_false (by omega)
          have hsr : r = s := by omega
          subst hsr
          refine Exists.elim (sym_split ha' hm' hb' hL F1 F2 h1 h3 h4 h5) fun A1 H => Exists.elim H fun A2 H => Exists.elim H fun B1 H => Exists.elim H fun B2 H => Exists.elim H fun e H => ?_
          have hAe := H.1
          have hBe := H.2.1
          have he := H.2.2.1
          have E := H.2.2.2.1
          have q1 := H.2.2.2.2.1
          have q2 := H.2.2.2.2.2
          clear H h4 h5 F2 hlt h1 h2 h3
          have ee : IntKind.i64.wrap (((d + m' : Nat) : Int) - (r : Int)) = (e : Int) := by rw [he]; exact sub64 (by omega) (by omega)
          have hA12 : Sd ltBr (A1 ++ A2) := hAe ▸ hAs
          have hB12 : Sd ltBr (B1 ++ B2) := hBe ▸ hBs
          have fin : ∀ S1 S2 : List Br, S1.Perm (A1 ++ B1) → Sd ltBr S1 → S2.Perm (A2 ++ B2) → Sd ltBr S2 → (S1 ++ S2).Perm (A ++ B) ∧ Sd ltBr (S1 ++ S2) := fun S1 S2 p1 s1 p2 s2 => by
            have := halves ordBr hA12 hB12 q1 q2 p1 s1 p2 s2
            rw [hAe, hBe]; exact ⟨this.2, this.1⟩
          have sA1 := (List.pairwise_append.1 hA12).1
          have sA2 := (List.pairwise_append.1 hA12).2.1
          have sB1 := (List.pairwise_append.1 hB12).1
          have sB2 := (List.pairwise_append.1 hB12).2.1
          have hLr : L = (X ++ A1) ++ (A2 ++ (B1 ++ (B2 ++ Y))) := by rw [hL, hAe, hBe]; simp
          have kk1 : A1.length + B1.length ≤ k ∧ A2.length + B2.length ≤ k := by omega
          have nn1 : N = X.length + (A1.length + A2.length + (B1.length + B2.length + Y.length)) := by omega
          clear q1 q2 hk hA1 hB1 F1 he hmd hN' hAe hBe hA12 hB12 hd
          have Z := symZ E
          have P1 := Z.1.1
          have P2 := Z.1.2.1
          have P3 := Z.1.2.2.1
          have P4 := Z.1.2.2.2.1
          have P5 := Z.1.2.2.2.2.1
          have P6 := Z.1.2.2.2.2.2
          have Z1 := Z.2.1
          have Z2 := Z.2.2.1
          have Z3 := Z.2.2.2.1
          have Z4 := Z.2.2.2.2.1
          have Z5 := Z.2.2.2.2.2.1
          have Z6 := Z.2.2.2.2.2.2
          clear Z
          have iL : ∀ l1 : 0 < A1.length, ∀ l2 : 0 < B1.length, AMut Try.prog Try.f110 N 4 [.int .i64 a', .int .i64 r, .int .i64 d, cmpV] (brs (X ++ (A1 ++ (B1 ++ (A2 ++ (B2 ++ Y)))))) .undef (Symd X (A2 ++ (B2 ++ Y)) A1 B1) := fun l1 l2 =>
            ih X A1 B1 (A2 ++ (B2 ++ Y)) kk1.1 l1 l2 (by simp only [List.length_append]; omega) hs (by rw [ha']) (by congr 1; omega) (by congr 1; omega) sA1 sB1
          have iR : ∀ S1 : List Br, S1.length = A1.length + B1.length → 0 < A2.length → 0 < B2.length → AMut Try.prog Try.f110 N 4 [.int .i64 d, .int .i64 (IntKind.i64.wrap (((d + m' : Nat) : Int) - (r : Int))), .int .i64 b', cmpV] (brs ((X ++ S1) ++ (A2 ++ (B2 ++ Y)))) .undef (Symd (X ++ S1) Y A2 B2) := fun S1 hS l1 l2 =>
            ih (X ++ S1) A2 B2 Y kk1.2 l1 l2 (by simp only [List.length_append]; omega) hs (by simp only [List.length_append]; congr 1; omega) (by rw [ee]; simp only [List.length_append]; congr 1; omega) (by simp only [List.length_append]; congr 1; omega) sA2 sB2
          have sw : 0 < A2.length → 0 < B1.length → AMut Try.prog Try.f111 N 4 [.int .i64 r, .int .i64 m', .int .i64 (IntKind.i64.wrap (((d + m' : Nat) : Int) - (r : Int))), cmpV] (brs L) .undef (fun cs' => cs' = brs (X ++ (A1 ++ (B1 ++ (A2 ++ (B2 ++ Y)))))) := fun x1 x2 => by
            have := rot_at (X ++ A1) A2 B1 (B2 ++ Y) (N := N) (a := (r : Int)) (m := (m' : Int)) (b := IntKind.i64.wrap (((d + m' : Nat) : Int) - (r : Int))) x1 x2 (by simp only [List.length_append]; omega) hs
              (by simp only [List.length_append]; congr 1; omega) (by simp only [List.length_append]; congr 1; omega) (by rw [ee]; simp only [List.length_append]; congr 1; omega)
            rw [← hLr, show (X ++ A1) ++ (B1 ++ (A2 ++ (B2 ++ Y))) = X ++ (A1 ++ (B1 ++ (A2 ++ (B2 ++ Y)))) by simp] at this
            exact this
          have hL1 : A2 = [] ∨ B1 = [] → L = X ++ (A1 ++ (B1 ++ (A2 ++ (B2 ++ Y)))) := fun z => by
            rcases z with z | z <;> rw [hLr, z] <;> simp
          have iR' : ∀ S1 : List Br, S1.Perm (A1 ++ B1) → 0 < A2.length → 0 < B2.length → AMut Try.prog Try.f110 N 4 [.int .i64 d, .int .i64 (IntKind.i64.wrap (((d + m' : Nat) : Int) - (r : Int))), .int .i64 b', cmpV] (brs (X ++ (S1 ++ (A2 ++ (B2 ++ Y))))) .undef (Symd (X ++ S1) Y A2 B2) := fun S1 p1 l1 l2 => by
            have := iR S1 (by rw [p1.length_eq, List.length_append]) l1 l2
            rw [List.append_assoc] at this
            exact this
          have sAB : A1 = [] ∨ B1 = [] → Sd ltBr (A1 ++ B1) := fun z => by
            rcases z with z | z <;> rw [z] <;> simp [sA1, sB1]
          have sAB2 : A2 = [] ∨ B2 = [] → Sd ltBr (A2 ++ B2) := fun z => by
            rcases z with z | z <;> rw [z] <;> simp [sA2, sB2]
          have eq1 : X ++ (A1 ++ (B1 ++ (A2 ++ (B2 ++ Y)))) = X ++ ((A1 ++ B1) ++ (A2 ++ (B2 ++ Y))) := by simp
          have eq2 : ∀ S1 : List Br, X ++ (S1 ++ (A2 ++ (B2 ++ Y))) = X ++ (S1 ++ (A2 ++ B2) ++ Y) := fun S1 => by simp
          have eq3 : ∀ S1 S2 : List Br, X ++ S1 ++ (S2 ++ Y) = X ++ (S1 ++ S2 ++ Y) := fun S1 S2 => by simp
          rw [eq1] at hL1 sw
          rw [eq1] at iL
          clear hA hB hN hAs hBs ha' hm' hb' hLN hLr iR hs ih sA1 sA2 sB1 sB2 hL eq1 kk1 nn1 E
          refine ACode.vcM (.br 151 false .nil) hn hl (.round .cl) ⟨d1, _, .refl _, .both 181 (.both 185 (.inl Try.f111 (.nz (.both 195 (.both 199 (.inl Try.f110 (.nz (.both 209 (.both 213 (.inl Try.f110 (.nz .nil)) .nil) .nil))) (.both 209 (.both 213 (.inl Try.f110 (.nz .nil)) .nil) .nil)) (.both 209 (.both 213 (.inl Try.f110 (.nz .nil)) .nil) .nil)))) (.both 195 (.both 199 (.inl Try.f110 (.nz (.both 209 (.both 213 (.inl Try.f110 (.nz .nil)) .nil) .nil))) (.both 209 (.both 213 (.inl Try.f110 (.nz .nil)) .nil) .nil)) (.both 209 (.both 213 (.inl Try.f110 (.nz .nil)) .nil) .nil))) (.both 195 (.both 199 (.inl Try.f110 (.nz (.both 209 (.both 213 (.inl Try.f110 (.nz .nil)) .nil) .nil))) (.both 209 (.both 213 (.inl Try.f110 (.nz .nil)) .nil) .nil)) (.both 209 (.both 213 (.inl Try.f110 (.nz .nil)) .nil) .nil)), ?_⟩
          refine ⟨fun t1 => ⟨fun t2 => ⟨Try.func111, ?_⟩, fun t2 => ?_⟩, fun t1 => ?_⟩
          · rw [ee] at t2
            refine AMut.br (sw (P5 (Int.ofNat_lt.1 (of_decide_eq_true t1))) (P6 (Int.ofNat_lt.1 (of_decide_eq_true t2)))) (okI3 _ _ _) rfl (fun cs' h => ⟨_, h⟩) rfl fun cs' hQ => ?_
            clear sw t1 t2 hL1
            subst hQ
            refine ⟨fun l1 => ⟨fun l2 => ⟨Try.func110, ?_⟩, fun l2 => ?_⟩, fun l1 => ?_⟩
            · refine AMut.br (iL (P1 (Int.ofNat_lt.1 (of_decide_eq_true l1))) (P2 (Int.ofNat_lt.1 (of_decide_eq_true l2)))) (okI3 _ _ _) rfl Symd.br rfl fun cs' hQ => ?_
              refine Exists.elim hQ fun S1 h => ?_
              have p1 := h.1
              have s1 := h.2.1
              have hcs := h.2.2
              clear h hQ l1 l2
              subst hcs
              refine ⟨fun u1 => ⟨fun u2 => ⟨Try.func110, ?_⟩, fun u2 => ?_⟩, fun u1 => ?_⟩
              · rw [ee] at u1 u2
                refine AMut.br (iR' S1 p1 (P3 (Int.ofNat_lt.1 (of_decide_eq_true u1))) (P4 (Int.ofNat_lt.1 (of_decide_eq_true u2)))) (okI3 _ _ _) rfl Symd.br rfl fun cs' hQ => ?_
                exact Exists.elim hQ fun S2 h => ⟨rfl, _, rfl, S1 ++ S2, (fin S1 S2 p1 s1 h.1 h.2.1).1, (fin S1 S2 p1 s1 h.1 h.2.1).2, h.2.2.trans (congrArg brs (eq3 S1 S2))⟩
              · rw [ee] at u2
                have f := fin S1 (A2 ++ B2) p1 s1 (.refl _) (sAB2 (.inr (Z4 fun h => of_decide_eq_false u2 (Int.ofNat_lt.2 h))))
                exact ⟨rfl, _, rfl, S1 ++ (A2 ++ B2), f.1, f.2, congrArg brs (eq2 S1)⟩
              · rw [ee] at u1
                have f := fin S1 (A2 ++ B2) p1 s1 (.refl _) (sAB2 (.inl (Z3 fun h => of_decide_eq_false u1 (Int.ofNat_lt.2 h))))
                exact ⟨rfl, _, rfl, S1 ++ (A2 ++ B2), f.1, f.2, congrArg brs (eq2 S1)⟩
            · have p1 : (A1 ++ B1).Perm (A1 ++ B1) := .refl _
              have s1 := sAB (.inr (Z2 fun h => of_decide_eq_false l2 (Int.ofNat_lt.2 h)))
              clear l1 l2
              refine ⟨fun u1 => ⟨fun u2 => ⟨Try.func110, ?_⟩, fun u2 => ?_⟩, fun u1 => ?_⟩
              · rw [ee] at u1 u2
                refine AMut.br (iR' (A1 ++ B1) p1 (P3 (Int.ofNat_lt.1 (of_decide_eq_true u1))) (P4 (Int.ofNat_lt.1 (of_decide_eq_true u2)))) (okI3 _ _ _) rfl Symd.br rfl fun cs' hQ => ?_
                exact Exists.elim hQ fun S2 h => ⟨rfl, _, rfl, (A1 ++ B1) ++ S2, (fin (A1 ++ B1) S2 p1 s1 h.1 h.2.1).1, (fin (A1 ++ B1) S2 p1 s1 h.1 h.2.1).2, h.2.2.trans (congrArg brs (eq3 (A1 ++ B1) S2))⟩
              · rw [ee] at u2
                have f := fin (A1 ++ B1) (A2 ++ B2) p1 s1 (.refl _) (sAB2 (.inr (Z4 fun h => of_decide_eq_false u2 (Int.ofNat_lt.2 h))))
                exact ⟨rfl, _, rfl, (A1 ++ B1) ++ (A2 ++ B2), f.1, f.2, congrArg brs (eq2 (A1 ++ B1))⟩
              · rw [ee] at u1
                have f := fin (A1 ++ B1) (A2 ++ B2) p1 s1 (.refl _) (sAB2 (.inl (Z3 fun h => of_decide_eq_false u1 (Int.ofNat_lt.2 h))))
                exact ⟨rfl, _, rfl, (A1 ++ B1) ++ (A2 ++ B2), f.1, f.2, congrArg brs (eq2 (A1 ++ B1))⟩
            · have p1 : (A1 ++ B1).Perm (A1 ++ B1) := .refl _
              have s1 := sAB (.inl (Z1 fun h => of_decide_eq_false l1 (Int.ofNat_lt.2 h)))
              clear l1
              refine ⟨fun u1 => ⟨fun u2 => ⟨Try.func110, ?_⟩, fun u2 => ?_⟩, fun u1 => ?_⟩
              · rw [ee] at u1 u2
                refine AMut.br (iR' (A1 ++ B1) p1 (P3 (Int.ofNat_lt.1 (of_decide_eq_true u1))) (P4 (Int.ofNat_lt.1 (of_decide_eq_true u2)))) (okI3 _ _ _) rfl Symd.br rfl fun cs' hQ => ?_
                exact Exists.elim hQ fun S2 h => ⟨rfl, _, rfl, (A1 ++ B1) ++ S2, (fin (A1 ++ B1) S2 p1 s1 h.1 h.2.1).1, (fin (A1 ++ B1) S2 p1 s1 h.1 h.2.1).2, h.2.2.trans (congrArg brs (eq3 (A1 ++ B1) S2))⟩
              · rw [ee] at u2
                have f := fin (A1 ++ B1) (A2 ++ B2) p1 s1 (.refl _) (sAB2 (.inr (Z4 fun h => of_decide_eq_false u2 (Int.ofNat_lt.2 h))))
                exact ⟨rfl, _, rfl, (A1 ++ B1) ++ (A2 ++ B2), f.1, f.2, congrArg brs (eq2 (A1 ++ B1))⟩
              · rw [ee] at u1
                have f := fin (A1 ++ B1) (A2 ++ B2) p1 s1 (.refl _) (sAB2 (.inl (Z3 fun h => of_decide_eq_false u1 (Int.ofNat_lt.2 h))))
                exact ⟨rfl, _, rfl, (A1 ++ B1) ++ (A2 ++ B2), f.1, f.2, congrArg brs (eq2 (A1 ++ B1))⟩
          · rw [ee] at t2
            have hL1 := hL1 (.inr (Z6 fun h => of_decide_eq_false t2 (Int.ofNat_lt.2 h)))
            clear sw t1 t2
            subst hL1
            refine ⟨fun l1 => ⟨fun l2 => ⟨Try.func110, ?_⟩, fun l2 => ?_⟩, fun l1 => ?_⟩
            · refine AMut.br (iL (P1 (Int.ofNat_lt.1 (of_decide_eq_true l1))) (P2 (Int.ofNat_lt.1 (of_decide_eq_true l2)))) (okI3 _ _ _) rfl Symd.br rfl fun cs' hQ => ?_
              refine Exists.elim hQ fun S1 h => ?_
              have p1 := h.1
              have s1 := h.2.1
              have hcs := h.2.2
              clear h hQ l1 l2
              subst hcs
              refine ⟨fun u1 => ⟨fun u2 => ⟨Try.func110, ?_⟩, fun u2 => ?_⟩, fun u1 => ?_⟩
              · rw [ee] at u1 u2
                refine AMut.br (iR' S1 p1 (P3 (Int.ofNat_lt.1 (of_decide_eq_true u1))) (P4 (Int.ofNat_lt.1 (of_decide_eq_true u2)))) (okI3 _ _ _) rfl Symd.br rfl fun cs' hQ => ?_
                exact Exists.elim hQ fun S2 h => ⟨rfl, _, rfl, S1 ++ S2, (fin S1 S2 p1 s1 h.1 h.2.1).1, (fin S1 S2 p1 s1 h.1 h.2.1).2, h.2.2.trans (congrArg brs (eq3 S1 S2))⟩
              · rw [ee] at u2
                have f := fin S1 (A2 ++ B2) p1 s1 (.refl _) (sAB2 (.inr (Z4 fun h => of_decide_eq_false u2 (Int.ofNat_lt.2 h))))
                exact ⟨rfl, _, rfl, S1 ++ (A2 ++ B2), f.1, f.2, congrArg brs (eq2 S1)⟩
              · rw [ee] at u1
                have f := fin S1 (A2 ++ B2) p1 s1 (.refl _) (sAB2 (.inl (Z3 fun h => of_decide_eq_false u1 (Int.ofNat_lt.2 h))))
                exact ⟨rfl, _, rfl, S1 ++ (A2 ++ B2), f.1, f.2, congrArg brs (eq2 S1)⟩
            · have p1 : (A1 ++ B1).Perm (A1 ++ B1) := .refl _
              have s1 := sAB (.inr (Z2 fun h => of_decide_eq_false l2 (Int.ofNat_lt.2 h)))
              clear l1 l2
              refine ⟨fun u1 => ⟨fun u2 => ⟨Try.func110, ?_⟩, fun u2 => ?_⟩, fun u1 => ?_⟩
              · rw [ee] at u1 u2
                refine AMut.br (iR' (A1 ++ B1) p1 (P3 (Int.ofNat_lt.1 (of_decide_eq_true u1))) (P4 (Int.ofNat_lt.1 (of_decide_eq_true u2)))) (okI3 _ _ _) rfl Symd.br rfl fun cs' hQ => ?_
                exact Exists.elim hQ fun S2 h => ⟨rfl, _, rfl, (A1 ++ B1) ++ S2, (fin (A1 ++ B1) S2 p1 s1 h.1 h.2.1).1, (fin (A1 ++ B1) S2 p1 s1 h.1 h.2.1).2, h.2.2.trans (congrArg brs (eq3 (A1 ++ B1) S2))⟩
              · rw [ee] at u2
                have f := fin (A1 ++ B1) (A2 ++ B2) p1 s1 (.refl _) (sAB2 (.inr (Z4 fun h => of_decide_eq_false u2 (Int.ofNat_lt.2 h))))
                exact ⟨rfl, _, rfl, (A1 ++ B1) ++ (A2 ++ B2), f.1, f.2, congrArg brs (eq2 (A1 ++ B1))⟩
              · rw [ee] at u1
                have f := fin (A1 ++ B1) (A2 ++ B2) p1 s1 (.refl _) (sAB2 (.inl (Z3 fun h => of_decide_eq_false u1 (Int.ofNat_lt.2 h))))
                exact ⟨rfl, _, rfl, (A1 ++ B1) ++ (A2 ++ B2), f.1, f.2, congrArg brs (eq2 (A1 ++ B1))⟩
            · have p1 : (A1 ++ B1).Perm (A1 ++ B1) := .refl _
              have s1 := sAB (.inl (Z1 fun h => of_decide_eq_false l1 (Int.ofNat_lt.2 h)))
              clear l1
              refine ⟨fun u1 => ⟨fun u2 => ⟨Try.func110, ?_⟩, fun u2 => ?_⟩, fun u1 => ?_⟩
              · rw [ee] at u1 u2
                refine AMut.br (iR' (A1 ++ B1) p1 (P3 (Int.ofNat_lt.1 (of_decide_eq_true u1))) (P4 (Int.ofNat_lt.1 (of_decide_eq_true u2)))) (okI3 _ _ _) rfl Symd.br rfl fun cs' hQ => ?_
                exact Exists.elim hQ fun S2 h => ⟨rfl, _, rfl, (A1 ++ B1) ++ S2, (fin (A1 ++ B1) S2 p1 s1 h.1 h.2.1).1, (fin (A1 ++ B1) S2 p1 s1 h.1 h.2.1).2, h.2.2.trans (congrArg brs (eq3 (A1 ++ B1) S2))⟩
              · rw [ee] at u2
                have f := fin (A1 ++ B1) (A2 ++ B2) p1 s1 (.refl _) (sAB2 (.inr (Z4 fun h => of_decide_eq_false u2 (Int.ofNat_lt.2 h))))
                exact ⟨rfl, _, rfl, (A1 ++ B1) ++ (A2 ++ B2), f.1, f.2, congrArg brs (eq2 (A1 ++ B1))⟩
              · rw [ee] at u1
                have f := fin (A1 ++ B1) (A2 ++ B2) p1 s1 (.refl _) (sAB2 (.inl (Z3 fun h => of_decide_eq_false u1 (Int.ofNat_lt.2 h))))
                exact ⟨rfl, _, rfl, (A1 ++ B1) ++ (A2 ++ B2), f.1, f.2, congrArg brs (eq2 (A1 ++ B1))⟩
          · have hL1 := hL1 (.inl (Z5 fun h => of_decide_eq_false t1 (Int.ofNat_lt.2 h)))
            clear sw t1
            subst hL1
            refine ⟨fun l1 => ⟨fun l2 => ⟨Try.func110, ?_⟩, fun l2 => ?_⟩, fun l1 => ?_⟩
            · refine AMut.br (iL (P1 (Int.ofNat_lt.1 (of_decide_eq_true l1))) (P2 (Int.ofNat_lt.1 (of_decide_eq_true l2)))) (okI3 _ _ _) rfl Symd.br rfl fun cs' hQ => ?_
              refine Exists.elim hQ fun S1 h => ?_
              have p1 := h.1
              have s1 := h.2.1
              have hcs := h.2.2
              clear h hQ l1 l2
              subst hcs
              refine ⟨fun u1 => ⟨fun u2 => ⟨Try.func110, ?_⟩, fun u2 => ?_⟩, fun u1 => ?_⟩
              · rw [ee] at u1 u2
                refine AMut.br (iR' S1 p1 (P3 (Int.ofNat_lt.1 (of_decide_eq_true u1))) (P4 (Int.ofNat_lt.1 (of_decide_eq_true u2)))) (okI3 _ _ _) rfl Symd.br rfl fun cs' hQ => ?_
                exact Exists.elim hQ fun S2 h => ⟨rfl, _, rfl, S1 ++ S2, (fin S1 S2 p1 s1 h.1 h.2.1).1, (fin S1 S2 p1 s1 h.1 h.2.1).2, h.2.2.trans (congrArg brs (eq3 S1 S2))⟩
              · rw [ee] at u2
                have f := fin S1 (A2 ++ B2) p1 s1 (.refl _) (sAB2 (.inr (Z4 fun h => of_decide_eq_false u2 (Int.ofNat_lt.2 h))))
                exact ⟨rfl, _, rfl, S1 ++ (A2 ++ B2), f.1, f.2, congrArg brs (eq2 S1)⟩
              · rw [ee] at u1
                have f := fin S1 (A2 ++ B2) p1 s1 (.refl _) (sAB2 (.inl (Z3 fun h => of_decide_eq_false u1 (Int.ofNat_lt.2 h))))
                exact ⟨rfl, _, rfl, S1 ++ (A2 ++ B2), f.1, f.2, congrArg brs (eq2 S1)⟩
            · have p1 : (A1 ++ B1).Perm (A1 ++ B1) := .refl _
              have s1 := sAB (.inr (Z2 fun h => of_decide_eq_false l2 (Int.ofNat_lt.2 h)))
              clear l1 l2
              refine ⟨fun u1 => ⟨fun u2 => ⟨Try.func110, ?_⟩, fun u2 => ?_⟩, fun u1 => ?_⟩
              · rw [ee] at u1 u2
                refine AMut.br (iR' (A1 ++ B1) p1 (P3 (Int.ofNat_lt.1 (of_decide_eq_true u1))) (P4 (Int.ofNat_lt.1 (of_decide_eq_true u2)))) (okI3 _ _ _) rfl Symd.br rfl fun cs' hQ => ?_
                exact Exists.elim hQ fun S2 h => ⟨rfl, _, rfl, (A1 ++ B1) ++ S2, (fin (A1 ++ B1) S2 p1 s1 h.1 h.2.1).1, (fin (A1 ++ B1) S2 p1 s1 h.1 h.2.1).2, h.2.2.trans (congrArg brs (eq3 (A1 ++ B1) S2))⟩
              · rw [ee] at u2
                have f := fin (A1 ++ B1) (A2 ++ B2) p1 s1 (.refl _) (sAB2 (.inr (Z4 fun h => of_decide_eq_false u2 (Int.ofNat_lt.2 h))))
                exact ⟨rfl, _, rfl, (A1 ++ B1) ++ (A2 ++ B2), f.1, f.2, congrArg brs (eq2 (A1 ++ B1))⟩
              · rw [ee] at u1
                have f := fin (A1 ++ B1) (A2 ++ B2) p1 s1 (.refl _) (sAB2 (.inl (Z3 fun h => of_decide_eq_false u1 (Int.ofNat_lt.2 h))))
                exact ⟨rfl, _, rfl, (A1 ++ B1) ++ (A2 ++ B2), f.1, f.2, congrArg brs (eq2 (A1 ++ B1))⟩
            · have p1 : (A1 ++ B1).Perm (A1 ++ B1) := .refl _
              have s1 := sAB (.inl (Z1 fun h => of_decide_eq_false l1 (Int.ofNat_lt.2 h)))
              clear l1
              refine ⟨fun u1 => ⟨fun u2 => ⟨Try.func110, ?_⟩, fun u2 => ?_⟩, fun u1 => ?_⟩
              · rw [ee] at u1 u2
                refine AMut.br (iR' (A1 ++ B1) p1 (P3 (Int.ofNat_lt.1 (of_decide_eq_true u1))) (P4 (Int.ofNat_lt.1 (of_decide_eq_true u2)))) (okI3 _ _ _) rfl Symd.br rfl fun cs' hQ => ?_
                exact Exists.elim hQ fun S2 h => ⟨rfl, _, rfl, (A1 ++ B1) ++ S2, (fin (A1 ++ B1) S2 p1 s1 h.1 h.2.1).1, (fin (A1 ++ B1) S2 p1 s1 h.1 h.2.1).2, h.2.2.trans (congrArg brs (eq3 (A1 ++ B1) S2))⟩
              · rw [ee] at u2
                have f := fin (A1 ++ B1) (A2 ++ B2) p1 s1 (.refl _) (sAB2 (.inr (Z4 fun h => of_decide_eq_false u2 (Int.ofNat_lt.2 h))))
                exact ⟨rfl, _, rfl, (A1 ++ B1) ++ (A2 ++ B2), f.1, f.2, congrArg brs (eq2 (A1 ++ B1))⟩
              · rw [ee] at u1
                have f := fin (A1 ++ B1) (A2 ++ B2) p1 s1 (.refl _) (sAB2 (.inl (Z3 fun h => of_decide_eq_false u1 (Int.ofNat_lt.2 h))))
                exact ⟨rfl, _, rfl, (A1 ++ B1) ++ (A2 ++ B2), f.1, f.2, congrArg brs (eq2 (A1 ++ B1))⟩
    · have dm : decide ((m' : Int) > IntKind.i64.wrap ((IntKind.u64.wrap (IntKind.i64.wrap ((a' : Int) + (b' : Int)))).fdiv (2 ^ (min (Int.toNat 1) IntKind.u64.bits)))) = false := by rw [em]; exact decide_eq_false hmd
      have e20 : (a' : Int) = (a' : Int) := rfl
      have e21 : (m' : Int) = (m' : Int) := rfl
      obtain ⟨s0, hs0⟩ : ∃ s0, s0 = a' := ⟨_, rfl⟩
      obtain ⟨r0, hr0⟩ : ∃ r0, r0 = m' := ⟨_, rfl⟩
      have e20 : (a' : Int) = (s0 : Int) := by rw [hs0]
      have e21 : (m' : Int) = (r0 : Int) := by rw [hr0]
      have F1 : a' ≤ s0 ∧ s0 ≤ r0 ∧ r0 ≤ m' ∧ r0 ≤ d ∧ d + m' - s0 ≤ b' ∧ m' ≤ d + m' - r0 := by omega
      have F2 : (s0 = a' ∨ d + m' - s0 = b') ∧ (r0 = m' ∨ d + m' - r0 = m') := by omega
      refine AMut.vc (.br 28 false <| .br 80 false <| .br 140 false .loop) ⟨c1, c2, dm, ?_⟩
      clear hs0 hr0 dm c1 c2
      intro g hn hl
      replace hn : g.n = 220 := hn
      replace hl : g.low 1 := hl
      refine acode_while (fun o : Nat × Nat => ⟨[(0, .rsl 0 0 N 4), (1, .int .i64 a'), (2, .int .i64 m'), (3, .int .i64 b'), (4, cmpV), (18, .int .i64 d), (19, .int .i64 ((d + m' : Nat) : Int)), (20, .int .i64 (o.1 : Int)), (21, .int .i64 (o.2 : Int)), (22, .int .i64 ((d + m' - 1 : Nat) : Int))], [(0, .cells (brs L))], 1⟩)
        (fun o => s0 ≤ o.1 ∧ o.1 ≤ o.2 ∧ o.2 ≤ r0 ∧ (∀ x y, s0 < o.1 → L[o.1 - 1]? = some x → L[d + m' - o.1]? = some y → ltBr y x = false) ∧ ∀ x y, o.2 < r0 → L[o.2]? = some x → L[d + m' - 1 - o.2]? = some y → ltBr y x = true) (fun o => o.2 - o.1) (s0, r0)
        ⟨Nat.le_refl _, F1.2.1, Nat.le_refl _, fun x y h => absurd h (Nat.lt_irrefl _), fun x y h => absurd h (Nat.lt_irrefl _)⟩ ?_ (fun _ _ => hl) ?_
      · exact St.le.of ⟨rfl, rfl, rfl, rfl, rfl, rfl, rfl, rfl, rfl, rfl, congrArg (AV.int .i64) em, rfl, congrArg (AV.int .i64) en, rfl, congrArg (AV.int .i64) e20, rfl, congrArg (AV.int .i64) e21, rfl, congrArg (AV.int .i64) ep, rfl, trivial⟩ ⟨rfl, Nat.zero_lt_one, brs_ok _ _, trivial⟩
      · rintro ⟨s, r⟩ ⟨h1, h2, h3, h4, h5⟩
        simp only at h1 h2 h3 h4 h5 ⊢
        clear e20 e21 em en ep
        by_cases hlt : s < r
        · have d1 : decide ((s : Int) < (r : Int)) = true := decide_eq_true (by omega)
          have ec := half64 (i := s) (j := r) (by omega)
          obtain ⟨c, hc⟩ : ∃ c, c = (s + r) / 2 := ⟨_, rfl⟩
          rw [← hc] at ec
          have hc1 : s ≤ c := by omega
          have hc2 : c < r := by omega
          have epc := (congrArg (fun z => IntKind.i64.wrap (((d + m' - 1 : Nat) : Int) - z)) ec).trans (sub64 (a := d + m' - 1) (b := c) (by omega) (by omega))
          refine Exists.elim (getE (l := L) (k := c) (by omega)) fun x hx => Exists.elim (getE (l := L) (k := d + m' - 1 - c) (by omega)) fun y hy => ?_
          have ix1 := ixO (h := hget []) (id := 0) (n := N) epc (by omega)
          have ix2 := ixO (h := hget []) (id := 0) (n := N) ec (by omega)
          have l1 := ldB (h := hget [(0, .cells (brs L))]) (id := 0) (l := L) rfl hy
          have l2 := ldB (h := hget [(0, .cells (brs L))]) (id := 0) (l := L) rfl hx
          cases hv : ltBr y x
          · have k1 : s0 ≤ c + 1 ∧ c + 1 ≤ r ∧ r ≤ r0 ∧ (∀ x y, s0 < c + 1 → L[c + 1 - 1]? = some x → L[d + m' - (c + 1)]? = some y → ltBr y x = false) ∧ ∀ x y, r < r0 → L[r]? = some x → L[d + m' - 1 - r]? = some y → ltBr y x = true :=
              ⟨by omega, by omega, h3, fun x' y' _ hx' hy' => by
                have e1 : d + m' - (c + 1) = d + m' - 1 - c := by omega
                rw [Nat.add_sub_cancel, hx] at hx'; rw [e1, hy] at hy'; cases hx'; cases hy'; exact hv, h5⟩
            have k2 : r - (c + 1) < r - s := by omega
            have es := (congrArg (fun z => IntKind.i64.wrap (z + 1)) ec).trans (succ64 (k := c) (by omega))
            exact ACode.vcM (.br 151 true <| .draw 11 <| .val 163 (.vptr 0 (0 + (d + m' - 1 - c) * 4)) [] <| .val 164 (.agg (encBr y)) [] <| .val 167 (.vptr 0 (0 + c * 4)) [] <| .val 168 (.agg (encBr x)) [] <| .call (.int .i64 (cmpI y x)) <| .br 171 true .nil) hn hl (.round .cl)
              ⟨d1, by kernel_rfl, mixed, by kernel_rfl, Eq.trans (by kernel_rfl) ix1, Eq.trans (by kernel_rfl) l1, Eq.trans (by kernel_rfl) ix2, Eq.trans (by kernel_rfl) l2, by kernel_rfl, cmp_spec y x, congrArg Bool.not (lt_cmp _ _ hv), (c + 1, r), k1, k2,
                St.le.of ⟨rfl, rfl, rfl, rfl, rfl, rfl, rfl, rfl, rfl, rfl, rfl, rfl, rfl, rfl, congrArg (AV.int .i64) es, rfl, rfl, rfl, rfl, rfl, trivial⟩ ⟨rfl, Nat.zero_lt_one, brs_ok _ _, trivial⟩⟩
          · have k1 : s0 ≤ s ∧ s ≤ c ∧ c ≤ r0 ∧ (∀ x y, s0 < s → L[s - 1]? = some x → L[d + m' - s]? = some y → ltBr y x = false) ∧ ∀ x y, c < r0 → L[c]? = some x → L[d + m' - 1 - c]? = some y → ltBr y x = true :=
              ⟨h1, hc1, by omega, h4, fun x' y' _ hx' hy' => by
                rw [hx] at hx'; rw [hy] at hy'; cases hx'; cases hy'; exact hv⟩
            have k2 : c - s < r - s := by omega
            exact ACode.vcM (.br 151 true <| .draw 11 <| .val 163 (.vptr 0 (0 + (d + m' - 1 - c) * 4)) [] <| .val 164 (.agg (encBr y)) [] <| .val 167 (.vptr 0 (0 + c * 4)) [] <| .val 168 (.agg (encBr x)) [] <| .call (.int .i64 (cmpI y x)) <| .br 171 false .nil) hn hl (.round .cl)
              ⟨d1, by kernel_rfl, mixed, by kernel_rfl, Eq.trans (by kernel_rfl) ix1, Eq.trans (by kernel_rfl) l1, Eq.trans (by kernel_rfl) ix2, Eq.trans (by kernel_rfl) l2, by kernel_rfl, cmp_spec y x, congrArg Bool.not (lt_cmp _ _ hv), (s, c), k1, k2,
                St.le.of ⟨rfl, rfl, rfl, rfl, rfl, rfl, rfl, rfl, rfl, rfl, rfl, rfl, rfl, rfl, rfl, rfl, congrArg (AV.int .i64) ec, rfl, rfl, rfl, trivial⟩ ⟨rfl, Nat.zero_lt_one, brs_ok _ _, trivial⟩⟩
        · have d1 : decide ((s : Int) < (r : Int)) = false := decide_eq_false (by omega)
          have hsr : r = s := by omega
          subst hsr
          refine Exists.elim (sym_split ha' hm' hb' hL F1 F2 h1 h3 h4 h5) fun A1 H => Exists.elim H fun A2 H => Exists.elim H fun B1 H => Exists.elim H fun B2 H => Exists.elim H fun e H => ?_
          have hAe := H.1
          have hBe := H.2.1
          have he := H.2.2.1
          have E := H.2.2.2.1
          have q1 := H.2.2.2.2.1
          have q2 := H.2.2.2.2.2
          clear H h4 h5 F2 hlt h1 h2 h3
          have ee : IntKind.i64.wrap (((d + m' : Nat) : Int) - (r : Int)) = (e : Int) := by rw [he]; exact sub64 (by omega) (by omega)
          have hA12 : Sd ltBr (A1 ++ A2) := hAe ▸ hAs
          have hB12 : Sd ltBr (B1 ++ B2) := hBe ▸ hBs
          have fin : ∀ S1 S2 : List Br, S1.Perm (A1 ++ B1) → Sd ltBr S1 → S2.Perm (A2 ++ B2) → Sd ltBr S2 → (S1 ++ S2).Perm (A ++ B) ∧ Sd ltBr (S1 ++ S2) := fun S1 S2 p1 s1 p2 s2 => by
            have := halves ordBr hA12 hB12 q1 q2 p1 s1 p2 s2
            rw [hAe, hBe]; exact ⟨this.2, this.1⟩
          have sA1 := (List.pairwise_append.1 hA12).1
          have sA2 := (List.pairwise_append.1 hA12).2.1
          have sB1 := (List.pairwise_append.1 hB12).1
          have sB2 := (List.pairwise_append.1 hB12).2.1
          have hLr : L = (X ++ A1) ++ (A2 ++ (B1 ++ (B2 ++ Y))) := by rw [hL, hAe, hBe]; simp
          have kk1 : A1.length + B1.length ≤ k ∧ A2.length + B2.length ≤ k := by omega
          have nn1 : N = X.length + (A1.length + A2.length + (B1.length + B2.length + Y.length)) := by omega
          clear q1 q2 hk hA1 hB1 F1 he hmd hN' hAe hBe hA12 hB12 hd
          have Z := symZ E
          have P1 := Z.1.1
          have P2 := Z.1.2.1
          have P3 := Z.1.2.2.1
          have P4 := Z.1.2.2.2.1
          have P5 := Z.1.2.2.2.2.1
          have P6 := Z.1.2.2.2.2.2
          have Z1 := Z.2.1
          have Z2 := Z.2.2.1
          have Z3 := Z.2.2.2.1
          have Z4 := Z.2.2.2.2.1
          have Z5 := Z.2.2.2.2.2.1
          have Z6 := Z.2.2.2.2.2.2
          clear Z
          have iL : ∀ l1 : 0 < A1.length, ∀ l2 : 0 < B1.length, AMut Try.prog Try.f110 N 4 [.int .i64 a', .int .i64 r, .int .i64 d, cmpV] (brs (X ++ (A1 ++ (B1 ++ (A2 ++ (B2 ++ Y)))))) .undef (Symd X (A2 ++ (B2 ++ Y)) A1 B1) := fun l1 l2 =>
            ih X A1 B1 (A2 ++ (B2 ++ Y)) kk1.1 l1 l2 (by simp only [List.length_append]; omega) hs (by rw [ha']) (by congr 1; omega) (by congr 1; omega) sA1 sB1
          have iR : ∀ S1 : List Br, S1.length = A1.length + B1.length → 0 < A2.length → 0 < B2.length → AMut Try.prog Try.f110 N 4 [.int .i64 d, .int .i64 (IntKind.i64.wrap (((d + m' : Nat) : Int) - (r : Int))), .int .i64 b', cmpV] (brs ((X ++ S1) ++ (A2 ++ (B2 ++ Y)))) .undef (Symd (X ++ S1) Y A2 B2) := fun S1 hS l1 l2 =>
            ih (X ++ S1) A2 B2 Y kk1.2 l1 l2 (by simp only [List.length_append]; omega) hs (by simp only [List.length_append]; congr 1; omega) (by rw [ee]; simp only [List.length_append]; congr 1; omega) (by simp only [List.length_append]; congr 1; omega) sA2 sB2
          have sw : 0 < A2.length → 0 < B1.length → AMut Try.prog Try.f111 N 4 [.int .i64 r, .int .i64 m', .int .i64 (IntKind.i64.wrap (((d + m' : Nat) : Int) - (r : Int))), cmpV] (brs L) .undef (fun cs' => cs' = brs (X ++ (A1 ++ (B1 ++ (A2 ++ (B2 ++ Y)))))) := fun x1 x2 => by
            have := rot_at (X ++ A1) A2 B1 (B2 ++ Y) (N := N) (a := (r : Int)) (m := (m' : Int)) (b := IntKind.i64.wrap (((d + m' : Nat) : Int) - (r : Int))) x1 x2 (by simp only [List.length_append]; omega) hs
              (by simp only [List.length_append]; congr 1; omega) (by simp only [List.length_append]; congr 1; omega) (by rw [ee]; simp only [List.length_append]; congr 1; omega)
            rw [← hLr, show (X ++ A1) ++ (B1 ++ (A2 ++ (B2 ++ Y))) = X ++ (A1 ++ (B1 ++ (A2 ++ (B2 ++ Y)))) by simp] at this
            exact this
          have hL1 : A2 = [] ∨ B1 = [] → L = X ++ (A1 ++ (B1 ++ (A2 ++ (B2 ++ Y)))) := fun z => by
            rcases z with z | z <;> rw [hLr, z] <;> simp
          have iR' : ∀ S1 : List Br, S1.Perm (A1 ++ B1) → 0 < A2.length → 0 < B2.length → AMut Try.prog Try.f110 N 4 [.int .i64 d, .int .i64 (IntKind.i64.wrap (((d + m' : Nat) : Int) - (r : Int))), .int .i64 b', cmpV] (brs (X ++ (S1 ++ (A2 ++ (B2 ++ Y))))) .undef (Symd (X ++ S1) Y A2 B2) := fun S1 p1 l1 l2 => by
            have := iR S1 (by rw [p1.length_eq, List.length_append]) l1 l2
            rw [List.append_assoc] at this
            exact this
          have sAB : A1 = [] ∨ B1 = [] → Sd ltBr (A1 ++ B1) := fun z => by
            rcases z with z | z <;> rw [z] <;> simp [sA1, sB1]
          have sAB2 : A2 = [] ∨ B2 = [] → Sd ltBr (A2 ++ B2) := fun z => by
            rcases z with z | z <;> rw [z] <;> simp [sA2, sB2]
          have eq1 : X ++ (A1 ++ (B1 ++ (A2 ++ (B2 ++ Y)))) = X ++ ((A1 ++ B1) ++ (A2 ++ (B2 ++ Y))) := by simp
          have eq2 : ∀ S1 : List Br, X ++ (S1 ++ (A2 ++ (B2 ++ Y))) = X ++ (S1 ++ (A2 ++ B2) ++ Y) := fun S1 => by simp
          have eq3 : ∀ S1 S2 : List Br, X ++ S1 ++ (S2 ++ Y) = X ++ (S1 ++ S2 ++ Y) := fun S1 S2 => by simp
          rw [eq1] at hL1 sw
          rw [eq1] at iL
          clear hA hB hN hAs hBs ha' hm' hb' hLN hLr iR hs ih sA1 sA2 sB1 sB2 hL eq1 kk1 nn1 E
          refine ACode.vcM (.br 151 false .nil) hn hl (.round .cl) ⟨d1, _, .refl _, .both 181 (.both 185 (.inl Try.f111 (.nz (.both 195 (.both 199 (.inl Try.f110 (.nz (.both 209 (.both 213 (.inl Try.f110 (.nz .nil)) .nil) .nil))) (.both 209 (.both 213 (.inl Try.f110 (.nz .nil)) .nil) .nil)) (.both 209 (.both 213 (.inl Try.f110 (.nz .nil)) .nil) .nil)))) (.both 195 (.both 199 (.inl Try.f110 (.nz (.both 209 (.both 213 (.inl Try.f110 (.nz .nil)) .nil) .nil))) (.both 209 (.both 213 (.inl Try.f110 (.nz .nil)) .nil) .nil)) (.both 209 (.both 213 (.inl Try.f110 (.nz .nil)) .nil) .nil))) (.both 195 (.both 199 (.inl Try.f110 (.nz (.both 209 (.both 213 (.inl Try.f110 (.nz .nil)) .nil) .nil))) (.both 209 (.both 213 (.inl Try.f110 (.nz .nil)) .nil) .nil)) (.both 209 (.both 213 (.inl Try.f110 (.nz .nil)) .nil) .nil)), ?_⟩
          refine ⟨fun t1 => ⟨fun t2 => ⟨Try.func111, ?_⟩, fun t2 => ?_⟩, fun t1 => ?_⟩
          · rw [ee] at t2
            refine AMut.br (sw (P5 (Int.ofNat_lt.1 (of_decide_eq_true t1))) (P6 (Int.ofNat_lt.1 (of_decide_eq_true t2)))) (okI3 _ _ _) rfl (fun cs' h => ⟨_, h⟩) rfl fun cs' hQ => ?_
            clear sw t1 t2 hL1
            subst hQ
            refine ⟨fun l1 => ⟨fun l2 => ⟨Try.func110, ?_⟩, fun l2 => ?_⟩, fun l1 => ?_⟩
            · refine AMut.br (iL (P1 (Int.ofNat_lt.1 (of_decide_eq_true l1))) (P2 (Int.ofNat_lt.1 (of_decide_eq_true l2)))) (okI3 _ _ _) rfl Symd.br rfl fun cs' hQ => ?_
              refine Exists.elim hQ fun S1 h => ?_
              have p1 := h.1
              have s1 := h.2.1
              have hcs := h.2.2
              clear h hQ l1 l2
              subst hcs
              refine ⟨fun u1 => ⟨fun u2 => ⟨Try.func110, ?_⟩, fun u2 => ?_⟩, fun u1 => ?_⟩
              · rw [ee] at u1 u2
                refine AMut.br (iR' S1 p1 (P3 (Int.ofNat_lt.1 (of_decide_eq_true u1))) (P4 (Int.ofNat_lt.1 (of_decide_eq_true u2)))) (okI3 _ _ _) rfl Symd.br rfl fun cs' hQ => ?_
                exact Exists.elim hQ fun S2 h => ⟨rfl, _, rfl, S1 ++ S2, (fin S1 S2 p1 s1 h.1 h.2.1).1, (fin S1 S2 p1 s1 h.1 h.2.1).2, h.2.2.trans (congrArg brs (eq3 S1 S2))⟩
              · rw [ee] at u2
                have f := fin S1 (A2 ++ B2) p1 s1 (.refl _) (sAB2 (.inr (Z4 fun h => of_decide_eq_false u2 (Int.ofNat_lt.2 h))))
                exact ⟨rfl, _, rfl, S1 ++ (A2 ++ B2), f.1, f.2, congrArg brs (eq2 S1)⟩
              · rw [ee] at u1
                have f := fin S1 (A2 ++ B2) p1 s1 (.refl _) (sAB2 (.inl (Z3 fun h => of_decide_eq_false u1 (Int.ofNat_lt.2 h))))
                exact ⟨rfl, _, rfl, S1 ++ (A2 ++ B2), f.1, f.2, congrArg brs (eq2 S1)⟩
            · have p1 : (A1 ++ B1).Perm (A1 ++ B1) := .refl _
              have s1 := sAB (.inr (Z2 fun h => of_decide_eq_false l2 (Int.ofNat_lt.2 h)))
              clear l1 l2
              refine ⟨fun u1 => ⟨fun u2 => ⟨Try.func110, ?_⟩, fun u2 => ?_⟩, fun u1 => ?_⟩
              · rw [ee] at u1 u2
                refine AMut.br (iR' (A1 ++ B1) p1 (P3 (Int.ofNat_lt.1 (of_decide_eq_true u1))) (P4 (Int.ofNat_lt.1 (of_decide_eq_true u2)))) (okI3 _ _ _) rfl Symd.br rfl fun cs' hQ => ?_
                exact Exists.elim hQ fun S2 h => ⟨rfl, _, rfl, (A1 ++ B1) ++ S2, (fin (A1 ++ B1) S2 p1 s1 h.1 h.2.1).1, (fin (A1 ++ B1) S2 p1 s1 h.1 h.2.1).2, h.2.2.trans (congrArg brs (eq3 (A1 ++ B1) S2))⟩
              · rw [ee] at u2
                have f := fin (A1 ++ B1) (A2 ++ B2) p1 s1 (.refl _) (sAB2 (.inr (Z4 fun h => of_decide_eq_false u2 (Int.ofNat_lt.2 h))))
                exact ⟨rfl, _, rfl, (A1 ++ B1) ++ (A2 ++ B2), f.1, f.2, congrArg brs (eq2 (A1 ++ B1))⟩
              · rw [ee] at u1
                have f := fin (A1 ++ B1) (A2 ++ B2) p1 s1 (.refl _) (sAB2 (.inl (Z3 fun h => of_decide_eq_false u1 (Int.ofNat_lt.2 h))))
                exact ⟨rfl, _, rfl, (A1 ++ B1) ++ (A2 ++ B2), f.1, f.2, congrArg brs (eq2 (A1 ++ B1))⟩
            · have p1 : (A1 ++ B1).Perm (A1 ++ B1) := .refl _
              have s1 := sAB (.inl (Z1 fun h => of_decide_eq_false l1 (Int.ofNat_lt.2 h)))
              clear l1
              refine ⟨fun u1 => ⟨fun u2 => ⟨Try.func110, ?_⟩, fun u2 => ?_⟩, fun u1 => ?_⟩
              · rw [ee] at u1 u2
                refine AMut.br (iR' (A1 ++ B1) p1 (P3 (Int.ofNat_lt.1 (of_decide_eq_true u1))) (P4 (Int.ofNat_lt.1 (of_decide_eq_true u2)))) (okI3 _ _ _) rfl Symd.br rfl fun cs' hQ => ?_
                exact Exists.elim hQ fun S2 h => ⟨rfl, _, rfl, (A1 ++ B1) ++ S2, (fin (A1 ++ B1) S2 p1 s1 h.1 h.2.1).1, (fin (A1 ++ B1) S2 p1 s1 h.1 h.2.1).2, h.2.2.trans (congrArg brs (eq3 (A1 ++ B1) S2))⟩
              · rw [ee] at u2
                have f := fin (A1 ++ B1) (A2 ++ B2) p1 s1 (.refl _) (sAB2 (.inr (Z4 fun h => of_decide_eq_false u2 (Int.ofNat_lt.2 h))))
                exact ⟨rfl, _, rfl, (A1 ++ B1) ++ (A2 ++ B2), f.1, f.2, congrArg brs (eq2 (A1 ++ B1))⟩
              · rw [ee] at u1
                have f := fin (A1 ++ B1) (A2 ++ B2) p1 s1 (.refl _) (sAB2 (.inl (Z3 fun h => of_decide_eq_false u1 (Int.ofNat_lt.2 h))))
                exact ⟨rfl, _, rfl, (A1 ++ B1) ++ (A2 ++ B2), f.1, f.2, congrArg brs (eq2 (A1 ++ B1))⟩
          · rw [ee] at t2
            have hL1 := hL1 (.inr (Z6 fun h => of_decide_eq_false t2 (Int.ofNat_lt.2 h)))
            clear sw t1 t2
            subst hL1
            refine ⟨fun l1 => ⟨fun l2 => ⟨Try.func110, ?_⟩, fun l2 => ?_⟩, fun l1 => ?_⟩
            · refine AMut.br (iL (P1 (Int.ofNat_lt.1 (of_decide_eq_true l1))) (P2 (Int.ofNat_lt.1 (of_decide_eq_true l2)))) (okI3 _ _ _) rfl Symd.br rfl fun cs' hQ => ?_
              refine Exists.elim hQ fun S1 h => ?_
              have p1 := h.1
              have s1 := h.2.1
              have hcs := h.2.2
              clear h hQ l1 l2
              subst hcs
              refine ⟨fun u1 => ⟨fun u2 => ⟨Try.func110, ?_⟩, fun u2 => ?_⟩, fun u1 => ?_⟩
              · rw [ee] at u1 u2
                refine AMut.br (iR' S1 p1 (P3 (Int.ofNat_lt.1 (of_decide_eq_true u1))) (P4 (Int.ofNat_lt.1 (of_decide_eq_true u2)))) (okI3 _ _ _) rfl Symd.br rfl fun cs' hQ => ?_
                exact Exists.elim hQ fun S2 h => ⟨rfl, _, rfl, S1 ++ S2, (fin S1 S2 p1 s1 h.1 h.2.1).1, (fin S1 S2 p1 s1 h.1 h.2.1).2, h.2.2.trans (congrArg brs (eq3 S1 S2))⟩
              · rw [ee] at u2
                have f := fin S1 (A2 ++ B2) p1 s1 (.refl _) (sAB2 (.inr (Z4 fun h => of_decide_eq_false u2 (Int.ofNat_lt.2 h))))
                exact ⟨rfl, _, rfl, S1 ++ (A2 ++ B2), f.1, f.2, congrArg brs (eq2 S1)⟩
              · rw [ee] at u1
                have f := fin S1 (A2 ++ B2) p1 s1 (.refl _) (sAB2 (.inl (Z3 fun h => of_decide_eq_false u1 (Int.ofNat_lt.2 h))))
                exact ⟨rfl, _, rfl, S1 ++ (A2 ++ B2), f.1, f.2, congrArg brs (eq2 S1)⟩
            · have p1 : (A1 ++ B1).Perm (A1 ++ B1) := .refl _
              have s1 := sAB (.inr (Z2 fun h => of_decide_eq_false l2 (Int.ofNat_lt.2 h)))
              clear l1 l2
              refine ⟨fun u1 => ⟨fun u2 => ⟨Try.func110, ?_⟩, fun u2 => ?_⟩, fun u1 => ?_⟩
              · rw [ee] at u1 u2
                refine AMut.br (iR' (A1 ++ B1) p1 (P3 (Int.ofNat_lt.1 (of_decide_eq_true u1))) (P4 (Int.ofNat_lt.1 (of_decide_eq_true u2)))) (okI3 _ _ _) rfl Symd.br rfl fun cs' hQ => ?_
                exact Exists.elim hQ fun S2 h => ⟨rfl, _, rfl, (A1 ++ B1) ++ S2, (fin (A1 ++ B1) S2 p1 s1 h.1 h.2.1).1, (fin (A1 ++ B1) S2 p1 s1 h.1 h.2.1).2, h.2.2.trans (congrArg brs (eq3 (A1 ++ B1) S2))⟩
              · rw [ee] at u2
                have f := fin (A1 ++ B1) (A2 ++ B2) p1 s1 (.refl _) (sAB2 (.inr (Z4 fun h => of_decide_eq_false u2 (Int.ofNat_lt.2 h))))
                exact ⟨rfl, _, rfl, (A1 ++ B1) ++ (A2 ++ B2), f.1, f.2, congrArg brs (eq2 (A1 ++ B1))⟩
              · rw [ee] at u1
                have f := fin (A1 ++ B1) (A2 ++ B2) p1 s1 (.refl _) (sAB2 (.inl (Z3 fun h => of_decide_eq_false u1 (Int.ofNat_lt.2 h))))
                exact ⟨rfl, _, rfl, (A1 ++ B1) ++ (A2 ++ B2), f.1, f.2, congrArg brs (eq2 (A1 ++ B1))⟩
            · have p1 : (A1 ++ B1).Perm (A1 ++ B1) := .refl _
              have s1 := sAB (.inl (Z1 fun h => of_decide_eq_false l1 (Int.ofNat_lt.2 h)))
              clear l1
              refine ⟨fun u1 => ⟨fun u2 => ⟨Try.func110, ?_⟩, fun u2 => ?_⟩, fun u1 => ?_⟩
              · rw [ee] at u1 u2
                refine AMut.br (iR' (A1 ++ B1) p1 (P3 (Int.ofNat_lt.1 (of_decide_eq_true u1))) (P4 (Int.ofNat_lt.1 (of_decide_eq_true u2)))) (okI3 _ _ _) rfl Symd.br rfl fun cs' hQ => ?_
                exact Exists.elim hQ fun S2 h => ⟨rfl, _, rfl, (A1 ++ B1) ++ S2, (fin (A1 ++ B1) S2 p1 s1 h.1 h.2.1).1, (fin (A1 ++ B1) S2 p1 s1 h.1 h.2.1).2, h.2.2.trans (congrArg brs (eq3 (A1 ++ B1) S2))⟩
              · rw [ee] at u2
                have f := fin (A1 ++ B1) (A2 ++ B2) p1 s1 (.refl _) (sAB2 (.inr (Z4 fun h => of_decide_eq_false u2 (Int.ofNat_lt.2 h))))
                exact ⟨rfl, _, rfl, (A1 ++ B1) ++ (A2 ++ B2), f.1, f.2, congrArg brs (eq2 (A1 ++ B1))⟩
              · rw [ee] at u1
                have f := fin (A1 ++ B1) (A2 ++ B2) p1 s1 (.refl _) (sAB2 (.inl (Z3 fun h => of_decide_eq_false u1 (Int.ofNat_lt.2 h))))
                exact ⟨rfl, _, rfl, (A1 ++ B1) ++ (A2 ++ B2), f.1, f.2, congrArg brs (eq2 (A1 ++ B1))⟩
          · have hL1 := hL1 (.inl (Z5 fun h => of_decide_eq_false t1 (Int.ofNat_lt.2 h)))
            clear sw t1
            subst hL1
            refine ⟨fun l1 => ⟨fun l2 => ⟨Try.func110, ?_⟩, fun l2 => ?_⟩, fun l1 => ?_⟩
            · refine AMut.br (iL (P1 (Int.ofNat_lt.1 (of_decide_eq_true l1))) (P2 (Int.ofNat_lt.1 (of_decide_eq_true l2)))) (okI3 _ _ _) rfl Symd.br rfl fun cs' hQ => ?_
              refine Exists.elim hQ fun S1 h => ?_
              have p1 := h.1
              have s1 := h.2.1
              have hcs := h.2.2
              clear h hQ l1 l2
              subst hcs
              refine ⟨fun u1 => ⟨fun u2 => ⟨Try.func110, ?_⟩, fun u2 => ?_⟩, fun u1 => ?_⟩
              · rw [ee] at u1 u2
                refine AMut.br (iR' S1 p1 (P3 (Int.ofNat_lt.1 (of_decide_eq_true u1))) (P4 (Int.ofNat_lt.1 (of_decide_eq_true u2)))) (okI3 _ _ _) rfl Symd.br rfl fun cs' hQ => ?_
                exact Exists.elim hQ fun S2 h => ⟨rfl, _, rfl, S1 ++ S2, (fin S1 S2 p1 s1 h.1 h.2.1).1, (fin S1 S2 p1 s1 h.1 h.2.1).2, h.2.2.trans (congrArg brs (eq3 S1 S2))⟩
              · rw [ee] at u2
                have f := fin S1 (A2 ++ B2) p1 s1 (.refl _) (sAB2 (.inr (Z4 fun h => of_decide_eq_false u2 (Int.ofNat_lt.2 h))))
                exact ⟨rfl, _, rfl, S1 ++ (A2 ++ B2), f.1, f.2, congrArg brs (eq2 S1)⟩
              · rw [ee] at u1
                have f := fin S1 (A2 ++ B2) p1 s1 (.refl _) (sAB2 (.inl (Z3 fun h => of_decide_eq_false u1 (Int.ofNat_lt.2 h))))
                exact ⟨rfl, _, rfl, S1 ++ (A2 ++ B2), f.1, f.2, congrArg brs (eq2 S1)⟩
            · have p1 : (A1 ++ B1).Perm (A1 ++ B1) := .refl _
              have s1 := sAB (.inr (Z2 fun h => of_decide_eq_false l2 (Int.ofNat_lt.2 h)))
              clear l1 l2
              refine ⟨fun u1 => ⟨fun u2 => ⟨Try.func110, ?_⟩, fun u2 => ?_⟩, fun u1 => ?_⟩
              · rw [ee] at u1 u2
                refine AMut.br (iR' (A1 ++ B1) p1 (P3 (Int.ofNat_lt.1 (of_decide_eq_true u1))) (P4 (Int.ofNat_lt.1 (of_decide_eq_true u2)))) (okI3 _ _ _) rfl Symd.br rfl fun cs' hQ => ?_
                exact Exists.elim hQ fun S2 h => ⟨rfl, _, rfl, (A1 ++ B1) ++ S2, (fin (A1 ++ B1) S2 p1 s1 h.1 h.2.1).1, (fin (A1 ++ B1) S2 p1 s1 h.1 h.2.1).2, h.2.2.trans (congrArg brs (eq3 (A1 ++ B1) S2))⟩
              · rw [ee] at u2
                have f := fin (A1 ++ B1) (A2 ++ B2) p1 s1 (.refl _) (sAB2 (.inr (Z4 fun h => of_decide_eq_false u2 (Int.ofNat_lt.2 h))))
                exact ⟨rfl, _, rfl, (A1 ++ B1) ++ (A2 ++ B2), f.1, f.2, congrArg brs (eq2 (A1 ++ B1))⟩
              · rw [ee] at u1
                have f := fin (A1 ++ B1) (A2 ++ B2) p1 s1 (.refl _) (sAB2 (.inl (Z3 fun h => of_decide_eq_false u1 (Int.ofNat_lt.2 h))))
                exact ⟨rfl, _, rfl, (A1 ++ B1) ++ (A2 ++ B2), f.1, f.2, congrArg brs (eq2 (A1 ++ B1))⟩
            · have p1 : (A1 ++ B1).Perm (A1 ++ B1) := .refl _
              have s1 := sAB (.inl (Z1 fun h => of_decide_eq_false l1 (Int.ofNat_lt.2 h)))
              clear l1
              refine ⟨fun u1 => ⟨fun u2 => ⟨Try.func110, ?_⟩, fun u2 => ?_⟩, fun u1 => ?_⟩
              · rw [ee] at u1 u2
                refine AMut.br (iR' (A1 ++ B1) p1 (P3 (Int.ofNat_lt.1 (of_decide_eq_true u1))) (P4 (Int.ofNat_lt.1 (of_decide_eq_true u2)))) (okI3 _ _ _) rfl Symd.br rfl fun cs' hQ => ?_
                exact Exists.elim hQ fun S2 h => ⟨rfl, _, rfl, (A1 ++ B1) ++ S2, (fin (A1 ++ B1) S2 p1 s1 h.1 h.2.1).1, (fin (A1 ++ B1) S2 p1 s1 h.1 h.2.1).2, h.2.2.trans (congrArg brs (eq3 (A1 ++ B1) S2))⟩
              · rw [ee] at u2
                have f := fin (A1 ++ B1) (A2 ++ B2) p1 s1 (.refl _) (sAB2 (.inr (Z4 fun h => of_decide_eq_false u2 (Int.ofNat_lt.2 h))))
                exact ⟨rfl, _, rfl, (A1 ++ B1) ++ (A2 ++ B2), f.1, f.2, congrArg brs (eq2 (A1 ++ B1))⟩
              · rw [ee] at u1
                have f := fin (A1 ++ B1) (A2 ++ B2) p1 s1 (.refl _) (sAB2 (.inl (Z3 fun h => of_decide_eq_false u1 (Int.ofNat_lt.2 h))))
                exact ⟨rfl, _, rfl, (A1 ++ B1) ++ (A2 ++ B2), f.1, f.2, congrArg brs (eq2 (A1 ++ B1))⟩
end Go.Proofs.Yticiopkiikcokaa
