import Derived.Test.YtcdcgbgmpmaipaaDoorD29
namespace Go.Proofs.YtcdcgbgmpmaipaaDoor
open Go Go.Am
set_option maxRecDepth 100000
set_option maxHeartbeats 64000000
def lmL (l : Lp) : List AV := [.int .i64 l.before, .int .i64 l.after]
/-- While the least numbers are made. -/
def mSt (l : Lp) (r y : List Int) (x z : Int) (f : Nat → Int) (N k : Nat) : St :=
  ⟨[(2, .lst 1 (y.map encU)), (3, .int .u8 x), (4, .int .u8 z), (5, .vptr 0 0), (6, .vptr 1 0), (11, .bool true), (12, .int .i64 N), (13, .rsl 2 0 N 1), (14, .int .i64 (f (N - k))), (15, .int .i64 ((N : Int) - 1 - (k : Int)))],
    [(0, .cells (lmL l)), (1, .cells [encR r]), (2, .cells (fl encI (wsL f N k)))], 3⟩
theorem mSt_le {l : Lp} {r y : List Int} {x z : Int} {f : Nat → Int} {N k : Nat} {T : St} (h2 : elook T.env 2 = .lst 1 (y.map encU)) (h3 : elook T.env 3 = .int .u8 x) (h4 : elook T.env 4 = .int .u8 z) (h5 : elook T.env 5 = .vptr 0 0) (h6 : elook T.env 6 = .vptr 1 0) (h11 : elook T.env 11 = .bool true) (h12 : elook T.env 12 = .int .i64 N) (h13 : elook T.env 13 = .rsl 2 0 N 1)
    (h14 : elook T.env 14 = .int .i64 (f (N - k))) (h15 : elook T.env 15 = .int .i64 ((N : Int) - 1 - (k : Int))) (g0 : hget T.H 0 = some (.cells (lmL l))) (g1 : hget T.H 1 = some (.cells [encR r])) (g2 : hget T.H 2 = some (.cells (fl encI (wsL f N k)))) : (mSt l r y x z f N k).le T :=
  St.le.of ⟨h2, rfl, h3, rfl, h4, rfl, h5, rfl, h6, rfl, h11, rfl, h12, rfl, h13, rfl, h14, rfl, h15, rfl, trivial⟩ ⟨g0, (by decide : (0 : Nat) < 3), rfl, g1, (by decide : (1 : Nat) < 3), rfl, g2, (by decide : (2 : Nat) < 3), fl_ok (fun _ => rfl) _, trivial⟩
/-- While the seconds are gone through. -/
def wSt (l : Lp) (r y : List Int) (f : Nat → Int) (N a b : Nat) (now lo hi all : Int) (k : Nat) (Z : List (Nat × AV)) (G : List (Nat × AObj)) (M : Nat) : St :=
  ⟨(2, .lst 1 (y.map encU)) :: (5, .vptr 0 0) :: (6, .vptr 1 0) :: (11, .bool true) :: (13, .rsl 2 0 N 1) :: (16, .fn (.func 38) [] [.vptr 1 0]) :: (17, .int .i64 a) :: (18, .int .i64 b) :: (19, .int .i64 now) :: (20, .vptr 15 0) :: (21, .int .i64 all) :: (85, .int .i64 N) :: (86, .int .i64 k) :: Z,
    (0, .cells (lmL l)) :: (1, .cells [encR r]) :: (2, .cells (fl encI (wsL f N N))) :: (15, .cells [.int .i64 lo, .int .i64 hi]) :: G, M⟩
theorem wSt_le {l : Lp} {r y : List Int} {f : Nat → Int} {N a b : Nat} {now lo hi all : Int} {k : Nat} {Z : List (Nat × AV)} {G : List (Nat × AObj)} {M : Nat} (hM : M = 16 ∨ M = 19) {T : St} (h2 : elook T.env 2 = .lst 1 (y.map encU)) (h5 : elook T.env 5 = .vptr 0 0) (h6 : elook T.env 6 = .vptr 1 0) (h11 : elook T.env 11 = .bool true) (h13 : elook T.env 13 = .rsl 2 0 N 1)
    (h16 : elook T.env 16 = .fn (.func 38) [] [.vptr 1 0]) (h17 : elook T.env 17 = .int .i64 a) (h18 : elook T.env 18 = .int .i64 b) (h19 : elook T.env 19 = .int .i64 now) (h20 : elook T.env 20 = .vptr 15 0) (h21 : elook T.env 21 = .int .i64 all) (h85 : elook T.env 85 = .int .i64 N) (h86 : elook T.env 86 = .int .i64 k) (hZ : leE T.env M Z)
    (g0 : hget T.H 0 = some (.cells (lmL l))) (g1 : hget T.H 1 = some (.cells [encR r])) (g2 : hget T.H 2 = some (.cells (fl encI (wsL f N N)))) (g3 : hget T.H 15 = some (.cells [.int .i64 lo, .int .i64 hi])) (hG : leH T.H M G) : (wSt l r y f N a b now lo hi all k Z G M).le T :=
  hM.elim (fun e => by
      subst e
      exact St.le.of ⟨h2, rfl, h5, rfl, h6, rfl, h11, rfl, h13, rfl, h16, rfl, h17, rfl, h18, rfl, h19, rfl, h20, rfl, h21, rfl, h85, rfl, h86, rfl, hZ⟩ ⟨g0, (by decide : (0 : Nat) < 16), rfl, g1, (by decide : (1 : Nat) < 16), rfl, g2, (by decide : (2 : Nat) < 16), fl_ok (fun _ => rfl) _, g3, (by decide : (15 : Nat) < 16), rfl, hG⟩)
    fun e => by
      subst e
      exact St.le.of ⟨h2, rfl, h5, rfl, h6, rfl, h11, rfl, h13, rfl, h16, rfl, h17, rfl, h18, rfl, h19, rfl, h20, rfl, h21, rfl, h85, rfl, h86, rfl, hZ⟩ ⟨g0, (by decide : (0 : Nat) < 19), rfl, g1, (by decide : (1 : Nat) < 19), rfl, g2, (by decide : (2 : Nat) < 19), fl_ok (fun _ => rfl) _, g3, (by decide : (15 : Nat) < 19), rfl, hG⟩
theorem sumF_leL {f g : Nat → Int} {a : Nat} : ∀ {n : Nat}, (∀ i, a ≤ i → i < a + n → f i ≤ g i) → sumF f a n ≤ sumF g a n
  | 0, _ => Int.le_refl _
  | n + 1, h => by
    have ih := sumF_leL (n := n) fun i h1 h2 => h i h1 (by omega)
    have := h (a + n) (by omega) (by omega)
    show sumF f a n + f (a + n) ≤ sumF g a n + g (a + n)
    omega
theorem law_fouled (l : Lp) (r y : List Int) (hy : ∀ x ∈ y, 0 ≤ x ∧ x < 4294967296) (x : Int) (x1 : 0 ≤ x) (x2 : x ≤ 255) (z : Int) (z1 : 0 ≤ z) (z2 : z ≤ 255) :
    APure Tryd.prog 10 [encLp l, encR r, .lst 1 (y.map encU), .int .u8 x, .int .u8 z] (.bool true) := by
  have sA := alive_spec
  have sG := Great_spec r
  by_cases hg : r.length > 150
  · rw [decide_eq_true hg] at sG
    exact APure.vc Tryd.func10 rfl (.call (.bool true) <| .call (.bool true) .nil) rfl rfl (kmp (by kernel_rfl) <| And.intro sA <| And.intro sG <| And.intro trivial rTrue)
  rw [decide_eq_false hg] at sG
  have sL := Lights_spec l r
  by_cases h0 : lightsI l r = 0
  · rw [h0] at sL
    have ho := lightsI_ok.1 h0
    have hN : r.length ≤ 120 := ho.r.len
    obtain ⟨n1, x', x1', _, x2'⟩ := modN x1 x2 hN
    obtain ⟨_, z', z1', _, z2'⟩ := modN z1 z2 hN
    obtain ⟨a, ea⟩ : ∃ a : Nat, a = min x' z' := ⟨_, rfl⟩
    obtain ⟨b, eb⟩ : ∃ b : Nat, b = max x' z' := ⟨_, rfl⟩
    obtain ⟨N, eN⟩ : ∃ N : Nat, N = r.length := ⟨_, rfl⟩
    have v44 : some (⟨.int .i64 ((r.map encI).length : Nat), []⟩ : Out) = some ⟨.int .i64 (N : Nat), []⟩ := by rw [List.length_map, eN]
    rw [← eN] at n1 x1' x2' z1' z2' hN
    have hab : a ≤ b ∧ b ≤ N := by omega
    have v17 : some (⟨.int .i64 ((IntKind.i64.wrap x).tmod (IntKind.i64.wrap ((N : Int) + 1))), []⟩ : Out) = some ⟨.int .i64 x', []⟩ := by rw [x2']
    have v18 : some (⟨.int .i64 ((IntKind.i64.wrap z).tmod (IntKind.i64.wrap ((N : Int) + 1))), []⟩ : Out) = some ⟨.int .i64 z', []⟩ := by rw [z2']
    have v78 : some (⟨.int .i64 (if (z' : Int) < (x' : Int) then (z' : Int) else (x' : Int)), []⟩ : Out) = some ⟨.int .i64 a, []⟩ := by rw [ifmin]; congr 2; congr 1; omega
    have v81 : some (⟨.int .i64 (if (z' : Int) > (x' : Int) then (z' : Int) else (x' : Int)), []⟩ : Out) = some ⟨.int .i64 b, []⟩ := by rw [ifmax]; congr 2; congr 1; omega
    have v46 := mkI (f := cleanV l r) (id := 2) (n := N) (by omega)
    have sC : ∀ k : Nat, k < N → APure Tryd.prog 30 [encLp l, encR r, .int .i64 k] (encE ((cleanV l r k, l.before), 0)) := fun k hk => by
      have := Clean_spec l r k
      rwa [show cleanI l r k = ((cleanV l r k, l.before), 0) by simp only [cleanI, inSecI, h0, if_true, if_pos (show 0 ≤ (k : Int) ∧ (k : Int) < r.length by omega), Int.toNat_natCast]] at this
    have sD : ∀ k : Nat, k < N → APure Tryd.prog 27 [encLp l, encR r, .int .i64 k] (encE ((darkV (rd r k) (cleanV l r k), darkV (rd r k) l.before), 0)) := fun k hk => by
      have := Dark_spec l r k
      rwa [show darkI l r k = ((darkV (rd r k) (cleanV l r k), darkV (rd r k) l.before), 0) by simp only [darkI, inSecI, darkS, h0, if_true, if_pos (show 0 ≤ (k : Int) ∧ (k : Int) < r.length by omega), Int.toNat_natCast]] at this
    have sS : APure Tryd.prog 29 [encLp l, encR r, .int .i64 a, .int .i64 b] (encE ((sumF (fun i => darkV (rd r i) (cleanV l r i)) a (b - a), sumF (fun i => darkV (rd r i) l.before) a (b - a)), 0)) := by
      have := Smoke_spec l r a b
      rwa [show smokeI l r a b = ((sumF (fun i => darkV (rd r i) (cleanV l r i)) a (b - a), sumF (fun i => darkV (rd r i) l.before) a (b - a)), 0) by simp only [smokeI, smokeS, darkS, h0, if_true, if_pos (show 0 ≤ (a : Int) ∧ (a : Int) ≤ b ∧ (b : Int) ≤ r.length by omega), Int.toNat_natCast, show ((b : Int) - (a : Int)).toNat = b - a by omega]] at this
    have gr : ∀ k, k < N → r[k]? = some (rd r k) := fun k hk => rd_get (by omega)
    have rr : ∀ k, 0 ≤ rd r k ∧ rd r k ≤ l.before := fun k => rd_rng ho.r (by have := ho.b; omega) k
    have cr := fun k => clean_rng ho k
    have cg : ∀ k, k < N → rd r k ≤ cleanV l r k := fun k hk => clean_ge (by omega)
    have cb : ∀ k, k < N → max (cleanV l r (k + 1)) (rd r k) = cleanV l r k := fun k hk => cleanV_back l r (by omega)
    have ce : cleanV l r N = l.after := by rw [eN]; exact cleanV_end l r
    have nr : ∀ k, k < N → (cleanV l r k ≤ nwV l r y k ∧ nwV l r y k ≤ l.before) ∧ cleanV l r k ≤ nwV l r y (k + 1) ∧ nwV l r y (k + 1) ≤ nwV l r y k := fun k hk => nwV_rng ho hy k (by omega)
    have np : ∀ k, nwV l r y (k + 1) = pk (cleanV l r k) (nwV l r y k) (chs y k) := fun _ => rfl
    have sF : ∀ k : Nat, k < N → ∀ c, cleanV l r k ≤ c → c ≤ l.before → APure Tryd.prog 38 [.int .i64 k, .int .i64 c, .cptr [encR r]] (.int .i64 (darkV (rd r k) c)) := fun k hk c h1 h2 =>
      fdark_spec r k c (rr k).1 (by have := cr k; omega) (by have := cg k hk; omega) (by have := ho.b; omega) (by omega)
    have dr : ∀ k, k < N → ∀ c, cleanV l r k ≤ c → 0 ≤ darkV (rd r k) c ∧ darkV (rd r k) c ≤ 1000 := fun k hk c h1 => darkV_rng (rr k).1 (by have := cr k; omega) (by have := cg k hk; omega)
    have dm : ∀ k, k < N → ∀ c d, cleanV l r k ≤ c → c ≤ d → darkV (rd r k) c ≤ darkV (rd r k) d := fun k hk c d h1 h2 => darkV_mono (rr k).1 (by have := cr k; omega) h2
    have hb := ho.b
    have n0 : nwV l r y 0 = l.before := rfl
    obtain ⟨d1, e1⟩ : ∃ d1 : Nat → Int, d1 = fun i => darkV (rd r i) (cleanV l r i) := ⟨_, rfl⟩
    obtain ⟨d2, e2⟩ : ∃ d2 : Nat → Int, d2 = fun i => darkV (rd r i) l.before := ⟨_, rfl⟩
    obtain ⟨dn, e3⟩ : ∃ dn : Nat → Int, dn = fun i => darkV (rd r i) (nwV l r y (i + 1)) := ⟨_, rfl⟩
    have d1k : ∀ k, d1 k = darkV (rd r k) (cleanV l r k) := fun k => by rw [e1]
    have d2k : ∀ k, d2 k = darkV (rd r k) l.before := fun k => by rw [e2]
    have dnk : ∀ k, dn k = darkV (rd r k) (nwV l r y (k + 1)) := fun k => by rw [e3]
    have sF1 := fun k hk => sF k hk (cleanV l r k) (Int.le_refl _) (cr k).2.2
    have sF2 := fun k hk => sF k hk l.before (cr k).2.2 (Int.le_refl _)
    have sF3 := fun k hk => sF k hk (nwV l r y (k + 1)) (nr k hk).2.1 (by have := nr k hk; omega)
    have dd : ∀ k, k < N → 0 ≤ d1 k ∧ d1 k ≤ dn k ∧ dn k ≤ d2 k ∧ d2 k ≤ 1000 := fun k hk => by
      have h1 := dr k hk (cleanV l r k) (Int.le_refl _)
      have h2 := dr k hk l.before (cr k).2.2
      have h3 := dm k hk (cleanV l r k) (nwV l r y (k + 1)) (Int.le_refl _) (nr k hk).2.1
      have h4 := dm k hk (nwV l r y (k + 1)) l.before (nr k hk).2.1 (by have := nr k hk; omega)
      rw [d1k, d2k, dnk]; omega
    simp only [← d1k, ← d2k, ← dnk] at sF1 sF2 sF3 sD
    rw [← e1, ← e2] at sS
    have wr : ∀ d : Nat → Int, (∀ i, i < N → 0 ≤ d i ∧ d i ≤ 1000) → ∀ k, k ≤ N → 0 ≤ sumW d a b k ∧ sumW d a b k ≤ 120000 := fun d hd k hk => by
      have := sumF_rngL (f := d) (B := 1000) (a := a) (n := min k b - a) fun i h1 h2 => hd i (by omega)
      unfold sumW
      omega
    have w1 := wr d1 fun i hi => by have := dd i hi; omega
    have w2 := wr d2 fun i hi => by have := dd i hi; omega
    have wn := wr dn fun i hi => by have := dd i hi; omega
    have wl : sumF d1 a (b - a) ≤ sumF dn a (b - a) ∧ sumF dn a (b - a) ≤ sumF d2 a (b - a) := ⟨sumF_leL fun i h1 h2 => by have := dd i (by omega); omega, sumF_leL fun i h1 h2 => by have := dd i (by omega); omega⟩
    clear e1 e2 e3 d1k d2k dnk sF dr dm wr
    clear h0 eN ea eb ho
    generalize cleanV l r = f at *
    generalize nwV l r y = w at *
    refine APure.vc Tryd.func10 rfl (.call (.bool true) <| .call (.bool false) <| .call (.int .i64 0) <| .val 44 (.int .i64 N) [] <| .val 46 (.rsl 2 0 N 1) [(2, some (.cells (fl encI (wsL f N 0))))] .loop) rfl rfl
      ⟨sA, sG, sL, v44, Eq.trans (by kernel_rfl) v46, ?_⟩
    intro g hn hl
    replace hn : g.n = 233 := hn
    replace hl : g.low 0 := hl
    have hl3 : g.low 3 := hl.mono (Nat.zero_le _)
    have hl16 : g.low 16 := hl.mono (Nat.zero_le _)
    refine acode_while (fun k : Nat => mSt l r y x z f N k) (fun k => k ≤ N) (fun k => N - k) 0 (Nat.zero_le _) ?_ (fun _ _ => hl3) ?_
    · have e14 : AV.int .i64 l.after = .int .i64 (f (N - 0)) := by rw [Nat.sub_zero, ce]
      have e15 : AV.int .i64 (IntKind.i64.wrap ((N : Int) - 1)) = .int .i64 ((N : Int) - 1 - ((0 : Nat) : Int)) := by rw [wrap64 (by omega) (by omega)]; simp
      exact mSt_le rfl rfl rfl rfl rfl rfl rfl rfl e14 e15 rfl rfl rfl
    · intro k hk
      by_cases hlt : k < N
      · obtain ⟨i, ei⟩ : ∃ i, i = N - 1 - k := ⟨_, rfl⟩
        have ii : (N : Int) - 1 - (k : Int) = (i : Int) := by omega
        have hiN : i < N := by omega
        have e1 : N - k = i + 1 := by omega
        have e2 : N - (k + 1) = i := by omega
        have d52 : decide ((N : Int) - 1 - (k : Int) ≥ 0) = true := decide_eq_true (by omega)
        have ix := idxW (enc := encI) (n := (N : Int) - 1 - (k : Int)) ii (gr i hiN)
        have v60 : some (⟨.int .i64 (if rd r i > f (N - k) then rd r i else f (N - k)), []⟩ : Out) = some ⟨.int .i64 (f (N - (k + 1))), []⟩ := by rw [ifmax, e1, e2, cb i hiN]
        have v64 := ixI (h := hget []) (id := 2) (n := N) ii hiN
        have vst := stI (h := hget [(2, .cells (fl encI (wsL f N k)))]) (id := 2) (k := i) (l := wsL f N k) (x := f (N - (k + 1))) rfl (by rw [wsL_len]; exact hiN)
        rw [show (wsL f N k).set i (f (N - (k + 1))) = wsL f N (k + 1) by rw [e2, ei]; exact wsL_step f hlt] at vst
        have e54 : AV.int .i64 (IntKind.i64.wrap ((N : Int) - 1 - (k : Int) - 1)) = .int .i64 ((N : Int) - 1 - ((k + 1 : Nat) : Int)) := by rw [wrap64 (by omega) (by omega)]; congr 1; omega
        exact ACode.vc (.br 52 true <| .cells (encI (rd r i)) <| .val 60 (.int .i64 (f (N - (k + 1)))) [] <| .val 64 (.vptr 2 (0 + i * 1)) [] <| .val 1 .undef [(2, some (.cells (fl encI (wsL f N (k + 1)))))] .nil) hn hl (.round .cl)
          ⟨d52, ix, v60, Eq.trans (by kernel_rfl) v64, Eq.trans (by kernel_rfl) vst, k + 1, hlt, mu1 hlt, mSt_le rfl rfl rfl rfl rfl rfl rfl rfl rfl e54 rfl rfl rfl⟩
      · have hk' : N = k := by omega
        subst hk'
        have d52 : decide ((N : Int) - 1 - (N : Int) ≥ 0) = false := decide_eq_false (by omega)
        refine ACode.vc (.br 52 false .nil) hn hl (.round .cl) ⟨d52, _, .refl _, .draw 11 <| .nz <| .nz <| .val 17 (.int .i64 x') [] <| .val 18 (.int .i64 z') [] <| .val 78 (.int .i64 a) [] <| .val 81 (.int .i64 b) [] .loop,
          by kernel_rfl, mixed, by kernel_rfl, n1, n1, v17, by kernel_rfl, v18, v78, v81, ?_⟩
        clear v17 v18 v78 v81 v44 v46 n1 sA sG sL cb
        intro g hn hl
        replace hn : g.n = 233 := hn
        replace hl : g.low 0 := hl
        have hl16 : g.low 16 := hl.mono (Nat.zero_le _)
        have eA : AV.int .i64 l.before = .int .i64 (w 0) := by rw [n0]
        have eS1 : some (AObj.cells [.int .i64 0, .int .i64 0]) = some (.cells [.int .i64 (sumW d1 a b 0), .int .i64 (sumW d2 a b 0)]) := by rw [sumW_zero, sumW_zero]
        have eS3 : AV.int .i64 0 = .int .i64 (sumW dn a b 0) := by rw [sumW_zero]
        refine acode_while (fun k : Nat => wSt l r y f N a b (w k) (sumW d1 a b k) (sumW d2 a b k) (sumW dn a b k) k [] [] 16) (fun k => k ≤ N) (fun k => N - k) 0 (Nat.zero_le _) ?_ (fun _ _ => hl16) ?_
        · exact wSt_le (.inl rfl) rfl rfl rfl rfl rfl rfl rfl rfl eA rfl eS3 rfl rfl trivial rfl rfl rfl eS1 trivial
        · intro k hk
          by_cases hlt : k < N
          · have d87 : decide ((k : Int) < (N : Int)) = true := decide_eq_true (by omega)
            have v91 := ixI (h := hget []) (id := 2) (n := N) (i := (k : Int)) rfl hlt
            have v92 := ldI (h := hget [(2, .cells (fl encI (wsL f N N)))]) (id := 2) (l := wsL f N N) rfl (wsL_end f N hlt)
            have hnr := nr k hlt
            have hcr := cr k
            have hdd := dd k hlt
            have s94 := span_spec (f k) (w k)
            have sc := choose_spec y hy k
            have sp := pick_spec (f k) (w k) (chs y k) (chs_rng hy k).1 (by omega) hnr.1.1 (by omega)
            rw [← np k] at sp
            have s103 := sC k hlt
            have s110 := sD k hlt
            have s127 := span_spec (f k) l.before
            have q128 : ((aeqT Tryd.prog 6 23 (.agg [.int .i64 (f k), .int .i64 l.before]) (.agg [.int .i64 (f k), .int .i64 l.before])).map fun b => AV.bool !b).map (fun v => (⟨v, []⟩ : Out)) = some ⟨.bool false, []⟩ := (neS _ _ _ _).trans (by simp)
            have d136 : decide (w (k + 1) < f k) = false := decide_eq_false (by omega)
            have d142 : decide (w (k + 1) > l.before) = false := decide_eq_false (by omega)
            have t1 := sF1 k hlt
            have t2 := sF2 k hlt
            have t3 := sF3 k hlt
            have s156 := span_spec (d1 k) (d2 k)
            have q157 : ((aeqT Tryd.prog 6 23 (.agg [.int .i64 (d1 k), .int .i64 (d2 k)]) (.agg [.int .i64 (d1 k), .int .i64 (d2 k)])).map fun b => AV.bool !b).map (fun v => (⟨v, []⟩ : Out)) = some ⟨.bool false, []⟩ := (neS _ _ _ _).trans (by simp)
            have d168 : decide (dn k < d1 k) = false := decide_eq_false (by omega)
            have d176 : decide (dn k > d2 k) = false := decide_eq_false (by omega)
            refine ACode.cut 1 (fun _ : Unit => wSt l r y f N a b (w k) (sumW d1 a b k) (sumW d2 a b k) (sumW dn a b k) k [] [] 16) (fun _ => True) (.br 87 true .nil) hn hl (.round .cl) rfl ⟨d87, (), trivial, Wk.le (wSt_le (.inl rfl) rfl rfl rfl rfl rfl rfl rfl rfl rfl rfl rfl rfl rfl trivial rfl rfl rfl rfl trivial) hl16⟩ fun _ _ => ?_
            refine acode_mid (fun _ : Unit => wSt l r y f N a b (w (k + 1)) (sumW d1 a b (k + 1)) (sumW d2 a b (k + 1)) (sumW dn a b (k + 1)) k [] [] 16) (fun _ => True) (acode_block ?_) fun _ _ => ?_
            · refine ACode.cut 3 (fun _ : Unit => wSt l r y f N a b (w (k + 1)) (sumW d1 a b k) (sumW d2 a b k) (sumW dn a b k) k [(22, .int .i64 k), (23, .vptr 16 0), (24, .int .i64 0), (25, .vptr 18 0), (26, .int .i64 0)] [(16, .cells [.int .i64 (f k), .int .i64 l.before]), (18, .cells [.int .i64 (d1 k), .int .i64 (d2 k)])] 19) (fun _ => True)
                (.val 91 (.vptr 2 (0 + k * 1)) [] <| .val 92 (.int .i64 (f k)) [] <| .call (encS (f k, w k)) <| .call (.int .i64 (chs y k)) <| .call (.int .i64 (w (k + 1))) <| .call (encE ((f k, l.before), 0)) <| .call (encE ((d1 k, d2 k), 0)) .nil) hn hl (.inBlock (.mid (.round .cl))) rfl
                ⟨Eq.trans (by kernel_rfl) v91, Eq.trans (by kernel_rfl) v92, s94, sc, sp, s103, s110, (), trivial, Wk.le (wSt_le (.inr rfl) rfl rfl rfl rfl rfl rfl rfl rfl rfl rfl rfl rfl rfl ⟨rfl, rfl, rfl, rfl, rfl, rfl, rfl, rfl, rfl, rfl, trivial⟩ rfl rfl rfl rfl ⟨rfl, (by decide : (16 : Nat) < 19), rfl, rfl, (by decide : (18 : Nat) < 19), rfl, trivial⟩) (hl.mono (Nat.zero_le _))⟩ fun _ _ => ?_
              refine ACode.cut 0 (fun _ : Unit => wSt l r y f N a b (w (k + 1)) (sumW d1 a b k) (sumW d2 a b k) (sumW dn a b k) k [(22, .int .i64 k), (25, .vptr 18 0)] [(18, .cells [.int .i64 (d1 k), .int .i64 (d2 k)])] 19) (fun _ => True)
                (.draw 62 <| .val 123 (.vptr 2 (0 + k * 1)) [] <| .val 124 (.int .i64 (f k)) [] <| .call (encS (f k, l.before)) <| .val 128 (.bool false) [] <| .br 136 false <| .br 142 false <| .val 148 (.vptr 2 (0 + k * 1)) [] <| .val 149 (.int .i64 (f k)) [] <|
                  .lent (.int .i64 (d1 k)) [1] <| .lent (.int .i64 (d2 k)) [1] <| .call (encS (d1 k, d2 k)) <| .val 157 (.bool false) [] <| .lent (.int .i64 (dn k)) [1] <| .br 168 false <| .lent (.int .i64 (dn k)) [1] <| .br 176 false .nil) hn hl (.inBlock (.mid (.round .cl))) rfl
                ⟨by kernel_rfl, mixed, by kernel_rfl, Eq.trans (by kernel_rfl) v91, Eq.trans (by kernel_rfl) v92, s127, Eq.trans (by kernel_rfl) q128, d136, d142, Eq.trans (by kernel_rfl) v91, Eq.trans (by kernel_rfl) v92,
                  ⟨_, thawV rfl, .inl ⟨t1, .inr rfl⟩⟩, ⟨_, thawV rfl, .inl ⟨t2, .inr rfl⟩⟩, s156, Eq.trans (by kernel_rfl) q157, ⟨_, thawV rfl, .inl ⟨t3, .inr rfl⟩⟩, d168, ⟨_, thawV rfl, .inl ⟨t3, .inr rfl⟩⟩, by kernel_rfl, d176, (), trivial, Wk.le (wSt_le (.inr rfl) rfl rfl rfl rfl rfl rfl rfl rfl rfl rfl rfl rfl rfl ⟨rfl, rfl, rfl, rfl, trivial⟩ rfl rfl rfl rfl ⟨rfl, (by decide : (18 : Nat) < 19), rfl, trivial⟩) (hl.mono (Nat.zero_le _))⟩ fun _ _ => ?_
              by_cases ha : a ≤ k
              · have d180 : decide ((k : Int) ≥ (a : Int)) = true := decide_eq_true (by omega)
                by_cases hb' : k < b
                · have d184 : decide ((k : Int) < (b : Int)) = true := decide_eq_true (by omega)
                  have r1 := w1 k hk
                  have r2 := w2 k hk
                  have r3 := wn k hk
                  have i1 := sumW_in d1 ha hb'
                  have i2 := sumW_in d2 ha hb'
                  have i3 := sumW_in dn ha hb'
                  have u1 : IntKind.i64.wrap (sumW d1 a b k + d1 k) = sumW d1 a b (k + 1) := by rw [i1, wrap64 (by omega) (by omega)]
                  have u2 : IntKind.i64.wrap (sumW d2 a b k + d2 k) = sumW d2 a b (k + 1) := by rw [i2, wrap64 (by omega) (by omega)]
                  have u3 : AV.int .i64 (IntKind.i64.wrap (sumW dn a b k + dn k)) = .int .i64 (sumW dn a b (k + 1)) := by rw [i3, wrap64 (by omega) (by omega)]
                  have s195 := span_spec (IntKind.i64.wrap (sumW d1 a b k + d1 k)) (IntKind.i64.wrap (sumW d2 a b k + d2 k))
                  have e15 : some (AObj.cells [.int .i64 (IntKind.i64.wrap (sumW d1 a b k + d1 k)), .int .i64 (IntKind.i64.wrap (sumW d2 a b k + d2 k))]) = some (.cells [.int .i64 (sumW d1 a b (k + 1)), .int .i64 (sumW d2 a b (k + 1))]) := by rw [u1, u2]
                  exact ACode.vc (.br 180 true <| .br 184 true <| .call (encS (IntKind.i64.wrap (sumW d1 a b k + d1 k), IntKind.i64.wrap (sumW d2 a b k + d2 k))) <| .lent (.int .i64 (dn k)) [1] .nil) hn hl (.inBlock (.mid (.round .cl)))
                    ⟨d180, d184, s195, ⟨_, thawV rfl, .inl ⟨t3, .inr rfl⟩⟩, (), trivial, Wk.le (wSt_le (.inl rfl) rfl rfl rfl rfl rfl rfl rfl rfl rfl rfl u3 rfl rfl trivial rfl rfl rfl e15 trivial) hl16⟩
                · have d184 : decide ((k : Int) < (b : Int)) = false := decide_eq_false (by omega)
                  have i1 := sumW_out d1 (a := a) (b := b) (k := k) (.inr (by omega))
                  have i2 := sumW_out d2 (a := a) (b := b) (k := k) (.inr (by omega))
                  have i3 := sumW_out dn (a := a) (b := b) (k := k) (.inr (by omega))
                  have u3 : AV.int .i64 (sumW dn a b k) = .int .i64 (sumW dn a b (k + 1)) := by rw [i3]
                  have e15 : some (AObj.cells [.int .i64 (sumW d1 a b k), .int .i64 (sumW d2 a b k)]) = some (.cells [.int .i64 (sumW d1 a b (k + 1)), .int .i64 (sumW d2 a b (k + 1))]) := by rw [i1, i2]
                  exact ACode.vc (.br 180 true <| .br 184 false .nil) hn hl (.inBlock (.mid (.round .cl))) ⟨d180, d184, (), trivial, Wk.le (wSt_le (.inl rfl) rfl rfl rfl rfl rfl rfl rfl rfl rfl rfl u3 rfl rfl trivial rfl rfl rfl e15 trivial) hl16⟩
              · have d180 : decide ((k : Int) ≥ (a : Int)) = false := decide_eq_false (by omega)
                have i1 := sumW_out d1 (a := a) (b := b) (k := k) (.inl (by omega))
                have i2 := sumW_out d2 (a := a) (b := b) (k := k) (.inl (by omega))
                have i3 := sumW_out dn (a := a) (b := b) (k := k) (.inl (by omega))
                have u3 : AV.int .i64 (sumW dn a b k) = .int .i64 (sumW dn a b (k + 1)) := by rw [i3]
                have e15 : some (AObj.cells [.int .i64 (sumW d1 a b k), .int .i64 (sumW d2 a b k)]) = some (.cells [.int .i64 (sumW d1 a b (k + 1)), .int .i64 (sumW d2 a b (k + 1))]) := by rw [i1, i2]
                exact ACode.vc (.br 180 false .nil) hn hl (.inBlock (.mid (.round .cl))) ⟨d180, (), trivial, Wk.le (wSt_le (.inl rfl) rfl rfl rfl rfl rfl rfl rfl rfl rfl rfl u3 rfl rfl trivial rfl rfl rfl e15 trivial) hl16⟩
            · have ek : AV.int .i64 (IntKind.i64.wrap ((k : Int) + 1)) = .int .i64 ((k + 1 : Nat) : Int) := congrArg (AV.int .i64) (succ64 (k := k) (by omega))
              exact ACode.vc .nil hn hl (.round .cl) ⟨k + 1, hlt, mu1 hlt, wSt_le (.inl rfl) rfl rfl rfl rfl rfl rfl rfl rfl rfl rfl rfl rfl ek trivial rfl rfl rfl rfl trivial⟩
          · have hk' : N = k := by omega
            subst hk'
            have d87 : decide ((N : Int) < (N : Int)) = false := decide_eq_false (by omega)
            have q219 : ((aeqT Tryd.prog 6 23 (.agg [.int .i64 (sumF d1 a (b - a)), .int .i64 (sumF d2 a (b - a))]) (.agg [.int .i64 (sumW d1 a b N), .int .i64 (sumW d2 a b N)])).map AV.bool).map (fun v => (⟨v, []⟩ : Out)) = some ⟨.bool true, []⟩ := (eqSs _ _ _ _).trans (by rw [sumW_end d1 hab.2, sumW_end d2 hab.2]; simp)
            have d227 : decide (sumW dn a b N ≥ sumF d1 a (b - a)) = true := decide_eq_true (by rw [sumW_end dn hab.2]; omega)
            have dE : decide (sumW dn a b N ≤ sumF d2 a (b - a)) = true := decide_eq_true (by rw [sumW_end dn hab.2]; omega)
            exact ACode.vc (.br 87 false .nil) hn hl (.round .cl) ⟨d87, _, .refl _, .call (encE ((sumF d1 a (b - a), sumF d2 a (b - a)), 0)) <| .val 219 (.bool true) [] <| .br 227 true .nil, sS, Eq.trans (by kernel_rfl) q219, d227, rB dE⟩
  · have d36 : (lightsI l r != 0) = true := by simp [h0]
    generalize lightsI l r = C at *
    exact APure.vc Tryd.func10 rfl (.call (.bool true) <| .call (.bool false) <| .call (.int .i64 C) <| .br 38 true .nil) rfl rfl (kmp (by kernel_rfl) <| And.intro sA <| And.intro sG <| And.intro sL <| And.intro d36 <| And.intro trivial rTrue)
end Go.Proofs.YtcdcgbgmpmaipaaDoor
