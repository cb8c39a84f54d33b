/-
  A BULB BURSTS BETWEEN TWO MINUTES, AND NO LATER IF IT IS WEAKER, FASTER, OR HOTTER.
-/
import Derived.Test.YtcbdggmojnnbdaaDoorX2
import Derived.Test.YtcbdggmojnnbdaaDoorY1
namespace Go.Proofs.YtcbdggmojnnbdaaDoor
open Go Go.Am
set_option maxRecDepth 100000
set_option maxHeartbeats 16000000
theorem rwithin_spec (n lo hi : Int) : APure Tryd.prog 58 [.int .i64 n, .int .i64 lo, .int .i64 hi] (.bool (inB lo hi n)) := by
  refine APure.vc Tryd.func58 rfl (.both 10 .nil .nil) rfl rfl ⟨fun h => rB ?_, fun h => rB ?_⟩
  all_goals simp at h
  all_goals simp [inB, h]
  all_goals omega
theorem spanned_spec (lo hi m : Int) : APure Tryd.prog 61 [.agg [.int .i64 lo, .int .i64 hi], .int .i64 0, .int .i64 m] (.bool (spB lo hi m)) := by
  refine APure.vc Tryd.func61 rfl (.both 11 (.both 18 .nil .nil) .nil) rfl rfl ⟨fun h => ⟨fun h2 => rB ?_, fun h2 => rB ?_⟩, fun h => rB ?_⟩
  · simp at h h2; exact decide_eq_decide.2 (by omega)
  · simp at h h2; symm; simp [spB]; omega
  · simp at h; symm; simp [spB]; omega
theorem Bulb_spec (h : Hh) : APure Tryd.prog 37 [encHh h] (.bool (bulbB h)) := by
  have s1 := rwithin_spec h.id 0 9999
  have s2 := rwithin_spec h.need 1 500
  have s3 := rwithin_spec h.least 0 100000
  have s4 := spanned_spec h.bLo h.bHi 2000
  have s5 := spanned_spec h.sLo h.sHi 10
  cases h1 : inB 0 9999 h.id
  · rw [h1] at s1
    exact APure.vc Tryd.func37 rfl (.call (.bool false) <| .nil) rfl rfl
      ⟨s1, rB (by simp [bulbB, h1])⟩
  · rw [h1] at s1
    cases h2 : inB 1 500 h.need
    · rw [h2] at s2
      exact APure.vc Tryd.func37 rfl (.call (.bool true) <| .call (.bool false) <| .nil) rfl rfl
        ⟨s1, s2, rB (by simp [bulbB, h1, h2])⟩
    · rw [h2] at s2
      cases h3 : inB 0 100000 h.least
      · rw [h3] at s3
        exact APure.vc Tryd.func37 rfl (.call (.bool true) <| .call (.bool true) <| .call (.bool false) <| .nil) rfl rfl
          ⟨s1, s2, s3, rB (by simp [bulbB, h1, h2, h3])⟩
      · rw [h3] at s3
        cases h4 : spB h.bLo h.bHi 2000
        · rw [h4] at s4
          exact APure.vc Tryd.func37 rfl (.call (.bool true) <| .call (.bool true) <| .call (.bool true) <| .call (.bool false) <| .nil) rfl rfl
            ⟨s1, s2, s3, s4, rB (by simp [bulbB, h1, h2, h3, h4])⟩
        · rw [h4] at s4
          cases h5 : spB h.sLo h.sHi 10
          · rw [h5] at s5
            exact APure.vc Tryd.func37 rfl (.call (.bool true) <| .call (.bool true) <| .call (.bool true) <| .call (.bool true) <| .call (.bool false) <| .nil) rfl rfl
              ⟨s1, s2, s3, s4, s5, rB (by simp [bulbB, h1, h2, h3, h4, h5])⟩
          · rw [h5] at s5
            exact APure.vc Tryd.func37 rfl (.call (.bool true) <| .call (.bool true) <| .call (.bool true) <| .call (.bool true) <| .call (.bool true) <| .nil) rfl rfl
              ⟨s1, s2, s3, s4, s5, rB (by simp [bulbB, h1, h2, h3, h4, h5])⟩
theorem rHeat_spec (l : List Int) (hl0 : l.length ≤ 1000000) : APure Tryd.prog 38 [encR l] (.bool (heatB l)) := by
  refine APure.vc Tryd.func38 rfl .loop rfl rfl ?_
  intro g hn hl'
  replace hn : g.n = 19 := hn
  replace hl' : g.low 0 := hl'
  refine acode_while (fun k : Nat => ⟨[(0, encR l), (3, .int .i64 k)], [], 0⟩) (fun k => k ≤ l.length ∧ (l.take k).all (inB 0 2000) = true) (fun k => l.length - k) 0 ⟨Nat.zero_le _, rfl⟩ ?_ (fun _ _ => hl') ?_
  · exact St.le.of ⟨rfl, rfl, rfl, rfl, trivial⟩ trivial
  · rintro k ⟨hk1, hk2⟩
    by_cases hlt : k < l.length
    · refine Exists.elim (getE hlt) fun x hx => ?_
      have ek := congrArg (AV.int .i64) (succ64 (k := k) (by omega))
      have s := rwithin_spec x 0 2000
      cases hb : inB 0 2000 x
      · rw [hb] at s
        have e : false = heatB l := by simp [heatB, all_bad hx hb]
        exact ACode.vc (.br 7 true <| .cells (encI x) <| .call (.bool false) .nil) hn hl' (.round .cl) ⟨ltLen hlt, idx hx, s, _, .refl _, .nil, rB e⟩
      · rw [hb] at s
        exact ACode.vc (.br 7 true <| .cells (encI x) <| .call (.bool true) .nil) hn hl' (.round .cl) ⟨ltLen hlt, idx hx, s, k + 1, ⟨hlt, by rw [take_all hx, hk2, hb]; rfl⟩, mu1 hlt,
          St.le.of ⟨rfl, rfl, ek, rfl, trivial⟩ trivial⟩
    · have hk' : k = l.length := by omega
      have e : decide (((l.map encI).length : Int) ≤ 60) = heatB l := by
        rw [hk', List.take_length] at hk2
        simp only [heatB, hk2, Bool.and_true, List.length_map]
        exact decide_eq_decide.2 (by omega)
      exact ACode.vc (.br 7 false .nil) hn hl' (.round .cl) ⟨geLen hlt, _, .refl _, .nil, rB e⟩
/-- A number of a span, by a choice. -/
def pickV (lo hi n : Int) : Int := lo + n.tmod (hi - lo + 1)
theorem tm_rng {a b : Int} (h : 0 ≤ a) (hb : 0 < b) : 0 ≤ a.tmod b ∧ a.tmod b < b := by
  rw [Int.tmod_eq_emod_of_nonneg h]
  exact ⟨Int.emod_nonneg _ (by omega), Int.emod_lt_of_pos _ hb⟩
theorem pickV_rng {lo hi n : Int} (h : lo ≤ hi) (hn : 0 ≤ n) : lo ≤ pickV lo hi n ∧ pickV lo hi n ≤ hi := by
  have := tm_rng hn (show 0 < hi - lo + 1 by omega)
  unfold pickV; omega
theorem pick_spec (lo hi n : Int) (h : 0 ≤ lo ∧ lo ≤ hi ∧ hi ≤ 10000000) (hn : 0 ≤ n ∧ n < 4294967296) : APure Tryd.prog 39 [encS (lo, hi), .int .u32 n] (.int .i64 (pickV lo hi n)) := by
  have w1 : IntKind.i64.wrap n = n := wrap64 (by omega) (by omega)
  have w2 : IntKind.i64.wrap (hi - lo) = hi - lo := wrap64 (by omega) (by omega)
  have w3 : IntKind.i64.wrap (IntKind.i64.wrap (hi - lo) + 1) = hi - lo + 1 := by rw [w2, wrap64 (by omega) (by omega)]
  have hr := pickV_rng h.2.1 hn.1
  have nz : IntKind.i64.wrap (IntKind.i64.wrap (hi - lo) + 1) ≠ 0 := by rw [w3]; omega
  have e : IntKind.i64.wrap (lo + (IntKind.i64.wrap n).tmod (IntKind.i64.wrap (IntKind.i64.wrap (hi - lo) + 1))) = pickV lo hi n := by
    rw [w1, w3]; exact wrap64 (by show _ ≤ pickV lo hi n; omega) (by show pickV lo hi n ≤ _; omega)
  exact APure.vc Tryd.func39 rfl (.draw 11 <| .nz .nil) rfl rfl ⟨by kernel_rfl, mixed, by kernel_rfl, nz, by kernel_rfl, rI e⟩
/-! ### the law -/
/-- Hotter heat. -/
def hotV (hot : List Int) (i : Nat) (d : Int) : Int := if hot.length > 0 then d + (hot.getD ((i : Int).tmod hot.length).toNat 0).tmod (2001 - d) else d
def hotL (hot l : List Int) : List Int := (List.range l.length).map fun i => hotV hot i (l.getD i 0)
theorem hotL_len (hot l : List Int) : (hotL hot l).length = l.length := by simp [hotL]
theorem hotL_get {hot l : List Int} {i : Nat} {x : Int} (hx : l[i]? = some x) : (hotL hot l)[i]? = some (hotV hot i x) := by
  have hi := (List.getElem?_eq_some_iff.1 hx).1
  have he := (List.getElem?_eq_some_iff.1 hx).2
  simp [hotL, hi, List.getD_eq_getElem?_getD, he]
theorem hotL_take {hot l : List Int} {k : Nat} {x : Int} (hx : l[k]? = some x) : (hotL hot l).take (k + 1) = (hotL hot l).take k ++ [hotV hot k x] := by
  rw [List.take_add_one, hotL_get hx]; rfl
theorem hotV_rng {hot : List Int} (hh : ∀ x ∈ hot, 0 ≤ x ∧ x < 65536) {i : Nat} {d : Int} (hd : 0 ≤ d ∧ d ≤ 2000) : d ≤ hotV hot i d ∧ hotV hot i d ≤ 2000 := by
  unfold hotV
  split
  · have h0 : 0 ≤ hot.getD ((i : Int).tmod hot.length).toNat 0 := by
      rw [List.getD_eq_getElem?_getD]
      cases hx : hot[((i : Int).tmod hot.length).toNat]? with
      | none => exact Int.le_refl _
      | some x => exact (hh x (List.mem_of_getElem? hx)).1
    have := tm_rng h0 (show 0 < 2001 - d by omega)
    omega
  · omega
theorem hotL_ok {hot l : List Int} (hh : ∀ x ∈ hot, 0 ≤ x ∧ x < 65536) (hl : HeatOk l) : HeatOk (hotL hot l) := by
  refine ⟨by rw [hotL_len]; exact hl.len, fun x hx => ?_⟩
  obtain ⟨i, hi⟩ := List.getElem?_of_mem hx
  have hil : i < l.length := by
    have := (List.getElem?_eq_some_iff.1 hi).1
    rw [hotL_len] at this; exact this
  obtain ⟨y, hy⟩ := getE hil
  rw [hotL_get hy] at hi
  cases hi
  have := hl.el y (List.mem_of_getElem? hy)
  have := hotV_rng hh (i := i) this
  omega
def cU16 (x : Int) : List AV := [.int .u16 x]
def bE (l : List Int) (hot : List Int) (f la a lt is : Int) (E : Env) : Env := (1, encR l) :: (4, .lst 1 (hot.map cU16)) :: (5, .vptr 0 0) :: (11, .bool true) :: (12, .int .i64 f) :: (13, .int .i64 la) :: (15, .int .i64 a) :: (16, .int .i64 lt) :: (17, .int .i64 is) :: E
def bSt (h : Hh) (l : List Int) (hot : List Int) (f la a lt is : Int) (E : Env) (X : AHeap) (nx : Nat) : St := ⟨bE l hot f la a lt is E, (0, .cells (cH h)) :: X, nx⟩
theorem bLe {h : Hh} {l hot : List Int} {f la a lt is : Int} {E : Env} {X : AHeap} {nx : Nat} {S : St} (h1 : elook S.env 1 = encR l) (h4 : elook S.env 4 = .lst 1 (hot.map cU16)) (h5 : elook S.env 5 = .vptr 0 0) (h11 : elook S.env 11 = .bool true) (h12 : elook S.env 12 = .int .i64 f) (h13 : elook S.env 13 = .int .i64 la)
    (h15 : elook S.env 15 = .int .i64 a) (h16 : elook S.env 16 = .int .i64 lt) (h17 : elook S.env 17 = .int .i64 is) (hE : leE S.env (nx + 1) E) (h0 : hget S.H 0 = some (.cells (cH h))) (hX : leH S.H (nx + 1) X) : (bSt h l hot f la a lt is E X (nx + 1)).le S :=
  St.le.of ⟨h1, rfl, h4, rfl, h5, decide_eq_true (Nat.succ_pos nx), h11, rfl, h12, rfl, h13, rfl, h15, rfl, h16, rfl, h17, rfl, hE⟩ ⟨h0, Nat.succ_pos nx, rfl, hX⟩
/-- The walk: all that is told is known by its name. -/
theorem bulb_walk (h : Hh) (l hot HL : List Int) (dg slow f la a lt is x y : Int) (hlen : l.length ≤ 60) (hnode : 1 ≤ h.node ∧ h.node ≤ 12)
    (sB : APure Tryd.prog 37 [encHh h] (.bool true)) (sH : APure Tryd.prog 38 [encR l] (.bool true)) (sF : APure Tryd.prog 20 [encHh h, encR l] (encB3 (f, la, 0)))
    (sP : APure Tryd.prog 39 [encS (h.bLo, h.bHi), .int .u32 (IntKind.u32.wrap dg)] (.int .i64 a)) (sQ : APure Tryd.prog 39 [encS (h.sLo, h.sHi), .int .u32 (IntKind.u32.wrap slow)] (.int .i64 lt))
    (sX : APure Tryd.prog 20 [encHh { h with bLo := a, bHi := a, sLo := lt, sHi := lt }, encR l] (encB3 (is, is, 0))) (sY : APure Tryd.prog 20 [encHh h, encR HL] (encB3 (x, y, 0)))
    (rf : 0 ≤ f ∧ f ≤ l.length) (rla : 0 ≤ la ∧ la ≤ l.length) (ris : 0 ≤ is ∧ is ≤ l.length) (rlt : 0 ≤ lt ∧ lt ≤ 10) (m1 : 0 < la → 0 < is ∧ is ≤ la) (m2 : 0 < is → 0 < f ∧ f ≤ is) (n1 : 0 < f → 0 < x ∧ x ≤ f) (n2 : 0 < la → 0 < y ∧ y ≤ la)
    (isV : ∀ (k : Nat) (x : Int), l[k]? = some x → (∀ y ∈ l.take k, decide (a ≤ y) = false) → decide (a ≤ x) = true → is = if (k : Int) + 1 + lt > l.length then 0 else (k : Int) + 1 + lt) (isZ : (∀ y ∈ l, decide (a ≤ y) = false) → is = 0)
    (hgt : ∀ k : Nat, hot.length > 0 → ∃ z, hot[((k : Int).tmod hot.length).toNat]? = some z)
    (hvv : ∀ (k : Nat) (x : Int), l[k]? = some x → hot.length > 0 → ∀ z, hot[((k : Int).tmod hot.length).toNat]? = some z → IntKind.i64.wrap (x + (IntKind.i64.wrap z).tmod (IntKind.i64.wrap (IntKind.i64.wrap (2000 - x) + 1))) = hotV hot k x ∧ IntKind.i64.wrap (IntKind.i64.wrap (2000 - x) + 1) ≠ 0)
    (hv0 : ∀ (k : Nat) (x : Int), ¬ hot.length > 0 → hotV hot k x = x) (hL0 : ∀ (k : Nat) (x : Int), l[k]? = some x → HL.take (k + 1) = HL.take k ++ [hotV hot k x]) (hLl : HL.length = l.length) :
    APure Tryd.prog 9 [encHh h, encR l, .int .u16 dg, .int .u16 slow, .lst 1 (hot.map cU16)] (.bool true) := by
  have sA := alive_spec
  have c35 : decide (h.node < 1) = false := decide_eq_false (by omega)
  have c39 : decide (h.node > 12) = false := decide_eq_false (by omega)
  have c49 : decide (((l.map encI).length : Int) > 60) = false := by simp; omega
  have c68 : decide (f < 0) = false := decide_eq_false (by omega)
  have c72 : decide (la < 0) = false := decide_eq_false (by omega)
  have c78 : decide (f > ((l.map encI).length : Int)) = false := decide_eq_false (by rw [List.length_map]; omega)
  have c84 : decide (la > ((l.map encI).length : Int)) = false := decide_eq_false (by rw [List.length_map]; omega)
  have nf : la > 0 → (f == 0) = false := fun h => by rw [beq_eq_false_iff_ne]; omega
  have nfl : la > 0 → decide (f > la) = false := fun h => decide_eq_false (by omega)
  refine APure.intro Tryd.func9 rfl rfl rfl fun g hn hl => ?_
  replace hn : g.n = 254 := hn
  replace hl : g.low 0 := hl
  have hl1 : g.low 1 := hl.mono (Nat.zero_le _)
  have hl2 : g.low 2 := hl.mono (Nat.zero_le _)
  refine ACode.cut 7 (fun _ : Unit => bSt h l hot f la a lt 0 [] [] 1) (fun _ => True) ?t1 hn hl .ret rfl ?f1 fun _ _ => ?r1
  case t1 => exact (.call (.bool true) <| .br 36 false <| .br 41 false <| .call (.bool true) <| .br 51 false <| .call (.bool true) <| .call (encB3 (f, la, 0)) <| .br 70 false <| .br 74 false <| .br 80 false <| .br 86 false <|
    .both 89 (.br 92 false <| .br 98 false <| .draw 9 <| .call (.int .i64 a) <| .call (.int .i64 lt) .nil) (.draw 9 <| .call (.int .i64 a) <| .call (.int .i64 lt) .nil))
  case f1 =>
    have L := fun {S : St} (h1 : elook S.env 1 = encR l) h4 h5 h11 h12 h13 h15 h16 h17 h0 => Wk.le (g := g) (bLe (h := h) (l := l) (hot := hot) (f := f) (la := la) (a := a) (lt := lt) (is := 0) (E := []) (X := []) (nx := 0) (S := S) h1 h4 h5 h11 h12 h13 h15 h16 h17 trivial h0 trivial) hl1
    exact ⟨sA, c35, c39, sB, c49, sH, sF, c68, c72, c78, c84,
      fun e => ⟨nf (of_decide_eq_true e), nfl (of_decide_eq_true e), by kernel_rfl, mixed, by kernel_rfl, sP, by kernel_rfl, sQ, (), trivial, L (by kernel_rfl) (by kernel_rfl) (by kernel_rfl) (by kernel_rfl) (by kernel_rfl) (by kernel_rfl) (by kernel_rfl) (by kernel_rfl) (by kernel_rfl) (by kernel_rfl)⟩,
      fun _ => ⟨by kernel_rfl, mixed, by kernel_rfl, sP, by kernel_rfl, sQ, (), trivial, L (by kernel_rfl) (by kernel_rfl) (by kernel_rfl) (by kernel_rfl) (by kernel_rfl) (by kernel_rfl) (by kernel_rfl) (by kernel_rfl) (by kernel_rfl) (by kernel_rfl)⟩⟩
  case r1 =>
  refine ACode.cut 0 (fun _ : Unit => bSt h l hot f la a lt is [] [] 1) (fun _ => True) .loop hn hl .ret rfl ?l1 fun _ _ => ?r2
  case l1 =>
    intro g' hn' hl'
    replace hn' : g'.n = 254 := hn'
    replace hl' : g'.low 0 := hl'
    refine acode_while (fun k : Nat => bSt h l hot f la a lt 0 [(109, encR l), (110, .int .i64 (l.map encI).length), (111, .int .i64 k)] [] 1) (fun k => k ≤ l.length ∧ ∀ y ∈ l.take k, decide (a ≤ y) = false) (fun k => l.length - k) 0 ⟨Nat.zero_le _, fun y hy => by simp at hy⟩ ?_ (fun _ _ => hl'.mono (Nat.zero_le _)) ?_
    · exact bLe rfl rfl rfl rfl rfl rfl rfl rfl rfl ⟨rfl, rfl, rfl, rfl, rfl, rfl, trivial⟩ rfl trivial
    · rintro k ⟨hk1, hk2⟩
      by_cases hlt : k < l.length
      · refine Exists.elim (getE hlt) fun x hx => ?_
        have ek := congrArg (AV.int .i64) (succ64 (k := k) (by omega))
        have w1 : IntKind.i64.wrap ((k : Int) + 1) = (k : Int) + 1 := wrap64 (by omega) (by omega)
        have w2 : IntKind.i64.wrap (IntKind.i64.wrap ((k : Int) + 1) + lt) = (k : Int) + 1 + lt := by rw [w1, wrap64 (by omega) (by omega)]
        cases hb : decide (a ≤ x)
        · have hk3 : ∀ y ∈ l.take (k + 1), decide (a ≤ y) = false := fun y hy => by
            rw [List.take_add_one, hx] at hy
            rcases List.mem_append.1 hy with hy | hy
            · exact hk2 y hy
            · simp at hy; subst hy; exact hb
          exact ACode.vcM (.br 112 true <| .cells (encI x) <| .br 118 false .nil) hn' hl' (.round .cl) ⟨ltLen hlt, idx hx, hb, k + 1, ⟨hlt, hk3⟩, mu1 hlt,
            bLe rfl rfl rfl rfl rfl rfl rfl rfl rfl ⟨rfl, rfl, rfl, rfl, ek, rfl, trivial⟩ rfl trivial⟩
        · have ev := isV k x hx hk2 hb
          by_cases hc : (k : Int) + 1 + lt > l.length
          · rw [if_pos hc] at ev
            have d125 : decide (IntKind.i64.wrap (IntKind.i64.wrap ((k : Int) + 1) + lt) ≤ ((l.map encI).length : Int)) = false := decide_eq_false (by rw [w2, List.length_map]; omega)
            exact ACode.vcM (.br 112 true <| .cells (encI x) <| .br 118 true <| .br 125 false .nil) hn' hl' (.round .cl) ⟨ltLen hlt, idx hx, hb, d125, _, .refl _, .nil, (), trivial,
              Wk.le (bLe rfl rfl rfl rfl rfl rfl rfl rfl (congrArg (AV.int .i64) ev.symm) trivial rfl trivial) hl1⟩
          · rw [if_neg hc] at ev
            have d125 : decide (IntKind.i64.wrap (IntKind.i64.wrap ((k : Int) + 1) + lt) ≤ ((l.map encI).length : Int)) = true := decide_eq_true (by rw [w2, List.length_map]; omega)
            exact ACode.vcM (.br 112 true <| .cells (encI x) <| .br 118 true <| .br 125 true .nil) hn' hl' (.round .cl) ⟨ltLen hlt, idx hx, hb, d125, _, .refl _, .nil, (), trivial,
              Wk.le (bLe rfl rfl rfl rfl rfl rfl rfl rfl (congrArg (AV.int .i64) (w2.trans ev.symm)) trivial rfl trivial) hl1⟩
      · have hk' : k = l.length := by omega
        have ev : is = 0 := isZ (by rw [hk', List.take_length] at hk2; exact hk2)
        exact ACode.vcM (.br 112 false .nil) hn' hl' (.round .cl) ⟨geLen hlt, _, .refl _, .nil, (), trivial, Wk.le (bLe rfl rfl rfl rfl rfl rfl rfl rfl (congrArg (AV.int .i64) ev.symm) trivial rfl trivial) hl1⟩
  case r2 =>
  refine ACode.cut 5 (fun _ : Unit => bSt h l hot f la a lt is [(24, .nil)] [] 1) (fun _ => True) ?t2 hn hl .ret rfl ?f2 fun _ _ => ?r3
  case t2 => exact (.both 133 (.br 136 false <| .br 141 false <| .both 144 (.br 151 false <| .br 154 false <| .call (encS (a, a)) <| .call (encS (lt, lt)) <| .call (encB3 (is, is, 0)) <| .br 182 false <| .br 186 false .nil)
      (.br 154 false <| .call (encS (a, a)) <| .call (encS (lt, lt)) <| .call (encB3 (is, is, 0)) <| .br 182 false <| .br 186 false .nil)) (.br 154 true <| .br 158 false <| .call (encS (a, a)) <| .call (encS (lt, lt)) <| .call (encB3 (is, is, 0)) <| .br 182 false <| .br 186 false .nil))
  case f2 =>
    have L := fun {S : St} (h1 : elook S.env 1 = encR l) h4 h5 h11 h12 h13 h15 h16 h17 h24 h0 => Wk.le (g := g) (bLe (h := h) (l := l) (hot := hot) (f := f) (la := la) (a := a) (lt := lt) (is := is) (E := [(24, .nil)]) (X := []) (nx := 0) (S := S) h1 h4 h5 h11 h12 h13 h15 h16 h17 ⟨h24, rfl, trivial⟩ h0 trivial) hl1
    have q1 := span_spec a a
    have q2 := span_spec lt lt
    have ne : (is != is) = false := by simp
    have c135 : is > 0 → (f == 0) = false := fun h => by rw [beq_eq_false_iff_ne]; omega
    have c139 : is > 0 → decide (is < f) = false := fun h => decide_eq_false (by omega)
    have c147 : la > 0 → decide (is > la) = false := fun h => decide_eq_false (by omega)
    have c153 : is > 0 → (is == 0) = false := fun h => by rw [beq_eq_false_iff_ne]; omega
    have c153' : ¬ is > 0 → (is == 0) = true := fun h => by rw [beq_iff_eq]; omega
    have c156 : ¬ is > 0 → decide (la > 0) = false := fun h => decide_eq_false (by omega)
    exact ⟨fun e => ⟨c135 (of_decide_eq_true e), c139 (of_decide_eq_true e), fun e2 => ⟨c147 (of_decide_eq_true e2), c153 (of_decide_eq_true e), q1, q2, sX, ne, ne, (), trivial, L (by kernel_rfl) (by kernel_rfl) (by kernel_rfl) (by kernel_rfl) (by kernel_rfl) (by kernel_rfl) (by kernel_rfl) (by kernel_rfl) (by kernel_rfl) (by kernel_rfl) (by kernel_rfl)⟩,
        fun _ => ⟨c153 (of_decide_eq_true e), q1, q2, sX, ne, ne, (), trivial, L (by kernel_rfl) (by kernel_rfl) (by kernel_rfl) (by kernel_rfl) (by kernel_rfl) (by kernel_rfl) (by kernel_rfl) (by kernel_rfl) (by kernel_rfl) (by kernel_rfl) (by kernel_rfl)⟩⟩,
      fun e => ⟨c153' (of_decide_eq_false e), c156 (of_decide_eq_false e), q1, q2, sX, ne, ne, (), trivial, L (by kernel_rfl) (by kernel_rfl) (by kernel_rfl) (by kernel_rfl) (by kernel_rfl) (by kernel_rfl) (by kernel_rfl) (by kernel_rfl) (by kernel_rfl) (by kernel_rfl) (by kernel_rfl)⟩⟩
  case r3 =>
  refine ACode.cut 0 (fun _ : Unit => bSt h l hot f la a lt is [(24, .rsl 1 0 HL.length 1)] [(1, .cells (iL HL))] 2) (fun _ => True) .loop hn hl .ret rfl ?l2 fun _ _ => ?r4
  case l2 =>
    intro g' hn' hl'
    replace hn' : g'.n = 254 := hn'
    replace hl' : g'.low 0 := hl'
    refine acode_whileW (fun k : Nat => bSt h l hot f la a lt is [(24, .rsl 1 0 (HL.take k).length 1), (187, encR l), (188, .int .i64 (l.map encI).length), (189, .int .i64 k)] [(1, .cells (iL (HL.take k)))] 2) (fun k => k ≤ l.length) (fun k => l.length - k) 0 (Nat.zero_le _) ?_ ?_
    · refine Wk.trans (Wk.le ?_ (hl'.mono (Nat.zero_le _))) (Wk.own 24 1 rfl)
      exact bLe rfl rfl rfl rfl rfl rfl rfl rfl rfl ⟨rfl, rfl, rfl, rfl, rfl, rfl, rfl, rfl, trivial⟩ rfl ⟨rfl, (by decide : (1 : Nat) < 2), rfl, trivial⟩
    · intro k hk
      by_cases hlt : k < l.length
      · refine Exists.elim (getE hlt) fun x hx => ?_
        have ek := congrArg (AV.int .i64) (succ64 (k := k) (by omega))
        have htl : (HL.take k).length ≤ 100000 := by rw [List.length_take]; omega
        have ap := app_one (h := hget [(1, .cells (iL (HL.take k))), (2, .cells [.int .i64 (hotV hot k x)])]) (i := 1) (j := 2) (nid := 3) (l := HL.take k) (x := hotV hot k x) rfl rfl htl
        have hz := hL0 k x hx
        have hzl : (HL.take (k + 1)).length = (HL.take k).length + 1 := by rw [hz]; simp
        rw [← hz, ← hzl] at ap
        have fin : ∀ S : St, elook S.env 1 = encR l → elook S.env 4 = .lst 1 (hot.map cU16) → elook S.env 5 = .vptr 0 0 → elook S.env 11 = .bool true → elook S.env 12 = .int .i64 f → elook S.env 13 = .int .i64 la → elook S.env 15 = .int .i64 a → elook S.env 16 = .int .i64 lt → elook S.env 17 = .int .i64 is →
            elook S.env 24 = .rsl 3 0 (HL.take (k + 1)).length 1 → elook S.env 187 = encR l → elook S.env 188 = .int .i64 (l.map encI).length → elook S.env 189 = .int .i64 (k + 1 : Nat) → hget S.H 0 = some (.cells (cH h)) → hget S.H 3 = some (.cells (iL (HL.take (k + 1)))) →
            Wk g' (bSt h l hot f la a lt is [(24, .rsl 1 0 (HL.take (k + 1)).length 1), (187, encR l), (188, .int .i64 (l.map encI).length), (189, .int .i64 (k + 1 : Nat))] [(1, .cells (iL (HL.take (k + 1))))] 2) S := fun S h1 h4 h5 h11 h12 h13 h15 h16 h17 h24 h187 h188 h189 h0 h3 =>
          Wk.ren (c := 1) (b := 3) (St.ren.of rfl (by decide) ⟨.inl ⟨h1, rfl⟩, .inl ⟨h4, rfl⟩, .inl ⟨h5, rfl⟩, .inl ⟨h11, rfl⟩, .inl ⟨h12, rfl⟩, .inl ⟨h13, rfl⟩, .inl ⟨h15, rfl⟩, .inl ⟨h16, rfl⟩, .inl ⟨h17, rfl⟩, .inr ⟨_, _, _, rfl, h24⟩, .inl ⟨h187, rfl⟩, .inl ⟨h188, rfl⟩, .inl ⟨h189, rfl⟩, trivial⟩
            ⟨.inl ⟨(by decide : (0 : Nat) < 1), h0, rfl⟩, .inr ⟨rfl, h3, _, rfl, iL_ok _ _⟩, trivial⟩) (hl'.mono (Nat.zero_le _))
        by_cases hp : hot.length > 0
        · refine Exists.elim (hgt k hp) fun z hz' => ?_
          obtain ⟨v1, v2⟩ := hvv k x hx hp z hz'
          have d196 : decide (((hot.map cU16).length : Int) > 0) = true := decide_eq_true (by rw [List.length_map]; omega)
          have nz : ((hot.map cU16).length : Int) ≠ 0 := by rw [List.length_map]; omega
          have ix : 0 ≤ ((k : Int).tmod ((hot.map cU16).length : Int)) ∧ (hot.map cU16)[((k : Int).tmod ((hot.map cU16).length : Int)).toNat]? = some [.int .u16 z] := by
            rw [List.length_map, List.getElem?_map, hz']
            exact ⟨(tm_rng (by omega) (by omega)).1, rfl⟩
          have vv : some (⟨.int .i64 (IntKind.i64.wrap (x + (IntKind.i64.wrap z).tmod (IntKind.i64.wrap (IntKind.i64.wrap (2000 - x) + 1)))), []⟩ : Out) = some ⟨.int .i64 (hotV hot k x), []⟩ := by rw [v1]
          exact ACode.vcM (.br 190 true <| .cells (encI x) <| .br 196 true <| .nz <| .cells [.int .u16 z] <| .nz <| .val 210 (.int .i64 (hotV hot k x)) [] <| .val 214 (.rsl 3 0 (HL.take (k + 1)).length 1) [(1, none), (3, some (.cells (iL (HL.take (k + 1)))))] .nil) hn' hl' (.roundW .cl)
            ⟨ltLen hlt, idx hx, d196, nz, ix, v2, vv, Eq.trans (by kernel_rfl) ap, k + 1, hlt, mu1 hlt, fin _ (by kernel_rfl) (by kernel_rfl) (by kernel_rfl) (by kernel_rfl) (by kernel_rfl) (by kernel_rfl) (by kernel_rfl) (by kernel_rfl) (by kernel_rfl) (by kernel_rfl) (by kernel_rfl) (by kernel_rfl) (Eq.trans (by kernel_rfl) ek) (by kernel_rfl) (by kernel_rfl)⟩
        · have v0 := hv0 k x hp
          have d196 : decide (((hot.map cU16).length : Int) > 0) = false := decide_eq_false (by rw [List.length_map]; omega)
          have vv : some (⟨.int .i64 x, []⟩ : Out) = some ⟨.int .i64 (hotV hot k x), []⟩ := by rw [v0]
          exact ACode.vcM (.br 190 true <| .cells (encI x) <| .br 196 false <| .val 212 (.int .i64 (hotV hot k x)) [] <| .val 214 (.rsl 3 0 (HL.take (k + 1)).length 1) [(1, none), (3, some (.cells (iL (HL.take (k + 1)))))] .nil) hn' hl' (.roundW .cl)
            ⟨ltLen hlt, idx hx, d196, vv, Eq.trans (by kernel_rfl) ap, k + 1, hlt, mu1 hlt, fin _ (by kernel_rfl) (by kernel_rfl) (by kernel_rfl) (by kernel_rfl) (by kernel_rfl) (by kernel_rfl) (by kernel_rfl) (by kernel_rfl) (by kernel_rfl) (by kernel_rfl) (by kernel_rfl) (by kernel_rfl) (Eq.trans (by kernel_rfl) ek) (by kernel_rfl) (by kernel_rfl)⟩
      · have hk' : k = l.length := by omega
        have e : HL.take k = HL := by rw [hk', ← hLl, List.take_length]
        have e1 := congrArg (fun m : List Int => AV.rsl 1 0 m.length 1) e
        have e2 := congrArg (fun m : List Int => some (AObj.cells (iL m))) e
        exact ACode.vcM (.br 190 false .nil) hn' hl' (.roundW .cl) ⟨geLen hlt, _, .refl _, .nil, (), trivial, Wk.le (bLe rfl rfl rfl rfl rfl rfl rfl rfl rfl ⟨e1, rfl, trivial⟩ rfl ⟨e2, (by decide : (1 : Nat) < 2), iL_ok _ _, trivial⟩) hl2⟩
  case r4 =>
  have th : thawL (hget [(0, .cells (cH h)), (1, .cells (iL HL))]) [encHh h, .rsl 1 0 HL.length 1] = some ([encHh h, encR HL], [1]) := by
    have t1 : thaw 8 (hget [(0, .cells (cH h)), (1, .cells (iL HL))]) (encHh h) = some (encHh h, []) := by unfold thaw; exact if_pos rfl
    have t2 := thaw_fl 6 (h := hget [(0, .cells (cH h)), (1, .cells (iL HL))]) (id := 1) (enc := encI) (n := 1) (l := HL) (fun _ => rfl) (fun _ => rfl) rfl
    simp only [thawL, mapO, t1, t2, List.nil_append, List.append_nil]
    rfl
  have lent : Lent Tryd.prog (hget [(0, .cells (cH h)), (1, .cells (iL HL))]) 20 [encHh h, .rsl 1 0 HL.length 1] (encB3 (x, y, 0)) [1] := ⟨_, th, .inl ⟨sY, .inr rfl⟩⟩
  by_cases hf : f = 0
  · have cf : (f == 0) = true := by rw [beq_iff_eq]; exact hf
    by_cases hla : la = 0
    · have cl : (la == 0) = true := by rw [beq_iff_eq]; exact hla
      exact ACode.vcM (.lent (encB3 (x, y, 0)) [1] <| .br 231 true <| .br 244 true .nil) hn hl .ret ⟨lent, cf, cl, trivial, rfl⟩
    · have := n2 (by omega)
      have := m1 (by omega)
      have := m2 (by omega)
      omega
  · have cf : (f == 0) = false := by rw [beq_eq_false_iff_ne]; exact hf
    have hx := n1 (by omega)
    have cx : decide (x > 0) = true := decide_eq_true (by omega)
    have cxf : decide (x ≤ f) = true := decide_eq_true (by omega)
    by_cases hla : la = 0
    · have cl : (la == 0) = true := by rw [beq_iff_eq]; exact hla
      exact ACode.vcM (.lent (encB3 (x, y, 0)) [1] <| .br 231 false <| .br 234 true <| .br 241 true <| .br 244 true .nil) hn hl .ret ⟨lent, cf, cx, cxf, cl, trivial, rfl⟩
    · have cl : (la == 0) = false := by rw [beq_eq_false_iff_ne]; exact hla
      have hy := n2 (by omega)
      have cy : decide (y > 0) = true := decide_eq_true (by omega)
      have cyl : some (AV.bool (decide (y ≤ la))) = some (.bool true) := by rw [decide_eq_true hy.2]
      exact ACode.vcM (.lent (encB3 (x, y, 0)) [1] <| .br 231 false <| .br 234 true <| .br 241 true <| .br 244 false <| .br 247 true .nil) hn hl .ret ⟨lent, cf, cx, cxf, cl, cy, trivial, cyl⟩
/-- What is left when bulb and heat are valid. -/
theorem bulb_core (h : Hh) (l : List Int) (dg slow : Int) (hot : List Int) (hd : 0 ≤ dg ∧ dg ≤ 65535) (hs : 0 ≤ slow ∧ slow ≤ 65535) (hh : ∀ x ∈ hot, 0 ≤ x ∧ x < 65536) (ho : HeadOk 12 h) (ht : HeatOk l) :
    APure Tryd.prog 9 [encHh h, encR l, .int .u16 dg, .int .u16 slow, .lst 1 (hot.map cU16)] (.bool true) := by
  have sB := Bulb_spec h
  have sH := rHeat_spec l (by have := ht.len; omega)
  have hB : headB 12 h = true := headB_iff.2 ho
  have hT : heatB l = true := heatB_iff.2 ht
  have hB' : bulbB h = true := by simp only [headB, Bool.and_eq_true] at hB; exact hB.1
  rw [hB'] at sB
  rw [hT] at sH
  have hnode := ho.node
  have hb := ho.b
  have hsl := ho.s
  have hlen := ht.len
  have sF := Bursts_spec h l
  have wd : IntKind.u32.wrap dg = dg := by
    unfold IntKind.wrap
    have e1 : (2 : Int) ^ IntKind.u32.bits = 4294967296 := by decide
    simp only [e1, IntKind.signed, Bool.false_and]
    rw [Int.emod_eq_of_lt (by omega) (by omega)]; rfl
  have ws : IntKind.u32.wrap slow = slow := by
    unfold IntKind.wrap
    have e1 : (2 : Int) ^ IntKind.u32.bits = 4294967296 := by decide
    simp only [e1, IntKind.signed, Bool.false_and]
    rw [Int.emod_eq_of_lt (by omega) (by omega)]; rfl
  have sP := pick_spec h.bLo h.bHi dg (by omega) (by omega)
  have sQ := pick_spec h.sLo h.sHi slow (by omega) (by omega)
  have ra := pickV_rng hb.2.1 (n := dg) hd.1
  have rl := pickV_rng hsl.2.1 (n := slow) hs.1
  generalize pickV h.bLo h.bHi dg = a at *
  generalize pickV h.sLo h.sHi slow = lt at *
  have eF : burstsI h l = (burstV l h.bLo h.sLo, burstV l h.bHi h.sHi, 0) := by simp [burstsI, hB, hT]
  rw [eF] at sF
  have rf := burst_rng l h.bLo h.sLo hsl.1
  have rla := burst_rng l h.bHi h.sHi (by omega)
  have ris := burst_rng l a lt (by omega)
  have m1 : 0 < burstV l h.bHi h.sHi → 0 < burstV l a lt ∧ burstV l a lt ≤ burstV l h.bHi h.sHi := burst_mono rfl (by omega) (by omega) fun i x y hx hy hxy => by rw [hx] at hy; cases hy; omega
  have m2 : 0 < burstV l a lt → 0 < burstV l h.bLo h.sLo ∧ burstV l h.bLo h.sLo ≤ burstV l a lt := burst_mono rfl (by omega) (by omega) fun i x y hx hy hxy => by rw [hx] at hy; cases hy; omega
  have hot1 : ∀ d late : Int, 0 ≤ late → 0 < burstV l d late → 0 < burstV (hotL hot l) d late ∧ burstV (hotL hot l) d late ≤ burstV l d late := fun d late h0 => burst_mono (hotL_len hot l).symm h0 (Int.le_refl _) fun i x y hx hy hxy => by
    rw [hotL_get hx] at hy
    cases hy
    have := hotV_rng hh (i := i) (ht.el x (List.mem_of_getElem? hx))
    omega
  have n1 := hot1 h.bLo h.sLo (by omega)
  have n2 := hot1 h.bHi h.sHi (by omega)
  -- the head that is known exactly
  have sX := Bursts_spec { h with bLo := a, bHi := a, sLo := lt, sHi := lt } l
  have eX : burstsI { h with bLo := a, bHi := a, sLo := lt, sHi := lt } l = (burstV l a lt, burstV l a lt, 0) := by
    have : headB 12 { h with bLo := a, bHi := a, sLo := lt, sHi := lt } = true := headB_iff.2 ⟨ho.id, ho.node, ho.need, ho.least, by simp only; omega, by simp only; omega⟩
    simp [burstsI, this, hT]
  rw [eX] at sX
  have sY := Bursts_spec h (hotL hot l)
  have eY : burstsI h (hotL hot l) = (burstV (hotL hot l) h.bLo h.sLo, burstV (hotL hot l) h.bHi h.sHi, 0) := by simp [burstsI, hB, heatB_iff.2 (hotL_ok hh ht)]
  rw [eY] at sY
  have isV : ∀ k x, l[k]? = some x → (∀ y ∈ l.take k, decide (a ≤ y) = false) → decide (a ≤ x) = true → burstV l a lt = if (k : Int) + 1 + lt > l.length then 0 else (k : Int) + 1 + lt := fun k x hx h0 h1 => by
    have := idxV_hit (p := fun y => decide (a ≤ y)) hx h0 h1
    unfold idxV at this
    unfold burstV
    cases hf : l.findIdx? fun y => decide (a ≤ y) with
    | none => rw [hf] at this; simp at this
    | some i =>
      rw [hf] at this
      simp only at this ⊢
      have : i = k := by omega
      subst this; rfl
  have isZ : (∀ y ∈ l, decide (a ≤ y) = false) → burstV l a lt = 0 := fun h0 => by
    unfold burstV
    rw [List.findIdx?_eq_none_iff.2 h0]
  have hgt : ∀ k : Nat, hot.length > 0 → ∃ z, hot[((k : Int).tmod hot.length).toNat]? = some z := fun k hp => by
    refine getE ?_
    have := tm_rng (a := (k : Int)) (b := (hot.length : Int)) (by omega) (by omega)
    omega
  have hvv : ∀ (k : Nat) (x : Int), l[k]? = some x → hot.length > 0 → ∀ z, hot[((k : Int).tmod hot.length).toNat]? = some z → IntKind.i64.wrap (x + (IntKind.i64.wrap z).tmod (IntKind.i64.wrap (IntKind.i64.wrap (2000 - x) + 1))) = hotV hot k x ∧ IntKind.i64.wrap (IntKind.i64.wrap (2000 - x) + 1) ≠ 0 := fun k x hx hp z hz => by
    have hxr := ht.el x (List.mem_of_getElem? hx)
    have hzr := hh z (List.mem_of_getElem? hz)
    have w1 : IntKind.i64.wrap z = z := wrap64 (by omega) (by omega)
    have w2 : IntKind.i64.wrap (IntKind.i64.wrap (2000 - x) + 1) = 2001 - x := by rw [wrap64 (n := 2000 - x) (by omega) (by omega), wrap64 (by omega) (by omega)]; omega
    have hr := hotV_rng hh (i := k) hxr
    have e : hotV hot k x = x + z.tmod (2001 - x) := by unfold hotV; rw [if_pos hp, List.getD_eq_getElem?_getD, hz]; rfl
    rw [w1, w2, ← e]
    exact ⟨wrap64 (by omega) (by omega), by omega⟩
  have hv0 : ∀ (k : Nat) (x : Int), ¬ hot.length > 0 → hotV hot k x = x := fun k x hp => by unfold hotV; rw [if_neg hp]
  have sP' : APure Tryd.prog 39 [encS (h.bLo, h.bHi), .int .u32 (IntKind.u32.wrap dg)] (.int .i64 a) := by rw [wd]; exact sP
  have sQ' : APure Tryd.prog 39 [encS (h.sLo, h.sHi), .int .u32 (IntKind.u32.wrap slow)] (.int .i64 lt) := by rw [ws]; exact sQ
  exact bulb_walk h l hot (hotL hot l) dg slow _ _ a lt _ _ _ hlen hnode sB sH sF sP' sQ' sX sY rf rla ris (by omega) m1 m2 n1 n2 isV isZ hgt hvv hv0 (fun k x hx => hotL_take hx) (hotL_len hot l)
theorem law_bulb (h : Hh) (l : List Int) (dg : Int) (d0 : 0 ≤ dg) (d1 : dg ≤ 65535) (slow : Int) (s0 : 0 ≤ slow) (s1 : slow ≤ 65535) (hot : List Int) (hh : ∀ x ∈ hot, 0 ≤ x ∧ x < 65536) :
    APure Tryd.prog 9 [encHh h, encR l, .int .u16 dg, .int .u16 slow, .lst 1 (hot.map cU16)] (.bool true) := by
  have sA := alive_spec
  by_cases c1 : h.node < 1
  · exact APure.vc Tryd.func9 rfl (.call (.bool true) <| .br 36 true .nil) rfl rfl (kmp (by kernel_rfl) <| And.intro sA <| And.intro (show decide (h.node < 1) = true from decide_eq_true c1) <| And.intro trivial rTrue)
  have k1 : decide (h.node < 1) = false := decide_eq_false c1
  by_cases c2 : h.node > 12
  · exact APure.vc Tryd.func9 rfl (.call (.bool true) <| .br 36 false <| .br 41 true .nil) rfl rfl (kmp (by kernel_rfl) <| And.intro sA <| And.intro k1 <| And.intro (show decide (h.node > 12) = true from decide_eq_true c2) <| And.intro trivial rTrue)
  have k2 : decide (h.node > 12) = false := decide_eq_false c2
  have sB := Bulb_spec h
  cases c3 : bulbB h
  · rw [c3] at sB
    exact APure.vc Tryd.func9 rfl (.call (.bool true) <| .br 36 false <| .br 41 false <| .call (.bool false) .nil) rfl rfl (kmp (by kernel_rfl) <| And.intro sA <| And.intro k1 <| And.intro k2 <| And.intro sB <| And.intro trivial rTrue)
  rw [c3] at sB
  by_cases c4 : ((l.map encI).length : Int) > 60
  · exact APure.vc Tryd.func9 rfl (.call (.bool true) <| .br 36 false <| .br 41 false <| .call (.bool true) <| .br 51 true .nil) rfl rfl (kmp (by kernel_rfl) <| And.intro sA <| And.intro k1 <| And.intro k2 <| And.intro sB <| And.intro (show decide (((l.map encI).length : Int) > 60) = true from decide_eq_true c4) <| And.intro trivial rTrue)
  have k4 : decide (((l.map encI).length : Int) > 60) = false := decide_eq_false c4
  have hlen : l.length ≤ 60 := by rw [List.length_map] at c4; omega
  have sH := rHeat_spec l (by omega)
  cases c5 : heatB l
  · rw [c5] at sH
    exact APure.vc Tryd.func9 rfl (.call (.bool true) <| .br 36 false <| .br 41 false <| .call (.bool true) <| .br 51 false <| .call (.bool false) .nil) rfl rfl (kmp (by kernel_rfl) <| And.intro sA <| And.intro k1 <| And.intro k2 <| And.intro sB <| And.intro k4 <| And.intro sH <| And.intro trivial rTrue)
  · exact bulb_core h l dg slow hot ⟨d0, d1⟩ ⟨s0, s1⟩ hh (headB_iff.1 (by simp only [headB, c3, Bool.true_and, inB]; exact decide_eq_true (by omega))) (heatB_iff.1 c5)
end Go.Proofs.YtcbdggmojnnbdaaDoor
