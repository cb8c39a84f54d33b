/-
  WATER IS CONSERVED.
-/
import Derived.Test.YtcbdggmojnnbdaaDoorZ2
import Derived.Test.YtcbdggmojnnbdaaDoorX2
import Derived.Test.YtcbdggmojnnbdaaDoorSp1
namespace Go.Proofs.YtcbdggmojnnbdaaDoor
open Go Go.Am
set_option maxRecDepth 100000
set_option maxHeartbeats 16000000
def wE (n : Nt) (L f : List Int) (k : Nat) (E : Env) : Env := (2, .vptr 0 0) :: (5, .bool true) :: (6, encR L) :: (7, encR f) :: (45, .int .i64 (n.ps.length + 1 : Nat)) :: (46, .int .i64 k) :: E
def wS (n : Nt) (L f : List Int) (k : Nat) (E : Env) : St := ⟨wE n L f k E, [(0, .cells (cN n))], 1⟩
theorem wLe {n : Nt} {L f : List Int} {k : Nat} {E : Env} {S : St} (h2 : elook S.env 2 = .vptr 0 0) (h5 : elook S.env 5 = .bool true) (h6 : elook S.env 6 = encR L) (h7 : elook S.env 7 = encR f) (h45 : elook S.env 45 = .int .i64 (n.ps.length + 1 : Nat)) (h46 : elook S.env 46 = .int .i64 k)
    (hE : leE S.env 1 E) (h0 : hget S.H 0 = some (.cells (cN n))) : (wS n L f k E).le S :=
  St.le.of ⟨h2, rfl, h5, rfl, h6, rfl, h7, rfl, h45, rfl, h46, rfl, hE⟩ ⟨h0, (by decide : (0 : Nat) < 1), rfl, trivial⟩
theorem needF_snoc (A : List Hh) (h : Hh) (c : Hh → Bool) : needF (A ++ [h]) c = needF A c + if c h then h.need else 0 := by
  unfold needF
  rw [List.filter_append, needS_app]
  congr 1
  cases hc : c h <;> simp [hc, needS]
theorem needF_rng {A : List Hh} (h : ∀ x ∈ A, 1 ≤ x.need ∧ x.need ≤ 500) (c : Hh → Bool) : 0 ≤ needF A c ∧ needF A c ≤ 500 * A.length := by
  have h1 := needS_rng (l := A.filter c) fun x hx => h x (List.mem_filter.1 hx).1
  have h2 := List.length_filter_le c A
  unfold needF
  omega
theorem water_core (n : Nt) (b : Int) (ho : NetOk n) : APure Tryd.prog 8 [encN n, .int .u8 b] (.bool true) := by
  have sA := alive_spec
  have sR := ready_spec n
  rw [netB_iff.2 ho] at sR
  have hpl := ho.pl
  have hhl := ho.hl
  have ht : Tree n.ps := ho.p
  have hsl := selK_len n.hs (bitF b) n.hs.length
  have hL : (idsL (selH n b)).length ≤ 8 := by unfold idsL; rw [List.length_map]; exact Nat.le_trans hsl hhl.2
  have sS := some_spec n b (by omega)
  have sF := Flows_ok n (idsL (selH n b)) ho (open_sel ho b) (by omega)
  rw [opened_sel ho b] at sF
  have sW := Flow_spec n b ho
  have hmem : ∀ k, k ≤ n.hs.length → ∀ x ∈ selK n.hs (bitF b) k, (1 ≤ x.need ∧ x.need ≤ 500) ∧ x.node.toNat ≤ n.ps.length := fun k hk x hx => by
    obtain ⟨i, _, h2, _⟩ := selK_mem hk x hx
    have := ho.h i x h2
    have h3 := this.node
    exact ⟨this.need, by omega⟩
  have hrF : ∀ i, 0 ≤ flowAt n.ps (selH n b) i ∧ flowAt n.ps (selH n b) i ≤ 4000 := fun i => by
    have h1 := flowAt_rng (ps := n.ps) (hs := selH n b) (fun x hx => (hmem _ (Nat.le_refl _) x hx).1) i
    have h2 := needS_rng (l := selH n b) fun x hx => (hmem _ (Nat.le_refl _) x hx).1
    have h3 : (selH n b).length ≤ 8 := Nat.le_trans hsl hhl.2
    omega
  have hrN : 0 ≤ needS (selH n b) := (needS_rng (l := selH n b) fun x hx => (hmem _ (Nat.le_refl _) x hx).1).1
  have wok := fun k => water_ok ht k (selH n b) fun x hx => (hmem _ (Nat.le_refl _) x hx).2
  have hget : ∀ i, i < n.ps.length → (flowsL n.ps (selH n b))[i]? = some (flowAt n.ps (selH n b) i) := fun i hi => flowsL_get hi
  have hflen : (flowsL n.ps (selH n b)).length = n.ps.length := flowsL_len _ _
  have hhas : ∀ (i : Nat) (h : Hh), n.hs[i]? = some h → (idsL (selH n b)).contains h.id = bitF b i := fun i h hh => sel_has ho hh
  have eS : selH n b = selK n.hs (bitF b) n.hs.length := rfl
  have c40 : ((((flowsL n.ps (selH n b)).map encI).length : Int) != ((n.ps.map cP).length : Int)) = false := by rw [List.length_map, List.length_map, hflen]; simp
  have e45 : AV.int .i64 (IntKind.i64.wrap (((n.ps.map cP).length : Int) + 1)) = .int .i64 (n.ps.length + 1 : Nat) := by rw [List.length_map, succ64 (by omega)]
  have hfr : ∀ (i : Nat) (p : Pp) (k : Nat), n.ps[i]? = some p → (p.fr == (k : Int)) = decide ((pAt n.ps i).fr.toNat = k) := fun i p k hp => by
    have := (ht.frI hp).1
    rw [Bool.eq_iff_iff, beq_iff_eq, decide_eq_true_eq]
    omega
  have hnd : ∀ (i : Nat) (h : Hh) (k : Nat), n.hs[i]? = some h → (h.node == (k : Int)) = decide (h.node.toNat = k) := fun i h k hh => by
    have := (ho.h i h hh).node
    rw [Bool.eq_iff_iff, beq_iff_eq, decide_eq_true_eq]
    omega
  have hnr : ∀ (i : Nat) (h : Hh), n.hs[i]? = some h → 1 ≤ h.need ∧ h.need ≤ 500 := fun i h hh => (ho.h i h hh).need
  have hsg : ∀ i h, n.hs[i]? = some h → n.hs.getD i default = h := fun i h hh => by rw [List.getD_eq_getElem?_getD, hh]; rfl
  have hsK : ∀ k, k ≤ n.hs.length → ∀ c, 0 ≤ needF (selK n.hs (bitF b) k) c ∧ needF (selK n.hs (bitF b) k) c ≤ 500 * (selK n.hs (bitF b) k).length := fun k hk c => needF_rng (fun x hx => (hmem k hk x hx).1) c
  have hsL := selK_len n.hs (bitF b)
  have sHas := fun v => has_spec (idsL (selH n b)) v (by omega)
  generalize hLL : idsL (selH n b) = L at *
  generalize hff : flowsL n.ps (selH n b) = f at *
  generalize hFF : flowAt n.ps (selH n b) = F at *
  generalize hNN : needS (selH n b) = N at *
  clear hmem
  refine APure.vcM Tryd.func8 (.call (.bool true) <| .call (.bool true) <| .call (encR L) <| .call (.tup [encR f, .int .i64 0]) <| .br 41 false .loop) rfl rfl ⟨sA, sR, sS, sF, c40, ?_⟩
  intro g hn hl
  replace hn : g.n = 109 := hn
  replace hl : g.low 0 := hl
  have hl1 : g.low 1 := hl.mono (Nat.zero_le _)
  refine acode_while (fun k : Nat => wS n L f k []) (fun k => k ≤ n.ps.length + 1) (fun k => n.ps.length + 1 - k) 0 (Nat.zero_le _) ?_ (fun _ _ => hl1) ?_
  · exact wLe (by kernel_rfl) (by kernel_rfl) (by kernel_rfl) (by kernel_rfl) (Eq.trans (by kernel_rfl) e45) (by kernel_rfl) trivial (by kernel_rfl)
  · intro k hk
    by_cases hlt : k < n.ps.length + 1
    · have d47 : decide ((k : Int) < ((n.ps.length + 1 : Nat) : Int)) = true := decide_eq_true (by omega)
      have ek := congrArg (AV.int .i64) (succ64 (k := k) (by omega))
      have wk := wok k
      obtain ⟨I, hI⟩ : ∃ I, I = if k = 0 then N else F (k - 1) := ⟨_, rfl⟩
      have hI0 : 0 ≤ I := by rw [hI]; split; exact hrN; exact (hrF _).1
      have rP := fun m => sumI_rng (f := fun i => if decide ((pAt n.ps i).fr.toNat = k) then F i else 0) (B := 4000) (n := m) fun i _ => by have := hrF i; split <;> omega
      obtain ⟨P, hP⟩ : ∃ P : Nat → Int, P = sumI (fun i => if decide ((pAt n.ps i).fr.toNat = k) then F i else 0) := ⟨_, rfl⟩
      obtain ⟨H, hH⟩ : ∃ H : Nat → Int, H = fun i => needF (selK n.hs (bitF b) i) (fun x => decide (x.node.toNat = k)) := ⟨_, rfl⟩
      have hPs : ∀ i, P (i + 1) = P i + if decide ((pAt n.ps i).fr.toNat = k) then F i else 0 := fun i => by rw [hP]; rfl
      have hP0 : P 0 = 0 := by rw [hP]; rfl
      have hH0 : H 0 = 0 := by rw [hH]; rfl
      have hHs : ∀ i h, n.hs[i]? = some h → H (i + 1) = H i + if bitF b i then (if decide (h.node.toNat = k) then h.need else 0) else 0 := fun i h hh => by
        rw [hH]
        simp only [selK, hsg i h hh]
        cases bitF b i
        · simp
        · rw [if_pos rfl, needF_snoc]; rfl
      have hHr : ∀ i, i ≤ n.hs.length → 0 ≤ H i ∧ H i ≤ 4000 := fun i hi => by
        have h1 := hsK i hi fun x => decide (x.node.toNat = k)
        have h2 := hsL i
        rw [hH]
        simp only
        omega
      have hPr : ∀ m, m ≤ 12 → 0 ≤ P m ∧ P m ≤ 48000 := fun m hm => by have := rP m; rw [← hP] at this; omega
      rw [← hP, ← hI] at wk
      have wk' : P n.ps.length + H n.hs.length = I := by rw [hH]; exact wk
      clear wk wok rP hsK
      refine ACode.cut 1 (fun _ : Unit => wS n L f k []) (fun _ => True) (.br 47 true .nil) hn hl (.round .cl) rfl ⟨d47, (), trivial, Wk.le (wLe rfl rfl rfl rfl rfl rfl trivial rfl) hl1⟩ fun _ _ => ?_
      refine acode_mid (fun _ : Unit => wS n L f k []) (fun _ => True) (acode_block ?_) fun _ _ => ?_
      · -- what flows in
        refine ACode.cut 2 (fun _ : Unit => wS n L f k [(9, .int .i64 k), (10, .int .i64 I), (11, .int .i64 (P 0))]) (fun _ => True) ?t1 hn hl (.inBlock (.mid (.round .cl))) rfl ?f1 fun _ _ => ?r1
        case t1 => exact (if k = 0 then .br 50 true <| .call (.int .i64 N) .nil else .br 50 false <| .cells (encI (F (k - 1))) .nil)
        case f1 =>
          cases k with
          | zero =>
            have eI : AV.int .i64 N = .int .i64 I := by rw [hI]; rfl
            have e0 : AV.int .i64 0 = .int .i64 (P 0) := by rw [hP0]
            rw [if_pos rfl]
            exact ⟨rfl, sW, (), trivial, Wk.le (wLe (by kernel_rfl) (by kernel_rfl) (by kernel_rfl) (by kernel_rfl) (by kernel_rfl) (by kernel_rfl) ⟨by kernel_rfl, rfl, Eq.trans (by kernel_rfl) eI, rfl, Eq.trans (by kernel_rfl) e0, rfl, trivial⟩ (by kernel_rfl)) hl1⟩
          | succ j =>
            have ej : IntKind.i64.wrap (((j + 1 : Nat) : Int) - 1) = (j : Int) := pred64 (by omega)
            have d50 : (((j + 1 : Nat) : Int) == 0) = false := by rw [beq_eq_false_iff_ne]; omega
            have eI : AV.int .i64 (F j) = .int .i64 I := by rw [hI, if_neg (Nat.succ_ne_zero j)]; rfl
            have e0 : AV.int .i64 0 = .int .i64 (P 0) := by rw [hP0]
            rw [if_neg (Nat.succ_ne_zero j)]
            exact ⟨d50, idxW ej (hget j (by omega)), (), trivial, Wk.le (wLe (by kernel_rfl) (by kernel_rfl) (by kernel_rfl) (by kernel_rfl) (by kernel_rfl) (by kernel_rfl) ⟨by kernel_rfl, rfl, Eq.trans (by kernel_rfl) eI, rfl, Eq.trans (by kernel_rfl) e0, rfl, trivial⟩ (by kernel_rfl)) hl1⟩
        case r1 =>
        -- what flows out by pipes
        refine ACode.cut 0 (fun _ : Unit => wS n L f k [(9, .int .i64 k), (10, .int .i64 I), (11, .int .i64 (P n.ps.length + H 0))]) (fun _ => True) .loop hn hl (.inBlock (.mid (.round .cl))) rfl ?l2 fun _ _ => ?r2
        case l2 =>
          intro g' hn' hl'
          replace hn' : g'.n = 109 := hn'
          replace hl' : g'.low 0 := hl'
          refine acode_while (fun i : Nat => wS n L f k [(9, .int .i64 k), (10, .int .i64 I), (11, .int .i64 (P i)), (60, encP n.ps), (61, .int .i64 (n.ps.map cP).length), (62, .int .i64 i)]) (fun i => i ≤ n.ps.length) (fun i => n.ps.length - i) 0 (Nat.zero_le _) ?_ (fun _ _ => hl'.mono (Nat.zero_le _)) ?_
          · exact wLe (by kernel_rfl) (by kernel_rfl) (by kernel_rfl) (by kernel_rfl) (by kernel_rfl) (by kernel_rfl) ⟨by kernel_rfl, rfl, by kernel_rfl, rfl, by kernel_rfl, rfl, by kernel_rfl, rfl, by kernel_rfl, rfl, by kernel_rfl, rfl, trivial⟩ (by kernel_rfl)
          · intro i hi
            by_cases hil : i < n.ps.length
            · refine Exists.elim (getE hil) fun p hp => ?_
              have ei := congrArg (AV.int .i64) (succ64 (k := i) (by omega))
              have hc := hfr i p k hp
              have hs := hPs i
              have r1 := hPr i (by omega)
              have r2 := hrF i
              cases c : decide ((pAt n.ps i).fr.toNat = k)
              · rw [c] at hc hs
                have e11 : AV.int .i64 (P i) = .int .i64 (P (i + 1)) := by rw [hs]; simp
                exact ACode.vcM (.br 63 true <| .cells (cP p) <| .br 70 false .nil) hn' hl' (.round .cl) ⟨ltLen hil, idx hp, hc, i + 1, hil, mu1 hil,
                  wLe (by kernel_rfl) (by kernel_rfl) (by kernel_rfl) (by kernel_rfl) (by kernel_rfl) (by kernel_rfl) ⟨by kernel_rfl, rfl, by kernel_rfl, rfl, Eq.trans (by kernel_rfl) e11, rfl, by kernel_rfl, rfl, by kernel_rfl, rfl, Eq.trans (by kernel_rfl) ei, rfl, trivial⟩ (by kernel_rfl)⟩
              · rw [c] at hc hs
                rw [if_pos rfl] at hs
                have e11 : AV.int .i64 (IntKind.i64.wrap (P i + F i)) = .int .i64 (P (i + 1)) := by rw [hs, wrap64 (by omega) (by omega)]
                exact ACode.vcM (.br 63 true <| .cells (cP p) <| .br 70 true <| .cells (encI (F i)) .nil) hn' hl' (.round .cl) ⟨ltLen hil, idx hp, hc, idx (hget i hil), i + 1, hil, mu1 hil,
                  wLe (by kernel_rfl) (by kernel_rfl) (by kernel_rfl) (by kernel_rfl) (by kernel_rfl) (by kernel_rfl) ⟨by kernel_rfl, rfl, by kernel_rfl, rfl, Eq.trans (by kernel_rfl) e11, rfl, by kernel_rfl, rfl, by kernel_rfl, rfl, Eq.trans (by kernel_rfl) ei, rfl, trivial⟩ (by kernel_rfl)⟩
            · have hi' : i = n.ps.length := by omega
              have e11 : AV.int .i64 (P i) = .int .i64 (P n.ps.length + H 0) := by rw [hi', hH0, Int.add_zero]
              exact ACode.vcM (.br 63 false .nil) hn' hl' (.round .cl) ⟨geLen hil, _, .refl _, .nil, (), trivial, Wk.le (wLe (by kernel_rfl) (by kernel_rfl) (by kernel_rfl) (by kernel_rfl) (by kernel_rfl) (by kernel_rfl) ⟨by kernel_rfl, rfl, by kernel_rfl, rfl, Eq.trans (by kernel_rfl) e11, rfl, trivial⟩ (by kernel_rfl)) hl1⟩
        case r2 =>
        -- what flows out by heads
        refine ACode.cut 0 (fun _ : Unit => wS n L f k [(9, .int .i64 k), (10, .int .i64 I), (11, .int .i64 (P n.ps.length + H n.hs.length))]) (fun _ => True) .loop hn hl (.inBlock (.mid (.round .cl))) rfl ?l3 fun _ _ => ?r3
        case l3 =>
          intro g' hn' hl'
          replace hn' : g'.n = 109 := hn'
          replace hl' : g'.low 0 := hl'
          have rp := hPr n.ps.length hpl.2
          refine acode_while (fun i : Nat => wS n L f k [(9, .int .i64 k), (10, .int .i64 I), (11, .int .i64 (P n.ps.length + H i)), (79, encH n.hs), (80, .int .i64 (n.hs.map cH).length), (81, .int .i64 i)]) (fun i => i ≤ n.hs.length) (fun i => n.hs.length - i) 0 (Nat.zero_le _) ?_ (fun _ _ => hl'.mono (Nat.zero_le _)) ?_
          · exact wLe (by kernel_rfl) (by kernel_rfl) (by kernel_rfl) (by kernel_rfl) (by kernel_rfl) (by kernel_rfl) ⟨by kernel_rfl, rfl, by kernel_rfl, rfl, by kernel_rfl, rfl, by kernel_rfl, rfl, by kernel_rfl, rfl, by kernel_rfl, rfl, trivial⟩ (by kernel_rfl)
          · intro i hi
            by_cases hil : i < n.hs.length
            · refine Exists.elim (getE hil) fun h hh => ?_
              have ei := congrArg (AV.int .i64) (succ64 (k := i) (by omega))
              have hc := hnd i h k hh
              have hs := hHs i h hh
              have r1 := hHr i (by omega)
              have r2 := hnr i h hh
              have s := sHas h.id
              rw [hhas i h hh] at s
              cases c : decide (h.node.toNat = k)
              · rw [c] at hc hs
                have e11 : AV.int .i64 (P n.ps.length + H i) = .int .i64 (P n.ps.length + H (i + 1)) := by rw [hs]; cases bitF b i <;> simp
                exact ACode.vcM (.br 82 true <| .cells (cH h) <| .br 89 false .nil) hn' hl' (.round .cl) ⟨ltLen hil, idx hh, hc, i + 1, hil, mu1 hil,
                  wLe (by kernel_rfl) (by kernel_rfl) (by kernel_rfl) (by kernel_rfl) (by kernel_rfl) (by kernel_rfl) ⟨by kernel_rfl, rfl, by kernel_rfl, rfl, Eq.trans (by kernel_rfl) e11, rfl, by kernel_rfl, rfl, by kernel_rfl, rfl, Eq.trans (by kernel_rfl) ei, rfl, trivial⟩ (by kernel_rfl)⟩
              · rw [c] at hc hs
                cases c2 : bitF b i
                · rw [c2] at s hs
                  have e11 : AV.int .i64 (P n.ps.length + H i) = .int .i64 (P n.ps.length + H (i + 1)) := by rw [hs]; simp
                  exact ACode.vcM (.br 82 true <| .cells (cH h) <| .br 89 true <| .call (.bool false) .nil) hn' hl' (.round .cl) ⟨ltLen hil, idx hh, hc, s, i + 1, hil, mu1 hil,
                    wLe (by kernel_rfl) (by kernel_rfl) (by kernel_rfl) (by kernel_rfl) (by kernel_rfl) (by kernel_rfl) ⟨by kernel_rfl, rfl, by kernel_rfl, rfl, Eq.trans (by kernel_rfl) e11, rfl, by kernel_rfl, rfl, by kernel_rfl, rfl, Eq.trans (by kernel_rfl) ei, rfl, trivial⟩ (by kernel_rfl)⟩
                · rw [c2] at s hs
                  rw [if_pos rfl, if_pos rfl] at hs
                  have e11 : AV.int .i64 (IntKind.i64.wrap (P n.ps.length + H i + h.need)) = .int .i64 (P n.ps.length + H (i + 1)) := by rw [hs, wrap64 (by omega) (by omega), Int.add_assoc]
                  exact ACode.vcM (.br 82 true <| .cells (cH h) <| .br 89 true <| .call (.bool true) .nil) hn' hl' (.round .cl) ⟨ltLen hil, idx hh, hc, s, i + 1, hil, mu1 hil,
                    wLe (by kernel_rfl) (by kernel_rfl) (by kernel_rfl) (by kernel_rfl) (by kernel_rfl) (by kernel_rfl) ⟨by kernel_rfl, rfl, by kernel_rfl, rfl, Eq.trans (by kernel_rfl) e11, rfl, by kernel_rfl, rfl, by kernel_rfl, rfl, Eq.trans (by kernel_rfl) ei, rfl, trivial⟩ (by kernel_rfl)⟩
            · have hi' : i = n.hs.length := by omega
              have e11 : AV.int .i64 (P n.ps.length + H i) = .int .i64 (P n.ps.length + H n.hs.length) := by rw [hi']
              exact ACode.vcM (.br 82 false .nil) hn' hl' (.round .cl) ⟨geLen hil, _, .refl _, .nil, (), trivial, Wk.le (wLe (by kernel_rfl) (by kernel_rfl) (by kernel_rfl) (by kernel_rfl) (by kernel_rfl) (by kernel_rfl) ⟨by kernel_rfl, rfl, by kernel_rfl, rfl, Eq.trans (by kernel_rfl) e11, rfl, trivial⟩ (by kernel_rfl)) hl1⟩
        case r3 =>
        have d102 : (I != P n.ps.length + H n.hs.length) = false := by rw [wk']; simp
        have d105 : decide (I < 0) = false := decide_eq_false (by omega)
        exact ACode.vcM (.br 103 false <| .br 106 false .nil) hn hl (.inBlock (.mid (.round .cl))) ⟨d102, d105, (), trivial, Wk.le (wLe (by kernel_rfl) (by kernel_rfl) (by kernel_rfl) (by kernel_rfl) (by kernel_rfl) (by kernel_rfl) trivial (by kernel_rfl)) hl1⟩
      · exact ACode.vcM .nil hn hl (.round .cl) ⟨k + 1, hlt, mu1 hlt, wLe rfl rfl rfl rfl rfl ek trivial rfl⟩
    · have d47 : decide ((k : Int) < ((n.ps.length + 1 : Nat) : Int)) = false := decide_eq_false (by omega)
      exact ACode.vcM (.br 47 false .nil) hn hl (.round .cl) ⟨d47, _, .refl _, .nil, [], by kernel_rfl⟩
theorem law_water (n : Nt) (b : Int) (_ : 0 ≤ b) (_ : b ≤ 255) : APure Tryd.prog 8 [encN n, .int .u8 b] (.bool true) := by
  cases hb : netB n
  · have sR := ready_spec n
    rw [hb] at sR
    exact APure.vc Tryd.func8 rfl (.call (.bool true) <| .call (.bool false) .nil) rfl rfl (kmp (by kernel_rfl) <| And.intro alive_spec <| And.intro sR <| And.intro trivial rTrue)
  · exact water_core n b (netB_iff.1 hb)
end Go.Proofs.YtcbdggmojnnbdaaDoor
