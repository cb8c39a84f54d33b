import Derived.Test.YtoeankkhjpijlaaGreatDoorR5
import Derived.Test.YtoeankkhjpijlaaGreatDoorLN
/-
  WHEN THE FIRE COMES, as the laws work it out: the walk.
-/
namespace Go.Proofs.YtoeankkhjpijlaaGreatDoor
open Go Go.Am
set_option maxRecDepth 100000
set_option maxHeartbeats 4000000
def nvrR (k : Nat) : Row := fun i => if i < k then nvr else 0
theorem nvrZero (n : Nat) : List.replicate n (0 : Int) = rowI n (nvrR 0) := by
  rw [nevZero]
  refine rowI_ext fun x _ => ?_
  unfold nevR nvrR
  rw [if_neg (Nat.not_lt_zero _), if_neg (Nat.not_lt_zero _)]
theorem nvrStep {n k : Nat} (hk : k < n) : (rowI n (nvrR k)).set k 1073741824 = rowI n (nvrR (k + 1)) := by
  rw [rowI_set _ _ hk]
  refine rowI_ext fun x _ => ?_
  unfold nvrR
  by_cases e : x = k
  · subst e; rw [if_pos rfl, if_pos (Nat.lt_succ_self _)]
  · rw [if_neg e]
    by_cases q : x < k
    · rw [if_pos q, if_pos (by omega)]
    · rw [if_neg q, if_neg (by omega)]
theorem at_step {n r : Nat} (t : Int) (hr : r < n) : (rowI n (nvrR n)).set r t = rowI n (rowAt r t) := by
  rw [rowI_set _ _ hr]
  refine rowI_ext fun x hx => ?_
  unfold nvrR rowAt
  by_cases e : x = r
  · rw [if_pos e, if_pos e]
  · rw [if_neg e, if_neg e, if_pos hx]
def preC (E : List Edg) (d0 : Row) (k j : Nat) : Row := (E.take j).foldl (stepC nvr) (comeV nvr E k d0)
theorem prc_succ {E : List Edg} {d0 : Row} {k j : Nat} {e : Edg} (h : E[j]? = some e) : preC E d0 k (j + 1) = stepC nvr (preC E d0 k j) e := by
  unfold preC
  rw [List.take_add_one, h, List.foldl_append]; rfl
theorem prc_end {E : List Edg} {d0 : Row} {k j : Nat} (h : E.length ≤ j) : preC E d0 k j = comeV nvr E (k + 1) d0 := by
  unfold preC
  rw [List.take_of_length_le h]; rfl
def bdN (d : Row) : Prop := ∀ x, 0 ≤ d x ∧ d x ≤ nvr
theorem bdN_side {d : Row} (h : bdN d) {a b : Nat} {w : Int} (hw : 0 ≤ w) : bdN (sideC nvr d a b w) := by
  intro x
  have h1 := h x
  have h2 := h a
  have h3 := h b
  unfold sideC
  split
  · show 0 ≤ (if x = b then min (d b) (d a + w) else d x) ∧ (if x = b then min (d b) (d a + w) else d x) ≤ nvr
    split <;> omega
  · exact h1
theorem bdN_step {d : Row} (h : bdN d) {e : Edg} (he : 0 ≤ e.2.2) : bdN (stepC nvr d e) := bdN_side (bdN_side h he) he
theorem bdN_round {E : List Edg} (hE : ∀ e ∈ E, 0 ≤ e.2.2) : ∀ {L : List Edg} {d : Row}, (∀ e ∈ L, e ∈ E) → bdN d → bdN (L.foldl (stepC nvr) d) := by
  intro L
  induction L with
  | nil => intro d _ h; exact h
  | cons e L ih => intro d hL h; exact ih (fun x hx => hL x (List.mem_cons_of_mem _ hx)) (bdN_step h (hE e (hL e List.mem_cons_self)))
theorem bdN_come {E : List Edg} (hE : ∀ e ∈ E, 0 ≤ e.2.2) {d : Row} (h : bdN d) : ∀ k, bdN (comeV nvr E k d) := by
  intro k
  induction k with
  | zero => exact h
  | succ k ih => exact bdN_round hE (fun _ q => q) ih
theorem bdN_pre {E : List Edg} (hE : ∀ e ∈ E, 0 ≤ e.2.2) {d : Row} (h : bdN d) (k j : Nat) : bdN (preC E d k j) := bdN_round hE (fun _ q => List.mem_of_mem_take q) (bdN_come hE h k)
theorem bdN_at (r : Nat) {t : Int} (ht : 0 ≤ t ∧ t ≤ 600) : bdN (rowAt r t) := by
  intro x
  unfold rowAt
  split <;> (unfold nvr; omega)
theorem side_set {n a b : Nat} (d : Row) (w : Int) (hb : b < n) (h : d a ≠ nvr) : (rowI n d).set b (min (d b) (d a + w)) = rowI n (sideC nvr d a b w) := by
  rw [rowI_set _ _ hb]
  refine rowI_ext fun x _ => ?_
  unfold sideC
  rw [if_pos h]
theorem side_no {a b : Nat} (d : Row) (w : Int) (h : d a = nvr) : sideC nvr d a b w = d := by
  unfold sideC
  rw [if_neg (not_not_intro h)]
theorem comes_spec (s : Scn) (hs : ScOk s) (ds : List Int) (hd : areD (gSp s.gates) ds) {r : Nat} (hr : r < nR s) {t : Int} (ht : 0 ≤ t ∧ t ≤ 600) : APureF Tryz.prog 39 [encSc s, .int .i64 (r : Int), .int .i64 t, encR ds] (encR (rowI (nR s) (comeP s ds r t))) := by
  have hdl := ds_len hs hd
  obtain ⟨hnr, hn1, hn6⟩ := nR_eq hs
  have hgl := hs.gl
  have hE0 : ∀ e ∈ (edgs s.gates ds), 0 ≤ e.2.2 := fun e he => by
    have := (gok_of hs hd).lo e.1 e.2.1 e.2.2 (.inl he); exact this
  have hwb : ∀ d ∈ ds, -1000000 ≤ d ∧ d ≤ 1000000 := ds_bd hs hd
  have hel : (edgs s.gates ds).length = s.gates.length := by unfold edgs; rw [List.length_zipWith]; omega
  have hmk := rmkI (id := 1) (n := nR s) (by omega)
  rw [hnr] at hmk
  rw [nvrZero] at hmk
  refine APureF.vcM Tryz.func39 (.val 15 (.rsl 1 0 (nR s) 1) [(1, some (.cells (iL (rowI (nR s) (nvrR 0)))))] .loop) (by kernel_rfl) (by kernel_rfl) ⟨Eq.trans (by kernel_rfl) hmk, ?_⟩
  intro g hn hlo
  replace hn : g.n = 96 := hn
  replace hlo : g.low 0 := hlo
  refine acode_while (fun k : Nat => ⟨[(1, .int .i64 (r : Int)), (2, .int .i64 t), (3, encR ds), (4, .vptr 0 0), (9, .rsl 1 0 (nR s) 1), (17, .int .i64 (nR s)), (18, .int .i64 k)], [(0, .cells (cSc s)), (1, .cells (iL (rowI (nR s) (nvrR k))))], 2⟩) (fun k => k ≤ nR s) (fun k => nR s - k) 0 (Nat.zero_le _) ?_ (fun _ _ => hlo.mono (Nat.zero_le _)) ?_
  · exact St.le.of ⟨by kernel_rfl, rfl, by kernel_rfl, rfl, by kernel_rfl, rfl, by kernel_rfl, rfl, by kernel_rfl, rfl, by kernel_rfl, rfl, by kernel_rfl, rfl, trivial⟩ ⟨by kernel_rfl, (by decide : (0 : Nat) < 2), by kernel_rfl, by kernel_rfl, (by decide : (1 : Nat) < 2), iL_ok _ _, trivial⟩
  · intro k hk
    replace hk : k ≤ nR s := hk
    by_cases hlt : k < nR s
    · have ek := congrArg (AV.int .i64) (succ64 (k := k) (by omega))
      have c : decide ((k : Int) < (nR s : Int)) = true := decide_eq_true (by omega)
      have ix := ixI (h := hget []) (id := 1) (n := nR s) (i := (k : Int)) rfl hlt
      have st := stI (h := hget [(1, .cells (iL (rowI (nR s) (nvrR k))))]) (id := 1) (l := rowI (nR s) (nvrR k)) (k := k) (x := 1073741824) rfl (by rw [rowI_len]; exact hlt)
      rw [nvrStep hlt] at st
      exact ACode.vcM (.br 19 true <| .val 23 (.vptr 1 k) [] <| .val 1 .undef [(1, some (.cells (iL (rowI (nR s) (nvrR (k + 1))))))] .nil) hn hlo (.round .cl) ⟨c, Eq.trans (by kernel_rfl) ix, Eq.trans (by kernel_rfl) st, k + 1, hlt, mu1 hlt,
        St.le.of ⟨by kernel_rfl, rfl, by kernel_rfl, rfl, by kernel_rfl, rfl, by kernel_rfl, rfl, by kernel_rfl, rfl, by kernel_rfl, rfl, Eq.trans (by kernel_rfl) ek, rfl, trivial⟩ ⟨by kernel_rfl, (by decide : (0 : Nat) < 2), by kernel_rfl, by kernel_rfl, (by decide : (1 : Nat) < 2), iL_ok _ _, trivial⟩⟩
    · have hk' : k = nR s := by omega
      have c : decide ((k : Int) < (nR s : Int)) = false := decide_eq_false (by omega)
      have ix := ixI (h := hget []) (id := 1) (n := nR s) (i := (r : Int)) rfl hr
      have st := stI (h := hget [(1, .cells (iL (rowI (nR s) (nvrR k))))]) (id := 1) (l := rowI (nR s) (nvrR k)) (k := r) (x := t) rfl (by rw [rowI_len]; exact hr)
      have eb : (rowI (nR s) (nvrR k)).set r t = rowI (nR s) (rowAt r t) := by rw [hk']; exact at_step t hr
      rw [eb] at st
      refine ACode.vcM (.br 19 false .nil) hn hlo (.round .cl) ⟨c, _, .refl _, .val 28 (.vptr 1 r) [] <| .val 1 .undef [(1, some (.cells (iL (rowI (nR s) (rowAt r t)))))] .loop, Eq.trans (by kernel_rfl) ix, Eq.trans (by kernel_rfl) st, ?_⟩
      intro g hn hlo
      replace hn : g.n = 96 := hn
      replace hlo : g.low 0 := hlo
      refine acode_while (fun k : Nat => ⟨[(1, .int .i64 (r : Int)), (2, .int .i64 t), (3, encR ds), (4, .vptr 0 0), (9, .rsl 1 0 (nR s) 1), (30, .int .i64 s.rooms), (31, .int .i64 k)], [(0, .cells (cSc s)), (1, .cells (iL (rowI (nR s) (comeV nvr (edgs s.gates ds) k (rowAt r t)))))], 2⟩) (fun k => k ≤ nR s) (fun k => nR s - k) 0 (Nat.zero_le _) ?_ (fun _ _ => hlo.mono (Nat.zero_le _)) ?_
      · exact St.le.of ⟨by kernel_rfl, rfl, by kernel_rfl, rfl, by kernel_rfl, rfl, by kernel_rfl, rfl, by kernel_rfl, rfl, by kernel_rfl, rfl, by kernel_rfl, rfl, trivial⟩ ⟨by kernel_rfl, (by decide : (0 : Nat) < 2), by kernel_rfl, by kernel_rfl, (by decide : (1 : Nat) < 2), iL_ok _ _, trivial⟩
      · intro k hk
        replace hk : k ≤ nR s := hk
        by_cases hlt : k < nR s
        · have ek := congrArg (AV.int .i64) (succ64 (k := k) (by omega))
          have c : decide ((k : Int) < s.rooms) = true := decide_eq_true (by omega)
          refine ACode.vcM (.br 32 true .loop) hn hlo (.round .cl) ⟨c, ?_⟩
          intro g hn hlo
          replace hn : g.n = 96 := hn
          replace hlo : g.low 0 := hlo
          refine acode_while (fun j : Nat => ⟨[(1, .int .i64 (r : Int)), (2, .int .i64 t), (3, encR ds), (4, .vptr 0 0), (9, .rsl 1 0 (nR s) 1), (30, .int .i64 s.rooms), (31, .int .i64 k), (34, encGs s.gates), (35, .int .i64 (s.gates.map cGt).length), (36, .int .i64 j)], [(0, .cells (cSc s)), (1, .cells (iL (rowI (nR s) (preC (edgs s.gates ds) (rowAt r t) k j))))], 2⟩) (fun j => j ≤ s.gates.length) (fun j => s.gates.length - j) 0 (Nat.zero_le _) ?_ (fun _ _ => hlo.mono (Nat.zero_le _)) ?_
          · exact St.le.of ⟨by kernel_rfl, rfl, by kernel_rfl, rfl, by kernel_rfl, rfl, by kernel_rfl, rfl, by kernel_rfl, rfl, by kernel_rfl, rfl, by kernel_rfl, rfl, by kernel_rfl, rfl, by kernel_rfl, rfl, by kernel_rfl, rfl, trivial⟩ ⟨by kernel_rfl, (by decide : (0 : Nat) < 2), by kernel_rfl, by kernel_rfl, (by decide : (1 : Nat) < 2), iL_ok _ _, trivial⟩
          · intro j hj
            replace hj : j ≤ s.gates.length := hj
            by_cases hlj : j < s.gates.length
            · refine Exists.elim (getE hlj) fun x hx => ?_
              refine Exists.elim (getE (show j < ds.length by omega)) fun w hw => ?_
              have ej := congrArg (AV.int .i64) (succ64 (k := j) (by omega))
              have hg := gtB_iff.1 (hs.gs x (List.mem_of_getElem? hx))
              have hee := edgs_get hx hw
              have hw0 : 0 ≤ w := hE0 _ (List.mem_of_getElem? hee)
              have hps : preC (edgs s.gates ds) (rowAt r t) k (j + 1) = sideC nvr (sideC nvr (preC (edgs s.gates ds) (rowAt r t) k j) x.a.toNat x.b.toNat w) x.b.toNat x.a.toNat w := prc_succ hee
              have hbd := bdN_pre hE0 (bdN_at r ht) k j
              have hwd := hwb w (List.mem_of_getElem? hw)
              have ea : x.a = ((x.a.toNat : Nat) : Int) := by omega
              have eb : x.b = ((x.b.toNat : Nat) : Int) := by omega
              have ha : x.a.toNat < nR s := by omega
              have hb : x.b.toNat < nR s := by omega
              have c : decide ((j : Int) < ((s.gates.map cGt).length : Int)) = true := ltLen hlj
              have ga := rowI_get (preC (edgs s.gates ds) (rowAt r t) k j) ha
              have gb := rowI_get (preC (edgs s.gates ds) (rowAt r t) k j) hb
              have hl0 := rowI_len (nR s) (preC (edgs s.gates ds) (rowAt r t) k j)
              have hbd1 : bdN (sideC nvr (preC (edgs s.gates ds) (rowAt r t) k j) x.a.toNat x.b.toNat w) := bdN_side hbd hw0
              have ga1 := rowI_get (sideC nvr (preC (edgs s.gates ds) (rowAt r t) k j) x.a.toNat x.b.toNat w) ha
              have gb1 := rowI_get (sideC nvr (preC (edgs s.gates ds) (rowAt r t) k j) x.a.toNat x.b.toNat w) hb
              have hl1 := rowI_len (nR s) (sideC nvr (preC (edgs s.gates ds) (rowAt r t) k j) x.a.toNat x.b.toNat w)
              have s1 := side_set (n := nR s) (a := x.a.toNat) (preC (edgs s.gates ds) (rowAt r t) k j) w hb
              have s2 := side_set (n := nR s) (a := x.b.toNat) (sideC nvr (preC (edgs s.gates ds) (rowAt r t) k j) x.a.toNat x.b.toNat w) w ha
              have z1 := side_no (a := x.a.toNat) (b := x.b.toNat) (preC (edgs s.gates ds) (rowAt r t) k j) w
              have z2 := side_no (a := x.b.toNat) (b := x.a.toNat) (sideC nvr (preC (edgs s.gates ds) (rowAt r t) k j) x.a.toNat x.b.toNat w) w
              replace z1 : _ → rowI (nR s) (sideC nvr (preC (edgs s.gates ds) (rowAt r t) k j) x.a.toNat x.b.toNat w) = rowI (nR s) (preC (edgs s.gates ds) (rowAt r t) k j) := fun q => congrArg (rowI (nR s)) (z1 q)
              replace z2 : _ → rowI (nR s) (sideC nvr (sideC nvr (preC (edgs s.gates ds) (rowAt r t) k j) x.a.toNat x.b.toNat w) x.b.toNat x.a.toNat w) = rowI (nR s) (sideC nvr (preC (edgs s.gates ds) (rowAt r t) k j) x.a.toNat x.b.toNat w) := fun q => congrArg (rowI (nR s)) (z2 q)
              have eF0 : rowI (nR s) (sideC nvr (sideC nvr (preC (edgs s.gates ds) (rowAt r t) k j) x.a.toNat x.b.toNat w) x.b.toNat x.a.toNat w) = rowI (nR s) (preC (edgs s.gates ds) (rowAt r t) k (j + 1)) := by rw [hps]
              have ba := hbd x.a.toNat
              have bb := hbd x.b.toNat
              have ba1 := hbd1 x.a.toNat
              have bb1 := hbd1 x.b.toNat
              generalize rowI (nR s) (sideC nvr (sideC nvr (preC (edgs s.gates ds) (rowAt r t) k j) x.a.toNat x.b.toNat w) x.b.toNat x.a.toNat w) = R2 at *
              generalize rowI (nR s) (sideC nvr (preC (edgs s.gates ds) (rowAt r t) k j) x.a.toNat x.b.toNat w) = R1 at *
              generalize rowI (nR s) (preC (edgs s.gates ds) (rowAt r t) k j) = R at *
              generalize sideC nvr (preC (edgs s.gates ds) (rowAt r t) k j) x.a.toNat x.b.toNat w x.a.toNat = da1 at *
              generalize sideC nvr (preC (edgs s.gates ds) (rowAt r t) k j) x.a.toNat x.b.toNat w x.b.toNat = db1 at *
              generalize preC (edgs s.gates ds) (rowAt r t) k j x.a.toNat = da at *
              generalize preC (edgs s.gates ds) (rowAt r t) k j x.b.toNat = db at *
              have ixa := ixI (h := hget []) (id := 1) (n := nR s) (i := x.a) (k := x.a.toNat) ea ha
              have ixb := ixI (h := hget []) (id := 1) (n := nR s) (i := x.b) (k := x.b.toNat) eb hb
              have lda := ldI (h := hget [(1, .cells (iL R))]) (id := 1) (l := R) rfl ga
              have ldb := ldI (h := hget [(1, .cells (iL R))]) (id := 1) (l := R) rfl gb
              have lda1 := ldI (h := hget [(1, .cells (iL R1))]) (id := 1) (l := R1) rfl ga1
              have ldb1 := ldI (h := hget [(1, .cells (iL R1))]) (id := 1) (l := R1) rfl gb1
              have bn : nvr = 1073741824 := rfl
              have wa : some (⟨.int .i64 (IntKind.i64.wrap (da + w)), []⟩ : Out) = some ⟨.int .i64 (da + w), []⟩ := by rw [wrap64 (by omega) (by omega)]
              have wb : some (⟨.int .i64 (IntKind.i64.wrap (db1 + w)), []⟩ : Out) = some ⟨.int .i64 (db1 + w), []⟩ := by rw [wrap64 (by omega) (by omega)]
              have mb := minV (x := db) (y := da + w) rfl
              have ma := minV (x := da1) (y := db1 + w) rfl
              generalize min db (da + w) = B at *
              generalize min da1 (db1 + w) = A at *
              have stb := stI (h := hget [(1, .cells (iL R))]) (id := 1) (l := R) (k := x.b.toNat) (x := B) rfl (by omega)
              have sta := stI (h := hget [(1, .cells (iL R1))]) (id := 1) (l := R1) (k := x.a.toNat) (x := A) rfl (by omega)
              have eF : some (AObj.cells (iL R2)) = some (.cells (iL (rowI (nR s) (preC (edgs s.gates ds) (rowAt r t) k (j + 1))))) := by rw [eF0]
              by_cases c1 : da = 1073741824
              · have n1 : (da != 1073741824) = false := by rw [c1]; rfl
                by_cases c2 : db1 = 1073741824
                · have n2 : (db1 != 1073741824) = false := by rw [c2]; rfl
                  rw [z2 c2, z1 c1] at eF
                  rw [z1 c1] at ldb1
                  exact ACode.vcM (.br 37 true <| .cells (cGt x) <| .val 44 (.vptr 1 x.a.toNat) [] <| .val 45 (.int .i64 da) [] <| .br 46 false <| .val 70 (.vptr 1 x.b.toNat) [] <| .val 71 (.int .i64 db1) [] <| .br 72 false .nil) hn hlo (.round .cl) ⟨c, idx hx, Eq.trans (by kernel_rfl) ixa, Eq.trans (by kernel_rfl) lda, n1, Eq.trans (by kernel_rfl) ixb, Eq.trans (by kernel_rfl) ldb1, n2, j + 1, hlj, mu1 hlj, St.le.of ⟨by kernel_rfl, rfl, by kernel_rfl, rfl, by kernel_rfl, rfl, by kernel_rfl, rfl, by kernel_rfl, rfl, by kernel_rfl, rfl, by kernel_rfl, rfl, by kernel_rfl, rfl, by kernel_rfl, rfl, Eq.trans (by kernel_rfl) ej, rfl, trivial⟩ ⟨by kernel_rfl, (by decide : (0 : Nat) < 2), by kernel_rfl, Eq.trans (by kernel_rfl) eF, (by decide : (1 : Nat) < 2), iL_ok _ _, trivial⟩⟩
                · have n2 : (db1 != 1073741824) = true := bne_iff_ne.2 c2
                  rw [s2 c2, z1 c1] at sta
                  rw [z1 c1] at ldb1 lda1
                  exact ACode.vcM (.br 37 true <| .cells (cGt x) <| .val 44 (.vptr 1 x.a.toNat) [] <| .val 45 (.int .i64 da) [] <| .br 46 false <| .val 70 (.vptr 1 x.b.toNat) [] <| .val 71 (.int .i64 db1) [] <| .br 72 true <| .draw 19 <| .val 79 (.vptr 1 x.a.toNat) [] <| .val 80 (.int .i64 da1) [] <| .val 84 (.vptr 1 x.b.toNat) [] <| .val 85 (.int .i64 db1) [] <| .cells (encI w) <| .val 90 (.int .i64 (db1 + w)) [] <| .val 91 (.int .i64 A) [] <| .val 92 (.vptr 1 x.a.toNat) [] <| .val 1 .undef [(1, some (.cells (iL R2)))] .nil) hn hlo (.round .cl) ⟨c, idx hx, Eq.trans (by kernel_rfl) ixa, Eq.trans (by kernel_rfl) lda, n1, Eq.trans (by kernel_rfl) ixb, Eq.trans (by kernel_rfl) ldb1, n2, by kernel_rfl, mixed, by kernel_rfl, Eq.trans (by kernel_rfl) ixa, Eq.trans (by kernel_rfl) lda1, Eq.trans (by kernel_rfl) ixb, Eq.trans (by kernel_rfl) ldb1, idx hw, Eq.trans (by kernel_rfl) wb, Eq.trans (by kernel_rfl) ma, by kernel_rfl, Eq.trans (by kernel_rfl) ixa, Eq.trans (by kernel_rfl) sta, j + 1, hlj, mu1 hlj, St.le.of ⟨by kernel_rfl, rfl, by kernel_rfl, rfl, by kernel_rfl, rfl, by kernel_rfl, rfl, by kernel_rfl, rfl, by kernel_rfl, rfl, by kernel_rfl, rfl, by kernel_rfl, rfl, by kernel_rfl, rfl, Eq.trans (by kernel_rfl) ej, rfl, trivial⟩ ⟨by kernel_rfl, (by decide : (0 : Nat) < 2), by kernel_rfl, Eq.trans (by kernel_rfl) eF, (by decide : (1 : Nat) < 2), iL_ok _ _, trivial⟩⟩
              · have n1 : (da != 1073741824) = true := bne_iff_ne.2 c1
                rw [s1 c1] at stb
                by_cases c2 : db1 = 1073741824
                · have n2 : (db1 != 1073741824) = false := by rw [c2]; rfl
                  rw [z2 c2] at eF
                  exact ACode.vcM (.br 37 true <| .cells (cGt x) <| .val 44 (.vptr 1 x.a.toNat) [] <| .val 45 (.int .i64 da) [] <| .br 46 true <| .draw 19 <| .val 53 (.vptr 1 x.b.toNat) [] <| .val 54 (.int .i64 db) [] <| .val 58 (.vptr 1 x.a.toNat) [] <| .val 59 (.int .i64 da) [] <| .cells (encI w) <| .val 64 (.int .i64 (da + w)) [] <| .val 65 (.int .i64 B) [] <| .val 66 (.vptr 1 x.b.toNat) [] <| .val 1 .undef [(1, some (.cells (iL R1)))] <| .val 70 (.vptr 1 x.b.toNat) [] <| .val 71 (.int .i64 db1) [] <| .br 72 false .nil) hn hlo (.round .cl) ⟨c, idx hx, Eq.trans (by kernel_rfl) ixa, Eq.trans (by kernel_rfl) lda, n1, by kernel_rfl, mixed, by kernel_rfl, Eq.trans (by kernel_rfl) ixb, Eq.trans (by kernel_rfl) ldb, Eq.trans (by kernel_rfl) ixa, Eq.trans (by kernel_rfl) lda, idx hw, Eq.trans (by kernel_rfl) wa, Eq.trans (by kernel_rfl) mb, by kernel_rfl, Eq.trans (by kernel_rfl) ixb, Eq.trans (by kernel_rfl) stb, Eq.trans (by kernel_rfl) ixb, Eq.trans (by kernel_rfl) ldb1, n2, j + 1, hlj, mu1 hlj, St.le.of ⟨by kernel_rfl, rfl, by kernel_rfl, rfl, by kernel_rfl, rfl, by kernel_rfl, rfl, by kernel_rfl, rfl, by kernel_rfl, rfl, by kernel_rfl, rfl, by kernel_rfl, rfl, by kernel_rfl, rfl, Eq.trans (by kernel_rfl) ej, rfl, trivial⟩ ⟨by kernel_rfl, (by decide : (0 : Nat) < 2), by kernel_rfl, Eq.trans (by kernel_rfl) eF, (by decide : (1 : Nat) < 2), iL_ok _ _, trivial⟩⟩
                · have n2 : (db1 != 1073741824) = true := bne_iff_ne.2 c2
                  rw [s2 c2] at sta
                  exact ACode.vcM (.br 37 true <| .cells (cGt x) <| .val 44 (.vptr 1 x.a.toNat) [] <| .val 45 (.int .i64 da) [] <| .br 46 true <| .draw 19 <| .val 53 (.vptr 1 x.b.toNat) [] <| .val 54 (.int .i64 db) [] <| .val 58 (.vptr 1 x.a.toNat) [] <| .val 59 (.int .i64 da) [] <| .cells (encI w) <| .val 64 (.int .i64 (da + w)) [] <| .val 65 (.int .i64 B) [] <| .val 66 (.vptr 1 x.b.toNat) [] <| .val 1 .undef [(1, some (.cells (iL R1)))] <| .val 70 (.vptr 1 x.b.toNat) [] <| .val 71 (.int .i64 db1) [] <| .br 72 true <| .draw 19 <| .val 79 (.vptr 1 x.a.toNat) [] <| .val 80 (.int .i64 da1) [] <| .val 84 (.vptr 1 x.b.toNat) [] <| .val 85 (.int .i64 db1) [] <| .cells (encI w) <| .val 90 (.int .i64 (db1 + w)) [] <| .val 91 (.int .i64 A) [] <| .val 92 (.vptr 1 x.a.toNat) [] <| .val 1 .undef [(1, some (.cells (iL R2)))] .nil) hn hlo (.round .cl) ⟨c, idx hx, Eq.trans (by kernel_rfl) ixa, Eq.trans (by kernel_rfl) lda, n1, by kernel_rfl, mixed, by kernel_rfl, Eq.trans (by kernel_rfl) ixb, Eq.trans (by kernel_rfl) ldb, Eq.trans (by kernel_rfl) ixa, Eq.trans (by kernel_rfl) lda, idx hw, Eq.trans (by kernel_rfl) wa, Eq.trans (by kernel_rfl) mb, by kernel_rfl, Eq.trans (by kernel_rfl) ixb, Eq.trans (by kernel_rfl) stb, Eq.trans (by kernel_rfl) ixb, Eq.trans (by kernel_rfl) ldb1, n2, by kernel_rfl, mixed, by kernel_rfl, Eq.trans (by kernel_rfl) ixa, Eq.trans (by kernel_rfl) lda1, Eq.trans (by kernel_rfl) ixb, Eq.trans (by kernel_rfl) ldb1, idx hw, Eq.trans (by kernel_rfl) wb, Eq.trans (by kernel_rfl) ma, by kernel_rfl, Eq.trans (by kernel_rfl) ixa, Eq.trans (by kernel_rfl) sta, j + 1, hlj, mu1 hlj, St.le.of ⟨by kernel_rfl, rfl, by kernel_rfl, rfl, by kernel_rfl, rfl, by kernel_rfl, rfl, by kernel_rfl, rfl, by kernel_rfl, rfl, by kernel_rfl, rfl, by kernel_rfl, rfl, by kernel_rfl, rfl, Eq.trans (by kernel_rfl) ej, rfl, trivial⟩ ⟨by kernel_rfl, (by decide : (0 : Nat) < 2), by kernel_rfl, Eq.trans (by kernel_rfl) eF, (by decide : (1 : Nat) < 2), iL_ok _ _, trivial⟩⟩
            · have e1 : some (AObj.cells (iL (rowI (nR s) (preC (edgs s.gates ds) (rowAt r t) k j)))) = some (.cells (iL (rowI (nR s) (comeV nvr (edgs s.gates ds) (k + 1) (rowAt r t))))) := by rw [prc_end (by omega)]
              exact ACode.vcM (.br 37 false .nil) hn hlo (.round .cl) ⟨geLen hlj, _, .refl _, .nil, k + 1, hlt, mu1 hlt,
                St.le.of ⟨by kernel_rfl, rfl, by kernel_rfl, rfl, by kernel_rfl, rfl, by kernel_rfl, rfl, by kernel_rfl, rfl, by kernel_rfl, rfl, Eq.trans (by kernel_rfl) ek, rfl, trivial⟩ ⟨by kernel_rfl, (by decide : (0 : Nat) < 2), by kernel_rfl, Eq.trans (by kernel_rfl) e1, (by decide : (1 : Nat) < 2), iL_ok _ _, trivial⟩⟩
        · have c : decide ((k : Int) < s.rooms) = false := decide_eq_false (by omega)
          have hk' : k = nR s := by omega
          have th := fun (h : Nat → Option AObj) (h0 : h 1 = some (.cells (iL (rowI (nR s) (comeV nvr (edgs s.gates ds) k (rowAt r t)))))) => (show thawF 8 h (.rsl 1 0 (nR s) 1) = some (encR (rowI (nR s) (comeP s ds r t)), [1]) by
            have e := thawF_ints 6 h0
            rw [rowI_len, hk'] at e; exact e)
          exact ACode.vcM (.br 32 false .nil) hn hlo (.round .cl) ⟨c, _, .refl _, .nil, [1], th _ (by kernel_rfl)⟩
end Go.Proofs.YtoeankkhjpijlaaGreatDoor
/-
  WHAT IS SO, WHAT IS INSIDE, WHAT IS A TRUTH, as the laws ask it.
-/
namespace Go.Proofs.YtoeankkhjpijlaaGreatDoor
open Go Go.Am
set_option maxRecDepth 100000
set_option maxHeartbeats 4000000
theorem so1 (s : Scn) (_hf : 0 ≤ s.fin ∧ s.fin ≤ 100000) (i r x lo hi l : Int) (fl : List Int) {c : Int} (_hc : 0 ≤ c ∧ c ≤ nvr) (hr : 0 ≤ r ∧ (fl.map encI)[r.toNat]? = some (encI c)) :
    APure Tryz.prog 40 [encSc s, .agg (cMj i 1 r x lo hi l), encR fl] (.bool (decide (c ≥ lo) && decide (c ≤ hi))) := by
  by_cases q : c ≥ lo
  · have e : (decide (c ≥ lo) && decide (c ≤ hi)) = decide (c ≤ hi) := by rw [decide_eq_true q]; rfl
    rw [e]
    exact APure.vc Tryz.func40 rfl (.cells (encI c) <| .br 22 true .nil) rfl rfl ⟨hr, decide_eq_true q, trivial, by kernel_rfl⟩
  · have e : (decide (c ≥ lo) && decide (c ≤ hi)) = false := by rw [decide_eq_false q]; rfl
    rw [e]
    exact APure.vc Tryz.func40 rfl (.cells (encI c) <| .br 22 false .nil) rfl rfl ⟨hr, decide_eq_false q, trivial, by kernel_rfl⟩
theorem so2 (s : Scn) (_hf : 0 ≤ s.fin ∧ s.fin ≤ 100000) (i r x lo hi l : Int) (fl : List Int) {c : Int} (_hc : 0 ≤ c ∧ c ≤ nvr) (hr : 0 ≤ r ∧ (fl.map encI)[r.toNat]? = some (encI c)) :
    APure Tryz.prog 40 [encSc s, .agg (cMj i 2 r x lo hi l), encR fl] (.bool (decide (c > lo))) := by
  exact APure.vc Tryz.func40 rfl (.cells (encI c) .nil) rfl rfl ⟨hr, trivial, by kernel_rfl⟩
theorem so3 (s : Scn) (_hf : 0 ≤ s.fin ∧ s.fin ≤ 100000) (i r x lo hi l : Int) (fl : List Int) {c : Int} (_hc : 0 ≤ c ∧ c ≤ nvr) (hr : 0 ≤ r ∧ (fl.map encI)[r.toNat]? = some (encI c)) :
    APure Tryz.prog 40 [encSc s, .agg (cMj i 3 r x lo hi l), encR fl] (.bool (decide (c ≤ hi))) := by
  exact APure.vc Tryz.func40 rfl (.cells (encI c) .nil) rfl rfl ⟨hr, trivial, by kernel_rfl⟩
theorem so4 (s : Scn) (_hf : 0 ≤ s.fin ∧ s.fin ≤ 100000) (i r x lo hi l : Int) (fl : List Int) {c : Int} (_hc : 0 ≤ c ∧ c ≤ nvr) (hr : 0 ≤ r ∧ (fl.map encI)[r.toNat]? = some (encI c)) :
    APure Tryz.prog 40 [encSc s, .agg (cMj i 4 r x lo hi l), encR fl] (.bool (!(c == nvr) && decide (s.fin - c ≥ l))) := by
  have bn : nvr = 1073741824 := rfl
  have h1 : IntKind.i64.wrap (s.fin - c) = s.fin - c := wrap64 (by omega) (by omega)
  by_cases q : c = nvr
  · have e : (!(c == nvr) && decide (s.fin - c ≥ l)) = false := by rw [q, beq_self_eq_true]; rfl
    have b : (c != 1073741824) = false := by rw [q]; rfl
    rw [e]
    exact APure.vc Tryz.func40 rfl (.cells (encI c) <| .br 47 false .nil) rfl rfl ⟨hr, b, trivial, by kernel_rfl⟩
  · have e : (!(c == nvr) && decide (s.fin - c ≥ l)) = decide (s.fin - c ≥ l) := by rw [beq_eq_false_iff_ne.2 q]; rfl
    have b : (c != 1073741824) = true := bne_iff_ne.2 q
    have z : some (AV.bool (decide (IntKind.i64.wrap (s.fin - c) ≥ l))) = some (.bool (decide (s.fin - c ≥ l))) := by rw [h1]
    rw [e]
    exact APure.vc Tryz.func40 rfl (.cells (encI c) <| .br 47 true .nil) rfl rfl ⟨hr, b, trivial, Eq.trans (by kernel_rfl) z⟩
theorem so5 (s : Scn) (_hf : 0 ≤ s.fin ∧ s.fin ≤ 100000) (i r x lo hi l : Int) (fl : List Int) {c : Int} (_hc : 0 ≤ c ∧ c ≤ nvr) (hr : 0 ≤ r ∧ (fl.map encI)[r.toNat]? = some (encI c)) :
    APure Tryz.prog 40 [encSc s, .agg (cMj i 5 r x lo hi l), encR fl] (.bool (c == nvr || decide (s.fin - c < l))) := by
  have bn : nvr = 1073741824 := rfl
  have h1 : IntKind.i64.wrap (s.fin - c) = s.fin - c := wrap64 (by omega) (by omega)
  by_cases q : c = nvr
  · have e : (c == nvr || decide (s.fin - c < l)) = true := by rw [q, beq_self_eq_true]; rfl
    have b : (c == 1073741824) = true := by rw [q]; rfl
    rw [e]
    exact APure.vc Tryz.func40 rfl (.cells (encI c) <| .br 60 true .nil) rfl rfl ⟨hr, b, trivial, by kernel_rfl⟩
  · have e : (c == nvr || decide (s.fin - c < l)) = decide (s.fin - c < l) := by rw [beq_eq_false_iff_ne.2 q]; rfl
    have b : (c == 1073741824) = false := beq_eq_false_iff_ne.2 q
    have z : some (AV.bool (decide (IntKind.i64.wrap (s.fin - c) < l))) = some (.bool (decide (s.fin - c < l))) := by rw [h1]
    rw [e]
    exact APure.vc Tryz.func40 rfl (.cells (encI c) <| .br 60 false .nil) rfl rfl ⟨hr, b, trivial, Eq.trans (by kernel_rfl) z⟩
theorem so6 (s : Scn) (i r x lo hi l : Int) (fl : List Int) {c e : Int} (hr : 0 ≤ r ∧ (fl.map encI)[r.toNat]? = some (encI c)) (hx : 0 ≤ x ∧ (fl.map encI)[x.toNat]? = some (encI e)) :
    APure Tryz.prog 40 [encSc s, .agg (cMj i 6 r x lo hi l), encR fl] (.bool (decide (c < e))) := by
  exact APure.vc Tryz.func40 rfl (.cells (encI c) <| .cells (encI e) .nil) rfl rfl ⟨hr, hx, trivial, by kernel_rfl⟩
theorem so_spec (s : Scn) (hf : 0 ≤ s.fin ∧ s.fin ≤ 100000) (m : Mk) (hk : 1 ≤ m.kd.val ∧ m.kd.val ≤ 6) (fl : List Int) {c e : Int} (hc : 0 ≤ c ∧ c ≤ nvr)
    (hr : 0 ≤ m.room ∧ (fl.map encI)[m.room.toNat]? = some (encI c)) (hx : 0 ≤ m.other ∧ (fl.map encI)[m.other.toNat]? = some (encI e)) :
    APure Tryz.prog 40 [encSc s, .agg (cMk m), encR fl] (.bool (soB m s.fin c e)) := by
  rw [cMk_eq]
  unfold soB
  by_cases k1 : m.kd.val = 1
  · have := so1 s hf m.id m.room m.other m.lo m.hi m.long fl hc hr
    rw [if_pos k1, k1]; exact this
  by_cases k2 : m.kd.val = 2
  · have := so2 s hf m.id m.room m.other m.lo m.hi m.long fl hc hr
    rw [if_neg k1, if_pos k2, k2]; exact this
  by_cases k3 : m.kd.val = 3
  · have := so3 s hf m.id m.room m.other m.lo m.hi m.long fl hc hr
    rw [if_neg k1, if_neg k2, if_pos k3, k3]; exact this
  by_cases k4 : m.kd.val = 4
  · have := so4 s hf m.id m.room m.other m.lo m.hi m.long fl hc hr
    rw [if_neg k1, if_neg k2, if_neg k3, if_pos k4, k4]; exact this
  by_cases k5 : m.kd.val = 5
  · have := so5 s hf m.id m.room m.other m.lo m.hi m.long fl hc hr
    rw [if_neg k1, if_neg k2, if_neg k3, if_neg k4, if_pos k5, k5]; exact this
  have k6 : m.kd.val = 6 := by omega
  have := so6 s m.id m.room m.other m.lo m.hi m.long fl hr hx
  rw [if_neg k1, if_neg k2, if_neg k3, if_neg k4, if_neg k5, k6]; exact this
/-! ### inside -/
def insP (n : Int) (x : Spn) : Bool := decide (n ≥ x.1) && decide (n ≤ x.2)
def insB (l : List Spn) (n : Int) : Bool := l.any (insP n)
theorem insB_iff {l : List Spn} {n : Int} : insB l n = true ↔ inL l n := by
  unfold insB inL insP inS
  simp [List.any_eq_true]
theorem ins_snoc {l : List Spn} {n : Int} {k : Nat} {x : Spn} (h : l[k]? = some x) : insB (l.take (k + 1)) n = (insB (l.take k) n || insP n x) := by
  unfold insB
  rw [List.take_add_one, h, List.any_append]; simp
theorem inside_spec (l : List Spn) (hl : l.length ≤ 100000) (n : Int) : APure Tryz.prog 36 [encSps l, .int .i64 n] (.bool (insB l n)) := by
  refine APure.vcM Tryz.func36 .loop rfl rfl ?_
  intro g hn hlo
  replace hn : g.n = 24 := hn
  replace hlo : g.low 0 := hlo
  refine acode_while (fun k : Nat => ⟨[(1, .int .i64 n), (7, encSps l), (8, .int .i64 (l.map cSp).length), (9, .int .i64 k)], [], 0⟩) (fun k => k ≤ l.length ∧ insB (l.take k) n = false) (fun k => l.length - k) 0 ⟨Nat.zero_le _, rfl⟩ ?_ (fun _ _ => hlo) ?_
  · exact St.le.of ⟨by kernel_rfl, rfl, by kernel_rfl, rfl, by kernel_rfl, rfl, by kernel_rfl, rfl, trivial⟩ trivial
  · rintro k ⟨hk, hno⟩
    replace hk : k ≤ l.length := hk
    by_cases hlt : k < l.length
    · refine Exists.elim (getE hlt) fun x hx => ?_
      have ek := congrArg (AV.int .i64) (succ64 (k := k) (by omega))
      have es := ins_snoc (n := n) hx
      rw [hno, Bool.false_or] at es
      have hin : insP n x = true → insB l n = true := fun q => by
        unfold insB; exact List.any_eq_true.2 ⟨x, List.mem_of_getElem? hx, q⟩
      by_cases q1 : n ≥ x.1
      · by_cases q2 : n ≤ x.2
        · have e : insB l n = true := hin (by unfold insP; rw [decide_eq_true q1, decide_eq_true q2]; rfl)
          exact ACode.vcM (.br 10 true <| .cells (cSp x) <| .br 17 true <| .br 22 true .nil) hn hlo (.round .cl) ⟨ltLen hlt, idx hx, decide_eq_true q1, decide_eq_true q2, _, .refl _, .nil, [], Eq.trans (by kernel_rfl) (show some (AV.bool true, ([] : List Nat)) = some (.bool (insB l n), []) by rw [e])⟩
        · have e : insB (l.take (k + 1)) n = false := by rw [es]; unfold insP; rw [decide_eq_true q1, decide_eq_false q2]; rfl
          exact ACode.vcM (.br 10 true <| .cells (cSp x) <| .br 17 true <| .br 22 false .nil) hn hlo (.round .cl) ⟨ltLen hlt, idx hx, decide_eq_true q1, decide_eq_false q2, k + 1, ⟨hlt, e⟩, mu1 hlt, St.le.of ⟨by kernel_rfl, rfl, by kernel_rfl, rfl, by kernel_rfl, rfl, Eq.trans (by kernel_rfl) ek, rfl, trivial⟩ trivial⟩
      · have e : insB (l.take (k + 1)) n = false := by rw [es]; unfold insP; rw [decide_eq_false q1]; rfl
        exact ACode.vcM (.br 10 true <| .cells (cSp x) <| .br 17 false .nil) hn hlo (.round .cl) ⟨ltLen hlt, idx hx, decide_eq_false q1, k + 1, ⟨hlt, e⟩, mu1 hlt, St.le.of ⟨by kernel_rfl, rfl, by kernel_rfl, rfl, by kernel_rfl, rfl, Eq.trans (by kernel_rfl) ek, rfl, trivial⟩ trivial⟩
    · have e : insB l n = false := by rw [List.take_of_length_le (by omega)] at hno; exact hno
      exact ACode.vcM (.br 10 false .nil) hn hlo (.round .cl) ⟨geLen hlt, _, .refl _, .nil, [], Eq.trans (by kernel_rfl) (show some (AV.bool false, ([] : List Nat)) = some (.bool (insB l n), []) by rw [e])⟩
/-! ### a truth is one -/
theorem are_get : ∀ {L : List Spn} {ds : List Int}, areD L ds → ∀ {i : Nat} {p : Spn} {w : Int}, L[i]? = some p → ds[i]? = some w → p.1 ≤ w ∧ w ≤ p.2 := by
  intro L
  induction L with
  | nil => intro ds _ i p w h; simp at h
  | cons a L ih =>
    intro ds hd i p w h1 h2
    cases ds with
    | nil => simp at h2
    | cons d ds =>
      obtain ⟨q1, q2⟩ := hd
      cases i with
      | zero => simp at h1 h2; subst h1; subst h2; exact q1
      | succ i => exact ih q2 (by simpa using h1) (by simpa using h2)
theorem truth_true (s : Scn) (hs : ScOk s) {r : Nat} (hr : r < nR s) {t : Int} {ds : List Int} (ht : trueB s r t ds) : APure Tryz.prog 37 [encSc s, .int .i64 (r : Int), .int .i64 t, encR ds] (.bool true) := by
  obtain ⟨ht0, hd, hso⟩ := ht
  have hdl := ds_len hs hd
  have hf := hs.fin
  have hgl := hs.gl
  have hml := hs.ml
  obtain ⟨hnr, hn1, hn6⟩ := nR_eq hs
  have cm := (comes_spec s hs ds hd hr (t := t) ⟨by omega, by omega⟩).pure
  have b1 : decide (t < 0) = false := decide_eq_false (by omega)
  have b2 : decide (t > s.fin) = false := decide_eq_false (by omega)
  have b3 : (((ds.map encI).length : Int) != ((s.gates.map cGt).length : Int)) = false := by rw [List.length_map, List.length_map, hdl]; exact bne_self_eq_false _
  refine APure.vcM Tryz.func37 (.br 16 false <| .br 22 false <| .br 29 false .loop) rfl rfl ⟨b1, b2, b3, ?_⟩
  intro g hn hlo
  replace hn : g.n = 75 := hn
  replace hlo : g.low 0 := hlo
  refine acode_while (fun i : Nat => ⟨[(1, .int .i64 (r : Int)), (2, .int .i64 t), (3, encR ds), (4, .vptr 0 0), (31, encGs s.gates), (32, .int .i64 (s.gates.map cGt).length), (33, .int .i64 i)], [(0, .cells (cSc s))], 1⟩) (fun i => i ≤ s.gates.length) (fun i => s.gates.length - i) 0 (Nat.zero_le _) ?_ (fun _ _ => hlo.mono (Nat.zero_le _)) ?_
  · exact St.le.of ⟨by kernel_rfl, rfl, by kernel_rfl, rfl, by kernel_rfl, rfl, by kernel_rfl, rfl, by kernel_rfl, rfl, by kernel_rfl, rfl, by kernel_rfl, rfl, trivial⟩ ⟨by kernel_rfl, (by decide : (0 : Nat) < 1), by kernel_rfl, trivial⟩
  · intro i hi
    replace hi : i ≤ s.gates.length := hi
    by_cases hlt : i < s.gates.length
    · refine Exists.elim (getE hlt) fun x hx => ?_
      refine Exists.elim (getE (show i < ds.length by omega)) fun w hw => ?_
      have ei := congrArg (AV.int .i64) (succ64 (k := i) (by omega))
      have hp : (gSp s.gates)[i]? = some (x.lo, x.hi) := by unfold gSp; rw [List.getElem?_map, hx]; rfl
      have hb := are_get hd hp hw
      have c1 : decide (w < x.lo) = false := decide_eq_false (by have := hb.1; dsimp only at this; omega)
      have c2 : decide (w > x.hi) = false := decide_eq_false (by have := hb.2; dsimp only at this; omega)
      exact ACode.vcM (.br 34 true <| .cells (cGt x) <| .draw 16 <| .cells (encI w) <| .br 46 false <| .cells (encI w) <| .br 55 false .nil) hn hlo (.round .cl) ⟨ltLen hlt, idx hx, by kernel_rfl, mixed, by kernel_rfl, idx hw, c1, idx hw, by kernel_rfl, c2, i + 1, hlt, mu1 hlt,
        St.le.of ⟨by kernel_rfl, rfl, by kernel_rfl, rfl, by kernel_rfl, rfl, by kernel_rfl, rfl, by kernel_rfl, rfl, by kernel_rfl, rfl, Eq.trans (by kernel_rfl) ei, rfl, trivial⟩ ⟨by kernel_rfl, (by decide : (0 : Nat) < 1), by kernel_rfl, trivial⟩⟩
    · refine ACode.vcM (.br 34 false .nil) hn hlo (.round .cl) ⟨geLen hlt, _, .refl _, .call (encR (rowI (nR s) (comeP s ds r t))) .loop, cm, ?_⟩
      intro g hn hlo
      replace hn : g.n = 75 := hn
      replace hlo : g.low 0 := hlo
      refine acode_while (fun i : Nat => ⟨[(4, .vptr 0 0), (11, encR (rowI (nR s) (comeP s ds r t))), (63, encMs s.marks), (64, .int .i64 (s.marks.map cMk).length), (65, .int .i64 i)], [(0, .cells (cSc s))], 1⟩) (fun i => i ≤ s.marks.length) (fun i => s.marks.length - i) 0 (Nat.zero_le _) ?_ (fun _ _ => hlo.mono (Nat.zero_le _)) ?_
      · exact St.le.of ⟨by kernel_rfl, rfl, by kernel_rfl, rfl, by kernel_rfl, rfl, by kernel_rfl, rfl, by kernel_rfl, rfl, trivial⟩ ⟨by kernel_rfl, (by decide : (0 : Nat) < 1), by kernel_rfl, trivial⟩
      · intro i hi
        replace hi : i ≤ s.marks.length := hi
        by_cases hlt : i < s.marks.length
        · refine Exists.elim (getE hlt) fun m hm => ?_
          have ei := congrArg (AV.int .i64) (succ64 (k := i) (by omega))
          have hmem := List.mem_of_getElem? hm
          obtain ⟨m1, m2, _, m4, m5, m6, _⟩ := mk_rooms hs hmem
          have hE0 : ∀ e ∈ edgs s.gates ds, 0 ≤ e.2.2 := fun e he => by
            have := (gok_of hs hd).lo e.1 e.2.1 e.2.2 (.inl he); exact this
          have hbd := bdN_come hE0 (bdN_at r (t := t) ⟨by omega, by omega⟩) (nR s)
          have g1 := rowI_get (comeP s ds r t) m1
          have g2 := rowI_get (comeP s ds r t) m2
          have sp := so_spec s ⟨hf.1, by omega⟩ m ⟨m5, m6⟩ (rowI (nR s) (comeP s ds r t)) (c := comeP s ds r t (mrk m).room) (e := comeP s ds r t (mrk m).other) (hbd _) ⟨m4.1, by rw [List.getElem?_map]; exact congrArg (Option.map encI) g1⟩ ⟨m4.2, by rw [List.getElem?_map]; exact congrArg (Option.map encI) g2⟩
          rw [hso m hmem] at sp
          exact ACode.vcM (.br 66 true <| .cells (cMk m) <| .call (.bool true) .nil) hn hlo (.round .cl) ⟨ltLen hlt, idx hm, sp, i + 1, hlt, mu1 hlt,
            St.le.of ⟨by kernel_rfl, rfl, by kernel_rfl, rfl, by kernel_rfl, rfl, by kernel_rfl, rfl, Eq.trans (by kernel_rfl) ei, rfl, trivial⟩ ⟨by kernel_rfl, (by decide : (0 : Nat) < 1), by kernel_rfl, trivial⟩⟩
        · exact ACode.vcM (.br 66 false .nil) hn hlo (.round .cl) ⟨geLen hlt, _, .refl _, .nil, [], by kernel_rfl⟩
end Go.Proofs.YtoeankkhjpijlaaGreatDoor
/-
  THE FIRST PART OF THE THEOREM: what is told is true, and all of it.
-/
namespace Go.Proofs.YtoeankkhjpijlaaGreatDoor
open Go Go.Am
set_option maxRecDepth 100000
set_option maxHeartbeats 4000000
theorem can_get : ∀ {l : List Spn}, canS l → ∀ {k : Nat} {x : Spn}, l[k]? = some x → x.1 ≤ x.2 ∧ ∀ y, 0 < k → l[k - 1]? = some y → y.2 + 1 < x.1 := by
  intro l
  induction l with
  | nil => intro _ k x h; simp at h
  | cons a l ih =>
    intro hc k x h
    obtain ⟨h1, h2, h3⟩ := canS_cons hc
    cases k with
    | zero => simp at h; subst h; exact ⟨h1, fun y q => absurd q (Nat.lt_irrefl 0)⟩
    | succ k =>
      have h : l[k]? = some x := by simpa using h
      obtain ⟨q1, q2⟩ := ih h2 h
      refine ⟨q1, fun y _ hy => ?_⟩
      cases k with
      | zero => simp at hy; subst hy; exact h3 x (List.mem_of_getElem? h)
      | succ k => exact q2 y (Nat.succ_pos _) (by simpa using hy)
theorem pw_get {l : List Int} (h : l.Pairwise (· < ·)) {k : Nat} {x y : Int} (hk : 0 < k) (hx : l[k]? = some x) (hy : l[k - 1]? = some y) : y < x := by
  have hl : k < l.length := heap_ltL hx
  have := List.pairwise_iff_getElem.1 h (k - 1) k (by omega) hl (by omega)
  rw [List.getElem?_eq_getElem hl] at hx
  rw [List.getElem?_eq_getElem (by omega)] at hy
  cases hx; cases hy; exact this
theorem roomsP_pw (s : Scn) : (roomsP s).Pairwise (· < ·) := by
  unfold roomsP
  rw [← neR_rooms, List.pairwise_map]
  exact (List.pairwise_lt_range.filter _).imp fun h => by omega
theorem roomsP_bd {s : Scn} (hs : ScOk s) {x : Int} (h : x ∈ roomsP s) : 0 ≤ x ∧ x < s.rooms := by
  obtain ⟨hnr, _, _⟩ := nR_eq hs
  have h' := h
  unfold roomsP at h'
  obtain ⟨r, _, rfl⟩ := List.mem_map.1 h'
  have := (mem_roomsP.1 h).1
  omega
theorem can_len : ∀ {l : List Spn} {a : Int}, canS l → (∀ x ∈ l, a ≤ x.1 ∧ x.2 ≤ 600) → a ≤ 601 → (l.length : Int) ≤ 601 - a := by
  intro l
  induction l with
  | nil => intro a _ _ ha; rw [List.length_nil]; omega
  | cons x l ih =>
    intro a hc hb ha
    obtain ⟨h1, h2, h3⟩ := canS_cons hc
    have hx := hb x List.mem_cons_self
    have := ih (a := x.2 + 1) h2 (fun y hy => ⟨by have := h3 y hy; omega, (hb y (List.mem_cons_of_mem _ hy)).2⟩) (by omega)
    rw [List.length_cons]; omega
theorem told_len {s : Scn} (hs : ScOk s) {l : List Spn} (hc : canS l) (hb : ∀ x ∈ l, 0 ≤ x.1 ∧ x.2 ≤ s.fin) : l.length ≤ 1000 := by
  have hf := hs.fin
  have := can_len (a := 0) hc (fun x hx => ⟨(hb x hx).1, by have := (hb x hx).2; omega⟩) (by omega)
  omega
/-- What the law asks of what is told. -/
structure ToF (s : Scn) (minute RM : Int) (room : Nat) (l : List Spn) (d : List Int) (E : Int) (rl : List Int) : Prop where
  can : canS l
  bd : ∀ x ∈ l, 0 ≤ x.1 ∧ x.2 ≤ s.fin
  inc : rl.Pairwise (· < ·)
  rbd : ∀ x ∈ rl, 0 ≤ x ∧ x < s.rooms
  lis : rl.contains RM = !l.isEmpty
  ans : (E = 91 ∧ d = [] ∧ insB l minute = false) ∨ (E = 0 ∧ insB l minute = true ∧ trueB s room minute d)
theorem told_end {s : Scn} (hs : ScOk s) {room : Nat} (hroom : room < nR s) {RM : Int} (erm : RM = (room : Int)) {minute E : Int} {l : List Spn} {d rl : List Int} (hl : l.length ≤ 1000) (hF : ToF s minute RM room l d E rl) {g : G} (hn : g.n = 165) (hlo0 : g.low 1) :
    ACode Tryz.prog none g (cdrop 11 (Tryz.f5.body.getD .skip)) (Ret Tryz.prog Tryz.f5 (.bool true)) ⟨[(2, .int .i64 minute), (3, .vptr 0 0), (7, .bool true), (8, .int .i64 RM), (9, encSps l), (11, encR d), (12, .int .i64 E), (13, encR rl), (17, .bool (rl.contains RM))], [(0, .cells (cSc s))], 1⟩ := by
  have b1 : (rl.contains RM != decide (((l.map cSp).length : Int) > 0)) = false := by
    rw [hF.lis]
    cases l with
    | nil => rfl
    | cons a l => rw [decide_eq_true (by rw [List.length_map, List.length_cons]; omega)]; rfl
  have ins := inside_spec l (by omega) minute
  rcases hF.ans with ⟨rfl, rfl, hi⟩ | ⟨rfl, hi, ht⟩
  · rw [hi] at ins
    exact ACode.vcM (.br 137 false <| .call (.bool false) .nil) hn hlo0 .ret ⟨b1, ins, trivial, by kernel_rfl⟩
  · rw [hi] at ins
    subst erm
    have tt := truth_true s hs hroom ht
    exact ACode.vcM (.br 137 false <| .call (.bool true) <| .call (.bool true) .nil) hn hlo0 .ret ⟨b1, ins, tt, trivial, by kernel_rfl⟩
theorem told_mid {s : Scn} (hs : ScOk s) {room : Nat} (hroom : room < nR s) {RM : Int} (erm : RM = (room : Int)) {minute E : Int} {l : List Spn} {d rl : List Int} (hl : l.length ≤ 1000) (hrl : rl.length ≤ 1000) (hF : ToF s minute RM room l d E rl) {g : G} (hn : g.n = 165) (hlo0 : g.low 1) :
    ACode Tryz.prog none g (cdrop 9 (Tryz.f5.body.getD .skip)) (Ret Tryz.prog Tryz.f5 (.bool true)) ⟨[(2, .int .i64 minute), (3, .vptr 0 0), (7, .bool true), (8, .int .i64 RM), (9, encSps l), (11, encR d), (12, .int .i64 E), (13, encR rl)], [(0, .cells (cSc s))], 1⟩ := by
  refine ACode.cut 1 (fun _ : Unit => ⟨[(2, .int .i64 minute), (3, .vptr 0 0), (7, .bool true), (8, .int .i64 RM), (9, encSps l), (11, encR d), (12, .int .i64 E), (13, encR rl), (17, .bool (rl.contains RM))], [(0, .cells (cSc s))], 1⟩) (fun _ => True) .loop hn hlo0 .ret rfl ?_ fun _ _ => told_end hs hroom erm hl hF hn hlo0
  intro g hn hlo
  replace hn : g.n = 165 := hn
  replace hlo : g.low 1 := hlo
  refine acode_while (fun k : Nat => ⟨[(2, .int .i64 minute), (3, .vptr 0 0), (7, .bool true), (8, .int .i64 RM), (9, encSps l), (11, encR d), (12, .int .i64 E), (13, encR rl), (17, .bool ((rl.take k).contains RM)), (97, encR rl), (98, .int .i64 (rl.map encI).length), (99, .int .i64 k)], [(0, .cells (cSc s))], 1⟩) (fun k => k ≤ rl.length) (fun k => rl.length - k) 0 (Nat.zero_le _) ?_ (fun _ _ => hlo) ?_
  · exact St.le.of ⟨by kernel_rfl, rfl, by kernel_rfl, rfl, by kernel_rfl, rfl, by kernel_rfl, rfl, by kernel_rfl, rfl, by kernel_rfl, rfl, by kernel_rfl, rfl, by kernel_rfl, rfl, by kernel_rfl, rfl, by kernel_rfl, rfl, by kernel_rfl, rfl, by kernel_rfl, rfl, trivial⟩ ⟨by kernel_rfl, (by decide : (0 : Nat) < 1), by kernel_rfl, trivial⟩
  · intro k hk
    replace hk : k ≤ rl.length := hk
    by_cases hlt : k < rl.length
    · refine Exists.elim (getE hlt) fun x hx => ?_
      have ek := congrArg (AV.int .i64) (succ64 (k := k) (by omega))
      have hb := hF.rbd x (List.mem_of_getElem? hx)
      have c1 : decide (x < 0) = false := decide_eq_false (by omega)
      have c2 : decide (x ≥ s.rooms) = false := decide_eq_false (by omega)
      have et := take_con (r := RM) hx
      have eT : AV.bool ((rl.take k).contains RM || x == RM) = .bool ((rl.take (k + 1)).contains RM) := by rw [et]
      have eA : (rl.take k).contains RM = true → AV.bool true = .bool ((rl.take (k + 1)).contains RM) := fun q => by rw [et, q]; rfl
      have eB : (rl.take k).contains RM = false → AV.bool (x == RM) = .bool ((rl.take (k + 1)).contains RM) := fun q => by rw [et, q]; rfl
      have eC : (rl.take k).contains RM = true → AV.bool ((rl.take k).contains RM) = .bool ((rl.take (k + 1)).contains RM) := fun q => by rw [et, q]; rfl
      cases k with
      | zero =>
        have c3 : decide (((0 : Nat) : Int) > 0) = false := rfl
        have eB := eB rfl
        exact ACode.vcM (.br 100 true <| .cells (encI x) <| .br 106 false <| .br 112 false .nil) hn hlo (.round .cl) ⟨ltLen hlt, idx hx, c1, c2, 1, hlt, mu1 hlt,
          St.le.of ⟨by kernel_rfl, rfl, by kernel_rfl, rfl, by kernel_rfl, rfl, by kernel_rfl, rfl, by kernel_rfl, rfl, by kernel_rfl, rfl, by kernel_rfl, rfl, by kernel_rfl, rfl, Eq.trans (by kernel_rfl) eB, rfl, by kernel_rfl, rfl, by kernel_rfl, rfl, Eq.trans (by kernel_rfl) ek, rfl, trivial⟩ ⟨by kernel_rfl, (by decide : (0 : Nat) < 1), by kernel_rfl, trivial⟩⟩
      | succ k =>
        refine Exists.elim (getE (show k < rl.length by omega)) fun y hy => ?_
        have hyx := pw_get hF.inc (Nat.succ_pos k) hx (by simpa using hy)
        have c3 : decide (((k + 1 : Nat) : Int) > 0) = true := decide_eq_true (by omega)
        have ew : IntKind.i64.wrap (((k + 1 : Nat) : Int) - 1) = (k : Int) := by rw [wrap64 (by omega) (by omega)]; omega
        have c4 : decide (x ≤ y) = false := decide_eq_false (by omega)
        have iy := idxW (enc := encI) ew hy
        refine (Bool.eq_false_or_eq_true ((rl.take (k + 1)).contains RM)).elim (fun q => ?_) (fun q => ?_)
        · have eA := eA q
          exact ACode.vcM (.br 100 true <| .cells (encI x) <| .br 106 false <| .br 112 false <| .br 115 true <| .cells (encI y) <| .br 124 false <| .br 126 true .nil) hn hlo (.round .cl) ⟨ltLen hlt, idx hx, c1, c2, c3, iy, c4, q, k + 1 + 1, hlt, mu1 hlt,
            St.le.of ⟨by kernel_rfl, rfl, by kernel_rfl, rfl, by kernel_rfl, rfl, by kernel_rfl, rfl, by kernel_rfl, rfl, by kernel_rfl, rfl, by kernel_rfl, rfl, by kernel_rfl, rfl, Eq.trans (by kernel_rfl) eA, rfl, by kernel_rfl, rfl, by kernel_rfl, rfl, Eq.trans (by kernel_rfl) ek, rfl, trivial⟩ ⟨by kernel_rfl, (by decide : (0 : Nat) < 1), by kernel_rfl, trivial⟩⟩
        · have eB := eB q
          exact ACode.vcM (.br 100 true <| .cells (encI x) <| .br 106 false <| .br 112 false <| .br 115 true <| .cells (encI y) <| .br 124 false <| .br 126 false .nil) hn hlo (.round .cl) ⟨ltLen hlt, idx hx, c1, c2, c3, iy, c4, q, k + 1 + 1, hlt, mu1 hlt,
            St.le.of ⟨by kernel_rfl, rfl, by kernel_rfl, rfl, by kernel_rfl, rfl, by kernel_rfl, rfl, by kernel_rfl, rfl, by kernel_rfl, rfl, by kernel_rfl, rfl, by kernel_rfl, rfl, Eq.trans (by kernel_rfl) eB, rfl, by kernel_rfl, rfl, by kernel_rfl, rfl, Eq.trans (by kernel_rfl) ek, rfl, trivial⟩ ⟨by kernel_rfl, (by decide : (0 : Nat) < 1), by kernel_rfl, trivial⟩⟩
    · have hall : rl.take k = rl := List.take_of_length_le (by omega)
      have e17 : AV.bool ((rl.take k).contains RM) = .bool (rl.contains RM) := by rw [hall]
      exact ACode.vcM (.br 100 false .nil) hn hlo (.round .cl) ⟨geLen hlt, _, .refl _, .nil, (), trivial, Wk.le (St.le.of ⟨by kernel_rfl, rfl, by kernel_rfl, rfl, by kernel_rfl, rfl, by kernel_rfl, rfl, by kernel_rfl, rfl, by kernel_rfl, rfl, by kernel_rfl, rfl, by kernel_rfl, rfl, Eq.trans (by kernel_rfl) e17, rfl, trivial⟩ ⟨by kernel_rfl, (by decide : (0 : Nat) < 1), by kernel_rfl, trivial⟩) hlo0⟩
theorem law_told (s : Scn) (which : Nat) (minute : Int) (hw8 : which < 256) : APure Tryz.prog 5 [encSc s, .int .u8 (which : Int), .int .i64 minute] (.bool true) := by
  have sA := alive_spec
  have sR := ready_spec s
  cases h1 : scB s
  · rw [h1] at sR
    exact APure.vcM Tryz.func5 (.call (.bool true) <| .call (.bool false) .nil) rfl rfl ⟨sA, sR, [], by kernel_rfl⟩
  rw [h1] at sR
  have hs := scB_iff.1 h1
  obtain ⟨room, hroom, erm⟩ := tmod_rm hs which
  obtain ⟨hnr, hn1, hn6⟩ := nR_eq hs
  have hf := hs.fin
  have hne : s.rooms ≠ 0 := by omega
  have v28 := w8 hw8
  have sM := Minutes_ok s ((which : Int).tmod s.rooms)
  have sT := Truth_ok s ((which : Int).tmod s.rooms) minute
  have sO := Rooms_ok s
  have e0 : rmE s ((which : Int).tmod s.rooms) = 0 := by rw [erm]; exact rm_of hs hroom
  have eM : mnV s ((which : Int).tmod s.rooms) = toldP s room := by unfold mnV; rw [if_pos e0, erm, Int.toNat_natCast]
  have eE : tvE s ((which : Int).tmod s.rooms) minute = (match truP s room minute with | some _ => 0 | none => 91) := by
    unfold tvE; rw [if_pos e0, erm, Int.toNat_natCast]
    cases truP s room minute <;> rfl
  have eV : tvV s ((which : Int).tmod s.rooms) minute = (truP s room minute).getD [] := by
    unfold tvV; rw [if_pos e0, erm, Int.toNat_natCast]
  have eR : rsV s = roomsP s := if_pos h1
  have eC : ckE s = 0 := if_pos h1
  rw [e0, eM] at sM
  rw [eE, eV] at sT
  rw [eR, eC] at sO
  have hrl := roomsP_len s
  obtain ⟨hcan, _⟩ := told_ok s room
  have hbd : ∀ x ∈ toldP s room, 0 ≤ x.1 ∧ x.2 ≤ s.fin := fun x hx => by
    obtain ⟨k, hk⟩ := List.mem_iff_getElem?.1 hx
    have hle := (can_get hcan hk).1
    obtain ⟨_, q1⟩ := (told_true hs hroom).1 (⟨x, hx, Int.le_refl _, hle⟩ : inL (toldP s room) x.1)
    obtain ⟨_, q2⟩ := (told_true hs hroom).1 (⟨x, hx, hle, Int.le_refl _⟩ : inL (toldP s room) x.2)
    exact ⟨q1.1.1, q2.1.2⟩
  have hF : ToF s minute ((which : Int).tmod s.rooms) room (toldP s room) ((truP s room minute).getD []) (match truP s room minute with | some _ => 0 | none => 91) (roomsP s) := by
    refine ⟨hcan, hbd, roomsP_pw s, fun x hx => roomsP_bd hs hx, ?_, ?_⟩
    · rw [erm, Bool.eq_iff_iff, List.contains_iff_mem, mem_roomsP]
      constructor
      · rintro ⟨_, q⟩
        cases h : toldP s room with
        | nil => rw [told_nil.1 h] at q; cases q
        | cons a l => rfl
      · intro q
        refine ⟨hroom, ?_⟩
        cases h : exB s room (allN s) with
        | false => rfl
        | true => rw [told_nil.2 h] at q; cases q
    · cases h : truP s room minute with
      | none =>
        refine .inl ⟨rfl, rfl, ?_⟩
        have := (tru_none hs hroom).1 h
        cases q : insB (toldP s room) minute with
        | false => rfl
        | true => exact absurd (insB_iff.1 q) this
      | some d =>
        have q := (tru_some hs hroom h).1
        exact .inr ⟨rfl, insB_iff.2 ((told_true hs hroom).2 ⟨d, q⟩), q⟩
  have hll : (toldP s room).length ≤ 1000 := told_len hs hcan hbd
  generalize toldP s room = l at *
  generalize (truP s room minute).getD [] = d at *
  generalize (match truP s room minute with | some _ => (0 : Int) | none => 91) = E at *
  generalize roomsP s = rl at *
  refine APure.intro Tryz.func5 rfl (by kernel_rfl) rfl fun g hn hlo0 => ?_
  replace hn : g.n = 165 := hn
  have hlo1 : g.low 1 := hlo0.mono (show 0 ≤ 1 by decide)
  refine ACode.cut 9 (fun _ : Unit => ⟨[(2, .int .i64 minute), (3, .vptr 0 0), (7, .bool true), (8, .int .i64 ((which : Int).tmod s.rooms)), (9, encSps l), (11, encR d), (12, .int .i64 E), (13, encR rl)], [(0, .cells (cSc s))], 1⟩) (fun _ => True) (.call (.bool true) <| .call (.bool true) <| .val 28 (.int .i64 (which : Int)) [] <| .nz <| .call (.tup [encSps l, .int .i64 0]) <| .call (encLe d E) <| .call (encLe rl 0) <| .loop) hn hlo0 .ret rfl ⟨sA, sR, Eq.trans (by kernel_rfl) v28, hne, sM, sT, sO, ?_⟩ fun _ _ => told_mid hs hroom erm hll (by omega) hF hn hlo1
  intro g hn hlo
  replace hn : g.n = 165 := hn
  replace hlo : g.low 1 := hlo.mono (show 0 ≤ 1 by decide)
  refine acode_while (fun k : Nat => ⟨[(2, .int .i64 minute), (3, .vptr 0 0), (7, .bool true), (8, .int .i64 ((which : Int).tmod s.rooms)), (9, encSps l), (11, encR d), (12, .int .i64 E), (13, encR rl), (56, encSps l), (57, .int .i64 (l.map cSp).length), (58, .int .i64 k)], [(0, .cells (cSc s))], 1⟩) (fun k => k ≤ l.length) (fun k => l.length - k) 0 (Nat.zero_le _) ?_ (fun _ _ => hlo) ?_
  · exact St.le.of ⟨by kernel_rfl, rfl, by kernel_rfl, rfl, by kernel_rfl, rfl, by kernel_rfl, rfl, by kernel_rfl, rfl, by kernel_rfl, rfl, by kernel_rfl, rfl, by kernel_rfl, rfl, by kernel_rfl, rfl, by kernel_rfl, rfl, by kernel_rfl, rfl, trivial⟩ ⟨by kernel_rfl, (by decide : (0 : Nat) < 1), by kernel_rfl, trivial⟩
  · intro k hk
    replace hk : k ≤ l.length := hk
    by_cases hlt : k < l.length
    · refine Exists.elim (getE hlt) fun x hx => ?_
      have ek := congrArg (AV.int .i64) (succ64 (k := k) (by omega))
      have hb := hF.bd x (List.mem_of_getElem? hx)
      obtain ⟨hle, hgap⟩ := can_get hF.can hx
      have c1 : decide (x.1 < 0) = false := decide_eq_false (by omega)
      have c2 : decide (x.1 > x.2) = false := decide_eq_false (by omega)
      have c3 : decide (x.2 > s.fin) = false := decide_eq_false (by omega)
      cases k with
      | zero =>
        exact ACode.vcM (.br 59 true <| .cells (cSp x) <| .draw 30 <| .br 66 false <| .br 73 false <| .br 80 false .nil) hn hlo (.round .cl) ⟨ltLen hlt, idx hx, by kernel_rfl, mixed, by kernel_rfl, c1, c2, c3, by kernel_rfl, 1, hlt, mu1 hlt,
          St.le.of ⟨by kernel_rfl, rfl, by kernel_rfl, rfl, by kernel_rfl, rfl, by kernel_rfl, rfl, by kernel_rfl, rfl, by kernel_rfl, rfl, by kernel_rfl, rfl, by kernel_rfl, rfl, by kernel_rfl, rfl, by kernel_rfl, rfl, Eq.trans (by kernel_rfl) ek, rfl, trivial⟩ ⟨by kernel_rfl, (by decide : (0 : Nat) < 1), by kernel_rfl, trivial⟩⟩
      | succ k =>
        refine Exists.elim (getE (show k < l.length by omega)) fun y hy => ?_
        have hyx := hgap y (Nat.succ_pos k) (by simpa using hy)
        have hby := hF.bd y (List.mem_of_getElem? hy)
        have c4 : decide (((k + 1 : Nat) : Int) > 0) = true := decide_eq_true (by omega)
        have ew : IntKind.i64.wrap (((k + 1 : Nat) : Int) - 1) = (k : Int) := by rw [wrap64 (by omega) (by omega)]; omega
        have iy := idxW (enc := cSp) ew hy
        have c5 : decide (x.1 ≤ IntKind.i64.wrap (y.2 + 1)) = false := by
          have hyl := (can_get hF.can hy).1
          rw [wrap64 (by omega) (by omega)]; exact decide_eq_false (by omega)
        exact ACode.vcM (.br 59 true <| .cells (cSp x) <| .draw 30 <| .br 66 false <| .br 73 false <| .br 80 false <| .br 83 true <| .cells (cSp y) <| .br 95 false .nil) hn hlo (.round .cl) ⟨ltLen hlt, idx hx, by kernel_rfl, mixed, by kernel_rfl, c1, c2, c3, c4, iy, by kernel_rfl, c5, k + 1 + 1, hlt, mu1 hlt,
          St.le.of ⟨by kernel_rfl, rfl, by kernel_rfl, rfl, by kernel_rfl, rfl, by kernel_rfl, rfl, by kernel_rfl, rfl, by kernel_rfl, rfl, by kernel_rfl, rfl, by kernel_rfl, rfl, by kernel_rfl, rfl, by kernel_rfl, rfl, Eq.trans (by kernel_rfl) ek, rfl, trivial⟩ ⟨by kernel_rfl, (by decide : (0 : Nat) < 1), by kernel_rfl, trivial⟩⟩
    · exact ACode.vcM (.br 59 false .nil) hn hlo (.round .cl) ⟨geLen hlt, _, .refl _, .nil, (), trivial, Wk.le (St.le.of ⟨by kernel_rfl, rfl, by kernel_rfl, rfl, by kernel_rfl, rfl, by kernel_rfl, rfl, by kernel_rfl, rfl, by kernel_rfl, rfl, by kernel_rfl, rfl, by kernel_rfl, rfl, trivial⟩ ⟨by kernel_rfl, (by decide : (0 : Nat) < 1), by kernel_rfl, trivial⟩) hlo1⟩
end Go.Proofs.YtoeankkhjpijlaaGreatDoor
