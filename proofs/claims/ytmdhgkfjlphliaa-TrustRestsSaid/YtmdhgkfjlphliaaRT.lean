import Derived.Test.YtmdhgkfjlphliaaTQ
import Derived.Test.YtmdhgkfjlphliaaLH
/-
  WHAT A RECORD RESTS ON, BY THE REFERENCE.
-/
namespace Go.Proofs.Ytmdhgkfjlphliaa
open Go Go.Am
set_option maxRecDepth 100000
set_option maxHeartbeats 8000000
theorem bShr {S k : Nat} (hk : k < 12) : (if ((k : Int) < 0) then (none : Option AV) else some (.int .i64 ((S : Int).fdiv (2 ^ (min (k : Int).toNat IntKind.i64.bits))))) = some (.int .i64 ((S / 2 ^ k : Nat) : Int)) := by
  have hm : min (k : Int).toNat IntKind.i64.bits = k := by
    rw [Int.toNat_natCast]
    exact Nat.min_eq_left (show k ≤ 64 by omega)
  rw [if_neg (by omega), hm, show ((2 : Int) ^ k) = ((2 ^ k : Nat) : Int) from by simp, Int.fdiv_eq_ediv_of_nonneg _ (Int.natCast_nonneg _)]
  rfl
theorem bit_and (S k : Nat) : ((((S / 2 ^ k) &&& 1 : Nat) : Int) == 1) = S.testBit k := by
  rw [Nat.testBit_eq_decide_div_mod_eq, Nat.and_one_is_mod, Bool.eq_iff_iff, beq_iff_eq, decide_eq_true_eq]
  omega
theorem appBo {h : Nat → Option AObj} {i j nid : Nat} {l : List Bool} {x : Bool} (h0 : h i = some (.cells (boL l))) (h1 : h j = some (.cells [.bool x])) (hl : l.length ≤ 100000) :
    aAppend Try.prog h nid 81 81 (.rsl i 0 l.length 1) (.rsl j 0 1 1) = some ⟨.rsl nid 0 (l.length + 1) 1, [(i, none), (nid, some (.cells (boL (l ++ [x]))))]⟩ := by
  have e : boL (l ++ [x]) = boL l ++ [.bool x] := by rw [boL_eq, boL_eq, List.map_append]; rfl
  rw [app_exact h0 (by rw [boL_len]; omega)]
  simp only [aAppend0, ty81, ty4, srcCells, h0, h1]
  simp [boL_len, e, cellB]
  omega
/-- Which records are in a set. -/
def inP (r : List Rcd) (S : Nat) (i : Int) : Bool := (idsOf r S).contains i
def inL (r : List Rcd) (S : Nat) : List Bool := r.map fun x => inP r S x.id
theorem inL_at {r : List Rcd} (hn : (idsR r).Nodup) {S k : Nat} {x : Rcd} (hx : r[k]? = some x) : (inL r S)[k]? = some (S.testBit k) := by
  unfold inL
  rw [List.getElem?_map, hx]
  show some (inP r S x.id) = _
  unfold inP
  rw [ids_bit hn hx]
theorem inL_len (r : List Rcd) (S : Nat) : (inL r S).length = r.length := List.length_map _
theorem members_spec (r : List Rcd) (S : Nat) (hn : (idsR r).Nodup) (hr : r.length ≤ 12) (hS : S < 4096) : APure Try.prog 55 [encRs r, .int .i64 (S : Int)] (encBs (inL r S)) := by
  have hll := inL_len r S
  have hat := fun {k : Nat} {x : Rcd} (hx : r[k]? = some x) => inL_at hn (S := S) hx
  generalize inL r S = L at *
  refine APure.vcM Try.func55 .loop rfl rfl ?_
  intro g hnn hlo
  replace hnn : g.n = 22 := hnn
  replace hlo : g.low 0 := hlo
  refine acode_whileW (fun k : Nat => ⟨[(0, encRs r), (1, .int .i64 (S : Int)), (5, .rsl 0 0 (L.take k).length 1), (6, .int .i64 (k : Int))], [(0, .cells (boL (L.take k)))], 1⟩) (fun k => k ≤ r.length) (fun k => r.length - k) 0 (Nat.zero_le _) ?_ ?_
  · refine Wk.trans (Wk.le ?_ (hlo.mono (Nat.zero_le _))) (Wk.own 5 1 (by kernel_rfl))
    have o1 : some (AObj.cells []) = some (.cells (boL (L.take 0))) := rfl
    exact St.le.of ⟨by kernel_rfl, rfl, by kernel_rfl, rfl, by kernel_rfl, rfl, by kernel_rfl, rfl, trivial⟩ ⟨Eq.trans (by kernel_rfl) o1, (by decide : (0 : Nat) < 1), boL_ok _ _, trivial⟩
  intro k hk
  replace hk : k ≤ r.length := hk
  by_cases hlt : k < r.length
  · refine Exists.elim (getE hlt) fun x hx => ?_
    have ek := congrArg (AV.int .i64) (succ64 (k := k) (by omega))
    have hb := hat hx
    have hd : S / 2 ^ k < 4096 := Nat.lt_of_le_of_lt (Nat.div_le_self _ _) hS
    have v16 := congrArg (Option.map fun v => (⟨v, []⟩ : Out)) (bShr (S := S) (k := k) (by omega))
    have v17 : some (⟨.int .i64 (IntKind.i64.wrap (BitVec.ofInt IntKind.i64.bits ((S / 2 ^ k : Nat) : Int) &&& BitVec.ofInt IntKind.i64.bits 1).toNat), []⟩ : Out) = some ⟨.int .i64 (((S / 2 ^ k) &&& 1 : Nat) : Int), []⟩ := by
      rw [show (1 : Int) = ((1 : Nat) : Int) from rfl, bAnd hd (by decide)]
    have v18 : some (⟨.bool ((((S / 2 ^ k) &&& 1 : Nat) : Int) == 1), []⟩ : Out) = some ⟨.bool (S.testBit k), []⟩ := by rw [bit_and]
    have et : L.take (k + 1) = L.take k ++ [S.testBit k] := by rw [List.take_add_one, hb]; rfl
    have el : (L.take (k + 1)).length = (L.take k).length + 1 := by rw [et]; simp
    have ap := appBo (h := hget [(0, .cells (boL (L.take k))), (1, .cells [.bool (S.testBit k)])]) (i := 0) (j := 1) (nid := 2) (l := L.take k) (x := S.testBit k) rfl rfl (by rw [List.length_take]; omega)
    rw [← et, ← el] at ap
    exact ACode.vcM (.br 10 true <| .val 16 (.int .i64 ((S / 2 ^ k : Nat) : Int)) [] <| .val 17 (.int .i64 (((S / 2 ^ k) &&& 1 : Nat) : Int)) [] <| .val 18 (.bool (S.testBit k)) [] <| .val 20 (.rsl 2 0 (L.take (k + 1)).length 1) [(0, none), (2, some (.cells (boL (L.take (k + 1)))))] .nil) hnn hlo (.roundW .cl) ⟨ltLen hlt, Eq.trans (by kernel_rfl) v16, Eq.trans (by kernel_rfl) v17, Eq.trans (by kernel_rfl) v18, Eq.trans (by kernel_rfl) ap, k + 1, hlt, mu1 hlt,
      Wk.ren (c := 0) (b := 2) (St.ren.of rfl (by decide) ⟨.inl ⟨by kernel_rfl, rfl⟩, .inl ⟨by kernel_rfl, rfl⟩, .inr ⟨_, _, _, rfl, by kernel_rfl⟩, .inl ⟨Eq.trans (by kernel_rfl) ek, rfl⟩, trivial⟩ ⟨.inr ⟨rfl, by kernel_rfl, _, rfl, boL_ok _ _⟩, trivial⟩) (hlo.mono (Nat.zero_le _))⟩
  · have hk' : k = r.length := by omega
    have e : L.take k = L := by rw [hk', ← hll, List.take_length]
    have ht := thaw_fl 6 (h := hget [(0, .cells (boL (L.take k)))]) (id := 0) (enc := encBo) (n := 1) (l := L.take k) (fun _ => rfl) (fun _ => rfl) rfl
    have hr2 : some ((.lst 1 ((L.take k).map encBo), [0]) : AV × List Nat) = some (encBs L, [0]) := by rw [e]; rfl
    exact ACode.vcM (.br 10 false .nil) hnn hlo (.roundW .cl) ⟨geLen hlt, _, .refl _, .nil, [0], Eq.trans (by kernel_rfl) (ht.trans hr2)⟩
/-- Whether all of a set holds by it alone. -/
def carV (r : List Rcd) (p : Int → Bool) : Bool := r.all fun x => !p x.id || (heldV (fun i => !p i) [] r).contains x.id
theorem Carries_spec (r : List Rcd) (p : Int → Bool) (hr : recsB r = true) : APure Try.prog 56 [encRs r, encBs (r.map fun x => p x.id)] (.bool (carV r p)) := by
  have hrl := (recs_nodup hr).2.2
  have hlen : (r.map cRc).length = r.length := List.length_map _
  have mk := mk_bools (id := 0) (len := (r.map cRc).length) (by omega)
  have hGl : (goB (fun i => !p i) r).length = r.length := List.length_map _
  have hG : ∀ {j : Nat} {y : Rcd}, r[j]? = some y → (goB (fun i => !p i) r)[j]? = some (!p y.id) := fun h => by unfold goB; rw [List.getElem?_map, h]; rfl
  have hH : ∀ {j : Nat} {y : Rcd}, r[j]? = some y → (hoB (fun i => !p i) r)[j]? = some ((heldV (fun i => !p i) [] r).contains y.id) := fun h => by unfold hoB; rw [List.getElem?_map, h]; rfl
  have hP : ∀ {j : Nat} {y : Rcd}, r[j]? = some y → (r.map fun x => p x.id)[j]? = some (p y.id) := fun h => by rw [List.getElem?_map, h]; rfl
  have sHo := rHold_spec r (fun i => !p i) hr
  unfold carV
  generalize (r.map fun x => p x.id) = PL at *
  generalize (heldV (fun i => !p i) [] r).contains = HC at *
  generalize hoB (fun i => !p i) r = HL at *
  generalize goB (fun i => !p i) r = GL at *
  refine APure.vcM Try.func56 (.val 11 (.rsl 0 0 (r.map cRc).length 1) [(0, some (.cells (boL (List.replicate (r.map cRc).length false))))] .loop) rfl rfl ⟨Eq.trans (by kernel_rfl) mk, ?_⟩
  intro g hn hlo
  replace hn : g.n = 46 := hn
  replace hlo : g.low 0 := hlo
  refine acode_whileW (fun k : Nat => ⟨[(0, encRs r), (1, encBs PL), (5, .rsl 0 0 (r.map cRc).length 1), (6, .int .i64 (k : Int))], [(0, .cells (boL (bK GL r.length k)))], 1⟩) (fun k => k ≤ r.length) (fun k => r.length - k) 0 (Nat.zero_le _) ?_ ?_
  · have o1 : some (AObj.cells (boL (List.replicate (r.map cRc).length false))) = some (.cells (boL (bK GL r.length 0))) := by rw [hlen]; rfl
    exact Wk.le (St.le.of ⟨by kernel_rfl, rfl, by kernel_rfl, rfl, by kernel_rfl, rfl, by kernel_rfl, rfl, trivial⟩ ⟨Eq.trans (by kernel_rfl) o1, (by decide : (0 : Nat) < 1), boL_ok _ _, trivial⟩) (hlo.mono (Nat.zero_le _))
  intro k hk
  replace hk : k ≤ r.length := hk
  by_cases hlt : k < r.length
  · refine Exists.elim (getE hlt) fun x hx => ?_
    have ek := congrArg (AV.int .i64) (succ64 (k := k) (by omega))
    have ix := ixBo (h := hget []) (id := 0) (n := (r.map cRc).length) (k := k) (by omega)
    have bl := bK_len (L := GL) (n := r.length) (k := k) hGl (by omega)
    have st := (stBo (h := hget [(0, .cells (boL (bK GL r.length k)))]) (id := 0) (k := k) (l := bK GL r.length k) (x := !p x.id) rfl (by omega)).trans (by rw [bK_set hGl hlt (hG hx)])
    have o1 : some (AObj.cells (boL (bK GL r.length (k + 1)))) = some (.cells (boL (bK GL r.length (k + 1)))) := rfl
    exact ACode.vcM (.br 15 true <| .cells (encBo (p x.id)) <| .val 25 (.vptr 0 k) [] <| .val 1 .undef [(0, some (.cells (boL (bK GL r.length (k + 1)))))] .nil) hn hlo (.roundW .cl) ⟨ltLen hlt, idx (hP hx), Eq.trans (by kernel_rfl) ix, Eq.trans (by kernel_rfl) st, k + 1, hlt, mu1 hlt, Wk.le (St.le.of ⟨by kernel_rfl, rfl, by kernel_rfl, rfl, by kernel_rfl, rfl, Eq.trans (by kernel_rfl) ek, rfl, trivial⟩ ⟨Eq.trans (by kernel_rfl) o1, (by decide : (0 : Nat) < 1), boL_ok _ _, trivial⟩) (hlo.mono (Nat.zero_le _))⟩
  · have hk' : k = r.length := by omega
    have e : bK GL r.length k = GL := by rw [hk', bK_all hGl]
    have tG : thawL (hget [(0, .cells (boL (bK GL r.length k)))]) [encRs r, .rsl 0 0 (r.map cRc).length 1] = some ([encRs r, encBs GL], [0]) := by
      have t1 : thaw 8 (hget [(0, .cells (boL (bK GL r.length k)))]) (encRs r) = some (encRs r, []) := by unfold thaw; exact if_pos rfl
      have t2 := thaw_fl 6 (h := hget [(0, .cells (boL (bK GL r.length k)))]) (id := 0) (enc := encBo) (n := 1) (l := bK GL r.length k) (fun _ => rfl) (fun _ => rfl) rfl
      rw [bK_len hGl hk] at t2
      rw [hlen]
      simp only [thawL, mapO, t1, t2]
      rw [e]; rfl
    refine ACode.vcM (.br 15 false .nil) hn hlo (.roundW .cl) ⟨geLen hlt, _, .refl _, .lent (encBs HL) [0] .loop, ⟨_, Eq.trans (by kernel_rfl) tG, .inr sHo⟩, ?_⟩
    intro g hn hlo
    replace hn : g.n = 46 := hn
    replace hlo : g.low 0 := hlo
    refine acode_whileW (fun i : Nat => ⟨[(0, encRs r), (1, encBs PL), (7, encBs HL), (8, .int .i64 (i : Int))], [], 0⟩) (fun i => i ≤ r.length ∧ (r.take i).all (fun x => !p x.id || HC x.id) = true) (fun i => r.length - i) 0 ⟨Nat.zero_le _, rfl⟩ ?_ ?_
    · exact Wk.le (St.le.of ⟨by kernel_rfl, rfl, by kernel_rfl, rfl, by kernel_rfl, rfl, by kernel_rfl, rfl, trivial⟩ trivial) hlo
    rintro i ⟨hi, hiv⟩
    replace hi : i ≤ r.length := hi
    by_cases hil : i < r.length
    · refine Exists.elim (getE hil) fun x hx => ?_
      have ei := congrArg (AV.int .i64) (succ64 (k := i) (by omega))
      have hp := hP hx
      have hh := hH hx
      have bad : (!p x.id || HC x.id) = false → some (AV.bool false) = some (AV.bool (r.all fun x => !p x.id || HC x.id)) := fun h => by rw [all_bad (p := fun x => !p x.id || HC x.id) hx h]
      have good : (!p x.id || HC x.id) = true → (r.take (i + 1)).all (fun x => !p x.id || HC x.id) = true := fun h => by rw [take_all hx, hiv, h]; rfl
      refine (Bool.eq_false_or_eq_true (p x.id)).symm.elim (fun h1 => ?_) (fun h1 => ?_)
      · rw [h1] at hp good
        exact ACode.vcM (.br 32 true <| .cells (encBo false) .nil) hn hlo (.roundW .cl) ⟨ltLen hil, idx hp, i + 1, ⟨hil, good rfl⟩, mu1 hil, Wk.le (St.le.of ⟨by kernel_rfl, rfl, by kernel_rfl, rfl, by kernel_rfl, rfl, Eq.trans (by kernel_rfl) ei, rfl, trivial⟩ trivial) hlo⟩
      · rw [h1] at hp good bad
        refine (Bool.eq_false_or_eq_true (HC x.id)).symm.elim (fun h2 => ?_) (fun h2 => ?_)
        · rw [h2] at hh bad
          exact ACode.vcM (.br 32 true <| .cells (encBo true) <| .cells (encBo false) .nil) hn hlo (.roundW .cl) ⟨ltLen hil, idx hp, idx hh, _, .refl _, .nil, [], Eq.trans (by kernel_rfl) (congrArg (Option.map fun v => (v, ([] : List Nat))) (bad rfl))⟩
        · rw [h2] at hh good
          exact ACode.vcM (.br 32 true <| .cells (encBo true) <| .cells (encBo true) .nil) hn hlo (.roundW .cl) ⟨ltLen hil, idx hp, idx hh, i + 1, ⟨hil, good rfl⟩, mu1 hil, Wk.le (St.le.of ⟨by kernel_rfl, rfl, by kernel_rfl, rfl, by kernel_rfl, rfl, Eq.trans (by kernel_rfl) ei, rfl, trivial⟩ trivial) hlo⟩
    · have hi' : i = r.length := by omega
      rw [hi', List.take_length] at hiv
      exact ACode.vcM (.br 32 false .nil) hn hlo (.roundW .cl) ⟨geLen hil, _, .refl _, .nil, [], Eq.trans (by kernel_rfl) (congrArg (fun b => some (AV.bool b, ([] : List Nat))) hiv.symm)⟩
theorem Ahead_spec (a b : List Int) (ha : a.length ≤ 1000) (hb : b.length ≤ 1000) : APure Try.prog 57 [encR a, encR b] (.bool (aheadV a b)) := by
  have la : ((a.map encI).length : Int) = a.length := by rw [List.length_map]
  have lb : ((b.map encI).length : Int) = b.length := by rw [List.length_map]
  unfold aheadV
  by_cases h : a.length = b.length
  · rw [if_pos h]
    have d : (((a.map encI).length : Int) != ((b.map encI).length : Int)) = false := by rw [la, lb, h]; simp
    refine APure.vc Try.func57 rfl (.br 10 false .loop) rfl rfl ⟨d, ?_⟩
    intro g hn hl
    replace hn : g.n = 40 := hn
    replace hl : g.low 0 := hl
    refine acode_while (fun k : Nat => ⟨[(0, encR a), (1, encR b), (5, .int .i64 (k : Int))], [], 0⟩) (fun k => k ≤ a.length ∧ lexV a b = lexV (a.drop k) (b.drop k)) (fun k => a.length - k) 0 ⟨Nat.zero_le _, rfl⟩ ?_ (fun _ _ => hl) ?_
    · exact St.le.of ⟨rfl, rfl, rfl, rfl, rfl, rfl, trivial⟩ trivial
    rintro k ⟨hk, hv⟩
    replace hk : k ≤ a.length := hk
    by_cases hlt : k < a.length
    · refine Exists.elim (getE hlt) fun x hx => ?_
      refine Exists.elim (getE (show k < b.length by omega)) fun y hy => ?_
      have ek := congrArg (AV.int .i64) (succ64 (k := k) (by omega))
      rw [drop_cons hx, drop_cons hy] at hv
      have hv : lexV a b = if x = y then lexV (a.drop (k + 1)) (b.drop (k + 1)) else decide (x < y) := hv
      by_cases e : x = y
      · rw [if_pos e] at hv
        have dx : (x != y) = false := by rw [e]; simp
        exact ACode.vc (.br 19 true <| .draw 8 <| .cells (encI x) <| .cells (encI y) <| .br 30 false .nil) hn hl (.round .cl) ⟨ltLen hlt, by kernel_rfl, mixed, by kernel_rfl, idx hx, idx hy, by kernel_rfl, dx, k + 1, ⟨hlt, hv⟩, mu1 hlt, St.le.of ⟨by kernel_rfl, rfl, by kernel_rfl, rfl, Eq.trans (by kernel_rfl) ek, rfl, trivial⟩ trivial⟩
      · rw [if_neg e] at hv
        have dx : (x != y) = true := bne_iff_ne.2 e
        exact ACode.vc (.br 19 true <| .draw 8 <| .cells (encI x) <| .cells (encI y) <| .br 30 true <| .draw 8 <| .cells (encI x) <| .cells (encI y) .nil) hn hl (.round .cl) ⟨ltLen hlt, by kernel_rfl, mixed, by kernel_rfl, idx hx, idx hy, by kernel_rfl, dx, by kernel_rfl, mixed, by kernel_rfl, idx hx, idx hy, by kernel_rfl, _, .refl _, .nil, trivial, congrArg (fun b => some (AV.bool b)) hv.symm⟩
    · have hk' : k = a.length := by omega
      have e1 : a.drop k = [] := by rw [hk']; exact List.drop_length
      rw [e1] at hv
      have hv : lexV a b = false := by rw [hv]; cases b.drop k <;> rfl
      exact ACode.vc (.br 19 false .nil) hn hl (.round .cl) ⟨geLen hlt, _, .refl _, .nil, trivial, congrArg (fun b => some (AV.bool b)) hv.symm⟩
  · rw [if_neg h]
    have d : (((a.map encI).length : Int) != ((b.map encI).length : Int)) = true := bne_iff_ne.2 (by omega)
    have d2 : decide (((a.map encI).length : Int) < ((b.map encI).length : Int)) = decide (a.length < b.length) := decide_eq_decide.2 (by omega)
    exact APure.vc Try.func57 rfl (.br 10 true .nil) rfl rfl ⟨d, rB d2⟩
theorem open_spec (r : List Rcd) (l : List Ltr) (d id : Int) (h0 : withE r l d id = 0) (hr : recsB r = true) : APure Try.prog 48 [encRs r, encLs l, .int .i64 d, .int .i64 id] (.tup [.int .i64 (fndV (isId id) r), encBs (goB (goneV l d) r), encBs (hoB (goneV l d) r), .int .i64 0]) := by
  refine APure.range rfl rfl ((openR Try.func48 r l d id).mono ?_)
  intro v H' nx' hp
  unfold opnP at hp
  rw [if_pos h0] at hp
  obtain ⟨rfl, rfl, rfl⟩ := hp
  have hG : (goB (goneV l d) r).length = (r.map cRc).length := by unfold goB; rw [List.length_map, List.length_map]
  have hH : (hoB (goneV l d) r).length = (r.map cRc).length := by unfold hoB; rw [List.length_map, List.length_map]
  generalize goB (goneV l d) r = GL at *
  generalize hoB (goneV l d) r = HL at *
  generalize fndV (isId id) r = F at *
  refine ⟨[0, 1], ?_⟩
  have e0 : (AV.tup [.int .i64 F, .rsl 0 0 (r.map cRc).length 1, .rsl 1 0 (r.map cRc).length 1, .int .i64 0]).ok 0 = false := by simp [AV.ok, okL]
  have t2 := thaw_fl 5 (h := hget [(0, .cells (boL GL)), (1, .cells (boL HL))]) (id := 0) (enc := encBo) (n := 1) (l := GL) (fun _ => rfl) (fun _ => rfl) rfl
  have t3 := thaw_fl 5 (h := hget [(0, .cells (boL GL)), (1, .cells (boL HL))]) (id := 1) (enc := encBo) (n := 1) (l := HL) (fun _ => rfl) (fun _ => rfl) rfl
  rw [hG] at t2
  rw [hH] at t3
  have t1 : thaw 7 (hget [(0, .cells (boL GL)), (1, .cells (boL HL))]) (.int .i64 F) = some (.int .i64 F, []) := by unfold thaw; exact if_pos rfl
  have t4 : thaw 7 (hget [(0, .cells (boL GL)), (1, .cells (boL HL))]) (.int .i64 0) = some (.int .i64 0, []) := by unfold thaw; exact if_pos rfl
  have e : thaw 8 (hget [(0, .cells (boL GL)), (1, .cells (boL HL))]) (.tup [.int .i64 F, .rsl 0 0 (r.map cRc).length 1, .rsl 1 0 (r.map cRc).length 1, .int .i64 0]) = (if (AV.tup [.int .i64 F, .rsl 0 0 (r.map cRc).length 1, .rsl 1 0 (r.map cRc).length 1, .int .i64 0]).ok 0 = true then some (.tup [.int .i64 F, .rsl 0 0 (r.map cRc).length 1, .rsl 1 0 (r.map cRc).length 1, .int .i64 0], []) else (mapO (thaw 7 (hget [(0, .cells (boL GL)), (1, .cells (boL HL))])) [.int .i64 F, .rsl 0 0 (r.map cRc).length 1, .rsl 1 0 (r.map cRc).length 1, .int .i64 0]).map fun p => (.tup p.1, p.2)) := rfl
  rw [e, e0]
  simp only [mapO, t1, t2, t3, t4]
  rfl
theorem open_bad (r : List Rcd) (l : List Ltr) (d id : Int) (h0 : withE r l d id ≠ 0) : APure Try.prog 48 [encRs r, encLs l, .int .i64 d, .int .i64 id] (.tup [.int .i64 0, .nil, .nil, .int .i64 (withE r l d id)]) := by
  refine APure.range rfl rfl ((openR Try.func48 r l d id).mono ?_)
  intro v H' nx' hp
  unfold opnP at hp
  rw [if_neg h0] at hp
  obtain ⟨rfl, rfl, rfl⟩ := hp
  exact ⟨[], by unfold thaw; exact if_pos rfl⟩
end Go.Proofs.Ytmdhgkfjlphliaa
/-
  WHAT A RECORD RESTS ON, AND CAUSES, BY THE REFERENCE: the loops over sets.
-/
namespace Go.Proofs.Ytmdhgkfjlphliaa
open Go Go.Am
set_option maxRecDepth 100000
set_option maxHeartbeats 8000000
theorem all_held {r : List Rcd} (hr : recsB r = true) {g : Int → Bool} (hg : ∀ x ∈ r, g x.id = false) : ∀ (k : Nat) (x : Rcd), r[k]? = some x → (heldV g [] r).contains x.id = true := by
  intro k
  induction k using Nat.strongRecOn with
  | _ k ih =>
    intro x hx
    have hxm := List.mem_of_getElem? hx
    refine List.contains_iff_mem.2 ((held_iff hr g hxm).2 ⟨hg x hxm, ?_⟩)
    unfold standsB
    cases hw : x.ways with
    | nil => rfl
    | cons w ws =>
      have hwm : w ∈ x.ways := by rw [hw]; exact List.mem_cons_self
      have hall : (w.all fun i => (heldV g [] r).contains i) = true := List.all_eq_true.2 fun v hv => by
        obtain ⟨j, y, hj, hy, e, _⟩ := ref_at hr hx hwm hv
        rw [← e]; exact ih j hj y hy
      rw [List.any_cons, hall, Bool.true_or, Bool.or_true]
theorem erase_all : ∀ (I g : List Int), g.Nodup → (I.foldl (fun g i => g.erase i) g).Nodup ∧ ∀ i, i ∈ I.foldl (fun g i => g.erase i) g ↔ i ∈ g ∧ i ∉ I := by
  intro I
  induction I with
  | nil => intro g h; exact ⟨h, fun i => by simp⟩
  | cons a I ih =>
    intro g h
    obtain ⟨h1, h2⟩ := ih (g.erase a) (h.erase a)
    refine ⟨h1, fun i => ?_⟩
    rw [List.foldl_cons, h2, h.mem_erase_iff]
    simp only [List.mem_cons, not_or]
    constructor
    · rintro ⟨⟨q1, q2⟩, q3⟩; exact ⟨q2, q1, q3⟩
    · rintro ⟨q2, q1, q3⟩; exact ⟨⟨q1, q2⟩, q3⟩
theorem restG_has {r : List Rcd} {G : List Int} (hG : G.Nodup) (S : Nat) (i : Int) : gF (restG r G S) i = (G.contains i && !(idsOf r S).contains i) := by
  unfold gF restG
  rw [Bool.eq_iff_iff, List.contains_iff_mem, (erase_all _ _ hG).2, Bool.and_eq_true, List.contains_iff_mem]
  constructor
  · rintro ⟨a, b⟩; exact ⟨a, by cases h : (idsOf r S).contains i; rfl; exact absurd (List.contains_iff_mem.1 h) b⟩
  · rintro ⟨a, b⟩; exact ⟨a, fun h => by rw [List.contains_iff_mem.2 h] at b; cases b⟩
theorem bShl2 {k : Nat} (h : k ≤ 12) : (if ((k : Int) < 0) then (none : Option AV) else some (.int .i64 (IntKind.i64.wrap (1 * 2 ^ (min (k : Int).toNat IntKind.i64.bits))))) = some (.int .i64 ((2 ^ k : Nat) : Int)) := by
  have hm : min (k : Int).toNat IntKind.i64.bits = k := by
    rw [Int.toNat_natCast]
    exact Nat.min_eq_left (show k ≤ 64 by omega)
  rw [if_neg (by omega), hm, Int.one_mul]
  have h2 : 2 ^ k ≤ 4096 := Nat.pow_le_pow_right (n := 2) (by omega) h
  rw [show ((2 : Int) ^ k) = ((2 ^ k : Nat) : Int) from by simp]
  generalize 2 ^ k = z at h2 ⊢
  rw [wrap64 (by omega) (by omega)]
def allW (r : List Rcd) (s : Nat) (W : Int → Bool) : Bool := r.all fun x => !inP r s x.id || W x.id
theorem allW_sub {r : List Rcd} (hn : (idsR r).Nodup) {s of : Nat} (hs : s < 2 ^ r.length) {W : Int → Bool} (hof : ∀ (k : Nat) (x : Rcd), r[k]? = some x → of.testBit k = W x.id) : allW r s W = true ↔ subN s of := by
  unfold allW
  rw [List.all_eq_true]
  constructor
  · intro h i hi
    have hil : i < r.length := by
      rcases Nat.lt_or_ge i r.length with h2 | h2
      · exact h2
      · rw [Nat.testBit_lt_two_pow (Nat.lt_of_lt_of_le hs (Nat.pow_le_pow_right (n := 2) (by omega) h2))] at hi; cases hi
    have hx := List.getElem?_eq_getElem hil
    have h1 := h _ (List.mem_of_getElem? hx)
    unfold inP at h1
    rw [ids_bit hn hx, hi, Bool.not_true, Bool.false_or] at h1
    rw [hof i _ hx]; exact h1
  · intro h x hx
    obtain ⟨k, hk⟩ := List.mem_iff_getElem?.1 hx
    unfold inP
    rw [ids_bit hn hk]
    cases hb : s.testBit k
    · rfl
    · rw [← hof k x hk, h k hb]; rfl
theorem carV_whole {r : List Rcd} (hr : recsB r = true) (S : Nat) : carV r (inP r S) = wholeV r S := by
  have hn := (recs_nodup hr).1
  rw [Bool.eq_iff_iff]
  unfold carV
  rw [List.all_eq_true]
  constructor
  · intro h
    unfold wholeV
    refine allI_iff.2 fun k x hx => ?_
    unfold wholeI
    have h1 := h x (List.mem_of_getElem? hx)
    cases hb : S.testBit k
    · rfl
    · have hin : inP r S x.id = true := by unfold inP; rw [ids_bit hn hx]; exact hb
      rw [hin, Bool.not_true, Bool.false_or] at h1
      have h2 := ((held_iff hr (fun i => !inP r S i) (List.mem_of_getElem? hx)).1 (List.contains_iff_mem.1 h1)).2
      rw [Bool.not_true, Bool.false_or]
      refine stands_on (fun w hw v hv hs => ?_) h2
      obtain ⟨j, y, hj, hy, e, _⟩ := ref_at hr hx hw hv
      subst e
      have h3 := ((held_iff hr (fun i => !inP r S i) (List.mem_of_getElem? hy)).1 (List.contains_iff_mem.1 hs)).1
      unfold inP at h3
      rw [ids_bit hn hy] at h3
      rw [mem_bit hn hy]
      simpa using h3
  · intro h x hx
    obtain ⟨k, hk⟩ := List.mem_iff_getElem?.1 hx
    have h1 := whole_held hr h k x hk
    have h2 : (heldV (fun i => !inP r S i) [] r).contains x.id = S.testBit k := h1
    rw [h2]
    unfold inP
    rw [ids_bit hn hk]
    cases S.testBit k <;> rfl
theorem inP_filter (r : List Rcd) (S : Nat) (hn : (idsR r).Nodup) : (idsR r).filter (inP r S) = idsOf r S := by
  unfold idsOf
  rw [idsR_eq, List.filter_map]
  congr 1
  refine List.filter_congr fun i hi => ?_
  have hil := List.mem_range.1 hi
  have hx := List.getElem?_eq_getElem hil
  show inP r S (idA r i) = _
  rw [idA_get hx]
  unfold inP
  rw [ids_bit hn hx]
/-- What is known of a set so far. -/
def rgtK (r : List Rcd) (s : Nat) (W : Int → Bool) (b : Bool) (k : Nat) : Bool := b && (r.take k).all fun x => !inP r s x.id || W x.id
theorem rgtK_succ {r : List Rcd} {s : Nat} {W : Int → Bool} {b : Bool} {k : Nat} {x : Rcd} (hx : r[k]? = some x) : rgtK r s W b (k + 1) = (rgtK r s W b k && (!inP r s x.id || W x.id)) := by
  unfold rgtK
  rw [take_all hx, Bool.and_assoc]
theorem rgtK_all (r : List Rcd) (s : Nat) (W : Int → Bool) (b : Bool) : rgtK r s W b r.length = (b && allW r s W) := by
  unfold rgtK allW
  rw [List.take_length]
def bestV : Option (List Int) → AV
  | none => .nil
  | some L => encR L
theorem besK_succ (r : List Rcd) (v : Nat → Bool) (k : Nat) : besK r v (k + 1) = if v k && (decide ((besK r v k).length = 0) || aheadV (idsOf r k) (besK r v k)) then idsOf r k else besK r v k := rfl
theorem rests_loop (r : List Rcd) (l : List Ltr) (d id : Int) (hr : recsB r = true) (HL : List Bool) (W : Int → Bool) (hHL : ∀ {k : Nat} {x : Rcd}, r[k]? = some x → HL[k]? = some (W x.id)) (GL : List Bool) (j : Nat) (y0 : Rcd) (hy0 : r[j]? = some y0) (hw0 : W y0.id = true)
    (sO : APure Try.prog 48 [encRs r, encLs l, .int .i64 d, .int .i64 id] (.tup [.int .i64 (j : Int), encBs GL, encBs HL, .int .i64 0]))
    (v : Nat → Bool) (hv : ∀ s, v s = ((s.testBit j && allW r s W) && carV r (inP r s))) (hfin : besK r v (2 ^ r.length) ≠ []) (hne : ∀ s, s < 2 ^ r.length → v s = true → idsOf r s ≠ []) :
    APure Try.prog 20 [encRs r, encLs l, .int .i64 d, .int .i64 id] (.tup [encR (besK r v (2 ^ r.length)), .int .i64 0]) := by
  have hn := (recs_nodup hr).1
  have hrl := (recs_nodup hr).2.2
  have hlen : (r.map cRc).length = r.length := List.length_map _
  have h12 : (2 : Nat) ^ r.length ≤ 4096 := Nat.pow_le_pow_right (n := 2) (by omega) hrl
  obtain ⟨PW, hPW⟩ : ∃ PW, PW = 2 ^ r.length := ⟨_, rfl⟩
  rw [← hPW] at hfin hne h12 ⊢
  have v41 : (if (((r.map cRc).length : Int) < 0) then (none : Option AV) else some (.int .i64 (IntKind.i64.wrap (1 * 2 ^ (min ((r.map cRc).length : Int).toNat IntKind.i64.bits))))).map (fun v => (⟨v, []⟩ : Out)) = some ⟨.int .i64 (PW : Int), []⟩ := by
    rw [bShl2 (k := (r.map cRc).length) (by omega), hPW, hlen]; rfl
  have hids : ∀ s, (idsOf r s).length ≤ 1000 := fun s => by
    unfold idsOf
    rw [List.length_map]
    have := List.length_filter_le (fun i => s.testBit i) (List.range r.length)
    rw [List.length_range] at this
    omega
  have sI : ∀ s, APureF Try.prog 43 [encRs r, encBs (inL r s)] (encR (idsOf r s)) := fun s => by
    have := rids_ok r (inP r s) (by omega)
    rw [inP_filter r s hn] at this
    exact this
  have sCa := fun s => Carries_spec r (inP r s) hr
  have sMe := fun s (h : s < 4096) => members_spec r s hn hrl h
  have hat := fun (s : Nat) {k : Nat} {x : Rcd} (hx : r[k]? = some x) => inL_at hn (S := s) hx
  have hinP := fun (s : Nat) {k : Nat} {x : Rcd} (hx : r[k]? = some x) => (show inP r s x.id = s.testBit k by unfold inP; exact ids_bit hn hx s)
  have hin : ∀ s, (r.map fun x => inP r s x.id) = inL r s := fun s => rfl
  simp only [hin] at sCa
  obtain ⟨BK, hBK⟩ : ∃ BK : Nat → List Int, BK = besK r v := ⟨_, rfl⟩
  have hB0 : BK 0 = [] := by rw [hBK]; rfl
  have hBs : ∀ k, BK (k + 1) = if v k && (decide ((BK k).length = 0) || aheadV (idsOf r k) (BK k)) then idsOf r k else BK k := fun k => by rw [hBK]; rfl
  rw [← hBK] at hfin ⊢
  clear hBK
  have hH0 := hHL hy0
  rw [hw0] at hH0
  refine APure.vcM Try.func20 (.call (.tup [.int .i64 (j : Int), encBs GL, encBs HL, .int .i64 0]) <| .cells (encBo true) <| .loop) rfl rfl ⟨sO, idx hH0, ?_⟩
  intro g hgn hlo
  replace hgn : g.n = 93 := hgn
  replace hlo : g.low 0 := hlo
  have hlo0 := hlo
  refine acode_whileW (fun p : Nat × Option (List Int) => ⟨[(0, encRs r), (10, .int .i64 (j : Int)), (12, encBs HL), (14, bestV p.2), (15, .int .i64 (p.1 : Int))], [], 0⟩) (fun p => p.1 ≤ PW ∧ match p.2 with | none => BK p.1 = [] | some L => BK p.1 = L ∧ L.length ≠ 0 ∧ L.length ≤ 1000) (fun p => PW - p.1) (0, none) ⟨Nat.zero_le _, hB0⟩ ?_ ?_
  · exact Wk.le (St.le.of ⟨by kernel_rfl, rfl, by kernel_rfl, rfl, by kernel_rfl, rfl, by kernel_rfl, rfl, by kernel_rfl, rfl, trivial⟩ trivial) hlo
  rintro ⟨s, best⟩ ⟨hs, hb⟩
  replace hs : s ≤ PW := hs
  have es := congrArg (AV.int .i64) (succ64 (k := s) (by omega))
  have hbs := hBs s
  have hvs := hv s
  by_cases hsl : s < PW
  · have d42 : decide ((s : Int) < (PW : Int)) = true := decide_eq_true (by omega)
    have sMs := sMe s (by omega)
    have sIs := sI s
    have sCs := sCa s
    have hsat := fun {k : Nat} {x : Rcd} (hx : r[k]? = some x) => hat s hx
    have hsin := fun {k : Nat} {x : Rcd} (hx : r[k]? = some x) => hinP s hx
    have hidl := hids s
    have hnes := hne s hsl
    have h0 := hsat hy0
    have hR0 : rgtK r s W (s.testBit j) 0 = s.testBit j := by unfold rgtK; simp
    have hRs := fun {k : Nat} {x : Rcd} (hx : r[k]? = some x) => rgtK_succ (s := s) (W := W) (b := s.testBit j) hx
    have hRn := rgtK_all r s W (s.testBit j)
    rw [← hRn] at hvs
    obtain ⟨RK, hRK⟩ : ∃ RK : Nat → Bool, RK = rgtK r s W (s.testBit j) := ⟨_, rfl⟩
    have hR0 : RK 0 = s.testBit j := by rw [hRK]; exact hR0
    have hRq : ∀ {k : Nat} {x : Rcd}, r[k]? = some x → RK (k + 1) = (RK k && (!s.testBit k || W x.id)) := fun hx => by rw [hRK, hRs hx, hsin hx]
    rw [← hRK] at hvs
    clear hRK hRn hRs
    generalize hBit : s.testBit j = BJ at *
    generalize hCV : carV r (inP r s) = CV at *
    generalize idsOf r s = X at *
    generalize inL r s = PL at *
    have stay : v s = false → ∀ {b : Option (List Int)}, (match b with | none => BK s = [] | some L => BK s = L ∧ L.length ≠ 0 ∧ L.length ≤ 1000) → (match b with | none => BK (s + 1) = [] | some L => BK (s + 1) = L ∧ L.length ≠ 0 ∧ L.length ≤ 1000) := fun h {b} hb => by
      rw [h, Bool.false_and] at hbs
      rw [show BK (s + 1) = BK s from hbs]; exact hb
    cases best with
    | none =>
      refine ACode.vcM (.val 41 (.int .i64 (PW : Int)) [] <| .br 42 true <| .call (encBs PL) <| .cells (encBo BJ) <| .loop) hgn hlo (.roundW .cl) ⟨Eq.trans (by kernel_rfl) v41, d42, sMs, idx h0, ?_⟩
      intro g hgn hlo
      replace hgn : g.n = 93 := hgn
      replace hlo : g.low 0 := hlo
      refine acode_whileW (fun i : Nat => ⟨[(0, encRs r), (10, .int .i64 (j : Int)), (12, encBs HL), (14, .nil), (15, .int .i64 (s : Int)), (16, encBs PL), (17, .bool (RK i)), (18, .int .i64 (i : Int))], [], 0⟩) (fun i => i ≤ r.length) (fun i => r.length - i) 0 (Nat.zero_le _) ?_ ?_
      · have e17 : AV.bool BJ = .bool (RK 0) := by rw [hR0]
        exact Wk.le (St.le.of ⟨by kernel_rfl, rfl, by kernel_rfl, rfl, by kernel_rfl, rfl, by kernel_rfl, rfl, by kernel_rfl, rfl, by kernel_rfl, rfl, Eq.trans (by kernel_rfl) e17, rfl, by kernel_rfl, rfl, trivial⟩ trivial) hlo
      intro i hi
      replace hi : i ≤ r.length := hi
      by_cases hil : i < r.length
      · refine Exists.elim (getE hil) fun x hx => ?_
        have ei := congrArg (AV.int .i64) (succ64 (k := i) (by omega))
        have hp := hsat hx
        have hh := hHL hx
        have hrs := hRq hx
        refine (Bool.eq_false_or_eq_true (RK i)).symm.elim (fun h1 => ?_) (fun h1 => ?_)
        · rw [h1] at hrs
          have e17 : AV.bool false = .bool (RK (i + 1)) := by rw [hrs]; rfl
          exact ACode.vcM (.br 55 true <| .br 59 false .nil) hgn hlo (.roundW .cl) ⟨ltLen hil, h1, i + 1, hil, mu1 hil, Wk.le (St.le.of ⟨by kernel_rfl, rfl, by kernel_rfl, rfl, by kernel_rfl, rfl, by kernel_rfl, rfl, by kernel_rfl, rfl, by kernel_rfl, rfl, Eq.trans (by kernel_rfl) e17, rfl, Eq.trans (by kernel_rfl) ei, rfl, trivial⟩ trivial) hlo⟩
        · rw [h1] at hrs
          refine (Bool.eq_false_or_eq_true (s.testBit i)).symm.elim (fun h2 => ?_) (fun h2 => ?_)
          · rw [h2] at hrs hp
            have e17 : AV.bool true = .bool (RK (i + 1)) := by rw [hrs]; rfl
            exact ACode.vcM (.br 55 true <| .br 59 true <| .cells (encBo false) .nil) hgn hlo (.roundW .cl) ⟨ltLen hil, h1, idx hp, i + 1, hil, mu1 hil, Wk.le (St.le.of ⟨by kernel_rfl, rfl, by kernel_rfl, rfl, by kernel_rfl, rfl, by kernel_rfl, rfl, by kernel_rfl, rfl, by kernel_rfl, rfl, Eq.trans (by kernel_rfl) e17, rfl, Eq.trans (by kernel_rfl) ei, rfl, trivial⟩ trivial) hlo⟩
          · rw [h2] at hrs hp
            have e17 : AV.bool (W x.id) = .bool (RK (i + 1)) := by rw [hrs]; rfl
            exact ACode.vcM (.br 55 true <| .br 59 true <| .cells (encBo true) <| .cells (encBo (W x.id)) .nil) hgn hlo (.roundW .cl) ⟨ltLen hil, h1, idx hp, idx hh, i + 1, hil, mu1 hil, Wk.le (St.le.of ⟨by kernel_rfl, rfl, by kernel_rfl, rfl, by kernel_rfl, rfl, by kernel_rfl, rfl, by kernel_rfl, rfl, by kernel_rfl, rfl, Eq.trans (by kernel_rfl) e17, rfl, Eq.trans (by kernel_rfl) ei, rfl, trivial⟩ trivial) hlo⟩
      · have hi' : i = r.length := by omega
        subst hi'
        refine (Bool.eq_false_or_eq_true (RK r.length)).symm.elim (fun h1 => ?_) (fun h1 => ?_)
        · have d74 : (!RK r.length) = true := by rw [h1]; rfl
          have hvf : v s = false := by rw [hvs, h1]; rfl
          exact ACode.vcM (.br 55 false .nil) hgn hlo (.roundW .cl) ⟨geLen hil, _, .refl _, .br 74 true .nil, d74, (s + 1, none), ⟨hsl, stay hvf (b := none) hb⟩, mu1 hsl, Wk.le (St.le.of ⟨by kernel_rfl, rfl, by kernel_rfl, rfl, by kernel_rfl, rfl, by kernel_rfl, rfl, Eq.trans (by kernel_rfl) es, rfl, trivial⟩ trivial) hlo0⟩
        · have d74 : (!RK r.length) = false := by rw [h1]; rfl
          refine (Bool.eq_false_or_eq_true CV).symm.elim (fun h2 => ?_) (fun h2 => ?_)
          · have hvf : v s = false := by rw [hvs, h2, Bool.and_false]
            rw [h2] at sCs
            exact ACode.vcM (.br 55 false .nil) hgn hlo (.roundW .cl) ⟨geLen hil, _, .refl _, .br 74 false <| .call (.bool false) .nil, d74, sCs, (s + 1, none), ⟨hsl, stay hvf (b := none) hb⟩, mu1 hsl, Wk.le (St.le.of ⟨by kernel_rfl, rfl, by kernel_rfl, rfl, by kernel_rfl, rfl, by kernel_rfl, rfl, Eq.trans (by kernel_rfl) es, rfl, trivial⟩ trivial) hlo0⟩
          · have hvt : v s = true := by rw [hvs, h1, h2]; rfl
            rw [h2] at sCs
            rw [hvt, Bool.true_and] at hbs
            have hXn : X.length ≠ 0 := fun h => hnes hvt (List.eq_nil_of_length_eq_zero h)
            have hb : BK s = [] := hb
            rw [hb] at hbs
            have hbs : BK (s + 1) = X := hbs
            exact ACode.vcM (.br 55 false .nil) hgn hlo (.roundW .cl) ⟨geLen hil, _, .refl _, .br 74 false <| .call (.bool true) <| .lent (encR X) [] .nil, d74, sCs, ⟨_, by kernel_rfl, .inr sIs⟩, (s + 1, some X), ⟨hsl, hbs, hXn, hidl⟩, mu1 hsl, Wk.le (St.le.of ⟨by kernel_rfl, rfl, by kernel_rfl, rfl, by kernel_rfl, rfl, by kernel_rfl, rfl, Eq.trans (by kernel_rfl) es, rfl, trivial⟩ trivial) hlo0⟩
    | some L =>
      refine ACode.vcM (.val 41 (.int .i64 (PW : Int)) [] <| .br 42 true <| .call (encBs PL) <| .cells (encBo BJ) <| .loop) hgn hlo (.roundW .cl) ⟨Eq.trans (by kernel_rfl) v41, d42, sMs, idx h0, ?_⟩
      intro g hgn hlo
      replace hgn : g.n = 93 := hgn
      replace hlo : g.low 0 := hlo
      refine acode_whileW (fun i : Nat => ⟨[(0, encRs r), (10, .int .i64 (j : Int)), (12, encBs HL), (14, encR L), (15, .int .i64 (s : Int)), (16, encBs PL), (17, .bool (RK i)), (18, .int .i64 (i : Int))], [], 0⟩) (fun i => i ≤ r.length) (fun i => r.length - i) 0 (Nat.zero_le _) ?_ ?_
      · have e17 : AV.bool BJ = .bool (RK 0) := by rw [hR0]
        exact Wk.le (St.le.of ⟨by kernel_rfl, rfl, by kernel_rfl, rfl, by kernel_rfl, rfl, by kernel_rfl, rfl, by kernel_rfl, rfl, by kernel_rfl, rfl, Eq.trans (by kernel_rfl) e17, rfl, by kernel_rfl, rfl, trivial⟩ trivial) hlo
      intro i hi
      replace hi : i ≤ r.length := hi
      by_cases hil : i < r.length
      · refine Exists.elim (getE hil) fun x hx => ?_
        have ei := congrArg (AV.int .i64) (succ64 (k := i) (by omega))
        have hp := hsat hx
        have hh := hHL hx
        have hrs := hRq hx
        refine (Bool.eq_false_or_eq_true (RK i)).symm.elim (fun h1 => ?_) (fun h1 => ?_)
        · rw [h1] at hrs
          have e17 : AV.bool false = .bool (RK (i + 1)) := by rw [hrs]; rfl
          exact ACode.vcM (.br 55 true <| .br 59 false .nil) hgn hlo (.roundW .cl) ⟨ltLen hil, h1, i + 1, hil, mu1 hil, Wk.le (St.le.of ⟨by kernel_rfl, rfl, by kernel_rfl, rfl, by kernel_rfl, rfl, by kernel_rfl, rfl, by kernel_rfl, rfl, by kernel_rfl, rfl, Eq.trans (by kernel_rfl) e17, rfl, Eq.trans (by kernel_rfl) ei, rfl, trivial⟩ trivial) hlo⟩
        · rw [h1] at hrs
          refine (Bool.eq_false_or_eq_true (s.testBit i)).symm.elim (fun h2 => ?_) (fun h2 => ?_)
          · rw [h2] at hrs hp
            have e17 : AV.bool true = .bool (RK (i + 1)) := by rw [hrs]; rfl
            exact ACode.vcM (.br 55 true <| .br 59 true <| .cells (encBo false) .nil) hgn hlo (.roundW .cl) ⟨ltLen hil, h1, idx hp, i + 1, hil, mu1 hil, Wk.le (St.le.of ⟨by kernel_rfl, rfl, by kernel_rfl, rfl, by kernel_rfl, rfl, by kernel_rfl, rfl, by kernel_rfl, rfl, by kernel_rfl, rfl, Eq.trans (by kernel_rfl) e17, rfl, Eq.trans (by kernel_rfl) ei, rfl, trivial⟩ trivial) hlo⟩
          · rw [h2] at hrs hp
            have e17 : AV.bool (W x.id) = .bool (RK (i + 1)) := by rw [hrs]; rfl
            exact ACode.vcM (.br 55 true <| .br 59 true <| .cells (encBo true) <| .cells (encBo (W x.id)) .nil) hgn hlo (.roundW .cl) ⟨ltLen hil, h1, idx hp, idx hh, i + 1, hil, mu1 hil, Wk.le (St.le.of ⟨by kernel_rfl, rfl, by kernel_rfl, rfl, by kernel_rfl, rfl, by kernel_rfl, rfl, by kernel_rfl, rfl, by kernel_rfl, rfl, Eq.trans (by kernel_rfl) e17, rfl, Eq.trans (by kernel_rfl) ei, rfl, trivial⟩ trivial) hlo⟩
      · have hi' : i = r.length := by omega
        subst hi'
        refine (Bool.eq_false_or_eq_true (RK r.length)).symm.elim (fun h1 => ?_) (fun h1 => ?_)
        · have d74 : (!RK r.length) = true := by rw [h1]; rfl
          have hvf : v s = false := by rw [hvs, h1]; rfl
          exact ACode.vcM (.br 55 false .nil) hgn hlo (.roundW .cl) ⟨geLen hil, _, .refl _, .br 74 true .nil, d74, (s + 1, some L), ⟨hsl, stay hvf (b := some L) hb⟩, mu1 hsl, Wk.le (St.le.of ⟨by kernel_rfl, rfl, by kernel_rfl, rfl, by kernel_rfl, rfl, by kernel_rfl, rfl, Eq.trans (by kernel_rfl) es, rfl, trivial⟩ trivial) hlo0⟩
        · have d74 : (!RK r.length) = false := by rw [h1]; rfl
          refine (Bool.eq_false_or_eq_true CV).symm.elim (fun h2 => ?_) (fun h2 => ?_)
          · have hvf : v s = false := by rw [hvs, h2, Bool.and_false]
            rw [h2] at sCs
            exact ACode.vcM (.br 55 false .nil) hgn hlo (.roundW .cl) ⟨geLen hil, _, .refl _, .br 74 false <| .call (.bool false) .nil, d74, sCs, (s + 1, some L), ⟨hsl, stay hvf (b := some L) hb⟩, mu1 hsl, Wk.le (St.le.of ⟨by kernel_rfl, rfl, by kernel_rfl, rfl, by kernel_rfl, rfl, by kernel_rfl, rfl, Eq.trans (by kernel_rfl) es, rfl, trivial⟩ trivial) hlo0⟩
          · have hvt : v s = true := by rw [hvs, h1, h2]; rfl
            rw [h2] at sCs
            rw [hvt, Bool.true_and] at hbs
            have hXn : X.length ≠ 0 := fun h => hnes hvt (List.eq_nil_of_length_eq_zero h)
            have hbL : BK s = L ∧ L.length ≠ 0 ∧ L.length ≤ 1000 := hb
            have sAh := Ahead_spec X L hidl hbL.2.2
            rw [hbL.1, decide_eq_false hbL.2.1, Bool.false_or] at hbs
            have d86 : (((L.map encI).length : Int) == 0) = false := by rw [List.length_map]; exact beq_eq_false_iff_ne.2 (by omega)
            refine (Bool.eq_false_or_eq_true (aheadV X L)).symm.elim (fun h3 => ?_) (fun h3 => ?_)
            · rw [h3] at hbs sAh
              have hbs : BK (s + 1) = L := hbs
              exact ACode.vcM (.br 55 false .nil) hgn hlo (.roundW .cl) ⟨geLen hil, _, .refl _, .br 74 false <| .call (.bool true) <| .lent (encR X) [] <| .br 86 false <| .call (.bool false) .nil, d74, sCs, ⟨_, by kernel_rfl, .inr sIs⟩, d86, sAh, (s + 1, some L), ⟨hsl, hbs, hbL.2.1, hbL.2.2⟩, mu1 hsl, Wk.le (St.le.of ⟨by kernel_rfl, rfl, by kernel_rfl, rfl, by kernel_rfl, rfl, by kernel_rfl, rfl, Eq.trans (by kernel_rfl) es, rfl, trivial⟩ trivial) hlo0⟩
            · rw [h3] at hbs sAh
              have hbs : BK (s + 1) = X := hbs
              exact ACode.vcM (.br 55 false .nil) hgn hlo (.roundW .cl) ⟨geLen hil, _, .refl _, .br 74 false <| .call (.bool true) <| .lent (encR X) [] <| .br 86 false <| .call (.bool true) .nil, d74, sCs, ⟨_, by kernel_rfl, .inr sIs⟩, d86, sAh, (s + 1, some X), ⟨hsl, hbs, hXn, hidl⟩, mu1 hsl, Wk.le (St.le.of ⟨by kernel_rfl, rfl, by kernel_rfl, rfl, by kernel_rfl, rfl, by kernel_rfl, rfl, Eq.trans (by kernel_rfl) es, rfl, trivial⟩ trivial) hlo0⟩
  · have hs' : s = PW := by omega
    subst hs'
    have d42 : decide ((s : Int) < (s : Int)) = false := decide_eq_false (by omega)
    cases best with
    | none => exact absurd hb hfin
    | some L =>
      have hbL : BK s = L ∧ L.length ≠ 0 ∧ L.length ≤ 1000 := hb
      have ev : thaw 8 (hget []) (.tup [encR L, .int .i64 0]) = some (.tup [encR (BK s), .int .i64 0], []) := by rw [hbL.1]; unfold thaw; exact if_pos rfl
      exact ACode.vcM (.val 41 (.int .i64 (s : Int)) [] <| .br 42 false .nil) hgn hlo (.roundW .cl) ⟨Eq.trans (by kernel_rfl) v41, d42, _, .refl _, .nil, [], Eq.trans (by kernel_rfl) ev⟩
theorem causes_loop (r : List Rcd) (l : List Ltr) (d id : Int) (hr : recsB r = true) (W : Int → Bool) (GL : List Bool) (hGL : ∀ {k : Nat} {x : Rcd}, r[k]? = some x → GL[k]? = some (W x.id)) (HL : List Bool) (j : Nat) (y0 : Rcd) (hy0 : r[j]? = some y0) (hyi : y0.id = id) (hw0 : HL[j]? = some false)
    (sO : APure Try.prog 48 [encRs r, encLs l, .int .i64 d, .int .i64 id] (.tup [.int .i64 (j : Int), encBs GL, encBs HL, .int .i64 0]))
    (v : Nat → Bool) (hv : ∀ s, v s = (allW r s W && (heldV (fun i => W i && !inP r s i) [] r).contains id)) (hfin : besK r v (2 ^ r.length) ≠ []) (hne : ∀ s, s < 2 ^ r.length → v s = true → idsOf r s ≠ []) :
    APure Try.prog 22 [encRs r, encLs l, .int .i64 d, .int .i64 id] (.tup [encR (besK r v (2 ^ r.length)), .int .i64 0]) := by
  have hn := (recs_nodup hr).1
  have hrl := (recs_nodup hr).2.2
  have hlen : (r.map cRc).length = r.length := List.length_map _
  have h12 : (2 : Nat) ^ r.length ≤ 4096 := Nat.pow_le_pow_right (n := 2) (by omega) hrl
  obtain ⟨PW, hPW⟩ : ∃ PW, PW = 2 ^ r.length := ⟨_, rfl⟩
  rw [← hPW] at hfin hne h12 ⊢
  have v41 : (if (((r.map cRc).length : Int) < 0) then (none : Option AV) else some (.int .i64 (IntKind.i64.wrap (1 * 2 ^ (min ((r.map cRc).length : Int).toNat IntKind.i64.bits))))).map (fun v => (⟨v, []⟩ : Out)) = some ⟨.int .i64 (PW : Int), []⟩ := by
    rw [bShl2 (k := (r.map cRc).length) (by omega), hPW, hlen]; rfl
  have hids : ∀ s, (idsOf r s).length ≤ 1000 := fun s => by
    unfold idsOf
    rw [List.length_map]
    have := List.length_filter_le (fun i => s.testBit i) (List.range r.length)
    rw [List.length_range] at this
    omega
  have sI : ∀ s, APureF Try.prog 43 [encRs r, encBs (inL r s)] (encR (idsOf r s)) := fun s => by
    have := rids_ok r (inP r s) (by omega)
    rw [inP_filter r s hn] at this
    exact this
  have sMe := fun s (h : s < 4096) => members_spec r s hn hrl h
  have sHo := fun s => rHold_spec r (fun i => W i && !inP r s i) hr
  have hHX := fun (s : Nat) {k : Nat} {x : Rcd} (hx : r[k]? = some x) => (show (hoB (fun i => W i && !inP r s i) r)[k]? = some ((heldV (fun i => W i && !inP r s i) [] r).contains x.id) by unfold hoB; rw [List.getElem?_map, hx]; rfl)
  have hat := fun (s : Nat) {k : Nat} {x : Rcd} (hx : r[k]? = some x) => inL_at hn (S := s) hx
  have hinP := fun (s : Nat) {k : Nat} {x : Rcd} (hx : r[k]? = some x) => (show inP r s x.id = s.testBit k by unfold inP; exact ids_bit hn hx s)
  have hLf := fun (s : Nat) {k : Nat} {x : Rcd} (hx : r[k]? = some x) => (show (goB (fun i => W i && !inP r s i) r)[k]? = some (W x.id && !s.testBit k) by unfold goB; rw [List.getElem?_map, hx]; show some (W x.id && !inP r s x.id) = _; rw [hinP s hx])
  have hLl := fun (s : Nat) => (show (goB (fun i => W i && !inP r s i) r).length = r.length from List.length_map _)
  obtain ⟨BK, hBK⟩ : ∃ BK : Nat → List Int, BK = besK r v := ⟨_, rfl⟩
  have hB0 : BK 0 = [] := by rw [hBK]; rfl
  have hBs : ∀ k, BK (k + 1) = if v k && (decide ((BK k).length = 0) || aheadV (idsOf r k) (BK k)) then idsOf r k else BK k := fun k => by rw [hBK]; rfl
  rw [← hBK] at hfin ⊢
  clear hBK
  have mk := mk_bools (id := 0) (len := (r.map cRc).length) (by omega)
  refine APure.vcM Try.func22 (.call (.tup [.int .i64 (j : Int), encBs GL, encBs HL, .int .i64 0]) <| .cells (encBo false) <| .loop) rfl rfl ⟨sO, idx hw0, ?_⟩
  intro g hgn hlo
  replace hgn : g.n = 109 := hgn
  replace hlo : g.low 0 := hlo
  have hlo0 := hlo
  refine acode_whileW (fun p : Nat × Option (List Int) => ⟨[(0, encRs r), (10, .int .i64 (j : Int)), (11, encBs GL), (14, bestV p.2), (15, .int .i64 (p.1 : Int))], [], 0⟩) (fun p => p.1 ≤ PW ∧ match p.2 with | none => BK p.1 = [] | some L => BK p.1 = L ∧ L.length ≠ 0 ∧ L.length ≤ 1000) (fun p => PW - p.1) (0, none) ⟨Nat.zero_le _, hB0⟩ ?_ ?_
  · exact Wk.le (St.le.of ⟨by kernel_rfl, rfl, by kernel_rfl, rfl, by kernel_rfl, rfl, by kernel_rfl, rfl, by kernel_rfl, rfl, trivial⟩ trivial) hlo
  rintro ⟨s, best⟩ ⟨hs, hb⟩
  replace hs : s ≤ PW := hs
  have es := congrArg (AV.int .i64) (succ64 (k := s) (by omega))
  have hbs := hBs s
  have hvs := hv s
  by_cases hsl : s < PW
  · have d42 : decide ((s : Int) < (PW : Int)) = true := decide_eq_true (by omega)
    have sMs := sMe s (by omega)
    have sIs := sI s
    have sHs := sHo s
    have hXs := hHX s hy0
    rw [hyi] at hXs
    have hsat := fun {k : Nat} {x : Rcd} (hx : r[k]? = some x) => hat s hx
    have hsin := fun {k : Nat} {x : Rcd} (hx : r[k]? = some x) => hinP s hx
    have hsL := fun {k : Nat} {x : Rcd} (hx : r[k]? = some x) => hLf s hx
    have hsl2 := hLl s
    have hidl := hids s
    have hnes := hne s hsl
    have hR0 : rgtK r s W true 0 = true := rfl
    have hRs := fun {k : Nat} {x : Rcd} (hx : r[k]? = some x) => rgtK_succ (s := s) (W := W) (b := true) hx
    have hRn := rgtK_all r s W true
    rw [Bool.true_and] at hRn
    rw [← hRn] at hvs
    obtain ⟨RK, hRK⟩ : ∃ RK : Nat → Bool, RK = rgtK r s W true := ⟨_, rfl⟩
    have hRz : RK 0 = true := by rw [hRK]; exact hR0
    have hRq : ∀ {k : Nat} {x : Rcd}, r[k]? = some x → RK (k + 1) = (RK k && (!s.testBit k || W x.id)) := fun hx => by rw [hRK, hRs hx, hsin hx]
    rw [← hRK] at hvs
    clear hRK hRn hRs hR0
    generalize hCV : (heldV (fun i => W i && !inP r s i) [] r).contains id = CV at *
    generalize hoB (fun i => W i && !inP r s i) r = HX at *
    generalize goB (fun i => W i && !inP r s i) r = LL at *
    generalize idsOf r s = X at *
    generalize inL r s = PL at *
    have stay : v s = false → ∀ {b : Option (List Int)}, (match b with | none => BK s = [] | some L => BK s = L ∧ L.length ≠ 0 ∧ L.length ≤ 1000) → (match b with | none => BK (s + 1) = [] | some L => BK (s + 1) = L ∧ L.length ≠ 0 ∧ L.length ≤ 1000) := fun h {b} hb => by
      rw [h, Bool.false_and] at hbs
      rw [show BK (s + 1) = BK s from hbs]; exact hb
    have tG : thawL (hget [(0, .cells (boL (bK LL r.length r.length)))]) [encRs r, .rsl 0 0 (r.map cRc).length 1] = some ([encRs r, encBs LL], [0]) := by
      have t1 : thaw 8 (hget [(0, .cells (boL (bK LL r.length r.length)))]) (encRs r) = some (encRs r, []) := by unfold thaw; exact if_pos rfl
      have t2 := thaw_fl 6 (h := hget [(0, .cells (boL (bK LL r.length r.length)))]) (id := 0) (enc := encBo) (n := 1) (l := bK LL r.length r.length) (fun _ => rfl) (fun _ => rfl) rfl
      rw [bK_len hsl2 (Nat.le_refl _)] at t2
      rw [hlen]
      simp only [thawL, mapO, t1, t2]
      rw [bK_all hsl2]; rfl
    cases best with
    | none =>
      refine ACode.vcM (.val 41 (.int .i64 (PW : Int)) [] <| .br 42 true <| .call (encBs PL) <| .val 50 (.rsl 0 0 (r.map cRc).length 1) [(0, some (.cells (boL (List.replicate (r.map cRc).length false))))] <| .loop) hgn hlo (.roundW .cl) ⟨Eq.trans (by kernel_rfl) v41, d42, sMs, Eq.trans (by kernel_rfl) mk, ?_⟩
      intro g hgn hlo
      replace hgn : g.n = 109 := hgn
      replace hlo : g.low 0 := hlo
      refine acode_whileW (fun i : Nat => ⟨[(0, encRs r), (10, .int .i64 (j : Int)), (11, encBs GL), (14, .nil), (15, .int .i64 (s : Int)), (16, encBs PL), (17, .rsl 0 0 (r.map cRc).length 1), (18, .bool (RK i)), (19, .int .i64 (i : Int))], [(0, .cells (boL (bK LL r.length i)))], 1⟩) (fun i => i ≤ r.length) (fun i => r.length - i) 0 (Nat.zero_le _) ?_ ?_
      · have e18 : AV.bool true = .bool (RK 0) := by rw [hRz]
        have o1 : some (AObj.cells (boL (List.replicate (r.map cRc).length false))) = some (.cells (boL (bK LL r.length 0))) := by rw [hlen]; rfl
        exact Wk.le (St.le.of ⟨by kernel_rfl, rfl, by kernel_rfl, rfl, by kernel_rfl, rfl, by kernel_rfl, rfl, by kernel_rfl, rfl, by kernel_rfl, rfl, by kernel_rfl, rfl, Eq.trans (by kernel_rfl) e18, rfl, by kernel_rfl, rfl, trivial⟩ ⟨Eq.trans (by kernel_rfl) o1, (by decide : (0 : Nat) < 1), boL_ok _ _, trivial⟩) (hlo.mono (Nat.zero_le _))
      intro i hi
      replace hi : i ≤ r.length := hi
      by_cases hil : i < r.length
      · refine Exists.elim (getE hil) fun x hx => ?_
        have ei := congrArg (AV.int .i64) (succ64 (k := i) (by omega))
        have hp := hsat hx
        have hg := hGL hx
        have hrs := hRq hx
        have hll := hsL hx
        have ixi := ixBo (h := hget []) (id := 0) (n := (r.map cRc).length) (k := i) (by omega)
        have bl := bK_len (L := LL) (n := r.length) (k := i) hsl2 (by omega)
        have sti := (stBo (h := hget [(0, .cells (boL (bK LL r.length i)))]) (id := 0) (k := i) (l := bK LL r.length i) (x := W x.id && !s.testBit i) rfl (by omega)).trans (by rw [bK_set hsl2 hil hll])
        refine (Bool.eq_false_or_eq_true (RK i)).symm.elim (fun h1 => ?_) (fun h1 => ?_) <;> refine (Bool.eq_false_or_eq_true (s.testBit i)).symm.elim (fun h2 => ?_) (fun h2 => ?_) <;> refine (Bool.eq_false_or_eq_true (W x.id)).symm.elim (fun h3 => ?_) (fun h3 => ?_)
        · rw [h1, h2, h3] at hrs
          rw [h2] at hp
          rw [h3] at hg
          rw [h2, h3] at sti
          have e18 : AV.bool false = .bool (RK (i + 1)) := by rw [hrs]; rfl
          exact ACode.vcM (.br 54 true <| .br 58 false <| .cells (encBo false) <| .val 84 (.vptr 0 i) [] <| .val 1 .undef [(0, some (.cells (boL (bK LL r.length (i + 1)))))] .nil) hgn hlo (.roundW .cl) ⟨ltLen hil, h1, idx hg, Eq.trans (by kernel_rfl) ixi, Eq.trans (by kernel_rfl) sti, i + 1, hil, mu1 hil, Wk.le (St.le.of ⟨by kernel_rfl, rfl, by kernel_rfl, rfl, by kernel_rfl, rfl, by kernel_rfl, rfl, by kernel_rfl, rfl, by kernel_rfl, rfl, by kernel_rfl, rfl, Eq.trans (by kernel_rfl) e18, rfl, Eq.trans (by kernel_rfl) ei, rfl, trivial⟩ ⟨by kernel_rfl, (by decide : (0 : Nat) < 1), boL_ok _ _, trivial⟩) (hlo.mono (Nat.zero_le _))⟩
        · rw [h1, h2, h3] at hrs
          rw [h2] at hp
          rw [h3] at hg
          rw [h2, h3] at sti
          have e18 : AV.bool false = .bool (RK (i + 1)) := by rw [hrs]; rfl
          exact ACode.vcM (.br 54 true <| .br 58 false <| .cells (encBo true) <| .cells (encBo false) <| .val 84 (.vptr 0 i) [] <| .val 1 .undef [(0, some (.cells (boL (bK LL r.length (i + 1)))))] .nil) hgn hlo (.roundW .cl) ⟨ltLen hil, h1, idx hg, idx hp, Eq.trans (by kernel_rfl) ixi, Eq.trans (by kernel_rfl) sti, i + 1, hil, mu1 hil, Wk.le (St.le.of ⟨by kernel_rfl, rfl, by kernel_rfl, rfl, by kernel_rfl, rfl, by kernel_rfl, rfl, by kernel_rfl, rfl, by kernel_rfl, rfl, by kernel_rfl, rfl, Eq.trans (by kernel_rfl) e18, rfl, Eq.trans (by kernel_rfl) ei, rfl, trivial⟩ ⟨by kernel_rfl, (by decide : (0 : Nat) < 1), boL_ok _ _, trivial⟩) (hlo.mono (Nat.zero_le _))⟩
        · rw [h1, h2, h3] at hrs
          rw [h2] at hp
          rw [h3] at hg
          rw [h2, h3] at sti
          have e18 : AV.bool false = .bool (RK (i + 1)) := by rw [hrs]; rfl
          exact ACode.vcM (.br 54 true <| .br 58 false <| .cells (encBo false) <| .val 84 (.vptr 0 i) [] <| .val 1 .undef [(0, some (.cells (boL (bK LL r.length (i + 1)))))] .nil) hgn hlo (.roundW .cl) ⟨ltLen hil, h1, idx hg, Eq.trans (by kernel_rfl) ixi, Eq.trans (by kernel_rfl) sti, i + 1, hil, mu1 hil, Wk.le (St.le.of ⟨by kernel_rfl, rfl, by kernel_rfl, rfl, by kernel_rfl, rfl, by kernel_rfl, rfl, by kernel_rfl, rfl, by kernel_rfl, rfl, by kernel_rfl, rfl, Eq.trans (by kernel_rfl) e18, rfl, Eq.trans (by kernel_rfl) ei, rfl, trivial⟩ ⟨by kernel_rfl, (by decide : (0 : Nat) < 1), boL_ok _ _, trivial⟩) (hlo.mono (Nat.zero_le _))⟩
        · rw [h1, h2, h3] at hrs
          rw [h2] at hp
          rw [h3] at hg
          rw [h2, h3] at sti
          have e18 : AV.bool false = .bool (RK (i + 1)) := by rw [hrs]; rfl
          exact ACode.vcM (.br 54 true <| .br 58 false <| .cells (encBo true) <| .cells (encBo true) <| .val 84 (.vptr 0 i) [] <| .val 1 .undef [(0, some (.cells (boL (bK LL r.length (i + 1)))))] .nil) hgn hlo (.roundW .cl) ⟨ltLen hil, h1, idx hg, idx hp, Eq.trans (by kernel_rfl) ixi, Eq.trans (by kernel_rfl) sti, i + 1, hil, mu1 hil, Wk.le (St.le.of ⟨by kernel_rfl, rfl, by kernel_rfl, rfl, by kernel_rfl, rfl, by kernel_rfl, rfl, by kernel_rfl, rfl, by kernel_rfl, rfl, by kernel_rfl, rfl, Eq.trans (by kernel_rfl) e18, rfl, Eq.trans (by kernel_rfl) ei, rfl, trivial⟩ ⟨by kernel_rfl, (by decide : (0 : Nat) < 1), boL_ok _ _, trivial⟩) (hlo.mono (Nat.zero_le _))⟩
        · rw [h1, h2, h3] at hrs
          rw [h2] at hp
          rw [h3] at hg
          rw [h2, h3] at sti
          have e18 : AV.bool true = .bool (RK (i + 1)) := by rw [hrs]; rfl
          exact ACode.vcM (.br 54 true <| .br 58 true <| .cells (encBo false) <| .cells (encBo false) <| .val 84 (.vptr 0 i) [] <| .val 1 .undef [(0, some (.cells (boL (bK LL r.length (i + 1)))))] .nil) hgn hlo (.roundW .cl) ⟨ltLen hil, h1, idx hp, idx hg, Eq.trans (by kernel_rfl) ixi, Eq.trans (by kernel_rfl) sti, i + 1, hil, mu1 hil, Wk.le (St.le.of ⟨by kernel_rfl, rfl, by kernel_rfl, rfl, by kernel_rfl, rfl, by kernel_rfl, rfl, by kernel_rfl, rfl, by kernel_rfl, rfl, by kernel_rfl, rfl, Eq.trans (by kernel_rfl) e18, rfl, Eq.trans (by kernel_rfl) ei, rfl, trivial⟩ ⟨by kernel_rfl, (by decide : (0 : Nat) < 1), boL_ok _ _, trivial⟩) (hlo.mono (Nat.zero_le _))⟩
        · rw [h1, h2, h3] at hrs
          rw [h2] at hp
          rw [h3] at hg
          rw [h2, h3] at sti
          have e18 : AV.bool true = .bool (RK (i + 1)) := by rw [hrs]; rfl
          exact ACode.vcM (.br 54 true <| .br 58 true <| .cells (encBo false) <| .cells (encBo true) <| .cells (encBo false) <| .val 84 (.vptr 0 i) [] <| .val 1 .undef [(0, some (.cells (boL (bK LL r.length (i + 1)))))] .nil) hgn hlo (.roundW .cl) ⟨ltLen hil, h1, idx hp, idx hg, idx hp, Eq.trans (by kernel_rfl) ixi, Eq.trans (by kernel_rfl) sti, i + 1, hil, mu1 hil, Wk.le (St.le.of ⟨by kernel_rfl, rfl, by kernel_rfl, rfl, by kernel_rfl, rfl, by kernel_rfl, rfl, by kernel_rfl, rfl, by kernel_rfl, rfl, by kernel_rfl, rfl, Eq.trans (by kernel_rfl) e18, rfl, Eq.trans (by kernel_rfl) ei, rfl, trivial⟩ ⟨by kernel_rfl, (by decide : (0 : Nat) < 1), boL_ok _ _, trivial⟩) (hlo.mono (Nat.zero_le _))⟩
        · rw [h1, h2, h3] at hrs
          rw [h2] at hp
          rw [h3] at hg
          rw [h2, h3] at sti
          have e18 : AV.bool false = .bool (RK (i + 1)) := by rw [hrs]; rfl
          exact ACode.vcM (.br 54 true <| .br 58 true <| .cells (encBo true) <| .cells (encBo false) <| .cells (encBo false) <| .val 84 (.vptr 0 i) [] <| .val 1 .undef [(0, some (.cells (boL (bK LL r.length (i + 1)))))] .nil) hgn hlo (.roundW .cl) ⟨ltLen hil, h1, idx hp, idx hg, idx hg, Eq.trans (by kernel_rfl) ixi, Eq.trans (by kernel_rfl) sti, i + 1, hil, mu1 hil, Wk.le (St.le.of ⟨by kernel_rfl, rfl, by kernel_rfl, rfl, by kernel_rfl, rfl, by kernel_rfl, rfl, by kernel_rfl, rfl, by kernel_rfl, rfl, by kernel_rfl, rfl, Eq.trans (by kernel_rfl) e18, rfl, Eq.trans (by kernel_rfl) ei, rfl, trivial⟩ ⟨by kernel_rfl, (by decide : (0 : Nat) < 1), boL_ok _ _, trivial⟩) (hlo.mono (Nat.zero_le _))⟩
        · rw [h1, h2, h3] at hrs
          rw [h2] at hp
          rw [h3] at hg
          rw [h2, h3] at sti
          have e18 : AV.bool true = .bool (RK (i + 1)) := by rw [hrs]; rfl
          exact ACode.vcM (.br 54 true <| .br 58 true <| .cells (encBo true) <| .cells (encBo true) <| .cells (encBo true) <| .cells (encBo true) <| .val 84 (.vptr 0 i) [] <| .val 1 .undef [(0, some (.cells (boL (bK LL r.length (i + 1)))))] .nil) hgn hlo (.roundW .cl) ⟨ltLen hil, h1, idx hp, idx hg, idx hg, idx hp, Eq.trans (by kernel_rfl) ixi, Eq.trans (by kernel_rfl) sti, i + 1, hil, mu1 hil, Wk.le (St.le.of ⟨by kernel_rfl, rfl, by kernel_rfl, rfl, by kernel_rfl, rfl, by kernel_rfl, rfl, by kernel_rfl, rfl, by kernel_rfl, rfl, by kernel_rfl, rfl, Eq.trans (by kernel_rfl) e18, rfl, Eq.trans (by kernel_rfl) ei, rfl, trivial⟩ ⟨by kernel_rfl, (by decide : (0 : Nat) < 1), boL_ok _ _, trivial⟩) (hlo.mono (Nat.zero_le _))⟩
      · have hi' : i = r.length := by omega
        subst hi'
        refine (Bool.eq_false_or_eq_true (RK r.length)).symm.elim (fun h1 => ?_) (fun h1 => ?_)
        · have d87 : (!RK r.length) = true := by rw [h1]; rfl
          have hvf : v s = false := by rw [hvs, h1]; rfl
          exact ACode.vcM (.br 54 false .nil) hgn hlo (.roundW .cl) ⟨geLen hil, _, .refl _, .br 87 true .nil, d87, (s + 1, none), ⟨hsl, stay hvf (b := none) hb⟩, mu1 hsl, Wk.le (St.le.of ⟨by kernel_rfl, rfl, by kernel_rfl, rfl, by kernel_rfl, rfl, by kernel_rfl, rfl, Eq.trans (by kernel_rfl) es, rfl, trivial⟩ trivial) hlo0⟩
        · have d87 : (!RK r.length) = false := by rw [h1]; rfl
          refine (Bool.eq_false_or_eq_true CV).symm.elim (fun h2 => ?_) (fun h2 => ?_)
          · have hvf : v s = false := by rw [hvs, h2, Bool.and_false]
            rw [h2] at hXs
            exact ACode.vcM (.br 54 false .nil) hgn hlo (.roundW .cl) ⟨geLen hil, _, .refl _, .br 87 false <| .lent (encBs HX) [0] <| .cells (encBo false) .nil, d87, ⟨_, Eq.trans (by kernel_rfl) tG, .inr sHs⟩, idx hXs, (s + 1, none), ⟨hsl, stay hvf (b := none) hb⟩, mu1 hsl, Wk.le (St.le.of ⟨by kernel_rfl, rfl, by kernel_rfl, rfl, by kernel_rfl, rfl, by kernel_rfl, rfl, Eq.trans (by kernel_rfl) es, rfl, trivial⟩ trivial) hlo0⟩
          · have hvt : v s = true := by rw [hvs, h1, h2]; rfl
            rw [h2] at hXs
            rw [hvt, Bool.true_and] at hbs
            have hXn : X.length ≠ 0 := fun h => hnes hvt (List.eq_nil_of_length_eq_zero h)
            have hb : BK s = [] := hb
            rw [hb] at hbs
            have hbs : BK (s + 1) = X := hbs
            exact ACode.vcM (.br 54 false .nil) hgn hlo (.roundW .cl) ⟨geLen hil, _, .refl _, .br 87 false <| .lent (encBs HX) [0] <| .cells (encBo true) <| .lent (encR X) [] .nil, d87, ⟨_, Eq.trans (by kernel_rfl) tG, .inr sHs⟩, idx hXs, ⟨_, by kernel_rfl, .inr sIs⟩, (s + 1, some X), ⟨hsl, hbs, hXn, hidl⟩, mu1 hsl, Wk.le (St.le.of ⟨by kernel_rfl, rfl, by kernel_rfl, rfl, by kernel_rfl, rfl, by kernel_rfl, rfl, Eq.trans (by kernel_rfl) es, rfl, trivial⟩ trivial) hlo0⟩
    | some L =>
      refine ACode.vcM (.val 41 (.int .i64 (PW : Int)) [] <| .br 42 true <| .call (encBs PL) <| .val 50 (.rsl 0 0 (r.map cRc).length 1) [(0, some (.cells (boL (List.replicate (r.map cRc).length false))))] <| .loop) hgn hlo (.roundW .cl) ⟨Eq.trans (by kernel_rfl) v41, d42, sMs, Eq.trans (by kernel_rfl) mk, ?_⟩
      intro g hgn hlo
      replace hgn : g.n = 109 := hgn
      replace hlo : g.low 0 := hlo
      refine acode_whileW (fun i : Nat => ⟨[(0, encRs r), (10, .int .i64 (j : Int)), (11, encBs GL), (14, encR L), (15, .int .i64 (s : Int)), (16, encBs PL), (17, .rsl 0 0 (r.map cRc).length 1), (18, .bool (RK i)), (19, .int .i64 (i : Int))], [(0, .cells (boL (bK LL r.length i)))], 1⟩) (fun i => i ≤ r.length) (fun i => r.length - i) 0 (Nat.zero_le _) ?_ ?_
      · have e18 : AV.bool true = .bool (RK 0) := by rw [hRz]
        have o1 : some (AObj.cells (boL (List.replicate (r.map cRc).length false))) = some (.cells (boL (bK LL r.length 0))) := by rw [hlen]; rfl
        exact Wk.le (St.le.of ⟨by kernel_rfl, rfl, by kernel_rfl, rfl, by kernel_rfl, rfl, by kernel_rfl, rfl, by kernel_rfl, rfl, by kernel_rfl, rfl, by kernel_rfl, rfl, Eq.trans (by kernel_rfl) e18, rfl, by kernel_rfl, rfl, trivial⟩ ⟨Eq.trans (by kernel_rfl) o1, (by decide : (0 : Nat) < 1), boL_ok _ _, trivial⟩) (hlo.mono (Nat.zero_le _))
      intro i hi
      replace hi : i ≤ r.length := hi
      by_cases hil : i < r.length
      · refine Exists.elim (getE hil) fun x hx => ?_
        have ei := congrArg (AV.int .i64) (succ64 (k := i) (by omega))
        have hp := hsat hx
        have hg := hGL hx
        have hrs := hRq hx
        have hll := hsL hx
        have ixi := ixBo (h := hget []) (id := 0) (n := (r.map cRc).length) (k := i) (by omega)
        have bl := bK_len (L := LL) (n := r.length) (k := i) hsl2 (by omega)
        have sti := (stBo (h := hget [(0, .cells (boL (bK LL r.length i)))]) (id := 0) (k := i) (l := bK LL r.length i) (x := W x.id && !s.testBit i) rfl (by omega)).trans (by rw [bK_set hsl2 hil hll])
        refine (Bool.eq_false_or_eq_true (RK i)).symm.elim (fun h1 => ?_) (fun h1 => ?_) <;> refine (Bool.eq_false_or_eq_true (s.testBit i)).symm.elim (fun h2 => ?_) (fun h2 => ?_) <;> refine (Bool.eq_false_or_eq_true (W x.id)).symm.elim (fun h3 => ?_) (fun h3 => ?_)
        · rw [h1, h2, h3] at hrs
          rw [h2] at hp
          rw [h3] at hg
          rw [h2, h3] at sti
          have e18 : AV.bool false = .bool (RK (i + 1)) := by rw [hrs]; rfl
          exact ACode.vcM (.br 54 true <| .br 58 false <| .cells (encBo false) <| .val 84 (.vptr 0 i) [] <| .val 1 .undef [(0, some (.cells (boL (bK LL r.length (i + 1)))))] .nil) hgn hlo (.roundW .cl) ⟨ltLen hil, h1, idx hg, Eq.trans (by kernel_rfl) ixi, Eq.trans (by kernel_rfl) sti, i + 1, hil, mu1 hil, Wk.le (St.le.of ⟨by kernel_rfl, rfl, by kernel_rfl, rfl, by kernel_rfl, rfl, by kernel_rfl, rfl, by kernel_rfl, rfl, by kernel_rfl, rfl, by kernel_rfl, rfl, Eq.trans (by kernel_rfl) e18, rfl, Eq.trans (by kernel_rfl) ei, rfl, trivial⟩ ⟨by kernel_rfl, (by decide : (0 : Nat) < 1), boL_ok _ _, trivial⟩) (hlo.mono (Nat.zero_le _))⟩
        · rw [h1, h2, h3] at hrs
          rw [h2] at hp
          rw [h3] at hg
          rw [h2, h3] at sti
          have e18 : AV.bool false = .bool (RK (i + 1)) := by rw [hrs]; rfl
          exact ACode.vcM (.br 54 true <| .br 58 false <| .cells (encBo true) <| .cells (encBo false) <| .val 84 (.vptr 0 i) [] <| .val 1 .undef [(0, some (.cells (boL (bK LL r.length (i + 1)))))] .nil) hgn hlo (.roundW .cl) ⟨ltLen hil, h1, idx hg, idx hp, Eq.trans (by kernel_rfl) ixi, Eq.trans (by kernel_rfl) sti, i + 1, hil, mu1 hil, Wk.le (St.le.of ⟨by kernel_rfl, rfl, by kernel_rfl, rfl, by kernel_rfl, rfl, by kernel_rfl, rfl, by kernel_rfl, rfl, by kernel_rfl, rfl, by kernel_rfl, rfl, Eq.trans (by kernel_rfl) e18, rfl, Eq.trans (by kernel_rfl) ei, rfl, trivial⟩ ⟨by kernel_rfl, (by decide : (0 : Nat) < 1), boL_ok _ _, trivial⟩) (hlo.mono (Nat.zero_le _))⟩
        · rw [h1, h2, h3] at hrs
          rw [h2] at hp
          rw [h3] at hg
          rw [h2, h3] at sti
          have e18 : AV.bool false = .bool (RK (i + 1)) := by rw [hrs]; rfl
          exact ACode.vcM (.br 54 true <| .br 58 false <| .cells (encBo false) <| .val 84 (.vptr 0 i) [] <| .val 1 .undef [(0, some (.cells (boL (bK LL r.length (i + 1)))))] .nil) hgn hlo (.roundW .cl) ⟨ltLen hil, h1, idx hg, Eq.trans (by kernel_rfl) ixi, Eq.trans (by kernel_rfl) sti, i + 1, hil, mu1 hil, Wk.le (St.le.of ⟨by kernel_rfl, rfl, by kernel_rfl, rfl, by kernel_rfl, rfl, by kernel_rfl, rfl, by kernel_rfl, rfl, by kernel_rfl, rfl, by kernel_rfl, rfl, Eq.trans (by kernel_rfl) e18, rfl, Eq.trans (by kernel_rfl) ei, rfl, trivial⟩ ⟨by kernel_rfl, (by decide : (0 : Nat) < 1), boL_ok _ _, trivial⟩) (hlo.mono (Nat.zero_le _))⟩
        · rw [h1, h2, h3] at hrs
          rw [h2] at hp
          rw [h3] at hg
          rw [h2, h3] at sti
          have e18 : AV.bool false = .bool (RK (i + 1)) := by rw [hrs]; rfl
          exact ACode.vcM (.br 54 true <| .br 58 false <| .cells (encBo true) <| .cells (encBo true) <| .val 84 (.vptr 0 i) [] <| .val 1 .undef [(0, some (.cells (boL (bK LL r.length (i + 1)))))] .nil) hgn hlo (.roundW .cl) ⟨ltLen hil, h1, idx hg, idx hp, Eq.trans (by kernel_rfl) ixi, Eq.trans (by kernel_rfl) sti, i + 1, hil, mu1 hil, Wk.le (St.le.of ⟨by kernel_rfl, rfl, by kernel_rfl, rfl, by kernel_rfl, rfl, by kernel_rfl, rfl, by kernel_rfl, rfl, by kernel_rfl, rfl, by kernel_rfl, rfl, Eq.trans (by kernel_rfl) e18, rfl, Eq.trans (by kernel_rfl) ei, rfl, trivial⟩ ⟨by kernel_rfl, (by decide : (0 : Nat) < 1), boL_ok _ _, trivial⟩) (hlo.mono (Nat.zero_le _))⟩
        · rw [h1, h2, h3] at hrs
          rw [h2] at hp
          rw [h3] at hg
          rw [h2, h3] at sti
          have e18 : AV.bool true = .bool (RK (i + 1)) := by rw [hrs]; rfl
          exact ACode.vcM (.br 54 true <| .br 58 true <| .cells (encBo false) <| .cells (encBo false) <| .val 84 (.vptr 0 i) [] <| .val 1 .undef [(0, some (.cells (boL (bK LL r.length (i + 1)))))] .nil) hgn hlo (.roundW .cl) ⟨ltLen hil, h1, idx hp, idx hg, Eq.trans (by kernel_rfl) ixi, Eq.trans (by kernel_rfl) sti, i + 1, hil, mu1 hil, Wk.le (St.le.of ⟨by kernel_rfl, rfl, by kernel_rfl, rfl, by kernel_rfl, rfl, by kernel_rfl, rfl, by kernel_rfl, rfl, by kernel_rfl, rfl, by kernel_rfl, rfl, Eq.trans (by kernel_rfl) e18, rfl, Eq.trans (by kernel_rfl) ei, rfl, trivial⟩ ⟨by kernel_rfl, (by decide : (0 : Nat) < 1), boL_ok _ _, trivial⟩) (hlo.mono (Nat.zero_le _))⟩
        · rw [h1, h2, h3] at hrs
          rw [h2] at hp
          rw [h3] at hg
          rw [h2, h3] at sti
          have e18 : AV.bool true = .bool (RK (i + 1)) := by rw [hrs]; rfl
          exact ACode.vcM (.br 54 true <| .br 58 true <| .cells (encBo false) <| .cells (encBo true) <| .cells (encBo false) <| .val 84 (.vptr 0 i) [] <| .val 1 .undef [(0, some (.cells (boL (bK LL r.length (i + 1)))))] .nil) hgn hlo (.roundW .cl) ⟨ltLen hil, h1, idx hp, idx hg, idx hp, Eq.trans (by kernel_rfl) ixi, Eq.trans (by kernel_rfl) sti, i + 1, hil, mu1 hil, Wk.le (St.le.of ⟨by kernel_rfl, rfl, by kernel_rfl, rfl, by kernel_rfl, rfl, by kernel_rfl, rfl, by kernel_rfl, rfl, by kernel_rfl, rfl, by kernel_rfl, rfl, Eq.trans (by kernel_rfl) e18, rfl, Eq.trans (by kernel_rfl) ei, rfl, trivial⟩ ⟨by kernel_rfl, (by decide : (0 : Nat) < 1), boL_ok _ _, trivial⟩) (hlo.mono (Nat.zero_le _))⟩
        · rw [h1, h2, h3] at hrs
          rw [h2] at hp
          rw [h3] at hg
          rw [h2, h3] at sti
          have e18 : AV.bool false = .bool (RK (i + 1)) := by rw [hrs]; rfl
          exact ACode.vcM (.br 54 true <| .br 58 true <| .cells (encBo true) <| .cells (encBo false) <| .cells (encBo false) <| .val 84 (.vptr 0 i) [] <| .val 1 .undef [(0, some (.cells (boL (bK LL r.length (i + 1)))))] .nil) hgn hlo (.roundW .cl) ⟨ltLen hil, h1, idx hp, idx hg, idx hg, Eq.trans (by kernel_rfl) ixi, Eq.trans (by kernel_rfl) sti, i + 1, hil, mu1 hil, Wk.le (St.le.of ⟨by kernel_rfl, rfl, by kernel_rfl, rfl, by kernel_rfl, rfl, by kernel_rfl, rfl, by kernel_rfl, rfl, by kernel_rfl, rfl, by kernel_rfl, rfl, Eq.trans (by kernel_rfl) e18, rfl, Eq.trans (by kernel_rfl) ei, rfl, trivial⟩ ⟨by kernel_rfl, (by decide : (0 : Nat) < 1), boL_ok _ _, trivial⟩) (hlo.mono (Nat.zero_le _))⟩
        · rw [h1, h2, h3] at hrs
          rw [h2] at hp
          rw [h3] at hg
          rw [h2, h3] at sti
          have e18 : AV.bool true = .bool (RK (i + 1)) := by rw [hrs]; rfl
          exact ACode.vcM (.br 54 true <| .br 58 true <| .cells (encBo true) <| .cells (encBo true) <| .cells (encBo true) <| .cells (encBo true) <| .val 84 (.vptr 0 i) [] <| .val 1 .undef [(0, some (.cells (boL (bK LL r.length (i + 1)))))] .nil) hgn hlo (.roundW .cl) ⟨ltLen hil, h1, idx hp, idx hg, idx hg, idx hp, Eq.trans (by kernel_rfl) ixi, Eq.trans (by kernel_rfl) sti, i + 1, hil, mu1 hil, Wk.le (St.le.of ⟨by kernel_rfl, rfl, by kernel_rfl, rfl, by kernel_rfl, rfl, by kernel_rfl, rfl, by kernel_rfl, rfl, by kernel_rfl, rfl, by kernel_rfl, rfl, Eq.trans (by kernel_rfl) e18, rfl, Eq.trans (by kernel_rfl) ei, rfl, trivial⟩ ⟨by kernel_rfl, (by decide : (0 : Nat) < 1), boL_ok _ _, trivial⟩) (hlo.mono (Nat.zero_le _))⟩
      · have hi' : i = r.length := by omega
        subst hi'
        refine (Bool.eq_false_or_eq_true (RK r.length)).symm.elim (fun h1 => ?_) (fun h1 => ?_)
        · have d87 : (!RK r.length) = true := by rw [h1]; rfl
          have hvf : v s = false := by rw [hvs, h1]; rfl
          exact ACode.vcM (.br 54 false .nil) hgn hlo (.roundW .cl) ⟨geLen hil, _, .refl _, .br 87 true .nil, d87, (s + 1, some L), ⟨hsl, stay hvf (b := some L) hb⟩, mu1 hsl, Wk.le (St.le.of ⟨by kernel_rfl, rfl, by kernel_rfl, rfl, by kernel_rfl, rfl, by kernel_rfl, rfl, Eq.trans (by kernel_rfl) es, rfl, trivial⟩ trivial) hlo0⟩
        · have d87 : (!RK r.length) = false := by rw [h1]; rfl
          refine (Bool.eq_false_or_eq_true CV).symm.elim (fun h2 => ?_) (fun h2 => ?_)
          · have hvf : v s = false := by rw [hvs, h2, Bool.and_false]
            rw [h2] at hXs
            exact ACode.vcM (.br 54 false .nil) hgn hlo (.roundW .cl) ⟨geLen hil, _, .refl _, .br 87 false <| .lent (encBs HX) [0] <| .cells (encBo false) .nil, d87, ⟨_, Eq.trans (by kernel_rfl) tG, .inr sHs⟩, idx hXs, (s + 1, some L), ⟨hsl, stay hvf (b := some L) hb⟩, mu1 hsl, Wk.le (St.le.of ⟨by kernel_rfl, rfl, by kernel_rfl, rfl, by kernel_rfl, rfl, by kernel_rfl, rfl, Eq.trans (by kernel_rfl) es, rfl, trivial⟩ trivial) hlo0⟩
          · have hvt : v s = true := by rw [hvs, h1, h2]; rfl
            rw [h2] at hXs
            rw [hvt, Bool.true_and] at hbs
            have hXn : X.length ≠ 0 := fun h => hnes hvt (List.eq_nil_of_length_eq_zero h)
            have hbL : BK s = L ∧ L.length ≠ 0 ∧ L.length ≤ 1000 := hb
            have sAh := Ahead_spec X L hidl hbL.2.2
            rw [hbL.1, decide_eq_false hbL.2.1, Bool.false_or] at hbs
            have d102 : (((L.map encI).length : Int) == 0) = false := by rw [List.length_map]; exact beq_eq_false_iff_ne.2 (by omega)
            refine (Bool.eq_false_or_eq_true (aheadV X L)).symm.elim (fun h3 => ?_) (fun h3 => ?_)
            · rw [h3] at hbs sAh
              have hbs : BK (s + 1) = L := hbs
              exact ACode.vcM (.br 54 false .nil) hgn hlo (.roundW .cl) ⟨geLen hil, _, .refl _, .br 87 false <| .lent (encBs HX) [0] <| .cells (encBo true) <| .lent (encR X) [] <| .br 102 false <| .call (.bool false) .nil, d87, ⟨_, Eq.trans (by kernel_rfl) tG, .inr sHs⟩, idx hXs, ⟨_, by kernel_rfl, .inr sIs⟩, d102, sAh, (s + 1, some L), ⟨hsl, hbs, hbL.2.1, hbL.2.2⟩, mu1 hsl, Wk.le (St.le.of ⟨by kernel_rfl, rfl, by kernel_rfl, rfl, by kernel_rfl, rfl, by kernel_rfl, rfl, Eq.trans (by kernel_rfl) es, rfl, trivial⟩ trivial) hlo0⟩
            · rw [h3] at hbs sAh
              have hbs : BK (s + 1) = X := hbs
              exact ACode.vcM (.br 54 false .nil) hgn hlo (.roundW .cl) ⟨geLen hil, _, .refl _, .br 87 false <| .lent (encBs HX) [0] <| .cells (encBo true) <| .lent (encR X) [] <| .br 102 false <| .call (.bool true) .nil, d87, ⟨_, Eq.trans (by kernel_rfl) tG, .inr sHs⟩, idx hXs, ⟨_, by kernel_rfl, .inr sIs⟩, d102, sAh, (s + 1, some X), ⟨hsl, hbs, hXn, hidl⟩, mu1 hsl, Wk.le (St.le.of ⟨by kernel_rfl, rfl, by kernel_rfl, rfl, by kernel_rfl, rfl, by kernel_rfl, rfl, Eq.trans (by kernel_rfl) es, rfl, trivial⟩ trivial) hlo0⟩
  · have hs' : s = PW := by omega
    subst hs'
    have d42 : decide ((s : Int) < (s : Int)) = false := decide_eq_false (by omega)
    cases best with
    | none => exact absurd hb hfin
    | some L =>
      have hbL : BK s = L ∧ L.length ≠ 0 ∧ L.length ≤ 1000 := hb
      have ev : thaw 8 (hget []) (.tup [encR L, .int .i64 0]) = some (.tup [encR (BK s), .int .i64 0], []) := by rw [hbL.1]; unfold thaw; exact if_pos rfl
      exact ACode.vcM (.val 41 (.int .i64 (s : Int)) [] <| .br 42 false .nil) hgn hlo (.roundW .cl) ⟨Eq.trans (by kernel_rfl) v41, d42, _, .refl _, .nil, [], Eq.trans (by kernel_rfl) ev⟩
end Go.Proofs.Ytmdhgkfjlphliaa
