/-
  THE LAW OF THE ORDER OF LETTERS.
-/
import Derived.Test.YtmdhgkfjlphliaaD1
import Derived.Test.YtmdhgkfjlphliaaG2
import Derived.Test.YtmdhgkfjlphliaaXA
import Derived.Test.YtmdhgkfjlphliaaFG
import Derived.Test.YtmdhgkfjlphliaaT7
namespace Go.Proofs.Ytmdhgkfjlphliaa
open Go Go.Am
set_option maxRecDepth 100000
set_option maxHeartbeats 8000000
/-! ### letters of one's own -/
def lL (l : List Ltr) : List AV := fl cLt l
theorem lL_ok (n : Nat) (l : List Ltr) : okL n (lL l) = true := fl_ok (enc := cLt) (fun _ => rfl) l
theorem lL_len (l : List Ltr) : (lL l).length = l.length * 4 := fl_len (enc := cLt) (n := 4) (fun _ => rfl) l
theorem srcL (h : Nat → Option AObj) (l : List Ltr) : srcCells h 4 (.lst 4 (l.map cLt)) = some (fl cLt l, l.length) := by
  have h1 : (l.map cLt).all (fun y => y.length == 4) = true := by simp [cLt]
  simp only [srcCells]
  rw [if_pos ⟨trivial, h1⟩, fl_flatten, List.length_map]
theorem appL0 {h : Nat → Option AObj} {i nid : Nat} {l : List Ltr} (h0 : h i = some (.cells [])) (hn : l.length ≤ 1000) :
    aAppend Try.prog h nid 23 23 (.rsl i 0 0 4) (encLs l) = some ⟨.rsl nid 0 l.length 4, [(i, none), (nid, some (.cells (lL l)))]⟩ := by
  unfold aAppend encLs lL
  simp only [h0]
  rw [if_neg (by decide)]
  simp only [aAppend0, ty23, ty64, srcL, h0]
  rw [if_pos ⟨by decide, by decide, rfl⟩]
  rw [if_pos ⟨trivial, rfl, fl_cellB (fun _ => rfl) _, by omega⟩, Nat.zero_add, List.nil_append]
theorem appL2 {h : Nat → Option AObj} {i nid : Nat} {l m : List Ltr} (h0 : h i = some (.cells (lL l))) (hn : l.length ≤ 1000) (hm : m.length ≤ 1000) :
    aAppend Try.prog h nid 23 23 (.rsl i 0 l.length 4) (encLs m) = some ⟨.rsl nid 0 (l.length + m.length) 4, [(i, none), (nid, some (.cells (lL (l ++ m))))]⟩ := by
  have e : lL (l ++ m) = lL l ++ fl cLt m := by simp [lL, fl]
  have el : (lL l).length = l.length * 4 := lL_len l
  rw [app_exact h0 (by rw [el]; omega)]
  unfold encLs
  simp only [aAppend0, ty23, ty64, srcL, h0]
  rw [if_pos ⟨by decide, by decide, rfl⟩]
  rw [if_pos ⟨trivial, by rw [el], fl_cellB (fun _ => rfl) _, by omega⟩, e]
theorem slL0 {h : Nat → Option AObj} {l : List Ltr} {k : Nat} {i : Int} (hi : i = (k : Int)) (hk : k ≤ l.length) : (aSlice Try.prog h 23 (encLs l) (some (.int .i64 i)) none).map (fun v => (⟨v, []⟩ : Out)) = some ⟨encLs (l.drop k), []⟩ := by
  subst hi
  simp only [encLs, aSlice, ty23, ty64, abound]
  simp [hk, List.map_drop]
  rw [List.take_of_length_le (by rw [List.length_map]; exact Nat.le_refl _)]
theorem slL1 {h : Nat → Option AObj} {l : List Ltr} {k : Nat} {i : Int} (hi : i = (k : Int)) (hk : k ≤ l.length) : (aSlice Try.prog h 23 (encLs l) none (some (.int .i64 i))).map (fun v => (⟨v, []⟩ : Out)) = some ⟨encLs (l.take k), []⟩ := by
  subst hi
  simp only [encLs, aSlice, ty23, ty64, abound]
  simp [hk, List.map_take]
theorem ixLt {h : Nat → Option AObj} {id N k : Nat} (hk : k < N) : (aindexAddr Try.prog h 23 (.rsl id 0 N 4) (.int .i64 (k : Int))).map (fun v => (⟨v, []⟩ : Out)) = some ⟨.vptr id (k * 4), []⟩ := by
  simp only [aindexAddr, ty23, ty64]
  rw [if_pos ⟨trivial, Int.natCast_nonneg _, by simpa using hk⟩]
  simp
theorem thawL_letters {h : Nat → Option AObj} {i n : Nat} {r : List Rcd} {l : List Ltr} {d : Int} (hn : n = l.length) (h0 : h i = some (.cells (lL l))) : thawL h [encRs r, .rsl i 0 n 4, .int .i64 d] = some ([encRs r, encLs l, .int .i64 d], [i]) := by
  subst hn
  have t1 : thaw 8 h (encRs r) = some (encRs r, []) := by unfold thaw; exact if_pos rfl
  have t2 := thaw_fl 6 (h := h) (id := i) (enc := cLt) (n := 4) (l := l) (fun _ => rfl) (fun _ => rfl) h0
  have t3 : thaw 8 h (.int .i64 d) = some (.int .i64 d, []) := by unfold thaw; exact if_pos rfl
  simp only [thawL, mapO, t1, t2, t3]
  rfl
theorem thawL_letters2 {h : Nat → Option AObj} {i n : Nat} {r : List Rcd} {l : List Ltr} {d e : Int} (hn : n = l.length) (h0 : h i = some (.cells (lL l))) : thawL h [encRs r, .rsl i 0 n 4, .int .i64 d, .int .i64 e] = some ([encRs r, encLs l, .int .i64 d, .int .i64 e], [i]) := by
  subst hn
  have t1 : thaw 8 h (encRs r) = some (encRs r, []) := by unfold thaw; exact if_pos rfl
  have t2 := thaw_fl 6 (h := h) (id := i) (enc := cLt) (n := 4) (l := l) (fun _ => rfl) (fun _ => rfl) h0
  have t3 : thaw 8 h (.int .i64 d) = some (.int .i64 d, []) := by unfold thaw; exact if_pos rfl
  have t4 : thaw 8 h (.int .i64 e) = some (.int .i64 e, []) := by unfold thaw; exact if_pos rfl
  simp only [thawL, mapO, t1, t2, t3, t4]
  rfl
/-! ### the same lists -/
theorem Same_nil : APure Try.prog 16 [.nil, .nil] (.bool true) := by
  refine APure.vc Try.func16 rfl .loop rfl rfl ?_
  intro g hn hl
  replace hn : g.n = 26 := hn
  replace hl : g.low 0 := hl
  refine acode_while (fun _ : Unit => ⟨[(0, .nil), (1, .nil), (5, .int .i64 0)], [], 0⟩) (fun _ => True) (fun _ => 0) () trivial ?_ (fun _ _ => hl) ?_
  · exact St.le.of ⟨rfl, rfl, rfl, rfl, rfl, rfl, trivial⟩ trivial
  · intro _ _
    exact ACode.vc .nil hn hl (.round .cl) ⟨_, .refl _, .nil, rB rfl⟩
theorem Same_spec (l : List Int) (hl1 : l.length ≤ 1000) : APure Try.prog 16 [encR l, encR l] (.bool true) := by
  have d : (((l.map encI).length : Int) != ((l.map encI).length : Int)) = false := by simp
  refine APure.vc Try.func16 rfl (.br 10 false .loop) rfl rfl ⟨d, ?_⟩
  intro g hn hl
  replace hn : g.n = 26 := hn
  replace hl : g.low 0 := hl
  refine acode_while (fun k : Nat => ⟨[(0, encR l), (1, encR l), (5, .int .i64 (k : Int))], [], 0⟩) (fun k => k ≤ l.length) (fun k => l.length - k) 0 (Nat.zero_le _) ?_ (fun _ _ => hl) ?_
  · exact St.le.of ⟨rfl, rfl, rfl, rfl, rfl, rfl, trivial⟩ trivial
  · intro k hk
    replace hk : k ≤ l.length := hk
    by_cases hlt : k < l.length
    · refine Exists.elim (getE hlt) fun x hx => ?_
      have ek := congrArg (AV.int .i64) (succ64 (k := k) (by omega))
      have dx : (x != x) = false := by simp
      exact ACode.vc (.br 14 true <| .draw 8 <| .cells (encI x) <| .cells (encI x) <| .br 25 false .nil) hn hl (.round .cl) ⟨ltLen hlt, by kernel_rfl, mixed, by kernel_rfl, idx hx, idx hx, by kernel_rfl, dx, k + 1, hlt, mu1 hlt, St.le.of ⟨by kernel_rfl, rfl, by kernel_rfl, rfl, Eq.trans (by kernel_rfl) ek, rfl, trivial⟩ trivial⟩
    · exact ACode.vc (.br 14 false .nil) hn hl (.round .cl) ⟨geLen hlt, _, .refl _, .nil, rB rfl⟩
theorem order_core (r : List Rcd) (l : List Ltr) (turn n which : Nat) (ht8 : turn < 256) (d : Int) (x0 : Rcd) (HL TL : List Int) (X Y : AV) (E1 E2 : Int)
    (hr12 : r.length ≤ 12) (hl20 : l.length ≤ 20) (hl1 : 0 < l.length)
    (sA : APure Try.prog 28 [] (.bool true)) (sR : APure Try.prog 37 [encRs r, encLs l] (.bool true))
    (sD : APure Try.prog 38 [encLs l, .int .u32 (n : Int)] (.int .i64 d))
    (d47 : (((r.map cRc).length : Int) == 0) = false)
    (v121 : some (⟨.int .i64 (IntKind.i64.wrap (which : Int)), []⟩ : Out) = some ⟨.int .i64 (which : Int), []⟩)
    (ix : 0 ≤ (which : Int).tmod ((r.map cRc).length : Int) ∧ (r.map cRc)[((which : Int).tmod ((r.map cRc).length : Int)).toNat]? = some (cRc x0))
    (hne : ((r.map cRc).length : Int) ≠ 0)
    (cX : (∃ L, X = encR L) ∨ X = .nil) (cY : (∃ L, Y = encR L) ∨ Y = .nil)
    (sHH : APure Try.prog 16 [encR HL, encR HL] (.bool true)) (sTT : APure Try.prog 16 [encR TL, encR TL] (.bool true)) (sXX : APure Try.prog 16 [X, X] (.bool true)) (sYY : APure Try.prog 16 [Y, Y] (.bool true))
    (M : List Ltr) (hM : M = turnL l (turn % l.length) turn)
    (sAll : ∀ M, (M = l ∨ ((∀ x ∈ l, ∀ y ∈ l, x.about = y.about → x.day = y.day → x.kd = y.kd) ∧ M = turnL l (turn % l.length) turn)) → APureF Try.prog 10 [encRs r, encLs M, .int .i64 d] (.tup [encR HL, .int .i64 0]) ∧ APureF Try.prog 12 [encRs r, encLs M, .int .i64 d, .int .i64 x0.id] (.tup [encR TL, .int .i64 0]) ∧ APureF Try.prog 19 [encRs r, encLs M, .int .i64 d, .int .i64 x0.id] (.tup [X, .int .i64 E1]) ∧ APureF Try.prog 21 [encRs r, encLs M, .int .i64 d, .int .i64 x0.id] (.tup [Y, .int .i64 E2])) :
    APure Try.prog 7 [encRs r, encLs l, .int .u8 (turn : Int), .int .u32 (n : Int), .int .u8 (which : Int)] (.bool true) := by
  have hlen : ((l.map cLt).length : Int) = l.length := by rw [List.length_map]
  have d52 : (((l.map cLt).length : Int) == 0) = false := by rw [hlen]; exact beq_eq_false_iff_ne.2 (by omega)
  refine APure.intro Try.func7 rfl rfl rfl fun g hn hlo0 => ?_
  replace hn : g.n = 231 := hn
  replace hlo0 : g.low 0 := hlo0
  -- no two letters about one record on one day
  refine ACode.cut 3 (fun _ : Unit => ⟨[(0, encRs r), (1, encLs l), (2, .int .u8 (turn : Int)), (3, .int .u32 (n : Int)), (4, .int .u8 (which : Int)), (11, .bool true)], [], 0⟩) (fun _ => ∀ (i j : Nat) (x y : Ltr), j < i → l[i]? = some x → l[j]? = some y → ¬ (x.about = y.about ∧ x.day = y.day))
    (.call (.bool true) <| .call (.bool true) <| .br 47 false <| .br 52 false .loop) hn hlo0 .ret rfl ⟨sA, sR, d47, d52, ?_⟩ fun _ hdist => ?_
  · intro g hn hlo
    replace hn : g.n = 231 := hn
    replace hlo : g.low 0 := hlo
    have hloR := hlo
    refine acode_whileW (fun i : Nat => ⟨[(0, encRs r), (1, encLs l), (2, .int .u8 (turn : Int)), (3, .int .u32 (n : Int)), (4, .int .u8 (which : Int)), (11, .bool true), (57, encLs l), (58, .int .i64 ((l.map cLt).length : Int)), (59, .int .i64 (i : Int))], [], 0⟩) (fun i => i ≤ l.length ∧ ∀ (a b : Nat) (x y : Ltr), a < i → b < a → l[a]? = some x → l[b]? = some y → ¬ (x.about = y.about ∧ x.day = y.day)) (fun i => l.length - i) 0 ⟨Nat.zero_le _, fun a b x y ha => by omega⟩ ?_ ?_
    · exact Wk.le (St.le.of ⟨by kernel_rfl, rfl, by kernel_rfl, rfl, by kernel_rfl, rfl, by kernel_rfl, rfl, by kernel_rfl, rfl, by kernel_rfl, rfl, by kernel_rfl, rfl, by kernel_rfl, rfl, by kernel_rfl, rfl, trivial⟩ trivial) (hlo.mono (Nat.zero_le _))
    rintro i ⟨hi, hiv⟩
    replace hi : i ≤ l.length := hi
    by_cases hil : i < l.length
    · refine Exists.elim (getE hil) fun x hx => ?_
      have ei := congrArg (AV.int .i64) (succ64 (k := i) (by omega))
      have sl := slL1 (h := hget []) (l := l) (k := i) (i := (i : Int)) rfl hi
      have htl : (l.take i).length = i := by rw [List.length_take]; omega
      refine ACode.vcM (.br 60 true <| .cells (cLt x) <| .val 66 (encLs (l.take i)) [] .loop) hn hlo (.roundW .cl) ⟨ltLen hil, idx hx, Eq.trans (by kernel_rfl) sl, ?_⟩
      intro g hn hlo
      replace hn : g.n = 231 := hn
      replace hlo : g.low 0 := hlo
      refine acode_whileW (fun j : Nat => ⟨[(0, encRs r), (1, encLs l), (2, .int .u8 (turn : Int)), (3, .int .u32 (n : Int)), (4, .int .u8 (which : Int)), (11, .bool true), (13, .vptr 0 0), (57, encLs l), (58, .int .i64 ((l.map cLt).length : Int)), (59, .int .i64 (i : Int)), (66, encLs (l.take i)), (67, .int .i64 (((l.take i).map cLt).length : Int)), (68, .int .i64 (j : Int))], [(0, .cells (cLt x))], 1⟩) (fun j => j ≤ i ∧ ∀ (b : Nat) (y : Ltr), b < j → l[b]? = some y → ¬ (x.about = y.about ∧ x.day = y.day)) (fun j => i - j) 0 ⟨Nat.zero_le _, fun b y hb => by omega⟩ ?_ ?_
      · exact Wk.le (St.le.of ⟨by kernel_rfl, rfl, by kernel_rfl, rfl, by kernel_rfl, rfl, by kernel_rfl, rfl, by kernel_rfl, rfl, by kernel_rfl, rfl, by kernel_rfl, rfl, by kernel_rfl, rfl, by kernel_rfl, rfl, by kernel_rfl, rfl, by kernel_rfl, rfl, by kernel_rfl, rfl, by kernel_rfl, rfl, trivial⟩ ⟨by kernel_rfl, (by decide : (0 : Nat) < 1), rfl, trivial⟩) (hlo.mono (Nat.zero_le _))
      rintro j ⟨hj, hjv⟩
      replace hj : j ≤ i := hj
      by_cases hjl : j < i
      · have hjt : j < (l.take i).length := by omega
        refine Exists.elim (getE hjt) fun y hy => ?_
        have ej := congrArg (AV.int .i64) (succ64 (k := j) (by omega))
        have hy2 : l[j]? = some y := by rw [List.getElem?_take_of_lt hjl] at hy; exact hy
        have next : ¬ (x.about = y.about ∧ x.day = y.day) → ∀ (b : Nat) (z : Ltr), b < j + 1 → l[b]? = some z → ¬ (x.about = z.about ∧ x.day = z.day) := fun h b z hb hz => by
          by_cases e : b = j
          · subst e
            rw [hy2] at hz
            rw [← Option.some.inj hz]; exact h
          · exact hjv b z (by omega) hz
        refine (Bool.eq_false_or_eq_true (x.about == y.about)).symm.elim (fun h1 => ?_) (fun h1 => ?_)
        · have hn2 : ¬ (x.about = y.about ∧ x.day = y.day) := fun h => by rw [h.1, beq_self_eq_true] at h1; cases h1
          exact ACode.vcM (.br 69 true <| .cells (cLt y) <| .br 77 false .nil) hn hlo (.roundW .cl) ⟨ltLen hjt, idx hy, h1, j + 1, ⟨hjl, next hn2⟩, mu1 hjl, Wk.le (St.le.of ⟨by kernel_rfl, rfl, by kernel_rfl, rfl, by kernel_rfl, rfl, by kernel_rfl, rfl, by kernel_rfl, rfl, by kernel_rfl, rfl, by kernel_rfl, rfl, by kernel_rfl, rfl, by kernel_rfl, rfl, by kernel_rfl, rfl, by kernel_rfl, rfl, by kernel_rfl, rfl, Eq.trans (by kernel_rfl) ej, rfl, trivial⟩ ⟨by kernel_rfl, (by decide : (0 : Nat) < 1), rfl, trivial⟩) (hlo.mono (Nat.zero_le _))⟩
        · refine (Bool.eq_false_or_eq_true (x.day == y.day)).symm.elim (fun h2 => ?_) (fun h2 => ?_)
          · have hn2 : ¬ (x.about = y.about ∧ x.day = y.day) := fun h => by rw [h.2, beq_self_eq_true] at h2; cases h2
            exact ACode.vcM (.br 69 true <| .cells (cLt y) <| .br 77 true <| .br 83 false .nil) hn hlo (.roundW .cl) ⟨ltLen hjt, idx hy, h1, h2, j + 1, ⟨hjl, next hn2⟩, mu1 hjl, Wk.le (St.le.of ⟨by kernel_rfl, rfl, by kernel_rfl, rfl, by kernel_rfl, rfl, by kernel_rfl, rfl, by kernel_rfl, rfl, by kernel_rfl, rfl, by kernel_rfl, rfl, by kernel_rfl, rfl, by kernel_rfl, rfl, by kernel_rfl, rfl, by kernel_rfl, rfl, by kernel_rfl, rfl, Eq.trans (by kernel_rfl) ej, rfl, trivial⟩ ⟨by kernel_rfl, (by decide : (0 : Nat) < 1), rfl, trivial⟩) (hlo.mono (Nat.zero_le _))⟩
          · exact ACode.vcM (.br 69 true <| .cells (cLt y) <| .br 77 true <| .br 83 true .nil) hn hlo (.roundW .cl) ⟨ltLen hjt, idx hy, h1, h2, _, .refl _, .nil, _, .refl _, .nil, trivial, rfl⟩
      · have hjt : ¬ j < (l.take i).length := by omega
        have hj' : j = i := by omega
        refine ACode.vcM (.br 69 false .nil) hn hlo (.roundW .cl) ⟨geLen hjt, _, .refl _, .nil, i + 1, ⟨hil, fun a b x' y' ha hb hx' hy' => ?_⟩, mu1 hil, Wk.le (St.le.of ⟨by kernel_rfl, rfl, by kernel_rfl, rfl, by kernel_rfl, rfl, by kernel_rfl, rfl, by kernel_rfl, rfl, by kernel_rfl, rfl, by kernel_rfl, rfl, by kernel_rfl, rfl, Eq.trans (by kernel_rfl) ei, rfl, trivial⟩ trivial) (hloR.mono (Nat.zero_le _))⟩
        by_cases e : a = i
        · subst e
          rw [hx] at hx'
          rw [← Option.some.inj hx']
          exact hjv b y' (by omega) hy'
        · exact hiv a b x' y' (by omega) hb hx' hy'
    · have hi' : i = l.length := by omega
      refine ACode.vcM (.br 60 false .nil) hn hlo (.roundW .cl) ⟨geLen hil, _, .refl _, .nil, (), fun a b x y hb hx hy => ?_, Wk.le (St.le.of ⟨by kernel_rfl, rfl, by kernel_rfl, rfl, by kernel_rfl, rfl, by kernel_rfl, rfl, by kernel_rfl, rfl, by kernel_rfl, rfl, trivial⟩ trivial) (hlo0.mono (Nat.zero_le _))⟩
      exact hiv a b x y (by rw [hi']; exact (List.getElem?_eq_some_iff.1 hx).1) hb hx hy
  replace hdist : ∀ (i j : Nat) (x y : Ltr), j < i → l[i]? = some x → l[j]? = some y → ¬ (x.about = y.about ∧ x.day = y.day) := hdist
  have hkd : ∀ x ∈ l, ∀ y ∈ l, x.about = y.about → x.day = y.day → x.kd = y.kd := fun x hx y hy e1 e2 => by
    obtain ⟨i, hi⟩ := List.mem_iff_getElem?.1 hx
    obtain ⟨j, hj⟩ := List.mem_iff_getElem?.1 hy
    rcases Nat.lt_trichotomy i j with h | h | h
    · exact absurd ⟨e1.symm, e2.symm⟩ (hdist j i y x h hj hi)
    · subst h
      rw [hi] at hj
      rw [Option.some.inj hj]
    · exact absurd ⟨e1, e2⟩ (hdist i j x y h hi hj)
  -- turned
  obtain ⟨kk, hkk⟩ : ∃ kk, kk = turn % l.length := ⟨_, rfl⟩
  have hkl : kk ≤ l.length := by rw [hkk]; exact Nat.le_of_lt (Nat.mod_lt _ hl1)
  have hkZ : (turn : Int).tmod ((l.map cLt).length : Int) = (kk : Int) := by rw [hlen, hkk]; rfl
  have hneL : ((l.map cLt).length : Int) ≠ 0 := by rw [hlen]; omega
  have vt : some (⟨.int .i64 (IntKind.i64.wrap (turn : Int)), []⟩ : Out) = some ⟨.int .i64 (turn : Int), []⟩ := by rw [wrap64 (by omega) (by omega)]
  have hdl : (l.drop kk).length ≤ l.length := by rw [List.length_drop]; omega
  have htl : (l.take kk).length ≤ l.length := by rw [List.length_take]; omega
  have hMl : (l.drop kk).length + (l.take kk).length = l.length := by rw [List.length_drop, List.length_take]; omega
  have ap96 := appL0 (h := hget [(0, .cells [])]) (i := 0) (nid := 4) (l := l.drop kk) rfl (by omega)
  have ap100 := appL2 (h := hget [(4, .cells (lL (l.drop kk)))]) (i := 4) (nid := 10) (l := l.drop kk) (m := l.take kk) rfl (by omega) (by omega)
  rw [hMl] at ap100
  have sl0 := slL0 (h := hget []) hkZ hkl
  have sl1 := slL1 (h := hget []) hkZ hkl
  have hTl : M.length = l.length := by rw [hM]; exact turn_len l _ _
  have hTe : stepG (fun (i : Nat) (x : Ltr) => ({ x with id := 7 * (i : Int) + turn } : Ltr)) (l.drop kk ++ l.take kk) l.length = M := by
    have := stepG_all (fun (i : Nat) (x : Ltr) => ({ x with id := 7 * (i : Int) + turn } : Ltr)) (l.drop kk ++ l.take kk)
    rw [List.length_append, hMl] at this
    rw [this, hM, ← hkk]; rfl
  have hbl : (l.drop kk ++ l.take kk).length = l.length := by rw [List.length_append, hMl]
  have hT0 := stepG_zero (fun (i : Nat) (x : Ltr) => ({ x with id := 7 * (i : Int) + turn } : Ltr)) (l.drop kk ++ l.take kk)
  have hTs := fun (j : Nat) (x : Ltr) (hx : (l.drop kk ++ l.take kk)[j]? = some x) => stepG_set (fun (i : Nat) (x : Ltr) => ({ x with id := 7 * (i : Int) + turn } : Ltr)) hx
  have hTg := fun (j : Nat) (x : Ltr) (hx : (l.drop kk ++ l.take kk)[j]? = some x) => stepG_get (fun (i : Nat) (x : Ltr) => ({ x with id := 7 * (i : Int) + turn } : Ltr)) j hx
  obtain ⟨P, hP⟩ : ∃ P, P = stepG (fun (i : Nat) (x : Ltr) => ({ x with id := 7 * (i : Int) + turn } : Ltr)) (l.drop kk ++ l.take kk) := ⟨_, rfl⟩
  rw [← hP] at hTe hT0
  have hTs : ∀ (j : Nat) (x : Ltr), (l.drop kk ++ l.take kk)[j]? = some x → (P j).set j { x with id := 7 * (j : Int) + turn } = P (j + 1) := fun j x hx => by rw [hP]; exact hTs j x hx
  have hTg : ∀ (j : Nat) (x : Ltr), (l.drop kk ++ l.take kk)[j]? = some x → (P j)[j]? = some x := fun j x hx => by have := hTg j x hx; rw [if_neg (Nat.lt_irrefl j)] at this; rw [hP]; exact this
  have s1 := sAll l (.inl rfl)
  have s2 := sAll M (.inr ⟨hkd, hM⟩)
  clear sAll hdist hkd hP hM sA sR
  refine ACode.cut 2 (fun _ : Unit => ⟨[(0, encRs r), (1, encLs l), (3, .int .u32 (n : Int)), (4, .int .u8 (which : Int)), (11, .bool true), (17, .rsl 0 0 l.length 4)], [(0, .cells (lL M))], 1⟩) (fun _ => True)
    (.val 88 (.int .i64 (turn : Int)) [] <| .nz <| .draw 8 <| .val 95 (encLs (l.drop kk)) [] <| .val 96 (.rsl 4 0 (l.drop kk).length 4) [(0, none), (4, some (.cells (lL (l.drop kk))))] <| .val 99 (encLs (l.take kk)) [] <| .val 100 (.rsl 10 0 l.length 4) [(4, none), (10, some (.cells (lL (l.drop kk ++ l.take kk))))] <| .loop) hn hlo0 .ret rfl
    ⟨Eq.trans (by kernel_rfl) vt, hneL, by kernel_rfl, mixed, by kernel_rfl, Eq.trans (by kernel_rfl) sl0, Eq.trans (by kernel_rfl) ap96, Eq.trans (by kernel_rfl) sl1, by kernel_rfl, Eq.trans (by kernel_rfl) ap100, ?_⟩ fun _ _ => ?_
  · intro g hn hlo
    replace hn : g.n = 231 := hn
    replace hlo : g.low 0 := hlo
    refine acode_whileW (fun i : Nat => ⟨[(0, encRs r), (1, encLs l), (2, .int .u8 (turn : Int)), (3, .int .u32 (n : Int)), (4, .int .u8 (which : Int)), (11, .bool true), (17, .rsl 10 0 l.length 4), (102, .int .i64 (l.length : Int)), (103, .int .i64 (i : Int))], [(10, .cells (lL (P i)))], 11⟩) (fun i => i ≤ l.length) (fun i => l.length - i) 0 (Nat.zero_le _) ?_ ?_
    · have c10 : some (AObj.cells (lL (l.drop kk ++ l.take kk))) = some (.cells (lL (P 0))) := by rw [hT0]
      exact Wk.le (St.le.of ⟨by kernel_rfl, rfl, by kernel_rfl, rfl, by kernel_rfl, rfl, by kernel_rfl, rfl, by kernel_rfl, rfl, by kernel_rfl, rfl, by kernel_rfl, rfl, by kernel_rfl, rfl, by kernel_rfl, rfl, trivial⟩ ⟨Eq.trans (by kernel_rfl) c10, (by decide : (10 : Nat) < 11), lL_ok _ _, trivial⟩) (hlo.mono (Nat.zero_le _))
    intro i hi
    replace hi : i ≤ l.length := hi
    by_cases hlt : i < l.length
    · refine Exists.elim (getE (show i < (l.drop kk ++ l.take kk).length by rw [hbl]; exact hlt)) fun x hx => ?_
      have ei := congrArg (AV.int .i64) (succ64 (k := i) (by omega))
      have d104 : decide ((i : Int) < (l.length : Int)) = true := decide_eq_true (by omega)
      have v112 : some (⟨.int .i64 (IntKind.i64.wrap (IntKind.i64.wrap (7 * (i : Int)) + IntKind.i64.wrap (turn : Int))), []⟩ : Out) = some ⟨.int .i64 (7 * (i : Int) + turn), []⟩ := by rw [wrap64 (n := 7 * (i : Int)) (by omega) (by omega), wrap64 (n := (turn : Int)) (by omega) (by omega), wrap64 (by omega) (by omega)]
      have ixl := ixLt (h := hget []) (id := 10) (N := l.length) (k := i) hlt
      have sto := stFl (enc := cLt) (n := 4) (fun _ => rfl) (h := hget [(10, .cells (lL (P i)))]) (id := 10) (l := P i) (k := i) (j := 0) (o := i * 4) (a := x) (a' := { x with id := 7 * (i : Int) + turn }) (x := 7 * (i : Int) + turn) rfl (hTg i x hx) (by decide) rfl rfl
      rw [hTs i x hx] at sto
      exact ACode.vcM (.br 104 true <| .val 112 (.int .i64 (7 * (i : Int) + turn)) [] <| .val 113 (.vptr 10 (i * 4)) [] <| .val 1 .undef [(10, some (.cells (lL (P (i + 1)))))] .nil) hn hlo (.roundW .cl) ⟨d104, Eq.trans (by kernel_rfl) v112, Eq.trans (by kernel_rfl) ixl, Eq.trans (by kernel_rfl) sto, i + 1, hlt, mu1 hlt, Wk.le (St.le.of ⟨by kernel_rfl, rfl, by kernel_rfl, rfl, by kernel_rfl, rfl, by kernel_rfl, rfl, by kernel_rfl, rfl, by kernel_rfl, rfl, by kernel_rfl, rfl, by kernel_rfl, rfl, Eq.trans (by kernel_rfl) ei, rfl, trivial⟩ ⟨by kernel_rfl, (by decide : (10 : Nat) < 11), lL_ok _ _, trivial⟩) (hlo.mono (Nat.zero_le _))⟩
    · have hi' : i = l.length := by omega
      have d104 : decide ((i : Int) < (l.length : Int)) = false := decide_eq_false (by omega)
      have eP : P i = M := by rw [hi']; exact hTe
      have c1 : some (AObj.cells (lL (P i))) = some (.cells (lL M)) := by rw [eP]
      exact ACode.vcM (.br 104 false .nil) hn hlo (.roundW .cl) ⟨d104, _, .refl _, .nil, (), trivial, Wk.ren (c := 0) (b := 10) (St.ren.of rfl (by decide) ⟨.inl ⟨by kernel_rfl, rfl⟩, .inl ⟨by kernel_rfl, rfl⟩, .inl ⟨by kernel_rfl, rfl⟩, .inl ⟨by kernel_rfl, rfl⟩, .inl ⟨by kernel_rfl, rfl⟩, .inr ⟨_, _, _, rfl, by kernel_rfl⟩, trivial⟩ ⟨.inr ⟨rfl, Eq.trans (by kernel_rfl) c1, _, rfl, lL_ok _ _⟩, trivial⟩) (hlo0.mono (Nat.zero_le _))⟩
  have tl := thawL_letters (h := hget [(0, .cells (lL M))]) (i := 0) (n := l.length) (r := r) (l := M) (d := d) hTl.symm rfl
  have tl2 := thawL_letters2 (h := hget [(0, .cells (lL M))]) (i := 0) (n := l.length) (r := r) (l := M) (d := d) (e := x0.id) hTl.symm rfl
  have e1 : (E1 == E1) = true := by simp
  have e2 : (E2 == E2) = true := by simp
  have p1 := s1.1
  have p2 := s1.2.1
  have p3 := s1.2.2.1
  have p4 := s1.2.2.2
  have q1 := s2.1
  have q2 := s2.2.1
  have q3 := s2.2.2.1
  have q4 := s2.2.2.2
  refine ACode.cut 0 (fun _ : Unit => ⟨[(0, encRs r), (1, encLs l), (11, .bool true), (17, .rsl 0 0 l.length 4), (19, .int .i64 d), (20, .int .i64 x0.id)], [(0, .cells (lL M))], 1⟩) (fun _ => True) (.draw 13 <| .call (.int .i64 d) <| .val 121 (.int .i64 (which : Int)) [] <| .nz <| .cells (cRc x0) .nil) hn hlo0 .ret rfl ⟨by kernel_rfl, mixed, by kernel_rfl, sD, Eq.trans (by kernel_rfl) v121, hne, ix, by kernel_rfl, (), trivial, Wk.le (St.le.of ⟨by kernel_rfl, rfl, by kernel_rfl, rfl, by kernel_rfl, rfl, by kernel_rfl, rfl, by kernel_rfl, rfl, by kernel_rfl, rfl, trivial⟩ ⟨by kernel_rfl, (by decide : (0 : Nat) < 1), lL_ok _ _, trivial⟩) (hlo0.mono (Nat.zero_le _))⟩ fun _ _ => ?_
  refine ACode.cut 1 (fun _ : Unit => ⟨[(0, encRs r), (1, encLs l), (11, .bool true), (17, .rsl 0 0 l.length 4), (19, .int .i64 d), (20, .int .i64 x0.id), (21, encR HL), (22, .int .i64 0), (23, encR HL), (24, .int .i64 0)], [(0, .cells (lL M))], 1⟩) (fun _ => True) (.lent (.tup [encR HL, .int .i64 0]) [] <| .lent (.tup [encR HL, .int .i64 0]) [0] .nil) hn hlo0 .ret rfl ⟨⟨_, by kernel_rfl, .inr p1⟩, ⟨_, Eq.trans (by kernel_rfl) tl, .inr q1⟩, (), trivial, Wk.le (St.le.of ⟨by kernel_rfl, rfl, by kernel_rfl, rfl, by kernel_rfl, rfl, by kernel_rfl, rfl, by kernel_rfl, rfl, by kernel_rfl, rfl, by kernel_rfl, rfl, by kernel_rfl, rfl, by kernel_rfl, rfl, by kernel_rfl, rfl, trivial⟩ ⟨by kernel_rfl, (by decide : (0 : Nat) < 1), lL_ok _ _, trivial⟩) (hlo0.mono (Nat.zero_le _))⟩ fun _ _ => ?_
  refine ACode.cut 1 (fun _ : Unit => ⟨[(0, encRs r), (1, encLs l), (11, .bool true), (17, .rsl 0 0 l.length 4), (19, .int .i64 d), (20, .int .i64 x0.id), (21, encR HL), (22, .int .i64 0), (23, encR HL), (24, .int .i64 0), (25, encR TL), (26, .int .i64 0), (27, encR TL), (28, .int .i64 0)], [(0, .cells (lL M))], 1⟩) (fun _ => True) (.lent (.tup [encR TL, .int .i64 0]) [] <| .lent (.tup [encR TL, .int .i64 0]) [0] .nil) hn hlo0 .ret rfl ⟨⟨_, by kernel_rfl, .inr p2⟩, ⟨_, Eq.trans (by kernel_rfl) tl2, .inr q2⟩, (), trivial, Wk.le (St.le.of ⟨by kernel_rfl, rfl, by kernel_rfl, rfl, by kernel_rfl, rfl, by kernel_rfl, rfl, by kernel_rfl, rfl, by kernel_rfl, rfl, by kernel_rfl, rfl, by kernel_rfl, rfl, by kernel_rfl, rfl, by kernel_rfl, rfl, by kernel_rfl, rfl, by kernel_rfl, rfl, by kernel_rfl, rfl, by kernel_rfl, rfl, trivial⟩ ⟨by kernel_rfl, (by decide : (0 : Nat) < 1), lL_ok _ _, trivial⟩) (hlo0.mono (Nat.zero_le _))⟩ fun _ _ => ?_
  refine cX.elim (fun hx => Exists.elim hx fun XL eX => ?_) (fun eX => ?_) <;> subst eX <;> refine cY.elim (fun hy => Exists.elim hy fun YL eY => ?_) (fun eY => ?_) <;> subst eY
  · refine ACode.cut 1 (fun _ : Unit => ⟨[(0, encRs r), (1, encLs l), (11, .bool true), (17, .rsl 0 0 l.length 4), (19, .int .i64 d), (20, .int .i64 x0.id), (21, encR HL), (22, .int .i64 0), (23, encR HL), (24, .int .i64 0), (25, encR TL), (26, .int .i64 0), (27, encR TL), (28, .int .i64 0), (29, encR XL), (30, .int .i64 E1), (31, encR XL), (32, .int .i64 E1)], [(0, .cells (lL M))], 1⟩) (fun _ => True) (.lent (.tup [encR XL, .int .i64 E1]) [] <| .lent (.tup [encR XL, .int .i64 E1]) [0] .nil) hn hlo0 .ret rfl ⟨⟨_, by kernel_rfl, .inr p3⟩, ⟨_, Eq.trans (by kernel_rfl) tl2, .inr q3⟩, (), trivial, Wk.le (St.le.of ⟨by kernel_rfl, rfl, by kernel_rfl, rfl, by kernel_rfl, rfl, by kernel_rfl, rfl, by kernel_rfl, rfl, by kernel_rfl, rfl, by kernel_rfl, rfl, by kernel_rfl, rfl, by kernel_rfl, rfl, by kernel_rfl, rfl, by kernel_rfl, rfl, by kernel_rfl, rfl, by kernel_rfl, rfl, by kernel_rfl, rfl, by kernel_rfl, rfl, by kernel_rfl, rfl, by kernel_rfl, rfl, by kernel_rfl, rfl, trivial⟩ ⟨by kernel_rfl, (by decide : (0 : Nat) < 1), lL_ok _ _, trivial⟩) (hlo0.mono (Nat.zero_le _))⟩ fun _ _ => ?_
    refine ACode.cut 1 (fun _ : Unit => ⟨[(0, encRs r), (1, encLs l), (11, .bool true), (17, .rsl 0 0 l.length 4), (19, .int .i64 d), (20, .int .i64 x0.id), (21, encR HL), (22, .int .i64 0), (23, encR HL), (24, .int .i64 0), (25, encR TL), (26, .int .i64 0), (27, encR TL), (28, .int .i64 0), (29, encR XL), (30, .int .i64 E1), (31, encR XL), (32, .int .i64 E1), (33, encR YL), (34, .int .i64 E2), (35, encR YL), (36, .int .i64 E2)], [(0, .cells (lL M))], 1⟩) (fun _ => True) (.lent (.tup [encR YL, .int .i64 E2]) [] <| .lent (.tup [encR YL, .int .i64 E2]) [0] .nil) hn hlo0 .ret rfl ⟨⟨_, by kernel_rfl, .inr p4⟩, ⟨_, Eq.trans (by kernel_rfl) tl2, .inr q4⟩, (), trivial, Wk.le (St.le.of ⟨by kernel_rfl, rfl, by kernel_rfl, rfl, by kernel_rfl, rfl, by kernel_rfl, rfl, by kernel_rfl, rfl, by kernel_rfl, rfl, by kernel_rfl, rfl, by kernel_rfl, rfl, by kernel_rfl, rfl, by kernel_rfl, rfl, by kernel_rfl, rfl, by kernel_rfl, rfl, by kernel_rfl, rfl, by kernel_rfl, rfl, by kernel_rfl, rfl, by kernel_rfl, rfl, by kernel_rfl, rfl, by kernel_rfl, rfl, by kernel_rfl, rfl, by kernel_rfl, rfl, by kernel_rfl, rfl, by kernel_rfl, rfl, trivial⟩ ⟨by kernel_rfl, (by decide : (0 : Nat) < 1), lL_ok _ _, trivial⟩) (hlo0.mono (Nat.zero_le _))⟩ fun _ _ => ?_
    exact ACode.vcM (.br 206 true <| .br 211 true <| .call (.bool true) <| .call (.bool true) <| .call (.bool true) <| .call (.bool true) .nil) hn hlo0 .ret ⟨e1, e2, sHH, sTT, sXX, sYY, trivial, rfl⟩
  · refine ACode.cut 1 (fun _ : Unit => ⟨[(0, encRs r), (1, encLs l), (11, .bool true), (17, .rsl 0 0 l.length 4), (19, .int .i64 d), (20, .int .i64 x0.id), (21, encR HL), (22, .int .i64 0), (23, encR HL), (24, .int .i64 0), (25, encR TL), (26, .int .i64 0), (27, encR TL), (28, .int .i64 0), (29, encR XL), (30, .int .i64 E1), (31, encR XL), (32, .int .i64 E1)], [(0, .cells (lL M))], 1⟩) (fun _ => True) (.lent (.tup [encR XL, .int .i64 E1]) [] <| .lent (.tup [encR XL, .int .i64 E1]) [0] .nil) hn hlo0 .ret rfl ⟨⟨_, by kernel_rfl, .inr p3⟩, ⟨_, Eq.trans (by kernel_rfl) tl2, .inr q3⟩, (), trivial, Wk.le (St.le.of ⟨by kernel_rfl, rfl, by kernel_rfl, rfl, by kernel_rfl, rfl, by kernel_rfl, rfl, by kernel_rfl, rfl, by kernel_rfl, rfl, by kernel_rfl, rfl, by kernel_rfl, rfl, by kernel_rfl, rfl, by kernel_rfl, rfl, by kernel_rfl, rfl, by kernel_rfl, rfl, by kernel_rfl, rfl, by kernel_rfl, rfl, by kernel_rfl, rfl, by kernel_rfl, rfl, by kernel_rfl, rfl, by kernel_rfl, rfl, trivial⟩ ⟨by kernel_rfl, (by decide : (0 : Nat) < 1), lL_ok _ _, trivial⟩) (hlo0.mono (Nat.zero_le _))⟩ fun _ _ => ?_
    refine ACode.cut 1 (fun _ : Unit => ⟨[(0, encRs r), (1, encLs l), (11, .bool true), (17, .rsl 0 0 l.length 4), (19, .int .i64 d), (20, .int .i64 x0.id), (21, encR HL), (22, .int .i64 0), (23, encR HL), (24, .int .i64 0), (25, encR TL), (26, .int .i64 0), (27, encR TL), (28, .int .i64 0), (29, encR XL), (30, .int .i64 E1), (31, encR XL), (32, .int .i64 E1), (33, .nil), (34, .int .i64 E2), (35, .nil), (36, .int .i64 E2)], [(0, .cells (lL M))], 1⟩) (fun _ => True) (.lent (.tup [.nil, .int .i64 E2]) [] <| .lent (.tup [.nil, .int .i64 E2]) [0] .nil) hn hlo0 .ret rfl ⟨⟨_, by kernel_rfl, .inr p4⟩, ⟨_, Eq.trans (by kernel_rfl) tl2, .inr q4⟩, (), trivial, Wk.le (St.le.of ⟨by kernel_rfl, rfl, by kernel_rfl, rfl, by kernel_rfl, rfl, by kernel_rfl, rfl, by kernel_rfl, rfl, by kernel_rfl, rfl, by kernel_rfl, rfl, by kernel_rfl, rfl, by kernel_rfl, rfl, by kernel_rfl, rfl, by kernel_rfl, rfl, by kernel_rfl, rfl, by kernel_rfl, rfl, by kernel_rfl, rfl, by kernel_rfl, rfl, by kernel_rfl, rfl, by kernel_rfl, rfl, by kernel_rfl, rfl, by kernel_rfl, rfl, by kernel_rfl, rfl, by kernel_rfl, rfl, by kernel_rfl, rfl, trivial⟩ ⟨by kernel_rfl, (by decide : (0 : Nat) < 1), lL_ok _ _, trivial⟩) (hlo0.mono (Nat.zero_le _))⟩ fun _ _ => ?_
    exact ACode.vcM (.br 206 true <| .br 211 true <| .call (.bool true) <| .call (.bool true) <| .call (.bool true) <| .call (.bool true) .nil) hn hlo0 .ret ⟨e1, e2, sHH, sTT, sXX, sYY, trivial, rfl⟩
  · refine ACode.cut 1 (fun _ : Unit => ⟨[(0, encRs r), (1, encLs l), (11, .bool true), (17, .rsl 0 0 l.length 4), (19, .int .i64 d), (20, .int .i64 x0.id), (21, encR HL), (22, .int .i64 0), (23, encR HL), (24, .int .i64 0), (25, encR TL), (26, .int .i64 0), (27, encR TL), (28, .int .i64 0), (29, .nil), (30, .int .i64 E1), (31, .nil), (32, .int .i64 E1)], [(0, .cells (lL M))], 1⟩) (fun _ => True) (.lent (.tup [.nil, .int .i64 E1]) [] <| .lent (.tup [.nil, .int .i64 E1]) [0] .nil) hn hlo0 .ret rfl ⟨⟨_, by kernel_rfl, .inr p3⟩, ⟨_, Eq.trans (by kernel_rfl) tl2, .inr q3⟩, (), trivial, Wk.le (St.le.of ⟨by kernel_rfl, rfl, by kernel_rfl, rfl, by kernel_rfl, rfl, by kernel_rfl, rfl, by kernel_rfl, rfl, by kernel_rfl, rfl, by kernel_rfl, rfl, by kernel_rfl, rfl, by kernel_rfl, rfl, by kernel_rfl, rfl, by kernel_rfl, rfl, by kernel_rfl, rfl, by kernel_rfl, rfl, by kernel_rfl, rfl, by kernel_rfl, rfl, by kernel_rfl, rfl, by kernel_rfl, rfl, by kernel_rfl, rfl, trivial⟩ ⟨by kernel_rfl, (by decide : (0 : Nat) < 1), lL_ok _ _, trivial⟩) (hlo0.mono (Nat.zero_le _))⟩ fun _ _ => ?_
    refine ACode.cut 1 (fun _ : Unit => ⟨[(0, encRs r), (1, encLs l), (11, .bool true), (17, .rsl 0 0 l.length 4), (19, .int .i64 d), (20, .int .i64 x0.id), (21, encR HL), (22, .int .i64 0), (23, encR HL), (24, .int .i64 0), (25, encR TL), (26, .int .i64 0), (27, encR TL), (28, .int .i64 0), (29, .nil), (30, .int .i64 E1), (31, .nil), (32, .int .i64 E1), (33, encR YL), (34, .int .i64 E2), (35, encR YL), (36, .int .i64 E2)], [(0, .cells (lL M))], 1⟩) (fun _ => True) (.lent (.tup [encR YL, .int .i64 E2]) [] <| .lent (.tup [encR YL, .int .i64 E2]) [0] .nil) hn hlo0 .ret rfl ⟨⟨_, by kernel_rfl, .inr p4⟩, ⟨_, Eq.trans (by kernel_rfl) tl2, .inr q4⟩, (), trivial, Wk.le (St.le.of ⟨by kernel_rfl, rfl, by kernel_rfl, rfl, by kernel_rfl, rfl, by kernel_rfl, rfl, by kernel_rfl, rfl, by kernel_rfl, rfl, by kernel_rfl, rfl, by kernel_rfl, rfl, by kernel_rfl, rfl, by kernel_rfl, rfl, by kernel_rfl, rfl, by kernel_rfl, rfl, by kernel_rfl, rfl, by kernel_rfl, rfl, by kernel_rfl, rfl, by kernel_rfl, rfl, by kernel_rfl, rfl, by kernel_rfl, rfl, by kernel_rfl, rfl, by kernel_rfl, rfl, by kernel_rfl, rfl, by kernel_rfl, rfl, trivial⟩ ⟨by kernel_rfl, (by decide : (0 : Nat) < 1), lL_ok _ _, trivial⟩) (hlo0.mono (Nat.zero_le _))⟩ fun _ _ => ?_
    exact ACode.vcM (.br 206 true <| .br 211 true <| .call (.bool true) <| .call (.bool true) <| .call (.bool true) <| .call (.bool true) .nil) hn hlo0 .ret ⟨e1, e2, sHH, sTT, sXX, sYY, trivial, rfl⟩
  · refine ACode.cut 1 (fun _ : Unit => ⟨[(0, encRs r), (1, encLs l), (11, .bool true), (17, .rsl 0 0 l.length 4), (19, .int .i64 d), (20, .int .i64 x0.id), (21, encR HL), (22, .int .i64 0), (23, encR HL), (24, .int .i64 0), (25, encR TL), (26, .int .i64 0), (27, encR TL), (28, .int .i64 0), (29, .nil), (30, .int .i64 E1), (31, .nil), (32, .int .i64 E1)], [(0, .cells (lL M))], 1⟩) (fun _ => True) (.lent (.tup [.nil, .int .i64 E1]) [] <| .lent (.tup [.nil, .int .i64 E1]) [0] .nil) hn hlo0 .ret rfl ⟨⟨_, by kernel_rfl, .inr p3⟩, ⟨_, Eq.trans (by kernel_rfl) tl2, .inr q3⟩, (), trivial, Wk.le (St.le.of ⟨by kernel_rfl, rfl, by kernel_rfl, rfl, by kernel_rfl, rfl, by kernel_rfl, rfl, by kernel_rfl, rfl, by kernel_rfl, rfl, by kernel_rfl, rfl, by kernel_rfl, rfl, by kernel_rfl, rfl, by kernel_rfl, rfl, by kernel_rfl, rfl, by kernel_rfl, rfl, by kernel_rfl, rfl, by kernel_rfl, rfl, by kernel_rfl, rfl, by kernel_rfl, rfl, by kernel_rfl, rfl, by kernel_rfl, rfl, trivial⟩ ⟨by kernel_rfl, (by decide : (0 : Nat) < 1), lL_ok _ _, trivial⟩) (hlo0.mono (Nat.zero_le _))⟩ fun _ _ => ?_
    refine ACode.cut 1 (fun _ : Unit => ⟨[(0, encRs r), (1, encLs l), (11, .bool true), (17, .rsl 0 0 l.length 4), (19, .int .i64 d), (20, .int .i64 x0.id), (21, encR HL), (22, .int .i64 0), (23, encR HL), (24, .int .i64 0), (25, encR TL), (26, .int .i64 0), (27, encR TL), (28, .int .i64 0), (29, .nil), (30, .int .i64 E1), (31, .nil), (32, .int .i64 E1), (33, .nil), (34, .int .i64 E2), (35, .nil), (36, .int .i64 E2)], [(0, .cells (lL M))], 1⟩) (fun _ => True) (.lent (.tup [.nil, .int .i64 E2]) [] <| .lent (.tup [.nil, .int .i64 E2]) [0] .nil) hn hlo0 .ret rfl ⟨⟨_, by kernel_rfl, .inr p4⟩, ⟨_, Eq.trans (by kernel_rfl) tl2, .inr q4⟩, (), trivial, Wk.le (St.le.of ⟨by kernel_rfl, rfl, by kernel_rfl, rfl, by kernel_rfl, rfl, by kernel_rfl, rfl, by kernel_rfl, rfl, by kernel_rfl, rfl, by kernel_rfl, rfl, by kernel_rfl, rfl, by kernel_rfl, rfl, by kernel_rfl, rfl, by kernel_rfl, rfl, by kernel_rfl, rfl, by kernel_rfl, rfl, by kernel_rfl, rfl, by kernel_rfl, rfl, by kernel_rfl, rfl, by kernel_rfl, rfl, by kernel_rfl, rfl, by kernel_rfl, rfl, by kernel_rfl, rfl, by kernel_rfl, rfl, by kernel_rfl, rfl, trivial⟩ ⟨by kernel_rfl, (by decide : (0 : Nat) < 1), lL_ok _ _, trivial⟩) (hlo0.mono (Nat.zero_le _))⟩ fun _ _ => ?_
    exact ACode.vcM (.br 206 true <| .br 211 true <| .call (.bool true) <| .call (.bool true) <| .call (.bool true) <| .call (.bool true) .nil) hn hlo0 .ret ⟨e1, e2, sHH, sTT, sXX, sYY, trivial, rfl⟩
def leX (L : List Int) (E : Int) : AV := if E = 0 then encR L else .nil
theorem encLe_X (L : List Int) (E : Int) : encLe L E = .tup [leX L E, .int .i64 E] := by
  unfold encLe leX
  split
  · rename_i h; rw [h]
  · rfl
theorem same_X (L : List Int) (E : Int) (h : L.length ≤ 1000) : APure Try.prog 16 [leX L E, leX L E] (.bool true) := by
  unfold leX
  split
  · exact Same_spec L h
  · exact Same_nil
theorem is_X (L : List Int) (E : Int) : (∃ M, leX L E = encR M) ∨ leX L E = .nil := by
  unfold leX
  split
  · exact .inl ⟨_, rfl⟩
  · exact .inr rfl
theorem law_order (r : List Rcd) (l : List Ltr) (turn n which : Nat) (ht8 : turn < 256) (hn32 : n < 4294967296) (hw8 : which < 256) : APure Try.prog 7 [encRs r, encLs l, .int .u8 (turn : Int), .int .u32 (n : Int), .int .u8 (which : Int)] (.bool true) := by
  have sA := alive_spec
  have sR := ready_spec r l
  cases h1 : readyB r l
  · rw [h1] at sR
    exact APure.vc Try.func7 rfl (.call (.bool true) <| .call (.bool false) .nil) rfl rfl ⟨sA, sR, trivial, rfl⟩
  rw [h1] at sR
  have hlen : ((r.map cRc).length : Int) = r.length := by rw [List.length_map]
  have llen : ((l.map cLt).length : Int) = l.length := by rw [List.length_map]
  by_cases h0 : r.length = 0
  · have d47 : (((r.map cRc).length : Int) == 0) = true := by rw [hlen, h0]; rfl
    exact APure.vc Try.func7 rfl (.call (.bool true) <| .call (.bool true) <| .br 47 true .nil) rfl rfl ⟨sA, sR, d47, trivial, rfl⟩
  have d47 : (((r.map cRc).length : Int) == 0) = false := by rw [hlen]; exact beq_eq_false_iff_ne.2 (by omega)
  by_cases h0l : l.length = 0
  · have d52 : (((l.map cLt).length : Int) == 0) = true := by rw [llen, h0l]; rfl
    exact APure.vc Try.func7 rfl (.call (.bool true) <| .call (.bool true) <| .br 47 false <| .br 52 true .nil) rfl rfl ⟨sA, sR, d47, d52, trivial, rfl⟩
  have hck : checkV r l = 0 := by
    unfold readyB at h1
    rw [Bool.and_eq_true] at h1
    exact of_decide_eq_true h1.2
  obtain ⟨hR, hL⟩ := check_0 hck
  have hr12 := (recs_nodup hR).2.2
  have hl20 := lets_len hL
  have hLd : ∀ x ∈ l, 0 ≤ x.day ∧ x.day ≤ 100000 := fun x hx => by
    simp only [letsB, Bool.and_eq_true, List.all_eq_true] at hL
    have h2 := hL.2 x hx
    simp only [letB, Bool.and_eq_true, inB_iff] at h2
    exact h2.1.1
  have sD := day_spec l n hn32 (by omega) hLd
  have hdr := dayV_rng l n
  generalize dayV l n = d at *
  have hml : which % r.length < r.length := Nat.mod_lt _ (by omega)
  refine Exists.elim (getE hml) fun x0 hx0 => ?_
  have hx0m := List.mem_of_getElem? hx0
  have v121 : some (⟨.int .i64 (IntKind.i64.wrap (which : Int)), []⟩ : Out) = some ⟨.int .i64 (which : Int), []⟩ := by rw [wrap64 (by omega) (by omega)]
  have ix : 0 ≤ (which : Int).tmod ((r.map cRc).length : Int) ∧ (r.map cRc)[((which : Int).tmod ((r.map cRc).length : Int)).toNat]? = some (cRc x0) := by
    rw [show (which : Int).tmod ((r.map cRc).length : Int) = ((which % r.length : Nat) : Int) from by rw [hlen]; rfl]
    exact idx hx0
  have hne : ((r.map cRc).length : Int) ≠ 0 := by rw [hlen]; omega
  have hidm : (idsR r).contains x0.id = true := List.contains_iff_mem.2 (List.mem_map.2 ⟨x0, hx0m, rfl⟩)
  have hil : (idsR r).length = r.length := by unfold idsR; rw [List.length_map]
  have fl1 : ∀ p : Int → Bool, ((idsR r).filter p).length ≤ 1000 := fun p => by have := List.length_filter_le p (idsR r); omega
  have fl2 : ∀ S : Nat, (idsOf r S).length ≤ 1000 := fun S => by
    unfold idsOf
    rw [List.length_map]
    have := List.length_filter_le (fun i => S.testBit i) (List.range r.length)
    rw [List.length_range] at this
    omega
  have key : ∀ M : List Ltr, goneV M d = goneV l d → checkV r M = 0 → APureF Try.prog 10 [encRs r, encLs M, .int .i64 d] (.tup [leX (holdsV r l d) 0, .int .i64 0]) ∧ APureF Try.prog 12 [encRs r, encLs M, .int .i64 d, .int .i64 x0.id] (.tup [leX (takesD r l d x0.id) 0, .int .i64 0]) ∧ APureF Try.prog 19 [encRs r, encLs M, .int .i64 d, .int .i64 x0.id] (.tup [leX (restD r l d x0.id) (restE r l d x0.id), .int .i64 (restE r l d x0.id)]) ∧ APureF Try.prog 21 [encRs r, encLs M, .int .i64 d, .int .i64 x0.id] (.tup [leX (causD r l d x0.id) (causE r l d x0.id), .int .i64 (causE r l d x0.id)]) := fun M hg hc => by
    have hday : ∀ M, checkV r M = 0 → dayE r M d = 0 := fun M hc => by unfold dayE; rw [if_pos hc, if_pos (inB_iff.2 hdr)]
    have hwith : ∀ M, checkV r M = 0 → withE r M d x0.id = 0 := fun M hc => by unfold withE; rw [if_pos (hday M hc), if_pos hidm]
    have sH := Holds_ok r M d
    have sT := Takes_ok r M d x0.id
    have sX := Rests_ok r M d x0.id
    have sY := Causes_ok r M d x0.id
    have gL : goneL M d r = goneL l d r := by unfold goneL; rw [hg]
    have a1 : holdsV r M d = holdsV r l d := by unfold holdsV; rw [hg]
    have a2 : takesD r M d x0.id = takesD r l d x0.id := by unfold takesD; rw [hg]
    have a3 : restD r M d x0.id = restD r l d x0.id := by unfold restD; rw [gL]
    have a4 : causD r M d x0.id = causD r l d x0.id := by unfold causD; rw [gL]
    have a5 : restE r M d x0.id = restE r l d x0.id := by unfold restE; rw [hg, hwith M hc, hwith l hck]
    have a6 : causE r M d x0.id = causE r l d x0.id := by unfold causE; rw [hg, hwith M hc, hwith l hck]
    rw [hday M hc, a1, encLe_X] at sH
    rw [hwith M hc, a2, encLe_X] at sT
    rw [a3, a5, encLe_X] at sX
    rw [a4, a6, encLe_X] at sY
    exact ⟨sH, sT, sX, sY⟩
  exact order_core r l turn n which ht8 d x0 (holdsV r l d) (takesD r l d x0.id) (leX (restD r l d x0.id) (restE r l d x0.id)) (leX (causD r l d x0.id) (causE r l d x0.id)) (restE r l d x0.id) (causE r l d x0.id) hr12 hl20 (by omega) sA sR sD d47 v121 ix hne
    (is_X _ _) (is_X _ _) (Same_spec _ (fl1 _)) (Same_spec _ (fl1 _)) (same_X _ _ (fl2 _)) (same_X _ _ (fl2 _)) _ rfl fun M hM => by
      rcases hM with rfl | ⟨hkd, rfl⟩
      · exact key _ rfl hck
      · refine key _ (funext fun i => gone_any (turn_same l _ _) hkd d i) ?_
        have := turn_ok hL (turn % l.length) (t := (turn : Int)) (by omega) (by omega)
        unfold checkV
        rw [if_neg (by rw [hR]; decide), if_neg (by rw [this]; decide)]
end Go.Proofs.Ytmdhgkfjlphliaa
