import Derived.Test.YtiggnliiigcjaaaDoorM4
import Derived.Test.YtiggnliiigcjaaaDoorS3
/-
  WHO COMES TO WHICH STAIR: step by step; how long and how many at most.
-/
namespace Go.Proofs.YtiggnliiigcjaaaDoor
open Go Go.Am
def comeF (e : Bool) (b : Bdg) (ws : List Wal) (j : Nat) : List Int := comeV e b ws ((j : Int) - 1)
def stF (e : Bool) (b : Bdg) (ws : List Wal) (i j : Nat) : List Int := stateV e b (comeV e b ws) i ((j : Int) - 1)
theorem comeF_snoc {e : Bool} {b : Bdg} {ws : List Wal} {w : Wal} {k : Nat} (h : (chOf b w).st = (k : Int) - 1) : comeF e b (ws ++ [w]) = updF (comeF e b ws) k (comeF e b ws k ++ [takeV e b w]) := by
  funext j
  unfold comeF comeV
  rw [List.filter_append, List.map_append]
  by_cases hj : j = k
  · subst hj
    rw [updF_same]
    congr 1
    simp [h]
  · rw [updF_ne _ _ hj]
    have : ((chOf b w).st == (j : Int) - 1) = false := by rw [beq_eq_false_iff_ne]; omega
    simp [this]
theorem stF_zero (e : Bool) (b : Bdg) (ws : List Wal) : stF e b ws 0 = comeF e b ws := rfl
theorem stF_succ {e : Bool} {b : Bdg} {ws : List Wal} {i k : Nat} {s : Sta} (hs : b.ss[i]? = some s) (hk : s.nx = (k : Int) - 1) :
    stF e b ws (i + 1) = updF (updF (stF e b ws i) (i + 1) []) k (updF (stF e b ws i) (i + 1) [] k ++ leaveV e s (sortV (stF e b ws i (i + 1)))) := by
  have hd : b.ss.getD i default = s := by rw [List.getD_eq_getElem?_getD, hs]; rfl
  have e0 : (((i + 1 : Nat) : Int) - 1) = (i : Int) := by omega
  funext j
  unfold stF
  simp only [stateV, hd]
  rw [e0]
  have a1 : ((j : Int) - 1 = s.nx) ↔ j = k := by omega
  have a2 : ((j : Int) - 1 = (i : Int)) ↔ j = i + 1 := by omega
  by_cases h1 : j = k
  · rw [if_pos (a1.2 h1)]
    subst h1
    rw [updF_same]
    by_cases h2 : j = i + 1
    · rw [if_pos (a2.2 h2), h2, updF_same]
    · rw [if_neg (fun h => h2 (a2.1 h)), updF_ne _ _ h2]
  · rw [if_neg (fun h => h1 (a1.1 h)), updF_ne _ _ h1]
    by_cases h2 : j = i + 1
    · rw [if_pos (a2.2 h2), h2, updF_same]
    · rw [if_neg (fun h => h2 (a2.1 h)), updF_ne _ _ h2]
theorem comesV_eq (e : Bool) (b : Bdg) (ws : List Wal) (i : Nat) : comesV e b ws i = sortV (stF e b ws i (i + 1)) := by
  unfold comesV stF
  rw [show (((i + 1 : Nat) : Int) - 1) = (i : Int) by omega]
theorem leaveG_len (gap walk : Int) : ∀ (l : List Int) (free : Int), (leaveG gap walk free l).length = l.length := by
  intro l
  induction l with
  | nil => intro _; rfl
  | cons t l ih => intro free; simp [leaveG, ih]
theorem leaveG_rng {gap walk M : Int} (hg : 0 ≤ gap ∧ gap ≤ 60) (hw : 0 ≤ walk ∧ walk ≤ 600) : ∀ (l : List Int) (free : Int), 0 ≤ free → (∀ x ∈ l, 0 ≤ x ∧ x ≤ M) → ∀ y ∈ leaveG gap walk free l, 0 ≤ y ∧ y ≤ max M free + 60 * (l.length : Int) + 600 := by
  intro l
  induction l with
  | nil => intro _ _ _ y hy; cases hy
  | cons t l ih =>
    intro free hf hx y hy
    have ht := hx t List.mem_cons_self
    simp only [leaveG, List.mem_cons] at hy
    simp only [List.length_cons]
    rcases hy with rfl | hy
    · omega
    · have := ih (max t free + gap) (by omega) (fun x hx' => hx x (List.mem_cons_of_mem _ hx')) y hy
      omega
/-- What is valid, as facts. -/
structure Vld (b : Bdg) (ws : List Wal) : Prop where
  sl : 1 ≤ b.ss.length ∧ b.ss.length ≤ 6
  cl : 1 ≤ b.cs.length ∧ b.cs.length ≤ 8
  wl : ws.length ≤ 24
  s : ∀ (i : Nat) (s : Sta), b.ss[i]? = some s → ((s.nx = -1 ∨ ((i : Int) + 1 ≤ s.nx ∧ s.nx ≤ (b.ss.length : Int) - 1)) ∧ (0 ≤ s.gap ∧ s.gap ≤ 60) ∧ (0 ≤ s.wLo ∧ s.wLo ≤ s.wHi ∧ s.wHi ≤ 600) ∧ (0 ≤ s.sLo ∧ s.sLo ≤ s.sHi ∧ s.sHi ≤ 36000))
  c : ∀ (i : Nat) (c : Cha), b.cs[i]? = some c → ((0 ≤ c.st ∧ c.st ≤ (b.ss.length : Int) - 1) ∧ (0 ≤ c.way ∧ c.way ≤ 100000) ∧ (0 ≤ c.sLo ∧ c.sLo ≤ c.sHi ∧ c.sHi ≤ 36000))
  w : ∀ w ∈ ws, ((0 ≤ w.ch ∧ w.ch ≤ (b.cs.length : Int) - 1) ∧ (100 ≤ w.pLo ∧ w.pLo ≤ w.pHi ∧ w.pHi ≤ 3000) ∧ (0 ≤ w.tLo ∧ w.tLo ≤ w.tHi ∧ w.tHi ≤ 3600))
theorem spB_iff {a b lo hi : Int} : spB a b lo hi = true ↔ a ≤ lo ∧ lo ≤ hi ∧ hi ≤ b := by
  simp [spB, inB]; omega
theorem vld_of {b : Bdg} {ws : List Wal} (h1 : bdgB b = true) (h2 : walsB b ws = true) : Vld b ws := by
  have hl := bdg_len h1
  unfold bdgB stasB chasB at h1
  unfold walsB at h2
  simp only [Bool.and_eq_true] at h1 h2
  obtain ⟨⟨_, hs⟩, _, hc⟩ := h1
  obtain ⟨hw1, hw2⟩ := h2
  refine ⟨⟨hl.1, hl.2.1⟩, ⟨hl.2.2.1, hl.2.2.2⟩, by simp at hw1; omega, fun i s hi => ?_, fun i c hi => ?_, fun w hw => ?_⟩
  · have := allI_iff.1 hs i s hi
    simp only [staB, nextB, Bool.and_eq_true, Bool.or_eq_true, spB_iff, inB, decide_eq_true_eq, Bool.not_eq_true', bne_eq_false_iff_eq] at this
    exact ⟨this.1, this.2.1, this.2.2.1, this.2.2.2⟩
  · have := List.all_eq_true.1 hc c (List.mem_of_getElem? hi)
    simp only [chaB, Bool.and_eq_true, spB_iff, inB, decide_eq_true_eq] at this
    exact ⟨this.1, this.2.1, this.2.2⟩
  · have := List.all_eq_true.1 hw2 w hw
    simp only [walB, Bool.and_eq_true, spB_iff, inB, decide_eq_true_eq] at this
    exact ⟨this.1, this.2.1, this.2.2⟩
theorem Vld.chm {b : Bdg} {ws : List Wal} (h : Vld b ws) {w : Wal} (hw : w ∈ ws) : b.cs[w.ch.toNat]? = some (chOf b w) := by
  have h1 := (h.w w hw).1
  have hlt : w.ch.toNat < b.cs.length := by omega
  unfold chOf
  rw [List.getD_eq_getElem?_getD, List.getElem?_eq_getElem hlt]; rfl
theorem Vld.take {b : Bdg} {ws : List Wal} (h : Vld b ws) {w : Wal} (hw : w ∈ ws) (e : Bool) : 0 ≤ takeV e b w ∧ takeV e b w ≤ 200000 := by
  have h1 := h.w w hw
  have h2 := h.c _ _ (h.chm hw)
  have hg : 1 ≤ gv e w.pLo w.pHi ∧ gv e w.pLo w.pHi ≤ 3000 := by cases e <;> simp [gv] <;> omega
  have hk : 0 ≤ tk e w.tLo w.tHi ∧ tk e w.tLo w.tHi ≤ 3600 := by cases e <;> simp [tk] <;> omega
  have := cdiv_rng (a := (chOf b w).way) (k := gv e w.pLo w.pHi) (by omega) (by omega)
  unfold takeV
  omega
theorem Vld.st {b : Bdg} {ws : List Wal} (h : Vld b ws) (e : Bool) : ∀ i, i ≤ b.ss.length → ∀ j, (stF e b ws i j).length ≤ 24 * 2 ^ i ∧ ∀ x ∈ stF e b ws i j, 0 ≤ x ∧ x ≤ 200000 + 100000 * (i : Int) := by
  intro i
  induction i with
  | zero =>
    intro _ j
    rw [stF_zero]
    refine ⟨?_, fun x hx => ?_⟩
    · have h1 := List.length_filter_le (fun w => (chOf b w).st == (j : Int) - 1) ws
      have := h.wl
      simp only [comeF, comeV, List.length_map]; omega
    · simp only [comeF, comeV, List.mem_map, List.mem_filter] at hx
      obtain ⟨w, ⟨hw, _⟩, rfl⟩ := hx
      have := h.take hw e
      omega
  | succ i ih =>
    intro hi j
    have ih := ih (by omega)
    obtain ⟨s, hs⟩ : ∃ s, b.ss[i]? = some s := ⟨_, List.getElem?_eq_getElem (by omega)⟩
    have hv := h.s i s hs
    have hk : s.nx = (((s.nx + 1).toNat : Nat) : Int) - 1 := by omega
    have hp : 2 ^ i ≤ 32 := by
      have : i ≤ 5 := by have := h.sl; omega
      exact Nat.le_trans (Nat.pow_le_pow_right (by decide) this) (by decide)
    rw [stF_succ hs hk]
    have hpw : 24 * 2 ^ (i + 1) = 24 * 2 ^ i + 24 * 2 ^ i := by rw [Nat.pow_succ]; omega
    have base : ∀ j, (updF (stF e b ws i) (i + 1) [] j).length ≤ 24 * 2 ^ i ∧ ∀ x ∈ updF (stF e b ws i) (i + 1) [] j, 0 ≤ x ∧ x ≤ 200000 + 100000 * (i : Int) := fun j => by
      by_cases hj : j = i + 1
      · subst hj; rw [updF_same]; exact ⟨Nat.zero_le _, fun x hx => by cases hx⟩
      · rw [updF_ne _ _ hj]; exact ih j
    by_cases hj : j = (s.nx + 1).toNat
    · subst hj
      rw [updF_same]
      have hb := base (s.nx + 1).toNat
      have hc := ih (i + 1)
      refine ⟨?_, fun x hx => ?_⟩
      · rw [List.length_append]
        unfold leaveV
        rw [leaveG_len, len_sortV]; omega
      · rcases List.mem_append.1 hx with hx | hx
        · have := hb.2 x hx; omega
        · have ht : 0 ≤ tk e s.wLo s.wHi ∧ tk e s.wLo s.wHi ≤ 600 := by cases e <;> simp [tk] <;> omega
          have := leaveG_rng (M := 200000 + 100000 * (i : Int)) hv.2.1 ht (sortV (stF e b ws i (i + 1))) 0 (by omega) (fun y hy => hc.2 y ((perm_sortV _).mem_iff.1 hy)) x hx
          rw [len_sortV] at this
          omega
    · rw [updF_ne _ _ hj]
      have hb := base j
      exact ⟨by omega, fun x hx => by have := hb.2 x hx; omega⟩
end Go.Proofs.YtiggnliiigcjaaaDoor
/-
  THOSE WHO COME OUT OF CHAMBERS: one round.
-/
namespace Go.Proofs.YtiggnliiigcjaaaDoor
open Go Go.Am
set_option maxRecDepth 100000
set_option maxHeartbeats 8000000
def stairsCl (e : Bool) (b : Bdg) (ws : List Wal) : AV := .fn (.func 118) [] [.cptr (xC b ws), .cptr (endC e)]
theorem stairs_spec (e : Bool) (b : Bdg) (w : List Wal) : APure Tryd.prog 105 [encX b w, endV e] (stairsCl e b w) := by
  cases e <;> exact APure.vcT Tryd.func105 .nil rfl rfl ⟨[0, 1], by kernel_rfl⟩
structure KsOk (f : Nat → List Int) (ks : List Nat) : Prop where
  nd : ks.Nodup
  lt : ∀ j ∈ ks, j < 7
  em : ∀ j, j < 7 → j ∉ ks → f j = []
theorem KsOk.put {f : Nat → List Int} {ks : List Nat} (h : KsOk f ks) {k : Nat} (hk : k < 7) (x : List Int) : KsOk (updF f k x) (if k ∈ ks then ks else ks ++ [k]) := by
  by_cases hm : k ∈ ks
  · rw [if_pos hm]
    exact ⟨h.nd, h.lt, fun j hj hn => by rw [updF_ne _ _ (fun e => hn (by rw [e]; exact hm))]; exact h.em j hj hn⟩
  · rw [if_neg hm]
    refine ⟨?_, fun j hj => ?_, fun j hj hn => ?_⟩
    · rw [List.nodup_append]
      exact ⟨h.nd, by simp, fun a ha b hb => by simp at hb; subst hb; exact fun e => hm (by rw [← e]; exact ha)⟩
    · rcases List.mem_append.1 hj with hj | hj
      · exact h.lt j hj
      · simp at hj; omega
    · rw [List.mem_append, not_or] at hn
      have : j ≠ k := fun e => hn.2 (by simp [e])
      rw [updF_ne _ _ this]; exact h.em j hj hn.1
theorem KsOk.del {f : Nat → List Int} {ks : List Nat} (h : KsOk f ks) (k : Nat) : KsOk (updF f k []) (ks.erase k) := by
  refine ⟨h.nd.erase k, fun j hj => h.lt j (List.mem_of_mem_erase hj), fun j hj hn => ?_⟩
  by_cases e : j = k
  · subst e; exact updF_same _ _ _
  · rw [updF_ne _ _ e]
    exact h.em j hj fun hm => hn ((List.mem_erase_of_ne e).2 hm)
theorem comeF_zero (e : Bool) (b : Bdg) (ws : List Wal) : (fun _ => []) = comeF e b (ws.take 0) := by funext j; rfl
/-- The body of the first loop. -/
def lpParts : Code → Option Code
  | .loop a => some a
  | .seq a b => (match lpParts a with | some p => some p | none => lpParts b)
  | .cond _ a b => (match lpParts a with | some p => some p | none => lpParts b)
  | .block _ a => lpParts a
  | .scope a => lpParts a
  | _ => none
def lpB (f : Func) : Code := match lpParts (cOf f) with | some p => p | none => .skip
/-- What the walk through people leaves. -/
def IC (e : Bool) (b : Bdg) (ws : List Wal) (q : Nat × (Nat → List Int) × List Nat) : Prop := q.1 ≤ ws.length ∧ q.2.1 = comeF e b (ws.take q.1) ∧ KsOk q.2.1 q.2.2
/-- What is so of one who comes. -/
structure OneW (e : Bool) (b : Bdg) (ws : List Wal) (n : Nat) (f : Nat → List Int) (w : Wal) (c : Cha) (j : Nat) (t : Int) : Prop where
  j7 : j < 7
  key : keyV j = .int .i64 c.st
  sT : APure Tryd.prog 121 [.agg (cWa w), .cptr (endC e), .cptr (xC b ws)] (.int .i64 t)
  hi : 0 ≤ w.ch ∧ (b.cs.map cCh)[w.ch.toNat]? = some (cCh c)
  len : (f j).length ≤ 24
  nx : updF f j (f j ++ [t]) = comeF e b (ws.take (n + 1))
  ek : AV.int .i64 (IntKind.i64.wrap ((n : Int) + 1)) = .int .i64 ((n + 1 : Nat) : Int)
theorem oneW {e : Bool} {b : Bdg} {ws : List Wal} (vd : Vld b ws) {n : Nat} {w : Wal} (hw : ws[n]? = some w) : ∃ c j t, OneW e b ws n (comeF e b (ws.take n)) w c j t := by
  have hwm := List.mem_of_getElem? hw
  have hwv := vd.w w hwm
  have hcg := vd.chm hwm
  have hcv := vd.c _ _ hcg
  have hn : n < ws.length := (List.getElem?_eq_some_iff.1 hw).1
  have hst : (chOf b w).st = (((chOf b w).st + 1).toNat : Int) - 1 := by omega
  refine ⟨chOf b w, ((chOf b w).st + 1).toNat, takeV e b w, ⟨by have := vd.sl; omega, by unfold keyV; rw [← hst], take1_spec e b ws w _ hwv.1.1 hcg hcv.2.1 hwv.2.1 hwv.2.2, ⟨hwv.1.1, by rw [List.getElem?_map, hcg]; rfl⟩, ?_, ?_, congrArg (AV.int .i64) (succ64 (k := n) (by have := vd.wl; omega))⟩⟩
  · have h1 := List.length_filter_le (fun w' => (chOf b w').st == ((((chOf b w).st + 1).toNat : Nat) : Int) - 1) (ws.take n)
    have := vd.wl
    simp only [comeF, comeV, List.length_map]
    rw [List.length_take] at h1
    omega
  · rw [List.take_add_one, hw]; exact (comeF_snoc hst).symm
/-- A key's slice, in the map or not. -/
structure OneP (h : Nat → Option AObj) (f : Nat → List Int) (ks : List Nat) (j : Nat) (cst t : Int) (nid bid : Nat) (y : AV) (ups : List (Nat × Option AObj)) (ks' : List Nat) : Prop where
  lk : (aLookup Tryd.prog h 163 (.mref 7) (.int .i64 cst) false).map (fun v => (⟨v, []⟩ : Out)) = some ⟨y, []⟩
  ap : aAppend Tryd.prog (hget [(8, .cells (iL (f j))), (bid, .cells [.int .i64 t])]) nid 60 60 y (.rsl bid 0 1 1) = some ⟨.rsl nid 0 (f j ++ [t]).length 1, ups⟩
  pv : aMapUpdate Tryd.prog h 163 (.mref 7) (.int .i64 cst) (.rsl nid 0 (f j ++ [t]).length 1) = some ⟨.undef, [(7, some (.map (entV (updF (vC 8 f) j (.rsl nid 0 (f j ++ [t]).length 1)) ks')))]⟩
  ok : KsOk (updF f j (f j ++ [t])) ks'
  okm : okE (nid + 1) (entV (updF (vC 8 f) j (.rsl nid 0 (f j ++ [t]).length 1)) ks') = true
theorem oneP {h : Nat → Option AObj} {f : Nat → List Int} {ks : List Nat} (hk : KsOk f ks) {j : Nat} (j7 : j < 7) {cst t : Int} (key : keyV j = .int .i64 cst) {nid bid : Nat} (hb : bid ≠ 8) (hn : 16 ≤ nid) (hl : (f j).length ≤ 1000) (h0 : h 7 = some (.map (entV (updF (vC 8 f) j (.rsl 8 0 (f j).length 1)) ks))) :
    (j ∈ ks → OneP h f ks j cst t nid bid (.rsl 8 0 (f j).length 1) [(8, none), (nid, some (.cells (iL (f j ++ [t]))))] ks) ∧ (j ∉ ks → OneP h f ks j cst t nid bid .nil [(nid, some (.cells (iL (f j ++ [t]))))] (ks ++ [j])) := by
  have lk := lookV (k := j) h0
  have pv := putV (k := j) (x := .rsl nid 0 (f j ++ [t]).length 1) h0 hk.nd
  rw [key] at lk pv
  rw [updF_updF] at pv
  have hbg : hget [(8, .cells (iL (f j))), (bid, .cells [.int .i64 t])] bid = some (.cells [.int .i64 t]) := by simp only [hget]; rw [if_neg (fun e => hb e.symm), if_pos trivial]
  have kq := hk.put j7 (f j ++ [t])
  have okm : ∀ ks' : List Nat, (∀ i ∈ ks', i < 7) → okE (nid + 1) (entV (updF (vC 8 f) j (.rsl nid 0 (f j ++ [t]).length 1)) ks') = true := fun ks' hks' => okE_entV (vC_ok hks' (by omega) (by show decide (nid < nid + 1) = true; exact decide_eq_true (by omega)))
  refine ⟨fun hm => ?_, fun hm => ?_⟩
  · rw [if_pos hm, updF_same] at lk
    rw [if_pos hm] at pv kq
    have ap := app_one (h := hget [(8, .cells (iL (f j))), (bid, .cells [.int .i64 t])]) (i := 8) (j := bid) (nid := nid) (l := f j) (x := t) rfl hbg (by omega)
    have el : (f j ++ [t]).length = (f j).length + 1 := by simp
    rw [← el] at ap
    exact ⟨by rw [lk]; rfl, ap, pv, kq, okm _ hk.lt⟩
  · rw [if_neg hm] at lk pv kq
    have ap := app_nil1 (h := hget [(8, .cells (iL (f j))), (bid, .cells [.int .i64 t])]) (j := bid) (nid := nid) (x := t) hbg
    have hfe : f j = [] := hk.em j j7 hm
    refine ⟨by rw [lk]; rfl, ?_, pv, kq, okm _ kq.lt⟩
    rw [hfe] at ap ⊢
    exact ap
def bA (o1 : AObj) (o2 : AObj) (o3 : AObj) (o4 : AObj) (b : Bdg) (ws : List Wal) : AHeap := [(0, .cells (xC b ws)), (1, o1), (2, o2), (3, o3), (4, o4), (5, .cells (xC b ws))]
def cA (o1 : AObj) (o2 : AObj) (o3 : AObj) (o4 : AObj) (e : Bool) (b : Bdg) (ws : List Wal) (q : Nat × (Nat → List Int) × List Nat) : St :=
  ⟨[(2, .vptr 5 0), (5, .mref 7), (6, takeCl e b ws), (15, encW ws), (16, .int .i64 (ws.map cWa).length), (17, .int .i64 q.1)], canH 8 7 (bA o1 o2 o3 o4 b ws) q.2.1 q.2.2, 16⟩
theorem comeA (o1 : AObj) (o2 : AObj) (o3 : AObj) (o4 : AObj) (ok1 : okO 8 o1 = true) (ok1' : okO 28 o1 = true) (ok2 : okO 8 o2 = true) (ok2' : okO 28 o2 = true) (ok3 : okO 8 o3 = true) (ok3' : okO 28 o3 = true) (ok4 : okO 8 o4 = true) (ok4' : okO 28 o4 = true) {g : G} {Q : AX → St → Prop} (hQ : EClosed Q) (hn : g.n = 41) (hlo : g.low 5) (e : Bool) (b : Bdg) (ws : List Wal) (vd : Vld b ws) (n : Nat) (f : Nat → List Int) (ks : List Nat) (hI : IC e b ws (n, f, ks)) (hlt : n < ws.length) :
    ACode Tryd.prog none g (lpB Tryd.f119) (AX.then (RoundW g (cA o1 o2 o3 o4 e b ws) (IC e b ws) (fun q => ws.length - q.1) (n, f, ks)) Q) (cA o1 o2 o3 o4 e b ws (n, f, ks)) := by
  refine Exists.elim (getE hlt) fun w hw => ?_
  refine Exists.elim (oneW (e := e) vd hw) fun c h => Exists.elim h fun j h => Exists.elim h fun t h1 => ?_
  have i2 : f = comeF e b (ws.take n) := hI.2.1
  have i3 : KsOk f ks := hI.2.2
  rw [← i2] at h1
  have h0 : okO 8 (.cells (xC b ws)) = true := rfl
  have hbas : basOk 8 7 (bA o1 o2 o3 o4 b ws) = true := by
    simp only [basOk, bA, List.all_cons, List.all_nil, h0, ok1, ok2, ok3, ok4]
    rfl
  have hP := oneP (h := hget (pulH 8 7 (bA o1 o2 o3 o4 b ws) f ks j)) (t := t) (nid := 27) (bid := 26) i3 h1.j7 h1.key (by decide) (by decide) (by have := h1.len; omega) (by kernel_rfl)
  refine ACode.wk (Wk.pull (c := 8) (M := 7) (B := bA o1 o2 o3 o4 b ws) (f := f) (ks := ks) (k := j) (by kernel_rfl) hbas (by decide) h1.j7 i3.lt (hlo.mono (by decide))) ?_
  by_cases hm : j ∈ ks
  · have h2 := hP.1 hm
    exact ACode.vcM (.br 18 true <| .cells (cWa w) <| .cells (cCh c) <| .draw 10 <| .val 33 (.rsl 8 0 (f j).length 1) [] <| .call (.int .i64 t) <| .val 38 (.rsl 27 0 (f j ++ [t]).length 1) [(8, none), (27, some (.cells (iL (f j ++ [t]))))] <| .val 0 .undef [(7, some (.map (entV (updF (vC 8 f) j (.rsl 27 0 (f j ++ [t]).length 1)) ks)))] .nil) hn hlo (.roundW hQ)
      ⟨ltLen hlt, idx hw, h1.hi, by kernel_rfl, mixed, by kernel_rfl, Eq.trans (by kernel_rfl) h2.lk, h1.sT, Eq.trans (by kernel_rfl) h2.ap, by kernel_rfl, Eq.trans (by kernel_rfl) h2.pv, (n + 1, updF f j (f j ++ [t]), ks), ⟨hlt, h1.nx, h2.ok⟩, mu1 hlt,
        Wk.trans (Wk.push (c := 8) (M := 7) (B := bA o1 o2 o3 o4 b ws) (f := f) (ks := ks) (k := j) (x := f j ++ [t]) (nid := 27) (by kernel_rfl) hbas (by decide) h1.j7 h2.ok.lt (by decide) (hlo.mono (by decide))) (Wk.le (St.le.of ⟨by kernel_rfl, rfl, by kernel_rfl, rfl, by kernel_rfl, rfl, by kernel_rfl, rfl, by kernel_rfl, rfl, Eq.trans (by kernel_rfl) h1.ek, rfl, trivial⟩ ⟨by kernel_rfl, (by decide : (0 : Nat) < 28), rfl, by kernel_rfl, (by decide : (1 : Nat) < 28), ok1', by kernel_rfl, (by decide : (2 : Nat) < 28), ok2', by kernel_rfl, (by decide : (3 : Nat) < 28), ok3', by kernel_rfl, (by decide : (4 : Nat) < 28), ok4', by kernel_rfl, (by decide : (5 : Nat) < 28), rfl, by kernel_rfl, (by decide : (7 : Nat) < 28), h2.okm, by kernel_rfl, (by decide : (27 : Nat) < 28), iL_ok _ _, by kernel_rfl, (by decide : (9 : Nat) < 28), iL_ok _ _, by kernel_rfl, (by decide : (10 : Nat) < 28), iL_ok _ _, by kernel_rfl, (by decide : (11 : Nat) < 28), iL_ok _ _, by kernel_rfl, (by decide : (12 : Nat) < 28), iL_ok _ _, by kernel_rfl, (by decide : (13 : Nat) < 28), iL_ok _ _, by kernel_rfl, (by decide : (14 : Nat) < 28), iL_ok _ _, by kernel_rfl, (by decide : (15 : Nat) < 28), iL_ok _ _, trivial⟩) (hlo.mono (show 5 ≤ 28 by decide)))⟩
  · have h2 := hP.2 hm
    exact ACode.vcM (.br 18 true <| .cells (cWa w) <| .cells (cCh c) <| .draw 10 <| .val 33 (.nil) [] <| .call (.int .i64 t) <| .val 38 (.rsl 27 0 (f j ++ [t]).length 1) [(27, some (.cells (iL (f j ++ [t]))))] <| .val 0 .undef [(7, some (.map (entV (updF (vC 8 f) j (.rsl 27 0 (f j ++ [t]).length 1)) (ks ++ [j]))))] .nil) hn hlo (.roundW hQ)
      ⟨ltLen hlt, idx hw, h1.hi, by kernel_rfl, mixed, by kernel_rfl, Eq.trans (by kernel_rfl) h2.lk, h1.sT, Eq.trans (by kernel_rfl) h2.ap, by kernel_rfl, Eq.trans (by kernel_rfl) h2.pv, (n + 1, updF f j (f j ++ [t]), (ks ++ [j])), ⟨hlt, h1.nx, h2.ok⟩, mu1 hlt,
        Wk.trans (Wk.push (c := 8) (M := 7) (B := bA o1 o2 o3 o4 b ws) (f := f) (ks := (ks ++ [j])) (k := j) (x := f j ++ [t]) (nid := 27) (by kernel_rfl) hbas (by decide) h1.j7 h2.ok.lt (by decide) (hlo.mono (by decide))) (Wk.le (St.le.of ⟨by kernel_rfl, rfl, by kernel_rfl, rfl, by kernel_rfl, rfl, by kernel_rfl, rfl, by kernel_rfl, rfl, Eq.trans (by kernel_rfl) h1.ek, rfl, trivial⟩ ⟨by kernel_rfl, (by decide : (0 : Nat) < 28), rfl, by kernel_rfl, (by decide : (1 : Nat) < 28), ok1', by kernel_rfl, (by decide : (2 : Nat) < 28), ok2', by kernel_rfl, (by decide : (3 : Nat) < 28), ok3', by kernel_rfl, (by decide : (4 : Nat) < 28), ok4', by kernel_rfl, (by decide : (5 : Nat) < 28), rfl, by kernel_rfl, (by decide : (7 : Nat) < 28), h2.okm, by kernel_rfl, (by decide : (27 : Nat) < 28), iL_ok _ _, by kernel_rfl, (by decide : (9 : Nat) < 28), iL_ok _ _, by kernel_rfl, (by decide : (10 : Nat) < 28), iL_ok _ _, by kernel_rfl, (by decide : (11 : Nat) < 28), iL_ok _ _, by kernel_rfl, (by decide : (12 : Nat) < 28), iL_ok _ _, by kernel_rfl, (by decide : (13 : Nat) < 28), iL_ok _ _, by kernel_rfl, (by decide : (14 : Nat) < 28), iL_ok _ _, by kernel_rfl, (by decide : (15 : Nat) < 28), iL_ok _ _, trivial⟩) (hlo.mono (show 5 ≤ 28 by decide)))⟩
end Go.Proofs.YtiggnliiigcjaaaDoor
/-
  FROM STAIR TO STAIR: one round; when those leave who come to one stair.
-/
namespace Go.Proofs.YtiggnliiigcjaaaDoor
open Go Go.Am
set_option maxRecDepth 100000
set_option maxHeartbeats 8000000
/-- What the walk through stairs leaves. -/
def IS (e : Bool) (b : Bdg) (ws : List Wal) (q : Nat × (Nat → List Int) × List Nat) : Prop := q.1 ≤ b.ss.length ∧ q.2.1 = stF e b ws q.1 ∧ KsOk q.2.1 q.2.2
/-- What is so of a stair. -/
structure OneS (e : Bool) (b : Bdg) (ws : List Wal) (n : Nat) (f : Nat → List Int) (s : Sta) (k2 : Nat) (come L : List Int) : Prop where
  k27 : k2 < 7
  ne : n + 1 ≠ k2
  key1 : keyV (n + 1) = .int .i64 (n : Int)
  key2 : keyV k2 = .int .i64 s.nx
  eC : come = sortV (f (n + 1))
  eL : L = leaveV e s come
  sI : APure Tryd.prog 120 [encR (f (n + 1))] (encR come)
  sF : APureF Tryd.prog 120 [encR (f (n + 1))] (encR come)
  sL : APure Tryd.prog 106 [encX b ws, .int .i64 n, encR come, endV e] (encR L)
  len : (f k2).length + L.length ≤ 100000
  nx : updF (updF f (n + 1) []) k2 (f k2 ++ L) = stF e b ws (n + 1)
  ek : AV.int .i64 (IntKind.i64.wrap ((n : Int) + 1)) = .int .i64 ((n + 1 : Nat) : Int)
theorem oneS {e : Bool} {b : Bdg} {ws : List Wal} (vd : Vld b ws) {n : Nat} {s : Sta} (hs : b.ss[n]? = some s) : ∃ k2 come L, OneS e b ws n (stF e b ws n) s k2 come L := by
  have hn : n < b.ss.length := (List.getElem?_eq_some_iff.1 hs).1
  have hv := vd.s n s hs
  have hsl := vd.sl
  have hk : s.nx = (((s.nx + 1).toNat : Nat) : Int) - 1 := by omega
  have hst := vd.st e n (by omega)
  have hp : 2 ^ n ≤ 32 := Nat.le_trans (Nat.pow_le_pow_right (by decide) (by omega : n ≤ 5)) (by decide)
  have h1 := hst (n + 1)
  have h2 := hst (s.nx + 1).toNat
  have hcl : (sortV (stF e b ws n (n + 1))).length ≤ 1000 := by rw [len_sortV]; omega
  have hcm : ∀ x ∈ sortV (stF e b ws n (n + 1)), 0 ≤ x ∧ x ≤ 1000000000 := fun x hx => by
    have := h1.2 x ((perm_sortV _).mem_iff.1 hx); omega
  have hL : (leaveV e s (sortV (stF e b ws n (n + 1)))).length = (stF e b ws n (n + 1)).length := by unfold leaveV; rw [leaveG_len, len_sortV]
  have ne : n + 1 ≠ (s.nx + 1).toNat := by omega
  refine ⟨(s.nx + 1).toNat, _, _, ⟨by omega, ne, ?_, by unfold keyV; rw [← hk], rfl, rfl, inOrder_spec _ (by omega), inOrderF_spec _ (by omega), leaving_spec e b ws n s _ hs hv.2.1 hv.2.2.1 hcl hcm, by rw [hL]; omega, ?_, congrArg (AV.int .i64) (succ64 (k := n) (by omega))⟩⟩
  · unfold keyV; congr 1; omega
  · have := stF_succ (e := e) (b := b) (ws := ws) hs hk
    rw [this, updF_ne _ _ (Ne.symm ne)]
/-- The slice of the key that is taken out. -/
theorem look1 {B : AHeap} {f : Nat → List Int} {ks : List Nat} {k1 k2 : Nat} {i : Int} (hB : basOk 8 7 B = true) (key : keyV k1 = .int .i64 i) (ne : k1 ≠ k2) (h7 : k1 < 7) :
    (k1 ∈ ks → (aLookup Tryd.prog (hget (pulH 8 7 B f ks k2)) 163 (.mref 7) (.int .i64 i) false).map (fun v => (⟨v, []⟩ : Out)) = some ⟨.rsl (8 + 1 + k1) 0 (f k1).length 1, []⟩) ∧
    (k1 ∉ ks → (aLookup Tryd.prog (hget (pulH 8 7 B f ks k2)) 163 (.mref 7) (.int .i64 i) false).map (fun v => (⟨v, []⟩ : Out)) = some ⟨.nil, []⟩) ∧
    thawL (hget (pulH 8 7 B f ks k2)) [.rsl (8 + 1 + k1) 0 (f k1).length 1] = some ([encR (f k1)], [8 + 1 + k1]) := by
  have hb7 : hget B 7 = none := by
    cases hb : hget B 7 with
    | none => rfl
    | some o' => exact absurd rfl (basOk_look hB hb).2.1
  have hbk : hget B (8 + 1 + k1) = none := by
    cases hb : hget B (8 + 1 + k1) with
    | none => rfl
    | some o' => have := (basOk_look hB hb).1; omega
  have h0 : hget (pulH 8 7 B f ks k2) 7 = some (.map (entV (updF (vC 8 f) k2 (.rsl 8 0 (f k2).length 1)) ks)) := by
    unfold pulH; rw [hget_app, hb7]; rfl
  have hk : hget (pulH 8 7 B f ks k2) (8 + 1 + k1) = some (.cells (iL (f k1))) := by
    unfold pulH; rw [hget_app, hbk]
    simp only [hget]
    rw [if_neg (by omega), if_neg (by omega), hget_slots, if_pos (by omega), Nat.add_sub_cancel_left, updF_ne _ _ ne]
  have lk := lookV (k := k1) h0
  rw [key, updF_ne _ _ ne] at lk
  refine ⟨fun hm => by rw [lk, if_pos hm]; rfl, fun hm => by rw [lk, if_neg hm]; rfl, ?_⟩
  have ht := thaw_fl (enc := encI) (n := 1) 6 (id := 8 + 1 + k1) (l := f k1) (fun _ => rfl) (fun _ => rfl) hk
  simp only [thawL, mapO]
  rw [ht]
  rfl
/-- The slice that is made anew. -/
structure TwoQ (h : Nat → Option AObj) (f : Nat → List Int) (ks : List Nat) (j : Nat) (cst : Int) (L : List Int) (nid : Nat) (y z : AV) (ups : List (Nat × Option AObj)) (ks' : List Nat) : Prop where
  lk : (aLookup Tryd.prog h 163 (.mref 7) (.int .i64 cst) false).map (fun v => (⟨v, []⟩ : Out)) = some ⟨y, []⟩
  ap : aAppend Tryd.prog (hget [(8, .cells (iL (f j)))]) nid 60 60 y (encR L) = some ⟨z, ups⟩
  pv : aMapUpdate Tryd.prog h 163 (.mref 7) (.int .i64 cst) z = some ⟨.undef, [(7, some (.map (entV (updF (vC 8 f) j z) ks')))]⟩
  okm : okE (nid + 1) (entV (updF (vC 8 f) j z) ks') = true
  lt : ∀ j ∈ ks', j < 7
theorem twoP {h : Nat → Option AObj} {f : Nat → List Int} {ks : List Nat} (hnd : ks.Nodup) (hlt : ∀ j ∈ ks, j < 7) {j : Nat} (j7 : j < 7) (hem : j ∉ ks → f j = []) {cst : Int} {L : List Int} (key : keyV j = .int .i64 cst) {nid : Nat} (hn : 16 ≤ nid) (hl : (f j).length + L.length ≤ 100000) (h0 : h 7 = some (.map (entV (updF (vC 8 f) j (.rsl 8 0 (f j).length 1)) ks))) :
    (j ∈ ks → TwoQ h f ks j cst L nid (.rsl 8 0 (f j).length 1) (.rsl nid 0 (f j ++ L).length 1) [(8, none), (nid, some (.cells (iL (f j ++ L))))] ks) ∧
    (j ∉ ks → L ≠ [] → TwoQ h f ks j cst L nid .nil (.rsl nid 0 (f j ++ L).length 1) [(nid, some (.cells (iL (f j ++ L))))] (ks ++ [j])) ∧
    (j ∉ ks → L = [] → TwoQ h f ks j cst L nid .nil .nil [] (ks ++ [j])) := by
  have lk := lookV (k := j) h0
  have pv := fun x => putV (k := j) (x := x) h0 hnd
  rw [key] at lk
  simp only [key, updF_updF] at pv
  have hlt' : ∀ i ∈ ks ++ [j], i < 7 := fun i hi => by
    rcases List.mem_append.1 hi with hi | hi
    · exact hlt i hi
    · simp at hi; omega
  have oki : (AV.rsl nid 0 (f j ++ L).length 1).ok (nid + 1) = true := by show decide (nid < nid + 1) = true; exact decide_eq_true (by omega)
  refine ⟨fun hm => ?_, fun hm hL => ?_, fun hm hL => ?_⟩
  · rw [if_pos hm, updF_same] at lk
    have pv := pv (.rsl nid 0 (f j ++ L).length 1)
    rw [if_pos hm] at pv
    exact ⟨by rw [lk]; rfl, app_lst rfl hl, pv, okE_entV (vC_ok hlt (by omega) oki), hlt⟩
  · rw [if_neg hm] at lk
    have pv := pv (.rsl nid 0 (f j ++ L).length 1)
    rw [if_neg hm] at pv
    refine ⟨by rw [lk]; rfl, ?_, pv, okE_entV (vC_ok hlt' (by omega) oki), hlt'⟩
    rw [hem hm]
    exact app_nilL hL (by omega)
  · rw [if_neg hm] at lk
    have pv := pv .nil
    rw [if_neg hm] at pv
    refine ⟨by rw [lk]; rfl, ?_, pv, okE_entV (vC_ok hlt' (by omega) rfl), hlt'⟩
    rw [hL]; kernel_rfl
end Go.Proofs.YtiggnliiigcjaaaDoor
/-
  WHEN THOSE LEAVE WHO COME TO ONE STAIR.
-/
namespace Go.Proofs.YtiggnliiigcjaaaDoor
open Go Go.Am
set_option maxRecDepth 100000
set_option maxHeartbeats 8000000
noncomputable def asgLA : Code := rfA Tryd.f83
noncomputable def bodLA : Code := rfB Tryd.f83
noncomputable def LA (st : LoopState) (pd : Option Code) : ALoop := ⟨st, pd, 24, [(3, .vptr 0 0), (4, .vptr 1 0), (5, .vptr 2 0), (7, .vptr 3 0)], #[13, 14], asgLA, bodLA⟩
noncomputable def bA1 (e : Bool) (b : Bdg) (ws : List Wal) (k : Nat) : AHeap := [(0, .cells (xC b ws)), (1, .cells [.int .i64 k]), (2, .cells (endC e)), (3, .cells [.nil]), (4, .loop (LA .ready none))]
noncomputable def sA (e : Bool) (b : Bdg) (ws : List Wal) (k : Nat) (q : Nat × (Nat → List Int) × List Nat) : St :=
  ⟨[(0, .yld 4), (1, .cptr (xC b ws)), (2, .cptr (endC e)), (4, .mref 7), (14, .int .i64 (b.ss.map cSt).length), (15, .int .i64 q.1)], canH 8 7 (bA1 e b ws k) q.2.1 q.2.2, 16⟩
def ISk (e : Bool) (b : Bdg) (ws : List Wal) (k : Nat) (q : Nat × (Nat → List Int) × List Nat) : Prop := q.1 ≤ k ∧ IS e b ws q
theorem roundA {g : G} {Q : AX → St → Prop} (hQ : EClosed Q) (hn : g.n = 48) (hlo : g.low 5) (e : Bool) (b : Bdg) (ws : List Wal) (vd : Vld b ws) (k : Nat) (hkl : k < b.ss.length) (n : Nat) (f : Nat → List Int) (ks : List Nat) (hI : ISk e b ws k (n, f, ks)) (hlt : n < k) :
    ACode Tryd.prog none g (lpB Tryd.f118) (AX.then (RoundW g (sA e b ws k) (ISk e b ws k) (fun q => k - q.1) (n, f, ks)) Q) (sA e b ws k (n, f, ks)) := by
  have hnl : n < b.ss.length := by omega
  refine Exists.elim (getE hnl) fun s hs => ?_
  refine Exists.elim (oneS (e := e) (ws := ws) vd hs) fun k2 h => Exists.elim h fun come h => Exists.elim h fun L h1 => ?_
  have i2 : f = stF e b ws n := hI.2.2.1
  have i3 : KsOk f ks := hI.2.2.2
  rw [← i2] at h1
  have hbas : basOk 8 7 (bA1 e b ws k) = true := by kernel_rfl
  have hsl := vd.sl
  have hL1 := look1 (f := f) (ks := ks) (k2 := k2) hbas h1.key1 h1.ne (by omega)
  have hdel := delV (h := hget (pulH 8 7 (bA1 e b ws k) f ks k2)) (i := 7) (v := updF (vC 8 f) k2 (.rsl 8 0 (f k2).length 1)) (ks := ks) (k := n + 1) (by kernel_rfl) i3.nd
  rw [h1.key1] at hdel
  have hdk := i3.del (n + 1)
  have hP := twoP (h := hget (pulH 8 7 (bA1 e b ws k) f (ks.erase (n + 1)) k2)) (f := f) (ks := ks.erase (n + 1)) (L := L) (nid := 27) hdk.nd hdk.lt h1.k27 (fun hm => i3.em k2 h1.k27 fun hk => hm ((List.mem_erase_of_ne (Ne.symm h1.ne)).2 hk)) h1.key2 (by decide) h1.len (by kernel_rfl)
  have hput := hdk.put h1.k27 (f k2 ++ L)
  have hne : (n + 1) ∉ ks.erase (n + 1) := fun h => absurd h (i3.nd.not_mem_erase)
  have hne2 : (n + 1) ∉ ks.erase (n + 1) ++ [k2] := fun h => by
    rcases List.mem_append.1 h with h | h
    · exact hne h
    · simp at h; exact h1.ne h
  have c17 : ((n : Int) == (k : Int)) = false := by rw [beq_eq_false_iff_ne]; omega
  have sN : f (n + 1) = [] → APure Tryd.prog 120 [.nil] (encR come) := fun h => APure.nilArg (e := 1) (by have := h1.sI; rw [h] at this; exact this)
  refine ACode.wk (Wk.pull (c := 8) (M := 7) (B := bA1 e b ws k) (f := f) (ks := ks) (k := k2) (by kernel_rfl) hbas (by decide) h1.k27 i3.lt (hlo.mono (by decide))) ?_
  by_cases hm1 : (n + 1) ∈ ks
  · skip
    by_cases hm2 : k2 ∈ ks.erase (n + 1)
    · skip
      have h2 := hP.1 hm2
      have hp := hput
      have hnx := h1.nx
      rw [if_pos hm2] at hp
      exact ACode.vcM (.br 16 true <| .val 20 (.rsl (8 + 1 + (n + 1)) 0 (f (n + 1)).length 1) [] <| .lent (encR come) [8 + 1 + (n + 1)] <| .val 0 .undef [(7, some (.map (entV (updF (vC 8 f) k2 (.rsl 8 0 (f k2).length 1)) (ks.erase (n + 1)))))] <| .br 17 false <| .cells (cSt s) <| .draw 11 <| .val 40 (.rsl 8 0 (f k2).length 1) [] <| .call (encR L) <| .val 46 (.rsl 27 0 (f k2 ++ L).length 1) [(8, none), (27, some (.cells (iL (f k2 ++ L))))] <| .val 0 .undef [(7, some (.map (entV (updF (vC 8 f) k2 (.rsl 27 0 (f k2 ++ L).length 1)) (ks.erase (n + 1)))))] .nil) hn hlo (.roundW hQ)
        ⟨ltLen hnl, Eq.trans (by kernel_rfl) (hL1.1 hm1), ⟨_, Eq.trans (by kernel_rfl) hL1.2.2, .inr h1.sF⟩, Eq.trans (by kernel_rfl) hdel, c17, idx hs, by kernel_rfl, mixed, by kernel_rfl, Eq.trans (by kernel_rfl) h2.lk, h1.sL, Eq.trans (by kernel_rfl) h2.ap, by kernel_rfl, Eq.trans (by kernel_rfl) h2.pv, (n + 1, updF (updF f (n + 1) []) k2 (f k2 ++ L), (ks.erase (n + 1))), ⟨(by show n + 1 ≤ k; omega), (by show n + 1 ≤ b.ss.length; omega), hnx, hp⟩, (by show k - (n + 1) < k - n; omega),
          Wk.trans (Wk.push2 (c := 8) (M := 7) (B := bA1 e b ws k) (f := f) (ks := ks.erase (n + 1)) (k := k2) (k1 := n + 1) (x := f k2 ++ L) (nid := 27) (by kernel_rfl) hbas (by decide) h1.k27 hdk.lt hne h1.ne (by decide) (hlo.mono (by decide))) (Wk.le (St.le.of ⟨by kernel_rfl, rfl, by kernel_rfl, rfl, by kernel_rfl, rfl, by kernel_rfl, rfl, by kernel_rfl, rfl, Eq.trans (by kernel_rfl) h1.ek, rfl, trivial⟩ ⟨by kernel_rfl, (by decide : (0 : Nat) < 28), rfl, by kernel_rfl, (by decide : (1 : Nat) < 28), rfl, by kernel_rfl, (by decide : (2 : Nat) < 28), rfl, by kernel_rfl, (by decide : (3 : Nat) < 28), rfl, by kernel_rfl, (by decide : (4 : Nat) < 28), rfl, by kernel_rfl, (by decide : (7 : Nat) < 28), h2.okm, by kernel_rfl, (by decide : (27 : Nat) < 28), iL_ok _ _, by kernel_rfl, (by decide : (9 : Nat) < 28), iL_ok _ _, by kernel_rfl, (by decide : (10 : Nat) < 28), iL_ok _ _, by kernel_rfl, (by decide : (11 : Nat) < 28), iL_ok _ _, by kernel_rfl, (by decide : (12 : Nat) < 28), iL_ok _ _, by kernel_rfl, (by decide : (13 : Nat) < 28), iL_ok _ _, by kernel_rfl, (by decide : (14 : Nat) < 28), iL_ok _ _, by kernel_rfl, (by decide : (15 : Nat) < 28), iL_ok _ _, trivial⟩) (hlo.mono (show 5 ≤ 28 by decide)))⟩
    · by_cases hLe : L = []
      · have hx : f k2 ++ L = [] := by rw [hLe, i3.em k2 h1.k27 fun hk => hm2 ((List.mem_erase_of_ne (Ne.symm h1.ne)).2 hk)]; rfl
        have h2 := hP.2.2 hm2 hLe
        have hp := hput
        have hnx := h1.nx
        rw [if_neg hm2, hx] at hp
        rw [hx] at hnx
        exact ACode.vcM (.br 16 true <| .val 20 (.rsl (8 + 1 + (n + 1)) 0 (f (n + 1)).length 1) [] <| .lent (encR come) [8 + 1 + (n + 1)] <| .val 0 .undef [(7, some (.map (entV (updF (vC 8 f) k2 (.rsl 8 0 (f k2).length 1)) (ks.erase (n + 1)))))] <| .br 17 false <| .cells (cSt s) <| .draw 11 <| .val 40 (.nil) [] <| .call (encR L) <| .val 46 (.nil) [] <| .val 0 .undef [(7, some (.map (entV (updF (vC 8 f) k2 (.nil)) (ks.erase (n + 1) ++ [k2]))))] .nil) hn hlo (.roundW hQ)
          ⟨ltLen hnl, Eq.trans (by kernel_rfl) (hL1.1 hm1), ⟨_, Eq.trans (by kernel_rfl) hL1.2.2, .inr h1.sF⟩, Eq.trans (by kernel_rfl) hdel, c17, idx hs, by kernel_rfl, mixed, by kernel_rfl, Eq.trans (by kernel_rfl) h2.lk, h1.sL, Eq.trans (by kernel_rfl) h2.ap, by kernel_rfl, Eq.trans (by kernel_rfl) h2.pv, (n + 1, updF (updF f (n + 1) []) k2 [], (ks.erase (n + 1) ++ [k2])), ⟨(by show n + 1 ≤ k; omega), (by show n + 1 ≤ b.ss.length; omega), hnx, hp⟩, (by show k - (n + 1) < k - n; omega),
            Wk.trans (Wk.push2N (c := 8) (M := 7) (B := bA1 e b ws k) (f := f) (ks := ks.erase (n + 1) ++ [k2]) (k := k2) (k1 := n + 1) (n := 28) (by kernel_rfl) hbas (by decide) h1.k27 hp.lt hne2 h1.ne (hlo.mono (by decide))) (Wk.le (St.le.of ⟨by kernel_rfl, rfl, by kernel_rfl, rfl, by kernel_rfl, rfl, by kernel_rfl, rfl, by kernel_rfl, rfl, Eq.trans (by kernel_rfl) h1.ek, rfl, trivial⟩ ⟨by kernel_rfl, (by decide : (0 : Nat) < 28), rfl, by kernel_rfl, (by decide : (1 : Nat) < 28), rfl, by kernel_rfl, (by decide : (2 : Nat) < 28), rfl, by kernel_rfl, (by decide : (3 : Nat) < 28), rfl, by kernel_rfl, (by decide : (4 : Nat) < 28), rfl, by kernel_rfl, (by decide : (7 : Nat) < 28), h2.okm, by kernel_rfl, (by decide : (9 : Nat) < 28), iL_ok _ _, by kernel_rfl, (by decide : (10 : Nat) < 28), iL_ok _ _, by kernel_rfl, (by decide : (11 : Nat) < 28), iL_ok _ _, by kernel_rfl, (by decide : (12 : Nat) < 28), iL_ok _ _, by kernel_rfl, (by decide : (13 : Nat) < 28), iL_ok _ _, by kernel_rfl, (by decide : (14 : Nat) < 28), iL_ok _ _, by kernel_rfl, (by decide : (15 : Nat) < 28), iL_ok _ _, trivial⟩) (hlo.mono (show 5 ≤ 28 by decide)))⟩
      · skip
        have h2 := hP.2.1 hm2 hLe
        have hp := hput
        have hnx := h1.nx
        rw [if_neg hm2] at hp
        exact ACode.vcM (.br 16 true <| .val 20 (.rsl (8 + 1 + (n + 1)) 0 (f (n + 1)).length 1) [] <| .lent (encR come) [8 + 1 + (n + 1)] <| .val 0 .undef [(7, some (.map (entV (updF (vC 8 f) k2 (.rsl 8 0 (f k2).length 1)) (ks.erase (n + 1)))))] <| .br 17 false <| .cells (cSt s) <| .draw 11 <| .val 40 (.nil) [] <| .call (encR L) <| .val 46 (.rsl 27 0 (f k2 ++ L).length 1) [(27, some (.cells (iL (f k2 ++ L))))] <| .val 0 .undef [(7, some (.map (entV (updF (vC 8 f) k2 (.rsl 27 0 (f k2 ++ L).length 1)) (ks.erase (n + 1) ++ [k2]))))] .nil) hn hlo (.roundW hQ)
          ⟨ltLen hnl, Eq.trans (by kernel_rfl) (hL1.1 hm1), ⟨_, Eq.trans (by kernel_rfl) hL1.2.2, .inr h1.sF⟩, Eq.trans (by kernel_rfl) hdel, c17, idx hs, by kernel_rfl, mixed, by kernel_rfl, Eq.trans (by kernel_rfl) h2.lk, h1.sL, Eq.trans (by kernel_rfl) h2.ap, by kernel_rfl, Eq.trans (by kernel_rfl) h2.pv, (n + 1, updF (updF f (n + 1) []) k2 (f k2 ++ L), (ks.erase (n + 1) ++ [k2])), ⟨(by show n + 1 ≤ k; omega), (by show n + 1 ≤ b.ss.length; omega), hnx, hp⟩, (by show k - (n + 1) < k - n; omega),
            Wk.trans (Wk.push2 (c := 8) (M := 7) (B := bA1 e b ws k) (f := f) (ks := ks.erase (n + 1) ++ [k2]) (k := k2) (k1 := n + 1) (x := f k2 ++ L) (nid := 27) (by kernel_rfl) hbas (by decide) h1.k27 hp.lt hne2 h1.ne (by decide) (hlo.mono (by decide))) (Wk.le (St.le.of ⟨by kernel_rfl, rfl, by kernel_rfl, rfl, by kernel_rfl, rfl, by kernel_rfl, rfl, by kernel_rfl, rfl, Eq.trans (by kernel_rfl) h1.ek, rfl, trivial⟩ ⟨by kernel_rfl, (by decide : (0 : Nat) < 28), rfl, by kernel_rfl, (by decide : (1 : Nat) < 28), rfl, by kernel_rfl, (by decide : (2 : Nat) < 28), rfl, by kernel_rfl, (by decide : (3 : Nat) < 28), rfl, by kernel_rfl, (by decide : (4 : Nat) < 28), rfl, by kernel_rfl, (by decide : (7 : Nat) < 28), h2.okm, by kernel_rfl, (by decide : (27 : Nat) < 28), iL_ok _ _, by kernel_rfl, (by decide : (9 : Nat) < 28), iL_ok _ _, by kernel_rfl, (by decide : (10 : Nat) < 28), iL_ok _ _, by kernel_rfl, (by decide : (11 : Nat) < 28), iL_ok _ _, by kernel_rfl, (by decide : (12 : Nat) < 28), iL_ok _ _, by kernel_rfl, (by decide : (13 : Nat) < 28), iL_ok _ _, by kernel_rfl, (by decide : (14 : Nat) < 28), iL_ok _ _, by kernel_rfl, (by decide : (15 : Nat) < 28), iL_ok _ _, trivial⟩) (hlo.mono (show 5 ≤ 28 by decide)))⟩
  · have sN := sN (i3.em (n + 1) (by omega) hm1)
    by_cases hm2 : k2 ∈ ks.erase (n + 1)
    · skip
      have h2 := hP.1 hm2
      have hp := hput
      have hnx := h1.nx
      rw [if_pos hm2] at hp
      exact ACode.vcM (.br 16 true <| .val 20 .nil [] <| .call (encR come) <| .val 0 .undef [(7, some (.map (entV (updF (vC 8 f) k2 (.rsl 8 0 (f k2).length 1)) (ks.erase (n + 1)))))] <| .br 17 false <| .cells (cSt s) <| .draw 11 <| .val 40 (.rsl 8 0 (f k2).length 1) [] <| .call (encR L) <| .val 46 (.rsl 27 0 (f k2 ++ L).length 1) [(8, none), (27, some (.cells (iL (f k2 ++ L))))] <| .val 0 .undef [(7, some (.map (entV (updF (vC 8 f) k2 (.rsl 27 0 (f k2 ++ L).length 1)) (ks.erase (n + 1)))))] .nil) hn hlo (.roundW hQ)
        ⟨ltLen hnl, Eq.trans (by kernel_rfl) (hL1.2.1 hm1), sN, Eq.trans (by kernel_rfl) hdel, c17, idx hs, by kernel_rfl, mixed, by kernel_rfl, Eq.trans (by kernel_rfl) h2.lk, h1.sL, Eq.trans (by kernel_rfl) h2.ap, by kernel_rfl, Eq.trans (by kernel_rfl) h2.pv, (n + 1, updF (updF f (n + 1) []) k2 (f k2 ++ L), (ks.erase (n + 1))), ⟨(by show n + 1 ≤ k; omega), (by show n + 1 ≤ b.ss.length; omega), hnx, hp⟩, (by show k - (n + 1) < k - n; omega),
          Wk.trans (Wk.push2 (c := 8) (M := 7) (B := bA1 e b ws k) (f := f) (ks := ks.erase (n + 1)) (k := k2) (k1 := n + 1) (x := f k2 ++ L) (nid := 27) (by kernel_rfl) hbas (by decide) h1.k27 hdk.lt hne h1.ne (by decide) (hlo.mono (by decide))) (Wk.le (St.le.of ⟨by kernel_rfl, rfl, by kernel_rfl, rfl, by kernel_rfl, rfl, by kernel_rfl, rfl, by kernel_rfl, rfl, Eq.trans (by kernel_rfl) h1.ek, rfl, trivial⟩ ⟨by kernel_rfl, (by decide : (0 : Nat) < 28), rfl, by kernel_rfl, (by decide : (1 : Nat) < 28), rfl, by kernel_rfl, (by decide : (2 : Nat) < 28), rfl, by kernel_rfl, (by decide : (3 : Nat) < 28), rfl, by kernel_rfl, (by decide : (4 : Nat) < 28), rfl, by kernel_rfl, (by decide : (7 : Nat) < 28), h2.okm, by kernel_rfl, (by decide : (27 : Nat) < 28), iL_ok _ _, by kernel_rfl, (by decide : (9 : Nat) < 28), iL_ok _ _, by kernel_rfl, (by decide : (10 : Nat) < 28), iL_ok _ _, by kernel_rfl, (by decide : (11 : Nat) < 28), iL_ok _ _, by kernel_rfl, (by decide : (12 : Nat) < 28), iL_ok _ _, by kernel_rfl, (by decide : (13 : Nat) < 28), iL_ok _ _, by kernel_rfl, (by decide : (14 : Nat) < 28), iL_ok _ _, by kernel_rfl, (by decide : (15 : Nat) < 28), iL_ok _ _, trivial⟩) (hlo.mono (show 5 ≤ 28 by decide)))⟩
    · by_cases hLe : L = []
      · have hx : f k2 ++ L = [] := by rw [hLe, i3.em k2 h1.k27 fun hk => hm2 ((List.mem_erase_of_ne (Ne.symm h1.ne)).2 hk)]; rfl
        have h2 := hP.2.2 hm2 hLe
        have hp := hput
        have hnx := h1.nx
        rw [if_neg hm2, hx] at hp
        rw [hx] at hnx
        exact ACode.vcM (.br 16 true <| .val 20 .nil [] <| .call (encR come) <| .val 0 .undef [(7, some (.map (entV (updF (vC 8 f) k2 (.rsl 8 0 (f k2).length 1)) (ks.erase (n + 1)))))] <| .br 17 false <| .cells (cSt s) <| .draw 11 <| .val 40 (.nil) [] <| .call (encR L) <| .val 46 (.nil) [] <| .val 0 .undef [(7, some (.map (entV (updF (vC 8 f) k2 (.nil)) (ks.erase (n + 1) ++ [k2]))))] .nil) hn hlo (.roundW hQ)
          ⟨ltLen hnl, Eq.trans (by kernel_rfl) (hL1.2.1 hm1), sN, Eq.trans (by kernel_rfl) hdel, c17, idx hs, by kernel_rfl, mixed, by kernel_rfl, Eq.trans (by kernel_rfl) h2.lk, h1.sL, Eq.trans (by kernel_rfl) h2.ap, by kernel_rfl, Eq.trans (by kernel_rfl) h2.pv, (n + 1, updF (updF f (n + 1) []) k2 [], (ks.erase (n + 1) ++ [k2])), ⟨(by show n + 1 ≤ k; omega), (by show n + 1 ≤ b.ss.length; omega), hnx, hp⟩, (by show k - (n + 1) < k - n; omega),
            Wk.trans (Wk.push2N (c := 8) (M := 7) (B := bA1 e b ws k) (f := f) (ks := ks.erase (n + 1) ++ [k2]) (k := k2) (k1 := n + 1) (n := 28) (by kernel_rfl) hbas (by decide) h1.k27 hp.lt hne2 h1.ne (hlo.mono (by decide))) (Wk.le (St.le.of ⟨by kernel_rfl, rfl, by kernel_rfl, rfl, by kernel_rfl, rfl, by kernel_rfl, rfl, by kernel_rfl, rfl, Eq.trans (by kernel_rfl) h1.ek, rfl, trivial⟩ ⟨by kernel_rfl, (by decide : (0 : Nat) < 28), rfl, by kernel_rfl, (by decide : (1 : Nat) < 28), rfl, by kernel_rfl, (by decide : (2 : Nat) < 28), rfl, by kernel_rfl, (by decide : (3 : Nat) < 28), rfl, by kernel_rfl, (by decide : (4 : Nat) < 28), rfl, by kernel_rfl, (by decide : (7 : Nat) < 28), h2.okm, by kernel_rfl, (by decide : (9 : Nat) < 28), iL_ok _ _, by kernel_rfl, (by decide : (10 : Nat) < 28), iL_ok _ _, by kernel_rfl, (by decide : (11 : Nat) < 28), iL_ok _ _, by kernel_rfl, (by decide : (12 : Nat) < 28), iL_ok _ _, by kernel_rfl, (by decide : (13 : Nat) < 28), iL_ok _ _, by kernel_rfl, (by decide : (14 : Nat) < 28), iL_ok _ _, by kernel_rfl, (by decide : (15 : Nat) < 28), iL_ok _ _, trivial⟩) (hlo.mono (show 5 ≤ 28 by decide)))⟩
      · skip
        have h2 := hP.2.1 hm2 hLe
        have hp := hput
        have hnx := h1.nx
        rw [if_neg hm2] at hp
        exact ACode.vcM (.br 16 true <| .val 20 .nil [] <| .call (encR come) <| .val 0 .undef [(7, some (.map (entV (updF (vC 8 f) k2 (.rsl 8 0 (f k2).length 1)) (ks.erase (n + 1)))))] <| .br 17 false <| .cells (cSt s) <| .draw 11 <| .val 40 (.nil) [] <| .call (encR L) <| .val 46 (.rsl 27 0 (f k2 ++ L).length 1) [(27, some (.cells (iL (f k2 ++ L))))] <| .val 0 .undef [(7, some (.map (entV (updF (vC 8 f) k2 (.rsl 27 0 (f k2 ++ L).length 1)) (ks.erase (n + 1) ++ [k2]))))] .nil) hn hlo (.roundW hQ)
          ⟨ltLen hnl, Eq.trans (by kernel_rfl) (hL1.2.1 hm1), sN, Eq.trans (by kernel_rfl) hdel, c17, idx hs, by kernel_rfl, mixed, by kernel_rfl, Eq.trans (by kernel_rfl) h2.lk, h1.sL, Eq.trans (by kernel_rfl) h2.ap, by kernel_rfl, Eq.trans (by kernel_rfl) h2.pv, (n + 1, updF (updF f (n + 1) []) k2 (f k2 ++ L), (ks.erase (n + 1) ++ [k2])), ⟨(by show n + 1 ≤ k; omega), (by show n + 1 ≤ b.ss.length; omega), hnx, hp⟩, (by show k - (n + 1) < k - n; omega),
            Wk.trans (Wk.push2 (c := 8) (M := 7) (B := bA1 e b ws k) (f := f) (ks := ks.erase (n + 1) ++ [k2]) (k := k2) (k1 := n + 1) (x := f k2 ++ L) (nid := 27) (by kernel_rfl) hbas (by decide) h1.k27 hp.lt hne2 h1.ne (by decide) (hlo.mono (by decide))) (Wk.le (St.le.of ⟨by kernel_rfl, rfl, by kernel_rfl, rfl, by kernel_rfl, rfl, by kernel_rfl, rfl, by kernel_rfl, rfl, Eq.trans (by kernel_rfl) h1.ek, rfl, trivial⟩ ⟨by kernel_rfl, (by decide : (0 : Nat) < 28), rfl, by kernel_rfl, (by decide : (1 : Nat) < 28), rfl, by kernel_rfl, (by decide : (2 : Nat) < 28), rfl, by kernel_rfl, (by decide : (3 : Nat) < 28), rfl, by kernel_rfl, (by decide : (4 : Nat) < 28), rfl, by kernel_rfl, (by decide : (7 : Nat) < 28), h2.okm, by kernel_rfl, (by decide : (27 : Nat) < 28), iL_ok _ _, by kernel_rfl, (by decide : (9 : Nat) < 28), iL_ok _ _, by kernel_rfl, (by decide : (10 : Nat) < 28), iL_ok _ _, by kernel_rfl, (by decide : (11 : Nat) < 28), iL_ok _ _, by kernel_rfl, (by decide : (12 : Nat) < 28), iL_ok _ _, by kernel_rfl, (by decide : (13 : Nat) < 28), iL_ok _ _, by kernel_rfl, (by decide : (14 : Nat) < 28), iL_ok _ _, by kernel_rfl, (by decide : (15 : Nat) < 28), iL_ok _ _, trivial⟩) (hlo.mono (show 5 ≤ 28 by decide)))⟩
end Go.Proofs.YtiggnliiigcjaaaDoor
