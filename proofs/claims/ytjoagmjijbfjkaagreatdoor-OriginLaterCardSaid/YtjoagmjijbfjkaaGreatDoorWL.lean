import Derived.Test.YtjoagmjijbfjkaaGreatDoorR3
import Derived.Test.YtjoagmjijbfjkaaGreatDoorW8
import Derived.Test.YtjoagmjijbfjkaaGreatDoorNU
import Derived.Test.YtjoagmjijbfjkaaGreatDoorLF
import Derived.Test.YtjoagmjijbfjkaaGreatDoorAm29
/-
  THE REFERENCE: how far rooms are.
-/
namespace Go.Proofs.YtjoagmjijbfjkaaGreatDoor
open Go Go.Am
set_option maxRecDepth 100000
set_option maxHeartbeats 4000000
def rowI (n : Nat) (d : Row) : List Int := (List.range n).map d
theorem rowI_len (n : Nat) (d : Row) : (rowI n d).length = n := by unfold rowI; rw [List.length_map, List.length_range]
theorem rowI_get {n x : Nat} (d : Row) (h : x < n) : (rowI n d)[x]? = some (d x) := by unfold rowI; rw [List.getElem?_map, List.getElem?_range h]; rfl
theorem rowI_ext {n : Nat} {d e : Row} (h : ∀ x, x < n → d x = e x) : rowI n d = rowI n e := List.map_congr_left fun x hx => h x (List.mem_range.1 hx)
theorem rowI_set {n a : Nat} (d : Row) (v : Int) (ha : a < n) : (rowI n d).set a v = rowI n (fun x => if x = a then v else d x) := by
  apply List.ext_getElem?
  intro i
  rw [List.getElem?_set]
  by_cases hi : i < n
  · rw [rowI_get _ hi, rowI_get _ hi, rowI_len]
    by_cases e : a = i
    · subst e; rw [if_pos rfl, if_pos ha, if_pos rfl]
    · rw [if_neg e, if_neg fun q => e q.symm]
  · rw [List.getElem?_eq_none (by rw [rowI_len]; omega), List.getElem?_eq_none (by rw [rowI_len]; omega), rowI_len]
    rw [if_neg (by omega)]
theorem row_step {n a b : Nat} (d : Row) (w : Int) (ha : a < n) (hb : b < n) : ((rowI n d).set a (min (d a) (d b + w))).set b (min (d b) (d a + w)) = rowI n (stepB d (a, b, w)) := by
  rw [rowI_set _ _ ha, rowI_set _ _ hb]
  rfl
def nevR (k : Nat) : Row := fun i => if i < k then 1000000 else 0
theorem nevZero (n : Nat) : List.replicate n (0 : Int) = rowI n (nevR 0) := by
  apply List.ext_getElem?
  intro i
  by_cases hi : i < n
  · rw [rowI_get _ hi, List.getElem?_replicate, if_pos hi]; rfl
  · rw [List.getElem?_eq_none (by rw [List.length_replicate]; omega), List.getElem?_eq_none (by rw [rowI_len]; omega)]
theorem nevStep {n k : Nat} (hk : k < n) : (rowI n (nevR k)).set k 1000000 = rowI n (nevR (k + 1)) := by
  rw [rowI_set _ _ hk]
  refine rowI_ext fun x _ => ?_
  unfold nevR
  by_cases e : x = k
  · rw [if_pos e, if_pos (by omega)]
  · by_cases q : x < k
    · rw [if_neg e, if_pos q, if_pos (by omega)]
    · rw [if_neg e, if_neg q, if_neg (by omega)]
def basR (r : Nat) : Row := fun y => if y = r then 0 else 1000000
theorem bas_step {n r : Nat} (hr : r < n) : (rowI n (nevR n)).set r 0 = rowI n (basR r) := by
  rw [rowI_set _ _ hr]
  refine rowI_ext fun x hx => ?_
  unfold basR nevR
  by_cases e : x = r
  · rw [if_pos e, if_pos e]
  · rw [if_neg e, if_neg e, if_pos hx]
def preB (E : List Edg) (d0 : Row) (k j : Nat) : Row := (E.take j).foldl stepB (bellV E k d0)
theorem pre_zero (E : List Edg) (d0 : Row) (k : Nat) : preB E d0 k 0 = bellV E k d0 := rfl
theorem pre_succ {E : List Edg} {d0 : Row} {k j : Nat} {e : Edg} (h : E[j]? = some e) : preB E d0 k (j + 1) = stepB (preB E d0 k j) e := by
  unfold preB; rw [take_snoc h, List.foldl_append]; rfl
theorem pre_end {E : List Edg} {d0 : Row} {k j : Nat} (h : E.length ≤ j) : preB E d0 k j = bellV E (k + 1) d0 := by
  unfold preB; rw [List.take_of_length_le h]; rfl
def bdR (d : Row) : Prop := ∀ x, 0 ≤ d x ∧ d x ≤ 1000000
theorem bd_step {d : Row} (h : bdR d) {e : Edg} (he : 0 ≤ e.2.2) : bdR (stepB d e) := by
  intro x
  have h1 := h e.1; have h2 := h e.2.1; have h3 := h x
  unfold stepB
  by_cases q : x = e.2.1
  · rw [if_pos q]; omega
  · rw [if_neg q]
    by_cases p : x = e.1
    · rw [if_pos p]; omega
    · rw [if_neg p]; exact h3
theorem bd_round {E : List Edg} (hE : ∀ e ∈ E, 0 ≤ e.2.2) : ∀ {L : List Edg} {d : Row}, (∀ e ∈ L, e ∈ E) → bdR d → bdR (L.foldl stepB d) := by
  intro L
  induction L with
  | nil => intro d _ h; exact h
  | cons e L ih => intro d hL h; exact ih (fun x hx => hL x (List.mem_cons_of_mem _ hx)) (bd_step h (hE e (hL e List.mem_cons_self)))
theorem bd_bell {E : List Edg} (hE : ∀ e ∈ E, 0 ≤ e.2.2) {d : Row} (h : bdR d) : ∀ k, bdR (bellV E k d) := by
  intro k
  induction k with
  | zero => exact h
  | succ k ih => exact bd_round hE (fun _ h => h) ih
theorem bd_pre {E : List Edg} (hE : ∀ e ∈ E, 0 ≤ e.2.2) {d : Row} (h : bdR d) (k j : Nat) : bdR (preB E d k j) :=
  bd_round hE (fun _ h => List.mem_of_mem_take h) (bd_bell hE h k)
theorem bd_bas (r : Nat) : bdR (basR r) := by
  intro x
  unfold basR
  by_cases e : x = r
  · rw [if_pos e]; omega
  · rw [if_neg e]; omega
theorem rmkI {id n : Nat} (hn : n ≤ 1000) : aMakeSlice Tryz.prog id 24 (.int .i64 n) (.int .i64 n) = some ⟨.rsl id 0 n 1, [(id, some (.cells (iL (List.replicate n 0))))]⟩ := by
  have e : rep n [.int .i64 0] = iL (List.replicate n 0) := by
    induction n with
    | zero => rfl
    | succ n ih => rw [List.replicate_succ]; show [AV.int .i64 0] ++ rep n [.int .i64 0] = _; rw [ih (by omega)]; rfl
  rw [← e]
  simp only [aMakeSlice, ty24, ty3]
  rw [if_pos ⟨trivial, by omega, by omega, by simp; omega, by omega, rfl⟩]
  simp
theorem minV {x y m : Int} (h : m = min x y) : some (⟨.int .i64 (if y < x then y else x), []⟩ : Out) = some ⟨.int .i64 m, []⟩ := by
  have : (if y < x then y else x) = m := by
    subst h
    by_cases q : y < x
    · rw [if_pos q]; omega
    · rw [if_neg q]; omega
  rw [this]
/-- What the reference finds far. -/
def rowP (s : Scn) (ds : List Int) (r : Nat) : Row := bellV (edgs s.gates ds) (nR s) (basR r)
end Go.Proofs.YtjoagmjijbfjkaaGreatDoor
/-
  SPANS IN THEIR ORDER: more facts. Plain.
-/
namespace Go.Proofs.YtjoagmjijbfjkaaGreatDoor
open Go Go.Am
set_option maxRecDepth 100000
theorem can_two : ∀ {l : List Spn}, canS l → ∀ {y z : Spn}, y ∈ l → z ∈ l → y = z ∨ y.2 + 1 < z.1 ∨ z.2 + 1 < y.1 := by
  intro l
  induction l with
  | nil => intro _ y z hy; cases hy
  | cons a l ih =>
    intro h y z hy hz
    obtain ⟨h1, h2, h3⟩ := canS_cons h
    rcases List.mem_cons.1 hy with rfl | hy
    · rcases List.mem_cons.1 hz with rfl | hz
      · exact .inl rfl
      · exact .inr (.inl (h3 z hz))
    · rcases List.mem_cons.1 hz with e | hz
      · rw [e]; exact .inr (.inr (h3 y hy))
      · exact ih h2 hy hz
theorem can_in {l : List Spn} (h : canS l) {a : Int} : ∀ (k : Nat), (∀ n, a ≤ n → n ≤ a + k → inL l n) → ∃ y ∈ l, y.1 ≤ a ∧ a + k ≤ y.2 := by
  intro k
  induction k with
  | zero =>
    intro q
    obtain ⟨y, hy, h1⟩ := q a (Int.le_refl _) (by omega)
    exact ⟨y, hy, h1.1, by have := h1.2; omega⟩
  | succ k ih =>
    intro q
    obtain ⟨y, hy, y1, y2⟩ := ih fun n h1 h2 => q n h1 (by omega)
    obtain ⟨z, hz, z1, z2⟩ := q (a + (k + 1 : Nat)) (by omega) (Int.le_refl _)
    rcases can_two h hy hz with e | e | e
    · subst e; exact ⟨y, hy, y1, z2⟩
    · omega
    · omega
theorem can_le {l : List Spn} : canS l → ∀ {x : Spn}, x ∈ l → x.1 ≤ x.2 := by
  induction l with
  | nil => intro _ x hx; cases hx
  | cons a l ih =>
    intro h x hx
    obtain ⟨h1, h2, _⟩ := canS_cons h
    rcases List.mem_cons.1 hx with rfl | hx
    · exact h1
    · exact ih h2 hx
end Go.Proofs.YtjoagmjijbfjkaaGreatDoor
/-
  MARKS OF ONE's OWN; what is told, and how long it is.
-/
namespace Go.Proofs.YtjoagmjijbfjkaaGreatDoor
open Go Go.Am
set_option maxRecDepth 100000
set_option maxHeartbeats 4000000
theorem canL_len : ∀ {l : List Spn} {a : Int}, canS l → (∀ x ∈ l, a ≤ x.1 ∧ x.2 ≤ 600) → a ≤ 601 → (l.length : Int) ≤ 601 - a := by
  intro l
  induction l with
  | nil => intro a _ _ ha; rw [List.length_nil]; omega
  | cons x l ih =>
    intro a hc hb ha
    obtain ⟨h1, h2, h3⟩ := canS_cons hc
    have hx := hb x List.mem_cons_self
    have := ih (a := x.2 + 1) h2 (fun y hy => ⟨by have := h3 y hy; omega, (hb y (List.mem_cons_of_mem _ hy)).2⟩) (by omega)
    rw [List.length_cons]; omega
theorem toldL_len {s : Scn} (hs : ScOk s) {room : Nat} (hr : room < nR s) : (toldP s room).length ≤ 1000 := by
  have hf := hs.fin
  have hcan := (told_ok s room).1
  have := canL_len (a := 0) hcan (fun x hx => by
    have hle := can_le hcan hx
    obtain ⟨_, q1⟩ := (told_true hs hr).1 (⟨x, hx, Int.le_refl _, hle⟩ : inL (toldP s room) x.1)
    obtain ⟨_, q2⟩ := (told_true hs hr).1 (⟨x, hx, hle, Int.le_refl _⟩ : inL (toldP s room) x.2)
    have := q1.1.1; have := q2.1.2
    omega) (by omega)
  omega
theorem Min_sub (s : Scn) (hs : ScOk s) {room : Nat} (hr : room < nR s) {RM : Int} (erm : RM = (room : Int)) : APure Tryz.prog 19 [encSc s, .int .i64 RM] (.tup [encSps (toldP s room), .int .i64 0]) := by
  have m := Minutes_ok s RM
  have e0 : rmE s RM = 0 := by rw [erm]; exact rm_of hs hr
  have ev : mnV s RM = toldP s room := by unfold mnV; rw [if_pos e0, erm, Int.toNat_natCast]
  rw [e0, ev] at m
  exact m
theorem ixM {h : Nat → Option AObj} {id n k : Nat} {i : Int} (hi : i = (k : Int)) (hk : k < n) : (aindexAddr Tryz.prog h 29 (.rsl id 0 n 7) (.int .i64 i)).map (fun v => (⟨v, []⟩ : Out)) = some ⟨.vptr id (k * 7), []⟩ := by
  subst hi
  simp only [aindexAddr, ty29, ty46]
  rw [if_pos ⟨trivial, Int.natCast_nonneg _, by simpa using hk⟩]
  simp
theorem flM_split {l : List Mk} {k : Nat} (hk : k < l.length) {m : Mk} (hm : l[k]? = some m) : fl cMk l = fl cMk (l.take k) ++ (cMk m ++ fl cMk (l.drop (k + 1))) ∧ (fl cMk (l.take k)).length = k * 7 := by
  have e : l = l.take k ++ m :: l.drop (k + 1) := by rw [← drop_cons hm, List.take_append_drop]
  refine ⟨?_, by rw [fl_len (enc := cMk) (n := 7) (fun _ => rfl), List.length_take, Nat.min_eq_left (by omega)]⟩
  conv => lhs; rw [e]
  unfold fl; simp
theorem splice_app (A : List AV) : ∀ (xs C : List AV) (k : Nat), splice (A ++ C) (A.length + k) xs = A ++ splice C k xs := by
  intro xs
  induction xs with
  | nil => intro C k; rfl
  | cons x xs ih =>
    intro C k
    show splice ((A ++ C).set (A.length + k) x) (A.length + k + 1) xs = A ++ splice (C.set k x) (k + 1) xs
    rw [List.set_append_right _ _ (by omega), show A.length + k - A.length = k by omega]
    exact ih (C.set k x) (k + 1)
end Go.Proofs.YtjoagmjijbfjkaaGreatDoor
/-
  WHEN THE FIRE COMES, as the laws work it out: the walk.
-/
namespace Go.Proofs.YtjoagmjijbfjkaaGreatDoor
open Go Go.Am
set_option maxRecDepth 100000
set_option maxHeartbeats 4000000
def nvrR (k : Nat) : Row := fun i => if i < k then nvr else 0
theorem nvrZero (n : Nat) : List.replicate n (0 : Int) = rowI n (nvrR 0) := by
  rw [nevZero]
  refine rowI_ext fun x _ => ?_
  unfold nevR nvrR
  rw [if_neg (Nat.not_lt_zero _), if_neg (Nat.not_lt_zero _)]
theorem nvrStep {n k : Nat} (hk : k < n) : (rowI n (nvrR k)).set k 1073741824 = rowI n (nvrR (k + 1)) := by
  rw [rowI_set _ _ hk]
  refine rowI_ext fun x _ => ?_
  unfold nvrR
  by_cases e : x = k
  · subst e; rw [if_pos rfl, if_pos (Nat.lt_succ_self _)]
  · rw [if_neg e]
    by_cases q : x < k
    · rw [if_pos q, if_pos (by omega)]
    · rw [if_neg q, if_neg (by omega)]
theorem at_step {n r : Nat} (t : Int) (hr : r < n) : (rowI n (nvrR n)).set r t = rowI n (rowAt r t) := by
  rw [rowI_set _ _ hr]
  refine rowI_ext fun x hx => ?_
  unfold nvrR rowAt
  by_cases e : x = r
  · rw [if_pos e, if_pos e]
  · rw [if_neg e, if_neg e, if_pos hx]
def preC (E : List Edg) (d0 : Row) (k j : Nat) : Row := (E.take j).foldl (stepC nvr) (comeV nvr E k d0)
theorem prc_succ {E : List Edg} {d0 : Row} {k j : Nat} {e : Edg} (h : E[j]? = some e) : preC E d0 k (j + 1) = stepC nvr (preC E d0 k j) e := by
  unfold preC
  rw [List.take_add_one, h, List.foldl_append]; rfl
theorem prc_end {E : List Edg} {d0 : Row} {k j : Nat} (h : E.length ≤ j) : preC E d0 k j = comeV nvr E (k + 1) d0 := by
  unfold preC
  rw [List.take_of_length_le h]; rfl
def bdN (d : Row) : Prop := ∀ x, 0 ≤ d x ∧ d x ≤ nvr
theorem bdN_side {d : Row} (h : bdN d) {a b : Nat} {w : Int} (hw : 0 ≤ w) : bdN (sideC nvr d a b w) := by
  intro x
  have h1 := h x
  have h2 := h a
  have h3 := h b
  unfold sideC
  split
  · show 0 ≤ (if x = b then min (d b) (d a + w) else d x) ∧ (if x = b then min (d b) (d a + w) else d x) ≤ nvr
    split <;> omega
  · exact h1
theorem bdN_step {d : Row} (h : bdN d) {e : Edg} (he : 0 ≤ e.2.2) : bdN (stepC nvr d e) := bdN_side (bdN_side h he) he
theorem bdN_round {E : List Edg} (hE : ∀ e ∈ E, 0 ≤ e.2.2) : ∀ {L : List Edg} {d : Row}, (∀ e ∈ L, e ∈ E) → bdN d → bdN (L.foldl (stepC nvr) d) := by
  intro L
  induction L with
  | nil => intro d _ h; exact h
  | cons e L ih => intro d hL h; exact ih (fun x hx => hL x (List.mem_cons_of_mem _ hx)) (bdN_step h (hE e (hL e List.mem_cons_self)))
theorem bdN_come {E : List Edg} (hE : ∀ e ∈ E, 0 ≤ e.2.2) {d : Row} (h : bdN d) : ∀ k, bdN (comeV nvr E k d) := by
  intro k
  induction k with
  | zero => exact h
  | succ k ih => exact bdN_round hE (fun _ q => q) ih
theorem bdN_pre {E : List Edg} (hE : ∀ e ∈ E, 0 ≤ e.2.2) {d : Row} (h : bdN d) (k j : Nat) : bdN (preC E d k j) := bdN_round hE (fun _ q => List.mem_of_mem_take q) (bdN_come hE h k)
theorem bdN_at (r : Nat) {t : Int} (ht : 0 ≤ t ∧ t ≤ 600) : bdN (rowAt r t) := by
  intro x
  unfold rowAt
  split <;> (unfold nvr; omega)
theorem side_set {n a b : Nat} (d : Row) (w : Int) (hb : b < n) (h : d a ≠ nvr) : (rowI n d).set b (min (d b) (d a + w)) = rowI n (sideC nvr d a b w) := by
  rw [rowI_set _ _ hb]
  refine rowI_ext fun x _ => ?_
  unfold sideC
  rw [if_pos h]
theorem side_no {a b : Nat} (d : Row) (w : Int) (h : d a = nvr) : sideC nvr d a b w = d := by
  unfold sideC
  rw [if_neg (not_not_intro h)]
theorem comes_spec (s : Scn) (hs : ScOk s) (ds : List Int) (hd : areD (gSp s.gates) ds) {r : Nat} (hr : r < nR s) {t : Int} (ht : 0 ≤ t ∧ t ≤ 600) : APureF Tryz.prog 39 [encSc s, .int .i64 (r : Int), .int .i64 t, encR ds] (encR (rowI (nR s) (comeP s ds r t))) := by
  have hdl := ds_len hs hd
  obtain ⟨hnr, hn1, hn6⟩ := nR_eq hs
  have hgl := hs.gl
  have hE0 : ∀ e ∈ (edgs s.gates ds), 0 ≤ e.2.2 := fun e he => by
    have := (gok_of hs hd).lo e.1 e.2.1 e.2.2 (.inl he); exact this
  have hwb : ∀ d ∈ ds, -1000000 ≤ d ∧ d ≤ 1000000 := ds_bd hs hd
  have hel : (edgs s.gates ds).length = s.gates.length := by unfold edgs; rw [List.length_zipWith]; omega
  have hmk := rmkI (id := 1) (n := nR s) (by omega)
  rw [hnr] at hmk
  rw [nvrZero] at hmk
  refine APureF.vcM Tryz.func39 (.val 15 (.rsl 1 0 (nR s) 1) [(1, some (.cells (iL (rowI (nR s) (nvrR 0)))))] .loop) (by kernel_rfl) (by kernel_rfl) ⟨Eq.trans (by kernel_rfl) hmk, ?_⟩
  intro g hn hlo
  replace hn : g.n = 96 := hn
  replace hlo : g.low 0 := hlo
  refine acode_while (fun k : Nat => ⟨[(1, .int .i64 (r : Int)), (2, .int .i64 t), (3, encR ds), (4, .vptr 0 0), (9, .rsl 1 0 (nR s) 1), (17, .int .i64 (nR s)), (18, .int .i64 k)], [(0, .cells (cSc s)), (1, .cells (iL (rowI (nR s) (nvrR k))))], 2⟩) (fun k => k ≤ nR s) (fun k => nR s - k) 0 (Nat.zero_le _) ?_ (fun _ _ => hlo.mono (Nat.zero_le _)) ?_
  · exact St.le.of ⟨by kernel_rfl, rfl, by kernel_rfl, rfl, by kernel_rfl, rfl, by kernel_rfl, rfl, by kernel_rfl, rfl, by kernel_rfl, rfl, by kernel_rfl, rfl, trivial⟩ ⟨by kernel_rfl, (by decide : (0 : Nat) < 2), by kernel_rfl, by kernel_rfl, (by decide : (1 : Nat) < 2), iL_ok _ _, trivial⟩
  · intro k hk
    replace hk : k ≤ nR s := hk
    by_cases hlt : k < nR s
    · have ek := congrArg (AV.int .i64) (succ64 (k := k) (by omega))
      have c : decide ((k : Int) < (nR s : Int)) = true := decide_eq_true (by omega)
      have ix := ixI (h := hget []) (id := 1) (n := nR s) (i := (k : Int)) rfl hlt
      have st := stI (h := hget [(1, .cells (iL (rowI (nR s) (nvrR k))))]) (id := 1) (l := rowI (nR s) (nvrR k)) (k := k) (x := 1073741824) rfl (by rw [rowI_len]; exact hlt)
      rw [nvrStep hlt] at st
      exact ACode.vcM (.br 19 true <| .val 23 (.vptr 1 k) [] <| .val 1 .undef [(1, some (.cells (iL (rowI (nR s) (nvrR (k + 1))))))] .nil) hn hlo (.round .cl) ⟨c, Eq.trans (by kernel_rfl) ix, Eq.trans (by kernel_rfl) st, k + 1, hlt, mu1 hlt,
        St.le.of ⟨by kernel_rfl, rfl, by kernel_rfl, rfl, by kernel_rfl, rfl, by kernel_rfl, rfl, by kernel_rfl, rfl, by kernel_rfl, rfl, Eq.trans (by kernel_rfl) ek, rfl, trivial⟩ ⟨by kernel_rfl, (by decide : (0 : Nat) < 2), by kernel_rfl, by kernel_rfl, (by decide : (1 : Nat) < 2), iL_ok _ _, trivial⟩⟩
    · have hk' : k = nR s := by omega
      have c : decide ((k : Int) < (nR s : Int)) = false := decide_eq_false (by omega)
      have ix := ixI (h := hget []) (id := 1) (n := nR s) (i := (r : Int)) rfl hr
      have st := stI (h := hget [(1, .cells (iL (rowI (nR s) (nvrR k))))]) (id := 1) (l := rowI (nR s) (nvrR k)) (k := r) (x := t) rfl (by rw [rowI_len]; exact hr)
      have eb : (rowI (nR s) (nvrR k)).set r t = rowI (nR s) (rowAt r t) := by rw [hk']; exact at_step t hr
      rw [eb] at st
      refine ACode.vcM (.br 19 false .nil) hn hlo (.round .cl) ⟨c, _, .refl _, .val 28 (.vptr 1 r) [] <| .val 1 .undef [(1, some (.cells (iL (rowI (nR s) (rowAt r t)))))] .loop, Eq.trans (by kernel_rfl) ix, Eq.trans (by kernel_rfl) st, ?_⟩
      intro g hn hlo
      replace hn : g.n = 96 := hn
      replace hlo : g.low 0 := hlo
      refine acode_while (fun k : Nat => ⟨[(1, .int .i64 (r : Int)), (2, .int .i64 t), (3, encR ds), (4, .vptr 0 0), (9, .rsl 1 0 (nR s) 1), (30, .int .i64 s.rooms), (31, .int .i64 k)], [(0, .cells (cSc s)), (1, .cells (iL (rowI (nR s) (comeV nvr (edgs s.gates ds) k (rowAt r t)))))], 2⟩) (fun k => k ≤ nR s) (fun k => nR s - k) 0 (Nat.zero_le _) ?_ (fun _ _ => hlo.mono (Nat.zero_le _)) ?_
      · exact St.le.of ⟨by kernel_rfl, rfl, by kernel_rfl, rfl, by kernel_rfl, rfl, by kernel_rfl, rfl, by kernel_rfl, rfl, by kernel_rfl, rfl, by kernel_rfl, rfl, trivial⟩ ⟨by kernel_rfl, (by decide : (0 : Nat) < 2), by kernel_rfl, by kernel_rfl, (by decide : (1 : Nat) < 2), iL_ok _ _, trivial⟩
      · intro k hk
        replace hk : k ≤ nR s := hk
        by_cases hlt : k < nR s
        · have ek := congrArg (AV.int .i64) (succ64 (k := k) (by omega))
          have c : decide ((k : Int) < s.rooms) = true := decide_eq_true (by omega)
          refine ACode.vcM (.br 32 true .loop) hn hlo (.round .cl) ⟨c, ?_⟩
          intro g hn hlo
          replace hn : g.n = 96 := hn
          replace hlo : g.low 0 := hlo
          refine acode_while (fun j : Nat => ⟨[(1, .int .i64 (r : Int)), (2, .int .i64 t), (3, encR ds), (4, .vptr 0 0), (9, .rsl 1 0 (nR s) 1), (30, .int .i64 s.rooms), (31, .int .i64 k), (34, encGs s.gates), (35, .int .i64 (s.gates.map cGt).length), (36, .int .i64 j)], [(0, .cells (cSc s)), (1, .cells (iL (rowI (nR s) (preC (edgs s.gates ds) (rowAt r t) k j))))], 2⟩) (fun j => j ≤ s.gates.length) (fun j => s.gates.length - j) 0 (Nat.zero_le _) ?_ (fun _ _ => hlo.mono (Nat.zero_le _)) ?_
          · exact St.le.of ⟨by kernel_rfl, rfl, by kernel_rfl, rfl, by kernel_rfl, rfl, by kernel_rfl, rfl, by kernel_rfl, rfl, by kernel_rfl, rfl, by kernel_rfl, rfl, by kernel_rfl, rfl, by kernel_rfl, rfl, by kernel_rfl, rfl, trivial⟩ ⟨by kernel_rfl, (by decide : (0 : Nat) < 2), by kernel_rfl, by kernel_rfl, (by decide : (1 : Nat) < 2), iL_ok _ _, trivial⟩
          · intro j hj
            replace hj : j ≤ s.gates.length := hj
            by_cases hlj : j < s.gates.length
            · refine Exists.elim (getE hlj) fun x hx => ?_
              refine Exists.elim (getE (show j < ds.length by omega)) fun w hw => ?_
              have ej := congrArg (AV.int .i64) (succ64 (k := j) (by omega))
              have hg := gtB_iff.1 (hs.gs x (List.mem_of_getElem? hx))
              have hee := edgs_get hx hw
              have hw0 : 0 ≤ w := hE0 _ (List.mem_of_getElem? hee)
              have hps : preC (edgs s.gates ds) (rowAt r t) k (j + 1) = sideC nvr (sideC nvr (preC (edgs s.gates ds) (rowAt r t) k j) x.a.toNat x.b.toNat w) x.b.toNat x.a.toNat w := prc_succ hee
              have hbd := bdN_pre hE0 (bdN_at r ht) k j
              have hwd := hwb w (List.mem_of_getElem? hw)
              have ea : x.a = ((x.a.toNat : Nat) : Int) := by omega
              have eb : x.b = ((x.b.toNat : Nat) : Int) := by omega
              have ha : x.a.toNat < nR s := by omega
              have hb : x.b.toNat < nR s := by omega
              have c : decide ((j : Int) < ((s.gates.map cGt).length : Int)) = true := ltLen hlj
              have ga := rowI_get (preC (edgs s.gates ds) (rowAt r t) k j) ha
              have gb := rowI_get (preC (edgs s.gates ds) (rowAt r t) k j) hb
              have hl0 := rowI_len (nR s) (preC (edgs s.gates ds) (rowAt r t) k j)
              have hbd1 : bdN (sideC nvr (preC (edgs s.gates ds) (rowAt r t) k j) x.a.toNat x.b.toNat w) := bdN_side hbd hw0
              have ga1 := rowI_get (sideC nvr (preC (edgs s.gates ds) (rowAt r t) k j) x.a.toNat x.b.toNat w) ha
              have gb1 := rowI_get (sideC nvr (preC (edgs s.gates ds) (rowAt r t) k j) x.a.toNat x.b.toNat w) hb
              have hl1 := rowI_len (nR s) (sideC nvr (preC (edgs s.gates ds) (rowAt r t) k j) x.a.toNat x.b.toNat w)
              have s1 := side_set (n := nR s) (a := x.a.toNat) (preC (edgs s.gates ds) (rowAt r t) k j) w hb
              have s2 := side_set (n := nR s) (a := x.b.toNat) (sideC nvr (preC (edgs s.gates ds) (rowAt r t) k j) x.a.toNat x.b.toNat w) w ha
              have z1 := side_no (a := x.a.toNat) (b := x.b.toNat) (preC (edgs s.gates ds) (rowAt r t) k j) w
              have z2 := side_no (a := x.b.toNat) (b := x.a.toNat) (sideC nvr (preC (edgs s.gates ds) (rowAt r t) k j) x.a.toNat x.b.toNat w) w
              replace z1 : _ → rowI (nR s) (sideC nvr (preC (edgs s.gates ds) (rowAt r t) k j) x.a.toNat x.b.toNat w) = rowI (nR s) (preC (edgs s.gates ds) (rowAt r t) k j) := fun q => congrArg (rowI (nR s)) (z1 q)
              replace z2 : _ → rowI (nR s) (sideC nvr (sideC nvr (preC (edgs s.gates ds) (rowAt r t) k j) x.a.toNat x.b.toNat w) x.b.toNat x.a.toNat w) = rowI (nR s) (sideC nvr (preC (edgs s.gates ds) (rowAt r t) k j) x.a.toNat x.b.toNat w) := fun q => congrArg (rowI (nR s)) (z2 q)
              have eF0 : rowI (nR s) (sideC nvr (sideC nvr (preC (edgs s.gates ds) (rowAt r t) k j) x.a.toNat x.b.toNat w) x.b.toNat x.a.toNat w) = rowI (nR s) (preC (edgs s.gates ds) (rowAt r t) k (j + 1)) := by rw [hps]
              have ba := hbd x.a.toNat
              have bb := hbd x.b.toNat
              have ba1 := hbd1 x.a.toNat
              have bb1 := hbd1 x.b.toNat
              generalize rowI (nR s) (sideC nvr (sideC nvr (preC (edgs s.gates ds) (rowAt r t) k j) x.a.toNat x.b.toNat w) x.b.toNat x.a.toNat w) = R2 at *
              generalize rowI (nR s) (sideC nvr (preC (edgs s.gates ds) (rowAt r t) k j) x.a.toNat x.b.toNat w) = R1 at *
              generalize rowI (nR s) (preC (edgs s.gates ds) (rowAt r t) k j) = R at *
              generalize sideC nvr (preC (edgs s.gates ds) (rowAt r t) k j) x.a.toNat x.b.toNat w x.a.toNat = da1 at *
              generalize sideC nvr (preC (edgs s.gates ds) (rowAt r t) k j) x.a.toNat x.b.toNat w x.b.toNat = db1 at *
              generalize preC (edgs s.gates ds) (rowAt r t) k j x.a.toNat = da at *
              generalize preC (edgs s.gates ds) (rowAt r t) k j x.b.toNat = db at *
              have ixa := ixI (h := hget []) (id := 1) (n := nR s) (i := x.a) (k := x.a.toNat) ea ha
              have ixb := ixI (h := hget []) (id := 1) (n := nR s) (i := x.b) (k := x.b.toNat) eb hb
              have lda := ldI (h := hget [(1, .cells (iL R))]) (id := 1) (l := R) rfl ga
              have ldb := ldI (h := hget [(1, .cells (iL R))]) (id := 1) (l := R) rfl gb
              have lda1 := ldI (h := hget [(1, .cells (iL R1))]) (id := 1) (l := R1) rfl ga1
              have ldb1 := ldI (h := hget [(1, .cells (iL R1))]) (id := 1) (l := R1) rfl gb1
              have bn : nvr = 1073741824 := rfl
              have wa : some (⟨.int .i64 (IntKind.i64.wrap (da + w)), []⟩ : Out) = some ⟨.int .i64 (da + w), []⟩ := by rw [wrap64 (by omega) (by omega)]
              have wb : some (⟨.int .i64 (IntKind.i64.wrap (db1 + w)), []⟩ : Out) = some ⟨.int .i64 (db1 + w), []⟩ := by rw [wrap64 (by omega) (by omega)]
              have mb := minV (x := db) (y := da + w) rfl
              have ma := minV (x := da1) (y := db1 + w) rfl
              generalize min db (da + w) = B at *
              generalize min da1 (db1 + w) = A at *
              have stb := stI (h := hget [(1, .cells (iL R))]) (id := 1) (l := R) (k := x.b.toNat) (x := B) rfl (by omega)
              have sta := stI (h := hget [(1, .cells (iL R1))]) (id := 1) (l := R1) (k := x.a.toNat) (x := A) rfl (by omega)
              have eF : some (AObj.cells (iL R2)) = some (.cells (iL (rowI (nR s) (preC (edgs s.gates ds) (rowAt r t) k (j + 1))))) := by rw [eF0]
              by_cases c1 : da = 1073741824
              · have n1 : (da != 1073741824) = false := by rw [c1]; rfl
                by_cases c2 : db1 = 1073741824
                · have n2 : (db1 != 1073741824) = false := by rw [c2]; rfl
                  rw [z2 c2, z1 c1] at eF
                  rw [z1 c1] at ldb1
                  exact ACode.vcM (.br 37 true <| .cells (cGt x) <| .val 44 (.vptr 1 x.a.toNat) [] <| .val 45 (.int .i64 da) [] <| .br 46 false <| .val 70 (.vptr 1 x.b.toNat) [] <| .val 71 (.int .i64 db1) [] <| .br 72 false .nil) hn hlo (.round .cl) ⟨c, idx hx, Eq.trans (by kernel_rfl) ixa, Eq.trans (by kernel_rfl) lda, n1, Eq.trans (by kernel_rfl) ixb, Eq.trans (by kernel_rfl) ldb1, n2, j + 1, hlj, mu1 hlj, St.le.of ⟨by kernel_rfl, rfl, by kernel_rfl, rfl, by kernel_rfl, rfl, by kernel_rfl, rfl, by kernel_rfl, rfl, by kernel_rfl, rfl, by kernel_rfl, rfl, by kernel_rfl, rfl, by kernel_rfl, rfl, Eq.trans (by kernel_rfl) ej, rfl, trivial⟩ ⟨by kernel_rfl, (by decide : (0 : Nat) < 2), by kernel_rfl, Eq.trans (by kernel_rfl) eF, (by decide : (1 : Nat) < 2), iL_ok _ _, trivial⟩⟩
                · have n2 : (db1 != 1073741824) = true := bne_iff_ne.2 c2
                  rw [s2 c2, z1 c1] at sta
                  rw [z1 c1] at ldb1 lda1
                  exact ACode.vcM (.br 37 true <| .cells (cGt x) <| .val 44 (.vptr 1 x.a.toNat) [] <| .val 45 (.int .i64 da) [] <| .br 46 false <| .val 70 (.vptr 1 x.b.toNat) [] <| .val 71 (.int .i64 db1) [] <| .br 72 true <| .draw 19 <| .val 79 (.vptr 1 x.a.toNat) [] <| .val 80 (.int .i64 da1) [] <| .val 84 (.vptr 1 x.b.toNat) [] <| .val 85 (.int .i64 db1) [] <| .cells (encI w) <| .val 90 (.int .i64 (db1 + w)) [] <| .val 91 (.int .i64 A) [] <| .val 92 (.vptr 1 x.a.toNat) [] <| .val 1 .undef [(1, some (.cells (iL R2)))] .nil) hn hlo (.round .cl) ⟨c, idx hx, Eq.trans (by kernel_rfl) ixa, Eq.trans (by kernel_rfl) lda, n1, Eq.trans (by kernel_rfl) ixb, Eq.trans (by kernel_rfl) ldb1, n2, by kernel_rfl, mixed, by kernel_rfl, Eq.trans (by kernel_rfl) ixa, Eq.trans (by kernel_rfl) lda1, Eq.trans (by kernel_rfl) ixb, Eq.trans (by kernel_rfl) ldb1, idx hw, Eq.trans (by kernel_rfl) wb, Eq.trans (by kernel_rfl) ma, by kernel_rfl, Eq.trans (by kernel_rfl) ixa, Eq.trans (by kernel_rfl) sta, j + 1, hlj, mu1 hlj, St.le.of ⟨by kernel_rfl, rfl, by kernel_rfl, rfl, by kernel_rfl, rfl, by kernel_rfl, rfl, by kernel_rfl, rfl, by kernel_rfl, rfl, by kernel_rfl, rfl, by kernel_rfl, rfl, by kernel_rfl, rfl, Eq.trans (by kernel_rfl) ej, rfl, trivial⟩ ⟨by kernel_rfl, (by decide : (0 : Nat) < 2), by kernel_rfl, Eq.trans (by kernel_rfl) eF, (by decide : (1 : Nat) < 2), iL_ok _ _, trivial⟩⟩
              · have n1 : (da != 1073741824) = true := bne_iff_ne.2 c1
                rw [s1 c1] at stb
                by_cases c2 : db1 = 1073741824
                · have n2 : (db1 != 1073741824) = false := by rw [c2]; rfl
                  rw [z2 c2] at eF
                  exact ACode.vcM (.br 37 true <| .cells (cGt x) <| .val 44 (.vptr 1 x.a.toNat) [] <| .val 45 (.int .i64 da) [] <| .br 46 true <| .draw 19 <| .val 53 (.vptr 1 x.b.toNat) [] <| .val 54 (.int .i64 db) [] <| .val 58 (.vptr 1 x.a.toNat) [] <| .val 59 (.int .i64 da) [] <| .cells (encI w) <| .val 64 (.int .i64 (da + w)) [] <| .val 65 (.int .i64 B) [] <| .val 66 (.vptr 1 x.b.toNat) [] <| .val 1 .undef [(1, some (.cells (iL R1)))] <| .val 70 (.vptr 1 x.b.toNat) [] <| .val 71 (.int .i64 db1) [] <| .br 72 false .nil) hn hlo (.round .cl) ⟨c, idx hx, Eq.trans (by kernel_rfl) ixa, Eq.trans (by kernel_rfl) lda, n1, by kernel_rfl, mixed, by kernel_rfl, Eq.trans (by kernel_rfl) ixb, Eq.trans (by kernel_rfl) ldb, Eq.trans (by kernel_rfl) ixa, Eq.trans (by kernel_rfl) lda, idx hw, Eq.trans (by kernel_rfl) wa, Eq.trans (by kernel_rfl) mb, by kernel_rfl, Eq.trans (by kernel_rfl) ixb, Eq.trans (by kernel_rfl) stb, Eq.trans (by kernel_rfl) ixb, Eq.trans (by kernel_rfl) ldb1, n2, j + 1, hlj, mu1 hlj, St.le.of ⟨by kernel_rfl, rfl, by kernel_rfl, rfl, by kernel_rfl, rfl, by kernel_rfl, rfl, by kernel_rfl, rfl, by kernel_rfl, rfl, by kernel_rfl, rfl, by kernel_rfl, rfl, by kernel_rfl, rfl, Eq.trans (by kernel_rfl) ej, rfl, trivial⟩ ⟨by kernel_rfl, (by decide : (0 : Nat) < 2), by kernel_rfl, Eq.trans (by kernel_rfl) eF, (by decide : (1 : Nat) < 2), iL_ok _ _, trivial⟩⟩
                · have n2 : (db1 != 1073741824) = true := bne_iff_ne.2 c2
                  rw [s2 c2] at sta
                  exact ACode.vcM (.br 37 true <| .cells (cGt x) <| .val 44 (.vptr 1 x.a.toNat) [] <| .val 45 (.int .i64 da) [] <| .br 46 true <| .draw 19 <| .val 53 (.vptr 1 x.b.toNat) [] <| .val 54 (.int .i64 db) [] <| .val 58 (.vptr 1 x.a.toNat) [] <| .val 59 (.int .i64 da) [] <| .cells (encI w) <| .val 64 (.int .i64 (da + w)) [] <| .val 65 (.int .i64 B) [] <| .val 66 (.vptr 1 x.b.toNat) [] <| .val 1 .undef [(1, some (.cells (iL R1)))] <| .val 70 (.vptr 1 x.b.toNat) [] <| .val 71 (.int .i64 db1) [] <| .br 72 true <| .draw 19 <| .val 79 (.vptr 1 x.a.toNat) [] <| .val 80 (.int .i64 da1) [] <| .val 84 (.vptr 1 x.b.toNat) [] <| .val 85 (.int .i64 db1) [] <| .cells (encI w) <| .val 90 (.int .i64 (db1 + w)) [] <| .val 91 (.int .i64 A) [] <| .val 92 (.vptr 1 x.a.toNat) [] <| .val 1 .undef [(1, some (.cells (iL R2)))] .nil) hn hlo (.round .cl) ⟨c, idx hx, Eq.trans (by kernel_rfl) ixa, Eq.trans (by kernel_rfl) lda, n1, by kernel_rfl, mixed, by kernel_rfl, Eq.trans (by kernel_rfl) ixb, Eq.trans (by kernel_rfl) ldb, Eq.trans (by kernel_rfl) ixa, Eq.trans (by kernel_rfl) lda, idx hw, Eq.trans (by kernel_rfl) wa, Eq.trans (by kernel_rfl) mb, by kernel_rfl, Eq.trans (by kernel_rfl) ixb, Eq.trans (by kernel_rfl) stb, Eq.trans (by kernel_rfl) ixb, Eq.trans (by kernel_rfl) ldb1, n2, by kernel_rfl, mixed, by kernel_rfl, Eq.trans (by kernel_rfl) ixa, Eq.trans (by kernel_rfl) lda1, Eq.trans (by kernel_rfl) ixb, Eq.trans (by kernel_rfl) ldb1, idx hw, Eq.trans (by kernel_rfl) wb, Eq.trans (by kernel_rfl) ma, by kernel_rfl, Eq.trans (by kernel_rfl) ixa, Eq.trans (by kernel_rfl) sta, j + 1, hlj, mu1 hlj, St.le.of ⟨by kernel_rfl, rfl, by kernel_rfl, rfl, by kernel_rfl, rfl, by kernel_rfl, rfl, by kernel_rfl, rfl, by kernel_rfl, rfl, by kernel_rfl, rfl, by kernel_rfl, rfl, by kernel_rfl, rfl, Eq.trans (by kernel_rfl) ej, rfl, trivial⟩ ⟨by kernel_rfl, (by decide : (0 : Nat) < 2), by kernel_rfl, Eq.trans (by kernel_rfl) eF, (by decide : (1 : Nat) < 2), iL_ok _ _, trivial⟩⟩
            · have e1 : some (AObj.cells (iL (rowI (nR s) (preC (edgs s.gates ds) (rowAt r t) k j)))) = some (.cells (iL (rowI (nR s) (comeV nvr (edgs s.gates ds) (k + 1) (rowAt r t))))) := by rw [prc_end (by omega)]
              exact ACode.vcM (.br 37 false .nil) hn hlo (.round .cl) ⟨geLen hlj, _, .refl _, .nil, k + 1, hlt, mu1 hlt,
                St.le.of ⟨by kernel_rfl, rfl, by kernel_rfl, rfl, by kernel_rfl, rfl, by kernel_rfl, rfl, by kernel_rfl, rfl, by kernel_rfl, rfl, Eq.trans (by kernel_rfl) ek, rfl, trivial⟩ ⟨by kernel_rfl, (by decide : (0 : Nat) < 2), by kernel_rfl, Eq.trans (by kernel_rfl) e1, (by decide : (1 : Nat) < 2), iL_ok _ _, trivial⟩⟩
        · have c : decide ((k : Int) < s.rooms) = false := decide_eq_false (by omega)
          have hk' : k = nR s := by omega
          have th := fun (h : Nat → Option AObj) (h0 : h 1 = some (.cells (iL (rowI (nR s) (comeV nvr (edgs s.gates ds) k (rowAt r t)))))) => (show thawF 8 h (.rsl 1 0 (nR s) 1) = some (encR (rowI (nR s) (comeP s ds r t)), [1]) by
            have e := thawF_ints 6 h0
            rw [rowI_len, hk'] at e; exact e)
          exact ACode.vcM (.br 32 false .nil) hn hlo (.round .cl) ⟨c, _, .refl _, .nil, [1], th _ (by kernel_rfl)⟩
end Go.Proofs.YtjoagmjijbfjkaaGreatDoor
/-
  WHAT IS SO, WHAT IS INSIDE, WHAT IS A TRUTH, as the laws ask it.
-/
namespace Go.Proofs.YtjoagmjijbfjkaaGreatDoor
open Go Go.Am
set_option maxRecDepth 100000
set_option maxHeartbeats 4000000
theorem so1 (s : Scn) (_hf : 0 ≤ s.fin ∧ s.fin ≤ 100000) (i r x lo hi l : Int) (fl : List Int) {c : Int} (_hc : 0 ≤ c ∧ c ≤ nvr) (hr : 0 ≤ r ∧ (fl.map encI)[r.toNat]? = some (encI c)) :
    APure Tryz.prog 40 [encSc s, .agg (cMj i 1 r x lo hi l), encR fl] (.bool (decide (c ≥ lo) && decide (c ≤ hi))) := by
  by_cases q : c ≥ lo
  · have e : (decide (c ≥ lo) && decide (c ≤ hi)) = decide (c ≤ hi) := by rw [decide_eq_true q]; rfl
    rw [e]
    exact APure.vc Tryz.func40 rfl (.cells (encI c) <| .br 22 true .nil) rfl rfl ⟨hr, decide_eq_true q, trivial, by kernel_rfl⟩
  · have e : (decide (c ≥ lo) && decide (c ≤ hi)) = false := by rw [decide_eq_false q]; rfl
    rw [e]
    exact APure.vc Tryz.func40 rfl (.cells (encI c) <| .br 22 false .nil) rfl rfl ⟨hr, decide_eq_false q, trivial, by kernel_rfl⟩
theorem so2 (s : Scn) (_hf : 0 ≤ s.fin ∧ s.fin ≤ 100000) (i r x lo hi l : Int) (fl : List Int) {c : Int} (_hc : 0 ≤ c ∧ c ≤ nvr) (hr : 0 ≤ r ∧ (fl.map encI)[r.toNat]? = some (encI c)) :
    APure Tryz.prog 40 [encSc s, .agg (cMj i 2 r x lo hi l), encR fl] (.bool (decide (c > lo))) := by
  exact APure.vc Tryz.func40 rfl (.cells (encI c) .nil) rfl rfl ⟨hr, trivial, by kernel_rfl⟩
theorem so3 (s : Scn) (_hf : 0 ≤ s.fin ∧ s.fin ≤ 100000) (i r x lo hi l : Int) (fl : List Int) {c : Int} (_hc : 0 ≤ c ∧ c ≤ nvr) (hr : 0 ≤ r ∧ (fl.map encI)[r.toNat]? = some (encI c)) :
    APure Tryz.prog 40 [encSc s, .agg (cMj i 3 r x lo hi l), encR fl] (.bool (decide (c ≤ hi))) := by
  exact APure.vc Tryz.func40 rfl (.cells (encI c) .nil) rfl rfl ⟨hr, trivial, by kernel_rfl⟩
theorem so4 (s : Scn) (_hf : 0 ≤ s.fin ∧ s.fin ≤ 100000) (i r x lo hi l : Int) (fl : List Int) {c : Int} (_hc : 0 ≤ c ∧ c ≤ nvr) (hr : 0 ≤ r ∧ (fl.map encI)[r.toNat]? = some (encI c)) :
    APure Tryz.prog 40 [encSc s, .agg (cMj i 4 r x lo hi l), encR fl] (.bool (!(c == nvr) && decide (s.fin - c ≥ l))) := by
  have bn : nvr = 1073741824 := rfl
  have h1 : IntKind.i64.wrap (s.fin - c) = s.fin - c := wrap64 (by omega) (by omega)
  by_cases q : c = nvr
  · have e : (!(c == nvr) && decide (s.fin - c ≥ l)) = false := by rw [q, beq_self_eq_true]; rfl
    have b : (c != 1073741824) = false := by rw [q]; rfl
    rw [e]
    exact APure.vc Tryz.func40 rfl (.cells (encI c) <| .br 47 false .nil) rfl rfl ⟨hr, b, trivial, by kernel_rfl⟩
  · have e : (!(c == nvr) && decide (s.fin - c ≥ l)) = decide (s.fin - c ≥ l) := by rw [beq_eq_false_iff_ne.2 q]; rfl
    have b : (c != 1073741824) = true := bne_iff_ne.2 q
    have z : some (AV.bool (decide (IntKind.i64.wrap (s.fin - c) ≥ l))) = some (.bool (decide (s.fin - c ≥ l))) := by rw [h1]
    rw [e]
    exact APure.vc Tryz.func40 rfl (.cells (encI c) <| .br 47 true .nil) rfl rfl ⟨hr, b, trivial, Eq.trans (by kernel_rfl) z⟩
theorem so5 (s : Scn) (_hf : 0 ≤ s.fin ∧ s.fin ≤ 100000) (i r x lo hi l : Int) (fl : List Int) {c : Int} (_hc : 0 ≤ c ∧ c ≤ nvr) (hr : 0 ≤ r ∧ (fl.map encI)[r.toNat]? = some (encI c)) :
    APure Tryz.prog 40 [encSc s, .agg (cMj i 5 r x lo hi l), encR fl] (.bool (c == nvr || decide (s.fin - c < l))) := by
  have bn : nvr = 1073741824 := rfl
  have h1 : IntKind.i64.wrap (s.fin - c) = s.fin - c := wrap64 (by omega) (by omega)
  by_cases q : c = nvr
  · have e : (c == nvr || decide (s.fin - c < l)) = true := by rw [q, beq_self_eq_true]; rfl
    have b : (c == 1073741824) = true := by rw [q]; rfl
    rw [e]
    exact APure.vc Tryz.func40 rfl (.cells (encI c) <| .br 60 true .nil) rfl rfl ⟨hr, b, trivial, by kernel_rfl⟩
  · have e : (c == nvr || decide (s.fin - c < l)) = decide (s.fin - c < l) := by rw [beq_eq_false_iff_ne.2 q]; rfl
    have b : (c == 1073741824) = false := beq_eq_false_iff_ne.2 q
    have z : some (AV.bool (decide (IntKind.i64.wrap (s.fin - c) < l))) = some (.bool (decide (s.fin - c < l))) := by rw [h1]
    rw [e]
    exact APure.vc Tryz.func40 rfl (.cells (encI c) <| .br 60 false .nil) rfl rfl ⟨hr, b, trivial, Eq.trans (by kernel_rfl) z⟩
theorem so6 (s : Scn) (i r x lo hi l : Int) (fl : List Int) {c e : Int} (hr : 0 ≤ r ∧ (fl.map encI)[r.toNat]? = some (encI c)) (hx : 0 ≤ x ∧ (fl.map encI)[x.toNat]? = some (encI e)) :
    APure Tryz.prog 40 [encSc s, .agg (cMj i 6 r x lo hi l), encR fl] (.bool (decide (c < e))) := by
  exact APure.vc Tryz.func40 rfl (.cells (encI c) <| .cells (encI e) .nil) rfl rfl ⟨hr, hx, trivial, by kernel_rfl⟩
theorem so_spec (s : Scn) (hf : 0 ≤ s.fin ∧ s.fin ≤ 100000) (m : Mk) (hk : 1 ≤ m.kd.val ∧ m.kd.val ≤ 6) (fl : List Int) {c e : Int} (hc : 0 ≤ c ∧ c ≤ nvr)
    (hr : 0 ≤ m.room ∧ (fl.map encI)[m.room.toNat]? = some (encI c)) (hx : 0 ≤ m.other ∧ (fl.map encI)[m.other.toNat]? = some (encI e)) :
    APure Tryz.prog 40 [encSc s, .agg (cMk m), encR fl] (.bool (soB m s.fin c e)) := by
  rw [cMk_eq]
  unfold soB
  by_cases k1 : m.kd.val = 1
  · have := so1 s hf m.id m.room m.other m.lo m.hi m.long fl hc hr
    rw [if_pos k1, k1]; exact this
  by_cases k2 : m.kd.val = 2
  · have := so2 s hf m.id m.room m.other m.lo m.hi m.long fl hc hr
    rw [if_neg k1, if_pos k2, k2]; exact this
  by_cases k3 : m.kd.val = 3
  · have := so3 s hf m.id m.room m.other m.lo m.hi m.long fl hc hr
    rw [if_neg k1, if_neg k2, if_pos k3, k3]; exact this
  by_cases k4 : m.kd.val = 4
  · have := so4 s hf m.id m.room m.other m.lo m.hi m.long fl hc hr
    rw [if_neg k1, if_neg k2, if_neg k3, if_pos k4, k4]; exact this
  by_cases k5 : m.kd.val = 5
  · have := so5 s hf m.id m.room m.other m.lo m.hi m.long fl hc hr
    rw [if_neg k1, if_neg k2, if_neg k3, if_neg k4, if_pos k5, k5]; exact this
  have k6 : m.kd.val = 6 := by omega
  have := so6 s m.id m.room m.other m.lo m.hi m.long fl hr hx
  rw [if_neg k1, if_neg k2, if_neg k3, if_neg k4, if_neg k5, k6]; exact this
/-! ### inside -/
def insP (n : Int) (x : Spn) : Bool := decide (n ≥ x.1) && decide (n ≤ x.2)
def insB (l : List Spn) (n : Int) : Bool := l.any (insP n)
theorem insB_iff {l : List Spn} {n : Int} : insB l n = true ↔ inL l n := by
  unfold insB inL insP inS
  simp [List.any_eq_true]
theorem ins_snoc {l : List Spn} {n : Int} {k : Nat} {x : Spn} (h : l[k]? = some x) : insB (l.take (k + 1)) n = (insB (l.take k) n || insP n x) := by
  unfold insB
  rw [List.take_add_one, h, List.any_append]; simp
theorem inside_spec (l : List Spn) (hl : l.length ≤ 100000) (n : Int) : APure Tryz.prog 36 [encSps l, .int .i64 n] (.bool (insB l n)) := by
  refine APure.vcM Tryz.func36 .loop rfl rfl ?_
  intro g hn hlo
  replace hn : g.n = 24 := hn
  replace hlo : g.low 0 := hlo
  refine acode_while (fun k : Nat => ⟨[(1, .int .i64 n), (7, encSps l), (8, .int .i64 (l.map cSp).length), (9, .int .i64 k)], [], 0⟩) (fun k => k ≤ l.length ∧ insB (l.take k) n = false) (fun k => l.length - k) 0 ⟨Nat.zero_le _, rfl⟩ ?_ (fun _ _ => hlo) ?_
  · exact St.le.of ⟨by kernel_rfl, rfl, by kernel_rfl, rfl, by kernel_rfl, rfl, by kernel_rfl, rfl, trivial⟩ trivial
  · rintro k ⟨hk, hno⟩
    replace hk : k ≤ l.length := hk
    by_cases hlt : k < l.length
    · refine Exists.elim (getE hlt) fun x hx => ?_
      have ek := congrArg (AV.int .i64) (succ64 (k := k) (by omega))
      have es := ins_snoc (n := n) hx
      rw [hno, Bool.false_or] at es
      have hin : insP n x = true → insB l n = true := fun q => by
        unfold insB; exact List.any_eq_true.2 ⟨x, List.mem_of_getElem? hx, q⟩
      by_cases q1 : n ≥ x.1
      · by_cases q2 : n ≤ x.2
        · have e : insB l n = true := hin (by unfold insP; rw [decide_eq_true q1, decide_eq_true q2]; rfl)
          exact ACode.vcM (.br 10 true <| .cells (cSp x) <| .br 17 true <| .br 22 true .nil) hn hlo (.round .cl) ⟨ltLen hlt, idx hx, decide_eq_true q1, decide_eq_true q2, _, .refl _, .nil, [], Eq.trans (by kernel_rfl) (show some (AV.bool true, ([] : List Nat)) = some (.bool (insB l n), []) by rw [e])⟩
        · have e : insB (l.take (k + 1)) n = false := by rw [es]; unfold insP; rw [decide_eq_true q1, decide_eq_false q2]; rfl
          exact ACode.vcM (.br 10 true <| .cells (cSp x) <| .br 17 true <| .br 22 false .nil) hn hlo (.round .cl) ⟨ltLen hlt, idx hx, decide_eq_true q1, decide_eq_false q2, k + 1, ⟨hlt, e⟩, mu1 hlt, St.le.of ⟨by kernel_rfl, rfl, by kernel_rfl, rfl, by kernel_rfl, rfl, Eq.trans (by kernel_rfl) ek, rfl, trivial⟩ trivial⟩
      · have e : insB (l.take (k + 1)) n = false := by rw [es]; unfold insP; rw [decide_eq_false q1]; rfl
        exact ACode.vcM (.br 10 true <| .cells (cSp x) <| .br 17 false .nil) hn hlo (.round .cl) ⟨ltLen hlt, idx hx, decide_eq_false q1, k + 1, ⟨hlt, e⟩, mu1 hlt, St.le.of ⟨by kernel_rfl, rfl, by kernel_rfl, rfl, by kernel_rfl, rfl, Eq.trans (by kernel_rfl) ek, rfl, trivial⟩ trivial⟩
    · have e : insB l n = false := by rw [List.take_of_length_le (by omega)] at hno; exact hno
      exact ACode.vcM (.br 10 false .nil) hn hlo (.round .cl) ⟨geLen hlt, _, .refl _, .nil, [], Eq.trans (by kernel_rfl) (show some (AV.bool false, ([] : List Nat)) = some (.bool (insB l n), []) by rw [e])⟩
/-! ### a truth is one -/
theorem are_get : ∀ {L : List Spn} {ds : List Int}, areD L ds → ∀ {i : Nat} {p : Spn} {w : Int}, L[i]? = some p → ds[i]? = some w → p.1 ≤ w ∧ w ≤ p.2 := by
  intro L
  induction L with
  | nil => intro ds _ i p w h; simp at h
  | cons a L ih =>
    intro ds hd i p w h1 h2
    cases ds with
    | nil => simp at h2
    | cons d ds =>
      obtain ⟨q1, q2⟩ := hd
      cases i with
      | zero => simp at h1 h2; subst h1; subst h2; exact q1
      | succ i => exact ih q2 (by simpa using h1) (by simpa using h2)
theorem truth_true (s : Scn) (hs : ScOk s) {r : Nat} (hr : r < nR s) {t : Int} {ds : List Int} (ht : trueB s r t ds) : APure Tryz.prog 37 [encSc s, .int .i64 (r : Int), .int .i64 t, encR ds] (.bool true) := by
  obtain ⟨ht0, hd, hso⟩ := ht
  have hdl := ds_len hs hd
  have hf := hs.fin
  have hgl := hs.gl
  have hml := hs.ml
  obtain ⟨hnr, hn1, hn6⟩ := nR_eq hs
  have cm := (comes_spec s hs ds hd hr (t := t) ⟨by omega, by omega⟩).pure
  have b1 : decide (t < 0) = false := decide_eq_false (by omega)
  have b2 : decide (t > s.fin) = false := decide_eq_false (by omega)
  have b3 : (((ds.map encI).length : Int) != ((s.gates.map cGt).length : Int)) = false := by rw [List.length_map, List.length_map, hdl]; exact bne_self_eq_false _
  refine APure.vcM Tryz.func37 (.br 16 false <| .br 22 false <| .br 29 false .loop) rfl rfl ⟨b1, b2, b3, ?_⟩
  intro g hn hlo
  replace hn : g.n = 75 := hn
  replace hlo : g.low 0 := hlo
  refine acode_while (fun i : Nat => ⟨[(1, .int .i64 (r : Int)), (2, .int .i64 t), (3, encR ds), (4, .vptr 0 0), (31, encGs s.gates), (32, .int .i64 (s.gates.map cGt).length), (33, .int .i64 i)], [(0, .cells (cSc s))], 1⟩) (fun i => i ≤ s.gates.length) (fun i => s.gates.length - i) 0 (Nat.zero_le _) ?_ (fun _ _ => hlo.mono (Nat.zero_le _)) ?_
  · exact St.le.of ⟨by kernel_rfl, rfl, by kernel_rfl, rfl, by kernel_rfl, rfl, by kernel_rfl, rfl, by kernel_rfl, rfl, by kernel_rfl, rfl, by kernel_rfl, rfl, trivial⟩ ⟨by kernel_rfl, (by decide : (0 : Nat) < 1), by kernel_rfl, trivial⟩
  · intro i hi
    replace hi : i ≤ s.gates.length := hi
    by_cases hlt : i < s.gates.length
    · refine Exists.elim (getE hlt) fun x hx => ?_
      refine Exists.elim (getE (show i < ds.length by omega)) fun w hw => ?_
      have ei := congrArg (AV.int .i64) (succ64 (k := i) (by omega))
      have hp : (gSp s.gates)[i]? = some (x.lo, x.hi) := by unfold gSp; rw [List.getElem?_map, hx]; rfl
      have hb := are_get hd hp hw
      have c1 : decide (w < x.lo) = false := decide_eq_false (by have := hb.1; dsimp only at this; omega)
      have c2 : decide (w > x.hi) = false := decide_eq_false (by have := hb.2; dsimp only at this; omega)
      exact ACode.vcM (.br 34 true <| .cells (cGt x) <| .draw 16 <| .cells (encI w) <| .br 46 false <| .cells (encI w) <| .br 55 false .nil) hn hlo (.round .cl) ⟨ltLen hlt, idx hx, by kernel_rfl, mixed, by kernel_rfl, idx hw, c1, idx hw, by kernel_rfl, c2, i + 1, hlt, mu1 hlt,
        St.le.of ⟨by kernel_rfl, rfl, by kernel_rfl, rfl, by kernel_rfl, rfl, by kernel_rfl, rfl, by kernel_rfl, rfl, by kernel_rfl, rfl, Eq.trans (by kernel_rfl) ei, rfl, trivial⟩ ⟨by kernel_rfl, (by decide : (0 : Nat) < 1), by kernel_rfl, trivial⟩⟩
    · refine ACode.vcM (.br 34 false .nil) hn hlo (.round .cl) ⟨geLen hlt, _, .refl _, .call (encR (rowI (nR s) (comeP s ds r t))) .loop, cm, ?_⟩
      intro g hn hlo
      replace hn : g.n = 75 := hn
      replace hlo : g.low 0 := hlo
      refine acode_while (fun i : Nat => ⟨[(4, .vptr 0 0), (11, encR (rowI (nR s) (comeP s ds r t))), (63, encMs s.marks), (64, .int .i64 (s.marks.map cMk).length), (65, .int .i64 i)], [(0, .cells (cSc s))], 1⟩) (fun i => i ≤ s.marks.length) (fun i => s.marks.length - i) 0 (Nat.zero_le _) ?_ (fun _ _ => hlo.mono (Nat.zero_le _)) ?_
      · exact St.le.of ⟨by kernel_rfl, rfl, by kernel_rfl, rfl, by kernel_rfl, rfl, by kernel_rfl, rfl, by kernel_rfl, rfl, trivial⟩ ⟨by kernel_rfl, (by decide : (0 : Nat) < 1), by kernel_rfl, trivial⟩
      · intro i hi
        replace hi : i ≤ s.marks.length := hi
        by_cases hlt : i < s.marks.length
        · refine Exists.elim (getE hlt) fun m hm => ?_
          have ei := congrArg (AV.int .i64) (succ64 (k := i) (by omega))
          have hmem := List.mem_of_getElem? hm
          obtain ⟨m1, m2, _, m4, m5, m6, _⟩ := mk_rooms hs hmem
          have hE0 : ∀ e ∈ edgs s.gates ds, 0 ≤ e.2.2 := fun e he => by
            have := (gok_of hs hd).lo e.1 e.2.1 e.2.2 (.inl he); exact this
          have hbd := bdN_come hE0 (bdN_at r (t := t) ⟨by omega, by omega⟩) (nR s)
          have g1 := rowI_get (comeP s ds r t) m1
          have g2 := rowI_get (comeP s ds r t) m2
          have sp := so_spec s ⟨hf.1, by omega⟩ m ⟨m5, m6⟩ (rowI (nR s) (comeP s ds r t)) (c := comeP s ds r t (mrk m).room) (e := comeP s ds r t (mrk m).other) (hbd _) ⟨m4.1, by rw [List.getElem?_map]; exact congrArg (Option.map encI) g1⟩ ⟨m4.2, by rw [List.getElem?_map]; exact congrArg (Option.map encI) g2⟩
          rw [hso m hmem] at sp
          exact ACode.vcM (.br 66 true <| .cells (cMk m) <| .call (.bool true) .nil) hn hlo (.round .cl) ⟨ltLen hlt, idx hm, sp, i + 1, hlt, mu1 hlt,
            St.le.of ⟨by kernel_rfl, rfl, by kernel_rfl, rfl, by kernel_rfl, rfl, by kernel_rfl, rfl, Eq.trans (by kernel_rfl) ei, rfl, trivial⟩ ⟨by kernel_rfl, (by decide : (0 : Nat) < 1), by kernel_rfl, trivial⟩⟩
        · exact ACode.vcM (.br 66 false .nil) hn hlo (.round .cl) ⟨geLen hlt, _, .refl _, .nil, [], by kernel_rfl⟩
end Go.Proofs.YtjoagmjijbfjkaaGreatDoor
/-
  ALL LATER BY SOME MINUTES; GATES IN ANOTHER ORDER, FROM THE OTHER SIDE: plain.
-/
namespace Go.Proofs.YtjoagmjijbfjkaaGreatDoor
open Go Go.Am
set_option maxRecDepth 100000
theorem befL_asym : ∀ {a b : List Int}, befD a b → ¬ befD b a := by
  intro a
  induction a with
  | nil => intro b h; cases b <;> cases h
  | cons x a ih =>
    intro b h q
    cases b with
    | nil => cases h
    | cons y b =>
      rcases h with h | ⟨h1, h2⟩
      · rcases q with q | ⟨q1, _⟩ <;> omega
      · rcases q with q | ⟨_, q2⟩
        · omega
        · exact ih h2 q2
theorem tru_cg {s s' : Scn} (hs : ScOk s) (hs' : ScOk s') {room : Nat} (hr : room < nR s) (hr' : room < nR s') {t t' : Int} (h : ∀ ds, trueB s room t ds ↔ trueB s' room t' ds) : truP s room t = truP s' room t' := by
  cases e : truP s room t with
  | none =>
    symm
    rw [tru_none hs' hr', told_true hs' hr']
    rintro ⟨ds, q⟩
    exact (tru_none hs hr).1 e ((told_true hs hr).2 ⟨ds, (h ds).2 q⟩)
  | some d =>
    obtain ⟨a1, a2⟩ := tru_some hs hr e
    cases e' : truP s' room t' with
    | none => exact absurd ((told_true hs' hr').2 ⟨d, (h d).1 a1⟩) ((tru_none hs' hr').1 e')
    | some d' =>
      obtain ⟨b1, b2⟩ := tru_some hs' hr' e'
      rcases a2 d' ((h d').2 b1) with q | q
      · rw [q]
      · rcases b2 d ((h d).1 a1) with p | p
        · rw [p]
        · exact absurd p (befL_asym q)
/-! ### all later -/
def movM (n : Int) (m : Mk) : Mk := if m.kd.val ≤ 3 then { m with lo := m.lo + n, hi := m.hi + n } else m
def movS (s : Scn) (n : Int) : Scn := { s with fin := s.fin + n, marks := s.marks.map (movM n) }
theorem mov_mrk (n : Int) (m : Mk) : (mrk (movM n m)).room = (mrk m).room ∧ (mrk (movM n m)).other = (mrk m).other := by
  unfold movM
  by_cases h : m.kd.val ≤ 3
  · rw [if_pos h]; exact ⟨rfl, rfl⟩
  · rw [if_neg h]; exact ⟨rfl, rfl⟩
theorem mov_so {n : Int} {m : Mk} {fin t : Int} {f e : Tm} (hm : 1 ≤ m.kd.val ∧ m.kd.val ≤ 6) (hn : 0 ≤ n ∧ n ≤ 600) (hl : m.lo ≤ 600 ∧ m.hi ≤ 600) (ht : t ≤ 600) (hf : ∀ c, f = some c → 0 ≤ c ∧ c ≤ 360) (he : ∀ c, e = some c → 0 ≤ c ∧ c ≤ 360) :
    soB (movM n m) (fin + n) (whenV nvr (t + n) f) (whenV nvr (t + n) e) = soB m fin (whenV nvr t f) (whenV nvr t e) := by
  have key : ∀ {x : Tm}, (∀ c, x = some c → 0 ≤ c ∧ c ≤ 360) → (whenV nvr t x = nvr ∧ whenV nvr (t + n) x = nvr) ∨ (whenV nvr (t + n) x = whenV nvr t x + n ∧ whenV nvr t x ≤ 960) := by
    intro x hx
    cases x with
    | none => exact .inl ⟨rfl, rfl⟩
    | some c =>
      have := hx c rfl
      refine .inr ⟨?_, ?_⟩
      · show t + n + c = t + c + n; omega
      · show t + c ≤ 960; omega
  have kf := key hf
  have ke := key he
  generalize whenV nvr t f = c at *
  generalize whenV nvr (t + n) f = c' at *
  generalize whenV nvr t e = d at *
  generalize whenV nvr (t + n) e = d' at *
  unfold movM
  have nv : nvr = 1073741824 := rfl
  by_cases k3 : m.kd.val ≤ 3
  · rw [if_pos k3]
    unfold soB
    dsimp only
    rw [Bool.eq_iff_iff]
    by_cases h1 : m.kd.val = 1
    · rw [if_pos h1, if_pos h1]
      simp only [Bool.and_eq_true, decide_eq_true_eq]
      omega
    rw [if_neg h1, if_neg h1]
    by_cases h2 : m.kd.val = 2
    · rw [if_pos h2, if_pos h2]
      simp only [decide_eq_true_eq]
      omega
    rw [if_neg h2, if_neg h2]
    by_cases h3 : m.kd.val = 3
    · rw [if_pos h3, if_pos h3]
      simp only [decide_eq_true_eq]
      omega
    omega
  · rw [if_neg k3]
    unfold soB
    have n1 : ¬ m.kd.val = 1 := by omega
    have n2 : ¬ m.kd.val = 2 := by omega
    have n3 : ¬ m.kd.val = 3 := by omega
    rw [if_neg n1, if_neg n1, if_neg n2, if_neg n2, if_neg n3, if_neg n3, Bool.eq_iff_iff]
    by_cases h4 : m.kd.val = 4
    · rw [if_pos h4, if_pos h4]
      simp only [Bool.and_eq_true, decide_eq_true_eq, Bool.not_eq_true', beq_eq_false_iff_ne]
      omega
    rw [if_neg h4, if_neg h4]
    by_cases h5 : m.kd.val = 5
    · rw [if_pos h5, if_pos h5]
      simp only [Bool.or_eq_true, decide_eq_true_eq, beq_iff_eq]
      omega
    rw [if_neg h5, if_neg h5]
    simp only [decide_eq_true_eq]
    omega
theorem mov_true {s : Scn} (h : ScOk s) {n : Int} (h0 : 0 ≤ n) (h' : ScOk (movS s n)) {room : Nat} (hr : room < nR s) {t : Int} (ht : 0 ≤ t) {ds : List Int} : trueB s room t ds ↔ trueB (movS s n) room (t + n) ds := by
  have hf := h.fin
  have hf' : 0 ≤ s.fin + n ∧ s.fin + n ≤ 600 := h'.fin
  have key : t ≤ s.fin → areD (gSp s.gates) ds → ∀ m ∈ s.marks, soB (movM n m) (s.fin + n) (comeP s ds room (t + n) (mrk (movM n m)).room) (comeP s ds room (t + n) (mrk (movM n m)).other) = soB m s.fin (comeP s ds room t (mrk m).room) (comeP s ds room t (mrk m).other) := by
    intro q hd m hm
    obtain ⟨m1, m2, m3, _, k1, k2, _⟩ := mk_rooms h hm
    obtain ⟨e1, e2⟩ := mov_mrk n m
    rw [e1, e2, come_when h hd hr m1 (by omega), come_when h hd hr m2 (by omega), come_when h hd hr m1 (by omega), come_when h hd hr m2 (by omega)]
    exact mov_so ⟨k1, k2⟩ ⟨h0, by omega⟩ m3 (by omega) (fun c e => far_le h hd hr m1 e) (fun c e => far_le h hd hr m2 e)
  constructor
  · rintro ⟨⟨_, q2⟩, hd, q⟩
    refine ⟨⟨by omega, by show t + n ≤ s.fin + n; omega⟩, hd, fun x hx => ?_⟩
    obtain ⟨m, hm, rfl⟩ := List.mem_map.1 (show x ∈ s.marks.map (movM n) from hx)
    exact (key q2 hd m hm).trans (q m hm)
  · rintro ⟨⟨_, q2⟩, hd, q⟩
    have q2 : t + n ≤ s.fin + n := q2
    refine ⟨⟨ht, by omega⟩, hd, fun m hm => ?_⟩
    exact (key (by omega) hd m hm).symm.trans (q (movM n m) (List.mem_map.2 ⟨m, hm, rfl⟩))
theorem mov_tru {s : Scn} (h : ScOk s) {n : Int} (h0 : 0 ≤ n) (h' : ScOk (movS s n)) {room : Nat} (hr : room < nR s) {t : Int} (ht : 0 ≤ t) : truP (movS s n) room (t + n) = truP s room t :=
  (tru_cg h h' hr hr fun _ => mov_true h h0 h' hr ht).symm
/-! ### gates turned -/
theorem Way.cg {E E' : List Edg} (h : ∀ a b w, St1 E a b w → St1 E' a b w) {S : Nat → Prop} {a b : Nat} {c : Int} (q : Way E S a b c) : Way E' S a b c := by
  induction q with
  | none a => exact .none a
  | one s => exact .one (h _ _ _ s)
  | cons s x _ ih => exact .cons (h _ _ _ s) x ih
theorem far_cg {n : Nat} {E E' : List Edg} (g : GOk n E) (g' : GOk n E') (h : ∀ a b w, St1 E a b w ↔ St1 E' a b w) {r x : Nat} (hr : r < n) (hx : x < n) : farV E (pairsOf n) n r x = farV E' (pairsOf n) n r x := by
  have key : ∀ {E E' : List Edg}, GOk n E → GOk n E' → (∀ a b w, St1 E a b w → St1 E' a b w) → ∀ {c}, farV E (pairsOf n) n r x = some c → leN (farV E' (pairsOf n) n r x) c := by
    intro E E' g g' h c e
    obtain ⟨b1, b2, b3⟩ := base_ok (n := n) E
    obtain ⟨d1, d2, d3⟩ := base_ok (n := n) E'
    have w := (floyd_snd (fun p hp => (pairs_mem (a := p.1) (b := p.2)).1 hp) b3 n (Nat.le_refl _) r x c hr hx e)
    exact floyd_le g'.lo (fun a b ha hb => pairs_mem.2 ⟨ha, hb⟩) d1 d2 n (Nat.le_refl _) r x c hr hx ((w.cg h).inN g'.room)
  cases e : farV E (pairsOf n) n r x with
  | none =>
    cases e' : farV E' (pairsOf n) n r x with
    | none => rfl
    | some c' =>
      obtain ⟨y, hy, _⟩ := key g' g (fun a b w => (h a b w).2) e'
      rw [e] at hy; cases hy
  | some c =>
    obtain ⟨y, hy, h1⟩ := key g g' (fun a b w => (h a b w).1) e
    obtain ⟨z, hz, h2⟩ := key g' g (fun a b w => (h a b w).2) hy
    rw [e] at hz
    cases hz
    rw [hy]
    have : c = y := by omega
    rw [this]
def swG (g : Gt) : Gt := ⟨g.b, g.a, g.lo, g.hi⟩
def trnG (l : List Gt) (k : Nat) : List Gt := (l.drop k ++ l.take k).map swG
def trnS (s : Scn) (k : Nat) : Scn := { s with gates := trnG s.gates k }
theorem trn_ok {s : Scn} (h : ScOk s) (k : Nat) : ScOk (trnS s k) := by
  refine ⟨h.rooms, h.fin, ?_, fun g hg => ?_, h.ml, h.inc, h.ms⟩
  · show (trnG s.gates k).length ≤ 6
    have := h.gl
    unfold trnG
    rw [List.length_map, List.length_append, List.length_drop, List.length_take]; omega
  · obtain ⟨x, hx, rfl⟩ := List.mem_map.1 (show g ∈ (s.gates.drop k ++ s.gates.take k).map swG from hg)
    have hx : x ∈ s.gates := by
      rcases List.mem_append.1 hx with q | q
      · exact List.mem_of_mem_drop q
      · exact List.mem_of_mem_take q
    obtain ⟨q1, q2, q3, q4⟩ := gtB_iff.1 (h.gs x hx)
    exact gtB_iff.2 ⟨q2, q1, fun e => q3 e.symm, q4⟩
theorem areL_len : ∀ {g : List Spn} {d : List Int}, areD g d → d.length = g.length := by
  intro g
  induction g with
  | nil => intro d h; cases d with
    | nil => rfl
    | cons x d => cases h
  | cons s g ih => intro d h; cases d with
    | nil => cases h
    | cons x d => rw [List.length_cons, List.length_cons, ih h.2]
theorem are_app : ∀ {g1 g2 : List Spn} {d1 d2 : List Int}, areD g1 d1 → areD g2 d2 → areD (g1 ++ g2) (d1 ++ d2) := by
  intro g1
  induction g1 with
  | nil => intro g2 d1 d2 h1 h2; cases d1 with
    | nil => exact h2
    | cons x d => cases h1
  | cons s g ih => intro g2 d1 d2 h1 h2; cases d1 with
    | nil => cases h1
    | cons x d => exact ⟨h1.1, ih h1.2 h2⟩
theorem are_split : ∀ {g1 g2 : List Spn} {d : List Int}, areD (g1 ++ g2) d → ∃ d1 d2, d = d1 ++ d2 ∧ areD g1 d1 ∧ areD g2 d2 := by
  intro g1
  induction g1 with
  | nil => intro g2 d h; exact ⟨[], d, rfl, trivial, h⟩
  | cons s g ih => intro g2 d h; cases d with
    | nil => cases h
    | cons x d =>
      obtain ⟨d1, d2, rfl, q1, q2⟩ := ih h.2
      exact ⟨x :: d1, d2, rfl, ⟨h.1, q1⟩, q2⟩
theorem edgs_app {A B : List Gt} {dA dB : List Int} (h : dA.length = A.length) : edgs (A ++ B) (dA ++ dB) = edgs A dA ++ edgs B dB := by
  unfold edgs
  exact List.zipWith_append (by omega)
def swE (e : Edg) : Edg := (e.2.1, e.1, e.2.2)
theorem edgs_sw : ∀ (A : List Gt) (d : List Int), edgs (A.map swG) d = (edgs A d).map swE := by
  intro A
  induction A with
  | nil => intro d; rfl
  | cons g A ih => intro d; cases d with
    | nil => rfl
    | cons x d =>
      show edgOf (swG g) x :: edgs (A.map swG) d = swE (edgOf g x) :: (edgs A d).map swE
      rw [ih]; rfl
theorem mem_sw {E : List Edg} {a b : Nat} {w : Int} : (a, b, w) ∈ E.map swE ↔ (b, a, w) ∈ E := by
  constructor
  · intro h
    obtain ⟨e, he, q⟩ := List.mem_map.1 h
    obtain ⟨x, y, z⟩ := e
    cases q
    exact he
  · intro h
    exact List.mem_map.2 ⟨_, h, rfl⟩
theorem gSp_sw (l : List Gt) : gSp (l.map swG) = gSp l := by
  unfold gSp; rw [List.map_map]; rfl
theorem St1.sw {E1 E2 : List Edg} {a b : Nat} {w : Int} : St1 (E1 ++ E2) a b w ↔ St1 ((E2 ++ E1).map swE) a b w := by
  unfold St1
  rw [mem_sw, mem_sw]
  simp only [List.mem_append]
  constructor
  · rintro ((q | q) | (q | q))
    · exact .inr (.inr q)
    · exact .inr (.inl q)
    · exact .inl (.inr q)
    · exact .inl (.inl q)
  · rintro ((q | q) | (q | q))
    · exact .inr (.inr q)
    · exact .inr (.inl q)
    · exact .inl (.inr q)
    · exact .inl (.inl q)
theorem trn_come {s : Scn} (h : ScOk s) {k : Nat} {ds ds' : List Int} (hd : areD (gSp s.gates) ds) (hd' : areD (gSp (trnS s k).gates) ds') (hE : ∀ a b w, St1 (edgs s.gates ds) a b w ↔ St1 (edgs (trnS s k).gates ds') a b w)
    {room : Nat} (hr : room < nR s) {t : Int} (ht : t ≤ 600) {x : Nat} (hx : x < nR s) : comeP (trnS s k) ds' room t x = comeP s ds room t x := by
  have h' := trn_ok h k
  rw [come_when h hd hr hx ht, come_when h' hd' hr hx ht]
  have := far_cg (gok_of h hd) (gok_of h' hd') hE hr hx
  unfold farP
  rw [this]; rfl
theorem trn_one {s : Scn} (h : ScOk s) {k : Nat} {ds ds' : List Int} (hd : areD (gSp s.gates) ds) (hd' : areD (gSp (trnS s k).gates) ds') (hE : ∀ a b w, St1 (edgs s.gates ds) a b w ↔ St1 (edgs (trnS s k).gates ds') a b w)
    {room : Nat} (hr : room < nR s) {t : Int} : trueB s room t ds ↔ trueB (trnS s k) room t ds' := by
  have hf := h.fin
  have key : t ≤ s.fin → ∀ m ∈ s.marks, soB m s.fin (comeP (trnS s k) ds' room t (mrk m).room) (comeP (trnS s k) ds' room t (mrk m).other) = soB m s.fin (comeP s ds room t (mrk m).room) (comeP s ds room t (mrk m).other) := fun q m hm => by
    obtain ⟨m1, m2, _⟩ := mk_rooms h hm
    rw [trn_come h hd hd' hE hr (by omega) m1, trn_come h hd hd' hE hr (by omega) m2]
  constructor
  · rintro ⟨q, _, p⟩
    exact ⟨q, hd', fun m hm => (key q.2 m hm).trans (p m hm)⟩
  · rintro ⟨q, _, p⟩
    exact ⟨q, hd, fun m hm => (key q.2 m hm).symm.trans (p m hm)⟩
theorem trn_ex {s : Scn} (h : ScOk s) (k : Nat) {room : Nat} (hr : room < nR s) {t : Int} : (∃ ds, trueB s room t ds) ↔ ∃ ds, trueB (trnS s k) room t ds := by
  have eg : s.gates = s.gates.take k ++ s.gates.drop k := (List.take_append_drop k s.gates).symm
  have eg' : (trnS s k).gates = (s.gates.drop k ++ s.gates.take k).map swG := rfl
  have two : ∀ {dA dB : List Int}, areD (gSp (s.gates.take k)) dA → areD (gSp (s.gates.drop k)) dB →
      areD (gSp s.gates) (dA ++ dB) ∧ areD (gSp (trnS s k).gates) (dB ++ dA) ∧ ∀ a b w, St1 (edgs s.gates (dA ++ dB)) a b w ↔ St1 (edgs (trnS s k).gates (dB ++ dA)) a b w := by
    intro dA dB hA hB
    have lA := areL_len hA
    have lB := areL_len hB
    have gm : ∀ l : List Gt, (gSp l).length = l.length := fun l => by unfold gSp; rw [List.length_map]
    rw [gm] at lA lB
    refine ⟨?_, ?_, fun a b w => ?_⟩
    · have := are_app hA hB
      unfold gSp at this ⊢
      rw [← List.map_append, ← eg] at this
      exact this
    · have := are_app hB hA
      rw [eg', gSp_sw]
      unfold gSp at this ⊢
      rw [← List.map_append] at this
      exact this
    · have e1 : edgs s.gates (dA ++ dB) = edgs (s.gates.take k) dA ++ edgs (s.gates.drop k) dB := by
        rw [← edgs_app lA, ← eg]
      have e2 : edgs (trnS s k).gates (dB ++ dA) = (edgs (s.gates.drop k) dB ++ edgs (s.gates.take k) dA).map swE := by
        rw [eg', edgs_sw, edgs_app lB]
      rw [e1, e2]
      exact St1.sw
  constructor
  · rintro ⟨ds, q⟩
    have hd := q.2.1
    have hd2 : areD (gSp (s.gates.take k) ++ gSp (s.gates.drop k)) ds := by
      unfold gSp at hd ⊢
      rw [← List.map_append, ← eg]; exact hd
    obtain ⟨dA, dB, rfl, hA, hB⟩ := are_split hd2
    obtain ⟨t1, t2, t3⟩ := two hA hB
    exact ⟨dB ++ dA, (trn_one h t1 t2 t3 hr).1 q⟩
  · rintro ⟨ds, q⟩
    have hd := q.2.1
    rw [eg', gSp_sw] at hd
    have hd2 : areD (gSp (s.gates.drop k) ++ gSp (s.gates.take k)) ds := by
      unfold gSp at hd ⊢
      rw [← List.map_append]; exact hd
    obtain ⟨dB, dA, rfl, hB, hA⟩ := are_split hd2
    obtain ⟨t1, t2, t3⟩ := two hA hB
    exact ⟨dA ++ dB, (trn_one h t1 t2 t3 hr).2 q⟩
theorem trn_told {s : Scn} (h : ScOk s) (k : Nat) {room : Nat} (hr : room < nR s) : toldP (trnS s k) room = toldP s room := by
  have h' := trn_ok h k
  refine canS_ext (told_ok _ room).1 (told_ok s room).1 fun n => ?_
  rw [told_true h hr, told_true h' hr]
  exact (trn_ex h k hr).symm
theorem trn_none {s : Scn} (h : ScOk s) (k : Nat) {room : Nat} (hr : room < nR s) {t : Int} : truP (trnS s k) room t = none ↔ truP s room t = none := by
  rw [tru_none h hr, tru_none (trn_ok h k) hr, trn_told h k hr]
end Go.Proofs.YtjoagmjijbfjkaaGreatDoor
/-
  THE LAW OF WHAT IS LATER.
-/
namespace Go.Proofs.YtjoagmjijbfjkaaGreatDoor
open Go Go.Am
set_option maxRecDepth 100000
set_option maxHeartbeats 4000000
/-! ### a list that is changed one by one -/
def mapK {α : Type} (f : α → α) (l : List α) (i : Nat) : List α := (l.take i).map f ++ l.drop i
theorem mapK_len {α : Type} (f : α → α) (l : List α) (i : Nat) : (mapK f l i).length = l.length := by
  unfold mapK; rw [List.length_append, List.length_map, List.length_take, List.length_drop]; omega
theorem mapK_zero {α : Type} (f : α → α) (l : List α) : mapK f l 0 = l := rfl
theorem mapK_all {α : Type} (f : α → α) (l : List α) : mapK f l l.length = l.map f := by
  unfold mapK; rw [List.take_length, List.drop_length, List.append_nil]
theorem mapK_get {α : Type} {f : α → α} {l : List α} {i : Nat} {a : α} (h : l[i]? = some a) : (mapK f l i)[i]? = some a := by
  have hi := (List.getElem?_eq_some_iff.1 h).1
  unfold mapK
  rw [List.getElem?_append_right (by rw [List.length_map, List.length_take]; omega), List.length_map, List.length_take, Nat.min_eq_left (by omega), Nat.sub_self, drop_cons h]
  rfl
theorem mapK_set {α : Type} {f : α → α} {l : List α} {i : Nat} {a : α} (h : l[i]? = some a) : (mapK f l i).set i (f a) = mapK f l (i + 1) := by
  have hi := (List.getElem?_eq_some_iff.1 h).1
  have hl : ((l.take i).map f).length = i := by rw [List.length_map, List.length_take]; omega
  unfold mapK
  rw [List.set_append_right _ _ (by omega), hl, Nat.sub_self, drop_cons h, List.set_cons_zero, take_snoc h, List.map_append, List.append_assoc]
  rfl
theorem mapK_same {α : Type} {f : α → α} {l : List α} {i : Nat} {a : α} (h : l[i]? = some a) (hf : f a = a) : mapK f l (i + 1) = mapK f l i := by
  rw [← mapK_set h, hf]
  refine List.ext_getElem? fun j => ?_
  rw [List.getElem?_set]
  by_cases e : i = j
  · subst e
    have := mapK_get (f := f) h
    rw [if_pos rfl, this, if_pos (List.getElem?_eq_some_iff.1 this).1]
  · rw [if_neg e]
/-! ### loads and stores of marks and gates -/
theorem flD {A B : List AV} (j : Nat) : (A ++ B).drop (A.length + j) = B.drop j := by
  rw [List.drop_append, List.drop_of_length_le (by omega), show A.length + j - A.length = j by omega, List.nil_append]
theorem flM_drop {l : List Mk} {k : Nat} {m : Mk} (hm : l[k]? = some m) (j : Nat) : (fl cMk l).drop (k * 7 + j) = (cMk m ++ fl cMk (l.drop (k + 1))).drop j := by
  obtain ⟨e1, e2⟩ := flM_split (List.getElem?_eq_some_iff.1 hm).1 hm
  rw [e1, ← e2]; exact flD j
theorem ldKd {h : Nat → Option AObj} {id k : Nat} {l : List Mk} {m : Mk} (h0 : h id = some (.cells (fl cMk l))) (hm : l[k]? = some m) : aLoad Tryz.prog h 5 (.vptr id (k * 7 + 1)) = some ⟨.int .u8 (m.kd.val : Int), []⟩ := by
  simp only [aLoad, ty5, h0, flM_drop hm 1]
  rfl
theorem ldLo {h : Nat → Option AObj} {id k : Nat} {l : List Mk} {m : Mk} (h0 : h id = some (.cells (fl cMk l))) (hm : l[k]? = some m) : aLoad Tryz.prog h 3 (.vptr id (k * 7 + 4)) = some ⟨.int .i64 m.lo, []⟩ := by
  simp only [aLoad, ty3, h0, flM_drop hm 4]
  rfl
theorem ldHiM {h : Nat → Option AObj} {id k : Nat} {l : List Mk} {m : Mk} (h0 : h id = some (.cells (fl cMk l))) (hm : l[k]? = some m) : aLoad Tryz.prog h 3 (.vptr id (k * 7 + 5)) = some ⟨.int .i64 m.hi, []⟩ := by
  simp only [aLoad, ty3, h0, flM_drop hm 5]
  rfl
theorem stAt {h : Nat → Option AObj} {id k : Nat} {l : List Mk} {m : Mk} {a b : Int} (h0 : h id = some (.cells (fl cMk l))) (hm : l[k]? = some m) :
    aStore Tryz.prog h 36 (.vptr id (k * 7 + 4)) (encSp (a, b)) = some ⟨.undef, [(id, some (.cells (fl cMk (l.set k { m with lo := a, hi := b }))))]⟩ := by
  have hk := (List.getElem?_eq_some_iff.1 hm).1
  obtain ⟨e1, e2⟩ := flM_split hk hm
  have hx : (l.set k { m with lo := a, hi := b })[k]? = some { m with lo := a, hi := b } := by rw [List.getElem?_set_self hk]
  obtain ⟨e3, e4⟩ := flM_split (l := l.set k { m with lo := a, hi := b }) (by rw [List.length_set]; exact hk) hx
  have t1 : (l.set k { m with lo := a, hi := b }).take k = l.take k := by rw [List.take_set_of_le (Nat.le_refl k)]
  have t2 : (l.set k { m with lo := a, hi := b }).drop (k + 1) = l.drop (k + 1) := by rw [List.drop_set_of_lt (Nat.lt_succ_self k)]
  rw [t1, t2] at e3
  have hl : k * 7 + 4 + 2 ≤ (fl cMk l).length := by rw [fl_len (enc := cMk) (n := 7) (fun _ => rfl)]; omega
  have es : splice (fl cMk l) (k * 7 + 4) [.int .i64 a, .int .i64 b] = fl cMk (l.set k { m with lo := a, hi := b }) := by
    rw [e3, e1, ← e2]
    exact splice_app _ [.int .i64 a, .int .i64 b] (cMk m ++ fl cMk (l.drop (k + 1))) 4
  simp only [encSp, aStore, ty36, acells, cSp, h0]
  rw [if_pos ⟨rfl, hl, rfl⟩, es]
theorem flG_split {l : List Gt} {k : Nat} (hk : k < l.length) {m : Gt} (hm : l[k]? = some m) : fl cGt l = fl cGt (l.take k) ++ (cGt m ++ fl cGt (l.drop (k + 1))) ∧ (fl cGt (l.take k)).length = k * 4 := by
  have e : l = l.take k ++ m :: l.drop (k + 1) := by rw [← drop_cons hm, List.take_append_drop]
  refine ⟨?_, by rw [fl_len (enc := cGt) (n := 4) (fun _ => rfl), List.length_take, Nat.min_eq_left (by omega)]⟩
  conv => lhs; rw [e]
  unfold fl; simp
theorem flG_drop {l : List Gt} {k : Nat} {m : Gt} (hm : l[k]? = some m) (j : Nat) : (fl cGt l).drop (k * 4 + j) = (cGt m ++ fl cGt (l.drop (k + 1))).drop j := by
  obtain ⟨e1, e2⟩ := flG_split (List.getElem?_eq_some_iff.1 hm).1 hm
  rw [e1, ← e2]; exact flD j
theorem ldGa {h : Nat → Option AObj} {id k : Nat} {l : List Gt} {m : Gt} (h0 : h id = some (.cells (fl cGt l))) (hm : l[k]? = some m) : aLoad Tryz.prog h 3 (.vptr id (k * 4)) = some ⟨.int .i64 m.a, []⟩ := by
  have e := flG_drop hm 0
  rw [Nat.add_zero] at e
  simp only [aLoad, ty3, h0, e]
  rfl
theorem ldGb {h : Nat → Option AObj} {id k : Nat} {l : List Gt} {m : Gt} (h0 : h id = some (.cells (fl cGt l))) (hm : l[k]? = some m) : aLoad Tryz.prog h 3 (.vptr id (k * 4 + 1)) = some ⟨.int .i64 m.b, []⟩ := by
  simp only [aLoad, ty3, h0, flG_drop hm 1]
  rfl
theorem stG {h : Nat → Option AObj} {id k j : Nat} {l : List Gt} {m m' : Gt} {a : Int} (h0 : h id = some (.cells (fl cGt l))) (hm : l[k]? = some m) (hj : j < 4) (he : (cGt m).set j (.int .i64 a) = cGt m') :
    aStore Tryz.prog h 3 (.vptr id (k * 4 + j)) (.int .i64 a) = some ⟨.undef, [(id, some (.cells (fl cGt (l.set k m'))))]⟩ := by
  have hk := (List.getElem?_eq_some_iff.1 hm).1
  obtain ⟨e1, e2⟩ := flG_split hk hm
  have hx : (l.set k m')[k]? = some m' := by rw [List.getElem?_set_self hk]
  obtain ⟨e3, e4⟩ := flG_split (l := l.set k m') (by rw [List.length_set]; exact hk) hx
  have t1 : (l.set k m').take k = l.take k := by rw [List.take_set_of_le (Nat.le_refl k)]
  have t2 : (l.set k m').drop (k + 1) = l.drop (k + 1) := by rw [List.drop_set_of_lt (Nat.lt_succ_self k)]
  rw [t1, t2] at e3
  have hl : k * 4 + j + 1 ≤ (fl cGt l).length := by rw [fl_len (enc := cGt) (n := 4) (fun _ => rfl)]; omega
  have es : splice (fl cGt l) (k * 4 + j) [.int .i64 a] = fl cGt (l.set k m') := by
    rw [e3, e1, ← e2, splice_app _ [.int .i64 a] (cGt m ++ fl cGt (l.drop (k + 1))) j, ← he]
    show fl cGt (l.take k) ++ (cGt m ++ fl cGt (l.drop (k + 1))).set j _ = _
    rw [List.set_append_left _ _ (show j < (cGt m).length from hj)]
  simp only [aStore, ty3, acells, h0]
  rw [if_pos ⟨rfl, hl, rfl⟩, es]
theorem ixG {h : Nat → Option AObj} {id n k : Nat} {i : Int} (hi : i = (k : Int)) (hk : k < n) : (aindexAddr Tryz.prog h 28 (.rsl id 0 n 4) (.int .i64 i)).map (fun v => (⟨v, []⟩ : Out)) = some ⟨.vptr id (k * 4), []⟩ := by
  subst hi
  simp only [aindexAddr, ty28, ty38]
  rw [if_pos ⟨trivial, Int.natCast_nonneg _, by simpa using hk⟩]
  simp
theorem app_gtsL {h : Nat → Option AObj} {i nid : Nat} {l m : List Gt} (h0 : h i = some (.cells (fl cGt l))) (hl : l.length + m.length ≤ 1000) :
    aAppend Tryz.prog h nid 28 28 (.rsl i 0 l.length 4) (.lst 4 (m.map cGt)) = some ⟨.rsl nid 0 (l.length + m.length) 4, [(i, none), (nid, some (.cells (fl cGt (l ++ m))))]⟩ := by
  have e : fl cGt (l ++ m) = fl cGt l ++ fl cGt m := by unfold fl; simp
  have hb : (fl cGt m).all cellB = true := fl_cellB (enc := cGt) (fun _ => rfl) m
  have hlen : (fl cGt l).length = l.length * 4 := fl_len (enc := cGt) (n := 4) (fun _ => rfl) l
  have hlm : (fl cGt m).length = m.length * 4 := fl_len (enc := cGt) (n := 4) (fun _ => rfl) m
  rw [app_exact h0 (by omega), e]
  simp only [aAppend0, ty28, ty38, srcCells, map_all (enc := cGt) (n := 4) (fun _ => rfl) m, fl_flatten, h0]
  simp [hlen]
  exact ⟨List.all_eq_true.1 hb, by omega⟩
theorem slTakeG {h : Nat → Option AObj} {l : List Gt} {k : Nat} {i : Int} (hi : i = (k : Int)) (hk : k ≤ l.length) : (aSlice Tryz.prog h 28 (encGs l) none (some (.int .i64 i))).map (fun v => (⟨v, []⟩ : Out)) = some ⟨encGs (l.take k), []⟩ := by
  subst hi
  simp only [aSlice, ty28, ty38, encGs, abound]
  simp [hk, List.map_take]
theorem slDropG {h : Nat → Option AObj} {l : List Gt} {k : Nat} {i : Int} (hi : i = (k : Int)) (hk : k ≤ l.length) : (aSlice Tryz.prog h 28 (encGs l) (some (.int .i64 i)) none).map (fun v => (⟨v, []⟩ : Out)) = some ⟨encGs (l.drop k), []⟩ := by
  subst hi
  simp only [aSlice, ty28, ty38, encGs, abound]
  have e : (l.map cGt).take l.length = l.map cGt := List.take_of_length_le (by simp)
  simp [hk, List.map_drop, e]
theorem thaw_Sg {h : Nat → Option AObj} {s : Scn} {T i : Nat} (hT : h T = some (.cells [.int .i64 s.rooms, .rsl i 0 s.gates.length 4, .int .i64 s.fin, encMs s.marks])) (hi : h i = some (.cells (fl cGt s.gates))) :
    thaw 8 h (.vptr T 0) = some (.cptr (cSc s), [T, i]) := by
  have e1 : thaw 7 h (.rsl i 0 s.gates.length 4) = some (encGs s.gates, [i]) := thaw_fl (enc := cGt) (n := 4) 5 (fun _ => rfl) (fun _ => rfl) hi
  have e2 : thaw 7 h (encMs s.marks) = some (encMs s.marks, []) := by unfold thaw; exact if_pos rfl
  have e3 : ∀ x : Int, thaw 7 h (.int .i64 x) = some (.int .i64 x, []) := fun x => by unfold thaw; exact if_pos rfl
  have e : thaw 8 h (.vptr T 0) = (match h T with
      | some (.cells cs) => (match mapO (thaw 7 h) cs with | some (cs', is) => some (.cptr (cs'.drop 0), T :: is) | none => none)
      | _ => none) := rfl
  rw [e, hT]
  simp only [mapO, e1, e2, e3]
  rfl
noncomputable def bodyLa : Code := (Tryz.f11.body).getD .skip
/-- What is answered of truths. -/
def trE (o : Option (List Int)) : Int := match o with | some _ => 0 | none => 91
theorem Tru_sub (s : Scn) (hs : ScOk s) {room : Nat} (hr : room < nR s) {RM : Int} (erm : RM = (room : Int)) (t : Int) : APure Tryz.prog 15 [encSc s, .int .i64 RM, .int .i64 t] (encLe ((truP s room t).getD []) (trE (truP s room t))) := by
  have m := Truth_ok s RM t
  have e0 : rmE s RM = 0 := by rw [erm]; exact rm_of hs hr
  unfold tvV tvE at m
  rw [if_pos e0, if_pos e0, erm, Int.toNat_natCast] at m
  rw [erm]
  exact m
theorem tru_len {s : Scn} (hs : ScOk s) {room : Nat} (hr : room < nR s) (t : Int) : ((truP s room t).getD []).length ≤ 1000 := by
  cases hT : truP s room t with
  | none => exact Nat.zero_le _
  | some d =>
    have hd := ds_len hs (tru_some hs hr hT).1.2.1
    have := hs.gl
    show d.length ≤ 1000; omega
theorem la6 {s : Scn} (hs : ScOk s) {room : Nat} {RM : Int} (hroom : room < nR s) (erm : RM = (room : Int)) {AT : Int} (k : Nat) {g : G} (hn : g.n = 221) (hlo0 : g.low 0) :
    ACode Tryz.prog none g (cdrop 14 bodyLa) (Ret Tryz.prog Tryz.f11 (.bool true)) ⟨[(5, .cptr (cSc s)), (11, .bool true), (12, .int .i64 RM), (13, .int .i64 AT), (19, .int .i64 (trE (truP s room AT))), (23, .cptr (cSc (trnS s k)))], [], 0⟩ := by
  have hT := trn_ok hs k
  have m1 := Min_sub s hs hroom erm
  have m2 := Min_sub (trnS s k) hT hroom erm
  rw [trn_told hs k hroom] at m2
  have t3 := Tru_sub (trnS s k) hT hroom erm AT
  have ss := SameSpans_self (toldP s room) (by have := toldL_len hs hroom; omega)
  have hno := trn_none hs k hroom (t := AT)
  have hty := fun d (e : truP (trnS s k) room AT = some d) => truth_true (trnS s k) hT hroom (tru_some hT hroom e).1
  rw [← erm] at hty
  generalize toldP s room = l at *
  cases h1 : truP s room AT with
  | none =>
    rw [hno.2 h1] at t3
    exact ACode.vcM (.call (.tup [encSps l, .int .i64 0]) <| .call (.tup [encSps l, .int .i64 0]) <| .call (encLe [] 91) <| .call (.bool true) .nil) hn hlo0 .ret ⟨m1, m2, t3, ss, trivial, by kernel_rfl⟩
  | some d =>
    cases h2 : truP (trnS s k) room AT with
    | none => rw [hno.1 h2] at h1; cases h1
    | some e =>
      rw [h2] at t3
      have tt := hty e h2
      exact ACode.vcM (.call (.tup [encSps l, .int .i64 0]) <| .call (.tup [encSps l, .int .i64 0]) <| .call (encLe e 0) <| .call (.bool true) <| .call (.bool true) .nil) hn hlo0 .ret ⟨m1, m2, t3, ss, tt, trivial, by kernel_rfl⟩
theorem la5 {s : Scn} (hs : ScOk s) {room : Nat} {RM : Int} (hroom : room < nR s) (erm : RM = (room : Int)) {AT : Int} {k : Nat} (hk : k ≤ s.gates.length) {g : G} (hn : g.n = 221) (hlo0 : g.low 0) :
    ACode Tryz.prog none g (cdrop 11 bodyLa) (Ret Tryz.prog Tryz.f11 (.bool true)) ⟨[(5, .vptr 0 0), (11, .bool true), (12, .int .i64 RM), (13, .int .i64 AT), (19, .int .i64 (trE (truP s room AT))), (22, .int .i64 (k : Int))], [(0, .cells (cSc s))], 1⟩ := by
  have hgl := hs.gl
  have e140 := slDropG (h := hget [(3, .cells [])]) (l := s.gates) (k := k) (i := (k : Int)) rfl hk
  have e145 := slTakeG (h := hget [(8, .cells (fl cGt (s.gates.drop k)))]) (l := s.gates) (k := k) (i := (k : Int)) rfl hk
  have ap1 := app_gtsL (h := hget [(3, .cells [])]) (i := 3) (nid := 8) (l := []) (m := s.gates.drop k) rfl (by rw [List.length_drop, List.length_nil]; omega)
  rw [List.nil_append, show ([] : List Gt).length + (s.gates.drop k).length = (s.gates.drop k).length from Nat.zero_add _] at ap1
  have ap2 := app_gtsL (h := hget [(8, .cells (fl cGt (s.gates.drop k)))]) (i := 8) (nid := 16) (l := s.gates.drop k) (m := s.gates.take k) rfl (by rw [List.length_take, List.length_drop]; omega)
  rw [← List.length_append] at ap2
  obtain ⟨L, eL⟩ : ∃ L, L = s.gates.drop k ++ s.gates.take k := ⟨_, rfl⟩
  have hLl : L.length = s.gates.length := by rw [eL, List.length_append, List.length_drop, List.length_take]; omega
  rw [← eL] at ap2
  have eT : trnS s k = { s with gates := L.map swG } := by rw [eL]; rfl
  have th := fun (h : Nat → Option AObj) (hT : h 1 = some (.cells [.int .i64 s.rooms, .rsl 16 0 L.length 4, .int .i64 s.fin, encMs s.marks])) (hi : h 16 = some (.cells (fl cGt (L.map swG)))) => (show thaw 8 h (.vptr 1 0) = some (.cptr (cSc (trnS s k)), [1, 16]) from by
    rw [eT]
    have hl : ({ s with gates := L.map swG } : Scn).gates.length = L.length := List.length_map _
    rw [← hl] at hT
    exact thaw_Sg (s := { s with gates := L.map swG }) hT hi)
  generalize s.gates.drop k = A at *
  generalize s.gates.take k = B at *
  refine ACode.cut 2 (fun _ : Unit => ⟨[(5, .cptr (cSc s)), (11, .bool true), (12, .int .i64 RM), (13, .int .i64 AT), (19, .int .i64 (trE (truP s room AT))), (23, .cptr (cSc (trnS s k)))], [], 0⟩) (fun _ => True) (.draw 10 <| .val 140 (encGs A) [] <| .val 141 (.rsl 8 0 A.length 4) [(3, none), (8, some (.cells (fl cGt A)))] <| .val 145 (encGs B) [] <| .val 146 (.rsl 16 0 L.length 4) [(8, none), (16, some (.cells (fl cGt L)))] <| .loop) hn (hlo0.mono (show 0 ≤ 1 by decide)) .ret rfl
    ⟨by kernel_rfl, mixed, by kernel_rfl, Eq.trans (by kernel_rfl) e140, Eq.trans (by kernel_rfl) ap1, Eq.trans (by kernel_rfl) e145, by kernel_rfl, Eq.trans (by kernel_rfl) ap2, ?_⟩ fun _ _ => la6 hs hroom erm k hn hlo0
  intro g hn hlo
  replace hn : g.n = 221 := hn
  replace hlo : g.low 1 := hlo
  refine acode_whileW (fun i : Nat => ⟨[(5, .vptr 0 0), (11, .bool true), (12, .int .i64 RM), (13, .int .i64 AT), (19, .int .i64 (trE (truP s room AT))), (23, .vptr 1 0), (150, .int .i64 (L.length : Nat)), (151, .int .i64 i)], [(0, .cells (cSc s)), (1, .cells [.int .i64 s.rooms, .rsl 16 0 L.length 4, .int .i64 s.fin, encMs s.marks]), (16, .cells (fl cGt (mapK swG L i)))], 18⟩) (fun i => i ≤ L.length) (fun i => L.length - i) 0 (Nat.zero_le _) ?_ ?_
  · exact Wk.le (St.le.of ⟨by kernel_rfl, rfl, by kernel_rfl, rfl, by kernel_rfl, rfl, by kernel_rfl, rfl, by kernel_rfl, rfl, by kernel_rfl, rfl, by kernel_rfl, rfl, by kernel_rfl, rfl, trivial⟩ ⟨by kernel_rfl, (by decide : (0 : Nat) < 18), by kernel_rfl, by kernel_rfl, (by decide : (1 : Nat) < 18), rfl, by kernel_rfl, (by decide : (16 : Nat) < 18), fl_ok (fun _ => rfl) _, trivial⟩) (hlo.mono (show 1 ≤ 18 by decide))
  · intro i hi
    replace hi : i ≤ L.length := hi
    by_cases hlt : i < L.length
    · refine Exists.elim (getE hlt) fun m hm => ?_
      have ei := congrArg (AV.int .i64) (succ64 (k := i) (by omega))
      have c : decide ((i : Int) < ((L.length : Nat) : Int)) = true := decide_eq_true (by omega)
      have ix := ixG (h := hget []) (id := 16) (n := L.length) (i := (i : Int)) rfl hlt
      have hm2 := mapK_get (f := swG) hm
      have hms := mapK_set (f := swG) hm
      obtain ⟨C, eC⟩ : ∃ C, C = mapK swG L i := ⟨_, rfl⟩
      rw [← eC] at hm2 hms
      have l1 := ldGb (h := hget [(16, .cells (fl cGt C))]) (id := 16) rfl hm2
      have l0 := ldGa (h := hget [(16, .cells (fl cGt C))]) (id := 16) rfl hm2
      have s1 := stG (h := hget [(16, .cells (fl cGt C))]) (id := 16) (j := 0) (m' := ⟨m.b, m.b, m.lo, m.hi⟩) (a := m.b) rfl hm2 (by decide) rfl
      have hg2 : (C.set i ⟨m.b, m.b, m.lo, m.hi⟩)[i]? = some ⟨m.b, m.b, m.lo, m.hi⟩ := by rw [List.getElem?_set_self (List.getElem?_eq_some_iff.1 hm2).1]
      have s2 := stG (h := hget [(16, .cells (fl cGt (C.set i ⟨m.b, m.b, m.lo, m.hi⟩)))]) (id := 16) (j := 1) (m' := swG m) (a := m.a) rfl hg2 (by decide) rfl
      rw [List.set_set, hms] at s2
      have o16 : some (AObj.cells (fl cGt (mapK swG L i))) = some (.cells (fl cGt C)) := by rw [eC]
      show ACode _ _ _ _ _ ⟨[(5, .vptr 0 0), (11, .bool true), (12, .int .i64 RM), (13, .int .i64 AT), (19, .int .i64 (trE (truP s room AT))), (23, .vptr 1 0), (150, .int .i64 (L.length : Nat)), (151, .int .i64 i)], [(0, .cells (cSc s)), (1, .cells [.int .i64 s.rooms, .rsl 16 0 L.length 4, .int .i64 s.fin, encMs s.marks]), (16, .cells (fl cGt (mapK swG L i)))], 18⟩
      rw [← eC]
      exact ACode.vcM (.br 152 true <| .val 157 (.vptr 16 (i * 4)) [] <| .draw 13 <| .val 163 (.int .i64 m.b) [] <| .val 167 (.int .i64 m.a) [] <| .val 1 .undef [(16, some (.cells (fl cGt (C.set i ⟨m.b, m.b, m.lo, m.hi⟩))))] <| .val 1 .undef [(16, some (.cells (fl cGt (mapK swG L (i + 1)))))] .nil) hn hlo (.roundW .cl)
        ⟨c, Eq.trans (by kernel_rfl) ix, by kernel_rfl, mixed, by kernel_rfl, Eq.trans (by kernel_rfl) l1, Eq.trans (by kernel_rfl) l0, Eq.trans (by kernel_rfl) s1, by kernel_rfl, Eq.trans (by kernel_rfl) s2, i + 1, hlt, mu1 hlt,
          Wk.le (St.le.of ⟨by kernel_rfl, rfl, by kernel_rfl, rfl, by kernel_rfl, rfl, by kernel_rfl, rfl, by kernel_rfl, rfl, by kernel_rfl, rfl, by kernel_rfl, rfl, Eq.trans (by kernel_rfl) ei, rfl, trivial⟩ ⟨by kernel_rfl, (by decide : (0 : Nat) < 18), by kernel_rfl, by kernel_rfl, (by decide : (1 : Nat) < 18), rfl, by kernel_rfl, (by decide : (16 : Nat) < 18), fl_ok (fun _ => rfl) _, trivial⟩) (hlo.mono (show 1 ≤ 18 by decide))⟩
    · have c : decide ((i : Int) < ((L.length : Nat) : Int)) = false := decide_eq_false (by omega)
      have hie : i = L.length := Nat.le_antisymm hi (Nat.le_of_not_lt hlt)
      have o16 : some (AObj.cells (fl cGt (mapK swG L i))) = some (.cells (fl cGt (L.map swG))) := by rw [hie, mapK_all]
      exact ACode.vcM (.br 152 false .nil) hn hlo (.roundW .cl) ⟨c, _, .refl _, .nil, (), trivial, Wk.all ⟨⟨[0], by kernel_rfl⟩, ⟨_, thaw_sm rfl⟩, ⟨_, thaw_sm rfl⟩, ⟨_, thaw_sm rfl⟩, ⟨_, thaw_sm rfl⟩, ⟨_, th _ (by kernel_rfl) (Eq.trans (by kernel_rfl) o16)⟩, trivial⟩ hlo0⟩
theorem la4 {s : Scn} (hs : ScOk s) {room : Nat} {RM : Int} (hroom : room < nR s) (erm : RM = (room : Int)) {AT : Int} (turn : Nat) (ht8 : turn < 256) {g : G} (hn : g.n = 221) (hlo0 : g.low 0) :
    ACode Tryz.prog none g (cdrop 9 bodyLa) (Ret Tryz.prog Tryz.f11 (.bool true)) ⟨[(4, .int .u8 (turn : Int)), (5, .vptr 0 0), (11, .bool true), (12, .int .i64 RM), (13, .int .i64 AT), (19, .int .i64 (trE (truP s room AT)))], [(0, .cells (cSc s))], 1⟩ := by
  have hgl := hs.gl
  by_cases hz : 0 < s.gates.length
  · have b128 : decide (((s.gates.map cGt).length : Int) > 0) = true := decide_eq_true (by rw [List.length_map]; omega)
    have v130 := w8 ht8
    have hne : ((s.gates.map cGt).length : Int) ≠ 0 := by rw [List.length_map]; omega
    have h1 := Int.tmod_lt_of_pos (turn : Int) (show (0 : Int) < (s.gates.length : Int) by omega)
    have h2 := Int.tmod_nonneg (s.gates.length : Int) (show (0 : Int) ≤ (turn : Int) by omega)
    have ek : AV.int .i64 ((turn : Int).tmod ((s.gates.map cGt).length : Int)) = .int .i64 (((turn : Int).tmod (s.gates.length : Int)).toNat : Int) := by rw [List.length_map, Int.toNat_of_nonneg h2]
    have hk : ((turn : Int).tmod (s.gates.length : Int)).toNat ≤ s.gates.length := by omega
    generalize ((turn : Int).tmod (s.gates.length : Int)).toNat = k at *
    exact ACode.cut 1 (fun k : Nat => ⟨[(5, .vptr 0 0), (11, .bool true), (12, .int .i64 RM), (13, .int .i64 AT), (19, .int .i64 (trE (truP s room AT))), (22, .int .i64 (k : Int))], [(0, .cells (cSc s))], 1⟩) (fun k => k ≤ s.gates.length) (.br 128 true <| .val 130 (.int .i64 (turn : Int)) [] <| .nz .nil) hn (hlo0.mono (show 0 ≤ 1 by decide)) .ret rfl
      ⟨b128, Eq.trans (by kernel_rfl) v130, hne, k, hk, Wk.le (St.le.of ⟨by kernel_rfl, rfl, by kernel_rfl, rfl, by kernel_rfl, rfl, by kernel_rfl, rfl, by kernel_rfl, rfl, Eq.trans (by kernel_rfl) ek, rfl, trivial⟩ ⟨by kernel_rfl, (by decide : (0 : Nat) < 1), by kernel_rfl, trivial⟩) (hlo0.mono (show 0 ≤ 1 by decide))⟩ fun k hk => la5 hs hroom erm hk hn hlo0
  · have b128 : decide (((s.gates.map cGt).length : Int) > 0) = false := decide_eq_false (by rw [List.length_map]; omega)
    exact ACode.cut 1 (fun k : Nat => ⟨[(5, .vptr 0 0), (11, .bool true), (12, .int .i64 RM), (13, .int .i64 AT), (19, .int .i64 (trE (truP s room AT))), (22, .int .i64 (k : Int))], [(0, .cells (cSc s))], 1⟩) (fun k => k ≤ s.gates.length) (.br 128 false .nil) hn (hlo0.mono (show 0 ≤ 1 by decide)) .ret rfl
      ⟨b128, 0, Nat.zero_le _, Wk.le (St.le.of ⟨by kernel_rfl, rfl, by kernel_rfl, rfl, by kernel_rfl, rfl, by kernel_rfl, rfl, by kernel_rfl, rfl, by kernel_rfl, rfl, trivial⟩ ⟨by kernel_rfl, (by decide : (0 : Nat) < 1), by kernel_rfl, trivial⟩) (hlo0.mono (show 0 ≤ 1 by decide))⟩ fun k hk => la5 hs hroom erm hk hn hlo0
theorem la2 {s : Scn} (hs : ScOk s) {room : Nat} {RM : Int} (hroom : room < nR s) (erm : RM = (room : Int)) {AT : Int} (hAT : 0 ≤ AT ∧ AT ≤ s.fin) {N : Int} (hN : 0 ≤ N ∧ N ≤ 600 - s.fin) (turn : Nat) (ht8 : turn < 256) {g : G} (hn : g.n = 221) (hlo0 : g.low 0) :
    ACode Tryz.prog none g (cdrop 7 bodyLa) (Ret Tryz.prog Tryz.f11 (.bool true)) ⟨[(4, .int .u8 (turn : Int)), (5, .vptr 0 0), (11, .bool true), (12, .int .i64 RM), (13, .int .i64 AT), (14, .int .i64 N), (15, .cptr (cSc (movS s N)))], [(0, .cells (cSc s))], 1⟩ := by
  have hf := hs.fin
  have t1 := Tru_sub s hs hroom erm AT
  have sR := ready_spec (movS s N)
  have si := SameInts_self ((truP s room AT).getD []) (by have := tru_len hs hroom AT; omega)
  have key : ∀ h : ScOk (movS s N), APure Tryz.prog 15 [encSc (movS s N), .int .i64 RM, .int .i64 (IntKind.i64.wrap (AT + N))] (encLe ((truP s room AT).getD []) (trE (truP s room AT))) := fun h => by
    have := Tru_sub (movS s N) h hroom erm (AT + N)
    rw [mov_tru hs hN.1 h hroom hAT.1] at this
    rw [wrap64 (by omega) (by omega)]
    exact this
  have hla := la4 (AT := AT) hs hroom erm turn ht8 hn hlo0
  generalize (truP s room AT).getD [] = d at *
  generalize trE (truP s room AT) = TE at *
  have eT : (TE != TE) = false := bne_self_eq_false TE
  cases h1 : scB (movS s N)
  · rw [h1] at sR
    exact ACode.cut 1 (fun _ : Unit => ⟨[(4, .int .u8 (turn : Int)), (5, .vptr 0 0), (11, .bool true), (12, .int .i64 RM), (13, .int .i64 AT), (19, .int .i64 TE)], [(0, .cells (cSc s))], 1⟩) (fun _ => True) (.call (encLe d TE) <| .call (.bool false) .nil) hn (hlo0.mono (show 0 ≤ 1 by decide)) .ret rfl
      ⟨t1, sR, (), trivial, Wk.le (St.le.of ⟨by kernel_rfl, rfl, by kernel_rfl, rfl, by kernel_rfl, rfl, by kernel_rfl, rfl, by kernel_rfl, rfl, by kernel_rfl, rfl, trivial⟩ ⟨by kernel_rfl, (by decide : (0 : Nat) < 1), by kernel_rfl, trivial⟩) (hlo0.mono (show 0 ≤ 1 by decide))⟩ fun _ _ => hla
  · rw [h1] at sR
    have t2 := key (scB_iff.1 h1)
    exact ACode.cut 1 (fun _ : Unit => ⟨[(4, .int .u8 (turn : Int)), (5, .vptr 0 0), (11, .bool true), (12, .int .i64 RM), (13, .int .i64 AT), (19, .int .i64 TE)], [(0, .cells (cSc s))], 1⟩) (fun _ => True) (.call (encLe d TE) <| .call (.bool true) <| .call (encLe d TE) <| .br 119 false <| .call (.bool true) .nil) hn (hlo0.mono (show 0 ≤ 1 by decide)) .ret rfl
      ⟨t1, sR, t2, eT, si, (), trivial, Wk.le (St.le.of ⟨by kernel_rfl, rfl, by kernel_rfl, rfl, by kernel_rfl, rfl, by kernel_rfl, rfl, by kernel_rfl, rfl, by kernel_rfl, rfl, trivial⟩ ⟨by kernel_rfl, (by decide : (0 : Nat) < 1), by kernel_rfl, trivial⟩) (hlo0.mono (show 0 ≤ 1 by decide))⟩ fun _ _ => hla
theorem la1 {s : Scn} (hs : ScOk s) {room : Nat} {RM : Int} (hroom : room < nR s) (erm : RM = (room : Int)) {AT : Int} (hAT : 0 ≤ AT ∧ AT ≤ s.fin) {N : Int} (hN : 0 ≤ N ∧ N ≤ 600 - s.fin) (turn : Nat) (ht8 : turn < 256) {g : G} (hn : g.n = 221) (hlo0 : g.low 0) :
    ACode Tryz.prog none g (cdrop 4 bodyLa) (Ret Tryz.prog Tryz.f11 (.bool true)) ⟨[(4, .int .u8 (turn : Int)), (5, .vptr 0 0), (11, .bool true), (12, .int .i64 RM), (13, .int .i64 AT), (14, .int .i64 N)], [(0, .cells (cSc s))], 1⟩ := by
  have hgl := hs.gl
  have hml := hs.ml
  have hf := hs.fin
  have a1 := app_gts (h := hget [(3, .cells [])]) (i := 3) (nid := 4) (l := s.gates) rfl (by omega)
  have a2 := app_mks (h := hget [(6, .cells [])]) (i := 6) (nid := 7) (l := s.marks) rfl (by omega)
  have o10 : some (AObj.cells [.int .i64 s.rooms, .rsl 4 0 s.gates.length 4, .int .i64 (IntKind.i64.wrap (s.fin + N)), .rsl 7 0 s.marks.length 7]) = some (.cells [.int .i64 s.rooms, .rsl 4 0 s.gates.length 4, .int .i64 (s.fin + N), .rsl 7 0 s.marks.length 7]) := by rw [wrap64 (by omega) (by omega)]
  have th := fun (h : Nat → Option AObj) (hT : h 10 = some (.cells [.int .i64 s.rooms, .rsl 4 0 s.gates.length 4, .int .i64 (s.fin + N), .rsl 7 0 s.marks.length 7])) (hi : h 4 = some (.cells (fl cGt s.gates))) (hj : h 7 = some (.cells (fl cMk (s.marks.map (movM N))))) => (show thaw 8 h (.vptr 10 0) = some (.cptr (cSc (movS s N)), [10, 4, 7]) from by
    have hl : (movS s N).marks.length = s.marks.length := List.length_map _
    rw [← hl] at hT
    exact thaw_Sc (s := movS s N) hT hi hj)
  refine ACode.cut 2 (fun _ : Unit => ⟨[(4, .int .u8 (turn : Int)), (5, .vptr 0 0), (11, .bool true), (12, .int .i64 RM), (13, .int .i64 AT), (14, .int .i64 N), (15, .cptr (cSc (movS s N)))], [(0, .cells (cSc s))], 1⟩) (fun _ => True) (.inl Tryz.f27 <| .val 6 (.rsl 4 0 s.gates.length 4) [(3, none), (4, some (.cells (fl cGt s.gates)))] <| .val 11 (.rsl 7 0 s.marks.length 7) [(6, none), (7, some (.cells (fl cMk s.marks)))] <| .loop) hn (hlo0.mono (show 0 ≤ 1 by decide)) .ret rfl
    ⟨Tryz.func27, Eq.trans (by kernel_rfl) a1, Eq.trans (by kernel_rfl) a2, ?_⟩ fun _ _ => la2 hs hroom erm hAT hN turn ht8 hn hlo0
  intro g hn hlo
  replace hn : g.n = 221 := hn
  replace hlo : g.low 1 := hlo
  refine acode_whileW (fun i : Nat => ⟨[(4, .int .u8 (turn : Int)), (5, .vptr 0 0), (11, .bool true), (12, .int .i64 RM), (13, .int .i64 AT), (14, .int .i64 N), (15, .vptr 10 0), (66, .int .i64 (s.marks.length : Nat)), (67, .int .i64 i)], [(0, .cells (cSc s)), (4, .cells (fl cGt s.gates)), (7, .cells (fl cMk (mapK (movM N) s.marks i))), (10, .cells [.int .i64 s.rooms, .rsl 4 0 s.gates.length 4, .int .i64 (s.fin + N), .rsl 7 0 s.marks.length 7])], 13⟩) (fun i => i ≤ s.marks.length) (fun i => s.marks.length - i) 0 (Nat.zero_le _) ?_ ?_
  · exact Wk.le (St.le.of ⟨by kernel_rfl, rfl, by kernel_rfl, rfl, by kernel_rfl, rfl, by kernel_rfl, rfl, by kernel_rfl, rfl, by kernel_rfl, rfl, by kernel_rfl, rfl, by kernel_rfl, rfl, by kernel_rfl, rfl, trivial⟩ ⟨by kernel_rfl, (by decide : (0 : Nat) < 13), by kernel_rfl, by kernel_rfl, (by decide : (4 : Nat) < 13), fl_ok (fun _ => rfl) _, by kernel_rfl, (by decide : (7 : Nat) < 13), fl_ok (fun _ => rfl) _, Eq.trans (by kernel_rfl) o10, (by decide : (10 : Nat) < 13), rfl, trivial⟩) (hlo.mono (show 1 ≤ 13 by decide))
  · intro i hi
    replace hi : i ≤ s.marks.length := hi
    by_cases hlt : i < s.marks.length
    · refine Exists.elim (getE hlt) fun m hm => ?_
      have ei := congrArg (AV.int .i64) (succ64 (k := i) (by omega))
      have c : decide ((i : Int) < ((s.marks.length : Nat) : Int)) = true := decide_eq_true (by omega)
      have ix := ixM (h := hget []) (id := 7) (n := s.marks.length) (i := (i : Int)) rfl hlt
      have hm2 := mapK_get (f := movM N) hm
      have hms := mapK_set (f := movM N) hm
      have hsame := mapK_same (f := movM N) hm
      obtain ⟨_, _, hl3, _, _, _, hl4⟩ := mk_rooms hs (List.mem_of_getElem? hm)
      obtain ⟨C, eC⟩ : ∃ C, C = mapK (movM N) s.marks i := ⟨_, rfl⟩
      rw [← eC] at hm2 hms hsame
      have l77 := ldKd (h := hget [(7, .cells (fl cMk C))]) (id := 7) rfl hm2
      have l84 := ldLo (h := hget [(7, .cells (fl cMk C))]) (id := 7) rfl hm2
      have l91 := ldHiM (h := hget [(7, .cells (fl cMk C))]) (id := 7) rfl hm2
      show ACode _ _ _ _ _ ⟨[(4, .int .u8 (turn : Int)), (5, .vptr 0 0), (11, .bool true), (12, .int .i64 RM), (13, .int .i64 AT), (14, .int .i64 N), (15, .vptr 10 0), (66, .int .i64 (s.marks.length : Nat)), (67, .int .i64 i)], [(0, .cells (cSc s)), (4, .cells (fl cGt s.gates)), (7, .cells (fl cMk (mapK (movM N) s.marks i))), (10, .cells [.int .i64 s.rooms, .rsl 4 0 s.gates.length 4, .int .i64 (s.fin + N), .rsl 7 0 s.marks.length 7])], 13⟩
      rw [← eC]
      refine (Bool.eq_false_or_eq_true (decide ((m.kd.val : Int) ≤ 3))).symm.elim (fun q => ?_) (fun q => ?_)
      · have hk : ¬ m.kd.val ≤ 3 := by have := of_decide_eq_false q; omega
        have e7 : some (AObj.cells (fl cMk C)) = some (.cells (fl cMk (mapK (movM N) s.marks (i + 1)))) := by rw [hsame (by unfold movM; rw [if_neg hk])]
        exact ACode.vcM (.br 68 true <| .val 73 (.vptr 7 (i * 7)) [] <| .val 77 (.int .u8 (m.kd.val : Int)) [] <| .br 78 false .nil) hn hlo (.roundW .cl)
          ⟨c, Eq.trans (by kernel_rfl) ix, Eq.trans (by kernel_rfl) l77, q, i + 1, hlt, mu1 hlt,
            Wk.le (St.le.of ⟨by kernel_rfl, rfl, by kernel_rfl, rfl, by kernel_rfl, rfl, by kernel_rfl, rfl, by kernel_rfl, rfl, by kernel_rfl, rfl, by kernel_rfl, rfl, by kernel_rfl, rfl, Eq.trans (by kernel_rfl) ei, rfl, trivial⟩ ⟨by kernel_rfl, (by decide : (0 : Nat) < 13), by kernel_rfl, by kernel_rfl, (by decide : (4 : Nat) < 13), fl_ok (fun _ => rfl) _, Eq.trans (by kernel_rfl) e7, (by decide : (7 : Nat) < 13), fl_ok (fun _ => rfl) _, by kernel_rfl, (by decide : (10 : Nat) < 13), rfl, trivial⟩) (hlo.mono (show 1 ≤ 13 by decide))⟩
      · have hk : m.kd.val ≤ 3 := by have := of_decide_eq_true q; omega
        have st := stAt (h := hget [(7, .cells (fl cMk C))]) (id := 7) (a := IntKind.i64.wrap (m.lo + N)) (b := IntKind.i64.wrap (m.hi + N)) rfl hm2
        have em : ({ m with lo := IntKind.i64.wrap (m.lo + N), hi := IntKind.i64.wrap (m.hi + N) } : Mk) = movM N m := by
          rw [wrap64 (n := m.lo + N) (by omega) (by omega), wrap64 (n := m.hi + N) (by omega) (by omega)]
          unfold movM; rw [if_pos hk]
        rw [em, hms] at st
        exact ACode.vcM (.br 68 true <| .val 73 (.vptr 7 (i * 7)) [] <| .val 77 (.int .u8 (m.kd.val : Int)) [] <| .br 78 true <| .draw 16 <| .val 84 (.int .i64 m.lo) [] <| .val 91 (.int .i64 m.hi) [] <| .call (encSp (IntKind.i64.wrap (m.lo + N), IntKind.i64.wrap (m.hi + N))) <| .val 1 .undef [(7, some (.cells (fl cMk (mapK (movM N) s.marks (i + 1)))))] .nil) hn hlo (.roundW .cl)
          ⟨c, Eq.trans (by kernel_rfl) ix, Eq.trans (by kernel_rfl) l77, q, by kernel_rfl, mixed, by kernel_rfl, Eq.trans (by kernel_rfl) l84, Eq.trans (by kernel_rfl) l91, span_spec _ _, by kernel_rfl, Eq.trans (by kernel_rfl) st, i + 1, hlt, mu1 hlt,
            Wk.le (St.le.of ⟨by kernel_rfl, rfl, by kernel_rfl, rfl, by kernel_rfl, rfl, by kernel_rfl, rfl, by kernel_rfl, rfl, by kernel_rfl, rfl, by kernel_rfl, rfl, by kernel_rfl, rfl, Eq.trans (by kernel_rfl) ei, rfl, trivial⟩ ⟨by kernel_rfl, (by decide : (0 : Nat) < 13), by kernel_rfl, by kernel_rfl, (by decide : (4 : Nat) < 13), fl_ok (fun _ => rfl) _, by kernel_rfl, (by decide : (7 : Nat) < 13), fl_ok (fun _ => rfl) _, by kernel_rfl, (by decide : (10 : Nat) < 13), rfl, trivial⟩) (hlo.mono (show 1 ≤ 13 by decide))⟩
    · have c : decide ((i : Int) < ((s.marks.length : Nat) : Int)) = false := decide_eq_false (by omega)
      have hie : i = s.marks.length := Nat.le_antisymm hi (Nat.le_of_not_lt hlt)
      have o7 : some (AObj.cells (fl cMk (mapK (movM N) s.marks i))) = some (.cells (fl cMk (s.marks.map (movM N)))) := by rw [hie, mapK_all]
      exact ACode.vcM (.br 68 false .nil) hn hlo (.roundW .cl) ⟨c, _, .refl _, .nil, (), trivial, Wk.frm (St.frm.of (c := 1) rfl ⟨.inl ⟨by kernel_rfl, rfl⟩, .inl ⟨by kernel_rfl, rfl⟩, .inl ⟨by kernel_rfl, rfl⟩, .inl ⟨by kernel_rfl, rfl⟩, .inl ⟨by kernel_rfl, rfl⟩, .inl ⟨by kernel_rfl, rfl⟩, .inr ⟨rfl, _, th _ (by kernel_rfl) (by kernel_rfl) (Eq.trans (by kernel_rfl) o7), by kernel_rfl⟩, trivial⟩ ⟨by kernel_rfl, (by decide : (0 : Nat) < 1), by kernel_rfl, trivial⟩) (hlo0.mono (show 0 ≤ 1 by decide))⟩
theorem w16 {x : Nat} (h : x < 65536) : some (⟨.int .i64 (IntKind.i64.wrap (x : Int)), []⟩ : Out) = some ⟨.int .i64 (x : Int), []⟩ := by rw [wrap64 (by omega) (by omega)]
theorem law_later (s : Scn) (which minute later turn : Nat) (hw8 : which < 256) (hm16 : minute < 65536) (hl16 : later < 65536) (ht8 : turn < 256) : APure Tryz.prog 11 [encSc s, .int .u8 (which : Int), .int .u16 (minute : Int), .int .u16 (later : Int), .int .u8 (turn : Int)] (.bool true) := by
  have sA := alive_spec
  have sR := ready_spec s
  cases h1 : scB s
  · rw [h1] at sR
    exact APure.vcM Tryz.func11 (.call (.bool true) <| .call (.bool false) .nil) rfl rfl ⟨sA, sR, [], by kernel_rfl⟩
  rw [h1] at sR
  have hs := scB_iff.1 h1
  obtain ⟨room, hroom, erm⟩ := tmod_rm hs which
  obtain ⟨hnr, hn1, hn6⟩ := nR_eq hs
  have hf := hs.fin
  have hne : s.rooms ≠ 0 := by omega
  have v40 := w8 hw8
  have v45 := w16 hm16
  have v51 := w16 hl16
  have d1 : IntKind.i64.wrap (s.fin + 1) = s.fin + 1 := wrap64 (by omega) (by omega)
  have d2 : IntKind.i64.wrap (IntKind.i64.wrap (600 - s.fin) + 1) = 600 - s.fin + 1 := by rw [wrap64 (n := 600 - s.fin) (by omega) (by omega), wrap64 (by omega) (by omega)]
  have ne1 : IntKind.i64.wrap (s.fin + 1) ≠ 0 := by omega
  have ne2 : IntKind.i64.wrap (IntKind.i64.wrap (600 - s.fin) + 1) ≠ 0 := by omega
  have hAT : 0 ≤ (minute : Int).tmod (IntKind.i64.wrap (s.fin + 1)) ∧ (minute : Int).tmod (IntKind.i64.wrap (s.fin + 1)) ≤ s.fin := by
    rw [d1]
    have q1 := Int.tmod_lt_of_pos (minute : Int) (show (0 : Int) < s.fin + 1 by omega)
    have q2 := Int.tmod_nonneg (s.fin + 1) (show (0 : Int) ≤ (minute : Int) by omega)
    omega
  have hN : 0 ≤ (later : Int).tmod (IntKind.i64.wrap (IntKind.i64.wrap (600 - s.fin) + 1)) ∧ (later : Int).tmod (IntKind.i64.wrap (IntKind.i64.wrap (600 - s.fin) + 1)) ≤ 600 - s.fin := by
    rw [d2]
    have q1 := Int.tmod_lt_of_pos (later : Int) (show (0 : Int) < 600 - s.fin + 1 by omega)
    have q2 := Int.tmod_nonneg (600 - s.fin + 1) (show (0 : Int) ≤ (later : Int) by omega)
    omega
  refine APure.intro Tryz.func11 rfl (by kernel_rfl) rfl fun g hn hlo0 => ?_
  replace hn : g.n = 221 := hn
  exact ACode.cut 4 (fun _ : Unit => ⟨[(4, .int .u8 (turn : Int)), (5, .vptr 0 0), (11, .bool true), (12, .int .i64 ((which : Int).tmod s.rooms)), (13, .int .i64 ((minute : Int).tmod (IntKind.i64.wrap (s.fin + 1)))), (14, .int .i64 ((later : Int).tmod (IntKind.i64.wrap (IntKind.i64.wrap (600 - s.fin) + 1))))], [(0, .cells (cSc s))], 1⟩) (fun _ => True) (.call (.bool true) <| .call (.bool true) <| .draw 20 <| .val 40 (.int .i64 (which : Int)) [] <| .nz <| .val 45 (.int .i64 (minute : Int)) [] <| .nz <| .val 51 (.int .i64 (later : Int)) [] <| .nz .nil) hn hlo0 .ret rfl
    ⟨sA, sR, by kernel_rfl, mixed, by kernel_rfl, Eq.trans (by kernel_rfl) v40, hne, Eq.trans (by kernel_rfl) v45, ne1, Eq.trans (by kernel_rfl) v51, ne2, by kernel_rfl, (), trivial,
    Wk.le (St.le.of ⟨by kernel_rfl, rfl, by kernel_rfl, rfl, by kernel_rfl, rfl, by kernel_rfl, rfl, by kernel_rfl, rfl, by kernel_rfl, rfl, trivial⟩ ⟨by kernel_rfl, (by decide : (0 : Nat) < 1), by kernel_rfl, trivial⟩) (hlo0.mono (show 0 ≤ 1 by decide))⟩ fun _ _ => la1 hs hroom erm hAT hN turn ht8 hn hlo0
end Go.Proofs.YtjoagmjijbfjkaaGreatDoor
