/-
  ABSTRACT VALUES AND THE RELATION TO THE MODEL's MEMORY. 'AV' are values without addresses and capacities: what is only read lies inline ('lst', 'cptr', 'imap'); what the activation itself writes bears a number ('vptr', 'rsl', 'mref') that a partial map 'κ' takes to a block.
-/
import Derived.CallsIn
import Derived.Laws.World
import Derived.Laws.Sem
namespace Go.Am

inductive AV where
  | any
  | undef
  | bool (b : Bool)
  | int (k : IntKind) (n : Int)
  | str (s : ByteArray)
  | nil
  | lst (esz : Nat) (xs : List (List AV))
  | cptr (cells : List AV)
  | nptr
  | vptr (id off : Nat)
  | rsl (id off len esz : Nat)
  | mref (id : Nat)
  | imap (es : List (AV × AV))
  | nmap
  | fn (f : Fn) (first captured : List AV)
  | yld (id : Nat)
  | nilFunc
  | iface (t : TypeId) (v : AV)
  | nilIface
  | agg (cells : List AV)
  | tup (vs : List AV)
  deriving Inhabited

abbrev Env := List (Nat × AV)
def elook : Env → Nat → AV
  | [], _ => .any
  | (k, v) :: r, t => if k = t then v else elook r t

/-- A loop over a function, as its record tells it. -/
structure ALoop where
  state : LoopState
  pending : Option Code
  n : Nat
  env : Env
  params : Array Tmp
  assign : Code
  body : Code

inductive AObj where
  | cells (cs : List AV)
  | map (es : List (AV × AV))
  | loop (L : ALoop)
  /-- An iterator over a map that stays as it is: the entry of the round, and those that are still to come. -/
  | iter (cur : Option (AV × AV)) (left : List (AV × AV))
instance : Inhabited AObj := ⟨.cells []⟩

abbrev AHeap := List (Nat × AObj)

def hget : AHeap → Nat → Option AObj
  | [], _ => none
  | (k, o) :: r, i => if k = i then some o else hget r i
def hset : AHeap → Nat → AObj → AHeap
  | [], i, o => [(i, o)]
  | (k, p) :: r, i, o => if k = i then (i, o) :: r else (k, p) :: hset r i o
def herase : AHeap → Nat → AHeap
  | [], _ => []
  | (k, p) :: r, i => if k = i then herase r i else (k, p) :: herase r i
theorem hget_hset (H : AHeap) (i j : Nat) (o : AObj) : hget (hset H i o) j = if i = j then some o else hget H j := by
  induction H with
  | nil => simp [hset, hget]
  | cons x r ih =>
    obtain ⟨k, p⟩ := x
    by_cases hk : k = i
    · subst hk; simp only [hset, hget, if_true]; by_cases hj : k = j <;> simp [hj]
    · simp only [hset, hk, if_false, hget, ih]
      by_cases hj : k = j
      · subst hj; simp [Ne.symm hk]
      · simp [hj]
theorem hset_hset (H : AHeap) (i : Nat) (o p : AObj) : hset (hset H i o) i p = hset H i p := by
  induction H with
  | nil => simp [hset]
  | cons x r ih =>
    obtain ⟨k, q⟩ := x
    by_cases hk : k = i
    · simp [hset, hk]
    · simp [hset, hk, ih]
theorem hget_herase (H : AHeap) (i j : Nat) : hget (herase H i) j = if i = j then none else hget H j := by
  induction H with
  | nil => simp [herase, hget]
  | cons x r ih =>
    obtain ⟨k, p⟩ := x
    by_cases hk : k = i
    · subst hk; simp only [herase, if_true, ih, hget]; by_cases hj : k = j <;> simp [hj]
    · simp only [herase, hk, if_false, hget, ih]
      by_cases hj : k = j
      · subst hj; simp [Ne.symm hk]
      · simp [hj]

/-- The worlds' order: no block goes away, rows keep their sizes. -/
def Wle (w w' : World) : Prop :=
  w.heap.size ≤ w'.heap.size ∧ (∀ (b : Nat) c e f, w.heap[b]? = some (.cells c e f) → ∃ c' f', w'.heap[b]? = some (.cells c' e f') ∧ c'.size = c.size) ∧
  (∀ (b : Nat) L, w.heap[b]? = some (.loop L) → ∃ L', w'.heap[b]? = some (.loop L')) ∧ w'.os = w.os ∧ w'.tape = w.tape ∧ w'.output = w.output
theorem Wle.refl (w : World) : Wle w w := ⟨Nat.le_refl _, fun _ c _ f h => ⟨c, f, h, rfl⟩, fun _ L h => ⟨L, h⟩, rfl, rfl, rfl⟩
theorem Wle.trans {a b c : World} (h : Wle a b) (k : Wle b c) : Wle a c :=
  ⟨Nat.le_trans h.1 k.1, fun i c e f hi => by
    obtain ⟨c', f', h1, h2⟩ := h.2.1 i c e f hi
    obtain ⟨c'', f'', h3, h4⟩ := k.2.1 i c' e f' h1
    exact ⟨c'', f'', h3, h4.trans h2⟩, fun i L hi => by
    obtain ⟨L', h1⟩ := h.2.2.1 i L hi
    exact k.2.2.1 i L' h1, k.2.2.2.1.trans h.2.2.2.1, k.2.2.2.2.1.trans h.2.2.2.2.1, k.2.2.2.2.2.trans h.2.2.2.2.2⟩
/-- No block changes but its own cells. -/
theorem Wle.same {w w' : World} (h : w'.heap = w.heap) (hs : w'.os = w.os ∧ w'.tape = w.tape ∧ w'.output = w.output) : Wle w w' := ⟨by rw [h]; exact Nat.le_refl _, fun b c e f hb => ⟨c, f, by rw [h]; exact hb, rfl⟩, fun b L hb => ⟨L, by rw [h]; exact hb⟩, hs⟩

/-- No two entries of a map have one stamp, and none has one that is still to be given. -/
def Born (ents : Array MapEntry) (clk : Nat) : Prop := (ents.toList.map (·.born)).Nodup ∧ ∀ m ∈ ents.toList, m.born < clk
/-- No number is mapped. -/
abbrev nok : Nat → Option Nat := fun _ => none
inductive VR (av : Nat → Prop) (w : World) : (Nat → Option Nat) → AV → Value → Prop
  | any {κ : Nat → Option Nat} (v : Value) : VR av w κ .any v
  | undef {κ : Nat → Option Nat} : VR av w κ .undef Go.undef
  | bool {κ : Nat → Option Nat} (b : Bool) : VR av w κ (.bool b) (.bool b)
  | int {κ : Nat → Option Nat} (k : IntKind) (n : Int) : VR av w κ (.int k n) (.int k n)
  | str {κ : Nat → Option Nat} (s : ByteArray) : VR av w κ (.str s) (.string s)
  | nil {κ : Nat → Option Nat} : VR av w κ .nil (.slice none 0 0)
  | lst {κ : Nat → Option Nat} (esz : Nat) (xs : List (List AV)) (base : Option Addr) (cap : Nat) (u : Nat → Nat → Value) (hb : base = none → xs = []) (hl : xs.length ≤ cap)
      (hc : ∀ i x, xs[i]? = some x → ∀ j c, x[j]? = some c → ∃ a, base = some a ∧ ¬ av a.block ∧ w.cell? (a.add (i * esz + j)) = some (u i j))
      (hv : ∀ i x, xs[i]? = some x → ∀ j c, x[j]? = some c → VR av w nok c (u i j)) : VR av w κ (.lst esz xs) (.slice base xs.length cap)
  | cptr {κ : Nat → Option Nat} (cells : List AV) (a : Addr) (u : Nat → Value)
      (hc : ∀ j c, cells[j]? = some c → ¬ av a.block ∧ w.cell? (a.add j) = some (u j))
      (hv : ∀ j c, cells[j]? = some c → VR av w nok c (u j)) : VR av w κ (.cptr cells) (.pointer (some a))
  | nptr {κ : Nat → Option Nat} : VR av w κ .nptr (.pointer none)
  | vptr {κ : Nat → Option Nat} (id off blk : Nat) (h : κ id = some blk) : VR av w κ (.vptr id off) (.pointer (some ⟨blk, off, none⟩))
  | rsl0 {κ : Nat → Option Nat} (id off esz : Nat) (base : Option Addr) : VR av w κ (.rsl id off 0 esz) (.slice base 0 0)
  | rsl {κ : Nat → Option Nat} (id off len esz cap blk : Nat) (c : Array Value) (e : TypeId) (f : Nat × Nat) (h : κ id = some blk) (hl : len ≤ cap)
      (hb : w.heap[blk]? = some (.cells c e f)) (hcap : off + cap * esz ≤ c.size) : VR av w κ (.rsl id off len esz) (.slice (some ⟨blk, off, none⟩) len cap)
  | mref {κ : Nat → Option Nat} (id r : Nat) (h : κ id = some r) : VR av w κ (.mref id) (.map (some r))
  | imap {κ : Nat → Option Nat} (es : List (AV × AV)) (r : Nat) (ents : Array MapEntry) (clk : Nat) (uk uv : Nat → Value) (hav : ¬ av r) (hr : w.heap[r]? = some (.map ents clk))
      (hsz : ents.size = es.length) (hu : ∀ i e, es[i]? = some e → ∃ m, ents[i]? = some m ∧ m.key = uk i ∧ m.val = uv i)
      (hk : ∀ i e, es[i]? = some e → VR av w nok e.1 (uk i)) (hv : ∀ i e, es[i]? = some e → VR av w nok e.2 (uv i)) (hB : Born ents clk) : VR av w κ (.imap es) (.map (some r))
  | nmap {κ : Nat → Option Nat} : VR av w κ .nmap (.map none)
  | fn {κ : Nat → Option Nat} (f : Fn) (fs cs : List AV) (vs us : Array Value) (uf uc : Nat → Value) (hlf : vs.size = fs.length) (hlc : us.size = cs.length)
      (hf : ∀ i c, fs[i]? = some c → vs[i]? = some (uf i)) (hc : ∀ i c, cs[i]? = some c → us[i]? = some (uc i))
      (hvf : ∀ i c, fs[i]? = some c → VR av w κ c (uf i)) (hvc : ∀ i c, cs[i]? = some c → VR av w κ c (uc i)) : VR av w κ (.fn f fs cs) (.func f vs us)
  | yld {κ : Nat → Option Nat} (id l : Nat) (h : κ id = some l) : VR av w κ (.yld id) (.func (.yield l) #[] #[])
  | nilFunc {κ : Nat → Option Nat} : VR av w κ .nilFunc .nilFunc
  | iface {κ : Nat → Option Nat} (t : TypeId) (a : AV) (v : Value) (h : VR av w κ a v) : VR av w κ (.iface t a) (.iface t v)
  | nilIface {κ : Nat → Option Nat} : VR av w κ .nilIface .nilIface
  | agg {κ : Nat → Option Nat} (cs : List AV) (vs : Array Value) (u : Nat → Value) (hl : vs.size = cs.length) (hu : ∀ i c, cs[i]? = some c → vs[i]? = some (u i))
      (hv : ∀ i c, cs[i]? = some c → VR av w κ c (u i)) : VR av w κ (.agg cs) (.agg vs)
  | tup {κ : Nat → Option Nat} (cs : List AV) (vs : Array Value) (u : Nat → Value) (hl : vs.size = cs.length) (hu : ∀ i c, cs[i]? = some c → vs[i]? = some (u i))
      (hv : ∀ i c, cs[i]? = some c → VR av w κ c (u i)) : VR av w κ (.tup cs) (.tuple vs)

abbrev VRel (κ : Nat → Option Nat) (av : Nat → Prop) (w : World) (a : AV) (v : Value) : Prop := VR av w κ a v

theorem cell?_same {w w' : World} {a : Addr} (h : w'.heap[a.block]? = w.heap[a.block]?) : w'.cell? a = w.cell? a := by
  unfold World.cell?; rw [h]
theorem frozen?_same {w w' : World} {a : Addr} (h : w'.heap[a.block]? = w.heap[a.block]?) : w'.frozen? a = w.frozen? a := by
  unfold World.frozen?; rw [h]
theorem add_block (a : Addr) (n : Nat) : (a.add n).block = a.block := by unfold Addr.add; split <;> rfl
theorem add_add (a : Addr) (m n : Nat) : (a.add m).add n = a.add (m + n) := by
  unfold Addr.add
  by_cases hm : m = 0
  · subst hm; simp
  · by_cases hn : n = 0
    · subst hn; simp [hm]
    · have : ¬ (m + n = 0) := by omega
      simp [hm, hn, Nat.add_assoc]

theorem cell?_calm {w : World} {a : Addr} {v : Value} (h : w.cell? a = some v) (d : Option (List Deferred)) : w.heap[a.block]? ≠ some (.deferred d) := by
  intro e
  unfold World.cell? at h
  rw [e] at h
  simp at h
theorem VRel.mono0 {κ κ' : Nat → Option Nat} {av av' : Nat → Prop} {w w' : World}
    (hκ : ∀ id b, κ id = some b → κ' id = some b) (hw : Wle w w') (hav : ∀ b, b < w.heap.size → av' b → av b)
    (hs : ∀ b, b < w.heap.size → ¬ av b → (∀ d, w.heap[b]? ≠ some (.deferred d)) → w'.heap[b]? = w.heap[b]?) {a : AV} {v : Value} (h : VRel κ av w a v) : VRel κ' av' w' a v := by
  induction h generalizing κ' with
  | any v => exact .any v
  | undef => exact .undef
  | bool b => exact .bool b
  | int k n => exact .int k n
  | str s => exact .str s
  | nil => exact .nil
  | lst esz xs base cap u hb hl hc hv ih =>
    refine .lst esz xs base cap u hb hl (fun i x hx j c hj => ?_) (fun i x hx j c hj => ih i x hx j c hj (fun _ _ h => by cases h))
    obtain ⟨a, ha, hn, hcell⟩ := hc i x hx j c hj
    have hb : a.block < w.heap.size := by have := World.block_lt_of_cell? _ _ hcell; rwa [add_block] at this
    exact ⟨a, ha, fun h => hn (hav _ hb h), (cell?_same (by rw [add_block]; exact hs _ hb hn (by have := cell?_calm hcell; rwa [add_block] at this))).trans hcell⟩
  | cptr cells a u hc hv ih =>
    refine .cptr cells a u (fun j c hj => ?_) (fun j c hj => ih j c hj (fun _ _ h => by cases h))
    obtain ⟨hn, hcell⟩ := hc j c hj
    have hb : a.block < w.heap.size := by have := World.block_lt_of_cell? _ _ hcell; rwa [add_block] at this
    exact ⟨fun h => hn (hav _ hb h), (cell?_same (by rw [add_block]; exact hs _ hb hn (by have := cell?_calm hcell; rwa [add_block] at this))).trans hcell⟩
  | nptr => exact .nptr
  | vptr id off blk h => exact .vptr id off blk (hκ id _ h)
  | rsl0 id off esz base => exact .rsl0 id off esz base
  | rsl id off len esz cap blk c e f h hl hb hcap =>
    obtain ⟨c', f', h1, h2⟩ := hw.2.1 _ _ _ _ hb
    exact .rsl id off len esz cap blk c' e f' (hκ id _ h) hl h1 (by rw [h2]; exact hcap)
  | mref id r h => exact .mref id r (hκ id _ h)
  | imap es r ents clk uk uv hn hr hsz hu hk hv hB ihk ihv =>
    have hb : r < w.heap.size := by
      rcases Nat.lt_or_ge r w.heap.size with h | h
      · exact h
      · rw [Array.getElem?_eq_none h] at hr; cases hr
    exact .imap es r ents clk uk uv (fun h => hn (hav _ hb h)) ((hs _ hb hn (fun d e => by rw [hr] at e; cases e)).trans hr) hsz hu (fun i e he => ihk i e he (fun _ _ h => by cases h)) (fun i e he => ihv i e he (fun _ _ h => by cases h)) hB
  | nmap => exact .nmap
  | fn f fs cs vs us uf uc hlf hlc hf hc hvf hvc ihf ihc => exact .fn f fs cs vs us uf uc hlf hlc hf hc (fun i c h => ihf i c h hκ) (fun i c h => ihc i c h hκ)
  | yld id l h => exact .yld id l (hκ id _ h)
  | nilFunc => exact .nilFunc
  | iface t a v h ih => exact .iface t a v (ih hκ)
  | nilIface => exact .nilIface
  | agg cs vs u hl hu hv ih => exact .agg cs vs u hl hu (fun i c h => ih i c h hκ)
  | tup cs vs u hl hu hv ih => exact .tup cs vs u hl hu (fun i c h => ih i c h hκ)

theorem VRel.mono {κ κ' : Nat → Option Nat} {av av' : Nat → Prop} {w w' : World}
    (hκ : ∀ id b, κ id = some b → κ' id = some b) (hw : Wle w w') (hav : ∀ b, b < w.heap.size → av' b → av b)
    (hs : ∀ b, b < w.heap.size → ¬ av b → w'.heap[b]? = w.heap[b]?) {a : AV} {v : Value} (h : VRel κ av w a v) : VRel κ' av' w' a v :=
  h.mono0 hκ hw hav fun b h1 h2 _ => hs b h1 h2

mutual
def AV.ok (n : Nat) : AV → Bool
  | .vptr id _ => decide (id < n)
  | .rsl id _ _ _ => decide (id < n)
  | .mref id => decide (id < n)
  | .yld id => decide (id < n)
  | .fn _ fs cs => okL n fs && okL n cs
  | .iface _ v => v.ok n
  | .agg cs => okL n cs
  | .tup cs => okL n cs
  | _ => true
termination_by structural a => a
def okL (n : Nat) : List AV → Bool
  | [] => true
  | a :: r => a.ok n && okL n r
termination_by structural a => a
def okLL (n : Nat) : List (List AV) → Bool
  | [] => true
  | a :: r => okL n a && okLL n r
termination_by structural a => a
def okE (n : Nat) : List (AV × AV) → Bool
  | [] => true
  | p :: r => okP n p && okE n r
termination_by structural a => a
def okP (n : Nat) : AV × AV → Bool
  | (a, b) => a.ok n && b.ok n
end
theorem okL_eq (n : Nat) (l : List AV) : okL n l = l.all (AV.ok n) := by
  induction l with
  | nil => rfl
  | cons a r ih => simp [okL, ih]
theorem okLL_eq (n : Nat) (l : List (List AV)) : okLL n l = l.all (okL n) := by
  induction l with
  | nil => rfl
  | cons a r ih => simp [okLL, ih]
theorem okE_eq (n : Nat) (l : List (AV × AV)) : okE n l = l.all fun e => e.1.ok n && e.2.ok n := by
  induction l with
  | nil => rfl
  | cons a r ih => obtain ⟨a, b⟩ := a; simp [okE, okP, ih]
theorem okL_get {n : Nat} {l : List AV} (h : okL n l = true) {i : Nat} {c : AV} (hc : l[i]? = some c) : c.ok n = true := by
  rw [okL_eq, List.all_eq_true] at h; exact h c (List.mem_of_getElem? hc)
theorem okLL_get {n : Nat} {l : List (List AV)} (h : okLL n l = true) {i : Nat} {x : List AV} (hx : l[i]? = some x) : okL n x = true := by
  rw [okLL_eq, List.all_eq_true] at h; exact h x (List.mem_of_getElem? hx)
theorem okE_get {n : Nat} {l : List (AV × AV)} (h : okE n l = true) {i : Nat} {e : AV × AV} (hx : l[i]? = some e) : e.1.ok n = true ∧ e.2.ok n = true := by
  rw [okE_eq, List.all_eq_true] at h; have := h e (List.mem_of_getElem? hx); simpa using this

/-- Numbers that a value does not bear may be mapped anew. -/
theorem VRel.low {κ κ' : Nat → Option Nat} {av : Nat → Prop} {nx' : Nat} {w : World} (hκ : ∀ id, id < nx' → κ' id = κ id)
    {a : AV} {v : Value} (h : VRel κ av w a v) (hok : a.ok nx' = true) : VRel κ' av w a v := by
  induction h with
  | any v => exact .any v
  | undef => exact .undef
  | bool b => exact .bool b
  | int k n => exact .int k n
  | str s => exact .str s
  | nil => exact .nil
  | lst esz xs base cap u hb hl hc hv ih =>
    exact .lst esz xs base cap u hb hl hc hv
  | cptr cells a u hc hv ih =>
    exact .cptr cells a u hc hv
  | nptr => exact .nptr
  | vptr id off blk h =>
    simp only [AV.ok, decide_eq_true_eq] at hok
    exact .vptr id off blk ((hκ id hok).trans h)
  | rsl0 id off esz base => exact .rsl0 id off esz base
  | rsl id off len esz cap blk c e f h hl hb hcap =>
    simp only [AV.ok, decide_eq_true_eq] at hok
    exact .rsl id off len esz cap blk c e f ((hκ id hok).trans h) hl hb hcap
  | mref id r h =>
    simp only [AV.ok, decide_eq_true_eq] at hok
    exact .mref id r ((hκ id hok).trans h)
  | imap es r ents clk uk uv hn hr hsz hu hk hv hB ihk ihv =>
    exact .imap es r ents clk uk uv hn hr hsz hu hk hv hB
  | nmap => exact .nmap
  | fn f fs cs vs us uf uc hlf hlc hf hc hvf hvc ihf ihc =>
    simp only [AV.ok, Bool.and_eq_true] at hok
    exact .fn f fs cs vs us uf uc hlf hlc hf hc (fun i c h => ihf i c h hκ (okL_get hok.1 h)) (fun i c h => ihc i c h hκ (okL_get hok.2 h))
  | yld id l h =>
    simp only [AV.ok, decide_eq_true_eq] at hok
    exact .yld id l ((hκ id hok).trans h)
  | nilFunc => exact .nilFunc
  | iface t a v h ih => simp only [AV.ok] at hok; exact .iface t a v (ih hκ hok)
  | nilIface => exact .nilIface
  | agg cs vs u hl hu hv ih => simp only [AV.ok] at hok; exact .agg cs vs u hl hu fun i c h => ih i c h hκ (okL_get hok h)
  | tup cs vs u hl hu hv ih => simp only [AV.ok] at hok; exact .tup cs vs u hl hu fun i c h => ih i c h hκ (okL_get hok h)

/-- What bears no number does so under whatever map. -/
theorem VRel.up {κ : Nat → Option Nat} {av : Nat → Prop} {w : World} {a : AV} {v : Value} (h : VRel nok av w a v) : VRel κ av w a v :=
  h.mono (fun _ _ h => by cases h) (.refl w) (fun _ _ h => h) (fun _ _ _ => rfl)
theorem VR.up {κ : Nat → Option Nat} {av : Nat → Prop} {w : World} {a : AV} {v : Value} (h : VR av w nok a v) : VRel κ av w a v := VRel.up h
end Go.Am
