import Derived.CallsIn
import Derived.Laws.World
import Derived.Laws.Sem
import Derived.Laws.Strings
import Derived.Laws.StructEq
import Derived.MapKept
import Derived.RangeFuncRecord
/-
  ABSTRACT VALUES AND THE RELATION TO THE MODEL's MEMORY. 'AV' are values without addresses and capacities: what is only read lies inline ('lst', 'cptr', 'imap'); what the activation itself writes bears a number ('vptr', 'rsl', 'mref') that a partial map 'κ' takes to a block.
-/
namespace Go.Am

inductive AV where
  | any
  | undef
  | bool (b : Bool)
  | int (k : IntKind) (n : Int)
  | str (s : ByteArray)
  | nil
  | lst (esz : Nat) (xs : List (List AV))
  | cptr (cells : List AV)
  | nptr
  | vptr (id off : Nat)
  | rsl (id off len esz : Nat)
  | mref (id : Nat)
  | imap (es : List (AV × AV))
  | nmap
  | fn (f : Fn) (first captured : List AV)
  | yld (id : Nat)
  | nilFunc
  | iface (t : TypeId) (v : AV)
  | nilIface
  | agg (cells : List AV)
  | tup (vs : List AV)
  deriving Inhabited

abbrev Env := List (Nat × AV)
def elook : Env → Nat → AV
  | [], _ => .any
  | (k, v) :: r, t => if k = t then v else elook r t

/-- A loop over a function, as its record tells it. -/
structure ALoop where
  state : LoopState
  pending : Option Code
  n : Nat
  env : Env
  params : Array Tmp
  assign : Code
  body : Code

inductive AObj where
  | cells (cs : List AV)
  | map (es : List (AV × AV))
  | loop (L : ALoop)
instance : Inhabited AObj := ⟨.cells []⟩

abbrev AHeap := List (Nat × AObj)

def hget : AHeap → Nat → Option AObj
  | [], _ => none
  | (k, o) :: r, i => if k = i then some o else hget r i
def hset : AHeap → Nat → AObj → AHeap
  | [], i, o => [(i, o)]
  | (k, p) :: r, i, o => if k = i then (i, o) :: r else (k, p) :: hset r i o
def herase : AHeap → Nat → AHeap
  | [], _ => []
  | (k, p) :: r, i => if k = i then herase r i else (k, p) :: herase r i
theorem hget_hset (H : AHeap) (i j : Nat) (o : AObj) : hget (hset H i o) j = if i = j then some o else hget H j := by
  induction H with
  | nil => simp [hset, hget]
  | cons x r ih =>
    obtain ⟨k, p⟩ := x
    by_cases hk : k = i
    · subst hk; simp only [hset, hget, if_true]; by_cases hj : k = j <;> simp [hj]
    · simp only [hset, hk, if_false, hget, ih]
      by_cases hj : k = j
      · subst hj; simp [Ne.symm hk]
      · simp [hj]
theorem hset_hset (H : AHeap) (i : Nat) (o p : AObj) : hset (hset H i o) i p = hset H i p := by
  induction H with
  | nil => simp [hset]
  | cons x r ih =>
    obtain ⟨k, q⟩ := x
    by_cases hk : k = i
    · simp [hset, hk]
    · simp [hset, hk, ih]
theorem hget_herase (H : AHeap) (i j : Nat) : hget (herase H i) j = if i = j then none else hget H j := by
  induction H with
  | nil => simp [herase, hget]
  | cons x r ih =>
    obtain ⟨k, p⟩ := x
    by_cases hk : k = i
    · subst hk; simp only [herase, if_true, ih, hget]; by_cases hj : k = j <;> simp [hj]
    · simp only [herase, hk, if_false, hget, ih]
      by_cases hj : k = j
      · subst hj; simp [Ne.symm hk]
      · simp [hj]

/-- The worlds' order: no block goes away, rows keep their sizes. -/
def Wle (w w' : World) : Prop :=
  w.heap.size ≤ w'.heap.size ∧ (∀ (b : Nat) c e f, w.heap[b]? = some (.cells c e f) → ∃ c' f', w'.heap[b]? = some (.cells c' e f') ∧ c'.size = c.size) ∧
  (∀ (b : Nat) L, w.heap[b]? = some (.loop L) → ∃ L', w'.heap[b]? = some (.loop L')) ∧ w'.os = w.os ∧ w'.tape = w.tape ∧ w'.output = w.output
theorem Wle.refl (w : World) : Wle w w := ⟨Nat.le_refl _, fun _ c _ f h => ⟨c, f, h, rfl⟩, fun _ L h => ⟨L, h⟩, rfl, rfl, rfl⟩
theorem Wle.trans {a b c : World} (h : Wle a b) (k : Wle b c) : Wle a c :=
  ⟨Nat.le_trans h.1 k.1, fun i c e f hi => by
    obtain ⟨c', f', h1, h2⟩ := h.2.1 i c e f hi
    obtain ⟨c'', f'', h3, h4⟩ := k.2.1 i c' e f' h1
    exact ⟨c'', f'', h3, h4.trans h2⟩, fun i L hi => by
    obtain ⟨L', h1⟩ := h.2.2.1 i L hi
    exact k.2.2.1 i L' h1, k.2.2.2.1.trans h.2.2.2.1, k.2.2.2.2.1.trans h.2.2.2.2.1, k.2.2.2.2.2.trans h.2.2.2.2.2⟩
/-- No block changes but its own cells. -/
theorem Wle.same {w w' : World} (h : w'.heap = w.heap) (hs : w'.os = w.os ∧ w'.tape = w.tape ∧ w'.output = w.output) : Wle w w' := ⟨by rw [h]; exact Nat.le_refl _, fun b c e f hb => ⟨c, f, by rw [h]; exact hb, rfl⟩, fun b L hb => ⟨L, by rw [h]; exact hb⟩, hs⟩

/-- No number is mapped. -/
abbrev nok : Nat → Option Nat := fun _ => none
inductive VR (av : Nat → Prop) (w : World) : (Nat → Option Nat) → AV → Value → Prop
  | any {κ : Nat → Option Nat} (v : Value) : VR av w κ .any v
  | undef {κ : Nat → Option Nat} : VR av w κ .undef Go.undef
  | bool {κ : Nat → Option Nat} (b : Bool) : VR av w κ (.bool b) (.bool b)
  | int {κ : Nat → Option Nat} (k : IntKind) (n : Int) : VR av w κ (.int k n) (.int k n)
  | str {κ : Nat → Option Nat} (s : ByteArray) : VR av w κ (.str s) (.string s)
  | nil {κ : Nat → Option Nat} : VR av w κ .nil (.slice none 0 0)
  | lst {κ : Nat → Option Nat} (esz : Nat) (xs : List (List AV)) (base : Option Addr) (cap : Nat) (u : Nat → Nat → Value) (hb : base = none → xs = []) (hl : xs.length ≤ cap)
      (hc : ∀ i x, xs[i]? = some x → ∀ j c, x[j]? = some c → ∃ a, base = some a ∧ ¬ av a.block ∧ w.cell? (a.add (i * esz + j)) = some (u i j))
      (hv : ∀ i x, xs[i]? = some x → ∀ j c, x[j]? = some c → VR av w nok c (u i j)) : VR av w κ (.lst esz xs) (.slice base xs.length cap)
  | cptr {κ : Nat → Option Nat} (cells : List AV) (a : Addr) (u : Nat → Value)
      (hc : ∀ j c, cells[j]? = some c → ¬ av a.block ∧ w.cell? (a.add j) = some (u j))
      (hv : ∀ j c, cells[j]? = some c → VR av w nok c (u j)) : VR av w κ (.cptr cells) (.pointer (some a))
  | nptr {κ : Nat → Option Nat} : VR av w κ .nptr (.pointer none)
  | vptr {κ : Nat → Option Nat} (id off blk : Nat) (h : κ id = some blk) : VR av w κ (.vptr id off) (.pointer (some ⟨blk, off, none⟩))
  | rsl0 {κ : Nat → Option Nat} (id off esz : Nat) (base : Option Addr) : VR av w κ (.rsl id off 0 esz) (.slice base 0 0)
  | rsl {κ : Nat → Option Nat} (id off len esz cap blk : Nat) (c : Array Value) (e : TypeId) (f : Nat × Nat) (h : κ id = some blk) (hl : len ≤ cap)
      (hb : w.heap[blk]? = some (.cells c e f)) (hcap : off + cap * esz ≤ c.size) : VR av w κ (.rsl id off len esz) (.slice (some ⟨blk, off, none⟩) len cap)
  | mref {κ : Nat → Option Nat} (id r : Nat) (h : κ id = some r) : VR av w κ (.mref id) (.map (some r))
  | imap {κ : Nat → Option Nat} (es : List (AV × AV)) (r : Nat) (ents : Array MapEntry) (clk : Nat) (uk uv : Nat → Value) (hav : ¬ av r) (hr : w.heap[r]? = some (.map ents clk))
      (hsz : ents.size = es.length) (hu : ∀ i e, es[i]? = some e → ∃ m, ents[i]? = some m ∧ m.key = uk i ∧ m.val = uv i)
      (hk : ∀ i e, es[i]? = some e → VR av w nok e.1 (uk i)) (hv : ∀ i e, es[i]? = some e → VR av w nok e.2 (uv i)) : VR av w κ (.imap es) (.map (some r))
  | nmap {κ : Nat → Option Nat} : VR av w κ .nmap (.map none)
  | fn {κ : Nat → Option Nat} (f : Fn) (fs cs : List AV) (vs us : Array Value) (uf uc : Nat → Value) (hlf : vs.size = fs.length) (hlc : us.size = cs.length)
      (hf : ∀ i c, fs[i]? = some c → vs[i]? = some (uf i)) (hc : ∀ i c, cs[i]? = some c → us[i]? = some (uc i))
      (hvf : ∀ i c, fs[i]? = some c → VR av w κ c (uf i)) (hvc : ∀ i c, cs[i]? = some c → VR av w κ c (uc i)) : VR av w κ (.fn f fs cs) (.func f vs us)
  | yld {κ : Nat → Option Nat} (id l : Nat) (h : κ id = some l) : VR av w κ (.yld id) (.func (.yield l) #[] #[])
  | nilFunc {κ : Nat → Option Nat} : VR av w κ .nilFunc .nilFunc
  | iface {κ : Nat → Option Nat} (t : TypeId) (a : AV) (v : Value) (h : VR av w κ a v) : VR av w κ (.iface t a) (.iface t v)
  | nilIface {κ : Nat → Option Nat} : VR av w κ .nilIface .nilIface
  | agg {κ : Nat → Option Nat} (cs : List AV) (vs : Array Value) (u : Nat → Value) (hl : vs.size = cs.length) (hu : ∀ i c, cs[i]? = some c → vs[i]? = some (u i))
      (hv : ∀ i c, cs[i]? = some c → VR av w κ c (u i)) : VR av w κ (.agg cs) (.agg vs)
  | tup {κ : Nat → Option Nat} (cs : List AV) (vs : Array Value) (u : Nat → Value) (hl : vs.size = cs.length) (hu : ∀ i c, cs[i]? = some c → vs[i]? = some (u i))
      (hv : ∀ i c, cs[i]? = some c → VR av w κ c (u i)) : VR av w κ (.tup cs) (.tuple vs)

abbrev VRel (κ : Nat → Option Nat) (av : Nat → Prop) (w : World) (a : AV) (v : Value) : Prop := VR av w κ a v

theorem cell?_same {w w' : World} {a : Addr} (h : w'.heap[a.block]? = w.heap[a.block]?) : w'.cell? a = w.cell? a := by
  unfold World.cell?; rw [h]
theorem frozen?_same {w w' : World} {a : Addr} (h : w'.heap[a.block]? = w.heap[a.block]?) : w'.frozen? a = w.frozen? a := by
  unfold World.frozen?; rw [h]
theorem add_block (a : Addr) (n : Nat) : (a.add n).block = a.block := by unfold Addr.add; split <;> rfl
theorem add_add (a : Addr) (m n : Nat) : (a.add m).add n = a.add (m + n) := by
  unfold Addr.add
  by_cases hm : m = 0
  · subst hm; simp
  · by_cases hn : n = 0
    · subst hn; simp [hm]
    · have : ¬ (m + n = 0) := by omega
      simp [hm, hn, Nat.add_assoc]

theorem cell?_calm {w : World} {a : Addr} {v : Value} (h : w.cell? a = some v) (d : Option (List Deferred)) : w.heap[a.block]? ≠ some (.deferred d) := by
  intro e
  unfold World.cell? at h
  rw [e] at h
  simp at h
theorem VRel.mono0 {κ κ' : Nat → Option Nat} {av av' : Nat → Prop} {w w' : World}
    (hκ : ∀ id b, κ id = some b → κ' id = some b) (hw : Wle w w') (hav : ∀ b, b < w.heap.size → av' b → av b)
    (hs : ∀ b, b < w.heap.size → ¬ av b → (∀ d, w.heap[b]? ≠ some (.deferred d)) → w'.heap[b]? = w.heap[b]?) {a : AV} {v : Value} (h : VRel κ av w a v) : VRel κ' av' w' a v := by
  induction h generalizing κ' with
  | any v => exact .any v
  | undef => exact .undef
  | bool b => exact .bool b
  | int k n => exact .int k n
  | str s => exact .str s
  | nil => exact .nil
  | lst esz xs base cap u hb hl hc hv ih =>
    refine .lst esz xs base cap u hb hl (fun i x hx j c hj => ?_) (fun i x hx j c hj => ih i x hx j c hj (fun _ _ h => by cases h))
    obtain ⟨a, ha, hn, hcell⟩ := hc i x hx j c hj
    have hb : a.block < w.heap.size := by have := World.block_lt_of_cell? _ _ hcell; rwa [add_block] at this
    exact ⟨a, ha, fun h => hn (hav _ hb h), (cell?_same (by rw [add_block]; exact hs _ hb hn (by have := cell?_calm hcell; rwa [add_block] at this))).trans hcell⟩
  | cptr cells a u hc hv ih =>
    refine .cptr cells a u (fun j c hj => ?_) (fun j c hj => ih j c hj (fun _ _ h => by cases h))
    obtain ⟨hn, hcell⟩ := hc j c hj
    have hb : a.block < w.heap.size := by have := World.block_lt_of_cell? _ _ hcell; rwa [add_block] at this
    exact ⟨fun h => hn (hav _ hb h), (cell?_same (by rw [add_block]; exact hs _ hb hn (by have := cell?_calm hcell; rwa [add_block] at this))).trans hcell⟩
  | nptr => exact .nptr
  | vptr id off blk h => exact .vptr id off blk (hκ id _ h)
  | rsl0 id off esz base => exact .rsl0 id off esz base
  | rsl id off len esz cap blk c e f h hl hb hcap =>
    obtain ⟨c', f', h1, h2⟩ := hw.2.1 _ _ _ _ hb
    exact .rsl id off len esz cap blk c' e f' (hκ id _ h) hl h1 (by rw [h2]; exact hcap)
  | mref id r h => exact .mref id r (hκ id _ h)
  | imap es r ents clk uk uv hn hr hsz hu hk hv ihk ihv =>
    have hb : r < w.heap.size := by
      rcases Nat.lt_or_ge r w.heap.size with h | h
      · exact h
      · rw [Array.getElem?_eq_none h] at hr; cases hr
    exact .imap es r ents clk uk uv (fun h => hn (hav _ hb h)) ((hs _ hb hn (fun d e => by rw [hr] at e; cases e)).trans hr) hsz hu (fun i e he => ihk i e he (fun _ _ h => by cases h)) (fun i e he => ihv i e he (fun _ _ h => by cases h))
  | nmap => exact .nmap
  | fn f fs cs vs us uf uc hlf hlc hf hc hvf hvc ihf ihc => exact .fn f fs cs vs us uf uc hlf hlc hf hc (fun i c h => ihf i c h hκ) (fun i c h => ihc i c h hκ)
  | yld id l h => exact .yld id l (hκ id _ h)
  | nilFunc => exact .nilFunc
  | iface t a v h ih => exact .iface t a v (ih hκ)
  | nilIface => exact .nilIface
  | agg cs vs u hl hu hv ih => exact .agg cs vs u hl hu (fun i c h => ih i c h hκ)
  | tup cs vs u hl hu hv ih => exact .tup cs vs u hl hu (fun i c h => ih i c h hκ)

theorem VRel.mono {κ κ' : Nat → Option Nat} {av av' : Nat → Prop} {w w' : World}
    (hκ : ∀ id b, κ id = some b → κ' id = some b) (hw : Wle w w') (hav : ∀ b, b < w.heap.size → av' b → av b)
    (hs : ∀ b, b < w.heap.size → ¬ av b → w'.heap[b]? = w.heap[b]?) {a : AV} {v : Value} (h : VRel κ av w a v) : VRel κ' av' w' a v :=
  h.mono0 hκ hw hav fun b h1 h2 _ => hs b h1 h2

mutual
def AV.ok (n : Nat) : AV → Bool
  | .vptr id _ => decide (id < n)
  | .rsl id _ _ _ => decide (id < n)
  | .mref id => decide (id < n)
  | .yld id => decide (id < n)
  | .fn _ fs cs => okL n fs && okL n cs
  | .iface _ v => v.ok n
  | .agg cs => okL n cs
  | .tup cs => okL n cs
  | _ => true
termination_by structural a => a
def okL (n : Nat) : List AV → Bool
  | [] => true
  | a :: r => a.ok n && okL n r
termination_by structural a => a
def okLL (n : Nat) : List (List AV) → Bool
  | [] => true
  | a :: r => okL n a && okLL n r
termination_by structural a => a
def okE (n : Nat) : List (AV × AV) → Bool
  | [] => true
  | p :: r => okP n p && okE n r
termination_by structural a => a
def okP (n : Nat) : AV × AV → Bool
  | (a, b) => a.ok n && b.ok n
end
theorem okL_eq (n : Nat) (l : List AV) : okL n l = l.all (AV.ok n) := by
  induction l with
  | nil => rfl
  | cons a r ih => simp [okL, ih]
theorem okLL_eq (n : Nat) (l : List (List AV)) : okLL n l = l.all (okL n) := by
  induction l with
  | nil => rfl
  | cons a r ih => simp [okLL, ih]
theorem okE_eq (n : Nat) (l : List (AV × AV)) : okE n l = l.all fun e => e.1.ok n && e.2.ok n := by
  induction l with
  | nil => rfl
  | cons a r ih => obtain ⟨a, b⟩ := a; simp [okE, okP, ih]
theorem okL_get {n : Nat} {l : List AV} (h : okL n l = true) {i : Nat} {c : AV} (hc : l[i]? = some c) : c.ok n = true := by
  rw [okL_eq, List.all_eq_true] at h; exact h c (List.mem_of_getElem? hc)
theorem okLL_get {n : Nat} {l : List (List AV)} (h : okLL n l = true) {i : Nat} {x : List AV} (hx : l[i]? = some x) : okL n x = true := by
  rw [okLL_eq, List.all_eq_true] at h; exact h x (List.mem_of_getElem? hx)
theorem okE_get {n : Nat} {l : List (AV × AV)} (h : okE n l = true) {i : Nat} {e : AV × AV} (hx : l[i]? = some e) : e.1.ok n = true ∧ e.2.ok n = true := by
  rw [okE_eq, List.all_eq_true] at h; have := h e (List.mem_of_getElem? hx); simpa using this

/-- Numbers that a value does not bear may be mapped anew. -/
theorem VRel.low {κ κ' : Nat → Option Nat} {av : Nat → Prop} {nx' : Nat} {w : World} (hκ : ∀ id, id < nx' → κ' id = κ id)
    {a : AV} {v : Value} (h : VRel κ av w a v) (hok : a.ok nx' = true) : VRel κ' av w a v := by
  induction h with
  | any v => exact .any v
  | undef => exact .undef
  | bool b => exact .bool b
  | int k n => exact .int k n
  | str s => exact .str s
  | nil => exact .nil
  | lst esz xs base cap u hb hl hc hv ih =>
    exact .lst esz xs base cap u hb hl hc hv
  | cptr cells a u hc hv ih =>
    exact .cptr cells a u hc hv
  | nptr => exact .nptr
  | vptr id off blk h =>
    simp only [AV.ok, decide_eq_true_eq] at hok
    exact .vptr id off blk ((hκ id hok).trans h)
  | rsl0 id off esz base => exact .rsl0 id off esz base
  | rsl id off len esz cap blk c e f h hl hb hcap =>
    simp only [AV.ok, decide_eq_true_eq] at hok
    exact .rsl id off len esz cap blk c e f ((hκ id hok).trans h) hl hb hcap
  | mref id r h =>
    simp only [AV.ok, decide_eq_true_eq] at hok
    exact .mref id r ((hκ id hok).trans h)
  | imap es r ents clk uk uv hn hr hsz hu hk hv ihk ihv =>
    exact .imap es r ents clk uk uv hn hr hsz hu hk hv
  | nmap => exact .nmap
  | fn f fs cs vs us uf uc hlf hlc hf hc hvf hvc ihf ihc =>
    simp only [AV.ok, Bool.and_eq_true] at hok
    exact .fn f fs cs vs us uf uc hlf hlc hf hc (fun i c h => ihf i c h hκ (okL_get hok.1 h)) (fun i c h => ihc i c h hκ (okL_get hok.2 h))
  | yld id l h =>
    simp only [AV.ok, decide_eq_true_eq] at hok
    exact .yld id l ((hκ id hok).trans h)
  | nilFunc => exact .nilFunc
  | iface t a v h ih => simp only [AV.ok] at hok; exact .iface t a v (ih hκ hok)
  | nilIface => exact .nilIface
  | agg cs vs u hl hu hv ih => simp only [AV.ok] at hok; exact .agg cs vs u hl hu fun i c h => ih i c h hκ (okL_get hok h)
  | tup cs vs u hl hu hv ih => simp only [AV.ok] at hok; exact .tup cs vs u hl hu fun i c h => ih i c h hκ (okL_get hok h)

/-- What bears no number does so under whatever map. -/
theorem VRel.up {κ : Nat → Option Nat} {av : Nat → Prop} {w : World} {a : AV} {v : Value} (h : VRel nok av w a v) : VRel κ av w a v :=
  h.mono (fun _ _ h => by cases h) (.refl w) (fun _ _ h => h) (fun _ _ _ => rfl)
theorem VR.up {κ : Nat → Option Nat} {av : Nat → Prop} {w : World} {a : AV} {v : Value} (h : VR av w nok a v) : VRel κ av w a v := VRel.up h
end Go.Am
/-
  STEPS OF THE MEMORY UNDER THE RELATION: what may change, and what stays known. 'HRel' ties the numbered objects to blocks; 'Step' is a change that touches nothing else.
-/
namespace Go.Am

def ORel (κ : Nat → Option Nat) (av : Nat → Prop) (w : World) (id : Nat) : AObj → Prop
  | .cells cs => (cs = [] ∧ κ id = none) ∨ ∃ (blk : Nat) (c : Array Value) (e : TypeId), κ id = some blk ∧ w.heap[blk]? = some (.cells c e (0, 0)) ∧ cs.length ≤ c.size ∧
      ∀ (i : Nat) (x : AV), cs[i]? = some x → ∃ v, c[i]? = some v ∧ VRel κ av w x v
  | .map es => ∃ (r : Nat) (ents : Array MapEntry) (clk : Nat), κ id = some r ∧ w.heap[r]? = some (.map ents clk) ∧ ents.size = es.length ∧
      ∀ (i : Nat) (e : AV × AV), es[i]? = some e → ∃ m : MapEntry, ents[i]? = some m ∧ VRel κ av w e.1 m.key ∧ VRel κ av w e.2 m.val
  | .loop L => ∃ (r : Nat) (R : Loop), κ id = some r ∧ w.heap[r]? = some (.loop R) ∧ R.state = L.state ∧ R.pending = L.pending ∧ R.params = L.params ∧ R.assign = L.assign ∧ R.body = L.body ∧
      R.tmps.size = L.n ∧ ∀ t, VRel κ av w (elook L.env t) (R.tmps.getD t Go.undef)

theorem ORel.mono {κ κ' : Nat → Option Nat} {av av' : Nat → Prop} {w w' : World} (id : Nat)
    (hκ : ∀ id b, κ id = some b → κ' id = some b) (hn : κ id = none → κ' id = none) (hw : Wle w w') (hav : ∀ b, b < w.heap.size → av' b → av b)
    (hs : ∀ b, b < w.heap.size → ¬ av b → w'.heap[b]? = w.heap[b]?)
    (ho : ∀ b, κ id = some b → w'.heap[b]? = w.heap[b]?) {o : AObj} (h : ORel κ av w id o) : ORel κ' av' w' id o := by
  cases o with
  | cells cs =>
    rcases h with ⟨h1, h2⟩ | ⟨blk, c, e, h1, h2, h3, h4⟩
    · exact .inl ⟨h1, hn h2⟩
    · refine .inr ⟨blk, c, e, hκ id _ h1, (ho blk h1).trans h2, h3, fun i x hx => ?_⟩
      obtain ⟨v, hv, hr⟩ := h4 i x hx
      exact ⟨v, hv, hr.mono hκ hw hav hs⟩
  | map es =>
    obtain ⟨r, ents, clk, h1, h2, h3, h4⟩ := h
    refine ⟨r, ents, clk, hκ id _ h1, (ho r h1).trans h2, h3, fun i e he => ?_⟩
    obtain ⟨m, hm, hk, hv⟩ := h4 i e he
    exact ⟨m, hm, hk.mono hκ hw hav hs, hv.mono hκ hw hav hs⟩
  | loop L =>
    obtain ⟨r, R, h1, h2, h3, h4, h5, h6, h7, h8, h9⟩ := h
    exact ⟨r, R, hκ id _ h1, (ho r h1).trans h2, h3, h4, h5, h6, h7, h8, fun t => (h9 t).mono hκ hw hav hs⟩

/-- The blocks that the numbered objects lie in. -/
def owned (κ : Nat → Option Nat) (H : AHeap) (b : Nat) : Prop := ∃ id o, hget H id = some o ∧ κ id = some b
def avoid (κ : Nat → Option Nat) (N : Nat → Prop) (H : AHeap) (b : Nat) : Prop := N b ∨ owned κ H b

structure HRel (κ : Nat → Option Nat) (N : Nat → Prop) (H : AHeap) (w : World) : Prop where
  rel : ∀ id o, hget H id = some o → ORel κ (avoid κ N H) w id o
  inj : ∀ id id' b o o', hget H id = some o → hget H id' = some o' → κ id = some b → κ id' = some b → id = id'
  bd : ∀ id b, κ id = some b → b < w.heap.size
  Nbd : ∀ b, N b → b < w.heap.size
  NH : ∀ b, N b → ¬ owned κ H b

structure Step (N : Nat → Prop) (κ : Nat → Option Nat) (H : AHeap) (w : World) (κ' : Nat → Option Nat) (H' : AHeap) (w' : World) : Prop where
  ext : ∀ id b, κ id = some b → κ' id = some b
  wle : Wle w w'
  same : ∀ b, b < w.heap.size → ¬ owned κ H b → w'.heap[b]? = w.heap[b]?
  new : ∀ b, owned κ' H' b → owned κ H b ∨ w.heap.size ≤ b
  hrel : HRel κ' N H' w'

/-- A number that is not in use. -/
def Fresh (κ : Nat → Option Nat) (H : AHeap) (id : Nat) : Prop := κ id = none ∧ hget H id = none

theorem Step.refl {N : Nat → Prop} {κ : Nat → Option Nat} {H : AHeap} {w : World} (h : HRel κ N H w) : Step N κ H w κ H w :=
  ⟨fun _ _ h => h, .refl w, fun _ _ _ => rfl, fun _ hb => .inl hb, h⟩

theorem Step.trans {N : Nat → Prop} {κ κ' κ'' : Nat → Option Nat} {H H' H'' : AHeap} {w w' w'' : World}
    (h : Step N κ H w κ' H' w') (k : Step N κ' H' w' κ'' H'' w'') : Step N κ H w κ'' H'' w'' where
  ext := fun id b hb => k.ext id b (h.ext id b hb)
  wle := h.wle.trans k.wle
  same := fun b hb hn => by
    refine (k.same b (Nat.lt_of_lt_of_le hb h.wle.1) ?_).trans (h.same b hb hn)
    intro ho
    rcases h.new b ho with h1 | h1
    · exact hn h1
    · omega
  new := fun b hb => by
    rcases k.new b hb with h1 | h1
    · exact h.new b h1
    · exact .inr (Nat.le_trans h.wle.1 h1)
  hrel := k.hrel

theorem Step.hav {N : Nat → Prop} {κ κ' : Nat → Option Nat} {H H' : AHeap} {w w' : World} (h : Step N κ H w κ' H' w')
    (b : Nat) (hb : b < w.heap.size) (ha : avoid κ' N H' b) : avoid κ N H b := by
  rcases ha with ha | ha
  · exact .inl ha
  · rcases h.new b ha with h1 | h1
    · exact .inr h1
    · omega

theorem Step.v {N : Nat → Prop} {κ κ' : Nat → Option Nat} {H H' : AHeap} {w w' : World} (h : Step N κ H w κ' H' w') {a : AV} {v : Value}
    (hv : VRel κ (avoid κ N H) w a v) : VRel κ' (avoid κ' N H') w' a v :=
  hv.mono h.ext h.wle h.hav fun b hb hn => h.same b hb fun ho => hn (.inr ho)

/-- A step is proved once what is turned is told: the one object whose own block may change. -/
theorem Step.mk' {N : Nat → Prop} {κ κ' : Nat → Option Nat} {H H' : AHeap} {w w' : World} (h : HRel κ N H w)
    (ext : ∀ id b, κ id = some b → κ' id = some b) (wle : Wle w w')
    (same : ∀ b, b < w.heap.size → ¬ owned κ H b → w'.heap[b]? = w.heap[b]?)
    (new : ∀ b, owned κ' H' b → owned κ H b ∨ w.heap.size ≤ b)
    (bd : ∀ id b, κ' id = some b → b < w'.heap.size)
    (inj : ∀ id id' b o o', hget H' id = some o → hget H' id' = some o' → κ' id = some b → κ' id' = some b → id = id')
    (turned : ∀ id o, hget H' id = some o → (hget H id = some o ∧ (κ id = none → κ' id = none) ∧ ∀ b, κ id = some b → w'.heap[b]? = w.heap[b]?) ∨
      ORel κ' (avoid κ' N H') w' id o) : Step N κ H w κ' H' w' := by
  have hav : ∀ b, b < w.heap.size → avoid κ' N H' b → avoid κ N H b := by
    intro b hb ha
    rcases ha with ha | ha
    · exact .inl ha
    · rcases new b ha with h1 | h1
      · exact .inr h1
      · omega
  refine ⟨ext, wle, same, new, ⟨fun id o ho => ?_, inj, bd, fun b hb => Nat.lt_of_lt_of_le (h.Nbd b hb) wle.1, fun b hb ho => ?_⟩⟩
  · rcases turned id o ho with ⟨h1, hn, h2⟩ | h1
    · exact (h.rel id o h1).mono id ext hn wle hav (fun b hb hn => same b hb fun ho => hn (.inr ho)) h2
    · exact h1
  · rcases new b ho with h1 | h1
    · exact h.NH b hb h1
    · have := h.Nbd b hb; omega

/-- Only draws. -/
theorem Step.draw {N : Nat → Prop} {κ : Nat → Option Nat} {H : AHeap} {w w' : World} (h : HRel κ N H w) (hw : w'.heap = w.heap) (hs : w'.os = w.os ∧ w'.tape = w.tape ∧ w'.output = w.output) : Step N κ H w κ H w' :=
  .mk' h (fun _ _ h => h) (.same hw hs) (fun b _ _ => by rw [hw])
    (fun _ hb => .inl hb) (fun id b hb => by rw [hw]; exact h.bd id b hb) h.inj (fun id o ho => .inl ⟨ho, fun h => h, fun b _ => by rw [hw]⟩)

/-- Objects are let go. -/
theorem Step.drop {N : Nat → Prop} {κ : Nat → Option Nat} {H : AHeap} {w : World} (h : HRel κ N H w) (H' : AHeap) (hH : ∀ id o, hget H' id = some o → hget H id = some o) : Step N κ H w κ H' w :=
  .mk' h (fun _ _ h => h) (.refl w) (fun _ _ _ => rfl) (fun _b ⟨id, o, h1, h2⟩ => .inl ⟨id, o, hH id o h1, h2⟩)
    h.bd (fun id id' b o o' h1 h2 h3 h4 => h.inj id id' b o o' (hH _ _ h1) (hH _ _ h2) h3 h4) (fun id o ho => .inl ⟨hH id o ho, fun h => h, fun _ _ => rfl⟩)

theorem alloc_old (w : World) (o : Obj) (b : Nat) (h : b < w.heap.size) : (w.alloc o).heap[b]? = w.heap[b]? := by
  show (w.heap.push o)[b]? = w.heap[b]?
  rw [Array.getElem?_push, if_neg (by omega)]
theorem alloc_new (w : World) (o : Obj) : (w.alloc o).heap[w.heap.size]? = some o := by
  show (w.heap.push o)[w.heap.size]? = some o
  simp
theorem Wle.alloc (w : World) (o : Obj) : Wle w (w.alloc o) := by
  have key : ∀ (b : Nat) (x : Obj), w.heap[b]? = some x → (w.alloc o).heap[b]? = some x := fun b x hb => by
    have : b < w.heap.size := by
      rcases Nat.lt_or_ge b w.heap.size with h | h
      · exact h
      · rw [Array.getElem?_eq_none h] at hb; cases hb
    exact (alloc_old w o b this).trans hb
  exact ⟨by simp, fun b c e f hb => ⟨c, f, key _ _ hb, rfl⟩, fun b L hb => ⟨L, key _ _ hb⟩, rfl, rfl, rfl⟩

/-- A new block for a new number. -/
def withNew (κ : Nat → Option Nat) (id : Nat) (b : Option Nat) (j : Nat) : Option Nat := if j = id then b else κ j
theorem withNew_ext {κ : Nat → Option Nat} {id : Nat} {b : Option Nat} (h : κ id = none) (j c : Nat) (hj : κ j = some c) : withNew κ id b j = some c := by
  unfold withNew; rw [if_neg (by intro e; subst e; rw [h] at hj; cases hj)]; exact hj
theorem withNew_old {κ : Nat → Option Nat} {id j : Nat} {b : Option Nat} (h : j ≠ id) : withNew κ id b j = κ j := by
  unfold withNew; rw [if_neg h]
theorem withNew_new {κ : Nat → Option Nat} {id : Nat} {b : Option Nat} : withNew κ id b id = b := by
  unfold withNew; rw [if_pos rfl]

theorem Step.newObj {N : Nat → Prop} {κ : Nat → Option Nat} {H : AHeap} {w : World} (h : HRel κ N H w) {id : Nat} (hid : Fresh κ H id) (o : Obj) (ao : AObj)
    (hnew : (∀ a v, VRel κ (avoid κ N H) w a v → VRel (withNew κ id (some w.heap.size)) (avoid (withNew κ id (some w.heap.size)) N (hset H id ao)) (w.alloc o) a v) →
      ORel (withNew κ id (some w.heap.size)) (avoid (withNew κ id (some w.heap.size)) N (hset H id ao)) (w.alloc o) id ao) :
    Step N κ H w (withNew κ id (some w.heap.size)) (hset H id ao) (w.alloc o) := by
  have new : ∀ b, owned (withNew κ id (some w.heap.size)) (hset H id ao) b → owned κ H b ∨ w.heap.size ≤ b := by
    rintro b ⟨j, p, hj, hk⟩
    rw [hget_hset] at hj
    by_cases e : id = j
    · subst e; rw [withNew_new] at hk; cases hk; exact .inr (Nat.le_refl _)
    · rw [if_neg e] at hj
      rw [withNew_old (Ne.symm e)] at hk
      exact .inl ⟨j, p, hj, hk⟩
  have same : ∀ b, b < w.heap.size → ¬ owned κ H b → (w.alloc o).heap[b]? = w.heap[b]? := fun b hb _ => alloc_old w o b hb
  refine .mk' h (withNew_ext hid.1) (.alloc w o) same new ?_ ?_ ?_
  · intro j b hb
    by_cases e : j = id
    · subst e; rw [withNew_new] at hb; cases hb; simp
    · rw [withNew_old e] at hb; have := h.bd j b hb; simp; omega
  · intro j j' b p p' hj hj' hb hb'
    rw [hget_hset] at hj hj'
    by_cases e : id = j <;> by_cases e' : id = j'
    · omega
    · subst e; rw [withNew_new] at hb; cases hb
      rw [withNew_old (Ne.symm e')] at hb'
      have := h.bd _ _ hb'; omega
    · subst e'; rw [withNew_new] at hb'; cases hb'
      rw [withNew_old (Ne.symm e)] at hb
      have := h.bd _ _ hb; omega
    · rw [if_neg e] at hj; rw [if_neg e'] at hj'
      rw [withNew_old (Ne.symm e)] at hb
      rw [withNew_old (Ne.symm e')] at hb'
      exact h.inj _ _ _ _ _ hj hj' hb hb'
  · intro j p hj
    rw [hget_hset] at hj
    by_cases e : id = j
    · subst e; rw [if_pos rfl] at hj; cases hj
      refine .inr (hnew fun a v hv => hv.mono (withNew_ext hid.1) (.alloc w o) ?_ (fun b hb hn => same b hb fun ho => hn (.inr ho)))
      intro b hb ha
      rcases ha with ha | ha
      · exact .inl ha
      · rcases new b ha with h1 | h1
        · exact .inr h1
        · omega
    · rw [if_neg e] at hj
      exact .inl ⟨hj, fun hn => by rw [withNew_old (Ne.symm e)]; exact hn, fun b hb => alloc_old w o b (h.bd _ _ hb)⟩

theorem Step.alloc {N : Nat → Prop} {κ : Nat → Option Nat} {H : AHeap} {w : World} (h : HRel κ N H w) {id : Nat} (hid : Fresh κ H id) (c : Array Value) (e : TypeId) (cs : List AV)
    (hl : cs.length ≤ c.size) (hv : ∀ (i : Nat) (x : AV), cs[i]? = some x → ∃ v, c[i]? = some v ∧ VRel κ (avoid κ N H) w x v) :
    Step N κ H w (withNew κ id (some w.heap.size)) (hset H id (.cells cs)) (w.alloc (.cells c e)) :=
  .newObj h hid _ _ fun up => Or.inr ⟨_, c, e, withNew_new, alloc_new w _, hl, fun i x hx => let ⟨v, h1, h2⟩ := hv i x hx; ⟨v, h1, up _ _ h2⟩⟩

theorem Step.allocMap {N : Nat → Prop} {κ : Nat → Option Nat} {H : AHeap} {w : World} (h : HRel κ N H w) {id : Nat} (hid : Fresh κ H id) :
    Step N κ H w (withNew κ id (some w.heap.size)) (hset H id (.map [])) (w.alloc (.map #[] 0)) :=
  .newObj h hid _ _ fun _ => ⟨_, #[], 0, withNew_new, alloc_new w _, rfl, fun i x hx => by simp at hx⟩

/-- A number without a block: nothing is in it yet. -/
theorem Step.own {N : Nat → Prop} {κ : Nat → Option Nat} {H : AHeap} {w : World} (h : HRel κ N H w) {id : Nat} (hid : Fresh κ H id) :
    Step N κ H w κ (hset H id (.cells [])) w := by
  refine .mk' h (fun _ _ h => h) (.refl w) (fun _ _ _ => rfl) ?_ h.bd ?_ ?_
  · rintro b ⟨j, p, hj, hk⟩
    rw [hget_hset] at hj
    by_cases e : id = j
    · subst e; rw [hid.1] at hk; cases hk
    · rw [if_neg e] at hj
      exact .inl ⟨j, p, hj, hk⟩
  · intro j j' b p p' hj hj' hb hb'
    rw [hget_hset] at hj hj'
    by_cases e : id = j
    · subst e; rw [hid.1] at hb; cases hb
    by_cases e' : id = j'
    · subst e'; rw [hid.1] at hb'; cases hb'
    rw [if_neg e] at hj; rw [if_neg e'] at hj'
    exact h.inj _ _ _ _ _ hj hj' hb hb'
  · intro j p hj
    rw [hget_hset] at hj
    by_cases e : id = j
    · subst e; rw [if_pos rfl] at hj; cases hj
      exact .inr (Or.inl ⟨rfl, hid.1⟩)
    · rw [if_neg e] at hj
      exact .inl ⟨hj, fun h => h, fun _ _ => rfl⟩

/-- One owned object is turned in its own block. -/
theorem Step.turn {N : Nat → Prop} {κ : Nat → Option Nat} {H : AHeap} {w w' : World} (h : HRel κ N H w) {id blk : Nat} {o : AObj} (ho : hget H id = some o) (hk : κ id = some blk)
    (hw : Wle w w') (hs : ∀ b, b ≠ blk → w'.heap[b]? = w.heap[b]?) (hz : w'.heap.size = w.heap.size) (ao : AObj)
    (hnew : (∀ a v, VRel κ (avoid κ N H) w a v → VRel κ (avoid κ N (hset H id ao)) w' a v) → ORel κ (avoid κ N (hset H id ao)) w' id ao) :
    Step N κ H w κ (hset H id ao) w' := by
  have own : ∀ b, owned κ (hset H id ao) b → owned κ H b := by
    rintro b ⟨j, p, hj, hb⟩
    rw [hget_hset] at hj
    by_cases e : id = j
    · subst e; exact ⟨id, o, ho, hb⟩
    · rw [if_neg e] at hj; exact ⟨j, p, hj, hb⟩
  have same : ∀ b, b < w.heap.size → ¬ owned κ H b → w'.heap[b]? = w.heap[b]? := fun b _ hn => hs b fun e => hn ⟨id, o, ho, e ▸ hk⟩
  have look : ∀ j p, hget (hset H id ao) j = some p → ∃ p', hget H j = some p' := by
    intro j p hj
    rw [hget_hset] at hj
    by_cases e : id = j
    · exact ⟨o, e ▸ ho⟩
    · rw [if_neg e] at hj; exact ⟨p, hj⟩
  refine .mk' h (fun _ _ h => h) hw same (fun b hb => .inl (own b hb)) ?_ ?_ ?_
  · intro j b hb; rw [hz]; exact h.bd j b hb
  · intro j j' b p p' hj hj' hb hb'
    obtain ⟨q, hq⟩ := look j p hj
    obtain ⟨q', hq'⟩ := look j' p' hj'
    exact h.inj _ _ _ _ _ hq hq' hb hb'
  · intro j p hj
    rw [hget_hset] at hj
    by_cases e : id = j
    · subst e; rw [if_pos rfl] at hj; cases hj
      refine .inr (hnew fun a v hv => hv.mono (fun _ _ h => h) hw ?_ (fun b hb hn => same b hb fun ho => hn (.inr ho)))
      intro b _ ha
      rcases ha with ha | ha
      · exact .inl ha
      · exact .inr (own b ha)
    · rw [if_neg e] at hj
      refine .inl ⟨hj, fun h => h, fun b hb => hs b fun e' => e ?_⟩
      subst e'
      exact h.inj _ _ _ _ _ ho hj hk hb

theorem setCell_heap (w : World) (blk off : Nat) (v : Value) {c : Array Value} {e : TypeId} {f : Nat × Nat} (h : w.heap[blk]? = some (.cells c e f)) :
    (w.setCell ⟨blk, off, none⟩ v).heap[blk]? = some (.cells (c.setIfInBounds off v) e f) := by
  simp [World.setCell, Array.getElem?_modify, h]
theorem setCell_heap_ne (w : World) (blk off b : Nat) (v : Value) (h : b ≠ blk) : (w.setCell ⟨blk, off, none⟩ v).heap[b]? = w.heap[b]? := by
  simp [World.setCell, Array.getElem?_modify, Ne.symm h]
theorem Wle.setCell (w : World) (a : Addr) (v : Value) : Wle w (w.setCell a v) :=
  ⟨by simp, fun b c e f hb => by
    by_cases h : a.block = b
    · refine ⟨(if a.spot.isSome then c else c.setIfInBounds a.off v), f, ?_, by split <;> simp⟩
      simp [World.setCell, Array.getElem?_modify, h, hb]
    · exact ⟨c, f, by simp [World.setCell, Array.getElem?_modify, h, hb], rfl⟩, fun b L hb => by
    by_cases h : a.block = b
    · exact ⟨L, by simp [World.setCell, Array.getElem?_modify, h, hb]⟩
    · exact ⟨L, by simp [World.setCell, Array.getElem?_modify, h, hb]⟩, rfl, rfl, rfl⟩

/-- One cell is written. -/
theorem Step.write {N : Nat → Prop} {κ : Nat → Option Nat} {H : AHeap} {w : World} (h : HRel κ N H w) {id blk off : Nat} {cs : List AV} (ho : hget H id = some (.cells cs))
    (hk : κ id = some blk) (hoff : off < cs.length) {x : AV} {v : Value} (hv : VRel κ (avoid κ N H) w x v) :
    Step N κ H w κ (hset H id (.cells (cs.set off x))) (w.setCell ⟨blk, off, none⟩ v) := by
  rcases h.rel id _ ho with ⟨h1, _⟩ | ⟨blk', c, e, h1, h2, h3, h4⟩
  · subst h1; simp at hoff
  · rw [hk] at h1; cases h1
    refine .turn h ho hk (.setCell w _ v) (fun b hb => setCell_heap_ne w _ _ _ _ hb) (by simp) _ fun up => Or.inr ⟨blk, _, e, hk, setCell_heap w _ _ v h2, by simpa using h3, fun i y hy => ?_⟩
    by_cases hi : i = off
    · subst hi
      rw [List.getElem?_set_self (by omega)] at hy; cases hy
      exact ⟨v, by rw [Array.getElem?_setIfInBounds_self_of_lt (by omega)], up _ _ hv⟩
    · rw [List.getElem?_set_ne (Ne.symm hi)] at hy
      obtain ⟨u, hu, hr⟩ := h4 i y hy
      exact ⟨u, by rw [Array.getElem?_setIfInBounds_ne (Ne.symm hi)]; exact hu, up _ _ hr⟩

end Go.Am
/-
  WHAT AN OPERATION DOES TO ABSTRACT VALUES: 'aval'. No capacity, no block's number, no draw.
-/
namespace Go.Am

inductive TD where
  | bool | int (k : IntKind) | str | ptr | slice (e : TypeId) | struct (fs : List (Nat × TypeId × Bool)) | arr (n : Nat) (e : TypeId)
  | map (k v : TypeId) | iface | func | other
  deriving DecidableEq
structure TI where
  td : TD
  size : Nat
  bytes : Nat
  zero : List AV
  cmp : Bool
  std : Bool

def ofCell : Value → AV
  | .bool b => .bool b
  | .int k n => .int k n
  | .string s => .str s
  | .slice none 0 0 => .nil
  | .pointer none => .nptr
  | .map none => .nmap
  | .nilFunc => .nilFunc
  | .nilIface => .nilIface
  | _ => .any
def ofVal : Value → AV
  | .agg cs => .agg (cs.toList.map ofCell)
  | .tuple vs => if vs.size = 0 then .undef else .any
  | v => ofCell v

def tdOf : TypeDesc → TD
  | .bool => .bool
  | .int k => .int k
  | .string => .str
  | .pointer _ => .ptr
  | .slice e => .slice e
  | .struct fs => .struct (fs.toList.map fun f => (f.offset, f.type, f.name == "_"))
  | .array n e => .arr n e
  | .map k v => .map k v
  | .interface _ => .iface
  | .func _ _ _ => .func
  | _ => .other
def tinfo (P : Program) (t : TypeId) : Option TI :=
  match P.underlying t, P.info? t with
  | some d, some i => match i.zero with
    | some z => some { td := tdOf d, size := i.size, bytes := i.bytes, zero := z.cells.toList.map ofCell, cmp := !P.eqGuardType P.depth t, std := match d with | .struct _ => P.stoodInHeld t | _ => false }
    | none => none
  | _, _ => none
def TD.agg : TD → Bool
  | .struct _ => true
  | .arr _ _ => true
  | _ => false

/-- The cells of a value that is known whole. -/
def acells : AV → Option (List AV)
  | .any => none
  | .undef => none
  | .tup _ => none
  | .agg cs => some cs
  | v => some [v]
/-- A cell that may be stored. -/
def cellB : AV → Bool
  | .any => false
  | .undef => false
  | .tup _ => false
  | .agg _ => false
  | _ => true

def splice : List AV → Nat → List AV → List AV
  | cs, _, [] => cs
  | cs, off, x :: r => splice (cs.set off x) (off + 1) r
def rep : Nat → List AV → List AV
  | 0, _ => []
  | n + 1, z => z ++ rep n z

def aread (T : TI) (cs : List AV) : Option AV :=
  if T.td.agg then (if T.size ≤ cs.length then some (.agg (cs.take T.size)) else none) else cs[0]?

def apart (P : Program) (t : TypeId) (cs : List AV) (off : Nat) : Option AV :=
  match tinfo P t with
  | some T => if T.td.agg then (if off + T.size ≤ cs.length then some (.agg ((cs.drop off).take T.size)) else none) else cs[off]?
  | none => none

def afill (place : Nat → Option (Nat × Nat)) (cells : List AV) : List (Nat × AV) → Option (List AV)
  | [] => some cells
  | (i, v) :: rest =>
    match place i, acells v with
    | some (off, size), some cs => if cs.length = size ∧ off + cs.length ≤ cells.length then afill place (splice cells off cs) rest else none
    | _, _ => none

def andO : Option Bool → Option Bool → Option Bool
  | some a, some b => some (a && b)
  | _, _ => none

def aeqF (P : Program) (f : TypeId → AV → AV → Option Bool) : List (Nat × TypeId × Bool) → List AV → List AV → Option Bool
  | [], _, _ => some true
  | (off, t, blank) :: fs, xs, ys =>
    if blank then aeqF P f fs xs ys else
    match apart P t xs off, apart P t ys off with
    | some a, some b => andO (f t a b) (aeqF P f fs xs ys)
    | _, _ => none
def aeqT (P : Program) : Nat → TypeId → AV → AV → Option Bool
  | 0, _, _, _ => none
  | d + 1, t, x, y =>
    match tinfo P t with
    | none => none
    | some T =>
      match T.td, x, y with
      | .bool, .bool a, .bool b => some (a == b)
      | .int _, .int k a, .int k' b => if k = k' then some (a == b) else none
      | .str, .str a, .str b => some (a == b)
      | .struct fs, .agg xs, .agg ys => if T.std then none else aeqF P (aeqT P d) fs xs ys
      | .slice _, .nil, .nil => some true
      | .ptr, .nptr, .nptr => some true
      | .ptr, .nptr, .cptr _ => some false
      | .ptr, .cptr _, .nptr => some false
      | .ptr, .nptr, .vptr _ _ => some false
      | .ptr, .vptr _ _, .nptr => some false
      | .func, .nilFunc, .nilFunc => some true
      | .func, .fn _ _ _, .nilFunc => some false
      | .func, .nilFunc, .fn _ _ _ => some false
      | .map _ _, .nmap, .nmap => some true
      | .map _ _, .nmap, .mref _ => some false
      | .map _ _, .mref _, .nmap => some false
      | .iface, .nilIface, .iface _ _ => some false
      | .iface, .iface _ _, .nilIface => some false
      | _, _, _ => none
def abinInt (op : BinOp) (k : IntKind) (a b : Int) : Option AV :=
  match op with
  | .add => some (.int k (k.wrap (a + b)))
  | .sub => some (.int k (k.wrap (a - b)))
  | .mul => some (.int k (k.wrap (a * b)))
  | .quo => if b = 0 then none else some (.int k (k.wrap (a.tdiv b)))
  | .rem => if b = 0 then none else some (.int k (a.tmod b))
  | .shl => if b < 0 then none else some (.int k (k.wrap (a * 2 ^ (min b.toNat k.bits))))
  | .shr => if b < 0 then none else some (.int k (a.fdiv (2 ^ (min b.toNat k.bits))))
  | .and => some (.int k (k.wrap (BitVec.ofInt k.bits a &&& BitVec.ofInt k.bits b).toNat))
  | .or => some (.int k (k.wrap (BitVec.ofInt k.bits a ||| BitVec.ofInt k.bits b).toNat))
  | .eql => some (.bool (a == b))
  | .neq => some (.bool (a != b))
  | .lss => some (.bool (decide (a < b)))
  | .leq => some (.bool (decide (a ≤ b)))
  | .gtr => some (.bool (decide (a > b)))
  | .geq => some (.bool (decide (a ≥ b)))
  | _ => none
def cmpOk (P : Program) (t : TypeId) : Bool := match tinfo P t with | some T => T.cmp | none => false
def abin (P : Program) (op : BinOp) (t : TypeId) (x y : AV) : Option AV :=
  match x, y with
  | .int k a, .int k' b => if k = k' then abinInt op k a b else none
  | .str a, .str b => (match op with
    | .add => if ((a.size + b.size : Nat) : Int) > IntKind.i64.max then none else some (.str ⟨⟨a.data.toList ++ b.data.toList⟩⟩)
    | .eql => some (.bool (a.data.toList == b.data.toList))
    | .neq => some (.bool !(a.data.toList == b.data.toList))
    | _ => none)
  | .agg xs, .agg ys => if cmpOk P t then
      (match op with
      | .eql => (aeqT P 6 t (.agg xs) (.agg ys)).map .bool
      | .neq => (aeqT P 6 t (.agg xs) (.agg ys)).map fun b => .bool !b
      | _ => none) else none
  | x, y =>
    match op with
    | .eql => (aeqT P 6 t x y).map .bool
    | .neq => (aeqT P 6 t x y).map fun b => .bool !b
    | _ => none
def aun (op : UnOp) (x : AV) : Option AV :=
  match op, x with
  | .neg, .int k n => some (.int k (k.wrap (0 - n)))
  | .not, .bool b => some (.bool !b)
  | _, _ => none

structure Out where
  v : AV
  ups : List (Nat × Option AObj) := []
def upH : AHeap → List (Nat × Option AObj) → AHeap
  | H, [] => H
  | H, (i, some o) :: r => upH (hset H i o) r
  | H, (i, none) :: r => upH (herase H i) r

/-- The element of an index that is inside. -/
def elemAt (xs : List (List AV)) (i : Int) : Option (List AV) := if 0 ≤ i then xs[i.toNat]? else none

def aindexAddr (P : Program) (_h : Nat → Option AObj) (t : TypeId) (x ix : AV) : Option AV :=
  match ix, tinfo P t with
  | .int _ i, some T =>
    match T.td, x with
    | .slice e, .lst esz xs => (match tinfo P e with
      | some E => if esz = E.size then (elemAt xs i).map .cptr else none
      | none => none)
    | .slice e, .rsl id off len esz => (match tinfo P e with
      | some E => if esz = E.size ∧ 0 ≤ i ∧ i.toNat < len then some (.vptr id (off + i.toNat * esz)) else none
      | none => none)
    | .arr n e, .cptr cs => (match tinfo P e with
      | some E => if 0 ≤ i ∧ i.toNat < n then some (.cptr (cs.drop (i.toNat * E.size))) else none
      | none => none)
    | .arr n e, .vptr id off => (match tinfo P e with
      | some E => if 0 ≤ i ∧ i.toNat < n then some (.vptr id (off + i.toNat * E.size)) else none
      | none => none)
    | _, _ => none
  | _, _ => none

def keyEq : AV → AV → Option Bool
  | .int k a, .int k' b => if k = k' then some (a == b) else none
  | .bool a, .bool b => some (a == b)
  | .str a, .str b => some (a == b)
  | _, _ => none

def amin2 : AV → AV → Option AV
  | .int k x, .int _ y => some (.int k (if y < x then y else x))
  | _, _ => none
def amax2 : AV → AV → Option AV
  | .int k x, .int _ y => some (.int k (if y > x then y else x))
  | _, _ => none
def foldO (f : AV → AV → Option AV) : AV → List AV → Option AV
  | x, [] => some x
  | x, y :: r => match f x y with | some z => foldO f z r | none => none

end Go.Am
/-
  THE OPERATIONS' OWN RUNS AGAINST 'aval', first part: types, cells.
-/
namespace Go.Am

theorem tinfo_spec {P : Program} {t : TypeId} {T : TI} (h : tinfo P t = some T) : ∃ d i z, P.underlying t = some d ∧ P.info? t = some i ∧ i.zero = some z ∧
    T = { td := tdOf d, size := i.size, bytes := i.bytes, zero := z.cells.toList.map ofCell, cmp := !P.eqGuardType P.depth t, std := match d with | .struct _ => P.stoodInHeld t | _ => false } := by
  unfold tinfo at h
  split at h
  · rename_i d i hd hi
    split at h
    · rename_i z hz
      cases h
      exact ⟨d, i, z, hd, hi, hz, rfl⟩
    · cases h
  · cases h

section
variable {P : Program} {t : TypeId} {T : TI} (h : tinfo P t = some T) (w : World)
include h
theorem run_underlying : ∃ d, (underlying t).run P w = .ok d w ∧ tdOf d = T.td ∧ P.underlying t = some d := by
  obtain ⟨d, i, z, hd, hi, hz, rfl⟩ := tinfo_spec h
  exact ⟨d, by simp [underlying, hd], rfl, hd⟩
theorem run_sizeOf : (sizeOf t).run P w = .ok T.size w := by
  obtain ⟨d, i, z, hd, hi, hz, rfl⟩ := tinfo_spec h
  simp [sizeOf, typeInfo, hi]
theorem run_typeInfo : ∃ i, (typeInfo t).run P w = .ok i w ∧ i.size = T.size ∧ i.bytes = T.bytes := by
  obtain ⟨d, i, z, hd, hi, hz, rfl⟩ := tinfo_spec h
  exact ⟨i, by simp [typeInfo, hi], rfl, rfl⟩
theorem run_zeroValue : ∃ z, (zeroValue t).run P w = .ok z w ∧ z.cells.toList.map ofCell = T.zero := by
  obtain ⟨d, i, z, hd, hi, hz, rfl⟩ := tinfo_spec h
  exact ⟨z, by simp [zeroValue, typeInfo, hi, hz], rfl⟩
theorem run_isAgg : (isAgg t).run P w = .ok T.td.agg w := by
  obtain ⟨d, i, z, hd, hi, hz, rfl⟩ := tinfo_spec h
  simp only [isAgg, underlying, Sem.run_bind, run_program, Result.andThen_ok, hd, Sem.run_pure]
  cases d <;> rfl
end

theorem ofCell_rel (κ : Nat → Option Nat) (av : Nat → Prop) (w : World) (v : Value) : VRel κ av w (ofCell v) v := by
  unfold ofCell
  split <;> first | exact .bool _ | exact .int _ _ | exact .str _ | exact .nil | exact .nptr | exact .nmap | exact .nilFunc | exact .nilIface | exact .any _

theorem VRel.aggOf {κ : Nat → Option Nat} {av : Nat → Prop} {w : World} {cs : List AV} {vs : Array Value} (hl : vs.size = cs.length)
    (h : ∀ (i : Nat) (c : AV), cs[i]? = some c → ∃ u, vs[i]? = some u ∧ VRel κ av w c u) : VRel κ av w (.agg cs) (.agg vs) := by
  refine .agg cs vs (fun i => (vs[i]?).getD default) hl (fun i c hc => ?_) (fun i c hc => ?_)
  · obtain ⟨u, hu, _⟩ := h i c hc; simp [hu]
  · obtain ⟨u, hu, hr⟩ := h i c hc; simpa [hu] using hr
theorem VRel.tupOf {κ : Nat → Option Nat} {av : Nat → Prop} {w : World} {cs : List AV} {vs : Array Value} (hl : vs.size = cs.length)
    (h : ∀ (i : Nat) (c : AV), cs[i]? = some c → ∃ u, vs[i]? = some u ∧ VRel κ av w c u) : VRel κ av w (.tup cs) (.tuple vs) := by
  refine .tup cs vs (fun i => (vs[i]?).getD default) hl (fun i c hc => ?_) (fun i c hc => ?_)
  · obtain ⟨u, hu, _⟩ := h i c hc; simp [hu]
  · obtain ⟨u, hu, hr⟩ := h i c hc; simpa [hu] using hr
theorem VRel.agg_inv {κ : Nat → Option Nat} {av : Nat → Prop} {w : World} {cs : List AV} {v : Value} (h : VRel κ av w (.agg cs) v) :
    ∃ vs, v = .agg vs ∧ vs.size = cs.length ∧ ∀ (i : Nat) (c : AV), cs[i]? = some c → ∃ u, vs[i]? = some u ∧ VRel κ av w c u := by
  cases h with
  | agg cs vs u hl hu hv => exact ⟨vs, rfl, hl, fun i c hc => ⟨u i, hu i c hc, hv i c hc⟩⟩
theorem VRel.tup_inv {κ : Nat → Option Nat} {av : Nat → Prop} {w : World} {cs : List AV} {v : Value} (h : VRel κ av w (.tup cs) v) :
    ∃ vs, v = .tuple vs ∧ vs.size = cs.length ∧ ∀ (i : Nat) (c : AV), cs[i]? = some c → ∃ u, vs[i]? = some u ∧ VRel κ av w c u := by
  cases h with
  | tup cs vs u hl hu hv => exact ⟨vs, rfl, hl, fun i c hc => ⟨u i, hu i c hc, hv i c hc⟩⟩

theorem ofCells_get (cs : Array Value) (i : Nat) (c : AV) (h : (cs.toList.map ofCell)[i]? = some c) : ∃ u, cs[i]? = some u ∧ c = ofCell u := by
  rw [List.getElem?_map, Array.getElem?_toList] at h
  cases hc : cs[i]? with
  | none => rw [hc] at h; cases h
  | some u => rw [hc] at h; cases h; exact ⟨u, rfl, rfl⟩

theorem ofVal_rel (κ : Nat → Option Nat) (av : Nat → Prop) (w : World) (v : Value) : VRel κ av w (ofVal v) v := by
  unfold ofVal
  split
  · rename_i cs
    refine .aggOf (by simp) fun i c hc => ?_
    obtain ⟨u, hu, rfl⟩ := ofCells_get cs i c hc
    exact ⟨u, hu, ofCell_rel κ av w u⟩
  · rename_i vs
    split
    · rename_i h0
      have : vs = #[] := by simpa using h0
      subst this; exact .undef
    · exact .any _
  · exact ofCell_rel κ av w _

/-- Cells known one by one. -/
def CellsAt (κ : Nat → Option Nat) (av : Nat → Prop) (w : World) (a : Addr) (cs : List AV) : Prop :=
  ∀ (j : Nat) (c : AV), cs[j]? = some c → ∃ u, w.cell? (a.add j) = some u ∧ VRel κ av w c u

theorem run_loadCellsFrom {P : Program} {w : World} {a : Addr} (u : Nat → Value) : ∀ (n i : Nat) (acc : Array Value), (∀ j, j < n → w.cell? (a.add (i + j)) = some (u (i + j))) →
    ∃ vs, (loadCellsFrom a i n acc).run P w = .ok vs w ∧ vs.size = acc.size + n ∧ (∀ j, j < acc.size → vs[j]? = acc[j]?) ∧ ∀ j, j < n → vs[acc.size + j]? = some (u (i + j)) := by
  intro n
  induction n with
  | zero => intro i acc _; exact ⟨acc, rfl, rfl, fun _ _ => rfl, fun j hj => absurd hj (Nat.not_lt_zero _)⟩
  | succ n ih =>
    intro i acc h
    have h0 := h 0 (Nat.succ_pos _)
    obtain ⟨vs, h1, h2, h3, h4⟩ := ih (i + 1) (acc.push (u i)) (fun j hj => by have := h (j + 1) (by omega); rw [show i + 1 + j = i + (j + 1) from by omega]; exact this)
    refine ⟨vs, ?_, by rw [h2, Array.size_push]; omega, fun j hj => ?_, fun j hj => ?_⟩
    · simp only [loadCellsFrom, Sem.run_bind, run_load]
      rw [show (a.add i) = a.add (i + 0) from rfl, h0]
      exact h1
    · rw [h3 j (by rw [Array.size_push]; omega), Array.getElem?_push, if_neg (by omega)]
    · cases j with
      | zero =>
        rw [h3 _ (by rw [Array.size_push]; omega)]; simp
      | succ j =>
        have := h4 j (by omega)
        rw [Array.size_push] at this
        rw [show acc.size + (j + 1) = acc.size + 1 + j from by omega, this, show i + 1 + j = i + (j + 1) from by omega]
theorem run_loadCells {P : Program} {κ : Nat → Option Nat} {av : Nat → Prop} {w : World} {a : Addr} {cs : List AV} (h : CellsAt κ av w a cs) (n : Nat) (hn : n ≤ cs.length) :
    ∃ vs, (loadCells a n).run P w = .ok vs w ∧ vs.size = n ∧ ∀ (j : Nat) (c : AV), (cs.take n)[j]? = some c → ∃ u, vs[j]? = some u ∧ VRel κ av w c u := by
  have h' : ∀ j, j < n → ∃ u, w.cell? (a.add (0 + j)) = some u := fun j hj => by
    obtain ⟨u, hu, _⟩ := h j (cs[j]'(by omega)) (List.getElem?_eq_getElem (by omega))
    exact ⟨u, by rw [Nat.zero_add]; exact hu⟩
  obtain ⟨vs, h1, h2, _, h4⟩ := run_loadCellsFrom (P := P) (w := w) (a := a) (fun j => (w.cell? (a.add j)).getD default) n 0 #[] (fun j hj => by
    obtain ⟨u, hu⟩ := h' j hj; rw [Nat.zero_add] at hu ⊢; simp [hu])
  refine ⟨vs, h1, by simpa using h2, fun j c hc => ?_⟩
  have hj : j < n := by
    rcases Nat.lt_or_ge j n with h | h
    · exact h
    · rw [List.getElem?_take, if_neg (by omega)] at hc; cases hc
  rw [List.getElem?_take, if_pos hj] at hc
  obtain ⟨u, hu, hr⟩ := h j c hc
  have := h4 j hj
  simp only [Array.size_empty, Nat.zero_add, hu, Option.getD_some] at this
  exact ⟨u, this, hr⟩

theorem run_loadVar {P : Program} {κ : Nat → Option Nat} {av : Nat → Prop} {w : World} {a : Addr} {cs : List AV} {t : TypeId} {T : TI} {x : AV} (hT : tinfo P t = some T)
    (h : CellsAt κ av w a cs) (hx : aread T cs = some x) : ∃ v, (loadVar t a).run P w = .ok v w ∧ VRel κ av w x v := by
  unfold aread at hx
  simp only [loadVar, Sem.run_bind, run_isAgg hT, Result.andThen_ok]
  by_cases hg : T.td.agg = true
  · rw [if_pos hg] at hx
    split at hx
    · rename_i hn
      cases hx
      obtain ⟨vs, h1, h2, h3⟩ := run_loadCells (P := P) h T.size hn
      refine ⟨.agg vs, ?_, .aggOf (by rw [h2]; simp; omega) h3⟩
      simp only [hg, if_true, Sem.run_bind, run_sizeOf hT, Result.andThen_ok, h1, Sem.run_pure]
    · cases hx
  · rw [if_neg hg] at hx
    obtain ⟨u, hu, hr⟩ := h 0 x hx
    refine ⟨u, ?_, hr⟩
    have : (a.add 0) = a := rfl
    rw [this] at hu
    simp [hg, hu]

theorem cellB_one {κ : Nat → Option Nat} {av : Nat → Prop} {w : World} {x : AV} {v : Value} (h : VRel κ av w x v) (hx : cellB x = true) : v.oneCell' = true := by
  cases h <;> first | rfl | (simp [cellB] at hx; done)

/-- Cells are stored one behind the other into an owned block. -/
theorem run_storeCells {P : Program} {N : Nat → Prop} {κ : Nat → Option Nat} {id blk : Nat} (hk : κ id = some blk) : ∀ (xs : List AV) (vs : List Value) (H : AHeap) (w : World) (cs : List AV) (off i : Nat),
    HRel κ N H w → hget H id = some (.cells cs) → off + i + xs.length ≤ cs.length → (∀ x ∈ xs, cellB x = true) → vs.length = xs.length →
    (∀ (j : Nat) (x : AV), xs[j]? = some x → ∃ v, vs[j]? = some v ∧ VRel κ (avoid κ N H) w x v) →
    ∃ w', (storeCells ⟨blk, off, none⟩ vs i).run P w = .ok () w' ∧ Step N κ H w κ (hset H id (.cells (splice cs (off + i) xs))) w' := by
  intro xs
  induction xs with
  | nil =>
    intro vs H w cs off i hr ho hb _ hl _
    have : vs = [] := by simpa using hl
    subst this
    refine ⟨w, rfl, ?_⟩
    refine ⟨fun _ _ h => h, .refl w, fun _ _ _ => rfl, ?_, ?_⟩
    · rintro b ⟨j, p, hj, hkj⟩
      rw [hget_hset] at hj
      by_cases e : id = j
      · subst e; exact .inl ⟨id, _, ho, hkj⟩
      · rw [if_neg e] at hj; exact .inl ⟨j, p, hj, hkj⟩
    · have look : ∀ j, hget (hset H id (.cells (splice cs (off + i) []))) j = hget H j := fun j => by
        rw [hget_hset]; split
        · rename_i e; subst e; rw [ho]; rfl
        · rfl
      have hav : avoid κ N (hset H id (.cells (splice cs (off + i) []))) = avoid κ N H := by
        funext b; simp only [avoid, owned, look]
      exact ⟨fun j p hj => by rw [hav]; rw [look] at hj; exact hr.rel j p hj, fun j j' b p p' h1 h2 => by rw [look] at h1 h2; exact hr.inj j j' b p p' h1 h2, hr.bd, hr.Nbd,
        fun b hb ⟨j, p, hj, hkj⟩ => hr.NH b hb ⟨j, p, by rw [look] at hj; exact hj, hkj⟩⟩
  | cons x xs ih =>
    intro vs H w cs off i hr ho hb hB hl hv
    cases vs with
    | nil => simp at hl
    | cons v vs =>
      have hv0 : VRel κ (avoid κ N H) w x v := by obtain ⟨u, hu, h⟩ := hv 0 x rfl; simp at hu; subst hu; exact h
      have hlen : off + i < cs.length := by simp only [List.length_cons] at hb; omega
      obtain ⟨c, e, hblk, hsz⟩ : ∃ c e, w.heap[blk]? = some (.cells c e (0, 0)) ∧ cs.length ≤ c.size := by
        rcases hr.rel id _ ho with ⟨h1, _⟩ | ⟨blk', c, e, h1, h2, h3, _⟩
        · subst h1; simp at hlen
        · rw [hk] at h1; cases h1; exact ⟨c, e, h2, h3⟩
      have st := Step.write hr ho hk hlen hv0
      have hcell : ∃ u, w.cell? ⟨blk, off + i, none⟩ = some u := by
        simp only [World.cell?, hblk]
        have : off + i < c.size := by omega
        exact ⟨c[off + i], by simp [this]⟩
      obtain ⟨u, hu⟩ := hcell
      have hfz : w.frozen? ⟨blk, off + i, none⟩ = false := by simp [World.frozen?, hblk]
      have hadd : (⟨blk, off, none⟩ : Addr).add i = ⟨blk, off + i, none⟩ := by unfold Addr.add; split <;> simp_all
      obtain ⟨w', h1, h2⟩ := ih vs (hset H id (.cells (cs.set (off + i) x))) (w.setCell ⟨blk, off + i, none⟩ v) (cs.set (off + i) x) off (i + 1) st.hrel
        (by rw [hget_hset, if_pos rfl]) (by rw [List.length_set]; simp only [List.length_cons] at hb; omega) (fun y hy => hB y (List.mem_cons_of_mem _ hy)) (by simpa using hl)
        (fun j y hy => by obtain ⟨u, hu, h⟩ := hv (j + 1) y (by simpa using hy); exact ⟨u, by simpa using hu, st.v h⟩)
      refine ⟨w', ?_, ?_⟩
      · simp only [storeCells, Sem.run_bind, hadd]
        rw [run_store P w _ v .plain (cellB_one hv0 (hB x List.mem_cons_self)), hu]
        simp only [hfz, Bool.false_eq_true, if_false, Result.andThen_ok]
        exact h1
      · have := st.trans h2
        rw [hset_hset] at this
        rw [show splice cs (off + i) (x :: xs) = splice (cs.set (off + i) x) (off + (i + 1)) xs from rfl]
        exact this

end Go.Am
/-
  'aop': AN OPERATION ON ABSTRACT VALUES, and that the model's own run follows it.
-/
namespace Go.Am

def aLoad (P : Program) (h : Nat → Option AObj) (t : TypeId) (a : AV) : Option Out :=
  match tinfo P t with
  | none => none
  | some T =>
    match a with
    | .cptr cs => (aread T cs).map fun x => ⟨x, []⟩
    | .vptr i off => (match h i with
      | some (.cells cs) => (aread T (cs.drop off)).map fun x => ⟨x, []⟩
      | _ => none)
    | _ => none
def aStore (P : Program) (h : Nat → Option AObj) (t : TypeId) (a x : AV) : Option Out :=
  match tinfo P t, a, acells x with
  | some T, .vptr i off, some xs => (match h i with
    | some (.cells cs) => if xs.length = T.size ∧ off + xs.length ≤ cs.length ∧ xs.all cellB = true then some ⟨.undef, [(i, some (.cells (splice cs off xs)))]⟩ else none
    | _ => none)
  | _, _, _ => none
def fieldPl (P : Program) (fs : List (Nat × TypeId × Bool)) (i : Nat) : Option (Nat × Nat) :=
  match fs[i]? with
  | some f => (tinfo P f.2.1).map fun U => (f.1, U.size)
  | none => none
def aBuild (P : Program) (t : TypeId) (parts : List (Nat × AV)) : Option Out :=
  match tinfo P t with
  | some T => (match T.td with
    | .struct fs => if (fs.all fun f => (tinfo P f.2.1).isSome) then (afill (fieldPl P fs) T.zero parts).map fun cs => ⟨.agg cs, []⟩ else none
    | .arr _ e => (match tinfo P e with
      | some E => (afill (fun i => some (i * E.size, E.size)) T.zero parts).map fun cs => ⟨.agg cs, []⟩
      | none => none)
    | _ => none)
  | none => none
def aBuildSlice (P : Program) (id : Nat) (t : TypeId) (len : Nat) (parts : List (Nat × AV)) : Option Out :=
  match tinfo P t with
  | some T => (match T.td with
    | .slice e => (match tinfo P e with
      | some E => if len * E.size ≤ 2 ^ 24 ∧ E.zero.length = E.size then
          (afill (fun i => some (i * E.size, E.size)) (rep len E.zero) parts).map fun cs => ⟨.rsl id 0 len E.size, [(id, some (.cells cs))]⟩ else none
      | none => none)
    | _ => none)
  | none => none
def aFieldAddr (P : Program) (s : TypeId) (x : AV) (f : Nat) : Option AV :=
  match tinfo P s with
  | some T => (match T.td with
    | .struct fs => (match fs[f]? with
      | some (off, t, _) => (match tinfo P t with
        | some U => if U.size = 0 then none else (match x with
          | .cptr cs => some (.cptr (cs.drop off))
          | .vptr i o => some (.vptr i (o + off))
          | _ => none)
        | none => none)
      | none => none)
    | _ => none)
  | none => none
def aField (P : Program) (s : TypeId) (x : AV) (f : Nat) : Option AV :=
  match tinfo P s with
  | some T => (match T.td with
    | .struct fs => (match fs[f]? with
      | some (off, t, _) => (match x with
        | .agg cs => apart P t cs off
        | _ => none)
      | none => none)
    | _ => none)
  | none => none
def aConvert (P : Program) (s d : TypeId) (x : AV) : Option AV :=
  match tinfo P s, tinfo P d with
  | some _, some D => (match D.td, x with
    | .int k, .int _ n => some (.int k (k.wrap n))
    | _, _ => none)
  | _, _ => none
def aMakeIface (P : Program) (t : TypeId) (x : AV) : Option AV :=
  match tinfo P t with
  | some T => if T.td = .iface then none else some (.iface t x)
  | none => none

/-- 'len' -/
def aLen (P : Program) (h : Nat → Option AObj) (t : TypeId) (x : AV) : Option AV :=
  match tinfo P t with
  | some T => (match T.td, x with
    | .str, .str s => some (.int .i64 s.size)
    | .arr n _, _ => some (.int .i64 n)
    | .slice _, .nil => some (.int .i64 0)
    | .slice _, .lst _ xs => some (.int .i64 xs.length)
    | .slice _, .rsl _ _ len _ => some (.int .i64 len)
    | .map _ _, .nmap => some (.int .i64 0)
    | .map _ _, .imap es => some (.int .i64 es.length)
    | .map _ _, .mref i => (match h i with | some (.map es) => some (.int .i64 es.length) | _ => none)
    | _, _ => none)
  | none => none
/-- The cells of a slice that is read whole, and how many elements. -/
def srcCells (h : Nat → Option AObj) (size : Nat) (x : AV) : Option (List AV × Nat) :=
  match x with
  | .nil => some ([], 0)
  | .lst esz ys => if esz = size ∧ ys.all (fun y => y.length == esz) = true then some (ys.flatten, ys.length) else none
  | .rsl j off len esz => (match h j with
    | some (.cells cs) => if esz = size ∧ off + len * esz ≤ cs.length then some ((cs.drop off).take (len * esz), len) else none
    | _ => none)
  | _ => none
def aAppend (P : Program) (h : Nat → Option AObj) (id : Nat) (ts tx : TypeId) (s x : AV) : Option Out :=
  match tinfo P ts, tinfo P tx with
  | some T, some X => (match T.td, X.td with
    | .slice e, .slice _ => (match tinfo P e with
      | some E => if 0 < E.bytes ∧ E.bytes ≤ 1048576 ∧ E.zero.length = E.size then (match srcCells h E.size x with
        | some (new, n) => (match s with
          | .nil => if n = 0 then some ⟨.nil, []⟩ else if n * E.bytes ≤ 1099511627776 then some ⟨.rsl id 0 n E.size, [(id, some (.cells new))]⟩ else none
          | .rsl i 0 len esz => (match h i with
            | some (.cells cs) => if esz = E.size ∧ cs.length = len * esz ∧ new.all cellB = true ∧ (len + n) * E.bytes ≤ 1099511627776 then
                some ⟨.rsl id 0 (len + n) esz, [(i, none), (id, some (.cells (cs ++ new)))]⟩ else none
            | _ => none)
          | _ => none)
        | none => none) else none
      | none => none)
    | _, _ => none)
  | _, _ => none
/-- A bound of a slice expression. -/
def abound (d : Nat) (x : Option AV) : Option Nat :=
  match x with
  | none => some d
  | some (.int _ n) => if 0 ≤ n then some n.toNat else none
  | _ => none
def chunks (esz : Nat) (cs : List AV) : Nat → List (List AV)
  | 0 => []
  | n + 1 => cs.take esz :: chunks esz (cs.drop esz) n
def aSlice (P : Program) (h : Nat → Option AObj) (t : TypeId) (x : AV) (lo hi : Option AV) : Option AV :=
  match tinfo P t with
  | some T => (match T.td, x with
    | .slice e, .lst esz xs => (match tinfo P e, abound 0 lo, abound xs.length hi with
      | some E, some l, some r => if esz = E.size ∧ l ≤ r ∧ r ≤ xs.length then some (.lst esz ((xs.take r).drop l)) else none
      | _, _, _ => none)
    | .slice e, .nil => (match tinfo P e, abound 0 lo, abound 0 hi with
      | some _, some 0, some 0 => some .nil
      | _, _, _ => none)
    | .slice e, .rsl i off len esz => (match tinfo P e, abound 0 lo, abound len hi with
      | some E, some l, some r => if esz = E.size ∧ l ≤ r ∧ r ≤ len then some (.rsl i (off + l * esz) (r - l) esz) else none
      | _, _, _ => none)
    | .arr n e, .cptr cs => (match tinfo P e, abound 0 lo, abound n hi with
      | some E, some l, some r => if l ≤ r ∧ r ≤ n ∧ n * E.size ≤ cs.length then some (.lst E.size (chunks E.size (cs.drop (l * E.size)) (r - l))) else none
      | _, _, _ => none)
    | .arr n e, .vptr i off => (match tinfo P e, abound 0 lo, abound n hi, h i with
      | some E, some l, some r, some (.cells cs) => if l ≤ r ∧ r ≤ n ∧ off + n * E.size ≤ cs.length then some (.rsl i (off + l * E.size) (r - l) E.size) else none
      | _, _, _, _ => none)
    | .str, .str s => (match abound 0 lo, abound s.size hi with
      | some l, some r => if l ≤ r ∧ r ≤ s.size then some (.str (s.extract l r)) else none
      | _, _ => none)
    | _, _ => none)
  | none => none
/-- A key of a plain type. -/
def akey1 : TD → AV → Bool
  | .int k, .int k' _ => decide (k' = k)
  | .str, .str _ => true
  | .bool, .bool _ => true
  | _, _ => false
def plainA : AV → Bool
  | .int _ _ => true
  | .str _ => true
  | .bool _ => true
  | _ => false
def plainEq : AV → AV → Bool
  | .int k a, .int k' b => decide (k = k') && decide (a = b)
  | .str a, .str b => a == b
  | .bool a, .bool b => a == b
  | _, _ => false
def plainEqL : List AV → List AV → Bool
  | [], [] => true
  | a :: as, b :: bs => plainEq a b && plainEqL as bs
  | _, _ => false
def akeyF (P : Program) (xs : List AV) : List (Nat × TypeId × Bool) → Bool
  | [] => true
  | (off, t, blank) :: fs => (blank || match apart P t xs off, tinfo P t with
    | some y, some U => akey1 U.td y
    | _, _ => false) && akeyF P xs fs
/-- A key: of a plain type, or a struct of plain fields. -/
def akeyB (P : Program) (d : TD) (k : AV) : Bool :=
  match d, k with
  | .struct fs, .agg xs => akeyF P xs fs
  | d, k => akey1 d k
def akeq (P : Program) (kt : TypeId) (d : TD) (k x : AV) : Option Bool :=
  match d, k, x with
  | .int _, .int k a, .int k' b => if k = k' then some (a == b) else none
  | .str, .str a, .str b => some (a == b)
  | .bool, .bool a, .bool b => some (a == b)
  | .struct _, .agg xs, .agg ys => (match aeqT P 6 kt (.agg xs) (.agg ys) with
    | some true => if plainEqL xs ys = true then some true else none
    | some false => some false
    | none => none)
  | _, _, _ => none
def afind (P : Program) (kt : TypeId) (d : TD) (k : AV) : List (AV × AV) → Nat → Option (Option (Nat × AV))
  | [], _ => some none
  | e :: es, i => match akeq P kt d k e.1 with
    | some true => some (some (i, e.2))
    | some false => afind P kt d k es (i + 1)
    | none => none
def azero (P : Program) (t : TypeId) : Option AV := (P.info? t).bind fun i => i.zero.map ofVal
/-- The entries of a map that is read. -/
def amap (h : Nat → Option AObj) (x : AV) : Option (List (AV × AV)) :=
  match x with
  | .nmap => some []
  | .imap es => some es
  | .mref i => (match h i with | some (.map es) => some es | _ => none)
  | _ => none
def aLookup (P : Program) (h : Nat → Option AObj) (t : TypeId) (x k : AV) (ok : Bool) : Option AV :=
  match tinfo P t with
  | some T => (match T.td with
    | .map kt et => (match tinfo P kt, amap h x with
      | some K, some es => if akeyB P K.td k = true then (match afind P kt K.td k es 0, azero P et with
        | some (some (_, v)), _ => some (if ok = true then .tup [v, .bool true] else v)
        | some none, some z => some (if ok = true then .tup [z, .bool false] else z)
        | _, _ => none) else none
      | _, _ => none)
    | _ => none)
  | none => none
def aMapUpdate (P : Program) (h : Nat → Option AObj) (t : TypeId) (x k v : AV) : Option Out :=
  match tinfo P t with
  | some T => (match T.td, x with
    | .map kt _, .mref i => (match tinfo P kt, h i with
      | some K, some (.map es) => if akeyB P K.td k = true then (match afind P kt K.td k es 0 with
        | some (some (j, _)) => some ⟨.undef, [(i, some (.map (es.set j (k, v))))]⟩
        | some none => some ⟨.undef, [(i, some (.map (es ++ [(k, v)])))]⟩
        | none => none) else none
      | _, _ => none)
    | _, _ => none)
  | none => none
def aDelete (P : Program) (h : Nat → Option AObj) (t : TypeId) (x k : AV) : Option Out :=
  match tinfo P t with
  | some T => (match T.td, x with
    | .map kt _, .mref i => (match tinfo P kt, h i with
      | some K, some (.map es) => if akeyB P K.td k = true then (match afind P kt K.td k es 0 with
        | some (some (j, _)) => some ⟨.undef, [(i, some (.map (es.eraseIdx j)))]⟩
        | some none => some ⟨.undef, [(i, some (.map es))]⟩
        | none => none) else none
      | _, _ => none)
    | _, _ => none)
  | none => none
def aIndex (P : Program) (t : TypeId) (x i : AV) : Option AV :=
  match tinfo P t with
  | some T => (match T.td, x, i with
    | .arr n e, .agg cs, .int _ j => (match tinfo P e with
      | some E => if 0 ≤ j ∧ j < n then apart P e cs (j.toNat * E.size) else none
      | none => none)
    | .str, .str s, .int _ j => if 0 ≤ j then (s[j.toNat]?).map fun b => .int .u8 b.toNat else none
    | _, _, _ => none)
  | none => none
def aNilCheck (x : AV) : Option AV :=
  match x with
  | .vptr i o => some (.vptr i o)
  | .cptr cs => some (.cptr cs)
  | .yld i => some (.yld i)
  | .fn (.func f) fs cs => some (.fn (.func f) fs cs)
  | .iface t v => some (.iface t v)
  | _ => none

def aBuiltin (P : Program) (b : Builtin) (ts : List TypeId) (xs : List AV) (h : Nat → Option AObj) (id : Nat) : Option Out :=
  match b, ts, xs with
  | .len, t :: _, [x] => (aLen P h t x).map fun v => ⟨v, []⟩
  | .append, t :: u :: _, [s, x] => aAppend P h id t u s x
  | .min, _, x :: r => (foldO amin2 x r).map fun v => ⟨v, []⟩
  | .max, _, x :: r => (foldO amax2 x r).map fun v => ⟨v, []⟩
  | .delete, t :: _, [x, k] => aDelete P h t x k
  | _, _, _ => none

def aval (P : Program) (o : Op) (ρ : Operand → AV) (h : Nat → Option AObj) (id : Nat) : Option Out :=
  match o with
  | .move x => some ⟨ρ x, []⟩
  | .assign x => some ⟨ρ x, []⟩
  | .pick c a b => (match ρ c with | .bool t => some ⟨if t = true then ρ a else ρ b, []⟩ | _ => none)
  | .alloc e => (match tinfo P e with | some T => some ⟨.vptr id 0, [(id, some (.cells T.zero))]⟩ | none => none)
  | .box _ x => (match acells (ρ x) with | some cs => some ⟨.vptr id 0, [(id, some (.cells cs))]⟩ | none => none)
  | .build t parts => aBuild P t (parts.toList.map fun p => (p.1, ρ p.2))
  | .buildSlice t len parts => aBuildSlice P id t len (parts.toList.map fun p => (p.1, ρ p.2))
  | .load t a => aLoad P h t (ρ a)
  | .store t a x => aStore P h t (ρ a) (ρ x)
  | .binOp op t x y _ => (abin P op t (ρ x) (ρ y)).map fun v => ⟨v, []⟩
  | .unOp op _ x => (aun op (ρ x)).map fun v => ⟨v, []⟩
  | .convert s d x => (aConvert P s d (ρ x)).map fun v => ⟨v, []⟩
  | .makeFunc f fs cs => some ⟨.fn f (fs.toList.map ρ) (cs.toList.map ρ), []⟩
  | .makeMap _ none => some ⟨.mref id, [(id, some (.map []))]⟩
  | .makeInterface t x => (aMakeIface P t (ρ x)).map fun v => ⟨v, []⟩
  | .fieldAddr s x f => (aFieldAddr P s (ρ x) f).map fun v => ⟨v, []⟩
  | .field s x f => (aField P s (ρ x) f).map fun v => ⟨v, []⟩
  | .indexAddr t x i => (aindexAddr P h t (ρ x) (ρ i)).map fun v => ⟨v, []⟩
  | .slice t x lo hi none => (aSlice P h t (ρ x) (lo.map ρ) (hi.map ρ)).map fun v => ⟨v, []⟩
  | .call { callee := .builtin b, args := args, argTypes := ts } => aBuiltin P b ts.toList (args.toList.map ρ) h id
  | .nilCheck x => (aNilCheck (ρ x)).map fun v => ⟨v, []⟩
  | .lookup t x k ok => (aLookup P h t (ρ x) (ρ k) ok).map fun v => ⟨v, []⟩
  | .mapUpdate t m k x => aMapUpdate P h t (ρ m) (ρ k) (ρ x)
  | .insert t m k x => aMapUpdate P h t (ρ m) (ρ k) (ρ x)
  | .index t x i => (aIndex P t (ρ x) (ρ i)).map fun v => ⟨v, []⟩
  | .extract x i => (match ρ x with | .tup vs => vs[i]?.map fun v => ⟨v, []⟩ | _ => none)
  | _ => none

/-- What an operation's own run owes. -/
def Sound (P : Program) (s : Sem Next) (N : Nat → Prop) (κ : Nat → Option Nat) (H : AHeap) (w : World) (out : Out) (id : Nat) : Prop :=
  ∃ κ' w' v, (s.run P w = .ok (.value v) w' ∨ (s.run P w = .ok .skip w' ∧ v = Go.undef)) ∧ Step N κ H w κ' (upH H out.ups) w' ∧
    VRel κ' (avoid κ' N (upH H out.ups)) w' out.v v ∧ ∀ j, (j ≠ id ∨ out.ups = []) → Fresh κ H j → Fresh κ' (upH H out.ups) j

theorem Sound.same {P : Program} {s : Sem Value} {N : Nat → Prop} {κ : Nat → Option Nat} {H : AHeap} {w : World} {x : AV} {id : Nat} (hr : HRel κ N H w)
    (h : ∃ v, s.run P w = .ok v w ∧ VRel κ (avoid κ N H) w x v) : Sound P (do pure (.value (← s))) N κ H w ⟨x, []⟩ id := by
  obtain ⟨v, h1, h2⟩ := h
  exact ⟨κ, w, v, .inl (by simp [h1]), .refl hr, h2, fun _ _ h => h⟩
theorem Sound.alloc {P : Program} {s : Sem Value} {N : Nat → Prop} {κ : Nat → Option Nat} {H : AHeap} {w : World} {id : Nat} {cs : List AV} {c : Array Value} {e : TypeId} {v : Value} {x : AV} (hr : HRel κ N H w) (hid : Fresh κ H id)
    (h : s.run P w = .ok v (w.alloc (.cells c e))) (hl : cs.length ≤ c.size) (hv : ∀ (i : Nat) (x : AV), cs[i]? = some x → ∃ v, c[i]? = some v ∧ VRel κ (avoid κ N H) w x v)
    (hx : VRel (withNew κ id (some w.heap.size)) (avoid (withNew κ id (some w.heap.size)) N (hset H id (.cells cs))) (w.alloc (.cells c e)) x v) :
    Sound P (do pure (.value (← s))) N κ H w ⟨x, [(id, some (.cells cs))]⟩ id := by
  refine ⟨_, _, v, .inl (by simp [h]), .alloc hr hid c e cs hl hv, hx, fun j hj hf => ?_⟩
  have hj : j ≠ id := hj.resolve_right (by simp)
  refine ⟨?_, ?_⟩
  · rw [withNew_old hj]; exact hf.1
  · show hget (hset H id (.cells cs)) j = none
    rw [hget_hset, if_neg (Ne.symm hj)]; exact hf.2

theorem acells_rel {κ : Nat → Option Nat} {av : Nat → Prop} {w : World} {x : AV} {v : Value} {cs : List AV} (h : VRel κ av w x v) (hc : acells x = some cs) :
    v.cells.size = cs.length ∧ ∀ (i : Nat) (c : AV), cs[i]? = some c → ∃ u, v.cells[i]? = some u ∧ VRel κ av w c u := by
  cases x with
  | any => simp [acells] at hc
  | undef => simp [acells] at hc
  | tup _ => simp [acells] at hc
  | agg l =>
    simp only [acells, Option.some.injEq] at hc
    subst hc
    obtain ⟨vs, rfl, h1, h2⟩ := h.agg_inv
    exact ⟨h1, h2⟩
  | _ =>
    simp only [acells, Option.some.injEq] at hc
    subst hc
    have hcell : v.cells = #[v] := by cases h <;> rfl
    rw [hcell]
    refine ⟨rfl, fun i c hi => ?_⟩
    cases i with
    | zero => simp at hi; subst hi; exact ⟨v, rfl, h⟩
    | succ i => simp at hi

theorem splice_length : ∀ (xs : List AV) (cs : List AV) (off : Nat), (splice cs off xs).length = cs.length := by
  intro xs; induction xs with
  | nil => intros; rfl
  | cons x xs ih => intro cs off; simp [splice, ih]
/-- Cells known one by one, in an array. -/
def CRel (κ : Nat → Option Nat) (av : Nat → Prop) (w : World) (cs : List AV) (vs : Array Value) : Prop :=
  vs.size = cs.length ∧ ∀ (i : Nat) (c : AV), cs[i]? = some c → ∃ u, vs[i]? = some u ∧ VRel κ av w c u
theorem CRel.set {κ : Nat → Option Nat} {av : Nat → Prop} {w : World} {cs : List AV} {vs : Array Value} (h : CRel κ av w cs vs) {off : Nat} {x : AV} {v : Value} (hv : VRel κ av w x v) :
    CRel κ av w (cs.set off x) (vs.setIfInBounds off v) := by
  refine ⟨by simpa using h.1, fun i c hi => ?_⟩
  by_cases e : i = off
  · subst e
    by_cases hlt : i < cs.length
    · rw [List.getElem?_set_self hlt] at hi; cases hi
      exact ⟨v, Array.getElem?_setIfInBounds_self_of_lt (by rw [h.1]; exact hlt), hv⟩
    · rw [List.getElem?_eq_none (by simpa using hlt)] at hi; cases hi
  · rw [List.getElem?_set_ne (Ne.symm e)] at hi
    obtain ⟨u, hu, hr⟩ := h.2 i c hi
    exact ⟨u, by rw [Array.getElem?_setIfInBounds_ne (Ne.symm e)]; exact hu, hr⟩
theorem CRel.splice {κ : Nat → Option Nat} {av : Nat → Prop} {w : World} (off : Nat) : ∀ (xs : List AV) (vs : List Value) (j : Nat) (cs : List AV) (ws : Array Value), CRel κ av w cs ws → vs.length = xs.length →
    (∀ (i : Nat) (x : AV), xs[i]? = some x → ∃ v, vs[i]? = some v ∧ VRel κ av w x v) →
    CRel κ av w (Am.splice cs (off + j) xs) ((vs.zipIdx j).foldl (fun cs (p : Value × Nat) => cs.setIfInBounds (off + p.2) p.1) ws) := by
  intro xs
  induction xs with
  | nil => intro vs j cs ws h hl _; have : vs = [] := by simpa using hl
           subst this; exact h
  | cons x xs ih =>
    intro vs j cs ws h hl hv
    cases vs with
    | nil => simp at hl
    | cons v vs =>
      have hv0 : VRel κ av w x v := by obtain ⟨u, hu, hr⟩ := hv 0 x rfl; simp at hu; subst hu; exact hr
      have := ih vs (j + 1) (cs.set (off + j) x) (ws.setIfInBounds (off + j) v) (h.set hv0) (by simpa using hl) (fun i y hy => by simpa using hv (i + 1) y (by simpa using hy))
      simpa [Am.splice, List.zipIdx_cons, Nat.add_assoc] using this
theorem CRel.fill {κ : Nat → Option Nat} {av : Nat → Prop} {w : World} {place : Nat → Option (Nat × Nat)} {ρ : Operand → AV} {σ : Operand → Value} : ∀ (l : List (Nat × Operand)) (cs : List AV) (vs : Array Value) (out : List AV), CRel κ av w cs vs →
    (∀ p ∈ l, VRel κ av w (ρ p.2) (σ p.2)) → afill place cs (l.map fun p => (p.1, ρ p.2)) = some out →
    ∃ ws, Instr.fill place vs (l.map fun p => (p.1, σ p.2)) = some ws ∧ CRel κ av w out ws := by
  intro l
  induction l with
  | nil => intro cs vs out h _ ho; simp only [List.map_nil, afill, Option.some.injEq] at ho; subst ho; exact ⟨vs, rfl, h⟩
  | cons p l ih =>
    intro cs vs out h hp ho
    obtain ⟨i, x⟩ := p
    have hv : VRel κ av w (ρ x) (σ x) := hp (i, x) List.mem_cons_self
    simp only [List.map_cons, afill] at ho
    split at ho
    · rename_i off size l' hplace hc
      split at ho
      · rename_i hcond
        obtain ⟨hs1, hs2⟩ := acells_rel hv hc
        have hsp := CRel.splice off l' (σ x).cells.toList 0 cs vs h (by simpa using hs1) (fun i x hx => by obtain ⟨u, hu, hr⟩ := hs2 i x hx; exact ⟨u, by simpa using hu, hr⟩)
        obtain ⟨ws, hw1, hw2⟩ := ih _ _ out hsp (fun q hq => hp q (List.mem_cons_of_mem _ hq)) ho
        refine ⟨ws, ?_, hw2⟩
        simp only [List.map_cons, Instr.fill, hplace]
        rw [if_neg (by have := h.1; simp only [Bool.or_eq_true, decide_eq_true_eq]; omega)]
        rw [← hw1]
        congr 1
        rw [← Array.foldl_toList, Array.toList_zipIdx]
      · cases ho
    · cases ho

theorem rep_rel {κ : Nat → Option Nat} {av : Nat → Prop} {w : World} {z : List AV} {zs : Array Value} (h : CRel κ av w z zs) : ∀ n,
    CRel κ av w (rep n z) ((Array.range (n * z.length)).map (zs[· % zs.size]!)) := by
  have key : ∀ n i, (rep n z)[i]? = if i < n * z.length then z[i % z.length]? else none := by
    intro n
    induction n with
    | zero => intro i; simp [rep]
    | succ n ih =>
      intro i
      simp only [rep]
      rw [List.getElem?_append]
      by_cases hi : i < z.length
      · rw [if_pos hi, if_pos (by rw [Nat.succ_mul]; omega), Nat.mod_eq_of_lt hi]
      · rw [if_neg hi, ih]
        have hm : i % z.length = (i - z.length) % z.length := by rw [Nat.mod_eq_sub_mod (by omega)]
        rw [hm]
        by_cases hj : i - z.length < n * z.length
        · rw [if_pos hj, if_pos (by rw [Nat.succ_mul]; omega)]
        · rw [if_neg hj, if_neg (by rw [Nat.succ_mul]; omega)]
  intro n
  refine ⟨?_, fun i c hi => ?_⟩
  · simp only [Array.size_map, Array.size_range]
    clear key
    induction n with
    | zero => simp [rep]
    | succ n ih => simp only [rep, List.length_append, ← ih, Nat.succ_mul]; omega
  · rw [key] at hi
    split at hi
    · rename_i hlt
      obtain ⟨u, hu, hr⟩ := h.2 _ c hi
      refine ⟨u, ?_, hr⟩
      rw [Array.getElem?_map, Array.getElem?_range, if_pos hlt]
      simp only [Option.map_some, h.1]
      rw [getElem!_def, hu]
    · cases hi

end Go.Am
/-
  'aval' IS FOLLOWED BY THE MODEL's RUN, operation by operation.
-/
namespace Go.Am

section
variable {P : Program} {N : Nat → Prop} {κ : Nat → Option Nat} {H : AHeap} {w : World} {id : Nat}

theorem CRel.of_agg {av : Nat → Prop} {cs : List AV} {vs : Array Value} (h : VRel κ av w (.agg cs) (.agg vs)) : CRel κ av w cs vs := by
  obtain ⟨us, e, h1, h2⟩ := h.agg_inv; cases e; exact ⟨h1, h2⟩
theorem CRel.zero (av : Nat → Prop) (c : Array Value) : CRel κ av w (c.toList.map ofCell) c :=
  ⟨by simp, fun i x hx => by obtain ⟨u, hu, rfl⟩ := ofCells_get c i x hx; exact ⟨u, hu, ofCell_rel _ _ _ _⟩⟩

theorem owned_cells (hr : HRel κ N H w) {i : Nat} {cs : List AV} (hi : hget H i = some (.cells cs)) {blk : Nat} (hk : κ i = some blk) {off : Nat} :
    CellsAt κ (avoid κ N H) w ⟨blk, off, none⟩ (cs.drop off) := by
  intro j c hc
  rw [List.getElem?_drop] at hc
  rcases hr.rel i _ hi with ⟨h1, _⟩ | ⟨b, c', e, h1, h2, h3, h4⟩
  · subst h1; simp at hc
  · rw [hk] at h1; cases h1
    obtain ⟨v, hv, hvr⟩ := h4 _ _ hc
    refine ⟨v, ?_, hvr⟩
    have hadd : (⟨blk, off, none⟩ : Addr).add j = ⟨blk, off + j, none⟩ := by unfold Addr.add; split <;> simp_all
    rw [hadd]
    simp [World.cell?, h2, hv]

theorem sound_load {t : TypeId} {x : AV} {a : Value} {out : Out} (hr : HRel κ N H w) (hx : VRel κ (avoid κ N H) w x a) (h : aLoad P (hget H) t x = some out) :
    Sound P (do pure (.value (← Instr.loadAt t a))) N κ H w out id := by
  unfold aLoad at h
  split at h
  · cases h
  · rename_i T hT
    split at h
    · rename_i cs
      cases hv : aread T cs with
      | none => rw [hv] at h; cases h
      | some y =>
        rw [hv] at h; cases h
        refine .same hr ?_
        cases hx with
        | cptr _ ad u hc hvr =>
          obtain ⟨v, h1, h2⟩ := run_loadVar (P := P) (κ := κ) (av := avoid κ N H) (w := w) (a := ad) hT (fun j c hj => ⟨u j, (hc j c hj).2, (hvr j c hj).up⟩) hv
          exact ⟨v, by simp [Instr.loadAt, Instr.sureAddr, h1], h2⟩
    · rename_i i off
      split at h
      · rename_i cs hi
        cases hv : aread T (cs.drop off) with
        | none => rw [hv] at h; cases h
        | some y =>
          rw [hv] at h; cases h
          refine .same hr ?_
          cases hx with
          | vptr _ _ blk hk =>
            obtain ⟨v, h1, h2⟩ := run_loadVar (P := P) hT (owned_cells hr hi hk) hv
            exact ⟨v, by simp [Instr.loadAt, Instr.sureAddr, h1], h2⟩
      · cases h
    · cases h

theorem sound_store {t : TypeId} {x y : AV} {a v : Value} {out : Out} (hr : HRel κ N H w) (hx : VRel κ (avoid κ N H) w x a) (hy : VRel κ (avoid κ N H) w y v)
    (h : aStore P (hget H) t x y = some out) : Sound P (do Instr.storeAt t a v; pure .skip) N κ H w out id := by
  unfold aStore at h
  split at h
  · rename_i T i off xs hT hxs
    split at h
    · rename_i cs hi
      split at h
      · rename_i hcond
        obtain ⟨hc1, hc2, hc3⟩ := hcond
        cases h
        obtain ⟨hs1, hs2⟩ := acells_rel hy hxs
        cases hx with
        | vptr _ _ blk hk =>
          obtain ⟨w', h1, h2⟩ := run_storeCells (P := P) hk xs v.cells.toList H w cs off 0 hr hi (by omega) (fun z hz => by rw [List.all_eq_true] at hc3; exact hc3 z hz)
            (by simpa using hs1) (fun j z hz => by obtain ⟨u, hu, hur⟩ := hs2 j z hz; exact ⟨u, by simpa using hu, hur⟩)
          refine ⟨κ, w', Go.undef, .inr ⟨?_, rfl⟩, h2, .undef, fun j _ hf => ⟨hf.1, ?_⟩⟩
          · simp only [Instr.storeAt, Instr.sureAddr, storeVar, Sem.run_bind, Sem.run_pure, Result.andThen_ok, run_sizeOf hT]
            rw [if_neg (by rw [hs1, hc1]; exact fun h => h rfl)]
            simp [h1]
          · show hget (hset H i _) j = none
            rw [hget_hset]
            split
            · rename_i e; subst e; rw [hf.2] at hi; cases hi
            · exact hf.2
      · cases h
    · cases h
  · cases h

theorem sound_alloc {e : TypeId} {T : TI} (hr : HRel κ N H w) (hid : Fresh κ H id) (hT : tinfo P e = some T) :
    Sound P (do pure (.value (← Instr.alloc e true (.tuple #[])))) N κ H w ⟨.vptr id 0, [(id, some (.cells T.zero))]⟩ id := by
  obtain ⟨z, h1, h2⟩ := run_zeroValue hT w
  have hcr := CRel.zero (κ := κ) (w := w) (avoid κ N H) z.cells
  rw [h2] at hcr
  refine .alloc (c := z.cells) (e := e) (v := .pointer (some ⟨w.heap.size, 0, none⟩)) hr hid ?_ (Nat.le_of_eq hcr.1.symm) hcr.2 (.vptr _ _ _ withNew_new)
  simp [Instr.alloc, h1, newVar, newRow]

theorem sound_box {e : TypeId} {x : AV} {v : Value} {cs : List AV} (hr : HRel κ N H w) (hid : Fresh κ H id) (hx : VRel κ (avoid κ N H) w x v) (hc : acells x = some cs) :
    Sound P (do pure (.value (← Instr.box e v))) N κ H w ⟨.vptr id 0, [(id, some (.cells cs))]⟩ id := by
  obtain ⟨hs1, hs2⟩ := acells_rel hx hc
  refine .alloc (c := v.cells) (e := e) (v := .pointer (some ⟨w.heap.size, 0, none⟩)) hr hid ?_ (Nat.le_of_eq hs1.symm) hs2 (.vptr _ _ _ withNew_new)
  simp [Instr.box, newVar, newRow]

theorem fields_mapM {fs : List Field} {w : World} (hall : ∀ f ∈ fs, ∃ U, tinfo P f.type = some U) :
    ∃ ps : List (Nat × Nat), ((fs.mapM fun f => do pure (f.offset, ← sizeOf f.type) : Sem _)).run P w = .ok ps w ∧ ps.length = fs.length ∧
      ∀ (i : Nat) (f : Field), fs[i]? = some f → ∃ U, tinfo P f.type = some U ∧ ps[i]? = some (f.offset, U.size) := by
  induction fs with
  | nil => exact ⟨[], rfl, rfl, fun i f h => by simp at h⟩
  | cons f fs ih =>
    obtain ⟨U, hU⟩ := hall f List.mem_cons_self
    obtain ⟨ps, h1, h2, h3⟩ := ih (fun g hg => hall g (List.mem_cons_of_mem _ hg))
    refine ⟨(f.offset, U.size) :: ps, ?_, by simp [h2], fun i g hi => ?_⟩
    · rw [List.mapM_cons]
      simp only [Sem.run_bind, run_sizeOf hU, Result.andThen_ok, Sem.run_pure]
      rw [h1]; rfl
    · cases i with
      | zero => simp at hi; subst hi; exact ⟨U, hU, rfl⟩
      | succ i => simpa using h3 i g (by simpa using hi)


theorem structFields {t : TypeId} {T : TI} (hT : tinfo P t = some T) {fs : List (Nat × TypeId × Bool)} (hs : T.td = .struct fs) :
    ∃ Fs : Array Field, P.underlying t = some (.struct Fs) ∧ fs = Fs.toList.map fun f => (f.offset, f.type, f.name == "_") := by
  obtain ⟨d, i, z, hd, hi, hz, rfl⟩ := tinfo_spec hT
  cases d with
  | struct Fs => exact ⟨Fs, hd, by simpa [tdOf] using hs.symm⟩
  | _ => simp [tdOf] at hs
theorem arrElem {t : TypeId} {T : TI} (hT : tinfo P t = some T) {n : Nat} {e : TypeId} (hs : T.td = .arr n e) : P.underlying t = some (.array n e) := by
  obtain ⟨d, i, z, hd, hi, hz, rfl⟩ := tinfo_spec hT
  cases d with
  | array m f => simp [tdOf] at hs; rw [hd]; simp [hs]
  | _ => simp [tdOf] at hs
theorem sliceElem {t : TypeId} {T : TI} (hT : tinfo P t = some T) {e : TypeId} (hs : T.td = .slice e) : P.underlying t = some (.slice e) := by
  obtain ⟨d, i, z, hd, hi, hz, rfl⟩ := tinfo_spec hT
  cases d with
  | slice f => simp [tdOf] at hs; rw [hd]; simp [hs]
  | _ => simp [tdOf] at hs
theorem zeroRel {t : TypeId} {T : TI} (hT : tinfo P t = some T) (w : World) (av : Nat → Prop) : ∃ z, (zeroValue t).run P w = .ok z w ∧ CRel κ av w T.zero z.cells := by
  obtain ⟨z, h1, h2⟩ := run_zeroValue hT w
  exact ⟨z, h1, h2 ▸ CRel.zero av z.cells⟩

theorem sound_build {t : TypeId} {l : List (Nat × Operand)} {ρ : Operand → AV} {σ : Operand → Value} {out : Out} (hr : HRel κ N H w) (hp : ∀ p ∈ l, VRel κ (avoid κ N H) w (ρ p.2) (σ p.2))
    (h : aBuild P t (l.map fun p => (p.1, ρ p.2)) = some out) : Sound P (do pure (.value (← Instr.build t (l.map fun p => (p.1, σ p.2)).toArray))) N κ H w out id := by
  unfold aBuild at h
  split at h
  · rename_i T hT
    obtain ⟨z, hz1, hz2⟩ := zeroRel (κ := κ) hT w (avoid κ N H)
    split at h
    · rename_i fs hfs
      split at h
      · rename_i hall
        obtain ⟨Fs, hF1, rfl⟩ := structFields hT hfs
        cases hfill : afill (fieldPl P (Fs.toList.map fun f => (f.offset, f.type, f.name == "_"))) T.zero (l.map fun p => (p.1, ρ p.2)) with
        | none => rw [hfill] at h; cases h
        | some cs =>
          rw [hfill] at h; cases h
          refine .same hr ?_
          obtain ⟨ws, hw1, hw2⟩ := CRel.fill l _ _ _ hz2 hp hfill
          obtain ⟨ps, hp1, hp2, hp3⟩ := fields_mapM (P := P) (w := w) (fs := Fs.toList) (fun f hf => by
            have := List.all_eq_true.1 hall (f.offset, f.type, f.name == "_") (List.mem_map.2 ⟨f, hf, rfl⟩)
            exact Option.isSome_iff_exists.1 this)
          refine ⟨.agg ws, ?_, .aggOf hw2.1 hw2.2⟩
          have hplace : (fun i => ps.toArray[i]?) = fieldPl P (Fs.toList.map fun f => (f.offset, f.type, f.name == "_")) := by
            funext i
            unfold fieldPl
            simp only [List.getElem?_toArray, List.getElem?_map]
            cases hi : Fs.toList[i]? with
            | none => simp only [Option.map_none]; rw [List.getElem?_eq_none_iff] at hi ⊢; omega
            | some f => obtain ⟨U, hU, hps⟩ := hp3 i f hi; simp only [Option.map_some, hU, hps]
          have hm : (Fs.mapM fun f => (do pure (f.offset, ← sizeOf f.type) : Sem (Nat × Nat))).run P w = .ok ps.toArray w := by
            rw [Array.mapM_eq_mapM_toList]
            simp only [Sem.run_map]
            rw [hp1]; rfl
          simp only [Instr.build, Sem.run_bind, hz1, Result.andThen_ok, underlying, run_program, hF1, Sem.run_pure] at hm ⊢
          rw [hm]
          simp only [Result.andThen_ok]
          rw [hplace, hw1]
          rfl
      · cases h
    · rename_i n e hfs
      split at h
      · rename_i E hE
        cases hfill : afill (fun i => some (i * E.size, E.size)) T.zero (l.map fun p => (p.1, ρ p.2)) with
        | none => rw [hfill] at h; cases h
        | some cs =>
          rw [hfill] at h; cases h
          refine .same hr ?_
          obtain ⟨ws, hw1, hw2⟩ := CRel.fill l _ _ _ hz2 hp hfill
          refine ⟨.agg ws, ?_, .aggOf hw2.1 hw2.2⟩
          simp only [Instr.build, Sem.run_bind, hz1, Result.andThen_ok, underlying, run_program, arrElem hT hfs, Sem.run_pure, run_sizeOf hE, hw1]
      · cases h
    · cases h
  · cases h

theorem sound_buildSlice {t : TypeId} {len : Nat} {l : List (Nat × Operand)} {ρ : Operand → AV} {σ : Operand → Value} {out : Out} (hr : HRel κ N H w) (hid : Fresh κ H id) (hp : ∀ p ∈ l, VRel κ (avoid κ N H) w (ρ p.2) (σ p.2))
    (h : aBuildSlice P id t len (l.map fun p => (p.1, ρ p.2)) = some out) : Sound P (do pure (.value (← Instr.buildSlice t len (l.map fun p => (p.1, σ p.2)).toArray))) N κ H w out id := by
  unfold aBuildSlice at h
  split at h
  · rename_i T hT
    split at h
    · rename_i e hfs
      split at h
      · rename_i E hE
        split at h
        · rename_i hcond
          obtain ⟨hc1, hc2⟩ := hcond
          obtain ⟨z, hz1, hz2⟩ := zeroRel (κ := κ) hE w (avoid κ N H)
          cases hfill : afill (fun i => some (i * E.size, E.size)) (rep len E.zero) (l.map fun p => (p.1, ρ p.2)) with
          | none => rw [hfill] at h; cases h
          | some cs =>
            rw [hfill] at h; cases h
            have hrep := rep_rel hz2 len
            rw [hc2] at hrep
            obtain ⟨ws, hw1, hw2⟩ := CRel.fill l _ _ _ hrep hp hfill
            have hsz : ws.size = len * E.size := by
              rw [hw2.1]
              have : ∀ (pl : Nat → Option (Nat × Nat)) (ps : List (Nat × AV)) (a b : List AV), afill pl a ps = some b → b.length = a.length := by
                intro pl ps
                induction ps with
                | nil => intro a b hab; simp only [afill, Option.some.injEq] at hab; rw [hab]
                | cons p ps ih =>
                  intro a b hab
                  obtain ⟨i, x⟩ := p
                  simp only [afill] at hab
                  split at hab
                  · split at hab
                    · rw [ih _ _ hab, splice_length]
                    · cases hab
                  · cases hab
              rw [this _ _ _ _ hfill]
              have := hrep.1
              simp only [Array.size_map, Array.size_range] at this
              exact this.symm
            refine .alloc (c := ws) (e := e) (v := .slice (some ⟨w.heap.size, 0, none⟩) len len) hr hid ?_ (Nat.le_of_eq hw2.1.symm) hw2.2
              (.rsl _ _ _ _ len w.heap.size ws e (0, 0) withNew_new (Nat.le_refl _) (alloc_new w _) (by rw [hsz]; omega))
            simp only [Instr.buildSlice, Sem.run_bind, underlying, run_program, Result.andThen_ok, sliceElem hT hfs, Sem.run_pure, run_sizeOf hE]
            rw [if_neg (by omega)]
            by_cases h0 : len * E.size = 0
            · have e0 : ∀ f : Nat → Value, (Array.range (len * E.size)).map f = #[] := by intro f; rw [h0]; simp
              rw [if_pos h0]
              rw [e0] at hw1
              simp only [Sem.run_bind, Sem.run_pure, Result.andThen_ok, e0, hw1]
              simp [newRow]
            · simp only [h0, if_false, Sem.run_bind, hz1, Result.andThen_ok, Sem.run_pure]
              simp [hw1, newRow]
        · cases h
      · cases h
    · cases h
  · cases h

theorem sound_fieldAddr {s : TypeId} {x y : AV} {f : Nat} {a : Value} (hr : HRel κ N H w) (hx : VRel κ (avoid κ N H) w x a) (h : aFieldAddr P s x f = some y) :
    Sound P (do pure (.value (← Instr.fieldAt s a f))) N κ H w ⟨y, []⟩ id := by
  refine .same hr ?_
  unfold aFieldAddr at h
  split at h
  · rename_i T hT
    split at h
    · rename_i fs hfs
      obtain ⟨Fs, hF1, rfl⟩ := structFields hT hfs
      split at h
      · rename_i off t bl hf
        split at h
        · rename_i U hU
          split at h
          · cases h
          · rename_i hz
            rw [List.getElem?_map] at hf
            cases hF : Fs.toList[f]? with
            | none => rw [hF] at hf; cases hf
            | some F =>
              rw [hF] at hf
              simp only [Option.map_some, Option.some.injEq, Prod.mk.injEq] at hf
              obtain ⟨rfl, rfl, _⟩ := hf
              have hF' : Fs[f]? = some F := by rw [← Array.getElem?_toList]; exact hF
              have hrun : ∀ b : Addr, (Instr.fieldAt s (.pointer (some b)) f).run P w = .ok (.pointer (some (b.add F.offset))) w := by
                intro b
                simp only [Instr.fieldAt, Sem.run_bind, underlying, run_program, Result.andThen_ok, hF1, Sem.run_pure, hF', Instr.sureAddr, fieldPlace, run_sizeOf hU]
                rw [if_neg hz]; rfl
              split at h
              · rename_i cs
                cases h
                cases hx with
                | cptr _ b u hc hv =>
                  refine ⟨_, hrun b, .cptr _ _ (fun j => u (F.offset + j)) (fun j c hj => ?_) (fun j c hj => ?_)⟩
                  · rw [List.getElem?_drop] at hj
                    rw [add_block, add_add]
                    exact hc _ _ hj
                  · rw [List.getElem?_drop] at hj
                    exact hv _ _ hj
              · rename_i i o
                cases h
                cases hx with
                | vptr _ _ blk hk =>
                  refine ⟨_, hrun _, ?_⟩
                  have hadd : (⟨blk, o, none⟩ : Addr).add F.offset = ⟨blk, o + F.offset, none⟩ := by unfold Addr.add; split <;> simp_all
                  rw [hadd]
                  exact .vptr _ _ _ hk
              · cases h
        · cases h
      · cases h
    · cases h
  · cases h

theorem run_part {t : TypeId} {cs : List AV} {vs : Array Value} {off : Nat} {x : AV} {av : Nat → Prop} (hc : CRel κ av w cs vs) (h : apart P t cs off = some x) :
    ∃ v, (part t vs off).run P w = .ok v w ∧ VRel κ av w x v := by
  unfold apart at h
  split at h
  · rename_i T hT
    simp only [part, Sem.run_bind, run_isAgg hT, Result.andThen_ok]
    by_cases hg : T.td.agg = true
    · rw [if_pos hg] at h
      split at h
      · rename_i hn
        cases h
        refine ⟨.agg (vs.extract off (off + T.size)), by simp [hg, run_sizeOf hT], .aggOf (by simp [hc.1]; omega) fun i c hi => ?_⟩
        have hlt : i < T.size := by
          rcases Nat.lt_or_ge i T.size with h | h
          · exact h
          · rw [List.getElem?_take, if_neg (by omega)] at hi; cases hi
        rw [List.getElem?_take, if_pos hlt, List.getElem?_drop] at hi
        obtain ⟨u, hu, hr⟩ := hc.2 _ _ hi
        refine ⟨u, ?_, hr⟩
        rw [Array.getElem?_extract, if_pos (by rw [hc.1]; omega)]
        exact hu
      · cases h
    · rw [if_neg hg] at h
      obtain ⟨u, hu, hr⟩ := hc.2 _ _ h
      exact ⟨u, by simp [hg, hu], hr⟩
  · cases h

theorem sound_field {s : TypeId} {x y : AV} {f : Nat} {a : Value} (hr : HRel κ N H w) (hx : VRel κ (avoid κ N H) w x a) (h : aField P s x f = some y) :
    Sound P (do pure (.value (← Instr.field s a f))) N κ H w ⟨y, []⟩ id := by
  refine .same hr ?_
  unfold aField at h
  split at h
  · rename_i T hT
    split at h
    · rename_i fs hfs
      obtain ⟨Fs, hF1, rfl⟩ := structFields hT hfs
      split at h
      · rename_i off t bl hf
        rw [List.getElem?_map] at hf
        cases hF : Fs.toList[f]? with
        | none => rw [hF] at hf; cases hf
        | some F =>
          rw [hF] at hf
          simp only [Option.map_some, Option.some.injEq, Prod.mk.injEq] at hf
          obtain ⟨rfl, rfl, _⟩ := hf
          have hF' : Fs[f]? = some F := by rw [← Array.getElem?_toList]; exact hF
          split at h
          · rename_i cs
            obtain ⟨vs, rfl, h1, h2⟩ := hx.agg_inv
            obtain ⟨v, hv, hvr⟩ := run_part (P := P) (w := w) ⟨h1, h2⟩ h
            exact ⟨v, by simp [Instr.field, underlying, hF1, hF', asAgg, hv], hvr⟩
          · cases h
      · cases h
    · cases h
  · cases h

theorem sound_convert {s d : TypeId} {x y : AV} {a : Value} (hr : HRel κ N H w) (hx : VRel κ (avoid κ N H) w x a) (h : aConvert P s d x = some y) :
    Sound P (do pure (.value (← convert s d a))) N κ H w ⟨y, []⟩ id := by
  refine .same hr ?_
  unfold aConvert at h
  split at h
  · rename_i S D hS hD
    split at h
    · rename_i k k' n hk
      cases h
      obtain ⟨e, he1, _, he2⟩ := run_underlying hS w
      obtain ⟨d', i, z, hd, hi, hz, rfl⟩ := tinfo_spec hD
      cases hx
      cases d' <;> simp [tdOf] at hk
      subst hk
      exact ⟨_, by simp [convert, underlying, he2, hd, Conv.intToInt], .int _ _⟩
    · cases h
  · cases h

theorem sound_iface {t : TypeId} {x y : AV} {a : Value} (hr : HRel κ N H w) (hx : VRel κ (avoid κ N H) w x a) (h : aMakeIface P t x = some y) :
    Sound P (do pure (.value (← Instr.makeInterface t a))) N κ H w ⟨y, []⟩ id := by
  refine .same hr ?_
  unfold aMakeIface at h
  split at h
  · rename_i T hT
    split at h
    · cases h
    · rename_i hne
      cases h
      obtain ⟨d, i, z, hd, hi, hz, rfl⟩ := tinfo_spec hT
      refine ⟨_, ?_, .iface t x a hx⟩
      simp only [Instr.makeInterface, Sem.run_bind, underlying, run_program, Result.andThen_ok, hd, Sem.run_pure]
      cases d <;> first | rfl | (simp [tdOf] at hne)
  · cases h
end
end Go.Am
/-
  'aval' IS FOLLOWED BY THE MODEL's RUN: indexes, arithmetic, comparisons.
-/
namespace Go.Am

section
variable {P : Program} {N : Nat → Prop} {κ : Nat → Option Nat} {H : AHeap} {w : World} {id : Nat}

theorem sound_indexAddr {t : TypeId} {x ix y : AV} {a i : Value} (hr : HRel κ N H w) (hx : VRel κ (avoid κ N H) w x a) (hi : VRel κ (avoid κ N H) w ix i) (h : aindexAddr P (hget H) t x ix = some y) :
    Sound P (do pure (.value (← Instr.indexAt t a i))) N κ H w ⟨y, []⟩ id := by
  refine .same hr ?_
  unfold aindexAddr at h
  split at h
  · rename_i k n T hT
    cases hi
    split at h
    · rename_i e esz xs htd
      have hu := sliceElem hT htd
      split at h
      · rename_i E hE
        split at h
        · rename_i hesz
          unfold elemAt at h
          split at h
          · rename_i hpos
            cases hel : xs[n.toNat]? with
            | none => rw [hel] at h; cases h
            | some c =>
              rw [hel] at h; cases h
              have hlt : n.toNat < xs.length := by
                rcases Nat.lt_or_ge n.toNat xs.length with h | h
                · exact h
                · rw [List.getElem?_eq_none h] at hel; cases hel
              cases hx with
              | lst _ _ base cap u hb hle hc hv =>
                cases base with
                | none => rw [hb rfl] at hlt; simp at hlt
                | some b =>
                  refine ⟨.pointer (some (b.add (n.toNat * E.size))), ?_, .cptr _ _ (fun j => u n.toNat j) (fun j c hj => ?_) (fun j c hj => hv _ _ hel _ _ hj)⟩
                  · simp only [Instr.indexAt, asIntOf, Sem.run_bind, Sem.run_pure, Result.andThen_ok, underlying, run_program, hu]
                    rw [if_pos ⟨hpos, by omega⟩]
                    simp only [Sem.run_bind, run_sizeOf hE, Result.andThen_ok, Sem.run_pure]
                  · obtain ⟨b', hb', h1, h2⟩ := hc _ _ hel _ _ hj
                    cases hb'
                    rw [add_block, add_add, ← hesz]
                    exact ⟨h1, h2⟩
          · cases h
        · cases h
      · cases h
    · rename_i e i off len esz htd
      have hu := sliceElem hT htd
      split at h
      · rename_i E hE
        split at h
        · rename_i hcond
          obtain ⟨h1, h2, h3⟩ := hcond
          cases h
          cases hx with
          | rsl0 => omega
          | rsl _ _ _ _ cap blk c e' f hk hl hb hcap =>
            refine ⟨_, ?_, .vptr _ _ blk hk⟩
            simp only [Instr.indexAt, asIntOf, Sem.run_bind, Sem.run_pure, Result.andThen_ok, underlying, run_program, hu]
            rw [if_pos ⟨h2, by omega⟩]
            simp only [Sem.run_bind, run_sizeOf hE, Result.andThen_ok, Sem.run_pure]
            have hadd : (⟨blk, off, none⟩ : Addr).add (n.toNat * E.size) = ⟨blk, off + n.toNat * E.size, none⟩ := by unfold Addr.add; split <;> simp_all
            rw [hadd, h1]
        · cases h
      · cases h
    · rename_i m e cs htd
      have hu := arrElem hT htd
      split at h
      · rename_i E hE
        split at h
        · rename_i hcond
          obtain ⟨h2, h3⟩ := hcond
          cases h
          cases hx with
          | cptr _ b u hc hv =>
            refine ⟨.pointer (some (b.add (n.toNat * E.size))), ?_, .cptr _ _ (fun j => u (n.toNat * E.size + j)) (fun j c hj => ?_) (fun j c hj => ?_)⟩
            · simp only [Instr.indexAt, asIntOf, Sem.run_bind, Sem.run_pure, Result.andThen_ok, underlying, run_program, hu, Instr.sureAddr]
              rw [if_pos ⟨h2, by omega⟩]
              simp only [Sem.run_bind, run_sizeOf hE, Result.andThen_ok, Sem.run_pure]
            · rw [List.getElem?_drop] at hj
              rw [add_block, add_add]
              exact hc _ _ hj
            · rw [List.getElem?_drop] at hj
              exact hv _ _ hj
        · cases h
      · cases h
    · rename_i m e i off htd
      have hu := arrElem hT htd
      split at h
      · rename_i E hE
        split at h
        · rename_i hcond
          obtain ⟨h2, h3⟩ := hcond
          cases h
          cases hx with
          | vptr _ _ blk hk =>
            refine ⟨_, ?_, .vptr _ _ blk hk⟩
            simp only [Instr.indexAt, asIntOf, Sem.run_bind, Sem.run_pure, Result.andThen_ok, underlying, run_program, hu, Instr.sureAddr]
            rw [if_pos ⟨h2, by omega⟩]
            simp only [Sem.run_bind, run_sizeOf hE, Result.andThen_ok, Sem.run_pure]
            have hadd : (⟨blk, off, none⟩ : Addr).add (n.toNat * E.size) = ⟨blk, off + n.toNat * E.size, none⟩ := by unfold Addr.add; split <;> simp_all
            rw [hadd]
        · cases h
      · cases h
    · cases h
  · cases h


theorem tdEq {t : TypeId} {T : TI} (hT : tinfo P t = some T) : ∃ d, P.underlying t = some d ∧ tdOf d = T.td := by
  obtain ⟨d, h1, h2, h3⟩ := run_underlying hT default
  exact ⟨d, h3, h2⟩

theorem aeqF_sound {av : Nat → Prop} (d n : Nat) (hA : ∀ t x y a b r, aeqT P d t x y = some r → VRel κ av w x a → VRel κ av w y b → (Op.equalIn n t a b).run P w = .ok r w)
    {xs ys : List AV} {vs us : Array Value} (hx : CRel κ av w xs vs) (hy : CRel κ av w ys us) : ∀ (Fs : List Field) (r : Bool),
    aeqF P (aeqT P d) (Fs.map fun f => (f.offset, f.type, f.name == "_")) xs ys = some r → (Op.eqFields n vs us Fs).run P w = .ok r w := by
  intro Fs
  induction Fs with
  | nil => intro r h; simp only [List.map_nil, aeqF, Option.some.injEq] at h; subst h; rfl
  | cons f Fs ih =>
    intro r h
    simp only [List.map_cons, aeqF] at h
    simp only [Op.eqFields]
    by_cases hn : f.name = "_"
    · rw [if_pos (by simp [hn])] at h
      rw [if_neg (by simp [hn])]
      exact ih r h
    · rw [if_neg (by simp [hn])] at h
      rw [if_pos (by simp [hn])]
      split at h
      · rename_i a b ha hb
        unfold andO at h
        split at h
        · rename_i r1 r2 h1 h2
          cases h
          obtain ⟨v, hv1, hv2⟩ := run_part (P := P) (w := w) hx ha
          obtain ⟨u, hu1, hu2⟩ := run_part (P := P) (w := w) hy hb
          simp only [Sem.run_bind, hv1, hu1, Result.andThen_ok, hA _ _ _ _ _ _ h1 hv2 hu2]
          cases r1
          · simp
          · simp only [Bool.not_true, Bool.false_eq_true, if_false, Bool.true_and]
            exact ih _ h2
        · cases h
      · cases h

theorem aeqT_sound {av : Nat → Prop} : ∀ (d n : Nat), d ≤ n → ∀ t x y a b r, aeqT P d t x y = some r → VRel κ av w x a → VRel κ av w y b → (Op.equalIn n t a b).run P w = .ok r w := by
  intro d
  induction d with
  | zero => intro n _ t x y a b r h; simp [aeqT] at h
  | succ d ih =>
    intro n hn t x y a b r h hx hy
    obtain ⟨n, rfl⟩ : ∃ m, n = m + 1 := ⟨n - 1, by omega⟩
    rw [aeqT] at h
    split at h
    · cases h
    · rename_i T hT
      obtain ⟨D, hD, htd⟩ := tdEq hT
      split at h
      all_goals (rename_i hk <;> try cases h)
      case h_1 => cases hx; cases hy; rw [hk] at htd; cases D <;> simp [tdOf] at htd; simp [Op.equalIn, underlying, hD]
      case h_2 =>
        split at h
        · rename_i e; cases h; cases hx; cases hy; rw [hk] at htd; cases D <;> simp [tdOf] at htd; simp [Op.equalIn, underlying, hD, e]
        · cases h
      case h_3 => cases hx; cases hy; rw [hk] at htd; cases D <;> simp [tdOf] at htd; simp [Op.equalIn, underlying, hD]
      case h_4 =>
        split at h
        · cases h
        · rename_i hstd
          obtain ⟨Fs, hF, rfl⟩ := structFields hT hk
          obtain ⟨vs, rfl, hv1, hv2⟩ := hx.agg_inv
          obtain ⟨us, rfl, hu1, hu2⟩ := hy.agg_inv
          have hfo : P.fieldsOf t = Fs := by simp [Program.fieldsOf, hF]
          have hst : P.stoodInHeld t = false := by
            obtain ⟨d', i, z, hd, hi, hz, rfl⟩ := tinfo_spec hT
            rw [hF] at hd; cases hd
            simpa using hstd
          rw [run_equalIn_struct w n t vs us (by rw [hfo]; exact hF) hst, hfo]
          exact aeqF_sound d n (fun t x y a b r h hx hy => ih n (by omega) t x y a b r h hx hy) ⟨hv1, hv2⟩ ⟨hu1, hu2⟩ _ r h
      all_goals (cases hx; cases hy; rw [hk] at htd; cases D <;> simp [tdOf] at htd; simp [Op.equalIn, underlying, hD])

theorem sound_binOp {op : BinOp} {t : TypeId} {x y r : AV} {a b : Value} {ox oy : Operand} (hr : HRel κ N H w) (hx : VRel κ (avoid κ N H) w x a) (hy : VRel κ (avoid κ N H) w y b) (h : abin P op t x y = some r) :
    Sound P (do pure (.value (← (do eqGuard op t ox oy a b; binOp op t a b)))) N κ H w ⟨r, []⟩ id := by
  refine .same hr ?_
  unfold abin at h
  split at h
  · split at h
    · rename_i k m k' m' e
      subst e
      cases hx; cases hy
      have hg : (eqGuard op t ox oy (.int k m) (.int k m')).run P w = .ok () w := by cases op <;> simp [eqGuard]
      simp only [Sem.run_bind, hg, Result.andThen_ok]
      unfold abinInt at h
      cases op <;> simp only [Option.some.injEq, reduceCtorEq] at h
      case quo => split at h
                  · cases h
                  · rename_i h0; cases h; exact ⟨_, by simp [binOp, Op.intDiv, h0], .int _ _⟩
      case rem => split at h
                  · cases h
                  · rename_i h0; cases h; exact ⟨_, by simp [binOp, Op.intDiv, h0], .int _ _⟩
      case shl => split at h
                  · cases h
                  · rename_i h0; cases h; exact ⟨_, by simp [binOp, Op.shift, h0], .int _ _⟩
      case shr => split at h
                  · cases h
                  · rename_i h0; cases h; exact ⟨_, by simp [binOp, Op.shift, h0], .int _ _⟩
      case and => cases h; exact ⟨_, by simp [binOp, Op.intBits], .int _ _⟩
      case or => cases h; exact ⟨_, by simp [binOp, Op.intBits], .int _ _⟩
      all_goals (subst h; first | exact ⟨_, by simp [binOp, Op.intArith], .int _ _⟩ | exact ⟨_, by simp [binOp, Op.intCmp], .bool _⟩)
    · cases h
  · rename_i sa sb
    cases hx; cases hy
    have hg : (eqGuard op t ox oy (.string sa) (.string sb)).run P w = .ok () w := by cases op <;> simp [eqGuard]
    simp only [Sem.run_bind, hg, Result.andThen_ok]
    split at h
    · split at h
      · cases h
      · rename_i hsz
        cases h
        refine ⟨.string ⟨⟨sa.data.toList ++ sb.data.toList⟩⟩, ?_, .str _⟩
        have e : sa ++ sb = ⟨⟨sa.data.toList ++ sb.data.toList⟩⟩ := by
          apply ByteArray.ext
          apply Array.toList_inj.1
          simp
        rw [← e]
        have hm : IntKind.i64.max = 9223372036854775807 := by decide
        rw [hm] at hsz
        simp only [binOp_string_add, Op.stringOp, hm, if_neg hsz, Sem.run_pure]
    · cases h; exact ⟨_, by simp [binOp_string_eql, ByteArray.toList_eq], .bool _⟩
    · cases h; exact ⟨_, by simp [binOp_string_neq, ByteArray.toList_eq], .bool _⟩
    · cases h
  · rename_i xs ys
    split at h
    · rename_i hc
      have hcmp : P.eqGuardType P.depth t = false := by
        unfold cmpOk at hc
        split at hc
        · rename_i T hT
          obtain ⟨d', i, z, hd, hi, hz, rfl⟩ := tinfo_spec hT
          simpa using hc
        · cases hc
      obtain ⟨vs, rfl, hv1, hv2⟩ := hx.agg_inv
      obtain ⟨us, rfl, hu1, hu2⟩ := hy.agg_inv
      split at h
      · cases he : aeqT P 6 t (.agg xs) (.agg ys) with
        | none => rw [he] at h; cases h
        | some r0 =>
          rw [he] at h; cases h
          have := aeqT_sound 6 10000 (by omega) t _ _ _ _ _ he hx hy
          exact ⟨_, by simp only [Sem.run_bind, run_eqGuard_agg w _ t ox oy vs us hcmp, Result.andThen_ok, run_eql_struct, this], .bool _⟩
      · cases he : aeqT P 6 t (.agg xs) (.agg ys) with
        | none => rw [he] at h; cases h
        | some r0 =>
          rw [he] at h; cases h
          have := aeqT_sound 6 10000 (by omega) t _ _ _ _ _ he hx hy
          exact ⟨_, by simp only [Sem.run_bind, run_eqGuard_agg w _ t ox oy vs us hcmp, Result.andThen_ok, run_neq_struct, this], .bool _⟩
      · cases h
    · cases h
  · rename_i hni hns hna
    have key : ∀ r0, aeqT P 6 t x y = some r0 → (∀ op', (eqGuard op' t ox oy a b).run P w = .ok () w) ∧
        (binOp .eql t a b).run P w = .ok (.bool r0) w ∧ (binOp .neq t a b).run P w = .ok (.bool !r0) w := by
      intro r0 he
      have heq := aeqT_sound 6 10000 (by omega) t _ _ _ _ _ he hx hy
      have he' := he
      rw [aeqT] at he'
      split at he'
      · cases he'
      · split at he' <;> first
          | (cases he'; done)
          | (exact absurd rfl (hni _ _ _ _ rfl))
          | (exact absurd rfl (hns _ _ rfl))
          | (exact absurd rfl (hna _ _ rfl))
          | (cases hx; cases hy; refine ⟨fun op' => by cases op' <;> simp [eqGuard], by simp [binOp, Op.equal, Op.maxDepth, heq], by simp [binOp, Op.equal, Op.maxDepth, heq]⟩)
    split at h
    · cases he : aeqT P 6 t x y with
      | none => rw [he] at h; cases h
      | some r0 =>
        rw [he] at h; cases h
        obtain ⟨h1, h2, h3⟩ := key r0 he
        exact ⟨_, by simp only [Sem.run_bind, h1, Result.andThen_ok, h2], .bool _⟩
    · cases he : aeqT P 6 t x y with
      | none => rw [he] at h; cases h
      | some r0 =>
        rw [he] at h; cases h
        obtain ⟨h1, h2, h3⟩ := key r0 he
        exact ⟨_, by simp only [Sem.run_bind, h1, Result.andThen_ok, h3], .bool _⟩
    · cases h

theorem sound_unOp {op : UnOp} {x r : AV} {a : Value} (hr : HRel κ N H w) (hx : VRel κ (avoid κ N H) w x a) (h : aun op x = some r) :
    Sound P (do pure (.value (← Op.unary op a))) N κ H w ⟨r, []⟩ id := by
  refine .same hr ?_
  unfold aun at h
  split at h
  · cases h; cases hx; exact ⟨_, by simp [Op.unary, Op.intArith], .int _ _⟩
  · cases h; cases hx; exact ⟨_, by simp [Op.unary], .bool _⟩
  · cases h
end
end Go.Am
/-
  'aval' IS FOLLOWED BY THE MODEL's RUN: built-in functions, slices of slices.
-/
namespace Go.Am

section
variable {P : Program} {N : Nat → Prop} {κ : Nat → Option Nat} {H : AHeap} {w : World} {id : Nat}

theorem mapElem {t : TypeId} {T : TI} (hT : tinfo P t = some T) {k v : TypeId} (hs : T.td = .map k v) : P.underlying t = some (.map k v) := by
  obtain ⟨d, i, z, hd, hi, hz, rfl⟩ := tinfo_spec hT
  cases d with
  | map a b => simp [tdOf] at hs; rw [hd]; simp [hs]
  | _ => simp [tdOf] at hs
theorem strType {t : TypeId} {T : TI} (hT : tinfo P t = some T) (hs : T.td = .str) : P.underlying t = some .string := by
  obtain ⟨d, i, z, hd, hi, hz, rfl⟩ := tinfo_spec hT
  cases d <;> simp [tdOf] at hs
  exact hd

theorem sound_len {ts : Array TypeId} {t ty : TypeId} {x y : AV} {a : Value} (hts : ts[0]? = some t) (hr : HRel κ N H w) (hx : VRel κ (avoid κ N H) w x a) (h : aLen P (hget H) t x = some y) :
    Sound P (do pure (.value (← Builtin.len_ ts ty #[a]))) N κ H w ⟨y, []⟩ id := by
  refine .same hr ?_
  unfold aLen at h
  split at h
  · rename_i T hT
    split at h
    all_goals try (rename_i hk; cases h)
    · cases hx; exact ⟨_, by simp [Builtin.len_, hts, underlying, strType hT hk, goInt], .int _ _⟩
    · exact ⟨_, by simp [Builtin.len_, hts, underlying, arrElem hT hk, goInt], .int _ _⟩
    · cases hx; exact ⟨_, by simp [Builtin.len_, hts, underlying, sliceElem hT hk, goInt], .int _ _⟩
    · cases hx; exact ⟨_, by simp [Builtin.len_, hts, underlying, sliceElem hT hk, goInt], .int _ _⟩
    · cases hx <;> exact ⟨_, by simp [Builtin.len_, hts, underlying, sliceElem hT hk, goInt], .int _ _⟩
    · cases hx; exact ⟨_, by simp [Builtin.len_, hts, underlying, mapElem hT hk, goInt], .int _ _⟩
    · cases hx with
      | imap _ r ents clk uk uv hav hrr hsz hu hkv hvv =>
        refine ⟨.int .i64 ents.size, ?_, by rw [hsz]; exact .int _ _⟩
        simp [Builtin.len_, hts, underlying, mapElem hT hk, goInt, getObj, Sem.run, hrr]
    · rename_i hk
      split at h
      · rename_i es hi
        cases h
        obtain ⟨r, ents, clk, h1, h2, h3, _⟩ := hr.rel _ _ hi
        cases hx with
        | mref _ r' hk' =>
          rw [h1] at hk'; cases hk'
          refine ⟨.int .i64 ents.size, ?_, by rw [h3]; exact .int _ _⟩
          simp [Builtin.len_, hts, underlying, mapElem hT hk, goInt, getObj, Sem.run, h2]
      · cases h
  · cases h

theorem sound_min {ts : Array TypeId} {ty : TypeId} {xs : List AV} {x y : AV} {as : List Value} {a : Value} (hr : HRel κ N H w) (hx : VRel κ (avoid κ N H) w x a) (hxs : CRel κ (avoid κ N H) w xs as.toArray) (h : foldO amin2 x xs = some y) :
    Sound P (do pure (.value (← Builtin.min_ ts ty (a :: as).toArray))) N κ H w ⟨y, []⟩ id := by
  refine .same hr ?_
  simp only [Builtin.min_]
  obtain ⟨h1, h2⟩ := hxs
  clear hr
  induction xs generalizing x a as with
  | nil =>
    have : as = [] := by simpa using h1
    subst this
    simp only [foldO, Option.some.injEq] at h; subst h
    exact ⟨a, rfl, hx⟩
  | cons z zs ih =>
    cases as with
    | nil => simp at h1
    | cons b bs =>
      simp only [foldO] at h
      split at h
      · rename_i q hq
        unfold amin2 at hq
        split at hq
        · cases hq
          cases hx
          obtain ⟨u, hu, hur⟩ := h2 0 _ rfl
          simp at hu; subst hu
          cases hur
          obtain ⟨v, hv, hvr⟩ := ih (a := .int _ _) (as := bs) (.int _ _) h (by simpa using h1) (fun i c hi => by simpa using h2 (i + 1) c (by simpa using hi))
          refine ⟨v, ?_, hvr⟩
          simp only [List.foldlM_cons, Builtin.min2, Sem.run_bind, Sem.run_pure, Result.andThen_ok] at hv ⊢
          exact hv
        · cases hq
      · cases h
theorem sound_max {ts : Array TypeId} {ty : TypeId} {xs : List AV} {x y : AV} {as : List Value} {a : Value} (hr : HRel κ N H w) (hx : VRel κ (avoid κ N H) w x a) (hxs : CRel κ (avoid κ N H) w xs as.toArray) (h : foldO amax2 x xs = some y) :
    Sound P (do pure (.value (← Builtin.max_ ts ty (a :: as).toArray))) N κ H w ⟨y, []⟩ id := by
  refine .same hr ?_
  simp only [Builtin.max_]
  obtain ⟨h1, h2⟩ := hxs
  clear hr
  induction xs generalizing x a as with
  | nil =>
    have : as = [] := by simpa using h1
    subst this
    simp only [foldO, Option.some.injEq] at h; subst h
    exact ⟨a, rfl, hx⟩
  | cons z zs ih =>
    cases as with
    | nil => simp at h1
    | cons b bs =>
      simp only [foldO] at h
      split at h
      · rename_i q hq
        unfold amax2 at hq
        split at hq
        · cases hq
          cases hx
          obtain ⟨u, hu, hur⟩ := h2 0 _ rfl
          simp at hu; subst hu
          cases hur
          obtain ⟨v, hv, hvr⟩ := ih (a := .int _ _) (as := bs) (.int _ _) h (by simpa using h1) (fun i c hi => by simpa using h2 (i + 1) c (by simpa using hi))
          refine ⟨v, ?_, hvr⟩
          simp only [List.foldlM_cons, Builtin.max2, Sem.run_bind, Sem.run_pure, Result.andThen_ok] at hv ⊢
          exact hv
        · cases hq
      · cases h

/-- An object gets a new number. -/
theorem Step.rename (hr : HRel κ N H w) {i : Nat} {o : AObj} (hi : hget H i = some o) (hid : Fresh κ H id) : Step N κ H w (withNew κ id (κ i)) (hset (herase H i) id o) w := by
  have hne : id ≠ i := by intro e; subst e; rw [hid.2] at hi; cases hi
  have hg : ∀ j p, hget (hset (herase H i) id o) j = some p → (j = id ∧ p = o) ∨ (j ≠ id ∧ j ≠ i ∧ hget H j = some p) := by
    intro j p hj
    rw [hget_hset] at hj
    by_cases e : id = j
    · rw [if_pos e] at hj; cases hj; exact .inl ⟨e.symm, rfl⟩
    · rw [if_neg e, hget_herase] at hj
      by_cases e2 : i = j
      · rw [if_pos e2] at hj; cases hj
      · rw [if_neg e2] at hj; exact .inr ⟨Ne.symm e, Ne.symm e2, hj⟩
  have hown : ∀ b, owned (withNew κ id (κ i)) (hset (herase H i) id o) b → owned κ H b := by
    rintro b ⟨j, p, hj, hb⟩
    rcases hg j p hj with ⟨rfl, rfl⟩ | ⟨h1, h2, h3⟩
    · rw [withNew_new] at hb; exact ⟨i, _, hi, hb⟩
    · rw [withNew_old h1] at hb; exact ⟨j, p, h3, hb⟩
  have hav : ∀ b, avoid (withNew κ id (κ i)) N (hset (herase H i) id o) b → avoid κ N H b := fun b hb => hb.imp (fun h => h) (hown b)
  refine .mk' hr (withNew_ext hid.1) (.refl w) (fun _ _ _ => rfl) (fun b hb => .inl (hown b hb)) ?_ ?_ ?_
  · intro j b hb
    by_cases e : j = id
    · subst e; rw [withNew_new] at hb; exact hr.bd _ _ hb
    · rw [withNew_old e] at hb; exact hr.bd _ _ hb
  · intro j j' b p p' hj hj' hb hb'
    rcases hg j p hj with ⟨e1, e2⟩ | ⟨h1, h2, h3⟩ <;> rcases hg j' p' hj' with ⟨e1', e2'⟩ | ⟨h1', h2', h3'⟩
    · rw [e1, e1']
    · subst e1; rw [withNew_new] at hb; rw [withNew_old h1'] at hb'
      exact absurd (hr.inj _ _ _ _ _ hi h3' hb hb') (Ne.symm h2')
    · subst e1'; rw [withNew_new] at hb'; rw [withNew_old h1] at hb
      exact absurd (hr.inj _ _ _ _ _ h3 hi hb hb') h2
    · rw [withNew_old h1] at hb; rw [withNew_old h1'] at hb'
      exact hr.inj _ _ _ _ _ h3 h3' hb hb'
  · intro j p hj
    rcases hg j p hj with ⟨rfl, rfl⟩ | ⟨h1, h2, h3⟩
    · right
      have hv : ∀ a v, VRel κ (avoid κ N H) w a v → VRel (withNew κ j (κ i)) (avoid (withNew κ j (κ i)) N (hset (herase H i) j p)) w a v :=
        fun a v h => h.mono (withNew_ext hid.1) (.refl w) (fun b _ hb => hav b hb) (fun _ _ _ => rfl)
      have h0 := hr.rel i p hi
      cases p with
      | cells cs =>
        rcases h0 with ⟨h1, h2⟩ | ⟨blk, c, e, h1, h2, h3, h4⟩
        · exact Or.inl ⟨h1, by rw [withNew_new]; exact h2⟩
        · exact Or.inr ⟨blk, c, e, by rw [withNew_new]; exact h1, h2, h3, fun k x hk => by obtain ⟨v, hv1, hv2⟩ := h4 k x hk; exact ⟨v, hv1, hv _ _ hv2⟩⟩
      | map es =>
        obtain ⟨r, ents, clk, h1, h2, h3, h4⟩ := h0
        exact ⟨r, ents, clk, by rw [withNew_new]; exact h1, h2, h3, fun k e hk => by obtain ⟨m, hm1, hm2, hm3⟩ := h4 k e hk; exact ⟨m, hm1, hv _ _ hm2, hv _ _ hm3⟩⟩
      | loop L =>
        obtain ⟨r, R, h1, h2, h3⟩ := h0
        exact ⟨r, R, by rw [withNew_new]; exact h1, h2, h3.1, h3.2.1, h3.2.2.1, h3.2.2.2.1, h3.2.2.2.2.1, h3.2.2.2.2.2.1, fun t => hv _ _ (h3.2.2.2.2.2.2 t)⟩
    · exact .inl ⟨h3, fun h => by rw [withNew_old h1]; exact h, fun _ _ => rfl⟩

/-- A cell behind those that are known. -/
theorem Step.push (hr : HRel κ N H w) {blk : Nat} {cs : List AV} (ho : hget H id = some (.cells cs)) (hk : κ id = some blk) {c : Array Value} {e : TypeId} (hb : w.heap[blk]? = some (.cells c e (0, 0))) (hlt : cs.length < c.size)
    {x : AV} {v : Value} (hv : VRel κ (avoid κ N H) w x v) : Step N κ H w κ (hset H id (.cells (cs ++ [x]))) (w.setCell ⟨blk, cs.length, none⟩ v) := by
  refine .turn hr ho hk (.setCell w _ v) (fun b hb => setCell_heap_ne w _ _ _ _ hb) (by simp) _ fun up => Or.inr ⟨blk, _, e, hk, setCell_heap w _ _ v hb, by simp; omega, fun i y hy => ?_⟩
  rw [List.getElem?_append] at hy
  split at hy
  · rename_i hi
    rcases hr.rel id _ ho with ⟨h1, _⟩ | ⟨blk', c', e', h1, h2, h3, h4⟩
    · subst h1; simp at hi
    · rw [hk] at h1; cases h1
      rw [hb] at h2; cases h2
      obtain ⟨u, hu, hur⟩ := h4 i y hy
      exact ⟨u, by rw [Array.getElem?_setIfInBounds_ne (by omega)]; exact hu, up _ _ hur⟩
  · rename_i hi
    have : i = cs.length := by
      rcases Nat.lt_or_ge i (cs.length + 1) with h | h
      · omega
      · rw [List.getElem?_eq_none (by simp; omega)] at hy; cases hy
    subst this
    simp at hy; subst hy
    exact ⟨v, by rw [Array.getElem?_setIfInBounds_self_of_lt (by omega)], up _ _ hv⟩

theorem hset_self {H : AHeap} {id : Nat} {o : AObj} (h : hget H id = some o) (j : Nat) : hget (hset H id o) j = hget H j := by
  rw [hget_hset]; split
  · rename_i e; subst e; exact h.symm
  · rfl
theorem HRel.congr {H' : AHeap} (hr : HRel κ N H w) (he : ∀ j, hget H' j = hget H j) : HRel κ N H' w := by
  have hown : owned κ H' = owned κ H := by funext b; unfold owned; simp only [he]
  have hav : avoid κ N H' = avoid κ N H := by funext b; unfold avoid; rw [hown]
  exact ⟨fun i o ho => by rw [hav]; exact hr.rel i o (by rw [← he]; exact ho), fun i i' b o o' h1 h2 => hr.inj i i' b o o' (by rw [← he]; exact h1) (by rw [← he]; exact h2), hr.bd, hr.Nbd, fun b hb => by rw [hown]; exact hr.NH b hb⟩
theorem Step.self {o : AObj} (hr : HRel κ N H w) (h : hget H id = some o) : Step N κ H w κ (hset H id o) w :=
  ⟨fun _ _ h => h, .refl w, fun _ _ _ => rfl, fun b ⟨j, p, hj, hb⟩ => .inl ⟨j, p, by rw [hset_self h] at hj; exact hj, hb⟩, hr.congr (hset_self h)⟩

/-- Cells are stored behind those that are known. -/
theorem run_storeExt {blk : Nat} (hk : κ id = some blk) : ∀ (xs : List AV) (vs : List Value) (H : AHeap) (w : World) (cs : List AV) (a : Addr) (i : Nat), a.block = blk → (∀ j, a.add (i + j) = ⟨blk, cs.length + j, none⟩) → HRel κ N H w → hget H id = some (.cells cs) →
    (∃ c e, w.heap[blk]? = some (.cells c e (0, 0)) ∧ cs.length + xs.length ≤ c.size) → (∀ x ∈ xs, cellB x = true) → vs.length = xs.length →
    (∀ (j : Nat) (x : AV), xs[j]? = some x → ∃ v, vs[j]? = some v ∧ VRel κ (avoid κ N H) w x v) →
    ∃ w', (storeCells a vs i).run P w = .ok () w' ∧ Step N κ H w κ (hset H id (.cells (cs ++ xs))) w' := by
  intro xs
  induction xs with
  | nil =>
    intro vs H w cs a i _ _ hr ho _ _ hl _
    have : vs = [] := by simpa using hl
    subst this
    exact ⟨w, rfl, by rw [List.append_nil]; exact .self hr ho⟩
  | cons x xs ih =>
    intro vs H w cs a i hab hadd hr ho hb hB hl hv
    cases vs with
    | nil => simp at hl
    | cons v vs =>
      obtain ⟨c, e, hblk, hsz⟩ := hb
      simp only [List.length_cons] at hsz hl
      have hv0 : VRel κ (avoid κ N H) w x v := by obtain ⟨u, hu, h⟩ := hv 0 x rfl; simp at hu; subst hu; exact h
      have st := Step.push hr ho hk hblk (by omega) hv0
      have ha0 : a.add i = ⟨blk, cs.length, none⟩ := by simpa using hadd 0
      have hcell : ∃ u, w.cell? ⟨blk, cs.length, none⟩ = some u := by
        simp only [World.cell?, hblk]
        exact ⟨c[cs.length]'(by omega), by simp⟩
      obtain ⟨u, hu⟩ := hcell
      have hfz : w.frozen? ⟨blk, cs.length, none⟩ = false := by simp [World.frozen?, hblk]
      obtain ⟨w', h1, h2⟩ := ih vs (hset H id (.cells (cs ++ [x]))) (w.setCell ⟨blk, cs.length, none⟩ v) (cs ++ [x]) a (i + 1) hab (fun j => by
          have := hadd (j + 1); rw [show i + 1 + j = i + (j + 1) from by omega, this]; simp; omega) st.hrel
        (by rw [hget_hset, if_pos rfl]) ⟨_, e, setCell_heap w _ _ v hblk, by simp; omega⟩ (fun y hy => hB y (List.mem_cons_of_mem _ hy)) (by omega)
        (fun j y hy => by obtain ⟨u, hu, h⟩ := hv (j + 1) y (by simpa using hy); exact ⟨u, by simpa using hu, st.v h⟩)
      refine ⟨w', ?_, ?_⟩
      · simp only [storeCells, Sem.run_bind, ha0]
        rw [run_store P w _ v .plain (cellB_one hv0 (hB x List.mem_cons_self)), hu]
        simp only [hfz, Bool.false_eq_true, if_false, Result.andThen_ok]
        exact h1
      · have := st.trans h2
        rw [hset_hset, List.append_assoc] at this
        exact this


/-- The cells of a source, read off memory. -/
theorem run_srcCells (hr : HRel κ N H w) {size n : Nat} {x : AV} {a : Value} {new : List AV} (hx : VRel κ (avoid κ N H) w x a) (h : srcCells (hget H) size x = some (new, n)) :
    (Builtin.lenOf a).run P w = .ok n w ∧ ∃ vs, (Builtin.firstCells size n a).run P w = .ok vs w ∧ CRel κ (avoid κ N H) w new vs ∧ new.length = n * size := by
  unfold srcCells at h
  split at h
  · cases h; cases hx; exact ⟨rfl, #[], rfl, ⟨rfl, fun i c hi => by simp at hi⟩, by simp⟩
  · rename_i esz ys
    split at h
    · rename_i hc
      obtain ⟨rfl, hall⟩ := hc
      cases h
      have hlen : ∀ y ∈ ys, y.length = esz := fun y hy => by simpa using List.all_eq_true.1 hall y hy
      have hfl : ys.flatten.length = ys.length * esz := by
        rw [List.length_flatten]
        clear hx hall
        induction ys with
        | nil => simp
        | cons y ys ih => simp only [List.map_cons, List.sum_cons, List.length_cons, ih (fun z hz => hlen z (List.mem_cons_of_mem _ hz)), hlen y List.mem_cons_self, Nat.succ_mul]; omega
      have hget : ∀ (ys : List (List AV)), (∀ y ∈ ys, y.length = esz) → ∀ (m : Nat) (c : AV), ys.flatten[m]? = some c → ∃ x, ys[m / esz]? = some x ∧ x[m % esz]? = some c := by
        intro ys
        induction ys with
        | nil => intro _ m c hm; simp at hm
        | cons y ys ih =>
          intro hl m c hm
          have hy := hl y List.mem_cons_self
          rw [List.flatten_cons, List.getElem?_append, hy] at hm
          split at hm
          · rename_i hlt
            exact ⟨y, by rw [Nat.div_eq_of_lt hlt]; rfl, by rw [Nat.mod_eq_of_lt hlt]; exact hm⟩
          · rename_i hge
            have hpos : 0 < esz := by
              rcases Nat.eq_zero_or_pos esz with h0 | h0
              · exfalso
                have : ys.flatten = [] := by
                  rw [List.flatten_eq_nil_iff]; intro z hz
                  have := hl z (List.mem_cons_of_mem _ hz); rw [h0] at this; exact List.eq_nil_of_length_eq_zero this
                rw [this] at hm; simp at hm
              · exact h0
            obtain ⟨x, h1, h2⟩ := ih (fun z hz => hl z (List.mem_cons_of_mem _ hz)) _ _ hm
            refine ⟨x, ?_, ?_⟩
            · rw [show m / esz = (m - esz) / esz + 1 from by rw [Nat.div_eq_sub_div hpos (by omega)]]
              simpa using h1
            · rw [Nat.mod_eq_sub_mod (by omega)]; exact h2
      cases hx with
      | lst _ _ base cap u hb _ hc hv =>
        refine ⟨rfl, ?_⟩
        cases base with
        | none => rw [hb rfl]; exact ⟨#[], rfl, ⟨rfl, fun i c hi => by simp at hi⟩, by simp⟩
        | some b =>
          have hcell : CellsAt κ (avoid κ N H) w b ys.flatten := by
            intro m c hm
            obtain ⟨x, h1, h2⟩ := hget ys hlen m c hm
            obtain ⟨b', hb', _, h3⟩ := hc _ _ h1 _ _ h2
            cases hb'
            refine ⟨_, ?_, (hv _ _ h1 _ _ h2).up⟩
            rw [← h3]
            have : m / esz * esz + m % esz = m := Nat.div_add_mod' m esz
            rw [this]
          obtain ⟨vs, h1, h2, h3⟩ := run_loadCells (P := P) hcell (ys.length * esz) (by omega)
          rw [← hfl, List.take_length] at h3
          exact ⟨vs, by simpa [Builtin.firstCells] using h1, ⟨by rw [h2, hfl], h3⟩, hfl⟩
    · cases h
  · rename_i j off len esz
    split at h
    · rename_i cs hj
      split at h
      · rename_i hc
        obtain ⟨rfl, hle⟩ := hc
        cases h
        have hnl : ((cs.drop off).take (n * esz)).length = n * esz := by simp; omega
        cases hx with
        | rsl0 => refine ⟨rfl, ?_⟩
                  rename_i base
                  refine ⟨#[], ?_, ⟨by simp, fun i c hi => by simp at hi⟩, hnl⟩
                  cases base <;> simp [Builtin.firstCells, loadCells, loadCellsFrom]
        | rsl _ _ _ _ cap blk c e f hk hl hb hcap =>
          refine ⟨rfl, ?_⟩
          obtain ⟨vs, h1, h2, h3⟩ := run_loadCells (P := P) (owned_cells hr hj hk (off := off)) (n * esz) (by simp; omega)
          exact ⟨vs, by simpa [Builtin.firstCells] using h1, ⟨by rw [h2, hnl], h3⟩, hnl⟩
      · cases h
    · cases h
  · cases h

theorem growBy_le (m : Nat) : ∀ r c, c ≤ m → Builtin.growBy m r c ≤ 2 * m + 1000 := by
  intro r
  induction r with
  | zero => intro c hc; simp [Builtin.growBy]; omega
  | succ r ih =>
    intro c hc
    simp only [Builtin.growBy]
    split
    · omega
    · by_cases h : c + (c + 768) / 4 ≤ m
      · exact ih _ h
      · cases r with
        | zero => simp [Builtin.growBy]; omega
        | succ r => simp only [Builtin.growBy]; rw [if_pos (by omega)]; omega
theorem nextcap_le (need old : Nat) (h : old < need) : Builtin.nextslicecap need old ≤ 2 * need + 1000 := by
  unfold Builtin.nextslicecap
  split
  · omega
  · split
    · omega
    · exact growBy_le need 4 old (by omega)

theorem CRel.append {av : Nat → Prop} {xs ys : List AV} {p q : Array Value} (h1 : CRel κ av w xs p) (h2 : CRel κ av w ys q) : CRel κ av w (xs ++ ys) (p ++ q) := by
  refine ⟨by simp [h1.1, h2.1], fun i c hi => ?_⟩
  rw [List.getElem?_append] at hi
  rw [Array.getElem?_append, h1.1]
  split at hi
  · rename_i hlt; rw [if_pos hlt]; exact h1.2 i c hi
  · rename_i hlt; rw [if_neg hlt]; exact h2.2 _ c hi

/-- The way on which a new array is made. -/
theorem run_grow {e : TypeId} {E : TI} {a b : Value} {base : Option Addr} {sLen sCap n : Nat} {olds vs : Array Value} (hE : tinfo P e = some E) (hb1 : 0 < E.bytes) (hb2 : E.bytes ≤ 1048576) (hz : E.zero.length = E.size)
    (hbig : (sLen + n) * E.bytes ≤ 1099511627776) (hlt : ¬ sLen + n ≤ sCap) (hold : (Builtin.firstCells E.size sLen a).run P (w.drew) = .ok olds w.drew) (hnew : (Builtin.firstCells E.size n b).run P w.drew = .ok vs w.drew)
    (hos : olds.size = sLen * E.size) (hvs : vs.size = n * E.size) :
    ∃ (cap : Nat) (rest : Array Value), sLen + n ≤ cap ∧ (olds ++ vs ++ rest).size = cap * E.size ∧ ((do
                if ((sLen + n : Nat) : Int) > IntKind.i64.max ∧ ((false = true) ∨ (← typeInfo e).bytes = 0) then runtimePanic (.error "growslice: len out of range")
                if Builtin.nextslicecap (sLen + n) sCap * (← typeInfo e).bytes > 2 ^ 48 then (if false = true then runtimePanic (.error "growslice: len out of range") else do
                  if !(← Builtin.mayShare E.size sLen n base b) then mark .noRoom
                  unsupported (.resourceLimit "append: a slice or a string whose bytes no memory bears"))
                let newCap ← choose (.appendCap (sLen + n) sCap e)
                askRoom (newCap * (← typeInfo e).bytes)
                let old ← Builtin.firstCells E.size sLen a
                let new ← Builtin.firstCells E.size n b
                let rest := Builtin.zeroCells (← zeroValue e).cells (newCap - (sLen + n))
                pure (.slice (some (← newRow e (old ++ new ++ rest))) (sLen + n) newCap) : Sem Value)).run P w = .ok (.slice (some ⟨w.heap.size, 0, none⟩) (sLen + n) cap) (w.drew.alloc (.cells (olds ++ vs ++ rest) e)) := by
  obtain ⟨Ei, hEi, hEs, hEb⟩ := run_typeInfo hE w
  obtain ⟨Ej, hEj, _, hEjb⟩ := run_typeInfo hE w.drew
  obtain ⟨z, hz1, hz2⟩ := run_zeroValue hE w.drew
  have hnc := nextcap_le (sLen + n) sCap (by omega)
  have hsmall : ¬ Builtin.nextslicecap (sLen + n) sCap * E.bytes > 2 ^ 48 := by
    have h1 : Builtin.nextslicecap (sLen + n) sCap * E.bytes ≤ (2 * (sLen + n) + 1000) * E.bytes := Nat.mul_le_mul_right _ hnc
    have h2 : (2 * (sLen + n) + 1000) * E.bytes = 2 * ((sLen + n) * E.bytes) + 1000 * E.bytes := by rw [Nat.add_mul, Nat.mul_assoc]
    omega
  have hcut : ∃ cap, (Question.appendCap (sLen + n) sCap e).cut (w.tape w.drawn (.appendCap (sLen + n) sCap e)) = cap ∧ sLen + n ≤ cap := ⟨_, rfl, by simp [Question.cut]⟩
  obtain ⟨cap, hcap, hle⟩ := hcut
  have hzs : z.cells.size = E.size := by rw [← hz, ← hz2]; simp
  refine ⟨cap, Builtin.zeroCells z.cells (cap - (sLen + n)), hle, ?_, ?_⟩
  · simp only [Array.size_append, hos, hvs, Builtin.zeroCells, Array.size_map, Array.size_range, hzs]
    rw [← Nat.add_mul, ← Nat.add_mul]; congr 1; omega
  · simp only [Sem.run_bind, hEi, Result.andThen_ok, hEb]
    rw [Sem.run_ite, if_neg (by rintro ⟨_, h | h⟩ <;> first | cases h | omega)]
    simp only [Sem.run_bind, hEi, Result.andThen_ok, hEb]
    rw [Sem.run_ite, if_neg hsmall]
    simp only [Sem.run_bind, Sem.run_pure, Result.andThen_ok, run_choose, Question.forced, Bool.false_eq_true, if_false, World.drew_eq, hcap, hEj, run_askRoom, hold, hnew, hz1]
    first | (simp [newRow]; done) | (simp [newRow]; rfl)

theorem VRel.rsl_inv {av : Nat → Prop} {i off len esz : Nat} {v : Value} (h : VRel κ av w (.rsl i off len esz) v) :
    (∃ base, len = 0 ∧ v = .slice base 0 0) ∨ ∃ cap blk c e f, κ i = some blk ∧ len ≤ cap ∧ w.heap[blk]? = some (.cells c e f) ∧ off + cap * esz ≤ c.size ∧ v = .slice (some ⟨blk, off, none⟩) len cap := by
  cases h with
  | rsl0 => exact .inl ⟨_, rfl, rfl⟩
  | rsl _ _ _ _ cap blk c e f h hl hb hcap => exact .inr ⟨cap, blk, c, e, f, h, hl, hb, hcap, rfl⟩

theorem sound_append {tt : Array TypeId} {ts tx ty : TypeId} {s x : AV} {a b : Value} {out : Out} (h0 : tt[0]? = some ts) (h1 : tt[1]? = some tx) (hr : HRel κ N H w) (hid : Fresh κ H id)
    (hs : VRel κ (avoid κ N H) w s a) (hx : VRel κ (avoid κ N H) w x b) (h : aAppend P (hget H) id ts tx s x = some out) :
    Sound P (do pure (.value (← Builtin.append_ tt ty #[a, b]))) N κ H w out id := by
  unfold aAppend at h
  split at h
  · rename_i T X hT hX
    split at h
    · rename_i e e' hTd hXd
      split at h
      · rename_i E hE
        split at h
        · rename_i hcE
          obtain ⟨hb1, hb2, hzl⟩ := hcE
          split at h
          · rename_i new n hsrc
            obtain ⟨hlen, vs, hfc, hnew, hnl⟩ := run_srcCells (P := P) hr hx hsrc
            have std := Step.draw (w' := w.drew) hr rfl ⟨rfl, rfl, rfl⟩
            obtain ⟨_, vsd, hfcd, hnewd, _⟩ := run_srcCells (P := P) std.hrel (std.v hx) hsrc
            have head : ∀ (base : Option Addr) (sLen sCap : Nat), a = .slice base sLen sCap → (Builtin.append_ tt ty #[a, b]).run P w =
              if sLen + n ≤ sCap then ((do if let some ad := base then storeCells (ad.add (sLen * E.size)) vs.toList
                                           pure (Value.slice base (sLen + n) sCap) : Sem Value)).run P w
              else ((do
                if ((sLen + n : Nat) : Int) > IntKind.i64.max ∧ ((false = true) ∨ (← typeInfo e).bytes = 0) then runtimePanic (.error "growslice: len out of range")
                if Builtin.nextslicecap (sLen + n) sCap * (← typeInfo e).bytes > 2 ^ 48 then (if false = true then runtimePanic (.error "growslice: len out of range") else do
                  if !(← Builtin.mayShare E.size sLen n base b) then mark .noRoom
                  unsupported (.resourceLimit "append: a slice or a string whose bytes no memory bears"))
                let newCap ← choose (.appendCap (sLen + n) sCap e)
                askRoom (newCap * (← typeInfo e).bytes)
                let old ← Builtin.firstCells E.size sLen a
                let new ← Builtin.firstCells E.size n b
                let rest := Builtin.zeroCells (← zeroValue e).cells (newCap - (sLen + n))
                pure (.slice (some (← newRow e (old ++ new ++ rest))) (sLen + n) newCap) : Sem Value)).run P w := by
              intro base sLen sCap ha
              subst ha
              simp only [Builtin.append_, h0, h1, List.getElem?_toArray, List.getElem?_cons_zero, List.getElem?_cons_succ, Sem.run_bind, underlying, run_program, Result.andThen_ok, sliceElem hT hTd, sliceElem hX hXd, Sem.run_pure, run_sizeOf hE, Bool.false_eq_true, if_false, hlen, Bool.not_false, if_true]
              rw [Sem.run_ite]
              split
              · simp only [Sem.run_bind, hfc, Result.andThen_ok]
                cases base <;> rfl
              · simp only [Sem.run_bind]
            have fresh' : ∀ (i : Nat) (o : AObj) (κ' : Nat → Option Nat), (∀ j, j ≠ id → κ' j = κ j) → ∀ j, (j ≠ id ∨ [(i, (none : Option AObj)), (id, some o)] = []) → Fresh κ H j → Fresh κ' (hset (herase H i) id o) j := by
              intro i o κ' hk j hj hf
              have hj : j ≠ id := hj.resolve_right (by simp)
              refine ⟨(hk j hj).trans hf.1, ?_⟩
              rw [hget_hset, if_neg (Ne.symm hj), hget_herase]
              split
              · rfl
              · exact hf.2
            split at h
            · cases hs
              split at h
              · rename_i h00
                subst h00
                cases h
                refine .same hr ⟨.slice none 0 0, ?_, .nil⟩
                rw [head none 0 0 rfl, if_pos (by omega)]
                rfl
              · rename_i h00
                split at h
                · rename_i hbig
                  cases h
                  obtain ⟨cap, rest, hle, hsz, hrun⟩ := run_grow (P := P) (w := w) (a := .slice none 0 0) (b := b) (base := none) (sLen := 0) (sCap := 0) (n := n) (olds := #[]) (vs := vsd) hE hb1 hb2 hzl (by rw [Nat.zero_add]; exact hbig) (by omega) rfl hfcd (by simp) (by rw [hnewd.1, hnl])
                  have hrun' := (head none 0 0 rfl).trans ((if_neg (by omega)).trans hrun)
                  have st := Step.alloc std.hrel (id := id) hid (#[] ++ vsd ++ rest) e new (by simp [hnewd.1]) (fun i x hi => by
                    obtain ⟨u, hu, hur⟩ := hnewd.2 i x hi
                    have hlt : i < vsd.size := by
                      rcases Nat.lt_or_ge i vsd.size with h | h
                      · exact h
                      · rw [Array.getElem?_eq_none h] at hu; cases hu
                    exact ⟨u, by simp only [Array.empty_append]; rw [Array.getElem?_append, if_pos hlt]; exact hu, hur⟩)
                  refine ⟨_, _, .slice (some ⟨w.heap.size, 0, none⟩) (0 + n) cap, .inl (by simp only [Sem.run_bind, hrun', Result.andThen_ok, Sem.run_pure]), std.trans st, ?_, fun j hj hf => ?_⟩
                  · have := VR.rsl (κ := withNew κ id (some w.drew.heap.size)) (av := avoid (withNew κ id (some w.drew.heap.size)) N (hset H id (.cells new))) (w := w.drew.alloc (.cells (#[] ++ vsd ++ rest) e)) id 0 (0 + n) E.size cap w.heap.size (#[] ++ vsd ++ rest) e (0, 0) withNew_new hle (alloc_new w.drew _) (by rw [hsz]; omega)
                    rw [Nat.zero_add] at this ⊢
                    exact this
                  · have hj : j ≠ id := hj.resolve_right (by simp)
                    exact ⟨by rw [withNew_old hj]; exact hf.1, by show hget (hset H id _) j = none; rw [hget_hset, if_neg (Ne.symm hj)]; exact hf.2⟩
                · cases h
            · rename_i i len esz
              split at h
              · rename_i cs hi
                split at h
                · rename_i hc
                  obtain ⟨rfl, hcl, hB, hbig⟩ := hc
                  cases h
                  -- the old cells
                  have hold : ∀ (w' : World), HRel κ N H w' → VRel κ (avoid κ N H) w' (.rsl i 0 len E.size) a → ∃ olds, (Builtin.firstCells E.size len a).run P w' = .ok olds w' ∧ CRel κ (avoid κ N H) w' cs olds := by
                    intro w' hr' hs'
                    cases hs' with
                    | rsl0 _ _ _ base =>
                      have : cs = [] := by simpa using hcl
                      subst this
                      refine ⟨#[], ?_, ⟨rfl, fun i c hi => by simp at hi⟩⟩
                      cases base <;> simp [Builtin.firstCells, loadCells, loadCellsFrom]
                    | rsl _ _ _ _ cap blk c e' f hk hl hb hcap =>
                      obtain ⟨os, g1, g2, g3⟩ := run_loadCells (P := P) (owned_cells hr' hi hk (off := 0)) (len * E.size) (by simp [hcl])
                      rw [List.drop_zero, ← hcl, List.take_length] at g3
                      exact ⟨os, by simpa [Builtin.firstCells] using g1, ⟨by rw [g2, hcl], g3⟩⟩
                  have grow : ∀ (base : Option Addr) (sCap : Nat), a = .slice base len sCap → ¬ len + n ≤ sCap → Sound P (do pure (.value (← Builtin.append_ tt ty #[a, b]))) N κ H w ⟨.rsl id 0 (len + n) E.size, [(i, none), (id, some (.cells (cs ++ new)))]⟩ id := by
                    intro base sCap ha hgt
                    obtain ⟨olds, hol, hoc⟩ := hold w.drew std.hrel (std.v hs)
                    obtain ⟨cap, rest, hle, hsz, hrun⟩ := run_grow (P := P) (w := w) (a := a) (b := b) (base := base) (sLen := len) (sCap := sCap) (n := n) (olds := olds) (vs := vsd) hE hb1 hb2 hzl hbig hgt hol hfcd (by rw [hoc.1, hcl]) (by rw [hnewd.1, hnl])
                    have hrun' := (head base len sCap ha).trans ((if_neg hgt).trans hrun)
                    have sdr := Step.drop std.hrel (herase H i) (fun j o hj => by rw [hget_herase] at hj; split at hj <;> first | cases hj | exact hj)
                    have hcr := hoc.append hnewd
                    have st := Step.alloc sdr.hrel (id := id) ⟨hid.1, by rw [hget_herase]; split <;> first | rfl | exact hid.2⟩ (olds ++ vsd ++ rest) e (cs ++ new) (by have := hcr.1; simp only [Array.size_append] at this ⊢; omega) (fun j x hj => by
                      obtain ⟨u, hu, hur⟩ := hcr.2 j x hj
                      have hlt : j < (olds ++ vsd).size := by
                        rcases Nat.lt_or_ge j (olds ++ vsd).size with h | h
                        · exact h
                        · rw [Array.getElem?_eq_none h] at hu; cases hu
                      exact ⟨u, by rw [Array.getElem?_append, if_pos hlt]; exact hu, sdr.v hur⟩)
                    refine ⟨_, _, .slice (some ⟨w.heap.size, 0, none⟩) (len + n) cap, .inl (by simp only [Sem.run_bind, hrun', Result.andThen_ok, Sem.run_pure]), (std.trans sdr).trans st, ?_, fresh' i _ _ (fun j hj => withNew_old hj)⟩
                    exact .rsl id 0 (len + n) E.size cap w.heap.size _ e (0, 0) withNew_new hle (alloc_new w.drew _) (by rw [hsz]; omega)
                  rcases hs.rsl_inv with ⟨base, rfl, rfl⟩ | ⟨cap, blk, c, e', f, hk, hl, hb, hcap, rfl⟩
                  · clear hold
                    by_cases hle : 0 + n ≤ 0
                    · have hn0 : n = 0 := by omega
                      subst hn0
                      have hnil : new = [] := by simpa using hnl
                      subst hnil
                      have hvs : vs = #[] := by have := hnew.1; simpa using this
                      subst hvs
                      have st := Step.rename hr hi hid
                      refine ⟨_, w, .slice base 0 0, .inl ?_, by rw [List.append_nil]; exact st, .rsl0 _ _ _ _, fresh' i _ _ (fun j hj => withNew_old hj)⟩
                      simp only [Sem.run_bind, head base 0 0 rfl, if_pos hle]
                      cases base <;> rfl
                    · exact grow base 0 rfl hle
                  · clear hold
                    by_cases hle : len + n ≤ cap
                    · have st := Step.rename hr hi hid
                      have hblk : ∃ c e, w.heap[blk]? = some (.cells c e (0, 0)) := by
                        rcases hr.rel _ _ hi with ⟨_, g⟩ | ⟨blk', c', e', g1, g2, _⟩
                        · rw [hk] at g; cases g
                        · rw [hk] at g1; cases g1; exact ⟨c', e', g2⟩
                      obtain ⟨c', e'', hblk⟩ := hblk
                      rw [hblk] at hb; cases hb
                      have hmul : (len + n) * E.size ≤ cap * E.size := Nat.mul_le_mul_right _ hle
                      rw [Nat.add_mul] at hmul
                      obtain ⟨w', g1, g2⟩ := run_storeExt (P := P) (N := N) (κ := withNew κ id (κ i)) (id := id) (blk := blk) (by rw [withNew_new]; exact hk) new vs.toList (hset (herase H i) id (.cells cs)) w cs
                        ((⟨blk, 0, none⟩ : Addr).add (len * E.size)) 0 (by rw [add_block]) (fun j => by rw [add_add, hcl]; unfold Addr.add; split <;> simp_all <;> omega) st.hrel (by rw [hget_hset, if_pos rfl]) ⟨_, _, hblk, by omega⟩
                        (fun y hy => List.all_eq_true.1 hB y hy) (by simpa using hnew.1) (fun j y hy => by obtain ⟨u, hu, hur⟩ := hnew.2 j y hy; exact ⟨u, by simpa using hu, st.v hur⟩)
                      rw [hset_hset] at g2
                      obtain ⟨c2, f2, g3, g4⟩ := g2.wle.2.1 _ _ _ _ hblk
                      refine ⟨_, w', .slice (some ⟨blk, 0, none⟩) (len + n) cap, .inl ?_, st.trans g2, .rsl id 0 (len + n) E.size cap blk c2 _ f2 (by rw [withNew_new]; exact hk) hle g3 (by rw [g4]; omega), fresh' i _ _ (fun j hj => withNew_old hj)⟩
                      simp only [Sem.run_bind, head (some ⟨blk, 0, none⟩) len cap rfl, if_pos hle, g1, Result.andThen_ok, Sem.run_pure]
                    · exact grow (some ⟨blk, 0, none⟩) cap rfl hle
                · cases h
              · cases h
            · cases h
          · cases h
        · cases h
      · cases h
    · cases h
  · cases h


theorem run_bound {d : Nat} {lim : Nat} {code : BoundsCode} {x : AV} {a : Value} {n : Nat} {av : Nat → Prop} (hx : VRel κ av w x a) (h : abound d (some x) = some n) (hle : n ≤ lim) : (Instr.sliceBound a lim code).run P w = .ok n w := by
  unfold abound at h
  split at h
  · rename_i e; cases e
  · rename_i k m e
    cases e
    split at h
    · rename_i hpos
      cases h
      cases hx
      simp only [Instr.sliceBound, asIntOf, Sem.run_bind, Sem.run_pure, Result.andThen_ok]
      rw [if_pos ⟨hpos, by omega⟩]
      rfl
    · cases h
  · cases h

theorem run_bounds {isS : Bool} {len cap : Nat} {lo hi : Option Operand} {ρ : Operand → AV} {σ : Operand → Value} {l r : Nat} {av : Nat → Prop} (hρ : ∀ x, VRel κ av w (ρ x) (σ x)) (hl : abound 0 (lo.map ρ) = some l) (hr : abound len (hi.map ρ) = some r) (hlr : l ≤ r) (hrc : r ≤ cap) :
    (Instr.sliceBounds isS len cap (lo.map σ) (hi.map σ) none).run P w = .ok (l, r, cap) w := by
  have h1 : ∀ (code : BoundsCode), ((match hi.map σ with | some v => Instr.sliceBound v cap code | none => pure len : Sem Nat)).run P w = .ok r w := by
    intro code
    cases hi with
    | none => simp only [Option.map_none, abound, Option.some.injEq] at hr; subst hr; rfl
    | some x => exact run_bound (hρ x) hr hrc
  have h2 : ∀ (code : BoundsCode), ((match lo.map σ with | some v => Instr.sliceBound v r code | none => pure 0 : Sem Nat)).run P w = .ok l w := by
    intro code
    cases lo with
    | none => simp only [Option.map_none, abound, Option.some.injEq] at hl; subst hl; rfl
    | some x => exact run_bound (hρ x) hl hlr
  cases hi with
  | none =>
    simp only [Option.map_none, abound, Option.some.injEq] at hr; subst hr
    cases lo with
    | none => simp only [Option.map_none, abound, Option.some.injEq] at hl; subst hl; simp [Instr.sliceBounds]
    | some x => have := h2 .sliceB; simp only [Option.map_some] at this; simp [Instr.sliceBounds, this]
  | some y =>
    have g1 := h1 (if isS = true then .sliceAcap else .sliceAlen)
    simp only [Option.map_some] at g1
    cases lo with
    | none => simp only [Option.map_none, abound, Option.some.injEq] at hl; subst hl; simp [Instr.sliceBounds, g1]
    | some x => have g2 := h2 .sliceB; simp only [Option.map_some] at g2; simp [Instr.sliceBounds, g1, g2]

theorem chunks_get (esz : Nat) : ∀ (n : Nat) (cs : List AV) (i : Nat) (x : List AV), (chunks esz cs n)[i]? = some x → i < n ∧ x = (cs.drop (i * esz)).take esz := by
  intro n
  induction n with
  | zero => intro cs i x h; simp [chunks] at h
  | succ n ih =>
    intro cs i x h
    cases i with
    | zero => simp [chunks] at h; exact ⟨by omega, by simp [h]⟩
    | succ i =>
      simp only [chunks, List.getElem?_cons_succ] at h
      obtain ⟨h1, h2⟩ := ih _ _ _ h
      refine ⟨by omega, ?_⟩
      rw [h2, List.drop_drop]; congr 2; rw [Nat.succ_mul]; omega
theorem chunks_length (esz : Nat) : ∀ (n : Nat) (cs : List AV), (chunks esz cs n).length = n := by
  intro n; induction n with
  | zero => intros; rfl
  | succ n ih => intro cs; simp [chunks, ih]

theorem sound_slice {t : TypeId} {x y : AV} {a : Value} {lo hi : Option Operand} {ρ : Operand → AV} {σ : Operand → Value} (hr : HRel κ N H w) (hρ : ∀ x, VRel κ (avoid κ N H) w (ρ x) (σ x)) (hx : VRel κ (avoid κ N H) w x a)
    (h : aSlice P (hget H) t x (lo.map ρ) (hi.map ρ) = some y) : Sound P (do pure (.value (← Instr.sliceAt t a (lo.map σ) (hi.map σ) none))) N κ H w ⟨y, []⟩ id := by
  refine .same hr ?_
  unfold aSlice at h
  split at h
  · rename_i T hT
    split at h
    · rename_i e esz xs htd
      split at h
      · rename_i E l r hE hl hh
        split at h
        · rename_i hc
          obtain ⟨rfl, hlr, hrl⟩ := hc
          cases h
          have hu := sliceElem hT htd
          cases hx with
          | lst _ _ base cap u hb hlc hcl hv =>
            have hbd := run_bounds (P := P) (isS := true) (len := xs.length) (cap := cap) hρ hl hh hlr (by omega)
            refine ⟨.slice (if cap = l then base else base.map (·.add (l * E.size))) (r - l) (cap - l), ?_, ?_⟩
            · simp only [Instr.sliceAt, Sem.run_bind, underlying, run_program, hu, Sem.run_pure, Result.andThen_ok, Instr.slice, hbd, run_sizeOf hE]
            · have hlen : ((xs.take r).drop l).length = r - l := by simp; omega
              have hel : ∀ i z, ((xs.take r).drop l)[i]? = some z → xs[l + i]? = some z := by
                intro i z hz
                rw [List.getElem?_drop, List.getElem?_take] at hz
                split at hz
                · exact hz
                · cases hz
              have key : VRel κ (avoid κ N H) w (.lst E.size ((xs.take r).drop l)) (.slice (if cap = l then base else base.map (·.add (l * E.size))) ((xs.take r).drop l).length (cap - l)) := by
                refine .lst _ _ _ _ (fun i j => u (l + i) j) ?_ (by rw [hlen]; omega) ?_ (fun i z hz => hv _ _ (hel i z hz))
                · intro hbn
                  have : base = none := by split at hbn <;> simpa using hbn
                  rw [hb this]; simp
                · intro i z hz j c hj
                  obtain ⟨b, hb', h1, h2⟩ := hcl _ _ (hel i z hz) _ _ hj
                  have hi : l + i < r := by
                    rw [List.getElem?_drop, List.getElem?_take] at hz
                    split at hz
                    · assumption
                    · cases hz
                  rw [if_neg (by omega), hb']
                  refine ⟨b.add (l * E.size), rfl, by rw [add_block]; exact h1, ?_⟩
                  rw [add_add, ← h2]; congr 2; rw [Nat.add_mul]; omega
              rw [hlen] at key
              exact key
        · cases h
      · cases h
    · rename_i e htd
      have hu := sliceElem hT htd
      cases hx
      split at h
      · rename_i E hE hl hh
        cases h
        have hbd := run_bounds (P := P) (w := w) (isS := true) (len := 0) (cap := 0) hρ hl hh (Nat.le_refl _) (Nat.le_refl _)
        refine ⟨.slice none 0 0, ?_, .nil⟩
        simp only [Instr.sliceAt, Sem.run_bind, underlying, run_program, hu, Sem.run_pure, Result.andThen_ok, Instr.slice, hbd, run_sizeOf hE]
        rfl
      · cases h
    · rename_i e i off len esz htd
      have hu := sliceElem hT htd
      split at h
      · rename_i E l r hE hl hh
        split at h
        · rename_i hc
          obtain ⟨rfl, hlr, hrl⟩ := hc
          cases h
          rcases hx.rsl_inv with ⟨base, rfl, rfl⟩ | ⟨cap, blk, c, e', f, hk, hlc, hb, hcap, rfl⟩
          · have hbd := run_bounds (P := P) (w := w) (isS := true) (len := 0) (cap := 0) hρ hl hh hlr (by omega)
            refine ⟨.slice base 0 0, ?_, ?_⟩
            · simp only [Instr.sliceAt, Sem.run_bind, underlying, run_program, hu, Sem.run_pure, Result.andThen_ok, Instr.slice, hbd, run_sizeOf hE]
              rw [if_pos (by omega), show r - l = 0 from by omega]; simp
            · rw [show r - l = 0 from by omega]; exact .rsl0 _ _ _ _
          · have hbd := run_bounds (P := P) (w := w) (isS := true) (len := len) (cap := cap) hρ hl hh hlr (by omega)
            refine ⟨.slice (if cap = l then some ⟨blk, off, none⟩ else some ⟨blk, off + l * E.size, none⟩) (r - l) (cap - l), ?_, ?_⟩
            · simp only [Instr.sliceAt, Sem.run_bind, underlying, run_program, hu, Sem.run_pure, Result.andThen_ok, Instr.slice, hbd, run_sizeOf hE]
              have hadd : (⟨blk, off, none⟩ : Addr).add (l * E.size) = ⟨blk, off + l * E.size, none⟩ := by unfold Addr.add; split <;> simp_all
              rw [Option.map_some, hadd]
            · by_cases hcl : cap = l
              · rw [if_pos hcl, show r - l = 0 from by omega, show cap - l = 0 from by omega]; exact .rsl0 _ _ _ _
              · rw [if_neg hcl]
                refine .rsl _ _ _ _ (cap - l) blk c e' f hk (by omega) hb ?_
                have : l * E.size + (cap - l) * E.size = cap * E.size := by rw [← Nat.add_mul]; congr 1; omega
                omega
        · cases h
      · cases h
    · rename_i n e cs htd
      have hu := arrElem hT htd
      split at h
      · rename_i E l r hE hl hh
        split at h
        · rename_i hc
          obtain ⟨hlr, hrn, hsz⟩ := hc
          cases h
          cases hx with
          | cptr _ ad u hcl hv =>
            have hbd := run_bounds (P := P) (w := w) (isS := false) (len := n) (cap := n) hρ hl hh hlr hrn
            refine ⟨.slice (some (if n = l then ad else ad.add (l * E.size))) (r - l) (n - l), ?_, ?_⟩
            · simp only [Instr.sliceAt, Sem.run_bind, underlying, run_program, hu, Sem.run_pure, Result.andThen_ok, Instr.sureAddr, hbd, run_sizeOf hE]
            · have hlen := chunks_length E.size (r - l) (cs.drop (l * E.size))
              have key : VRel κ (avoid κ N H) w (.lst E.size (chunks E.size (cs.drop (l * E.size)) (r - l))) (.slice (some (if n = l then ad else ad.add (l * E.size))) (chunks E.size (cs.drop (l * E.size)) (r - l)).length (n - l)) := by
                have hcs : ∀ i x, (chunks E.size (cs.drop (l * E.size)) (r - l))[i]? = some x → ∀ j c, x[j]? = some c → i < r - l ∧ cs[l * E.size + (i * E.size + j)]? = some c := by
                  intro i x hi j c hj
                  obtain ⟨h1, rfl⟩ := chunks_get _ _ _ _ _ hi
                  rw [List.getElem?_take] at hj
                  split at hj
                  · rw [List.getElem?_drop, List.getElem?_drop] at hj; exact ⟨h1, hj⟩
                  · cases hj
                refine .lst _ _ _ _ (fun i j => u (l * E.size + (i * E.size + j))) (fun h => by cases h) (by rw [hlen]; omega) ?_ ?_
                · intro i x hi j c hj
                  obtain ⟨h1, h2⟩ := hcs i x hi j c hj
                  obtain ⟨h3, h4⟩ := hcl _ _ h2
                  rw [if_neg (by omega)]
                  exact ⟨_, rfl, by rw [add_block]; exact h3, by rw [add_add]; exact h4⟩
                · intro i x hi j c hj
                  exact hv _ _ (hcs i x hi j c hj).2
              rw [hlen] at key
              exact key
        · cases h
      · cases h
    · rename_i n e i off htd
      have hu := arrElem hT htd
      split at h
      · rename_i E l r cs hE hl hh hi
        split at h
        · rename_i hc
          obtain ⟨hlr, hrn, hsz⟩ := hc
          cases h
          cases hx with
          | vptr _ _ blk hk =>
            have hbd := run_bounds (P := P) (w := w) (isS := false) (len := n) (cap := n) hρ hl hh hlr hrn
            have hadd : (⟨blk, off, none⟩ : Addr).add (l * E.size) = ⟨blk, off + l * E.size, none⟩ := by unfold Addr.add; split <;> simp_all
            refine ⟨.slice (some (if n = l then ⟨blk, off, none⟩ else ⟨blk, off + l * E.size, none⟩)) (r - l) (n - l), ?_, ?_⟩
            · simp only [Instr.sliceAt, Sem.run_bind, underlying, run_program, hu, Sem.run_pure, Result.andThen_ok, Instr.sureAddr, hbd, run_sizeOf hE, hadd]
            · by_cases hnl : n = l
              · rw [if_pos hnl, show r - l = 0 from by omega, show n - l = 0 from by omega]; exact .rsl0 _ _ _ _
              · rw [if_neg hnl]
                rcases hr.rel _ _ hi with ⟨g, g'⟩ | ⟨blk', c, e', g1, g2, g3, _⟩
                · rw [hk] at g'; cases g'
                · rw [hk] at g1; cases g1
                  refine .rsl _ _ _ _ (n - l) blk c e' (0, 0) hk (by omega) g2 ?_
                  have : l * E.size + (n - l) * E.size = n * E.size := by rw [← Nat.add_mul]; congr 1; omega
                  omega
        · cases h
      · cases h
    · rename_i s htd
      have hu := strType hT htd
      split at h
      · rename_i l r hl hh
        split at h
        · rename_i hc
          cases h
          cases hx
          have hbd := run_bounds (P := P) (w := w) (isS := false) (len := s.size) (cap := s.size) hρ hl hh hc.1 hc.2
          refine ⟨.string (s.extract l r), ?_, .str _⟩
          simp only [Instr.sliceAt, Sem.run_bind, underlying, run_program, hu, Sem.run_pure, Result.andThen_ok, Instr.slice]
          rw [Sem.run_ite, if_neg (by simp)]
          simp only [Sem.run_bind, hbd, Result.andThen_ok, Sem.run_pure]
        · cases h
      · cases h
    · cases h
  · cases h
end
end Go.Am
/-
  MAPS: lookup, update, delete; nil checks.
-/
namespace Go.Am
open Go.MapKept

section
variable {P : Program} {N : Nat → Prop} {κ : Nat → Option Nat} {H : AHeap} {w : World} {id : Nat}

theorem akey1_isKey {K : TI} {kt : TypeId} (hK : tinfo P kt = some K) {k : AV} {v : Value} {av : Nat → Prop} (h : akey1 K.td k = true) (hv : VRel κ av w k v) : ∃ d, P.underlying kt = some d ∧ tdOf d = K.td ∧ IsKey d v := by
  obtain ⟨d, hd, he⟩ := tdEq hK
  refine ⟨d, hd, he, ?_⟩
  rw [← he] at h
  clear hK hd he
  cases d <;> cases k <;> simp only [tdOf, akey1, decide_eq_true_eq, reduceCtorEq] at h <;> cases hv <;> simp_all [IsKey]

theorem akeyF_sound {av : Nat → Prop} {xs : List AV} {vs : Array Value} (hx : CRel κ av w xs vs) (e : Bool) (n : Nat) : ∀ Fs : List Field, akeyF P xs (Fs.map fun f => (f.offset, f.type, f.name == "_")) = true →
    ∀ u : PUnit, Sem.run P (forIn Fs u fun f (_ : PUnit) => if f.name ≠ "_" then (do
        let x ← part f.type vs f.offset
        Instr.checkKey e (n + 1) f.type x
        pure (ForInStep.yield PUnit.unit)) else pure (ForInStep.yield PUnit.unit)) w = .ok PUnit.unit w := by
  intro Fs
  induction Fs with
  | nil => intro _ u; rfl
  | cons f Fs ih =>
    intro h u
    simp only [List.map_cons, akeyF, Bool.and_eq_true] at h
    rw [List.forIn_cons]
    by_cases hn : f.name = "_"
    · simp only [hn, ne_eq, not_true_eq_false, if_false, Sem.run_bind, Sem.run_pure, Result.andThen_ok]
      exact ih h.2 _
    · have h1 := h.1
      simp only [beq_eq_false_iff_ne.2 hn, Bool.false_or] at h1
      split at h1
      · rename_i y U hy hU
        obtain ⟨v, hv1, hv2⟩ := run_part (P := P) (w := w) hx hy
        obtain ⟨d, hd, _, hik⟩ := akey1_isKey hU h1 hv2
        simp only [ne_eq, hn, not_false_eq_true, if_true, Sem.run_bind, hv1, Result.andThen_ok, run_checkKey hd hik e n, Sem.run_pure]
        exact ih h.2 _
      · cases h1

theorem checkKey_sound {K : TI} {kt : TypeId} (hK : tinfo P kt = some K) {k : AV} {v : Value} {av : Nat → Prop} (h : akeyB P K.td k = true) (hv : VRel κ av w k v) (e : Bool) : (Instr.checkKey e 10000 kt v).run P w = .ok () w := by
  unfold akeyB at h
  split at h
  · rename_i fs xs hfs
    obtain ⟨Fs, hF, hFs⟩ := structFields hK hfs
    subst hFs
    obtain ⟨vs, rfl, h1, h2⟩ := hv.agg_inv
    have := akeyF_sound (P := P) (w := w) (κ := κ) (av := av) ⟨h1, h2⟩ e 9998 Fs.toList h PUnit.unit
    unfold Instr.checkKey
    simp only [Sem.run_bind, Go.run_underlying hF w, Result.andThen_ok]
    rw [← Array.forIn_toList]
    exact congrArg (fun r => Result.andThen r _) this
  · obtain ⟨d, hd, _, hik⟩ := akey1_isKey hK h hv
    exact run_checkKey hd hik e 9999

/-- The first entry with an equal key. -/
theorem findKey_sound {K : TI} {kt : TypeId} (hK : tinfo P kt = some K) {k : AV} {a : Value} {av : Nat → Prop} (ha : VRel κ av w k a) (es : List (AV × AV)) (l : List MapEntry) (hl : l.length = es.length)
    (he : ∀ (j : Nat) (e : AV × AV), es[j]? = some e → ∃ m, l[j]? = some m ∧ VRel κ av w e.1 m.key ∧ VRel κ av w e.2 m.val) {r : Option (Nat × AV)} (h : afind P kt K.td k es 0 = some r) :
    (r = none ∧ (Instr.findKey kt a l).run P w = .ok none w) ∨ ∃ j v m, r = some (j, v) ∧ (Instr.findKey kt a l).run P w = .ok (some (j, m.val)) w ∧ l[j]? = some m ∧ VRel κ av w v m.val ∧ ∃ e, es[j]? = some e ∧ akeq P kt K.td k e.1 = some true := by
  obtain ⟨d, hd, htd⟩ := tdEq hK
  -- by asking
  have asking : (∀ (x : AV) (b : Value) (q : Bool), akeq P kt K.td k x = some q → VRel κ av w x b → (Op.equal kt a b).run P w = .ok q w) →
      ∀ (es : List (AV × AV)) (l : List MapEntry) (i : Nat) (r : Option (Nat × AV)), l.length = es.length →
      (∀ (j : Nat) (e : AV × AV), es[j]? = some e → ∃ m, l[j]? = some m ∧ VRel κ av w e.1 m.key ∧ VRel κ av w e.2 m.val) → afind P kt K.td k es i = some r →
      (r = none ∧ (Instr.findAsking kt a l i).run P w = .ok none w) ∨ ∃ j v m, r = some (i + j, v) ∧ (Instr.findAsking kt a l i).run P w = .ok (some (i + j, m.val)) w ∧ l[j]? = some m ∧ VRel κ av w v m.val ∧ ∃ e, es[j]? = some e ∧ akeq P kt K.td k e.1 = some true := by
    intro heq es
    induction es with
    | nil =>
      intro l i r hl _ h
      have : l = [] := by simpa using hl
      subst this
      simp only [afind, Option.some.injEq] at h
      exact .inl ⟨h.symm, rfl⟩
    | cons e es ih =>
      intro l i r hl he h
      cases l with
      | nil => simp at hl
      | cons m l =>
        obtain ⟨m', hm, h1, h2⟩ := he 0 e rfl
        simp at hm; subst hm
        simp only [afind] at h
        split at h
        · rename_i hb
          cases h
          exact .inr ⟨0, e.2, m, rfl, by simp [Instr.findAsking, Sem.run_bind, heq _ _ _ hb h1, Result.andThen], rfl, h2, e, rfl, hb⟩
        · rename_i hb
          have hr : ∀ x, (Instr.findAsking kt a l (i + 1)).run P w = x → (Instr.findAsking kt a (m :: l) i).run P w = x := fun x hx => by
            rw [← hx]; simp [Instr.findAsking, Sem.run_bind, heq _ _ _ hb h1, Result.andThen]
          rcases ih l (i + 1) r (by simpa using hl) (fun j e' he' => by simpa using he (j + 1) e' (by simpa using he')) h with ⟨h3, h4⟩ | ⟨j, v, m', h3, h4, h5, h6, e', h7, h8⟩
          · exact .inl ⟨h3, hr _ h4⟩
          · exact .inr ⟨j + 1, v, m', by rw [h3]; simp; omega, by rw [hr _ h4]; simp; omega, by simpa using h5, h6, e', by simpa using h7, h8⟩
        · cases h
  -- at once
  have now : (∀ (x : AV) (b : Value) (q : Bool), akeq P kt K.td k x = some q → VRel κ av w x b → Instr.sameNow d a b = some q) →
      ∀ (es : List (AV × AV)) (l : List MapEntry) (i : Nat) (r : Option (Nat × AV)), l.length = es.length →
      (∀ (j : Nat) (e : AV × AV), es[j]? = some e → ∃ m, l[j]? = some m ∧ VRel κ av w e.1 m.key ∧ VRel κ av w e.2 m.val) → afind P kt K.td k es i = some r →
      (r = none ∧ Instr.findNow d a l i = some none) ∨ ∃ j v m, r = some (i + j, v) ∧ Instr.findNow d a l i = some (some (i + j, m.val)) ∧ l[j]? = some m ∧ VRel κ av w v m.val ∧ ∃ e, es[j]? = some e ∧ akeq P kt K.td k e.1 = some true := by
    intro heq es
    induction es with
    | nil =>
      intro l i r hl _ h
      have : l = [] := by simpa using hl
      subst this
      simp only [afind, Option.some.injEq] at h
      exact .inl ⟨h.symm, rfl⟩
    | cons e es ih =>
      intro l i r hl he h
      cases l with
      | nil => simp at hl
      | cons m l =>
        obtain ⟨m', hm, h1, h2⟩ := he 0 e rfl
        simp at hm; subst hm
        simp only [afind] at h
        split at h
        · rename_i hb
          cases h
          exact .inr ⟨0, e.2, m, rfl, by simp [Instr.findNow, heq _ _ _ hb h1], rfl, h2, e, rfl, hb⟩
        · rename_i hb
          have hs := heq _ _ _ hb h1
          rcases ih l (i + 1) r (by simpa using hl) (fun j e' he' => by simpa using he (j + 1) e' (by simpa using he')) h with ⟨h3, h4⟩ | ⟨j, v, m', h3, h4, h5, h6, e', h7, h8⟩
          · exact .inl ⟨h3, by simp [Instr.findNow, hs, h4]⟩
          · exact .inr ⟨j + 1, v, m', by rw [h3]; simp; omega, by simp [Instr.findNow, hs, h4]; omega, by simpa using h5, h6, e', by simpa using h7, h8⟩
        · cases h
  have byNow : (∀ (x : AV) (b : Value) (q : Bool), akeq P kt K.td k x = some q → VRel κ av w x b → Instr.sameNow d a b = some q) → _ := fun hs => now hs es l 0 r hl he h
  have fin : ∀ (hs : ∀ (x : AV) (b : Value) (q : Bool), akeq P kt K.td k x = some q → VRel κ av w x b → Instr.sameNow d a b = some q),
      (r = none ∧ (Instr.findKey kt a l).run P w = .ok none w) ∨ ∃ j v m, r = some (j, v) ∧ (Instr.findKey kt a l).run P w = .ok (some (j, m.val)) w ∧ l[j]? = some m ∧ VRel κ av w v m.val ∧ ∃ e, es[j]? = some e ∧ akeq P kt K.td k e.1 = some true := by
    intro hs
    rcases byNow hs with ⟨h1, h2⟩ | ⟨j, v, m, h1, h2, h3⟩
    · exact .inl ⟨h1, run_findKey hd h2⟩
    · exact .inr ⟨j, v, m, by simpa using h1, by rw [run_findKey hd h2]; simp, h3⟩
  cases d with
  | struct Fs =>
    have hst : K.td = .struct (Fs.toList.map fun f => (f.offset, f.type, f.name == "_")) := by rw [← htd]; rfl
    have hA := asking (fun x b q hq hx => by
      rw [hst] at hq
      unfold akeq at hq
      split at hq
      all_goals try (cases hq; done)
      all_goals try (rename_i e0; cases e0)
      all_goals try (simp at hq; done)
      rename_i xs ys e1
      split at hq
      · rename_i he6
        split at hq
        · cases hq; exact aeqT_sound 6 10000 (by omega) _ _ _ _ _ _ he6 ha hx
        · cases hq
      · rename_i he6
        cases hq; exact aeqT_sound 6 10000 (by omega) _ _ _ _ _ _ he6 ha hx
      · cases hq) es l 0 r hl he h
    cases l with
    | nil =>
      have : es = [] := by cases es <;> simp_all
      subst this
      simp only [afind, Option.some.injEq] at h
      exact .inl ⟨h.symm, run_findKey hd rfl⟩
    | cons m l =>
      have hfk : (Instr.findKey kt a (m :: l)).run P w = (Instr.findAsking kt a (m :: l) 0).run P w := by
        simp [Instr.findKey, Sem.run_bind, Go.run_underlying hd w, Result.andThen, Instr.findNow, Instr.sameNow]
      rw [hfk]
      simpa using hA
  | _ =>
    refine fin fun x b q hq hx => ?_
    rw [← htd] at hq
    clear asking now byNow fin h he hl
    cases k <;> cases x <;> simp only [tdOf, akeq, reduceCtorEq] at hq <;> cases ha <;> cases hx <;> simp_all [Instr.sameNow]

theorem azero_sound {t : TypeId} {z : AV} (h : azero P t = some z) (av : Nat → Prop) : ∃ v, (zeroValue t).run P w = .ok v w ∧ VRel κ av w z v := by
  unfold azero at h
  cases hi : P.info? t with
  | none => rw [hi] at h; cases h
  | some i =>
    rw [hi] at h
    simp only [Option.bind_some] at h
    cases hz : i.zero with
    | none => rw [hz] at h; cases h
    | some v =>
      rw [hz] at h; cases h
      exact ⟨v, by simp [zeroValue, typeInfo, hi, hz], ofVal_rel _ _ _ _⟩

theorem plainEq_bits {x y : AV} {a b : Value} {av : Nat → Prop} (h : plainEq x y = true) (hx : VRel κ av w x a) (hy : VRel κ av w y b) : a = b ∧ ∀ n, Instr.sameBits n a a = true := by
  unfold plainEq at h
  split at h
  · cases hx; cases hy; simp at h; obtain ⟨rfl, rfl⟩ := h
    exact ⟨rfl, fun n => by cases n <;> simp [Instr.sameBits]⟩
  · cases hx; cases hy
    have e := (bytes_beq _ _).1 h
    subst e
    exact ⟨rfl, fun n => by cases n <;> simp [Instr.sameBits, bytes_beq]⟩
  · cases hx; cases hy; simp at h; subst h
    exact ⟨rfl, fun n => by cases n <;> simp [Instr.sameBits]⟩
  · cases h
theorem plainEqL_bits {av : Nat → Prop} (n : Nat) : ∀ (xs ys : List AV) (vs us : List Value), vs.length = xs.length → us.length = ys.length → (∀ (i : Nat) (c : AV), xs[i]? = some c → ∃ u, vs[i]? = some u ∧ VRel κ av w c u) →
    (∀ (i : Nat) (c : AV), ys[i]? = some c → ∃ u, us[i]? = some u ∧ VRel κ av w c u) → plainEqL xs ys = true → vs = us ∧ ((vs.zip vs).all fun (x, y) => Instr.sameBits n x y) = true := by
  intro xs
  induction xs with
  | nil =>
    intro ys vs us hl hl' hx hy h
    cases ys with
    | nil =>
      have h1 : vs = [] := by simpa using hl
      have h2 : us = [] := by simpa using hl'
      subst h1; subst h2; exact ⟨rfl, rfl⟩
    | cons y ys => cases h
  | cons x xs ih =>
    intro ys vs us hl hl' hx hy h
    cases ys with
    | nil => cases h
    | cons y ys =>
      cases vs with
      | nil => simp at hl
      | cons v vs =>
        cases us with
        | nil => simp at hl'
        | cons u us =>
          simp only [plainEqL, Bool.and_eq_true] at h
          obtain ⟨v', hv1, hv2⟩ := hx 0 x rfl
          obtain ⟨u', hu1, hu2⟩ := hy 0 y rfl
          simp at hv1 hu1; subst hv1; subst hu1
          obtain ⟨rfl, hb⟩ := plainEq_bits h.1 hv2 hu2
          obtain ⟨rfl, hr⟩ := ih ys vs us (by simpa using hl) (by simpa using hl') (fun i c hi => by simpa using hx (i + 1) c (by simpa using hi)) (fun i c hi => by simpa using hy (i + 1) c (by simpa using hi)) h.2
          exact ⟨rfl, by rw [List.zip_cons_cons, List.all_cons, hr, Bool.and_true]; exact hb n⟩

theorem akeq_bits {kt : TypeId} {d : TD} {k x : AV} {a b : Value} {av : Nat → Prop} (h : akeq P kt d k x = some true) (ha : VRel κ av w k a) (hb : VRel κ av w x b) : Instr.sameBits 10000 b a = true := by
  unfold akeq at h
  split at h
  · split at h
    · rename_i e; subst e; cases ha; cases hb; simp at h; subst h
      simp [Instr.sameBits]
    · cases h
  · cases ha; cases hb
    simp only [Option.some.injEq] at h
    have e := (bytes_beq _ _).1 h
    subst e
    simp [Instr.sameBits, bytes_beq]
  · cases ha; cases hb; simp at h; subst h
    simp [Instr.sameBits]
  · rename_i xs ys
    split at h
    · split at h
      · rename_i hp
        obtain ⟨vs, rfl, v1, v2⟩ := ha.agg_inv
        obtain ⟨us, rfl, u1, u2⟩ := hb.agg_inv
        have := plainEqL_bits 9999 xs ys vs.toList us.toList (by simpa using v1) (by simpa using u1) (fun i c hi => by simpa using v2 i c hi) (fun i c hi => by simpa using u2 i c hi) hp
        obtain ⟨e1, e2⟩ := this
        have e3 : vs = us := by simpa using e1
        subst e3
        simp only [Instr.sameBits, beq_self_eq_true, Bool.true_and]
        exact e2
      · cases h
    · cases h
    · cases h
  · cases h

/-- What lies behind a map that is read. -/
theorem amap_rel (hr : HRel κ N H w) {x : AV} {a : Value} {es : List (AV × AV)} (hx : VRel κ (avoid κ N H) w x a) (h : amap (hget H) x = some es) :
    (es = [] ∧ a = .map none) ∨ ∃ r ents clk, a = .map (some r) ∧ w.heap[r]? = some (.map ents clk) ∧ ents.toList.length = es.length ∧
      ∀ (j : Nat) (e : AV × AV), es[j]? = some e → ∃ m, ents.toList[j]? = some m ∧ VRel κ (avoid κ N H) w e.1 m.key ∧ VRel κ (avoid κ N H) w e.2 m.val := by
  unfold amap at h
  split at h
  · cases h; cases hx; exact .inl ⟨rfl, rfl⟩
  · cases h
    cases hx with
    | imap es r ents clk uk uv hn hr hsz hu hk hv =>
      exact .inr ⟨r, ents, clk, rfl, hr, by simpa using hsz, fun j e he => by
        obtain ⟨m, h1, h2, h3⟩ := hu j e he
        exact ⟨m, by simpa using h1, h2 ▸ (hk j e he).up, h3 ▸ (hv j e he).up⟩⟩
  · split at h
    · rename_i i es' hi
      cases h
      cases hx with
      | mref id r hk =>
        obtain ⟨r', ents, clk, h1, h2, h3, h4⟩ := hr.rel _ _ hi
        rw [hk] at h1; cases h1
        exact .inr ⟨r, ents, clk, rfl, h2, by simpa using h3, fun j e he => by obtain ⟨m, m1, m2⟩ := h4 j e he; exact ⟨m, by simpa using m1, m2⟩⟩
    · cases h
  · cases h

theorem sound_lookup {t : TypeId} {x k y : AV} {a b : Value} {ok : Bool} (hr : HRel κ N H w) (hx : VRel κ (avoid κ N H) w x a) (hk : VRel κ (avoid κ N H) w k b) (h : aLookup P (hget H) t x k ok = some y) :
    Sound P (do pure (.value (← Instr.lookup t a b ok))) N κ H w ⟨y, []⟩ id := by
  refine Sound.same hr ?_
  unfold aLookup at h
  split at h
  · rename_i T hT
    split at h
    · rename_i kt et htd
      split at h
      · rename_i K es hK hes
        split at h
        · rename_i hkb
          have hun := mapElem hT htd
          have hck : ∀ e, (Instr.checkKey e 10000 kt b).run P w = .ok () w := fun e => checkKey_sound hK hkb hk e
          have key : ∀ l : List MapEntry, l.length = es.length → (∀ (j : Nat) (e : AV × AV), es[j]? = some e → ∃ m, l[j]? = some m ∧ VRel κ (avoid κ N H) w e.1 m.key ∧ VRel κ (avoid κ N H) w e.2 m.val) →
              ∃ (r : Option (Nat × Value)) (v : Value) (o : Bool), (Instr.findKey kt b l).run P w = .ok r w ∧ (match r with | some (_, v') => v = v' ∧ o = true | none => (zeroValue et).run P w = .ok v w ∧ o = false) ∧
                VRel κ (avoid κ N H) w y (if ok = true then .tuple #[v, .bool o] else v) := by
            intro l hl he
            have wrap2 : ∀ (z : AV) (v : Value) (o : Bool), VRel κ (avoid κ N H) w z v → VRel κ (avoid κ N H) w (if ok = true then .tup [z, .bool o] else z) (if ok = true then .tuple #[v, .bool o] else v) := by
              intro z v o hz
              split
              · refine .tupOf rfl fun i c hi => ?_
                rcases i with _ | _ | i
                · simp at hi; subst hi; exact ⟨v, rfl, hz⟩
                · simp at hi; subst hi; exact ⟨_, rfl, .bool o⟩
                · simp at hi
              · exact hz
            split at h
            · rename_i hf
              cases h
              rcases findKey_sound hK hk es l hl he hf with ⟨h1, _⟩ | ⟨j', v', m, h1, h2, h3, h4, _⟩
              · cases h1
              · cases h1
                exact ⟨_, m.val, true, h2, ⟨rfl, rfl⟩, wrap2 _ _ true h4⟩
            · rename_i z hf hz
              cases h
              rcases findKey_sound hK hk es l hl he hf with ⟨_, h2⟩ | ⟨j', v', m, h1, _⟩
              · obtain ⟨zv, hz1, hz2⟩ := azero_sound (κ := κ) (w := w) hz (avoid κ N H)
                exact ⟨_, zv, false, h2, ⟨hz1, rfl⟩, wrap2 _ _ false hz2⟩
              · cases h1
            · cases h
          have hun' : (underlying t).run P w = .ok (.map kt et) w := Go.run_underlying hun w
          rcases amap_rel hr hx hes with ⟨rfl, rfl⟩ | ⟨r, ents, clk, rfl, h1, h2, h3⟩
          · obtain ⟨r, v, o, hv1, hv2, hv3⟩ := key [] rfl (fun j e he => by simp at he)
            refine ⟨_, ?_, hv3⟩
            simp only [Instr.lookup, Sem.run_bind, hun', Result.andThen_ok, Sem.run_pure, hck, hv1]
            cases r with
            | none => obtain ⟨z1, rfl⟩ := hv2; simp only [Sem.run_bind, z1, Result.andThen_ok, Sem.run_pure]
            | some p => obtain ⟨rfl, rfl⟩ := hv2; simp only [Sem.run_bind, Result.andThen_ok, Sem.run_pure]
          · obtain ⟨r', v, o, hv1, hv2, hv3⟩ := key ents.toList h2 h3
            refine ⟨_, ?_, hv3⟩
            simp only [Instr.lookup, Sem.run_bind, hun', Result.andThen_ok, MapKept.run_getObj_map h1, Sem.run_pure, hck, hv1]
            cases r' with
            | none => obtain ⟨z1, rfl⟩ := hv2; simp only [Sem.run_bind, z1, Result.andThen_ok, Sem.run_pure]
            | some p => obtain ⟨rfl, rfl⟩ := hv2; simp only [Sem.run_bind, Result.andThen_ok, Sem.run_pure]
        · cases h
      · cases h
    · cases h
  · cases h

theorem Step.putMap (hr : HRel κ N H w) {es es' : List (AV × AV)} {r : Nat} (ho : hget H id = some (.map es)) (hk : κ id = some r) {ents ents' : Array MapEntry} {clk clk' : Nat} (hb : w.heap[r]? = some (.map ents clk))
    (hl : ents'.size = es'.length) (hv : ∀ (j : Nat) (e : AV × AV), es'[j]? = some e → ∃ m, ents'[j]? = some m ∧ VRel κ (avoid κ N H) w e.1 m.key ∧ VRel κ (avoid κ N H) w e.2 m.val) :
    Step N κ H w κ (hset H id (.map es')) (w.putObj r (.map ents' clk')) := by
  have hlt : r < w.heap.size := by
    rcases Nat.lt_or_ge r w.heap.size with h | h
    · exact h
    · rw [Array.getElem?_eq_none h] at hb; cases hb
  have hne : ∀ b, b ≠ r → (w.putObj r (.map ents' clk')).heap[b]? = w.heap[b]? := fun b h => World.putObj_heap_other h
  refine .turn hr ho hk ⟨by simp, fun b c e f h => ⟨c, f, (hne b ?_).trans h, rfl⟩, fun b L h => ⟨L, (hne b ?_).trans h⟩, rfl, rfl, rfl⟩ hne (by simp) _ fun up => ?_
  · intro e'; subst e'; rw [hb] at h; cases h
  · intro e'; subst e'; rw [hb] at h; cases h
  · exact ⟨r, ents', clk', hk, World.putObj_heap_same hlt, hl, fun j e he => by obtain ⟨m, m1, m2, m3⟩ := hv j e he; exact ⟨m, m1, up _ _ m2, up _ _ m3⟩⟩

theorem fresh_put {i : Nat} {o p : AObj} (hi : hget H i = some p) (j : Nat) (hf : Fresh κ H j) : Fresh κ (hset H i o) j := by
  refine ⟨hf.1, ?_⟩
  rw [hget_hset]
  split
  · rename_i e; subst e; rw [hf.2] at hi; cases hi
  · exact hf.2

theorem sound_mapUpdate {t : TypeId} {x k v : AV} {a b c : Value} {out : Out} (hr : HRel κ N H w) (hx : VRel κ (avoid κ N H) w x a) (hk : VRel κ (avoid κ N H) w k b) (hv : VRel κ (avoid κ N H) w v c)
    (h : aMapUpdate P (hget H) t x k v = some out) : Sound P (do Instr.mapUpdate t a b c; pure .skip) N κ H w out id := by
  unfold aMapUpdate at h
  split at h
  · rename_i T hT
    split at h
    · rename_i kt et i htd
      split at h
      · rename_i K es hK hi
        split at h
        · rename_i hkb
          have hun := mapElem hT htd
          have hck : ∀ e, (Instr.checkKey e 10000 kt b).run P w = .ok () w := fun e => checkKey_sound hK hkb hk e
          have hun' : (underlying t).run P w = .ok (.map kt et) w := Go.run_underlying hun w
          obtain ⟨r, ents, clk, h1, h2, h3, h4⟩ := hr.rel _ _ hi
          cases hx with
          | mref _ r' hk' =>
            rw [hk'] at h1; cases h1
            have h4' : ∀ (j : Nat) (e : AV × AV), es[j]? = some e → ∃ m, ents.toList[j]? = some m ∧ VRel κ (avoid κ N H) w e.1 m.key ∧ VRel κ (avoid κ N H) w e.2 m.val := fun j e he => by
              obtain ⟨m, m1, m2⟩ := h4 j e he; exact ⟨m, by simpa using m1, m2⟩
            split at h
            · rename_i j v' hf
              cases h
              rcases findKey_sound hK hk es ents.toList (by simpa using h3) h4' hf with ⟨e1, _⟩ | ⟨j', v'', m, e1, e2, e3, e4, e, e5, e6⟩
              · cases e1
              · simp only [Option.some.injEq, Prod.mk.injEq] at e1
                obtain ⟨rfl, rfl⟩ := e1
                have em : ents[j]? = some m := by simpa using e3
                obtain ⟨m', m1, m2, m3⟩ := h4 j e e5
                rw [em] at m1; cases m1
                have hbits := akeq_bits e6 hk m2
                refine ⟨κ, w.putObj r (.map (ents.modify j fun q => { q with key := b, val := c }) clk), Go.undef, .inr ⟨?_, rfl⟩, Step.putMap hr hi hk' h2 (by simp [h3]) ?_, .undef, fun q _ hf => fresh_put hi q hf⟩
                · simp only [Instr.mapUpdate, Sem.run_bind, hun', Result.andThen_ok, MapKept.run_getObj_map h2, hck, e2, em, Option.map_some, Option.getD_some, Instr.keyThatStays, hbits, if_true, Sem.run_pure, MapKept.run_setObj_map _ h2]
                  rfl
                · intro q e' he'
                  by_cases hq : q = j
                  · subst hq
                    have hlt : q < es.length := by
                      rcases Nat.lt_or_ge q es.length with h | h
                      · exact h
                      · rw [List.getElem?_eq_none h] at e5; cases e5
                    rw [List.getElem?_set_self hlt] at he'; cases he'
                    exact ⟨_, by rw [Array.getElem?_modify, if_pos rfl, em]; rfl, hk, hv⟩
                  · rw [List.getElem?_set_ne (Ne.symm hq)] at he'
                    obtain ⟨m', m1, m2'⟩ := h4 q e' he'
                    exact ⟨m', by rw [Array.getElem?_modify, if_neg (Ne.symm hq)]; exact m1, m2'⟩
            · rename_i hf
              cases h
              rcases findKey_sound hK hk es ents.toList (by simpa using h3) h4' hf with ⟨_, e2⟩ | ⟨j', v'', m, e1, _⟩
              · refine ⟨κ, w.putObj r (.map (ents.push { key := b, val := c, born := clk }) (clk + 1)), Go.undef, .inr ⟨?_, rfl⟩, Step.putMap hr hi hk' h2 (by simp [h3]) ?_, .undef, fun q _ hf => fresh_put hi q hf⟩
                · simp only [Instr.mapUpdate, Sem.run_bind, hun', Result.andThen_ok, MapKept.run_getObj_map h2, hck, e2, Sem.run_pure, MapKept.run_setObj_map _ h2]
                  rfl
                · intro q e' he'
                  rw [List.getElem?_append] at he'
                  split at he'
                  · rename_i hlt
                    obtain ⟨m', m1, m2'⟩ := h4 q e' he'
                    exact ⟨m', by rw [Array.getElem?_push, if_neg (by omega)]; exact m1, m2'⟩
                  · rename_i hge
                    have hq : q = es.length := by
                      rcases Nat.lt_or_ge (q - es.length) 1 with h | h
                      · omega
                      · rw [List.getElem?_eq_none (by simpa using h)] at he'; cases he'
                    subst hq
                    simp at he'; subst he'
                    exact ⟨_, by rw [Array.getElem?_push, if_pos h3.symm], hk, hv⟩
              · cases e1
            · cases h
        · cases h
      · cases h
    · cases h
  · cases h

theorem sound_delete {ts : Array TypeId} {ty t : TypeId} {x k : AV} {a b : Value} {out : Out} (hts : ts[0]? = some t) (hr : HRel κ N H w) (hx : VRel κ (avoid κ N H) w x a) (hk : VRel κ (avoid κ N H) w k b)
    (h : aDelete P (hget H) t x k = some out) : Sound P (do pure (.value (← Builtin.delete_ ts ty #[a, b]))) N κ H w out id := by
  unfold aDelete at h
  split at h
  · rename_i T hT
    split at h
    · rename_i kt et i htd
      split at h
      · rename_i K es hK hi
        split at h
        · rename_i hkb
          have hun := mapElem hT htd
          have hck : ∀ e, (Instr.checkKey e 10000 kt b).run P w = .ok () w := fun e => checkKey_sound hK hkb hk e
          have hun' : (underlying t).run P w = .ok (.map kt et) w := Go.run_underlying hun w
          obtain ⟨r, ents, clk, h1, h2, h3, h4⟩ := hr.rel _ _ hi
          cases hx with
          | mref _ r' hk' =>
            rw [hk'] at h1; cases h1
            have h4' : ∀ (j : Nat) (e : AV × AV), es[j]? = some e → ∃ m, ents.toList[j]? = some m ∧ VRel κ (avoid κ N H) w e.1 m.key ∧ VRel κ (avoid κ N H) w e.2 m.val := fun j e he => by
              obtain ⟨m, m1, m2⟩ := h4 j e he; exact ⟨m, by simpa using m1, m2⟩
            split at h
            · rename_i j v' hf
              cases h
              rcases findKey_sound hK hk es ents.toList (by simpa using h3) h4' hf with ⟨e1, _⟩ | ⟨j', v'', m, e1, e2, e3, e4, e, e5, e6⟩
              · cases e1
              · simp only [Option.some.injEq, Prod.mk.injEq] at e1
                obtain ⟨rfl, rfl⟩ := e1
                have hlt : j < es.length := by
                  rcases Nat.lt_or_ge j es.length with h | h
                  · exact h
                  · rw [List.getElem?_eq_none h] at e5; cases e5
                have hlt' : j < ents.size := by omega
                refine ⟨κ, w.putObj r (.map (ents.eraseIdxIfInBounds j) clk), Go.undef, .inl ?_, Step.putMap hr hi hk' h2 ?_ ?_, .undef, fun q _ hf => fresh_put hi q hf⟩
                · simp [Builtin.delete_, hts, hun', MapKept.run_getObj_map h2, hck, e2, MapKept.run_setObj_map _ h2, World.putObj, Go.undef]
                · simp [Array.eraseIdxIfInBounds, List.length_eraseIdx, hlt, h3]
                · intro q e' he'
                  have hl : ∀ p : MapEntry, (ents.eraseIdxIfInBounds j)[q]? = some p ↔ (ents.toList.eraseIdx j)[q]? = some p := fun p => by
                    simp [Array.eraseIdxIfInBounds, hlt', ← Array.getElem?_toList]
                  rw [List.getElem?_eraseIdx] at he'
                  split at he'
                  · rename_i hq
                    obtain ⟨m', m1, m2'⟩ := h4' q e' he'
                    exact ⟨m', (hl _).2 (by rw [List.getElem?_eraseIdx, if_pos hq]; exact m1), m2'⟩
                  · rename_i hq
                    obtain ⟨m', m1, m2'⟩ := h4' (q + 1) e' he'
                    exact ⟨m', (hl _).2 (by rw [List.getElem?_eraseIdx, if_neg hq]; exact m1), m2'⟩
            · rename_i hf
              cases h
              rcases findKey_sound hK hk es ents.toList (by simpa using h3) h4' hf with ⟨_, e2⟩ | ⟨j', v'', m, e1, _⟩
              · refine ⟨κ, w.putObj r (.map ents clk), Go.undef, .inl ?_, Step.putMap hr hi hk' h2 h3 h4, .undef, fun q _ hf => fresh_put hi q hf⟩
                simp [Builtin.delete_, hts, hun', MapKept.run_getObj_map h2, hck, e2, MapKept.run_setObj_map _ h2, World.putObj, Go.undef]
              · cases e1
            · cases h
        · cases h
      · cases h
    · cases h
  · cases h

theorem sound_index {t : TypeId} {x i y : AV} {a b : Value} (hr : HRel κ N H w) (hx : VRel κ (avoid κ N H) w x a) (hi : VRel κ (avoid κ N H) w i b) (h : aIndex P t x i = some y) :
    Sound P (do pure (.value (← Instr.index t a b))) N κ H w ⟨y, []⟩ id := by
  refine Sound.same hr ?_
  unfold aIndex at h
  split at h
  · rename_i T hT
    split at h
    · rename_i n e cs k j htd
      have hun := arrElem hT htd
      cases hi
      obtain ⟨vs, rfl, h1, h2⟩ := hx.agg_inv
      split at h
      · rename_i E hE
        split at h
        · rename_i hc
          obtain ⟨v, hv1, hv2⟩ := run_part (P := P) (w := w) ⟨h1, h2⟩ h
          refine ⟨v, ?_, hv2⟩
          simp only [Instr.index, asIntOf, Sem.run_bind, Sem.run_pure, Result.andThen_ok, Go.run_underlying hun w]
          rw [if_pos hc]
          simp only [Sem.run_bind, run_sizeOf hE, Result.andThen_ok, hv1]
        · cases h
      · cases h
    · rename_i s k j htd
      have hun := strType hT htd
      cases hi; cases hx
      split at h
      · rename_i h0
        cases hs : s[j.toNat]? with
        | none => rw [hs] at h; cases h
        | some c =>
          rw [hs] at h; cases h
          refine ⟨_, ?_, .int _ _⟩
          simp only [Instr.index, asIntOf, Sem.run_bind, Sem.run_pure, Result.andThen_ok, Go.run_underlying hun w, if_pos h0, hs]
      · cases h
    · cases h
  · cases h

end
end Go.Am
/-
  'aval' AS ONE FUNCTION IS FOLLOWED BY 'execOp'; frames.
-/
namespace Go.Am

section
variable {P : Program} {N : Nat → Prop} {κ : Nat → Option Nat} {H : AHeap} {w : World} {id : Nat}

theorem sound_move {x : AV} {v : Value} (hr : HRel κ N H w) (hx : VRel κ (avoid κ N H) w x v) : Sound P (pure (.value v)) N κ H w ⟨x, []⟩ id :=
  ⟨κ, w, v, .inl rfl, .refl hr, hx, fun _ _ h => h⟩

theorem aval_sound {o : Oper} {ρ : Operand → AV} {σ : Operand → Value} {out : Out} (hr : HRel κ N H w) (hid : Fresh κ H id) (hρ : ∀ x, VRel κ (avoid κ N H) w (ρ x) (σ x))
    (h : aval P o.op ρ (hget H) id = some out) : Sound P (execOp σ o) N κ H w out id := by
  obtain ⟨dst, op, ty, pos, aft, gd⟩ := o
  cases op <;> simp only [aval] at h <;> try (cases h; done)
  case move x => cases h; exact sound_move hr (hρ x)
  case assign x => cases h; exact sound_move hr (hρ x)
  case pick c a b =>
    split at h
    · rename_i t ht
      cases h
      have hc := hρ c
      rw [ht] at hc
      generalize hcv : σ c = cv at hc
      cases hc
      refine ⟨κ, w, if t = true then σ a else σ b, .inl ?_, .refl hr, ?_, fun _ _ h => h⟩
      · simp [execOp, hcv, asBool]
      · cases t
        · exact hρ b
        · exact hρ a
    · cases h
  case alloc e =>
    split at h
    · rename_i T hT; cases h; exact sound_alloc hr hid hT
    · cases h
  case box e x =>
    split at h
    · rename_i cs hc; cases h; exact sound_box hr hid (hρ x) hc
    · cases h
  case build t parts =>
    have := sound_build (P := P) (w := w) (id := id) (l := parts.toList) (ρ := ρ) (σ := σ) hr (fun p _ => hρ p.2) h
    simp only [execOp]
    rw [show (parts.map fun x => (x.1, σ x.2)) = (parts.toList.map fun p => (p.1, σ p.2)).toArray from by rw [← Array.toList_map]]
    exact this
  case buildSlice t len parts =>
    have := sound_buildSlice (P := P) (w := w) (id := id) (l := parts.toList) (ρ := ρ) (σ := σ) hr hid (fun p _ => hρ p.2) h
    simp only [execOp]
    rw [show (parts.map fun x => (x.1, σ x.2)) = (parts.toList.map fun p => (p.1, σ p.2)).toArray from by rw [← Array.toList_map]]
    exact this
  case load t a => exact sound_load hr (hρ a) h
  case store t a x => exact sound_store hr (hρ a) (hρ x) h
  case binOp op t x y ty' =>
    cases hb : abin P op t (ρ x) (ρ y) with
    | none => rw [hb] at h; cases h
    | some r => rw [hb] at h; cases h; exact sound_binOp hr (hρ x) (hρ y) hb
  case unOp op t x =>
    cases hb : aun op (ρ x) with
    | none => rw [hb] at h; cases h
    | some r => rw [hb] at h; cases h; exact sound_unOp hr (hρ x) hb
  case convert s d x =>
    cases hb : aConvert P s d (ρ x) with
    | none => rw [hb] at h; cases h
    | some r => rw [hb] at h; cases h; exact sound_convert hr (hρ x) hb
  case makeInterface t x =>
    cases hb : aMakeIface P t (ρ x) with
    | none => rw [hb] at h; cases h
    | some r => rw [hb] at h; cases h; exact sound_iface hr (hρ x) hb
  case fieldAddr s x f =>
    cases hb : aFieldAddr P s (ρ x) f with
    | none => rw [hb] at h; cases h
    | some r => rw [hb] at h; cases h; exact sound_fieldAddr hr (hρ x) hb
  case field s x f =>
    cases hb : aField P s (ρ x) f with
    | none => rw [hb] at h; cases h
    | some r => rw [hb] at h; cases h; exact sound_field hr (hρ x) hb
  case indexAddr t x i =>
    cases hb : aindexAddr P (hget H) t (ρ x) (ρ i) with
    | none => rw [hb] at h; cases h
    | some r => rw [hb] at h; cases h; exact sound_indexAddr hr (hρ x) (hρ i) hb
  case nilCheck x =>
    cases hb : aNilCheck (ρ x) with
    | none => rw [hb] at h; cases h
    | some r =>
      rw [hb] at h; cases h
      have hx := hρ x
      unfold aNilCheck at hb
      split at hb <;> cases hb
      all_goals
        rename_i e
        rw [e] at hx
        generalize hv : σ x = v at hx
        have hx' := hx
        cases hx
        exact ⟨κ, w, _, .inl (by simp [execOp, hv]), .refl hr, hx', fun _ _ h => h⟩
  case lookup t x k ok =>
    cases hb : aLookup P (hget H) t (ρ x) (ρ k) ok with
    | none => rw [hb] at h; cases h
    | some r => rw [hb] at h; cases h; exact sound_lookup hr (hρ x) (hρ k) hb
  case mapUpdate t m k x => exact sound_mapUpdate hr (hρ m) (hρ k) (hρ x) h
  case insert t m k x => exact sound_mapUpdate hr (hρ m) (hρ k) (hρ x) h
  case index t x i =>
    cases hb : aIndex P t (ρ x) (ρ i) with
    | none => rw [hb] at h; cases h
    | some r => rw [hb] at h; cases h; exact sound_index hr (hρ x) (hρ i) hb
  case makeFunc f fs cs =>
    cases h
    refine ⟨κ, w, .func f (fs.map σ) (cs.map σ), .inl (by simp [execOp, Instr.makeFunc]), .refl hr, ?_, fun _ _ h => h⟩
    refine .fn _ _ _ _ _ (fun i => (fs[i]?.map σ).getD default) (fun i => (cs[i]?.map σ).getD default) (by simp) (by simp) ?_ ?_ ?_ ?_
    all_goals
      intro i c hi
      rw [List.getElem?_map, Array.getElem?_toList] at hi
    · cases hf : fs[i]? with
      | none => rw [hf] at hi; cases hi
      | some x => simp [hf]
    · cases hf : cs[i]? with
      | none => rw [hf] at hi; cases hi
      | some x => simp [hf]
    · cases hf : fs[i]? with
      | none => rw [hf] at hi; cases hi
      | some x => rw [hf] at hi; cases hi; exact hρ x
    · cases hf : cs[i]? with
      | none => rw [hf] at hi; cases hi
      | some x => rw [hf] at hi; cases hi; exact hρ x
  case makeMap t r =>
    cases r with
    | some _ => cases h
    | none =>
      cases h
      refine ⟨_, _, .map (some w.heap.size), .inl ?_, .allocMap hr hid, .mref _ _ withNew_new, fun j hj hf => ⟨?_, ?_⟩⟩
      · simp [execOp, Instr.makeMap]
      all_goals have hj : j ≠ id := hj.resolve_right (by simp)
      · rw [withNew_old hj]; exact hf.1
      · show hget (hset H id _) j = none
        rw [hget_hset, if_neg (Ne.symm hj)]; exact hf.2
  case slice t x lo hi mx =>
    cases mx with
    | some _ => simp only at h; cases h
    | none =>
      simp only at h
      cases hb : aSlice P (hget H) t (ρ x) (lo.map ρ) (hi.map ρ) with
      | none => rw [hb] at h; cases h
      | some r => rw [hb] at h; cases h; exact sound_slice hr hρ (hρ x) hb
  case call c =>
    obtain ⟨cal, args, ts⟩ := c
    cases cal <;> simp only [reduceCtorEq] at h
    rename_i b
    have hrun : ∀ (s : Sem Value), Sound P (do pure (.value (← s))) N κ H w out id → (builtin b ts ty (args.map fun | .const _ => true | _ => false) (args.map σ)) = (do pure (.value (← s))) →
        Sound P (execOp σ ⟨dst, .call ⟨.builtin b, args, ts⟩, ty, pos, aft, gd⟩) N κ H w out id := by
      intro s hs he
      have : execOp σ ⟨dst, .call ⟨.builtin b, args, ts⟩, ty, pos, aft, gd⟩ = builtin b ts ty (args.map fun | .const _ => true | _ => false) (args.map σ) := rfl
      rw [this, he]; exact hs
    have hts : ∀ (l : List TypeId) (i : Nat), ts.toList = l → ts[i]? = l[i]? := fun l i e => by rw [← e, Array.getElem?_toList]
    have hargs : ∀ (l : List Operand), args.toList = l → args.map σ = (l.map σ).toArray := fun l e => by rw [← e, ← Array.toList_map]
    unfold aBuiltin at h
    split at h
    · rename_i t r x e1 e2
      cases hb : aLen P (hget H) t x with
      | none => rw [hb] at h; cases h
      | some y =>
        rw [hb] at h; cases h
        cases hal : args.toList with
        | nil => rw [hal] at e2; simp at e2
        | cons o os =>
          rw [hal] at e2
          simp only [List.map_cons, List.cons.injEq, List.map_eq_nil_iff] at e2
          obtain ⟨rfl, rfl⟩ := e2
          refine hrun _ (sound_len (ts := ts) (ty := ty) (a := σ o) (by rw [hts _ 0 e1]; rfl) hr (hρ o) hb) ?_
          rw [hargs _ hal]; rfl
    · rename_i t u r s x e1 e2
      cases hal : args.toList with
      | nil => rw [hal] at e2; simp at e2
      | cons o os =>
        cases os with
        | nil => rw [hal] at e2; simp at e2
        | cons q os =>
          rw [hal] at e2
          simp only [List.map_cons, List.cons.injEq, List.map_eq_nil_iff] at e2
          obtain ⟨rfl, rfl, rfl⟩ := e2
          refine hrun _ (sound_append (tt := ts) (ty := ty) (a := σ o) (b := σ q) (by rw [hts _ 0 e1]; rfl) (by rw [hts _ 1 e1]; rfl) hr hid (hρ o) (hρ q) h) ?_
          rw [hargs _ hal]; rfl
    · rename_i x r e2
      cases hb : foldO amin2 x r with
      | none => rw [hb] at h; cases h
      | some y =>
        rw [hb] at h; cases h
        cases hal : args.toList with
        | nil => rw [hal] at e2; simp at e2
        | cons o os =>
          rw [hal] at e2
          simp only [List.map_cons, List.cons.injEq] at e2
          obtain ⟨rfl, rfl⟩ := e2
          refine hrun _ (sound_min (ts := ts) (ty := ty) (a := σ o) (as := os.map σ) hr (hρ o) ⟨by simp, fun i c hi => ?_⟩ hb) ?_
          · rw [List.getElem?_map] at hi
            cases hz : os[i]? with
            | none => rw [hz] at hi; cases hi
            | some z => rw [hz] at hi; cases hi; exact ⟨σ z, by simp [hz], hρ z⟩
          · rw [hargs _ hal]; rfl
    · rename_i x r e2
      cases hb : foldO amax2 x r with
      | none => rw [hb] at h; cases h
      | some y =>
        rw [hb] at h; cases h
        cases hal : args.toList with
        | nil => rw [hal] at e2; simp at e2
        | cons o os =>
          rw [hal] at e2
          simp only [List.map_cons, List.cons.injEq] at e2
          obtain ⟨rfl, rfl⟩ := e2
          refine hrun _ (sound_max (ts := ts) (ty := ty) (a := σ o) (as := os.map σ) hr (hρ o) ⟨by simp, fun i c hi => ?_⟩ hb) ?_
          · rw [List.getElem?_map] at hi
            cases hz : os[i]? with
            | none => rw [hz] at hi; cases hi
            | some z => rw [hz] at hi; cases hi; exact ⟨σ z, by simp [hz], hρ z⟩
          · rw [hargs _ hal]; rfl
    · rename_i t r x k e1 e2
      cases hal : args.toList with
      | nil => rw [hal] at e2; simp at e2
      | cons o os =>
        cases os with
        | nil => rw [hal] at e2; simp at e2
        | cons q os =>
          rw [hal] at e2
          simp only [List.map_cons, List.cons.injEq, List.map_eq_nil_iff] at e2
          obtain ⟨rfl, rfl, rfl⟩ := e2
          refine hrun _ (sound_delete (ts := ts) (ty := ty) (a := σ o) (b := σ q) (by rw [hts _ 0 e1]; rfl) hr (hρ o) (hρ q) h) ?_
          rw [hargs _ hal]; rfl
    · cases h
  case extract x i =>
    split at h
    · rename_i vs hv
      have hx := hρ x
      rw [hv] at hx
      obtain ⟨us, hu, h1, h2⟩ := hx.tup_inv
      cases hi : vs[i]? with
      | none => rw [hi] at h; cases h
      | some c =>
        rw [hi] at h; cases h
        obtain ⟨u, hu1, hu2⟩ := h2 _ _ hi
        exact ⟨κ, w, u, .inl (by simp [execOp, Instr.extract, hu, hu1]), .refl hr, hu2, fun _ _ h => h⟩
    · cases h
end

/-! ### Frames -/
def aopd (env : Env) : Operand → AV
  | .tmp t => elook env t
  | .const v => ofVal v
  | .global _ => .any
  | .func f => .fn (.func f) [] []

structure St where
  env : Env
  H : AHeap
  nx : Nat

/-- What stands fast in an activation: blocks of others that are written (N), the world at its start, what of it may change (E), the numbers that came in. -/
structure G where
  N : Nat → Prop
  w0 : World
  E : Nat → Prop
  κ0 : Nat → Option Nat
  n : Nat

/-- What may stand among the deferred calls: marks of loops over functions, whose blocks nobody else knows. -/
def Marks (κ : Nat → Option Nat) (H : AHeap) (n0 : Nat) (ds : List Deferred) (w : World) : Prop :=
  ∃ ms : List Nat, ds = ms.map (fun r => { target := .collected r, args := #[] }) ∧ ms.Nodup ∧ ∀ r ∈ ms, n0 ≤ r ∧ w.heap[r]? = some (.deferred (some [])) ∧ ¬ owned κ H r
theorem Marks.step {N : Nat → Prop} {κ κ' : Nat → Option Nat} {H H' : AHeap} {n0 : Nat} {ds : List Deferred} {w w' : World} (h : Marks κ H n0 ds w) (st : Step N κ H w κ' H' w') : Marks κ' H' n0 ds w' := by
  obtain ⟨ms, h1, h2, h3⟩ := h
  refine ⟨ms, h1, h2, fun r hr => ?_⟩
  obtain ⟨h4, h5, h6⟩ := h3 r hr
  have hlt : r < w.heap.size := by
    rcases Nat.lt_or_ge r w.heap.size with h | h
    · exact h
    · rw [Array.getElem?_eq_none h] at h5; cases h5
  refine ⟨h4, (st.same r hlt h6).trans h5, fun ho => ?_⟩
  rcases st.new r ho with h | h
  · exact h6 h
  · omega

structure Rel (g : G) (κ : Nat → Option Nat) (S : St) (a : Act) (w : World) : Prop where
  h : HRel κ g.N S.H w
  fresh : ∀ id, S.nx ≤ id → Fresh κ S.H id
  sz : a.tmps.size = g.n
  env : ∀ t, VRel κ (avoid κ g.N S.H) w (elook S.env t) (a.tmps.getD t Go.undef)
  ext : ∀ id b, g.κ0 id = some b → κ id = some b
  wle : Wle g.w0 w
  same : ∀ b, b < g.w0.heap.size → ¬ g.E b → w.heap[b]? = g.w0.heap[b]?
  new : ∀ b, owned κ S.H b → g.E b ∨ g.w0.heap.size ≤ b
  defs : Marks κ S.H g.w0.heap.size a.defers w

theorem Rel.opd {g : G} {κ : Nat → Option Nat} {S : St} {a : Act} {w : World} (h : Rel g κ S a w) (x : Operand) : VRel κ (avoid κ g.N S.H) w (aopd S.env x) (a.eval x) := by
  cases x with
  | tmp t => exact h.env t
  | const v => exact ofVal_rel _ _ _ v
  | global g => exact .any _
  | func f => exact .fn _ _ _ _ _ default default rfl rfl (fun i c hi => by simp at hi) (fun i c hi => by simp at hi) (fun i c hi => by simp at hi) (fun i c hi => by simp at hi)

/-- The frame behind an operation. -/
theorem Rel.put {g : G} {κ κ' : Nat → Option Nat} {S : St} {a : Act} {w w' : World} (h : Rel g κ S a w) {H' : AHeap} {nx' : Nat} (st : Step g.N κ S.H w κ' H' w') (hf : ∀ id, nx' ≤ id → Fresh κ' H' id)
    {d : Nat} (hd : d < g.n) {x : AV} {v : Value} (hv : VRel κ' (avoid κ' g.N H') w' x v) : Rel g κ' ⟨(d, x) :: S.env, H', nx'⟩ (a.put (some d) v) w' where
  h := st.hrel
  fresh := hf
  sz := by simp [Act.put, h.sz]
  env := fun t => by
    simp only [elook, Act.put]
    by_cases e : d = t
    · subst e; simp [h.sz, hd]; exact hv
    · rw [if_neg e]
      have := st.v (h.env t)
      simpa [Array.getElem?_setIfInBounds_ne e] using this
  ext := fun id b hb => st.ext _ _ (h.ext id b hb)
  wle := h.wle.trans st.wle
  same := fun b hb hn => by
    rw [st.same b (Nat.lt_of_lt_of_le hb h.wle.1) fun ho => ?_]
    · exact h.same b hb hn
    · rcases h.new b ho with h1 | h1
      · exact hn h1
      · omega
  new := fun b hb => by
    rcases st.new b hb with h1 | h1
    · exact h.new b h1
    · exact .inr (Nat.le_trans h.wle.1 h1)
  defs := h.defs.step st
theorem Rel.put0 {g : G} {κ κ' : Nat → Option Nat} {S : St} {a : Act} {w w' : World} (h : Rel g κ S a w) {H' : AHeap} {nx' : Nat} (st : Step g.N κ S.H w κ' H' w') (hf : ∀ id, nx' ≤ id → Fresh κ' H' id)
    (v : Value) : Rel g κ' ⟨S.env, H', nx'⟩ (a.put none v) w' where
  h := st.hrel
  fresh := hf
  sz := h.sz
  env := fun t => st.v (h.env t)
  ext := fun id b hb => st.ext _ _ (h.ext id b hb)
  wle := h.wle.trans st.wle
  same := fun b hb hn => by
    rw [st.same b (Nat.lt_of_lt_of_le hb h.wle.1) fun ho => ?_]
    · exact h.same b hb hn
    · rcases h.new b ho with h1 | h1
      · exact hn h1
      · omega
  new := fun b hb => by
    rcases st.new b hb with h1 | h1
    · exact h.new b h1
    · exact .inr (Nat.le_trans h.wle.1 h1)
  defs := h.defs.step st

/-- A mark is taken from the deferred calls. -/
theorem Rel.shut1 {P : Program} {g : G} {κ : Nat → Option Nat} {S : St} {a : Act} {w : World} (h : Rel g κ S a w) {d : Deferred} {ds : List Deferred} (hd : a.defers = d :: ds) :
    ∃ r w', d.target = .collected r ∧ (Instr.takeDeferred r).run P w = .ok [] w' ∧ Rel g κ S { a with defers := ds } w' := by
  obtain ⟨ms, h1, h2, h3⟩ := h.defs
  rw [hd] at h1
  cases ms with
  | nil => cases h1
  | cons r ms =>
    simp only [List.map_cons, List.cons.injEq] at h1
    obtain ⟨rfl, rfl⟩ := h1
    obtain ⟨h4, h5, h6⟩ := h3 r List.mem_cons_self
    have hne : ∀ b, b ≠ r → (w.putObj r (.deferred none)).heap[b]? = w.heap[b]? := fun b hb => by
      simp [World.putObj, Array.getElem?_setIfInBounds_ne (Ne.symm hb)]
    have hlt : r < w.heap.size := by
      rcases Nat.lt_or_ge r w.heap.size with h | h
      · exact h
      · rw [Array.getElem?_eq_none h] at h5; cases h5
    have hsz : (w.putObj r (.deferred none)).heap.size = w.heap.size := by simp [World.putObj]
    have hwle : Wle w (w.putObj r (.deferred none)) := by
      refine ⟨by rw [hsz]; exact Nat.le_refl _, fun b c e f hb => ⟨c, f, (hne b ?_).trans hb, rfl⟩, fun b L hb => ⟨L, (hne b ?_).trans hb⟩, rfl, rfl, rfl⟩
      · intro e'; subst e'; rw [h5] at hb; cases hb
      · intro e'; subst e'; rw [h5] at hb; cases hb
    have hv : ∀ {x : AV} {v : Value}, VRel κ (avoid κ g.N S.H) w x v → VRel κ (avoid κ g.N S.H) (w.putObj r (.deferred none)) x v := fun hv =>
      hv.mono0 (fun _ _ h => h) hwle (fun _ _ h => h) fun b _ _ hc => hne b fun e => hc _ (e ▸ h5)
    refine ⟨r, w.putObj r (.deferred none), rfl, ?_, ⟨⟨fun id o ho => ?_, h.h.inj, fun id b hb => by rw [hsz]; exact h.h.bd id b hb, fun b hb => by rw [hsz]; exact h.h.Nbd b hb, h.h.NH⟩,
      h.fresh, h.sz, fun t => hv (h.env t), h.ext, h.wle.trans hwle, fun b hb hn => (hne b (by omega)).trans (h.same b hb hn), h.new, ⟨ms, rfl, (List.nodup_cons.1 h2).2, fun r' hr' => ?_⟩⟩⟩
    · exact run_takeDeferred h5
    · have ho' := h.h.rel id o ho
      have hb : ∀ b, κ id = some b → (w.putObj r (.deferred none)).heap[b]? = w.heap[b]? := fun b hb => hne b fun e => h6 ⟨id, o, ho, e ▸ hb⟩
      cases o with
      | cells cs =>
        rcases ho' with ho' | ⟨blk, c, e, g1, g2, g3, g4⟩
        · exact .inl ho'
        · exact .inr ⟨blk, c, e, g1, (hb blk g1).trans g2, g3, fun i x hx => by obtain ⟨v, v1, v2⟩ := g4 i x hx; exact ⟨v, v1, hv v2⟩⟩
      | map es =>
        obtain ⟨q, ents, clk, g1, g2, g3, g4⟩ := ho'
        exact ⟨q, ents, clk, g1, (hb q g1).trans g2, g3, fun i e he => by obtain ⟨m, m1, m2, m3⟩ := g4 i e he; exact ⟨m, m1, hv m2, hv m3⟩⟩
      | loop L =>
        obtain ⟨q, R, g1, g2, g3, g4, g5, g6, g7, g8, g9⟩ := ho'
        exact ⟨q, R, g1, (hb q g1).trans g2, g3, g4, g5, g6, g7, g8, fun t => hv (g9 t)⟩
    · obtain ⟨e1, e2, e3⟩ := h3 r' (List.mem_cons_of_mem _ hr')
      exact ⟨e1, (hne r' fun e => (List.nodup_cons.1 h2).1 (e ▸ hr')).trans e2, e3⟩

end Go.Am
