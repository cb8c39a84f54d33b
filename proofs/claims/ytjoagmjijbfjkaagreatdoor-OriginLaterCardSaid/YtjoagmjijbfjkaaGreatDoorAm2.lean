/-
  STEPS OF THE MEMORY UNDER THE RELATION: what may change, and what stays known. 'HRel' ties the numbered objects to blocks; 'Step' is a change that touches nothing else.
-/
import Derived.Test.YtjoagmjijbfjkaaGreatDoorGv
namespace Go.Am

def ORel (κ : Nat → Option Nat) (av : Nat → Prop) (w : World) (id : Nat) : AObj → Prop
  | .cells cs => (cs = [] ∧ κ id = none) ∨ ∃ (blk : Nat) (c : Array Value) (e : TypeId), κ id = some blk ∧ w.heap[blk]? = some (.cells c e (0, 0)) ∧ cs.length ≤ c.size ∧
      ∀ (i : Nat) (x : AV), cs[i]? = some x → ∃ v, c[i]? = some v ∧ VRel κ av w x v
  | .map es => ∃ (r : Nat) (ents : Array MapEntry) (clk : Nat), κ id = some r ∧ w.heap[r]? = some (.map ents clk) ∧ ents.size = es.length ∧ Born ents clk ∧
      ∀ (i : Nat) (e : AV × AV), es[i]? = some e → ∃ m : MapEntry, ents[i]? = some m ∧ VRel κ av w e.1 m.key ∧ VRel κ av w e.2 m.val
  | .loop L => ∃ (r : Nat) (R : Loop), κ id = some r ∧ w.heap[r]? = some (.loop R) ∧ R.state = L.state ∧ R.pending = L.pending ∧ R.params = L.params ∧ R.assign = L.assign ∧ R.body = L.body ∧
      R.tmps.size = L.n ∧ ∀ t, VRel κ av w (elook L.env t) (R.tmps.getD t Go.undef)
  | .iter cur left => ∃ (r m : Nat) (ents : Array MapEntry) (clk : Nat) (seen : Array Nat), κ id = some r ∧ w.heap[r]? = some (.mapIter (some m) clk seen clk) ∧ ¬ av m ∧ w.heap[m]? = some (.map ents clk) ∧ Born ents clk ∧
      (ents.toList.filter fun e => !seen.contains e.born).length = left.length ∧
      (∀ (i : Nat) (e : AV × AV), left[i]? = some e → ∃ x : MapEntry, (ents.toList.filter fun e => !seen.contains e.born)[i]? = some x ∧ VRel κ av w e.1 x.key ∧ VRel κ av w e.2 x.val) ∧
      ∀ e : AV × AV, cur = some e → ∃ (s : Array Nat) (x : MapEntry), seen = s.push x.born ∧ x ∈ ents.toList ∧ VRel κ av w e.1 x.key ∧ VRel κ av w e.2 x.val

theorem ORel.mono {κ κ' : Nat → Option Nat} {av av' : Nat → Prop} {w w' : World} (id : Nat)
    (hκ : ∀ id b, κ id = some b → κ' id = some b) (hn : κ id = none → κ' id = none) (hw : Wle w w') (hav : ∀ b, b < w.heap.size → av' b → av b)
    (hs : ∀ b, b < w.heap.size → ¬ av b → w'.heap[b]? = w.heap[b]?)
    (ho : ∀ b, κ id = some b → w'.heap[b]? = w.heap[b]?) {o : AObj} (h : ORel κ av w id o) : ORel κ' av' w' id o := by
  cases o with
  | cells cs =>
    rcases h with ⟨h1, h2⟩ | ⟨blk, c, e, h1, h2, h3, h4⟩
    · exact .inl ⟨h1, hn h2⟩
    · refine .inr ⟨blk, c, e, hκ id _ h1, (ho blk h1).trans h2, h3, fun i x hx => ?_⟩
      obtain ⟨v, hv, hr⟩ := h4 i x hx
      exact ⟨v, hv, hr.mono hκ hw hav hs⟩
  | map es =>
    obtain ⟨r, ents, clk, h1, h2, h3, hB, h4⟩ := h
    refine ⟨r, ents, clk, hκ id _ h1, (ho r h1).trans h2, h3, hB, fun i e he => ?_⟩
    obtain ⟨m, hm, hk, hv⟩ := h4 i e he
    exact ⟨m, hm, hk.mono hκ hw hav hs, hv.mono hκ hw hav hs⟩
  | loop L =>
    obtain ⟨r, R, h1, h2, h3, h4, h5, h6, h7, h8, h9⟩ := h
    exact ⟨r, R, hκ id _ h1, (ho r h1).trans h2, h3, h4, h5, h6, h7, h8, fun t => (h9 t).mono hκ hw hav hs⟩
  | iter cur left =>
    obtain ⟨r, m, ents, clk, seen, h1, h2, h3, h4, hB, h5, h6, h7⟩ := h
    have hlt : m < w.heap.size := by
      rcases Nat.lt_or_ge m w.heap.size with h | h
      · exact h
      · rw [Array.getElem?_eq_none h] at h4; cases h4
    refine ⟨r, m, ents, clk, seen, hκ id _ h1, (ho r h1).trans h2, fun h => h3 (hav m hlt h), (hs m hlt h3).trans h4, hB, h5, fun i e he => ?_, fun e he => ?_⟩
    · obtain ⟨x, hx, hk, hv⟩ := h6 i e he
      exact ⟨x, hx, hk.mono hκ hw hav hs, hv.mono hκ hw hav hs⟩
    · obtain ⟨s, x, hx, hm, hk, hv⟩ := h7 e he
      exact ⟨s, x, hx, hm, hk.mono hκ hw hav hs, hv.mono hκ hw hav hs⟩

/-- The blocks that the numbered objects lie in. -/
def owned (κ : Nat → Option Nat) (H : AHeap) (b : Nat) : Prop := ∃ id o, hget H id = some o ∧ κ id = some b
def avoid (κ : Nat → Option Nat) (N : Nat → Prop) (H : AHeap) (b : Nat) : Prop := N b ∨ owned κ H b

structure HRel (κ : Nat → Option Nat) (N : Nat → Prop) (H : AHeap) (w : World) : Prop where
  rel : ∀ id o, hget H id = some o → ORel κ (avoid κ N H) w id o
  inj : ∀ id id' b o o', hget H id = some o → hget H id' = some o' → κ id = some b → κ id' = some b → id = id'
  bd : ∀ id b, κ id = some b → b < w.heap.size
  Nbd : ∀ b, N b → b < w.heap.size
  NH : ∀ b, N b → ¬ owned κ H b
  gl : GlobOk (avoid κ N H) w

structure Step (N : Nat → Prop) (κ : Nat → Option Nat) (H : AHeap) (w : World) (κ' : Nat → Option Nat) (H' : AHeap) (w' : World) : Prop where
  ext : ∀ id b, κ id = some b → κ' id = some b
  wle : Wle w w'
  same : ∀ b, b < w.heap.size → ¬ owned κ H b → w'.heap[b]? = w.heap[b]?
  new : ∀ b, owned κ' H' b → owned κ H b ∨ w.heap.size ≤ b
  hrel : HRel κ' N H' w'

/-- A number that is not in use. -/
def Fresh (κ : Nat → Option Nat) (H : AHeap) (id : Nat) : Prop := κ id = none ∧ hget H id = none

theorem Step.refl {N : Nat → Prop} {κ : Nat → Option Nat} {H : AHeap} {w : World} (h : HRel κ N H w) : Step N κ H w κ H w :=
  ⟨fun _ _ h => h, .refl w, fun _ _ _ => rfl, fun _ hb => .inl hb, h⟩

theorem Step.trans {N : Nat → Prop} {κ κ' κ'' : Nat → Option Nat} {H H' H'' : AHeap} {w w' w'' : World}
    (h : Step N κ H w κ' H' w') (k : Step N κ' H' w' κ'' H'' w'') : Step N κ H w κ'' H'' w'' where
  ext := fun id b hb => k.ext id b (h.ext id b hb)
  wle := h.wle.trans k.wle
  same := fun b hb hn => by
    refine (k.same b (Nat.lt_of_lt_of_le hb h.wle.1) ?_).trans (h.same b hb hn)
    intro ho
    rcases h.new b ho with h1 | h1
    · exact hn h1
    · omega
  new := fun b hb => by
    rcases k.new b hb with h1 | h1
    · exact h.new b h1
    · exact .inr (Nat.le_trans h.wle.1 h1)
  hrel := k.hrel

theorem Step.hav {N : Nat → Prop} {κ κ' : Nat → Option Nat} {H H' : AHeap} {w w' : World} (h : Step N κ H w κ' H' w')
    (b : Nat) (hb : b < w.heap.size) (ha : avoid κ' N H' b) : avoid κ N H b := by
  rcases ha with ha | ha
  · exact .inl ha
  · rcases h.new b ha with h1 | h1
    · exact .inr h1
    · omega

theorem Step.v {N : Nat → Prop} {κ κ' : Nat → Option Nat} {H H' : AHeap} {w w' : World} (h : Step N κ H w κ' H' w') {a : AV} {v : Value}
    (hv : VRel κ (avoid κ N H) w a v) : VRel κ' (avoid κ' N H') w' a v :=
  hv.mono h.ext h.wle h.hav fun b hb hn => h.same b hb fun ho => hn (.inr ho)

/-- A step is proved once what is turned is told: the one object whose own block may change. -/
theorem Step.mk' {N : Nat → Prop} {κ κ' : Nat → Option Nat} {H H' : AHeap} {w w' : World} (h : HRel κ N H w)
    (ext : ∀ id b, κ id = some b → κ' id = some b) (wle : Wle w w')
    (same : ∀ b, b < w.heap.size → ¬ owned κ H b → w'.heap[b]? = w.heap[b]?)
    (new : ∀ b, owned κ' H' b → owned κ H b ∨ w.heap.size ≤ b)
    (bd : ∀ id b, κ' id = some b → b < w'.heap.size)
    (inj : ∀ id id' b o o', hget H' id = some o → hget H' id' = some o' → κ' id = some b → κ' id' = some b → id = id')
    (turned : ∀ id o, hget H' id = some o → (hget H id = some o ∧ (κ id = none → κ' id = none) ∧ ∀ b, κ id = some b → w'.heap[b]? = w.heap[b]?) ∨
      ORel κ' (avoid κ' N H') w' id o) : Step N κ H w κ' H' w' := by
  have hav : ∀ b, b < w.heap.size → avoid κ' N H' b → avoid κ N H b := by
    intro b hb ha
    rcases ha with ha | ha
    · exact .inl ha
    · rcases new b ha with h1 | h1
      · exact .inr h1
      · omega
  refine ⟨ext, wle, same, new, ⟨fun id o ho => ?_, inj, bd, fun b hb => Nat.lt_of_lt_of_le (h.Nbd b hb) wle.1, fun b hb ho => ?_, fun i => (h.gl i).mono (fun _ _ h => h) wle hav fun b hb hn => same b hb fun ho => hn (.inr ho)⟩⟩
  · rcases turned id o ho with ⟨h1, hn, h2⟩ | h1
    · exact (h.rel id o h1).mono id ext hn wle hav (fun b hb hn => same b hb fun ho => hn (.inr ho)) h2
    · exact h1
  · rcases new b ho with h1 | h1
    · exact h.NH b hb h1
    · have := h.Nbd b hb; omega

/-- Only draws. -/
theorem Step.draw {N : Nat → Prop} {κ : Nat → Option Nat} {H : AHeap} {w w' : World} (h : HRel κ N H w) (hw : w'.heap = w.heap) (hs : w'.os = w.os ∧ w'.tape = w.tape ∧ w'.output = w.output) : Step N κ H w κ H w' :=
  .mk' h (fun _ _ h => h) (.same hw hs) (fun b _ _ => by rw [hw])
    (fun _ hb => .inl hb) (fun id b hb => by rw [hw]; exact h.bd id b hb) h.inj (fun id o ho => .inl ⟨ho, fun h => h, fun b _ => by rw [hw]⟩)

/-- Objects are let go. -/
theorem Step.drop {N : Nat → Prop} {κ : Nat → Option Nat} {H : AHeap} {w : World} (h : HRel κ N H w) (H' : AHeap) (hH : ∀ id o, hget H' id = some o → hget H id = some o) : Step N κ H w κ H' w :=
  .mk' h (fun _ _ h => h) (.refl w) (fun _ _ _ => rfl) (fun _b ⟨id, o, h1, h2⟩ => .inl ⟨id, o, hH id o h1, h2⟩)
    h.bd (fun id id' b o o' h1 h2 h3 h4 => h.inj id id' b o o' (hH _ _ h1) (hH _ _ h2) h3 h4) (fun id o ho => .inl ⟨hH id o ho, fun h => h, fun _ _ => rfl⟩)

theorem alloc_old (w : World) (o : Obj) (b : Nat) (h : b < w.heap.size) : (w.alloc o).heap[b]? = w.heap[b]? := by
  show (w.heap.push o)[b]? = w.heap[b]?
  rw [Array.getElem?_push, if_neg (by omega)]
theorem alloc_new (w : World) (o : Obj) : (w.alloc o).heap[w.heap.size]? = some o := by
  show (w.heap.push o)[w.heap.size]? = some o
  simp
theorem Wle.alloc (w : World) (o : Obj) : Wle w (w.alloc o) := by
  have key : ∀ (b : Nat) (x : Obj), w.heap[b]? = some x → (w.alloc o).heap[b]? = some x := fun b x hb => by
    have : b < w.heap.size := by
      rcases Nat.lt_or_ge b w.heap.size with h | h
      · exact h
      · rw [Array.getElem?_eq_none h] at hb; cases hb
    exact (alloc_old w o b this).trans hb
  exact ⟨by simp, fun b c e f hb => ⟨c, f, key _ _ hb, rfl⟩, fun b L hb => ⟨L, key _ _ hb⟩, rfl, rfl, rfl⟩

/-- A new block for a new number. -/
def withNew (κ : Nat → Option Nat) (id : Nat) (b : Option Nat) (j : Nat) : Option Nat := if j = id then b else κ j
theorem withNew_ext {κ : Nat → Option Nat} {id : Nat} {b : Option Nat} (h : κ id = none) (j c : Nat) (hj : κ j = some c) : withNew κ id b j = some c := by
  unfold withNew; rw [if_neg (by intro e; subst e; rw [h] at hj; cases hj)]; exact hj
theorem withNew_old {κ : Nat → Option Nat} {id j : Nat} {b : Option Nat} (h : j ≠ id) : withNew κ id b j = κ j := by
  unfold withNew; rw [if_neg h]
theorem withNew_new {κ : Nat → Option Nat} {id : Nat} {b : Option Nat} : withNew κ id b id = b := by
  unfold withNew; rw [if_pos rfl]

theorem Step.newObj {N : Nat → Prop} {κ : Nat → Option Nat} {H : AHeap} {w : World} (h : HRel κ N H w) {id : Nat} (hid : Fresh κ H id) (o : Obj) (ao : AObj)
    (hnew : (∀ a v, VRel κ (avoid κ N H) w a v → VRel (withNew κ id (some w.heap.size)) (avoid (withNew κ id (some w.heap.size)) N (hset H id ao)) (w.alloc o) a v) →
      ORel (withNew κ id (some w.heap.size)) (avoid (withNew κ id (some w.heap.size)) N (hset H id ao)) (w.alloc o) id ao) :
    Step N κ H w (withNew κ id (some w.heap.size)) (hset H id ao) (w.alloc o) := by
  have new : ∀ b, owned (withNew κ id (some w.heap.size)) (hset H id ao) b → owned κ H b ∨ w.heap.size ≤ b := by
    rintro b ⟨j, p, hj, hk⟩
    rw [hget_hset] at hj
    by_cases e : id = j
    · subst e; rw [withNew_new] at hk; cases hk; exact .inr (Nat.le_refl _)
    · rw [if_neg e] at hj
      rw [withNew_old (Ne.symm e)] at hk
      exact .inl ⟨j, p, hj, hk⟩
  have same : ∀ b, b < w.heap.size → ¬ owned κ H b → (w.alloc o).heap[b]? = w.heap[b]? := fun b hb _ => alloc_old w o b hb
  refine .mk' h (withNew_ext hid.1) (.alloc w o) same new ?_ ?_ ?_
  · intro j b hb
    by_cases e : j = id
    · subst e; rw [withNew_new] at hb; cases hb; simp
    · rw [withNew_old e] at hb; have := h.bd j b hb; simp; omega
  · intro j j' b p p' hj hj' hb hb'
    rw [hget_hset] at hj hj'
    by_cases e : id = j <;> by_cases e' : id = j'
    · omega
    · subst e; rw [withNew_new] at hb; cases hb
      rw [withNew_old (Ne.symm e')] at hb'
      have := h.bd _ _ hb'; omega
    · subst e'; rw [withNew_new] at hb'; cases hb'
      rw [withNew_old (Ne.symm e)] at hb
      have := h.bd _ _ hb; omega
    · rw [if_neg e] at hj; rw [if_neg e'] at hj'
      rw [withNew_old (Ne.symm e)] at hb
      rw [withNew_old (Ne.symm e')] at hb'
      exact h.inj _ _ _ _ _ hj hj' hb hb'
  · intro j p hj
    rw [hget_hset] at hj
    by_cases e : id = j
    · subst e; rw [if_pos rfl] at hj; cases hj
      refine .inr (hnew fun a v hv => hv.mono (withNew_ext hid.1) (.alloc w o) ?_ (fun b hb hn => same b hb fun ho => hn (.inr ho)))
      intro b hb ha
      rcases ha with ha | ha
      · exact .inl ha
      · rcases new b ha with h1 | h1
        · exact .inr h1
        · omega
    · rw [if_neg e] at hj
      exact .inl ⟨hj, fun hn => by rw [withNew_old (Ne.symm e)]; exact hn, fun b hb => alloc_old w o b (h.bd _ _ hb)⟩

theorem Step.alloc {N : Nat → Prop} {κ : Nat → Option Nat} {H : AHeap} {w : World} (h : HRel κ N H w) {id : Nat} (hid : Fresh κ H id) (c : Array Value) (e : TypeId) (cs : List AV)
    (hl : cs.length ≤ c.size) (hv : ∀ (i : Nat) (x : AV), cs[i]? = some x → ∃ v, c[i]? = some v ∧ VRel κ (avoid κ N H) w x v) :
    Step N κ H w (withNew κ id (some w.heap.size)) (hset H id (.cells cs)) (w.alloc (.cells c e)) :=
  .newObj h hid _ _ fun up => Or.inr ⟨_, c, e, withNew_new, alloc_new w _, hl, fun i x hx => let ⟨v, h1, h2⟩ := hv i x hx; ⟨v, h1, up _ _ h2⟩⟩

theorem Step.allocMap {N : Nat → Prop} {κ : Nat → Option Nat} {H : AHeap} {w : World} (h : HRel κ N H w) {id : Nat} (hid : Fresh κ H id) :
    Step N κ H w (withNew κ id (some w.heap.size)) (hset H id (.map [])) (w.alloc (.map #[] 0)) :=
  .newObj h hid _ _ fun _ => ⟨_, #[], 0, withNew_new, alloc_new w _, rfl, ⟨by simp, fun m hm => by simp at hm⟩, fun i x hx => by simp at hx⟩

/-- A number without a block: nothing is in it yet. -/
theorem Step.own {N : Nat → Prop} {κ : Nat → Option Nat} {H : AHeap} {w : World} (h : HRel κ N H w) {id : Nat} (hid : Fresh κ H id) :
    Step N κ H w κ (hset H id (.cells [])) w := by
  refine .mk' h (fun _ _ h => h) (.refl w) (fun _ _ _ => rfl) ?_ h.bd ?_ ?_
  · rintro b ⟨j, p, hj, hk⟩
    rw [hget_hset] at hj
    by_cases e : id = j
    · subst e; rw [hid.1] at hk; cases hk
    · rw [if_neg e] at hj
      exact .inl ⟨j, p, hj, hk⟩
  · intro j j' b p p' hj hj' hb hb'
    rw [hget_hset] at hj hj'
    by_cases e : id = j
    · subst e; rw [hid.1] at hb; cases hb
    by_cases e' : id = j'
    · subst e'; rw [hid.1] at hb'; cases hb'
    rw [if_neg e] at hj; rw [if_neg e'] at hj'
    exact h.inj _ _ _ _ _ hj hj' hb hb'
  · intro j p hj
    rw [hget_hset] at hj
    by_cases e : id = j
    · subst e; rw [if_pos rfl] at hj; cases hj
      exact .inr (Or.inl ⟨rfl, hid.1⟩)
    · rw [if_neg e] at hj
      exact .inl ⟨hj, fun h => h, fun _ _ => rfl⟩

/-- One owned object is turned in its own block. -/
theorem Step.turn {N : Nat → Prop} {κ : Nat → Option Nat} {H : AHeap} {w w' : World} (h : HRel κ N H w) {id blk : Nat} {o : AObj} (ho : hget H id = some o) (hk : κ id = some blk)
    (hw : Wle w w') (hs : ∀ b, b ≠ blk → w'.heap[b]? = w.heap[b]?) (hz : w'.heap.size = w.heap.size) (ao : AObj)
    (hnew : (∀ a v, VRel κ (avoid κ N H) w a v → VRel κ (avoid κ N (hset H id ao)) w' a v) → ORel κ (avoid κ N (hset H id ao)) w' id ao) :
    Step N κ H w κ (hset H id ao) w' := by
  have own : ∀ b, owned κ (hset H id ao) b → owned κ H b := by
    rintro b ⟨j, p, hj, hb⟩
    rw [hget_hset] at hj
    by_cases e : id = j
    · subst e; exact ⟨id, o, ho, hb⟩
    · rw [if_neg e] at hj; exact ⟨j, p, hj, hb⟩
  have same : ∀ b, b < w.heap.size → ¬ owned κ H b → w'.heap[b]? = w.heap[b]? := fun b _ hn => hs b fun e => hn ⟨id, o, ho, e ▸ hk⟩
  have look : ∀ j p, hget (hset H id ao) j = some p → ∃ p', hget H j = some p' := by
    intro j p hj
    rw [hget_hset] at hj
    by_cases e : id = j
    · exact ⟨o, e ▸ ho⟩
    · rw [if_neg e] at hj; exact ⟨p, hj⟩
  refine .mk' h (fun _ _ h => h) hw same (fun b hb => .inl (own b hb)) ?_ ?_ ?_
  · intro j b hb; rw [hz]; exact h.bd j b hb
  · intro j j' b p p' hj hj' hb hb'
    obtain ⟨q, hq⟩ := look j p hj
    obtain ⟨q', hq'⟩ := look j' p' hj'
    exact h.inj _ _ _ _ _ hq hq' hb hb'
  · intro j p hj
    rw [hget_hset] at hj
    by_cases e : id = j
    · subst e; rw [if_pos rfl] at hj; cases hj
      refine .inr (hnew fun a v hv => hv.mono (fun _ _ h => h) hw ?_ (fun b hb hn => same b hb fun ho => hn (.inr ho)))
      intro b _ ha
      rcases ha with ha | ha
      · exact .inl ha
      · exact .inr (own b ha)
    · rw [if_neg e] at hj
      refine .inl ⟨hj, fun h => h, fun b hb => hs b fun e' => e ?_⟩
      subst e'
      exact h.inj _ _ _ _ _ ho hj hk hb

theorem setCell_heap (w : World) (blk off : Nat) (v : Value) {c : Array Value} {e : TypeId} {f : Nat × Nat} (h : w.heap[blk]? = some (.cells c e f)) :
    (w.setCell ⟨blk, off, none⟩ v).heap[blk]? = some (.cells (c.setIfInBounds off v) e f) := by
  simp [World.setCell, Array.getElem?_modify, h]
theorem setCell_heap_ne (w : World) (blk off b : Nat) (v : Value) (h : b ≠ blk) : (w.setCell ⟨blk, off, none⟩ v).heap[b]? = w.heap[b]? := by
  simp [World.setCell, Array.getElem?_modify, Ne.symm h]
theorem Wle.setCell (w : World) (a : Addr) (v : Value) : Wle w (w.setCell a v) :=
  ⟨by simp, fun b c e f hb => by
    by_cases h : a.block = b
    · refine ⟨(if a.spot.isSome then c else c.setIfInBounds a.off v), f, ?_, by split <;> simp⟩
      simp [World.setCell, Array.getElem?_modify, h, hb]
    · exact ⟨c, f, by simp [World.setCell, Array.getElem?_modify, h, hb], rfl⟩, fun b L hb => by
    by_cases h : a.block = b
    · exact ⟨L, by simp [World.setCell, Array.getElem?_modify, h, hb]⟩
    · exact ⟨L, by simp [World.setCell, Array.getElem?_modify, h, hb]⟩, rfl, rfl, rfl⟩

/-- One cell is written. -/
theorem Step.write {N : Nat → Prop} {κ : Nat → Option Nat} {H : AHeap} {w : World} (h : HRel κ N H w) {id blk off : Nat} {cs : List AV} (ho : hget H id = some (.cells cs))
    (hk : κ id = some blk) (hoff : off < cs.length) {x : AV} {v : Value} (hv : VRel κ (avoid κ N H) w x v) :
    Step N κ H w κ (hset H id (.cells (cs.set off x))) (w.setCell ⟨blk, off, none⟩ v) := by
  rcases h.rel id _ ho with ⟨h1, _⟩ | ⟨blk', c, e, h1, h2, h3, h4⟩
  · subst h1; simp at hoff
  · rw [hk] at h1; cases h1
    refine .turn h ho hk (.setCell w _ v) (fun b hb => setCell_heap_ne w _ _ _ _ hb) (by simp) _ fun up => Or.inr ⟨blk, _, e, hk, setCell_heap w _ _ v h2, by simpa using h3, fun i y hy => ?_⟩
    by_cases hi : i = off
    · subst hi
      rw [List.getElem?_set_self (by omega)] at hy; cases hy
      exact ⟨v, by rw [Array.getElem?_setIfInBounds_self_of_lt (by omega)], up _ _ hv⟩
    · rw [List.getElem?_set_ne (Ne.symm hi)] at hy
      obtain ⟨u, hu, hr⟩ := h4 i y hy
      exact ⟨u, by rw [Array.getElem?_setIfInBounds_ne (Ne.symm hi)]; exact hu, up _ _ hr⟩

end Go.Am
