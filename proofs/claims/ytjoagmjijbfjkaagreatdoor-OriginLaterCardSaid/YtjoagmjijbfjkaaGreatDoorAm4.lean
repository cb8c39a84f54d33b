/-
  THE OPERATIONS' OWN RUNS AGAINST 'aval', first part: types, cells.
-/
import Derived.Test.YtjoagmjijbfjkaaGreatDoorAm3
namespace Go.Am

theorem tinfo_spec {P : Program} {t : TypeId} {T : TI} (h : tinfo P t = some T) : ∃ d i z, P.underlying t = some d ∧ P.info? t = some i ∧ i.zero = some z ∧
    T = { td := tdOf d, size := i.size, bytes := i.bytes, zero := z.cells.toList.map ofCell, cmp := !P.eqGuardType P.depth t, std := match d with | .struct _ => P.stoodInHeld t | _ => false } := by
  unfold tinfo at h
  split at h
  · rename_i d i hd hi
    split at h
    · rename_i z hz
      cases h
      exact ⟨d, i, z, hd, hi, hz, rfl⟩
    · cases h
  · cases h

section
variable {P : Program} {t : TypeId} {T : TI} (h : tinfo P t = some T) (w : World)
include h
theorem run_underlying : ∃ d, (underlying t).run P w = .ok d w ∧ tdOf d = T.td ∧ P.underlying t = some d := by
  obtain ⟨d, i, z, hd, hi, hz, rfl⟩ := tinfo_spec h
  exact ⟨d, by simp [underlying, hd], rfl, hd⟩
theorem run_sizeOf : (sizeOf t).run P w = .ok T.size w := by
  obtain ⟨d, i, z, hd, hi, hz, rfl⟩ := tinfo_spec h
  simp [sizeOf, typeInfo, hi]
theorem run_typeInfo : ∃ i, (typeInfo t).run P w = .ok i w ∧ i.size = T.size ∧ i.bytes = T.bytes := by
  obtain ⟨d, i, z, hd, hi, hz, rfl⟩ := tinfo_spec h
  exact ⟨i, by simp [typeInfo, hi], rfl, rfl⟩
theorem run_zeroValue : ∃ z, (zeroValue t).run P w = .ok z w ∧ z.cells.toList.map ofCell = T.zero := by
  obtain ⟨d, i, z, hd, hi, hz, rfl⟩ := tinfo_spec h
  exact ⟨z, by simp [zeroValue, typeInfo, hi, hz], rfl⟩
theorem run_isAgg : (isAgg t).run P w = .ok T.td.agg w := by
  obtain ⟨d, i, z, hd, hi, hz, rfl⟩ := tinfo_spec h
  simp only [isAgg, underlying, Sem.run_bind, run_program, Result.andThen_ok, hd, Sem.run_pure]
  cases d <;> rfl
end

theorem ofCell_rel (κ : Nat → Option Nat) (av : Nat → Prop) (w : World) (v : Value) : VRel κ av w (ofCell v) v := by
  unfold ofCell
  split <;> first | exact .bool _ | exact .int _ _ | exact .str _ | exact .nil | exact .nptr | exact .nmap | exact .nilFunc | exact .nilIface | exact .any _

theorem VRel.aggOf {κ : Nat → Option Nat} {av : Nat → Prop} {w : World} {cs : List AV} {vs : Array Value} (hl : vs.size = cs.length)
    (h : ∀ (i : Nat) (c : AV), cs[i]? = some c → ∃ u, vs[i]? = some u ∧ VRel κ av w c u) : VRel κ av w (.agg cs) (.agg vs) := by
  refine .agg cs vs (fun i => (vs[i]?).getD default) hl (fun i c hc => ?_) (fun i c hc => ?_)
  · obtain ⟨u, hu, _⟩ := h i c hc; simp [hu]
  · obtain ⟨u, hu, hr⟩ := h i c hc; simpa [hu] using hr
theorem VRel.tupOf {κ : Nat → Option Nat} {av : Nat → Prop} {w : World} {cs : List AV} {vs : Array Value} (hl : vs.size = cs.length)
    (h : ∀ (i : Nat) (c : AV), cs[i]? = some c → ∃ u, vs[i]? = some u ∧ VRel κ av w c u) : VRel κ av w (.tup cs) (.tuple vs) := by
  refine .tup cs vs (fun i => (vs[i]?).getD default) hl (fun i c hc => ?_) (fun i c hc => ?_)
  · obtain ⟨u, hu, _⟩ := h i c hc; simp [hu]
  · obtain ⟨u, hu, hr⟩ := h i c hc; simpa [hu] using hr
theorem VRel.agg_inv {κ : Nat → Option Nat} {av : Nat → Prop} {w : World} {cs : List AV} {v : Value} (h : VRel κ av w (.agg cs) v) :
    ∃ vs, v = .agg vs ∧ vs.size = cs.length ∧ ∀ (i : Nat) (c : AV), cs[i]? = some c → ∃ u, vs[i]? = some u ∧ VRel κ av w c u := by
  cases h with
  | agg cs vs u hl hu hv => exact ⟨vs, rfl, hl, fun i c hc => ⟨u i, hu i c hc, hv i c hc⟩⟩
theorem VRel.tup_inv {κ : Nat → Option Nat} {av : Nat → Prop} {w : World} {cs : List AV} {v : Value} (h : VRel κ av w (.tup cs) v) :
    ∃ vs, v = .tuple vs ∧ vs.size = cs.length ∧ ∀ (i : Nat) (c : AV), cs[i]? = some c → ∃ u, vs[i]? = some u ∧ VRel κ av w c u := by
  cases h with
  | tup cs vs u hl hu hv => exact ⟨vs, rfl, hl, fun i c hc => ⟨u i, hu i c hc, hv i c hc⟩⟩

theorem ofCells_get (cs : Array Value) (i : Nat) (c : AV) (h : (cs.toList.map ofCell)[i]? = some c) : ∃ u, cs[i]? = some u ∧ c = ofCell u := by
  rw [List.getElem?_map, Array.getElem?_toList] at h
  cases hc : cs[i]? with
  | none => rw [hc] at h; cases h
  | some u => rw [hc] at h; cases h; exact ⟨u, rfl, rfl⟩

theorem ofVal_rel (κ : Nat → Option Nat) (av : Nat → Prop) (w : World) (v : Value) : VRel κ av w (ofVal v) v := by
  unfold ofVal
  split
  · rename_i cs
    refine .aggOf (by simp) fun i c hc => ?_
    obtain ⟨u, hu, rfl⟩ := ofCells_get cs i c hc
    exact ⟨u, hu, ofCell_rel κ av w u⟩
  · rename_i vs
    split
    · rename_i h0
      have : vs = #[] := by simpa using h0
      subst this; exact .undef
    · exact .any _
  · exact ofCell_rel κ av w _

/-- Cells known one by one. -/
def CellsAt (κ : Nat → Option Nat) (av : Nat → Prop) (w : World) (a : Addr) (cs : List AV) : Prop :=
  ∀ (j : Nat) (c : AV), cs[j]? = some c → ∃ u, w.cell? (a.add j) = some u ∧ VRel κ av w c u

theorem run_loadCellsFrom {P : Program} {w : World} {a : Addr} (u : Nat → Value) : ∀ (n i : Nat) (acc : Array Value), (∀ j, j < n → w.cell? (a.add (i + j)) = some (u (i + j))) →
    ∃ vs, (loadCellsFrom a i n acc).run P w = .ok vs w ∧ vs.size = acc.size + n ∧ (∀ j, j < acc.size → vs[j]? = acc[j]?) ∧ ∀ j, j < n → vs[acc.size + j]? = some (u (i + j)) := by
  intro n
  induction n with
  | zero => intro i acc _; exact ⟨acc, rfl, rfl, fun _ _ => rfl, fun j hj => absurd hj (Nat.not_lt_zero _)⟩
  | succ n ih =>
    intro i acc h
    have h0 := h 0 (Nat.succ_pos _)
    obtain ⟨vs, h1, h2, h3, h4⟩ := ih (i + 1) (acc.push (u i)) (fun j hj => by have := h (j + 1) (by omega); rw [show i + 1 + j = i + (j + 1) from by omega]; exact this)
    refine ⟨vs, ?_, by rw [h2, Array.size_push]; omega, fun j hj => ?_, fun j hj => ?_⟩
    · simp only [loadCellsFrom, Sem.run_bind, run_load]
      rw [show (a.add i) = a.add (i + 0) from rfl, h0]
      exact h1
    · rw [h3 j (by rw [Array.size_push]; omega), Array.getElem?_push, if_neg (by omega)]
    · cases j with
      | zero =>
        rw [h3 _ (by rw [Array.size_push]; omega)]; simp
      | succ j =>
        have := h4 j (by omega)
        rw [Array.size_push] at this
        rw [show acc.size + (j + 1) = acc.size + 1 + j from by omega, this, show i + 1 + j = i + (j + 1) from by omega]
theorem run_loadCells {P : Program} {κ : Nat → Option Nat} {av : Nat → Prop} {w : World} {a : Addr} {cs : List AV} (h : CellsAt κ av w a cs) (n : Nat) (hn : n ≤ cs.length) :
    ∃ vs, (loadCells a n).run P w = .ok vs w ∧ vs.size = n ∧ ∀ (j : Nat) (c : AV), (cs.take n)[j]? = some c → ∃ u, vs[j]? = some u ∧ VRel κ av w c u := by
  have h' : ∀ j, j < n → ∃ u, w.cell? (a.add (0 + j)) = some u := fun j hj => by
    obtain ⟨u, hu, _⟩ := h j (cs[j]'(by omega)) (List.getElem?_eq_getElem (by omega))
    exact ⟨u, by rw [Nat.zero_add]; exact hu⟩
  obtain ⟨vs, h1, h2, _, h4⟩ := run_loadCellsFrom (P := P) (w := w) (a := a) (fun j => (w.cell? (a.add j)).getD default) n 0 #[] (fun j hj => by
    obtain ⟨u, hu⟩ := h' j hj; rw [Nat.zero_add] at hu ⊢; simp [hu])
  refine ⟨vs, h1, by simpa using h2, fun j c hc => ?_⟩
  have hj : j < n := by
    rcases Nat.lt_or_ge j n with h | h
    · exact h
    · rw [List.getElem?_take, if_neg (by omega)] at hc; cases hc
  rw [List.getElem?_take, if_pos hj] at hc
  obtain ⟨u, hu, hr⟩ := h j c hc
  have := h4 j hj
  simp only [Array.size_empty, Nat.zero_add, hu, Option.getD_some] at this
  exact ⟨u, this, hr⟩

theorem run_loadVar {P : Program} {κ : Nat → Option Nat} {av : Nat → Prop} {w : World} {a : Addr} {cs : List AV} {t : TypeId} {T : TI} {x : AV} (hT : tinfo P t = some T)
    (h : CellsAt κ av w a cs) (hx : aread T cs = some x) : ∃ v, (loadVar t a).run P w = .ok v w ∧ VRel κ av w x v := by
  unfold aread at hx
  simp only [loadVar, Sem.run_bind, run_isAgg hT, Result.andThen_ok]
  by_cases hg : T.td.agg = true
  · rw [if_pos hg] at hx
    split at hx
    · rename_i hn
      cases hx
      obtain ⟨vs, h1, h2, h3⟩ := run_loadCells (P := P) h T.size hn
      refine ⟨.agg vs, ?_, .aggOf (by rw [h2]; simp; omega) h3⟩
      simp only [hg, if_true, Sem.run_bind, run_sizeOf hT, Result.andThen_ok, h1, Sem.run_pure]
    · cases hx
  · rw [if_neg hg] at hx
    obtain ⟨u, hu, hr⟩ := h 0 x hx
    refine ⟨u, ?_, hr⟩
    have : (a.add 0) = a := rfl
    rw [this] at hu
    simp [hg, hu]

theorem cellB_one {κ : Nat → Option Nat} {av : Nat → Prop} {w : World} {x : AV} {v : Value} (h : VRel κ av w x v) (hx : cellB x = true) : v.oneCell' = true := by
  cases h <;> first | rfl | (simp [cellB] at hx; done)

/-- Cells are stored one behind the other into an owned block. -/
theorem run_storeCells {P : Program} {N : Nat → Prop} {κ : Nat → Option Nat} {id blk : Nat} (hk : κ id = some blk) : ∀ (xs : List AV) (vs : List Value) (H : AHeap) (w : World) (cs : List AV) (off i : Nat),
    HRel κ N H w → hget H id = some (.cells cs) → off + i + xs.length ≤ cs.length → (∀ x ∈ xs, cellB x = true) → vs.length = xs.length →
    (∀ (j : Nat) (x : AV), xs[j]? = some x → ∃ v, vs[j]? = some v ∧ VRel κ (avoid κ N H) w x v) →
    ∃ w', (storeCells ⟨blk, off, none⟩ vs i).run P w = .ok () w' ∧ Step N κ H w κ (hset H id (.cells (splice cs (off + i) xs))) w' := by
  intro xs
  induction xs with
  | nil =>
    intro vs H w cs off i hr ho hb _ hl _
    have : vs = [] := by simpa using hl
    subst this
    refine ⟨w, rfl, ?_⟩
    refine ⟨fun _ _ h => h, .refl w, fun _ _ _ => rfl, ?_, ?_⟩
    · rintro b ⟨j, p, hj, hkj⟩
      rw [hget_hset] at hj
      by_cases e : id = j
      · subst e; exact .inl ⟨id, _, ho, hkj⟩
      · rw [if_neg e] at hj; exact .inl ⟨j, p, hj, hkj⟩
    · have look : ∀ j, hget (hset H id (.cells (splice cs (off + i) []))) j = hget H j := fun j => by
        rw [hget_hset]; split
        · rename_i e; subst e; rw [ho]; rfl
        · rfl
      have hav : avoid κ N (hset H id (.cells (splice cs (off + i) []))) = avoid κ N H := by
        funext b; simp only [avoid, owned, look]
      exact ⟨fun j p hj => by rw [hav]; rw [look] at hj; exact hr.rel j p hj, fun j j' b p p' h1 h2 => by rw [look] at h1 h2; exact hr.inj j j' b p p' h1 h2, hr.bd, hr.Nbd,
        fun b hb ⟨j, p, hj, hkj⟩ => hr.NH b hb ⟨j, p, by rw [look] at hj; exact hj, hkj⟩, by rw [hav]; exact hr.gl⟩
  | cons x xs ih =>
    intro vs H w cs off i hr ho hb hB hl hv
    cases vs with
    | nil => simp at hl
    | cons v vs =>
      have hv0 : VRel κ (avoid κ N H) w x v := by obtain ⟨u, hu, h⟩ := hv 0 x rfl; simp at hu; subst hu; exact h
      have hlen : off + i < cs.length := by simp only [List.length_cons] at hb; omega
      obtain ⟨c, e, hblk, hsz⟩ : ∃ c e, w.heap[blk]? = some (.cells c e (0, 0)) ∧ cs.length ≤ c.size := by
        rcases hr.rel id _ ho with ⟨h1, _⟩ | ⟨blk', c, e, h1, h2, h3, _⟩
        · subst h1; simp at hlen
        · rw [hk] at h1; cases h1; exact ⟨c, e, h2, h3⟩
      have st := Step.write hr ho hk hlen hv0
      have hcell : ∃ u, w.cell? ⟨blk, off + i, none⟩ = some u := by
        simp only [World.cell?, hblk]
        have : off + i < c.size := by omega
        exact ⟨c[off + i], by simp [this]⟩
      obtain ⟨u, hu⟩ := hcell
      have hfz : w.frozen? ⟨blk, off + i, none⟩ = false := by simp [World.frozen?, hblk]
      have hadd : (⟨blk, off, none⟩ : Addr).add i = ⟨blk, off + i, none⟩ := by unfold Addr.add; split <;> simp_all
      obtain ⟨w', h1, h2⟩ := ih vs (hset H id (.cells (cs.set (off + i) x))) (w.setCell ⟨blk, off + i, none⟩ v) (cs.set (off + i) x) off (i + 1) st.hrel
        (by rw [hget_hset, if_pos rfl]) (by rw [List.length_set]; simp only [List.length_cons] at hb; omega) (fun y hy => hB y (List.mem_cons_of_mem _ hy)) (by simpa using hl)
        (fun j y hy => by obtain ⟨u, hu, h⟩ := hv (j + 1) y (by simpa using hy); exact ⟨u, by simpa using hu, st.v h⟩)
      refine ⟨w', ?_, ?_⟩
      · simp only [storeCells, Sem.run_bind, hadd]
        rw [run_store P w _ v .plain (cellB_one hv0 (hB x List.mem_cons_self)), hu]
        simp only [hfz, Bool.false_eq_true, if_false, Result.andThen_ok]
        exact h1
      · have := st.trans h2
        rw [hset_hset] at this
        rw [show splice cs (off + i) (x :: xs) = splice (cs.set (off + i) x) (off + (i + 1)) xs from rfl]
        exact this

end Go.Am
