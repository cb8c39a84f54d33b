/-
  'aval' IS FOLLOWED BY THE MODEL's RUN, operation by operation.
-/
import Derived.Test.YtjoagmjijbfjkaaGreatDoorAm5
import Derived.Laws.MakeOwn
namespace Go.Am

section
variable {P : Program} {N : Nat → Prop} {κ : Nat → Option Nat} {H : AHeap} {w : World} {id : Nat}

theorem CRel.of_agg {av : Nat → Prop} {cs : List AV} {vs : Array Value} (h : VRel κ av w (.agg cs) (.agg vs)) : CRel κ av w cs vs := by
  obtain ⟨us, e, h1, h2⟩ := h.agg_inv; cases e; exact ⟨h1, h2⟩
theorem CRel.zero (av : Nat → Prop) (c : Array Value) : CRel κ av w (c.toList.map ofCell) c :=
  ⟨by simp, fun i x hx => by obtain ⟨u, hu, rfl⟩ := ofCells_get c i x hx; exact ⟨u, hu, ofCell_rel _ _ _ _⟩⟩

theorem owned_cells (hr : HRel κ N H w) {i : Nat} {cs : List AV} (hi : hget H i = some (.cells cs)) {blk : Nat} (hk : κ i = some blk) {off : Nat} :
    CellsAt κ (avoid κ N H) w ⟨blk, off, none⟩ (cs.drop off) := by
  intro j c hc
  rw [List.getElem?_drop] at hc
  rcases hr.rel i _ hi with ⟨h1, _⟩ | ⟨b, c', e, h1, h2, h3, h4⟩
  · subst h1; simp at hc
  · rw [hk] at h1; cases h1
    obtain ⟨v, hv, hvr⟩ := h4 _ _ hc
    refine ⟨v, ?_, hvr⟩
    have hadd : (⟨blk, off, none⟩ : Addr).add j = ⟨blk, off + j, none⟩ := by unfold Addr.add; split <;> simp_all
    rw [hadd]
    simp [World.cell?, h2, hv]

theorem sound_load {t : TypeId} {x : AV} {a : Value} {out : Out} (hr : HRel κ N H w) (hx : VRel κ (avoid κ N H) w x a) (h : aLoad P (hget H) t x = some out) :
    Sound P (do pure (.value (← Instr.loadAt t a))) N κ H w out id := by
  unfold aLoad at h
  split at h
  · cases h
  · rename_i T hT
    split at h
    · rename_i cs
      cases hv : aread T cs with
      | none => rw [hv] at h; cases h
      | some y =>
        rw [hv] at h; cases h
        refine .same hr ?_
        cases hx with
        | cptr _ ad u hc hvr =>
          obtain ⟨v, h1, h2⟩ := run_loadVar (P := P) (κ := κ) (av := avoid κ N H) (w := w) (a := ad) hT (fun j c hj => ⟨u j, (hc j c hj).2, (hvr j c hj).up⟩) hv
          exact ⟨v, by simp [Instr.loadAt, Instr.sureAddr, h1], h2⟩
    · rename_i i off
      split at h
      · rename_i cs hi
        cases hv : aread T (cs.drop off) with
        | none => rw [hv] at h; cases h
        | some y =>
          rw [hv] at h; cases h
          refine .same hr ?_
          cases hx with
          | vptr _ _ blk hk =>
            obtain ⟨v, h1, h2⟩ := run_loadVar (P := P) hT (owned_cells hr hi hk) hv
            exact ⟨v, by simp [Instr.loadAt, Instr.sureAddr, h1], h2⟩
      · cases h
    · cases h

theorem sound_store {t : TypeId} {x y : AV} {a v : Value} {out : Out} (hr : HRel κ N H w) (hx : VRel κ (avoid κ N H) w x a) (hy : VRel κ (avoid κ N H) w y v)
    (h : aStore P (hget H) t x y = some out) : Sound P (do Instr.storeAt t a v; pure .skip) N κ H w out id := by
  unfold aStore at h
  split at h
  · rename_i T i off xs hT hxs
    split at h
    · rename_i cs hi
      split at h
      · rename_i hcond
        obtain ⟨hc1, hc2, hc3⟩ := hcond
        cases h
        obtain ⟨hs1, hs2⟩ := acells_rel hy hxs
        cases hx with
        | vptr _ _ blk hk =>
          obtain ⟨w', h1, h2⟩ := run_storeCells (P := P) hk xs v.cells.toList H w cs off 0 hr hi (by omega) (fun z hz => by rw [List.all_eq_true] at hc3; exact hc3 z hz)
            (by simpa using hs1) (fun j z hz => by obtain ⟨u, hu, hur⟩ := hs2 j z hz; exact ⟨u, by simpa using hu, hur⟩)
          refine ⟨κ, w', Go.undef, .inr ⟨?_, rfl⟩, h2, .undef, fun j _ hf => ⟨hf.1, ?_⟩⟩
          · simp only [Instr.storeAt, Instr.sureAddr, storeVar, Sem.run_bind, Sem.run_pure, Result.andThen_ok, run_sizeOf hT]
            rw [if_neg (by rw [hs1, hc1]; exact fun h => h rfl)]
            simp [h1]
          · show hget (hset H i _) j = none
            rw [hget_hset]
            split
            · rename_i e; subst e; rw [hf.2] at hi; cases hi
            · exact hf.2
      · cases h
    · cases h
  · cases h

theorem sound_alloc {e : TypeId} {T : TI} (hr : HRel κ N H w) (hid : Fresh κ H id) (hT : tinfo P e = some T) :
    Sound P (do pure (.value (← Instr.alloc e true (.tuple #[])))) N κ H w ⟨.vptr id 0, [(id, some (.cells T.zero))]⟩ id := by
  obtain ⟨z, h1, h2⟩ := run_zeroValue hT w
  have hcr := CRel.zero (κ := κ) (w := w) (avoid κ N H) z.cells
  rw [h2] at hcr
  refine .alloc (c := z.cells) (e := e) (v := .pointer (some ⟨w.heap.size, 0, none⟩)) hr hid ?_ (Nat.le_of_eq hcr.1.symm) hcr.2 (.vptr _ _ _ withNew_new)
  simp [Instr.alloc, h1, newVar, newRow]

theorem sound_box {e : TypeId} {x : AV} {v : Value} {cs : List AV} (hr : HRel κ N H w) (hid : Fresh κ H id) (hx : VRel κ (avoid κ N H) w x v) (hc : acells x = some cs) :
    Sound P (do pure (.value (← Instr.box e v))) N κ H w ⟨.vptr id 0, [(id, some (.cells cs))]⟩ id := by
  obtain ⟨hs1, hs2⟩ := acells_rel hx hc
  refine .alloc (c := v.cells) (e := e) (v := .pointer (some ⟨w.heap.size, 0, none⟩)) hr hid ?_ (Nat.le_of_eq hs1.symm) hs2 (.vptr _ _ _ withNew_new)
  simp [Instr.box, newVar, newRow]

theorem fields_mapM {fs : List Field} {w : World} (hall : ∀ f ∈ fs, ∃ U, tinfo P f.type = some U) :
    ∃ ps : List (Nat × Nat), ((fs.mapM fun f => do pure (f.offset, ← sizeOf f.type) : Sem _)).run P w = .ok ps w ∧ ps.length = fs.length ∧
      ∀ (i : Nat) (f : Field), fs[i]? = some f → ∃ U, tinfo P f.type = some U ∧ ps[i]? = some (f.offset, U.size) := by
  induction fs with
  | nil => exact ⟨[], rfl, rfl, fun i f h => by simp at h⟩
  | cons f fs ih =>
    obtain ⟨U, hU⟩ := hall f List.mem_cons_self
    obtain ⟨ps, h1, h2, h3⟩ := ih (fun g hg => hall g (List.mem_cons_of_mem _ hg))
    refine ⟨(f.offset, U.size) :: ps, ?_, by simp [h2], fun i g hi => ?_⟩
    · rw [List.mapM_cons]
      simp only [Sem.run_bind, run_sizeOf hU, Result.andThen_ok, Sem.run_pure]
      rw [h1]; rfl
    · cases i with
      | zero => simp at hi; subst hi; exact ⟨U, hU, rfl⟩
      | succ i => simpa using h3 i g (by simpa using hi)


theorem structFields {t : TypeId} {T : TI} (hT : tinfo P t = some T) {fs : List (Nat × TypeId × Bool)} (hs : T.td = .struct fs) :
    ∃ Fs : Array Field, P.underlying t = some (.struct Fs) ∧ fs = Fs.toList.map fun f => (f.offset, f.type, f.name == "_") := by
  obtain ⟨d, i, z, hd, hi, hz, rfl⟩ := tinfo_spec hT
  cases d with
  | struct Fs => exact ⟨Fs, hd, by simpa [tdOf] using hs.symm⟩
  | _ => simp [tdOf] at hs
theorem arrElem {t : TypeId} {T : TI} (hT : tinfo P t = some T) {n : Nat} {e : TypeId} (hs : T.td = .arr n e) : P.underlying t = some (.array n e) := by
  obtain ⟨d, i, z, hd, hi, hz, rfl⟩ := tinfo_spec hT
  cases d with
  | array m f => simp [tdOf] at hs; rw [hd]; simp [hs]
  | _ => simp [tdOf] at hs
theorem sliceElem {t : TypeId} {T : TI} (hT : tinfo P t = some T) {e : TypeId} (hs : T.td = .slice e) : P.underlying t = some (.slice e) := by
  obtain ⟨d, i, z, hd, hi, hz, rfl⟩ := tinfo_spec hT
  cases d with
  | slice f => simp [tdOf] at hs; rw [hd]; simp [hs]
  | _ => simp [tdOf] at hs
theorem zeroRel {t : TypeId} {T : TI} (hT : tinfo P t = some T) (w : World) (av : Nat → Prop) : ∃ z, (zeroValue t).run P w = .ok z w ∧ CRel κ av w T.zero z.cells := by
  obtain ⟨z, h1, h2⟩ := run_zeroValue hT w
  exact ⟨z, h1, h2 ▸ CRel.zero av z.cells⟩

theorem sound_build {t : TypeId} {l : List (Nat × Operand)} {ρ : Operand → AV} {σ : Operand → Value} {out : Out} (hr : HRel κ N H w) (hp : ∀ p ∈ l, VRel κ (avoid κ N H) w (ρ p.2) (σ p.2))
    (h : aBuild P t (l.map fun p => (p.1, ρ p.2)) = some out) : Sound P (do pure (.value (← Instr.build t (l.map fun p => (p.1, σ p.2)).toArray))) N κ H w out id := by
  unfold aBuild at h
  split at h
  · rename_i T hT
    obtain ⟨z, hz1, hz2⟩ := zeroRel (κ := κ) hT w (avoid κ N H)
    split at h
    · rename_i fs hfs
      split at h
      · rename_i hall
        obtain ⟨Fs, hF1, rfl⟩ := structFields hT hfs
        cases hfill : afill (fieldPl P (Fs.toList.map fun f => (f.offset, f.type, f.name == "_"))) T.zero (l.map fun p => (p.1, ρ p.2)) with
        | none => rw [hfill] at h; cases h
        | some cs =>
          rw [hfill] at h; cases h
          refine .same hr ?_
          obtain ⟨ws, hw1, hw2⟩ := CRel.fill l _ _ _ hz2 hp hfill
          obtain ⟨ps, hp1, hp2, hp3⟩ := fields_mapM (P := P) (w := w) (fs := Fs.toList) (fun f hf => by
            have := List.all_eq_true.1 hall (f.offset, f.type, f.name == "_") (List.mem_map.2 ⟨f, hf, rfl⟩)
            exact Option.isSome_iff_exists.1 this)
          refine ⟨.agg ws, ?_, .aggOf hw2.1 hw2.2⟩
          have hplace : (fun i => ps.toArray[i]?) = fieldPl P (Fs.toList.map fun f => (f.offset, f.type, f.name == "_")) := by
            funext i
            unfold fieldPl
            simp only [List.getElem?_toArray, List.getElem?_map]
            cases hi : Fs.toList[i]? with
            | none => simp only [Option.map_none]; rw [List.getElem?_eq_none_iff] at hi ⊢; omega
            | some f => obtain ⟨U, hU, hps⟩ := hp3 i f hi; simp only [Option.map_some, hU, hps]
          have hm : (Fs.mapM fun f => (do pure (f.offset, ← sizeOf f.type) : Sem (Nat × Nat))).run P w = .ok ps.toArray w := by
            rw [Array.mapM_eq_mapM_toList]
            simp only [Sem.run_map]
            rw [hp1]; rfl
          simp only [Instr.build, Sem.run_bind, hz1, Result.andThen_ok, underlying, run_program, hF1, Sem.run_pure] at hm ⊢
          rw [hm]
          simp only [Result.andThen_ok]
          rw [hplace, hw1]
          rfl
      · cases h
    · rename_i n e hfs
      split at h
      · rename_i E hE
        cases hfill : afill (fun i => some (i * E.size, E.size)) T.zero (l.map fun p => (p.1, ρ p.2)) with
        | none => rw [hfill] at h; cases h
        | some cs =>
          rw [hfill] at h; cases h
          refine .same hr ?_
          obtain ⟨ws, hw1, hw2⟩ := CRel.fill l _ _ _ hz2 hp hfill
          refine ⟨.agg ws, ?_, .aggOf hw2.1 hw2.2⟩
          simp only [Instr.build, Sem.run_bind, hz1, Result.andThen_ok, underlying, run_program, arrElem hT hfs, Sem.run_pure, run_sizeOf hE, hw1]
      · cases h
    · cases h
  · cases h

theorem sound_buildSlice {t : TypeId} {len : Nat} {l : List (Nat × Operand)} {ρ : Operand → AV} {σ : Operand → Value} {out : Out} (hr : HRel κ N H w) (hid : Fresh κ H id) (hp : ∀ p ∈ l, VRel κ (avoid κ N H) w (ρ p.2) (σ p.2))
    (h : aBuildSlice P id t len (l.map fun p => (p.1, ρ p.2)) = some out) : Sound P (do pure (.value (← Instr.buildSlice t len (l.map fun p => (p.1, σ p.2)).toArray))) N κ H w out id := by
  unfold aBuildSlice at h
  split at h
  · rename_i T hT
    split at h
    · rename_i e hfs
      split at h
      · rename_i E hE
        split at h
        · rename_i hcond
          obtain ⟨hc1, hc2⟩ := hcond
          obtain ⟨z, hz1, hz2⟩ := zeroRel (κ := κ) hE w (avoid κ N H)
          cases hfill : afill (fun i => some (i * E.size, E.size)) (rep len E.zero) (l.map fun p => (p.1, ρ p.2)) with
          | none => rw [hfill] at h; cases h
          | some cs =>
            rw [hfill] at h; cases h
            have hrep := rep_rel hz2 len
            rw [hc2] at hrep
            obtain ⟨ws, hw1, hw2⟩ := CRel.fill l _ _ _ hrep hp hfill
            have hsz : ws.size = len * E.size := by
              rw [hw2.1]
              have : ∀ (pl : Nat → Option (Nat × Nat)) (ps : List (Nat × AV)) (a b : List AV), afill pl a ps = some b → b.length = a.length := by
                intro pl ps
                induction ps with
                | nil => intro a b hab; simp only [afill, Option.some.injEq] at hab; rw [hab]
                | cons p ps ih =>
                  intro a b hab
                  obtain ⟨i, x⟩ := p
                  simp only [afill] at hab
                  split at hab
                  · split at hab
                    · rw [ih _ _ hab, splice_length]
                    · cases hab
                  · cases hab
              rw [this _ _ _ _ hfill]
              have := hrep.1
              simp only [Array.size_map, Array.size_range] at this
              exact this.symm
            refine .alloc (c := ws) (e := e) (v := .slice (some ⟨w.heap.size, 0, none⟩) len len) hr hid ?_ (Nat.le_of_eq hw2.1.symm) hw2.2
              (.rsl _ _ _ _ len w.heap.size ws e (0, 0) withNew_new (Nat.le_refl _) (alloc_new w _) (by rw [hsz]; omega))
            simp only [Instr.buildSlice, Sem.run_bind, underlying, run_program, Result.andThen_ok, sliceElem hT hfs, Sem.run_pure, run_sizeOf hE]
            rw [if_neg (by omega)]
            by_cases h0 : len * E.size = 0
            · have e0 : ∀ f : Nat → Value, (Array.range (len * E.size)).map f = #[] := by intro f; rw [h0]; simp
              rw [if_pos h0]
              rw [e0] at hw1
              simp only [Sem.run_bind, Sem.run_pure, Result.andThen_ok, e0, hw1]
              simp [newRow]
            · simp only [h0, if_false, Sem.run_bind, hz1, Result.andThen_ok, Sem.run_pure]
              simp [hw1, newRow]
        · cases h
      · cases h
    · cases h
  · cases h

theorem sound_makeSlice {t : TypeId} {l c : AV} {a b : Value} {out : Out} (hr : HRel κ N H w) (hid : Fresh κ H id) (hl : VRel κ (avoid κ N H) w l a) (hc : VRel κ (avoid κ N H) w c b)
    (h : aMakeSlice P id t l c = some out) : Sound P (do pure (.value (← Instr.makeSlice t a b))) N κ H w out id := by
  unfold aMakeSlice at h
  split at h
  · rename_i k n k' m
    cases hl
    cases hc
    split at h
    · rename_i T hT
      split at h
      · rename_i e hfs
        split at h
        · rename_i E hE
          split at h
          · rename_i hcond
            obtain ⟨h1, h2, h3, h4, h5, h6⟩ := hcond
            cases h
            subst h1
            obtain ⟨d, i, z, hd, hi, hz, rfl⟩ := tinfo_spec hE
            simp only at h4 h5 h6
            have hrun := run_makeSlice (P := P) (w := w) t e i z (sliceElem hT hfs) hi hz k k' n n h2 (Int.le_refl _) h4 h5 (by omega)
            have hrep := rep_rel (CRel.zero (κ := κ) (w := w) (avoid κ N H) z.cells) n.toNat
            rw [h6] at hrep
            refine .alloc (c := madeCells z.cells (n.toNat * i.size)) (e := e) (v := .slice (some ⟨w.heap.size, 0, none⟩) n.toNat n.toNat) hr hid hrun (Nat.le_of_eq hrep.1.symm) hrep.2
              (.rsl _ _ _ _ n.toNat w.heap.size (madeCells z.cells (n.toNat * i.size)) e (0, 0) withNew_new (Nat.le_refl _) (alloc_new w _) (by rw [size_madeCells]; simp))
          · cases h
        · cases h
      · cases h
    · cases h
  · cases h
theorem sound_fieldAddr {s : TypeId} {x y : AV} {f : Nat} {a : Value} (hr : HRel κ N H w) (hx : VRel κ (avoid κ N H) w x a) (h : aFieldAddr P s x f = some y) :
    Sound P (do pure (.value (← Instr.fieldAt s a f))) N κ H w ⟨y, []⟩ id := by
  refine .same hr ?_
  unfold aFieldAddr at h
  split at h
  · rename_i T hT
    split at h
    · rename_i fs hfs
      obtain ⟨Fs, hF1, rfl⟩ := structFields hT hfs
      split at h
      · rename_i off t bl hf
        split at h
        · rename_i U hU
          split at h
          · cases h
          · rename_i hz
            rw [List.getElem?_map] at hf
            cases hF : Fs.toList[f]? with
            | none => rw [hF] at hf; cases hf
            | some F =>
              rw [hF] at hf
              simp only [Option.map_some, Option.some.injEq, Prod.mk.injEq] at hf
              obtain ⟨rfl, rfl, _⟩ := hf
              have hF' : Fs[f]? = some F := by rw [← Array.getElem?_toList]; exact hF
              have hrun : ∀ b : Addr, (Instr.fieldAt s (.pointer (some b)) f).run P w = .ok (.pointer (some (b.add F.offset))) w := by
                intro b
                simp only [Instr.fieldAt, Sem.run_bind, underlying, run_program, Result.andThen_ok, hF1, Sem.run_pure, hF', Instr.sureAddr, fieldPlace, run_sizeOf hU]
                rw [if_neg hz]; rfl
              split at h
              · rename_i cs
                cases h
                cases hx with
                | cptr _ b u hc hv =>
                  refine ⟨_, hrun b, .cptr _ _ (fun j => u (F.offset + j)) (fun j c hj => ?_) (fun j c hj => ?_)⟩
                  · rw [List.getElem?_drop] at hj
                    rw [add_block, add_add]
                    exact hc _ _ hj
                  · rw [List.getElem?_drop] at hj
                    exact hv _ _ hj
              · rename_i i o
                cases h
                cases hx with
                | vptr _ _ blk hk =>
                  refine ⟨_, hrun _, ?_⟩
                  have hadd : (⟨blk, o, none⟩ : Addr).add F.offset = ⟨blk, o + F.offset, none⟩ := by unfold Addr.add; split <;> simp_all
                  rw [hadd]
                  exact .vptr _ _ _ hk
              · cases h
        · cases h
      · cases h
    · cases h
  · cases h

theorem run_part {t : TypeId} {cs : List AV} {vs : Array Value} {off : Nat} {x : AV} {av : Nat → Prop} (hc : CRel κ av w cs vs) (h : apart P t cs off = some x) :
    ∃ v, (part t vs off).run P w = .ok v w ∧ VRel κ av w x v := by
  unfold apart at h
  split at h
  · rename_i T hT
    simp only [part, Sem.run_bind, run_isAgg hT, Result.andThen_ok]
    by_cases hg : T.td.agg = true
    · rw [if_pos hg] at h
      split at h
      · rename_i hn
        cases h
        refine ⟨.agg (vs.extract off (off + T.size)), by simp [hg, run_sizeOf hT], .aggOf (by simp [hc.1]; omega) fun i c hi => ?_⟩
        have hlt : i < T.size := by
          rcases Nat.lt_or_ge i T.size with h | h
          · exact h
          · rw [List.getElem?_take, if_neg (by omega)] at hi; cases hi
        rw [List.getElem?_take, if_pos hlt, List.getElem?_drop] at hi
        obtain ⟨u, hu, hr⟩ := hc.2 _ _ hi
        refine ⟨u, ?_, hr⟩
        rw [Array.getElem?_extract, if_pos (by rw [hc.1]; omega)]
        exact hu
      · cases h
    · rw [if_neg hg] at h
      obtain ⟨u, hu, hr⟩ := hc.2 _ _ h
      exact ⟨u, by simp [hg, hu], hr⟩
  · cases h

theorem sound_field {s : TypeId} {x y : AV} {f : Nat} {a : Value} (hr : HRel κ N H w) (hx : VRel κ (avoid κ N H) w x a) (h : aField P s x f = some y) :
    Sound P (do pure (.value (← Instr.field s a f))) N κ H w ⟨y, []⟩ id := by
  refine .same hr ?_
  unfold aField at h
  split at h
  · rename_i T hT
    split at h
    · rename_i fs hfs
      obtain ⟨Fs, hF1, rfl⟩ := structFields hT hfs
      split at h
      · rename_i off t bl hf
        rw [List.getElem?_map] at hf
        cases hF : Fs.toList[f]? with
        | none => rw [hF] at hf; cases hf
        | some F =>
          rw [hF] at hf
          simp only [Option.map_some, Option.some.injEq, Prod.mk.injEq] at hf
          obtain ⟨rfl, rfl, _⟩ := hf
          have hF' : Fs[f]? = some F := by rw [← Array.getElem?_toList]; exact hF
          split at h
          · rename_i cs
            obtain ⟨vs, rfl, h1, h2⟩ := hx.agg_inv
            obtain ⟨v, hv, hvr⟩ := run_part (P := P) (w := w) ⟨h1, h2⟩ h
            exact ⟨v, by simp [Instr.field, underlying, hF1, hF', asAgg, hv], hvr⟩
          · cases h
      · cases h
    · cases h
  · cases h

theorem sound_convert {s d : TypeId} {x y : AV} {a : Value} (hr : HRel κ N H w) (hx : VRel κ (avoid κ N H) w x a) (h : aConvert P s d x = some y) :
    Sound P (do pure (.value (← convert s d a))) N κ H w ⟨y, []⟩ id := by
  refine .same hr ?_
  unfold aConvert at h
  split at h
  · rename_i S D hS hD
    split at h
    · rename_i k k' n hk
      cases h
      obtain ⟨e, he1, _, he2⟩ := run_underlying hS w
      obtain ⟨d', i, z, hd, hi, hz, rfl⟩ := tinfo_spec hD
      cases hx
      cases d' <;> simp [tdOf] at hk
      subst hk
      exact ⟨_, by simp [convert, underlying, he2, hd, Conv.intToInt], .int _ _⟩
    · cases h
  · cases h

theorem sound_iface {t : TypeId} {x y : AV} {a : Value} (hr : HRel κ N H w) (hx : VRel κ (avoid κ N H) w x a) (h : aMakeIface P t x = some y) :
    Sound P (do pure (.value (← Instr.makeInterface t a))) N κ H w ⟨y, []⟩ id := by
  refine .same hr ?_
  unfold aMakeIface at h
  split at h
  · rename_i T hT
    split at h
    · cases h
    · rename_i hne
      cases h
      obtain ⟨d, i, z, hd, hi, hz, rfl⟩ := tinfo_spec hT
      refine ⟨_, ?_, .iface t x a hx⟩
      simp only [Instr.makeInterface, Sem.run_bind, underlying, run_program, Result.andThen_ok, hd, Sem.run_pure]
      cases d <;> first | rfl | (simp [tdOf] at hne)
  · cases h
end
end Go.Am
