import Derived.Test.YtiggnliiigcjaaaDoorAm24
import Derived.Test.YtiggnliiigcjaaaDoorE5
/-
  SLICES OF ONE's OWN THAT LIE IN A MAP, OR IN A SLICE OF SLICES: each at its number, whatever number it was made with.
-/
namespace Go.Am
section
variable {P : Program} {g : G} {S : St}
/-- A value, but for the number of a slice. -/
def RW (c m : Nat) (σ : Nat → Option Nat) (x y : AV) : Prop :=
  x = .any ∨ (x = y ∧ x.ok c = true) ∨ ∃ j off len esz, j < m ∧ x = .rsl (c + j) off len esz ∧ ((∃ b, σ j = some b ∧ y = .rsl b off len esz) ∨ (len = 0 ∧ y = .nil))
/-- A state that says less: the slices of numbers σ j under c + j, wherever their references lie. -/
structure St.renM (c m : Nat) (σ : Nat → Option Nat) (S' S : St) : Prop where
  nx : S'.nx = c + m
  top : ∀ id o, hget S'.H id = some o → id < c + m
  env : ∀ t, RW c m σ (elook S'.env t) (elook S.env t)
  low : ∀ id o, hget S'.H id = some o → id < c → (hget S.H id = some o ∧ okO c o = true) ∨
    (∃ xs ys : List AV, o = .cells xs ∧ hget S.H id = some (.cells ys) ∧ xs.length = ys.length ∧ ∀ (i : Nat) (x : AV), xs[i]? = some x → ∃ y, ys[i]? = some y ∧ RW c m σ x y) ∨
    ∃ xs ys : List (AV × AV), o = .map xs ∧ hget S.H id = some (.map ys) ∧ xs.length = ys.length ∧ ∀ (i : Nat) (x : AV × AV), xs[i]? = some x → ∃ y, ys[i]? = some y ∧ RW c m σ x.1 y.1 ∧ RW c m σ x.2 y.2
  slot : ∀ j o, j < m → hget S'.H (c + j) = some o → (∃ b cs, σ j = some b ∧ hget S.H b = some o ∧ o = .cells cs ∧ okL c cs = true) ∨ (σ j = none ∧ o = .cells [])
  inj : ∀ j j' b, j < m → j' < m → σ j = some b → σ j' = some b → j = j'
  hi : ∀ j b, j < m → σ j = some b → c ≤ b
def kM (κ : Nat → Option Nat) (c m : Nat) (σ : Nat → Option Nat) (id : Nat) : Option Nat :=
  if id < c then κ id else if id < c + m then (match σ (id - c) with | some b => κ b | none => none) else none
theorem Rel.renM {κ : Nat → Option Nat} {S' : St} {a : Act} {w : World} {c m : Nat} {σ : Nat → Option Nat} (h : Rel g κ S a w) (hr : St.renM c m σ S' S) (hg : g.low c) : Rel g (kM κ c m σ) S' a w := by
  obtain ⟨hnx, htop, henv, hlow, hslot, hinj, hhi⟩ := hr
  have klt : ∀ id, id < c → kM κ c m σ id = κ id := fun id hid => by unfold kM; rw [if_pos hid]
  have kj : ∀ j b, j < m → σ j = some b → kM κ c m σ (c + j) = κ b := fun j b hj hb => by
    unfold kM; rw [if_neg (by omega), if_pos (by omega), Nat.add_sub_cancel_left, hb]
  have kn : ∀ j, j < m → σ j = none → kM κ c m σ (c + j) = none := fun j hj hb => by
    unfold kM; rw [if_neg (by omega), if_pos (by omega), Nat.add_sub_cancel_left, hb]
  have kgt : ∀ id, c + m ≤ id → kM κ c m σ id = none := fun id hid => by
    unfold kM; rw [if_neg (by omega), if_neg (by omega)]
  generalize kM κ c m σ = κ' at klt kj kn kgt ⊢
  -- where an object of the new state lies in the old one
  have old : ∀ id o x, hget S'.H id = some o → κ' id = some x → ∃ id' o', hget S.H id' = some o' ∧ κ id' = some x ∧ ((id < c ∧ id' = id) ∨ ∃ j, j < m ∧ id = c + j ∧ σ j = some id') := fun id o x ho hx => by
    by_cases h1 : id < c
    · rw [klt id h1] at hx
      rcases hlow id o ho h1 with ⟨h2, _⟩ | ⟨xs, ys, _, h2, _⟩ | ⟨xs, ys, _, h2, _⟩
      · exact ⟨id, _, h2, hx, .inl ⟨h1, rfl⟩⟩
      · exact ⟨id, _, h2, hx, .inl ⟨h1, rfl⟩⟩
      · exact ⟨id, _, h2, hx, .inl ⟨h1, rfl⟩⟩
    · have h2 := htop id o ho
      obtain ⟨j, rfl⟩ : ∃ j, id = c + j := ⟨id - c, by omega⟩
      have hj : j < m := by omega
      rcases hslot j o hj ho with ⟨b, cs, h3, h4, _⟩ | ⟨h3, _⟩
      · rw [kj j b hj h3] at hx
        exact ⟨b, _, h4, hx, .inr ⟨j, hj, rfl, h3⟩⟩
      · rw [kn j hj h3] at hx; cases hx
  have hown : ∀ x, owned κ' S'.H x → owned κ S.H x := fun x ⟨id, o, ho, hx⟩ => by
    obtain ⟨id', o', h1, h2, _⟩ := old id o x ho hx
    exact ⟨id', o', h1, h2⟩
  have hav : ∀ x, avoid κ' g.N S'.H x → avoid κ g.N S.H x := fun x hx => hx.imp id (hown x)
  have up : ∀ {x : AV} {v : Value}, x.ok c = true → VRel κ (avoid κ g.N S.H) w x v → VRel κ' (avoid κ' g.N S'.H) w x v := fun hok hv =>
    (hv.mono (fun _ _ h => h) (.refl w) (fun x _ hx => hav x hx) (fun _ _ _ => rfl)).low klt hok
  have upv : ∀ {x y : AV} {v : Value}, RW c m σ x y → VRel κ (avoid κ g.N S.H) w y v → VRel κ' (avoid κ' g.N S'.H) w x v := fun {x y v} hrv hv => by
    rcases hrv with rfl | ⟨rfl, hok⟩ | ⟨j, off, len, esz, hj, rfl, ⟨b, hb, rfl⟩ | ⟨rfl, rfl⟩⟩
    · exact .any _
    · exact up hok hv
    · cases hv with
      | rsl0 _ _ _ base => exact .rsl0 (c + j) off esz base
      | rsl _ _ _ _ cap blk cc e f hk hl hb' hcap => exact .rsl (c + j) off len esz cap blk cc e f ((kj j b hj hb).trans hk) hl hb' hcap
    · cases hv
      exact .rsl0 (c + j) off esz none
  refine ⟨⟨fun id o ho => ?_, fun i j x o o' hi hj hx hx' => ?_, fun id x hx => ?_, h.h.Nbd, fun x hx ho => h.h.NH x hx (hown x ho), fun i => (h.h.gl i).mono (fun _ _ h => h) (.refl w) (fun x _ hx => hav x hx) (fun _ _ _ => rfl)⟩, fun id hid => ⟨kgt id (by omega), ?_⟩, h.sz, fun t => upv (henv t) (h.env t), fun id x hx => ?_, h.wle, h.same, fun x hx => h.new x (hown x hx), ?_⟩
  · by_cases h1 : id < c
    · rcases hlow id o ho h1 with ⟨h2, h3⟩ | ⟨xs, ys, rfl, h2, hlen, h3⟩ | ⟨xs, ys, rfl, h2, hlen, h3⟩
      · have hr := h.h.rel id o h2
        cases o with
        | cells cs =>
          rcases hr with ⟨e1, e2⟩ | ⟨blk, cc, e, e1, e2, e3, e4⟩
          · exact .inl ⟨e1, (klt id h1).trans e2⟩
          · refine .inr ⟨blk, cc, e, (klt id h1).trans e1, e2, e3, fun i x hx => ?_⟩
            obtain ⟨v, hv, hvr⟩ := e4 i x hx
            exact ⟨v, hv, up (okL_get h3 hx) hvr⟩
        | map es =>
          obtain ⟨r, ents, clk, e1, e2, e3, hB, e4⟩ := hr
          refine ⟨r, ents, clk, (klt id h1).trans e1, e2, e3, hB, fun i e he => ?_⟩
          obtain ⟨mm, hm, hk, hv⟩ := e4 i e he
          exact ⟨mm, hm, up (okE_get h3 he).1 hk, up (okE_get h3 he).2 hv⟩
        | loop L =>
          obtain ⟨r, R, e1, e2, e3, e4, e5, e6, e7, e8, e9⟩ := hr
          exact ⟨r, R, (klt id h1).trans e1, e2, e3, e4, e5, e6, e7, e8, fun t => up (okL_elook h3 t) (e9 t)⟩
        | iter cur left =>
          obtain ⟨r, mm, ents, clk, seen, e1, e2, e3, e4, hB, e5, e6, e7⟩ := hr
          simp only [okO, Bool.and_eq_true] at h3
          refine ⟨r, mm, ents, clk, seen, (klt id h1).trans e1, e2, fun h => e3 (hav mm h), e4, hB, e5, fun i e he => ?_, fun e he => ?_⟩
          · obtain ⟨x, x1, x2, x3⟩ := e6 i e he
            exact ⟨x, x1, up (okE_get h3.2 he).1 x2, up (okE_get h3.2 he).2 x3⟩
          · obtain ⟨s, x, x1, x2, x3, x4⟩ := e7 e he
            subst he
            have := okE_get (i := 0) (e := e) h3.1 rfl
            exact ⟨s, x, x1, x2, up this.1 x3, up this.2 x4⟩
      · rcases h.h.rel id _ h2 with ⟨e1, e2⟩ | ⟨blk, cc, e, e1, e2, e3, e4⟩
        · subst e1
          exact .inl ⟨List.eq_nil_of_length_eq_zero (by simpa using hlen), (klt id h1).trans e2⟩
        · refine .inr ⟨blk, cc, e, (klt id h1).trans e1, e2, by omega, fun i x hx => ?_⟩
          obtain ⟨y, hy, hrv⟩ := h3 i x hx
          obtain ⟨v, hv, hvr⟩ := e4 i y hy
          exact ⟨v, hv, upv hrv hvr⟩
      · obtain ⟨r, ents, clk, e1, e2, e3, hB, e4⟩ := h.h.rel id _ h2
        refine ⟨r, ents, clk, (klt id h1).trans e1, e2, by omega, hB, fun i e he => ?_⟩
        obtain ⟨y, hy, r1, r2⟩ := h3 i e he
        obtain ⟨mm, hm, hk, hv⟩ := e4 i y hy
        exact ⟨mm, hm, upv r1 hk, upv r2 hv⟩
    · have h2 := htop id o ho
      obtain ⟨j, rfl⟩ : ∃ j, id = c + j := ⟨id - c, by omega⟩
      have hj : j < m := by omega
      rcases hslot j o hj ho with ⟨b, cs, h3, h4, rfl, h5⟩ | ⟨h3, rfl⟩
      · rcases h.h.rel b _ h4 with ⟨e1, e2⟩ | ⟨blk, cc, e, e1, e2, e3, e4⟩
        · exact .inl ⟨e1, (kj j b hj h3).trans e2⟩
        · refine .inr ⟨blk, cc, e, (kj j b hj h3).trans e1, e2, e3, fun i x hx => ?_⟩
          obtain ⟨v, hv, hvr⟩ := e4 i x hx
          exact ⟨v, hv, up (okL_get h5 hx) hvr⟩
      · exact .inl ⟨rfl, kn j hj h3⟩
  · obtain ⟨i', p, p1, p2, p3⟩ := old i o x hi hx
    obtain ⟨j', q, q1, q2, q3⟩ := old j o' x hj hx'
    have e := h.h.inj i' j' x p q p1 q1 p2 q2
    subst e
    rcases p3 with ⟨p3, rfl⟩ | ⟨a1, a2, rfl, a3⟩ <;> rcases q3 with ⟨q3, q4⟩ | ⟨b1, b2, rfl, b3⟩
    · exact q4.symm ▸ rfl
    · have := hhi _ _ b2 b3; omega
    · subst q4; have := hhi _ _ a2 a3; omega
    · rw [hinj _ _ _ a2 b2 a3 b3]
  · by_cases h1 : id < c
    · rw [klt id h1] at hx; exact h.h.bd id x hx
    · by_cases h2 : id < c + m
      · obtain ⟨j, rfl⟩ : ∃ j, id = c + j := ⟨id - c, by omega⟩
        have hj : j < m := by omega
        cases hs : σ j with
        | none => rw [kn j hj hs] at hx; cases hx
        | some b => rw [kj j b hj hs] at hx; exact h.h.bd b x hx
      · rw [kgt id (by omega)] at hx; cases hx
  · cases ho : hget S'.H id with
    | none => rfl
    | some o => have := htop id o ho; omega
  · rw [klt id (hg id (by rw [hx]; simp))]; exact h.ext id x hx
  · obtain ⟨ms, m1, m2, m3⟩ := h.defs
    exact ⟨ms, m1, m2, fun r hr => ⟨(m3 r hr).1, (m3 r hr).2.1, fun ho => (m3 r hr).2.2 (hown r ho)⟩⟩
theorem Wk.renM {S' : St} {c m : Nat} {σ : Nat → Option Nat} (h : St.renM c m σ S' S) (hg : g.low c) : Wk g S' S := fun _ _ _ hr => ⟨_, hr.renM h hg⟩
end
end Go.Am
/-
  A MAP FROM NUMBERS TO SLICES: what is looked up, put in, and taken out.
-/
namespace Go.Proofs.YtiggnliiigcjaaaDoor
open Go Go.Am
set_option maxRecDepth 100000
set_option maxHeartbeats 4000000
def updF {α : Type} (f : Nat → α) (k : Nat) (x : α) : Nat → α := fun j => if j = k then x else f j
theorem updF_same {α : Type} (f : Nat → α) (k : Nat) (x : α) : updF f k x k = x := if_pos rfl
theorem updF_ne {α : Type} (f : Nat → α) {k j : Nat} (x : α) (h : j ≠ k) : updF f k x j = f j := if_neg h
/-- The key with an index: one less. -/
def keyV (j : Nat) : AV := .int .i64 ((j : Int) - 1)
def entV (v : Nat → AV) (ks : List Nat) : List (AV × AV) := ks.map fun j => (keyV j, v j)
theorem afindV (v : Nat → AV) (k : Nat) : ∀ (ks : List Nat) (i : Nat), afind Tryd.prog 3 (.int .i64) (keyV k) (entV v ks) i = some (if k ∈ ks then some (i + ks.idxOf k, v k) else none) := by
  intro ks
  induction ks with
  | nil => intro i; rfl
  | cons a ks ih =>
    intro i
    show (match akeq Tryd.prog 3 (.int .i64) (keyV k) (keyV a) with
      | some true => some (some (i, v a))
      | some false => afind Tryd.prog 3 (.int .i64) (keyV k) (entV v ks) (i + 1)
      | none => none) = _
    have hk : akeq Tryd.prog 3 (.int .i64) (keyV k) (keyV a) = some (decide (k = a)) := by
      show (if IntKind.i64 = IntKind.i64 then some (((k : Int) - 1) == ((a : Int) - 1)) else none) = _
      rw [if_pos rfl]
      congr 1
      by_cases e : k = a
      · subst e; simp
      · rw [decide_eq_false e, beq_eq_false_iff_ne]; omega
    rw [hk]
    by_cases e : k = a
    · subst e
      simp
    · rw [decide_eq_false e]
      simp only []
      rw [ih (i + 1)]
      by_cases hm : k ∈ ks
      · rw [if_pos hm, if_pos (List.mem_cons_of_mem _ hm), show (a :: ks).idxOf k = ks.idxOf k + 1 from by rw [List.idxOf_cons, show (a == k) = false from by rw [beq_eq_false_iff_ne]; exact Ne.symm e]; rfl]
        congr 2
        rw [Nat.add_assoc, Nat.add_comm 1]
      · rw [if_neg hm, if_neg (by simp [e, hm])]
theorem lookV {h : Nat → Option AObj} {i : Nat} {v : Nat → AV} {ks : List Nat} {k : Nat} (h0 : h i = some (.map (entV v ks))) :
    aLookup Tryd.prog h 163 (.mref i) (keyV k) false = some (if k ∈ ks then v k else .nil) := by
  have hz : azero Tryd.prog 60 = some .nil := by kernel_rfl
  have ha : amap h (.mref i) = some (entV v ks) := by simp only [amap, h0]
  simp only [aLookup, ty163, ty3, ha]
  rw [if_pos (show akeyB Tryd.prog (.int .i64) (keyV k) = true from rfl), afindV, hz]
  by_cases hm : k ∈ ks
  · rw [if_pos hm, if_pos hm]; rfl
  · rw [if_neg hm, if_neg hm]; rfl
theorem entV_set {v : Nat → AV} {k : Nat} {x : AV} : ∀ {ks : List Nat}, ks.Nodup → k ∈ ks → (entV v ks).set (ks.idxOf k) (keyV k, x) = entV (updF v k x) ks := by
  intro ks
  induction ks with
  | nil => intro _ h; cases h
  | cons a ks ih =>
    intro hn hm
    rw [List.nodup_cons] at hn
    by_cases e : a = k
    · subst e
      have h1 : entV (updF v a x) ks = entV v ks := by
        unfold entV
        exact List.map_congr_left fun j hj => by rw [updF_ne]; intro e; subst e; exact hn.1 hj
      show (((keyV a, v a) :: entV v ks).set _ _) = (keyV a, updF v a x a) :: entV (updF v a x) ks
      rw [List.idxOf_cons_self, updF_same, h1]; rfl
    · have hm' : k ∈ ks := (List.mem_cons.1 hm).resolve_left (Ne.symm e)
      show (((keyV a, v a) :: entV v ks).set _ _) = (keyV a, updF v k x a) :: entV (updF v k x) ks
      rw [updF_ne v x e, show (a :: ks).idxOf k = ks.idxOf k + 1 from by rw [List.idxOf_cons, show (a == k) = false from by rw [beq_eq_false_iff_ne]; exact e]; rfl, List.set_cons_succ, ih hn.2 hm']
theorem putV {h : Nat → Option AObj} {i : Nat} {v : Nat → AV} {ks : List Nat} {k : Nat} {x : AV} (h0 : h i = some (.map (entV v ks))) (hn : ks.Nodup) :
    aMapUpdate Tryd.prog h 163 (.mref i) (keyV k) x = some ⟨.undef, [(i, some (.map (entV (updF v k x) (if k ∈ ks then ks else ks ++ [k]))))]⟩ := by
  simp only [aMapUpdate, ty163, ty3, h0]
  rw [if_pos (show akeyB Tryd.prog (.int .i64) (keyV k) = true from rfl), afindV]
  by_cases hm : k ∈ ks
  · rw [if_pos hm, if_pos hm]
    simp only [Nat.zero_add]
    rw [entV_set hn hm]
  · rw [if_neg hm, if_neg hm]
    simp only []
    have h1 : entV (updF v k x) (ks ++ [k]) = entV v ks ++ [(keyV k, x)] := by
      unfold entV
      rw [List.map_append]
      congr 1
      · exact List.map_congr_left fun j hj => by rw [updF_ne]; intro e; subst e; exact hm hj
      · simp [updF_same]
    rw [h1]
theorem delV {h : Nat → Option AObj} {i : Nat} {v : Nat → AV} {ks : List Nat} {k : Nat} (h0 : h i = some (.map (entV v ks))) (_hn : ks.Nodup) :
    aDelete Tryd.prog h 163 (.mref i) (keyV k) = some ⟨.undef, [(i, some (.map (entV v (ks.erase k))))]⟩ := by
  simp only [aDelete, ty163, ty3, h0]
  rw [if_pos (show akeyB Tryd.prog (.int .i64) (keyV k) = true from rfl), afindV]
  by_cases hm : k ∈ ks
  · rw [if_pos hm]
    simp only [Nat.zero_add]
    have h1 : (entV v ks).eraseIdx (ks.idxOf k) = entV v (ks.erase k) := by
      unfold entV
      clear h0 _hn
      induction ks with
      | nil => cases hm
      | cons a ks ih =>
        by_cases e : a = k
        · subst e; simp
        · have hm' : k ∈ ks := (List.mem_cons.1 hm).resolve_left (Ne.symm e)
          rw [show (a :: ks).idxOf k = ks.idxOf k + 1 from by rw [List.idxOf_cons, show (a == k) = false from by rw [beq_eq_false_iff_ne]; exact e]; rfl, List.map_cons, List.eraseIdx_cons_succ, ih hm',
            List.erase_cons_tail (by simpa using e), List.map_cons]
    rw [h1]
  · rw [if_neg hm]
    simp only []
    rw [List.erase_of_not_mem hm]
end Go.Proofs.YtiggnliiigcjaaaDoor
/-
  A MAP OF SLICES OF ONE's OWN: its slices at numbers of their own, one of them at hand.
-/
namespace Go.Proofs.YtiggnliiigcjaaaDoor
open Go Go.Am
set_option maxRecDepth 100000
set_option maxHeartbeats 4000000
theorem hget_app (A B : AHeap) (id : Nat) : hget (A ++ B) id = match hget A id with | some o => some o | none => hget B id := by
  induction A with
  | nil => rfl
  | cons x A ih =>
    obtain ⟨k, o⟩ := x
    show (if k = id then some o else hget (A ++ B) id) = match (if k = id then some o else hget A id) with | some o => some o | none => hget B id
    by_cases h : k = id
    · rw [if_pos h, if_pos h]
    · rw [if_neg h, if_neg h, ih]
/-- The slices, one after the other. -/
def slotsH (c : Nat) (f : Nat → List Int) : AHeap := (List.range 7).map fun j => (c + j, AObj.cells (iL (f j)))
theorem hget_map (c : Nat) (f : Nat → List Int) (id : Nat) : ∀ l : List Nat, hget (l.map fun j => (c + j, AObj.cells (iL (f j)))) id = if c ≤ id ∧ id - c ∈ l then some (.cells (iL (f (id - c)))) else none := by
  intro l
  induction l with
  | nil => simp [hget]
  | cons j l ih =>
    show (if c + j = id then some (AObj.cells (iL (f j))) else hget (l.map fun j => (c + j, AObj.cells (iL (f j)))) id) = _
    rw [ih]
    by_cases h : c + j = id
    · subst h
      rw [if_pos rfl, if_pos ⟨Nat.le_add_right _ _, by rw [Nat.add_sub_cancel_left]; exact List.mem_cons_self⟩, Nat.add_sub_cancel_left]
    · rw [if_neg h]
      by_cases h2 : c ≤ id ∧ id - c ∈ l
      · rw [if_pos h2, if_pos ⟨h2.1, List.mem_cons_of_mem _ h2.2⟩]
      · rw [if_neg h2, if_neg]
        rintro ⟨a, b⟩
        rcases List.mem_cons.1 b with b | b
        · omega
        · exact h2 ⟨a, b⟩
theorem hget_slots (c : Nat) (f : Nat → List Int) (id : Nat) : hget (slotsH c f) id = if c ≤ id ∧ id < c + 7 then some (.cells (iL (f (id - c)))) else none := by
  unfold slotsH
  rw [hget_map]
  by_cases h : c ≤ id ∧ id < c + 7
  · rw [if_pos h, if_pos ⟨h.1, List.mem_range.2 (by omega)⟩]
  · rw [if_neg h, if_neg]
    rintro ⟨a, b⟩
    have := List.mem_range.1 b
    omega
/-- The map's own values: slices at their numbers. -/
def vC (c : Nat) (f : Nat → List Int) (j : Nat) : AV := .rsl (c + 1 + j) 0 (f j).length 1
/-- What stands fast, the map, its slices. -/
def canH (c M : Nat) (B : AHeap) (f : Nat → List Int) (ks : List Nat) : AHeap := B ++ (M, .map (entV (vC c f) ks)) :: slotsH (c + 1) f
/-- The same, the slice of one key at hand. -/
def pulH (c M : Nat) (B : AHeap) (f : Nat → List Int) (ks : List Nat) (k : Nat) : AHeap :=
  B ++ (M, .map (entV (updF (vC c f) k (.rsl c 0 (f k).length 1)) ks)) :: (c, .cells (iL (f k))) :: slotsH (c + 1) (updF f k [])
def envOk (c : Nat) (env : Env) : Bool := env.all fun p => p.2.ok c
def basOk (c M : Nat) (B : AHeap) : Bool := B.all fun p => decide (p.1 < c) && (p.1 != M && okO c p.2)
theorem envOk_look {c : Nat} {env : Env} (h : envOk c env = true) (t : Nat) : elook env t = .any ∨ (elook env t).ok c = true := by
  induction env with
  | nil => exact .inl rfl
  | cons p env ih =>
    obtain ⟨a, v⟩ := p
    have h' := h
    unfold envOk at h'
    rw [List.all_cons, Bool.and_eq_true] at h'
    show (if a = t then v else elook env t) = .any ∨ (if a = t then v else elook env t).ok c = true
    by_cases e : a = t
    · rw [if_pos e]; exact .inr h'.1
    · rw [if_neg e]; exact ih h'.2
theorem basOk_look {c M : Nat} {B : AHeap} (h : basOk c M B = true) {id : Nat} {o : AObj} (ho : hget B id = some o) : id < c ∧ id ≠ M ∧ okO c o = true := by
  induction B with
  | nil => cases ho
  | cons p B ih =>
    obtain ⟨a, v⟩ := p
    have h' := h
    unfold basOk at h'
    rw [List.all_cons, Bool.and_eq_true] at h'
    have ho' : (if a = id then some v else hget B id) = some o := ho
    by_cases e : a = id
    · rw [if_pos e] at ho'
      cases ho'
      subst e
      have := h'.1
      simp only [Bool.and_eq_true, decide_eq_true_eq, bne_iff_ne, ne_eq] at this
      exact this
    · rw [if_neg e] at ho'; exact ih h'.2 ho'
theorem iL_okO (c : Nat) (l : List Int) : okL c (iL l) = true := iL_ok c l
section
variable {g : G}
/-- One slice is taken at hand. -/
theorem Wk.pull {c M k : Nat} {B : AHeap} {env : Env} {f : Nat → List Int} {ks : List Nat} (hE : envOk c env = true) (hB : basOk c M B = true) (hM : M < c) (hk : k < 7) (hks : ∀ j ∈ ks, j < 7) (hg : g.low c) :
    Wk g ⟨env, pulH c M B f ks k, c + 8⟩ ⟨env, canH c M B f ks, c + 8⟩ := by
  refine Wk.renM (c := c) (m := 8) (σ := fun j => match j with | 0 => some (c + 1 + k) | j + 1 => if j = k then none else some (c + 1 + j)) ⟨rfl, fun id o ho => ?_, fun t => ?_, fun id o ho hid => ?_, fun j o hj ho => ?_, fun j j' b hj hj' h1 h2 => ?_, fun j b _ h1 => ?_⟩ hg
  · show id < c + 8
    have ho' : hget (pulH c M B f ks k) id = some o := ho
    unfold pulH at ho'
    rw [hget_app] at ho'
    split at ho'
    · rename_i o' hb; have := basOk_look hB hb; omega
    · simp only [hget] at ho'
      split at ho'
      · omega
      · split at ho'
        · omega
        · rw [hget_slots] at ho'
          split at ho'
          · omega
          · cases ho'
  · rcases envOk_look hE t with h | h
    · exact .inl h
    · exact .inr (.inl ⟨rfl, h⟩)
  · have ho' : hget (pulH c M B f ks k) id = some o := ho
    unfold pulH at ho'
    show _ ∨ _ ∨ _
    have hcan : ∀ o', hget B id = some o' → hget (canH c M B f ks) id = some o' := fun o' h => by unfold canH; rw [hget_app, h]
    rw [hget_app] at ho'
    split at ho'
    · rename_i o' hb
      cases ho'
      exact .inl ⟨hcan _ hb, (basOk_look hB hb).2.2⟩
    · rename_i hb
      simp only [hget] at ho'
      split at ho'
      · rename_i e
        subst e
        cases ho'
        refine .inr (.inr ⟨_, entV (vC c f) ks, rfl, by unfold canH; rw [hget_app, hb]; simp [hget], by simp [entV], fun i x hx => ?_⟩)
        unfold entV at hx ⊢
        rw [List.getElem?_map] at hx ⊢
        cases hi : ks[i]? with
        | none => rw [hi] at hx; cases hx
        | some j =>
          rw [hi] at hx
          cases hx
          refine ⟨_, rfl, .inr (.inl ⟨rfl, rfl⟩), ?_⟩
          by_cases e : j = k
          · subst e
            show RW c 8 _ (updF (vC c f) j (.rsl c 0 (f j).length 1) j) (vC c f j)
            rw [updF_same]
            exact .inr (.inr ⟨0, 0, _, 1, by omega, rfl, .inl ⟨_, rfl, rfl⟩⟩)
          · show RW c 8 _ (updF (vC c f) k (.rsl c 0 (f k).length 1) j) (vC c f j)
            rw [updF_ne _ _ e]
            by_cases h7 : j < 7
            · exact .inr (.inr ⟨j + 1, 0, _, 1, by omega, by unfold vC; congr 1; omega, .inl ⟨c + 1 + j, if_neg e, rfl⟩⟩)
            · exact absurd (hks j (List.mem_of_getElem? hi)) h7
      · split at ho'
        · omega
        · rw [hget_slots] at ho'
          split at ho'
          · omega
          · cases ho'
  · have ho' : hget (pulH c M B f ks k) (c + j) = some o := ho
    unfold pulH at ho'
    have hnb : hget B (c + j) = none := by
      cases hb : hget B (c + j) with
      | none => rfl
      | some o' => have := (basOk_look hB hb).1; omega
    have hcan : ∀ i, i < 7 → hget (canH c M B f ks) (c + 1 + i) = some (.cells (iL (f i))) := fun i hi => by
      have hnb' : hget B (c + 1 + i) = none := by
        cases hb : hget B (c + 1 + i) with
        | none => rfl
        | some o' => have := (basOk_look hB hb).1; omega
      unfold canH
      rw [hget_app, hnb']
      simp only [hget]
      rw [if_neg (by omega), hget_slots, if_pos (by omega), Nat.add_sub_cancel_left]
    rw [hget_app, hnb] at ho'
    simp only [hget] at ho'
    rw [if_neg (by omega)] at ho'
    cases j with
    | zero =>
      rw [if_pos (by omega)] at ho'
      cases ho'
      exact .inl ⟨c + 1 + k, _, rfl, hcan k hk, rfl, iL_ok _ _⟩
    | succ j =>
      rw [if_neg (by omega), hget_slots, if_pos (by omega)] at ho'
      have e1 : c + (j + 1) - (c + 1) = j := by omega
      rw [e1] at ho'
      cases ho'
      by_cases e : j = k
      · subst e
        exact .inr ⟨if_pos rfl, by rw [updF_same]; rfl⟩
      · refine .inl ⟨c + 1 + j, _, if_neg e, ?_, rfl, iL_ok _ _⟩
        rw [updF_ne _ _ e]
        exact hcan j (by omega)
  · cases j with
    | zero =>
      cases j' with
      | zero => rfl
      | succ j' =>
        simp only [Option.some.injEq] at h1
        have h2' : (if j' = k then none else some (c + 1 + j')) = some b := h2
        split at h2'
        · cases h2'
        · rename_i e; cases h2'; exact absurd (show j' = k by omega) e
    | succ j =>
      have h1' : (if j = k then none else some (c + 1 + j)) = some b := h1
      split at h1'
      · cases h1'
      · rename_i e
        cases h1'
        cases j' with
        | zero => simp only [Option.some.injEq] at h2; exact absurd (show j = k by omega) e
        | succ j' =>
          have h2' : (if j' = k then none else some (c + 1 + j')) = some (c + 1 + j) := h2
          split at h2'
          · cases h2'
          · simp only [Option.some.injEq] at h2'; omega
  · cases j with
    | zero => simp only [Option.some.injEq] at h1; omega
    | succ j =>
      have h1' : (if j = k then none else some (c + 1 + j)) = some b := h1
      split at h1'
      · cases h1'
      · cases h1'; omega
/-- What a round leaves: the slice of one key, made anew or none, the others at their numbers. -/
def aftH (c M : Nat) (B : AHeap) (f : Nat → List Int) (ks : List Nat) (k : Nat) (y : AV) (X : AHeap) : AHeap :=
  B ++ (M, .map (entV (updF (vC c f) k y) ks)) :: X ++ slotsH (c + 1) (updF f k [])
theorem push_core {c M k n : Nat} {B X : AHeap} {env : Env} {f : Nat → List Int} {ks : List Nat} {x : List Int} {y : AV} {sk : Option Nat} (hE : envOk c env = true) (hB : basOk c M B = true) (hM : M < c) (hk : k < 7) (hks : ∀ j ∈ ks, j < 7) (hg : g.low c)
    (hX : (sk = none ∧ X = [] ∧ x = []) ∨ ∃ nid, c + 8 ≤ nid ∧ sk = some nid ∧ X = [(nid, .cells (iL x))]) (hy : k ∈ ks → (∃ nid, sk = some nid ∧ y = .rsl nid 0 x.length 1) ∨ (x = [] ∧ y = .nil)) :
    Wk g ⟨env, canH c M B (updF f k x) ks, c + 8⟩ ⟨env, aftH c M B f ks k y X, n⟩ := by
  have hslot : ∀ i, i < 7 → i ≠ k → hget (aftH c M B f ks k y X) (c + 1 + i) = some (.cells (iL (f i))) := fun i hi hne => by
    have hnb' : hget B (c + 1 + i) = none := by
      cases hb : hget B (c + 1 + i) with
      | none => rfl
      | some o' => have := (basOk_look hB hb).1; omega
    unfold aftH
    rw [hget_app, hget_app, hnb']
    have hnx : hget ((M, .map (entV (updF (vC c f) k y) ks)) :: X) (c + 1 + i) = none := by
      rcases hX with ⟨_, rfl, _⟩ | ⟨nid, h1, _, rfl⟩
      · simp only [hget]; rw [if_neg (by omega)]
      · simp only [hget]; rw [if_neg (by omega), if_neg (by omega)]
    rw [hnx]
    simp only []
    rw [hget_slots, if_pos (by omega), Nat.add_sub_cancel_left, updF_ne _ _ hne]
  have hmap : hget (aftH c M B f ks k y X) M = some (.map (entV (updF (vC c f) k y) ks)) := by
    have hnb' : hget B M = none := by
      cases hb : hget B M with
      | none => rfl
      | some o' => exact absurd rfl (basOk_look hB hb).2.1
    unfold aftH
    rw [hget_app, hget_app, hnb']
    simp only [hget]
    rw [if_pos trivial]
  have hbase : ∀ id o, hget B id = some o → hget (aftH c M B f ks k y X) id = some o := fun id o h => by
    unfold aftH
    rw [hget_app, hget_app, h]
  have hcan : ∀ {id o}, hget (canH c M B (updF f k x) ks) id = some o → (hget B id = some o) ∨ (id = M ∧ o = .map (entV (vC c (updF f k x)) ks)) ∨ ∃ j, j < 7 ∧ id = c + 1 + j ∧ o = .cells (iL (updF f k x j)) := fun {id o} h => by
    unfold canH at h
    rw [hget_app] at h
    split at h
    · rename_i o' hb; cases h; exact .inl hb
    · simp only [hget] at h
      split at h
      · rename_i e; cases h; exact .inr (.inl ⟨e.symm, rfl⟩)
      · rw [hget_slots] at h
        split at h
        · cases h; exact .inr (.inr ⟨id - (c + 1), by omega, by omega, rfl⟩)
        · cases h
  refine Wk.renM (c := c) (m := 8) (σ := fun j => match j with | 0 => none | j + 1 => if j = k then sk else some (c + 1 + j)) ⟨rfl, fun id o ho => ?_, fun t => ?_, fun id o ho hid => ?_, fun j o hj ho => ?_, fun j j' b hj hj' h1 h2 => ?_, fun j b _ h1 => ?_⟩ hg
  · show id < c + 8
    rcases hcan ho with h | ⟨rfl, _⟩ | ⟨j, hj, rfl, _⟩
    · have := basOk_look hB h; omega
    · omega
    · omega
  · rcases envOk_look hE t with h | h
    · exact .inl h
    · exact .inr (.inl ⟨rfl, h⟩)
  · rcases hcan ho with h | ⟨rfl, rfl⟩ | ⟨j, hj, rfl, _⟩
    · exact .inl ⟨hbase _ _ h, (basOk_look hB h).2.2⟩
    · refine .inr (.inr ⟨_, _, rfl, hmap, by simp [entV], fun i z hx => ?_⟩)
      unfold entV at hx ⊢
      rw [List.getElem?_map] at hx ⊢
      cases hi : ks[i]? with
      | none => rw [hi] at hx; cases hx
      | some j =>
        rw [hi] at hx
        cases hx
        have hjm := List.mem_of_getElem? hi
        have hj7 := hks j hjm
        refine ⟨_, rfl, .inr (.inl ⟨rfl, rfl⟩), ?_⟩
        by_cases e : j = k
        · subst e
          show RW c 8 _ (vC c (updF f j x) j) (updF (vC c f) j y j)
          unfold vC
          rw [updF_same, updF_same]
          refine .inr (.inr ⟨j + 1, 0, _, 1, by omega, by congr 1; omega, ?_⟩)
          rcases hy hjm with ⟨nid, h1, h2⟩ | ⟨h1, h2⟩
          · exact .inl ⟨nid, by show (if j = j then sk else _) = _; rw [if_pos rfl, h1], h2⟩
          · exact .inr ⟨by rw [h1]; rfl, h2⟩
        · show RW c 8 _ (vC c (updF f k x) j) (updF (vC c f) k y j)
          rw [updF_ne _ _ e]
          unfold vC
          rw [updF_ne _ _ e]
          exact .inr (.inr ⟨j + 1, 0, _, 1, by omega, by congr 1; omega, .inl ⟨c + 1 + j, if_neg e, rfl⟩⟩)
    · omega
  · rcases hcan ho with h | ⟨h, _⟩ | ⟨i, hi, he, rfl⟩
    · have := (basOk_look hB h).1; omega
    · omega
    · obtain rfl : j = i + 1 := by omega
      by_cases e : i = k
      · subst e
        rw [updF_same]
        rcases hX with ⟨h1, rfl, rfl⟩ | ⟨nid, h1, h2, rfl⟩
        · exact .inr ⟨by show (if i = i then sk else _) = _; rw [if_pos rfl, h1], rfl⟩
        · refine .inl ⟨nid, _, by show (if i = i then sk else _) = _; rw [if_pos rfl, h2], ?_, rfl, iL_ok _ _⟩
          unfold aftH
          have hnb' : hget B nid = none := by
            cases hb : hget B nid with
            | none => rfl
            | some o' => have := (basOk_look hB hb).1; omega
          rw [hget_app, hget_app, hnb']
          simp only [hget]
          rw [if_neg (by omega), if_pos trivial]
      · rw [updF_ne _ _ e]
        exact .inl ⟨c + 1 + i, _, if_neg e, hslot i hi e, rfl, iL_ok _ _⟩
  · cases j with
    | zero => cases h1
    | succ j =>
      cases j' with
      | zero => cases h2
      | succ j' =>
        have h1' : (if j = k then sk else some (c + 1 + j)) = some b := h1
        have h2' : (if j' = k then sk else some (c + 1 + j')) = some b := h2
        have hnid : sk = some b → c + 8 ≤ b := fun h => by
          rcases hX with ⟨h3, _, _⟩ | ⟨nid, h3, h4, _⟩
          · rw [h3] at h; cases h
          · rw [h4] at h; cases h; exact h3
        split at h1' <;> split at h2'
        · omega
        · cases h2'; have := hnid h1'; omega
        · cases h1'; have := hnid h2'; omega
        · cases h1'; simp only [Option.some.injEq] at h2'; omega
  · cases j with
    | zero => cases h1
    | succ j =>
      have h1' : (if j = k then sk else some (c + 1 + j)) = some b := h1
      split at h1'
      · rcases hX with ⟨h3, _, _⟩ | ⟨nid, h3, h4, _⟩
        · rw [h3] at h1'; cases h1'
        · rw [h4] at h1'; cases h1'; omega
      · cases h1'; omega
theorem Wk.push {c M k nid : Nat} {B : AHeap} {env : Env} {f : Nat → List Int} {ks : List Nat} {x : List Int} (hE : envOk c env = true) (hB : basOk c M B = true) (hM : M < c) (hk : k < 7) (hks : ∀ j ∈ ks, j < 7) (hn : c + 8 ≤ nid) (hg : g.low c) :
    Wk g ⟨env, canH c M B (updF f k x) ks, c + 8⟩ ⟨env, aftH c M B f ks k (.rsl nid 0 x.length 1) [(nid, .cells (iL x))], nid + 1⟩ :=
  push_core (sk := some nid) hE hB hM hk hks hg (.inr ⟨nid, hn, rfl, rfl⟩) fun _ => .inl ⟨nid, rfl, rfl⟩
theorem Wk.pushN {c M k n : Nat} {B : AHeap} {env : Env} {f : Nat → List Int} {ks : List Nat} (hE : envOk c env = true) (hB : basOk c M B = true) (hM : M < c) (hk : k < 7) (hks : ∀ j ∈ ks, j < 7) (hg : g.low c) :
    Wk g ⟨env, canH c M B (updF f k []) ks, c + 8⟩ ⟨env, aftH c M B f ks k .nil [], n⟩ :=
  push_core (sk := none) hE hB hM hk hks hg (.inl ⟨rfl, rfl, rfl⟩) fun _ => .inr ⟨rfl, rfl⟩
/-- A key is taken out. -/
theorem Wk.pushD {c M k n : Nat} {B : AHeap} {env : Env} {f : Nat → List Int} {ks : List Nat} {y : AV} (hE : envOk c env = true) (hB : basOk c M B = true) (hM : M < c) (hk : k < 7) (hks : ∀ j ∈ ks, j < 7) (hkn : k ∉ ks) (hg : g.low c) :
    Wk g ⟨env, canH c M B (updF f k []) ks, c + 8⟩ ⟨env, aftH c M B f ks k y [], n⟩ :=
  push_core (sk := none) hE hB hM hk hks hg (.inl ⟨rfl, rfl, rfl⟩) fun h => absurd h hkn
/-- A map that has nothing in it. -/
theorem Wk.start {c M n : Nat} {B : AHeap} {env : Env} (hE : envOk c env = true) (hB : basOk c M B = true) (hM : M < c) (hg : g.low c) :
    Wk g ⟨env, canH c M B (fun _ => []) [], c + 8⟩ ⟨env, B ++ [(M, .map [])], n⟩ := by
  refine Wk.renM (c := c) (m := 8) (σ := fun _ => none) ⟨rfl, fun id o ho => ?_, fun t => ?_, fun id o ho hid => ?_, fun j o hj ho => ?_, fun j j' b hj hj' h1 h2 => (by cases h1), fun j b _ h1 => (by cases h1)⟩ hg
  all_goals try
    have h : hget (canH c M B (fun _ => []) []) _ = some o := ho
    unfold canH at h
    rw [hget_app] at h
  · show id < c + 8
    split at h
    · rename_i o' hb; have := basOk_look hB hb; omega
    · simp only [hget] at h
      split at h
      · omega
      · rw [hget_slots] at h
        split at h
        · omega
        · cases h
  · rcases envOk_look hE t with h | h
    · exact .inl h
    · exact .inr (.inl ⟨rfl, h⟩)
  · split at h
    · rename_i o' hb
      cases h
      exact .inl ⟨by show hget (B ++ _) _ = _; rw [hget_app, hb], (basOk_look hB hb).2.2⟩
    · rename_i hb
      simp only [hget] at h
      split at h
      · rename_i e
        subst e
        cases h
        exact .inl ⟨by show hget (B ++ _) _ = _; rw [hget_app, hb]; simp [hget, entV], rfl⟩
      · rw [hget_slots, if_neg (by omega)] at h
        cases h
  · split at h
    · rename_i o' hb; have := (basOk_look hB hb).1; omega
    · simp only [hget] at h
      rw [if_neg (by omega), hget_slots] at h
      split at h
      · cases h; exact .inr ⟨rfl, rfl⟩
      · cases h
end
end Go.Proofs.YtiggnliiigcjaaaDoor
/-
  A MAP OF SLICES OF ONE's OWN: one key is taken out, another one's slice made anew.
-/
namespace Go.Proofs.YtiggnliiigcjaaaDoor
open Go Go.Am
set_option maxRecDepth 100000
set_option maxHeartbeats 4000000
section
variable {g : G}
theorem push_core2 {c M k k1 n : Nat} {B X : AHeap} {env : Env} {f : Nat → List Int} {ks : List Nat} {x : List Int} {y : AV} {sk : Option Nat} (hE : envOk c env = true) (hB : basOk c M B = true) (hM : M < c) (hk : k < 7) (hks : ∀ j ∈ ks, j < 7) (hk1 : k1 ∉ ks) (hkk : k1 ≠ k) (hg : g.low c)
    (hX : (sk = none ∧ X = [] ∧ x = []) ∨ ∃ nid, c + 8 ≤ nid ∧ sk = some nid ∧ X = [(nid, .cells (iL x))]) (hy : k ∈ ks → (∃ nid, sk = some nid ∧ y = .rsl nid 0 x.length 1) ∨ (x = [] ∧ y = .nil)) :
    Wk g ⟨env, canH c M B (updF (updF f k1 []) k x) ks, c + 8⟩ ⟨env, aftH c M B f ks k y X, n⟩ := by
  have hslot : ∀ i, i < 7 → i ≠ k → hget (aftH c M B f ks k y X) (c + 1 + i) = some (.cells (iL (f i))) := fun i hi hne => by
    have hnb' : hget B (c + 1 + i) = none := by
      cases hb : hget B (c + 1 + i) with
      | none => rfl
      | some o' => have := (basOk_look hB hb).1; omega
    unfold aftH
    rw [hget_app, hget_app, hnb']
    have hnx : hget ((M, .map (entV (updF (vC c f) k y) ks)) :: X) (c + 1 + i) = none := by
      rcases hX with ⟨_, rfl, _⟩ | ⟨nid, h1, _, rfl⟩
      · simp only [hget]; rw [if_neg (by omega)]
      · simp only [hget]; rw [if_neg (by omega), if_neg (by omega)]
    rw [hnx]
    simp only []
    rw [hget_slots, if_pos (by omega), Nat.add_sub_cancel_left, updF_ne _ _ hne]
  have hmap : hget (aftH c M B f ks k y X) M = some (.map (entV (updF (vC c f) k y) ks)) := by
    have hnb' : hget B M = none := by
      cases hb : hget B M with
      | none => rfl
      | some o' => exact absurd rfl (basOk_look hB hb).2.1
    unfold aftH
    rw [hget_app, hget_app, hnb']
    simp only [hget]
    rw [if_pos trivial]
  have hbase : ∀ id o, hget B id = some o → hget (aftH c M B f ks k y X) id = some o := fun id o h => by
    unfold aftH
    rw [hget_app, hget_app, h]
  have hcan : ∀ {id o}, hget (canH c M B (updF (updF f k1 []) k x) ks) id = some o → (hget B id = some o) ∨ (id = M ∧ o = .map (entV (vC c (updF (updF f k1 []) k x)) ks)) ∨ ∃ j, j < 7 ∧ id = c + 1 + j ∧ o = .cells (iL (updF (updF f k1 []) k x j)) := fun {id o} h => by
    unfold canH at h
    rw [hget_app] at h
    split at h
    · rename_i o' hb; cases h; exact .inl hb
    · simp only [hget] at h
      split at h
      · rename_i e; cases h; exact .inr (.inl ⟨e.symm, rfl⟩)
      · rw [hget_slots] at h
        split at h
        · cases h; exact .inr (.inr ⟨id - (c + 1), by omega, by omega, rfl⟩)
        · cases h
  refine Wk.renM (c := c) (m := 8) (σ := fun j => match j with | 0 => none | j + 1 => if j = k then sk else if j = k1 then none else some (c + 1 + j)) ⟨rfl, fun id o ho => ?_, fun t => ?_, fun id o ho hid => ?_, fun j o hj ho => ?_, fun j j' b hj hj' h1 h2 => ?_, fun j b _ h1 => ?_⟩ hg
  · show id < c + 8
    rcases hcan ho with h | ⟨rfl, _⟩ | ⟨j, hj, rfl, _⟩
    · have := basOk_look hB h; omega
    · omega
    · omega
  · rcases envOk_look hE t with h | h
    · exact .inl h
    · exact .inr (.inl ⟨rfl, h⟩)
  · rcases hcan ho with h | ⟨rfl, rfl⟩ | ⟨j, hj, rfl, _⟩
    · exact .inl ⟨hbase _ _ h, (basOk_look hB h).2.2⟩
    · refine .inr (.inr ⟨_, _, rfl, hmap, by simp [entV], fun i z hx => ?_⟩)
      unfold entV at hx ⊢
      rw [List.getElem?_map] at hx ⊢
      cases hi : ks[i]? with
      | none => rw [hi] at hx; cases hx
      | some j =>
        rw [hi] at hx
        cases hx
        have hjm := List.mem_of_getElem? hi
        have hj7 := hks j hjm
        refine ⟨_, rfl, .inr (.inl ⟨rfl, rfl⟩), ?_⟩
        by_cases e : j = k
        · subst e
          show RW c 8 _ (vC c (updF (updF f k1 []) j x) j) (updF (vC c f) j y j)
          unfold vC
          rw [updF_same, updF_same]
          refine .inr (.inr ⟨j + 1, 0, _, 1, by omega, by congr 1; omega, ?_⟩)
          rcases hy hjm with ⟨nid, h1, h2⟩ | ⟨h1, h2⟩
          · exact .inl ⟨nid, by show (if j = j then sk else _) = _; rw [if_pos rfl, h1], h2⟩
          · exact .inr ⟨by rw [h1]; rfl, h2⟩
        · show RW c 8 _ (vC c (updF (updF f k1 []) k x) j) (updF (vC c f) k y j)
          have e1 : j ≠ k1 := fun h => hk1 (h ▸ hjm)
          rw [updF_ne _ _ e]
          unfold vC
          rw [updF_ne _ _ e, updF_ne _ _ e1]
          exact .inr (.inr ⟨j + 1, 0, _, 1, by omega, by congr 1; omega, .inl ⟨c + 1 + j, by show (if j = k then sk else if j = k1 then none else some (c + 1 + j)) = _; rw [if_neg e, if_neg e1], rfl⟩⟩)
    · omega
  · rcases hcan ho with h | ⟨h, _⟩ | ⟨i, hi, he, rfl⟩
    · have := (basOk_look hB h).1; omega
    · omega
    · obtain rfl : j = i + 1 := by omega
      by_cases e : i = k
      · subst e
        rw [updF_same]
        rcases hX with ⟨h1, rfl, rfl⟩ | ⟨nid, h1, h2, rfl⟩
        · exact .inr ⟨by show (if i = i then sk else _) = _; rw [if_pos rfl, h1], rfl⟩
        · refine .inl ⟨nid, _, by show (if i = i then sk else _) = _; rw [if_pos rfl, h2], ?_, rfl, iL_ok _ _⟩
          unfold aftH
          have hnb' : hget B nid = none := by
            cases hb : hget B nid with
            | none => rfl
            | some o' => have := (basOk_look hB hb).1; omega
          rw [hget_app, hget_app, hnb']
          simp only [hget]
          rw [if_neg (by omega), if_pos trivial]
      · rw [updF_ne _ _ e]
        by_cases e1 : i = k1
        · subst e1
          rw [updF_same]
          exact .inr ⟨by show (if i = k then sk else if i = i then none else some (c + 1 + i)) = _; rw [if_neg e, if_pos rfl], rfl⟩
        · rw [updF_ne _ _ e1]
          exact .inl ⟨c + 1 + i, _, by show (if i = k then sk else if i = k1 then none else some (c + 1 + i)) = _; rw [if_neg e, if_neg e1], hslot i hi e, rfl, iL_ok _ _⟩
  · cases j with
    | zero => cases h1
    | succ j =>
      cases j' with
      | zero => cases h2
      | succ j' =>
        have h1' : (if j = k then sk else if j = k1 then none else some (c + 1 + j)) = some b := h1
        have h2' : (if j' = k then sk else if j' = k1 then none else some (c + 1 + j')) = some b := h2
        have hnid : sk = some b → c + 8 ≤ b := fun h => by
          rcases hX with ⟨h3, _, _⟩ | ⟨nid, h3, h4, _⟩
          · rw [h3] at h; cases h
          · rw [h4] at h; cases h; exact h3
        split at h1' <;> split at h2'
        · omega
        · split at h2'
          · cases h2'
          · cases h2'; have := hnid h1'; omega
        · split at h1'
          · cases h1'
          · cases h1'; have := hnid h2'; omega
        · split at h1' <;> split at h2'
          · cases h1'
          · cases h1'
          · cases h2'
          · cases h1'; simp only [Option.some.injEq] at h2'; omega
  · cases j with
    | zero => cases h1
    | succ j =>
      have h1' : (if j = k then sk else if j = k1 then none else some (c + 1 + j)) = some b := h1
      split at h1'
      · rcases hX with ⟨h3, _, _⟩ | ⟨nid, h3, h4, _⟩
        · rw [h3] at h1'; cases h1'
        · rw [h4] at h1'; cases h1'; omega
      · split at h1'
        · cases h1'
        · cases h1'; omega
theorem Wk.push2 {c M k k1 nid : Nat} {B : AHeap} {env : Env} {f : Nat → List Int} {ks : List Nat} {x : List Int} (hE : envOk c env = true) (hB : basOk c M B = true) (hM : M < c) (hk : k < 7) (hks : ∀ j ∈ ks, j < 7) (hk1 : k1 ∉ ks) (hkk : k1 ≠ k) (hn : c + 8 ≤ nid) (hg : g.low c) :
    Wk g ⟨env, canH c M B (updF (updF f k1 []) k x) ks, c + 8⟩ ⟨env, aftH c M B f ks k (.rsl nid 0 x.length 1) [(nid, .cells (iL x))], nid + 1⟩ :=
  push_core2 (sk := some nid) hE hB hM hk hks hk1 hkk hg (.inr ⟨nid, hn, rfl, rfl⟩) fun _ => .inl ⟨nid, rfl, rfl⟩
theorem Wk.push2N {c M k k1 n : Nat} {B : AHeap} {env : Env} {f : Nat → List Int} {ks : List Nat} (hE : envOk c env = true) (hB : basOk c M B = true) (hM : M < c) (hk : k < 7) (hks : ∀ j ∈ ks, j < 7) (hk1 : k1 ∉ ks) (hkk : k1 ≠ k) (hg : g.low c) :
    Wk g ⟨env, canH c M B (updF (updF f k1 []) k []) ks, c + 8⟩ ⟨env, aftH c M B f ks k .nil [], n⟩ :=
  push_core2 (sk := none) hE hB hM hk hks hk1 hkk hg (.inl ⟨rfl, rfl, rfl⟩) fun _ => .inr ⟨rfl, rfl⟩
end
theorem ACode.wk {P : Program} {ro : Option Nat} {g : G} {c : Code} {Q : AX → St → Prop} {S S' : St} (hw : Wk g S' S) (h : ACode P ro g c Q S') : ACode P ro g c Q S := fun κ a w hr =>
  let ⟨κ', hr'⟩ := hw κ a w hr
  h κ' a w hr'
theorem okE_entV {n : Nat} {v : Nat → AV} : ∀ {ks : List Nat}, (∀ j ∈ ks, (v j).ok n = true) → okE n (entV v ks) = true := by
  intro ks
  induction ks with
  | nil => intro _; rfl
  | cons a ks ih =>
    intro h
    show ((keyV a).ok n && (v a).ok n && okE n (entV v ks)) = true
    rw [ih fun j hj => h j (List.mem_cons_of_mem _ hj), h a List.mem_cons_self]; rfl
theorem vC_ok {n : Nat} {c k : Nat} {f : Nat → List Int} {y : AV} {ks : List Nat} (hks : ∀ j ∈ ks, j < 7) (hn : c + 8 ≤ n) (hy : y.ok n = true) : ∀ j ∈ ks, (updF (vC c f) k y j).ok n = true := fun j hj => by
  by_cases e : j = k
  · subst e; rw [updF_same]; exact hy
  · rw [updF_ne _ _ e]
    have := hks j hj
    show decide (c + 1 + j < n) = true
    exact decide_eq_true (by omega)
theorem updF_updF {α : Type} (f : Nat → α) (k : Nat) (x y : α) : updF (updF f k x) k y = updF f k y := by
  funext j
  by_cases e : j = k
  · subst e; rw [updF_same, updF_same]
  · rw [updF_ne _ _ e, updF_ne _ _ e, updF_ne _ _ e]
theorem app_nil1 {h : Nat → Option AObj} {j nid : Nat} {x : Int} (h1 : h j = some (.cells [.int .i64 x])) : aAppend Tryd.prog h nid 60 60 .nil (.rsl j 0 1 1) = some ⟨.rsl nid 0 1 1, [(nid, some (.cells (iL [x])))]⟩ := by
  simp only [aAppend, aAppend0, ty60, ty3, srcCells, h1]
  simp [iL, fl, encI]
theorem app_nilL {h : Nat → Option AObj} {nid : Nat} {l : List Int} (hl : l ≠ []) (h1 : l.length ≤ 100000) : aAppend Tryd.prog h nid 60 60 .nil (encR l) = some ⟨.rsl nid 0 l.length 1, [(nid, some (.cells (iL l)))]⟩ := by
  have hz : l.length ≠ 0 := fun h => hl (List.eq_nil_of_length_eq_zero h)
  simp only [aAppend, aAppend0, ty60, ty3, srcCells, encR, map_all (enc := encI) (n := 1) (fun _ => rfl) l, fl_flatten]
  simp [hl, iL]; omega
theorem app_lst {h : Nat → Option AObj} {i nid : Nat} {d l : List Int} (h0 : h i = some (.cells (iL d))) (h1 : d.length + l.length ≤ 100000) : aAppend Tryd.prog h nid 60 60 (.rsl i 0 d.length 1) (encR l) = some ⟨.rsl nid 0 (d ++ l).length 1, [(i, none), (nid, some (.cells (iL (d ++ l))))]⟩ := by
  have hb := fl_cellB (enc := encI) (fun _ => rfl) l
  have e : iL (d ++ l) = iL d ++ fl encI l := by unfold iL fl; rw [List.flatMap_append]
  rw [app_exact h0 (by rw [iL_len]; omega)]
  simp only [aAppend0, ty60, ty3, srcCells, encR, map_all (enc := encI) (n := 1) (fun _ => rfl) l, fl_flatten, h0]
  simp [iL_len, e, hb]; omega
theorem APure.nilArg {P : Program} {f : FuncId} {e : Nat} {r : AV} (h : APure P f [.lst e []] r) : APure P f [.nil] r := fun κ N w cargs h1 h2 h3 =>
  h κ N w cargs h1 h2 ⟨h3.1, fun i c hi => by
    cases i with
    | zero =>
      simp at hi; subst hi
      obtain ⟨u, hu, hur⟩ := h3.2 0 _ rfl
      cases hur
      exact ⟨_, hu, .lst e [] none 0 (fun _ _ => default) (fun _ => rfl) (Nat.le_refl _) (fun i x hx => by simp at hx) (fun i x hx => by simp at hx)⟩
    | succ i => simp at hi⟩
end Go.Proofs.YtiggnliiigcjaaaDoor
