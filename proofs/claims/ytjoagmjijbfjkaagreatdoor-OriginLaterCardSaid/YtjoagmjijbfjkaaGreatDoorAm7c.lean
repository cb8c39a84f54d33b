/-
  MAPS: lookup, update, delete; nil checks.
-/
import Derived.Test.YtjoagmjijbfjkaaGreatDoorAm7b
import Derived.MapKept
import Derived.Maps.RangeRun
import Derived.RangeFuncRecord
namespace Go.Am
open Go.MapKept

section
variable {P : Program} {N : Nat → Prop} {κ : Nat → Option Nat} {H : AHeap} {w : World} {id : Nat}

theorem akey1_isKey {K : TI} {kt : TypeId} (hK : tinfo P kt = some K) {k : AV} {v : Value} {av : Nat → Prop} (h : akey1 K.td k = true) (hv : VRel κ av w k v) : ∃ d, P.underlying kt = some d ∧ tdOf d = K.td ∧ IsKey d v := by
  obtain ⟨d, hd, he⟩ := tdEq hK
  refine ⟨d, hd, he, ?_⟩
  rw [← he] at h
  clear hK hd he
  cases d <;> cases k <;> simp only [tdOf, akey1, decide_eq_true_eq, reduceCtorEq] at h <;> cases hv <;> simp_all [IsKey]

theorem akeyF_sound {av : Nat → Prop} {xs : List AV} {vs : Array Value} (hx : CRel κ av w xs vs) (e : Bool) (n : Nat) : ∀ Fs : List Field, akeyF P xs (Fs.map fun f => (f.offset, f.type, f.name == "_")) = true →
    ∀ u : PUnit, Sem.run P (forIn Fs u fun f (_ : PUnit) => if f.name ≠ "_" then (do
        let x ← part f.type vs f.offset
        Instr.checkKey e (n + 1) f.type x
        pure (ForInStep.yield PUnit.unit)) else pure (ForInStep.yield PUnit.unit)) w = .ok PUnit.unit w := by
  intro Fs
  induction Fs with
  | nil => intro _ u; rfl
  | cons f Fs ih =>
    intro h u
    simp only [List.map_cons, akeyF, Bool.and_eq_true] at h
    rw [List.forIn_cons]
    by_cases hn : f.name = "_"
    · simp only [hn, ne_eq, not_true_eq_false, if_false, Sem.run_bind, Sem.run_pure, Result.andThen_ok]
      exact ih h.2 _
    · have h1 := h.1
      simp only [beq_eq_false_iff_ne.2 hn, Bool.false_or] at h1
      split at h1
      · rename_i y U hy hU
        obtain ⟨v, hv1, hv2⟩ := run_part (P := P) (w := w) hx hy
        obtain ⟨d, hd, _, hik⟩ := akey1_isKey hU h1 hv2
        simp only [ne_eq, hn, not_false_eq_true, if_true, Sem.run_bind, hv1, Result.andThen_ok, run_checkKey hd hik e n, Sem.run_pure]
        exact ih h.2 _
      · cases h1

theorem checkKey_sound {K : TI} {kt : TypeId} (hK : tinfo P kt = some K) {k : AV} {v : Value} {av : Nat → Prop} (h : akeyB P K.td k = true) (hv : VRel κ av w k v) (e : Bool) : (Instr.checkKey e 10000 kt v).run P w = .ok () w := by
  unfold akeyB at h
  split at h
  · rename_i fs xs hfs
    obtain ⟨Fs, hF, hFs⟩ := structFields hK hfs
    subst hFs
    obtain ⟨vs, rfl, h1, h2⟩ := hv.agg_inv
    have := akeyF_sound (P := P) (w := w) (κ := κ) (av := av) ⟨h1, h2⟩ e 9998 Fs.toList h PUnit.unit
    unfold Instr.checkKey
    simp only [Sem.run_bind, Go.run_underlying hF w, Result.andThen_ok]
    rw [← Array.forIn_toList]
    exact congrArg (fun r => Result.andThen r _) this
  · obtain ⟨d, hd, _, hik⟩ := akey1_isKey hK h hv
    exact run_checkKey hd hik e 9999

/-- The first entry with an equal key. -/
theorem findKey_sound {K : TI} {kt : TypeId} (hK : tinfo P kt = some K) {k : AV} {a : Value} {av : Nat → Prop} (ha : VRel κ av w k a) (es : List (AV × AV)) (l : List MapEntry) (hl : l.length = es.length)
    (he : ∀ (j : Nat) (e : AV × AV), es[j]? = some e → ∃ m, l[j]? = some m ∧ VRel κ av w e.1 m.key ∧ VRel κ av w e.2 m.val) {r : Option (Nat × AV)} (h : afind P kt K.td k es 0 = some r) :
    (r = none ∧ (Instr.findKey kt a l).run P w = .ok none w) ∨ ∃ j v m, r = some (j, v) ∧ (Instr.findKey kt a l).run P w = .ok (some (j, m.val)) w ∧ l[j]? = some m ∧ VRel κ av w v m.val ∧ ∃ e, es[j]? = some e ∧ akeq P kt K.td k e.1 = some true := by
  obtain ⟨d, hd, htd⟩ := tdEq hK
  -- by asking
  have asking : (∀ (x : AV) (b : Value) (q : Bool), akeq P kt K.td k x = some q → VRel κ av w x b → (Op.equal kt a b).run P w = .ok q w) →
      ∀ (es : List (AV × AV)) (l : List MapEntry) (i : Nat) (r : Option (Nat × AV)), l.length = es.length →
      (∀ (j : Nat) (e : AV × AV), es[j]? = some e → ∃ m, l[j]? = some m ∧ VRel κ av w e.1 m.key ∧ VRel κ av w e.2 m.val) → afind P kt K.td k es i = some r →
      (r = none ∧ (Instr.findAsking kt a l i).run P w = .ok none w) ∨ ∃ j v m, r = some (i + j, v) ∧ (Instr.findAsking kt a l i).run P w = .ok (some (i + j, m.val)) w ∧ l[j]? = some m ∧ VRel κ av w v m.val ∧ ∃ e, es[j]? = some e ∧ akeq P kt K.td k e.1 = some true := by
    intro heq es
    induction es with
    | nil =>
      intro l i r hl _ h
      have : l = [] := by simpa using hl
      subst this
      simp only [afind, Option.some.injEq] at h
      exact .inl ⟨h.symm, rfl⟩
    | cons e es ih =>
      intro l i r hl he h
      cases l with
      | nil => simp at hl
      | cons m l =>
        obtain ⟨m', hm, h1, h2⟩ := he 0 e rfl
        simp at hm; subst hm
        simp only [afind] at h
        split at h
        · rename_i hb
          cases h
          exact .inr ⟨0, e.2, m, rfl, by simp [Instr.findAsking, Sem.run_bind, heq _ _ _ hb h1, Result.andThen], rfl, h2, e, rfl, hb⟩
        · rename_i hb
          have hr : ∀ x, (Instr.findAsking kt a l (i + 1)).run P w = x → (Instr.findAsking kt a (m :: l) i).run P w = x := fun x hx => by
            rw [← hx]; simp [Instr.findAsking, Sem.run_bind, heq _ _ _ hb h1, Result.andThen]
          rcases ih l (i + 1) r (by simpa using hl) (fun j e' he' => by simpa using he (j + 1) e' (by simpa using he')) h with ⟨h3, h4⟩ | ⟨j, v, m', h3, h4, h5, h6, e', h7, h8⟩
          · exact .inl ⟨h3, hr _ h4⟩
          · exact .inr ⟨j + 1, v, m', by rw [h3]; simp; omega, by rw [hr _ h4]; simp; omega, by simpa using h5, h6, e', by simpa using h7, h8⟩
        · cases h
  -- at once
  have now : (∀ (x : AV) (b : Value) (q : Bool), akeq P kt K.td k x = some q → VRel κ av w x b → Instr.sameNow d a b = some q) →
      ∀ (es : List (AV × AV)) (l : List MapEntry) (i : Nat) (r : Option (Nat × AV)), l.length = es.length →
      (∀ (j : Nat) (e : AV × AV), es[j]? = some e → ∃ m, l[j]? = some m ∧ VRel κ av w e.1 m.key ∧ VRel κ av w e.2 m.val) → afind P kt K.td k es i = some r →
      (r = none ∧ Instr.findNow d a l i = some none) ∨ ∃ j v m, r = some (i + j, v) ∧ Instr.findNow d a l i = some (some (i + j, m.val)) ∧ l[j]? = some m ∧ VRel κ av w v m.val ∧ ∃ e, es[j]? = some e ∧ akeq P kt K.td k e.1 = some true := by
    intro heq es
    induction es with
    | nil =>
      intro l i r hl _ h
      have : l = [] := by simpa using hl
      subst this
      simp only [afind, Option.some.injEq] at h
      exact .inl ⟨h.symm, rfl⟩
    | cons e es ih =>
      intro l i r hl he h
      cases l with
      | nil => simp at hl
      | cons m l =>
        obtain ⟨m', hm, h1, h2⟩ := he 0 e rfl
        simp at hm; subst hm
        simp only [afind] at h
        split at h
        · rename_i hb
          cases h
          exact .inr ⟨0, e.2, m, rfl, by simp [Instr.findNow, heq _ _ _ hb h1], rfl, h2, e, rfl, hb⟩
        · rename_i hb
          have hs := heq _ _ _ hb h1
          rcases ih l (i + 1) r (by simpa using hl) (fun j e' he' => by simpa using he (j + 1) e' (by simpa using he')) h with ⟨h3, h4⟩ | ⟨j, v, m', h3, h4, h5, h6, e', h7, h8⟩
          · exact .inl ⟨h3, by simp [Instr.findNow, hs, h4]⟩
          · exact .inr ⟨j + 1, v, m', by rw [h3]; simp; omega, by simp [Instr.findNow, hs, h4]; omega, by simpa using h5, h6, e', by simpa using h7, h8⟩
        · cases h
  have byNow : (∀ (x : AV) (b : Value) (q : Bool), akeq P kt K.td k x = some q → VRel κ av w x b → Instr.sameNow d a b = some q) → _ := fun hs => now hs es l 0 r hl he h
  have fin : ∀ (hs : ∀ (x : AV) (b : Value) (q : Bool), akeq P kt K.td k x = some q → VRel κ av w x b → Instr.sameNow d a b = some q),
      (r = none ∧ (Instr.findKey kt a l).run P w = .ok none w) ∨ ∃ j v m, r = some (j, v) ∧ (Instr.findKey kt a l).run P w = .ok (some (j, m.val)) w ∧ l[j]? = some m ∧ VRel κ av w v m.val ∧ ∃ e, es[j]? = some e ∧ akeq P kt K.td k e.1 = some true := by
    intro hs
    rcases byNow hs with ⟨h1, h2⟩ | ⟨j, v, m, h1, h2, h3⟩
    · exact .inl ⟨h1, run_findKey hd h2⟩
    · exact .inr ⟨j, v, m, by simpa using h1, by rw [run_findKey hd h2]; simp, h3⟩
  cases d with
  | struct Fs =>
    have hst : K.td = .struct (Fs.toList.map fun f => (f.offset, f.type, f.name == "_")) := by rw [← htd]; rfl
    have hA := asking (fun x b q hq hx => by
      rw [hst] at hq
      unfold akeq at hq
      split at hq
      all_goals try (cases hq; done)
      all_goals try (rename_i e0; cases e0)
      all_goals try (simp at hq; done)
      rename_i xs ys e1
      split at hq
      · rename_i he6
        split at hq
        · cases hq; exact aeqT_sound 6 10000 (by omega) _ _ _ _ _ _ he6 ha hx
        · cases hq
      · rename_i he6
        cases hq; exact aeqT_sound 6 10000 (by omega) _ _ _ _ _ _ he6 ha hx
      · cases hq) es l 0 r hl he h
    cases l with
    | nil =>
      have : es = [] := by cases es <;> simp_all
      subst this
      simp only [afind, Option.some.injEq] at h
      exact .inl ⟨h.symm, run_findKey hd rfl⟩
    | cons m l =>
      have hfk : (Instr.findKey kt a (m :: l)).run P w = (Instr.findAsking kt a (m :: l) 0).run P w := by
        simp [Instr.findKey, Sem.run_bind, Go.run_underlying hd w, Result.andThen, Instr.findNow, Instr.sameNow]
      rw [hfk]
      simpa using hA
  | _ =>
    refine fin fun x b q hq hx => ?_
    rw [← htd] at hq
    clear asking now byNow fin h he hl
    cases k <;> cases x <;> simp only [tdOf, akeq, reduceCtorEq] at hq <;> cases ha <;> cases hx <;> simp_all [Instr.sameNow]

theorem azero_sound {t : TypeId} {z : AV} (h : azero P t = some z) (av : Nat → Prop) : ∃ v, (zeroValue t).run P w = .ok v w ∧ VRel κ av w z v := by
  unfold azero at h
  cases hi : P.info? t with
  | none => rw [hi] at h; cases h
  | some i =>
    rw [hi] at h
    simp only [Option.bind_some] at h
    cases hz : i.zero with
    | none => rw [hz] at h; cases h
    | some v =>
      rw [hz] at h; cases h
      exact ⟨v, by simp [zeroValue, typeInfo, hi, hz], ofVal_rel _ _ _ _⟩

theorem plainEq_bits {x y : AV} {a b : Value} {av : Nat → Prop} (h : plainEq x y = true) (hx : VRel κ av w x a) (hy : VRel κ av w y b) : a = b ∧ ∀ n, Instr.sameBits n a a = true := by
  unfold plainEq at h
  split at h
  · cases hx; cases hy; simp at h; obtain ⟨rfl, rfl⟩ := h
    exact ⟨rfl, fun n => by cases n <;> simp [Instr.sameBits]⟩
  · cases hx; cases hy
    have e := (bytes_beq _ _).1 h
    subst e
    exact ⟨rfl, fun n => by cases n <;> simp [Instr.sameBits, bytes_beq]⟩
  · cases hx; cases hy; simp at h; subst h
    exact ⟨rfl, fun n => by cases n <;> simp [Instr.sameBits]⟩
  · cases h
theorem plainEqL_bits {av : Nat → Prop} (n : Nat) : ∀ (xs ys : List AV) (vs us : List Value), vs.length = xs.length → us.length = ys.length → (∀ (i : Nat) (c : AV), xs[i]? = some c → ∃ u, vs[i]? = some u ∧ VRel κ av w c u) →
    (∀ (i : Nat) (c : AV), ys[i]? = some c → ∃ u, us[i]? = some u ∧ VRel κ av w c u) → plainEqL xs ys = true → vs = us ∧ ((vs.zip vs).all fun (x, y) => Instr.sameBits n x y) = true := by
  intro xs
  induction xs with
  | nil =>
    intro ys vs us hl hl' hx hy h
    cases ys with
    | nil =>
      have h1 : vs = [] := by simpa using hl
      have h2 : us = [] := by simpa using hl'
      subst h1; subst h2; exact ⟨rfl, rfl⟩
    | cons y ys => cases h
  | cons x xs ih =>
    intro ys vs us hl hl' hx hy h
    cases ys with
    | nil => cases h
    | cons y ys =>
      cases vs with
      | nil => simp at hl
      | cons v vs =>
        cases us with
        | nil => simp at hl'
        | cons u us =>
          simp only [plainEqL, Bool.and_eq_true] at h
          obtain ⟨v', hv1, hv2⟩ := hx 0 x rfl
          obtain ⟨u', hu1, hu2⟩ := hy 0 y rfl
          simp at hv1 hu1; subst hv1; subst hu1
          obtain ⟨rfl, hb⟩ := plainEq_bits h.1 hv2 hu2
          obtain ⟨rfl, hr⟩ := ih ys vs us (by simpa using hl) (by simpa using hl') (fun i c hi => by simpa using hx (i + 1) c (by simpa using hi)) (fun i c hi => by simpa using hy (i + 1) c (by simpa using hi)) h.2
          exact ⟨rfl, by rw [List.zip_cons_cons, List.all_cons, hr, Bool.and_true]; exact hb n⟩

theorem akeq_bits {kt : TypeId} {d : TD} {k x : AV} {a b : Value} {av : Nat → Prop} (h : akeq P kt d k x = some true) (ha : VRel κ av w k a) (hb : VRel κ av w x b) : Instr.sameBits 10000 b a = true := by
  unfold akeq at h
  split at h
  · split at h
    · rename_i e; subst e; cases ha; cases hb; simp at h; subst h
      simp [Instr.sameBits]
    · cases h
  · cases ha; cases hb
    simp only [Option.some.injEq] at h
    have e := (bytes_beq _ _).1 h
    subst e
    simp [Instr.sameBits, bytes_beq]
  · cases ha; cases hb; simp at h; subst h
    simp [Instr.sameBits]
  · rename_i xs ys
    split at h
    · split at h
      · rename_i hp
        obtain ⟨vs, rfl, v1, v2⟩ := ha.agg_inv
        obtain ⟨us, rfl, u1, u2⟩ := hb.agg_inv
        have := plainEqL_bits 9999 xs ys vs.toList us.toList (by simpa using v1) (by simpa using u1) (fun i c hi => by simpa using v2 i c hi) (fun i c hi => by simpa using u2 i c hi) hp
        obtain ⟨e1, e2⟩ := this
        have e3 : vs = us := by simpa using e1
        subst e3
        simp only [Instr.sameBits, beq_self_eq_true, Bool.true_and]
        exact e2
      · cases h
    · cases h
    · cases h
  · cases h

/-- What lies behind a map that is read. -/
theorem amap_rel (hr : HRel κ N H w) {x : AV} {a : Value} {es : List (AV × AV)} (hx : VRel κ (avoid κ N H) w x a) (h : amap (hget H) x = some es) :
    (es = [] ∧ a = .map none) ∨ ∃ r ents clk, a = .map (some r) ∧ w.heap[r]? = some (.map ents clk) ∧ ents.toList.length = es.length ∧
      ∀ (j : Nat) (e : AV × AV), es[j]? = some e → ∃ m, ents.toList[j]? = some m ∧ VRel κ (avoid κ N H) w e.1 m.key ∧ VRel κ (avoid κ N H) w e.2 m.val := by
  unfold amap at h
  split at h
  · cases h; cases hx; exact .inl ⟨rfl, rfl⟩
  · cases h
    cases hx with
    | imap es r ents clk uk uv hn hr hsz hu hk hv hB =>
      exact .inr ⟨r, ents, clk, rfl, hr, by simpa using hsz, fun j e he => by
        obtain ⟨m, h1, h2, h3⟩ := hu j e he
        exact ⟨m, by simpa using h1, h2 ▸ (hk j e he).up, h3 ▸ (hv j e he).up⟩⟩
  · split at h
    · rename_i i es' hi
      cases h
      cases hx with
      | mref id r hk =>
        obtain ⟨r', ents, clk, h1, h2, h3, hB, h4⟩ := hr.rel _ _ hi
        rw [hk] at h1; cases h1
        exact .inr ⟨r, ents, clk, rfl, h2, by simpa using h3, fun j e he => by obtain ⟨m, m1, m2⟩ := h4 j e he; exact ⟨m, by simpa using m1, m2⟩⟩
    · cases h
  · cases h

theorem sound_lookup {t : TypeId} {x k y : AV} {a b : Value} {ok : Bool} (hr : HRel κ N H w) (hx : VRel κ (avoid κ N H) w x a) (hk : VRel κ (avoid κ N H) w k b) (h : aLookup P (hget H) t x k ok = some y) :
    Sound P (do pure (.value (← Instr.lookup t a b ok))) N κ H w ⟨y, []⟩ id := by
  refine Sound.same hr ?_
  unfold aLookup at h
  split at h
  · rename_i T hT
    split at h
    · rename_i kt et htd
      split at h
      · rename_i K es hK hes
        split at h
        · rename_i hkb
          have hun := mapElem hT htd
          have hck : ∀ e, (Instr.checkKey e 10000 kt b).run P w = .ok () w := fun e => checkKey_sound hK hkb hk e
          have key : ∀ l : List MapEntry, l.length = es.length → (∀ (j : Nat) (e : AV × AV), es[j]? = some e → ∃ m, l[j]? = some m ∧ VRel κ (avoid κ N H) w e.1 m.key ∧ VRel κ (avoid κ N H) w e.2 m.val) →
              ∃ (r : Option (Nat × Value)) (v : Value) (o : Bool), (Instr.findKey kt b l).run P w = .ok r w ∧ (match r with | some (_, v') => v = v' ∧ o = true | none => (zeroValue et).run P w = .ok v w ∧ o = false) ∧
                VRel κ (avoid κ N H) w y (if ok = true then .tuple #[v, .bool o] else v) := by
            intro l hl he
            have wrap2 : ∀ (z : AV) (v : Value) (o : Bool), VRel κ (avoid κ N H) w z v → VRel κ (avoid κ N H) w (if ok = true then .tup [z, .bool o] else z) (if ok = true then .tuple #[v, .bool o] else v) := by
              intro z v o hz
              split
              · refine .tupOf rfl fun i c hi => ?_
                rcases i with _ | _ | i
                · simp at hi; subst hi; exact ⟨v, rfl, hz⟩
                · simp at hi; subst hi; exact ⟨_, rfl, .bool o⟩
                · simp at hi
              · exact hz
            split at h
            · rename_i hf
              cases h
              rcases findKey_sound hK hk es l hl he hf with ⟨h1, _⟩ | ⟨j', v', m, h1, h2, h3, h4, _⟩
              · cases h1
              · cases h1
                exact ⟨_, m.val, true, h2, ⟨rfl, rfl⟩, wrap2 _ _ true h4⟩
            · rename_i z hf hz
              cases h
              rcases findKey_sound hK hk es l hl he hf with ⟨_, h2⟩ | ⟨j', v', m, h1, _⟩
              · obtain ⟨zv, hz1, hz2⟩ := azero_sound (κ := κ) (w := w) hz (avoid κ N H)
                exact ⟨_, zv, false, h2, ⟨hz1, rfl⟩, wrap2 _ _ false hz2⟩
              · cases h1
            · cases h
          have hun' : (underlying t).run P w = .ok (.map kt et) w := Go.run_underlying hun w
          rcases amap_rel hr hx hes with ⟨rfl, rfl⟩ | ⟨r, ents, clk, rfl, h1, h2, h3⟩
          · obtain ⟨r, v, o, hv1, hv2, hv3⟩ := key [] rfl (fun j e he => by simp at he)
            refine ⟨_, ?_, hv3⟩
            simp only [Instr.lookup, Sem.run_bind, hun', Result.andThen_ok, Sem.run_pure, hck, hv1]
            cases r with
            | none => obtain ⟨z1, rfl⟩ := hv2; simp only [Sem.run_bind, z1, Result.andThen_ok, Sem.run_pure]
            | some p => obtain ⟨rfl, rfl⟩ := hv2; simp only [Sem.run_bind, Result.andThen_ok, Sem.run_pure]
          · obtain ⟨r', v, o, hv1, hv2, hv3⟩ := key ents.toList h2 h3
            refine ⟨_, ?_, hv3⟩
            simp only [Instr.lookup, Sem.run_bind, hun', Result.andThen_ok, MapKept.run_getObj_map h1, Sem.run_pure, hck, hv1]
            cases r' with
            | none => obtain ⟨z1, rfl⟩ := hv2; simp only [Sem.run_bind, z1, Result.andThen_ok, Sem.run_pure]
            | some p => obtain ⟨rfl, rfl⟩ := hv2; simp only [Sem.run_bind, Result.andThen_ok, Sem.run_pure]
        · cases h
      · cases h
    · cases h
  · cases h

theorem Born.modify {ents : Array MapEntry} {clk : Nat} (h : Born ents clk) (j : Nat) (b c : Value) : Born (ents.modify j fun q => { q with key := b, val := c }) clk := by
  have e : ((ents.modify j fun q => { q with key := b, val := c }).toList.map (·.born)) = ents.toList.map (·.born) := by
    refine List.ext_getElem? fun i => ?_
    simp only [List.getElem?_map, Array.getElem?_toList, Array.getElem?_modify]
    split
    · cases ents[i]? <;> rfl
    · rfl
  refine ⟨e ▸ h.1, fun m hm => ?_⟩
  have : m.born ∈ ents.toList.map (·.born) := e ▸ List.mem_map_of_mem hm
  obtain ⟨x, hx, hxe⟩ := List.mem_map.1 this
  exact hxe ▸ h.2 x hx
theorem Born.push {ents : Array MapEntry} {clk : Nat} (h : Born ents clk) (b c : Value) : Born (ents.push { key := b, val := c, born := clk }) (clk + 1) := by
  refine ⟨?_, fun m hm => ?_⟩
  · simp only [Array.toList_push, List.map_append, List.map_cons, List.map_nil]
    refine List.nodup_append.2 ⟨h.1, by simp, fun a ha b' hb => ?_⟩
    obtain ⟨x, hx, rfl⟩ := List.mem_map.1 ha
    simp only [List.mem_singleton] at hb
    have := h.2 x hx
    omega
  · simp only [Array.toList_push, List.mem_append, List.mem_singleton] at hm
    rcases hm with hm | rfl
    · have := h.2 m hm; omega
    · exact Nat.lt_succ_self _
theorem Born.erase {ents : Array MapEntry} {clk : Nat} (h : Born ents clk) (j : Nat) : Born (ents.eraseIdxIfInBounds j) clk := by
  have hs : (ents.eraseIdxIfInBounds j).toList.Sublist ents.toList := by
    unfold Array.eraseIdxIfInBounds
    split
    · simpa using List.eraseIdx_sublist _ _
    · exact List.Sublist.refl _
  exact ⟨h.1.sublist (hs.map _), fun m hm => h.2 m (hs.subset hm)⟩
theorem Step.putMap (hr : HRel κ N H w) {es es' : List (AV × AV)} {r : Nat} (ho : hget H id = some (.map es)) (hk : κ id = some r) {ents ents' : Array MapEntry} {clk clk' : Nat} (hb : w.heap[r]? = some (.map ents clk))
    (hl : ents'.size = es'.length) (hB : Born ents' clk') (hv : ∀ (j : Nat) (e : AV × AV), es'[j]? = some e → ∃ m, ents'[j]? = some m ∧ VRel κ (avoid κ N H) w e.1 m.key ∧ VRel κ (avoid κ N H) w e.2 m.val) :
    Step N κ H w κ (hset H id (.map es')) (w.putObj r (.map ents' clk')) := by
  have hlt : r < w.heap.size := by
    rcases Nat.lt_or_ge r w.heap.size with h | h
    · exact h
    · rw [Array.getElem?_eq_none h] at hb; cases hb
  have hne : ∀ b, b ≠ r → (w.putObj r (.map ents' clk')).heap[b]? = w.heap[b]? := fun b h => World.putObj_heap_other h
  refine .turn hr ho hk ⟨by simp, fun b c e f h => ⟨c, f, (hne b ?_).trans h, rfl⟩, fun b L h => ⟨L, (hne b ?_).trans h⟩, rfl, rfl, rfl⟩ hne (by simp) _ fun up => ?_
  · intro e'; subst e'; rw [hb] at h; cases h
  · intro e'; subst e'; rw [hb] at h; cases h
  · exact ⟨r, ents', clk', hk, World.putObj_heap_same hlt, hl, hB, fun j e he => by obtain ⟨m, m1, m2, m3⟩ := hv j e he; exact ⟨m, m1, up _ _ m2, up _ _ m3⟩⟩

theorem fresh_put {i : Nat} {o p : AObj} (hi : hget H i = some p) (j : Nat) (hf : Fresh κ H j) : Fresh κ (hset H i o) j := by
  refine ⟨hf.1, ?_⟩
  rw [hget_hset]
  split
  · rename_i e; subst e; rw [hf.2] at hi; cases hi
  · exact hf.2

theorem sound_mapUpdate {t : TypeId} {x k v : AV} {a b c : Value} {out : Out} (hr : HRel κ N H w) (hx : VRel κ (avoid κ N H) w x a) (hk : VRel κ (avoid κ N H) w k b) (hv : VRel κ (avoid κ N H) w v c)
    (h : aMapUpdate P (hget H) t x k v = some out) : Sound P (do Instr.mapUpdate t a b c; pure .skip) N κ H w out id := by
  unfold aMapUpdate at h
  split at h
  · rename_i T hT
    split at h
    · rename_i kt et i htd
      split at h
      · rename_i K es hK hi
        split at h
        · rename_i hkb
          have hun := mapElem hT htd
          have hck : ∀ e, (Instr.checkKey e 10000 kt b).run P w = .ok () w := fun e => checkKey_sound hK hkb hk e
          have hun' : (underlying t).run P w = .ok (.map kt et) w := Go.run_underlying hun w
          obtain ⟨r, ents, clk, h1, h2, h3, hB, h4⟩ := hr.rel _ _ hi
          cases hx with
          | mref _ r' hk' =>
            rw [hk'] at h1; cases h1
            have h4' : ∀ (j : Nat) (e : AV × AV), es[j]? = some e → ∃ m, ents.toList[j]? = some m ∧ VRel κ (avoid κ N H) w e.1 m.key ∧ VRel κ (avoid κ N H) w e.2 m.val := fun j e he => by
              obtain ⟨m, m1, m2⟩ := h4 j e he; exact ⟨m, by simpa using m1, m2⟩
            split at h
            · rename_i j v' hf
              cases h
              rcases findKey_sound hK hk es ents.toList (by simpa using h3) h4' hf with ⟨e1, _⟩ | ⟨j', v'', m, e1, e2, e3, e4, e, e5, e6⟩
              · cases e1
              · simp only [Option.some.injEq, Prod.mk.injEq] at e1
                obtain ⟨rfl, rfl⟩ := e1
                have em : ents[j]? = some m := by simpa using e3
                obtain ⟨m', m1, m2, m3⟩ := h4 j e e5
                rw [em] at m1; cases m1
                have hbits := akeq_bits e6 hk m2
                refine ⟨κ, w.putObj r (.map (ents.modify j fun q => { q with key := b, val := c }) clk), Go.undef, .inr ⟨?_, rfl⟩, Step.putMap hr hi hk' h2 (by simp [h3]) (hB.modify j b c) ?_, .undef, fun q _ hf => fresh_put hi q hf⟩
                · simp only [Instr.mapUpdate, Sem.run_bind, hun', Result.andThen_ok, MapKept.run_getObj_map h2, hck, e2, em, Option.map_some, Option.getD_some, Instr.keyThatStays, hbits, if_true, Sem.run_pure, MapKept.run_setObj_map _ h2]
                  rfl
                · intro q e' he'
                  by_cases hq : q = j
                  · subst hq
                    have hlt : q < es.length := by
                      rcases Nat.lt_or_ge q es.length with h | h
                      · exact h
                      · rw [List.getElem?_eq_none h] at e5; cases e5
                    rw [List.getElem?_set_self hlt] at he'; cases he'
                    exact ⟨_, by rw [Array.getElem?_modify, if_pos rfl, em]; rfl, hk, hv⟩
                  · rw [List.getElem?_set_ne (Ne.symm hq)] at he'
                    obtain ⟨m', m1, m2'⟩ := h4 q e' he'
                    exact ⟨m', by rw [Array.getElem?_modify, if_neg (Ne.symm hq)]; exact m1, m2'⟩
            · rename_i hf
              cases h
              rcases findKey_sound hK hk es ents.toList (by simpa using h3) h4' hf with ⟨_, e2⟩ | ⟨j', v'', m, e1, _⟩
              · refine ⟨κ, w.putObj r (.map (ents.push { key := b, val := c, born := clk }) (clk + 1)), Go.undef, .inr ⟨?_, rfl⟩, Step.putMap hr hi hk' h2 (by simp [h3]) (hB.push b c) ?_, .undef, fun q _ hf => fresh_put hi q hf⟩
                · simp only [Instr.mapUpdate, Sem.run_bind, hun', Result.andThen_ok, MapKept.run_getObj_map h2, hck, e2, Sem.run_pure, MapKept.run_setObj_map _ h2]
                  rfl
                · intro q e' he'
                  rw [List.getElem?_append] at he'
                  split at he'
                  · rename_i hlt
                    obtain ⟨m', m1, m2'⟩ := h4 q e' he'
                    exact ⟨m', by rw [Array.getElem?_push, if_neg (by omega)]; exact m1, m2'⟩
                  · rename_i hge
                    have hq : q = es.length := by
                      rcases Nat.lt_or_ge (q - es.length) 1 with h | h
                      · omega
                      · rw [List.getElem?_eq_none (by simpa using h)] at he'; cases he'
                    subst hq
                    simp at he'; subst he'
                    exact ⟨_, by rw [Array.getElem?_push, if_pos h3.symm], hk, hv⟩
              · cases e1
            · cases h
        · cases h
      · cases h
    · cases h
  · cases h

theorem sound_delete {ts : Array TypeId} {ty t : TypeId} {x k : AV} {a b : Value} {out : Out} (hts : ts[0]? = some t) (hr : HRel κ N H w) (hx : VRel κ (avoid κ N H) w x a) (hk : VRel κ (avoid κ N H) w k b)
    (h : aDelete P (hget H) t x k = some out) : Sound P (do pure (.value (← Builtin.delete_ ts ty #[a, b]))) N κ H w out id := by
  unfold aDelete at h
  split at h
  · rename_i T hT
    split at h
    · rename_i kt et i htd
      split at h
      · rename_i K es hK hi
        split at h
        · rename_i hkb
          have hun := mapElem hT htd
          have hck : ∀ e, (Instr.checkKey e 10000 kt b).run P w = .ok () w := fun e => checkKey_sound hK hkb hk e
          have hun' : (underlying t).run P w = .ok (.map kt et) w := Go.run_underlying hun w
          obtain ⟨r, ents, clk, h1, h2, h3, hB, h4⟩ := hr.rel _ _ hi
          cases hx with
          | mref _ r' hk' =>
            rw [hk'] at h1; cases h1
            have h4' : ∀ (j : Nat) (e : AV × AV), es[j]? = some e → ∃ m, ents.toList[j]? = some m ∧ VRel κ (avoid κ N H) w e.1 m.key ∧ VRel κ (avoid κ N H) w e.2 m.val := fun j e he => by
              obtain ⟨m, m1, m2⟩ := h4 j e he; exact ⟨m, by simpa using m1, m2⟩
            split at h
            · rename_i j v' hf
              cases h
              rcases findKey_sound hK hk es ents.toList (by simpa using h3) h4' hf with ⟨e1, _⟩ | ⟨j', v'', m, e1, e2, e3, e4, e, e5, e6⟩
              · cases e1
              · simp only [Option.some.injEq, Prod.mk.injEq] at e1
                obtain ⟨rfl, rfl⟩ := e1
                have hlt : j < es.length := by
                  rcases Nat.lt_or_ge j es.length with h | h
                  · exact h
                  · rw [List.getElem?_eq_none h] at e5; cases e5
                have hlt' : j < ents.size := by omega
                refine ⟨κ, w.putObj r (.map (ents.eraseIdxIfInBounds j) clk), Go.undef, .inl ?_, Step.putMap hr hi hk' h2 ?_ (hB.erase j) ?_, .undef, fun q _ hf => fresh_put hi q hf⟩
                · simp [Builtin.delete_, hts, hun', MapKept.run_getObj_map h2, hck, e2, MapKept.run_setObj_map _ h2, World.putObj, Go.undef]
                · simp [Array.eraseIdxIfInBounds, List.length_eraseIdx, hlt, h3]
                · intro q e' he'
                  have hl : ∀ p : MapEntry, (ents.eraseIdxIfInBounds j)[q]? = some p ↔ (ents.toList.eraseIdx j)[q]? = some p := fun p => by
                    simp [Array.eraseIdxIfInBounds, hlt', ← Array.getElem?_toList]
                  rw [List.getElem?_eraseIdx] at he'
                  split at he'
                  · rename_i hq
                    obtain ⟨m', m1, m2'⟩ := h4' q e' he'
                    exact ⟨m', (hl _).2 (by rw [List.getElem?_eraseIdx, if_pos hq]; exact m1), m2'⟩
                  · rename_i hq
                    obtain ⟨m', m1, m2'⟩ := h4' (q + 1) e' he'
                    exact ⟨m', (hl _).2 (by rw [List.getElem?_eraseIdx, if_neg hq]; exact m1), m2'⟩
            · rename_i hf
              cases h
              rcases findKey_sound hK hk es ents.toList (by simpa using h3) h4' hf with ⟨_, e2⟩ | ⟨j', v'', m, e1, _⟩
              · refine ⟨κ, w.putObj r (.map ents clk), Go.undef, .inl ?_, Step.putMap hr hi hk' h2 h3 hB h4, .undef, fun q _ hf => fresh_put hi q hf⟩
                simp [Builtin.delete_, hts, hun', MapKept.run_getObj_map h2, hck, e2, MapKept.run_setObj_map _ h2, World.putObj, Go.undef]
              · cases e1
            · cases h
        · cases h
      · cases h
    · cases h
  · cases h

theorem sound_index {t : TypeId} {x i y : AV} {a b : Value} (hr : HRel κ N H w) (hx : VRel κ (avoid κ N H) w x a) (hi : VRel κ (avoid κ N H) w i b) (h : aIndex P t x i = some y) :
    Sound P (do pure (.value (← Instr.index t a b))) N κ H w ⟨y, []⟩ id := by
  refine Sound.same hr ?_
  unfold aIndex at h
  split at h
  · rename_i T hT
    split at h
    · rename_i n e cs k j htd
      have hun := arrElem hT htd
      cases hi
      obtain ⟨vs, rfl, h1, h2⟩ := hx.agg_inv
      split at h
      · rename_i E hE
        split at h
        · rename_i hc
          obtain ⟨v, hv1, hv2⟩ := run_part (P := P) (w := w) ⟨h1, h2⟩ h
          refine ⟨v, ?_, hv2⟩
          simp only [Instr.index, asIntOf, Sem.run_bind, Sem.run_pure, Result.andThen_ok, Go.run_underlying hun w]
          rw [if_pos hc]
          simp only [Sem.run_bind, run_sizeOf hE, Result.andThen_ok, hv1]
        · cases h
      · cases h
    · rename_i s k j htd
      have hun := strType hT htd
      cases hi; cases hx
      split at h
      · rename_i h0
        cases hs : s[j.toNat]? with
        | none => rw [hs] at h; cases h
        | some c =>
          rw [hs] at h; cases h
          refine ⟨_, ?_, .int _ _⟩
          simp only [Instr.index, asIntOf, Sem.run_bind, Sem.run_pure, Result.andThen_ok, Go.run_underlying hun w, if_pos h0, hs]
      · cases h
    · cases h
  · cases h

/-- An iterator is laid. -/
theorem sound_range {t : TypeId} {x : AV} {a : Value} {out : Out} (hr : HRel κ N H w) (hid : Fresh κ H id) (hx : VRel κ (avoid κ N H) w x a) (h : aRange P id t x = some out) :
    Sound P (do pure (.value (← Instr.range t a))) N κ H w out id := by
  unfold aRange at h
  split at h
  · rename_i T hT
    split at h
    · rename_i kt et es htd
      cases h
      have hun := mapElem hT htd
      cases hx with
      | imap _ r ents clk uk uv hn hb hsz hu hk hv hB =>
        have hr0 : r < w.heap.size := by
          rcases Nat.lt_or_ge r w.heap.size with h | h
          · exact h
          · rw [Array.getElem?_eq_none h] at hb; cases hb
        have hf0 : (ents.toList.filter fun e => !(#[] : Array Nat).contains e.born) = ents.toList := List.filter_eq_self.2 fun e _ => by simp
        have st : Step N κ H w (withNew κ id (some w.heap.size)) (hset H id (.iter none es)) (w.alloc (.mapIter (some r) clk #[] clk)) := by
          refine .newObj hr hid _ _ fun up => ⟨_, r, ents, clk, #[], withNew_new, alloc_new w _, fun ha => ?_, (alloc_old w _ r hr0).trans hb, hB, ?_, fun i e he => ?_, fun e he => by cases he⟩
          · rcases ha with ha | ⟨j, o, hj, hjr⟩
            · exact hn (.inl ha)
            · rw [hget_hset] at hj
              by_cases e : id = j
              · subst e; rw [withNew_new] at hjr; cases hjr; omega
              · rw [if_neg e] at hj; rw [withNew_old (Ne.symm e)] at hjr
                exact hn (.inr ⟨j, o, hj, hjr⟩)
          · rw [hf0]; simpa using hsz
          · rw [hf0]
            obtain ⟨m, h1, h2, h3⟩ := hu i e he
            exact ⟨m, by simpa using h1, up _ _ (h2 ▸ (hk i e he).up), up _ _ (h3 ▸ (hv i e he).up)⟩
        refine ⟨_, _, .pointer (some ⟨w.heap.size, 0, none⟩), .inl ?_, st, .vptr _ _ _ withNew_new, fun j hj hf => ⟨?_, ?_⟩⟩
        · simp only [Sem.run_bind, run_range_map w t kt et r ents clk hun hb, Result.andThen_ok, Sem.run_pure]
        all_goals have hj : j ≠ id := hj.resolve_right (by simp)
        · rw [withNew_old hj]; exact hf.1
        · show hget (hset H id _) j = none
          rw [hget_hset, if_neg (Ne.symm hj)]; exact hf.2
    · cases h
  · cases h
theorem sound_entry {x : AV} {a : Value} {out : Out} (hr : HRel κ N H w) (hx : VRel κ (avoid κ N H) w x a) (h : aEntry x (hget H) = some out) :
    Sound P (do pure (.value (← Instr.entry a))) N κ H w out id := by
  unfold aEntry at h
  split at h
  · rename_i i
    split at h
    · rename_i e left hi
      cases h
      cases hx with
      | vptr _ _ blk hk =>
        obtain ⟨r, m, ents, clk, seen, h1, h2, h3, h4, hB, h5, h6, h7⟩ := hr.rel _ _ hi
        rw [hk] at h1; cases h1
        obtain ⟨s, x, rfl, hm, hkx, hvx⟩ := h7 e rfl
        refine Sound.same hr ⟨_, run_entry_at w blk m clk s ents clk x h2 h4 hm hB.1, .tupOf rfl fun i c hi => ?_⟩
        rcases i with _ | _ | i
        · simp at hi; subst hi; exact ⟨_, rfl, hkx⟩
        · simp at hi; subst hi; exact ⟨_, rfl, hvx⟩
        · simp at hi
    · cases h
  · cases h
/-- Where no stamp is given twice, one more that is seen takes away just its own entry. -/
theorem left_push {l : List MapEntry} (hn : (l.map (·.born)).Nodup) (seen : Array Nat) {i : Nat} {x : MapEntry} (hx : (l.filter fun e => !seen.contains e.born)[i]? = some x) :
    (l.filter fun e => !(seen.push x.born).contains e.born) = (l.filter fun e => !seen.contains e.born).eraseIdx i := by
  have e1 : (l.filter fun e => !(seen.push x.born).contains e.born) = (l.filter fun e => !seen.contains e.born).filter fun e => e.born != x.born := by
    rw [List.filter_filter]
    refine List.filter_congr fun e _ => ?_
    simp only [Array.contains_push, Bool.not_or, bne]
    rw [Bool.and_comm]
  rw [e1]
  have hn' : ((l.filter fun e => !seen.contains e.born).map (·.born)).Nodup := hn.sublist (List.Sublist.map _ List.filter_sublist)
  generalize (l.filter fun e => !seen.contains e.born) = L at hx hn'
  clear e1 hn
  induction L generalizing i with
  | nil => simp at hx
  | cons a L ih =>
    simp only [List.map_cons, List.nodup_cons, List.mem_map, not_exists, not_and] at hn'
    cases i with
    | zero =>
      simp only [List.getElem?_cons_zero, Option.some.injEq] at hx
      subst hx
      rw [List.filter_cons_of_neg (by simp)]
      simp only [List.eraseIdx_cons_zero]
      exact List.filter_eq_self.2 fun e he => by simpa using hn'.1 e he
    | succ i =>
      simp only [List.getElem?_cons_succ] at hx
      have hne : a.born ≠ x.born := fun h => hn'.1 x (List.mem_of_getElem? hx) h.symm
      rw [List.filter_cons_of_pos (by simpa using hne)]
      simp only [List.eraseIdx_cons_succ]
      rw [ih hx hn'.2]
/-- A step of an iterator: either nothing is left, or one of those that are left comes out. -/
theorem sound_next {ty : TypeId} {i : Nat} {a : Value} {cur : Option (AV × AV)} {left : List (AV × AV)} (hr : HRel κ N H w) (hx : VRel κ (avoid κ N H) w (.vptr i 0) a) (hi : hget H i = some (.iter cur left)) :
    (left = [] ∧ ∃ v, (Instr.next a false ty).run P w = .ok v w ∧ VRel κ (avoid κ N H) w (.tup [.bool false]) v) ∨
    ∃ (j : Nat) (e : AV × AV) (w' : World) (v : Value), left[j]? = some e ∧ (Instr.next a false ty).run P w = .ok v w' ∧ Step N κ H w κ (hset H i (.iter (some e) (left.eraseIdx j))) w' ∧
      VRel κ (avoid κ N (hset H i (.iter (some e) (left.eraseIdx j)))) w' (.tup [.bool true, e.1, e.2]) v := by
  cases hx with
  | vptr _ _ blk hk =>
    obtain ⟨r, m, ents, clk, seen, h1, h2, h3, h4, hB, h5, h6, h7⟩ := hr.rel _ _ hi
    rw [hk] at h1; cases h1
    have hL : (leftOf ents seen).toList = ents.toList.filter fun e => !seen.contains e.born := by simp [leftOf]
    rcases run_next_at (P := P) w ty blk m clk clk seen ents clk h2 h4 hB.2 (Nat.le_refl _) with ⟨h0, hrun⟩ | ⟨x, hxm, w1, hw1, hrun⟩
    · left
      have : left.length = 0 := by rw [← h5, ← hL]; simpa using h0
      refine ⟨List.eq_nil_of_length_eq_zero this, _, hrun, .tupOf rfl fun i c hi => ?_⟩
      rcases i with _ | i
      · simp at hi; subst hi; exact ⟨_, rfl, .bool _⟩
      · simp at hi
    · right
      rw [hL] at hxm
      obtain ⟨j, hj⟩ := List.mem_iff_getElem?.1 hxm
      have hjl : j < left.length := by
        rw [← h5]
        rcases Nat.lt_or_ge j (ents.toList.filter fun e => !seen.contains e.born).length with h | h
        · exact h
        · rw [List.getElem?_eq_none h] at hj; cases hj
      obtain ⟨x', hx', hkx, hvx⟩ := h6 j left[j] (List.getElem?_eq_getElem hjl)
      rw [hj] at hx'; cases hx'
      have hmem : x ∈ ents.toList := (List.mem_filter.1 hxm).1
      have hh1 : w1.heap = w.heap := by rcases hw1 with rfl | rfl <;> rfl
      have hs1 : w1.os = w.os ∧ w1.tape = w.tape ∧ w1.output = w.output := by rcases hw1 with rfl | rfl <;> exact ⟨rfl, rfl, rfl⟩
      have hblk : blk < w.heap.size := hr.bd _ _ hk
      have hsame : (ChangeMaps.setBlock w1 blk (.mapIter (some m) clk (seen.push x.born) clk)).heap[blk]? = some (.mapIter (some m) clk (seen.push x.born) clk) := by
        simp [ChangeMaps.setBlock, hh1, hblk]
      have hne : ∀ b, b ≠ blk → (ChangeMaps.setBlock w1 blk (.mapIter (some m) clk (seen.push x.born) clk)).heap[b]? = w.heap[b]? := fun b h => by
        simp [ChangeMaps.setBlock, hh1, Array.getElem?_setIfInBounds_ne (Ne.symm h)]
      have hsz : (ChangeMaps.setBlock w1 blk (.mapIter (some m) clk (seen.push x.born) clk)).heap.size = w.heap.size := by simp [ChangeMaps.setBlock, hh1]
      have hmb : m ≠ blk := fun e => by subst e; rw [h2] at h4; cases h4
      have hown : ∀ b, avoid κ N (hset H i (.iter (some left[j]) (left.eraseIdx j))) b → avoid κ N H b := by
        rintro b (hb | ⟨q, o, hq, hb⟩)
        · exact .inl hb
        · rw [hget_hset] at hq
          split at hq
          · rename_i e; subst e; exact .inr ⟨_, _, hi, hb⟩
          · exact .inr ⟨q, o, hq, hb⟩
      have st : Step N κ H w κ (hset H i (.iter (some left[j]) (left.eraseIdx j))) (ChangeMaps.setBlock w1 blk (.mapIter (some m) clk (seen.push x.born) clk)) := by
        refine .turn hr hi hk ⟨by rw [hsz]; exact Nat.le_refl _, fun b c e f h => ⟨c, f, (hne b ?_).trans h, rfl⟩, fun b L h => ⟨L, (hne b ?_).trans h⟩, hs1.1, hs1.2.1, hs1.2.2⟩ hne hsz _ fun up =>
          ⟨blk, m, ents, clk, seen.push x.born, hk, hsame, fun ha => h3 (hown m ha), (hne m hmb).trans h4, hB, ?_, fun q e he => ?_, fun e he => ?_⟩
        · intro e'; subst e'; rw [h2] at h; cases h
        · intro e'; subst e'; rw [h2] at h; cases h
        · rw [left_push hB.1 seen hj, List.length_eraseIdx, List.length_eraseIdx, h5]
        · rw [left_push hB.1 seen hj]
          rw [List.getElem?_eraseIdx] at he ⊢
          split at he
          · obtain ⟨y, y1, y2, y3⟩ := h6 q e he; rw [if_pos (by assumption)]; exact ⟨y, y1, up _ _ y2, up _ _ y3⟩
          · obtain ⟨y, y1, y2, y3⟩ := h6 (q + 1) e he; rw [if_neg (by assumption)]; exact ⟨y, y1, up _ _ y2, up _ _ y3⟩
        · cases he; exact ⟨seen, x, rfl, hmem, up _ _ hkx, up _ _ hvx⟩
      refine ⟨j, left[j], _, _, List.getElem?_eq_getElem hjl, hrun, st, .tupOf rfl fun i c hi => ?_⟩
      rcases i with _ | _ | _ | i
      · simp at hi; subst hi; exact ⟨_, rfl, .bool _⟩
      · simp at hi; subst hi; exact ⟨_, rfl, st.v hkx⟩
      · simp at hi; subst hi; exact ⟨_, rfl, st.v hvx⟩
      · simp at hi

end
end Go.Am
