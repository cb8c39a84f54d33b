/-
  'aval' IS FOLLOWED BY THE MODEL's RUN: indexes, arithmetic, comparisons.
-/
import Derived.Test.YtjoagmjijbfjkaaGreatDoorAm6
import Derived.Laws.Strings
import Derived.Laws.StructEq
import Derived.ChangeKeysEq
namespace Go.Am

section
variable {P : Program} {N : Nat → Prop} {κ : Nat → Option Nat} {H : AHeap} {w : World} {id : Nat}

theorem sound_indexAddr {t : TypeId} {x ix y : AV} {a i : Value} (hr : HRel κ N H w) (hx : VRel κ (avoid κ N H) w x a) (hi : VRel κ (avoid κ N H) w ix i) (h : aindexAddr P (hget H) t x ix = some y) :
    Sound P (do pure (.value (← Instr.indexAt t a i))) N κ H w ⟨y, []⟩ id := by
  refine .same hr ?_
  unfold aindexAddr at h
  split at h
  · rename_i k n T hT
    cases hi
    split at h
    · rename_i e esz xs htd
      have hu := sliceElem hT htd
      split at h
      · rename_i E hE
        split at h
        · rename_i hesz
          unfold elemAt at h
          split at h
          · rename_i hpos
            cases hel : xs[n.toNat]? with
            | none => rw [hel] at h; cases h
            | some c =>
              rw [hel] at h; cases h
              have hlt : n.toNat < xs.length := by
                rcases Nat.lt_or_ge n.toNat xs.length with h | h
                · exact h
                · rw [List.getElem?_eq_none h] at hel; cases hel
              cases hx with
              | lst _ _ base cap u hb hle hc hv =>
                cases base with
                | none => rw [hb rfl] at hlt; simp at hlt
                | some b =>
                  refine ⟨.pointer (some (b.add (n.toNat * E.size))), ?_, .cptr _ _ (fun j => u n.toNat j) (fun j c hj => ?_) (fun j c hj => hv _ _ hel _ _ hj)⟩
                  · simp only [Instr.indexAt, asIntOf, Sem.run_bind, Sem.run_pure, Result.andThen_ok, underlying, run_program, hu]
                    rw [if_pos ⟨hpos, by omega⟩]
                    simp only [Sem.run_bind, run_sizeOf hE, Result.andThen_ok, Sem.run_pure]
                  · obtain ⟨b', hb', h1, h2⟩ := hc _ _ hel _ _ hj
                    cases hb'
                    rw [add_block, add_add, ← hesz]
                    exact ⟨h1, h2⟩
          · cases h
        · cases h
      · cases h
    · rename_i e i off len esz htd
      have hu := sliceElem hT htd
      split at h
      · rename_i E hE
        split at h
        · rename_i hcond
          obtain ⟨h1, h2, h3⟩ := hcond
          cases h
          cases hx with
          | rsl0 => omega
          | rsl _ _ _ _ cap blk c e' f hk hl hb hcap =>
            refine ⟨_, ?_, .vptr _ _ blk hk⟩
            simp only [Instr.indexAt, asIntOf, Sem.run_bind, Sem.run_pure, Result.andThen_ok, underlying, run_program, hu]
            rw [if_pos ⟨h2, by omega⟩]
            simp only [Sem.run_bind, run_sizeOf hE, Result.andThen_ok, Sem.run_pure]
            have hadd : (⟨blk, off, none⟩ : Addr).add (n.toNat * E.size) = ⟨blk, off + n.toNat * E.size, none⟩ := by unfold Addr.add; split <;> simp_all
            rw [hadd, h1]
        · cases h
      · cases h
    · rename_i m e cs htd
      have hu := arrElem hT htd
      split at h
      · rename_i E hE
        split at h
        · rename_i hcond
          obtain ⟨h2, h3⟩ := hcond
          cases h
          cases hx with
          | cptr _ b u hc hv =>
            refine ⟨.pointer (some (b.add (n.toNat * E.size))), ?_, .cptr _ _ (fun j => u (n.toNat * E.size + j)) (fun j c hj => ?_) (fun j c hj => ?_)⟩
            · simp only [Instr.indexAt, asIntOf, Sem.run_bind, Sem.run_pure, Result.andThen_ok, underlying, run_program, hu, Instr.sureAddr]
              rw [if_pos ⟨h2, by omega⟩]
              simp only [Sem.run_bind, run_sizeOf hE, Result.andThen_ok, Sem.run_pure]
            · rw [List.getElem?_drop] at hj
              rw [add_block, add_add]
              exact hc _ _ hj
            · rw [List.getElem?_drop] at hj
              exact hv _ _ hj
        · cases h
      · cases h
    · rename_i m e i off htd
      have hu := arrElem hT htd
      split at h
      · rename_i E hE
        split at h
        · rename_i hcond
          obtain ⟨h2, h3⟩ := hcond
          cases h
          cases hx with
          | vptr _ _ blk hk =>
            refine ⟨_, ?_, .vptr _ _ blk hk⟩
            simp only [Instr.indexAt, asIntOf, Sem.run_bind, Sem.run_pure, Result.andThen_ok, underlying, run_program, hu, Instr.sureAddr]
            rw [if_pos ⟨h2, by omega⟩]
            simp only [Sem.run_bind, run_sizeOf hE, Result.andThen_ok, Sem.run_pure]
            have hadd : (⟨blk, off, none⟩ : Addr).add (n.toNat * E.size) = ⟨blk, off + n.toNat * E.size, none⟩ := by unfold Addr.add; split <;> simp_all
            rw [hadd]
        · cases h
      · cases h
    · cases h
  · cases h


theorem tdEq {t : TypeId} {T : TI} (hT : tinfo P t = some T) : ∃ d, P.underlying t = some d ∧ tdOf d = T.td := by
  obtain ⟨d, h1, h2, h3⟩ := run_underlying hT default
  exact ⟨d, h3, h2⟩

theorem aeqF_sound {av : Nat → Prop} (d n : Nat) (hA : ∀ t x y a b r, aeqT P d t x y = some r → VRel κ av w x a → VRel κ av w y b → (Op.equalIn n t a b).run P w = .ok r w)
    {xs ys : List AV} {vs us : Array Value} (hx : CRel κ av w xs vs) (hy : CRel κ av w ys us) : ∀ (Fs : List Field) (r : Bool),
    aeqF P (aeqT P d) (Fs.map fun f => (f.offset, f.type, f.name == "_")) xs ys = some r → (Op.eqFields n vs us Fs).run P w = .ok r w := by
  intro Fs
  induction Fs with
  | nil => intro r h; simp only [List.map_nil, aeqF, Option.some.injEq] at h; subst h; rfl
  | cons f Fs ih =>
    intro r h
    simp only [List.map_cons, aeqF] at h
    simp only [Op.eqFields]
    by_cases hn : f.name = "_"
    · rw [if_pos (by simp [hn])] at h
      rw [if_neg (by simp [hn])]
      exact ih r h
    · rw [if_neg (by simp [hn])] at h
      rw [if_pos (by simp [hn])]
      split at h
      · rename_i a b ha hb
        unfold andO at h
        split at h
        · rename_i r1 r2 h1 h2
          cases h
          obtain ⟨v, hv1, hv2⟩ := run_part (P := P) (w := w) hx ha
          obtain ⟨u, hu1, hu2⟩ := run_part (P := P) (w := w) hy hb
          simp only [Sem.run_bind, hv1, hu1, Result.andThen_ok, hA _ _ _ _ _ _ h1 hv2 hu2]
          cases r1
          · simp
          · simp only [Bool.not_true, Bool.false_eq_true, if_false, Bool.true_and]
            exact ih _ h2
        · cases h
      · cases h

theorem cellsOf_tinfo {e : TypeId} {E : TI} (hE : tinfo P e = some E) : P.cellsOf e = E.size := by
  obtain ⟨d', i, z, hd, hi, hz, hEe⟩ := tinfo_spec hE
  have h2 := run_sizeOf (w := default) hE
  have h1 := Go.run_sizeOf (P := P) default hi
  rw [h1] at h2
  injection h2
theorem aeqA_sound {av : Nat → Prop} (d n : Nat) (hA : ∀ t x y a b r, aeqT P d t x y = some r → VRel κ av w x a → VRel κ av w y b → (Op.equalIn n t a b).run P w = .ok r w)
    {e : TypeId} {sz : Nat} {xs ys : List AV} {vs us : Array Value} (hx : CRel κ av w xs vs) (hy : CRel κ av w ys us) : ∀ (is : List Nat) (r : Bool),
    aeqA P (aeqT P d) e sz is xs ys = some r → (Op.eqItems n e sz vs us is).run P w = .ok r w := by
  intro is
  induction is with
  | nil => intro r h; simp only [aeqA, Option.some.injEq] at h; subst h; rfl
  | cons i is ih =>
    intro r h
    simp only [aeqA] at h
    simp only [Op.eqItems]
    split at h
    · rename_i a b ha hb
      unfold andO at h
      split at h
      · rename_i r1 r2 h1 h2
        cases h
        obtain ⟨v, hv1, hv2⟩ := run_part (P := P) (w := w) hx ha
        obtain ⟨u, hu1, hu2⟩ := run_part (P := P) (w := w) hy hb
        simp only [Sem.run_bind, hv1, hu1, Result.andThen_ok, hA _ _ _ _ _ _ h1 hv2 hu2]
        cases r1
        · simp
        · simp only [Bool.not_true, Bool.false_eq_true, if_false, Bool.true_and]
          exact ih _ h2
      · cases h
    · cases h

theorem aeqT_sound {av : Nat → Prop} : ∀ (d n : Nat), d ≤ n → ∀ t x y a b r, aeqT P d t x y = some r → VRel κ av w x a → VRel κ av w y b → (Op.equalIn n t a b).run P w = .ok r w := by
  intro d
  induction d with
  | zero => intro n _ t x y a b r h; simp [aeqT] at h
  | succ d ih =>
    intro n hn t x y a b r h hx hy
    obtain ⟨n, rfl⟩ : ∃ m, n = m + 1 := ⟨n - 1, by omega⟩
    rw [aeqT] at h
    split at h
    · cases h
    · rename_i T hT
      obtain ⟨D, hD, htd⟩ := tdEq hT
      split at h
      all_goals (rename_i hk <;> try cases h)
      case h_1 => cases hx; cases hy; rw [hk] at htd; cases D <;> simp [tdOf] at htd; simp [Op.equalIn, underlying, hD]
      case h_2 =>
        split at h
        · rename_i e; cases h; cases hx; cases hy; rw [hk] at htd; cases D <;> simp [tdOf] at htd; simp [Op.equalIn, underlying, hD, e]
        · cases h
      case h_3 => cases hx; cases hy; rw [hk] at htd; cases D <;> simp [tdOf] at htd; simp [Op.equalIn, underlying, hD]
      case h_4 =>
        split at h
        · cases h
        · rename_i hstd
          obtain ⟨Fs, hF, rfl⟩ := structFields hT hk
          obtain ⟨vs, rfl, hv1, hv2⟩ := hx.agg_inv
          obtain ⟨us, rfl, hu1, hu2⟩ := hy.agg_inv
          have hfo : P.fieldsOf t = Fs := by simp [Program.fieldsOf, hF]
          have hst : P.stoodInHeld t = false := by
            obtain ⟨d', i, z, hd, hi, hz, rfl⟩ := tinfo_spec hT
            rw [hF] at hd; cases hd
            simpa using hstd
          rw [run_equalIn_struct w n t vs us (by rw [hfo]; exact hF) hst, hfo]
          exact aeqF_sound d n (fun t x y a b r h hx hy => ih n (by omega) t x y a b r h hx hy) ⟨hv1, hv2⟩ ⟨hu1, hu2⟩ _ r h
      case h_5 =>
        split at h
        · rename_i E hE
          obtain ⟨vs, rfl, hv1, hv2⟩ := hx.agg_inv
          obtain ⟨us, rfl, hu1, hu2⟩ := hy.agg_inv
          have hu := arrElem hT hk
          obtain ⟨d', i, z, hd, hi, hz, hEe⟩ := tinfo_spec hE
          rw [run_equalIn_array w n vs us hu hi, cellsOf_tinfo hE]
          exact aeqA_sound d n (fun t x y a b r h hx hy => ih n (by omega) t x y a b r h hx hy) ⟨hv1, hv2⟩ ⟨hu1, hu2⟩ _ r h
        · cases h
      case h_7 =>
        cases hx with
        | lst esz xs base cap u hb hl hc hv =>
          cases hy
          cases base with
          | none => exact absurd (hb rfl) (by simp)
          | some a0 => rw [hk] at htd; cases D <;> simp [tdOf] at htd; simp [Op.equalIn, underlying, hD]
      all_goals (cases hx; cases hy; rw [hk] at htd; cases D <;> simp [tdOf] at htd; simp [Op.equalIn, underlying, hD])

theorem sound_binOp {op : BinOp} {t : TypeId} {x y r : AV} {a b : Value} {ox oy : Operand} (hr : HRel κ N H w) (hx : VRel κ (avoid κ N H) w x a) (hy : VRel κ (avoid κ N H) w y b) (h : abin P op t x y = some r) :
    Sound P (do pure (.value (← (do eqGuard op t ox oy a b; binOp op t a b)))) N κ H w ⟨r, []⟩ id := by
  refine .same hr ?_
  unfold abin at h
  split at h
  · split at h
    · rename_i k m k' m' e
      subst e
      cases hx; cases hy
      have hg : (eqGuard op t ox oy (.int k m) (.int k m')).run P w = .ok () w := by cases op <;> simp [eqGuard]
      simp only [Sem.run_bind, hg, Result.andThen_ok]
      unfold abinInt at h
      cases op <;> simp only [Option.some.injEq] at h
      case quo => split at h
                  · cases h
                  · rename_i h0; cases h; exact ⟨_, by simp [binOp, Op.intDiv, h0], .int _ _⟩
      case rem => split at h
                  · cases h
                  · rename_i h0; cases h; exact ⟨_, by simp [binOp, Op.intDiv, h0], .int _ _⟩
      case shl => split at h
                  · cases h
                  · rename_i h0; cases h; exact ⟨_, by simp [binOp, Op.shift, h0], .int _ _⟩
      case shr => split at h
                  · cases h
                  · rename_i h0; cases h; exact ⟨_, by simp [binOp, Op.shift, h0], .int _ _⟩
      case and => cases h; exact ⟨_, by simp [binOp, Op.intBits], .int _ _⟩
      case or => cases h; exact ⟨_, by simp [binOp, Op.intBits], .int _ _⟩
      case xor => cases h; exact ⟨_, by simp [binOp, Op.intBits], .int _ _⟩
      case andNot => cases h; exact ⟨_, by simp [binOp, Op.intBits], .int _ _⟩
      all_goals (subst h; first | exact ⟨_, by simp [binOp, Op.intArith], .int _ _⟩ | exact ⟨_, by simp [binOp, Op.intCmp], .bool _⟩)
    · rename_i k m k' m' _
      split at h
      · cases hx; cases hy
        have hg : (eqGuard .shr t ox oy (.int k m) (.int k' m')).run P w = .ok () w := by simp [eqGuard]
        simp only [Sem.run_bind, hg, Result.andThen_ok]
        split at h
        · cases h
        · rename_i h0; cases h; exact ⟨_, by simp [binOp, Op.shift, h0], .int _ _⟩
      · cases h
  · rename_i sa sb
    cases hx; cases hy
    have hg : (eqGuard op t ox oy (.string sa) (.string sb)).run P w = .ok () w := by cases op <;> simp [eqGuard]
    simp only [Sem.run_bind, hg, Result.andThen_ok]
    split at h
    · split at h
      · cases h
      · rename_i hsz
        cases h
        refine ⟨.string ⟨⟨sa.data.toList ++ sb.data.toList⟩⟩, ?_, .str _⟩
        have e : sa ++ sb = ⟨⟨sa.data.toList ++ sb.data.toList⟩⟩ := by
          apply ByteArray.ext
          apply Array.toList_inj.1
          simp
        rw [← e]
        have hm : IntKind.i64.max = 9223372036854775807 := by decide
        rw [hm] at hsz
        simp only [binOp_string_add, Op.stringOp, hm, if_neg hsz, Sem.run_pure]
    · cases h; exact ⟨_, by simp [binOp_string_eql, ByteArray.toList_eq], .bool _⟩
    · cases h; exact ⟨_, by simp [binOp_string_neq, ByteArray.toList_eq], .bool _⟩
    · cases h
  · rename_i xs ys
    split at h
    · rename_i hc
      have hcmp : P.eqGuardType P.depth t = false := by
        unfold cmpOk at hc
        split at hc
        · rename_i T hT
          obtain ⟨d', i, z, hd, hi, hz, rfl⟩ := tinfo_spec hT
          simpa using hc
        · cases hc
      obtain ⟨vs, rfl, hv1, hv2⟩ := hx.agg_inv
      obtain ⟨us, rfl, hu1, hu2⟩ := hy.agg_inv
      split at h
      · cases he : aeqT P 6 t (.agg xs) (.agg ys) with
        | none => rw [he] at h; cases h
        | some r0 =>
          rw [he] at h; cases h
          have := aeqT_sound 6 10000 (by omega) t _ _ _ _ _ he hx hy
          exact ⟨_, by simp only [Sem.run_bind, run_eqGuard_agg w _ t ox oy vs us hcmp, Result.andThen_ok, run_eql_struct, this], .bool _⟩
      · cases he : aeqT P 6 t (.agg xs) (.agg ys) with
        | none => rw [he] at h; cases h
        | some r0 =>
          rw [he] at h; cases h
          have := aeqT_sound 6 10000 (by omega) t _ _ _ _ _ he hx hy
          exact ⟨_, by simp only [Sem.run_bind, run_eqGuard_agg w _ t ox oy vs us hcmp, Result.andThen_ok, run_neq_struct, this], .bool _⟩
      · cases h
    · cases h
  · rename_i hni hns hna
    have key : ∀ r0, aeqT P 6 t x y = some r0 → (∀ op', (eqGuard op' t ox oy a b).run P w = .ok () w) ∧
        (binOp .eql t a b).run P w = .ok (.bool r0) w ∧ (binOp .neq t a b).run P w = .ok (.bool !r0) w := by
      intro r0 he
      have heq := aeqT_sound 6 10000 (by omega) t _ _ _ _ _ he hx hy
      have he' := he
      rw [aeqT] at he'
      split at he'
      · cases he'
      · split at he' <;> first
          | (cases he'; done)
          | (exact absurd rfl (hni _ _ _ _ rfl))
          | (exact absurd rfl (hns _ _ rfl))
          | (exact absurd rfl (hna _ _ rfl))
          | (cases hx; cases hy; (try simp only [List.length_cons] at heq); refine ⟨fun op' => by cases op' <;> simp [eqGuard], by simp [binOp, Op.equal, Op.maxDepth, heq], by simp [binOp, Op.equal, Op.maxDepth, heq]⟩)
    split at h
    · cases he : aeqT P 6 t x y with
      | none => rw [he] at h; cases h
      | some r0 =>
        rw [he] at h; cases h
        obtain ⟨h1, h2, h3⟩ := key r0 he
        exact ⟨_, by simp only [Sem.run_bind, h1, Result.andThen_ok, h2], .bool _⟩
    · cases he : aeqT P 6 t x y with
      | none => rw [he] at h; cases h
      | some r0 =>
        rw [he] at h; cases h
        obtain ⟨h1, h2, h3⟩ := key r0 he
        exact ⟨_, by simp only [Sem.run_bind, h1, Result.andThen_ok, h3], .bool _⟩
    · cases h

theorem sound_unOp {op : UnOp} {x r : AV} {a : Value} (hr : HRel κ N H w) (hx : VRel κ (avoid κ N H) w x a) (h : aun op x = some r) :
    Sound P (do pure (.value (← Op.unary op a))) N κ H w ⟨r, []⟩ id := by
  refine .same hr ?_
  unfold aun at h
  split at h
  · cases h; cases hx; exact ⟨_, by simp [Op.unary, Op.intArith], .int _ _⟩
  · cases h; cases hx; exact ⟨_, by simp [Op.unary], .bool _⟩
  · cases h
end
end Go.Am
