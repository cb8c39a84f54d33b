import Derived.Test.YtoeankkhjpijlaaGreatDoorAm25
import Derived.Test.YtoeankkhjpijlaaGreatDoorLN
import Derived.Test.YtoeankkhjpijlaaGreatDoorWO
/-
  ALL OBJECTS ARE LET GO OF: what is known of temporaries is what they hold now.
-/
namespace Go.Am
section
variable {P : Program} {g : G} {κ : Nat → Option Nat} {S S' : St} {a : Act} {w : World}
theorem Rel.all (h : Rel g κ S a w) (hH : S'.H = []) (henv : ∀ t, elook S'.env t = .any ∨ ∃ is, thaw 8 (hget S.H) (elook S.env t) = some (elook S'.env t, is)) (hg : g.low S'.nx) : Rel g (cut κ S'.nx) S' a w := by
  have hno : ∀ b, ¬ owned (cut κ S'.nx) S'.H b := fun b ⟨id, o, ho, _⟩ => by rw [hH] at ho; simp [hget] at ho
  have hav : avoid (cut κ S'.nx) g.N S'.H = g.N := by
    funext b
    exact propext ⟨fun q => q.resolve_right (hno b), .inl⟩
  have hc : ∀ {j : Nat}, j < S'.nx → cut κ S'.nx j = κ j := fun hj => by unfold cut; rw [if_pos hj]
  have hn : ∀ {j : Nat}, ¬ j < S'.nx → cut κ S'.nx j = none := fun hj => by unfold cut; rw [if_neg hj]
  refine ⟨⟨fun id o ho => by rw [hH] at ho; simp [hget] at ho, fun i j x o o' hi => by rw [hH] at hi; simp [hget] at hi, fun id b hb => ?_, h.h.Nbd, fun b _ => hno b, ?_⟩, fun id hid => ⟨hn (by omega), by rw [hH]; rfl⟩, h.sz, fun t => ?_, fun id b hb => ?_, h.wle, h.same, fun b hb => (hno b hb).elim, ?_⟩
  · by_cases hj : id < S'.nx
    · rw [hc hj] at hb; exact h.h.bd id b hb
    · rw [hn hj] at hb; cases hb
  · rw [hav]; exact h.h.gl.le fun b hb => .inl hb
  · rcases henv t with e | ⟨is, ht⟩
    · rw [e]; exact .any _
    · have := thaw_sound h.h 8 _ _ _ _ ht (h.env t)
      rw [hav]
      exact this.low (κ' := cut κ S'.nx) (nx' := 0) (fun j hj => absurd hj (Nat.not_lt_zero _)) (thaw_ok 8 _ _ _ ht)
  · rw [hc (hg id (by rw [hb]; simp))]; exact h.ext id b hb
  · obtain ⟨ms, m1, m2, m3⟩ := h.defs
    exact ⟨ms, m1, m2, fun r hr => ⟨(m3 r hr).1, (m3 r hr).2.1, hno r⟩⟩
def allE (S : St) : Env → Prop
  | [] => True
  | p :: l => (∃ is, thaw 8 (hget S.H) (elook S.env p.1) = some (p.2, is)) ∧ allE S l
theorem Wk.all {env : Env} {nx : Nat} (h : allE S env) (hg : g.low nx) : Wk g ⟨env, [], nx⟩ S := fun _ _ _ hr => ⟨_, hr.all (S' := ⟨env, [], nx⟩) rfl (fun t => by
  show elook env t = .any ∨ ∃ is, thaw 8 (hget S.H) (elook S.env t) = some (elook env t, is)
  induction env with
  | nil => exact .inl rfl
  | cons p l ih =>
    obtain ⟨k, v⟩ := p
    obtain ⟨h1, h2⟩ := h
    by_cases e : k = t
    · subst e
      have : elook ((k, v) :: l) k = v := by simp [elook]
      rw [this]; exact .inr h1
    · have : elook ((k, v) :: l) t = elook l t := by simp [elook, e]
      rw [this]; exact ih h2) hg⟩
end
end Go.Am
/-
  A MARK MORE IN A SLICE OF MARKS.
-/
namespace Go.Proofs.YtoeankkhjpijlaaGreatDoor
open Go Go.Am
set_option maxRecDepth 100000
set_option maxHeartbeats 4000000
theorem app_mk {h : Nat → Option AObj} {i j nid n : Nat} {l : List Mk} {x : Mk} (h0 : h i = some (.cells (fl cMk l))) (h1 : h j = some (.cells (cMk x))) (hij : i ≠ j) (hn : n ≤ l.length) (hl : l.length ≤ 1000) :
    aAppend Tryz.prog h nid 29 29 (.rsl i 0 n 7) (.rsl j 0 1 7) = some ⟨.rsl nid 0 (n + 1) 7, [(i, none), (nid, some (.cells (fl cMk (l.take n ++ [x]))))]⟩ := by
  have hlen : (fl cMk l).length = l.length * 7 := fl_len (enc := cMk) (n := 7) (fun _ => rfl) l
  have e : fl cMk (l.take n ++ [x]) = fl cMk (l.take n) ++ cMk x := by unfold fl; simp
  have et : (fl cMk l).take (n * 7) = fl cMk (l.take n) := by
    have h2 : fl cMk l = fl cMk (l.take n) ++ fl cMk (l.drop n) := by
      unfold fl; rw [← List.flatMap_append, List.take_append_drop]
    have h3 : (fl cMk (l.take n)).length = n * 7 := by rw [fl_len (enc := cMk) (n := 7) (fun _ => rfl), List.length_take, Nat.min_eq_left hn]
    rw [h2, List.take_append_of_le_length (by omega), List.take_of_length_le (by omega)]
  have lt : (fl cMk (l.take n)).length = n * 7 := by rw [fl_len (enc := cMk) (n := 7) (fun _ => rfl), List.length_take, Nat.min_eq_left hn]
  rw [e]
  unfold aAppend
  simp only [h0]
  by_cases hlt : n * 7 < (fl cMk l).length
  · rw [if_pos hlt, et]
    simp only [aAppend0, ty29, ty46, srcCells, if_neg hij, h1]
    simp [lt, cMk, kO, cellB]
    omega
  · rw [if_neg hlt]
    have hnl : l.take n = l := List.take_of_length_le (by omega)
    rw [hnl] at lt ⊢
    simp only [aAppend0, ty29, ty46, srcCells, h0, h1]
    simp [lt, cMk, kO, cellB]
    omega
end Go.Proofs.YtoeankkhjpijlaaGreatDoor
/-
  WHAT IS SO IS TOLD.
-/
namespace Go.Proofs.YtoeankkhjpijlaaGreatDoor
open Go Go.Am
set_option maxRecDepth 100000
set_option maxHeartbeats 4000000
theorem mkS_ok (n : Nat) (l : List Mk) : okL n (fl cMk l) = true := fl_ok (enc := cMk) (fun _ => rfl) l
def encU (x : Int) : List AV := [.int .u32 x]
def u32Ok (l : List Int) : Prop := ∀ x ∈ l, 0 ≤ x ∧ x < 4294967296
/-- The number of a list with an index, which goes round. -/
def chV (bs : List Int) (k : Nat) : Int := match bs[k % bs.length]? with | some x => x | none => 0
theorem chV_bd {bs : List Int} (hb : u32Ok bs) (k : Nat) : 0 ≤ chV bs k ∧ chV bs k < 4294967296 := by
  unfold chV
  cases h : bs[k % bs.length]? with
  | none => exact ⟨Int.le_refl _, by show (0 : Int) < 4294967296; decide⟩
  | some x => exact hb x (List.mem_of_getElem? h)
theorem choose_spec (bs : List Int) (hb : u32Ok bs) (k : Nat) : APure Tryz.prog 38 [.lst 1 (bs.map encU), .int .i64 (k : Int)] (.int .i64 (chV bs k)) := by
  by_cases h : bs.length = 0
  · have b : (((bs.map encU).length : Int) == 0) = true := by rw [List.length_map, h]; rfl
    have e : chV bs k = 0 := by unfold chV; rw [List.getElem?_eq_none (by omega)]
    rw [e]
    exact APure.vcM Tryz.func38 (.br 7 true .nil) rfl rfl ⟨b, [], by kernel_rfl⟩
  · have b : (((bs.map encU).length : Int) == 0) = false := by rw [beq_eq_false_iff_ne, List.length_map]; omega
    have hne : ((bs.map encU).length : Int) ≠ 0 := by rw [List.length_map]; omega
    have hlt : k % bs.length < bs.length := Nat.mod_lt _ (by omega)
    refine Exists.elim (getE hlt) fun x hx => ?_
    have e : chV bs k = x := by unfold chV; rw [hx]
    have hbx := hb _ (List.mem_of_getElem? hx)
    rw [e]
    have et : ((k : Int).tmod ((bs.map encU).length : Int)) = ((k % bs.length : Nat) : Int) := by rw [List.length_map]; exact (Int.ofNat_tmod k bs.length).symm
    have ix := idxW (enc := encU) et hx
    have cv : some (⟨.int .i64 (IntKind.i64.wrap x), []⟩ : Out) = some ⟨.int .i64 x, []⟩ := by rw [wrap64 (by omega) (by omega)]
    exact APure.vcM Tryz.func38 (.br 7 false <| .nz <| .cells (encU x) <| .val 15 (.int .i64 x) [] .nil) rfl rfl ⟨b, hne, ix, Eq.trans (by kernel_rfl) cv, [], by kernel_rfl⟩
def dlV (g : Gt) (c : Int) : Int := g.lo + c.tmod (g.hi - g.lo + 1)
def dsL (bs : List Int) : List Gt → Nat → List Int
  | [], _ => []
  | g :: l, i => dlV g (chV bs i) :: dsL bs l (i + 1)
theorem dsL_snoc (bs : List Int) (g : Gt) : ∀ (l : List Gt) (i : Nat), dsL bs (l ++ [g]) i = dsL bs l i ++ [dlV g (chV bs (i + l.length))] := by
  intro l
  induction l with
  | nil => intro i; rfl
  | cons a l ih =>
    intro i
    have e : i + (a :: l).length = i + 1 + l.length := by rw [List.length_cons]; omega
    rw [e]
    show dlV a (chV bs i) :: dsL bs (l ++ [g]) (i + 1) = _
    rw [ih]; rfl
theorem dsL_take {bs : List Int} {l : List Gt} {i : Nat} {g : Gt} (h : l[i]? = some g) : dsL bs (l.take (i + 1)) 0 = dsL bs (l.take i) 0 ++ [dlV g (chV bs i)] := by
  have hi := heap_ltL h
  rw [take_snoc h, dsL_snoc, List.length_take, Nat.min_eq_left (by omega), Nat.zero_add]
theorem dsL_len (bs : List Int) : ∀ (l : List Gt) (i : Nat), (dsL bs l i).length = l.length := by
  intro l
  induction l with
  | nil => intro i; rfl
  | cons a l ih => intro i; show (dsL bs l (i + 1)).length + 1 = l.length + 1; rw [ih]
theorem dlV_bd {g : Gt} (h : g.lo ≤ g.hi) {c : Int} (hc : 0 ≤ c) : g.lo ≤ dlV g c ∧ dlV g c ≤ g.hi := by
  unfold dlV
  have h1 := Int.tmod_nonneg (g.hi - g.lo + 1) hc
  have h2 := Int.tmod_lt_of_pos c (show 0 < g.hi - g.lo + 1 by omega)
  omega
theorem dsL_are {bs : List Int} (hb : u32Ok bs) : ∀ (l : List Gt) (i : Nat), (∀ g ∈ l, g.lo ≤ g.hi) → areD (gSp l) (dsL bs l i) := by
  intro l
  induction l with
  | nil => intro i _; trivial
  | cons a l ih => intro i h; exact ⟨dlV_bd (h a List.mem_cons_self) (chV_bd hb i).1, ih (i + 1) fun g hg => h g (List.mem_cons_of_mem _ hg)⟩
/-! ### the marks that are so -/
def pSo (s : Scn) (ds : List Int) (room : Nat) (t : Int) (m : Mk) : Bool := soB m s.fin (comeP s ds room t (mrk m).room) (comeP s ds room t (mrk m).other)
theorem flt_take {p : Mk → Bool} {l : List Mk} {i : Nat} {m : Mk} (h : l[i]? = some m) : (l.take (i + 1)).filter p = (l.take i).filter p ++ (if p m then [m] else []) := by
  rw [take_snoc h, List.filter_append]
  congr 1
  rw [List.filter_cons, List.filter_nil]
theorem bef_first : ∀ {d e : List Int}, befD d e → ∀ {k : Nat} {x y : Int}, d.take k = e.take k → d[k]? = some x → e[k]? = some y → x ≠ y → x < y := by
  intro d
  induction d with
  | nil => intro e h; cases e <;> cases h
  | cons a d ih =>
    intro e h k x y ht hx hy hne
    cases e with
    | nil => cases h
    | cons b e =>
      cases k with
      | zero =>
        simp at hx hy; subst hx; subst hy
        rcases h with h | ⟨h, _⟩
        · exact h
        · exact absurd h hne
      | succ k =>
        rw [List.take_succ_cons, List.take_succ_cons, List.cons.injEq] at ht
        rcases h with h | ⟨_, h⟩
        · omega
        · exact ih h ht.2 (by simpa using hx) (by simpa using hy) hne
theorem are_len : ∀ {L : List Spn} {ds : List Int}, areD L ds → ds.length = L.length := by
  intro L
  induction L with
  | nil => intro ds h; cases ds with
    | nil => rfl
    | cons d ds => cases h
  | cons a L ih => intro ds h; cases ds with
    | nil => cases h
    | cons d ds => rw [List.length_cons, List.length_cons, ih h.2]
/-- What the law asks in the end. -/
structure SoF (s : Scn) (room : Nat) (t : Int) (ds d : List Int) : Prop where
  tru : truP s room t = some d
  len : d.length = ds.length
  bef : ds = d ∨ befD d ds
  ins : insB (toldP s room) t = true
  ag : agP s = none
  why : whyP s room = none
  nm : nmM (roomsP s) = ((room : Int), 0) ∨ nmM (roomsP s) = (0, 6)
theorem so_facts {s : Scn} (hs : ScOk s) {room : Nat} (hr : room < nR s) {t : Int} {ds : List Int} (h : trueB s room t ds) : ∃ d, SoF s room t ds d := by
  have hin := (told_true hs hr).2 ⟨ds, h⟩
  have hex : exB s room (allN s) = false := by
    cases q : exB s room (allN s) with
    | false => rfl
    | true => rw [told_nil.2 q] at hin; obtain ⟨_, q, _⟩ := hin; cases q
  have hmem : (room : Int) ∈ roomsP s := mem_roomsP.2 ⟨hr, hex⟩
  cases ht : truP s room t with
  | none => exact absurd hin ((tru_none hs hr).1 ht)
  | some d =>
    obtain ⟨q1, q2⟩ := tru_some hs hr ht
    refine ⟨d, ⟨ht, by rw [are_len q1.2.1, are_len h.2.1], q2 ds h, insB_iff.2 hin, ag_none.2 (fun q => by rw [q] at hmem; cases hmem), why_none.2 hex, ?_⟩⟩
    generalize roomsP s = l at hmem
    match l, hmem with
    | [x], hmem => rw [List.mem_singleton] at hmem; subst hmem; exact .inl rfl
    | _ :: _ :: _, _ => exact .inr rfl
theorem thaw_Sr {h : Nat → Option AObj} {s : Scn} {K : List Mk} {T j : Nat} (hT : h T = some (.cells [.int .i64 s.rooms, encGs s.gates, .int .i64 s.fin, .rsl j 0 K.length 7])) (hj : h j = some (.cells (fl cMk K))) :
    thaw 8 h (.vptr T 0) = some (.cptr (cSc (wM s K)), [T, j]) := by
  have e2 : thaw 7 h (.rsl j 0 K.length 7) = some (encMs K, [j]) := thaw_fl (enc := cMk) (n := 7) 5 (fun _ => rfl) (fun _ => rfl) hj
  have e3 : ∀ (v : AV), v.ok 0 = true → thaw 7 h v = some (v, []) := fun v hv => by unfold thaw; exact if_pos hv
  have e : thaw 8 h (.vptr T 0) = (match h T with
      | some (.cells cs) => (match mapO (thaw 7 h) cs with | some (cs', is) => some (.cptr (cs'.drop 0), T :: is) | none => none)
      | _ => none) := rfl
  rw [e, hT]
  simp only [mapO, e2, e3 (.int .i64 s.rooms) rfl, e3 (encGs s.gates) rfl, e3 (.int .i64 s.fin) rfl]
  rfl
/-- From the calls on. -/
theorem so_last {m : Scn} (_hm : ScOk m) {room : Nat} (_hroom : room < nR m) {RM AT : Int} (erm : RM = (room : Int)) {ds d : List Int} (hF : SoF m room AT ds d)
    (e0 : rmE m RM = 0) {g : G} (hn : g.n = 200) (hlo0 : g.low 0) :
    ACode Tryz.prog none g (cdrop 16 (Tryz.f6.body.getD .skip)) (Ret Tryz.prog Tryz.f6 (.bool true)) ⟨[(9, .bool true), (10, .int .i64 RM), (15, .cptr (cSc m)), (25, .int .i64 (nmM (roomsP m)).1), (26, .int .i64 (nmM (roomsP m)).2)], [], 0⟩ := by
  have sW := Why_ok m RM
  have eE : wyE m RM = 8 := by unfold wyE; rw [if_pos e0, erm, Int.toNat_natCast, hF.why]
  have eV : wyV m RM = [] := by unfold wyV; rw [if_pos e0, erm, Int.toNat_natCast, hF.why]; rfl
  rw [eE, eV] at sW
  rcases hF.nm with e | e
  · rw [e]
    subst erm
    have b : some (⟨.bool ((room : Int) == (room : Int)), []⟩ : Out) = some ⟨.bool true, []⟩ := by rw [beq_self_eq_true]
    exact ACode.vcM (.call (encLe [] 8) <| .val 193 (.bool true) [] .nil) hn hlo0 .ret ⟨sW, Eq.trans (by kernel_rfl) b, trivial, by kernel_rfl⟩
  · rw [e]
    exact ACode.vcM (.call (encLe [] 8) .nil) hn hlo0 .ret ⟨sW, trivial, by kernel_rfl⟩
theorem so_end {m : Scn} (hm : ScOk m) {room : Nat} (hroom : room < nR m) {RM AT : Int} (erm : RM = (room : Int)) {ds d : List Int} (hdl : ds.length ≤ 1000) (hF : SoF m room AT ds d) {g : G} (hn : g.n = 200) (hlo0 : g.low 0) :
    ACode Tryz.prog none g (cdrop 10 (Tryz.f6.body.getD .skip)) (Ret Tryz.prog Tryz.f6 (.bool true)) ⟨[(9, .bool true), (10, .int .i64 RM), (11, .int .i64 AT), (12, encR ds), (15, .cptr (cSc m))], [], 0⟩ := by
  have h1 : scB m = true := scB_iff.2 hm
  have e0 : rmE m RM = 0 := by rw [erm]; exact rm_of hm hroom
  have sM := Minutes_ok m RM
  have sT := Truth_ok m RM AT
  have sG := Against_ok m
  have sN := Named_ok m
  have eM : mnV m RM = toldP m room := by unfold mnV; rw [if_pos e0, erm, Int.toNat_natCast]
  have eE : tvE m RM AT = 0 := by unfold tvE; rw [if_pos e0, erm, Int.toNat_natCast, hF.tru]
  have eV : tvV m RM AT = d := by unfold tvV; rw [if_pos e0, erm, Int.toNat_natCast, hF.tru]; rfl
  have eA : agV m = [] := by unfold agV; rw [if_pos h1, hF.ag]; rfl
  have eC : ckE m = 0 := if_pos h1
  have eN : nmV m = nmM (roomsP m) := if_pos h1
  rw [e0, eM] at sM
  rw [eE, eV] at sT
  rw [eA, eC] at sG
  rw [eN] at sN
  have hll : (toldP m room).length ≤ 1000 := by
    obtain ⟨hcan, _⟩ := told_ok m room
    refine told_len hm hcan fun x hx => ?_
    obtain ⟨k, hk⟩ := List.mem_iff_getElem?.1 hx
    have hle := (can_get hcan hk).1
    obtain ⟨_, q1⟩ := (told_true hm hroom).1 (⟨x, hx, Int.le_refl _, hle⟩ : inL (toldP m room) x.1)
    obtain ⟨_, q2⟩ := (told_true hm hroom).1 (⟨x, hx, hle, Int.le_refl _⟩ : inL (toldP m room) x.2)
    exact ⟨q1.1.1, q2.1.2⟩
  have ins := inside_spec (toldP m room) (by omega) AT
  rw [hF.ins] at ins
  have hlen := hF.len
  have b151 : (((d.map encI).length : Int) != ((ds.map encI).length : Int)) = false := by rw [List.length_map, List.length_map, hF.len]; exact bne_self_eq_false _
  refine ACode.cut 5 (fun _ : Unit => ⟨[(9, .bool true), (10, .int .i64 RM), (15, .cptr (cSc m)), (25, .int .i64 (nmM (roomsP m)).1), (26, .int .i64 (nmM (roomsP m)).2)], [], 0⟩) (fun _ => True) (.call (.tup [encSps (toldP m room), .int .i64 0]) <| .call (encLe d 0) <| .call (encLe [] 0) <| .call (.tup [.int .i64 (nmM (roomsP m)).1, .int .i64 (nmM (roomsP m)).2]) <| .call (.bool true) <| .br 151 false <| .loop) hn hlo0 .ret rfl
    ⟨sM, sT, sG, sN, ins, b151, ?_⟩ fun _ _ => so_last hm hroom erm hF e0 hn hlo0
  intro g hn hlo
  replace hn : g.n = 200 := hn
  replace hlo : g.low 0 := hlo
  refine acode_while (fun k : Nat => ⟨[(9, .bool true), (10, .int .i64 RM), (12, encR ds), (15, .cptr (cSc m)), (21, encR d), (25, .int .i64 (nmM (roomsP m)).1), (26, .int .i64 (nmM (roomsP m)).2), (153, .int .i64 (d.map encI).length), (154, .int .i64 k)], [], 0⟩) (fun k => k ≤ d.length ∧ d.take k = ds.take k) (fun k => d.length - k) 0 ⟨Nat.zero_le _, rfl⟩ ?_ (fun _ _ => hlo) ?_
  · exact St.le.of ⟨by kernel_rfl, rfl, by kernel_rfl, rfl, by kernel_rfl, rfl, by kernel_rfl, rfl, by kernel_rfl, rfl, by kernel_rfl, rfl, by kernel_rfl, rfl, by kernel_rfl, rfl, by kernel_rfl, rfl, trivial⟩ trivial
  · rintro k ⟨hk, hpre⟩
    replace hk : k ≤ d.length := hk
    by_cases hlt : k < d.length
    · refine Exists.elim (getE hlt) fun x hx => ?_
      refine Exists.elim (getE (show k < ds.length by omega)) fun y hy => ?_
      have ek := congrArg (AV.int .i64) (succ64 (k := k) (by omega))
      by_cases hxy : x = y
      · have nb : (x != y) = false := by rw [hxy]; exact bne_self_eq_false y
        have hpre' : d.take (k + 1) = ds.take (k + 1) := by rw [List.take_add_one, List.take_add_one, hpre, hx, hy, hxy]
        exact ACode.vcM (.br 155 true <| .draw 8 <| .cells (encI x) <| .cells (encI y) <| .br 165 false .nil) hn hlo (.round .cl) ⟨ltLen hlt, by kernel_rfl, mixed, by kernel_rfl, idx hx, idx hy, by kernel_rfl, nb, k + 1, ⟨hlt, hpre'⟩, mu1 hlt,
          St.le.of ⟨by kernel_rfl, rfl, by kernel_rfl, rfl, by kernel_rfl, rfl, by kernel_rfl, rfl, by kernel_rfl, rfl, by kernel_rfl, rfl, by kernel_rfl, rfl, by kernel_rfl, rfl, Eq.trans (by kernel_rfl) ek, rfl, trivial⟩ trivial⟩
      · have nb : (x != y) = true := bne_iff_ne.2 hxy
        have hb : befD d ds := by
          rcases hF.bef with q | q
          · rw [q, hx] at hy; cases hy; exact absurd rfl hxy
          · exact q
        have bl : decide (x > y) = false := decide_eq_false (by have := bef_first hb hpre hx hy hxy; omega)
        exact ACode.vcM (.br 155 true <| .draw 8 <| .cells (encI x) <| .cells (encI y) <| .br 165 true <| .draw 8 <| .cells (encI x) <| .cells (encI y) <| .br 174 false .nil) hn hlo (.round .cl) ⟨ltLen hlt, by kernel_rfl, mixed, by kernel_rfl, idx hx, idx hy, by kernel_rfl, nb, by kernel_rfl, mixed, by kernel_rfl, idx hx, idx hy, by kernel_rfl, bl, _, .refl _, .nil, (), trivial, Wk.le (St.le.of ⟨by kernel_rfl, rfl, by kernel_rfl, rfl, by kernel_rfl, rfl, by kernel_rfl, rfl, by kernel_rfl, rfl, trivial⟩ trivial) hlo0⟩
    · exact ACode.vcM (.br 155 false .nil) hn hlo (.round .cl) ⟨geLen hlt, _, .refl _, .nil, (), trivial, Wk.le (St.le.of ⟨by kernel_rfl, rfl, by kernel_rfl, rfl, by kernel_rfl, rfl, by kernel_rfl, rfl, by kernel_rfl, rfl, trivial⟩ trivial) hlo0⟩
end Go.Proofs.YtoeankkhjpijlaaGreatDoor
/-
  WHAT IS SO IS TOLD: the walk.
-/
namespace Go.Proofs.YtoeankkhjpijlaaGreatDoor
open Go Go.Am
set_option maxRecDepth 100000
set_option maxHeartbeats 4000000
theorem so_mid {s : Scn} (hs : ScOk s) {room : Nat} (hroom : room < nR s) {RM AT : Int} (erm : RM = (room : Int)) (hat : 0 ≤ AT ∧ AT ≤ s.fin) {ds : List Int} (hd : areD (gSp s.gates) ds) {g : G} (hn : g.n = 200) (hlo0 : g.low 0) :
    ACode Tryz.prog none g (cdrop 6 (Tryz.f6.body.getD .skip)) (Ret Tryz.prog Tryz.f6 (.bool true)) ⟨[(4, .cptr (cSc s)), (9, .bool true), (10, .int .i64 RM), (11, .int .i64 AT), (12, encR ds)], [], 0⟩ := by
  have hf := hs.fin
  have hml := hs.ml
  have hgl := hs.gl
  have hdl := ds_len hs hd
  have cm := (comes_spec s hs ds hd hroom (t := AT) ⟨hat.1, by omega⟩).pure
  rw [← erm] at cm
  have hsub : List.Sublist (s.marks.filter (pSo s ds room AT)) s.marks := List.filter_sublist
  have hs2 := scOk_sub hs hsub
  have tb : trueB (wM s (s.marks.filter (pSo s ds room AT))) room AT ds := ⟨hat, hd, fun m hm => (List.mem_filter.1 hm).2⟩
  obtain ⟨d, hF⟩ := so_facts hs2 (room := room) hroom tb
  refine ACode.cut 3 (fun _ : Unit => ⟨[(9, .bool true), (10, .int .i64 RM), (11, .int .i64 AT), (12, encR ds), (15, .cptr (cSc (wM s (s.marks.filter (pSo s ds room AT)))))], [], 0⟩) (fun _ => True) (.call (encR (rowI (nR s) (comeP s ds room AT))) <| .loop) hn hlo0 .ret rfl ⟨cm, ?_⟩ fun _ _ => so_end hs2 hroom erm (by omega) hF hn hlo0
  intro g hn hlo
  replace hn : g.n = 200 := hn
  replace hlo : g.low 0 := hlo
  refine acode_whileW (fun i : Nat => ⟨[(4, .cptr (cSc s)), (9, .bool true), (10, .int .i64 RM), (11, .int .i64 AT), (12, encR ds), (15, .vptr 0 0), (16, encR (rowI (nR s) (comeP s ds room AT))), (84, encMs s.marks), (85, .int .i64 (s.marks.map cMk).length), (86, .int .i64 i)], [(0, .cells [.int .i64 s.rooms, encGs s.gates, .int .i64 s.fin, .rsl 1 0 ((s.marks.take i).filter (pSo s ds room AT)).length 7]), (1, .cells (fl cMk ((s.marks.take i).filter (pSo s ds room AT))))], 2⟩) (fun i => i ≤ s.marks.length) (fun i => s.marks.length - i) 0 (Nat.zero_le _) ?_ ?_
  · refine Wk.trans (Wk.le ?_ (hlo.mono (show 0 ≤ 2 by decide))) (Wk.trans (Wk.ownC (S := ⟨[(4, .cptr (cSc s)), (9, .bool true), (10, .int .i64 RM), (11, .int .i64 AT), (12, encR ds), (15, .vptr 0 0), (16, encR (rowI (nR s) (comeP s ds room AT))), (84, encMs s.marks), (85, .int .i64 (s.marks.map cMk).length), (86, .int .i64 0)], [(0, .cells [.int .i64 s.rooms, encGs s.gates, .int .i64 s.fin, .nil])], 1⟩) 0 3 7 (cs := [.int .i64 s.rooms, encGs s.gates, .int .i64 s.fin, .nil]) rfl rfl)
      (Wk.le (S' := ⟨[(4, .cptr (cSc s)), (9, .bool true), (10, .int .i64 RM), (11, .int .i64 AT), (12, encR ds), (15, .vptr 0 0), (16, encR (rowI (nR s) (comeP s ds room AT))), (84, encMs s.marks), (85, .int .i64 (s.marks.map cMk).length), (86, .int .i64 0)], [(0, .cells [.int .i64 s.rooms, encGs s.gates, .int .i64 s.fin, .nil])], 1⟩) ?_ (hlo.mono (show 0 ≤ 1 by decide))))
    · exact St.le.of ⟨by kernel_rfl, rfl, by kernel_rfl, rfl, by kernel_rfl, rfl, by kernel_rfl, rfl, by kernel_rfl, rfl, by kernel_rfl, rfl, by kernel_rfl, rfl, by kernel_rfl, rfl, by kernel_rfl, rfl, by kernel_rfl, rfl, trivial⟩ ⟨by kernel_rfl, (by decide : (0 : Nat) < 2), rfl, by kernel_rfl, (by decide : (1 : Nat) < 2), mkS_ok _ _, trivial⟩
    · exact St.le.of ⟨by kernel_rfl, rfl, by kernel_rfl, rfl, by kernel_rfl, rfl, by kernel_rfl, rfl, by kernel_rfl, rfl, by kernel_rfl, rfl, by kernel_rfl, rfl, by kernel_rfl, rfl, by kernel_rfl, rfl, by kernel_rfl, rfl, trivial⟩ ⟨by kernel_rfl, (by decide : (0 : Nat) < 1), rfl, trivial⟩
  · intro i hi
    replace hi : i ≤ s.marks.length := hi
    by_cases hlt : i < s.marks.length
    · refine Exists.elim (getE hlt) fun m hm => ?_
      have ei := congrArg (AV.int .i64) (succ64 (k := i) (by omega))
      have et := flt_take (p := pSo s ds room AT) hm
      have hKl : ((s.marks.take i).filter (pSo s ds room AT)).length ≤ 100 := by
        have := List.length_filter_le (pSo s ds room AT) (s.marks.take i)
        rw [List.length_take] at this; omega
      have hmem := List.mem_of_getElem? hm
      obtain ⟨m1, m2, _, m4, m5, m6, _⟩ := mk_rooms hs hmem
      have hE0 : ∀ e ∈ edgs s.gates ds, 0 ≤ e.2.2 := fun e he => by
        have := (gok_of hs hd).lo e.1 e.2.1 e.2.2 (.inl he); exact this
      have hbd := bdN_come hE0 (bdN_at room (t := AT) ⟨hat.1, by omega⟩) (nR s)
      have g1 := rowI_get (comeP s ds room AT) m1
      have g2 := rowI_get (comeP s ds room AT) m2
      have sp : APure Tryz.prog 40 [encSc s, .agg (cMk m), encR (rowI (nR s) (comeP s ds room AT))] (.bool (pSo s ds room AT m)) := so_spec s ⟨hf.1, by omega⟩ m ⟨m5, m6⟩ (rowI (nR s) (comeP s ds room AT)) (c := comeP s ds room AT (mrk m).room) (e := comeP s ds room AT (mrk m).other) (hbd _) ⟨m4.1, by rw [List.getElem?_map]; exact congrArg (Option.map encI) g1⟩ ⟨m4.2, by rw [List.getElem?_map]; exact congrArg (Option.map encI) g2⟩
      obtain ⟨L, eL⟩ : ∃ L, L = (s.marks.take i).filter (pSo s ds room AT) := ⟨_, rfl⟩
      rw [← eL] at hKl et
      show ACode _ _ _ _ _ ⟨[(4, .cptr (cSc s)), (9, .bool true), (10, .int .i64 RM), (11, .int .i64 AT), (12, encR ds), (15, .vptr 0 0), (16, encR (rowI (nR s) (comeP s ds room AT))), (84, encMs s.marks), (85, .int .i64 (s.marks.map cMk).length), (86, .int .i64 i)], [(0, .cells [.int .i64 s.rooms, encGs s.gates, .int .i64 s.fin, .rsl 1 0 ((s.marks.take i).filter (pSo s ds room AT)).length 7]), (1, .cells (fl cMk ((s.marks.take i).filter (pSo s ds room AT))))], 2⟩
      rw [← eL]
      cases hb : pSo s ds room AT m
      · rw [hb] at sp et
        have es : (s.marks.take (i + 1)).filter (pSo s ds room AT) = L := by rw [et]; exact List.append_nil L
        have e2 : some (AObj.cells [.int .i64 s.rooms, encGs s.gates, .int .i64 s.fin, .rsl 1 0 L.length 7]) = some (.cells [.int .i64 s.rooms, encGs s.gates, .int .i64 s.fin, .rsl 1 0 ((s.marks.take (i + 1)).filter (pSo s ds room AT)).length 7]) := by rw [es]
        have e3 : some (AObj.cells (fl cMk L)) = some (.cells (fl cMk ((s.marks.take (i + 1)).filter (pSo s ds room AT)))) := by rw [es]
        exact ACode.vcM (.br 87 true <| .cells (cMk m) <| .call (.bool false) .nil) hn hlo (.roundW .cl) ⟨ltLen hlt, idx hm, sp, i + 1, hlt, mu1 hlt,
          Wk.le (St.le.of ⟨by kernel_rfl, rfl, by kernel_rfl, rfl, by kernel_rfl, rfl, by kernel_rfl, rfl, by kernel_rfl, rfl, by kernel_rfl, rfl, by kernel_rfl, rfl, by kernel_rfl, rfl, by kernel_rfl, rfl, Eq.trans (by kernel_rfl) ei, rfl, trivial⟩ ⟨Eq.trans (by kernel_rfl) e2, (by decide : (0 : Nat) < 2), rfl, Eq.trans (by kernel_rfl) e3, (by decide : (1 : Nat) < 2), mkS_ok _ _, trivial⟩) (hlo.mono (show 0 ≤ 2 by decide))⟩
      · rw [hb] at sp et
        have es : (s.marks.take (i + 1)).filter (pSo s ds room AT) = L ++ [m] := et
        have el : ((s.marks.take (i + 1)).filter (pSo s ds room AT)).length = L.length + 1 := by rw [es]; simp
        have ap := app_mk (h := hget [(1, .cells (fl cMk L)), (4, .cells (cMk m))]) (i := 1) (j := 4) (nid := 5) (n := L.length) (l := L) (x := m) rfl rfl (by decide) (Nat.le_refl _) (by omega)
        rw [List.take_length, ← es, ← el] at ap
        exact ACode.vcM (.br 87 true <| .cells (cMk m) <| .call (.bool true) <| .val 98 (.rsl 5 0 ((s.marks.take (i + 1)).filter (pSo s ds room AT)).length 7) [(1, none), (5, some (.cells (fl cMk ((s.marks.take (i + 1)).filter (pSo s ds room AT)))))] .nil) hn hlo (.roundW .cl) ⟨ltLen hlt, idx hm, sp, Eq.trans (by kernel_rfl) ap, i + 1, hlt, mu1 hlt,
          Wk.renC (c := 1) (b := 5) (St.renC.of rfl (.inl (by decide)) ⟨RV.eq (by kernel_rfl) rfl, RV.eq (by kernel_rfl) rfl, RV.eq (by kernel_rfl) rfl, RV.eq (by kernel_rfl) rfl, RV.eq (by kernel_rfl) rfl, RV.eq (by kernel_rfl) rfl, RV.eq (by kernel_rfl) rfl, RV.eq (by kernel_rfl) rfl, RV.eq (by kernel_rfl) rfl, RV.eq (Eq.trans (by kernel_rfl) ei) rfl, trivial⟩
            ⟨rvO.turn (by decide : (0 : Nat) < 1) (by kernel_rfl) (show rvL 1 5 [.int .i64 s.rooms, encGs s.gates, .int .i64 s.fin, .rsl 1 0 ((s.marks.take (i + 1)).filter (pSo s ds room AT)).length 7] [.int .i64 s.rooms, encGs s.gates, .int .i64 s.fin, .rsl 5 0 ((s.marks.take (i + 1)).filter (pSo s ds room AT)).length 7] from ⟨RV.eq rfl rfl, RV.eq rfl rfl, RV.eq rfl rfl, .rsl, trivial⟩), rvO.new (by kernel_rfl) (mkS_ok _ _), trivial⟩) (hlo.mono (show 0 ≤ 1 by decide))⟩
    · have hall : s.marks.take i = s.marks := List.take_of_length_le (by omega)
      have th := fun (h : Nat → Option AObj) (h0 : h 0 = some (.cells [.int .i64 s.rooms, encGs s.gates, .int .i64 s.fin, .rsl 1 0 ((s.marks.take i).filter (pSo s ds room AT)).length 7])) (hj : h 1 = some (.cells (fl cMk ((s.marks.take i).filter (pSo s ds room AT))))) => (show thaw 8 h (.vptr 0 0) = some (.cptr (cSc (wM s (s.marks.filter (pSo s ds room AT)))), [0, 1]) from by
        rw [hall] at h0 hj
        exact thaw_Sr h0 hj)
      exact ACode.vcM (.br 87 false .nil) hn hlo (.roundW .cl) ⟨geLen hlt, _, .refl _, .nil, (), trivial, Wk.all ⟨⟨[], by kernel_rfl⟩, ⟨[], by kernel_rfl⟩, ⟨[], by kernel_rfl⟩, ⟨[], by kernel_rfl⟩, ⟨_, th _ (by kernel_rfl) (by kernel_rfl)⟩, trivial⟩ hlo0⟩
theorem so_first {s : Scn} (hs : ScOk s) {room : Nat} (hroom : room < nR s) {RM AT : Int} (erm : RM = (room : Int)) (hat : 0 ≤ AT ∧ AT ≤ s.fin) {bs : List Int} (hbs : u32Ok bs) {g : G} (hn : g.n = 200) (hlo0 : g.low 0) :
    ACode Tryz.prog none g (cdrop 4 (Tryz.f6.body.getD .skip)) (Ret Tryz.prog Tryz.f6 (.bool true)) ⟨[(3, .lst 1 (bs.map encU)), (4, .cptr (cSc s)), (9, .bool true), (10, .int .i64 RM), (11, .int .i64 AT)], [], 0⟩ := by
  have hgl := hs.gl
  have hgt : ∀ x ∈ s.gates, x.lo ≤ x.hi := fun x hx => by have := gtB_iff.1 (hs.gs x hx); omega
  have hd := dsL_are hbs s.gates 0 hgt
  refine ACode.cut 1 (fun _ : Unit => ⟨[(4, .cptr (cSc s)), (9, .bool true), (10, .int .i64 RM), (11, .int .i64 AT), (12, encR (dsL bs s.gates 0))], [], 0⟩) (fun _ => True) .loop hn hlo0 .ret rfl ?_ fun _ _ => so_mid hs hroom erm hat hd hn hlo0
  intro g hn hlo
  replace hn : g.n = 200 := hn
  replace hlo : g.low 0 := hlo
  refine acode_whileW (fun i : Nat => ⟨[(3, .lst 1 (bs.map encU)), (4, .cptr (cSc s)), (9, .bool true), (10, .int .i64 RM), (11, .int .i64 AT), (12, .rsl 0 0 (dsL bs (s.gates.take i) 0).length 1), (49, encGs s.gates), (50, .int .i64 (s.gates.map cGt).length), (51, .int .i64 i)], [(0, .cells (iL (dsL bs (s.gates.take i) 0)))], 1⟩) (fun i => i ≤ s.gates.length) (fun i => s.gates.length - i) 0 (Nat.zero_le _) ?_ ?_
  · refine Wk.trans (Wk.le ?_ (hlo.mono (show 0 ≤ 1 by decide))) (Wk.own 12 1 (by kernel_rfl))
    exact St.le.of ⟨by kernel_rfl, rfl, by kernel_rfl, rfl, by kernel_rfl, rfl, by kernel_rfl, rfl, by kernel_rfl, rfl, by kernel_rfl, rfl, by kernel_rfl, rfl, by kernel_rfl, rfl, by kernel_rfl, rfl, trivial⟩ ⟨by kernel_rfl, (by decide : (0 : Nat) < 1), rfl, trivial⟩
  · intro i hi
    replace hi : i ≤ s.gates.length := hi
    by_cases hlt : i < s.gates.length
    · refine Exists.elim (getE hlt) fun x hx => ?_
      have ei := congrArg (AV.int .i64) (succ64 (k := i) (by omega))
      have hg := gtB_iff.1 (hs.gs x (List.mem_of_getElem? hx))
      have ch := choose_spec bs hbs i
      have hcb := chV_bd hbs i
      have hdb := dlV_bd (hgt x (List.mem_of_getElem? hx)) hcb.1
      have et := dsL_take (bs := bs) hx
      generalize chV bs i = c at *
      have hol : (dsL bs (s.gates.take i) 0).length ≤ 1000 := by rw [dsL_len, List.length_take]; omega
      have v69 : some (⟨.int .i64 (IntKind.i64.wrap (x.hi - x.lo)), []⟩ : Out) = some ⟨.int .i64 (x.hi - x.lo), []⟩ := by rw [wrap64 (by omega) (by omega)]
      have v70 : some (⟨.int .i64 (IntKind.i64.wrap (x.hi - x.lo + 1)), []⟩ : Out) = some ⟨.int .i64 (x.hi - x.lo + 1), []⟩ := by rw [wrap64 (by omega) (by omega)]
      have hnz : x.hi - x.lo + 1 ≠ 0 := by omega
      have v72 : some (⟨.int .i64 (IntKind.i64.wrap (x.lo + c.tmod (x.hi - x.lo + 1))), []⟩ : Out) = some ⟨.int .i64 (dlV x c), []⟩ := by
        have hdb1 : x.lo ≤ x.lo + c.tmod (x.hi - x.lo + 1) := hdb.1
        have hdb2 : x.lo + c.tmod (x.hi - x.lo + 1) ≤ x.hi := hdb.2
        rw [wrap64 (by omega) (by omega)]; rfl
      obtain ⟨O, eO⟩ : ∃ O, O = dsL bs (s.gates.take i) 0 := ⟨_, rfl⟩
      obtain ⟨O', eO'⟩ : ∃ O', O' = dsL bs (s.gates.take (i + 1)) 0 := ⟨_, rfl⟩
      rw [← eO] at hol
      rw [← eO', ← eO] at et
      show ACode _ _ _ _ _ ⟨[(3, .lst 1 (bs.map encU)), (4, .cptr (cSc s)), (9, .bool true), (10, .int .i64 RM), (11, .int .i64 AT), (12, .rsl 0 0 (dsL bs (s.gates.take i) 0).length 1), (49, encGs s.gates), (50, .int .i64 (s.gates.map cGt).length), (51, .int .i64 i)], [(0, .cells (iL (dsL bs (s.gates.take i) 0)))], 1⟩
      rw [← eO]
      have el : O'.length = O.length + 1 := by rw [et]; simp
      have ap := app_one (h := hget [(0, .cells (iL O)), (20, .cells [.int .i64 (dlV x c)])]) (i := 0) (j := 20) (nid := 23) (l := O) (x := dlV x c) rfl rfl (by omega)
      rw [← et, ← el] at ap
      have o1 : some (AObj.cells (iL O')) = some (.cells (iL (dsL bs (s.gates.take (i + 1)) 0))) := by rw [← eO']
      have e5 : AV.rsl 23 0 O'.length 1 = .rsl 23 0 (dsL bs (s.gates.take (i + 1)) 0).length 1 := by rw [← eO']
      exact ACode.vcM (.br 52 true <| .cells (cGt x) <| .draw 18 <| .call (.int .i64 c) <| .val 69 (.int .i64 (x.hi - x.lo)) [] <| .val 70 (.int .i64 (x.hi - x.lo + 1)) [] <| .nz <| .val 72 (.int .i64 (dlV x c)) [] <| .val 74 (.rsl 23 0 O'.length 1) [(0, none), (23, some (.cells (iL O')))] .nil) hn hlo (.roundW .cl) ⟨ltLen hlt, idx hx, by kernel_rfl, mixed, by kernel_rfl, ch, Eq.trans (by kernel_rfl) v69, Eq.trans (by kernel_rfl) v70, hnz, Eq.trans (by kernel_rfl) v72, by kernel_rfl, Eq.trans (by kernel_rfl) ap, i + 1, hlt, mu1 hlt,
        Wk.ren (c := 0) (b := 23) (St.ren.of rfl (by decide) ⟨.inl ⟨by kernel_rfl, rfl⟩, .inl ⟨by kernel_rfl, rfl⟩, .inl ⟨by kernel_rfl, rfl⟩, .inl ⟨by kernel_rfl, rfl⟩, .inl ⟨by kernel_rfl, rfl⟩, .inr ⟨_, _, _, rfl, Eq.trans (by kernel_rfl) e5⟩, .inl ⟨by kernel_rfl, rfl⟩, .inl ⟨by kernel_rfl, rfl⟩, .inl ⟨Eq.trans (by kernel_rfl) ei, rfl⟩, trivial⟩ ⟨.inr ⟨rfl, Eq.trans (by kernel_rfl) o1, _, rfl, iL_ok _ _⟩, trivial⟩) hlo⟩
    · have hall : s.gates.take i = s.gates := List.take_of_length_le (by omega)
      have th := fun (h : Nat → Option AObj) (hh : h 0 = some (.cells (iL (dsL bs (s.gates.take i) 0)))) => (show thaw 8 h (.rsl 0 0 (dsL bs (s.gates.take i) 0).length 1) = some (encR (dsL bs s.gates 0), [0]) by
        rw [hall] at hh ⊢; exact thaw_fl (enc := encI) (n := 1) 6 (fun _ => rfl) (fun _ => rfl) hh)
      exact ACode.vcM (.br 52 false .nil) hn hlo (.roundW .cl) ⟨geLen hlt, _, .refl _, .nil, (), trivial, Wk.all ⟨⟨[], by kernel_rfl⟩, ⟨[], by kernel_rfl⟩, ⟨[], by kernel_rfl⟩, ⟨[], by kernel_rfl⟩, ⟨_, th _ (by kernel_rfl)⟩, trivial⟩ hlo0⟩
theorem law_so (s : Scn) (which minute : Nat) (bs : List Int) (hw8 : which < 256) (hm16 : minute < 65536) (hbs : u32Ok bs) : APure Tryz.prog 6 [encSc s, .int .u8 (which : Int), .int .u16 (minute : Int), .lst 1 (bs.map encU)] (.bool true) := by
  have sA := alive_spec
  have sR := ready_spec s
  cases h1 : scB s
  · rw [h1] at sR
    exact APure.vcM Tryz.func6 (.call (.bool true) <| .call (.bool false) .nil) rfl rfl ⟨sA, sR, [], by kernel_rfl⟩
  rw [h1] at sR
  have hs := scB_iff.1 h1
  obtain ⟨room, hroom, erm⟩ := tmod_rm hs which
  obtain ⟨hnr, hn1, hn6⟩ := nR_eq hs
  have hf := hs.fin
  have hne : s.rooms ≠ 0 := by omega
  have hne2 : s.fin + 1 ≠ 0 := by omega
  have v38 := w8 hw8
  have v43 : some (⟨.int .i64 (IntKind.i64.wrap (minute : Int)), []⟩ : Out) = some ⟨.int .i64 (minute : Int), []⟩ := by rw [wrap64 (by omega) (by omega)]
  have v46 : some (⟨.int .i64 (IntKind.i64.wrap (s.fin + 1)), []⟩ : Out) = some ⟨.int .i64 (s.fin + 1), []⟩ := by rw [wrap64 (by omega) (by omega)]
  have hat : 0 ≤ ((minute : Int).tmod (s.fin + 1)) ∧ ((minute : Int).tmod (s.fin + 1)) ≤ s.fin := by
    have q1 := Int.tmod_nonneg (s.fin + 1) (show 0 ≤ (minute : Int) by omega)
    have q2 := Int.tmod_lt_of_pos (minute : Int) (show 0 < s.fin + 1 by omega)
    omega
  refine APure.intro Tryz.func6 rfl (by kernel_rfl) rfl fun g hn hlo0 => ?_
  replace hn : g.n = 200 := hn
  refine ACode.cut 4 (fun _ : Unit => ⟨[(3, .lst 1 (bs.map encU)), (4, .cptr (cSc s)), (9, .bool true), (10, .int .i64 ((which : Int).tmod s.rooms)), (11, .int .i64 ((minute : Int).tmod (s.fin + 1)))], [], 0⟩) (fun _ => True) (.call (.bool true) <| .call (.bool true) <| .draw 12 <| .val 38 (.int .i64 (which : Int)) [] <| .nz <| .val 43 (.int .i64 (minute : Int)) [] <| .val 46 (.int .i64 (s.fin + 1)) [] <| .nz .nil) hn hlo0 .ret rfl ⟨sA, sR, by kernel_rfl, mixed, by kernel_rfl, Eq.trans (by kernel_rfl) v38, hne, Eq.trans (by kernel_rfl) v43, Eq.trans (by kernel_rfl) v46, hne2, by kernel_rfl, (), trivial, Wk.all ⟨⟨[], by kernel_rfl⟩, ⟨[0], by kernel_rfl⟩, ⟨[], by kernel_rfl⟩, ⟨[], by kernel_rfl⟩, ⟨[], by kernel_rfl⟩, trivial⟩ hlo0⟩ fun _ _ => so_first hs hroom erm hat hbs hn hlo0
end Go.Proofs.YtoeankkhjpijlaaGreatDoor
