import Derived.Test.YtjoagmjijbfjkaaGreatDoorW8
import Derived.Shelf.SlSortCmp.WholeK
import Derived.Shelf.SlSortCmp.Whole1
import Derived.Shelf.SlicesG.Cmp
/-
  THE LIBRARY's SORTS, laid at this program.
-/
namespace Go.Proofs.YtjoagmjijbfjkaaGreatDoor
open Go Go.Am Go.Shelf
set_option maxRecDepth 100000
set_option maxHeartbeats 4000000
def XintsR : Ren := ⟨fun n => match n with
  | 6 => 122
  | 15 => 116
  | 14 => 137
  | 28 => 133
  | 29 => 134
  | 20 => 153
  | 21 => 154
  | 22 => 155
  | 23 => 156
  | 24 => 157
  | 25 => 158
  | 26 => 159
  | 27 => 160
  | 46 => 167
  | 47 => 141
  | 48 => 142
  | 49 => 168
  | 50 => 169
  | 57 => 171
  | _ => 0, fun n => match n with
  | 22 => 24
  | 24 => 3
  | 25 => 149
  | 3 => 3
  | 39 => 162
  | 0 => 0
  | 53 => 106
  | 55 => 176
  | 4 => 4
  | 46 => 169
  | 45 => 168
  | 50 => 155
  | 5 => 5
  | 9 => 9
  | 66 => 181
  | 70 => 185
  | 76 => 197
  | 77 => 55
  | _ => 0, fun n => n⟩
theorem XintsL : SlLaysF.n6 Tryz.prog XintsR :=
  { mixed := mixed,
    f6 := Exists.intro "slices.SortFunc[[]int,int]" ⟨of_decide_eq_true (by kernel_rfl), Eq.trans Tryz.func122 (by kernel_rfl)⟩,
    f15 := Eq.trans Tryz.func116 (by kernel_rfl),
    f14 := Exists.intro "slices.pdqsortCmpFunc[int]" ⟨of_decide_eq_true (by kernel_rfl), Eq.trans Tryz.func137 (by kernel_rfl)⟩,
    f28 := Eq.trans Tryz.func133 (by kernel_rfl),
    f29 := Eq.trans Tryz.func134 (by kernel_rfl),
    f20 := Exists.intro "slices.insertionSortCmpFunc[int]" ⟨of_decide_eq_true (by kernel_rfl), Eq.trans Tryz.func153 (by kernel_rfl)⟩,
    f21 := Exists.intro "slices.heapSortCmpFunc[int]" ⟨of_decide_eq_true (by kernel_rfl), Eq.trans Tryz.func154 (by kernel_rfl)⟩,
    f22 := Exists.intro "slices.breakPatternsCmpFunc[int]" ⟨of_decide_eq_true (by kernel_rfl), Eq.trans Tryz.func155 (by kernel_rfl)⟩,
    f23 := Exists.intro "slices.choosePivotCmpFunc[int]" ⟨of_decide_eq_true (by kernel_rfl), Eq.trans Tryz.func156 (by kernel_rfl)⟩,
    f24 := Exists.intro "slices.reverseRangeCmpFunc[int]" ⟨of_decide_eq_true (by kernel_rfl), Eq.trans Tryz.func157 (by kernel_rfl)⟩,
    f25 := Exists.intro "slices.partialInsertionSortCmpFunc[int]" ⟨of_decide_eq_true (by kernel_rfl), Eq.trans Tryz.func158 (by kernel_rfl)⟩,
    f26 := Exists.intro "slices.partitionEqualCmpFunc[int]" ⟨of_decide_eq_true (by kernel_rfl), Eq.trans Tryz.func159 (by kernel_rfl)⟩,
    f27 := Exists.intro "slices.partitionCmpFunc[int]" ⟨of_decide_eq_true (by kernel_rfl), Eq.trans Tryz.func160 (by kernel_rfl)⟩,
    f46 := Exists.intro "slices.siftDownCmpFunc[int]" ⟨of_decide_eq_true (by kernel_rfl), Eq.trans Tryz.func167 (by kernel_rfl)⟩,
    f47 := Eq.trans Tryz.func141 (by kernel_rfl),
    f48 := Eq.trans Tryz.func142 (by kernel_rfl),
    f49 := Exists.intro "slices.medianAdjacentCmpFunc[int]" ⟨of_decide_eq_true (by kernel_rfl), Eq.trans Tryz.func168 (by kernel_rfl)⟩,
    f50 := Exists.intro "slices.medianCmpFunc[int]" ⟨of_decide_eq_true (by kernel_rfl), Eq.trans Tryz.func169 (by kernel_rfl)⟩,
    f57 := Exists.intro "slices.order2CmpFunc[int]" ⟨of_decide_eq_true (by kernel_rfl), Eq.trans Tryz.func171 (by kernel_rfl)⟩,
    t22 := Tryz.underlying24,
    a22 := Tryz.isAgg24,
    z22 := Tryz.sizeOf24,
    v22 := Tryz.zeroValue24,
    a24 := Tryz.isAgg3,
    z24 := Tryz.sizeOf3,
    t25 := Tryz.underlying149,
    a25 := Tryz.isAgg149,
    z25 := Tryz.sizeOf149,
    v25 := Tryz.zeroValue149,
    t3 := Tryz.underlying3,
    a3 := Tryz.isAgg3,
    z3 := Tryz.sizeOf3,
    v3 := Tryz.zeroValue3,
    t39 := Tryz.underlying162,
    a39 := Tryz.isAgg162,
    z39 := Tryz.sizeOf162,
    v39 := Tryz.zeroValue162,
    t0 := Tryz.underlying0,
    a0 := Tryz.isAgg0,
    z0 := Tryz.sizeOf0,
    v0 := Tryz.zeroValue0,
    t53 := Tryz.underlying106,
    a53 := Tryz.isAgg106,
    z53 := Tryz.sizeOf106,
    v53 := Tryz.zeroValue106,
    t55 := Tryz.underlying176,
    a55 := Tryz.isAgg176,
    z55 := Tryz.sizeOf176,
    v55 := Tryz.zeroValue176,
    t4 := Tryz.underlying4,
    a4 := Tryz.isAgg4,
    z4 := Tryz.sizeOf4,
    v4 := Tryz.zeroValue4,
    t46 := Tryz.underlying169,
    a46 := Tryz.isAgg169,
    z46 := Tryz.sizeOf169,
    v46 := Tryz.zeroValue169,
    t45 := Tryz.underlying168,
    a45 := Tryz.isAgg168,
    z45 := Tryz.sizeOf168,
    v45 := Tryz.zeroValue168,
    t50 := Tryz.underlying155,
    a50 := Tryz.isAgg155,
    z50 := Tryz.sizeOf155,
    v50 := Tryz.zeroValue155,
    t5 := Tryz.underlying5,
    a5 := Tryz.isAgg5,
    z5 := Tryz.sizeOf5,
    v5 := Tryz.zeroValue5,
    t9 := Tryz.underlying9,
    a9 := Tryz.isAgg9,
    z9 := Tryz.sizeOf9,
    v9 := Tryz.zeroValue9,
    t66 := Tryz.underlying181,
    a66 := Tryz.isAgg181,
    z66 := Tryz.sizeOf181,
    v66 := Tryz.zeroValue181,
    t70 := Tryz.underlying185,
    a70 := Tryz.isAgg185,
    z70 := Tryz.sizeOf185,
    v70 := Tryz.zeroValue185,
    t76 := Tryz.underlying197,
    a76 := Tryz.isAgg197,
    z76 := Tryz.sizeOf197,
    v76 := Tryz.zeroValue197,
    t77 := Tryz.underlying55,
    a77 := Tryz.isAgg55,
    z77 := Tryz.sizeOf55,
    v77 := Tryz.zeroValue55 }
def XcmpR : Ren := ⟨fun n => match n with
  | 5 => 105
  | 7 => 117
  | _ => 0, fun n => match n with
  | 22 => 3
  | 3 => 3
  | 4 => 4
  | _ => 0, fun n => n⟩
theorem XcmpL : SlLaysC2.n5 Tryz.prog XcmpR :=
  { mixed := mixed,
    f5 := Exists.intro "cmp.Compare[int]" ⟨of_decide_eq_true (by kernel_rfl), Eq.trans Tryz.func105 (by kernel_rfl)⟩,
    f7 := Exists.intro "cmp.isNaN[int]" ⟨of_decide_eq_true (by kernel_rfl), Eq.trans Tryz.func117 (by kernel_rfl)⟩,
    t22 := Tryz.underlying3,
    a22 := Tryz.isAgg3,
    z22 := Tryz.sizeOf3,
    v22 := Tryz.zeroValue3,
    t3 := Tryz.underlying3,
    a3 := Tryz.isAgg3,
    z3 := Tryz.sizeOf3,
    v3 := Tryz.zeroValue3,
    t4 := Tryz.underlying4,
    a4 := Tryz.isAgg4,
    z4 := Tryz.sizeOf4,
    v4 := Tryz.zeroValue4 }
end Go.Proofs.YtjoagmjijbfjkaaGreatDoor
/-
  THE LIBRARY's SORT BY A FUNCTION: of a row of one's own.
-/
namespace Go.Proofs.YtjoagmjijbfjkaaGreatDoor
open Go Go.Am Go.Shelf Go.RowKit Go.Lib Go.Sort
set_option maxRecDepth 100000
set_option maxHeartbeats 4000000
/-- A row of numbers is put into another order by a call; all else is as it was. -/
theorem sorted_mut {fn : Func} {fid gid : Nat} {N esz : Nat} {L : List Int} {Q : List AV → Prop} (hfid : ∀ f, Tryz.prog.funcs[f]? = some fn → f = fid) (hN : N * esz = L.length) (h0 : 0 < L.length)
    (key : ∀ (w : World) (blk cap : Nat), Holds (Value.int .i64) w blk 0 L.toArray → blk < w.heap.size → Calls Tryz.prog fid #[.slice (some ⟨blk, 0, none⟩) N cap, .func (.func gid) #[] #[]] w fun e w' =>
      e = .returned (.tuple #[]) ∧ ∃ (L' : List Int) (n : Nat) (os : Array Obj), L'.length = L.length ∧ Q (iL L') ∧ w' = grow (putRow (Value.int .i64) (Sort.ahead w n) blk 0 L'.toArray) os) :
    AMut Tryz.prog fn N esz [.fn (.func gid) [] []] (iL L) .undef Q := by
  intro f hf κ Nn w cargs hr hfr hc
  have hff := hfid f hf
  subst hff
  have hsz : cargs.size = 2 := hc.1
  obtain ⟨v, hv, hvr⟩ := hc.2 0 _ rfl
  obtain ⟨u, hu, hur⟩ := hc.2 1 _ rfl
  have hca : cargs = #[v, u] := by
    apply Array.ext'
    have : cargs.toList.length = 2 := by simpa using hsz
    match hl : cargs.toList, this with
    | [a, b], _ =>
      have h1 : cargs.toList[0]? = some v := by simpa using hv
      have h2 : cargs.toList[1]? = some u := by simpa using hu
      rw [hl] at h1 h2
      simp at h1 h2
      simp [h1, h2]
  subst hca
  have hun : u = .func (.func gid) #[] #[] := by
    cases hur with
    | fn f fs cs vs us uf uc hlf hlc _ _ _ _ =>
      have e1 : vs = #[] := Array.eq_empty_of_size_eq_zero hlf
      have e2 : us = #[] := Array.eq_empty_of_size_eq_zero hlc
      rw [e1, e2]
  subst hun
  cases hvr with
  | rsl0 _ _ _ base => exact absurd h0 (by omega)
  | rsl _ _ _ _ cap blk c e fz hk hl hb hcap =>
    have hi : hget [(0, AObj.cells (iL L))] 0 = some (.cells (iL L)) := rfl
    rcases hr.rel 0 _ hi with ⟨e1, _⟩ | ⟨blk', c', e', g1, g2, g3, g4⟩
    · have : (iL L).length = 0 := by rw [e1]; rfl
      rw [iL_len] at this; omega
    · rw [hk] at g1
      cases g1
      rw [g2] at hb
      cases hb
      rw [iL_len] at g3
      have hcell : ∀ j, j < L.length → c[j]? = some (.int .i64 (L.getD j 0)) := fun j hj => by
        obtain ⟨x, hx⟩ : ∃ x, L[j]? = some x := ⟨_, List.getElem?_eq_getElem hj⟩
        obtain ⟨u, hu, hur⟩ := g4 j (.int .i64 x) (by rw [iL_eq, List.getElem?_map, hx]; rfl)
        cases hur
        rw [hu, List.getD_eq_getElem?_getD, hx]; rfl
      have hH : Holds (Value.int .i64) w blk 0 L.toArray := fun j hj => by
        have hj' : j < L.length := by simpa using hj
        refine ⟨?_, ?_⟩
        · have : (⟨blk, 0 + j, none⟩ : Addr) = ⟨blk, j, none⟩ := by rw [Nat.zero_add]
          rw [this]
          simp only [World.cell?, g2]
          simp [hcell j hj', List.getD_eq_getElem?_getD]
        · simp [World.frozen?, g2]
      have hblk := hr.bd 0 blk hk
      refine (key w blk cap hH hblk).mono ?_
      rintro en w' ⟨rfl, L', n, os, hlen, hQ, rfl⟩
      have st1 := Step.draw (w' := Sort.ahead w n) hr rfl ⟨rfl, rfl, rfl⟩
      have hds : L'.toArray.size = L.length := by simpa using hlen
      generalize hd : L'.toArray = d at hds ⊢
      have hheap : (putRow (Value.int .i64) (Sort.ahead w n) blk 0 d).heap[blk]? = some (.cells (putCells (Value.int .i64) 0 d c) e (0, 0)) := by
        simp [putRow, mapBlock, Array.getElem?_modify, onCells]
        exact ⟨_, g2, rfl⟩
      have hother : ∀ b, b ≠ blk → (putRow (Value.int .i64) (Sort.ahead w n) blk 0 d).heap[b]? = (Sort.ahead w n).heap[b]? := fun b hb => by
        simp [putRow, mapBlock, Array.getElem?_modify, Ne.symm hb]
      have hcs : (putCells (Value.int .i64) 0 d c).size = c.size := by simp [putCells]
      have hle : Wle (Sort.ahead w n) (putRow (Value.int .i64) (Sort.ahead w n) blk 0 d) := by
        refine ⟨by simp, fun b c1 e1 f1 hb1 => ?_, fun b L hb1 => ?_, rfl, rfl, rfl⟩
        · by_cases hbb : b = blk
          · subst hbb
            have : (Sort.ahead w n).heap[b]? = some (.cells c e (0, 0)) := g2
            rw [this] at hb1; cases hb1
            exact ⟨_, _, hheap, hcs⟩
          · exact ⟨c1, f1, by rw [hother b hbb]; exact hb1, rfl⟩
        · by_cases hbb : b = blk
          · subst hbb
            have : (Sort.ahead w n).heap[b]? = some (.cells c e (0, 0)) := g2
            rw [this] at hb1; cases hb1
          · exact ⟨L, by rw [hother b hbb]; exact hb1⟩
      have st2 := Step.turn st1.hrel hi hk hle hother (by simp) (.cells (iL L')) fun _ => .inr ⟨blk, _, e, hk, hheap, by rw [iL_len, hlen, hcs]; exact g3, fun i x hx => by
        rw [iL_eq, List.getElem?_map] at hx
        cases hg : L'[i]? with
        | none => rw [hg] at hx; cases hx
        | some z =>
          rw [hg] at hx
          cases hx
          have hil : i < L.length := by
            rcases Nat.lt_or_ge i L'.length with h | h
            · omega
            · rw [List.getElem?_eq_none h] at hg; cases hg
          refine ⟨.int .i64 z, ?_, .int _ _⟩
          have hci : i < c.size := by omega
          have hdz : d[i]! = z := by
            rw [← hd]
            simp [hg]
          simp only [putCells, Array.getElem?_mapIdx]
          rw [Array.getElem?_eq_getElem hci]
          simp only [Option.map_some, Nat.zero_le, true_and, Nat.zero_add, Nat.sub_zero]
          rw [if_pos (by rw [hds]; exact hil), hdz]⟩
      have hold : ∀ b, b < (putRow (Value.int .i64) (Sort.ahead w n) blk 0 d).heap.size → (grow (putRow (Value.int .i64) (Sort.ahead w n) blk 0 d) os).heap[b]? = (putRow (Value.int .i64) (Sort.ahead w n) blk 0 d).heap[b]? := fun b hb => by
        show (_ ++ os)[b]? = _
        rw [Array.getElem?_append, if_pos hb]
      have hle3 : Wle (putRow (Value.int .i64) (Sort.ahead w n) blk 0 d) (grow (putRow (Value.int .i64) (Sort.ahead w n) blk 0 d) os) := by
        have ho : ∀ (b : Nat) (o : Obj), (putRow (Value.int .i64) (Sort.ahead w n) blk 0 d).heap[b]? = some o → (grow (putRow (Value.int .i64) (Sort.ahead w n) blk 0 d) os).heap[b]? = some o := fun b o hb => by
          rw [hold b (by
            rcases Nat.lt_or_ge b (putRow (Value.int .i64) (Sort.ahead w n) blk 0 d).heap.size with h | h
            · exact h
            · rw [Array.getElem?_eq_none h] at hb; cases hb)]
          exact hb
        exact ⟨by show _ ≤ (_ ++ os).size; rw [Array.size_append]; omega, fun b c1 e1 f1 hb1 => ⟨c1, f1, ho _ _ hb1, rfl⟩, fun b L hb1 => ⟨L, ho _ _ hb1⟩, rfl, rfl, rfl⟩
      have st3 := Step.still st2.hrel hle3 hold
      exact ⟨_, .undef, κ, [(0, .cells (iL L'))], 1, rfl, (st1.trans st2).trans st3, fun id hid => ⟨(hfr id hid).1, by show hget [(0, _)] id = none; simp only [hget]; rw [if_neg (by omega)]⟩, .undef, rfl, _, rfl, hQ⟩
/-! ### spans -/
def numsS (S : List Spn) : List Int := S.flatMap fun x => [x.1, x.2]
theorem fl_nums (S : List Spn) : fl cSp S = iL (numsS S) := by
  unfold numsS
  rw [iL_eq]
  unfold fl
  rw [List.map_flatMap]; rfl
theorem nums_len (S : List Spn) : (numsS S).length = S.length * 2 := by
  unfold numsS
  induction S with
  | nil => rfl
  | cons a S ih => rw [List.flatMap_cons, List.length_append, ih, List.length_cons]; simp only [List.length_cons, List.length_nil]; omega
def encIv (x : Spn) : List Value := [.int .i64 x.1, .int .i64 x.2]
theorem nums_get : ∀ (S : List Spn) (t : Nat) (x : Spn), S[t / 2]? = some x → (numsS S)[t]? = some (if t % 2 = 0 then x.1 else x.2) := by
  intro S
  induction S with
  | nil => intro t x h; simp at h
  | cons a S ih =>
    intro t x h
    match t with
    | 0 => simp at h; subst h; rfl
    | 1 => simp at h; subst h; rfl
    | t + 2 =>
      have h2 : S[t / 2]? = some x := by
        rw [show (t + 2) / 2 = t / 2 + 1 by omega] at h
        simpa using h
      have := ih t x h2
      rw [show (t + 2) % 2 = t % 2 by omega]
      exact this
theorem flat_iv (S : List Spn) (t : Nat) (ht : t < S.length * 2) : (flatK encIv 2 S.toArray)[t]! = Value.int .i64 ((numsS S).toArray[t]!) := by
  have ht2 : t / 2 < S.length := by omega
  have hx : S[t / 2]? = some S[t / 2] := List.getElem?_eq_getElem ht2
  have hn := nums_get S t _ hx
  rw [get_flatK _ _ _ _ (by simpa using ht)]
  have e1 : S.toArray[t / 2]! = S[t / 2] := by simp [ht2]
  have e2 : (numsS S).toArray[t]! = (if t % 2 = 0 then (S[t / 2]).1 else (S[t / 2]).2) := by simp [hn]
  rw [e1, e2]
  rcases Nat.mod_two_eq_zero_or_one t with q | q
  · rw [q]; rfl
  · rw [q]; rfl
theorem put_iv (w : World) (blk : Nat) (S : List Spn) : putRowK encIv 2 w blk 0 S.toArray = putRow (Value.int .i64) w blk 0 (numsS S).toArray := by
  unfold putRowK putRow
  congr 1
  funext c
  unfold putCells
  refine Array.ext (by simp) fun k h1 h2 => ?_
  have hs1 : (flatK encIv 2 S.toArray).size = S.length * 2 := by simp
  have hs2 : ((numsS S).toArray).size = S.length * 2 := by simp [nums_len]
  simp only [Array.getElem_mapIdx, hs1, hs2]
  by_cases hk : 0 ≤ k ∧ k < 0 + S.length * 2
  · rw [if_pos hk, if_pos hk]
    exact flat_iv S (k - 0) (by omega)
  · rw [if_neg hk, if_neg hk]
theorem ltLo (x y : Spn) : ltOf (fun x y : Spn => Lib.compareInt x.1 y.1) x y = decide (x.1 < y.1) := by
  unfold ltOf Lib.compareInt
  by_cases h1 : x.1 < y.1
  · simp [h1]
  · by_cases h2 : y.1 < x.1 <;> simp [h1, h2]
theorem swoLo : SWO (ltOf fun x y : Spn => Lib.compareInt x.1 y.1) where
  irrefl x := by rw [ltLo]; simp
  trans x y z h1 h2 := by rw [ltLo] at *; simp at *; omega
  ntrans x y z h1 h2 := by rw [ltLo] at *; simp at *; omega
/-- What the library's sort makes of spans. -/
def pdqS (S : List Spn) : List Spn := (pdq (ltOf fun x y : Spn => Lib.compareInt x.1 y.1) S.toArray 0 S.length (Lib.bitLen S.length) true true).toList
def SpQ (S : List Spn) (cs : List AV) : Prop := cs = fl cSp (pdqS S)
theorem perm_of_in {α : Type} [Inhabited α] {S : List α} {d' : Array α} (h : PermIn 0 S.length S.toArray d') : d'.toList.Perm S := by
  obtain ⟨h1, _, h3⟩ := h
  have e1 : d'.extract 0 S.length = d' := by
    have : S.length = d'.size := by simpa using h1.symm
    rw [this]; simp
  have e2 : S.toArray.extract 0 S.length = S.toArray := by simp
  rw [e1, e2] at h3
  simpa using h3
theorem sorted_pw {α : Type} [Inhabited α] {lt : α → α → Bool} {d : Array α} (h : SortedIn lt 0 d.size d) : d.toList.Pairwise (fun a b => lt b a = false) := by
  rw [List.pairwise_iff_getElem]
  intro i j hi hj hij
  have hj' : j < d.size := by simpa using hj
  have := h i j (Nat.zero_le _) hij hj'
  rw [getElem!_pos d j hj', getElem!_pos d i (by omega)] at this
  simpa using this
theorem pdqS_facts (S : List Spn) : (pdqS S).Perm S ∧ (pdqS S).Pairwise (fun a b => a.1 ≤ b.1) := by
  have h := pdq_sorts (ltOf fun x y : Spn => Lib.compareInt x.1 y.1) swoLo S.toArray 0 S.length (Lib.bitLen S.length) true true (Nat.zero_le _) (by simp) (Or.inl rfl)
  have hp2 := perm_of_in h.1
  refine ⟨hp2, ?_⟩
  have hl2 := hp2.length_eq
  have hd : (pdq (ltOf fun x y : Spn => Lib.compareInt x.1 y.1) S.toArray 0 S.length (Lib.bitLen S.length) true true).size = S.length := by simpa using hl2
  have hso2 : SortedIn (ltOf fun x y : Spn => Lib.compareInt x.1 y.1) 0 (pdq (ltOf fun x y : Spn => Lib.compareInt x.1 y.1) S.toArray 0 S.length (Lib.bitLen S.length) true true).size (pdq (ltOf fun x y : Spn => Lib.compareInt x.1 y.1) S.toArray 0 S.length (Lib.bitLen S.length) true true) := by rw [hd]; exact h.2
  exact (sorted_pw hso2).imp fun {a b} q => by rw [ltLo] at q; have := of_decide_eq_false q; omega
end Go.Proofs.YtjoagmjijbfjkaaGreatDoor
