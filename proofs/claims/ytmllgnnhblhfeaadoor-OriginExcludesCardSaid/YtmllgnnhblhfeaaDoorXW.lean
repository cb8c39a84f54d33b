import Derived.Test.YtmllgnnhblhfeaaDoorW8
import Derived.Shelf.SlSortCmp.WholeK
import Derived.Shelf.SlSortCmp.Whole1
import Derived.Shelf.SlicesG.Cmp
import Derived.LoopN
import Derived.Test.YtmllgnnhblhfeaaDoorXE
import Derived.Test.YtmllgnnhblhfeaaDoorAm25
/-
  THE LIBRARY's SORTS, laid at this program.
-/
namespace Go.Proofs.YtmllgnnhblhfeaaDoor
open Go Go.Am Go.Shelf
set_option maxRecDepth 100000
set_option maxHeartbeats 4000000
def XintsR : Ren := ⟨fun n => match n with
  | 6 => 65
  | 15 => 72
  | 14 => 71
  | 28 => 84
  | 29 => 85
  | 20 => 76
  | 21 => 77
  | 22 => 78
  | 23 => 79
  | 24 => 80
  | 25 => 81
  | 26 => 82
  | 27 => 83
  | 46 => 89
  | 47 => 90
  | 48 => 91
  | 49 => 92
  | 50 => 93
  | 57 => 94
  | _ => 0, fun n => match n with
  | 22 => 28
  | 24 => 3
  | 25 => 103
  | 3 => 3
  | 39 => 110
  | 0 => 0
  | 53 => 120
  | 55 => 122
  | 4 => 4
  | 46 => 114
  | 45 => 113
  | 50 => 92
  | 5 => 5
  | 9 => 9
  | 66 => 123
  | 70 => 127
  | 76 => 129
  | 77 => 130
  | _ => 0, fun n => n⟩
theorem XintsL : SlLaysF.n6 Tryd.prog XintsR :=
  { mixed := mixed,
    f6 := Exists.intro "slices.SortFunc[[]int,int]" ⟨of_decide_eq_true (by kernel_rfl), Eq.trans Tryd.func65 (by kernel_rfl)⟩,
    f15 := Eq.trans Tryd.func72 (by kernel_rfl),
    f14 := Exists.intro "slices.pdqsortCmpFunc[int]" ⟨of_decide_eq_true (by kernel_rfl), Eq.trans Tryd.func71 (by kernel_rfl)⟩,
    f28 := Eq.trans Tryd.func84 (by kernel_rfl),
    f29 := Eq.trans Tryd.func85 (by kernel_rfl),
    f20 := Exists.intro "slices.insertionSortCmpFunc[int]" ⟨of_decide_eq_true (by kernel_rfl), Eq.trans Tryd.func76 (by kernel_rfl)⟩,
    f21 := Exists.intro "slices.heapSortCmpFunc[int]" ⟨of_decide_eq_true (by kernel_rfl), Eq.trans Tryd.func77 (by kernel_rfl)⟩,
    f22 := Exists.intro "slices.breakPatternsCmpFunc[int]" ⟨of_decide_eq_true (by kernel_rfl), Eq.trans Tryd.func78 (by kernel_rfl)⟩,
    f23 := Exists.intro "slices.choosePivotCmpFunc[int]" ⟨of_decide_eq_true (by kernel_rfl), Eq.trans Tryd.func79 (by kernel_rfl)⟩,
    f24 := Exists.intro "slices.reverseRangeCmpFunc[int]" ⟨of_decide_eq_true (by kernel_rfl), Eq.trans Tryd.func80 (by kernel_rfl)⟩,
    f25 := Exists.intro "slices.partialInsertionSortCmpFunc[int]" ⟨of_decide_eq_true (by kernel_rfl), Eq.trans Tryd.func81 (by kernel_rfl)⟩,
    f26 := Exists.intro "slices.partitionEqualCmpFunc[int]" ⟨of_decide_eq_true (by kernel_rfl), Eq.trans Tryd.func82 (by kernel_rfl)⟩,
    f27 := Exists.intro "slices.partitionCmpFunc[int]" ⟨of_decide_eq_true (by kernel_rfl), Eq.trans Tryd.func83 (by kernel_rfl)⟩,
    f46 := Exists.intro "slices.siftDownCmpFunc[int]" ⟨of_decide_eq_true (by kernel_rfl), Eq.trans Tryd.func89 (by kernel_rfl)⟩,
    f47 := Eq.trans Tryd.func90 (by kernel_rfl),
    f48 := Eq.trans Tryd.func91 (by kernel_rfl),
    f49 := Exists.intro "slices.medianAdjacentCmpFunc[int]" ⟨of_decide_eq_true (by kernel_rfl), Eq.trans Tryd.func92 (by kernel_rfl)⟩,
    f50 := Exists.intro "slices.medianCmpFunc[int]" ⟨of_decide_eq_true (by kernel_rfl), Eq.trans Tryd.func93 (by kernel_rfl)⟩,
    f57 := Exists.intro "slices.order2CmpFunc[int]" ⟨of_decide_eq_true (by kernel_rfl), Eq.trans Tryd.func94 (by kernel_rfl)⟩,
    t22 := Tryd.underlying28,
    a22 := Tryd.isAgg28,
    z22 := Tryd.sizeOf28,
    v22 := Tryd.zeroValue28,
    a24 := Tryd.isAgg3,
    z24 := Tryd.sizeOf3,
    t25 := Tryd.underlying103,
    a25 := Tryd.isAgg103,
    z25 := Tryd.sizeOf103,
    v25 := Tryd.zeroValue103,
    t3 := Tryd.underlying3,
    a3 := Tryd.isAgg3,
    z3 := Tryd.sizeOf3,
    v3 := Tryd.zeroValue3,
    t39 := Tryd.underlying110,
    a39 := Tryd.isAgg110,
    z39 := Tryd.sizeOf110,
    v39 := Tryd.zeroValue110,
    t0 := Tryd.underlying0,
    a0 := Tryd.isAgg0,
    z0 := Tryd.sizeOf0,
    v0 := Tryd.zeroValue0,
    t53 := Tryd.underlying120,
    a53 := Tryd.isAgg120,
    z53 := Tryd.sizeOf120,
    v53 := Tryd.zeroValue120,
    t55 := Tryd.underlying122,
    a55 := Tryd.isAgg122,
    z55 := Tryd.sizeOf122,
    v55 := Tryd.zeroValue122,
    t4 := Tryd.underlying4,
    a4 := Tryd.isAgg4,
    z4 := Tryd.sizeOf4,
    v4 := Tryd.zeroValue4,
    t46 := Tryd.underlying114,
    a46 := Tryd.isAgg114,
    z46 := Tryd.sizeOf114,
    v46 := Tryd.zeroValue114,
    t45 := Tryd.underlying113,
    a45 := Tryd.isAgg113,
    z45 := Tryd.sizeOf113,
    v45 := Tryd.zeroValue113,
    t50 := Tryd.underlying92,
    a50 := Tryd.isAgg92,
    z50 := Tryd.sizeOf92,
    v50 := Tryd.zeroValue92,
    t5 := Tryd.underlying5,
    a5 := Tryd.isAgg5,
    z5 := Tryd.sizeOf5,
    v5 := Tryd.zeroValue5,
    t9 := Tryd.underlying9,
    a9 := Tryd.isAgg9,
    z9 := Tryd.sizeOf9,
    v9 := Tryd.zeroValue9,
    t66 := Tryd.underlying123,
    a66 := Tryd.isAgg123,
    z66 := Tryd.sizeOf123,
    v66 := Tryd.zeroValue123,
    t70 := Tryd.underlying127,
    a70 := Tryd.isAgg127,
    z70 := Tryd.sizeOf127,
    v70 := Tryd.zeroValue127,
    t76 := Tryd.underlying129,
    a76 := Tryd.isAgg129,
    z76 := Tryd.sizeOf129,
    v76 := Tryd.zeroValue129,
    t77 := Tryd.underlying130,
    a77 := Tryd.isAgg130,
    z77 := Tryd.sizeOf130,
    v77 := Tryd.zeroValue130 }
def XcmpR : Ren := ⟨fun n => match n with
  | 5 => 74
  | 7 => 86
  | _ => 0, fun n => match n with
  | 22 => 3
  | 3 => 3
  | 4 => 4
  | _ => 0, fun n => n⟩
theorem XcmpL : SlLaysC2.n5 Tryd.prog XcmpR :=
  { mixed := mixed,
    f5 := Exists.intro "cmp.Compare[int]" ⟨of_decide_eq_true (by kernel_rfl), Eq.trans Tryd.func74 (by kernel_rfl)⟩,
    f7 := Exists.intro "cmp.isNaN[int]" ⟨of_decide_eq_true (by kernel_rfl), Eq.trans Tryd.func86 (by kernel_rfl)⟩,
    t22 := Tryd.underlying3,
    a22 := Tryd.isAgg3,
    z22 := Tryd.sizeOf3,
    v22 := Tryd.zeroValue3,
    t3 := Tryd.underlying3,
    a3 := Tryd.isAgg3,
    z3 := Tryd.sizeOf3,
    v3 := Tryd.zeroValue3,
    t4 := Tryd.underlying4,
    a4 := Tryd.isAgg4,
    z4 := Tryd.sizeOf4,
    v4 := Tryd.zeroValue4 }
end Go.Proofs.YtmllgnnhblhfeaaDoor
/-
  THE LIBRARY's SORT BY A FUNCTION: of a row of one's own.
-/
namespace Go.Proofs.YtmllgnnhblhfeaaDoor
open Go Go.Am Go.Shelf Go.RowKit Go.Lib Go.Sort
set_option maxRecDepth 100000
set_option maxHeartbeats 4000000
/-- A row of numbers is put into another order by a call; all else is as it was. -/
theorem sorted_mut {fn : Func} {fid gid : Nat} {N esz : Nat} {L : List Int} {Q : List AV → Prop} (hfid : ∀ f, Tryd.prog.funcs[f]? = some fn → f = fid) (hN : N * esz = L.length) (h0 : 0 < L.length)
    (key : ∀ (w : World) (blk cap : Nat), Holds (Value.int .i64) w blk 0 L.toArray → blk < w.heap.size → Calls Tryd.prog fid #[.slice (some ⟨blk, 0, none⟩) N cap, .func (.func gid) #[] #[]] w fun e w' =>
      e = .returned (.tuple #[]) ∧ ∃ (L' : List Int) (n : Nat) (os : Array Obj), L'.length = L.length ∧ Q (iL L') ∧ w' = grow (putRow (Value.int .i64) (Sort.ahead w n) blk 0 L'.toArray) os) :
    AMut Tryd.prog fn N esz [.fn (.func gid) [] []] (iL L) .undef Q := by
  intro f hf κ Nn w cargs hr hfr hc
  have hff := hfid f hf
  subst hff
  have hsz : cargs.size = 2 := hc.1
  obtain ⟨v, hv, hvr⟩ := hc.2 0 _ rfl
  obtain ⟨u, hu, hur⟩ := hc.2 1 _ rfl
  have hca : cargs = #[v, u] := by
    apply Array.ext'
    have : cargs.toList.length = 2 := by simpa using hsz
    match hl : cargs.toList, this with
    | [a, b], _ =>
      have h1 : cargs.toList[0]? = some v := by simpa using hv
      have h2 : cargs.toList[1]? = some u := by simpa using hu
      rw [hl] at h1 h2
      simp at h1 h2
      simp [h1, h2]
  subst hca
  have hun : u = .func (.func gid) #[] #[] := by
    cases hur with
    | fn f fs cs vs us uf uc hlf hlc _ _ _ _ =>
      have e1 : vs = #[] := Array.eq_empty_of_size_eq_zero hlf
      have e2 : us = #[] := Array.eq_empty_of_size_eq_zero hlc
      rw [e1, e2]
  subst hun
  cases hvr with
  | rsl0 _ _ _ base => exact absurd h0 (by omega)
  | rsl _ _ _ _ cap blk c e fz hk hl hb hcap =>
    have hi : hget [(0, AObj.cells (iL L))] 0 = some (.cells (iL L)) := rfl
    rcases hr.rel 0 _ hi with ⟨e1, _⟩ | ⟨blk', c', e', g1, g2, g3, g4⟩
    · have : (iL L).length = 0 := by rw [e1]; rfl
      rw [iL_len] at this; omega
    · rw [hk] at g1
      cases g1
      rw [g2] at hb
      cases hb
      rw [iL_len] at g3
      have hcell : ∀ j, j < L.length → c[j]? = some (.int .i64 (L.getD j 0)) := fun j hj => by
        obtain ⟨x, hx⟩ : ∃ x, L[j]? = some x := ⟨_, List.getElem?_eq_getElem hj⟩
        obtain ⟨u, hu, hur⟩ := g4 j (.int .i64 x) (by rw [iL_eq, List.getElem?_map, hx]; rfl)
        cases hur
        rw [hu, List.getD_eq_getElem?_getD, hx]; rfl
      have hH : Holds (Value.int .i64) w blk 0 L.toArray := fun j hj => by
        have hj' : j < L.length := by simpa using hj
        refine ⟨?_, ?_⟩
        · have : (⟨blk, 0 + j, none⟩ : Addr) = ⟨blk, j, none⟩ := by rw [Nat.zero_add]
          rw [this]
          simp only [World.cell?, g2]
          simp [hcell j hj', List.getD_eq_getElem?_getD]
        · simp [World.frozen?, g2]
      have hblk := hr.bd 0 blk hk
      refine (key w blk cap hH hblk).mono ?_
      rintro en w' ⟨rfl, L', n, os, hlen, hQ, rfl⟩
      have st1 := Step.draw (w' := Sort.ahead w n) hr rfl ⟨rfl, rfl, rfl⟩
      have hds : L'.toArray.size = L.length := by simpa using hlen
      generalize hd : L'.toArray = d at hds ⊢
      have hheap : (putRow (Value.int .i64) (Sort.ahead w n) blk 0 d).heap[blk]? = some (.cells (putCells (Value.int .i64) 0 d c) e (0, 0)) := by
        simp [putRow, mapBlock, Array.getElem?_modify, onCells]
        exact ⟨_, g2, rfl⟩
      have hother : ∀ b, b ≠ blk → (putRow (Value.int .i64) (Sort.ahead w n) blk 0 d).heap[b]? = (Sort.ahead w n).heap[b]? := fun b hb => by
        simp [putRow, mapBlock, Array.getElem?_modify, Ne.symm hb]
      have hcs : (putCells (Value.int .i64) 0 d c).size = c.size := by simp [putCells]
      have hle : Wle (Sort.ahead w n) (putRow (Value.int .i64) (Sort.ahead w n) blk 0 d) := by
        refine ⟨by simp, fun b c1 e1 f1 hb1 => ?_, fun b L hb1 => ?_, rfl, rfl, rfl⟩
        · by_cases hbb : b = blk
          · subst hbb
            have : (Sort.ahead w n).heap[b]? = some (.cells c e (0, 0)) := g2
            rw [this] at hb1; cases hb1
            exact ⟨_, _, hheap, hcs⟩
          · exact ⟨c1, f1, by rw [hother b hbb]; exact hb1, rfl⟩
        · by_cases hbb : b = blk
          · subst hbb
            have : (Sort.ahead w n).heap[b]? = some (.cells c e (0, 0)) := g2
            rw [this] at hb1; cases hb1
          · exact ⟨L, by rw [hother b hbb]; exact hb1⟩
      have st2 := Step.turn st1.hrel hi hk hle hother (by simp) (.cells (iL L')) fun _ => .inr ⟨blk, _, e, hk, hheap, by rw [iL_len, hlen, hcs]; exact g3, fun i x hx => by
        rw [iL_eq, List.getElem?_map] at hx
        cases hg : L'[i]? with
        | none => rw [hg] at hx; cases hx
        | some z =>
          rw [hg] at hx
          cases hx
          have hil : i < L.length := by
            rcases Nat.lt_or_ge i L'.length with h | h
            · omega
            · rw [List.getElem?_eq_none h] at hg; cases hg
          refine ⟨.int .i64 z, ?_, .int _ _⟩
          have hci : i < c.size := by omega
          have hdz : d[i]! = z := by
            rw [← hd]
            simp [hg]
          simp only [putCells, Array.getElem?_mapIdx]
          rw [Array.getElem?_eq_getElem hci]
          simp only [Option.map_some, Nat.zero_le, true_and, Nat.zero_add, Nat.sub_zero]
          rw [if_pos (by rw [hds]; exact hil), hdz]⟩
      have hold : ∀ b, b < (putRow (Value.int .i64) (Sort.ahead w n) blk 0 d).heap.size → (grow (putRow (Value.int .i64) (Sort.ahead w n) blk 0 d) os).heap[b]? = (putRow (Value.int .i64) (Sort.ahead w n) blk 0 d).heap[b]? := fun b hb => by
        show (_ ++ os)[b]? = _
        rw [Array.getElem?_append, if_pos hb]
      have hle3 : Wle (putRow (Value.int .i64) (Sort.ahead w n) blk 0 d) (grow (putRow (Value.int .i64) (Sort.ahead w n) blk 0 d) os) := by
        have ho : ∀ (b : Nat) (o : Obj), (putRow (Value.int .i64) (Sort.ahead w n) blk 0 d).heap[b]? = some o → (grow (putRow (Value.int .i64) (Sort.ahead w n) blk 0 d) os).heap[b]? = some o := fun b o hb => by
          rw [hold b (by
            rcases Nat.lt_or_ge b (putRow (Value.int .i64) (Sort.ahead w n) blk 0 d).heap.size with h | h
            · exact h
            · rw [Array.getElem?_eq_none h] at hb; cases hb)]
          exact hb
        exact ⟨by show _ ≤ (_ ++ os).size; rw [Array.size_append]; omega, fun b c1 e1 f1 hb1 => ⟨c1, f1, ho _ _ hb1, rfl⟩, fun b L hb1 => ⟨L, ho _ _ hb1⟩, rfl, rfl, rfl⟩
      have st3 := Step.still st2.hrel hle3 hold
      exact ⟨_, .undef, κ, [(0, .cells (iL L'))], 1, rfl, (st1.trans st2).trans st3, fun id hid => ⟨(hfr id hid).1, by show hget [(0, _)] id = none; simp only [hget]; rw [if_neg (by omega)]⟩, .undef, rfl, _, rfl, hQ⟩
/-! ### spans -/
def numsS (S : List Spn) : List Int := S.flatMap fun x => [x.1, x.2]
theorem fl_nums (S : List Spn) : fl cSp S = iL (numsS S) := by
  unfold numsS
  rw [iL_eq]
  unfold fl
  rw [List.map_flatMap]; rfl
theorem nums_len (S : List Spn) : (numsS S).length = S.length * 2 := by
  unfold numsS
  induction S with
  | nil => rfl
  | cons a S ih => rw [List.flatMap_cons, List.length_append, ih, List.length_cons]; simp only [List.length_cons, List.length_nil]; omega
def encIv (x : Spn) : List Value := [.int .i64 x.1, .int .i64 x.2]
theorem nums_get : ∀ (S : List Spn) (t : Nat) (x : Spn), S[t / 2]? = some x → (numsS S)[t]? = some (if t % 2 = 0 then x.1 else x.2) := by
  intro S
  induction S with
  | nil => intro t x h; simp at h
  | cons a S ih =>
    intro t x h
    match t with
    | 0 => simp at h; subst h; rfl
    | 1 => simp at h; subst h; rfl
    | t + 2 =>
      have h2 : S[t / 2]? = some x := by
        rw [show (t + 2) / 2 = t / 2 + 1 by omega] at h
        simpa using h
      have := ih t x h2
      rw [show (t + 2) % 2 = t % 2 by omega]
      exact this
theorem flat_iv (S : List Spn) (t : Nat) (ht : t < S.length * 2) : (flatK encIv 2 S.toArray)[t]! = Value.int .i64 ((numsS S).toArray[t]!) := by
  have ht2 : t / 2 < S.length := by omega
  have hx : S[t / 2]? = some S[t / 2] := List.getElem?_eq_getElem ht2
  have hn := nums_get S t _ hx
  rw [get_flatK _ _ _ _ (by simpa using ht)]
  have e1 : S.toArray[t / 2]! = S[t / 2] := by simp [ht2]
  have e2 : (numsS S).toArray[t]! = (if t % 2 = 0 then (S[t / 2]).1 else (S[t / 2]).2) := by simp [hn]
  rw [e1, e2]
  rcases Nat.mod_two_eq_zero_or_one t with q | q
  · rw [q]; rfl
  · rw [q]; rfl
theorem put_iv (w : World) (blk : Nat) (S : List Spn) : putRowK encIv 2 w blk 0 S.toArray = putRow (Value.int .i64) w blk 0 (numsS S).toArray := by
  unfold putRowK putRow
  congr 1
  funext c
  unfold putCells
  refine Array.ext (by simp) fun k h1 h2 => ?_
  have hs1 : (flatK encIv 2 S.toArray).size = S.length * 2 := by simp
  have hs2 : ((numsS S).toArray).size = S.length * 2 := by simp [nums_len]
  simp only [Array.getElem_mapIdx, hs1, hs2]
  by_cases hk : 0 ≤ k ∧ k < 0 + S.length * 2
  · rw [if_pos hk, if_pos hk]
    exact flat_iv S (k - 0) (by omega)
  · rw [if_neg hk, if_neg hk]
theorem ltLo (x y : Spn) : ltOf (fun x y : Spn => Lib.compareInt x.1 y.1) x y = decide (x.1 < y.1) := by
  unfold ltOf Lib.compareInt
  by_cases h1 : x.1 < y.1
  · simp [h1]
  · by_cases h2 : y.1 < x.1 <;> simp [h1, h2]
theorem swoLo : SWO (ltOf fun x y : Spn => Lib.compareInt x.1 y.1) where
  irrefl x := by rw [ltLo]; simp
  trans x y z h1 h2 := by rw [ltLo] at *; simp at *; omega
  ntrans x y z h1 h2 := by rw [ltLo] at *; simp at *; omega
/-- What the library's sort makes of spans. -/
def pdqS (S : List Spn) : List Spn := (pdq (ltOf fun x y : Spn => Lib.compareInt x.1 y.1) S.toArray 0 S.length (Lib.bitLen S.length) true true).toList
def SpQ (S : List Spn) (cs : List AV) : Prop := cs = fl cSp (pdqS S)
theorem perm_of_in {α : Type} [Inhabited α] {S : List α} {d' : Array α} (h : PermIn 0 S.length S.toArray d') : d'.toList.Perm S := by
  obtain ⟨h1, _, h3⟩ := h
  have e1 : d'.extract 0 S.length = d' := by
    have : S.length = d'.size := by simpa using h1.symm
    rw [this]; simp
  have e2 : S.toArray.extract 0 S.length = S.toArray := by simp
  rw [e1, e2] at h3
  simpa using h3
theorem sorted_pw {α : Type} [Inhabited α] {lt : α → α → Bool} {d : Array α} (h : SortedIn lt 0 d.size d) : d.toList.Pairwise (fun a b => lt b a = false) := by
  rw [List.pairwise_iff_getElem]
  intro i j hi hj hij
  have hj' : j < d.size := by simpa using hj
  have := h i j (Nat.zero_le _) hij hj'
  rw [getElem!_pos d j hj', getElem!_pos d i (by omega)] at this
  simpa using this
theorem pdqS_facts (S : List Spn) : (pdqS S).Perm S ∧ (pdqS S).Pairwise (fun a b => a.1 ≤ b.1) := by
  have h := pdq_sorts (ltOf fun x y : Spn => Lib.compareInt x.1 y.1) swoLo S.toArray 0 S.length (Lib.bitLen S.length) true true (Nat.zero_le _) (by simp) (Or.inl rfl)
  have hp2 := perm_of_in h.1
  refine ⟨hp2, ?_⟩
  have hl2 := hp2.length_eq
  have hd : (pdq (ltOf fun x y : Spn => Lib.compareInt x.1 y.1) S.toArray 0 S.length (Lib.bitLen S.length) true true).size = S.length := by simpa using hl2
  have hso2 : SortedIn (ltOf fun x y : Spn => Lib.compareInt x.1 y.1) 0 (pdq (ltOf fun x y : Spn => Lib.compareInt x.1 y.1) S.toArray 0 S.length (Lib.bitLen S.length) true true).size (pdq (ltOf fun x y : Spn => Lib.compareInt x.1 y.1) S.toArray 0 S.length (Lib.bitLen S.length) true true) := by rw [hd]; exact h.2
  exact (sorted_pw hso2).imp fun {a b} q => by rw [ltLo] at q; have := of_decide_eq_false q; omega
end Go.Proofs.YtmllgnnhblhfeaaDoor
/-
  THE ORDER OF SETS, as the library's sort asks it.
-/
namespace Go.Proofs.YtmllgnnhblhfeaaDoor
open Go Go.Am Go.Shelf Go.RowKit Go.Lib Go.Sort
set_option maxRecDepth 100000
set_option maxHeartbeats 4000000
theorem ones64 (x : Fin 256) (W : World) : Calls Tryd.prog 88 #[.int .u64 (x.val : Int)] W fun e w' => e = .returned (.int .i64 (popD x.val : Int)) ∧ w' = W := by
  go_enter Tryd.func88, Tryd.ntmps88
  go_wp2
  go_ret
  refine ⟨?_, rfl⟩
  change Ending.returned (.int .i64 _) = _
  refine congrArg (fun n => Ending.returned (.int .i64 n)) ?_
  revert x
  decide +kernel
theorem ones (x : Fin 256) (W : World) : Calls Tryd.prog 75 #[.int .u64 (x.val : Int)] W fun e w' => e = .returned (.int .i64 (popD x.val : Int)) ∧ w' = W := by
  have h := ones64 x W
  change Calls Tryd.prog 88 _ _ _ at h
  generalize (popD x.val : Int) = r at h ⊢
  go_enter Tryd.func75, Tryd.ntmps75
  go_wp2_with (go_at_call 88; refine h.mono ?_; rintro e w' ⟨rfl, rfl⟩)
  go_ret
  exact ⟨rfl, rfl⟩
theorem or2 (x y r : Int) (b o : Nat) (W : World) (hx : W.cell? ⟨b, o, none⟩ = some (.int .i64 x)) (hy : W.cell? ⟨b, o + 1, none⟩ = some (.int .i64 y)) (h1 : x ≠ 0 → r = x) (h2 : x = 0 → r = y) : Calls Tryd.prog 73 #[.slice (some ⟨b, o, none⟩) 2 2] W fun e w' => e = .returned (.int .i64 r) ∧ w' = W := by
  go_enter Tryd.func73, Tryd.ntmps73
  go_wp2
  refine wp_loop_rounds 3 ?_
  unfold Code.rounds
  go_wp2
  · rename_i hc
    have e := h1 (by simpa using hc)
    go_ret
    exact ⟨by rw [e]; rfl, rfl⟩
  · rename_i hc
    have e0 : x = 0 := by simpa using hc
    unfold Code.rounds
    go_wp2
    · go_ret
      first | exact ⟨rfl, rfl⟩ | exact ⟨by rw [h2 e0]; rfl, rfl⟩
    · rename_i hd
      have e1 : y = 0 := by simpa using hd
      unfold Code.rounds
      go_wp2
      go_ret
      first | exact ⟨rfl, rfl⟩ | exact ⟨by rw [e1]; rfl, rfl⟩ | exact ⟨by rw [h2 e0, e1]; rfl, rfl⟩
/-- What the program's order answers. -/
def cfO (a b : Fin 256) : Int :=
  if popD a.val ≠ popD b.val then Lib.compareInt (popD a.val) (popD b.val)
  else let x := a.val ^^^ b.val; let m := x &&& ((256 - x) &&& 255); Lib.compareInt (b.val &&& m : Nat) (a.val &&& m : Nat)
theorem cmp_nat (p q : Nat) : decide (Lib.compareInt (p : Int) (q : Int) < 0) = decide (p < q) := by
  unfold Lib.compareInt
  by_cases h1 : p < q
  · rw [if_pos (by omega), decide_eq_true h1]; rfl
  · rw [if_neg (by omega), decide_eq_false h1]
    split <;> rfl
theorem cfO_lt (a b : Fin 256) : ltOf cfO a b = ordD a.val b.val := by
  unfold ltOf cfO ordD
  by_cases h : popD a.val ≠ popD b.val
  · rw [if_pos h, if_pos h]
    unfold Lib.compareInt
    by_cases h1 : popD a.val < popD b.val
    · rw [if_pos (by omega), decide_eq_true h1]; rfl
    · rw [if_neg (by omega), decide_eq_false h1]
      split <;> rfl
  · rw [if_neg h, if_neg h]
    exact cmp_nat _ _
theorem swoO : SWO (ltOf cfO) where
  irrefl x := by rw [cfO_lt]; exact ordD_ord.self x.val x.isLt
  trans x y z h1 h2 := by rw [cfO_lt] at *; exact ordD_ord.trans _ _ _ x.isLt y.isLt z.isLt h1 h2
  ntrans x y z h1 h2 := by
    rw [cfO_lt] at *
    cases h : ordD x.val z.val
    · rfl
    · exfalso
      cases h3 : ordD y.val x.val
      · have := ordD_ord.tot _ _ x.isLt y.isLt h1 h3
        rw [this, h2] at h; cases h
      · have := ordD_ord.trans _ _ _ y.isLt x.isLt z.isLt h3 h
        rw [this] at h2; cases h2
theorem bitsAnd {a b : Nat} (ha : a < 4096) (hb : b < 4096) : bits BinOp.and IntKind.i64 (a : Int) (b : Int) = ((a &&& b : Nat) : Int) := bAnd ha hb
theorem xor64 {a b : Nat} (ha : a < 4096) (hb : b < 4096) : (BitVec.ofInt 64 (a : Int) ^^^ BitVec.ofInt 64 (b : Int)).toNat = a ^^^ b := by
  rw [BitVec.ofInt_natCast, BitVec.ofInt_natCast, BitVec.toNat_xor, BitVec.toNat_ofNat, BitVec.toNat_ofNat, Nat.mod_eq_of_lt (by omega), Nat.mod_eq_of_lt (by omega)]
theorem bitsXor {a b : Nat} (ha : a < 4096) (hb : b < 4096) : bits BinOp.xor IntKind.i64 (a : Int) (b : Int) = ((a ^^^ b : Nat) : Int) := by
  have e : (BitVec.ofInt IntKind.i64.bits (a : Int) ^^^ BitVec.ofInt IntKind.i64.bits (b : Int)).toNat = a ^^^ b := xor64 ha hb
  have h : a ^^^ b < 4096 := Nat.xor_lt_two_pow (n := 12) ha hb
  show IntKind.i64.wrap (BitVec.ofInt IntKind.i64.bits (a : Int) ^^^ BitVec.ofInt IntKind.i64.bits (b : Int)).toNat = _
  rw [e]
  exact Am.wrap64 (by omega) (by omega)
theorem lowBit : ∀ x : Fin 256, bits BinOp.and IntKind.i64 (x.val : Int) (RowKit.wrap64 (-(x.val : Int))) = ((x.val &&& ((256 - x.val) &&& 255) : Nat) : Int) := by decide +kernel
theorem cmp_zero (p q : Nat) : Lib.compareInt (p : Int) (q : Int) = 0 ↔ p = q := by
  unfold Lib.compareInt
  by_cases h1 : p < q
  · rw [if_pos (by omega)]; constructor <;> intro h <;> omega
  · by_cases h2 : q < p
    · rw [if_neg (by omega), if_pos (by omega)]; constructor <;> intro h <;> omega
    · rw [if_neg (by omega), if_neg (by omega)]; constructor <;> intro h <;> omega
theorem cfO_or (a b : Fin 256) : (Lib.compareInt (popD a.val : Int) (popD b.val : Int) ≠ 0 → cfO a b = Lib.compareInt (popD a.val : Int) (popD b.val : Int)) ∧
    (Lib.compareInt (popD a.val : Int) (popD b.val : Int) = 0 → cfO a b = Lib.compareInt (bits BinOp.and IntKind.i64 (b.val : Int) (bits BinOp.and IntKind.i64 (bits BinOp.xor IntKind.i64 (a.val : Int) (b.val : Int)) (RowKit.wrap64 (-bits BinOp.xor IntKind.i64 (a.val : Int) (b.val : Int)))))
      (bits BinOp.and IntKind.i64 (a.val : Int) (bits BinOp.and IntKind.i64 (bits BinOp.xor IntKind.i64 (a.val : Int) (b.val : Int)) (RowKit.wrap64 (-bits BinOp.xor IntKind.i64 (a.val : Int) (b.val : Int)))))) := by
  have ha := a.isLt
  have hb := b.isLt
  have hx : a.val ^^^ b.val < 256 := Nat.xor_lt_two_pow (n := 8) ha hb
  have hm : (a.val ^^^ b.val) &&& ((256 - (a.val ^^^ b.val)) &&& 255) < 256 := Nat.lt_of_le_of_lt Nat.and_le_left hx
  have lb := lowBit ⟨a.val ^^^ b.val, hx⟩
  refine ⟨fun h => ?_, fun h => ?_⟩
  · unfold cfO
    rw [if_pos (fun q => h ((cmp_zero _ _).2 q))]
  · have hp := (cmp_zero _ _).1 h
    unfold cfO
    rw [if_neg (fun q => q hp), bitsXor (by omega) (by omega)]
    have lb2 : bits BinOp.and IntKind.i64 ((a.val ^^^ b.val : Nat) : Int) (RowKit.wrap64 (-((a.val ^^^ b.val : Nat) : Int))) = (((a.val ^^^ b.val) &&& ((256 - (a.val ^^^ b.val)) &&& 255) : Nat) : Int) := lb
    rw [lb2, bitsAnd (by omega) (by omega), bitsAnd (by omega) (by omega)]
theorem inOrder_calls (a b : Fin 256) (W : World) : Calls Tryd.prog 66 #[.int .i64 (a.val : Int), .int .i64 (b.val : Int)] W fun e w' => e = .returned (.int .i64 (cfO a b)) ∧ ∃ q os', w' = grow (W.drewN q) os' := by
  have o1 := fun W' => ones a W'
  have o2 := fun W' => ones b W'
  have c1 := fun W' => AnyG.cmp_Compare_int XcmpL (popD a.val : Int) (popD b.val : Int) W'
  have c2 := fun p q W' => AnyG.cmp_Compare_int XcmpL p q W'
  change ∀ W', Calls Tryd.prog 75 _ _ _ at o1
  change ∀ W', Calls Tryd.prog 75 _ _ _ at o2
  change ∀ W', Calls Tryd.prog 74 _ _ _ at c1
  change ∀ p q W', Calls Tryd.prog 74 _ _ _ at c2
  go_enter Tryd.func66, Tryd.ntmps66
  go_wp2_with (first | (go_at_call 75; refine (o1 _).mono ?_; rintro e w' ⟨rfl, rfl⟩) | (go_at_call 75; refine (o2 _).mono ?_; rintro e w' ⟨rfl, rfl⟩) | (go_at_call 74; refine (c2 _ _ _).mono ?_; rintro e w' ⟨rfl, rfl⟩))
  refine (or2 _ _ (cfO a b) _ 0 _ ((World.cell?_alloc_at _ _ _ 0 rfl).trans rfl) ((World.cell?_alloc_at _ _ _ 1 rfl).trans rfl) (fun h => ?_) (fun h => ?_)).mono ?_
  · exact (cfO_or a b).1 h
  · exact (cfO_or a b).2 h
  · rintro e w' ⟨rfl, rfl⟩
    go_wp2
    go_ret
    exact ⟨rfl, 0, _, by rw [alloc_eq_grow]; rfl⟩
end Go.Proofs.YtmllgnnhblhfeaaDoor
/-
  SETS OF MARKS, sorted; the Ids of a set.
-/
namespace Go.Proofs.YtmllgnnhblhfeaaDoor
open Go Go.Am Go.Shelf Go.RowKit Go.Lib Go.Sort
set_option maxRecDepth 100000
set_option maxHeartbeats 4000000
def toF (i : Nat) : Fin 256 := ⟨i % 256, Nat.mod_lt _ (by decide)⟩
def setsF (n : Nat) : List (Fin 256) := (List.range (2 ^ n)).map toF
def setsR (n : Nat) : List Int := (List.range (2 ^ n)).map fun (i : Nat) => (i : Int)
theorem setsF_val {n : Nat} (hn : n ≤ 8) : (setsF n).map (fun x => (x.val : Int)) = setsR n := by
  unfold setsF setsR
  rw [List.map_map]
  refine List.map_congr_left fun i hi => ?_
  have h1 := List.mem_range.1 hi
  have h2 : 2 ^ n ≤ 2 ^ 8 := Nat.pow_le_pow_right (by decide) hn
  have h3 : (2 : Nat) ^ 8 = 256 := by decide
  show ((i % 256 : Nat) : Int) = i
  rw [Nat.mod_eq_of_lt (by omega)]
theorem setsF_len (n : Nat) : (setsF n).length = 2 ^ n := by unfold setsF; rw [List.length_map, List.length_range]
theorem setsR_len (n : Nat) : (setsR n).length = 2 ^ n := by unfold setsR; rw [List.length_map, List.length_range]
/-- What the library's sort makes of the sets. -/
def setsP (n : Nat) : List (Fin 256) := (pdq (ltOf cfO) (setsF n).toArray 0 (setsF n).length (Lib.bitLen (setsF n).length) true true).toList
def setsN (n : Nat) : List Nat := (setsP n).map (·.val)
def setsI (n : Nat) : List Int := (setsN n).map fun (i : Nat) => (i : Int)
theorem setsP_facts (n : Nat) : (setsP n).Perm (setsF n) ∧ (setsP n).Pairwise (fun a b => ltOf cfO b a = false) := by
  have h := pdq_sorts (ltOf cfO) swoO (setsF n).toArray 0 (setsF n).length (Lib.bitLen (setsF n).length) true true (Nat.zero_le _) (by simp) (Or.inl rfl)
  have hp2 := perm_of_in h.1
  refine ⟨hp2, ?_⟩
  have hl2 := hp2.length_eq
  have hd : (pdq (ltOf cfO) (setsF n).toArray 0 (setsF n).length (Lib.bitLen (setsF n).length) true true).size = (setsF n).length := by simpa using hl2
  have hso2 : SortedIn (ltOf cfO) 0 (pdq (ltOf cfO) (setsF n).toArray 0 (setsF n).length (Lib.bitLen (setsF n).length) true true).size (pdq (ltOf cfO) (setsF n).toArray 0 (setsF n).length (Lib.bitLen (setsF n).length) true true) := by rw [hd]; exact h.2
  exact sorted_pw hso2
theorem setsN_facts {n : Nat} (hn : n ≤ 8) : (∀ a, a ∈ setsN n ↔ a < 2 ^ n) ∧ (setsN n).Pairwise (fun a b => ordD b a = false) := by
  obtain ⟨h1, h2⟩ := setsP_facts n
  have h8 : 2 ^ n ≤ 2 ^ 8 := Nat.pow_le_pow_right (by decide) hn
  have h9 : (2 : Nat) ^ 8 = 256 := by decide
  refine ⟨fun a => ?_, ?_⟩
  · unfold setsN
    rw [(h1.map _).mem_iff]
    unfold setsF
    rw [List.map_map, List.mem_map]
    constructor
    · rintro ⟨i, hi, rfl⟩
      have := List.mem_range.1 hi
      show i % 256 < 2 ^ n
      rw [Nat.mod_eq_of_lt (by omega)]; exact this
    · intro h
      exact ⟨a, List.mem_range.2 h, by show a % 256 = a; exact Nat.mod_eq_of_lt (by omega)⟩
  · unfold setsN
    rw [List.pairwise_map]
    exact h2.imp fun {a b} q => by rw [← cfO_lt]; exact q
theorem put_fin (w : World) (blk : Nat) (S : List (Fin 256)) : putRow (fun x : Fin 256 => Value.int .i64 (x.val : Int)) w blk 0 S.toArray = putRow (Value.int .i64) w blk 0 (S.map fun x => (x.val : Int)).toArray := by
  unfold putRow
  congr 1
  funext c
  unfold putCells
  refine Array.ext (by simp) fun k h1 h2 => ?_
  have hs2 : ((S.map fun x => (x.val : Int)).toArray).size = S.toArray.size := by simp
  simp only [Array.getElem_mapIdx, hs2]
  by_cases hk : 0 ≤ k ∧ k < 0 + S.toArray.size
  · rw [if_pos hk, if_pos hk]
    have hk2 : k < S.length := by have := hk.2; simpa using this
    simp [hk2]
  · rw [if_neg hk, if_neg hk]
theorem uniq_int : ∀ f, Tryd.prog.funcs[f]? = some Tryd.f65 → f = 65 := by
  intro f hf
  have hu : ((List.range Tryd.prog.funcs.size).all fun i => i == 65 || !((Tryd.prog.funcs[i]?).map (·.name) == some Tryd.f65.name)) = true := by kernel_rfl
  have hlt : f < Tryd.prog.funcs.size := by
    rcases Nat.lt_or_ge f Tryd.prog.funcs.size with h | h
    · exact h
    · rw [Array.getElem?_eq_none h] at hf; cases hf
  have := List.all_eq_true.1 hu f (List.mem_range.2 hlt)
  rw [hf] at this
  simpa using this
def SetQ (n : Nat) (cs : List AV) : Prop := cs = iL (setsI n)
theorem SortSet_mut {n N : Nat} (hn : n ≤ 8) (hN : N = 2 ^ n) : AMut Tryd.prog Tryd.f65 N 1 [.fn (.func 66) [] []] (iL (setsR n)) .undef (SetQ n) := by
  have hp0 : 0 < 2 ^ n := Nat.pow_pos (by decide)
  refine sorted_mut uniq_int (by rw [setsR_len, hN, Nat.mul_one]) (by rw [setsR_len]; exact hp0) fun w blk cap hH hblk => ?_
  have eg : ∀ args w, (callFunc 66 args).run Tryd.prog w = .ok (.enter 66 args) w := enters_of Tryd.func66 (by kernel_rfl) rfl
  have hHK : Holds (fun x : Fin 256 => Value.int .i64 (x.val : Int)) w blk 0 (setsF n).toArray := fun j hj => by
    have hj2 : j < (setsF n).length := by simpa using hj
    have := hH j (by rw [List.size_toArray, setsR_len, ← setsF_len]; exact hj2)
    refine ⟨?_, this.2⟩
    rw [this.1, ← setsF_val hn]
    simp [hj2]
  have hsz : (setsF n).toArray.size = 2 ^ n := by simp [setsF_len]
  have h8 : 2 ^ n ≤ 2 ^ 8 := Nat.pow_le_pow_right (by decide) hn
  have h9 : (2 : Nat) ^ 8 = 256 := by decide
  have hcon := Any.slices_SortFunc_eq XintsL (fun x : Fin 256 => Value.int .i64 (x.val : Int)) (fun _ => rfl) cfO swoO 66 #[] blk 0 cap (setsF n).toArray w eg (fun _ _ _ _ x y => inOrder_calls x y _) hHK hblk (by rw [hsz]; omega)
  rw [hsz] at hcon
  rw [hN]
  refine hcon.mono ?_
  rintro e w' ⟨rfl, m, os, rfl⟩
  have hl2 : (setsP n).length = 2 ^ n := by rw [(setsP_facts n).1.length_eq, setsF_len]
  refine ⟨rfl, setsI n, m, os, by unfold setsI setsN; rw [List.length_map, List.length_map, hl2, setsR_len], rfl, ?_⟩
  unfold sortWorld
  have := put_fin (Sort.ahead w m) blk (setsP n)
  unfold setsP at this
  rw [Array.toArray_toList, setsF_len] at this
  rw [this]
  unfold setsI setsN setsP
  rw [List.map_map, setsF_len]; rfl
end Go.Proofs.YtmllgnnhblhfeaaDoor
/-
  THE FIRST TRUTH OF A ROOM AND A MINUTE: Truth.
-/
namespace Go.Proofs.YtmllgnnhblhfeaaDoor
open Go Go.Am
set_option maxRecDepth 100000
set_option maxHeartbeats 4000000
def encTv (o : Option (List Int)) : AV := match o with
  | none => .tup [.nil, .bool false]
  | some ds => .tup [encR ds, .bool true]
theorem set_lt {s : Scn} (hs : ScOk s) : allN s < 4096 := by
  have p8 : 2 ^ s.marks.length ≤ 2 ^ 8 := Nat.pow_le_pow_right (by decide) hs.ml
  have : (2 : Nat) ^ 8 = 256 := by decide
  unfold allN; omega
/-- What is answered, nil as a list of nothing. -/
theorem VRel.tupNil {κ : Nat → Option Nat} {av : Nat → Prop} {w : World} {v : Value} {n : Nat} {x : AV} (h : VRel κ av w (.tup [.nil, x]) v) : VRel κ av w (.tup [.lst n [], x]) v := by
  cases h with
  | tup cells vs u hl h1 h2 =>
    refine .tup _ vs u hl ?_ ?_
    · intro i c hc
      cases i with
      | zero => exact h1 0 .nil rfl
      | succ i => exact h1 (i + 1) c hc
    · intro i c hc
      cases i with
      | zero => cases hc; exact VRel.nilLst (h2 0 .nil rfl)
      | succ i => exact h2 (i + 1) c hc
theorem APure.weak {P : Program} {f : FuncId} {args : List AV} {r r' : AV} (h : APure P f args r) (hr : ∀ {κ : Nat → Option Nat} {av : Nat → Prop} {w : World} {v : Value}, VRel κ av w r v → VRel κ av w r' v) : APure P f args r' := fun κ N w cargs hN hg hc =>
  (h κ N w cargs hN hg hc).mono fun _e _w' ⟨v, h1, h2, h3, h4⟩ => ⟨v, h1, h2, h3, hr h4⟩
def encLe (L : List Int) (E : Int) : AV := .tup [encR L, .int .i64 E]
theorem rm_0 {s : Scn} {room : Int} (h : rmE s room = 0) : scB s = true ∧ isR s.rooms room = true := by
  unfold rmE at h
  split at h
  · rename_i h1
    split at h
    · rename_i h2; exact ⟨h1, h2⟩
    · cases h
  · cases h
theorem rm_nat {s : Scn} (hs : ScOk s) {room : Int} (h : isR s.rooms room = true) : room = (room.toNat : Int) ∧ room.toNat < nR s := by
  have := inB_iff.1 h
  have := nR_eq hs
  omega
end Go.Proofs.YtmllgnnhblhfeaaDoor
/-
  THE FEWEST MARKS: Why, Against.
-/
namespace Go.Proofs.YtmllgnnhblhfeaaDoor
open Go Go.Am
set_option maxRecDepth 100000
set_option maxHeartbeats 4000000
def idsK (s : Scn) (set i : Nat) : List Int := (pickS (s.marks.take i) set).map (·.id)
theorem idsK_no {s : Scn} {set i : Nat} {m : Mk} (h : s.marks[i]? = some m) (hb : set.testBit i = false) : idsK s set (i + 1) = idsK s set i := by
  unfold idsK; rw [pick_take h, hb]; simp
theorem idsK_yes {s : Scn} {set i : Nat} {m : Mk} (h : s.marks[i]? = some m) (hb : set.testBit i = true) : idsK s set (i + 1) = idsK s set i ++ [m.id] := by
  unfold idsK; rw [pick_take h, hb]; simp
theorem idsK_len (s : Scn) (set i : Nat) : (idsK s set i).length ≤ s.marks.length := by
  unfold idsK
  rw [List.length_map]
  exact Nat.le_trans (pick_sub set _).length_le (by rw [List.length_take]; omega)
theorem ids_spec (s : Scn) (crs : List Crs) (hml : s.marks.length ≤ 8) (set : Nat) (hset : set < 4096) : APureF Tryd.prog 59 [encX s crs, .int .i64 (set : Int)] (encR (idsP s set)) := by
  refine APureF.vcM Tryd.func59 .loop (by kernel_rfl) rfl ?_
  intro g hn hlo
  replace hn : g.n = 29 := hn
  replace hlo : g.low 0 := hlo
  refine acode_whileW (fun i : Nat => ⟨[(1, .int .i64 (set : Int)), (5, .rsl 1 0 (idsK s set i).length 1), (10, encMs s.marks), (11, .int .i64 (s.marks.map cMk).length), (12, .int .i64 i)], [(1, .cells (iL (idsK s set i)))], 2⟩) (fun i => i ≤ s.marks.length) (fun i => s.marks.length - i) 0 (Nat.zero_le _) ?_ ?_
  · refine Wk.trans (Wk.le ?_ (hlo.mono (show 0 ≤ 2 by decide))) (Wk.own 5 1 (by kernel_rfl))
    exact St.le.of ⟨by kernel_rfl, rfl, by kernel_rfl, rfl, by kernel_rfl, rfl, by kernel_rfl, rfl, by kernel_rfl, rfl, trivial⟩ ⟨by kernel_rfl, (by decide : (1 : Nat) < 2), rfl, trivial⟩
  · intro i hi
    replace hi : i ≤ s.marks.length := hi
    by_cases hlt : i < s.marks.length
    · refine Exists.elim (getE hlt) fun m hmi => ?_
      have ek := congrArg (AV.int .i64) (succ64 (k := i) (by omega))
      have sh := bShlO (k := i) (by omega)
      have hb := bHas (S := set) (i := i) hset (by omega)
      have hil := idsK_len s set i
      refine (Bool.eq_false_or_eq_true (set.testBit i)).symm.elim (fun hbit => ?_) (fun hbit => ?_)
      · rw [hbit] at hb
        have es := idsK_no hmi hbit
        have e5 : AV.rsl 1 0 (idsK s set i).length 1 = .rsl 1 0 (idsK s set (i + 1)).length 1 := by rw [es]
        have o1 : some (AObj.cells (iL (idsK s set i))) = some (.cells (iL (idsK s set (i + 1)))) := by rw [es]
        exact ACode.vcM (.br 13 true <| .cells (cMk m) <| .val 19 (.int .i64 ((2 ^ i : Nat) : Int)) [] <| .br 21 false .nil) hn hlo (.roundW .cl) ⟨ltLen hlt, idx hmi, Eq.trans (by kernel_rfl) sh, hb, i + 1, hlt, mu1 hlt, Wk.le (St.le.of ⟨by kernel_rfl, rfl, Eq.trans (by kernel_rfl) e5, rfl, by kernel_rfl, rfl, by kernel_rfl, rfl, Eq.trans (by kernel_rfl) ek, rfl, trivial⟩ ⟨Eq.trans (by kernel_rfl) o1, (by decide : (1 : Nat) < 2), iL_ok _ _, trivial⟩) (hlo.mono (show 0 ≤ 2 by decide))⟩
      · rw [hbit] at hb
        have es := idsK_yes hmi hbit
        have el : (idsK s set (i + 1)).length = (idsK s set i).length + 1 := by rw [es]; simp
        have ap := app_one (h := hget [(1, .cells (iL (idsK s set i))), (4, .cells [.int .i64 m.id])]) (i := 1) (j := 4) (nid := 5) (l := idsK s set i) (x := m.id) rfl rfl (by omega)
        rw [← es, ← el] at ap
        exact ACode.vcM (.br 13 true <| .cells (cMk m) <| .val 19 (.int .i64 ((2 ^ i : Nat) : Int)) [] <| .br 21 true <| .val 26 (.rsl 5 0 (idsK s set (i + 1)).length 1) [(1, none), (5, some (.cells (iL (idsK s set (i + 1)))))] .nil) hn hlo (.roundW .cl) ⟨ltLen hlt, idx hmi, Eq.trans (by kernel_rfl) sh, hb, Eq.trans (by kernel_rfl) ap, i + 1, hlt, mu1 hlt,
          Wk.ren (c := 1) (b := 5) (St.ren.of rfl (by decide) ⟨.inl ⟨by kernel_rfl, rfl⟩, .inr ⟨_, _, _, rfl, by kernel_rfl⟩, .inl ⟨by kernel_rfl, rfl⟩, .inl ⟨by kernel_rfl, rfl⟩, .inl ⟨Eq.trans (by kernel_rfl) ek, rfl⟩, trivial⟩ ⟨.inr ⟨rfl, by kernel_rfl, _, rfl, iL_ok _ _⟩, trivial⟩) (hlo.mono (show 0 ≤ 1 by decide))⟩
    · have hall : idsK s set i = idsP s set := by unfold idsK idsP; rw [List.take_of_length_le (by omega)]
      have th := fun (h : Nat → Option AObj) (hh : h 1 = some (.cells (iL (idsK s set i)))) => (show thawF 8 h (.rsl 1 0 (idsK s set i).length 1) = some (encR (idsP s set), [1]) by
        rw [hall] at hh ⊢; exact thawF_ints 6 hh)
      exact ACode.vcM (.br 13 false .nil) hn hlo (.roundW .cl) ⟨geLen hlt, _, .refl _, .nil, [1], th _ (by kernel_rfl)⟩
theorem setsR_take (n k : Nat) (hk : k < 2 ^ n) : (setsR n).take (k + 1) = (setsR n).take k ++ [(k : Int)] := by
  refine take_snoc ?_
  unfold setsR
  rw [List.getElem?_map, List.getElem?_range hk]; rfl
theorem sets_spec (s : Scn) (crs : List Crs) (hml : s.marks.length ≤ 8) : APureF Tryd.prog 58 [encX s crs] (encR (setsI s.marks.length)) := by
  have sh := bShlO (k := s.marks.length) (by omega)
  have hlen : ((s.marks.map cMk).length : Int) = (s.marks.length : Int) := by rw [List.length_map]
  rw [← hlen] at sh
  have mutC := SortSet_mut (n := s.marks.length) (N := 2 ^ s.marks.length) hml rfl
  have h8 : 2 ^ s.marks.length ≤ 2 ^ 8 := Nat.pow_le_pow_right (by decide) hml
  have h9 : (2 : Nat) ^ 8 = 256 := by decide
  have hRl := setsR_len s.marks.length
  have hIl : (setsI s.marks.length).length = 2 ^ s.marks.length := by unfold setsI setsN; rw [List.length_map, List.length_map, (setsP_facts _).1.length_eq, setsF_len]
  have hT := setsR_take s.marks.length
  generalize hR : setsR s.marks.length = R at *
  generalize hI : setsI s.marks.length = I at *
  have mutQ : ∀ cs, SetQ s.marks.length cs → cs = iL I := fun cs h => by rw [← hI]; exact h
  generalize 2 ^ s.marks.length = z at *
  refine APureF.vcM Tryd.func58 (.val 9 (.int .i64 (z : Int)) [] .loop) (by kernel_rfl) rfl ⟨Eq.trans (by kernel_rfl) sh, ?_⟩
  intro g hn hlo
  replace hn : g.n = 21 := hn
  replace hlo : g.low 0 := hlo
  refine acode_whileW (fun k : Nat => ⟨[(3, .rsl 1 0 (R.take k).length 1), (9, .int .i64 (z : Int)), (10, .int .i64 k)], [(1, .cells (iL (R.take k)))], 2⟩) (fun k => k ≤ z) (fun k => z - k) 0 (Nat.zero_le _) ?_ ?_
  · refine Wk.trans (Wk.le ?_ (hlo.mono (show 0 ≤ 2 by decide))) (Wk.own 3 1 (by kernel_rfl))
    exact St.le.of ⟨by kernel_rfl, rfl, by kernel_rfl, rfl, by kernel_rfl, rfl, trivial⟩ ⟨by kernel_rfl, (by decide : (1 : Nat) < 2), rfl, trivial⟩
  · intro k hk
    replace hk : k ≤ z := hk
    by_cases hlt : k < z
    · have ek := congrArg (AV.int .i64) (succ64 (k := k) (by omega))
      have es := hT k hlt
      have el : (R.take (k + 1)).length = (R.take k).length + 1 := by rw [es]; simp
      have c : decide ((k : Int) < (z : Int)) = true := decide_eq_true (by omega)
      have ap := app_one (h := hget [(1, .cells (iL (R.take k))), (2, .cells [.int .i64 (k : Int)])]) (i := 1) (j := 2) (nid := 3) (l := R.take k) (x := (k : Int)) rfl rfl (by rw [List.length_take]; omega)
      rw [← es, ← el] at ap
      exact ACode.vcM (.br 11 true <| .val 16 (.rsl 3 0 (R.take (k + 1)).length 1) [(1, none), (3, some (.cells (iL (R.take (k + 1)))))] .nil) hn hlo (.roundW .cl) ⟨c, Eq.trans (by kernel_rfl) ap, k + 1, hlt, mu1 hlt,
        Wk.ren (c := 1) (b := 3) (St.ren.of rfl (by decide) ⟨.inr ⟨_, _, _, rfl, by kernel_rfl⟩, .inl ⟨by kernel_rfl, rfl⟩, .inl ⟨Eq.trans (by kernel_rfl) ek, rfl⟩, trivial⟩ ⟨.inr ⟨rfl, by kernel_rfl, _, rfl, iL_ok _ _⟩, trivial⟩) (hlo.mono (show 0 ≤ 1 by decide))⟩
    · have c : decide ((k : Int) < (z : Int)) = false := decide_eq_false (by omega)
      have hall : R.take k = R := List.take_of_length_le (by omega)
      have mut2 : AMut Tryd.prog Tryd.f65 (R.take k).length 1 [.fn (.func 66) [] []] (iL (R.take k)) .undef (SetQ s.marks.length) := by rw [hall, hRl]; exact mutC
      have th := fun (cs' : List AV) (hQ : SetQ s.marks.length cs') (h : Nat → Option AObj) (hh : h 1 = some (.cells cs')) => (show thawF 8 h (.rsl 1 0 (R.take k).length 1) = some (encR I, [1]) by
        rw [mutQ cs' hQ] at hh
        have := thawF_ints 6 hh
        rw [hIl] at this
        rw [hall, hRl]; exact this)
      exact ACode.vcM (.br 11 false .nil) hn hlo (.roundW .cl) ⟨c, _, .refl _, .inl Tryd.f65 <| .nz .nil, Tryd.func65,
        AMut.use (id := 1) mut2 rfl rfl (iL_ok 0 _) (fun _ h => (mutQ _ h).symm ▸ iL_ok 0 _) (by kernel_rfl) fun cs' hQ => ⟨[1], th cs' hQ _ (by kernel_rfl)⟩⟩
theorem valuesI_spec (l : List Int) : APure Tryd.prog 57 [encR l] (.fn (.func 64) [] [.cptr [encR l]]) :=
  APure.vcM Tryd.func57 .nil rfl rfl ⟨[0], by kernel_rfl⟩
/-! ### which sets exclude -/
theorem exAll_spec (s : Scn) (hs : ScOk s) (set : Nat) (hset : set < 4096) : APure Tryd.prog 37 [encX s (crsP s), .int .i64 (set : Int)] (.bool (exAll s set)) := by
  have hn6 := nR_eq hs
  have hlt := fun a => (lt_rooms hs (a := a)).1
  have hge := fun a => (lt_rooms hs (a := a)).2
  have hX := cX_ok s (crsP s)
  refine APure.vc Tryd.func37 rfl .loop (by kernel_rfl) rfl ?_
  intro g hn hl
  replace hn : g.n = 18 := hn
  replace hl : g.low 0 := hl
  refine acode_while (fun r : Nat => ⟨[(1, .int .i64 (set : Int)), (2, .vptr 0 0), (8, .int .i64 s.rooms), (9, .int .i64 r)], [(0, .cells (cXa s (encCs (crsP s))))], 1⟩) (fun r => r ≤ nR s ∧ ∀ x, x < r → exB s x set = true) (fun r => nR s - r) 0 ⟨Nat.zero_le _, fun x h => absurd h (Nat.not_lt_zero _)⟩ ?_ (fun _ _ => hl.mono (Nat.zero_le _)) ?_
  · exact St.le.of ⟨by kernel_rfl, rfl, by kernel_rfl, rfl, by kernel_rfl, rfl, by kernel_rfl, rfl, trivial⟩ ⟨by kernel_rfl, (by decide : (0 : Nat) < 1), (by kernel_rfl), trivial⟩
  · rintro r ⟨hr1, hr2⟩
    replace hr1 : r ≤ nR s := hr1
    by_cases hl2 : r < nR s
    · have ek := congrArg (AV.int .i64) (succ64 (k := r) (by omega))
      have e := excludes_spec s hs r set hl2 hset
      refine (Bool.eq_false_or_eq_true (exB s r set)).symm.elim (fun hb => ?_) (fun hb => ?_)
      · rw [hb] at e
        have hf : false = exAll s set := by
          unfold exAll
          exact (List.all_eq_false.2 ⟨r, List.mem_range.2 hl2, by rw [hb]; decide⟩).symm
        exact ACode.vc (.br 10 true <| .val 12 (encX s (crsP s)) [] <| .call (.bool false) .nil) hn hl (.round .cl) ⟨hlt r hl2, by kernel_rfl, e, _, .refl _, .nil, rB hf⟩
      · rw [hb] at e
        exact ACode.vc (.br 10 true <| .val 12 (encX s (crsP s)) [] <| .call (.bool true) .nil) hn hl (.round .cl) ⟨hlt r hl2, by kernel_rfl, e, r + 1, ⟨hl2, fun x hx => by
            rcases Nat.lt_or_ge x r with q | q
            · exact hr2 x q
            · have : x = r := by omega
              rw [this]; exact hb⟩, mu1 hl2,
          St.le.of ⟨by kernel_rfl, rfl, by kernel_rfl, rfl, by kernel_rfl, rfl, Eq.trans (by kernel_rfl) ek, rfl, trivial⟩ ⟨by kernel_rfl, (by decide : (0 : Nat) < 1), (by kernel_rfl), trivial⟩⟩
    · have hf : true = exAll s set := by
        unfold exAll
        exact (List.all_eq_true.2 fun x hx => hr2 x (by have := List.mem_range.1 hx; omega)).symm
      exact ACode.vc (.br 10 false .nil) hn hl (.round .cl) ⟨hge r hl2, _, .refl _, .nil, rB hf⟩
theorem why1_spec (s : Scn) (hs : ScOk s) (room set : Nat) (hroom : room < nR s) (hset : set < 4096) : APure Tryd.prog 29 [.int .i64 (set : Int), .cptr (cXa s (encCs (crsP s))), .cptr [.int .i64 (room : Int)]] (.bool (exB s room set)) := by
  have e := excludes_spec s hs room set hroom hset
  exact APure.vc Tryd.func29 rfl (.val 5 (encX s (crsP s)) [] <| .call (.bool (exB s room set)) .nil) (by kernel_rfl) rfl ⟨by kernel_rfl, e, rB rfl⟩
def encFd (o : Option Nat) : AV := match o with
  | none => .tup [.int .i64 0, .bool false]
  | some n => .tup [.int .i64 (n : Int), .bool true]
def encFw (o : Option (List Int)) : AV := match o with
  | none => .tup [.nil, .bool false]
  | some l => .tup [encR l, .bool true]
noncomputable def asgI : Code := rfA Tryd.f56
noncomputable def bodI : Code := rfB Tryd.f56

theorem firstW_spec (s : Scn) (hs : ScOk s) (room : Nat) (hroom : room < nR s) (l : List Nat) (hl4 : ∀ x ∈ l, x < 4096) (hll : l.length ≤ 1000) :
    APure Tryd.prog 56 [.fn (.func 64) [] [.cptr [encR (l.map fun (i : Nat) => (i : Int))]], .fn (.func 29) [] [.cptr (cXa s (encCs (crsP s))), .cptr [.int .i64 (room : Int)]]] (encFd (l.find? (exB s room))) := by
  have hX := cX_ok s (crsP s)
  have hres : (encFd (l.find? (exB s room))).ok 0 = true := by cases l.find? (exB s room) <;> rfl
  refine APure.vcM Tryd.func56 (.inl Tryd.f64 .loop) (by kernel_rfl) hres ⟨Tryd.func64, ?_⟩
  intro g hn hlo
  replace hn : g.n = 16 := hn
  replace hlo : g.low 4 := hlo
  refine acode_whileW (fun k : Nat => ⟨[(0, .yld 3), (1, .cptr [encR (l.map fun (i : Nat) => (i : Int))]), (5, encR (l.map fun (i : Nat) => (i : Int))), (6, .int .i64 ((l.map fun (i : Nat) => (i : Int)).map encI).length), (7, .int .i64 k)], [(0, .cells [.fn (.func 29) [] [.cptr (cXa s (encCs (crsP s))), .cptr [.int .i64 (room : Int)]]]), (1, .cells [.int .i64 0]), (2, .cells [.bool false]), (3, .loop ⟨.ready, none, 14, [(3, .vptr 0 0), (4, .vptr 1 0), (5, .vptr 2 0)], #[8], asgI, bodI⟩)], 4⟩) (fun k => k ≤ l.length ∧ ∀ x ∈ l.take k, exB s room x = false) (fun k => l.length - k) 0 ⟨Nat.zero_le _, fun x hx => by simp at hx⟩ ?_ ?_
  · refine Wk.trans (Wk.le ?_ (hlo.mono (show 4 ≤ 4 by decide))) (Wk.loopEnv (id := 3) (n := 4) [(3, .vptr 0 0), (4, .vptr 1 0), (5, .vptr 2 0)] rfl ⟨rfl, rfl, rfl, rfl, rfl, rfl, trivial⟩)
    exact St.le.of ⟨by kernel_rfl, rfl, by kernel_rfl, rfl, by kernel_rfl, rfl, by kernel_rfl, rfl, by kernel_rfl, rfl, trivial⟩ ⟨by kernel_rfl, (by decide : (0 : Nat) < 4), (by kernel_rfl), by kernel_rfl, (by decide : (1 : Nat) < 4), rfl, by kernel_rfl, (by decide : (2 : Nat) < 4), rfl, by kernel_rfl, (by decide : (3 : Nat) < 4), (by kernel_rfl), trivial⟩
  · rintro k ⟨hk1, hall⟩
    replace hk1 : k ≤ l.length := hk1
    by_cases hlt : k < l.length
    · refine Exists.elim (getE hlt) fun x hx => ?_
      have hx2 : (l.map fun (i : Nat) => (i : Int))[k]? = some (x : Int) := by rw [List.getElem?_map, hx]; rfl
      have hlt2 : k < (l.map fun (i : Nat) => (i : Int)).length := by rw [List.length_map]; exact hlt
      have ek := congrArg (AV.int .i64) (succ64 (k := k) (by omega))
      have e := why1_spec s hs room x hroom (hl4 x (List.mem_of_getElem? hx))
      refine (Bool.eq_false_or_eq_true (exB s room x)).symm.elim (fun hb => ?_) (fun hb => ?_)
      · rw [hb] at e
        have hall2 : ∀ y ∈ l.take (k + 1), exB s room y = false := fun y hy => by
          rw [take_snoc hx] at hy
          rcases List.mem_append.1 hy with hy | hy
          · exact hall y hy
          · rw [List.mem_singleton] at hy; subst hy; exact hb
        exact ACode.vcM (.br 8 true <| .cells (encI (x : Int)) <| .call (.bool false) .nil) hn hlo (.roundW .cl) ⟨ltLen hlt2, idx hx2, e, k + 1, ⟨hlt, hall2⟩, mu1 hlt,
          Wk.le (St.le.of ⟨by kernel_rfl, rfl, by kernel_rfl, rfl, by kernel_rfl, rfl, by kernel_rfl, rfl, Eq.trans (by kernel_rfl) ek, rfl, trivial⟩ ⟨by kernel_rfl, (by decide : (0 : Nat) < 4), (by kernel_rfl), by kernel_rfl, (by decide : (1 : Nat) < 4), rfl, by kernel_rfl, (by decide : (2 : Nat) < 4), rfl, by kernel_rfl, (by decide : (3 : Nat) < 4), (by kernel_rfl), trivial⟩) (hlo.mono (show 4 ≤ 4 by decide))⟩
      · rw [hb] at e
        have he : some (AV.tup [.int .i64 (x : Int), .bool true], ([] : List Nat)) = some (encFd (l.find? (exB s room)), []) := by
          have hsp : l = l.take k ++ x :: l.drop (k + 1) := by rw [← drop_cons hx, List.take_append_drop]
          have hfd : l.find? (exB s room) = some x := by
            rw [hsp, List.find?_append, List.find?_eq_none.2 (fun t ht => by rw [hall t ht]; decide), Option.none_or]
            simp [hb]
          rw [hfd]; rfl
        exact ACode.vcM (.br 8 true <| .cells (encI (x : Int)) <| .call (.bool true) .nil) hn hlo (.roundW .cl) ⟨ltLen hlt2, idx hx2, e, _, .refl _, .nil, [], Eq.trans (by kernel_rfl) he⟩
    · have hlt2 : ¬ k < (l.map fun (i : Nat) => (i : Int)).length := by rw [List.length_map]; exact hlt
      have hall' : l.take k = l := List.take_of_length_le (by omega)
      have he : some (AV.tup [.int .i64 0, .bool false], ([] : List Nat)) = some (encFd (l.find? (exB s room)), []) := by
        rw [hall'] at hall
        rw [List.find?_eq_none.2 (fun t ht => by rw [hall t ht]; decide)]; rfl
      exact ACode.vcM (.br 8 false .nil) hn hlo (.roundW .cl) ⟨geLen hlt2, _, .refl _, .nil, [], Eq.trans (by kernel_rfl) he⟩
theorem fewW_spec (s : Scn) (hs : ScOk s) (room : Nat) (hroom : room < nR s) : APure Tryd.prog 28 [encX s (crsP s), .fn (.func 29) [] [.cptr (cXa s (encCs (crsP s))), .cptr [.int .i64 (room : Int)]]] (encFw (fewP s (exB s room))) := by
  have hml := hs.ml
  have hall := set_lt hs
  have a := all_spec s (crsP s) hml
  have st := (sets_spec s (crsP s) hml).pure
  have hX := cX_ok s (crsP s)
  obtain ⟨f1, f2⟩ := setsN_facts hml
  have h8 : 2 ^ s.marks.length ≤ 2 ^ 8 := Nat.pow_le_pow_right (by decide) hml
  have h9 : (2 : Nat) ^ 8 = 256 := by decide
  have p1 : 0 < 2 ^ s.marks.length := Nat.pow_pos (by decide)
  have en : allN s + 1 = 2 ^ s.marks.length := by unfold allN; omega
  have e := (fun x => why1_spec s hs room x hroom) (allN s) hall
  have vI := valuesI_spec (setsI s.marks.length)
  have fs := firstW_spec s hs room hroom (setsN s.marks.length) (fun x hx => by have := (f1 x).1 hx; omega) (by unfold setsN; rw [List.length_map, (setsP_facts _).1.length_eq, setsF_len]; omega)
  unfold fewP
  cases hp : exB s room (allN s)
  · have e : APure Tryd.prog _ _ (.bool false) := hp ▸ e
    exact APure.vc Tryd.func28 rfl (.val 9 (encX s (crsP s)) [] <| .call (.int .i64 ((allN s : Nat) : Int)) <| .call (.bool false) .nil) (by kernel_rfl) rfl ⟨by kernel_rfl, a, e, trivial, by kernel_rfl⟩
  · have e : APure Tryd.prog _ _ (.bool true) := hp ▸ e
    have fb := find_best (n := allN s) (ordD_ord.le (show allN s + 1 ≤ 256 by omega)) hp (l := setsN s.marks.length) (fun x => by rw [f1 x, en]) f2
    rw [fb] at fs
    have hbm := (best_min (ordD_ord.le (show allN s + 1 ≤ 256 by omega)) hp).1
    have idc := (ids_spec s (crsP s) hml (bestN ordD (exB s room) (allN s) (allN s)) (by omega)).pure
    generalize bestN ordD (exB s room) (allN s) (allN s) = B at *
    exact APure.vc Tryd.func28 rfl (.val 9 (encX s (crsP s)) [] <| .call (.int .i64 ((allN s : Nat) : Int)) <| .call (.bool true) <| .val 14 (encX s (crsP s)) [] <| .call (encR (setsI s.marks.length)) <| .call (.fn (.func 64) [] [.cptr [encR (setsI s.marks.length)]]) <| .call (.tup [.int .i64 (B : Int), .bool true]) <| .val 21 (encX s (crsP s)) [] <| .call (encR (idsP s B)) .nil) (by kernel_rfl) rfl
      ⟨by kernel_rfl, a, e, by kernel_rfl, st, vI, fs, by kernel_rfl, idc, trivial, by kernel_rfl⟩

theorem firstA_spec (s : Scn) (hs : ScOk s)  (l : List Nat) (hl4 : ∀ x ∈ l, x < 4096) (hll : l.length ≤ 1000) :
    APure Tryd.prog 56 [.fn (.func 64) [] [.cptr [encR (l.map fun (i : Nat) => (i : Int))]], .fn (.func 37) [encX s (crsP s)] []] (encFd (l.find? (exAll s))) := by
  have hX := cX_ok s (crsP s)
  have hres : (encFd (l.find? (exAll s))).ok 0 = true := by cases l.find? (exAll s) <;> rfl
  refine APure.vcM Tryd.func56 (.inl Tryd.f64 .loop) (by kernel_rfl) hres ⟨Tryd.func64, ?_⟩
  intro g hn hlo
  replace hn : g.n = 16 := hn
  replace hlo : g.low 4 := hlo
  refine acode_whileW (fun k : Nat => ⟨[(0, .yld 3), (1, .cptr [encR (l.map fun (i : Nat) => (i : Int))]), (5, encR (l.map fun (i : Nat) => (i : Int))), (6, .int .i64 ((l.map fun (i : Nat) => (i : Int)).map encI).length), (7, .int .i64 k)], [(0, .cells [.fn (.func 37) [encX s (crsP s)] []]), (1, .cells [.int .i64 0]), (2, .cells [.bool false]), (3, .loop ⟨.ready, none, 14, [(3, .vptr 0 0), (4, .vptr 1 0), (5, .vptr 2 0)], #[8], asgI, bodI⟩)], 4⟩) (fun k => k ≤ l.length ∧ ∀ x ∈ l.take k, exAll s x = false) (fun k => l.length - k) 0 ⟨Nat.zero_le _, fun x hx => by simp at hx⟩ ?_ ?_
  · refine Wk.trans (Wk.le ?_ (hlo.mono (show 4 ≤ 4 by decide))) (Wk.loopEnv (id := 3) (n := 4) [(3, .vptr 0 0), (4, .vptr 1 0), (5, .vptr 2 0)] rfl ⟨rfl, rfl, rfl, rfl, rfl, rfl, trivial⟩)
    exact St.le.of ⟨by kernel_rfl, rfl, by kernel_rfl, rfl, by kernel_rfl, rfl, by kernel_rfl, rfl, by kernel_rfl, rfl, trivial⟩ ⟨by kernel_rfl, (by decide : (0 : Nat) < 4), (by kernel_rfl), by kernel_rfl, (by decide : (1 : Nat) < 4), rfl, by kernel_rfl, (by decide : (2 : Nat) < 4), rfl, by kernel_rfl, (by decide : (3 : Nat) < 4), (by kernel_rfl), trivial⟩
  · rintro k ⟨hk1, hall⟩
    replace hk1 : k ≤ l.length := hk1
    by_cases hlt : k < l.length
    · refine Exists.elim (getE hlt) fun x hx => ?_
      have hx2 : (l.map fun (i : Nat) => (i : Int))[k]? = some (x : Int) := by rw [List.getElem?_map, hx]; rfl
      have hlt2 : k < (l.map fun (i : Nat) => (i : Int)).length := by rw [List.length_map]; exact hlt
      have ek := congrArg (AV.int .i64) (succ64 (k := k) (by omega))
      have e := exAll_spec s hs x (hl4 x (List.mem_of_getElem? hx))
      refine (Bool.eq_false_or_eq_true (exAll s x)).symm.elim (fun hb => ?_) (fun hb => ?_)
      · rw [hb] at e
        have hall2 : ∀ y ∈ l.take (k + 1), exAll s y = false := fun y hy => by
          rw [take_snoc hx] at hy
          rcases List.mem_append.1 hy with hy | hy
          · exact hall y hy
          · rw [List.mem_singleton] at hy; subst hy; exact hb
        exact ACode.vcM (.br 8 true <| .cells (encI (x : Int)) <| .call (.bool false) .nil) hn hlo (.roundW .cl) ⟨ltLen hlt2, idx hx2, e, k + 1, ⟨hlt, hall2⟩, mu1 hlt,
          Wk.le (St.le.of ⟨by kernel_rfl, rfl, by kernel_rfl, rfl, by kernel_rfl, rfl, by kernel_rfl, rfl, Eq.trans (by kernel_rfl) ek, rfl, trivial⟩ ⟨by kernel_rfl, (by decide : (0 : Nat) < 4), (by kernel_rfl), by kernel_rfl, (by decide : (1 : Nat) < 4), rfl, by kernel_rfl, (by decide : (2 : Nat) < 4), rfl, by kernel_rfl, (by decide : (3 : Nat) < 4), (by kernel_rfl), trivial⟩) (hlo.mono (show 4 ≤ 4 by decide))⟩
      · rw [hb] at e
        have he : some (AV.tup [.int .i64 (x : Int), .bool true], ([] : List Nat)) = some (encFd (l.find? (exAll s)), []) := by
          have hsp : l = l.take k ++ x :: l.drop (k + 1) := by rw [← drop_cons hx, List.take_append_drop]
          have hfd : l.find? (exAll s) = some x := by
            rw [hsp, List.find?_append, List.find?_eq_none.2 (fun t ht => by rw [hall t ht]; decide), Option.none_or]
            simp [hb]
          rw [hfd]; rfl
        exact ACode.vcM (.br 8 true <| .cells (encI (x : Int)) <| .call (.bool true) .nil) hn hlo (.roundW .cl) ⟨ltLen hlt2, idx hx2, e, _, .refl _, .nil, [], Eq.trans (by kernel_rfl) he⟩
    · have hlt2 : ¬ k < (l.map fun (i : Nat) => (i : Int)).length := by rw [List.length_map]; exact hlt
      have hall' : l.take k = l := List.take_of_length_le (by omega)
      have he : some (AV.tup [.int .i64 0, .bool false], ([] : List Nat)) = some (encFd (l.find? (exAll s)), []) := by
        rw [hall'] at hall
        rw [List.find?_eq_none.2 (fun t ht => by rw [hall t ht]; decide)]; rfl
      exact ACode.vcM (.br 8 false .nil) hn hlo (.roundW .cl) ⟨geLen hlt2, _, .refl _, .nil, [], Eq.trans (by kernel_rfl) he⟩
theorem fewA_spec (s : Scn) (hs : ScOk s)  : APure Tryd.prog 28 [encX s (crsP s), .fn (.func 37) [encX s (crsP s)] []] (encFw (fewP s (exAll s))) := by
  have hml := hs.ml
  have hall := set_lt hs
  have a := all_spec s (crsP s) hml
  have st := (sets_spec s (crsP s) hml).pure
  have hX := cX_ok s (crsP s)
  obtain ⟨f1, f2⟩ := setsN_facts hml
  have h8 : 2 ^ s.marks.length ≤ 2 ^ 8 := Nat.pow_le_pow_right (by decide) hml
  have h9 : (2 : Nat) ^ 8 = 256 := by decide
  have p1 : 0 < 2 ^ s.marks.length := Nat.pow_pos (by decide)
  have en : allN s + 1 = 2 ^ s.marks.length := by unfold allN; omega
  have e := (fun x => exAll_spec s hs x) (allN s) hall
  have vI := valuesI_spec (setsI s.marks.length)
  have fs := firstA_spec s hs (setsN s.marks.length) (fun x hx => by have := (f1 x).1 hx; omega) (by unfold setsN; rw [List.length_map, (setsP_facts _).1.length_eq, setsF_len]; omega)
  unfold fewP
  cases hp : exAll s (allN s)
  · have e : APure Tryd.prog _ _ (.bool false) := hp ▸ e
    exact APure.vc Tryd.func28 rfl (.val 9 (encX s (crsP s)) [] <| .call (.int .i64 ((allN s : Nat) : Int)) <| .call (.bool false) .nil) (by kernel_rfl) rfl ⟨by kernel_rfl, a, e, trivial, by kernel_rfl⟩
  · have e : APure Tryd.prog _ _ (.bool true) := hp ▸ e
    have fb := find_best (n := allN s) (ordD_ord.le (show allN s + 1 ≤ 256 by omega)) hp (l := setsN s.marks.length) (fun x => by rw [f1 x, en]) f2
    rw [fb] at fs
    have hbm := (best_min (ordD_ord.le (show allN s + 1 ≤ 256 by omega)) hp).1
    have idc := (ids_spec s (crsP s) hml (bestN ordD (exAll s) (allN s) (allN s)) (by omega)).pure
    generalize bestN ordD (exAll s) (allN s) (allN s) = B at *
    exact APure.vc Tryd.func28 rfl (.val 9 (encX s (crsP s)) [] <| .call (.int .i64 ((allN s : Nat) : Int)) <| .call (.bool true) <| .val 14 (encX s (crsP s)) [] <| .call (encR (setsI s.marks.length)) <| .call (.fn (.func 64) [] [.cptr [encR (setsI s.marks.length)]]) <| .call (.tup [.int .i64 (B : Int), .bool true]) <| .val 21 (encX s (crsP s)) [] <| .call (encR (idsP s B)) .nil) (by kernel_rfl) rfl
      ⟨by kernel_rfl, a, e, by kernel_rfl, st, vI, fs, by kernel_rfl, idc, trivial, by kernel_rfl⟩

theorem against_spec (s : Scn) (hs : ScOk s) : APure Tryd.prog 22 [encX s (crsP s)] (encR ((agP s).getD [])) := by
  have f := fewA_spec s hs
  have hX := cX_ok s (crsP s)
  unfold agP
  cases h : fewP s (exAll s) with
  | none =>
    rw [h] at f
    exact APure.weak (r := .nil) (APure.vc Tryd.func22 rfl (.val 6 (encX s (crsP s)) [] <| .val 7 (encX s (crsP s)) [] <| .call (.tup [.nil, .bool false]) .nil) (by kernel_rfl) rfl ⟨by kernel_rfl, by kernel_rfl, f, trivial, by kernel_rfl⟩) VRel.nilLst
  | some l =>
    rw [h] at f
    exact APure.vc Tryd.func22 rfl (.val 6 (encX s (crsP s)) [] <| .val 7 (encX s (crsP s)) [] <| .call (.tup [encR l, .bool true]) .nil) (by kernel_rfl) rfl ⟨by kernel_rfl, by kernel_rfl, f, trivial, by kernel_rfl⟩
theorem why_spec (s : Scn) (hs : ScOk s) (room : Nat) (hroom : room < nR s) : APure Tryd.prog 14 [encX s (crsP s), .int .i64 (room : Int)] (encFw (whyP s room)) := by
  have f := fewW_spec s hs room hroom
  have hX := cX_ok s (crsP s)
  unfold whyP
  generalize fewP s (exB s room) = o at f ⊢
  refine APure.intro Tryd.func14 rfl (by kernel_rfl) (by cases o <;> rfl) fun g hn hlo0 => ?_
  replace hn : g.n = 11 := hn
  have th := thaw_all 6 (hget [(0, .cells (cXa s (encCs (crsP s))))]) (cXa s (encCs (crsP s))) hX
  have th0 : thaw 8 (hget [(0, .cells (cXa s (encCs (crsP s))))]) (.vptr 0 0) = some (.cptr (cXa s (encCs (crsP s))), [0]) := by
    have e : thaw 8 (hget [(0, .cells (cXa s (encCs (crsP s))))]) (.vptr 0 0) = (match mapO (thaw 7 (hget [(0, .cells (cXa s (encCs (crsP s))))])) (cXa s (encCs (crsP s))) with | some (cs', is) => some (.cptr (cs'.drop 0), 0 :: is) | none => none) := rfl
    rw [e, th]; rfl
  refine ACode.cut 0 (fun _ : Unit => ⟨[(2, .cptr (cXa s (encCs (crsP s)))), (3, .cptr [.int .i64 (room : Int)])], [], 0⟩) (fun _ => True) .nil hn hlo0 .ret rfl ?_ fun _ _ => ?_
  · exact ⟨(), trivial, Wk.trans (Wk.frv (S := ⟨[(2, .vptr 0 0), (3, .cptr [.int .i64 (room : Int)])], [(0, .cells (cXa s (encCs (crsP s))))], 1⟩) (c := 0) (id := 0) (cs := cXa s (encCs (crsP s))) (St.frv.of rfl (by decide) (by kernel_rfl) ⟨.inr ⟨(by kernel_rfl), [0], th0⟩, .inl ⟨by kernel_rfl, rfl⟩, trivial⟩ trivial) hlo0)
      (Wk.frv (c := 1) (id := 1) (cs := [.int .i64 (room : Int)]) (St.frv.of rfl (by decide) (by kernel_rfl) ⟨.inl ⟨by kernel_rfl, rfl⟩, .inr ⟨rfl, [1], by kernel_rfl⟩, trivial⟩ ⟨by kernel_rfl, (by decide : (0 : Nat) < 1), (by kernel_rfl), trivial⟩) (hlo0.mono (by decide)))⟩
  · cases o with
    | none => exact ACode.vcM (.val 6 (encX s (crsP s)) [] <| .call (.tup [.nil, .bool false]) .nil) hn hlo0 .ret ⟨by kernel_rfl, f, trivial, by kernel_rfl⟩
    | some l => exact ACode.vcM (.val 6 (encX s (crsP s)) [] <| .call (.tup [encR l, .bool true]) .nil) hn hlo0 .ret ⟨by kernel_rfl, f, trivial, by kernel_rfl⟩
theorem Why_ok (s : Scn) (room : Int) : APure Tryd.prog 6 [encSc s, .int .i64 room] (encLe (wyV s room) (wyE s room)) := by
  have c := checkRoom_spec s room
  unfold wyV wyE
  by_cases h0 : rmE s room = 0
  · rw [h0] at c
    rw [if_pos h0, if_pos h0]
    obtain ⟨h1, h2⟩ := rm_0 h0
    have hs := scB_iff.1 h1
    obtain ⟨e1, e2⟩ := rm_nat hs h2
    have w := atWork_spec s hs
    have t := why_spec s hs room.toNat e2
    rw [← e1] at t
    cases hT : whyP s room.toNat with
    | none =>
      rw [hT] at t
      exact APure.weak (r := .tup [.nil, .int .i64 8]) (APure.vc Tryd.func6 rfl (.call (.int .i64 0) <| .call (encX s (crsP s)) <| .call (.tup [.nil, .bool false]) .nil) rfl rfl ⟨c, w, t, trivial, by kernel_rfl⟩) VRel.tupNil
    | some ds =>
      rw [hT] at t
      exact APure.vc Tryd.func6 rfl (.call (.int .i64 0) <| .call (encX s (crsP s)) <| .call (.tup [encR ds, .bool true]) .nil) rfl rfl ⟨c, w, t, trivial, by kernel_rfl⟩
  · have hne : (rmE s room != 0) = true := bne_iff_ne.2 h0
    rw [if_neg h0, if_neg h0]
    generalize rmE s room = E at *
    exact APure.weak (r := .tup [.nil, .int .i64 E]) (APure.vc Tryd.func6 rfl (.call (.int .i64 E) <| .br 13 true .nil) rfl rfl ⟨c, hne, trivial, by kernel_rfl⟩) VRel.tupNil
theorem Against_ok (s : Scn) : APure Tryd.prog 8 [encSc s] (encLe (agV s) (ckE s)) := by
  have c := Check_spec s
  unfold agV
  unfold ckE at c ⊢
  cases h : scB s
  · rw [h] at c
    exact APure.weak (r := .tup [.nil, .int .i64 90]) (APure.vc Tryd.func8 rfl (.call (.int .i64 90) .nil) rfl rfl ⟨c, trivial, by kernel_rfl⟩) VRel.tupNil
  · rw [h] at c
    have hs := scB_iff.1 h
    have w := atWork_spec s hs
    have t := against_spec s hs
    generalize (agP s).getD [] = L at *
    exact APure.vc Tryd.func8 rfl (.call (.int .i64 0) <| .call (encX s (crsP s)) <| .call (encR L) .nil) rfl rfl ⟨c, w, t, trivial, by kernel_rfl⟩
end Go.Proofs.YtmllgnnhblhfeaaDoor
