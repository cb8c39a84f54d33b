import Derived.Test.YtmdhgkfjlphliaaR7
import Derived.Test.YtmdhgkfjlphliaaAm16
import Derived.Test.YtmdhgkfjlphliaaMV
/-
  THE CHAPTER's EXAMPLES: records, letters, moves; what holds, what falls.
-/
namespace Go.Proofs.Ytmdhgkfjlphliaa
open Go Go.Am
set_option maxRecDepth 100000
set_option maxHeartbeats 4000000
def exR : List Rcd := [⟨1, 1, []⟩, ⟨2, 2, []⟩, ⟨3, 3, [[1, 2]]⟩, ⟨4, 1, []⟩, ⟨5, 3, [[2, 4]]⟩, ⟨6, 4, [[3], [5]]⟩, ⟨7, 4, [[5, 6]]⟩]
def exL : List Ltr := [⟨1, 10, 1, 1⟩, ⟨2, 20, 1, 2⟩, ⟨3, 20, 4, 1⟩]
def exM : List Mov := [⟨1, 3, 1, 50⟩, ⟨2, 3, 4, 20⟩, ⟨3, 3, 2, 5⟩, ⟨4, 3, 3, 3⟩, ⟨5, 5, 1, 30⟩, ⟨6, 5, 4, 30⟩]
/-- No slice, as an empty one. -/
def upN (c : AV) : AV := match c with
  | .nil => .lst 1 []
  | c => c
theorem upN_rel {av : Nat → Prop} {w : World} {κ : Nat → Option Nat} {c : AV} {v : Value} (h : VR av w κ c v) : VR av w κ (upN c) v := by
  cases h with
  | nil => exact .lst 1 [] none 0 (fun _ _ => .bool false) (fun _ => rfl) (Nat.le_refl 0) (fun i x hx => by simp at hx) (fun i x hx => by simp at hx)
  | any v => exact .any v
  | undef => exact .undef
  | bool b => exact .bool b
  | int k n => exact .int k n
  | str s => exact .str s
  | lst esz xs base cap u hb hl hc hv => exact .lst esz xs base cap u hb hl hc hv
  | cptr cells a u hc hv => exact .cptr cells a u hc hv
  | nptr => exact .nptr
  | vptr id off blk h => exact .vptr id off blk h
  | rsl0 id off esz base => exact .rsl0 id off esz base
  | rsl id off len esz cap blk c e f h hl hb hcap => exact .rsl id off len esz cap blk c e f h hl hb hcap
  | mref id r h => exact .mref id r h
  | imap es r ents clk uk uv hav hr hsz hu hk hv hB => exact .imap es r ents clk uk uv hav hr hsz hu hk hv hB
  | nmap => exact .nmap
  | fn f fs cs vs us uf uc hlf hlc hf hc hvf hvc => exact .fn f fs cs vs us uf uc hlf hlc hf hc hvf hvc
  | yld id l h => exact .yld id l h
  | nilFunc => exact .nilFunc
  | iface t a v h => exact .iface t a v h
  | nilIface => exact .nilIface
  | agg cs vs u hl hu hv => exact .agg cs vs u hl hu hv
  | tup cs vs u hl hu hv => exact .tup cs vs u hl hu hv
theorem lst_up {av : Nat → Prop} {w : World} {κ : Nat → Option Nat} {e : Nat} {xs : List (List AV)} {v : Value} (h : VR av w κ (.lst e xs) v) : VR av w κ (.lst e (xs.map fun x => x.map upN)) v := by
  cases h with
  | lst esz xs base cap u hb hl hc hv =>
    have hlen : (xs.map fun x => x.map upN).length = xs.length := List.length_map _
    rw [← hlen]
    refine .lst e _ base cap u (fun hn => by rw [hb hn]; rfl) (by rw [hlen]; exact hl) (fun i x hx j c hj => ?_) (fun i x hx j c hj => ?_)
    all_goals
      rw [List.getElem?_map] at hx
      cases hx0 : xs[i]? with
      | none => rw [hx0] at hx; cases hx
      | some x0 =>
        rw [hx0] at hx
        cases hx
        rw [List.getElem?_map] at hj
        cases hj0 : x0[j]? with
        | none => rw [hj0] at hj; cases hj
        | some c0 =>
          rw [hj0] at hj
          cases hj
          first | exact hc i x0 hx0 j c0 hj0 | exact upN_rel (hv i x0 hx0 j c0 hj0)
theorem APure.upL {P : Program} {f : Nat} {xs : List AV} {e : Nat} {l : List (List AV)} (h : APure P f xs (.lst e l)) : APure P f xs (.lst e (l.map fun x => x.map upN)) := fun κ N w cargs h1 h2 h3 =>
  (h κ N w cargs h1 h2 h3).mono fun _e _w' ⟨v, e1, e2, e3, e4⟩ => ⟨v, e1, e2, e3, lst_up e4⟩
def exRn : List (List AV) := exR.map fun x => [.int .i64 x.id, kO x.kd, match x.ways with | [] => .nil | _ => encWs x.ways]
theorem records_spec : APure Try.prog 33 [] (encRs exR) := APure.upL (l := exRn) (.runK .nil 100 30 (by kernel_rfl))
theorem letters_spec : APure Try.prog 35 [] (encLs exL) := .runK .nil 100 30 (by kernel_rfl)
theorem moves_spec : APure Try.prog 34 [] (encMs exM) := .runK .nil 100 30 (by kernel_rfl)
theorem kH10 : APureF Try.prog 10 [encRs exR, encLs exL, .int .i64 10] (.tup [encR [2, 4, 5, 6, 7], .int .i64 0]) := by
  have h : encLe (holdsV exR exL 10) (dayE exR exL 10) = .tup [encR [2, 4, 5, 6, 7], .int .i64 0] := by kernel_rfl
  have := Holds_ok exR exL 10
  rw [h] at this; exact this
theorem kH10b : APure Try.prog 29 [.int .i64 10, encR [2, 4, 5, 6, 7]] (.bool true) := .runK (.cons records_spec <| .cons letters_spec <| .consF kH10 .nil) 100 30 (by kernel_rfl)
theorem kH20 : APureF Try.prog 10 [encRs exR, encLs exL, .int .i64 20] (.tup [encR [1, 2, 3, 6], .int .i64 0]) := by
  have h : encLe (holdsV exR exL 20) (dayE exR exL 20) = .tup [encR [1, 2, 3, 6], .int .i64 0] := by kernel_rfl
  have := Holds_ok exR exL 20
  rw [h] at this; exact this
theorem kH20b : APure Try.prog 29 [.int .i64 20, encR [1, 2, 3, 6]] (.bool true) := .runK (.cons records_spec <| .cons letters_spec <| .consF kH20 .nil) 100 30 (by kernel_rfl)
theorem kH5 : APureF Try.prog 10 [encRs exR, encLs exL, .int .i64 5] (.tup [encR [1, 2, 3, 4, 5, 6, 7], .int .i64 0]) := by
  have h : encLe (holdsV exR exL 5) (dayE exR exL 5) = .tup [encR [1, 2, 3, 4, 5, 6, 7], .int .i64 0] := by kernel_rfl
  have := Holds_ok exR exL 5
  rw [h] at this; exact this
theorem kH5b : APure Try.prog 29 [.int .i64 5, encR [1, 2, 3, 4, 5, 6, 7]] (.bool true) := .runK (.cons records_spec <| .cons letters_spec <| .consF kH5 .nil) 100 30 (by kernel_rfl)
theorem kT10 : APureF Try.prog 12 [encRs exR, encLs exL, .int .i64 10, .int .i64 4] (.tup [encR [4, 5, 6, 7], .int .i64 0]) := by
  have h : encLe (takesD exR exL 10 4) (withE exR exL 10 4) = .tup [encR [4, 5, 6, 7], .int .i64 0] := by kernel_rfl
  have := Takes_ok exR exL 10 4
  rw [h] at this; exact this
theorem kT10b : APure Try.prog 30 [.int .i64 10, .int .i64 4, encR [4, 5, 6, 7]] (.bool true) := .runK (.cons records_spec <| .cons letters_spec <| .consF kT10 .nil) 100 30 (by kernel_rfl)
theorem kT5 : APureF Try.prog 12 [encRs exR, encLs exL, .int .i64 5, .int .i64 4] (.tup [encR [4, 5, 7], .int .i64 0]) := by
  have h : encLe (takesD exR exL 5 4) (withE exR exL 5 4) = .tup [encR [4, 5, 7], .int .i64 0] := by kernel_rfl
  have := Takes_ok exR exL 5 4
  rw [h] at this; exact this
theorem kT5b : APure Try.prog 30 [.int .i64 5, .int .i64 4, encR [4, 5, 7]] (.bool true) := .runK (.cons records_spec <| .cons letters_spec <| .consF kT5 .nil) 100 30 (by kernel_rfl)
theorem kR5 : APureF Try.prog 19 [encRs exR, encLs exL, .int .i64 5, .int .i64 6] (.tup [encR [1, 2, 3, 6], .int .i64 0]) := by
  have h : encLe (restD exR exL 5 6) (restE exR exL 5 6) = .tup [encR [1, 2, 3, 6], .int .i64 0] := by kernel_rfl
  have := Rests_ok exR exL 5 6
  rw [h] at this; exact this
theorem kR5b : APure Try.prog 31 [.int .i64 5, .int .i64 6, encR [1, 2, 3, 6]] (.bool true) := .runK (.cons records_spec <| .cons letters_spec <| .consF kR5 .nil) 100 30 (by kernel_rfl)
theorem kR10 : APureF Try.prog 19 [encRs exR, encLs exL, .int .i64 10, .int .i64 7] (.tup [encR [2, 4, 5, 6, 7], .int .i64 0]) := by
  have h : encLe (restD exR exL 10 7) (restE exR exL 10 7) = .tup [encR [2, 4, 5, 6, 7], .int .i64 0] := by kernel_rfl
  have := Rests_ok exR exL 10 7
  rw [h] at this; exact this
theorem kR10b : APure Try.prog 31 [.int .i64 10, .int .i64 7, encR [2, 4, 5, 6, 7]] (.bool true) := .runK (.cons records_spec <| .cons letters_spec <| .consF kR10 .nil) 100 30 (by kernel_rfl)
theorem kC10 : APureF Try.prog 21 [encRs exR, encLs exL, .int .i64 10, .int .i64 3] (.tup [encR [1], .int .i64 0]) := by
  have h : encLe (causD exR exL 10 3) (causE exR exL 10 3) = .tup [encR [1], .int .i64 0] := by kernel_rfl
  have := Causes_ok exR exL 10 3
  rw [h] at this; exact this
theorem kC10b : APure Try.prog 32 [.int .i64 10, .int .i64 3, encR [1]] (.bool true) := .runK (.cons records_spec <| .cons letters_spec <| .consF kC10 .nil) 100 30 (by kernel_rfl)
theorem kC20 : APureF Try.prog 21 [encRs exR, encLs exL, .int .i64 20, .int .i64 7] (.tup [encR [4], .int .i64 0]) := by
  have h : encLe (causD exR exL 20 7) (causE exR exL 20 7) = .tup [encR [4], .int .i64 0] := by kernel_rfl
  have := Causes_ok exR exL 20 7
  rw [h] at this; exact this
theorem kC20b : APure Try.prog 32 [.int .i64 20, .int .i64 7, encR [4]] (.bool true) := .runK (.cons records_spec <| .cons letters_spec <| .consF kC20 .nil) 100 30 (by kernel_rfl)
end Go.Proofs.Ytmdhgkfjlphliaa
/-
  THE CHAPTER's EXAMPLES: pieces, what is called back; what is alive, and all of them.
-/
namespace Go.Proofs.Ytmdhgkfjlphliaa
open Go Go.Am
set_option maxRecDepth 100000
set_option maxHeartbeats 4000000
theorem APure.fresh {P : Program} {f : Nat} {xs : List AV} {r : AV} (h : APure P f xs r) (hf : r.flat = true) : APureF P f xs r := fun κ N w cargs h1 h2 h3 =>
  (h κ N w cargs h1 h2 h3).mono fun _e _w' ⟨v, e1, e2, e3, e4⟩ => ⟨v, e1, e2, e3, VRel.ofFlat e4 hf⟩
theorem kAreR : APure Try.prog 49 [encRs exR] (.bool true) := by
  have := areRecords_spec exR; rw [show recsB exR = true by kernel_rfl] at this; exact this
theorem mvE : MvOk exM := ⟨by decide, fun m hm => by
  simp only [exM, List.mem_cons, List.not_mem_nil, or_false] at hm
  rcases hm with rfl | rfl | rfl | rfl | rfl | rfl <;> decide⟩
theorem kStoA (l : List Int) (s : Sto) (h : storeV exM l = s) (hl : l.length ≤ 1000) : APure Try.prog 61 [encMs exM, encR l] (encSt s) := by
  have := storeOf_spec exM l mvE hl; rw [h] at this; exact this
theorem kSto (i : Int) (s : Sto) (h : storeV exM [i] = s) : APure Try.prog 91 [encMs exM, .int .i64 i] (encSt s) := by
  have := storeOfOne_spec exM i mvE; rw [h] at this; exact this
theorem kSto1 : APure Try.prog 91 [encMs exM, .int .i64 1] (encSt ⟨0, 0, 0, 0, 0, 0⟩) := kSto 1 _ (by kernel_rfl)
theorem kSto2 : APure Try.prog 91 [encMs exM, .int .i64 2] (encSt ⟨0, 0, 0, 0, 0, 0⟩) := kSto 2 _ (by kernel_rfl)
theorem kSto3 : APure Try.prog 91 [encMs exM, .int .i64 3] (encSt ⟨50, 5, 3, 20, 0, 32⟩) := kSto 3 _ (by kernel_rfl)
theorem kSto4 : APure Try.prog 91 [encMs exM, .int .i64 4] (encSt ⟨0, 0, 0, 0, 0, 0⟩) := kSto 4 _ (by kernel_rfl)
theorem kSto5 : APure Try.prog 91 [encMs exM, .int .i64 5] (encSt ⟨30, 0, 0, 30, 0, 0⟩) := kSto 5 _ (by kernel_rfl)
theorem kSto6 : APure Try.prog 91 [encMs exM, .int .i64 6] (encSt ⟨0, 0, 0, 0, 0, 0⟩) := kSto 6 _ (by kernel_rfl)
theorem kSto7 : APure Try.prog 91 [encMs exM, .int .i64 7] (encSt ⟨0, 0, 0, 0, 0, 0⟩) := kSto 7 _ (by kernel_rfl)
theorem kAreM : APure Try.prog 59 [encMs exM, encRs exR] (.bool true) := .runK (.cons kSto1 <| .cons kSto2 <| .cons kSto3 <| .cons kSto4 <| .cons kSto5 <| .cons kSto6 <| .cons kSto7 .nil) 100 30 (by kernel_rfl)
theorem kStoP2 : APure Try.prog 61 [encMs exM, encR [3, 5]] (encSt ⟨80, 5, 3, 50, 0, 32⟩) := kStoA [3, 5] _ (by kernel_rfl) (by decide)
theorem kStoP3 : APure Try.prog 61 [encMs exM, encR [3]] (encSt ⟨50, 5, 3, 20, 0, 32⟩) := kStoA [3] _ (by kernel_rfl) (by decide)
theorem kBat2 : APure Try.prog 62 [encRs exR, .int .i64 2] (encR [3, 5]) := .runK .nil 100 30 (by kernel_rfl)
theorem kBat3 : APure Try.prog 62 [encRs exR, .int .i64 3] (encR [3]) := .runK .nil 100 30 (by kernel_rfl)
theorem kP2 : APureF Try.prog 23 [encRs exR, encMs exM, .int .i64 2] (.tup [encSt ⟨80, 5, 3, 50, 0, 32⟩, .int .i64 0]) := .runK (.cons kAreR <| .cons kAreM <| .cons kBat2 <| .cons kStoP2 .nil) 100 30 (by kernel_rfl)
theorem kP3 : APureF Try.prog 23 [encRs exR, encMs exM, .int .i64 3] (.tup [encSt ⟨50, 5, 3, 20, 0, 32⟩, .int .i64 0]) := .runK (.cons kAreR <| .cons kAreM <| .cons kBat3 <| .cons kStoP3 .nil) 100 30 (by kernel_rfl)
theorem kChk : APure Try.prog 14 [encRs exR, encLs exL] (.int .i64 0) := by
  have := Check_spec exR exL; rw [show checkV exR exL = 0 by kernel_rfl] at this; exact this
theorem kOn10 : APure Try.prog 39 [encRs exR, encLs exL, .int .i64 10] (.tup [encAr exR [1], .int .i64 0]) := by
  have := archiveOn_spec exR exL 10; rw [show encAe exR exL 10 = .tup [encAr exR [1], .int .i64 0] by kernel_rfl] at this; exact this
theorem kOn20 : APure Try.prog 39 [encRs exR, encLs exL, .int .i64 20] (.tup [encAr exR [4], .int .i64 0]) := by
  have := archiveOn_spec exR exL 20; rw [show encAe exR exL 20 = .tup [encAr exR [4], .int .i64 0] by kernel_rfl] at this; exact this
theorem arE : Ar exR := Ar_of (by kernel_rfl)
theorem kS10 : APure Try.prog 41 [encAr exR [1]] (.int .i64 122) := by
  have := standing_spec exR [1] arE; rw [show setK (gF [1]) exR exR.length = 122 by kernel_rfl] at this; exact this
theorem kS20 : APure Try.prog 41 [encAr exR [4]] (.int .i64 39) := by
  have := standing_spec exR [4] arE; rw [show setK (gF [4]) exR exR.length = 39 by kernel_rfl] at this; exact this
theorem kC10r : APureF Try.prog 25 [encRs exR, encLs exL, encMs exM, .int .i64 10] (.tup [encR [3], .int .i64 15, .int .i64 0]) := .runK (.cons kChk <| .cons kAreM <| .cons kOn10 <| .cons kS10 <| .cons kSto1 <| .cons kSto2 <| .cons kSto3 <| .cons kSto4 <| .cons kSto5 <| .cons kSto6 <| .cons kSto7 .nil) 100 30 (by kernel_rfl)
theorem kC20r : APureF Try.prog 25 [encRs exR, encLs exL, encMs exM, .int .i64 20] (.tup [encR [5], .int .i64 30, .int .i64 0]) := .runK (.cons kChk <| .cons kAreM <| .cons kOn20 <| .cons kS20 <| .cons kSto1 <| .cons kSto2 <| .cons kSto3 <| .cons kSto4 <| .cons kSto5 <| .cons kSto6 <| .cons kSto7 .nil) 100 30 (by kernel_rfl)
theorem alive_spec : APure Try.prog 28 [] (.bool true) :=
  .runK (.cons records_spec <| .cons letters_spec <| .cons moves_spec <| .consF kP2 <| .consF kC10r <| .consF (APure.fresh kH10b rfl) <| .consF (APure.fresh kH20b rfl) <| .consF (APure.fresh kT10b rfl) <| .consF (APure.fresh kR5b rfl) <| .consF (APure.fresh kC10b rfl) .nil) 100 30 (by kernel_rfl)
/-! ### all of them -/
def adR : List Rcd := [⟨1, 1, []⟩, ⟨2, 2, []⟩, ⟨3, 3, [[1, 4]]⟩, ⟨4, 1, []⟩, ⟨5, 3, [[2, 4]]⟩, ⟨6, 4, [[3], [5]]⟩, ⟨7, 4, [[5, 6]]⟩]
def odL : List Ltr := [⟨1, 10, 8, 1⟩, ⟨2, 20, 1, 2⟩, ⟨3, 20, 4, 1⟩]
def toM : List Mov := [⟨1, 3, 1, 50⟩, ⟨2, 3, 4, 20⟩, ⟨3, 3, 2, 21⟩, ⟨4, 3, 3, 3⟩, ⟨5, 5, 1, 30⟩, ⟨6, 5, 4, 30⟩]
theorem kHm : APureF Try.prog 10 [encRs exR, encLs exL, .int .i64 (-1)] (.tup [.nil, .int .i64 2]) := by
  have h : encLe (holdsV exR exL (-1)) (dayE exR exL (-1)) = .tup [.nil, .int .i64 2] := by kernel_rfl
  have := Holds_ok exR exL (-1)
  rw [h] at this; exact this
theorem kT8 : APureF Try.prog 12 [encRs exR, encLs exL, .int .i64 5, .int .i64 8] (.tup [.nil, .int .i64 6]) := by
  have h : encLe (takesD exR exL 5 8) (withE exR exL 5 8) = .tup [.nil, .int .i64 6] := by kernel_rfl
  have := Takes_ok exR exL 5 8
  rw [h] at this; exact this
theorem kR3 : APureF Try.prog 19 [encRs exR, encLs exL, .int .i64 10, .int .i64 3] (.tup [.nil, .int .i64 8]) := by
  have h : encLe (restD exR exL 10 3) (restE exR exL 10 3) = .tup [.nil, .int .i64 8] := by kernel_rfl
  have := Rests_ok exR exL 10 3
  rw [h] at this; exact this
theorem kC7 : APureF Try.prog 21 [encRs exR, encLs exL, .int .i64 10, .int .i64 7] (.tup [.nil, .int .i64 8]) := by
  have h : encLe (causD exR exL 10 7) (causE exR exL 10 7) = .tup [.nil, .int .i64 8] := by kernel_rfl
  have := Causes_ok exR exL 10 7
  rw [h] at this; exact this
theorem mvT : MvOk toM := ⟨by decide, fun m hm => by
  simp only [toM, List.mem_cons, List.not_mem_nil, or_false] at hm
  rcases hm with rfl | rfl | rfl | rfl | rfl | rfl <;> decide⟩
theorem kStT (i : Int) (s : Sto) (h : storeV toM [i] = s) : APure Try.prog 91 [encMs toM, .int .i64 i] (encSt s) := by
  have := storeOfOne_spec toM i mvT; rw [h] at this; exact this
theorem kStT1 : APure Try.prog 91 [encMs toM, .int .i64 1] (encSt ⟨0, 0, 0, 0, 0, 0⟩) := kStT 1 _ (by kernel_rfl)
theorem kStT2 : APure Try.prog 91 [encMs toM, .int .i64 2] (encSt ⟨0, 0, 0, 0, 0, 0⟩) := kStT 2 _ (by kernel_rfl)
theorem kStT3 : APure Try.prog 91 [encMs toM, .int .i64 3] (encSt ⟨50, 21, 3, 20, 0, 48⟩) := kStT 3 _ (by kernel_rfl)
theorem kAreT : APure Try.prog 59 [encMs toM, encRs exR] (.bool false) := .runK (.cons kStT1 <| .cons kStT2 <| .cons kStT3 .nil) 100 30 (by kernel_rfl)
theorem kPt : APureF Try.prog 23 [encRs exR, encMs toM, .int .i64 3] (.tup [encSt ⟨0, 0, 0, 0, 0, 0⟩, .int .i64 82]) := .runK (.cons kAreR <| .cons kAreT .nil) 100 30 (by kernel_rfl)
theorem kRt : APureF Try.prog 25 [encRs exR, encLs exL, encMs toM, .int .i64 (-1)] (.tup [.nil, .int .i64 0, .int .i64 82]) := .runK (.cons kChk <| .cons kAreT .nil) 100 30 (by kernel_rfl)
theorem kCad : APure Try.prog 14 [encRs adR, encLs exL] (.int .i64 80) := by
  have := Check_spec adR exL; rw [show checkV adR exL = 80 by kernel_rfl] at this; exact this
theorem kCod : APure Try.prog 14 [encRs exR, encLs odL] (.int .i64 81) := by
  have := Check_spec exR odL; rw [show checkV exR odL = 81 by kernel_rfl] at this; exact this
end Go.Proofs.Ytmdhgkfjlphliaa
