import Derived.Test.YtmllgnnhblhfeaaDoorOP
/-
  SCENES, AND WHAT THE PROGRAM TELLS OF THEM: plain specifications.
-/
namespace Go.Proofs.YtmllgnnhblhfeaaDoor
open Go Go.Am
structure Gt where
  a : Int
  b : Int
  lo : Int
  hi : Int
structure Mk where
  id : Int
  kd : Fin 256
  room : Int
  other : Int
  lo : Int
  hi : Int
  long : Int
structure Scn where
  rooms : Int
  gates : List Gt
  fin : Int
  marks : List Mk
instance : Inhabited Gt := ⟨⟨0, 0, 0, 0⟩⟩
instance : Inhabited Mk := ⟨⟨0, 0, 0, 0, 0, 0, 0⟩⟩
def encI (x : Int) : List AV := [.int .i64 x]
def encR (r : List Int) : AV := .lst 1 (r.map encI)
def kO (k : Fin 256) : AV := .int .u8 (k.val : Int)
def cGt (g : Gt) : List AV := [.int .i64 g.a, .int .i64 g.b, .int .i64 g.lo, .int .i64 g.hi]
def cMk (m : Mk) : List AV := [.int .i64 m.id, kO m.kd, .int .i64 m.room, .int .i64 m.other, .int .i64 m.lo, .int .i64 m.hi, .int .i64 m.long]
def encGs (l : List Gt) : AV := .lst 4 (l.map cGt)
def encMs (l : List Mk) : AV := .lst 7 (l.map cMk)
def cSc (s : Scn) : List AV := [.int .i64 s.rooms, encGs s.gates, .int .i64 s.fin, encMs s.marks]
def encSc (s : Scn) : AV := .agg (cSc s)
def cSp (s : Spn) : List AV := [.int .i64 s.1, .int .i64 s.2]
def encSp (s : Spn) : AV := .agg (cSp s)
def encSps (l : List Spn) : AV := .lst 2 (l.map cSp)
def cTm (t : Tm) : List AV := [.int .i64 (t.getD 0), .bool t.isNone]
def encTm (t : Tm) : AV := .agg (cTm t)
/-! ### what is valid -/
def inB (lo hi n : Int) : Bool := decide (lo ≤ n ∧ n ≤ hi)
theorem inB_iff {lo hi n : Int} : inB lo hi n = true ↔ lo ≤ n ∧ n ≤ hi := by simp [inB]
/-- Numbers that increase, from one on, up to 9999. -/
def incF (least : Int) : List Int → Bool
  | [] => true
  | x :: l => inB least 9999 x && incF (x + 1) l
def isR (n x : Int) : Bool := inB 0 (n - 1) x
def spanB (g lo hi : Int) : Bool := inB 0 g lo && inB 0 g hi && decide (lo ≤ hi)
def gtB (n : Int) (g : Gt) : Bool := isR n g.a && (isR n g.b && (!(g.a == g.b) && (spanB 60 g.lo g.hi && !decide (g.hi - g.lo > 2))))
def usB (n : Int) (m : Mk) : Bool :=
  if m.kd.val = 6 then (isR n m.other && !(m.other == m.room)) && ((m.lo == 0 && m.hi == 0) && m.long == 0)
  else if m.kd.val = 4 ∨ m.kd.val = 5 then m.other == 0 && ((m.lo == 0 && m.hi == 0) && inB 0 600 m.long)
  else if m.kd.val = 1 ∨ m.kd.val = 2 ∨ m.kd.val = 3 then m.other == 0 && (spanB 600 m.lo m.hi && m.long == 0)
  else false
def mkB (n : Int) (m : Mk) : Bool := isR n m.room && usB n m
def marksB (n : Int) (least : Int) : List Mk → Bool
  | [] => true
  | m :: l => inB least 9999 m.id && (mkB n m && marksB n (m.id + 1) l)
def scB (s : Scn) : Bool := inB 1 6 s.rooms && (inB 0 600 s.fin && ((decide (s.gates.length ≤ 6) && s.gates.all (gtB s.rooms)) && (decide (s.marks.length ≤ 8) && marksB s.rooms 0 s.marks)))
theorem marksB_iff {n : Int} : ∀ {l : List Mk} {L : Int}, marksB n L l = true ↔ incF L (l.map (·.id)) = true ∧ ∀ m ∈ l, mkB n m = true := by
  intro l
  induction l with
  | nil => intro L; exact ⟨fun _ => ⟨rfl, fun m h => (List.not_mem_nil h).elim⟩, fun _ => rfl⟩
  | cons m l ih =>
    intro L
    simp only [marksB, incF, List.map_cons, Bool.and_eq_true, ih, List.forall_mem_cons]
    constructor
    · rintro ⟨a, b, c, d⟩; exact ⟨⟨a, c⟩, b, d⟩
    · rintro ⟨⟨a, c⟩, b, d⟩; exact ⟨a, b, c, d⟩
/-- What a valid scene has. -/
structure ScOk (s : Scn) : Prop where
  rooms : 1 ≤ s.rooms ∧ s.rooms ≤ 6
  fin : 0 ≤ s.fin ∧ s.fin ≤ 600
  gl : s.gates.length ≤ 6
  gs : ∀ g ∈ s.gates, gtB s.rooms g = true
  ml : s.marks.length ≤ 8
  inc : incF 0 (s.marks.map (·.id)) = true
  ms : ∀ m ∈ s.marks, mkB s.rooms m = true
theorem scB_iff {s : Scn} : scB s = true ↔ ScOk s := by
  simp only [scB, Bool.and_eq_true, decide_eq_true_eq, inB_iff, List.all_eq_true, marksB_iff]
  exact ⟨fun ⟨a, b, ⟨c, d⟩, e, f, g⟩ => ⟨a, b, c, d, e, f, g⟩, fun h => ⟨h.rooms, h.fin, ⟨h.gl, h.gs⟩, h.ml, h.inc, h.ms⟩⟩
theorem gtB_iff {n : Int} {g : Gt} : gtB n g = true ↔ (0 ≤ g.a ∧ g.a ≤ n - 1) ∧ (0 ≤ g.b ∧ g.b ≤ n - 1) ∧ g.a ≠ g.b ∧ ((0 ≤ g.lo ∧ g.lo ≤ 60) ∧ (0 ≤ g.hi ∧ g.hi ≤ 60) ∧ g.lo ≤ g.hi) ∧ g.hi - g.lo ≤ 2 := by
  simp only [gtB, isR, spanB, Bool.and_eq_true, inB_iff, Bool.not_eq_true', beq_eq_false_iff_ne, decide_eq_true_eq, decide_eq_false_iff_not, and_assoc, Int.not_lt, ne_eq, gt_iff_lt]
/-! ### how far rooms are, by some delays -/
def nR (s : Scn) : Nat := s.rooms.toNat
def spG (g : Gt) : Spn := (g.lo, g.hi)
def gSp (gs : List Gt) : List Spn := gs.map spG
def edgOf (g : Gt) (d : Int) : Edg := (g.a.toNat, g.b.toNat, d)
def edgs (gs : List Gt) (ds : List Int) : List Edg := gs.zipWith edgOf ds
def farP (s : Scn) (ds : List Int) : Tab := farV (edgs s.gates ds) (pairsOf (nR s)) (nR s)
/-! ### marks of a set -/
def pickS (ms : List Mk) (set : Nat) : List Mk := ms.zipIdx.filterMap fun p => if set.testBit p.2 then some p.1 else none
theorem pick_nil (set : Nat) : pickS [] set = [] := rfl
theorem pick_snoc (ms : List Mk) (m : Mk) (set : Nat) : pickS (ms ++ [m]) set = pickS ms set ++ (if set.testBit ms.length then [m] else []) := by
  unfold pickS
  rw [List.zipIdx_append, List.filterMap_append]
  congr 1
  simp only [List.zipIdx_cons, List.zipIdx_nil, Nat.zero_add]
  cases h : set.testBit ms.length <;> simp [h]
theorem take_snoc {α : Type} {l : List α} {k : Nat} {a : α} (h : l[k]? = some a) : l.take (k + 1) = l.take k ++ [a] := by
  rw [List.take_add_one, h]; rfl
theorem pick_take {ms : List Mk} {k : Nat} {m : Mk} (h : ms[k]? = some m) (set : Nat) : pickS (ms.take (k + 1)) set = pickS (ms.take k) set ++ (if set.testBit k then [m] else []) := by
  have hk : k < ms.length := by
    rcases Nat.lt_or_ge k ms.length with q | q
    · exact q
    · rw [List.getElem?_eq_none q] at h; cases h
  rw [take_snoc h, pick_snoc, List.length_take, Nat.min_eq_left (by omega)]
def mrk (m : Mk) : Mrk := ⟨m.id, m.kd.val, m.room.toNat, m.other.toNat, m.lo, m.hi, m.long⟩
def mrks (ms : List Mk) : List Mrk := ms.map mrk
/-- The minutes of a course. -/
def winM (fin : Int) (f : Nat → Tm) (ms : List Mk) (set : Nat) : Spn := allV fin f (0, fin) (mrks (pickS ms set))
theorem win_take {fin : Int} {f : Nat → Tm} {ms : List Mk} {k : Nat} {m : Mk} (h : ms[k]? = some m) (set : Nat) :
    winM fin f (ms.take (k + 1)) set = if set.testBit k then overV (winM fin f (ms.take k) set) (saysV (mrk m) fin (f (mrk m).room) (f (mrk m).other)) else winM fin f (ms.take k) set := by
  unfold winM
  rw [pick_take h]
  cases set.testBit k
  · simp
  · simp [mrks, allV, List.foldl_append]
abbrev Crs := List Int × Tab
def crsP (s : Scn) : List Crs := (allD (gSp s.gates)).map fun ds => (ds, farP s ds)
def okW (w : Spn) : Bool := decide (w.1 ≤ w.2)
def trC (fin : Int) (ms : List Mk) (room set : Nat) (c : Crs) : Option (List Int × Spn) :=
  if okW (winM fin (c.2 room) ms set) then some (c.1, winM fin (c.2 room) ms set) else none
/-- The truths of a room, if the marks of a set are asked. -/
def trS (s : Scn) (room set : Nat) : List (List Int × Spn) := (crsP s).filterMap (trC s.fin s.marks room set)
def allN (s : Scn) : Nat := 2 ^ s.marks.length - 1
def srtS (l : List Spn) : List Spn := l.mergeSort fun a b => decide (a.1 ≤ b.1)
def toldP (s : Scn) (room : Nat) : List Spn := joinV [] (srtS ((trS s room (allN s)).map (·.2)))
def exB (s : Scn) (room set : Nat) : Bool := (trS s room set).isEmpty
def exAll (s : Scn) (set : Nat) : Bool := (List.range (nR s)).all fun r => exB s r set
def roomsN (s : Scn) : List Nat := (List.range (nR s)).filter fun r => !exB s r (allN s)
def roomsP (s : Scn) : List Int := (roomsN s).map fun (r : Nat) => (r : Int)
def truP (s : Scn) (room : Nat) (minute : Int) : Option (List Int) := ((trS s room (allN s)).find? fun t => inB t.2.1 t.2.2 minute).map (·.1)
def idsP (s : Scn) (set : Nat) : List Int := (pickS s.marks set).map (·.id)
def fewP (s : Scn) (p : Nat → Bool) : Option (List Int) := if p (allN s) then some (idsP s (bestN ordD p (allN s) (allN s))) else none
def whyP (s : Scn) (room : Nat) : Option (List Int) := fewP s (exB s room)
def agP (s : Scn) : Option (List Int) := fewP s (exAll s)
/-! ### what is answered -/
def ckE (s : Scn) : Int := if scB s then 0 else 90
def rmE (s : Scn) (room : Int) : Int := if scB s then (if isR s.rooms room then 0 else 2) else 90
def mnV (s : Scn) (room : Int) : List Spn := if rmE s room = 0 then toldP s room.toNat else []
def rsV (s : Scn) : List Int := if scB s then roomsP s else []
def nmV (s : Scn) : Int × Int := if scB s then (match roomsP s with | [] => (0, 91) | [r] => (r, 0) | _ => (0, 6)) else (0, 90)
def tvE (s : Scn) (room minute : Int) : Int := if rmE s room = 0 then (match truP s room.toNat minute with | some _ => 0 | none => 91) else rmE s room
def tvV (s : Scn) (room minute : Int) : List Int := if rmE s room = 0 then (truP s room.toNat minute).getD [] else []
def wyE (s : Scn) (room : Int) : Int := if rmE s room = 0 then (match whyP s room.toNat with | some _ => 0 | none => 8) else rmE s room
def wyV (s : Scn) (room : Int) : List Int := if rmE s room = 0 then (whyP s room.toNat).getD [] else []
def agV (s : Scn) : List Int := if scB s then (agP s).getD [] else []
end Go.Proofs.YtmllgnnhblhfeaaDoor
