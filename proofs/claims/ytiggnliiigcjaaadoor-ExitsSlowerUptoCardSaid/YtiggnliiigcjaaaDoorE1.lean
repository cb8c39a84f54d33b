/-
  PLAIN NUMBERS AND LISTS: what is valid of buildings and people; who leaves when.
-/
import Derived.Test.YtiggnliiigcjaaaDoorX1
namespace Go.Proofs.YtiggnliiigcjaaaDoor
open Go Go.Am
instance : Inhabited Sta := ⟨⟨0, 0, 0, 0, 0, 0⟩⟩
instance : Inhabited Cha := ⟨⟨0, 0, 0, 0⟩⟩
instance : Inhabited Wal := ⟨⟨0, 0, 0, 0, 0⟩⟩
abbrev Sn := Int × Int
def encI (x : Int) : List AV := [.int .i64 x]
def encR (r : List Int) : AV := .lst 1 (r.map encI)
def encS (s : Sn) : AV := .agg [.int .i64 s.1, .int .i64 s.2]
def inB (lo hi n : Int) : Bool := decide (lo ≤ n ∧ n ≤ hi)
/-- A span of numbers that are in another one. -/
def spB (a b lo hi : Int) : Bool := (inB a b lo && inB a b hi) && decide (lo ≤ hi)
/-! ### lists by their indices -/
def allI {α : Type} (f : Nat → α → Bool) (l : List α) : Bool := l.zipIdx.all fun p => f p.2 p.1
theorem allI_take {α : Type} {f : Nat → α → Bool} {l : List α} {k : Nat} {a : α} (h : l[k]? = some a) : allI f (l.take (k + 1)) = (allI f (l.take k) && f k a) := by
  have hk : k < l.length := by
    rcases Nat.lt_or_ge k l.length with h' | h'
    · exact h'
    · rw [List.getElem?_eq_none h'] at h; cases h
  unfold allI
  rw [List.take_add_one, h, List.zipIdx_append, List.all_append, List.length_take, Nat.min_eq_left (by omega)]
  simp
theorem allI_iff {α : Type} {f : Nat → α → Bool} {l : List α} : allI f l = true ↔ ∀ k a, l[k]? = some a → f k a = true := by
  unfold allI
  rw [List.all_eq_true]
  constructor
  · intro h k a hk
    exact h (a, k) (List.mem_zipIdx_iff_getElem?.2 hk)
  · rintro h ⟨a, k⟩ hm
    exact h k a (List.mem_zipIdx_iff_getElem?.1 hm)
theorem allI_bad {α : Type} {f : Nat → α → Bool} {l : List α} {k : Nat} {a : α} (h : l[k]? = some a) (hf : f k a = false) : allI f l = false := by
  cases hb : allI f l
  · rfl
  · rw [allI_iff.1 hb k a h] at hf; cases hf
/-! ### what is valid -/
def nextB (n i : Nat) (s : Sta) : Bool := !(s.nx != -1) || inB ((i : Int) + 1) ((n : Int) - 1) s.nx
def staB (n i : Nat) (s : Sta) : Bool := nextB n i s && (inB 0 60 s.gap && (spB 0 600 s.wLo s.wHi && spB 0 36000 s.sLo s.sHi))
def chaB (n : Nat) (c : Cha) : Bool := inB 0 ((n : Int) - 1) c.st && (inB 0 100000 c.way && spB 0 36000 c.sLo c.sHi)
def walB (m : Nat) (w : Wal) : Bool := inB 0 ((m : Int) - 1) w.ch && (spB 100 3000 w.pLo w.pHi && spB 0 3600 w.tLo w.tHi)
def stasB (l : List Sta) : Bool := inB 1 6 l.length && allI (staB l.length) l
def chasB (l : List Cha) (n : Nat) : Bool := inB 1 8 l.length && l.all (chaB n)
def bdgB (b : Bdg) : Bool := stasB b.ss && chasB b.cs b.ss.length
def walsB (b : Bdg) (w : List Wal) : Bool := !decide ((w.length : Int) > 24) && w.all (walB b.cs.length)
def checkV (b : Bdg) (w : List Wal) : Int := if bdgB b then (if walsB b w then 0 else 61) else 60
def greatB (b : Bdg) (w : List Wal) : Bool := decide ((b.ss.length : Int) > 10) || (decide ((b.cs.length : Int) > 12) || decide ((w.length : Int) > 30))
def readyB (b : Bdg) (w : List Wal) : Bool := !greatB b w && (checkV b w == 0)
/-! ### an end: all slow, or all fast -/
def tk (e : Bool) (lo hi : Int) : Int := if e then hi else lo
def gv (e : Bool) (lo hi : Int) : Int := if e then lo else hi
def cdiv (n by_ : Int) : Int := (n + by_ - 1).tdiv by_
def chOf (b : Bdg) (w : Wal) : Cha := b.cs.getD w.ch.toNat default
/-- How long somebody takes to leave the chamber. -/
def takeV (e : Bool) (b : Bdg) (w : Wal) : Int := tk e w.tLo w.tHi + cdiv (chOf b w).way (gv e w.pLo w.pHi)
/-- When those leave a stair who come to it so, in order. -/
def leaveG (gap walk : Int) : Int → List Int → List Int
  | _, [] => []
  | free, t :: r => (max t free + walk) :: leaveG gap walk (max t free + gap) r
def leaveV (e : Bool) (s : Sta) (come : List Int) : List Int := leaveG s.gap (tk e s.wLo s.wHi) 0 come
def sortV (l : List Int) : List Int := l.mergeSort fun x y => decide (x ≤ y)
/-- Those who come to each stair out of chambers. -/
def comeV (e : Bool) (b : Bdg) (ws : List Wal) (k : Int) : List Int := (ws.filter fun w => (chOf b w).st == k).map (takeV e b)
/-- Those who still come, before a stair's turn. -/
def stateV (e : Bool) (b : Bdg) (F : Int → List Int) : Nat → Int → List Int
  | 0 => F
  | i + 1 =>
    let s := b.ss.getD i default
    let L := leaveV e s (sortV (stateV e b F i i))
    fun k => if k = s.nx then (if k = (i : Int) then [] else stateV e b F i k) ++ L else if k = (i : Int) then [] else stateV e b F i k
def comesV (e : Bool) (b : Bdg) (ws : List Wal) (i : Nat) : List Int := sortV (stateV e b (comeV e b ws) i i)
def leavesV (e : Bool) (b : Bdg) (ws : List Wal) (i : Nat) : List Int := leaveV e (b.ss.getD i default) (comesV e b ws i)
end Go.Proofs.YtiggnliiigcjaaaDoor
