/-
  NETS, BULBS, FIRES: plain specifications.
-/
import Derived.Test.YtcbdggmojnnbdaaDoorAmS
namespace Go.Proofs.YtcbdggmojnnbdaaDoor
open Go Go.Am
structure Pp where
  fr : Int
  to : Int
  lo : Int
  hi : Int
structure Hh where
  id : Int
  node : Int
  need : Int
  least : Int
  bLo : Int
  bHi : Int
  sLo : Int
  sHi : Int
structure Pm where
  lo : Int
  hi : Int
  sl : Int
structure Nt where
  ps : List Pp
  hs : List Hh
  pm : List Pm
  out : Int
  tLo : Int
  tHi : Int
  mins : Int
instance : Inhabited Pp := ⟨⟨0, 0, 0, 0⟩⟩
instance : Inhabited Hh := ⟨⟨0, 0, 0, 0, 0, 0, 0, 0⟩⟩
instance : Inhabited Pm := ⟨⟨0, 0, 0⟩⟩
abbrev Sn := Int × Int
def encI (x : Int) : List AV := [.int .i64 x]
def encR (r : List Int) : AV := .lst 1 (r.map encI)
def cS (s : Sn) : List AV := [.int .i64 s.1, .int .i64 s.2]
def encS (s : Sn) : AV := .agg [.int .i64 s.1, .int .i64 s.2]
def encSs (r : List Sn) : AV := .lst 2 (r.map cS)
def cP (p : Pp) : List AV := [.int .i64 p.fr, .int .i64 p.to, .int .i64 p.lo, .int .i64 p.hi]
def cH (h : Hh) : List AV := [.int .i64 h.id, .int .i64 h.node, .int .i64 h.need, .int .i64 h.least, .int .i64 h.bLo, .int .i64 h.bHi, .int .i64 h.sLo, .int .i64 h.sHi]
def cM (p : Pm) : List AV := [.int .i64 p.lo, .int .i64 p.hi, .int .i64 p.sl]
def encP (l : List Pp) : AV := .lst 4 (l.map cP)
def encH (l : List Hh) : AV := .lst 8 (l.map cH)
def encM (l : List Pm) : AV := .lst 3 (l.map cM)
def cN (n : Nt) : List AV := [encP n.ps, encH n.hs, encM n.pm, .int .i64 n.out, .int .i64 n.tLo, .int .i64 n.tHi, .int .i64 n.mins]
def encN (n : Nt) : AV := .agg (cN n)
def encHh (h : Hh) : AV := .agg (cH h)
def spB (lo hi m : Int) : Bool := decide (0 ≤ lo ∧ lo ≤ hi ∧ hi ≤ m)
def inB (lo hi n : Int) : Bool := decide (lo ≤ n ∧ n ≤ hi)
/-! ### lists by their indices -/
def allI {α : Type} (f : Nat → α → Bool) (l : List α) : Bool := l.zipIdx.all fun p => f p.2 p.1
theorem allI_take {α : Type} {f : Nat → α → Bool} {l : List α} {k : Nat} {a : α} (h : l[k]? = some a) : allI f (l.take (k + 1)) = (allI f (l.take k) && f k a) := by
  have hk : k < l.length := by
    rcases Nat.lt_or_ge k l.length with h' | h'
    · exact h'
    · rw [List.getElem?_eq_none h'] at h; cases h
  unfold allI
  rw [List.take_add_one, h, List.zipIdx_append, List.all_append, List.length_take, Nat.min_eq_left (by omega)]
  simp
theorem allI_iff {α : Type} {f : Nat → α → Bool} {l : List α} : allI f l = true ↔ ∀ k a, l[k]? = some a → f k a = true := by
  unfold allI
  rw [List.all_eq_true]
  constructor
  · intro h k a hk
    exact h (a, k) (List.mem_zipIdx_iff_getElem?.2 hk)
  · rintro h ⟨a, k⟩ hm
    exact h k a (List.mem_zipIdx_iff_getElem?.1 hm)
theorem allI_bad {α : Type} {f : Nat → α → Bool} {l : List α} {k : Nat} {a : α} (h : l[k]? = some a) (hf : f k a = false) : allI f l = false := by
  cases hb : allI f l
  · rfl
  · rw [allI_iff.1 hb k a h] at hf; cases hf
theorem allI_and {α : Type} (f g : Nat → α → Bool) (l : List α) : allI (fun i a => f i a && g i a) l = (allI f l && allI g l) := by
  rw [Bool.eq_iff_iff, Bool.and_eq_true, allI_iff, allI_iff, allI_iff]
  simp only [Bool.and_eq_true]
  exact ⟨fun h => ⟨fun k a hk => (h k a hk).1, fun k a hk => (h k a hk).2⟩, fun h k a hk => ⟨h.1 k a hk, h.2 k a hk⟩⟩
/-! ### what is valid -/
def pipeB (i : Nat) (p : Pp) : Bool := decide (p.to = i + 1) && (inB 0 i p.fr && spB p.lo p.hi 1000)
def bulbB (h : Hh) : Bool := inB 0 9999 h.id && (inB 1 500 h.need && (inB 0 100000 h.least && (spB h.bLo h.bHi 2000 && spB h.sLo h.sHi 10)))
def headB (n : Int) (h : Hh) : Bool := bulbB h && inB 1 n h.node
def idAt (hs : List Hh) (i : Nat) : Int := (hs.getD i default).id
def headI (hs : List Hh) (n : Int) (i : Nat) (h : Hh) : Bool := headB n h && !(decide (0 < i) && decide (h.id ≤ idAt hs (i - 1)))
def pumpB (p : Pm) : Bool := spB p.lo p.hi 100000 && inB 0 100 p.sl
def pipesB (l : List Pp) : Bool := inB 1 12 l.length && allI pipeB l
def headsB (l : List Hh) (n : Int) : Bool := inB 1 8 l.length && allI (headI l n) l
def pumpsB (l : List Pm) : Bool := inB 1 4 l.length && l.all pumpB
def netB (n : Nt) : Bool := pipesB n.ps && (headsB n.hs n.ps.length && (pumpsB n.pm && (inB 0 ((n.pm.length : Int) - 1) n.out && (spB n.tLo n.tHi 1000000 && inB 0 600 n.mins))))
def checkI (n : Nt) : Int := if netB n then 0 else 50
def incI (l : List Int) (i : Nat) (x : Int) : Bool := !(decide (0 < i) && decide (x ≤ l.getD (i - 1) 0))
def incB (l : List Int) : Bool := allI (incI l) l
def hasId (n : Nt) (x : Int) : Bool := n.hs.any fun h => h.id == x
def openB (n : Nt) (l : List Int) : Bool := l.all (hasId n) && incB l
def outB (n : Nt) (l : List Int) : Bool := decide ((l.length : Int) ≤ n.out) && (l.all (inB 0 ((n.pm.length : Int) - 1)) && incB l)
def heatB (l : List Int) : Bool := decide (l.length ≤ 60) && l.all (inB 0 2000)
/-! ### bulbs -/
def burstV (l : List Int) (d late : Int) : Int := match l.findIdx? fun x => decide (d ≤ x) with
  | none => 0
  | some i => if (i : Int) + 1 + late > l.length then 0 else (i : Int) + 1 + late
def burstsI (h : Hh) (l : List Int) : Int × Int × Int := if headB 12 h then (if heatB l then (burstV l h.bLo h.sLo, burstV l h.bHi h.sHi, 0) else (0, 0, 51)) else (0, 0, 50)
structure HeadOk (n : Int) (h : Hh) : Prop where
  id : 0 ≤ h.id ∧ h.id ≤ 9999
  node : 1 ≤ h.node ∧ h.node ≤ n
  need : 1 ≤ h.need ∧ h.need ≤ 500
  least : 0 ≤ h.least ∧ h.least ≤ 100000
  b : 0 ≤ h.bLo ∧ h.bLo ≤ h.bHi ∧ h.bHi ≤ 2000
  s : 0 ≤ h.sLo ∧ h.sLo ≤ h.sHi ∧ h.sHi ≤ 10
theorem headB_iff {n : Int} {h : Hh} : headB n h = true ↔ HeadOk n h := by
  simp only [headB, bulbB, spB, inB, Bool.and_eq_true, decide_eq_true_eq]
  exact ⟨fun ⟨⟨a, b, c, d, e⟩, f⟩ => ⟨a, f, b, c, d, e⟩, fun ⟨a, f, b, c, d, e⟩ => ⟨⟨a, b, c, d, e⟩, f⟩⟩
structure HeatOk (l : List Int) : Prop where
  len : l.length ≤ 60
  el : ∀ x ∈ l, 0 ≤ x ∧ x ≤ 2000
theorem heatB_iff {l : List Int} : heatB l = true ↔ HeatOk l := by
  simp only [heatB, inB, Bool.and_eq_true, decide_eq_true_eq, List.all_eq_true]
  exact ⟨fun ⟨a, b⟩ => ⟨a, b⟩, fun ⟨a, b⟩ => ⟨a, b⟩⟩
structure PipeOk (i : Nat) (p : Pp) : Prop where
  to : p.to = i + 1
  fr : 0 ≤ p.fr ∧ p.fr ≤ i
  f : 0 ≤ p.lo ∧ p.lo ≤ p.hi ∧ p.hi ≤ 1000
structure PumpOk (p : Pm) : Prop where
  f : 0 ≤ p.lo ∧ p.lo ≤ p.hi ∧ p.hi ≤ 100000
  s : 0 ≤ p.sl ∧ p.sl ≤ 100
structure NetOk (n : Nt) : Prop where
  pl : 1 ≤ n.ps.length ∧ n.ps.length ≤ 12
  p : ∀ (i : Nat) (p : Pp), n.ps[i]? = some p → PipeOk i p
  hl : 1 ≤ n.hs.length ∧ n.hs.length ≤ 8
  h : ∀ (i : Nat) (h : Hh), n.hs[i]? = some h → HeadOk n.ps.length h
  inc : ∀ (i : Nat) (h k : Hh), n.hs[i]? = some h → n.hs[i + 1]? = some k → h.id < k.id
  ml : 1 ≤ n.pm.length ∧ n.pm.length ≤ 4
  m : ∀ p ∈ n.pm, PumpOk p
  out : 0 ≤ n.out ∧ n.out ≤ (n.pm.length : Int) - 1
  t : 0 ≤ n.tLo ∧ n.tLo ≤ n.tHi ∧ n.tHi ≤ 1000000
  mins : 0 ≤ n.mins ∧ n.mins ≤ 600
theorem netB_iff {n : Nt} : netB n = true ↔ NetOk n := by
  simp only [netB, pipesB, headsB, pumpsB, inB, spB, Bool.and_eq_true, decide_eq_true_eq, allI_iff, List.all_eq_true]
  constructor
  · rintro ⟨⟨a, b⟩, ⟨c, d⟩, ⟨e, f⟩, g, t, m⟩
    refine ⟨by omega, fun i p hp => ?_, by omega, fun i h hh => ?_, fun i h k h1 h2 => ?_, by omega, fun p hp => ?_, g, t, m⟩
    · have := b i p hp
      simp only [pipeB, inB, spB, Bool.and_eq_true, decide_eq_true_eq] at this
      exact ⟨this.1, this.2.1, this.2.2⟩
    · have := d i h hh
      simp only [headI, Bool.and_eq_true] at this
      exact headB_iff.1 this.1
    · have := d (i + 1) k h2
      simp only [headI, Bool.and_eq_true, idAt, List.getD_eq_getElem?_getD, Nat.add_sub_cancel, h1] at this
      simpa using this.2
    · have := f p hp
      simp only [pumpB, inB, spB, Bool.and_eq_true, decide_eq_true_eq] at this
      exact ⟨this.1, this.2⟩
  · intro o
    have hp := o.pl
    have hh := o.hl
    have hm := o.ml
    refine ⟨⟨by omega, fun i p hp => ?_⟩, ⟨by omega, fun i h hh => ?_⟩, ⟨by omega, fun p hp => ?_⟩, o.out, o.t, o.mins⟩
    · have := o.p i p hp
      simp only [pipeB, inB, spB, Bool.and_eq_true, decide_eq_true_eq]
      exact ⟨this.to, this.fr, this.f⟩
    · simp only [headI, Bool.and_eq_true]
      refine ⟨headB_iff.2 (o.h i h hh), ?_⟩
      cases i with
      | zero => rfl
      | succ i =>
        have hi : i < n.hs.length := by
          rcases Nat.lt_or_ge (i + 1) n.hs.length with h' | h'
          · omega
          · rw [List.getElem?_eq_none h'] at hh; cases hh
        have := o.inc i _ h (List.getElem?_eq_getElem hi) hh
        simp only [idAt, List.getD_eq_getElem?_getD, Nat.add_sub_cancel, List.getElem?_eq_getElem hi, Option.getD_some]
        simp; omega
    · have := o.m p hp
      simp only [pumpB, inB, spB, Bool.and_eq_true, decide_eq_true_eq]
      exact ⟨this.f, this.s⟩
theorem checkI_ok {n : Nt} : checkI n = 0 ↔ NetOk n := by
  rw [← netB_iff]
  unfold checkI
  cases netB n <;> simp
end Go.Proofs.YtcbdggmojnnbdaaDoor
