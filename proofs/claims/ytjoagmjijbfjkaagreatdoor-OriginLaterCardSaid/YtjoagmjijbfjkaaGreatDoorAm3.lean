/-
  WHAT AN OPERATION DOES TO ABSTRACT VALUES: 'aval'. No capacity, no block's number, no draw.
-/
import Derived.Test.YtjoagmjijbfjkaaGreatDoorAm2
namespace Go.Am

inductive TD where
  | bool | int (k : IntKind) | str | ptr | slice (e : TypeId) | struct (fs : List (Nat × TypeId × Bool)) | arr (n : Nat) (e : TypeId)
  | map (k v : TypeId) | iface | func | other
  deriving DecidableEq
structure TI where
  td : TD
  size : Nat
  bytes : Nat
  zero : List AV
  cmp : Bool
  std : Bool

def ofCell : Value → AV
  | .bool b => .bool b
  | .int k n => .int k n
  | .string s => .str s
  | .slice none 0 0 => .nil
  | .pointer none => .nptr
  | .map none => .nmap
  | .nilFunc => .nilFunc
  | .nilIface => .nilIface
  | _ => .any
def ofVal : Value → AV
  | .agg cs => .agg (cs.toList.map ofCell)
  | .tuple vs => if vs.size = 0 then .undef else .any
  | v => ofCell v

def tdOf : TypeDesc → TD
  | .bool => .bool
  | .int k => .int k
  | .string => .str
  | .pointer _ => .ptr
  | .slice e => .slice e
  | .struct fs => .struct (fs.toList.map fun f => (f.offset, f.type, f.name == "_"))
  | .array n e => .arr n e
  | .map k v => .map k v
  | .interface _ => .iface
  | .func _ _ _ => .func
  | _ => .other
def tinfo (P : Program) (t : TypeId) : Option TI :=
  match P.underlying t, P.info? t with
  | some d, some i => match i.zero with
    | some z => some { td := tdOf d, size := i.size, bytes := i.bytes, zero := z.cells.toList.map ofCell, cmp := !P.eqGuardType P.depth t, std := match d with | .struct _ => P.stoodInHeld t | _ => false }
    | none => none
  | _, _ => none
def TD.agg : TD → Bool
  | .struct _ => true
  | .arr _ _ => true
  | _ => false

/-- The cells of a value that is known whole. -/
def acells : AV → Option (List AV)
  | .any => none
  | .undef => none
  | .tup _ => none
  | .agg cs => some cs
  | v => some [v]
/-- A cell that may be stored. -/
def cellB : AV → Bool
  | .any => false
  | .undef => false
  | .tup _ => false
  | .agg _ => false
  | _ => true

def splice : List AV → Nat → List AV → List AV
  | cs, _, [] => cs
  | cs, off, x :: r => splice (cs.set off x) (off + 1) r
def rep : Nat → List AV → List AV
  | 0, _ => []
  | n + 1, z => z ++ rep n z

def aread (T : TI) (cs : List AV) : Option AV :=
  if T.td.agg then (if T.size ≤ cs.length then some (.agg (cs.take T.size)) else none) else cs[0]?

def apart (P : Program) (t : TypeId) (cs : List AV) (off : Nat) : Option AV :=
  match tinfo P t with
  | some T => if T.td.agg then (if off + T.size ≤ cs.length then some (.agg ((cs.drop off).take T.size)) else none) else cs[off]?
  | none => none

def afill (place : Nat → Option (Nat × Nat)) (cells : List AV) : List (Nat × AV) → Option (List AV)
  | [] => some cells
  | (i, v) :: rest =>
    match place i, acells v with
    | some (off, size), some cs => if cs.length = size ∧ off + cs.length ≤ cells.length then afill place (splice cells off cs) rest else none
    | _, _ => none

def andO : Option Bool → Option Bool → Option Bool
  | some a, some b => some (a && b)
  | _, _ => none

def aeqF (P : Program) (f : TypeId → AV → AV → Option Bool) : List (Nat × TypeId × Bool) → List AV → List AV → Option Bool
  | [], _, _ => some true
  | (off, t, blank) :: fs, xs, ys =>
    if blank then aeqF P f fs xs ys else
    match apart P t xs off, apart P t ys off with
    | some a, some b => andO (f t a b) (aeqF P f fs xs ys)
    | _, _ => none
def aeqA (P : Program) (f : TypeId → AV → AV → Option Bool) (e : TypeId) (sz : Nat) : List Nat → List AV → List AV → Option Bool
  | [], _, _ => some true
  | i :: is, xs, ys =>
    match apart P e xs (i * sz), apart P e ys (i * sz) with
    | some a, some b => andO (f e a b) (aeqA P f e sz is xs ys)
    | _, _ => none
def aeqT (P : Program) : Nat → TypeId → AV → AV → Option Bool
  | 0, _, _, _ => none
  | d + 1, t, x, y =>
    match tinfo P t with
    | none => none
    | some T =>
      match T.td, x, y with
      | .bool, .bool a, .bool b => some (a == b)
      | .int _, .int k a, .int k' b => if k = k' then some (a == b) else none
      | .str, .str a, .str b => some (a == b)
      | .struct fs, .agg xs, .agg ys => if T.std then none else aeqF P (aeqT P d) fs xs ys
      | .arr n e, .agg xs, .agg ys => (match tinfo P e with | some E => aeqA P (aeqT P d) e E.size (List.range n) xs ys | none => none)
      | .slice _, .nil, .nil => some true
      | .slice _, .lst _ (_ :: _), .nil => some false
      | .ptr, .nptr, .nptr => some true
      | .ptr, .nptr, .cptr _ => some false
      | .ptr, .cptr _, .nptr => some false
      | .ptr, .nptr, .vptr _ _ => some false
      | .ptr, .vptr _ _, .nptr => some false
      | .func, .nilFunc, .nilFunc => some true
      | .func, .fn _ _ _, .nilFunc => some false
      | .func, .nilFunc, .fn _ _ _ => some false
      | .map _ _, .nmap, .nmap => some true
      | .map _ _, .nmap, .mref _ => some false
      | .map _ _, .mref _, .nmap => some false
      | .iface, .nilIface, .iface _ _ => some false
      | .iface, .iface _ _, .nilIface => some false
      | _, _, _ => none
def abinInt (op : BinOp) (k : IntKind) (a b : Int) : Option AV :=
  match op with
  | .add => some (.int k (k.wrap (a + b)))
  | .sub => some (.int k (k.wrap (a - b)))
  | .mul => some (.int k (k.wrap (a * b)))
  | .quo => if b = 0 then none else some (.int k (k.wrap (a.tdiv b)))
  | .rem => if b = 0 then none else some (.int k (a.tmod b))
  | .shl => if b < 0 then none else some (.int k (k.wrap (a * 2 ^ (min b.toNat k.bits))))
  | .shr => if b < 0 then none else some (.int k (a.fdiv (2 ^ (min b.toNat k.bits))))
  | .and => some (.int k (k.wrap (BitVec.ofInt k.bits a &&& BitVec.ofInt k.bits b).toNat))
  | .or => some (.int k (k.wrap (BitVec.ofInt k.bits a ||| BitVec.ofInt k.bits b).toNat))
  | .xor => some (.int k (k.wrap (BitVec.ofInt k.bits a ^^^ BitVec.ofInt k.bits b).toNat))
  | .andNot => some (.int k (k.wrap (BitVec.ofInt k.bits a &&& ~~~BitVec.ofInt k.bits b).toNat))
  | .eql => some (.bool (a == b))
  | .neq => some (.bool (a != b))
  | .lss => some (.bool (decide (a < b)))
  | .leq => some (.bool (decide (a ≤ b)))
  | .gtr => some (.bool (decide (a > b)))
  | .geq => some (.bool (decide (a ≥ b)))
def cmpOk (P : Program) (t : TypeId) : Bool := match tinfo P t with | some T => T.cmp | none => false
def abin (P : Program) (op : BinOp) (t : TypeId) (x y : AV) : Option AV :=
  match x, y with
  | .int k a, .int k' b => if k = k' then abinInt op k a b else (match op with
    | .shr => if b < 0 then none else some (.int k (a.fdiv (2 ^ (min b.toNat k.bits))))
    | _ => none)
  | .str a, .str b => (match op with
    | .add => if ((a.size + b.size : Nat) : Int) > IntKind.i64.max then none else some (.str ⟨⟨a.data.toList ++ b.data.toList⟩⟩)
    | .eql => some (.bool (a.data.toList == b.data.toList))
    | .neq => some (.bool !(a.data.toList == b.data.toList))
    | _ => none)
  | .agg xs, .agg ys => if cmpOk P t then
      (match op with
      | .eql => (aeqT P 6 t (.agg xs) (.agg ys)).map .bool
      | .neq => (aeqT P 6 t (.agg xs) (.agg ys)).map fun b => .bool !b
      | _ => none) else none
  | x, y =>
    match op with
    | .eql => (aeqT P 6 t x y).map .bool
    | .neq => (aeqT P 6 t x y).map fun b => .bool !b
    | _ => none
def aun (op : UnOp) (x : AV) : Option AV :=
  match op, x with
  | .neg, .int k n => some (.int k (k.wrap (0 - n)))
  | .not, .bool b => some (.bool !b)
  | _, _ => none

structure Out where
  v : AV
  ups : List (Nat × Option AObj) := []
def upH : AHeap → List (Nat × Option AObj) → AHeap
  | H, [] => H
  | H, (i, some o) :: r => upH (hset H i o) r
  | H, (i, none) :: r => upH (herase H i) r

/-- The element of an index that is inside. -/
def elemAt (xs : List (List AV)) (i : Int) : Option (List AV) := if 0 ≤ i then xs[i.toNat]? else none

def aindexAddr (P : Program) (_h : Nat → Option AObj) (t : TypeId) (x ix : AV) : Option AV :=
  match ix, tinfo P t with
  | .int _ i, some T =>
    match T.td, x with
    | .slice e, .lst esz xs => (match tinfo P e with
      | some E => if esz = E.size then (elemAt xs i).map .cptr else none
      | none => none)
    | .slice e, .rsl id off len esz => (match tinfo P e with
      | some E => if esz = E.size ∧ 0 ≤ i ∧ i.toNat < len then some (.vptr id (off + i.toNat * esz)) else none
      | none => none)
    | .arr n e, .cptr cs => (match tinfo P e with
      | some E => if 0 ≤ i ∧ i.toNat < n then some (.cptr (cs.drop (i.toNat * E.size))) else none
      | none => none)
    | .arr n e, .vptr id off => (match tinfo P e with
      | some E => if 0 ≤ i ∧ i.toNat < n then some (.vptr id (off + i.toNat * E.size)) else none
      | none => none)
    | _, _ => none
  | _, _ => none

def keyEq : AV → AV → Option Bool
  | .int k a, .int k' b => if k = k' then some (a == b) else none
  | .bool a, .bool b => some (a == b)
  | .str a, .str b => some (a == b)
  | _, _ => none

def amin2 : AV → AV → Option AV
  | .int k x, .int _ y => some (.int k (if y < x then y else x))
  | _, _ => none
def amax2 : AV → AV → Option AV
  | .int k x, .int _ y => some (.int k (if y > x then y else x))
  | _, _ => none
def foldO (f : AV → AV → Option AV) : AV → List AV → Option AV
  | x, [] => some x
  | x, y :: r => match f x y with | some z => foldO f z r | none => none

end Go.Am
