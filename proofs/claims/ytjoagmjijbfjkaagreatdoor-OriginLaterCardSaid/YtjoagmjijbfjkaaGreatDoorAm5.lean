/-
  'aop': AN OPERATION ON ABSTRACT VALUES, and that the model's own run follows it.
-/
import Derived.Test.YtjoagmjijbfjkaaGreatDoorAm4
namespace Go.Am

def aLoad (P : Program) (h : Nat → Option AObj) (t : TypeId) (a : AV) : Option Out :=
  match tinfo P t with
  | none => none
  | some T =>
    match a with
    | .cptr cs => (aread T cs).map fun x => ⟨x, []⟩
    | .vptr i off => (match h i with
      | some (.cells cs) => (aread T (cs.drop off)).map fun x => ⟨x, []⟩
      | _ => none)
    | _ => none
def aStore (P : Program) (h : Nat → Option AObj) (t : TypeId) (a x : AV) : Option Out :=
  match tinfo P t, a, acells x with
  | some T, .vptr i off, some xs => (match h i with
    | some (.cells cs) => if xs.length = T.size ∧ off + xs.length ≤ cs.length ∧ xs.all cellB = true then some ⟨.undef, [(i, some (.cells (splice cs off xs)))]⟩ else none
    | _ => none)
  | _, _, _ => none
def fieldPl (P : Program) (fs : List (Nat × TypeId × Bool)) (i : Nat) : Option (Nat × Nat) :=
  match fs[i]? with
  | some f => (tinfo P f.2.1).map fun U => (f.1, U.size)
  | none => none
def aBuild (P : Program) (t : TypeId) (parts : List (Nat × AV)) : Option Out :=
  match tinfo P t with
  | some T => (match T.td with
    | .struct fs => if (fs.all fun f => (tinfo P f.2.1).isSome) then (afill (fieldPl P fs) T.zero parts).map fun cs => ⟨.agg cs, []⟩ else none
    | .arr _ e => (match tinfo P e with
      | some E => (afill (fun i => some (i * E.size, E.size)) T.zero parts).map fun cs => ⟨.agg cs, []⟩
      | none => none)
    | _ => none)
  | none => none
def aBuildSlice (P : Program) (id : Nat) (t : TypeId) (len : Nat) (parts : List (Nat × AV)) : Option Out :=
  match tinfo P t with
  | some T => (match T.td with
    | .slice e => (match tinfo P e with
      | some E => if len * E.size ≤ 2 ^ 24 ∧ E.zero.length = E.size then
          (afill (fun i => some (i * E.size, E.size)) (rep len E.zero) parts).map fun cs => ⟨.rsl id 0 len E.size, [(id, some (.cells cs))]⟩ else none
      | none => none)
    | _ => none)
  | none => none
/-- A slice that is made with its length alone. -/
def aMakeSlice (P : Program) (id : Nat) (t : TypeId) (l c : AV) : Option Out :=
  match l, c with
  | .int _ n, .int _ m => (match tinfo P t with
    | some T => (match T.td with
      | .slice e => (match tinfo P e with
        | some E => if n = m ∧ 0 ≤ n ∧ n ≤ 2 ^ 24 ∧ n.toNat * E.size ≤ 2 ^ 24 ∧ (E.bytes : Int) * n ≤ 281474976710656 ∧ E.zero.length = E.size then
            some ⟨.rsl id 0 n.toNat E.size, [(id, some (.cells (rep n.toNat E.zero)))]⟩ else none
        | none => none)
      | _ => none)
    | none => none)
  | _, _ => none
def aFieldAddr (P : Program) (s : TypeId) (x : AV) (f : Nat) : Option AV :=
  match tinfo P s with
  | some T => (match T.td with
    | .struct fs => (match fs[f]? with
      | some (off, t, _) => (match tinfo P t with
        | some U => if U.size = 0 then none else (match x with
          | .cptr cs => some (.cptr (cs.drop off))
          | .vptr i o => some (.vptr i (o + off))
          | _ => none)
        | none => none)
      | none => none)
    | _ => none)
  | none => none
def aField (P : Program) (s : TypeId) (x : AV) (f : Nat) : Option AV :=
  match tinfo P s with
  | some T => (match T.td with
    | .struct fs => (match fs[f]? with
      | some (off, t, _) => (match x with
        | .agg cs => apart P t cs off
        | _ => none)
      | none => none)
    | _ => none)
  | none => none
def aConvert (P : Program) (s d : TypeId) (x : AV) : Option AV :=
  match tinfo P s, tinfo P d with
  | some _, some D => (match D.td, x with
    | .int k, .int _ n => some (.int k (k.wrap n))
    | _, _ => none)
  | _, _ => none
def aMakeIface (P : Program) (t : TypeId) (x : AV) : Option AV :=
  match tinfo P t with
  | some T => if T.td = .iface then none else some (.iface t x)
  | none => none

/-- 'len' -/
def aLen (P : Program) (h : Nat → Option AObj) (t : TypeId) (x : AV) : Option AV :=
  match tinfo P t with
  | some T => (match T.td, x with
    | .str, .str s => some (.int .i64 s.size)
    | .arr n _, _ => some (.int .i64 n)
    | .slice _, .nil => some (.int .i64 0)
    | .slice _, .lst _ xs => some (.int .i64 xs.length)
    | .slice _, .rsl _ _ len _ => some (.int .i64 len)
    | .map _ _, .nmap => some (.int .i64 0)
    | .map _ _, .imap es => some (.int .i64 es.length)
    | .map _ _, .mref i => (match h i with | some (.map es) => some (.int .i64 es.length) | _ => none)
    | _, _ => none)
  | none => none
/-- The cells of a slice that is read whole, and how many elements. -/
def srcCells (h : Nat → Option AObj) (size : Nat) (x : AV) : Option (List AV × Nat) :=
  match x with
  | .nil => some ([], 0)
  | .lst esz ys => if esz = size ∧ ys.all (fun y => y.length == esz) = true then some (ys.flatten, ys.length) else none
  | .rsl j off len esz => (match h j with
    | some (.cells cs) => if esz = size ∧ off + len * esz ≤ cs.length then some ((cs.drop off).take (len * esz), len) else none
    | _ => none)
  | _ => none
def aAppend0 (P : Program) (h : Nat → Option AObj) (id : Nat) (ts tx : TypeId) (s x : AV) : Option Out :=
  match tinfo P ts, tinfo P tx with
  | some T, some X => (match T.td, X.td with
    | .slice e, .slice _ => (match tinfo P e with
      | some E => if 0 < E.bytes ∧ E.bytes ≤ 1048576 ∧ E.zero.length = E.size then (match srcCells h E.size x with
        | some (new, n) => (match s with
          | .nil => if n = 0 then some ⟨.nil, []⟩ else if n * E.bytes ≤ 1099511627776 then some ⟨.rsl id 0 n E.size, [(id, some (.cells new))]⟩ else none
          | .rsl i 0 len esz => (match h i with
            | some (.cells cs) => if esz = E.size ∧ cs.length = len * esz ∧ new.all cellB = true ∧ (len + n) * E.bytes ≤ 1099511627776 then
                some ⟨.rsl id 0 (len + n) esz, [(i, none), (id, some (.cells (cs ++ new)))]⟩ else none
            | _ => none)
          | _ => none)
        | none => none) else none
      | none => none)
    | _, _ => none)
  | _, _ => none
/-- So many zeros, appended to nothing. -/
def aAppendI (P : Program) (id : Nat) (ts tx : TypeId) (x : AV) : Option Out :=
  match tinfo P ts, tinfo P tx, x with
  | some T, some X, .int _ n => (match T.td, X.td with
    | .slice e, .int _ => (match tinfo P e with
      | some E => if 0 < E.bytes ∧ E.bytes ≤ 1048576 ∧ 0 < E.size ∧ E.zero.length = E.size ∧ 0 < n ∧ n.toNat * E.bytes ≤ 1099511627776 then some ⟨.rsl id 0 n.toNat E.size, [(id, some (.cells (rep n.toNat E.zero)))]⟩ else none
      | none => none)
    | _, _ => none)
  | _, _, _ => none
/-- What a slice of one's own does not reach is left out of what is known. -/
def aAppend (P : Program) (h : Nat → Option AObj) (id : Nat) (ts tx : TypeId) (s x : AV) : Option Out :=
  match s with
  | .nil => (match x with | .int _ _ => aAppendI P id ts tx x | _ => aAppend0 P h id ts tx s x)
  | .rsl i 0 len esz => (match h i with
    | some (.cells cs) => if len * esz < cs.length then aAppend0 P (fun j => if i = j then some (.cells (cs.take (len * esz))) else h j) id ts tx s x else aAppend0 P h id ts tx s x
    | _ => none)
  | _ => aAppend0 P h id ts tx s x
def cutS (s : AV) (m : Nat) : AV := match s with | .rsl j off _ e => .rsl j off m e | s => s
/-- Cells copied into a slice of one's own. -/
def aCopy (P : Program) (h : Nat → Option AObj) (t : TypeId) (d s : AV) : Option Out :=
  match tinfo P t with
  | some T => (match T.td, d with
    | .slice e, .rsl i off len esz => (match tinfo P e, h i with
      | some E, some (.cells cs) => (match srcCells h E.size s with
        | some (_, n) => (match srcCells h E.size (cutS s (Nat.min n len)) with
          | some (new, m) => if m = Nat.min n len ∧ esz = E.size ∧ off + new.length ≤ cs.length ∧ new.all cellB = true then some ⟨.int .i64 m, [(i, some (.cells (splice cs off new)))]⟩ else none
          | none => none)
        | none => none)
      | _, _ => none)
    | _, _ => none)
  | none => none
def aCap (P : Program) (t : TypeId) (x : AV) : Option AV :=
  match tinfo P t with
  | some T => (match T.td, x with
    | .slice _, .nil => some (.int .i64 0)
    | _, _ => none)
  | none => none
/-- A bound of a slice expression. -/
def abound (d : Nat) (x : Option AV) : Option Nat :=
  match x with
  | none => some d
  | some (.int _ n) => if 0 ≤ n then some n.toNat else none
  | _ => none
def chunks (esz : Nat) (cs : List AV) : Nat → List (List AV)
  | 0 => []
  | n + 1 => cs.take esz :: chunks esz (cs.drop esz) n
def aSlice (P : Program) (h : Nat → Option AObj) (t : TypeId) (x : AV) (lo hi : Option AV) : Option AV :=
  match tinfo P t with
  | some T => (match T.td, x with
    | .slice e, .lst esz xs => (match tinfo P e, abound 0 lo, abound xs.length hi with
      | some E, some l, some r => if esz = E.size ∧ l ≤ r ∧ r ≤ xs.length then some (.lst esz ((xs.take r).drop l)) else none
      | _, _, _ => none)
    | .slice e, .nil => (match tinfo P e, abound 0 lo, abound 0 hi with
      | some _, some 0, some 0 => some .nil
      | _, _, _ => none)
    | .slice e, .rsl i off len esz => (match tinfo P e, abound 0 lo, abound len hi with
      | some E, some l, some r => if esz = E.size ∧ l ≤ r ∧ r ≤ len then some (.rsl i (off + l * esz) (r - l) esz) else none
      | _, _, _ => none)
    | .arr n e, .cptr cs => (match tinfo P e, abound 0 lo, abound n hi with
      | some E, some l, some r => if l ≤ r ∧ r ≤ n ∧ n * E.size ≤ cs.length then some (.lst E.size (chunks E.size (cs.drop (l * E.size)) (r - l))) else none
      | _, _, _ => none)
    | .arr n e, .vptr i off => (match tinfo P e, abound 0 lo, abound n hi, h i with
      | some E, some l, some r, some (.cells cs) => if l ≤ r ∧ r ≤ n ∧ off + n * E.size ≤ cs.length then some (.rsl i (off + l * E.size) (r - l) E.size) else none
      | _, _, _, _ => none)
    | .str, .str s => (match abound 0 lo, abound s.size hi with
      | some l, some r => if l ≤ r ∧ r ≤ s.size then some (.str (s.extract l r)) else none
      | _, _ => none)
    | _, _ => none)
  | none => none
/-- A key of a plain type. -/
def akey1 : TD → AV → Bool
  | .int k, .int k' _ => decide (k' = k)
  | .str, .str _ => true
  | .bool, .bool _ => true
  | _, _ => false
def plainA : AV → Bool
  | .int _ _ => true
  | .str _ => true
  | .bool _ => true
  | _ => false
def plainEq : AV → AV → Bool
  | .int k a, .int k' b => decide (k = k') && decide (a = b)
  | .str a, .str b => a == b
  | .bool a, .bool b => a == b
  | _, _ => false
def plainEqL : List AV → List AV → Bool
  | [], [] => true
  | a :: as, b :: bs => plainEq a b && plainEqL as bs
  | _, _ => false
def akeyF (P : Program) (xs : List AV) : List (Nat × TypeId × Bool) → Bool
  | [] => true
  | (off, t, blank) :: fs => (blank || match apart P t xs off, tinfo P t with
    | some y, some U => akey1 U.td y
    | _, _ => false) && akeyF P xs fs
/-- A key: of a plain type, or a struct of plain fields. -/
def akeyB (P : Program) (d : TD) (k : AV) : Bool :=
  match d, k with
  | .struct fs, .agg xs => akeyF P xs fs
  | d, k => akey1 d k
def akeq (P : Program) (kt : TypeId) (d : TD) (k x : AV) : Option Bool :=
  match d, k, x with
  | .int _, .int k a, .int k' b => if k = k' then some (a == b) else none
  | .str, .str a, .str b => some (a == b)
  | .bool, .bool a, .bool b => some (a == b)
  | .struct _, .agg xs, .agg ys => (match aeqT P 6 kt (.agg xs) (.agg ys) with
    | some true => if plainEqL xs ys = true then some true else none
    | some false => some false
    | none => none)
  | _, _, _ => none
def afind (P : Program) (kt : TypeId) (d : TD) (k : AV) : List (AV × AV) → Nat → Option (Option (Nat × AV))
  | [], _ => some none
  | e :: es, i => match akeq P kt d k e.1 with
    | some true => some (some (i, e.2))
    | some false => afind P kt d k es (i + 1)
    | none => none
def azero (P : Program) (t : TypeId) : Option AV := (P.info? t).bind fun i => i.zero.map ofVal
/-- The entries of a map that is read. -/
def amap (h : Nat → Option AObj) (x : AV) : Option (List (AV × AV)) :=
  match x with
  | .nmap => some []
  | .imap es => some es
  | .mref i => (match h i with | some (.map es) => some es | _ => none)
  | _ => none
def aLookup (P : Program) (h : Nat → Option AObj) (t : TypeId) (x k : AV) (ok : Bool) : Option AV :=
  match tinfo P t with
  | some T => (match T.td with
    | .map kt et => (match tinfo P kt, amap h x with
      | some K, some es => if akeyB P K.td k = true then (match afind P kt K.td k es 0, azero P et with
        | some (some (_, v)), _ => some (if ok = true then .tup [v, .bool true] else v)
        | some none, some z => some (if ok = true then .tup [z, .bool false] else z)
        | _, _ => none) else none
      | _, _ => none)
    | _ => none)
  | none => none
def aMapUpdate (P : Program) (h : Nat → Option AObj) (t : TypeId) (x k v : AV) : Option Out :=
  match tinfo P t with
  | some T => (match T.td, x with
    | .map kt _, .mref i => (match tinfo P kt, h i with
      | some K, some (.map es) => if akeyB P K.td k = true then (match afind P kt K.td k es 0 with
        | some (some (j, _)) => some ⟨.undef, [(i, some (.map (es.set j (k, v))))]⟩
        | some none => some ⟨.undef, [(i, some (.map (es ++ [(k, v)])))]⟩
        | none => none) else none
      | _, _ => none)
    | _, _ => none)
  | none => none
def aDelete (P : Program) (h : Nat → Option AObj) (t : TypeId) (x k : AV) : Option Out :=
  match tinfo P t with
  | some T => (match T.td, x with
    | .map kt _, .mref i => (match tinfo P kt, h i with
      | some K, some (.map es) => if akeyB P K.td k = true then (match afind P kt K.td k es 0 with
        | some (some (j, _)) => some ⟨.undef, [(i, some (.map (es.eraseIdx j)))]⟩
        | some none => some ⟨.undef, [(i, some (.map es))]⟩
        | none => none) else none
      | _, _ => none)
    | _, _ => none)
  | none => none
def aIndex (P : Program) (t : TypeId) (x i : AV) : Option AV :=
  match tinfo P t with
  | some T => (match T.td, x, i with
    | .arr n e, .agg cs, .int _ j => (match tinfo P e with
      | some E => if 0 ≤ j ∧ j < n then apart P e cs (j.toNat * E.size) else none
      | none => none)
    | .str, .str s, .int _ j => if 0 ≤ j then (s[j.toNat]?).map fun b => .int .u8 b.toNat else none
    | _, _, _ => none)
  | none => none
def aNilCheck (x : AV) : Option AV :=
  match x with
  | .vptr i o => some (.vptr i o)
  | .cptr cs => some (.cptr cs)
  | .yld i => some (.yld i)
  | .fn (.func f) fs cs => some (.fn (.func f) fs cs)
  | .iface t v => some (.iface t v)
  | _ => none

def aBuiltin (P : Program) (b : Builtin) (ts : List TypeId) (xs : List AV) (h : Nat → Option AObj) (id : Nat) : Option Out :=
  match b, ts, xs with
  | .len, t :: _, [x] => (aLen P h t x).map fun v => ⟨v, []⟩
  | .append, t :: u :: _, [s, x] => aAppend P h id t u s x
  | .min, _, x :: r => (foldO amin2 x r).map fun v => ⟨v, []⟩
  | .max, _, x :: r => (foldO amax2 x r).map fun v => ⟨v, []⟩
  | .delete, t :: _, [x, k] => aDelete P h t x k
  | .copy, t :: _, [d, s] => aCopy P h t d s
  | .cap, t :: _, [x] => (aCap P t x).map fun v => ⟨v, []⟩
  | _, _, _ => none

/-- An iterator over a map that is only read. -/
def aRange (P : Program) (id : Nat) (t : TypeId) (x : AV) : Option Out :=
  match tinfo P t with
  | some T => (match T.td, x with
    | .map _ _, .imap es => some ⟨.vptr id 0, [(id, some (.iter none es))]⟩
    | _, _ => none)
  | none => none
/-- The entry of the round. -/
def aEntry (x : AV) (h : Nat → Option AObj) : Option Out :=
  match x with
  | .vptr i 0 => (match h i with
    | some (.iter (some e) _) => some ⟨.tup [e.1, e.2], []⟩
    | _ => none)
  | _ => none

def aval (P : Program) (o : Op) (ρ : Operand → AV) (h : Nat → Option AObj) (id : Nat) : Option Out :=
  match o with
  | .move x => some ⟨ρ x, []⟩
  | .assign x => some ⟨ρ x, []⟩
  | .pick c a b => (match ρ c with | .bool t => some ⟨if t = true then ρ a else ρ b, []⟩ | _ => none)
  | .alloc e => (match tinfo P e with | some T => some ⟨.vptr id 0, [(id, some (.cells T.zero))]⟩ | none => none)
  | .box _ x => (match acells (ρ x) with | some cs => some ⟨.vptr id 0, [(id, some (.cells cs))]⟩ | none => none)
  | .build t parts => aBuild P t (parts.toList.map fun p => (p.1, ρ p.2))
  | .buildSlice t len parts => aBuildSlice P id t len (parts.toList.map fun p => (p.1, ρ p.2))
  | .makeSlice t l c => aMakeSlice P id t (ρ l) (ρ c)
  | .load t a => aLoad P h t (ρ a)
  | .store t a x => aStore P h t (ρ a) (ρ x)
  | .binOp op t x y _ => (abin P op t (ρ x) (ρ y)).map fun v => ⟨v, []⟩
  | .unOp op _ x => (aun op (ρ x)).map fun v => ⟨v, []⟩
  | .convert s d x => (aConvert P s d (ρ x)).map fun v => ⟨v, []⟩
  | .makeFunc f fs cs => some ⟨.fn f (fs.toList.map ρ) (cs.toList.map ρ), []⟩
  | .makeMap _ none => some ⟨.mref id, [(id, some (.map []))]⟩
  | .makeInterface t x => (aMakeIface P t (ρ x)).map fun v => ⟨v, []⟩
  | .fieldAddr s x f => (aFieldAddr P s (ρ x) f).map fun v => ⟨v, []⟩
  | .field s x f => (aField P s (ρ x) f).map fun v => ⟨v, []⟩
  | .indexAddr t x i => (aindexAddr P h t (ρ x) (ρ i)).map fun v => ⟨v, []⟩
  | .slice t x lo hi none => (aSlice P h t (ρ x) (lo.map ρ) (hi.map ρ)).map fun v => ⟨v, []⟩
  | .call { callee := .builtin b, args := args, argTypes := ts } => aBuiltin P b ts.toList (args.toList.map ρ) h id
  | .nilCheck x => (aNilCheck (ρ x)).map fun v => ⟨v, []⟩
  | .lookup t x k ok => (aLookup P h t (ρ x) (ρ k) ok).map fun v => ⟨v, []⟩
  | .mapUpdate t m k x => aMapUpdate P h t (ρ m) (ρ k) (ρ x)
  | .insert t m k x => aMapUpdate P h t (ρ m) (ρ k) (ρ x)
  | .index t x i => (aIndex P t (ρ x) (ρ i)).map fun v => ⟨v, []⟩
  | .extract x i => (match ρ x with | .tup vs => vs[i]?.map fun v => ⟨v, []⟩ | _ => none)
  | .range t x => aRange P id t (ρ x)
  | .entry x => aEntry (ρ x) h
  | _ => none

/-- What an operation's own run owes. -/
def Sound (P : Program) (s : Sem Next) (N : Nat → Prop) (κ : Nat → Option Nat) (H : AHeap) (w : World) (out : Out) (id : Nat) : Prop :=
  ∃ κ' w' v, (s.run P w = .ok (.value v) w' ∨ (s.run P w = .ok .skip w' ∧ v = Go.undef)) ∧ Step N κ H w κ' (upH H out.ups) w' ∧
    VRel κ' (avoid κ' N (upH H out.ups)) w' out.v v ∧ ∀ j, (j ≠ id ∨ out.ups = []) → Fresh κ H j → Fresh κ' (upH H out.ups) j

theorem Sound.same {P : Program} {s : Sem Value} {N : Nat → Prop} {κ : Nat → Option Nat} {H : AHeap} {w : World} {x : AV} {id : Nat} (hr : HRel κ N H w)
    (h : ∃ v, s.run P w = .ok v w ∧ VRel κ (avoid κ N H) w x v) : Sound P (do pure (.value (← s))) N κ H w ⟨x, []⟩ id := by
  obtain ⟨v, h1, h2⟩ := h
  exact ⟨κ, w, v, .inl (by simp [h1]), .refl hr, h2, fun _ _ h => h⟩
theorem Sound.alloc {P : Program} {s : Sem Value} {N : Nat → Prop} {κ : Nat → Option Nat} {H : AHeap} {w : World} {id : Nat} {cs : List AV} {c : Array Value} {e : TypeId} {v : Value} {x : AV} (hr : HRel κ N H w) (hid : Fresh κ H id)
    (h : s.run P w = .ok v (w.alloc (.cells c e))) (hl : cs.length ≤ c.size) (hv : ∀ (i : Nat) (x : AV), cs[i]? = some x → ∃ v, c[i]? = some v ∧ VRel κ (avoid κ N H) w x v)
    (hx : VRel (withNew κ id (some w.heap.size)) (avoid (withNew κ id (some w.heap.size)) N (hset H id (.cells cs))) (w.alloc (.cells c e)) x v) :
    Sound P (do pure (.value (← s))) N κ H w ⟨x, [(id, some (.cells cs))]⟩ id := by
  refine ⟨_, _, v, .inl (by simp [h]), .alloc hr hid c e cs hl hv, hx, fun j hj hf => ?_⟩
  have hj : j ≠ id := hj.resolve_right (by simp)
  refine ⟨?_, ?_⟩
  · rw [withNew_old hj]; exact hf.1
  · show hget (hset H id (.cells cs)) j = none
    rw [hget_hset, if_neg (Ne.symm hj)]; exact hf.2

theorem acells_rel {κ : Nat → Option Nat} {av : Nat → Prop} {w : World} {x : AV} {v : Value} {cs : List AV} (h : VRel κ av w x v) (hc : acells x = some cs) :
    v.cells.size = cs.length ∧ ∀ (i : Nat) (c : AV), cs[i]? = some c → ∃ u, v.cells[i]? = some u ∧ VRel κ av w c u := by
  cases x with
  | any => simp [acells] at hc
  | undef => simp [acells] at hc
  | tup _ => simp [acells] at hc
  | agg l =>
    simp only [acells, Option.some.injEq] at hc
    subst hc
    obtain ⟨vs, rfl, h1, h2⟩ := h.agg_inv
    exact ⟨h1, h2⟩
  | _ =>
    simp only [acells, Option.some.injEq] at hc
    subst hc
    have hcell : v.cells = #[v] := by cases h <;> rfl
    rw [hcell]
    refine ⟨rfl, fun i c hi => ?_⟩
    cases i with
    | zero => simp at hi; subst hi; exact ⟨v, rfl, h⟩
    | succ i => simp at hi

theorem splice_length : ∀ (xs : List AV) (cs : List AV) (off : Nat), (splice cs off xs).length = cs.length := by
  intro xs; induction xs with
  | nil => intros; rfl
  | cons x xs ih => intro cs off; simp [splice, ih]
/-- Cells known one by one, in an array. -/
def CRel (κ : Nat → Option Nat) (av : Nat → Prop) (w : World) (cs : List AV) (vs : Array Value) : Prop :=
  vs.size = cs.length ∧ ∀ (i : Nat) (c : AV), cs[i]? = some c → ∃ u, vs[i]? = some u ∧ VRel κ av w c u
theorem CRel.set {κ : Nat → Option Nat} {av : Nat → Prop} {w : World} {cs : List AV} {vs : Array Value} (h : CRel κ av w cs vs) {off : Nat} {x : AV} {v : Value} (hv : VRel κ av w x v) :
    CRel κ av w (cs.set off x) (vs.setIfInBounds off v) := by
  refine ⟨by simpa using h.1, fun i c hi => ?_⟩
  by_cases e : i = off
  · subst e
    by_cases hlt : i < cs.length
    · rw [List.getElem?_set_self hlt] at hi; cases hi
      exact ⟨v, Array.getElem?_setIfInBounds_self_of_lt (by rw [h.1]; exact hlt), hv⟩
    · rw [List.getElem?_eq_none (by simpa using hlt)] at hi; cases hi
  · rw [List.getElem?_set_ne (Ne.symm e)] at hi
    obtain ⟨u, hu, hr⟩ := h.2 i c hi
    exact ⟨u, by rw [Array.getElem?_setIfInBounds_ne (Ne.symm e)]; exact hu, hr⟩
theorem CRel.splice {κ : Nat → Option Nat} {av : Nat → Prop} {w : World} (off : Nat) : ∀ (xs : List AV) (vs : List Value) (j : Nat) (cs : List AV) (ws : Array Value), CRel κ av w cs ws → vs.length = xs.length →
    (∀ (i : Nat) (x : AV), xs[i]? = some x → ∃ v, vs[i]? = some v ∧ VRel κ av w x v) →
    CRel κ av w (Am.splice cs (off + j) xs) ((vs.zipIdx j).foldl (fun cs (p : Value × Nat) => cs.setIfInBounds (off + p.2) p.1) ws) := by
  intro xs
  induction xs with
  | nil => intro vs j cs ws h hl _; have : vs = [] := by simpa using hl
           subst this; exact h
  | cons x xs ih =>
    intro vs j cs ws h hl hv
    cases vs with
    | nil => simp at hl
    | cons v vs =>
      have hv0 : VRel κ av w x v := by obtain ⟨u, hu, hr⟩ := hv 0 x rfl; simp at hu; subst hu; exact hr
      have := ih vs (j + 1) (cs.set (off + j) x) (ws.setIfInBounds (off + j) v) (h.set hv0) (by simpa using hl) (fun i y hy => by simpa using hv (i + 1) y (by simpa using hy))
      simpa [Am.splice, List.zipIdx_cons, Nat.add_assoc] using this
theorem CRel.fill {κ : Nat → Option Nat} {av : Nat → Prop} {w : World} {place : Nat → Option (Nat × Nat)} {ρ : Operand → AV} {σ : Operand → Value} : ∀ (l : List (Nat × Operand)) (cs : List AV) (vs : Array Value) (out : List AV), CRel κ av w cs vs →
    (∀ p ∈ l, VRel κ av w (ρ p.2) (σ p.2)) → afill place cs (l.map fun p => (p.1, ρ p.2)) = some out →
    ∃ ws, Instr.fill place vs (l.map fun p => (p.1, σ p.2)) = some ws ∧ CRel κ av w out ws := by
  intro l
  induction l with
  | nil => intro cs vs out h _ ho; simp only [List.map_nil, afill, Option.some.injEq] at ho; subst ho; exact ⟨vs, rfl, h⟩
  | cons p l ih =>
    intro cs vs out h hp ho
    obtain ⟨i, x⟩ := p
    have hv : VRel κ av w (ρ x) (σ x) := hp (i, x) List.mem_cons_self
    simp only [List.map_cons, afill] at ho
    split at ho
    · rename_i off size l' hplace hc
      split at ho
      · rename_i hcond
        obtain ⟨hs1, hs2⟩ := acells_rel hv hc
        have hsp := CRel.splice off l' (σ x).cells.toList 0 cs vs h (by simpa using hs1) (fun i x hx => by obtain ⟨u, hu, hr⟩ := hs2 i x hx; exact ⟨u, by simpa using hu, hr⟩)
        obtain ⟨ws, hw1, hw2⟩ := ih _ _ out hsp (fun q hq => hp q (List.mem_cons_of_mem _ hq)) ho
        refine ⟨ws, ?_, hw2⟩
        simp only [List.map_cons, Instr.fill, hplace]
        rw [if_neg (by have := h.1; simp only [Bool.or_eq_true, decide_eq_true_eq]; omega)]
        rw [← hw1]
        congr 1
        rw [← Array.foldl_toList, Array.toList_zipIdx]
      · cases ho
    · cases ho

theorem rep_rel {κ : Nat → Option Nat} {av : Nat → Prop} {w : World} {z : List AV} {zs : Array Value} (h : CRel κ av w z zs) : ∀ n,
    CRel κ av w (rep n z) ((Array.range (n * z.length)).map (zs[· % zs.size]!)) := by
  have key : ∀ n i, (rep n z)[i]? = if i < n * z.length then z[i % z.length]? else none := by
    intro n
    induction n with
    | zero => intro i; simp [rep]
    | succ n ih =>
      intro i
      simp only [rep]
      rw [List.getElem?_append]
      by_cases hi : i < z.length
      · rw [if_pos hi, if_pos (by rw [Nat.succ_mul]; omega), Nat.mod_eq_of_lt hi]
      · rw [if_neg hi, ih]
        have hm : i % z.length = (i - z.length) % z.length := by rw [Nat.mod_eq_sub_mod (by omega)]
        rw [hm]
        by_cases hj : i - z.length < n * z.length
        · rw [if_pos hj, if_pos (by rw [Nat.succ_mul]; omega)]
        · rw [if_neg hj, if_neg (by rw [Nat.succ_mul]; omega)]
  intro n
  refine ⟨?_, fun i c hi => ?_⟩
  · simp only [Array.size_map, Array.size_range]
    clear key
    induction n with
    | zero => simp [rep]
    | succ n ih => simp only [rep, List.length_append, ← ih, Nat.succ_mul]; omega
  · rw [key] at hi
    split at hi
    · rename_i hlt
      obtain ⟨u, hu, hr⟩ := h.2 _ c hi
      refine ⟨u, ?_, hr⟩
      rw [Array.getElem?_map, Array.getElem?_range, if_pos hlt]
      simp only [Option.map_some, h.1]
      rw [getElem!_def, hu]
    · cases hi

end Go.Am
