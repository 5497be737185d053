/- A run of the program's code that the kernel can reckon: definitions. Memory is a row of blocks of its own; where they lie in the world is left open. -/
import Derived.Below
import Derived.OrdersHeld
import Derived.Laws.IdiomCopy
import Derived.Laws.AppendOwn
import Derived.Laws.Append
set_option linter.all false
namespace Go.Proofs.YteeanpfhngoobaaGreat.Xk

structure RB where
  cells : List Value
  es : Nat
  live : Bool
structure HP where
  nb : Nat
  l : List RB
def HP.get (h : HP) (k : Nat) : Option RB := if k < h.nb then h.l[h.nb - 1 - k]? else none
def HP.push (h : HP) (r : RB) : HP := ⟨h.nb + 1, r :: h.l⟩
def HP.put (h : HP) (k : Nat) (r : RB) : HP := ⟨h.nb, h.l.set (h.nb - 1 - k) r⟩
/-- n cells of a block from o on. -/
def HP.read (h : HP) (b o n : Nat) : Option (List Value) :=
  match h.get b with
  | some r => if r.live = true ∧ o + n ≤ r.cells.length then some ((r.cells.drop o).take n) else none
  | none => none
def setAt : List Value → Nat → List Value → List Value
  | l, _, [] => l
  | l, o, v :: vs => setAt (l.set o v) (o + 1) vs
def HP.write (h : HP) (b o : Nat) (vs : List Value) : Option HP :=
  match h.get b with
  | some r => if r.live = true ∧ r.es ≠ 0 ∧ o + vs.length ≤ r.cells.length then some (h.put b { r with cells := setAt r.cells o vs }) else none
  | none => none
def rng (b o n : Nat) : List (Nat × Nat) := (List.range n).map fun i => (b, o + i)

/-- Values that name no memory. -/
def scal : Value → Bool
  | .bool _ => true
  | .int _ _ => true
  | .string _ => true
  | _ => false
def flat0 : Value → Bool
  | .bool _ => true
  | .int _ _ => true
  | .string _ => true
  | .pointer none => true
  | .map none => true
  | .slice none l c => l == 0 && c == 0
  | _ => false
def flat : Value → Bool
  | .agg cs => cs.toList.all flat0
  | .tuple vs => vs.size == 0
  | v => flat0 v
/-- What may lie in a cell. -/
def isCell : Value → Bool
  | .bool _ => true
  | .int _ _ => true
  | .string _ => true
  | .pointer _ => true
  | .map _ => true
  | .slice _ _ _ => true
  | _ => false
def noTup : Value → Bool
  | .tuple _ => false
  | _ => true
/-- A value's cells, if each of them may lie in one. -/
def cellsOf : Value → Option (List Value)
  | .agg cs => some cs.toList
  | v => if isCell v then some [v] else none

def evl (tm : List Value) : Operand → Option Value
  | .tmp t => some (tm.getD t undef)
  | .const v => if flat v then some v else none
  | .func f => some (.func (.func f) #[] #[])
  | .global _ => none
def pev (tm : List Value) (x : Operand) : Value := (evl tm x).getD undef

def pur (P : Program) {α : Type} : Sem α → Option α
  | .pure a => some a
  | .program k => pur P (k P)
  | .mark _ k => pur P k
  | _ => none
def noSel : Op → Bool
  | .select _ _ => false
  | _ => true
def lpure (P : Program) (tm : List Value) (o : Oper) : Option (Value × List (Nat × Nat)) :=
  if noSel o.op && o.op.operands.toList.all (fun x => match evl tm x with | some v => scal v | none => false) then
    match pur P (execOp (pev tm) o) with
    | some (.value v) => if scal v then some (v, []) else none
    | _ => none
  else none
def aggD : TypeDesc → Bool
  | .struct _ => true
  | .array _ _ => true
  | _ => false
def evls (tm : List Value) : List Operand → Option (List Value)
  | [] => some []
  | x :: xs => match evl tm x, evls tm xs with
    | some v, some vs => some (v :: vs)
    | _, _ => none
def evps (tm : List Value) : List (Nat × Operand) → Option (List (Nat × Value))
  | [] => some []
  | (i, x) :: xs => match evl tm x, evps tm xs with
    | some v, some vs => if (cellsOf v).isSome then some ((i, v) :: vs) else none
    | _, _ => none
def bnd (tm : List Value) (x : Option Operand) (d : Nat) : Option Nat :=
  match x with
  | none => some d
  | some y => match evl tm y with
    | some (.int _ n) => if 0 ≤ n then some n.toNat else none
    | _ => none
/-- Is there nothing in a type's zero that names memory? -/
def zeroC (P : Program) (t : TypeId) : Bool :=
  match P.info? t with
  | some i => (match i.zero with | some z => z.cells.toList.all flat0 | none => false)
  | none => false
/-- A slice's part. -/
def slc (h : HP) (p : Option Addr) (len cap size l hi : Nat) : Option Value :=
  if l ≤ hi ∧ hi ≤ cap then
    match p with
    | none => if l = 0 ∧ hi = 0 then some (.slice none 0 0) else none
    | some ⟨b, off, none⟩ => match h.get b with
      | some r => if r.es = size ∧ size ≠ 0 then (if l < cap then some (.slice (some ⟨b, off + l * size, none⟩) (hi - l) (cap - l)) else some (.slice (some ⟨b, off, some l⟩) 0 0)) else none
      | none => none
    | some ⟨b, off, some d⟩ => if l = 0 ∧ hi = 0 then some (.slice (some ⟨b, off, some d⟩) 0 0) else none
  else none
def isLen (c : Call) : Option (Operand × TypeId) :=
  match c.callee, c.args.toList, c.argTypes.toList with
  | .builtin .len, [x], [t] => some (x, t)
  | _, _, _ => none
/-- Is it the less or the greater of numbers? -/
def isMM (c : Call) : Bool :=
  match c.callee with
  | .builtin .min => true
  | .builtin .max => true
  | _ => false
def isApp (c : Call) : Option (Operand × Operand × TypeId × TypeId) :=
  match c.callee, c.args.toList, c.argTypes.toList with
  | .builtin .append, [s, x], [t, u] => some (s, x, t, u)
  | _, _, _ => none
def isFn : Value → Option Nat
  | .func (.func k) f c => if f.size = 0 ∧ c.size = 0 then some k else none
  | _ => none
/-- A map's entries: a map lies in a block that is not live and whose elements take no cell. -/
def mread (h : HP) : Option Nat → Option (List Value)
  | none => some []
  | some k => match h.get k with
    | some r => if r.live = false ∧ r.es = 0 then some r.cells else none
    | none => none
def keyOf : Value → Option (ByteArray × Value)
  | .tuple t => (match t.toList with | [.string s, v] => some (s, v) | _ => none)
  | _ => none
def mfind (s : ByteArray) : List Value → Nat → Option (Nat × Value)
  | [], _ => none
  | x :: l, i => match keyOf x with
    | some (s', v) => if s == s' then some (i, v) else mfind s l (i + 1)
    | none => none
def mset (s : ByteArray) (v : Value) (es : List Value) : List Value :=
  match mfind s es 0 with
  | some (i, _) => es.set i (.tuple #[.string s, v])
  | none => es ++ [.tuple #[.string s, v]]
/-- Is it nil? -/
def nilEq (P : Program) (op : BinOp) (t : TypeId) : Value → Value → Option Bool
  | .map p, .map none => (match P.underlying t, op with | some (.map _ _), .eql => some p.isNone | some (.map _ _), .neq => some p.isSome | _, _ => none)
  | .pointer p, .pointer none => (match P.underlying t, op with | some (.pointer _), .eql => some p.isNone | some (.pointer _), .neq => some p.isSome | _, _ => none)
  | .slice p _ _, .slice none _ _ => (match P.underlying t, op with | some (.slice _), .eql => some p.isNone | some (.slice _), .neq => some p.isSome | _, _ => none)
  | _, _ => none
/-- What only looks: its value, and the cells that it looks at. -/
def lop (P : Program) (tm : List Value) (h : HP) (o : Oper) : Option (Value × List (Nat × Nat)) :=
  match o.op with
  | .move x => match evl tm x with | some v => some (v, []) | none => none
  | .assign x => match evl tm x with | some v => some (v, []) | none => none
  | .pick c a b => match evl tm c, evl tm a, evl tm b with
    | some (.bool t), some u, some v => some (if t then u else v, [])
    | _, _, _ => none
  | .fieldAddr s x f => match P.underlying s, evl tm x with
    | some (.struct fs), some (.pointer (some ⟨b, off, none⟩)) => match fs[f]? with
      | some fd => match P.info? fd.type with
        | some i => if i.size = 0 then none else some (.pointer (some ⟨b, off + fd.offset, none⟩), [])
        | none => none
      | none => none
    | _, _ => none
  | .load t x => match P.underlying t, P.info? t, evl tm x with
    | some d, some i, some (.pointer (some ⟨b, off, none⟩)) =>
      if aggD d then (match h.read b off i.size with | some cs => some (.agg cs.toArray, rng b off i.size) | none => none)
      else (match h.read b off 1 with | some [v] => some (v, [(b, off)]) | _ => none)
    | _, _, _ => none
  | .nilCheck x => match evl tm x with
    | some (.pointer (some a)) => some (.pointer (some a), [])
    | _ => none
  | .field t x f => match P.underlying t, evl tm x with
    | some (.struct fs), some (.agg cs) => match fs[f]? with
      | some fd => match P.underlying fd.type, P.info? fd.type with
        | some d, some i => if aggD d then some (.agg (cs.extract fd.offset (fd.offset + i.size)), []) else (match cs[fd.offset]? with | some v => if isCell v then some (v, []) else none | none => none)
        | _, _ => none
      | none => none
    | _, _ => none
  | .extract x i => match evl tm x with
    | some (.tuple vs) => match vs[i]? with | some v => if noTup v then some (v, []) else none | none => none
    | _ => none
  | .indexAddr t x i => match P.underlying t, evl tm x, evl tm i with
    | some (.slice e), some (.slice (some ⟨b, off, none⟩) len _), some (.int _ j) => match P.info? e with
      | some inf => if 0 ≤ j ∧ j < len then some (.pointer (some ⟨b, off + j.toNat * inf.size, none⟩), []) else none
      | none => none
    | some (.array n e), some (.pointer (some ⟨b, off, none⟩)), some (.int _ j) => match P.info? e with
      | some inf => if 0 ≤ j ∧ j < n ∧ inf.size ≠ 0 then some (.pointer (some ⟨b, off + j.toNat * inf.size, none⟩), []) else none
      | none => none
    | _, _, _ => none
  | .binOp op t x y _ => match (evl tm x).bind fun a => (evl tm y).bind fun b => nilEq P op t a b with
    | some z => some (.bool z, [])
    | none => lpure P tm o
  | .slice t x lo hi mx => match P.underlying t, evl tm x, mx with
    | some (.slice e), some (.slice p len cap), none => match P.info? e, bnd tm lo 0, bnd tm hi len with
      | some inf, some l, some k => match slc h p len cap inf.size l k with | some v => some (v, []) | none => none
      | _, _, _ => none
    | _, _, _ => lpure P tm o
  | .build t ps => match evps tm ps.toList, zeroC P t with
    | some vs, true => match pur P (Instr.build t vs.toArray) with
      | some (.agg cs) => if cs.toList.all isCell then some (.agg cs, []) else none
      | _ => none
    | _, _ => none
  | .call c => match isLen c with
    | some (x, t) => match evl tm x with
      | some (.slice _ len _) => match P.underlying t with | some (.slice _) => some (.int .i64 len, []) | _ => none
      | _ => lpure P tm o
    | none => if isMM c then lpure P tm o else none
  | _ => lpure P tm o

/-- What is appended: its cells. -/
def appended (h : HP) (size : Nat) : Value → Option (Nat × List Value)
  | .slice none _ _ => some (0, [])
  | .slice (some ⟨b, off, none⟩) n _ => match h.read b off (n * size) with | some cs => some (n, cs) | none => none
  | .slice (some ⟨_, _, some _⟩) _ _ => some (0, [])
  | _ => none
def app (P : Program) (h : HP) (e : TypeId) (s x : Value) : Option (Value × HP) :=
  match P.info? e with
  | none => none
  | some inf => match inf.zero with
    | none => none
    | some z => if ¬ (z.cells.size = inf.size ∧ 0 < inf.size ∧ inf.bytes ≤ 1024) then none else
      match appended h inf.size x with
      | none => none
      | some (n, new) => match s with
        | .slice none 0 0 => if n = 0 then some (.slice none 0 0, h) else if n ≤ 5864062014805 ∧ n * inf.bytes ≤ 140737488355328 then some (.slice (some ⟨h.nb, 0, none⟩) n n, h.push ⟨new, inf.size, true⟩) else none
        | .slice (some ⟨b, off, none⟩) len cap => match h.get b with
          | none => none
          | some r => if ¬ (r.live = true ∧ r.es = inf.size ∧ len + n ≤ 5864062014805 ∧ (len + n) * inf.bytes ≤ 140737488355328) then none else
            if len + n ≤ cap then (match h.write b (off + len * inf.size) new with | some h' => some (.slice (some ⟨b, off, none⟩) (len + n) cap, h') | none => none)
            else match h.read b off (len * inf.size) with
              | none => none
              | some old => some (.slice (some ⟨h.nb, 0, none⟩) (len + n) (len + n), (h.put b { r with live := false }).push ⟨old ++ new, inf.size, true⟩)
        | _ => none
def u8s : List Value → Option (List Int)
  | [] => some []
  | .int .u8 n :: l => (match u8s l with | some ns => some (n :: ns) | none => none)
  | _ :: _ => none
def bytesOf (l : List Value) : Option ByteArray :=
  match u8s l with
  | some ns => some (ns.foldl (fun r n => r.push (UInt8.ofNat n.toNat)) ByteArray.empty)
  | none => none
/-- What makes or turns memory, or calls. -/
def hop (P : Program) (call : Nat → List Value → HP → Option (Value × HP)) (tm : List Value) (h : HP) (o : Oper) : Option (Value × HP) :=
  match o.op with
  | .alloc e => match P.info? e with
    | some inf => match inf.zero with
      | some z => match cellsOf z with
        | some cs => if cs.all flat0 then some (.pointer (some ⟨h.nb, 0, none⟩), h.push ⟨cs, 1, true⟩) else none
        | none => none
      | none => none
    | none => none
  | .box e x => match evl tm x with
    | some v => match cellsOf v with
      | some cs => if cs.all isCell then some (.pointer (some ⟨h.nb, 0, none⟩), h.push ⟨cs, 1, true⟩) else none
      | none => none
    | none => none
  | .store t a x => match P.info? t, evl tm a, evl tm x with
    | some inf, some (.pointer (some ⟨b, off, none⟩)), some v => match cellsOf v with
      | some cs => if cs.length = inf.size ∧ cs.all isCell = true then (match h.write b off cs with | some h' => some (undef, h') | none => none) else none
      | none => none
    | _, _, _ => none
  | .buildSlice t len ps => match P.underlying t, evps tm ps.toList with
    | some (.slice e), some vs => match P.info? e with
      | some inf => match inf.zero with
        | some z => if 0 < len * inf.size ∧ len * inf.size ≤ 16777216 ∧ z.cells.size = inf.size ∧ z.cells.toList.all flat0 = true then
            match Instr.fill (fun i => some (i * inf.size, inf.size)) ((Array.range (len * inf.size)).map (z.cells[· % z.cells.size]!)) vs with
            | some cs => if cs.toList.all isCell = true ∧ cs.size = len * inf.size then some (.slice (some ⟨h.nb, 0, none⟩) len len, h.push ⟨cs.toList, inf.size, true⟩) else none
            | none => none
          else none
        | none => none
      | none => none
    | _, _ => none
  | .convert src dst x => match P.underlying src, P.underlying dst, evl tm x with
    | some .string, some (.slice e), some (.string s) => match P.underlying e with
      | some (.int .u8) => some (.slice (some ⟨h.nb, 0, none⟩) s.size s.size, h.push ⟨s.data.toList.map fun b => .int .u8 b.toNat, 1, true⟩)
      | _ => none
    | some (.slice e), some .string, some (.slice p len _) => match P.underlying e with
      | some (.int .u8) => match p with
        | none => some (.string .empty, h)
        | some ⟨b, off, none⟩ => match h.read b off len with
          | some cs => match bytesOf cs with | some s => some (.string s, h) | none => none
          | none => none
        | some ⟨_, _, some _⟩ => some (.string .empty, h)
      | _ => none
    | _, _, _ => none
  | .call c => match isApp c with
    | some (s, x, t, u) => match P.underlying t, evl tm s, evl tm x with
      | some (.slice e), some vs, some vx => match P.underlying u with
        | some (.slice _) => app P h e vs vx
        | _ => none
      | _, _, _ => none
    | none => match c.callee with
      | .value f => match (evl tm f).bind isFn, evls tm c.args.toList with
        | some k, some vs => call k vs h
        | _, _ => none
      | _ => none
  | .makeMap _ r => if r.isNone then some (.map (some h.nb), h.push ⟨[], 0, false⟩) else none
  | .lookup t x k ok => match P.underlying t, evl tm x, evl tm k with
    | some (.map kt et), some (.map p), some (.string s) => match P.underlying kt, (P.info? et).bind (·.zero), mread h p with
      | some .string, some z, some es => if scal z = true then (match mfind s es 0 with
          | some (_, u) => if scal u = true then some (if ok then .tuple #[u, .bool true] else u, h) else none
          | none => some (if ok then .tuple #[z, .bool false] else z, h)) else none
      | _, _, _ => none
    | _, _, _ => none
  | .mapUpdate t x k y => match P.underlying t, evl tm x, evl tm k, evl tm y with
    | some (.map kt _), some (.map (some r)), some (.string s), some u => match P.underlying kt, mread h (some r) with
      | some .string, some es => if scal u = true then some (undef, h.put r ⟨mset s u es, 0, false⟩) else none
      | _, _ => none
    | _, _, _, _ => none
  | _ => none

def lightK (P : Program) (o : Oper) : Bool :=
  match o.op with
  | .move _ | .assign _ | .pick _ _ _ | .fieldAddr _ _ _ | .load _ _ | .nilCheck _ | .binOp _ _ _ _ _ | .unOp _ _ _ | .field _ _ _ | .extract _ _ | .indexAddr _ _ _ | .index _ _ _ | .slice _ _ _ _ _ | .build _ _ => true
  | .convert src dst _ => match P.underlying src, P.underlying dst with | some (.int _), some (.int _) => true | _, _ => false
  | .call c => (isLen c).isSome || isMM c
  | _ => false
def lightAt (P : Program) (ops : Array Oper) (k : Nat) : Bool :=
  match ops[k]? with
  | some o => lightK P o
  | none => false
/-- An order in which a region's operations may be taken: what only looks first. -/
def sched (P : Program) (ops : Array Oper) : Nat → Array Bool → Option (List Nat)
  | 0, listed => if Region.ready .any ops listed = [] then some [] else none
  | n + 1, listed =>
    match Region.ready .any ops listed with
    | [] => some []
    | r => match r.find? (fun i => lightAt P ops i && Region.free .any ops listed i) with
      | some i => (match sched P ops n (listed.setIfInBounds i true) with | some s => some (i :: s) | none => none)
      | none => match r with
        | [i] => (match sched P ops n (listed.setIfInBounds i true) with | some s => some (i :: s) | none => none)
        | _ => none
def putT (tm : List Value) (dst : Option Tmp) (v : Value) : List Value :=
  match dst with
  | some d => tm.set d v
  | none => tm
def bOf : Value → Option Bool
  | .bool b => some b
  | _ => none
def xwant (ops : Array Oper) (tm : List Value) (o : Oper) : Bool :=
  match o.guard with
  | none => true
  | some (j, want) => (((ops[j]?).bind (·.dst)).bind (tm[·]?)).bind bOf == some want
def loadK (o : Oper) : Bool :=
  match o.op with
  | .load _ _ => true
  | _ => false
/-- Is number j bound behind each load? -/
def cov (ops : Array Oper) (j : Nat) : Bool :=
  match ops[j]? with
  | none => false
  | some oj => (List.range ops.size).all fun i => match ops[i]? with
    | some o => !loadK o || oj.after.any (fun e => Region.binds .any e && e.on == i)
    | none => true
def loadAt (ops : Array Oper) (k : Nat) : Bool :=
  match ops[k]? with
  | some o => loadK o
  | none => false
/-- Behind an operation that is bound behind each load: what may come. -/
def okAfter (P : Program) (ops : Array Oper) (k : Nat) : Bool := (lightAt P ops k && !loadAt ops k) || (!lightAt P ops k && cov ops k)
def tailOk (P : Program) (ops : Array Oper) : List Nat → Bool
  | [] => true
  | i :: s => if lightAt P ops i || !cov ops i then tailOk P ops s else s.all (okAfter P ops)
/-- Operations in a given order: the slots, memory, the cells that were only looked at, and memory behind each one that is more. -/
def xops (P : Program) (call : Nat → List Value → HP → Option (Value × HP)) (ops : Array Oper) (cv : List Nat) : List Nat → List Value → HP → Option (List Value × HP × List (Nat × Nat) × List HP)
  | [], tm, h => some (tm, h, [], [])
  | i :: rest, tm, h => match ops[i]? with
    | none => none
    | some o =>
      if xwant ops tm o then
        if lightK P o then
          match lop P tm h o with
          | some (v, D) => (match xops P call ops cv rest (putT tm o.dst v) h with | some (tm', h', D', H) => some (tm', h', D ++ D', H) | none => none)
          | none => none
        else match hop P call tm h o with
          | some (v, h1) => (match xops P call ops cv rest (putT tm o.dst v) h1 with | some (tm', h', D', H) => some (tm', h', D', if cv.contains i then H else h1 :: H) | none => none)
          | none => none
      else xops P call ops cv rest (putT tm o.dst undef) h
def sameC : Value → Value → Bool
  | .bool a, .bool b => a == b
  | .int k a, .int l b => decide (k = l) && a == b
  | .string a, .string b => a.data.toList == b.data.toList
  | .pointer a, .pointer b => a == b
  | .map a, .map b => a == b
  | .slice a n c, .slice b m d => a == b && n == m && c == d
  | _, _ => false
def sameAt (g h : HP) (p : Nat × Nat) : Bool :=
  match g.read p.1 p.2 1, h.read p.1 p.2 1 with
  | some [u], some [v] => sameC u v
  | _, _ => false
def xcode (P : Program) (call : Nat → List Value → HP → Option (Value × HP)) (T : Nat → Option (List Nat × List Nat)) : Nat → Code → List Value → HP → Option (Exit × List Value × HP)
  | 0, _, _, _ => none
  | n + 1, c, tm, h => match c with
    | .skip => some (.normal, tm, h)
    | .ret => some (.ret, tm, h)
    | .exit id => some (.exit id, tm, h)
    | .seq a b => (match xcode P call T n a tm h with
      | some (.normal, tm1, h1) => xcode P call T n b tm1 h1
      | r => r)
    | .cond x a b => (match evl tm x with
      | some (.bool t) => xcode P call T n (if t then a else b) tm h
      | _ => none)
    | .block id body => (match xcode P call T n body tm h with
      | some (.exit i, tm1, h1) => if i = id then some (.normal, tm1, h1) else some (.exit i, tm1, h1)
      | r => r)
    | .loop body => (match xcode P call T n body tm h with
      | some (.normal, tm1, h1) => xcode P call T n (.loop body) tm1 h1
      | r => r)
    | .region _ ops false => (match xops P call ops [] (List.range ops.size) tm h with
      | some (tm1, h1, _, _) => some (.normal, tm1, h1)
      | none => none)
    | .region id ops true => (match T id with
      | some (s, cv) => (match xops P call ops cv s tm h with
        | some (tm1, h1, D, H) => if (h :: H).all (fun g => D.all (sameAt h g)) then some (.normal, tm1, h1) else none
        | none => none)
      | none => none)
    | _ => none
/-- Are the orders that a table gives such ones? -/
def codeOk (P : Program) (T : Nat → Option (List Nat × List Nat)) : Code → Bool
  | .seq a b => codeOk P T a && codeOk P T b
  | .cond _ a b => codeOk P T a && codeOk P T b
  | .block _ b => codeOk P T b
  | .loop b => codeOk P T b
  | .region id ops true => match T id with
    | some (s, cv) => Region.noSelect ops && tailOk P ops s && cv.all (cov ops) && decide (sched P ops ops.size (Array.replicate ops.size false) = some s)
    | none => true
  | _ => true
def xres (P : Program) (tm : List Value) (h : HP) : List ResultVar → Option (List Value)
  | [] => some []
  | .tmp t :: rs => (match xres P tm h rs with | some vs => some (tm.getD t undef :: vs) | none => none)
  | .cell a t :: rs => match P.underlying t, P.info? t, tm.getD a undef with
    | some d, some i, .pointer (some ⟨b, off, none⟩) =>
      (match (if aggD d then (match h.read b off i.size with | some cs => some (Value.agg cs.toArray, rng b off i.size) | none => none) else (match h.read b off 1 with | some [v] => some (v, [(b, off)]) | _ => none)), xres P tm h rs with
      | some (v, _), some vs => some (v :: vs)
      | _, _ => none)
    | _, _, _ => none
/-- A call: at most so deep. -/
def xcall (P : Program) (F : Nat → Option Func) (T : Nat → Nat → Option (List Nat × List Nat)) (O : Nat → List Value → HP → Option (Value × HP)) (L : Nat) : Nat → Nat → List Value → HP → Option (Value × HP)
  | 0, _, _, _ => none
  | n + 1, f, args, h => match O f args h with
    | some r => some r
    | none => match F f with
    | none => none
    | some fn => match fn.body with
      | none => none
      | some c => match xcode P (xcall P F T O L n) (T f) L c (args ++ List.replicate (fn.ntmps - args.length) undef) h with
        | some (.normal, tm, h1) => (match xres P tm h1 fn.results.toList with | some [v] => some (v, h1) | some vs => if vs.all noTup then some (.tuple vs.toArray, h1) else none | none => none)
        | some (.ret, tm, h1) => (match xres P tm h1 fn.results.toList with | some [v] => some (v, h1) | some vs => if vs.all noTup then some (.tuple vs.toArray, h1) else none | none => none)
        | _ => none
def sameV : Value → Value → Bool
  | .agg a, .agg b => a.size == b.size && (a.toList.zip b.toList).all fun p => sameC p.1 p.2
  | .tuple a, .tuple b => a.size == b.size && (a.toList.zip b.toList).all fun p => sameC p.1 p.2
  | u, v => sameC u v
def sameB (a b : RB) : Bool := a.es == b.es && a.live == b.live && a.cells.length == b.cells.length && (a.cells.zip b.cells).all fun p => sameC p.1 p.2
def sameH (g h : HP) : Bool := g.nb == h.nb && g.l.length == h.l.length && (g.l.zip h.l).all fun p => sameB p.1 p.2
def sameVs (a b : List Value) : Bool := a.length == b.length && (a.zip b).all fun p => sameV p.1 p.2
/-- What is known of one call. -/
def known (k : Nat) (vs : List Value) (h : HP) (v : Value) (h1 : HP) : Nat → List Value → HP → Option (Value × HP) := fun k' vs' h' => if k' = k ∧ sameVs vs' vs = true ∧ sameH h' h = true then some (v, h1) else none
def orElse (a b : Nat → List Value → HP → Option (Value × HP)) : Nat → List Value → HP → Option (Value × HP) := fun k vs h => match a k vs h with
  | some r => some r
  | none => b k vs h
def noneK : Nat → List Value → HP → Option (Value × HP) := fun _ _ _ => none
end Go.Proofs.YteeanpfhngoobaaGreat.Xk
namespace Go.Proofs.YteeanpfhngoobaaGreat.Xk
open Go.RowKit

/-- Where a block lies: the world's block, from which cell on, how many cells that block has, how many cells an element takes. -/
structure MB where
  blk : Nat
  sh : Nat
  sz : Nat
  es : Nat
section
variable {m m' : Nat → MB} {nb nb' : Nat}
def ca (m : Nat → MB) (b off : Nat) : Addr := ⟨(m b).blk, (m b).sh + off, none⟩
/-- How many elements there is room for from there on. -/
def room (x : MB) (off : Nat) : Nat := (x.sz - (x.sh + off)) / x.es
def cs0 (m : Nat → MB) (b off : Nat) (sp : Option Nat) (n : Nat) : Value :=
  match sp with
  | none => .slice (some (ca m b off)) n (room (m b) off)
  | some d => if room (m b) off = d then .slice (some (ca m b off)) n 0 else .slice (some (ca m b (off + d * (m b).es))) n (room (m b) off - d)
/-- What a value is in the world. -/
def cv (m : Nat → MB) : Value → Value
  | .pointer (some a) => .pointer (some (ca m a.block a.off))
  | .slice (some a) n _ => cs0 m a.block a.off a.spot n
  | .map (some r) => .map (some (m r).blk)
  | v => v
def cA (m : Nat → MB) : Value → Value
  | .agg cs => .agg (cs.map (cv m))
  | v => cv m v
def cT (m : Nat → MB) : Value → Value
  | .tuple vs => .tuple (vs.map (cA m))
  | v => cA m v
def okS (x : MB) (off : Nat) (sp : Option Nat) (n c : Nat) : Prop :=
  match sp with
  | none => x.sh + off + c * x.es ≤ x.sz
  | some d => c = 0 ∧ x.sh + off + d * x.es ≤ x.sz
def okC (m : Nat → MB) (nb : Nat) : Value → Prop
  | .pointer (some a) => a.spot = none ∧ a.block < nb
  | .map (some r) => r < nb
  | .slice none n c => n = 0 ∧ c = 0
  | .slice (some a) n c => a.block < nb ∧ 0 < (m a.block).es ∧ n ≤ c ∧ okS (m a.block) a.off a.spot n c
  | _ => True
def okA (m : Nat → MB) (nb : Nat) : Value → Prop
  | .agg cs => ∀ v ∈ cs.toList, okC m nb v
  | v => okC m nb v
def okT (m : Nat → MB) (nb : Nat) : Value → Prop
  | .tuple vs => ∀ v ∈ vs.toList, okA m nb v
  | v => okA m nb v
/-- Blocks that are there stay where they are. -/
def Ext (m m' : Nat → MB) (nb : Nat) : Prop := ∀ k, k < nb → m' k = m k
theorem Ext.refl : Ext m m nb := fun _ _ => rfl
theorem Ext.trans {m'' : Nat → MB} (h : Ext m m' nb) (h' : Ext m' m'' nb') (hn : nb ≤ nb') : Ext m m'' nb := fun k hk => (h' k (by omega)).trans (h k hk)
theorem okC_ext (he : Ext m m' nb) (hn : nb ≤ nb') {v : Value} (h : okC m nb v) : okC m' nb' v ∧ cv m' v = cv m v := by
  cases v with
  | pointer a =>
    cases a with
    | none => exact ⟨trivial, rfl⟩
    | some a => exact ⟨⟨h.1, by have := h.2; omega⟩, by simp only [cv, ca, he _ h.2]⟩
  | slice a n c =>
    cases a with
    | none => exact ⟨h, rfl⟩
    | some a =>
      obtain ⟨h1, h2, h3, h4⟩ := h
      have e := he _ h1
      exact ⟨⟨by omega, by rw [e]; exact h2, h3, by rw [e]; exact h4⟩, by simp only [cv, cs0, ca, e]⟩
  | map p =>
    cases p with
    | none => exact ⟨trivial, rfl⟩
    | some r =>
      have hr : r < nb := h
      exact ⟨show r < nb' by omega, by simp only [cv, he _ hr]⟩
  | _ => exact ⟨trivial, rfl⟩
theorem okA_cell (m : Nat → MB) (nb : Nat) {v : Value} (hv : ∀ cs, v ≠ .agg cs) : okA m nb v = okC m nb v ∧ cA m v = cv m v := by
  cases v <;> first | exact ⟨rfl, rfl⟩ | exact absurd rfl (hv _)
theorem okT_cell (m : Nat → MB) (nb : Nat) {v : Value} (hv : ∀ cs, v ≠ .tuple cs) : okT m nb v = okA m nb v ∧ cT m v = cA m v := by
  cases v <;> first | exact ⟨rfl, rfl⟩ | exact absurd rfl (hv _)
theorem okA_ext (he : Ext m m' nb) (hn : nb ≤ nb') {v : Value} (h : okA m nb v) : okA m' nb' v ∧ cA m' v = cA m v := by
  by_cases hv : ∃ cs, v = .agg cs
  · obtain ⟨cs, rfl⟩ := hv
    refine ⟨fun v hv => (okC_ext he hn (h v hv)).1, ?_⟩
    show Value.agg _ = .agg _
    congr 1
    exact Array.map_congr_left fun v hv => (okC_ext he hn (h v (by simpa using hv))).2
  · have hv' : ∀ cs, v ≠ .agg cs := fun cs e => hv ⟨cs, e⟩
    rw [(okA_cell m nb hv').1] at h
    rw [(okA_cell m' nb' hv').1, (okA_cell m' nb' hv').2, (okA_cell m nb hv').2]
    exact okC_ext he hn h
theorem okT_ext (he : Ext m m' nb) (hn : nb ≤ nb') {v : Value} (h : okT m nb v) : okT m' nb' v ∧ cT m' v = cT m v := by
  by_cases hv : ∃ cs, v = .tuple cs
  · obtain ⟨vs, rfl⟩ := hv
    refine ⟨fun v hv => (okA_ext he hn (h v hv)).1, ?_⟩
    show Value.tuple _ = .tuple _
    congr 1
    exact Array.map_congr_left fun v hv => (okA_ext he hn (h v (by simpa using hv))).2
  · have hv' : ∀ cs, v ≠ .tuple cs := fun cs e => hv ⟨cs, e⟩
    rw [(okT_cell m nb hv').1] at h
    rw [(okT_cell m' nb' hv').1, (okT_cell m' nb' hv').2, (okT_cell m nb hv').2]
    exact okA_ext he hn h

theorem cT_scal {v : Value} (h : scal v = true) : cT m v = v ∧ okT m nb v := by
  cases v <;> first | exact ⟨rfl, trivial⟩ | (simp [scal] at h)
theorem cv_flat0 {v : Value} (h : flat0 v = true) : cv m v = v ∧ okC m nb v ∧ isCell v = true := by
  cases v with
  | pointer a => cases a with
    | none => exact ⟨rfl, trivial, rfl⟩
    | some a => simp [flat0] at h
  | slice a n c => cases a with
    | none => simp [flat0] at h; exact ⟨rfl, h, rfl⟩
    | some a => simp [flat0] at h
  | map p => cases p with
    | none => exact ⟨rfl, trivial, rfl⟩
    | some r => simp [flat0] at h
  | _ => first | exact ⟨rfl, trivial, rfl⟩ | (simp [flat0] at h)
theorem cT_flat {v : Value} (h : flat v = true) : cT m v = v ∧ okT m nb v := by
  by_cases h1 : ∃ cs, v = .agg cs
  · obtain ⟨cs, rfl⟩ := h1
    simp only [flat, List.all_eq_true] at h
    refine ⟨?_, fun v hv => (cv_flat0 (h v hv)).2.1⟩
    show Value.agg _ = .agg _
    congr 1
    conv => rhs; rw [← Array.map_id cs]
    exact Array.map_congr_left fun v hv => (cv_flat0 (nb := nb) (h v (by simpa using hv))).1
  · by_cases h2 : ∃ vs, v = .tuple vs
    · obtain ⟨vs, rfl⟩ := h2
      simp only [flat, beq_iff_eq, Array.size_eq_zero_iff] at h
      subst h
      exact ⟨by simp [cT], fun v hv => by simp at hv⟩
    · have e : flat v = flat0 v := by
        cases v <;> first | rfl | exact absurd ⟨_, rfl⟩ h1 | exact absurd ⟨_, rfl⟩ h2
      rw [e] at h
      obtain ⟨e1, e2, -⟩ := cv_flat0 (m := m) (nb := nb) h
      rw [(okT_cell m nb (fun cs e => h2 ⟨cs, e⟩)).1, (okT_cell m nb (fun cs e => h2 ⟨cs, e⟩)).2, (okA_cell m nb (fun cs e => h1 ⟨cs, e⟩)).1, (okA_cell m nb (fun cs e => h1 ⟨cs, e⟩)).2]
      exact ⟨e1, e2⟩
theorem isCell_cA {v : Value} (h : isCell v = true) : cT m v = cv m v ∧ cA m v = cv m v ∧ (okT m nb v ↔ okC m nb v) := by
  cases v <;> first | exact ⟨rfl, rfl, Iff.rfl⟩ | (simp [isCell] at h)
theorem isCell_cv {v : Value} (h : isCell v = true) : isCell (cv m v) = true ∧ (cv m v).oneCell' = true ∧ (cv m v).cells = #[cv m v] := by
  cases v with
  | pointer a => cases a <;> exact ⟨rfl, rfl, rfl⟩
  | map p => cases p <;> exact ⟨rfl, rfl, rfl⟩
  | slice a n c =>
    cases a with
    | none => exact ⟨rfl, rfl, rfl⟩
    | some a =>
      simp only [cv, cs0]
      split
      · exact ⟨rfl, rfl, rfl⟩
      · split <;> exact ⟨rfl, rfl, rfl⟩
  | _ => first | exact ⟨rfl, rfl, rfl⟩ | (simp [isCell] at h)
end

/-- A frame's slots. -/
structure FR (m : Nat → MB) (nb : Nat) (tm : List Value) (a : Act) : Prop where
  t : a.tmps = (tm.map (cT m)).toArray
  d : a.defers = []
  k : ∀ v ∈ tm, okT m nb v
/-- What is asked of the memory itself. -/
structure HR (m : Nat → MB) (h : HP) : Prop where
  ln : h.l.length = h.nb
  es : ∀ k r, h.get k = some r → r.es ≠ 0 → (m k).es = r.es
  ok : ∀ k r, h.get k = some r → r.live = true → ∀ v ∈ r.cells, okC m h.nb v ∧ isCell v = true
/-- A map in the world. -/
def MapAt (w : World) (g : Nat) (es : List Value) : Prop := ∃ E c, w.heap[g]? = some (.map E c) ∧ E.toList.map (fun e => Value.tuple #[e.key, e.val]) = es ∧ ∀ e ∈ E.toList, ∃ s, e.key = .string s
/-- How it lies in the world. -/
structure WR (B : Nat) (w0 : World) (m : Nat → MB) (h : HP) (w : World) : Prop extends HR m h where
  bel : Below B w0 w
  sB : B ≤ w.heap.size
  lo : ∀ k r, h.get k = some r → r.live = true → (r.es ≠ 0 → B ≤ (m k).blk) ∧ (r.es = 0 → (m k).blk < B) ∧ (m k).blk < w.heap.size ∧ (m k).sh + r.cells.length ≤ (m k).sz
  fr : ∀ k r, h.get k = some r → r.live = true → r.es ≠ 0 → ∀ o, o < (m k).sz → (w.cell? ⟨(m k).blk, o, none⟩).isSome = true ∧ w.frozen? ⟨(m k).blk, o, none⟩ = false
  at_ : ∀ k r, h.get k = some r → r.live = true → ∀ i v, r.cells[i]? = some v → w.cell? ⟨(m k).blk, (m k).sh + i, none⟩ = some (cv m v)
  inj : ∀ j k r s, h.get j = some r → h.get k = some s → r.live = true → s.live = true → r.es ≠ 0 → s.es ≠ 0 → (m j).blk = (m k).blk → j = k
  mp : ∀ k r, h.get k = some r → r.live = false → r.es = 0 → B ≤ (m k).blk ∧ MapAt w (m k).blk r.cells
  mi : ∀ j k r s, h.get j = some r → h.get k = some s → r.live = false → s.live = false → r.es = 0 → s.es = 0 → (m j).blk = (m k).blk → j = k

/-- A block that may be written lies apart from all that are looked at. -/
theorem WR.sep {B : Nat} {w0 w : World} {m : Nat → MB} {h : HP} (hw : WR B w0 m h w) {j k : Nat} {r s : RB} (hj : h.get j = some r) (hk : h.get k = some s) (hl : r.live = true) (hl2 : s.live = true) (hr : r.es ≠ 0) (e : (m j).blk = (m k).blk) : j = k := by
  by_cases hs : s.es = 0
  · have h1 := (hw.lo j r hj hl).1 hr
    have h2 := (hw.lo k s hk hl2).2.1 hs
    omega
  · exact hw.inj j k r s hj hk hl hl2 hr hs e
section
variable {m : Nat → MB} {nb : Nat} {tm : List Value} {a : Act} {P : Program} {h : HP}
theorem evl_eval (hf : FR m nb tm a) {x : Operand} {v : Value} (he : evl tm x = some v) : a.eval x = cT m v ∧ okT m nb v := by
  cases x with
  | tmp t =>
    simp only [evl, Option.some.injEq] at he
    subst he
    have hu : cT m undef = undef := by simp [cT, undef]
    by_cases ht : t < tm.length
    · have e : tm.getD t undef = tm[t] := by simp [List.getD, ht]
      refine ⟨?_, by rw [e]; exact hf.k _ (List.getElem_mem ht)⟩
      rw [e]
      simp [Act.eval, hf.t, ht]
    · have e : tm.getD t undef = undef := by simp [List.getD, List.getElem?_eq_none (Nat.le_of_not_lt ht)]
      refine ⟨?_, by rw [e]; exact fun v hv => by simp [undef] at hv⟩
      rw [e, hu]
      simp [Act.eval, hf.t, List.getElem?_eq_none (Nat.le_of_not_lt ht)]
  | const u =>
    simp only [evl] at he
    split at he
    · rename_i hc
      cases he
      have := cT_flat (m := m) (nb := nb) hc
      exact ⟨this.1.symm, this.2⟩
    · cases he
  | func f =>
    simp only [evl, Option.some.injEq] at he
    subst he
    exact ⟨rfl, trivial⟩
  | global g => cases he
theorem pur_run {α : Type} {s : Sem α} {v : α} (hp : pur P s = some v) (w : World) : s.run P w = .ok v w := by
  induction s generalizing w with
  | pure a => simp only [pur, Option.some.injEq] at hp; subst hp; rfl
  | program k ih => exact ih P hp w
  | mark x k ih => exact ih hp w
  | _ => simp [pur] at hp
theorem lpure_ok {o : Oper} {v : Value} {D : List (Nat × Nat)} (hf : FR m nb tm a) (hl : lpure P tm o = some (v, D)) :
    D = [] ∧ okT m nb v ∧ ∀ w, (execOp a.eval o).run P w = .ok (.value (cT m v)) w := by
  unfold lpure at hl
  split at hl
  · rename_i hc
    simp only [Bool.and_eq_true, List.all_eq_true] at hc
    obtain ⟨hs, hops⟩ := hc
    split at hl
    · rename_i u hu
      split at hl
      · rename_i hsc
        cases hl
        refine ⟨rfl, (cT_scal hsc).2, fun w => ?_⟩
        rw [(cT_scal (m := m) (nb := nb) hsc).1, execOp_congr (ρ' := pev tm) o (fun cs b e => by rw [e] at hs; cases hs) ?_]
        · exact pur_run hu w
        · intro x hx
          have := hops x (by simpa using hx)
          split at this
          · rename_i y hy
            rw [(evl_eval hf hy).1, (cT_scal (m := m) (nb := nb) this).1]
            simp [pev, hy]
          · cases this
      · cases hl
    · cases hl
  · cases hl
theorem read_ok {b o n : Nat} {cs : List Value} (hr : h.read b o n = some cs) : ∃ r, h.get b = some r ∧ r.live = true ∧ o + n ≤ r.cells.length ∧ cs = (r.cells.drop o).take n := by
  unfold HP.read at hr
  split at hr
  · rename_i r hg
    split at hr
    · rename_i hc
      cases hr
      exact ⟨r, hg, hc.1, hc.2, rfl⟩
    · cases hr
  · cases hr
theorem read_one {b o n : Nat} {cs : List Value} (hr : h.read b o n = some cs) {i : Nat} (hi : i < n) : ∃ u, cs[i]? = some u ∧ h.read b (o + i) 1 = some [u] := by
  obtain ⟨r, hg, hl, hle, rfl⟩ := read_ok hr
  have hlt : o + i < r.cells.length := by omega
  refine ⟨r.cells[o + i], ?_, ?_⟩
  · rw [List.getElem?_take_of_lt hi, List.getElem?_drop, List.getElem?_eq_getElem hlt]
  · unfold HP.read
    rw [hg]
    dsimp only
    rw [if_pos ⟨hl, by omega⟩, List.drop_eq_getElem_cons hlt]
    rfl
theorem read_len {b o n : Nat} {cs : List Value} (hr : h.read b o n = some cs) : cs.length = n := by
  obtain ⟨r, hg, hl, hle, rfl⟩ := read_ok hr
  simp; omega
theorem read_mem (hh : HR m h) {b o n : Nat} {cs : List Value} (hr : h.read b o n = some cs) {v : Value} (hv : v ∈ cs) : okC m h.nb v ∧ isCell v = true := by
  obtain ⟨r, hg, hl, hle, rfl⟩ := read_ok hr
  exact hh.ok b r hg hl v (List.mem_of_mem_drop (List.mem_of_mem_take hv))
theorem get_lt {k : Nat} {r : RB} (hg : h.get k = some r) : k < h.nb := by
  unfold HP.get at hg
  split at hg
  · assumption
  · cases hg
end
end Go.Proofs.YteeanpfhngoobaaGreat.Xk
