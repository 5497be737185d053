/- The leaves: what the small functions of chars and fold, and the document's own ones, answer for every number; how a slice of ints is read. -/
import Derived.Test.YtipbhdhiklmieaaGreatDoorProg
import Derived.KernelRfl
import Derived.WalkKit
import Derived.WalkSpells
import Derived.WalkLawsBesides
import Derived.BigQuiet
import Derived.Deep.Cut
import Derived.Deep.AppendSrc
import Derived.Deep.Heap
import Derived.OrdersIn
import Derived.OwnWalkIn
import Derived.TacticsInMore
import Derived.RangeFuncNested
import Derived.RangeFuncBound
import Derived.RangeFuncCalls
import Derived.RangeFuncLeaves
import Derived.Shelf.Abstract
import Derived.Shelf.RegionOpen
import Derived.LoopNIn
import Derived.LoopIn
import Derived.Maps.AppendAt
import Derived.Stop.RegionWithIn
set_option linter.all false
namespace Go.Proofs.YtipbhdhiklmieaaGreatDoor
open Go.RowKit
theorem tr1 {p : Prop} (h : p) : True /\ p := ⟨trivial, h⟩
theorem tr2 {p q : Prop} (h : p) (hq : q := by exact fun h => by cases h) : True /\ q /\ p := ⟨trivial, hq, h⟩
theorem frm : (∀ l : List Value, l.toArray.size = l.length) /\ (∀ (a : Value) (l : List Value), (a :: l).length = l.length + 1) /\ (([] : List Value).length = 0) /\ (∀ (n : Nat) (a : Value), Array.replicate (n + 1) a = (Array.replicate n a).push a) /\ (∀ a : Value, Array.replicate 0 a = #[]) /\ (∀ (l : List Value) (a : Value), l.toArray.push a = (l ++ [a]).toArray) /\ (∀ l m : List Value, l.toArray ++ m.toArray = (l ++ m).toArray) /\ (∀ l : List Value, [] ++ l = l) /\ (∀ (a : Value) (l m : List Value), (a :: l) ++ m = a :: (l ++ m)) :=
 ⟨fun _ => List.size_toArray .., fun _ _ => List.length_cons .., rfl, fun _ _ => Array.replicate_succ .., fun _ => Array.replicate_zero .., fun _ _ => List.push_toArray .., fun _ _ => List.append_toArray .., fun _ => List.nil_append .., fun _ _ _ => List.cons_append ..⟩
theorem ret_int {k : IntKind} {a b : Int} (h : a = b) : Ending.returned (.int k a) = .returned (.int k b) := by rw [h]
theorem ret_bool {a b : Bool} (h : a = b) : Ending.returned (.bool a) = .returned (.bool b) := by rw [h]
def iAt (l : List Int) (k : Nat) : Int := l[k]?.getD 0
def Is (w : World) (p : Option Addr) (l : List Int) : Prop :=
 l = [] \/ ∃ b o, p = some ⟨b, o, none⟩ /\ ∀ j, j < l.length -> w.cell? ⟨b, o + j, none⟩ = some (.int .i64 (iAt l j))
theorem Is.at {w : World} {p : Option Addr} {l : List Int} (h : Is w p l) (hl : 0 < l.length) : ∃ b o, p = some ⟨b, o, none⟩ /\ ∀ j, j < l.length -> w.cell? ⟨b, o + j, none⟩ = some (.int .i64 (iAt l j)) := by
 rcases h with rfl | h
 ·simp at hl
 ·exact h
theorem Is.below {n0 : Nat} {A B : World} {p : Option Addr} {l : List Int} (h : Is A p l) (hp : ∀ a, p = some a -> 0 < l.length -> a.block < n0) (hb : Below n0 A B) : Is B p l := by
 rcases h with rfl | ⟨b, o, rfl, hc⟩
 ·exact .inl rfl
 ·exact .inr ⟨b, o, rfl, fun j hj => (hb.cell (p := ⟨b, o + j, none⟩) (hp ⟨b, o, none⟩ rfl (by omega))).trans (hc j hj)⟩
theorem Is.lt {w : World} {p : Option Addr} {l : List Int} (h : Is w p l) : ∀ a, p = some a -> 0 < l.length -> a.block < w.heap.size := by
 intro a e hl
 obtain ⟨b, o, rfl, hc⟩ := h.at hl
 cases e
 exact World.block_lt_of_cell? w ⟨b, o + 0, none⟩ (hc 0 hl)
theorem Is.on {A B : World} {p : Option Addr} {l : List Int} (h : Is A p l) (hb : Below A.heap.size A B) : Is B p l := h.below h.lt hb
theorem Is.alloc {A : World} {p : Option Addr} {l : List Int} (h : Is A p l) (o : Obj) : Is (A.alloc o) p l := h.on ((Below.refl _ A).alloc (Nat.le_refl _) _)
theorem Is.drew {A : World} {p : Option Addr} {l : List Int} (h : Is A p l) : Is A.drew p l := h.on ((Below.refl _ A).drew)
theorem Is.drop {w : World} {b o : Nat} {l : List Int} (h : Is w (some ⟨b, o, none⟩) l) (k : Nat) : Is w (some ⟨b, o + k, none⟩) (l.drop k) := by
 rcases h with rfl | ⟨b', o', e, hc⟩
 ·exact .inl (by simp)
 ·cases e
  refine .inr ⟨b, o + k, rfl, fun j hj => ?_⟩
  have hj' : k + j < l.length := by simp at hj; omega
  rw [Nat.add_assoc, hc (k + j) hj']
  simp [iAt]
theorem Is.take {w : World} {p : Option Addr} {l : List Int} (h : Is w p l) (k : Nat) : Is w p (l.take k) := by
 rcases h with rfl | ⟨b, o, rfl, hc⟩
 ·exact .inl (by simp)
 ·refine .inr ⟨b, o, rfl, fun j hj => ?_⟩
  rw [List.length_take] at hj
  have hj1 : j < k := by omega
  rw [hc j (by omega)]
  simp [iAt, List.getElem?_take, hj1]
theorem add_plain (b o m : Nat) : (⟨b, o, none⟩ : Addr).add m = ⟨b, o + m, none⟩ := by unfold Addr.add; split <;> simp_all
theorem Tryz.info3 : (Tryz.prog.info? 3).map (fun i => (i.zero, i.size, i.bytes)) = some (some (.int .i64 0), 1, 8) := by kernel_rfl
theorem slice_from (p : Option Addr) (len cap m : Nat) (hm : m <= len) (hl : len <= cap) (w2 : World) :
  (Instr.slice 41 (.slice p len cap) (some (.int .i64 m)) none none).run Tryz.prog w2 = .ok (.slice (if cap = m then p else p.map (·.add m)) (len - m) (cap - m)) w2 := by
 have h0 : (m : Int) <= len := by omega
 have h1 : (len : Int) <= cap := by omega
 have u := Tryz.underlying41
 have z := Tryz.sizeOf3
 simp [go_sem, h0, h1]
theorem slice_to (p : Option Addr) (len cap s : Nat) (hs : s <= cap) (w2 : World) :
  (Instr.slice 41 (.slice p len cap) none (some (.int .i64 s)) none).run Tryz.prog w2 = .ok (.slice p s cap) w2 := by
 have h0 : (s : Int) <= cap := by omega
 have u := Tryz.underlying41
 have z := Tryz.sizeOf3
 cases p with
 | none => simp [go_sem, h0]
 | some a =>
  obtain ⟨b, o, sp⟩ := a
  by_cases hc : cap = 0
  ·subst hc; obtain rfl : s = 0 := by omega
   simp [go_sem]
  ·cases sp <;> simp [go_sem, h0, hc, Addr.add]
theorem Is.from {w : World} {p : Option Addr} {l : List Int} (h : Is w p l) (cap m : Nat) (hl : l.length <= cap) : Is w (if cap = m then p else p.map (·.add m)) (l.drop m) := by
 split
 ·exact .inl (List.drop_eq_nil_of_le (by omega))
 ·rcases h with rfl | ⟨b, o, rfl, hc⟩
  ·exact .inl (by simp)
  ·rw [Option.map_some, add_plain]
   exact Is.drop (.inr ⟨b, o, rfl, hc⟩) m
theorem wpList_append_run {P : Program} {w w' : World} {ops : Array Oper} {rest : List Oper} {o : Oper} {a : Act} {Q : Exit -> Act -> World -> Prop} (hgd : o.guard = none) (s x : Operand) (t : TypeId)
  (ho : o.op = .call { callee := .builtin .append, args := #[s, x], argTypes := #[t, t] }) {u y v : Value} (hs : a.eval s = u) (hx : a.eval x = y)
  (hrun : (Builtin.append_ #[t, t] o.type #[u, y]).run P w = .ok v w') (h : wpList P ops Q rest (a.put o.dst v) w') : wpList P ops Q (o :: rest) a w :=
 wpList_plain hgd fun K hK => by
  unfold Oper.wp execOp
  simp [ho, resolve, invoke, builtin, hs, hx, hrun, Result.andThen]
  exact hK _ _ h
theorem ownsRow_form {w : World} {base : Nat} {e : TypeId} {size : Nat} {v : Value} {n : Nat} {xs : List Value} (h : w.ownsRow base e size v n xs) : ∃ a k c, v = .slice a k c := by
 obtain ⟨-, ⟨rfl, -⟩ | ⟨g, cap, cur, rfl, -⟩⟩ := h
 ·exact ⟨_, _, _, rfl⟩
 ·exact ⟨_, _, _, rfl⟩
theorem ownsRow_mono {w : World} {base base' : Nat} {e : TypeId} {size : Nat} {v : Value} {n : Nat} {xs : List Value} (h : w.ownsRow base e size v n xs) (hb : base' <= base) : w.ownsRow base' e size v n xs := by
 obtain ⟨h1, h2 | ⟨g, cap, cur, hv, hg, rest⟩⟩ := h
 ·exact ⟨h1, .inl h2⟩
 ·exact ⟨h1, .inr ⟨g, cap, cur, hv, Nat.le_trans hb hg, rest⟩⟩
theorem is_of_row {w : World} {base n : Nat} {a : Option Addr} {k c : Nat} {l : List Int} (h : w.ownsRow base 3 1 (.slice a k c) n (l.map (.int .i64))) : Is w a l /\ k = l.length /\ k <= c /\ c <= maxLen := by
 have hl : l.length = n := by have := h.1; simpa using this
 have h' := h
 obtain ⟨-, ⟨e, e2⟩ | ⟨g, cap, cur, e, hb, hg, h1, h2, h3, h4⟩⟩ := h'
 ·cases e
  exact ⟨.inl (List.eq_nil_of_length_eq_zero (by omega)), by omega, by omega, by unfold maxLen; omega⟩
 ·cases e
  refine ⟨.inr ⟨g, 0, rfl, fun j hj => ?_⟩, by omega, h1, h2⟩
  have := h.cells (g := g) rfl j (.int .i64 (iAt l j)) (by simp [iAt, hj])
  rw [add_plain] at this
  exact this
end Go.Proofs.YtipbhdhiklmieaaGreatDoor
namespace Go.Proofs.YtipbhdhiklmieaaGreatDoor
structure Ev where
 k : Int
 tx : ByteArray
 tg : ByteArray
 an : ByteArray
 st : Int
 fl : Bool
structure Lp where
 n : Int
 t : List Int
structure Orc where
 blank : Int -> Bool
 name : Int -> Bool
 flow : Int -> Bool
 past : List Int -> Nat
 marker : Lp -> Bool
 bare : Lp -> Bool
 empty : Lp -> Bool
 anchor : List Int -> ByteArray × Nat × Bool
 tag : List Int -> ByteArray × Nat × Bool
 sEnd : List Int -> Option Nat
 dEnd : List Int -> Option Nat
 sRead : List (List Int) -> List Int
 dRead : List (List Int) -> List Int × Int
 begins : Bool -> List Int -> Bool
 pEnd : Bool -> List Int -> Nat
 fold : List (List Int) -> List Int
 text : List Int -> ByteArray
 past_le : ∀ t, past t <= t.length
 anchor_le : ∀ t, (anchor t).2.1 <= t.length
 tag_le : ∀ t, (tag t).2.1 <= t.length
 tag_pos : ∀ t, (tag t).2.2 = true -> 0 < (tag t).2.1
 sEnd_lt : ∀ t k, sEnd t = some k -> k < t.length
 dEnd_lt : ∀ t k, dEnd t = some k -> k < t.length
 pEnd_le : ∀ b t, pEnd b t <= t.length
section
variable (O : Orc) (L : List Lp) (n : Int)
end
structure Pl where
 i : Nat
 k : Nat
structure Lv where
 cl : Int
 pr : Bool
 nx : Nat
 bi : Nat
 bk : Nat
 ho : Nat
 ta : Nat
structure St where
 p : Pl
 op : List Lv
 to : List Ev
 ta : Nat
structure Hs where
 an : ByteArray
 tg : ByteArray
 bi : Nat
 bk : Nat
def hs0 : Hs := ⟨⟨#[]⟩, ⟨#[]⟩, 0, 0⟩
def Hs.so (x : Hs) : Bool := decide (x.an.size ≠ 0) || decide (x.tg.size ≠ 0)
def Pl.plus (p : Pl) (m : Nat) : Pl := ⟨p.i, p.k + m⟩
section
variable (O : Orc) (L : List Lp) (n : Int) (deep : Int) (blk : Bool)
def tx (i : Nat) : List Int := match L[i]? with | none => [] | some x => x.t
def rst (p : Pl) : List Int := (tx L p.i).drop p.k
def hd (p : Pl) : Int := (rst L p).headD 0
def staW (p : Pl) (c : Int) : Bool := decide (0 < (rst L p).length) && decide (hd L p = c)
def aloW (p : Pl) (c : Int) : Bool := staW L p c && (decide ((rst L (p.plus 1)).length = 0) || !(O.name (hd L (p.plus 1))))
def blaW (p : Pl) : Bool := decide ((rst L p).length = 0) || O.blank (hd L p)
def endW (p : Pl) : Bool := blaW O L p || O.flow (hd L p)
def pasW (p : Pl) : Pl := p.plus (O.past (rst L p))
def linW (p : Pl) : Bool := decide ((rst L p).length = 0) || (decide (hd L p = 35) && (decide (p.k = 0) || O.blank ((tx L p.i).getD (p.k - 1) 0)))
def nexF : Nat -> Pl -> Bool -> Except Int (Option Pl)
 | 0, _, _ => .ok none
 | f + 1, q, first => match L[q.i]? with
  | none => .ok none
  | some x =>
   if first = false /\ O.marker x = true then .ok none
   else if linW O L (pasW O L q) then nexF f ⟨q.i + 1, 0⟩ false
   else if first = false /\ x.n <= n then .error 7
   else .ok (some (pasW O L q))
def nexW (p : Pl) : Except Int (Option Pl) := nexF O L n (L.length - p.i) p true
def gonW (p : Pl) : Except Int Pl := match nexW O L n p with
 | .error c => .error c
 | .ok none => .error 2
 | .ok (some q) => .ok q
def namW (rd : List Int -> ByteArray × Nat × Bool) (had : ByteArray) (ah : Nat) (p : Pl) : Except Int (ByteArray × Pl) :=
 if had.size ≠ 0 \/ (rd (rst L (p.plus ah))).2.2 = false \/ endW O L ((p.plus ah).plus (rd (rst L (p.plus ah))).2.1) = false then .error 2
 else .ok ((rd (rst L (p.plus ah))).1, (p.plus ah).plus (rd (rst L (p.plus ah))).2.1)
def proF : Nat -> Pl -> Hs -> Except Int (Hs × Bool × Pl)
 | 0, p, x => .ok (x, false, p)
 | f + 1, p, x => match nexW O L n p with
  | .error c => .error c
  | .ok none => .ok (x, false, p)
  | .ok (some q) =>
   if hd L q = 38 then match namW O L O.anchor x.an 1 q with
    | .error c => .error c
    | .ok (s, r) => proF f r ⟨s, x.tg, r.i, r.k⟩
   else if hd L q = 33 then match namW O L O.tag x.tg 0 q with
    | .error c => .error c
    | .ok (s, r) => proF f r ⟨x.an, s, r.i, r.k⟩
   else .ok (x, true, q)
def telW (s : St) (x : Ev) (ta : Nat) : St :=
 { s with to := s.to ++ [x], ta := ta, op := match s.op with | [] => [] | l :: r => { l with ta := max l.ta ta } :: r }
def scaW (s : St) (x : Hs) (t : List Int) (st : Int) : St := telW s ⟨7, O.text t, x.tg, x.an, st, false⟩ 0
def empW (s : St) (x : Hs) : St := scaW O s x [] 1
def notW (s : St) (x : Hs) : Except Int St := if x.so then .ok (empW O { s with p := ⟨x.bi, x.bk⟩ } x) else .error 2
def aliW (s : St) (x : Hs) : Except Int St := match namW O L O.anchor ⟨#[]⟩ 1 s.p with
 | .error c => .error 2
 | .ok (t, r) => if x.so then .error 2 else .ok (telW { s with p := r } ⟨8, ⟨#[]⟩, ⟨#[]⟩, t, 0, false⟩ 0)
def deeW (s : St) (within : Nat) : Bool := decide (deep + (s.op.length : Int) + (within : Int) >= 200)
def opeW (s : St) (x : Hs) (c : Int) : Except Int St :=
 if deeW deep s 0 then .error 8
 else .ok { s with p := s.p.plus 1, to := s.to ++ [⟨if c = 123 then 5 else 3, ⟨#[]⟩, x.tg, x.an, 0, true⟩], op := ⟨if c = 123 then 125 else 93, false, 0, 0, 0, 0, 0⟩ :: s.op }
def uptF (en : List Int -> Option Nat) : Nat -> Pl -> Bool -> List (List Int) -> Except Int (List (List Int) × Pl)
 | 0, _, _, _ => .error 2
 | f + 1, q, first, l => match L[q.i]? with
  | none => .error 2
  | some x =>
   if first = false /\ O.marker x = true then .error 2
   else if first = false /\ O.empty x = false /\ x.n <= n then .error 7
   else match en (rst L q) with
    | some m => .ok (l ++ [(rst L q).take m], q.plus (m + 1))
    | none => uptF en f ⟨q.i + 1, 0⟩ false (l ++ [rst L q])
def uptW (en : List Int -> Option Nat) (p : Pl) : Except Int (List (List Int) × Pl) := uptF O L n en (L.length - p.i) p true []
def quoW (s : St) (x : Hs) (two : Bool) : Except Int St := match uptW O L n (if two then O.dEnd else O.sEnd) (s.p.plus 1) with
 | .error c => .error c
 | .ok (l, r) =>
  if two then (if (O.dRead l).2 ≠ 0 then .error (O.dRead l).2 else .ok (scaW O { s with p := r } x (O.dRead l).1 3))
  else .ok (scaW O { s with p := r } x (O.sRead l) 2)
def furF (wf : Bool) (p : Pl) : Nat -> Pl -> Option Pl
 | 0, _ => none
 | f + 1, q => match L[q.i]? with
  | none => none
  | some x =>
   if (rst L (pasW O L q)).length = 0 then furF wf p f ⟨q.i + 1, 0⟩
   else if q.i = p.i \/ O.marker x = true \/ x.n <= n \/ O.bare x = true then none
   else if O.pEnd wf x.t = 0 then none else some q
def furW (wf : Bool) (p : Pl) : Option Pl := furF O L n wf p (L.length - p.i) p
def plnF (wf : Bool) : Nat -> Pl -> Pl -> List (List Int) -> List (List Int) × Pl
 | 0, p, _, l => (l, p)
 | f + 1, p, q, l =>
  let l2 := (if l.length = 0 then [] else l ++ List.replicate (q.i - p.i - 1) []) ++ [(rst L q).take (O.pEnd wf (rst L q))]
  let r := q.plus (O.pEnd wf (rst L q))
  match furW O L n wf r with
  | none => (l2, r)
  | some q2 => plnF wf f r q2 l2
def plnW (s : St) (x : Hs) (wf : Bool) : St :=
 let r := plnF O L n wf (L.length + 1) s.p s.p []
 scaW O { s with p := r.2 } x (O.fold r.1) 1
def begW (s : St) : Except Int St := match proF O L n 3 s.p hs0 with
 | .error c => .error c
 | .ok (x, false, r) => notW O { s with p := r } x
 | .ok (x, true, r) =>
  let c := hd L r
  let s' := { s with p := r }
  if c = 42 then aliW O L s' x
  else if c = 34 \/ c = 39 then quoW O L n s' x (decide (c = 34))
  else if c = 91 \/ c = 123 then opeW deep s' x c
  else if O.begins (!blk || decide (0 < s.op.length)) (rst L r) then .ok (plnW O L n s' x (!blk || decide (0 < s.op.length)))
  else notW O s' x
def topS (s : St) (f : Lv -> Lv) : St := { s with op := match s.op with | [] => [] | l :: r => f l :: r }
def cloS (s : St) : St := match s.op with
 | [] => s
 | l :: r => telW { s with op := r } ⟨if l.cl = 93 /\ l.pr = false then 4 else 6, ⟨#[]⟩, ⟨#[]⟩, ⟨#[]⟩, 0, false⟩ (l.ta + 1)
def evP : Ev := ⟨5, ⟨#[]⟩, ⟨#[]⟩, ⟨#[]⟩, 0, true⟩
def ev0 : Ev := ⟨0, ⟨#[]⟩, ⟨#[]⟩, ⟨#[]⟩, 0, false⟩
def paiS (s : St) (ta : Nat) : St := { s with op := ⟨93, true, 2, 0, 0, 0, ta⟩ :: (topS s fun l => { l with nx := 4 }).op }
def entEnds (s : St) (cl : Int) : Bool := staW L s.p 44 || staW L s.p cl
def sgnW (s : St) (p : Pl) : Bool := aloW O L p 58 || (staW L p 58 && (decide (p.i = s.p.i) && decide (p.k = s.p.k)))
def askW (s : St) (l : Lv) : Except Int St :=
 if l.cl = 93 /\ deeW deep s 0 = true then .error 8
 else
  let s1 := if l.cl = 93 then paiS { s with to := s.to ++ [evP] } 0 else s
  match gonW O L n (s1.p.plus 1) with
  | .error c => .error c
  | .ok q =>
   let s2 := topS { s1 with p := q } fun l => { l with nx := 2 }
   if entEnds L s2 l.cl || aloW O L q 58 then .ok (empW O s2 hs0) else begW O L n deep blk s2
def entW (s : St) (l : Lv) : Except Int St := match gonW O L n s.p with
 | .error c => .error c
 | .ok q =>
  let s1 := { s with p := q }
  if staW L q l.cl then .ok (cloS { s1 with p := q.plus 1 })
  else if aloW O L q 63 then askW O L n deep blk s1 l
  else if l.cl = 125 then begW O L n deep blk (topS s1 fun l => { l with nx := 2 })
  else begW O L n deep blk { topS s1 (fun l => { l with nx := 1, bi := q.i, bk := q.k, ho := s.to.length }) with to := s.to ++ [ev0] }
def iteW (s : St) (l : Lv) : Except Int St :=
 let s1 := topS s fun l => { l with nx := 4 }
 match nexW O L n s.p with
 | .error c => .error c
 | .ok none => .ok s1
 | .ok (some q) =>
  if sgnW O L s q = false \/ q.i ≠ l.bi \/ (q.k : Int) - l.bk > 1024 then .ok s1
  else if deeW deep s s.ta then .error 8
  else .ok (paiS { s1 with to := s.to.set l.ho evP } s.ta)
def valW (s : St) (l : Lv) : Except Int St := match gonW O L n s.p with
 | .error c => .error c
 | .ok q =>
  let s1 := topS s fun l => { l with nx := if l.pr then 3 else 4 }
  if sgnW O L s q = false then .ok (empW O s1 hs0)
  else match gonW O L n (q.plus 1) with
   | .error c => .error c
   | .ok r =>
    if entEnds L { s1 with p := r } l.cl then .ok (empW O { s1 with p := r } hs0) else begW O L n deep blk { s1 with p := r }
def comW (s : St) (l : Lv) : Except Int St := match gonW O L n s.p with
 | .error c => .error c
 | .ok q =>
  if staW L q 44 then .ok (topS { s with p := q.plus 1 } fun l => { l with nx := 0 })
  else if staW L q l.cl then .ok (cloS { s with p := q.plus 1 })
  else .error 2
def stpW (s : St) : Except Int St := match s.op with
 | [] => .ok s
 | l :: r =>
  if l.nx = 0 then entW O L n deep blk s l
  else if l.nx = 1 then iteW O L n deep s l
  else if l.nx = 2 then valW O L n deep blk s l
  else if l.nx = 3 then .ok (cloS s)
  else comW O L n s l
def runW : Nat -> St -> Option (Except Int St)
 | 0, s => match s.op with | [] => some (.ok s) | _ :: _ => none
 | f + 1, s => match s.op with
  | [] => some (.ok s)
  | _ :: _ => match stpW O L n deep blk s with
   | .error c => some (.error c)
   | .ok s2 => runW f s2
def nodW (f : Nat) (p : Pl) : Option (Except Int St) := match begW O L n deep blk ⟨p, [], [], 0⟩ with
 | .error c => some (.error c)
 | .ok s => runW O L n deep blk f s
end
end Go.Proofs.YtipbhdhiklmieaaGreatDoor
namespace Go.Proofs.YtipbhdhiklmieaaGreatDoor
open Go.RowKit
section
variable {F : Fence} {n : Nat} {P : Program} {ops : Array Oper} {Q : Exit -> Act -> World -> Prop} {S : World -> Prop}
def Tells (P : Program) (ops : Array Oper) (S : World -> Prop) (o : Oper) (v : Value) (a : Act) : Prop :=
 (Region.wanted o (yielded ops a.tmps) = true /\ ∀ w, S w -> (execOp a.eval o).run P w = .ok (.value v) w) \/
 (Region.wanted o (yielded ops a.tmps) = false /\ v = undef)
def plainOps (ops : Array Oper) : Bool := ops.all fun o => match o.op with | .defer _ => false | .select _ _ => false | _ => true
theorem plainOps_at (h : plainOps ops = true) {i : Nat} {o : Oper} (hi : ops[i]? = some o) : (∀ c, o.op ≠ .defer c) /\ ∀ cs b, o.op ≠ .select cs b := by
 unfold plainOps at h
 have hm : o ∈ ops := Array.mem_of_getElem? hi
 have := (Array.all_eq_true_iff_forall_mem.1 h) o hm
 constructor
 ·intro c e; rw [e] at this; cases this
 ·intro cs b e; rw [e] at this; cases this
def Any (F : Fence) (n : Nat) (P : Program) (ops : Array Oper) (Q : Exit -> Act -> World -> Prop) (S : World -> Prop) : Nat -> Array Bool -> Act -> World -> Prop
 | 0, listed, a, w => Region.ready .any ops listed = [] /\ Q .normal a w
 | k + 1, listed, a, w => (Region.ready .any ops listed = [] -> Q .normal a w) /\
   ∀ i ∈ Region.ready .any ops listed, wpOpIn F n P ops Q i (fun a' w' => S w' /\ Any F n P ops Q S k (listed.setIfInBounds i true) a' w') a w
theorem Any.plain : ∀ (k : Nat) (listed : Array Bool) (a : Act) (w : World), Any F n P ops Q S k listed a w -> wpAnyIn F n P .any ops Q k listed a w
 | 0, _, _, _, h => h
 | k + 1, _, _, _, h => ⟨h.1, fun i hi => wpOpIn_mono (fun a' w' h' => Any.plain k _ a' w' h'.2) (h.2 i hi)⟩
theorem Tells.kept {o : Oper} {v : Value} {a a' : Act} (h : Tells P ops S o v a) (he : execOp a'.eval o = execOp a.eval o)
  (hw : Region.wanted o (yielded ops a'.tmps) = Region.wanted o (yielded ops a.tmps)) : Tells P ops S o v a' := by
 unfold Tells at *; rw [he, hw]; exact h
theorem Tells.op (hF : ∀ f, F.fn f) {i : Nat} {o : Oper} {v : Value} {a : Act} (hi : ops[i]? = some o) (hd : ∀ c, o.op ≠ .defer c) (h : Tells P ops S o v a) {K : Act -> World -> Prop} {w : World} (hS : S w) (hK : K (a.put o.dst v) w) :
  wpOpIn F n P ops Q i K a w := by
 unfold wpOpIn
 simp only [hi]
 rcases h with ⟨hw, hv⟩ | ⟨hw, rfl⟩
 ·simp only [hw, if_true, Oper.wpIn, Oper.semAt_plain F _ _ hd, hv w hS, Oper.uponIn]
  exact ⟨fun f _ => hF f, hK⟩
 ·simp only [hw, Bool.false_eq_true, if_false]
  exact ⟨fun f _ => hF f, hK⟩
theorem op_later (hF : ∀ f, F.fn f) {j : Nat} {oi oj : Oper} {v : Value} (hj : ops[j]? = some oj) (hap : oi.apart ops oj = true) (hpi : (∀ c, oi.op ≠ .defer c) /\ ∀ cs b, oi.op ≠ .select cs b) (hpj : (∀ c, oj.op ≠ .defer c) /\ ∀ cs b, oj.op ≠ .select cs b)
  (hQ : ∀ c a w, Q (.panic c) (a.put oi.dst v) w -> Q (.panic c) a w) {K : Act -> World -> Prop} {a : Act} {w : World} (hy : Tells P ops S oi v a) (h : wpOpIn F n P ops Q j K (a.put oi.dst v) w) :
  wpOpIn F n P ops Q j (fun a' w' => Tells P ops S oi v a' /\ K (a'.put oi.dst v) w') a w := by
 obtain ⟨h1, h2, h3⟩ := Oper.apart_spec hap
 have keep : ∀ u, Tells P ops S oi v (a.put oj.dst u) := fun u => hy.kept (execOp_put oi hpi.2 a oj.dst u h3) (wanted_put oi a oj.dst u h3)
 have turn : ∀ u w'', K ((a.put oi.dst v).put oj.dst u) w'' -> Tells P ops S oi v (a.put oj.dst u) /\ K ((a.put oj.dst u).put oi.dst v) w'' := fun u w'' hk => ⟨keep u, by rw [<- Act.put_comm a v u h2]; exact hk⟩
 unfold wpOpIn at *
 simp only [hj] at *
 rw [wanted_put oj a oi.dst v h1] at h
 cases hw : Region.wanted oj (yielded ops a.tmps) with
 | false =>
  simp only [hw, Bool.false_eq_true, if_false] at h |-
  exact ⟨fun f _ => hF f, turn _ _ h.2⟩
 | true =>
  simp only [hw, if_true] at h |-
  unfold Oper.wpIn at *
  refine ⟨fun f _ => hF f, ?_⟩
  have h := h.2
  rw [Oper.semAt_plain F _ _ hpj.1, execOp_put oj hpj.2 a oi.dst v h1] at h
  rw [Oper.semAt_plain F _ _ hpj.1]
  generalize (execOp a.eval oj).run P w = r at h |-
  cases r with
  | halt x w' => cases x <;> simp only [Oper.uponIn] at h |-; exact hQ _ _ _ h
  | ok x w' =>
   cases x with
   | value u => exact turn u w' h
   | skip => exact turn undef w' h
   | defer d =>
    simp only [Oper.uponIn] at h |-
    refine ⟨(hy.kept (a' := { a with defers := d :: a.defers }) rfl rfl).kept (execOp_put oi hpi.2 { a with defers := d :: a.defers } oj.dst undef h3) (wanted_put oi _ oj.dst undef h3), ?_⟩
    rw [<- Act.put_comm _ v undef h2, <- Act.put_defers]
    exact h
   | enter f args =>
    simp only [Oper.uponIn] at h |-
    refine ⟨h.1, CallsIn.mono h.2 fun e w'' he => ?_⟩
    cases e with
    | returned u => exact turn u w'' he
    | panicked c => exact hQ _ _ _ he
    | outgrown => exact he
   | row row args =>
    simp only [Oper.uponIn] at h |-
    exact ⟨h.1, RowsIn.mono h.2 fun u w'' he => turn u w'' he⟩
   | round l f tmps assign body =>
    simp only [Oper.uponIn] at h |-
    refine ⟨h.1, RoundIn.mono h.2 fun e w'' he => ?_⟩
    cases e with
    | returned u => exact turn u w'' he
    | panicked c => exact hQ _ _ _ he
    | outgrown => exact he
   | _ => first | exact h | (simp only [Oper.uponIn] at h |-; exact h)
theorem Any.first (hF : ∀ f, F.fn f) (hp : plainOps ops = true) {i : Nat} {oi : Oper} {v : Value} (hi : ops[i]? = some oi) (hQ : ∀ c a w, Q (.panic c) (a.put oi.dst v) w -> Q (.panic c) a w) :
  ∀ (k : Nat) (listed : Array Bool) (a : Act) (w : World),
   (∀ j oj, ops[j]? = some oj -> j ≠ i -> listed.getD j true = false -> (∀ e ∈ oj.after, Region.binds .any e = true -> e.on ≠ i) -> oi.apart ops oj = true) ->
   i ∈ Region.ready .any ops listed -> Tells P ops S oi v a -> S w ->
   Any F n P ops Q S k (listed.setIfInBounds i true) (a.put oi.dst v) w -> Any F n P ops Q S (k + 1) listed a w
 | k, listed, a, w, hfree, hr, hy, hS, H => by
  refine ⟨fun h => (by rw [h] at hr; cases hr), fun j hj => ?_⟩
  by_cases hji : j = i
  ·subst hji; exact hy.op hF hi (plainOps_at hp hi).1 hS ⟨hS, H⟩
  ·cases k with
   | zero => have := ready_mono hj hji; rw [H.1] at this; cases this
   | succ k =>
    obtain ⟨hjun, oj, hoj, hall⟩ := mem_ready.1 hj
    have hnot : ∀ e ∈ oj.after, Region.binds .any e = true -> e.on ≠ i := fun e he hb heq => by
     have h1 := hall e he hb
     have h0 := (mem_ready.1 hr).1
     rw [heq] at h1
     rcases Nat.lt_or_ge i listed.size with h' | h'
     ·simp [h'] at h0 h1; rw [h0] at h1; cases h1
     ·simp [Array.getElem?_eq_none h'] at h1
    have h2 := op_later hF hoj (hfree j oj hoj hji hjun hnot) (plainOps_at hp hi) (plainOps_at hp hoj) hQ hy (H.2 j (ready_mono hj hji))
    refine wpOpIn_mono (fun a' w' h3 => ⟨h3.2.1, Any.first hF hp hi hQ k _ a' w' (fun x ox hx hxi hun hno => hfree x ox hx hxi ?_ hno) (ready_mono hr (Ne.symm hji)) h3.1 h3.2.1 ?_⟩) h2
    ·by_cases hjx : j = x
     ·subst hjx; exact hjun
     ·rw [getD_set_ne true hjx] at hun; exact hun
    ·rw [Array.setIfInBounds_comm _ _ hji]; exact h3.2.2
theorem Any.take (hF : ∀ f, F.fn f) {i : Nat} {oi : Oper} {v : Value} {k : Nat} {listed : Array Bool} {a : Act} {w : World} (hi : ops[i]? = some oi) (hp : plainOps ops = true) (hf : Region.free .any ops listed i = true)
  (hr : (Region.ready .any ops listed).contains i = true) (hQ : ∀ c a w, Q (.panic c) (a.put oi.dst v) w -> Q (.panic c) a w) (hy : Tells P ops S oi v a) (hS : S w)
  (h : Any F n P ops Q S k (listed.setIfInBounds i true) (a.put oi.dst v) w) : Any F n P ops Q S (k + 1) listed a w :=
 Any.first hF hp hi hQ k listed a w (Region.free_spec hi hf) (by simpa using hr) hy hS h
theorem Any.one {i : Nat} {o : Oper} {k : Nat} {listed : Array Bool} {a : Act} {w : World} (hr : Region.ready .any ops listed = [i]) (ho : ops[i]? = some o) (hw : Region.wanted o (yielded ops a.tmps) = true)
  (h : ∀ K : Act -> World -> Prop, (∀ a' w', S w' -> Any F n P ops Q S k (listed.setIfInBounds i true) a' w' -> K a' w') -> Oper.wpIn F n P o a w K Q) : Any F n P ops Q S (k + 1) listed a w := by
 refine ⟨fun h0 => (by rw [hr] at h0; cases h0), fun j hj => ?_⟩
 rw [hr] at hj
 obtain rfl : j = i := by simpa using hj
 refine wpOpIn_step ho fun K hK => ?_
 rw [if_pos hw]
 exact h K fun a' w' h1 h2 => hK a' w' ⟨h1, h2⟩
theorem Any.tk (i : Nat) (v : Value) (hF : ∀ f, F.fn f) {oi : Oper} {k : Nat} {listed : Array Bool} {a : Act} {w : World} (hi : ops[i]? = some oi) (hy : Tells P ops S oi v a) (hS : S w)
  (h : Any F n P ops Q S k (listed.setIfInBounds i true) (a.put oi.dst v) w) (hp : plainOps ops = true := by kernel_rfl) (hf : Region.free .any ops listed i = true := by kernel_rfl)
  (hr : (Region.ready .any ops listed).contains i = true := by kernel_rfl) (hQ : ∀ c a w, Q (.panic c) (a.put oi.dst v) w -> Q (.panic c) a w := by exact fun _ _ _ h => h) : Any F n P ops Q S (k + 1) listed a w :=
 Any.take hF hi hp hf hr hQ hy hS h
theorem Any.tp (i : Nat) (v : Value) {oi : Oper} {k : Nat} {listed : Array Bool} {a : Act} {w : World} (hS : S w) (h : Any F n P ops Q S k (listed.setIfInBounds i true) (a.put oi.dst v) w) (hi : ops[i]? = some oi := by rfl) (hw : Region.wanted oi (yielded ops a.tmps) = true := by rfl)
  (hv : ∀ w, S w -> (execOp a.eval oi).run P w = .ok (.value v) w := by intro w _; go_simp) (hF : ∀ f, F.fn f := by exact fun _ => trivial) (hp : plainOps ops = true := by kernel_rfl) (hf : Region.free .any ops listed i = true := by kernel_rfl)
  (hr : (Region.ready .any ops listed).contains i = true := by kernel_rfl) (hQ : ∀ c a w, Q (.panic c) (a.put oi.dst v) w -> Q (.panic c) a w := by exact fun _ _ _ h => h) : Any F n P ops Q S (k + 1) listed a w :=
 Any.take hF hi hp hf hr hQ (.inl ⟨hw, hv⟩) hS h
theorem Any.tl (i : Nat) (v : Value) {oi : Oper} {k : Nat} {listed : Array Bool} {a : Act} {w : World} (hi : ops[i]? = some oi) (hv : ∀ w, S w -> (execOp a.eval oi).run P w = .ok (.value v) w) (hS : S w) (h : Any F n P ops Q S k (listed.setIfInBounds i true) (a.put oi.dst v) w) (hw : Region.wanted oi (yielded ops a.tmps) = true := by rfl)
  (hF : ∀ f, F.fn f := by exact fun _ => trivial) (hp : plainOps ops = true := by kernel_rfl) (hf : Region.free .any ops listed i = true := by kernel_rfl)
  (hr : (Region.ready .any ops listed).contains i = true := by kernel_rfl) (hQ : ∀ c a w, Q (.panic c) (a.put oi.dst v) w -> Q (.panic c) a w := by exact fun _ _ _ h => h) : Any F n P ops Q S (k + 1) listed a w :=
 Any.take hF hi hp hf hr hQ (.inl ⟨hw, hv⟩) hS h
theorem Any.ts (i : Nat) {oi : Oper} {k : Nat} {listed : Array Bool} {a : Act} {w : World} (hS : S w) (h : Any F n P ops Q S k (listed.setIfInBounds i true) (a.put oi.dst undef) w) (hi : ops[i]? = some oi := by rfl) (hw : Region.wanted oi (yielded ops a.tmps) = false := by rfl)
  (hF : ∀ f, F.fn f := by exact fun _ => trivial) (hp : plainOps ops = true := by kernel_rfl) (hf : Region.free .any ops listed i = true := by kernel_rfl)
  (hr : (Region.ready .any ops listed).contains i = true := by kernel_rfl) (hQ : ∀ c a w, Q (.panic c) (a.put oi.dst undef) w -> Q (.panic c) a w := by exact fun _ _ _ h => h) : Any F n P ops Q S (k + 1) listed a w :=
 Any.take hF hi hp hf hr hQ (.inr ⟨hw, rfl⟩) hS h
theorem Any.on (i : Nat) {o : Oper} {k : Nat} {listed : Array Bool} {a : Act} {w : World} (ho : ops[i]? = some o) (hw : Region.wanted o (yielded ops a.tmps) = true)
  (h : ∀ K : Act -> World -> Prop, (∀ a' w', S w' -> Any F n P ops Q S k (listed.setIfInBounds i true) a' w' -> K a' w') -> Oper.wpIn F n P o a w K Q) (hr : Region.ready .any ops listed = [i] := by kernel_rfl) : Any F n P ops Q S (k + 1) listed a w :=
 Any.one hr ho hw h
theorem Any.done {k : Nat} {listed : Array Bool} {a : Act} {w : World} (hr : Region.ready .any ops listed = []) (h : Q .normal a w) : Any F n P ops Q S k listed a w := by
 cases k with
 | zero => exact ⟨hr, h⟩
 | succ k => exact ⟨fun _ => h, by rw [hr]; simp⟩
theorem region_pick {id : Nat} {a : Act} {w : World} (S : World -> Prop) (hm : P.follows .mixedOrders = true)
  (h : Any F n P ops Q S ops.size (Array.replicate ops.size false) a w.drew) : (Code.region id ops true).wpIn F n P Q a w :=
 wpIn_region_any hm (Any.plain _ _ _ _ h)
def nrm (Q : Exit -> Act -> World -> Prop) : Exit -> Act -> World -> Prop
 | .normal, a, w => Q .normal a w
 | _, _, _ => False
theorem region_pickN {id : Nat} {a : Act} {w : World} (S : World -> Prop) (hm : P.follows .mixedOrders = true)
  (h : Any F n P ops (nrm Q) S ops.size (Array.replicate ops.size false) a w.drew) : (Code.region id ops true).wpIn F n P Q a w :=
 Go.wpIn_mono (region_pick S hm h) fun e a w hq => by
  cases e with
  | normal => exact hq
  | _ => exact hq.elim
end
theorem wideF (f : Nat) : Fence.wide.fn f := trivial
theorem wideR (l f : Nat) : (Fence.wide.inRound l).fn f := trivial
end Go.Proofs.YtipbhdhiklmieaaGreatDoor
namespace Go.Proofs.YtipbhdhiklmieaaGreatDoor
open Go.RowKit Go.Shelf
structure Kx (n0 l : Nat) (X : Nat -> Prop) (W W' : World) : Prop where
 below : Below n0 W W'
 own : ∀ b, X b -> W'.heap[b]? = W.heap[b]?
 others : ∀ (k : Nat) (o : Obj), k ≠ l -> W.heap[k]? = some o -> o.isCells = false -> W'.heap[k]? = some o
theorem Kx.refl (n0 l : Nat) (X : Nat -> Prop) (W : World) : Kx n0 l X W W := ⟨Below.refl _ _, fun _ _ => rfl, fun _ _ _ h _ => h⟩
theorem Kx.trans {n0 l : Nat} {X : Nat -> Prop} {A B C : World} (h : Kx n0 l X A B) (k : Kx n0 l X B C) : Kx n0 l X A C :=
 ⟨h.below.trans k.below, fun b hb => (k.own b hb).trans (h.own b hb), fun i o hi ho hc => k.others i o hi (h.others i o hi ho hc) hc⟩
theorem Kx.less {n0 l : Nat} {X Y : Nat -> Prop} {A B : World} (h : Kx n0 l X A B) (hY : ∀ b, Y b -> X b) : Kx n0 l Y A B := ⟨h.below, fun b hb => h.own b (hY b hb), h.others⟩
theorem Kx.alloc {n0 l : Nat} {X : Nat -> Prop} {W : World} (hn : n0 <= W.heap.size) (hX : ∀ b, X b -> b < W.heap.size) (o : Obj) : Kx n0 l X W (W.alloc o) :=
 ⟨(Below.refl _ W).alloc hn o, fun b hb => Below.heap_alloc W o b (hX b hb), fun k o' _ hk _ => (Below.heap_alloc W o k (Array.getElem?_eq_some_iff.1 hk).1).trans hk⟩
theorem Kx.putObj {n0 l : Nat} {X : Nat -> Prop} {W : World} (hn : n0 <= l) (hl : l < W.heap.size) (hX : ¬ X l) (o' : Obj) : Kx n0 l X W (W.putObj l o') :=
 ⟨(Below.refl n0 W).grown (grownBy_putObj' W l o') (by omega) (fun k e => by cases e; exact hn), fun b hb => World.putObj_heap_other (fun e => hX (e ▸ hb)), fun k o hk ho _ => (World.putObj_heap_other hk).trans ho⟩
theorem Kx.drew (n0 l : Nat) (X : Nat -> Prop) (W : World) : Kx n0 l X W W.drew := ⟨(Below.refl _ W).drew, fun _ _ => rfl, fun _ _ _ h _ => h⟩
theorem Kx.from {n0 l B : Nat} {X : Nat -> Prop} {A C : World} (h : Kx n0 l X A C) (hl : l < B) : KeepsFrom B A C := ⟨h.below.size, fun k o hk ho hc => h.others k o (by omega) ho hc⟩
theorem Kx.boxed {n0 l : Nat} {X : Nat -> Prop} {A C : World} (h : Kx n0 l X A C) {b : Nat} (hb : X b) {t : TypeId} {v : Value} (hv : Boxed A b t v) : Boxed C b t v := (h.own b hb).trans hv
def more (X : Nat -> Prop) (b : Nat) : Nat -> Prop := fun k => X k \/ k = b
structure Abx {β : Type} (B : Nat) (J : (Nat -> Prop) -> β -> World -> Prop) : Prop where
 step : ∀ X s W W' row, J X s W -> W.grownBy W' row -> (∀ r, row = some r -> X r \/ (B <= r /\ ∃ o : Obj, W.heap[r]? = some o /\ o.isCells = false)) -> J X s W'
 new : ∀ X s W o, J X s W -> J (more X W.heap.size) s (W.alloc o)
 less : ∀ X Y s W, J X s W -> (∀ b, Y b -> X b) -> J Y s W
 lt : ∀ X s W b, J X s W -> X b -> b < W.heap.size
theorem Abx.alloc {β : Type} {B : Nat} {J : (Nat -> Prop) -> β -> World -> Prop} (h : Abx B J) {X : Nat -> Prop} {s : β} {W : World} (hs : J X s W) (o : Obj) : J X s (W.alloc o) :=
 h.step X s W _ none hs (World.grownBy_alloc W o none) (fun r e => by cases e)
theorem grownBy_drew (W : World) : W.grownBy W.drew none := ⟨rfl, rfl, rfl, Nat.le_refl _, fun _ _ _ => rfl⟩
theorem Abx.drew {β : Type} {B : Nat} {J : (Nat -> Prop) -> β -> World -> Prop} (h : Abx B J) {X : Nat -> Prop} {s : β} {W : World} (hs : J X s W) : J X s W.drew :=
 h.step X s W _ none hs (grownBy_drew W) (fun r e => by cases e)
theorem Abx.set {β : Type} {B : Nat} {J : (Nat -> Prop) -> β -> World -> Prop} (h : Abx B J) {X : Nat -> Prop} {s : β} {W : World} (hs : J X s W) {b : Nat} (hb : X b) (v : Value) : J X s (W.setCell ⟨b, 0, none⟩ v) :=
 h.step X s W _ (some b) hs (grownBy_setCell' W b v) (fun r e => by cases e; exact .inl hb)
theorem Abx.ownFromF {β γ : Type} {B B' : Nat} {J : (Nat -> Prop) -> β -> World -> Prop} (h : Abx B J) (hB : B <= B') (X : Nat -> Prop) (f : γ -> β) : OwnFrom B' (fun s W => J X (f s) W) :=
 fun s W W' row hs hg hr => h.step X (f s) W W' row hs hg (fun r e => .inr ⟨Nat.le_trans hB (hr r e).1, (hr r e).2⟩)
def Rounds {α : Type} (n0 N : Nat) (P : Program) (l : Nat) (enc : α -> Array Value) (J : (Nat -> Prop) -> List α -> World -> Prop) : Prop :=
 ∀ (m : Nat) (X : Nat -> Prop) (pre : List α) (x : α) (W : World), J X pre W -> pre.length < N -> YieldAt Fence.wide m P l (enc x) W fun e W' => e = .returned (.bool true) /\ J X (pre ++ [x]) W' /\ Kx n0 l X W W'
def Seqx {α : Type} (n : Nat) (P : Program) (g : Nat) (lb : Array Value) (enc : α -> Array Value) (n0 N : Nat) (S : List α -> Prop) (w : World) : Prop :=
 ∀ (l : Nat) (J : (Nat -> Prop) -> List α -> World -> Prop) (X : Nat -> Prop) (W : World), Below w.heap.size w W -> l < W.heap.size -> Abx W.heap.size J -> Rounds n0 N P l enc J -> J X [] W ->
  CallsIn Fence.wide n P g (#[.func (.yield l) #[] #[]] ++ lb) W fun e W' => (∃ v, e = .returned v) /\ ∃ xs, S xs /\ J X xs W'
def postx {α : Type} (n0 l : Nat) (I : (Nat -> Prop) -> List α -> World -> Prop) (X : Nat -> Prop) (xs : List α) (W : World) : Exit -> Act -> World -> Prop
 | .normal, _, W' => Kx n0 l X W W' /\ I X xs W' /\ W'.heap[l]? = W.heap[l]?
 | _, _, _ => False
theorem wpIn_rangeFuncx {α : Type} {n : Nat} {P : Program} {g : Operand} {ps : Array Tmp} {assign body : Code} {Q : Exit -> Act -> World -> Prop} {a : Act} {w : World}
  {gf : Nat} {lb : Array Value} (hg : a.eval g = .func (.func gf) #[] lb) (eg : ∀ args w, (callFunc gf args).run P w = .ok (.enter gf args) w)
  {enc : α -> Array Value} {S : List α -> Prop} {n0 N : Nat} {w0 : World} (hn0 : n0 <= w.heap.size) (hseq : Seqx (n - 1) P gf lb enc n0 N S w0) (hb0 : Below w0.heap.size w0 w) (hps : ∀ x, (enc x).size = ps.size)
  (I : (Nat -> Prop) -> List α -> World -> Prop) (hI : Abx w.heap.size I) (h0 : I (fun _ => False) [] w) (a₁ : α -> Act)
  (hassign : ∀ (m l : Nat) (x : α) (W : World) (K : Act -> World -> Prop), K (a₁ x) W ->
   assign.wpIn (Fence.wide.inRound l) m P (Exit.then K (fun _ _ _ => False)) { tmps := (ps.zip (enc x)).foldl (fun t (p, v) => t.setIfInBounds p v) a.tmps, defers := [] } W)
  (hbody : ∀ (m l : Nat) (X : Nat -> Prop) (pre : List α) (x : α) (W : World), w.heap.size <= l -> (∃ r, W.heap[l]? = some (.loop r)) -> I X pre W -> pre.length < N -> body.wpIn (Fence.wide.inRound l) m P (postx n0 l I X (pre ++ [x]) W) (a₁ x) W)
  (hdone : ∀ (D : Nat) (xs : List α) (W : World), w.heap.size <= D -> S xs -> I (fun _ => False) xs W -> W.heap[D]? = some (.deferred (some [])) -> Q .normal { a with defers := { target := .collected D, args := #[] } :: a.defers } W) :
  (Code.rangeFunc g ps assign body).wpIn Fence.wide n P Q a w := by
 refine wpIn_rangeFunc ?_
 intro fn hfn
 rw [show Fence.wide.round = none from rfl]
 obtain ⟨rec, hrec⟩ : ∃ rec : LoopState -> Option Code -> Loop, rec = fun st pe => { state := st, pending := pe, fn, tmps := a.tmps, params := ps, assign, body, defers := w.heap.size } := ⟨_, rfl⟩
 obtain ⟨W1, hW1⟩ : ∃ W1, (w.alloc (.deferred (some []))).alloc (.loop (rec .ready none)) = W1 := ⟨_, rfl⟩
 have hL1 : W1.heap[w.heap.size + 1]? = some (.loop (rec .ready none)) := by
  rw [<- hW1]; have := World.alloc_heap_new (w.alloc (.deferred (some []))) (.loop (rec .ready none)); rwa [World.size_alloc] at this
 have hK1 : W1.heap[w.heap.size]? = some (.deferred (some [])) := by
  rw [<- hW1]; exact (Below.heap_alloc _ _ _ (by simp)).trans (World.alloc_heap_new w _)
 have hI1 : I (fun _ => False) [] W1 := by rw [<- hW1]; exact hI.alloc (hI.alloc h0 _) _
 have hsz1 : W1.heap.size = w.heap.size + 2 := by rw [<- hW1]; simp
 have hb1 : Below w0.heap.size w0 W1 := by
  rw [<- hW1]; exact hb0.trans ((((Below.refl _ w).alloc (Nat.le_refl _) _).alloc (by simp) _).mono hb0.size)
 refine ⟨w.heap.size + 1, [{ target := .collected w.heap.size, args := #[] }], W1, { target := .fn (.func gf) lb, args := #[.func (.yield (w.heap.size + 1)) #[] #[]] }, W1, gf,
  #[.func (.yield (w.heap.size + 1)) #[] #[]] ++ lb, W1, ?_, ?_, fun _ _ => trivial, ?_, (fun h => by cases h), ?_⟩
 ·rw [<- hW1, hrec]; exact run_enterLoop_outer _ _ _ _ _
 ·simp only [resolve, hg]
  simp [go_sem]
 ·simp [invoke, go_sem, eg]
 ·clear hW1
  have hJ : Abx W1.heap.size (fun X pre W => I X pre W /\ W.heap[w.heap.size + 1]? = some (.loop (rec .ready none)) /\ W.heap[w.heap.size]? = some (.deferred (some [])) /\ ¬ X (w.heap.size + 1) /\ ¬ X w.heap.size) := by
   refine ⟨fun X s W W' row hs hg' hr => ?_, fun X s W o hs => ?_, fun X Y s W hs hY => ?_, fun X s W b hs hb => hI.lt X s W b hs.1 hb⟩
   ·obtain ⟨hi, hl, hk, nl, nd⟩ := hs
    have ne : ∀ r, r < W1.heap.size -> ¬ X r -> some r ≠ row := fun r hlt hn e => by
     rcases hr r e.symm with h | ⟨h, -⟩
     ·exact hn h
     ·omega
    exact ⟨hI.step X s W W' row hi hg' (fun r e => (hr r e).imp id (fun ⟨h1, h2⟩ => ⟨by omega, h2⟩)), (hg'.block _ (Array.getElem?_eq_some_iff.1 hl).1 (ne _ (by omega) nl)).trans hl, (hg'.block _ (Array.getElem?_eq_some_iff.1 hk).1 (ne _ (by omega) nd)).trans hk, nl, nd⟩
   ·obtain ⟨hi, hl, hk, nl, nd⟩ := hs
    have l1 := (Array.getElem?_eq_some_iff.1 hl).1
    exact ⟨hI.new X s W o hi, (Below.heap_alloc W o _ l1).trans hl, (Below.heap_alloc W o _ (by omega)).trans hk, (fun h => h.elim nl (fun e => by omega)), fun h => h.elim nd (fun e => by omega)⟩
   ·obtain ⟨hi, hl, hk, nl, nd⟩ := hs
    exact ⟨hI.less X Y s W hi hY, hl, hk, fun h => nl (hY _ h), fun h => nd (hY _ h)⟩
  refine (hseq (w.heap.size + 1) _ (fun _ => False) W1 hb1 (by omega) hJ ?_ ⟨hI1, hL1, hK1, id, id⟩).mono ?_
  ·rintro m X pre x W ⟨hi, hl, hk, nl, nd⟩ hlen
   have hy := run_yield (P := P) (args := enc x) hl (by rw [hrec]; exact hps x)
   rw [hrec] at hy
   refine ⟨fn, _, assign, body, hy, roundIn_of_wpIn hfn (hassign _ _ x W _ ⟨_, run_beginRound hl (by rw [hrec]), ?_⟩)⟩
   have hlt : w.heap.size + 1 < W.heap.size := (Array.getElem?_eq_some_iff.1 hl).1
   have hl2 : (W.putObj (w.heap.size + 1) (.loop { rec .ready none with state := .busy })).heap[w.heap.size + 1]? = some (.loop { rec .ready none with state := .busy }) := World.putObj_heap_same hlt
   have hk2 : (W.putObj (w.heap.size + 1) (.loop { rec .ready none with state := .busy })).heap[w.heap.size]? = some (.deferred (some [])) := (World.putObj_heap_other (by omega)).trans hk
   have kx1 : Kx n0 (w.heap.size + 1) X W (W.putObj (w.heap.size + 1) (.loop { rec .ready none with state := .busy })) := Kx.putObj (by omega) hlt nl _
   have hi2 : I X pre (W.putObj (w.heap.size + 1) (.loop { rec .ready none with state := .busy })) := hI.step X pre W _ (some (w.heap.size + 1)) hi (grownBy_putObj' W _ _) (fun r e => by cases e; exact .inr ⟨by omega, _, hl, rfl⟩)
   generalize W.putObj (w.heap.size + 1) (.loop { rec .ready none with state := .busy }) = Wb at hl2 hk2 kx1 hi2 |-
   refine wpIn_mono (hbody _ _ X pre x Wb (by omega) ⟨_, hl2⟩ hi2 hlen) ?_
   rintro e a3 W3 hp
   cases e with
   | normal =>
    obtain ⟨k3, hi3, hl3⟩ := hp
    have hl3' := hl3.trans hl2
    have hk3 := k3.others _ _ (by omega) hk2 rfl
    have hr := run_endRound (P := P) none hl3'
    have hlt3 := (Array.getElem?_eq_some_iff.1 hl3').1
    rw [hrec] at hr
    refine ⟨_, _, hr, rfl, ⟨hI.step X _ W3 _ (some (w.heap.size + 1)) hi3 (grownBy_putObj' W3 _ _) (fun r e => by cases e; exact .inr ⟨by omega, _, hl3', rfl⟩), ?_, (World.putObj_heap_other (by omega)).trans hk3, nl, nd⟩, (kx1.trans k3).trans (Kx.putObj (by omega) hlt3 nl _)⟩
    rw [World.putObj_heap_same hlt3, hrec]
    rfl
   | _ => exact hp.elim
  ·rintro e W2 ⟨⟨v, rfl⟩, xs, hS, hi, hl, hk, -, -⟩
   exact ⟨none, _, by have := run_endLoop (P := P) hl (by rw [hrec]; simp); rw [hrec] at this; exact this, hdone _ xs _ (Nat.le_refl _) hS (hI.step _ _ W2 _ (some (w.heap.size + 1)) hi (grownBy_putObj' W2 _ _) (fun r e => by cases e; exact .inr ⟨by omega, _, hl, rfl⟩)) ((World.putObj_heap_other (by omega)).trans hk)⟩
end Go.Proofs.YtipbhdhiklmieaaGreatDoor
