/- The leaves: what the small functions of chars and fold, and the document's own ones, answer for every number; how a slice of ints is read. -/
import Derived.Test.YteeanpfhngoobaaGreatProg
import Derived.KernelRfl
import Derived.WalkKit
import Derived.WalkSpells
import Derived.WalkLawsBesides
import Derived.BigQuiet
import Derived.Deep.Cut
import Derived.Deep.AppendSrc
import Derived.Deep.Heap
import Derived.OrdersIn
import Derived.OwnWalkIn
import Derived.TacticsInMore
import Derived.RangeFuncNested
import Derived.RangeFuncBound
import Derived.RangeFuncCalls
import Derived.RangeFuncLeaves
import Derived.Shelf.Abstract
import Derived.Shelf.RegionOpen
import Derived.LoopNIn
import Derived.LoopIn
import Derived.Maps.AppendAt
import Derived.Stop.RegionWithIn
set_option linter.unusedVariables false
set_option linter.unusedSimpArgs false
namespace Go.Proofs.YteeanpfhngoobaaGreat
open Go.RowKit

theorem ret_int {k : IntKind} {a b : Int} (h : a = b) : Ending.returned (.int k a) = .returned (.int k b) := by rw [h]
theorem ret_bool {a b : Bool} (h : a = b) : Ending.returned (.bool a) = .returned (.bool b) := by rw [h]

def iAt (l : List Int) (k : Nat) : Int := l[k]?.getD 0

/-- The slice at p holds these ints; of an empty one nothing is asked. -/
def Is (w : World) (p : Option Addr) (l : List Int) : Prop :=
  l = [] ∨ ∃ b o, p = some ⟨b, o, none⟩ ∧ ∀ j, j < l.length → w.cell? ⟨b, o + j, none⟩ = some (.int .i64 (iAt l j))

theorem Is.at {w : World} {p : Option Addr} {l : List Int} (h : Is w p l) (hl : 0 < l.length) : ∃ b o, p = some ⟨b, o, none⟩ ∧ ∀ j, j < l.length → w.cell? ⟨b, o + j, none⟩ = some (.int .i64 (iAt l j)) := by
  rcases h with rfl | h
  · simp at hl
  · exact h
theorem Is.below {n₀ : Nat} {A B : World} {p : Option Addr} {l : List Int} (h : Is A p l) (hp : ∀ a, p = some a → 0 < l.length → a.block < n₀) (hb : Below n₀ A B) : Is B p l := by
  rcases h with rfl | ⟨b, o, rfl, hc⟩
  · exact .inl rfl
  · exact .inr ⟨b, o, rfl, fun j hj => (hb.cell (p := ⟨b, o + j, none⟩) (hp ⟨b, o, none⟩ rfl (by omega))).trans (hc j hj)⟩
theorem Is.lt {w : World} {p : Option Addr} {l : List Int} (h : Is w p l) : ∀ a, p = some a → 0 < l.length → a.block < w.heap.size := by
  intro a e hl
  obtain ⟨b, o, rfl, hc⟩ := h.at hl
  cases e
  exact World.block_lt_of_cell? w ⟨b, o + 0, none⟩ (hc 0 hl)
theorem Is.on {A B : World} {p : Option Addr} {l : List Int} (h : Is A p l) (hb : Below A.heap.size A B) : Is B p l := h.below h.lt hb
theorem Is.alloc {A : World} {p : Option Addr} {l : List Int} (h : Is A p l) (o : Obj) : Is (A.alloc o) p l := h.on ((Below.refl _ A).alloc (Nat.le_refl _) _)
theorem Is.drew {A : World} {p : Option Addr} {l : List Int} (h : Is A p l) : Is A.drew p l := h.on ((Below.refl _ A).drew)
theorem Is.drewN {w : World} {p : Option Addr} {l : List Int} (h : Is w p l) (n : Nat) : Is (w.drewN n) p l := by
  rcases h with rfl | ⟨b, o, rfl, hc⟩
  · exact .inl rfl
  · exact .inr ⟨b, o, rfl, fun j hj => by simpa using hc j hj⟩
theorem Is.drop {w : World} {b o : Nat} {l : List Int} (h : Is w (some ⟨b, o, none⟩) l) (k : Nat) : Is w (some ⟨b, o + k, none⟩) (l.drop k) := by
  rcases h with rfl | ⟨b', o', e, hc⟩
  · exact .inl (by simp)
  · cases e
    refine .inr ⟨b, o + k, rfl, fun j hj => ?_⟩
    have hj' : k + j < l.length := by simp at hj; omega
    rw [Nat.add_assoc, hc (k + j) hj']
    simp [iAt]
theorem Is.take {w : World} {p : Option Addr} {l : List Int} (h : Is w p l) (k : Nat) : Is w p (l.take k) := by
  rcases h with rfl | ⟨b, o, rfl, hc⟩
  · exact .inl (by simp)
  · refine .inr ⟨b, o, rfl, fun j hj => ?_⟩
    rw [List.length_take] at hj
    have hj1 : j < k := by omega
    rw [hc j (by omega)]
    simp [iAt, List.getElem?_take, hj1]

theorem add_plain (b o m : Nat) : (⟨b, o, none⟩ : Addr).add m = ⟨b, o + m, none⟩ := by unfold Addr.add; split <;> simp_all

theorem Tryz.info3 : (Tryz.prog.info? 3).map (fun i => (i.zero, i.size, i.bytes)) = some (some (.int .i64 0), 1, 8) := by kernel_rfl

theorem slice_from (p : Option Addr) (len cap m : Nat) (hm : m ≤ len) (hl : len ≤ cap) (w2 : World) :
    (Instr.slice 26 (.slice p len cap) (some (.int .i64 m)) none none).run Tryz.prog w2 = .ok (.slice (if cap = m then p else p.map (·.add m)) (len - m) (cap - m)) w2 := by
  have h0 : (m : Int) ≤ len := by omega
  have h1 : (len : Int) ≤ cap := by omega
  have u := Tryz.underlying26
  have z := Tryz.sizeOf3
  simp [go_sem, h0, h1]

theorem slice_to (p : Option Addr) (len cap s : Nat) (hs : s ≤ cap) (w2 : World) :
    (Instr.slice 26 (.slice p len cap) none (some (.int .i64 s)) none).run Tryz.prog w2 = .ok (.slice p s cap) w2 := by
  have h0 : (s : Int) ≤ cap := by omega
  have u := Tryz.underlying26
  have z := Tryz.sizeOf3
  cases p with
  | none => simp [go_sem, h0]
  | some a =>
    obtain ⟨b, o, sp⟩ := a
    by_cases hc : cap = 0
    · subst hc; obtain rfl : s = 0 := by omega
      simp [go_sem]
    · cases sp <;> simp [go_sem, h0, hc, Addr.add]

theorem Is.from {w : World} {p : Option Addr} {l : List Int} (h : Is w p l) (cap m : Nat) (hl : l.length ≤ cap) : Is w (if cap = m then p else p.map (·.add m)) (l.drop m) := by
  split
  · exact .inl (List.drop_eq_nil_of_le (by omega))
  · rcases h with rfl | ⟨b, o, rfl, hc⟩
    · exact .inl (by simp)
    · rw [Option.map_some, add_plain]
      exact Is.drop (.inr ⟨b, o, rfl, hc⟩) m

/-- An append whose run is known. -/
theorem wpList_append_run {P : Program} {w w' : World} {ops : Array Oper} {rest : List Oper} {o : Oper} {a : Act} {Q : Exit → Act → World → Prop} (hgd : o.guard = none) (s x : Operand) (t : TypeId)
    (ho : o.op = .call { callee := .builtin .append, args := #[s, x], argTypes := #[t, t] }) {u y v : Value} (hs : a.eval s = u) (hx : a.eval x = y)
    (hrun : (Builtin.append_ #[t, t] o.type #[u, y]).run P w = .ok v w') (h : wpList P ops Q rest (a.put o.dst v) w') : wpList P ops Q (o :: rest) a w :=
  wpList_plain hgd fun K hK => by
    unfold Oper.wp execOp
    simp [ho, resolve, invoke, builtin, hs, hx, hrun, Result.andThen]
    exact hK _ _ h

theorem ownsRow_form {w : World} {base : Nat} {e : TypeId} {size : Nat} {v : Value} {n : Nat} {xs : List Value} (h : w.ownsRow base e size v n xs) : ∃ a k c, v = .slice a k c := by
  obtain ⟨-, ⟨rfl, -⟩ | ⟨g, cap, cur, rfl, -⟩⟩ := h
  · exact ⟨_, _, _, rfl⟩
  · exact ⟨_, _, _, rfl⟩
theorem ownsRow_mono {w : World} {base base' : Nat} {e : TypeId} {size : Nat} {v : Value} {n : Nat} {xs : List Value} (h : w.ownsRow base e size v n xs) (hb : base' ≤ base) : w.ownsRow base' e size v n xs := by
  obtain ⟨h1, h2 | ⟨g, cap, cur, hv, hg, rest⟩⟩ := h
  · exact ⟨h1, .inl h2⟩
  · exact ⟨h1, .inr ⟨g, cap, cur, hv, Nat.le_trans hb hg, rest⟩⟩

theorem is_of_row {w : World} {base n : Nat} {a : Option Addr} {k c : Nat} {l : List Int} (h : w.ownsRow base 3 1 (.slice a k c) n (l.map (.int .i64))) : Is w a l ∧ k = l.length ∧ k ≤ c ∧ c ≤ maxLen := by
  have hl : l.length = n := by have := h.1; simpa using this
  have h' := h
  obtain ⟨-, ⟨e, e2⟩ | ⟨g, cap, cur, e, hb, hg, h1, h2, h3, h4⟩⟩ := h'
  · cases e
    exact ⟨.inl (List.eq_nil_of_length_eq_zero (by omega)), by omega, by omega, by unfold maxLen; omega⟩
  · cases e
    refine ⟨.inr ⟨g, 0, rfl, fun j hj => ?_⟩, by omega, h1, h2⟩
    have := h.cells (g := g) rfl j (.int .i64 (iAt l j)) (by simp [iAt, hj])
    rw [add_plain] at this
    exact this

theorem is_of_block {W : World} {b : Nat} {l : List Int} {f : Nat × Nat} (h : W.heap[b]? = some (.cells (l.map (Value.int .i64)).toArray 3 f)) : Is W (some ⟨b, 0, none⟩) l := by
  refine .inr ⟨b, 0, rfl, fun j hj => ?_⟩
  simp [World.cell?, h, hj, iAt]

end Go.Proofs.YteeanpfhngoobaaGreat
namespace Go.Proofs.YteeanpfhngoobaaGreat
open Go.RowKit

section
variable {F : Fence} {n : Nat} {P : Program} {ops : Array Oper} {Q : Exit → Act → World → Prop} {S : World → Prop}

/-- In every world of S the operation tells v and turns nothing; or it is passed by. -/
def Tells (P : Program) (ops : Array Oper) (S : World → Prop) (o : Oper) (v : Value) (a : Act) : Prop :=
  (Region.wanted o (yielded ops a.tmps) = true ∧ ∀ w, S w → (execOp a.eval o).run P w = .ok (.value v) w) ∨
  (Region.wanted o (yielded ops a.tmps) = false ∧ v = undef)

/-- No operation of the region is a defer statement or a select. -/
def plainOps (ops : Array Oper) : Bool := ops.all fun o => match o.op with | .defer _ => false | .select _ _ => false | _ => true

theorem plainOps_at (h : plainOps ops = true) {i : Nat} {o : Oper} (hi : ops[i]? = some o) : (∀ c, o.op ≠ .defer c) ∧ ∀ cs b, o.op ≠ .select cs b := by
  unfold plainOps at h
  have hm : o ∈ ops := Array.mem_of_getElem? hi
  have := (Array.all_eq_true_iff_forall_mem.1 h) o hm
  constructor
  · intro c e; rw [e] at this; cases this
  · intro cs b e; rw [e] at this; cases this

/-- Whatever comes up next, and S holds behind it. -/
def Any (F : Fence) (n : Nat) (P : Program) (ops : Array Oper) (Q : Exit → Act → World → Prop) (S : World → Prop) : Nat → Array Bool → Act → World → Prop
  | 0, listed, a, w => Region.ready .any ops listed = [] ∧ Q .normal a w
  | k + 1, listed, a, w => (Region.ready .any ops listed = [] → Q .normal a w) ∧
      ∀ i ∈ Region.ready .any ops listed, wpOpIn F n P ops Q i (fun a' w' => S w' ∧ Any F n P ops Q S k (listed.setIfInBounds i true) a' w') a w

theorem Any.plain : ∀ (k : Nat) (listed : Array Bool) (a : Act) (w : World), Any F n P ops Q S k listed a w → wpAnyIn F n P .any ops Q k listed a w
  | 0, _, _, _, h => h
  | k + 1, _, _, _, h => ⟨h.1, fun i hi => wpOpIn_mono (fun a' w' h' => Any.plain k _ a' w' h'.2) (h.2 i hi)⟩

theorem Tells.kept {o : Oper} {v : Value} {a a' : Act} (h : Tells P ops S o v a) (he : execOp a'.eval o = execOp a.eval o)
    (hw : Region.wanted o (yielded ops a'.tmps) = Region.wanted o (yielded ops a.tmps)) : Tells P ops S o v a' := by
  unfold Tells at *; rw [he, hw]; exact h

theorem Tells.op (hF : ∀ f, F.fn f) {i : Nat} {o : Oper} {v : Value} {a : Act} (hi : ops[i]? = some o) (hd : ∀ c, o.op ≠ .defer c) (h : Tells P ops S o v a) {K : Act → World → Prop} {w : World} (hS : S w) (hK : K (a.put o.dst v) w) :
    wpOpIn F n P ops Q i K a w := by
  unfold wpOpIn
  simp only [hi]
  rcases h with ⟨hw, hv⟩ | ⟨hw, rfl⟩
  · simp only [hw, if_true, Oper.wpIn, Oper.semAt_plain F _ _ hd, hv w hS, Oper.uponIn]
    exact ⟨fun f _ => hF f, hK⟩
  · simp only [hw, Bool.false_eq_true, if_false]
    exact ⟨fun f _ => hF f, hK⟩

/-- Another operation, apart from it, does the same whether its value lies there yet or not. -/
theorem op_later (hF : ∀ f, F.fn f) {j : Nat} {oi oj : Oper} {v : Value} (hj : ops[j]? = some oj) (hap : oi.apart ops oj = true) (hpi : (∀ c, oi.op ≠ .defer c) ∧ ∀ cs b, oi.op ≠ .select cs b) (hpj : (∀ c, oj.op ≠ .defer c) ∧ ∀ cs b, oj.op ≠ .select cs b)
    (hQ : ∀ c a w, Q (.panic c) (a.put oi.dst v) w → Q (.panic c) a w) {K : Act → World → Prop} {a : Act} {w : World} (hy : Tells P ops S oi v a) (h : wpOpIn F n P ops Q j K (a.put oi.dst v) w) :
    wpOpIn F n P ops Q j (fun a' w' => Tells P ops S oi v a' ∧ K (a'.put oi.dst v) w') a w := by
  obtain ⟨h1, h2, h3⟩ := Oper.apart_spec hap
  have keep : ∀ u, Tells P ops S oi v (a.put oj.dst u) := fun u => hy.kept (execOp_put oi hpi.2 a oj.dst u h3) (wanted_put oi a oj.dst u h3)
  have turn : ∀ u w'', K ((a.put oi.dst v).put oj.dst u) w'' → Tells P ops S oi v (a.put oj.dst u) ∧ K ((a.put oj.dst u).put oi.dst v) w'' := fun u w'' hk => ⟨keep u, by rw [← Act.put_comm a v u h2]; exact hk⟩
  unfold wpOpIn at *
  simp only [hj] at *
  rw [wanted_put oj a oi.dst v h1] at h
  cases hw : Region.wanted oj (yielded ops a.tmps) with
  | false =>
    simp only [hw, Bool.false_eq_true, if_false] at h ⊢
    exact ⟨fun f _ => hF f, turn _ _ h.2⟩
  | true =>
    simp only [hw, if_true] at h ⊢
    unfold Oper.wpIn at *
    refine ⟨fun f _ => hF f, ?_⟩
    have h := h.2
    rw [Oper.semAt_plain F _ _ hpj.1, execOp_put oj hpj.2 a oi.dst v h1] at h
    rw [Oper.semAt_plain F _ _ hpj.1]
    generalize (execOp a.eval oj).run P w = r at h ⊢
    cases r with
    | halt x w' => cases x <;> simp only [Oper.uponIn] at h ⊢; exact hQ _ _ _ h
    | ok x w' =>
      cases x with
      | value u => exact turn u w' h
      | skip => exact turn undef w' h
      | defer d =>
        simp only [Oper.uponIn] at h ⊢
        refine ⟨(hy.kept (a' := { a with defers := d :: a.defers }) rfl rfl).kept (execOp_put oi hpi.2 { a with defers := d :: a.defers } oj.dst undef h3) (wanted_put oi _ oj.dst undef h3), ?_⟩
        rw [← Act.put_comm _ v undef h2, ← Act.put_defers]
        exact h
      | enter f args =>
        simp only [Oper.uponIn] at h ⊢
        refine ⟨h.1, CallsIn.mono h.2 fun e w'' he => ?_⟩
        cases e with
        | returned u => exact turn u w'' he
        | panicked c => exact hQ _ _ _ he
        | outgrown => exact he
      | row row args =>
        simp only [Oper.uponIn] at h ⊢
        exact ⟨h.1, RowsIn.mono h.2 fun u w'' he => turn u w'' he⟩
      | round l f tmps assign body =>
        simp only [Oper.uponIn] at h ⊢
        refine ⟨h.1, RoundIn.mono h.2 fun e w'' he => ?_⟩
        cases e with
        | returned u => exact turn u w'' he
        | panicked c => exact hQ _ _ _ he
        | outgrown => exact he
      | _ => first | exact h | (simp only [Oper.uponIn] at h ⊢; exact h)

theorem Any.first (hF : ∀ f, F.fn f) (hp : plainOps ops = true) {i : Nat} {oi : Oper} {v : Value} (hi : ops[i]? = some oi) (hQ : ∀ c a w, Q (.panic c) (a.put oi.dst v) w → Q (.panic c) a w) :
    ∀ (k : Nat) (listed : Array Bool) (a : Act) (w : World),
      (∀ j oj, ops[j]? = some oj → j ≠ i → listed.getD j true = false → (∀ e ∈ oj.after, Region.binds .any e = true → e.on ≠ i) → oi.apart ops oj = true) →
      i ∈ Region.ready .any ops listed → Tells P ops S oi v a → S w →
      Any F n P ops Q S k (listed.setIfInBounds i true) (a.put oi.dst v) w → Any F n P ops Q S (k + 1) listed a w
  | k, listed, a, w, hfree, hr, hy, hS, H => by
    refine ⟨fun h => (by rw [h] at hr; cases hr), fun j hj => ?_⟩
    by_cases hji : j = i
    · subst hji; exact hy.op hF hi (plainOps_at hp hi).1 hS ⟨hS, H⟩
    · cases k with
      | zero => have := ready_mono hj hji; rw [H.1] at this; cases this
      | succ k =>
        obtain ⟨hjun, oj, hoj, hall⟩ := mem_ready.1 hj
        have hnot : ∀ e ∈ oj.after, Region.binds .any e = true → e.on ≠ i := fun e he hb heq => by
          have h1 := hall e he hb
          have h0 := (mem_ready.1 hr).1
          rw [heq] at h1
          rcases Nat.lt_or_ge i listed.size with h' | h'
          · simp [h'] at h0 h1; rw [h0] at h1; cases h1
          · simp [Array.getElem?_eq_none h'] at h1
        have h2 := op_later hF hoj (hfree j oj hoj hji hjun hnot) (plainOps_at hp hi) (plainOps_at hp hoj) hQ hy (H.2 j (ready_mono hj hji))
        refine wpOpIn_mono (fun a' w' h3 => ⟨h3.2.1, Any.first hF hp hi hQ k _ a' w' (fun x ox hx hxi hun hno => hfree x ox hx hxi ?_ hno) (ready_mono hr (Ne.symm hji)) h3.1 h3.2.1 ?_⟩) h2
        · by_cases hjx : j = x
          · subst hjx; exact hjun
          · rw [getD_set_ne true hjx] at hun; exact hun
        · rw [Array.setIfInBounds_comm _ _ hji]; exact h3.2.2

/-- Number i is taken first. -/
theorem Any.take (hF : ∀ f, F.fn f) {i : Nat} {oi : Oper} {v : Value} {k : Nat} {listed : Array Bool} {a : Act} {w : World} (hi : ops[i]? = some oi) (hp : plainOps ops = true) (hf : Region.free .any ops listed i = true)
    (hr : (Region.ready .any ops listed).contains i = true) (hQ : ∀ c a w, Q (.panic c) (a.put oi.dst v) w → Q (.panic c) a w) (hy : Tells P ops S oi v a) (hS : S w)
    (h : Any F n P ops Q S k (listed.setIfInBounds i true) (a.put oi.dst v) w) : Any F n P ops Q S (k + 1) listed a w :=
  Any.first hF hp hi hQ k listed a w (Region.free_spec hi hf) (by simpa using hr) hy hS h

/-- One alone may come up. -/
theorem Any.one {i : Nat} {o : Oper} {k : Nat} {listed : Array Bool} {a : Act} {w : World} (hr : Region.ready .any ops listed = [i]) (ho : ops[i]? = some o) (hw : Region.wanted o (yielded ops a.tmps) = true)
    (h : ∀ K : Act → World → Prop, (∀ a' w', S w' → Any F n P ops Q S k (listed.setIfInBounds i true) a' w' → K a' w') → Oper.wpIn F n P o a w K Q) : Any F n P ops Q S (k + 1) listed a w := by
  refine ⟨fun h0 => (by rw [hr] at h0; cases h0), fun j hj => ?_⟩
  rw [hr] at hj
  obtain rfl : j = i := by simpa using hj
  refine wpOpIn_step ho fun K hK => ?_
  rw [if_pos hw]
  exact h K fun a' w' h1 h2 => hK a' w' ⟨h1, h2⟩

theorem Any.done {k : Nat} {listed : Array Bool} {a : Act} {w : World} (hr : Region.ready .any ops listed = []) (h : Q .normal a w) : Any F n P ops Q S k listed a w := by
  cases k with
  | zero => exact ⟨hr, h⟩
  | succ k => exact ⟨fun _ => h, by rw [hr]; simp⟩

theorem region_pick {id : Nat} {a : Act} {w : World} (S : World → Prop) (hm : P.follows .mixedOrders = true)
    (h : Any F n P ops Q S ops.size (Array.replicate ops.size false) a w.drew) : (Code.region id ops true).wpIn F n P Q a w :=
  wpIn_region_any hm (Any.plain _ _ _ _ h)
/-- It ends normally. -/
def nrm (Q : Exit → Act → World → Prop) : Exit → Act → World → Prop
  | .normal, a, w => Q .normal a w
  | _, _, _ => False
theorem region_pickN {id : Nat} {a : Act} {w : World} (S : World → Prop) (hm : P.follows .mixedOrders = true)
    (h : Any F n P ops (nrm Q) S ops.size (Array.replicate ops.size false) a w.drew) : (Code.region id ops true).wpIn F n P Q a w :=
  Go.wpIn_mono (region_pick S hm h) fun e a w hq => by
    cases e with
    | normal => exact hq
    | _ => exact hq.elim
end
theorem wideF (f : Nat) : Fence.wide.fn f := trivial
theorem wideR (l f : Nat) : (Fence.wide.inRound l).fn f := trivial
end Go.Proofs.YteeanpfhngoobaaGreat
namespace Go.Proofs.YteeanpfhngoobaaGreat
open Go.RowKit Go.Shelf

theorem round_any {m m' : Nat} {P : Program} {l : Nat} {f : FuncId} {tmps : Array Value} {assign body : Code} {w : World} {R : Ending → World → Prop}
    (h : RoundIn Fence.wide m P l f tmps assign body w R) : RoundIn Fence.wide m' P l f tmps assign body w R := ⟨h.1, fun c cs _ => h.2 c cs (fun d e => by cases e)⟩
theorem yield_any {m : Nat} (m' : Nat) {P : Program} {l : Nat} {args : Array Value} {W : World} {R : Ending → World → Prop} (h : YieldAt Fence.wide m P l args W R) : YieldAt Fence.wide m' P l args W R := by
  obtain ⟨fn, tmps, assign, body, hy, hR⟩ := h
  exact ⟨fn, tmps, assign, body, hy, round_any hR⟩

/-- What a round of loop l keeps: all that lay below n₀, the blocks of X, and whatever is no cells but the loop's own record. -/
structure Kx (n₀ l : Nat) (X : Nat → Prop) (W W' : World) : Prop where
  below : Below n₀ W W'
  own : ∀ b, X b → W'.heap[b]? = W.heap[b]?
  others : ∀ (k : Nat) (o : Obj), k ≠ l → W.heap[k]? = some o → o.isCells = false → W'.heap[k]? = some o

theorem Kx.refl (n₀ l : Nat) (X : Nat → Prop) (W : World) : Kx n₀ l X W W := ⟨Below.refl _ _, fun _ _ => rfl, fun _ _ _ h _ => h⟩
theorem Kx.trans {n₀ l : Nat} {X : Nat → Prop} {A B C : World} (h : Kx n₀ l X A B) (k : Kx n₀ l X B C) : Kx n₀ l X A C :=
  ⟨h.below.trans k.below, fun b hb => (k.own b hb).trans (h.own b hb), fun i o hi ho hc => k.others i o hi (h.others i o hi ho hc) hc⟩
theorem Kx.less {n₀ l : Nat} {X Y : Nat → Prop} {A B : World} (h : Kx n₀ l X A B) (hY : ∀ b, Y b → X b) : Kx n₀ l Y A B := ⟨h.below, fun b hb => h.own b (hY b hb), h.others⟩
theorem Kx.alloc {n₀ l : Nat} {X : Nat → Prop} {W : World} (hn : n₀ ≤ W.heap.size) (hX : ∀ b, X b → b < W.heap.size) (o : Obj) : Kx n₀ l X W (W.alloc o) :=
  ⟨(Below.refl _ W).alloc hn o, fun b hb => Below.heap_alloc W o b (hX b hb), fun k o' _ hk _ => (Below.heap_alloc W o k (Array.getElem?_eq_some_iff.1 hk).1).trans hk⟩
theorem Kx.putObj {n₀ l : Nat} {X : Nat → Prop} {W : World} (hn : n₀ ≤ l) (hl : l < W.heap.size) (hX : ¬ X l) (o' : Obj) : Kx n₀ l X W (W.putObj l o') :=
  ⟨(Below.refl n₀ W).grown (grownBy_putObj' W l o') (by omega) (fun k e => by cases e; exact hn), fun b hb => World.putObj_heap_other (fun e => hX (e ▸ hb)), fun k o hk ho _ => (World.putObj_heap_other hk).trans ho⟩
theorem Kx.drew (n₀ l : Nat) (X : Nat → Prop) (W : World) : Kx n₀ l X W W.drew := ⟨(Below.refl _ W).drew, fun _ _ => rfl, fun _ _ _ h _ => h⟩
theorem Kx.from {n₀ l B : Nat} {X : Nat → Prop} {A C : World} (h : Kx n₀ l X A C) (hl : l < B) : KeepsFrom B A C := ⟨h.below.size, fun k o hk ho hc => h.others k o (by omega) ho hc⟩
theorem Kx.cell {n₀ l : Nat} {X : Nat → Prop} {A C : World} (h : Kx n₀ l X A C) {b : Nat} (hb : X b) (o : Nat) : C.cell? ⟨b, o, none⟩ = A.cell? ⟨b, o, none⟩ := World.cell?_of_block (h.own b hb)
theorem Kx.boxed {n₀ l : Nat} {X : Nat → Prop} {A C : World} (h : Kx n₀ l X A C) {b : Nat} (hb : X b) {t : TypeId} {v : Value} (hv : Boxed A b t v) : Boxed C b t v := (h.own b hb).trans hv

/-- One block more. -/
def more (X : Nat → Prop) (b : Nat) : Nat → Prop := fun k => X k ∨ k = b

/-- The other side's invariant J X: it holds whatever is done to the blocks of X, to new ones, and to what is no cells and lies at or beyond B. -/
structure Abx {β : Type} (B : Nat) (J : (Nat → Prop) → β → World → Prop) : Prop where
  step : ∀ X s W W' row, J X s W → W.grownBy W' row → (∀ r, row = some r → X r ∨ (B ≤ r ∧ ∃ o : Obj, W.heap[r]? = some o ∧ o.isCells = false)) → J X s W'
  new : ∀ X s W o, J X s W → J (more X W.heap.size) s (W.alloc o)
  less : ∀ X Y s W, J X s W → (∀ b, Y b → X b) → J Y s W
  lt : ∀ X s W b, J X s W → X b → b < W.heap.size

theorem Abx.alloc {β : Type} {B : Nat} {J : (Nat → Prop) → β → World → Prop} (h : Abx B J) {X : Nat → Prop} {s : β} {W : World} (hs : J X s W) (o : Obj) : J X s (W.alloc o) :=
  h.step X s W _ none hs (World.grownBy_alloc W o none) (fun r e => by cases e)
theorem grownBy_drew (W : World) : W.grownBy W.drew none := ⟨rfl, rfl, rfl, Nat.le_refl _, fun _ _ _ => rfl⟩
theorem Abx.drew {β : Type} {B : Nat} {J : (Nat → Prop) → β → World → Prop} (h : Abx B J) {X : Nat → Prop} {s : β} {W : World} (hs : J X s W) : J X s W.drew :=
  h.step X s W _ none hs (grownBy_drew W) (fun r e => by cases e)
theorem Abx.set {β : Type} {B : Nat} {J : (Nat → Prop) → β → World → Prop} (h : Abx B J) {X : Nat → Prop} {s : β} {W : World} (hs : J X s W) {b : Nat} (hb : X b) (v : Value) : J X s (W.setCell ⟨b, 0, none⟩ v) :=
  h.step X s W _ (some b) hs (grownBy_setCell' W b v) (fun r e => by cases e; exact .inl hb)
theorem Abx.ownFrom {β : Type} {B B' : Nat} {J : (Nat → Prop) → β → World → Prop} (h : Abx B J) (hB : B ≤ B') (X : Nat → Prop) : OwnFrom B' (J X) :=
  fun s W W' row hs hg hr => h.step X s W W' row hs hg (fun r e => .inr ⟨Nat.le_trans hB (hr r e).1, (hr r e).2⟩)
theorem Abx.ownFromF {β γ : Type} {B B' : Nat} {J : (Nat → Prop) → β → World → Prop} (h : Abx B J) (hB : B ≤ B') (X : Nat → Prop) (f : γ → β) : OwnFrom B' (fun s W => J X (f s) W) :=
  fun s W W' row hs hg hr => h.step X (f s) W W' row hs hg (fun r e => .inr ⟨Nat.le_trans hB (hr r e).1, (hr r e).2⟩)

/-- Every round of loop l goes on, and carries J by the element. -/
def Rounds {α : Type} (n₀ N : Nat) (P : Program) (l : Nat) (enc : α → Array Value) (J : (Nat → Prop) → List α → World → Prop) : Prop :=
  ∀ (m : Nat) (X : Nat → Prop) (pre : List α) (x : α) (W : World), J X pre W → pre.length < N → YieldAt Fence.wide m P l (enc x) W fun e W' => e = .returned (.bool true) ∧ J X (pre ++ [x]) W' ∧ Kx n₀ l X W W'

/-- An iterator that tells S, whatever J the other side has. -/
def Seqx {α : Type} (n : Nat) (P : Program) (g : Nat) (lb : Array Value) (enc : α → Array Value) (n₀ N : Nat) (S : List α → Prop) (w : World) : Prop :=
  ∀ (l : Nat) (J : (Nat → Prop) → List α → World → Prop) (X : Nat → Prop) (W : World), Below w.heap.size w W → l < W.heap.size → Abx W.heap.size J → Rounds n₀ N P l enc J → J X [] W →
    CallsIn Fence.wide n P g (#[.func (.yield l) #[] #[]] ++ lb) W fun e W' => (∃ v, e = .returned v) ∧ ∃ xs, S xs ∧ J X xs W'

/-- How a round's body ends: it goes on. -/
def postx {α : Type} (n₀ l : Nat) (I : (Nat → Prop) → List α → World → Prop) (X : Nat → Prop) (xs : List α) (W : World) : Exit → Act → World → Prop
  | .normal, _, W' => Kx n₀ l X W W' ∧ I X xs W' ∧ W'.heap[l]? = W.heap[l]?
  | _, _, _ => False

theorem wpIn_rangeFuncx {α : Type} {n : Nat} {P : Program} {g : Operand} {ps : Array Tmp} {assign body : Code} {Q : Exit → Act → World → Prop} {a : Act} {w : World}
    {gf : Nat} {lb : Array Value} (hg : a.eval g = .func (.func gf) #[] lb) (eg : ∀ args w, (callFunc gf args).run P w = .ok (.enter gf args) w)
    {enc : α → Array Value} {S : List α → Prop} {n₀ N : Nat} {w0 : World} (hn₀ : n₀ ≤ w.heap.size) (hseq : Seqx (n - 1) P gf lb enc n₀ N S w0) (hb0 : Below w0.heap.size w0 w) (hps : ∀ x, (enc x).size = ps.size)
    (I : (Nat → Prop) → List α → World → Prop) (hI : Abx w.heap.size I) (h0 : I (fun _ => False) [] w) (a₁ : α → Act)
    (hassign : ∀ (m l : Nat) (x : α) (W : World) (K : Act → World → Prop), K (a₁ x) W →
      assign.wpIn (Fence.wide.inRound l) m P (Exit.then K (fun _ _ _ => False)) { tmps := (ps.zip (enc x)).foldl (fun t (p, v) => t.setIfInBounds p v) a.tmps, defers := [] } W)
    (hbody : ∀ (m l : Nat) (X : Nat → Prop) (pre : List α) (x : α) (W : World), w.heap.size ≤ l → (∃ r, W.heap[l]? = some (.loop r)) → I X pre W → pre.length < N → body.wpIn (Fence.wide.inRound l) m P (postx n₀ l I X (pre ++ [x]) W) (a₁ x) W)
    (hdone : ∀ (D : Nat) (xs : List α) (W : World), w.heap.size ≤ D → S xs → I (fun _ => False) xs W → W.heap[D]? = some (.deferred (some [])) → Q .normal { a with defers := { target := .collected D, args := #[] } :: a.defers } W) :
    (Code.rangeFunc g ps assign body).wpIn Fence.wide n P Q a w := by
  refine wpIn_rangeFunc ?_
  intro fn hfn
  rw [show Fence.wide.round = none from rfl]
  obtain ⟨rec, hrec⟩ : ∃ rec : LoopState → Option Code → Loop, rec = fun st pe => { state := st, pending := pe, fn, tmps := a.tmps, params := ps, assign, body, defers := w.heap.size } := ⟨_, rfl⟩
  obtain ⟨W1, hW1⟩ : ∃ W1, (w.alloc (.deferred (some []))).alloc (.loop (rec .ready none)) = W1 := ⟨_, rfl⟩
  have hL1 : W1.heap[w.heap.size + 1]? = some (.loop (rec .ready none)) := by
    rw [← hW1]; have := World.alloc_heap_new (w.alloc (.deferred (some []))) (.loop (rec .ready none)); rwa [World.size_alloc] at this
  have hK1 : W1.heap[w.heap.size]? = some (.deferred (some [])) := by
    rw [← hW1]; exact (Below.heap_alloc _ _ _ (by simp)).trans (World.alloc_heap_new w _)
  have hI1 : I (fun _ => False) [] W1 := by rw [← hW1]; exact hI.alloc (hI.alloc h0 _) _
  have hsz1 : W1.heap.size = w.heap.size + 2 := by rw [← hW1]; simp
  have hb1 : Below w0.heap.size w0 W1 := by
    rw [← hW1]; exact hb0.trans ((((Below.refl _ w).alloc (Nat.le_refl _) _).alloc (by simp) _).mono hb0.size)
  refine ⟨w.heap.size + 1, [{ target := .collected w.heap.size, args := #[] }], W1, { target := .fn (.func gf) lb, args := #[.func (.yield (w.heap.size + 1)) #[] #[]] }, W1, gf,
    #[.func (.yield (w.heap.size + 1)) #[] #[]] ++ lb, W1, ?_, ?_, fun _ _ => trivial, ?_, (fun h => by cases h), ?_⟩
  · rw [← hW1, hrec]; exact run_enterLoop_outer _ _ _ _ _
  · simp only [resolve, hg]
    simp [go_sem]
  · simp [invoke, go_sem, eg]
  · clear hW1
    have hJ : Abx W1.heap.size (fun X pre W => I X pre W ∧ W.heap[w.heap.size + 1]? = some (.loop (rec .ready none)) ∧ W.heap[w.heap.size]? = some (.deferred (some [])) ∧ ¬ X (w.heap.size + 1) ∧ ¬ X w.heap.size) := by
      refine ⟨fun X s W W' row hs hg' hr => ?_, fun X s W o hs => ?_, fun X Y s W hs hY => ?_, fun X s W b hs hb => hI.lt X s W b hs.1 hb⟩
      · obtain ⟨hi, hl, hk, nl, nd⟩ := hs
        have ne : ∀ r, r < W1.heap.size → ¬ X r → some r ≠ row := fun r hlt hn e => by
          rcases hr r e.symm with h | ⟨h, -⟩
          · exact hn h
          · omega
        exact ⟨hI.step X s W W' row hi hg' (fun r e => (hr r e).imp id (fun ⟨h1, h2⟩ => ⟨by omega, h2⟩)), (hg'.block _ (Array.getElem?_eq_some_iff.1 hl).1 (ne _ (by omega) nl)).trans hl, (hg'.block _ (Array.getElem?_eq_some_iff.1 hk).1 (ne _ (by omega) nd)).trans hk, nl, nd⟩
      · obtain ⟨hi, hl, hk, nl, nd⟩ := hs
        have l1 := (Array.getElem?_eq_some_iff.1 hl).1
        exact ⟨hI.new X s W o hi, (Below.heap_alloc W o _ l1).trans hl, (Below.heap_alloc W o _ (by omega)).trans hk, (fun h => h.elim nl (fun e => by omega)), fun h => h.elim nd (fun e => by omega)⟩
      · obtain ⟨hi, hl, hk, nl, nd⟩ := hs
        exact ⟨hI.less X Y s W hi hY, hl, hk, fun h => nl (hY _ h), fun h => nd (hY _ h)⟩
    refine (hseq (w.heap.size + 1) _ (fun _ => False) W1 hb1 (by omega) hJ ?_ ⟨hI1, hL1, hK1, id, id⟩).mono ?_
    · rintro m X pre x W ⟨hi, hl, hk, nl, nd⟩ hlen
      have hy := run_yield (P := P) (args := enc x) hl (by rw [hrec]; exact hps x)
      rw [hrec] at hy
      refine ⟨fn, _, assign, body, hy, roundIn_of_wpIn hfn (hassign _ _ x W _ ⟨_, run_beginRound hl (by rw [hrec]), ?_⟩)⟩
      have hlt : w.heap.size + 1 < W.heap.size := (Array.getElem?_eq_some_iff.1 hl).1
      have hl2 : (W.putObj (w.heap.size + 1) (.loop { rec .ready none with state := .busy })).heap[w.heap.size + 1]? = some (.loop { rec .ready none with state := .busy }) := World.putObj_heap_same hlt
      have hk2 : (W.putObj (w.heap.size + 1) (.loop { rec .ready none with state := .busy })).heap[w.heap.size]? = some (.deferred (some [])) := (World.putObj_heap_other (by omega)).trans hk
      have kx1 : Kx n₀ (w.heap.size + 1) X W (W.putObj (w.heap.size + 1) (.loop { rec .ready none with state := .busy })) := Kx.putObj (by omega) hlt nl _
      have hi2 : I X pre (W.putObj (w.heap.size + 1) (.loop { rec .ready none with state := .busy })) := hI.step X pre W _ (some (w.heap.size + 1)) hi (grownBy_putObj' W _ _) (fun r e => by cases e; exact .inr ⟨by omega, _, hl, rfl⟩)
      generalize W.putObj (w.heap.size + 1) (.loop { rec .ready none with state := .busy }) = Wb at hl2 hk2 kx1 hi2 ⊢
      refine wpIn_mono (hbody _ _ X pre x Wb (by omega) ⟨_, hl2⟩ hi2 hlen) ?_
      rintro e a3 W3 hp
      cases e with
      | normal =>
        obtain ⟨k3, hi3, hl3⟩ := hp
        have hl3' := hl3.trans hl2
        have hk3 := k3.others _ _ (by omega) hk2 rfl
        have hr := run_endRound (P := P) none hl3'
        have hlt3 := (Array.getElem?_eq_some_iff.1 hl3').1
        rw [hrec] at hr
        refine ⟨_, _, hr, rfl, ⟨hI.step X _ W3 _ (some (w.heap.size + 1)) hi3 (grownBy_putObj' W3 _ _) (fun r e => by cases e; exact .inr ⟨by omega, _, hl3', rfl⟩), ?_, (World.putObj_heap_other (by omega)).trans hk3, nl, nd⟩, (kx1.trans k3).trans (Kx.putObj (by omega) hlt3 nl _)⟩
        rw [World.putObj_heap_same hlt3, hrec]
        rfl
      | _ => exact hp.elim
    · rintro e W2 ⟨⟨v, rfl⟩, xs, hS, hi, hl, hk, -, -⟩
      exact ⟨none, _, by have := run_endLoop (P := P) hl (by rw [hrec]; simp); rw [hrec] at this; exact this, hdone _ xs _ (Nat.le_refl _) hS (hI.step _ _ W2 _ (some (w.heap.size + 1)) hi (grownBy_putObj' W2 _ _) (fun r e => by cases e; exact .inr ⟨by omega, _, hl, rfl⟩)) ((World.putObj_heap_other (by omega)).trans hk)⟩
end Go.Proofs.YteeanpfhngoobaaGreat
namespace Go.Proofs.YteeanpfhngoobaaGreat
open Go.RowKit Go.Shelf

/-- What the other side keeps holds whatever is made anew. -/
def AbN (J : Nat → World → Prop) : Prop := ∀ s W W', J s W → W.grownBy W' none → J s W'

/-- An iterator that tells T in order, or stops where the round says so. -/
def SeqT {α : Type} (n : Nat) (P : Program) (g : Nat) (lb : Array Value) (enc : α → Array Value) (T : List α) (Kp : World → World → Prop) (w : World) : Prop :=
  ∀ (l : Nat) (J Jx : Nat → World → Prop) (W : World), Below w.heap.size w W → l < W.heap.size → AbN J → AbN Jx →
    (∀ (m i : Nat) (x : α) (W1 : World), T[i]? = some x → J i W1 → YieldAt Fence.wide m P l (enc x) W1 fun e W' =>
      (e = .returned (.bool true) ∧ J (i + 1) W' ∧ Kp W1 W') ∨ (e = .returned (.bool false) ∧ Jx (i + 1) W')) →
    J 0 W →
    CallsIn Fence.wide n P g (#[.func (.yield l) #[] #[]] ++ lb) W fun e W' => (∃ v, e = .returned v) ∧ (J T.length W' ∨ ∃ i, Jx i W')

/-- How the body of a round may be left. -/
def postT (B : Nat) (Kp : World → World → Prop) (I : Nat → World → Prop) (Ix : Code → Nat → World → Prop) (i : Nat) (W : World) : Exit → Act → World → Prop
  | .normal, _, W' => KeepsFrom B W W' ∧ Kp W W' ∧ I i W'
  | .ret, _, W' => KeepsFrom B W W' ∧ Ix .ret i W'
  | .exit id, _, W' => KeepsFrom B W W' ∧ Ix (.exit id) i W'
  | .goto t, _, W' => KeepsFrom B W W' ∧ Ix (.goto t) i W'
  | .panic _, _, _ => False
  | .outgrown, _, _ => False

theorem wpIn_rangeFuncT {α : Type} {n : Nat} {P : Program} {g : Operand} {ps : Array Tmp} {assign body : Code} {Q : Exit → Act → World → Prop} {a : Act} {w : World}
    {gf : Nat} {lb : Array Value} (hg : a.eval g = .func (.func gf) #[] lb) (eg : ∀ args w, (callFunc gf args).run P w = .ok (.enter gf args) w)
    {enc : α → Array Value} {T : List α} {Kp : World → World → Prop} {w0 : World} (hseq : SeqT (n - 1) P gf lb enc T Kp w0)
    (hKt : ∀ {A B C : World}, Kp A B → Kp B C → Kp A C) (hKb : ∀ (W : World) (l : Nat) (o o' : Obj), w.heap.size ≤ l → W.heap[l]? = some o → o.isCells = false → Kp W (W.putObj l o'))
    (hb0 : Below w0.heap.size w0 w) (hps : ∀ x, (enc x).size = ps.size)
    (I : Nat → World → Prop) (Ix : Code → Nat → World → Prop) (hI : OwnFrom w.heap.size I) (hIx : ∀ c, OwnFrom w.heap.size (Ix c)) (h0 : I 0 w) (a₁ : α → Act)
    (hassign : ∀ (m l : Nat) (x : α) (W : World) (K : Act → World → Prop), K (a₁ x) W →
      assign.wpIn (Fence.wide.inRound l) m P (Exit.then K (fun _ _ _ => False)) { tmps := (ps.zip (enc x)).foldl (fun t (p, v) => t.setIfInBounds p v) a.tmps, defers := [] } W)
    (hbody : ∀ (m l i : Nat) (x : α) (W : World), T[i]? = some x → I i W → body.wpIn (Fence.wide.inRound l) m P (postT w.heap.size Kp I Ix (i + 1) W) (a₁ x) W)
    (hdone : ∀ (D : Nat) (W : World), w.heap.size ≤ D → I T.length W → W.heap[D]? = some (.deferred (some [])) → Q .normal { a with defers := { target := .collected D, args := #[] } :: a.defers } W)
    (hstop : ∀ (D : Nat) (c : Code) (i : Nat) (W : World), w.heap.size ≤ D → Ix c i W → W.heap[D]? = some (.deferred (some [])) → c.wpIn Fence.wide n P Q { a with defers := { target := .collected D, args := #[] } :: a.defers } W) :
    (Code.rangeFunc g ps assign body).wpIn Fence.wide n P Q a w := by
  refine wpIn_rangeFunc ?_
  intro fn hfn
  rw [show Fence.wide.round = none from rfl]
  obtain ⟨rec, hrec⟩ : ∃ rec : LoopState → Option Code → Loop, rec = fun st pe => { state := st, pending := pe, fn, tmps := a.tmps, params := ps, assign, body, defers := w.heap.size } := ⟨_, rfl⟩
  obtain ⟨W1, hW1⟩ : ∃ W1, (w.alloc (.deferred (some []))).alloc (.loop (rec .ready none)) = W1 := ⟨_, rfl⟩
  have hL1 : W1.heap[w.heap.size + 1]? = some (.loop (rec .ready none)) := by
    rw [← hW1]; have := World.alloc_heap_new (w.alloc (.deferred (some []))) (.loop (rec .ready none)); rwa [World.size_alloc] at this
  have hK1 : W1.heap[w.heap.size]? = some (.deferred (some [])) := by
    rw [← hW1]; exact (Below.heap_alloc _ _ _ (by simp)).trans (World.alloc_heap_new w _)
  have hI1 : I 0 W1 := by rw [← hW1]; exact hI.alloc _ (hI.alloc _ h0)
  have hsz1 : W1.heap.size = w.heap.size + 2 := by rw [← hW1]; simp
  have hb1 : Below w0.heap.size w0 W1 := by
    rw [← hW1]; exact hb0.trans ((((Below.refl _ w).alloc (Nat.le_refl _) _).alloc (by simp) _).mono hb0.size)
  refine ⟨w.heap.size + 1, [{ target := .collected w.heap.size, args := #[] }], W1, { target := .fn (.func gf) lb, args := #[.func (.yield (w.heap.size + 1)) #[] #[]] }, W1, gf,
    #[.func (.yield (w.heap.size + 1)) #[] #[]] ++ lb, W1, ?_, ?_, fun _ _ => trivial, ?_, (fun h => by cases h), ?_⟩
  · rw [← hW1, hrec]; exact run_enterLoop_outer _ _ _ _ _
  · simp only [resolve, hg]
    simp [go_sem]
  · simp [invoke, go_sem, eg]
  · clear hW1
    have nn : ∀ {A B : World}, A.grownBy B none → ∀ {k : Nat} {o : Obj}, A.heap[k]? = some o → B.heap[k]? = some o := fun h k o hk => (h.block k (Array.getElem?_eq_some_iff.1 hk).1 (by simp)).trans hk
    refine (hseq (w.heap.size + 1)
      (fun i W => I i W ∧ W.heap[w.heap.size + 1]? = some (.loop (rec .ready none)) ∧ W.heap[w.heap.size]? = some (.deferred (some [])))
      (fun i W => ∃ c, Ix c i W ∧ W.heap[w.heap.size + 1]? = some (.loop (rec .done (some c))) ∧ W.heap[w.heap.size]? = some (.deferred (some [])))
      W1 hb1 (by omega)
      (fun s A B hs hg' => ⟨hI s A B none hs.1 hg' (fun r e => by cases e), nn hg' hs.2.1, nn hg' hs.2.2⟩)
      (fun s A B hs hg' => by
        obtain ⟨c, hc, hl, hk⟩ := hs
        exact ⟨c, hIx c s A B none hc hg' (fun r e => by cases e), nn hg' hl, nn hg' hk⟩)
      ?_ ⟨hI1, hL1, hK1⟩).mono ?_
    · rintro m i x W hx ⟨hi, hl, hk⟩
      have hlt : w.heap.size + 1 < W.heap.size := (Array.getElem?_eq_some_iff.1 hl).1
      have hy := run_yield (P := P) (args := enc x) hl (by rw [hrec]; exact hps x)
      rw [hrec] at hy
      refine ⟨fn, _, assign, body, hy, roundIn_of_wpIn hfn (hassign _ _ x W _ ⟨_, run_beginRound hl (by rw [hrec]), ?_⟩)⟩
      have hl2 : (W.putObj (w.heap.size + 1) (.loop { rec .ready none with state := .busy })).heap[w.heap.size + 1]? = some (.loop { rec .ready none with state := .busy }) := World.putObj_heap_same hlt
      have hk2 : (W.putObj (w.heap.size + 1) (.loop { rec .ready none with state := .busy })).heap[w.heap.size]? = some (.deferred (some [])) := (World.putObj_heap_other (by omega)).trans hk
      have hw2 : Kp W (W.putObj (w.heap.size + 1) (.loop { rec .ready none with state := .busy })) := hKb _ _ _ _ (by omega) hl rfl
      refine wpIn_mono (hbody _ _ i x _ hx (hI.putObj _ hi (by omega) hl rfl)) ?_
      have fin : ∀ (jump : Option Code) (W3 : World), KeepsFrom w.heap.size (W.putObj (w.heap.size + 1) (.loop { rec .ready none with state := .busy })) W3 →
          (Instr.endRound (w.heap.size + 1) jump).run P W3 = .ok (.bool jump.isNone) (W3.putObj (w.heap.size + 1) (.loop (rec (if jump.isNone then .ready else .done) jump))) ∧
          W3.heap[w.heap.size + 1]? = some (.loop { rec .ready none with state := .busy }) ∧
          (W3.putObj (w.heap.size + 1) (.loop (rec (if jump.isNone then .ready else .done) jump))).heap[w.heap.size + 1]? = some (.loop (rec (if jump.isNone then .ready else .done) jump)) ∧
          (W3.putObj (w.heap.size + 1) (.loop (rec (if jump.isNone then .ready else .done) jump))).heap[w.heap.size]? = some (.deferred (some [])) := fun jump W3 hk3 => by
        have hl3 := hk3.same _ _ (by omega) hl2 rfl
        have := run_endRound (P := P) jump hl3
        rw [hrec] at this ⊢
        exact ⟨this, by rw [hrec] at hl3; exact hl3, World.putObj_heap_same (Array.getElem?_eq_some_iff.1 hl3).1, (World.putObj_heap_other (by omega)).trans (hk3.same _ _ (Nat.le_refl _) hk2 rfl)⟩
      rintro e a3 W3 hp
      cases e with
      | normal =>
        obtain ⟨hk3, hkp3, hi3⟩ := hp
        obtain ⟨hr, hl3, hl4, hk4⟩ := fin none W3 hk3
        exact ⟨_, _, hr, .inl ⟨rfl, ⟨hI.putObj _ hi3 (by omega) hl3 rfl, hl4, hk4⟩, hKt (hKt hw2 hkp3) (hKb _ _ _ _ (by omega) hl3 rfl)⟩⟩
      | ret =>
        obtain ⟨hk3, hi3⟩ := hp
        obtain ⟨hr, hl3, hl4, hk4⟩ := fin (some .ret) W3 hk3
        exact ⟨_, _, hr, .inr ⟨rfl, .ret, (hIx _).putObj _ hi3 (by omega) hl3 rfl, hl4, hk4⟩⟩
      | exit id =>
        obtain ⟨hk3, hi3⟩ := hp
        obtain ⟨hr, hl3, hl4, hk4⟩ := fin (some (.exit id)) W3 hk3
        exact ⟨_, _, hr, .inr ⟨rfl, .exit id, (hIx _).putObj _ hi3 (by omega) hl3 rfl, hl4, hk4⟩⟩
      | goto t =>
        obtain ⟨hk3, hi3⟩ := hp
        obtain ⟨hr, hl3, hl4, hk4⟩ := fin (some (.goto t)) W3 hk3
        exact ⟨_, _, hr, .inr ⟨rfl, .goto t, (hIx _).putObj _ hi3 (by omega) hl3 rfl, hl4, hk4⟩⟩
      | panic ch => exact hp.elim
      | outgrown => exact hp.elim
    · rintro e W2 ⟨⟨v, rfl⟩, (⟨hi, hl, hk⟩ | ⟨i, c, hi, hl, hk⟩)⟩
      · exact ⟨none, _, by have := run_endLoop (P := P) hl (by rw [hrec]; simp); rw [hrec] at this; exact this, hdone _ _ (Nat.le_refl _) (hI.putObj _ hi (by omega) hl rfl) ((World.putObj_heap_other (by omega)).trans hk)⟩
      · exact ⟨some c, _, by have := run_endLoop (P := P) hl (by rw [hrec]; simp); rw [hrec] at this; exact this, hstop _ c i _ (Nat.le_refl _) ((hIx c).putObj _ hi (by omega) hl rfl) ((World.putObj_heap_other (by omega)).trans hk)⟩
/-- The same, where each round lays its variable anew, in a block of its own. -/
theorem wpIn_rangeFuncB {α : Type} {n : Nat} {P : Program} {g : Operand} {ps : Array Tmp} {assign body : Code} {Q : Exit → Act → World → Prop} {a : Act} {w : World}
    {gf : Nat} {lb : Array Value} (hg : a.eval g = .func (.func gf) #[] lb) (eg : ∀ args w, (callFunc gf args).run P w = .ok (.enter gf args) w)
    {enc : α → Array Value} {T : List α} {Kp : World → World → Prop} {w0 : World} (hseq : SeqT (n - 1) P gf lb enc T Kp w0)
    (hKt : ∀ {A B C : World}, Kp A B → Kp B C → Kp A C) (hKb : ∀ (W : World) (l : Nat) (o o' : Obj), w.heap.size ≤ l → W.heap[l]? = some o → o.isCells = false → Kp W (W.putObj l o'))
    (hb0 : Below w0.heap.size w0 w) (hps : ∀ x, (enc x).size = ps.size)
    (I : Nat → World → Prop) (Ix : Code → Nat → World → Prop) (hI : OwnFrom w.heap.size I) (hIx : ∀ c, OwnFrom w.heap.size (Ix c)) (h0 : I 0 w) (ob : α → Obj) (hKg : ∀ (W : World) (x : α), w.heap.size ≤ W.heap.size → Kp W (W.alloc (ob x))) (a₁ : α → Nat → Act)
    (hassign : ∀ (m l : Nat) (x : α) (W : World) (K : Act → World → Prop), K (a₁ x W.heap.size) (W.alloc (ob x)) →
      assign.wpIn (Fence.wide.inRound l) m P (Exit.then K (fun _ _ _ => False)) { tmps := (ps.zip (enc x)).foldl (fun t (p, v) => t.setIfInBounds p v) a.tmps, defers := [] } W)
    (hbody : ∀ (m l i b : Nat) (x : α) (W : World), T[i]? = some x → I i W → W.heap[b]? = some (ob x) → body.wpIn (Fence.wide.inRound l) m P (postT w.heap.size Kp I Ix (i + 1) W) (a₁ x b) W)
    (hdone : ∀ (D : Nat) (W : World), w.heap.size ≤ D → I T.length W → W.heap[D]? = some (.deferred (some [])) → Q .normal { a with defers := { target := .collected D, args := #[] } :: a.defers } W)
    (hstop : ∀ (D : Nat) (c : Code) (i : Nat) (W : World), w.heap.size ≤ D → Ix c i W → W.heap[D]? = some (.deferred (some [])) → c.wpIn Fence.wide n P Q { a with defers := { target := .collected D, args := #[] } :: a.defers } W) :
    (Code.rangeFunc g ps assign body).wpIn Fence.wide n P Q a w := by
  refine wpIn_rangeFunc ?_
  intro fn hfn
  rw [show Fence.wide.round = none from rfl]
  obtain ⟨rec, hrec⟩ : ∃ rec : LoopState → Option Code → Loop, rec = fun st pe => { state := st, pending := pe, fn, tmps := a.tmps, params := ps, assign, body, defers := w.heap.size } := ⟨_, rfl⟩
  obtain ⟨W1, hW1⟩ : ∃ W1, (w.alloc (.deferred (some []))).alloc (.loop (rec .ready none)) = W1 := ⟨_, rfl⟩
  have hL1 : W1.heap[w.heap.size + 1]? = some (.loop (rec .ready none)) := by
    rw [← hW1]; have := World.alloc_heap_new (w.alloc (.deferred (some []))) (.loop (rec .ready none)); rwa [World.size_alloc] at this
  have hK1 : W1.heap[w.heap.size]? = some (.deferred (some [])) := by
    rw [← hW1]; exact (Below.heap_alloc _ _ _ (by simp)).trans (World.alloc_heap_new w _)
  have hI1 : I 0 W1 := by rw [← hW1]; exact hI.alloc _ (hI.alloc _ h0)
  have hsz1 : W1.heap.size = w.heap.size + 2 := by rw [← hW1]; simp
  have hb1 : Below w0.heap.size w0 W1 := by
    rw [← hW1]; exact hb0.trans ((((Below.refl _ w).alloc (Nat.le_refl _) _).alloc (by simp) _).mono hb0.size)
  refine ⟨w.heap.size + 1, [{ target := .collected w.heap.size, args := #[] }], W1, { target := .fn (.func gf) lb, args := #[.func (.yield (w.heap.size + 1)) #[] #[]] }, W1, gf,
    #[.func (.yield (w.heap.size + 1)) #[] #[]] ++ lb, W1, ?_, ?_, fun _ _ => trivial, ?_, (fun h => by cases h), ?_⟩
  · rw [← hW1, hrec]; exact run_enterLoop_outer _ _ _ _ _
  · simp only [resolve, hg]
    simp [go_sem]
  · simp [invoke, go_sem, eg]
  · clear hW1
    have nn : ∀ {A B : World}, A.grownBy B none → ∀ {k : Nat} {o : Obj}, A.heap[k]? = some o → B.heap[k]? = some o := fun h k o hk => (h.block k (Array.getElem?_eq_some_iff.1 hk).1 (by simp)).trans hk
    refine (hseq (w.heap.size + 1)
      (fun i W => I i W ∧ W.heap[w.heap.size + 1]? = some (.loop (rec .ready none)) ∧ W.heap[w.heap.size]? = some (.deferred (some [])))
      (fun i W => ∃ c, Ix c i W ∧ W.heap[w.heap.size + 1]? = some (.loop (rec .done (some c))) ∧ W.heap[w.heap.size]? = some (.deferred (some [])))
      W1 hb1 (by omega)
      (fun s A B hs hg' => ⟨hI s A B none hs.1 hg' (fun r e => by cases e), nn hg' hs.2.1, nn hg' hs.2.2⟩)
      (fun s A B hs hg' => by
        obtain ⟨c, hc, hl, hk⟩ := hs
        exact ⟨c, hIx c s A B none hc hg' (fun r e => by cases e), nn hg' hl, nn hg' hk⟩)
      ?_ ⟨hI1, hL1, hK1⟩).mono ?_
    · rintro m i x W0 hx ⟨hi0, hl0, hk0⟩
      have hy := run_yield (P := P) (args := enc x) hl0 (by rw [hrec]; exact hps x)
      rw [hrec] at hy
      have hsW : w.heap.size ≤ W0.heap.size := by have := (Array.getElem?_eq_some_iff.1 hl0).1; omega
      have hK0 := hKg W0 x hsW
      have hob := World.alloc_heap_new W0 (ob x)
      have hi := hI.alloc (ob x) hi0
      have hl := nn (World.grownBy_alloc W0 (ob x) none) hl0
      have hk := nn (World.grownBy_alloc W0 (ob x) none) hk0
      refine ⟨fn, _, assign, body, hy, roundIn_of_wpIn hfn (hassign _ _ x W0 _ ⟨_, run_beginRound hl (by rw [hrec]), ?_⟩)⟩
      have hbne : W0.heap.size ≠ w.heap.size + 1 := by have := (Array.getElem?_eq_some_iff.1 hl0).1; omega
      obtain ⟨W, hW⟩ : ∃ W, W0.alloc (ob x) = W := ⟨_, rfl⟩
      rw [hW] at hK0 hob hi hl hk ⊢
      have hlt : w.heap.size + 1 < W.heap.size := (Array.getElem?_eq_some_iff.1 hl).1
      have hl2 : (W.putObj (w.heap.size + 1) (.loop { rec .ready none with state := .busy })).heap[w.heap.size + 1]? = some (.loop { rec .ready none with state := .busy }) := World.putObj_heap_same hlt
      have hk2 : (W.putObj (w.heap.size + 1) (.loop { rec .ready none with state := .busy })).heap[w.heap.size]? = some (.deferred (some [])) := (World.putObj_heap_other (by omega)).trans hk
      have hw2 : Kp W (W.putObj (w.heap.size + 1) (.loop { rec .ready none with state := .busy })) := hKb _ _ _ _ (by omega) hl rfl
      refine wpIn_mono (hbody _ _ i W0.heap.size x _ hx (hI.putObj _ hi (by omega) hl rfl) ((World.putObj_heap_other hbne).trans hob)) ?_
      have fin : ∀ (jump : Option Code) (W3 : World), KeepsFrom w.heap.size (W.putObj (w.heap.size + 1) (.loop { rec .ready none with state := .busy })) W3 →
          (Instr.endRound (w.heap.size + 1) jump).run P W3 = .ok (.bool jump.isNone) (W3.putObj (w.heap.size + 1) (.loop (rec (if jump.isNone then .ready else .done) jump))) ∧
          W3.heap[w.heap.size + 1]? = some (.loop { rec .ready none with state := .busy }) ∧
          (W3.putObj (w.heap.size + 1) (.loop (rec (if jump.isNone then .ready else .done) jump))).heap[w.heap.size + 1]? = some (.loop (rec (if jump.isNone then .ready else .done) jump)) ∧
          (W3.putObj (w.heap.size + 1) (.loop (rec (if jump.isNone then .ready else .done) jump))).heap[w.heap.size]? = some (.deferred (some [])) := fun jump W3 hk3 => by
        have hl3 := hk3.same _ _ (by omega) hl2 rfl
        have := run_endRound (P := P) jump hl3
        rw [hrec] at this ⊢
        exact ⟨this, by rw [hrec] at hl3; exact hl3, World.putObj_heap_same (Array.getElem?_eq_some_iff.1 hl3).1, (World.putObj_heap_other (by omega)).trans (hk3.same _ _ (Nat.le_refl _) hk2 rfl)⟩
      rintro e a3 W3 hp
      cases e with
      | normal =>
        obtain ⟨hk3, hkp3, hi3⟩ := hp
        obtain ⟨hr, hl3, hl4, hk4⟩ := fin none W3 hk3
        exact ⟨_, _, hr, .inl ⟨rfl, ⟨hI.putObj _ hi3 (by omega) hl3 rfl, hl4, hk4⟩, hKt hK0 (hKt (hKt hw2 hkp3) (hKb _ _ _ _ (by omega) hl3 rfl))⟩⟩
      | ret =>
        obtain ⟨hk3, hi3⟩ := hp
        obtain ⟨hr, hl3, hl4, hk4⟩ := fin (some .ret) W3 hk3
        exact ⟨_, _, hr, .inr ⟨rfl, .ret, (hIx _).putObj _ hi3 (by omega) hl3 rfl, hl4, hk4⟩⟩
      | exit id =>
        obtain ⟨hk3, hi3⟩ := hp
        obtain ⟨hr, hl3, hl4, hk4⟩ := fin (some (.exit id)) W3 hk3
        exact ⟨_, _, hr, .inr ⟨rfl, .exit id, (hIx _).putObj _ hi3 (by omega) hl3 rfl, hl4, hk4⟩⟩
      | goto t =>
        obtain ⟨hk3, hi3⟩ := hp
        obtain ⟨hr, hl3, hl4, hk4⟩ := fin (some (.goto t)) W3 hk3
        exact ⟨_, _, hr, .inr ⟨rfl, .goto t, (hIx _).putObj _ hi3 (by omega) hl3 rfl, hl4, hk4⟩⟩
      | panic ch => exact hp.elim
      | outgrown => exact hp.elim
    · rintro e W2 ⟨⟨v, rfl⟩, (⟨hi, hl, hk⟩ | ⟨i, c, hi, hl, hk⟩)⟩
      · exact ⟨none, _, by have := run_endLoop (P := P) hl (by rw [hrec]; simp); rw [hrec] at this; exact this, hdone _ _ (Nat.le_refl _) (hI.putObj _ hi (by omega) hl rfl) ((World.putObj_heap_other (by omega)).trans hk)⟩
      · exact ⟨some c, _, by have := run_endLoop (P := P) hl (by rw [hrec]; simp); rw [hrec] at this; exact this, hstop _ c i _ (Nat.le_refl _) ((hIx c).putObj _ hi (by omega) hl rfl) ((World.putObj_heap_other (by omega)).trans hk)⟩
end Go.Proofs.YteeanpfhngoobaaGreat
