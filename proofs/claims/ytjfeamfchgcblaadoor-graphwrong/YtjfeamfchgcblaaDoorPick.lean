/- A region that draws its order, in a round: what only looks at what nobody in the region turns may be taken first. -/
import Derived.Test.YtjfeamfchgcblaaDoorLeaf
import Derived.OrdersIn
import Derived.OwnWalkIn
import Derived.TacticsInMore
set_option linter.unusedVariables false
set_option linter.unusedSimpArgs false
namespace Go.Proofs.YtjfeamfchgcblaaDoor
open Go.RowKit

section
variable {F : Fence} {n : Nat} {P : Program} {ops : Array Oper} {Q : Exit → Act → World → Prop} {S : World → Prop}

/-- In every world of S the operation tells v and turns nothing; or it is passed by. -/
def Tells (P : Program) (ops : Array Oper) (S : World → Prop) (o : Oper) (v : Value) (a : Act) : Prop :=
  (Region.wanted o (yielded ops a.tmps) = true ∧ ∀ w, S w → (execOp a.eval o).run P w = .ok (.value v) w) ∨
  (Region.wanted o (yielded ops a.tmps) = false ∧ v = undef)

/-- No operation of the region is a defer statement or a select. -/
def plainOps (ops : Array Oper) : Bool := ops.all fun o => match o.op with | .defer _ => false | .select _ _ => false | _ => true

theorem plainOps_at (h : plainOps ops = true) {i : Nat} {o : Oper} (hi : ops[i]? = some o) : (∀ c, o.op ≠ .defer c) ∧ ∀ cs b, o.op ≠ .select cs b := by
  unfold plainOps at h
  have hm : o ∈ ops := Array.mem_of_getElem? hi
  have := (Array.all_eq_true_iff_forall_mem.1 h) o hm
  constructor
  · intro c e; rw [e] at this; cases this
  · intro cs b e; rw [e] at this; cases this

/-- Whatever comes up next, and S holds behind it. -/
def Any (F : Fence) (n : Nat) (P : Program) (ops : Array Oper) (Q : Exit → Act → World → Prop) (S : World → Prop) : Nat → Array Bool → Act → World → Prop
  | 0, listed, a, w => Region.ready .any ops listed = [] ∧ Q .normal a w
  | k + 1, listed, a, w => (Region.ready .any ops listed = [] → Q .normal a w) ∧
      ∀ i ∈ Region.ready .any ops listed, wpOpIn F n P ops Q i (fun a' w' => S w' ∧ Any F n P ops Q S k (listed.setIfInBounds i true) a' w') a w

theorem Any.plain : ∀ (k : Nat) (listed : Array Bool) (a : Act) (w : World), Any F n P ops Q S k listed a w → wpAnyIn F n P .any ops Q k listed a w
  | 0, _, _, _, h => h
  | k + 1, _, _, _, h => ⟨h.1, fun i hi => wpOpIn_mono (fun a' w' h' => Any.plain k _ a' w' h'.2) (h.2 i hi)⟩

theorem Tells.kept {o : Oper} {v : Value} {a a' : Act} (h : Tells P ops S o v a) (he : execOp a'.eval o = execOp a.eval o)
    (hw : Region.wanted o (yielded ops a'.tmps) = Region.wanted o (yielded ops a.tmps)) : Tells P ops S o v a' := by
  unfold Tells at *; rw [he, hw]; exact h

theorem Tells.op (hF : ∀ f, F.fn f) {i : Nat} {o : Oper} {v : Value} {a : Act} (hi : ops[i]? = some o) (hd : ∀ c, o.op ≠ .defer c) (h : Tells P ops S o v a) {K : Act → World → Prop} {w : World} (hS : S w) (hK : K (a.put o.dst v) w) :
    wpOpIn F n P ops Q i K a w := by
  unfold wpOpIn
  simp only [hi]
  rcases h with ⟨hw, hv⟩ | ⟨hw, rfl⟩
  · simp only [hw, if_true, Oper.wpIn, Oper.semAt_plain F _ _ hd, hv w hS, Oper.uponIn]
    exact ⟨fun f _ => hF f, hK⟩
  · simp only [hw, Bool.false_eq_true, if_false]
    exact ⟨fun f _ => hF f, hK⟩

/-- Another operation, apart from it, does the same whether its value lies there yet or not. -/
theorem op_later (hF : ∀ f, F.fn f) {j : Nat} {oi oj : Oper} {v : Value} (hj : ops[j]? = some oj) (hap : oi.apart ops oj = true) (hpi : (∀ c, oi.op ≠ .defer c) ∧ ∀ cs b, oi.op ≠ .select cs b) (hpj : (∀ c, oj.op ≠ .defer c) ∧ ∀ cs b, oj.op ≠ .select cs b)
    (hQ : ∀ c a w, Q (.panic c) (a.put oi.dst v) w → Q (.panic c) a w) {K : Act → World → Prop} {a : Act} {w : World} (hy : Tells P ops S oi v a) (h : wpOpIn F n P ops Q j K (a.put oi.dst v) w) :
    wpOpIn F n P ops Q j (fun a' w' => Tells P ops S oi v a' ∧ K (a'.put oi.dst v) w') a w := by
  obtain ⟨h1, h2, h3⟩ := Oper.apart_spec hap
  have keep : ∀ u, Tells P ops S oi v (a.put oj.dst u) := fun u => hy.kept (execOp_put oi hpi.2 a oj.dst u h3) (wanted_put oi a oj.dst u h3)
  have turn : ∀ u w'', K ((a.put oi.dst v).put oj.dst u) w'' → Tells P ops S oi v (a.put oj.dst u) ∧ K ((a.put oj.dst u).put oi.dst v) w'' := fun u w'' hk => ⟨keep u, by rw [← Act.put_comm a v u h2]; exact hk⟩
  unfold wpOpIn at *
  simp only [hj] at *
  rw [wanted_put oj a oi.dst v h1] at h
  cases hw : Region.wanted oj (yielded ops a.tmps) with
  | false =>
    simp only [hw, Bool.false_eq_true, if_false] at h ⊢
    exact ⟨fun f _ => hF f, turn _ _ h.2⟩
  | true =>
    simp only [hw, if_true] at h ⊢
    unfold Oper.wpIn at *
    refine ⟨fun f _ => hF f, ?_⟩
    have h := h.2
    rw [Oper.semAt_plain F _ _ hpj.1, execOp_put oj hpj.2 a oi.dst v h1] at h
    rw [Oper.semAt_plain F _ _ hpj.1]
    generalize (execOp a.eval oj).run P w = r at h ⊢
    cases r with
    | halt x w' => cases x <;> simp only [Oper.uponIn] at h ⊢; exact hQ _ _ _ h
    | ok x w' =>
      cases x with
      | value u => exact turn u w' h
      | skip => exact turn undef w' h
      | defer d =>
        simp only [Oper.uponIn] at h ⊢
        refine ⟨(hy.kept (a' := { a with defers := d :: a.defers }) rfl rfl).kept (execOp_put oi hpi.2 { a with defers := d :: a.defers } oj.dst undef h3) (wanted_put oi _ oj.dst undef h3), ?_⟩
        rw [← Act.put_comm _ v undef h2, ← Act.put_defers]
        exact h
      | enter f args =>
        simp only [Oper.uponIn] at h ⊢
        refine ⟨h.1, CallsIn.mono h.2 fun e w'' he => ?_⟩
        cases e with
        | returned u => exact turn u w'' he
        | panicked c => exact hQ _ _ _ he
        | outgrown => exact he
      | row row args =>
        simp only [Oper.uponIn] at h ⊢
        exact ⟨h.1, RowsIn.mono h.2 fun u w'' he => turn u w'' he⟩
      | round l f tmps assign body =>
        simp only [Oper.uponIn] at h ⊢
        refine ⟨h.1, RoundIn.mono h.2 fun e w'' he => ?_⟩
        cases e with
        | returned u => exact turn u w'' he
        | panicked c => exact hQ _ _ _ he
        | outgrown => exact he
      | _ => first | exact h | (simp only [Oper.uponIn] at h ⊢; exact h)

theorem Any.first (hF : ∀ f, F.fn f) (hp : plainOps ops = true) {i : Nat} {oi : Oper} {v : Value} (hi : ops[i]? = some oi) (hQ : ∀ c a w, Q (.panic c) (a.put oi.dst v) w → Q (.panic c) a w) :
    ∀ (k : Nat) (listed : Array Bool) (a : Act) (w : World),
      (∀ j oj, ops[j]? = some oj → j ≠ i → listed.getD j true = false → (∀ e ∈ oj.after, Region.binds .any e = true → e.on ≠ i) → oi.apart ops oj = true) →
      i ∈ Region.ready .any ops listed → Tells P ops S oi v a → S w →
      Any F n P ops Q S k (listed.setIfInBounds i true) (a.put oi.dst v) w → Any F n P ops Q S (k + 1) listed a w
  | k, listed, a, w, hfree, hr, hy, hS, H => by
    refine ⟨fun h => (by rw [h] at hr; cases hr), fun j hj => ?_⟩
    by_cases hji : j = i
    · subst hji; exact hy.op hF hi (plainOps_at hp hi).1 hS ⟨hS, H⟩
    · cases k with
      | zero => have := ready_mono hj hji; rw [H.1] at this; cases this
      | succ k =>
        obtain ⟨hjun, oj, hoj, hall⟩ := mem_ready.1 hj
        have hnot : ∀ e ∈ oj.after, Region.binds .any e = true → e.on ≠ i := fun e he hb heq => by
          have h1 := hall e he hb
          have h0 := (mem_ready.1 hr).1
          rw [heq] at h1
          rcases Nat.lt_or_ge i listed.size with h' | h'
          · simp [h'] at h0 h1; rw [h0] at h1; cases h1
          · simp [Array.getElem?_eq_none h'] at h1
        have h2 := op_later hF hoj (hfree j oj hoj hji hjun hnot) (plainOps_at hp hi) (plainOps_at hp hoj) hQ hy (H.2 j (ready_mono hj hji))
        refine wpOpIn_mono (fun a' w' h3 => ⟨h3.2.1, Any.first hF hp hi hQ k _ a' w' (fun x ox hx hxi hun hno => hfree x ox hx hxi ?_ hno) (ready_mono hr (Ne.symm hji)) h3.1 h3.2.1 ?_⟩) h2
        · by_cases hjx : j = x
          · subst hjx; exact hjun
          · rw [getD_set_ne true hjx] at hun; exact hun
        · rw [Array.setIfInBounds_comm _ _ hji]; exact h3.2.2

/-- Number i is taken first. -/
theorem Any.take (hF : ∀ f, F.fn f) {i : Nat} {oi : Oper} {v : Value} {k : Nat} {listed : Array Bool} {a : Act} {w : World} (hi : ops[i]? = some oi) (hp : plainOps ops = true) (hf : Region.free .any ops listed i = true)
    (hr : (Region.ready .any ops listed).contains i = true) (hQ : ∀ c a w, Q (.panic c) (a.put oi.dst v) w → Q (.panic c) a w) (hy : Tells P ops S oi v a) (hS : S w)
    (h : Any F n P ops Q S k (listed.setIfInBounds i true) (a.put oi.dst v) w) : Any F n P ops Q S (k + 1) listed a w :=
  Any.first hF hp hi hQ k listed a w (Region.free_spec hi hf) (by simpa using hr) hy hS h

/-- One alone may come up. -/
theorem Any.one {i : Nat} {o : Oper} {k : Nat} {listed : Array Bool} {a : Act} {w : World} (hr : Region.ready .any ops listed = [i]) (ho : ops[i]? = some o) (hw : Region.wanted o (yielded ops a.tmps) = true)
    (h : ∀ K : Act → World → Prop, (∀ a' w', S w' → Any F n P ops Q S k (listed.setIfInBounds i true) a' w' → K a' w') → Oper.wpIn F n P o a w K Q) : Any F n P ops Q S (k + 1) listed a w := by
  refine ⟨fun h0 => (by rw [hr] at h0; cases h0), fun j hj => ?_⟩
  rw [hr] at hj
  obtain rfl : j = i := by simpa using hj
  refine wpOpIn_step ho fun K hK => ?_
  rw [if_pos hw]
  exact h K fun a' w' h1 h2 => hK a' w' ⟨h1, h2⟩

theorem Any.done {k : Nat} {listed : Array Bool} {a : Act} {w : World} (hr : Region.ready .any ops listed = []) (h : Q .normal a w) : Any F n P ops Q S k listed a w := by
  cases k with
  | zero => exact ⟨hr, h⟩
  | succ k => exact ⟨fun _ => h, by rw [hr]; simp⟩

theorem region_pick {id : Nat} {a : Act} {w : World} (S : World → Prop) (hm : P.follows .mixedOrders = true)
    (h : Any F n P ops Q S ops.size (Array.replicate ops.size false) a w.drew) : (Code.region id ops true).wpIn F n P Q a w :=
  wpIn_region_any hm (Any.plain _ _ _ _ h)
/-- It ends normally. -/
def nrm (Q : Exit → Act → World → Prop) : Exit → Act → World → Prop
  | .normal, a, w => Q .normal a w
  | _, _, _ => False
theorem region_pickN {id : Nat} {a : Act} {w : World} (S : World → Prop) (hm : P.follows .mixedOrders = true)
    (h : Any F n P ops (nrm Q) S ops.size (Array.replicate ops.size false) a w.drew) : (Code.region id ops true).wpIn F n P Q a w :=
  Go.wpIn_mono (region_pick S hm h) fun e a w hq => by
    cases e with
    | normal => exact hq
    | _ => exact hq.elim
end
theorem wideF (f : Nat) : Fence.wide.fn f := trivial
theorem wideR (l f : Nat) : (Fence.wide.inRound l).fn f := trivial
end Go.Proofs.YtjfeamfchgcblaaDoor
