/- A region that draws its order: what only looks may be taken first, also where one operation of the region, which waits for it, writes what is looked at. -/
import Derived.Test.YtipbhdhiklmieaaGreatDoorZAA
import Derived.Test.YtipbhdhiklmieaaGreatDoorZAU
import Derived.Test.YtipbhdhiklmieaaGreatDoorZAB
import Derived.Test.YtipbhdhiklmieaaGreatDoorZAM
import Derived.Test.YtipbhdhiklmieaaGreatDoorZAT
set_option linter.all false
set_option maxRecDepth 100000
set_option maxHeartbeats 2000000
namespace Go.Proofs.YtipbhdhiklmieaaGreatDoor.P7
open Go.RowKit
section
variable {F : Fence} {n : Nat} {P : Program} {ops : Array Oper} {Q : Exit -> Act -> World -> Prop} {S : World -> Prop} {s : Nat}
def needs (ops : Array Oper) : Nat -> Nat -> Nat -> Bool
 | 0, _, _ => false
 | f + 1, x, i => match ops[x]? with
  | none => false
  | some o => o.after.any fun e => Region.binds .any e && (e.on == i || needs ops f e.on i)
def Closed (ops : Array Oper) (listed : Array Bool) : Prop := ∀ x o, listed.getD x false = true -> ops[x]? = some o -> ∀ e ∈ o.after, Region.binds .any e = true -> listed.getD e.on false = true
def closedB (ops : Array Oper) (listed : Array Bool) : Bool := (List.range listed.size).all fun x => !listed.getD x false || match ops[x]? with
  | none => true
  | some o => o.after.all fun e => !Region.binds .any e || listed.getD e.on false
theorem closedB_spec {listed : Array Bool} (h : closedB ops listed = true) : Closed ops listed := by
 intro x o hx ho e he hb
 unfold closedB at h
 rw [List.all_eq_true] at h
 have hlt : x < listed.size := by
  rcases Nat.lt_or_ge x listed.size with h' | h'
  ·exact h'
  ·simp [Array.getElem?_eq_none h'] at hx
 have h1 := h x (List.mem_range.2 hlt)
 rw [ho, hx] at h1
 simp only [Bool.not_true, Bool.false_or] at h1
 have h2 := Array.all_eq_true_iff_forall_mem.1 h1 e he
 rw [hb] at h2
 simpa using h2
theorem Closed.add {listed : Array Bool} (h : Closed ops listed) {j : Nat} (hj : j ∈ Region.ready .any ops listed) : Closed ops (listed.setIfInBounds j true) := by
 obtain ⟨h0, o, ho, hall⟩ := mem_ready.1 hj
 have up : ∀ y, listed.getD y false = true -> (listed.setIfInBounds j true).getD y false = true := by
  intro y hy
  by_cases e : j = y
  ·subst e
   rcases Nat.lt_or_ge j listed.size with h' | h'
   ·simp [h']
   ·simp [Array.getElem?_eq_none h'] at hy
  ·rw [getD_set_ne false e]; exact hy
 intro x ox hx hox e he hb
 by_cases e' : j = x
 ·subst e'
  rw [ho] at hox
  cases hox
  exact up _ (hall e he hb)
 ·rw [getD_set_ne false e'] at hx
  exact up _ (h x ox hx hox e he hb)
theorem needs_spec {listed : Array Bool} (h : Closed ops listed) {i : Nat} (hi : listed.getD i false = false) : ∀ (f x : Nat), needs ops f x i = true -> listed.getD x false = false /\ x ∉ Region.ready .any ops listed
 | 0, x, hx => by simp [needs] at hx
 | f + 1, x, hx => by
  unfold needs at hx
  cases ho : ops[x]? with
  | none => rw [ho] at hx; simp at hx
  | some o =>
   rw [ho] at hx
   obtain ⟨e, he, hb⟩ := Array.any_eq_true'.1 hx
   simp only [Bool.and_eq_true, Bool.or_eq_true, beq_iff_eq] at hb
   have hne : listed.getD e.on false = false := by
    rcases hb.2 with h1 | h1
    ·rw [h1]; exact hi
    ·exact (needs_spec h hi f e.on h1).1
   refine ⟨?_, fun hr => ?_⟩
   ·cases hl : listed.getD x false with
    | false => rfl
    | true => rw [h x o hl ho e he hb.1] at hne; cases hne
   ·obtain ⟨-, o', ho', hall⟩ := mem_ready.1 hr
    rw [ho] at ho'
    cases ho'
    rw [hall e he hb.1] at hne; cases hne
def Anys (F : Fence) (n : Nat) (P : Program) (ops : Array Oper) (Q : Exit -> Act -> World -> Prop) (S : World -> Prop) (s : Nat) : Nat -> Array Bool -> Act -> World -> Prop
 | 0, listed, a, w => Region.ready .any ops listed = [] /\ Q .normal a w
 | k + 1, listed, a, w => (Region.ready .any ops listed = [] -> Q .normal a w) /\
   ∀ i ∈ Region.ready .any ops listed, wpOpIn F n P ops Q i (fun a' w' => (i ≠ s -> S w') /\ Anys F n P ops Q S s k (listed.setIfInBounds i true) a' w') a w
theorem Anys.plain : ∀ (k : Nat) (listed : Array Bool) (a : Act) (w : World), Anys F n P ops Q S s k listed a w -> wpAnyIn F n P .any ops Q k listed a w
 | 0, _, _, _, h => h
 | k + 1, _, _, _, h => ⟨h.1, fun i hi => wpOpIn_mono (fun a' w' h' => Anys.plain k _ a' w' h'.2) (h.2 i hi)⟩
theorem unlisted {listed : Array Bool} {i : Nat} (h : listed.getD i true = false) : listed.getD i false = false := by
 rcases Nat.lt_or_ge i listed.size with h' | h'
 ·simp [h'] at h |-; exact h
 ·simp [Array.getElem?_eq_none h']
theorem Anys.first (hF : ∀ f, F.fn f) (hp : plainOps ops = true) {i : Nat} {oi : Oper} {v : Value} (hi : ops[i]? = some oi) (hQ : ∀ c a w, Q (.panic c) (a.put oi.dst v) w -> Q (.panic c) a w) (hs : needs ops 20 s i = true) :
  ∀ (k : Nat) (listed : Array Bool) (a : Act) (w : World), Closed ops listed ->
   (∀ j oj, ops[j]? = some oj -> j ≠ i -> listed.getD j true = false -> (∀ e ∈ oj.after, Region.binds .any e = true -> e.on ≠ i) -> oi.apart ops oj = true) ->
   i ∈ Region.ready .any ops listed -> Tells P ops S oi v a -> S w ->
   Anys F n P ops Q S s k (listed.setIfInBounds i true) (a.put oi.dst v) w -> Anys F n P ops Q S s (k + 1) listed a w
 | k, listed, a, w, hcl, hfree, hr, hy, hS, H => by
  refine ⟨fun h => (by rw [h] at hr; cases hr), fun j hj => ?_⟩
  by_cases hji : j = i
  ·subst hji; exact hy.op hF hi (plainOps_at hp hi).1 hS ⟨fun _ => hS, H⟩
  ·have hjs : j ≠ s := fun e => (needs_spec hcl (unlisted (mem_ready.1 hr).1) 20 s hs).2 (e ▸ hj)
   cases k with
   | zero => have := ready_mono hj hji; rw [H.1] at this; cases this
   | succ k =>
    obtain ⟨hjun, oj, hoj, hall⟩ := mem_ready.1 hj
    have hnot : ∀ e ∈ oj.after, Region.binds .any e = true -> e.on ≠ i := fun e he hb heq => by
     have h1 := hall e he hb
     have h0 := (mem_ready.1 hr).1
     rw [heq] at h1
     rcases Nat.lt_or_ge i listed.size with h' | h'
     ·simp [h'] at h0 h1; rw [h0] at h1; cases h1
     ·simp [Array.getElem?_eq_none h'] at h1
    have h2 := op_later hF hoj (hfree j oj hoj hji hjun hnot) (plainOps_at hp hi) (plainOps_at hp hoj) hQ hy (H.2 j (ready_mono hj hji))
    refine wpOpIn_mono (fun a' w' h3 => ⟨h3.2.1, Anys.first hF hp hi hQ hs k _ a' w' (hcl.add hj) (fun x ox hx hxi hun hno => hfree x ox hx hxi ?_ hno) (ready_mono hr (Ne.symm hji)) h3.1 (h3.2.1 hjs) ?_⟩) h2
    ·by_cases hjx : j = x
     ·subst hjx; exact hjun
     ·rw [getD_set_ne true hjx] at hun; exact hun
    ·rw [Array.setIfInBounds_comm _ _ hji]; exact h3.2.2
theorem Anys.take (hF : ∀ f, F.fn f) {i : Nat} {oi : Oper} {v : Value} {k : Nat} {listed : Array Bool} {a : Act} {w : World} (hi : ops[i]? = some oi) (hp : plainOps ops = true) (hc : closedB ops listed = true) (hs : needs ops 20 s i = true) (hf : Region.free .any ops listed i = true)
  (hr : (Region.ready .any ops listed).contains i = true) (hQ : ∀ c a w, Q (.panic c) (a.put oi.dst v) w -> Q (.panic c) a w) (hy : Tells P ops S oi v a) (hS : S w)
  (h : Anys F n P ops Q S s k (listed.setIfInBounds i true) (a.put oi.dst v) w) : Anys F n P ops Q S s (k + 1) listed a w :=
 Anys.first hF hp hi hQ hs k listed a w (closedB_spec hc) (Region.free_spec hi hf) (by simpa using hr) hy hS h
theorem Anys.tk (i : Nat) (v : Value) (hF : ∀ f, F.fn f) {oi : Oper} {k : Nat} {listed : Array Bool} {a : Act} {w : World} (hi : ops[i]? = some oi) (hy : Tells P ops S oi v a) (hS : S w)
  (h : Anys F n P ops Q S s k (listed.setIfInBounds i true) (a.put oi.dst v) w) (hp : plainOps ops = true := by kernel_rfl) (hc : closedB ops listed = true := by kernel_rfl) (hs : needs ops 20 s i = true := by kernel_rfl) (hf : Region.free .any ops listed i = true := by kernel_rfl)
  (hr : (Region.ready .any ops listed).contains i = true := by kernel_rfl) (hQ : ∀ c a w, Q (.panic c) (a.put oi.dst v) w -> Q (.panic c) a w := by exact fun _ _ _ h => h) : Anys F n P ops Q S s (k + 1) listed a w :=
 Anys.take hF hi hp hc hs hf hr hQ hy hS h
theorem Anys.tp (i : Nat) (v : Value) {oi : Oper} {k : Nat} {listed : Array Bool} {a : Act} {w : World} (hS : S w) (h : Anys F n P ops Q S s k (listed.setIfInBounds i true) (a.put oi.dst v) w) (hi : ops[i]? = some oi := by rfl) (hw : Region.wanted oi (yielded ops a.tmps) = true := by rfl)
  (hv : ∀ w, S w -> (execOp a.eval oi).run P w = .ok (.value v) w := by intro w _; go_simp) (hF : ∀ f, F.fn f := by exact fun _ => trivial) (hp : plainOps ops = true := by kernel_rfl) (hc : closedB ops listed = true := by kernel_rfl) (hs : needs ops 20 s i = true := by kernel_rfl) (hf : Region.free .any ops listed i = true := by kernel_rfl)
  (hr : (Region.ready .any ops listed).contains i = true := by kernel_rfl) (hQ : ∀ c a w, Q (.panic c) (a.put oi.dst v) w -> Q (.panic c) a w := by exact fun _ _ _ h => h) : Anys F n P ops Q S s (k + 1) listed a w :=
 Anys.take hF hi hp hc hs hf hr hQ (.inl ⟨hw, hv⟩) hS h
theorem Anys.tl (i : Nat) (v : Value) {oi : Oper} {k : Nat} {listed : Array Bool} {a : Act} {w : World} (hi : ops[i]? = some oi) (hv : ∀ w, S w -> (execOp a.eval oi).run P w = .ok (.value v) w) (hS : S w) (h : Anys F n P ops Q S s k (listed.setIfInBounds i true) (a.put oi.dst v) w) (hw : Region.wanted oi (yielded ops a.tmps) = true := by rfl)
  (hF : ∀ f, F.fn f := by exact fun _ => trivial) (hp : plainOps ops = true := by kernel_rfl) (hc : closedB ops listed = true := by kernel_rfl) (hs : needs ops 20 s i = true := by kernel_rfl) (hf : Region.free .any ops listed i = true := by kernel_rfl)
  (hr : (Region.ready .any ops listed).contains i = true := by kernel_rfl) (hQ : ∀ c a w, Q (.panic c) (a.put oi.dst v) w -> Q (.panic c) a w := by exact fun _ _ _ h => h) : Anys F n P ops Q S s (k + 1) listed a w :=
 Anys.take hF hi hp hc hs hf hr hQ (.inl ⟨hw, hv⟩) hS h
theorem Anys.ts (i : Nat) {oi : Oper} {k : Nat} {listed : Array Bool} {a : Act} {w : World} (hS : S w) (h : Anys F n P ops Q S s k (listed.setIfInBounds i true) (a.put oi.dst undef) w) (hi : ops[i]? = some oi := by rfl) (hw : Region.wanted oi (yielded ops a.tmps) = false := by rfl)
  (hF : ∀ f, F.fn f := by exact fun _ => trivial) (hp : plainOps ops = true := by kernel_rfl) (hc : closedB ops listed = true := by kernel_rfl) (hs : needs ops 20 s i = true := by kernel_rfl) (hf : Region.free .any ops listed i = true := by kernel_rfl)
  (hr : (Region.ready .any ops listed).contains i = true := by kernel_rfl) (hQ : ∀ c a w, Q (.panic c) (a.put oi.dst undef) w -> Q (.panic c) a w := by exact fun _ _ _ h => h) : Anys F n P ops Q S s (k + 1) listed a w :=
 Anys.take hF hi hp hc hs hf hr hQ (.inr ⟨hw, rfl⟩) hS h
theorem Anys.one {i : Nat} {o : Oper} {k : Nat} {listed : Array Bool} {a : Act} {w : World} (hr : Region.ready .any ops listed = [i]) (ho : ops[i]? = some o) (hw : Region.wanted o (yielded ops a.tmps) = true)
  (h : ∀ K : Act -> World -> Prop, (∀ a' w', (i ≠ s -> S w') -> Anys F n P ops Q S s k (listed.setIfInBounds i true) a' w' -> K a' w') -> Oper.wpIn F n P o a w K Q) : Anys F n P ops Q S s (k + 1) listed a w := by
 refine ⟨fun h0 => (by rw [hr] at h0; cases h0), fun j hj => ?_⟩
 rw [hr] at hj
 obtain rfl : j = i := by simpa using hj
 refine wpOpIn_step ho fun K hK => ?_
 rw [if_pos hw]
 exact h K fun a' w' h1 h2 => hK a' w' ⟨h1, h2⟩
theorem Anys.done {k : Nat} {listed : Array Bool} {a : Act} {w : World} (hr : Region.ready .any ops listed = []) (h : Q .normal a w) : Anys F n P ops Q S s k listed a w := by
 cases k with
 | zero => exact ⟨hr, h⟩
 | succ k => exact ⟨fun _ => h, by rw [hr]; simp⟩
theorem region_picks {id : Nat} {a : Act} {w : World} (S : World -> Prop) (s : Nat) (hm : P.follows .mixedOrders = true)
  (h : Anys F n P ops (nrm Q) S s ops.size (Array.replicate ops.size false) a w.drew) : (Code.region id ops true).wpIn F n P Q a w :=
 Go.wpIn_mono (wpIn_region_any hm (Anys.plain _ _ _ _ h)) fun e a w hq => by
  cases e with
  | normal => exact hq
  | _ => exact hq.elim
end
end Go.Proofs.YtipbhdhiklmieaaGreatDoor.P7
namespace Go.Proofs.YtipbhdhiklmieaaGreatDoor.P7
open P8
open Go.RowKit Go.Shelf
attribute [local go_sem] Oper.semAt_some
def esP (last : Bool) : Nat -> Nat -> List Int -> List (Nat × Esc)
 | _, _, [] => []
 | p, k + 1, _ :: r => esP last (p + 1) k r
 | p, 0, c :: r => if c = 92 then (p, firstP r last) :: (if (firstP r last).fault = 0 then esP last (p + 1) ((firstP r last).size - 1) r else []) else esP last (p + 1) 0 r
theorem esP_skip (last : Bool) : ∀ (k p : Nat) (l : List Int), esP last p k l = esP last (p + k) 0 (l.drop k)
 | 0, p, l => by simp
 | k + 1, p, [] => by simp [esP]
 | k + 1, p, _ :: r => by
  have := esP_skip last k (p + 1) r
  rw [esP, this, List.drop_succ_cons]
  congr 1
  omega
theorem esP_other {last : Bool} {t : List Int} {j : Nat} (h : j < t.length) (hc : iAt t j ≠ 92) : esP last j 0 (t.drop j) = esP last (j + 1) 0 (t.drop (j + 1)) := by
 rw [drop_at h, esP, if_neg hc]
theorem esP_slash {last : Bool} {t : List Int} {j : Nat} (h : j < t.length) (hc : iAt t j = 92) :
  esP last j 0 (t.drop j) = (j, firstP (t.drop (j + 1)) last) :: (if (firstP (t.drop (j + 1)) last).fault = 0 then esP last (j + (firstP (t.drop (j + 1)) last).size) 0 (t.drop (j + (firstP (t.drop (j + 1)) last).size)) else []) := by
 rw [drop_at h, esP, if_pos hc]
 by_cases hf : (firstP (t.drop (j + 1)) last).fault = 0
 ·rw [if_pos hf, if_pos hf, esP_skip]
  have := (firstP_size _ last hf).1
  rw [List.drop_drop]
  congr 2
  ·omega
  ·congr 1; omega
 ·rw [if_neg hf, if_neg hf]
def encE (x : Nat × Esc) : Array Value := #[.int .i64 (x.1 : Nat), escV x.2]
structure Ke (n0 B1 B2 : Nat) (A B : World) : Prop where
 below : Below n0 A B
 b1 : B.heap[B1]? = A.heap[B1]?
 b2 : B.heap[B2]? = A.heap[B2]?
 esc : ∀ (k : Nat) (cs : Array Value) (f : Nat × Nat), A.heap[k]? = some (.cells cs 217 f) -> B.heap[k]? = some (.cells cs 217 f)
theorem Ke.trans {n0 B1 B2 : Nat} {A B C : World} (h : Ke n0 B1 B2 A B) (k : Ke n0 B1 B2 B C) : Ke n0 B1 B2 A C :=
 ⟨h.below.trans k.below, k.b1.trans h.b1, k.b2.trans h.b2, fun i cs f hi => k.esc i cs f (h.esc i cs f hi)⟩
theorem Ke.refl (n0 B1 B2 : Nat) (A : World) : Ke n0 B1 B2 A A := ⟨Below.refl _ _, rfl, rfl, fun _ _ _ h => h⟩
theorem Ke.grown {n0 B1 B2 : Nat} {A B : World} (hg : A.grownBy B none) (hn : n0 <= A.heap.size) (h1 : B1 < A.heap.size) (h2 : B2 < A.heap.size) : Ke n0 B1 B2 A B :=
 ⟨(grown_below hg).mono hn, hg.block B1 h1 (by simp), hg.block B2 h2 (by simp), fun k cs f hk => (hg.block k (Array.getElem?_eq_some_iff.1 hk).1 (by simp)).trans hk⟩
theorem Ke.c1 {n0 B1 B2 : Nat} {A B : World} (h : Ke n0 B1 B2 A B) : B.cell? ⟨B1, 0, none⟩ = A.cell? ⟨B1, 0, none⟩ := World.cell?_of_block h.b1
theorem Ke.c2 {n0 B1 B2 : Nat} {A B : World} (h : Ke n0 B1 B2 A B) : B.cell? ⟨B2, 0, none⟩ = A.cell? ⟨B2, 0, none⟩ := World.cell?_of_block h.b2
theorem wrapi' (x : Int) (h1 : -9223372036854775808 <= x) (h2 : x <= 9223372036854775807) : IntKind.i64.wrap x = x := by rw [IntKind.wrap_i64]; omega
theorem Any.two {F : Fence} {n : Nat} {P : Program} {ops : Array Oper} {Q : Exit -> Act -> World -> Prop} {S : World -> Prop} {i j : Nat} {oi oj : Oper} {k : Nat} {listed : Array Bool} {a : Act} {w : World} (hr : Region.ready .any ops listed = [i, j]) (hoi : ops[i]? = some oi) (hoj : ops[j]? = some oj)
  (hwi : Region.wanted oi (yielded ops a.tmps) = true) (hwj : Region.wanted oj (yielded ops a.tmps) = true)
  (h1 : ∀ K : Act -> World -> Prop, (∀ a' w', S w' -> Any F n P ops Q S k (listed.setIfInBounds i true) a' w' -> K a' w') -> Oper.wpIn F n P oi a w K Q)
  (h2 : ∀ K : Act -> World -> Prop, (∀ a' w', S w' -> Any F n P ops Q S k (listed.setIfInBounds j true) a' w' -> K a' w') -> Oper.wpIn F n P oj a w K Q) : Any F n P ops Q S (k + 1) listed a w := by
 refine ⟨fun h0 => (by rw [hr] at h0; cases h0), fun x hx => ?_⟩
 rw [hr] at hx
 rcases List.mem_cons.1 hx with rfl | hx
 ·refine wpOpIn_step hoi fun K hK => ?_
  rw [if_pos hwi]
  exact h1 K fun a' w' g1 g2 => hK a' w' ⟨g1, g2⟩
 ·obtain rfl : x = j := by simpa using hx
  refine wpOpIn_step hoj fun K hK => ?_
  rw [if_pos hwj]
  exact h2 K fun a' w' g1 g2 => hK a' w' ⟨g1, g2⟩
theorem put3_block {W : World} {g : Nat} {a0 a1 a2 : Value} {t : TypeId} {f : Nat × Nat} (h : W.heap[g]? = some (.cells #[a0, a1, a2] t f)) (b0 b1 b2 : Value) : (put3 W g b0 b1 b2).heap[g]? = some (.cells #[b0, b1, b2] t f) := by
 unfold put3
 simp [World.setCell, Array.getElem?_modify, h]
theorem store3_in {F : Fence} {n : Nat} {w : World} {o : Oper} {a : Act} {K : Act -> World -> Prop} {Q : Exit -> Act -> World -> Prop} {x y : Operand} (ho : o.op = .store 217 x y) (hd : o.dst = none) {g : Nat} {i0 i1 i2 : Int} {a0 a1 a2 : Value}
  (hx : a.eval x = .pointer (some ⟨g, 0, none⟩)) (hy : a.eval y = .agg #[.int .i64 i0, .int .i64 i1, .int .i64 i2])
  (r0 : w.cell? ⟨g, 0, none⟩ = some a0) (r1 : w.cell? ⟨g, 1, none⟩ = some a1) (r2 : w.cell? ⟨g, 2, none⟩ = some a2)
  (f0 : w.frozen? ⟨g, 0, none⟩ = false) (f1 : w.frozen? ⟨g, 1, none⟩ = false) (f2 : w.frozen? ⟨g, 2, none⟩ = false)
  (h : K (a.put none undef) (put3 w g (.int .i64 i0) (.int .i64 i1) (.int .i64 i2))) : Oper.wpIn F n Tryz.prog o a w K Q := by
 unfold Oper.wpIn
 refine ⟨?_, ?_⟩
 ·simp [Oper.about, ho]
 ·rw [Oper.semAt_plain F _ _ (by rw [ho]; intro c hc'; cases hc')]
  have e0 : execOp a.eval o = (Instr.storeAt 217 (a.eval x) (a.eval y) >>= fun _ => pure .skip) := by
   unfold execOp
   simp only [ho]
  have : (execOp a.eval o).run Tryz.prog w = .ok .skip (put3 w g (.int .i64 i0) (.int .i64 i1) (.int .i64 i2)) := by
   rw [e0, hx, hy]
   unfold put3
   go_simp
  rw [this]
  simp only [Oper.uponIn, hd]
  exact h
theorem esc1_in (n : Nat) (l B1 B2 n0 c : Nat) (q : Option Addr) (t : List Int) (last : Bool) (hc : t.length <= c) (hm : c <= maxLen)
  (J Jx : Nat -> World -> Prop) (W : World) (hn0 : n0 <= W.heap.size) (h0n : 0 < n0) (hT : Tab W) (hq : ∀ a, q = some a -> 0 < t.length -> a.block < n0) (hI : Is W q t)
  (c1 : W.cell? ⟨B1, 0, none⟩ = some (.slice q t.length c)) (c2 : W.cell? ⟨B2, 0, none⟩ = some (.bool last))
  (hJ : AbN J) (hJx : AbN Jx)
  (hY : ∀ (m i : Nat) (x : Nat × Esc) (W1 : World), (esP last 0 0 t)[i]? = some x -> J i W1 -> YieldAt Fence.wide m Tryz.prog l (encE x) W1 fun e W' =>
   (e = .returned (.bool true) /\ J (i + 1) W' /\ Ke n0 B1 B2 W1 W') \/ (e = .returned (.bool false) /\ Jx (i + 1) W')) (h0 : J 0 W) :
  CallsIn Fence.wide n Tryz.prog 195 #[.func (.yield l) #[] #[], .pointer (some ⟨B1, 0, none⟩), .pointer (some ⟨B2, 0, none⟩)] W fun e W' => (∃ v, e = .returned v) /\
   (J (esP last 0 0 t).length W' \/ ∃ i, Jx i W') := by
 have hm2 : (c : Int) <= 9223372036854775807 := by unfold maxLen at hm; omega
 have hc2 : (t.length : Int) <= c := by omega
 have l1 := World.block_lt_of_cell? W _ c1
 have l2 := World.block_lt_of_cell? W _ c2
 obtain ⟨T, hTT⟩ : ∃ T, esP last 0 0 t = T := ⟨_, rfl⟩
 rw [hTT] at hY |-
 have HTT : Hid (esP last 0 0 (t.drop 0) = T) := hTT
 clear hTT
 refine callsIn_of_wp Tryz.func195 rfl trivial ?_ rfl
 simp only [Tryz.ntmps195, frm, Nat.reduceAdd, Nat.reduceSub]
 gi_wp2
 gi_loopw [4] (fun iv wr => ∃ (k i : Nat), k <= t.length /\ iv = .int .i64 k /\ Hid (esP last k 0 (t.drop k) = T.drop i /\ i <= T.length) /\ J i wr /\ Ke n0 B1 B2 W wr)
  (fun iv _ => t.length - (intOf iv).toNat)
 case atStart => exact ⟨0, 0, Nat.zero_le _, rfl, ⟨by rw [List.drop_zero (l := T)]; exact HTT.out, Nat.zero_le _⟩, h0, Ke.refl _ _ _ _⟩
 case round =>
  obtain ⟨k, i, hk, rfl, Hs, hJs, hK⟩ := hrel
  have d1 := hK.c1.trans c1
  have d2 := hK.c2.trans c2
  by_cases hlt : k < t.length
  ·have hli : (k : Int) < t.length := by omega
   have hIr := hI.below hq hK.below
   obtain ⟨b, o, rfl, hu⟩ := hIr.at (by omega)
   have d0 := hu k hlt
   by_cases hx : iAt t k = 92
   ·rw [hx] at d0
    obtain ⟨u, hu'⟩ : ∃ u, t.drop (k + 1) = u := ⟨_, rfl⟩
    have hul : t.length - (k + 1) = u.length := by rw [<- hu']; simp
    have S : ∀ w2, (Instr.slice 41 (.slice (some ⟨b, o, none⟩) t.length c) (some (.int .i64 ((k : Int) + 1))) none none).run Tryz.prog w2 = .ok (.slice (if c = k + 1 then (some (⟨b, o, none⟩ : Addr)) else (some (⟨b, o, none⟩ : Addr)).map (·.add (k + 1))) (t.length - (k + 1)) (c - (k + 1))) w2 := fun w2 => by
     have := slice_from (some ⟨b, o, none⟩) t.length c (k + 1) (by omega) hc w2
     rw [Int.natCast_add] at this
     exact this
    have hI2 := hIr.from c (k + 1) hc
    rw [hu'] at hI2
    rw [hul] at S
    generalize (if c = k + 1 then (some (⟨b, o, none⟩ : Addr)) else (some (⟨b, o, none⟩ : Addr)).map (·.add (k + 1))) = q' at S hI2
    obtain ⟨E, hE⟩ : ∃ E, firstP u last = E := ⟨_, rfl⟩
    have FA : ∀ (n : Nat) (w2 : World), wr.grownBy w2 none -> CallsIn Fence.wide n Tryz.prog 196 #[.slice q' u.length (c - (k + 1)), .bool last] w2 fun e w' => e = .returned (escV E) /\ w2.grownBy w' none := fun n w2 hg => by
     have hTr := hT.below hK.below h0n
     have := first_any q' u (c - (k + 1)) last w2 (by omega) (by omega) (hI2.grown hg) (hTr.grown hg)
     rw [hE] at this
     exact callsIn_wide.2 this
    have hS : ∀ w2, wr.grownBy w2 none -> w2.cell? ⟨B1, 0, none⟩ = some (.slice (some ⟨b, o, none⟩) t.length c) /\ w2.cell? ⟨B2, 0, none⟩ = some (.bool last) := fun w2 hg =>
     ⟨((grown_below hg).cell (p := ⟨B1, 0, none⟩) (World.block_lt_of_cell? wr _ d1)).trans d1, ((grown_below hg).cell (p := ⟨B2, 0, none⟩) (World.block_lt_of_cell? wr _ d2)).trans d2⟩
    have e1 := wrapi' ((k : Int) + 1) (by omega) (by omega)
    have HE : Hid (firstP (t.drop (k + 1)) last = E) := by show _ = _; rw [hu']; exact hE
    have HS : Hid (T.drop i = (k, E) :: (if E.fault = 0 then esP last (k + E.size) 0 (t.drop (k + E.size)) else [])) := by
     show _ = _
     rw [<- Hs.out.1, esP_slash hlt hx, HE.out]
    have HZ : Hid (E.fault = 0 -> 1 <= E.size /\ k + E.size <= t.length /\ E.size <= 10) := fun hf => by
     have := firstP_size u last (by rw [hE]; exact hf)
     rw [hE] at this
     omega
    clear hu hu' hE hI2
    gi_wp2
    refine Go.wpIn_mono (Q := fun e a' w' => e = .normal /\ ∃ b', wr.heap.size <= b' /\ a' = { tmps := #[(.func (.yield l) #[] #[]), (.pointer (some ⟨B1, 0, none⟩)), (.pointer (some ⟨B2, 0, none⟩)), undef, (.int .i64 (k : Nat)), (.pointer (some ⟨b', 0, none⟩)), (.int .i64 (k : Nat)), (.slice (some ⟨b, o, none⟩) t.length c), (.int .i64 (t.length : Nat)), (.bool true), (.slice (some ⟨b, o, none⟩) t.length c), (.int .i64 (k : Nat)), (.pointer (some ⟨b, o + k, none⟩)), (.int .i64 92), (.bool false), u15, u16, (.slice (some ⟨b, o, none⟩) t.length c), (.int .i64 (k : Nat)), (.int .i64 ((k : Int) + 1)), (.slice q' u.length (c - (k + 1))), (.bool last), (escV E), u23, u24, u25, u26, u27, u28, u29, u30, u31, u32, u33, u34, u35, u36], defers := [] } /\ wr.grownBy w' none /\ w'.heap[b']? = some (.cells #[.int .i64 (E.size : Nat), .int .i64 E.point, .int .i64 (E.fault : Nat)] 217)) ?_ ?_
    ·refine region_pickN (fun w' => w'.cell? ⟨B1, 0, none⟩ = some (.slice (some ⟨b, o, none⟩) t.length c) /\ w'.cell? ⟨B2, 0, none⟩ = some (.bool last)) (by kernel_rfl) ?_
     show Any _ _ _ _ _ _ 8 _ ⟨#[_,_,_,_,_,_,_,_,_,_,_,_,_,_,_,_,_,_,_,_,_,_,_,_,_,_,_,_,_,_,_,_,_,_,_,_,_], []⟩ wr.drew
     refine .tl 0 (.slice (some ⟨b, o, none⟩) t.length c) rfl (fun w hw => by have := hw.1; go_simp) ⟨d1, d2⟩ ?_
     refine .tp 1 (.int .i64 (k : Nat)) ⟨d1, d2⟩ ?_
     refine .tp 2 (.int .i64 ((k : Int) + 1)) ⟨d1, d2⟩ ?_
     refine .tp 3 (.slice q' u.length (c - (k + 1))) ⟨d1, d2⟩ ?_
     refine .tl 4 (.bool last) rfl (fun w hw => by have := hw.2; go_simp) ⟨d1, d2⟩ ?_
     show Any _ _ _ _ _ _ 3 _ ⟨#[_,_,_,_,_,_,_,_,_,_,_,_,_,_,_,_,_,_,_,_,_,_,_,_,_,_,_,_,_,_,_,_,_,_,_,_,_], []⟩ _
     refine Any.two (i := 5) (j := 6) (by kernel_rfl) rfl rfl rfl rfl (fun K hK => ?_) (fun K hK => ?_)
     ·go_simp
      refine ⟨trivial, (fun h => by cases h), ?_⟩
      refine (FA _ wr.drew (grown_drew wr)).mono ?_
      rintro e W1 ⟨rfl, hg⟩
      have hg1 := grown_trans (grown_drew wr) hg
      obtain ⟨s1, s2⟩ := hS W1 hg1
      refine hK _ _ ⟨s1, s2⟩ ?_
      clear hK K
      show Any _ _ _ _ _ _ 2 _ ⟨#[_,_,_,_,_,_,_,_,_,_,_,_,_,_,_,_,_,_,_,_,_,_,_,_,_,_,_,_,_,_,_,_,_,_,_,_,_], []⟩ W1
      refine .on 6 rfl rfl fun K hK => ?_
      go_simp
      obtain ⟨s1, s2⟩ := hS _ (grown_trans hg1 (grown_new W1 (.cells #[.int .i64 0, .int .i64 0, .int .i64 0] 217)))
      refine hK _ _ ⟨s1, s2⟩ ?_
      clear hK K
      show Any _ _ _ _ _ _ 1 _ ⟨#[_,_,_,_,_,_,_,_,_,_,_,_,_,_,_,_,_,_,_,_,_,_,_,_,_,_,_,_,_,_,_,_,_,_,_,_,_], []⟩ (W1.alloc (.cells #[.int .i64 0, .int .i64 0, .int .i64 0] 217))
      refine .on 7 rfl rfl fun K hK => ?_
      obtain ⟨r0, r1, r2, f0, f1, f2⟩ := box3 (grown_refl (W1.alloc (.cells #[.int .i64 0, .int .i64 0, .int .i64 0] 217)))
      have hb3 := put3_block (World.alloc_heap_new W1 (.cells #[.int .i64 0, .int .i64 0, .int .i64 0] 217)) (.int .i64 (E.size : Nat)) (.int .i64 E.point) (.int .i64 (E.fault : Nat))
      have hg3 := put3_grown (grown_trans hg1 (grown_new W1 (.cells #[.int .i64 0, .int .i64 0, .int .i64 0] 217))) (g := W1.heap.size) hg1.size (.int .i64 (E.size : Nat)) (.int .i64 E.point) (.int .i64 (E.fault : Nat))
      refine store3_in rfl rfl rfl rfl r0 r1 r2 f0 f1 f2 ?_
      refine hK _ _ (hS _ hg3) ?_
      clear hK K
      show Any _ _ _ _ _ _ 0 _ ⟨#[_,_,_,_,_,_,_,_,_,_,_,_,_,_,_,_,_,_,_,_,_,_,_,_,_,_,_,_,_,_,_,_,_,_,_,_,_], []⟩ (put3 (W1.alloc (.cells #[.int .i64 0, .int .i64 0, .int .i64 0] 217)) W1.heap.size (.int .i64 (E.size : Nat)) (.int .i64 E.point) (.int .i64 (E.fault : Nat)))
      refine Any.done (by kernel_rfl) ?_
      exact ⟨rfl, W1.heap.size, hg1.size, rfl, hg3, hb3⟩
     ·go_simp
      obtain ⟨s1, s2⟩ := hS _ (grown_trans (grown_new wr (.cells #[.int .i64 0, .int .i64 0, .int .i64 0] 217)) (grown_drew _))
      refine hK _ _ ⟨s1, s2⟩ ?_
      clear hK K
      show Any _ _ _ _ _ _ 2 _ ⟨#[_,_,_,_,_,_,_,_,_,_,_,_,_,_,_,_,_,_,_,_,_,_,_,_,_,_,_,_,_,_,_,_,_,_,_,_,_], []⟩ (wr.alloc (.cells #[.int .i64 0, .int .i64 0, .int .i64 0] 217)).drew
      refine .on 5 rfl rfl fun K hK => ?_
      go_simp
      refine ⟨trivial, (fun h => by cases h), ?_⟩
      refine (FA _ (wr.alloc (.cells #[.int .i64 0, .int .i64 0, .int .i64 0] 217)).drew (grown_trans (grown_new _ _) (grown_drew _))).mono ?_
      rintro e W1 ⟨rfl, hg⟩
      replace hg := grown_trans (grown_drew _) hg
      have hg1 := grown_trans (grown_new _ _) hg
      refine hK _ _ (hS W1 hg1) ?_
      clear hK K
      show Any _ _ _ _ _ _ 1 _ ⟨#[_,_,_,_,_,_,_,_,_,_,_,_,_,_,_,_,_,_,_,_,_,_,_,_,_,_,_,_,_,_,_,_,_,_,_,_,_], []⟩ W1
      refine .on 7 rfl rfl fun K hK => ?_
      obtain ⟨r0, r1, r2, f0, f1, f2⟩ := box3 hg
      have hb3 := put3_block ((hg.block wr.heap.size (by simp) (by simp)).trans (World.alloc_heap_new wr (.cells #[.int .i64 0, .int .i64 0, .int .i64 0] 217))) (.int .i64 (E.size : Nat)) (.int .i64 E.point) (.int .i64 (E.fault : Nat))
      have hg3 := put3_grown hg1 (g := wr.heap.size) (Nat.le_refl _) (.int .i64 (E.size : Nat)) (.int .i64 E.point) (.int .i64 (E.fault : Nat))
      refine store3_in rfl rfl rfl rfl r0 r1 r2 f0 f1 f2 ?_
      refine hK _ _ (hS _ hg3) ?_
      clear hK K
      show Any _ _ _ _ _ _ 0 _ ⟨#[_,_,_,_,_,_,_,_,_,_,_,_,_,_,_,_,_,_,_,_,_,_,_,_,_,_,_,_,_,_,_,_,_,_,_,_,_], []⟩ (put3 W1 wr.heap.size (.int .i64 (E.size : Nat)) (.int .i64 E.point) (.int .i64 (E.fault : Nat)))
      refine Any.done (by kernel_rfl) ?_
      exact ⟨rfl, wr.heap.size, Nat.le_refl _, rfl, hg3, hb3⟩
    ·rintro e a' w' ⟨rfl, b', hb', rfl, hg, hblk⟩
     have r0 : w'.cell? ⟨b', 0, none⟩ = some (.int .i64 (E.size : Nat)) := by simp [World.cell?, hblk]
     have r1 : w'.cell? ⟨b', 1, none⟩ = some (.int .i64 E.point) := by simp [World.cell?, hblk]
     have r2 : w'.cell? ⟨b', 2, none⟩ = some (.int .i64 (E.fault : Nat)) := by simp [World.cell?, hblk]
     have hKw : Ke n0 B1 B2 W w' := hK.trans (Ke.grown hg (Nat.le_trans hn0 hK.below.size) (World.block_lt_of_cell? wr _ d1) (World.block_lt_of_cell? wr _ d2))
     have hTi : T[i]? = some (k, E) := by
      have := congrArg (·[0]?) HS.out
      simpa using this
     have Y := fun m => hY m i (k, E) w' hTi (hJ _ _ _ hJs hg)
     simp only [encE, escV] at Y
     obtain ⟨s0, p0, f0⟩ := E
     dsimp only at r0 r1 r2 hblk HS HZ Y
     obtain ⟨fn, tmps, assign, body, hy, hR⟩ := Y (n - 1)
     clear hJ hJx hY Y
     gi_wp2
     refine ⟨(fun h => by cases h), hR.mono ?_⟩
     rintro e3 W3 (⟨rfl, hJ3, hk3⟩ | ⟨rfl, hJx3⟩)
     ·have hblk3 := hk3.esc b' _ _ hblk
      have q0 : W3.cell? ⟨b', 0, none⟩ = some (.int .i64 (s0 : Nat)) := by simp [World.cell?, hblk3]
      have q2 : W3.cell? ⟨b', 2, none⟩ = some (.int .i64 (f0 : Nat)) := by simp [World.cell?, hblk3]
      clear hR hy
      by_cases hf : f0 = 0
      ·subst hf
       obtain ⟨z1, z2, z3⟩ := HZ.out rfl
       have HS1 : Hid (esP last (k + s0) 0 (t.drop (k + s0)) = T.drop (i + 1) /\ i + 1 <= T.length) := by
        have h1 := HS.out
        rw [if_pos rfl] at h1
        have h2 := congrArg (List.drop 1) h1
        rw [List.drop_drop, List.drop_succ_cons, List.drop_zero] at h2
        have h3 := congrArg List.length h1
        simp only [List.length_drop, List.length_cons] at h3
        exact ⟨h2.symm, by omega⟩
       clear HS HZ
       gi_wp2
       go_roundw
       case rel => exact ⟨k + s0, i + 1, by omega, by go_num, HS1, hJ3, hKw.trans hk3⟩
       case measure => simp [intOf]; omega
      ·have hf' : ((f0 : Int) == 0) = false := by simpa using hf
       have hf2 : ¬ (f0 : Int) = 0 := by omega
       have hi : i + 1 = T.length := by
        have h1 := HS.out
        rw [if_neg hf] at h1
        have h3 := congrArg List.length h1
        simp only [List.length_drop, List.length_cons, List.length_nil] at h3
        omega
       rw [hi] at hJ3
       clear HS HZ hi
       gi_wp2
       refine bodyPost_ret (results_none rfl _ _ _) rfl ?_
       exact ⟨⟨_, rfl⟩, .inl hJ3⟩
     ·clear hR hy
      gi_wp2
      refine bodyPost_ret (results_none rfl _ _ _) rfl ?_
      exact ⟨⟨_, rfl⟩, .inr ⟨_, hJx3⟩⟩
   ·have hx' : (iAt t k == 92) = false := by simpa using hx
    have Hs' : Hid (esP last (k + 1) 0 (t.drop (k + 1)) = T.drop i /\ i <= T.length) := ⟨by rw [<- esP_other hlt hx]; exact Hs.out.1, Hs.out.2⟩
    generalize iAt t k = x at d0 hx hx'
    clear hJ hJx hY hu
    gi_wp2
    go_roundw
    case rel => exact ⟨k + 1, i, by omega, by go_num, Hs', hJs, hK⟩
    case measure => simp [intOf]; omega
  ·obtain rfl : k = t.length := by omega
   have hi : i = T.length := by
    have h1 := Hs.out.1
    rw [List.drop_length] at h1
    have h2 := congrArg List.length h1
    simp [esP] at h2
    have := Hs.out.2
    omega
   subst hi
   clear hJ hJx hY
   gi_wp2
   go_end0
   exact ⟨⟨_, rfl⟩, .inl hJs⟩
theorem esc_seq (n : Nat) (B1 B2 n0 c : Nat) (q : Option Addr) (t : List Int) (last : Bool) (hc : t.length <= c) (hm : c <= maxLen) (w : World) (hn0 : n0 <= w.heap.size) (h0n : 0 < n0) (hT : Tab w) (hq : ∀ a, q = some a -> 0 < t.length -> a.block < n0) (hI : Is w q t)
  (c1 : w.cell? ⟨B1, 0, none⟩ = some (.slice q t.length c)) (c2 : w.cell? ⟨B2, 0, none⟩ = some (.bool last)) :
  SeqT n Tryz.prog 195 #[.pointer (some ⟨B1, 0, none⟩), .pointer (some ⟨B2, 0, none⟩)] encE (esP last 0 0 t) (Ke n0 B1 B2) w := fun l J Jx W hW _ hJ hJx hY h0 =>
 esc1_in n l B1 B2 n0 c q t last hc hm J Jx W (Nat.le_trans hn0 hW.size) h0n (hT.on hW) hq (hI.on hW) ((hW.cell (p := ⟨B1, 0, none⟩) (World.block_lt_of_cell? w _ c1)).trans c1) ((hW.cell (p := ⟨B2, 0, none⟩) (World.block_lt_of_cell? w _ c2)).trans c2) hJ hJx hY h0
theorem escapes_in (n : Nat) (q : Option Addr) (len c : Nat) (last : Bool) (w : World) :
  CallsIn Fence.wide n Tryz.prog 179 #[.slice q len c, .bool last] w fun e w' => e = .returned (.func (.func 195) #[] #[.pointer (some ⟨w.heap.size, 0, none⟩), .pointer (some ⟨w.heap.size + 1, 0, none⟩)]) /\ w' = (w.alloc (.cells #[.slice q len c] 41)).alloc (.cells #[.bool last] 4) := by
 refine callsIn_of_wp Tryz.func179 rfl trivial ?_ rfl
 simp only [Tryz.ntmps179, frm, Nat.reduceAdd, Nat.reduceSub]
 gi_wp2
 go_ret
 exact ⟨rfl, rfl⟩
end Go.Proofs.YtipbhdhiklmieaaGreatDoor.P7
namespace Go.Proofs.YtipbhdhiklmieaaGreatDoor.P7
open P8
open Go.RowKit Go.Shelf
theorem Tryz.info41 : (Tryz.prog.info? 41).map (fun i => (i.zero, i.size, i.bytes)) = some (some (.slice none 0 0), 1, 24) := by kernel_rfl
def rowV (r : Row) : Value := .slice r.q r.t.length r.c
abbrev OwnsM (W : World) (base : Nat) (v : Value) (R : List Row) : Prop := W.ownsRow base 41 1 v R.length (R.map rowV)
def Rok (W : World) (r : Row) : Prop := r.t.length <= r.c /\ r.c <= maxLen /\ Is W r.q r.t
def Off (r : Row) (v : Value) : Prop := ∀ a, r.q = some a -> 0 < r.t.length -> v.ownBlock ≠ some a.block
theorem ownsM_cells {w : World} {base : Nat} {v : Value} {R : List Row} (h : OwnsM w base v R) {g : Nat} (hg : v.ownBlock = some g) : base <= g /\ g < w.heap.size /\ ∃ cur, w.heap[g]? = some (.cells cur 41 (0, 0)) := by
 rcases h.2 with ⟨rfl, -⟩ | ⟨g', cap, cur, rfl, hb, hh, -⟩
 ·cases hg
 ·cases hg; exact ⟨hb, (Array.getElem?_eq_some_iff.1 hh).1, cur, hh⟩
theorem owns_lt {w : World} {base : Nat} {v : Value} {t : List Int} (h : Owns w base v t) {g : Nat} (hg : v.ownBlock = some g) : g < w.heap.size := by
 obtain ⟨-, cur, hh⟩ := owns_cells h hg
 exact (Array.getElem?_eq_some_iff.1 hh).1
theorem owns_apart {w : World} {base base' : Nat} {v u : Value} {t : List Int} {R : List Row} (h : Owns w base v t) (k : OwnsM w base' u R) : v.ownBlock = none \/ v.ownBlock ≠ u.ownBlock := by
 cases hv : v.ownBlock with
 | none => exact .inl rfl
 | some g =>
  refine .inr fun e => ?_
  obtain ⟨-, cur, h1⟩ := owns_cells h hv
  obtain ⟨-, -, cur', h2⟩ := ownsM_cells k e.symm
  rw [h1] at h2
  cases h2
theorem owns_apart' {w : World} {base base' : Nat} {v u : Value} {t : List Int} {R : List Row} (h : Owns w base v t) (k : OwnsM w base' u R) : u.ownBlock = none \/ u.ownBlock ≠ v.ownBlock := by
 cases hu : u.ownBlock with
 | none => exact .inl rfl
 | some g =>
  refine .inr fun e => ?_
  obtain ⟨-, cur, h1⟩ := owns_cells h e.symm
  obtain ⟨-, -, cur', h2⟩ := ownsM_cells k hu
  rw [h1] at h2
  cases h2
theorem _root_.Go.Proofs.YtipbhdhiklmieaaGreatDoor.Is.kept {W W' : World} {row : Option Nat} {r : Row} (h : Is W r.q r.t) (hg : W.grownBy W' row) (hne : ∀ a, r.q = some a -> 0 < r.t.length -> row ≠ some a.block) : Is W' r.q r.t := by
 rcases h with e | ⟨b, o, e, hc⟩
 ·exact .inl e
 ·by_cases hl : 0 < r.t.length
  ·refine .inr ⟨b, o, e, fun j hj => ?_⟩
   have hlt := World.block_lt_of_cell? W _ (hc j hj)
   rw [World.cell?_of_block (w := W) (hg.block b hlt (fun ee => hne ⟨b, o, none⟩ e hl ee.symm))]
   exact hc j hj
  ·exact .inl (List.eq_nil_of_length_eq_zero (by omega))
theorem pushX {w : World} {base : Nat} {v : Value} {xs u : List Int} {q : Option Addr} (c : Nat) (h : Owns w base v xs) (hb : base <= w.heap.size) (hn : xs.length + u.length <= 8796093022208) (hI : Is w q u) :
  ∃ v' w1, (Builtin.append_ #[41, 41] 41 #[v, .slice q u.length c]).run Tryz.prog w = .ok v' w1 /\ Owns w1 base v' (xs ++ u) /\ w.grownBy w1 v.ownBlock /\ ∀ g, v'.ownBlock = some g -> v.ownBlock = some g \/ w.heap.size <= g := by
 obtain ⟨i0, hi, hz0, hz1, hz2⟩ := info_parts Tryz.info3
 by_cases hu : 0 < u.length
 ·obtain ⟨b, o, rfl, hc⟩ := hI.at hu
  obtain ⟨g, cap, W1, h1, h2, h3, h4, -⟩ := run_append_lies (P := Tryz.prog) w 41 41 base 3 i0 (.int .i64 0) 1 8 Tryz.underlying41 hi hz0 hz1 hz2 rfl (by decide)
   v xs.length (xs.map (.int .i64)) h ⟨b, o, none⟩ u.length c (u.map (.int .i64)) (by simp) (by
    intro j z hz
    rw [List.getElem?_map] at hz
    cases hj : u[j]? with
    | none => rw [hj] at hz; cases hz
    | some y =>
     rw [hj] at hz
     have hjl : j < u.length := (List.getElem?_eq_some_iff.1 hj).1
     rw [add_plain, hc j hjl]
     simp [iAt, hj] at hz |-
     exact hz) (by simp [Value.oneCell']) hu (by unfold maxLen; omega) (by omega) hb _ rfl
  refine ⟨_, W1, h1, ?_, h3, fun g' e => ?_⟩
  ·unfold Owns
   rw [List.map_append, List.length_append]
   exact h2
  ·cases e
   rcases h4 with h4 | h4
   ·exact .inl h4
   ·exact .inr (by show _ <= g; omega)
 ·have e : u = [] := List.eq_nil_of_length_eq_zero (by omega)
  subst e
  refine ⟨v, w, ?_, by rw [List.append_nil]; exact h, ⟨rfl, rfl, rfl, Nat.le_refl _, fun _ _ _ => rfl⟩, fun g e => .inl e⟩
  cases q <;> rcases h.2 with ⟨rfl, -⟩ | ⟨g, cap, cur, rfl, -, hg, hle, -⟩
  ·simp [Builtin.append_, run_underlying Tryz.underlying41, sizeOf, typeInfo, hi, Builtin.lenOf, Builtin.firstCells, loadCells, loadCellsFrom]
  ·simp [Builtin.append_, run_underlying Tryz.underlying41, sizeOf, typeInfo, hi, Builtin.lenOf, Builtin.firstCells, loadCells, loadCellsFrom, hle, storeCells]
  ·simp [Builtin.append_, run_underlying Tryz.underlying41, sizeOf, typeInfo, hi, Builtin.lenOf, Builtin.firstCells, loadCells, loadCellsFrom]
  ·simp [Builtin.append_, run_underlying Tryz.underlying41, sizeOf, typeInfo, hi, Builtin.lenOf, Builtin.firstCells, loadCells, loadCellsFrom, hle, storeCells]
theorem pushY {w : World} {base : Nat} {v : Value} {xs : List Int} (h : Owns w base v xs) (hb : base <= w.heap.size) (hn : xs.length + 1 <= 8796093022208) (x : Int) :
  ∃ v' w1, (Builtin.append_ #[41, 41] 41 #[v, .slice (some ⟨w.heap.size, 0, none⟩) 1 1]).run Tryz.prog (w.alloc (.cells #[.int .i64 x] 3)) = .ok v' w1 /\ Owns w1 base v' (xs ++ [x]) /\ (w.alloc (.cells #[.int .i64 x] 3)).grownBy w1 v.ownBlock /\ ∀ g, v'.ownBlock = some g -> v.ownBlock = some g \/ (w.alloc (.cells #[.int .i64 x] 3)).heap.size <= g := by
 obtain ⟨g, cap, w1, h1, h2, h3, h4⟩ := push1 h hb hn x
 refine ⟨_, w1, h1, h2, h3, fun g' e => ?_⟩
 cases e
 rcases h4 with h4 | h4
 ·exact .inl h4
 ·exact .inr (by rw [World.size_alloc]; show _ <= g; omega)
theorem pushM_run {w : World} {base : Nat} {v : Value} {R : List Row} (h : OwnsM w base v R) (hb : base <= w.heap.size) (hn : R.length + 1 <= 1073741824) (r : Row) :
  ∃ g cap w1, (Builtin.append_ #[73, 73] 73 #[v, .slice (some ⟨w.heap.size, 0, none⟩) 1 1]).run Tryz.prog (w.alloc (.cells #[rowV r] 41)) = .ok (.slice (some ⟨g, 0, none⟩) (R.length + 1) cap) w1 /\
   OwnsM w1 base (.slice (some ⟨g, 0, none⟩) (R.length + 1) cap) (R ++ [r]) /\ (w.alloc (.cells #[rowV r] 41)).grownBy w1 v.ownBlock /\ (v.ownBlock = some g \/ g = w.heap.size + 1) := by
 obtain ⟨i0, hi, hz0, hz1, hz2⟩ := info_parts Tryz.info41
 obtain ⟨g, cap, w1, h1, h2, h3, h4, -⟩ := run_append_lies (P := Tryz.prog) (w.alloc (.cells #[rowV r] 41)) 73 73 base 41 i0 (.slice none 0 0) 1 24 Tryz.underlying73 hi hz0 hz1 hz2 rfl (by decide)
  v R.length (R.map rowV) (h.alloc _) ⟨w.heap.size, 0, none⟩ 1 1 [rowV r] rfl (cell_one_new _ _ _) (by simp [rowV, Value.oneCell']) (by decide) (by unfold maxLen; omega) (by omega) (by simp; omega) (w.heap.size + 1) (by simp)
 refine ⟨g, cap, w1, h1, ?_, h3, h4⟩
 unfold OwnsM
 rw [List.map_append, List.length_append]
 exact h2
structure Dr (n0 D : Nat) (X : Nat -> Prop) (W : World) (vl vc vm : Value) (R : List Row) (cur : List Int) (op : Bool) (mt : List Int) : Prop where
 blk : W.heap[D]? = some (.cells #[vl, vc, .bool op, vm] 186)
 hD : n0 <= D
 l : OwnsM W n0 vl R
 c : Owns W n0 vc cur
 m : Owns W n0 vm mt
 cm : ∀ g, vc.ownBlock = some g -> vm.ownBlock ≠ some g
 rows : ∀ r, r ∈ R -> Rok W r /\ Off r vl /\ Off r vc /\ Off r vm
 rD : ∀ r, r ∈ R -> ∀ a, r.q = some a -> 0 < r.t.length -> a.block ≠ D
 xs : ∀ b, X b -> b < W.heap.size /\ b ≠ D /\ vl.ownBlock ≠ some b /\ vc.ownBlock ≠ some b /\ vm.ownBlock ≠ some b /\ ∀ r, r ∈ R -> ∀ a, r.q = some a -> 0 < r.t.length -> a.block ≠ b
 size : n0 <= W.heap.size
variable {n0 D : Nat} {X : Nat -> Prop} {W W' W1 : World} {vl vc vm : Value} {R : List Row} {cur mt : List Int} {op : Bool}
theorem ne_of_none {v : Value} {row : Option Nat} (h : ∀ g, v.ownBlock = some g -> row ≠ some g) : v.ownBlock = none \/ v.ownBlock ≠ row := by
 cases hv : v.ownBlock with
 | none => exact .inl rfl
 | some g => exact .inr fun e => h g hv e.symm
theorem Dr.kept {row : Option Nat} (h : Dr n0 D X W vl vc vm R cur op mt) (hg : W.grownBy W' row) (hr : ∀ r, row = some r -> X r \/ ∃ o : Obj, W.heap[r]? = some o /\ o.isCells = false) : Dr n0 D X W' vl vc vm R cur op mt := by
 have key : ∀ b (o : Obj), W.heap[b]? = some o -> o.isCells = true -> (X b -> False) -> row ≠ some b := by
  intro b o hb ho hx e
  rcases hr b e with h1 | ⟨o', ho', hc⟩
  ·exact hx h1
  ·rw [hb] at ho'; cases ho'; rw [ho] at hc; cases hc
 have kc : ∀ g, vc.ownBlock = some g -> row ≠ some g := fun g hv => by
  obtain ⟨-, cu, hh⟩ := owns_cells h.c hv
  exact key g _ hh rfl (fun hx => (h.xs g hx).2.2.2.1 hv)
 have km : ∀ g, vm.ownBlock = some g -> row ≠ some g := fun g hv => by
  obtain ⟨-, cu, hh⟩ := owns_cells h.m hv
  exact key g _ hh rfl (fun hx => (h.xs g hx).2.2.2.2.1 hv)
 have kl : ∀ g, vl.ownBlock = some g -> row ≠ some g := fun g hv => by
  obtain ⟨-, -, cu, hh⟩ := ownsM_cells h.l hv
  exact key g _ hh rfl (fun hx => (h.xs g hx).2.2.1 hv)
 refine ⟨?_, h.hD, h.l.kept hg (ne_of_none kl), h.c.kept hg (ne_of_none kc), h.m.kept hg (ne_of_none km), h.cm, fun r hr' => ?_, h.rD, fun b hb => ?_, Nat.le_trans h.size hg.size⟩
 ·exact (hg.block D (Array.getElem?_eq_some_iff.1 h.blk).1 (fun e => key D _ h.blk rfl (fun hx => (h.xs D hx).2.1 rfl) e.symm)).trans h.blk
 ·obtain ⟨⟨a1, a2, a3⟩, b1, b2, b3⟩ := h.rows r hr'
  refine ⟨⟨a1, a2, a3.kept hg (fun a e hl => ?_)⟩, b1, b2, b3⟩
  obtain ⟨b, o, e', hc⟩ := a3.at hl
  rw [e] at e'
  cases e'
  obtain ⟨ob, hob, hcl⟩ := cells_of_cell (hc 0 hl)
  exact key _ ob hob hcl (fun hx => (h.xs _ hx).2.2.2.2.2 r hr' _ e hl rfl)
 ·obtain ⟨x1, x2⟩ := h.xs b hb
  exact ⟨Nat.lt_of_lt_of_le x1 hg.size, x2⟩
theorem Dr.grown (h : Dr n0 D X W vl vc vm R cur op mt) (hg : W.grownBy W' none) : Dr n0 D X W' vl vc vm R cur op mt := h.kept hg (fun r e => by cases e)
theorem set_row (W : World) (a : Addr) (v : Value) : W.grownBy (W.setCell a v) (some a.block) :=
 ⟨rfl, rfl, rfl, (KeepsOthers.setCell W a v).size, fun k _ hk => Below.heap_setCell W a v k (fun e => hk (by rw [e]))⟩
theorem Dr.setX (h : Dr n0 D X W vl vc vm R cur op mt) {a : Addr} (ha : X a.block) (v : Value) : Dr n0 D X (W.setCell a v) vl vc vm R cur op mt :=
 h.kept (set_row W a v) (fun r e => by cases e; exact .inl ha)
theorem Dr.new (h : Dr n0 D X W vl vc vm R cur op mt) (o : Obj) : Dr n0 D (more X W.heap.size) (W.alloc o) vl vc vm R cur op mt := by
 have g := h.grown (grown_new W o)
 refine ⟨g.blk, g.hD, g.l, g.c, g.m, g.cm, g.rows, g.rD, fun b hb => ?_, g.size⟩
 rcases hb with hb | rfl
 ·exact g.xs b hb
 ·have lt1 := (Array.getElem?_eq_some_iff.1 h.blk).1
  refine ⟨by simp, by omega, fun e => ?_, fun e => ?_, fun e => ?_, fun r hr a e hl ee => ?_⟩
  ·have := (ownsM_cells h.l e).2.1; omega
  ·have := owns_lt h.c e; omega
  ·have := owns_lt h.m e; omega
  ·have := (h.rows r hr).1.2.2.lt a e hl; omega
theorem Dr.less {Y : Nat -> Prop} (h : Dr n0 D X W vl vc vm R cur op mt) (hY : ∀ b, Y b -> X b) : Dr n0 D Y W vl vc vm R cur op mt :=
 ⟨h.blk, h.hD, h.l, h.c, h.m, h.cm, h.rows, h.rD, fun b hb => h.xs b (hY b hb), h.size⟩
theorem setCell_blk {W : World} {g : Nat} {cs : Array Value} {t : TypeId} {f : Nat × Nat} (h : W.heap[g]? = some (.cells cs t f)) (i : Nat) (v : Value) : (W.setCell ⟨g, i, none⟩ v).heap[g]? = some (.cells (cs.setIfInBounds i v) t f) := by
 simp [World.setCell, Array.getElem?_modify, h]
theorem not_own42 {b : Nat} (hb : W.heap[b]? = some (.cells #[vl, vc, .bool op, vm] 186)) : (∀ {base : Nat} {v : Value} {t : List Int}, Owns W base v t -> v.ownBlock = none \/ v.ownBlock ≠ some b) /\ (∀ {base : Nat} {v : Value} {R : List Row}, OwnsM W base v R -> v.ownBlock = none \/ v.ownBlock ≠ some b) := by
 constructor
 ·intro base v t h
  refine ne_of_none fun g hg e => ?_
  cases e
  obtain ⟨-, cu, hh⟩ := owns_cells h hg
  rw [hb] at hh; cases hh
 ·intro base v R h
  refine ne_of_none fun g hg e => ?_
  cases e
  obtain ⟨-, -, cu, hh⟩ := ownsM_cells h hg
  rw [hb] at hh; cases hh
theorem field_kept {cs : Array Value} (hb : W.heap[D]? = some (.cells cs 186)) (i : Nat) (v : Value) :
  (∀ {base : Nat} {u : Value} {t : List Int}, Owns W base u t -> Owns (W.setCell ⟨D, i, none⟩ v) base u t) /\ (∀ {base : Nat} {u : Value} {R : List Row}, OwnsM W base u R -> OwnsM (W.setCell ⟨D, i, none⟩ v) base u R) /\
  (∀ r : Row, Rok W r -> (∀ a, r.q = some a -> 0 < r.t.length -> a.block ≠ D) -> Rok (W.setCell ⟨D, i, none⟩ v) r) := by
 have hg := set_row W ⟨D, i, none⟩ v
 refine ⟨fun h => ?_, fun h => ?_, fun r h hn => ⟨h.1, h.2.1, h.2.2.kept hg (fun a e hl ee => hn a e hl (by cases ee; rfl))⟩⟩
 ·refine h.kept hg (ne_of_none fun g hv e => ?_)
  cases e
  obtain ⟨-, cu, hh⟩ := owns_cells h hv
  rw [hb] at hh; cases hh
 ·refine h.kept hg (ne_of_none fun g hv e => ?_)
  cases e
  obtain ⟨-, -, cu, hh⟩ := ownsM_cells h hv
  rw [hb] at hh; cases hh
theorem off_new {r : Row} {v v' : Value} (hI : Is W r.q r.t) (h : Off r v) (hl : ∀ g, v'.ownBlock = some g -> v.ownBlock = some g \/ W.heap.size <= g) : Off r v' := by
 intro a e h0 ee
 rcases hl _ ee with h1 | h1
 ·exact h a e h0 h1
 ·have := hI.lt a e h0; omega
theorem Dr.setLine {v' : Value} {cur' : List Int} (h : Dr n0 D X W vl vc vm R cur op mt) (hg : W.grownBy W1 vc.ownBlock) (ho : Owns W1 n0 v' cur') (hl : ∀ g, v'.ownBlock = some g -> vc.ownBlock = some g \/ W.heap.size <= g) :
  Dr n0 D X (W1.setCell ⟨D, 1, none⟩ v') vl v' vm R cur' op mt := by
 have nD : some D ≠ vc.ownBlock := fun e => ((not_own42 h.blk).1 h.c).elim (fun k => by rw [k] at e; cases e) (fun k => k e.symm)
 have b1 : W1.heap[D]? = some (.cells #[vl, vc, .bool op, vm] 186) := (hg.block D (Array.getElem?_eq_some_iff.1 h.blk).1 nD).trans h.blk
 have l1 : OwnsM W1 n0 vl R := h.l.kept hg (owns_apart' h.c h.l)
 have m1 : Owns W1 n0 vm mt := h.m.kept hg (ne_of_none fun g hv e => h.cm g e hv)
 obtain ⟨k1, k2, k3⟩ := field_kept b1 1 v'
 refine ⟨?_, h.hD, k2 l1, k1 ho, k1 m1, fun g hv hm => ?_, fun r hr => ?_, h.rD, fun b hb => ?_, ?_⟩
 ·exact setCell_blk b1 1 v'
 ·rcases hl g hv with h1 | h1
  ·exact h.cm g h1 hm
  ·have := owns_lt h.m hm; omega
 ·obtain ⟨⟨a1, a2, a3⟩, o1, o2, o3⟩ := h.rows r hr
  exact ⟨k3 r ⟨a1, a2, a3.kept hg (fun a e hl => o2 a e hl)⟩ (h.rD r hr), o1, off_new a3 o2 hl, o3⟩
 ·obtain ⟨x1, x2, x3, x4, x5, x6⟩ := h.xs b hb
  refine ⟨Nat.lt_of_lt_of_le x1 (Nat.le_trans hg.size (set_row W1 ⟨D, 1, none⟩ v').size), x2, x3, fun e => ?_, x5, x6⟩
  rcases hl b e with h1 | h1
  ·exact x4 h1
  ·omega
 ·exact Nat.le_trans h.size (Nat.le_trans hg.size (set_row W1 ⟨D, 1, none⟩ v').size)
theorem Dr.setMeant {v' : Value} {mt' : List Int} (h : Dr n0 D X W vl vc vm R cur op mt) (hg : W.grownBy W1 vm.ownBlock) (ho : Owns W1 n0 v' mt') (hl : ∀ g, v'.ownBlock = some g -> vm.ownBlock = some g \/ W.heap.size <= g) :
  Dr n0 D X (W1.setCell ⟨D, 3, none⟩ v') vl vc v' R cur op mt' := by
 have nD : some D ≠ vm.ownBlock := fun e => ((not_own42 h.blk).1 h.m).elim (fun k => by rw [k] at e; cases e) (fun k => k e.symm)
 have b1 : W1.heap[D]? = some (.cells #[vl, vc, .bool op, vm] 186) := (hg.block D (Array.getElem?_eq_some_iff.1 h.blk).1 nD).trans h.blk
 have l1 : OwnsM W1 n0 vl R := h.l.kept hg (owns_apart' h.m h.l)
 have m1 : Owns W1 n0 vc cur := h.c.kept hg (ne_of_none fun g hv e => h.cm g hv e)
 obtain ⟨k1, k2, k3⟩ := field_kept b1 3 v'
 refine ⟨?_, h.hD, k2 l1, k1 m1, k1 ho, fun g hv hm => ?_, fun r hr => ?_, h.rD, fun b hb => ?_, ?_⟩
 ·exact setCell_blk b1 3 v'
 ·rcases hl g hm with h1 | h1
  ·exact h.cm g hv h1
  ·have := owns_lt h.c hv; omega
 ·obtain ⟨⟨a1, a2, a3⟩, o1, o2, o3⟩ := h.rows r hr
  exact ⟨k3 r ⟨a1, a2, a3.kept hg (fun a e hl => o3 a e hl)⟩ (h.rD r hr), o1, o2, off_new a3 o3 hl⟩
 ·obtain ⟨x1, x2, x3, x4, x5, x6⟩ := h.xs b hb
  refine ⟨Nat.lt_of_lt_of_le x1 (Nat.le_trans hg.size (set_row W1 ⟨D, 3, none⟩ v').size), x2, x3, x4, fun e => ?_, x6⟩
  rcases hl b e with h1 | h1
  ·exact x5 h1
  ·omega
 ·exact Nat.le_trans h.size (Nat.le_trans hg.size (set_row W1 ⟨D, 3, none⟩ v').size)
theorem Dr.setOpen (h : Dr n0 D X W vl vc vm R cur op mt) (o : Bool) : Dr n0 D X (W.setCell ⟨D, 2, none⟩ (.bool o)) vl vc vm R cur o mt := by
 obtain ⟨k1, k2, k3⟩ := field_kept h.blk 2 (.bool o)
 refine ⟨setCell_blk h.blk 2 _, h.hD, k2 h.l, k1 h.c, k1 h.m, h.cm, fun r hr => ?_, h.rD, fun b hb => ?_, ?_⟩
 ·obtain ⟨a, o1, o2, o3⟩ := h.rows r hr
  exact ⟨k3 r a (h.rD r hr), o1, o2, o3⟩
 ·obtain ⟨x1, x2⟩ := h.xs b hb
  exact ⟨Nat.lt_of_lt_of_le x1 (set_row W ⟨D, 2, none⟩ (.bool o)).size, x2⟩
 ·exact Nat.le_trans h.size (set_row W ⟨D, 2, none⟩ (.bool o)).size
theorem Dr.pushRow {vl' : Value} {q : Option Addr} {k : Nat} (h : Dr n0 D X W vl (.slice q cur.length k) vm R cur op mt) (hg : W.grownBy W1 vl.ownBlock) (ho : OwnsM W1 n0 vl' (R ++ [⟨q, cur, k⟩])) (hl : ∀ g, vl'.ownBlock = some g -> vl.ownBlock = some g \/ W.heap.size <= g) :
  Dr n0 D X ((W1.setCell ⟨D, 0, none⟩ vl').setCell ⟨D, 1, none⟩ (.slice none 0 0)) vl' (.slice none 0 0) vm (R ++ [⟨q, cur, k⟩]) [] op mt := by
 have nD : some D ≠ vl.ownBlock := fun e => ((not_own42 h.blk).2 h.l).elim (fun k => by rw [k] at e; cases e) (fun k => k e.symm)
 have b1 : W1.heap[D]? = some (.cells #[vl, .slice q cur.length k, .bool op, vm] 186) := (hg.block D (Array.getElem?_eq_some_iff.1 h.blk).1 nD).trans h.blk
 have m1 : Owns W1 n0 vm mt := h.m.kept hg (owns_apart h.m h.l)
 have c1 : Owns W1 n0 (.slice q cur.length k) cur := h.c.kept hg (owns_apart h.c h.l)
 have b2 := setCell_blk b1 0 vl'
 obtain ⟨k1, k2, k3⟩ := field_kept b1 0 vl'
 obtain ⟨j1, j2, j3⟩ := field_kept b2 1 (.slice none 0 0)
 obtain ⟨i1, i2, i3, i4⟩ := is_of_row h.c
 have own : ∀ a, q = some a -> 0 < cur.length -> (Value.slice q cur.length k).ownBlock = some a.block := by
  intro a e hl
  rcases h.c.2 with ⟨ev, e0⟩ | ⟨g, cap, cu, ev, -⟩
  ·rw [e] at ev; cases ev
  ·rw [e] at ev |-; cases ev; rfl
 have rowq : Rok W ⟨q, cur, k⟩ /\ Off ⟨q, cur, k⟩ vl /\ Off ⟨q, cur, k⟩ vm := by
  refine ⟨⟨i3, i4, i1⟩, fun a e hl ee => ?_, fun a e hl ee => ?_⟩
  ·rcases owns_apart h.c h.l with h1 | h1
   ·rw [own a e hl] at h1; cases h1
   ·exact h1 ((own a e hl).trans ee.symm)
  ·exact h.cm _ (own a e hl) ee
 refine ⟨setCell_blk b2 1 _, h.hD, j2 (k2 ho), World.ownsRow_nil _ _ 3 1, j1 (k1 m1), (fun g e => by cases e), fun r hr => ?_, fun r hr a e hl => ?_, fun b hb => ?_, ?_⟩
 ·have hrD : ∀ a, r.q = some a -> 0 < r.t.length -> a.block ≠ D := fun a e hl => by
   rcases List.mem_append.1 hr with hr | hr
   ·exact h.rD r hr a e hl
   ·obtain rfl : r = ⟨q, cur, k⟩ := by simpa using hr
    intro ee
    have := own a e hl
    rw [ee] at this
    exact ((not_own42 h.blk).1 h.c).elim (fun k => by rw [k] at this; cases this) (fun k => k this)
  have hh : Rok W r /\ Off r vl /\ Off r vm := by
   rcases List.mem_append.1 hr with hr | hr
   ·obtain ⟨a, o1, o2, o3⟩ := h.rows r hr; exact ⟨a, o1, o3⟩
   ·obtain rfl : r = ⟨q, cur, k⟩ := by simpa using hr
    exact rowq
  obtain ⟨⟨a1, a2, a3⟩, o1, o3⟩ := hh
  exact ⟨j3 r (k3 r ⟨a1, a2, a3.kept hg (fun a e hl => o1 a e hl)⟩ hrD) hrD, off_new a3 o1 hl, fun a e hl => by simp [Value.ownBlock], o3⟩
 ·rcases List.mem_append.1 hr with hr | hr
  ·exact h.rD r hr a e hl
  ·obtain rfl : r = ⟨q, cur, k⟩ := by simpa using hr
   intro ee
   have := own a e hl
   rw [ee] at this
   exact ((not_own42 h.blk).1 h.c).elim (fun k => by rw [k] at this; cases this) (fun k => k this)
 ·obtain ⟨x1, x2, x3, x4, x5, x6⟩ := h.xs b hb
  refine ⟨Nat.lt_of_lt_of_le x1 (Nat.le_trans hg.size (Nat.le_trans (set_row W1 ⟨D, 0, none⟩ vl').size (set_row _ ⟨D, 1, none⟩ _).size)), x2, fun e => ?_, (by simp [Value.ownBlock]), x5, fun r hr a e hl => ?_⟩
  ·rcases hl b e with h1 | h1
   ·exact x3 h1
   ·omega
  ·rcases List.mem_append.1 hr with hr | hr
   ·exact x6 r hr a e hl
   ·obtain rfl : r = ⟨q, cur, k⟩ := by simpa using hr
    intro ee
    exact x4 ((own a e hl).trans (by rw [ee]))
 ·exact Nat.le_trans h.size (Nat.le_trans hg.size (Nat.le_trans (set_row W1 ⟨D, 0, none⟩ vl').size (set_row _ ⟨D, 1, none⟩ _).size))
end Go.Proofs.YtipbhdhiklmieaaGreatDoor.P7
