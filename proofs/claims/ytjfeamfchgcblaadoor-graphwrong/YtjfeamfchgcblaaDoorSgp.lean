/- Where the URI signs of a list begin, in plain terms; what an iterator over a list looks at, and what a round keeps. -/
import Derived.Test.YtjfeamfchgcblaaDoorYls
import Derived.Test.YtjfeamfchgcblaaDoorSiz
import Derived.RangeFuncBox
set_option linter.unusedVariables false
set_option linter.unusedSimpArgs false
namespace Go.Proofs.YtjfeamfchgcblaaDoor
open Go.RowKit Go.Shelf

def posF (n : Nat → Nat) : Nat → Nat → List Nat
  | 0, _ => []
  | f + 1, k => if n k = 0 then [] else k :: posF n f (k + n k)
/-- The places at which the steps from k on begin. -/
def posE (n : Nat → Nat) (L k : Nat) : List Nat := posF n (L - k) k
theorem posF_more {n : Nat → Nat} {L : Nat} (hb : Bd n L) : ∀ f g k, L - k ≤ f → L - k ≤ g → posF n f k = posF n g k := by
  intro f
  induction f with
  | zero =>
    intro g k h1 h2
    have h0 : n k = 0 := by rcases hb k with h | h <;> omega
    cases g with
    | zero => rfl
    | succ g => rw [posF, posF, if_pos h0]
  | succ f ih =>
    intro g k h1 h2
    by_cases h0 : n k = 0
    · rw [posF, if_pos h0]
      cases g with
      | zero => rfl
      | succ g => rw [posF, if_pos h0]
    · have h3 : k + n k ≤ L := by rcases hb k with h | h <;> omega
      cases g with
      | zero => omega
      | succ g =>
        rw [posF, posF, if_neg h0, if_neg h0, ih g (k + n k) (by omega) (by omega)]
theorem posE_stop {n : Nat → Nat} {L k : Nat} (h : n k = 0) : posE n L k = [] := by
  unfold posE
  cases L - k with
  | zero => rfl
  | succ m => rw [posF, if_pos h]
theorem posE_step {n : Nat → Nat} {L k : Nat} (hb : Bd n L) (h : n k ≠ 0) : posE n L k = k :: posE n L (k + n k) := by
  have h3 : k + n k ≤ L := by rcases hb k with h | h <;> omega
  unfold posE
  obtain ⟨m, hm⟩ : ∃ m, L - k = m + 1 := ⟨L - k - 1, by omega⟩
  rw [hm, posF, if_neg h, posF_more hb m (L - (k + n k)) (k + n k) (by omega) (Nat.le_refl _)]
theorem posE_nil {n : Nat → Nat} {L k : Nat} (hb : Bd n L) (h : posE n L k = []) : n k = 0 := by
  by_cases h0 : n k = 0
  · exact h0
  · rw [posE_step hb h0] at h; cases h

theorem grown_of_below {A B : World} (h : Below A.heap.size A B) : A.grownBy B none := ⟨h.os, h.tape, h.output, h.size, fun k hk _ => h.block k hk⟩
/-- What the iterators look at: the block of their box, and the block of the list. -/
def Xs (q : Option Addr) (t : List Int) (Bb : Nat) (b : Nat) : Prop := b = Bb ∨ (0 < t.length ∧ ∃ a, q = some a ∧ b = a.block)
theorem xs_lt {q : Option Addr} {t : List Int} {Bb B : Nat} {w : World} (hI : Is w q t) (h1 : Bb < B) (h2 : w.heap.size ≤ B) (b : Nat) (h : Xs q t Bb b) : b < B := by
  rcases h with rfl | ⟨hl, a, ha, rfl⟩
  · exact h1
  · exact Nat.lt_of_lt_of_le (hI.lt a ha hl) h2
/-- What a round keeps. -/
structure Kq (X : Nat → Prop) (A C : World) : Prop where
  size : A.heap.size ≤ C.heap.size
  same : ∀ b, X b → C.heap[b]? = A.heap[b]?
theorem Kq.trans {X : Nat → Prop} {A B C : World} (h : Kq X A B) (k : Kq X B C) : Kq X A C := ⟨Nat.le_trans h.size k.size, fun b hb => (k.same b hb).trans (h.same b hb)⟩
theorem Kq.refl (X : Nat → Prop) (A : World) : Kq X A A := ⟨Nat.le_refl _, fun _ _ => rfl⟩
theorem Kq.box {q : Option Addr} {t : List Int} {Bb : Nat} {A C : World} (h : Kq (Xs q t Bb) A C) : C.cell? ⟨Bb, 0, none⟩ = A.cell? ⟨Bb, 0, none⟩ := World.cell?_of_block (h.same Bb (.inl rfl))
theorem Kq.is {q : Option Addr} {Bb : Nat} {A C : World} {t : List Int} (h : Kq (Xs q t Bb) A C) (hI : Is A q t) : Is C q t := by
  rcases hI with e | ⟨b, o, rfl, hc⟩
  · exact .inl e
  · exact .inr ⟨b, o, rfl, fun j hj => (World.cell?_of_block (h.same b (.inr ⟨by omega, _, rfl, rfl⟩))).trans (hc j hj)⟩
theorem Kq.below {X : Nat → Prop} {A B : World} (h : Below A.heap.size A B) (hX : ∀ b, X b → b < A.heap.size) : Kq X A B := ⟨h.size, fun b hb => h.block b (hX b hb)⟩
theorem Kq.putObj {X : Nat → Prop} {B : Nat} (hX : ∀ b, X b → b < B) (W : World) (l : Nat) (o o' : Obj) (hl : B ≤ l) (h : W.heap[l]? = some o) (hc : o.isCells = false) : Kq X W (W.putObj l o') :=
  ⟨by simp [World.putObj], fun b hb => World.putObj_heap_other (by have := hX b hb; omega)⟩
theorem Kq.alloc {X : Nat → Prop} {B : Nat} (hX : ∀ b, X b → b < B) (W : World) (o : Obj) (h : B ≤ W.heap.size) : Kq X W (W.alloc o) :=
  ⟨by simp, fun b hb => Below.heap_alloc W o b (by have := hX b hb; omega)⟩
theorem Kq.set {X : Nat → Prop} {W : World} {b : Nat} (hb : ¬ X b) (v : Value) : Kq X W (W.setCell ⟨b, 0, none⟩ v) :=
  ⟨by simp [World.setCell], fun k hk => Deep.blk_setCell_other _ _ _ _ (fun e => by have e' : k = b := e; subst e'; exact hb hk)⟩
theorem keeps_below {B : Nat} {A C : World} (h : Below A.heap.size A C) : KeepsFrom B A C := ⟨h.size, fun k o hk ho hc => (h.block k (Array.getElem?_eq_some_iff.1 ho).1).trans ho⟩
theorem boxed_below {A C : World} {b : Nat} {ty : TypeId} {v : Value} (hv : Boxed A b ty v) (h : Below A.heap.size A C) : Boxed C b ty v :=
  (h.block b (Array.getElem?_eq_some_iff.1 (show A.heap[b]? = _ from hv)).1).trans hv
theorem boxed_own' {W W' : World} {b : Nat} {ty : TypeId} {v : Value} {row : Option Nat} (hv : Boxed W b ty v) (hgr : W.grownBy W' row) {B : Nat} (hr : ∀ r, row = some r → B ≤ r ∧ ∃ o : Obj, W.heap[r]? = some o ∧ o.isCells = false) : Boxed W' b ty v := by
  refine hv.kept hgr fun e => ?_
  obtain ⟨-, o, ho, hc⟩ := hr _ e.symm
  rw [show W.heap[b]? = _ from hv] at ho; cases ho; cases hc
theorem set1 {w W : World} {B b : Nat} {v0 : Value} (b0 : Boxed W b 3 v0) (hB : b < B) (hw : w.heap.size ≤ b) (hb : Below w.heap.size w W) (x : Value) :
    Boxed (W.setCell ⟨b, 0, none⟩ x) b 3 x ∧ KeepsFrom B W (W.setCell ⟨b, 0, none⟩ x) ∧ Below w.heap.size w (W.setCell ⟨b, 0, none⟩ x) := by
  refine ⟨b0.set x, ⟨by simp [World.setCell], fun k o hk ho hc => ?_⟩, hb.setCell hw _⟩
  rw [Deep.blk_setCell_other _ _ _ _ (by dsimp only; omega)]
  exact ho
theorem boxed_put {W : World} {b D : Nat} {ty : TypeId} {v : Value} {ds : Option (List Deferred)} (h : Boxed W b ty v) (hK : W.heap[D]? = some (.deferred ds)) {o : Obj} : Boxed (W.putObj D o) b ty v := by
  refine (World.putObj_heap_other (fun e => ?_)).trans h
  subst e
  rw [show W.heap[b]? = _ from h] at hK
  cases hK
theorem drop_cons {α : Type} {T : List α} {i : Nat} {x : α} {r : List α} (h : T.drop i = x :: r) : T[i]? = some x ∧ T.drop (i + 1) = r ∧ i < T.length := by
  have hl : i < T.length := by
    by_cases hl : i < T.length
    · exact hl
    · rw [List.drop_eq_nil_of_le (by omega)] at h; cases h
  rw [List.drop_eq_getElem_cons hl] at h
  injection h with h1 h2
  exact ⟨by rw [List.getElem?_eq_getElem hl, h1], h2, hl⟩
theorem drop_at {α : Type} {T : List α} {i : Nat} {x : α} (h : T[i]? = some x) : T.drop i = x :: T.drop (i + 1) := by
  obtain ⟨h1, h2⟩ := List.getElem?_eq_some_iff.1 h
  rw [List.drop_eq_getElem_cons h1, h2]

/-- How long a slice is. -/
def lenV : Value → Nat
  | .slice _ n _ => n
  | _ => 0
/-- A piece of a list, as it is told. -/
def encP (n : Nat → Nat) (q : Option Addr) (cap x : Nat) : Array Value := #[.slice (q.map (·.add x)) (n x) (cap - x)]
end Go.Proofs.YtjfeamfchgcblaaDoor
