/- What TagsPlay keeps in memory: two Scopes, and the document's. -/
import Derived.Test.YtmeojnpehmhmoaaStw
import Derived.Test.YtmeojnpehmhmoaaBth
set_option linter.all false
set_option maxRecDepth 100000
namespace Go.Proofs.Ytmeojnpehmhmoaa
open Go.RowKit Go.Shelf Go.Lib

def setD (D : List Mn) (h q : ByteArray) : List Mn := if look D h = none then D ++ [(h, q)] else D
theorem setD_none {D : List Mn} {h q : ByteArray} (e : look D h = none) : setD D h q = D ++ [(h, q)] := if_pos e
theorem setD_some {D : List Mn} {h q x : ByteArray} (e : look D h = some x) : setD D h q = D := if_neg (by rw [e]; simp)
theorem setD_len (D : List Mn) (h q : ByteArray) : (setD D h q).length ≤ D.length + 1 := by
  unfold setD
  split
  · simp
  · omega
theorem setD_mem {D : List Mn} {h q : ByteArray} {x : Mn} (hx : x ∈ setD D h q) : x ∈ D ∨ x = (h, q) := by
  unfold setD at hx
  split at hx
  · rcases List.mem_append.1 hx with h | h
    · exact .inl h
    · exact .inr (by simpa using h)
  · exact .inl hx
theorem grown_weak {A B : World} {r : Option Nat} (h : Below A.heap.size A B) : A.grownBy B r := ⟨h.os, h.tape, h.output, h.size, fun k hk _ => h.block k hk⟩
theorem Set_any (N b : Nat) (X : Nat → Prop) (D : List Mn) (h q : ByteArray) (w : World) (hX : ∀ k, X k → k < w.heap.size) (hS : Sc N X w b D) (hD : D.length ≤ 49) :
    Calls Try.prog 6 #[.pointer (some ⟨b, 0, none⟩), .string h, .string q] w fun e w' => e = .returned (.bool (look D h).isNone) ∧ w.grownBy w' (some b) ∧ Sc N X w' b (setD D h q) := by
  cases ho : look D h with
  | none =>
    rw [setD_none ho]
    exact Set_yes N b X D h q w hX hS hD ho
  | some x =>
    rw [setD_some ho]
    exact (Set_no N b X D h q x w hS ho).mono fun e w' ⟨h1, h2⟩ => ⟨h1, grown_weak h2, hS.below h2⟩
/-- What the document's Set leaves behind, whatever it answers. -/
def RsA (N b : Nat) (v : Value) (D' : List Mn) (w w' : World) : Prop :=
  ∃ v' W, Boxed w' b 31 v' ∧ OwnH w' N v' D' ∧ w.grownBy W v.ownBlock ∧ W.grownBy w' (some b) ∧ (∀ k, v'.ownBlock = some k → v.ownBlock = some k ∨ w.heap.size ≤ k) ∧ (∀ k, v'.ownBlock = some k → k < w'.heap.size)
theorem ownH_lt {w : World} {base : Nat} {v : Value} {D : List Mn} (h : OwnH w base v D) : ∀ k, v.ownBlock = some k → base ≤ k ∧ k < w.heap.size := by
  intro k hk
  rcases h.2 with ⟨rfl, -⟩ | ⟨g, cap, cur, rfl, hb, hg, -⟩
  · cases hk
  · cases hk
    exact ⟨hb, (Array.getElem?_eq_some_iff.1 hg).1⟩
theorem rSet_any (N b : Nat) (v : Value) (D : List Mn) (h q : ByteArray) (w : World) (hbN : b < N) (hNw : N ≤ w.heap.size) (hb : Boxed w b 31 v) (hO : OwnH w N v D) (hD : D.length ≤ 50) :
    Calls Try.prog 7 #[.pointer (some ⟨b, 0, none⟩), .string h, .string q] w fun e w' => e = .returned (.bool (look D h).isNone) ∧ RsA N b v (setD D h q) w w' := by
  cases ho : look D h with
  | none =>
    rw [setD_none ho]
    exact rSet_yes N b v D h q w hbN hNw hb hO hD ho
  | some x =>
    rw [setD_some ho]
    refine (rSet_no b N v D h q x w hb hO hD ho).mono ?_
    rintro e w' ⟨h1, rfl⟩
    exact ⟨h1, v, w', hb, hO, grown_weak (Below.refl _ _), grown_weak (Below.refl _ _), fun k hk => .inl hk, fun k hk => (ownH_lt hO k hk).2⟩
def Xv (v : Value) (k : Nat) : Prop := v.ownBlock = some k
/-- The three Scopes. -/
structure PS (w : World) (N bs bo br : Nat) (v : Value) (D Do : List Mn) (wr : World) : Prop where
  bel : Below w.heap.size w wr
  nw : N ≤ wr.heap.size
  bx : Boxed wr br 31 v
  ow : OwnH wr N v D
  s : Sc N (Xv v) wr bs D
  o : Sc N (Xv v) wr bo Do
/-- Where they lie. -/
structure PB (w : World) (N bs bo br : Nat) : Prop where
  a : w.heap.size ≤ bs
  b : w.heap.size ≤ bo
  c : w.heap.size ≤ br
  d : bs < N
  e : bo < N
  f : br < N
  g : bs ≠ bo
  h : bs ≠ br
  i : bo ≠ br
theorem ownH_kept {A B : World} {base : Nat} {v : Value} {D : List Mn} {row : Option Nat} (h : OwnH A base v D) (hg : A.grownBy B row) (hn : ∀ k, v.ownBlock = some k → row ≠ some k) : OwnH B base v D :=
  h.kept hg (by
    cases hv : v.ownBlock with
    | none => exact .inl rfl
    | some g => exact .inr (fun e => hn g hv e.symm))
theorem PS.lt {w : World} {N bs bo br : Nat} {v : Value} {D Do : List Mn} {wr : World} (h : PS w N bs bo br v D Do wr) : ∀ k, Xv v k → k < wr.heap.size := fun k hk => (ownH_lt h.ow k hk).2
theorem PS.stepO {w : World} {N bs bo br : Nat} (hB : PB w N bs bo br) {v : Value} {D Do Do' : List Mn} {wr wr' : World} (h : PS w N bs bo br v D Do wr) (hg : wr.grownBy wr' (some bo)) (hS : Sc N (Xv v) wr' bo Do') : PS w N bs bo br v D Do' wr' := by
  have := hB
  refine ⟨h.bel.grown hg h.bel.size (fun k e => by cases e; exact hB.b), Nat.le_trans h.nw hg.size, h.bx.kept hg (fun e => by cases e; exact hB.i rfl), ownH_kept h.ow hg (fun k hk e => by cases e; have := (ownH_lt h.ow _ hk).1; have := hB.e; omega), h.s.kept hg (fun k e => by cases e; exact ⟨.inl hB.e, fun e => hB.g e.symm⟩), hS⟩
theorem PS.stepS {w : World} {N bs bo br : Nat} (hB : PB w N bs bo br) {v : Value} {D Do D' : List Mn} {wr wr' : World} (h : PS w N bs bo br v D Do wr) (hg : wr.grownBy wr' (some bs)) (hS : Sc N (Xv v) wr' bs D') :
    Below w.heap.size w wr' ∧ N ≤ wr'.heap.size ∧ Boxed wr' br 31 v ∧ OwnH wr' N v D ∧ Sc N (Xv v) wr' bo Do :=
  ⟨h.bel.grown hg h.bel.size (fun k e => by cases e; exact hB.a), Nat.le_trans h.nw hg.size, h.bx.kept hg (fun e => by cases e; exact hB.h rfl), ownH_kept h.ow hg (fun k hk e => by cases e; have := (ownH_lt h.ow _ hk).1; have := hB.d; omega), h.o.kept hg (fun k e => by cases e; exact ⟨.inl hB.d, hB.g⟩)⟩
theorem sc_through {N b br : Nat} {v v' : Value} {D : List Mn} {wr W wr' : World} (hS : Sc N (Xv v) wr b D) (hbN : b < N) (hne : b ≠ br) (hrN : br < N) (hv : ∀ k, Xv v k → N ≤ k) (g1 : wr.grownBy W v.ownBlock) (g2 : W.grownBy wr' (some br))
    (hk : ∀ k, v'.ownBlock = some k → v.ownBlock = some k ∨ wr.heap.size ≤ k) : Sc N (Xv v') wr' b D := by
  have h1 : Sc N (fun k => Xv v k ∨ Xv v' k) wr b D := hS.out fun k hk2 => by
    rcases hk2 with hk2 | hk2
    · exact .inl hk2
    · rcases hk k hk2 with h | h
      · exact .inl h
      · exact .inr h
  have h2 : Sc N (fun k => Xv v k ∨ Xv v' k) W b D := h1.kept g1 fun k e => ⟨.inr (.inl e), fun e2 => by have := hv k e; omega⟩
  have h3 : Sc N (fun k => Xv v k ∨ Xv v' k) wr' b D := h2.kept g2 fun k e => by cases e; exact ⟨.inl hrN, fun e2 => hne e2.symm⟩
  exact h3.out fun k hk => .inl (.inr hk)
theorem PS.stepR {w : World} {N bs bo br : Nat} (hB : PB w N bs bo br) {v : Value} {D Do D' : List Mn} {wr wr' : World} (h1 : Below w.heap.size w wr) (h2 : N ≤ wr.heap.size) (h4 : OwnH wr N v D) (h5 : Sc N (Xv v) wr bo Do) (h6 : Sc N (Xv v) wr bs D')
    (hR : RsA N br v D' wr wr') : ∃ v', PS w N bs bo br v' D' Do wr' := by
  obtain ⟨v', W, a1, a2, a3, a4, a5, a6⟩ := hR
  have hv : ∀ k, Xv v k → N ≤ k := fun k hk => (ownH_lt h4 k hk).1
  have hbW : Below w.heap.size w W := h1.grown a3 h1.size (fun k e => by have := hv k e; have := hB.a; have := hB.d; omega)
  refine ⟨v', hbW.grown a4 hbW.size (fun k e => by cases e; exact hB.c), Nat.le_trans h2 (Nat.le_trans a3.size a4.size), a1, a2, ?_, ?_⟩
  · exact sc_through h6 hB.d hB.h hB.f hv a3 a4 a5
  · exact sc_through h5 hB.e hB.i hB.f hv a3 a4 a5
theorem PS.on {w : World} {N bs bo br : Nat} {v : Value} {D Do : List Mn} {wr wr' : World} (h : PS w N bs bo br v D Do wr) (hb : Below wr.heap.size wr wr') : PS w N bs bo br v D Do wr' :=
  ⟨h.bel.trans (hb.mono h.bel.size), Nat.le_trans h.nw hb.size, boxed_below h.bx hb, ownH_kept h.ow (grown_weak (r := none) hb) (fun k _ e => by cases e), h.s.below hb, h.o.below hb⟩
end Go.Proofs.Ytmeojnpehmhmoaa
