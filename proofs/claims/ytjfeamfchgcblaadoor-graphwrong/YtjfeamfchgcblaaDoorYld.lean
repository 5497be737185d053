/- A range over a function whose iterator writes variables of its own, ranges itself over another function, and hands yield on: what each side keeps of the other's. -/
import Derived.Test.YtjfeamfchgcblaaDoorPick
import Derived.RangeFuncNested
import Derived.RangeFuncBound
import Derived.RangeFuncCalls
import Derived.RangeFuncLeaves
import Derived.Shelf.Abstract
import Derived.Shelf.RegionOpen
import Derived.LoopNIn
import Derived.LoopIn
import Derived.Maps.AppendAt
import Derived.Stop.RegionWithIn
set_option linter.unusedVariables false
set_option linter.unusedSimpArgs false
namespace Go.Proofs.YtjfeamfchgcblaaDoor
open Go.RowKit Go.Shelf

theorem round_any {m m' : Nat} {P : Program} {l : Nat} {f : FuncId} {tmps : Array Value} {assign body : Code} {w : World} {R : Ending → World → Prop}
    (h : RoundIn Fence.wide m P l f tmps assign body w R) : RoundIn Fence.wide m' P l f tmps assign body w R := ⟨h.1, fun c cs _ => h.2 c cs (fun d e => by cases e)⟩
theorem yield_any {m : Nat} (m' : Nat) {P : Program} {l : Nat} {args : Array Value} {W : World} {R : Ending → World → Prop} (h : YieldAt Fence.wide m P l args W R) : YieldAt Fence.wide m' P l args W R := by
  obtain ⟨fn, tmps, assign, body, hy, hR⟩ := h
  exact ⟨fn, tmps, assign, body, hy, round_any hR⟩

/-- What a round of loop l keeps: all that lay below n₀, the blocks of X, and whatever is no cells but the loop's own record. -/
structure Kx (n₀ l : Nat) (X : Nat → Prop) (W W' : World) : Prop where
  below : Below n₀ W W'
  own : ∀ b, X b → W'.heap[b]? = W.heap[b]?
  others : ∀ (k : Nat) (o : Obj), k ≠ l → W.heap[k]? = some o → o.isCells = false → W'.heap[k]? = some o

theorem Kx.refl (n₀ l : Nat) (X : Nat → Prop) (W : World) : Kx n₀ l X W W := ⟨Below.refl _ _, fun _ _ => rfl, fun _ _ _ h _ => h⟩
theorem Kx.trans {n₀ l : Nat} {X : Nat → Prop} {A B C : World} (h : Kx n₀ l X A B) (k : Kx n₀ l X B C) : Kx n₀ l X A C :=
  ⟨h.below.trans k.below, fun b hb => (k.own b hb).trans (h.own b hb), fun i o hi ho hc => k.others i o hi (h.others i o hi ho hc) hc⟩
theorem Kx.less {n₀ l : Nat} {X Y : Nat → Prop} {A B : World} (h : Kx n₀ l X A B) (hY : ∀ b, Y b → X b) : Kx n₀ l Y A B := ⟨h.below, fun b hb => h.own b (hY b hb), h.others⟩
theorem Kx.alloc {n₀ l : Nat} {X : Nat → Prop} {W : World} (hn : n₀ ≤ W.heap.size) (hX : ∀ b, X b → b < W.heap.size) (o : Obj) : Kx n₀ l X W (W.alloc o) :=
  ⟨(Below.refl _ W).alloc hn o, fun b hb => Below.heap_alloc W o b (hX b hb), fun k o' _ hk _ => (Below.heap_alloc W o k (Array.getElem?_eq_some_iff.1 hk).1).trans hk⟩
theorem Kx.putObj {n₀ l : Nat} {X : Nat → Prop} {W : World} (hn : n₀ ≤ l) (hl : l < W.heap.size) (hX : ¬ X l) (o' : Obj) : Kx n₀ l X W (W.putObj l o') :=
  ⟨(Below.refl n₀ W).grown (grownBy_putObj' W l o') (by omega) (fun k e => by cases e; exact hn), fun b hb => World.putObj_heap_other (fun e => hX (e ▸ hb)), fun k o hk ho _ => (World.putObj_heap_other hk).trans ho⟩
theorem Kx.drew (n₀ l : Nat) (X : Nat → Prop) (W : World) : Kx n₀ l X W W.drew := ⟨(Below.refl _ W).drew, fun _ _ => rfl, fun _ _ _ h _ => h⟩
theorem Kx.from {n₀ l B : Nat} {X : Nat → Prop} {A C : World} (h : Kx n₀ l X A C) (hl : l < B) : KeepsFrom B A C := ⟨h.below.size, fun k o hk ho hc => h.others k o (by omega) ho hc⟩
theorem Kx.cell {n₀ l : Nat} {X : Nat → Prop} {A C : World} (h : Kx n₀ l X A C) {b : Nat} (hb : X b) (o : Nat) : C.cell? ⟨b, o, none⟩ = A.cell? ⟨b, o, none⟩ := World.cell?_of_block (h.own b hb)
theorem Kx.boxed {n₀ l : Nat} {X : Nat → Prop} {A C : World} (h : Kx n₀ l X A C) {b : Nat} (hb : X b) {t : TypeId} {v : Value} (hv : Boxed A b t v) : Boxed C b t v := (h.own b hb).trans hv

/-- One block more. -/
def more (X : Nat → Prop) (b : Nat) : Nat → Prop := fun k => X k ∨ k = b

/-- The other side's invariant J X: it holds whatever is done to the blocks of X, to new ones, and to what is no cells and lies at or beyond B. -/
structure Abx {β : Type} (B : Nat) (J : (Nat → Prop) → β → World → Prop) : Prop where
  step : ∀ X s W W' row, J X s W → W.grownBy W' row → (∀ r, row = some r → X r ∨ (B ≤ r ∧ ∃ o : Obj, W.heap[r]? = some o ∧ o.isCells = false)) → J X s W'
  new : ∀ X s W o, J X s W → J (more X W.heap.size) s (W.alloc o)
  less : ∀ X Y s W, J X s W → (∀ b, Y b → X b) → J Y s W
  lt : ∀ X s W b, J X s W → X b → b < W.heap.size

theorem Abx.alloc {β : Type} {B : Nat} {J : (Nat → Prop) → β → World → Prop} (h : Abx B J) {X : Nat → Prop} {s : β} {W : World} (hs : J X s W) (o : Obj) : J X s (W.alloc o) :=
  h.step X s W _ none hs (World.grownBy_alloc W o none) (fun r e => by cases e)
theorem grownBy_drew (W : World) : W.grownBy W.drew none := ⟨rfl, rfl, rfl, Nat.le_refl _, fun _ _ _ => rfl⟩
theorem Abx.drew {β : Type} {B : Nat} {J : (Nat → Prop) → β → World → Prop} (h : Abx B J) {X : Nat → Prop} {s : β} {W : World} (hs : J X s W) : J X s W.drew :=
  h.step X s W _ none hs (grownBy_drew W) (fun r e => by cases e)
theorem Abx.set {β : Type} {B : Nat} {J : (Nat → Prop) → β → World → Prop} (h : Abx B J) {X : Nat → Prop} {s : β} {W : World} (hs : J X s W) {b : Nat} (hb : X b) (v : Value) : J X s (W.setCell ⟨b, 0, none⟩ v) :=
  h.step X s W _ (some b) hs (grownBy_setCell' W b v) (fun r e => by cases e; exact .inl hb)
theorem Abx.ownFrom {β : Type} {B B' : Nat} {J : (Nat → Prop) → β → World → Prop} (h : Abx B J) (hB : B ≤ B') (X : Nat → Prop) : OwnFrom B' (J X) :=
  fun s W W' row hs hg hr => h.step X s W W' row hs hg (fun r e => .inr ⟨Nat.le_trans hB (hr r e).1, (hr r e).2⟩)
theorem Abx.ownFromF {β γ : Type} {B B' : Nat} {J : (Nat → Prop) → β → World → Prop} (h : Abx B J) (hB : B ≤ B') (X : Nat → Prop) (f : γ → β) : OwnFrom B' (fun s W => J X (f s) W) :=
  fun s W W' row hs hg hr => h.step X (f s) W W' row hs hg (fun r e => .inr ⟨Nat.le_trans hB (hr r e).1, (hr r e).2⟩)

/-- Every round of loop l goes on, and carries J by the element. -/
def Rounds {α : Type} (n₀ N : Nat) (P : Program) (l : Nat) (enc : α → Array Value) (J : (Nat → Prop) → List α → World → Prop) : Prop :=
  ∀ (m : Nat) (X : Nat → Prop) (pre : List α) (x : α) (W : World), J X pre W → pre.length < N → YieldAt Fence.wide m P l (enc x) W fun e W' => e = .returned (.bool true) ∧ J X (pre ++ [x]) W' ∧ Kx n₀ l X W W'

/-- An iterator that tells S, whatever J the other side has. -/
def Seqx {α : Type} (n : Nat) (P : Program) (g : Nat) (lb : Array Value) (enc : α → Array Value) (n₀ N : Nat) (S : List α → Prop) (w : World) : Prop :=
  ∀ (l : Nat) (J : (Nat → Prop) → List α → World → Prop) (X : Nat → Prop) (W : World), Below w.heap.size w W → l < W.heap.size → Abx W.heap.size J → Rounds n₀ N P l enc J → J X [] W →
    CallsIn Fence.wide n P g (#[.func (.yield l) #[] #[]] ++ lb) W fun e W' => (∃ v, e = .returned v) ∧ ∃ xs, S xs ∧ J X xs W'

/-- How a round's body ends: it goes on. -/
def postx {α : Type} (n₀ l : Nat) (I : (Nat → Prop) → List α → World → Prop) (X : Nat → Prop) (xs : List α) (W : World) : Exit → Act → World → Prop
  | .normal, _, W' => Kx n₀ l X W W' ∧ I X xs W' ∧ W'.heap[l]? = W.heap[l]?
  | _, _, _ => False

theorem wpIn_rangeFuncx {α : Type} {n : Nat} {P : Program} {g : Operand} {ps : Array Tmp} {assign body : Code} {Q : Exit → Act → World → Prop} {a : Act} {w : World}
    {gf : Nat} {lb : Array Value} (hg : a.eval g = .func (.func gf) #[] lb) (eg : ∀ args w, (callFunc gf args).run P w = .ok (.enter gf args) w)
    {enc : α → Array Value} {S : List α → Prop} {n₀ N : Nat} {w0 : World} (hn₀ : n₀ ≤ w.heap.size) (hseq : Seqx (n - 1) P gf lb enc n₀ N S w0) (hb0 : Below w0.heap.size w0 w) (hps : ∀ x, (enc x).size = ps.size)
    (I : (Nat → Prop) → List α → World → Prop) (hI : Abx w.heap.size I) (h0 : I (fun _ => False) [] w) (a₁ : α → Act)
    (hassign : ∀ (m l : Nat) (x : α) (W : World) (K : Act → World → Prop), K (a₁ x) W →
      assign.wpIn (Fence.wide.inRound l) m P (Exit.then K (fun _ _ _ => False)) { tmps := (ps.zip (enc x)).foldl (fun t (p, v) => t.setIfInBounds p v) a.tmps, defers := [] } W)
    (hbody : ∀ (m l : Nat) (X : Nat → Prop) (pre : List α) (x : α) (W : World), w.heap.size ≤ l → (∃ r, W.heap[l]? = some (.loop r)) → I X pre W → pre.length < N → body.wpIn (Fence.wide.inRound l) m P (postx n₀ l I X (pre ++ [x]) W) (a₁ x) W)
    (hdone : ∀ (D : Nat) (xs : List α) (W : World), w.heap.size ≤ D → S xs → I (fun _ => False) xs W → W.heap[D]? = some (.deferred (some [])) → Q .normal { a with defers := { target := .collected D, args := #[] } :: a.defers } W) :
    (Code.rangeFunc g ps assign body).wpIn Fence.wide n P Q a w := by
  refine wpIn_rangeFunc ?_
  intro fn hfn
  rw [show Fence.wide.round = none from rfl]
  obtain ⟨rec, hrec⟩ : ∃ rec : LoopState → Option Code → Loop, rec = fun st pe => { state := st, pending := pe, fn, tmps := a.tmps, params := ps, assign, body, defers := w.heap.size } := ⟨_, rfl⟩
  obtain ⟨W1, hW1⟩ : ∃ W1, (w.alloc (.deferred (some []))).alloc (.loop (rec .ready none)) = W1 := ⟨_, rfl⟩
  have hL1 : W1.heap[w.heap.size + 1]? = some (.loop (rec .ready none)) := by
    rw [← hW1]; have := World.alloc_heap_new (w.alloc (.deferred (some []))) (.loop (rec .ready none)); rwa [World.size_alloc] at this
  have hK1 : W1.heap[w.heap.size]? = some (.deferred (some [])) := by
    rw [← hW1]; exact (Below.heap_alloc _ _ _ (by simp)).trans (World.alloc_heap_new w _)
  have hI1 : I (fun _ => False) [] W1 := by rw [← hW1]; exact hI.alloc (hI.alloc h0 _) _
  have hsz1 : W1.heap.size = w.heap.size + 2 := by rw [← hW1]; simp
  have hb1 : Below w0.heap.size w0 W1 := by
    rw [← hW1]; exact hb0.trans ((((Below.refl _ w).alloc (Nat.le_refl _) _).alloc (by simp) _).mono hb0.size)
  refine ⟨w.heap.size + 1, [{ target := .collected w.heap.size, args := #[] }], W1, { target := .fn (.func gf) lb, args := #[.func (.yield (w.heap.size + 1)) #[] #[]] }, W1, gf,
    #[.func (.yield (w.heap.size + 1)) #[] #[]] ++ lb, W1, ?_, ?_, fun _ _ => trivial, ?_, (fun h => by cases h), ?_⟩
  · rw [← hW1, hrec]; exact run_enterLoop_outer _ _ _ _ _
  · simp only [resolve, hg]
    simp [go_sem]
  · simp [invoke, go_sem, eg]
  · clear hW1
    have hJ : Abx W1.heap.size (fun X pre W => I X pre W ∧ W.heap[w.heap.size + 1]? = some (.loop (rec .ready none)) ∧ W.heap[w.heap.size]? = some (.deferred (some [])) ∧ ¬ X (w.heap.size + 1) ∧ ¬ X w.heap.size) := by
      refine ⟨fun X s W W' row hs hg' hr => ?_, fun X s W o hs => ?_, fun X Y s W hs hY => ?_, fun X s W b hs hb => hI.lt X s W b hs.1 hb⟩
      · obtain ⟨hi, hl, hk, nl, nd⟩ := hs
        have ne : ∀ r, r < W1.heap.size → ¬ X r → some r ≠ row := fun r hlt hn e => by
          rcases hr r e.symm with h | ⟨h, -⟩
          · exact hn h
          · omega
        exact ⟨hI.step X s W W' row hi hg' (fun r e => (hr r e).imp id (fun ⟨h1, h2⟩ => ⟨by omega, h2⟩)), (hg'.block _ (Array.getElem?_eq_some_iff.1 hl).1 (ne _ (by omega) nl)).trans hl, (hg'.block _ (Array.getElem?_eq_some_iff.1 hk).1 (ne _ (by omega) nd)).trans hk, nl, nd⟩
      · obtain ⟨hi, hl, hk, nl, nd⟩ := hs
        have l1 := (Array.getElem?_eq_some_iff.1 hl).1
        exact ⟨hI.new X s W o hi, (Below.heap_alloc W o _ l1).trans hl, (Below.heap_alloc W o _ (by omega)).trans hk, (fun h => h.elim nl (fun e => by omega)), fun h => h.elim nd (fun e => by omega)⟩
      · obtain ⟨hi, hl, hk, nl, nd⟩ := hs
        exact ⟨hI.less X Y s W hi hY, hl, hk, fun h => nl (hY _ h), fun h => nd (hY _ h)⟩
    refine (hseq (w.heap.size + 1) _ (fun _ => False) W1 hb1 (by omega) hJ ?_ ⟨hI1, hL1, hK1, id, id⟩).mono ?_
    · rintro m X pre x W ⟨hi, hl, hk, nl, nd⟩ hlen
      have hy := run_yield (P := P) (args := enc x) hl (by rw [hrec]; exact hps x)
      rw [hrec] at hy
      refine ⟨fn, _, assign, body, hy, roundIn_of_wpIn hfn (hassign _ _ x W _ ⟨_, run_beginRound hl (by rw [hrec]), ?_⟩)⟩
      have hlt : w.heap.size + 1 < W.heap.size := (Array.getElem?_eq_some_iff.1 hl).1
      have hl2 : (W.putObj (w.heap.size + 1) (.loop { rec .ready none with state := .busy })).heap[w.heap.size + 1]? = some (.loop { rec .ready none with state := .busy }) := World.putObj_heap_same hlt
      have hk2 : (W.putObj (w.heap.size + 1) (.loop { rec .ready none with state := .busy })).heap[w.heap.size]? = some (.deferred (some [])) := (World.putObj_heap_other (by omega)).trans hk
      have kx1 : Kx n₀ (w.heap.size + 1) X W (W.putObj (w.heap.size + 1) (.loop { rec .ready none with state := .busy })) := Kx.putObj (by omega) hlt nl _
      have hi2 : I X pre (W.putObj (w.heap.size + 1) (.loop { rec .ready none with state := .busy })) := hI.step X pre W _ (some (w.heap.size + 1)) hi (grownBy_putObj' W _ _) (fun r e => by cases e; exact .inr ⟨by omega, _, hl, rfl⟩)
      generalize W.putObj (w.heap.size + 1) (.loop { rec .ready none with state := .busy }) = Wb at hl2 hk2 kx1 hi2 ⊢
      refine wpIn_mono (hbody _ _ X pre x Wb (by omega) ⟨_, hl2⟩ hi2 hlen) ?_
      rintro e a3 W3 hp
      cases e with
      | normal =>
        obtain ⟨k3, hi3, hl3⟩ := hp
        have hl3' := hl3.trans hl2
        have hk3 := k3.others _ _ (by omega) hk2 rfl
        have hr := run_endRound (P := P) none hl3'
        have hlt3 := (Array.getElem?_eq_some_iff.1 hl3').1
        rw [hrec] at hr
        refine ⟨_, _, hr, rfl, ⟨hI.step X _ W3 _ (some (w.heap.size + 1)) hi3 (grownBy_putObj' W3 _ _) (fun r e => by cases e; exact .inr ⟨by omega, _, hl3', rfl⟩), ?_, (World.putObj_heap_other (by omega)).trans hk3, nl, nd⟩, (kx1.trans k3).trans (Kx.putObj (by omega) hlt3 nl _)⟩
        rw [World.putObj_heap_same hlt3, hrec]
        rfl
      | _ => exact hp.elim
    · rintro e W2 ⟨⟨v, rfl⟩, xs, hS, hi, hl, hk, -, -⟩
      exact ⟨none, _, by have := run_endLoop (P := P) hl (by rw [hrec]; simp); rw [hrec] at this; exact this, hdone _ xs _ (Nat.le_refl _) hS (hI.step _ _ W2 _ (some (w.heap.size + 1)) hi (grownBy_putObj' W2 _ _) (fun r e => by cases e; exact .inr ⟨by omega, _, hl, rfl⟩)) ((World.putObj_heap_other (by omega)).trans hk)⟩
end Go.Proofs.YtjfeamfchgcblaaDoor
