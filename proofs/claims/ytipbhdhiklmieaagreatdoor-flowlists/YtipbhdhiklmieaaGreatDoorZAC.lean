/- A range over a function that tells the elements of a known list in order, keeps a list of its own while it tells, and may be left early. -/
import Derived.Test.YtipbhdhiklmieaaGreatDoorZAB
import Derived.Test.YtipbhdhiklmieaaGreatDoorZAA
set_option linter.all false
set_option maxRecDepth 100000
set_option maxHeartbeats 2000000
namespace Go.Proofs.YtipbhdhiklmieaaGreatDoor
open Go.RowKit Go.Shelf
structure Kq (X : Nat -> Prop) (A C : World) : Prop where
 size : A.heap.size <= C.heap.size
 same : ∀ b, X b -> C.heap[b]? = A.heap[b]?
theorem Kq.trans {X : Nat -> Prop} {A B C : World} (h : Kq X A B) (k : Kq X B C) : Kq X A C := ⟨Nat.le_trans h.size k.size, fun b hb => (k.same b hb).trans (h.same b hb)⟩
theorem Kq.refl (X : Nat -> Prop) (A : World) : Kq X A A := ⟨Nat.le_refl _, fun _ _ => rfl⟩
theorem Kq.less {X Y : Nat -> Prop} {A B : World} (h : Kq X A B) (hY : ∀ b, Y b -> X b) : Kq Y A B := ⟨h.size, fun b hb => h.same b (hY b hb)⟩
theorem Kq.grown {X : Nat -> Prop} {A B : World} {row : Option Nat} (h : A.grownBy B row) (hX : ∀ b, X b -> b < A.heap.size /\ some b ≠ row) : Kq X A B := ⟨h.size, fun b hb => h.block b (hX b hb).1 (hX b hb).2⟩
structure Abo (B : Nat) (J : (Nat -> Prop) -> Nat -> World -> Prop) : Prop where
 step : ∀ X s W W' row, J X s W -> W.grownBy W' row -> (∀ r, row = some r -> X r \/ (B <= r /\ ∃ o : Obj, W.heap[r]? = some o /\ o.isCells = false)) -> J X s W'
 new : ∀ X s W W' row, J X s W -> W.grownBy W' row -> (∀ r, row = some r -> X r) -> J (fun b => X b \/ (W.heap.size <= b /\ b < W'.heap.size)) s W'
 less : ∀ X Y s W, J X s W -> (∀ b, Y b -> X b) -> J Y s W
 lt : ∀ X s W b, J X s W -> X b -> b < W.heap.size
theorem Abo.alloc {B : Nat} {J : (Nat -> Prop) -> Nat -> World -> Prop} (h : Abo B J) {X : Nat -> Prop} {s : Nat} {W : World} (hs : J X s W) (o : Obj) : J X s (W.alloc o) :=
 h.step X s W _ none hs (World.grownBy_alloc W o none) (fun r e => by cases e)
theorem Abo.drew {B : Nat} {J : (Nat -> Prop) -> Nat -> World -> Prop} (h : Abo B J) {X : Nat -> Prop} {s : Nat} {W : World} (hs : J X s W) : J X s W.drew :=
 h.step X s W _ none hs (grownBy_drew W) (fun r e => by cases e)
def orX (R X : Nat -> Prop) (b : Nat) : Prop := R b \/ X b
def SeqO {α : Type} (n : Nat) (P : Program) (g : Nat) (lb : Array Value) (enc : α -> Array Value) (T : List α) (R : Nat -> Prop) (w : World) : Prop :=
 ∀ (l : Nat) (J : (Nat -> Prop) -> Nat -> World -> Prop) (Jx : Nat -> World -> Prop) (W : World), Below w.heap.size w W -> l < W.heap.size -> Abo W.heap.size J ->
  (∀ (m : Nat) (X : Nat -> Prop) (i : Nat) (x : α) (W1 : World), T[i]? = some x -> J X i W1 -> YieldAt Fence.wide m P l (enc x) W1 fun e W' =>
   (e = .returned (.bool true) /\ J X (i + 1) W' /\ Kq (orX R X) W1 W') \/ (e = .returned (.bool false) /\ Jx (i + 1) W')) ->
  J (fun _ => False) 0 W ->
  CallsIn Fence.wide n P g (#[.func (.yield l) #[] #[]] ++ lb) W fun e W' => (∃ v, e = .returned v) /\ ((∃ X, J X T.length W') \/ ∃ i, Jx i W')
def postO (B : Nat) (R : Nat -> Prop) (I : (Nat -> Prop) -> Nat -> World -> Prop) (Ix : Code -> Nat -> World -> Prop) (X : Nat -> Prop) (i : Nat) (W : World) : Exit -> Act -> World -> Prop
 | .normal, _, W' => KeepsFrom B W W' /\ Kq (orX R X) W W' /\ I X i W'
 | .ret, _, W' => KeepsFrom B W W' /\ Ix .ret i W'
 | .exit id, _, W' => KeepsFrom B W W' /\ Ix (.exit id) i W'
 | .goto t, _, W' => KeepsFrom B W W' /\ Ix (.goto t) i W'
 | .panic _, _, _ => False
 | .outgrown, _, _ => False
theorem wpIn_rangeFuncO {α : Type} {n : Nat} {P : Program} {g : Operand} {ps : Array Tmp} {assign body : Code} {Q : Exit -> Act -> World -> Prop} {a : Act} {w : World}
  {gf : Nat} {lb : Array Value} (hg : a.eval g = .func (.func gf) #[] lb) (eg : ∀ args w, (callFunc gf args).run P w = .ok (.enter gf args) w)
  {enc : α -> Array Value} {T : List α} {R : Nat -> Prop} {w0 : World} (hseq : SeqO (n - 1) P gf lb enc T R w0) (hR : ∀ b, R b -> b < w.heap.size)
  (hb0 : Below w0.heap.size w0 w) (hps : ∀ x, (enc x).size = ps.size)
  (I : (Nat -> Prop) -> Nat -> World -> Prop) (Ix : Code -> Nat -> World -> Prop) (hI : Abo w.heap.size I) (hIx : ∀ c, OwnFrom w.heap.size (Ix c)) (h0 : I (fun _ => False) 0 w)
  (gr : α -> World -> World) (hgr : ∀ (x : α) (W : World), W.grownBy (gr x W) none) (a₁ : α -> Nat -> Act)
  (hassign : ∀ (m l : Nat) (x : α) (W : World) (K : Act -> World -> Prop), K (a₁ x W.heap.size) (gr x W) ->
   assign.wpIn (Fence.wide.inRound l) m P (Exit.then K (fun _ _ _ => False)) { tmps := (ps.zip (enc x)).foldl (fun t (p, v) => t.setIfInBounds p v) a.tmps, defers := [] } W)
  (hbody : ∀ (m l : Nat) (X : Nat -> Prop) (i : Nat) (x : α) (W0 W : World), T[i]? = some x -> I X i W -> w.heap.size <= l -> l < W0.heap.size -> (∀ k, k ≠ l -> W.heap[k]? = (gr x W0).heap[k]?) -> (∀ b, X b -> b < W0.heap.size /\ b ≠ l) -> (W.heap.size = (gr x W0).heap.size) ->
   body.wpIn (Fence.wide.inRound l) m P (postO w.heap.size R I Ix X (i + 1) W) (a₁ x W0.heap.size) W)
  (hdone : ∀ (D : Nat) (X : Nat -> Prop) (W : World), w.heap.size <= D -> I X T.length W -> W.heap[D]? = some (.deferred (some [])) -> Q .normal { a with defers := { target := .collected D, args := #[] } :: a.defers } W)
  (hstop : ∀ (D : Nat) (c : Code) (i : Nat) (W : World), w.heap.size <= D -> Ix c i W -> W.heap[D]? = some (.deferred (some [])) -> c.wpIn Fence.wide n P Q { a with defers := { target := .collected D, args := #[] } :: a.defers } W) :
  (Code.rangeFunc g ps assign body).wpIn Fence.wide n P Q a w := by
 refine wpIn_rangeFunc ?_
 intro fn hfn
 rw [show Fence.wide.round = none from rfl]
 obtain ⟨rec, hrec⟩ : ∃ rec : LoopState -> Option Code -> Loop, rec = fun st pe => { state := st, pending := pe, fn, tmps := a.tmps, params := ps, assign, body, defers := w.heap.size } := ⟨_, rfl⟩
 obtain ⟨W1, hW1⟩ : ∃ W1, (w.alloc (.deferred (some []))).alloc (.loop (rec .ready none)) = W1 := ⟨_, rfl⟩
 have hL1 : W1.heap[w.heap.size + 1]? = some (.loop (rec .ready none)) := by
  rw [<- hW1]; have := World.alloc_heap_new (w.alloc (.deferred (some []))) (.loop (rec .ready none)); rwa [World.size_alloc] at this
 have hK1 : W1.heap[w.heap.size]? = some (.deferred (some [])) := by
  rw [<- hW1]; exact (Below.heap_alloc _ _ _ (by simp)).trans (World.alloc_heap_new w _)
 have hI1 : I (fun _ => False) 0 W1 := by rw [<- hW1]; exact hI.alloc (hI.alloc h0 _) _
 have hsz1 : W1.heap.size = w.heap.size + 2 := by rw [<- hW1]; simp
 have hb1 : Below w0.heap.size w0 W1 := by
  rw [<- hW1]; exact hb0.trans ((((Below.refl _ w).alloc (Nat.le_refl _) _).alloc (by simp) _).mono hb0.size)
 refine ⟨w.heap.size + 1, [{ target := .collected w.heap.size, args := #[] }], W1, { target := .fn (.func gf) lb, args := #[.func (.yield (w.heap.size + 1)) #[] #[]] }, W1, gf,
  #[.func (.yield (w.heap.size + 1)) #[] #[]] ++ lb, W1, ?_, ?_, fun _ _ => trivial, ?_, (fun h => by cases h), ?_⟩
 ·rw [<- hW1, hrec]; exact run_enterLoop_outer _ _ _ _ _
 ·simp only [resolve, hg]
  simp [go_sem]
 ·simp [invoke, go_sem, eg]
 ·clear hW1
  have nn : ∀ {A B : World}, A.grownBy B none -> ∀ {k : Nat} {o : Obj}, A.heap[k]? = some o -> B.heap[k]? = some o := fun h k o hk => (h.block k (Array.getElem?_eq_some_iff.1 hk).1 (by simp)).trans hk
  have hJ : Abo W1.heap.size (fun X (i : Nat) W => I X i W /\ W.heap[w.heap.size + 1]? = some (.loop (rec .ready none)) /\ W.heap[w.heap.size]? = some (.deferred (some [])) /\ ¬ X (w.heap.size + 1) /\ ¬ X w.heap.size) := by
   refine ⟨fun X s W W' row hs hg' hr => ?_, fun X s W W2 row hs hg2 hr2 => ?_, fun X Y s W hs hY => ?_, fun X s W b hs hb => hI.lt X s W b hs.1 hb⟩
   ·obtain ⟨hi, hl, hk, nl, nd⟩ := hs
    have ne : ∀ r, r < W1.heap.size -> ¬ X r -> some r ≠ row := fun r hlt hn e => by
     rcases hr r e.symm with h | ⟨h, -⟩
     ·exact hn h
     ·omega
    exact ⟨hI.step X s W W' row hi hg' (fun r e => (hr r e).imp id (fun ⟨h1, h2⟩ => ⟨by omega, h2⟩)), (hg'.block _ (Array.getElem?_eq_some_iff.1 hl).1 (ne _ (by omega) nl)).trans hl, (hg'.block _ (Array.getElem?_eq_some_iff.1 hk).1 (ne _ (by omega) nd)).trans hk, nl, nd⟩
   ·obtain ⟨hi, hl, hk, nl, nd⟩ := hs
    have l1 := (Array.getElem?_eq_some_iff.1 hl).1
    exact ⟨hI.new X s W W2 row hi hg2 hr2, (hg2.block _ l1 (fun e => nl (hr2 _ e.symm))).trans hl, (hg2.block _ (by omega) (fun e => nd (hr2 _ e.symm))).trans hk, (fun h => h.elim nl (fun e => by omega)), fun h => h.elim nd (fun e => by omega)⟩
   ·obtain ⟨hi, hl, hk, nl, nd⟩ := hs
    exact ⟨hI.less X Y s W hi hY, hl, hk, fun h => nl (hY _ h), fun h => nd (hY _ h)⟩
  refine (hseq (w.heap.size + 1) _
   (fun i W => ∃ c, Ix c i W /\ W.heap[w.heap.size + 1]? = some (.loop (rec .done (some c))) /\ W.heap[w.heap.size]? = some (.deferred (some [])))
   W1 hb1 (by omega) hJ ?_ ⟨hI1, hL1, hK1, id, id⟩).mono ?_
  ·rintro m X i x W0 hx ⟨hi0, hl0, hk0, nl, nd⟩
   have hy := run_yield (P := P) (args := enc x) hl0 (by rw [hrec]; exact hps x)
   rw [hrec] at hy
   have hlt0 : w.heap.size + 1 < W0.heap.size := (Array.getElem?_eq_some_iff.1 hl0).1
   have hG := hgr x W0
   have hi := hI.step X i W0 _ none hi0 hG (fun r e => by cases e)
   have hl := nn hG hl0
   have hk := nn hG hk0
   have hXlt : ∀ b, X b -> b < W0.heap.size := fun b hb => hI.lt X i W0 b hi0 hb
   have hKg : Kq (orX R X) W0 (gr x W0) := Kq.grown hG fun b hb => ⟨by rcases hb with h | h; (have := hR b h; omega); exact hXlt b h, by simp⟩
   refine ⟨fn, _, assign, body, hy, roundIn_of_wpIn hfn (hassign _ _ x W0 _ ⟨_, run_beginRound hl (by rw [hrec]), ?_⟩)⟩
   obtain ⟨W, hW⟩ : ∃ W, gr x W0 = W := ⟨_, rfl⟩
   rw [hW] at hi hl hk hKg |-
   have nR : ∀ b, orX R X b -> b ≠ w.heap.size + 1 := fun b hb e => by
    rcases hb with h | h
    ·have := hR b h; omega
    ·exact nl (e ▸ h)
   have hput : ∀ (A : World) (o' : Obj), Kq (orX R X) A (A.putObj (w.heap.size + 1) o') := fun A o' => ⟨by simp [World.putObj], fun b hb => World.putObj_heap_other (nR b hb)⟩
   have hlt : w.heap.size + 1 < W.heap.size := (Array.getElem?_eq_some_iff.1 hl).1
   have hl2 : (W.putObj (w.heap.size + 1) (.loop { rec .ready none with state := .busy })).heap[w.heap.size + 1]? = some (.loop { rec .ready none with state := .busy }) := World.putObj_heap_same hlt
   have hk2 : (W.putObj (w.heap.size + 1) (.loop { rec .ready none with state := .busy })).heap[w.heap.size]? = some (.deferred (some [])) := (World.putObj_heap_other (by omega)).trans hk
   have hi2 : I X i (W.putObj (w.heap.size + 1) (.loop { rec .ready none with state := .busy })) := hI.step X i W _ (some (w.heap.size + 1)) hi (grownBy_putObj' W _ _) (fun r e => by cases e; exact .inr ⟨by omega, _, hl, rfl⟩)
   have hk3 := hKg.trans (hput W (.loop { rec .ready none with state := .busy }))
   have hoth : ∀ k, k ≠ w.heap.size + 1 -> (W.putObj (w.heap.size + 1) (.loop { rec .ready none with state := .busy })).heap[k]? = (gr x W0).heap[k]? := fun k hk => by rw [hW]; exact World.putObj_heap_other hk
   have hsz : (W.putObj (w.heap.size + 1) (.loop { rec .ready none with state := .busy })).heap.size = (gr x W0).heap.size := by rw [hW]; simp [World.putObj]
   generalize W.putObj (w.heap.size + 1) (.loop { rec .ready none with state := .busy }) = Wb at hl2 hk2 hi2 hk3 hoth hsz |-
   refine wpIn_mono (hbody _ _ X i x W0 Wb hx hi2 (by omega) hlt0 hoth (fun b hb => ⟨hXlt b hb, fun e => nl (e ▸ hb)⟩) hsz) ?_
   have fin : ∀ (jump : Option Code) (W3 : World), KeepsFrom w.heap.size Wb W3 ->
     (Instr.endRound (w.heap.size + 1) jump).run P W3 = .ok (.bool jump.isNone) (W3.putObj (w.heap.size + 1) (.loop (rec (if jump.isNone then .ready else .done) jump))) /\
     W3.heap[w.heap.size + 1]? = some (.loop { rec .ready none with state := .busy }) /\
     (W3.putObj (w.heap.size + 1) (.loop (rec (if jump.isNone then .ready else .done) jump))).heap[w.heap.size + 1]? = some (.loop (rec (if jump.isNone then .ready else .done) jump)) /\
     (W3.putObj (w.heap.size + 1) (.loop (rec (if jump.isNone then .ready else .done) jump))).heap[w.heap.size]? = some (.deferred (some [])) := fun jump W3 hk3 => by
    have hl3 := hk3.same _ _ (by omega) hl2 rfl
    have := run_endRound (P := P) jump hl3
    rw [hrec] at this |-
    exact ⟨this, by rw [hrec] at hl3; exact hl3, World.putObj_heap_same (Array.getElem?_eq_some_iff.1 hl3).1, (World.putObj_heap_other (by omega)).trans (hk3.same _ _ (Nat.le_refl _) hk2 rfl)⟩
   rintro e a3 W3 hp
   cases e with
   | normal =>
    obtain ⟨hf3, hkp3, hi3⟩ := hp
    obtain ⟨hr, hl3, hl4, hk4⟩ := fin none W3 hf3
    exact ⟨_, _, hr, .inl ⟨rfl, ⟨hI.step X _ W3 _ (some (w.heap.size + 1)) hi3 (grownBy_putObj' W3 _ _) (fun r e => by cases e; exact .inr ⟨by omega, _, hl3, rfl⟩), hl4, hk4, nl, nd⟩, (hk3.trans hkp3).trans (hput W3 _)⟩⟩
   | ret =>
    obtain ⟨hf3, hi3⟩ := hp
    obtain ⟨hr, hl3, hl4, hk4⟩ := fin (some .ret) W3 hf3
    exact ⟨_, _, hr, .inr ⟨rfl, .ret, (hIx _).putObj _ hi3 (by omega) hl3 rfl, hl4, hk4⟩⟩
   | exit id =>
    obtain ⟨hf3, hi3⟩ := hp
    obtain ⟨hr, hl3, hl4, hk4⟩ := fin (some (.exit id)) W3 hf3
    exact ⟨_, _, hr, .inr ⟨rfl, .exit id, (hIx _).putObj _ hi3 (by omega) hl3 rfl, hl4, hk4⟩⟩
   | goto t =>
    obtain ⟨hf3, hi3⟩ := hp
    obtain ⟨hr, hl3, hl4, hk4⟩ := fin (some (.goto t)) W3 hf3
    exact ⟨_, _, hr, .inr ⟨rfl, .goto t, (hIx _).putObj _ hi3 (by omega) hl3 rfl, hl4, hk4⟩⟩
   | panic ch => exact hp.elim
   | outgrown => exact hp.elim
  ·rintro e W2 ⟨⟨v, rfl⟩, (⟨X, hi, hl, hk, -, -⟩ | ⟨i, c, hi, hl, hk⟩)⟩
   ·exact ⟨none, _, by have := run_endLoop (P := P) hl (by rw [hrec]; simp); rw [hrec] at this; exact this, hdone _ X _ (Nat.le_refl _) (hI.step X _ W2 _ (some (w.heap.size + 1)) hi (grownBy_putObj' W2 _ _) (fun r e => by cases e; exact .inr ⟨by omega, _, hl, rfl⟩)) ((World.putObj_heap_other (by omega)).trans hk)⟩
   ·exact ⟨some c, _, by have := run_endLoop (P := P) hl (by rw [hrec]; simp); rw [hrec] at this; exact this, hstop _ c i _ (Nat.le_refl _) ((hIx c).putObj _ hi (by omega) hl rfl) ((World.putObj_heap_other (by omega)).trans hk)⟩
end Go.Proofs.YtipbhdhiklmieaaGreatDoor
namespace Go.Proofs.YtipbhdhiklmieaaGreatDoor
open Go.RowKit
section
variable {F : Fence} {n : Nat} {P : Program} {ops : Array Oper} {Q : Exit -> Act -> World -> Prop} {S : Array Bool -> World -> Prop}
def AnyS (F : Fence) (n : Nat) (P : Program) (ops : Array Oper) (Q : Exit -> Act -> World -> Prop) (S : Array Bool -> World -> Prop) : Nat -> Array Bool -> Act -> World -> Prop
 | 0, listed, a, w => Region.ready .any ops listed = [] /\ Q .normal a w
 | k + 1, listed, a, w => (Region.ready .any ops listed = [] -> Q .normal a w) /\
   ∀ i ∈ Region.ready .any ops listed, wpOpIn F n P ops Q i (fun a' w' => S (listed.setIfInBounds i true) w' /\ AnyS F n P ops Q S k (listed.setIfInBounds i true) a' w') a w
theorem AnyS.plain : ∀ (k : Nat) (listed : Array Bool) (a : Act) (w : World), AnyS F n P ops Q S k listed a w -> wpAnyIn F n P .any ops Q k listed a w
 | 0, _, _, _, h => h
 | k + 1, _, _, _, h => ⟨h.1, fun i hi => wpOpIn_mono (fun a' w' h' => AnyS.plain k _ a' w' h'.2) (h.2 i hi)⟩
def Closed (ops : Array Oper) (l : Array Bool) : Prop := ∀ j oj, ops[j]? = some oj -> l.getD j true = true -> ∀ e ∈ oj.after, Region.binds .any e = true -> l.getD e.on true = true
def closedB (ops : Array Oper) (l : Array Bool) : Bool := (List.range ops.size).all fun j => match ops[j]? with
 | some oj => !(l.getD j true) || oj.after.toList.all fun e => !(Region.binds .any e) || l.getD e.on true
 | none => true
theorem closed_of {l : Array Bool} (h : closedB ops l = true) : Closed ops l := by
 intro j oj hj hl e he hb
 have hlt : j < ops.size := (Array.getElem?_eq_some_iff.1 hj).1
 have := List.all_eq_true.1 h j (List.mem_range.2 hlt)
 rw [hj] at this
 simp only [hl, Bool.not_true, Bool.false_or] at this
 have h2 := List.all_eq_true.1 this e (by simpa using he)
 simpa [hb] using h2
def roadB (ops : Array Oper) : List Nat -> Bool
 | i :: j :: r => (match ops[j]? with | some oj => oj.after.toList.any fun e => Region.binds .any e && e.on == i | none => false) && roadB ops (j :: r)
 | _ => true
theorem road_up {l : Array Bool} (hc : Closed ops l) : ∀ (r : List Nat) (i s : Nat), roadB ops (i :: r) = true -> (i :: r).getLast? = some s -> l.getD s true = true -> l.getD i true = true
 | [], i, s, _, hl, h => by cases hl; exact h
 | j :: r, i, s, hr, hl, h => by
  rw [roadB, Bool.and_eq_true] at hr
  have hj := road_up hc r j s hr.2 (by rw [List.getLast?_cons_cons] at hl; exact hl) h
  have h1 := hr.1
  cases ho : ops[j]? with
  | none => rw [ho] at h1; cases h1
  | some oj =>
   rw [ho] at h1
   obtain ⟨e, he1, he2⟩ := List.any_eq_true.1 h1
   simp only [Bool.and_eq_true, beq_iff_eq] at he2
   have := hc j oj ho hj e (by simpa using he1) he2.1
   rw [he2.2] at this
   exact this
def Bef (ops : Array Oper) (S : Array Bool -> World -> Prop) (i : Nat) (w : World) : Prop := ∃ l : Array Bool, Closed ops l /\ l.getD i true = false /\ S l w
theorem AnyS.first (hF : ∀ f, F.fn f) (hp : plainOps ops = true) {i : Nat} {oi : Oper} {v : Value} (hi : ops[i]? = some oi) (hQ : ∀ c a w, Q (.panic c) (a.put oi.dst v) w -> Q (.panic c) a w)
  (hSi : ∀ l w, S (l.setIfInBounds i true) w ↔ S l w) :
  ∀ (k : Nat) (listed : Array Bool) (a : Act) (w : World),
   (∀ j oj, ops[j]? = some oj -> j ≠ i -> listed.getD j true = false -> (∀ e ∈ oj.after, Region.binds .any e = true -> e.on ≠ i) -> oi.apart ops oj = true) ->
   i ∈ Region.ready .any ops listed -> Closed ops listed -> Tells P ops (Bef ops S i) oi v a -> S listed w ->
   AnyS F n P ops Q S k (listed.setIfInBounds i true) (a.put oi.dst v) w -> AnyS F n P ops Q S (k + 1) listed a w
 | k, listed, a, w, hfree, hr, hop, hy, hS, H => by
  refine ⟨fun h => (by rw [h] at hr; cases hr), fun j hj => ?_⟩
  by_cases hji : j = i
  ·subst hji; exact hy.op hF hi (plainOps_at hp hi).1 ⟨listed, hop, by simpa using (mem_ready.1 hr).1, hS⟩ ⟨(hSi _ _).2 hS, H⟩
  ·cases k with
   | zero => have := ready_mono hj hji; rw [H.1] at this; cases this
   | succ k =>
    obtain ⟨hjun, oj, hoj, hall⟩ := mem_ready.1 hj
    have hnot : ∀ e ∈ oj.after, Region.binds .any e = true -> e.on ≠ i := fun e he hb heq => by
     have h1 := hall e he hb
     have h0 := (mem_ready.1 hr).1
     rw [heq] at h1
     rcases Nat.lt_or_ge i listed.size with h' | h'
     ·simp [h'] at h0 h1; rw [h0] at h1; cases h1
     ·simp [Array.getElem?_eq_none h'] at h1
    have h2 := op_later hF hoj (hfree j oj hoj hji hjun hnot) (plainOps_at hp hi) (plainOps_at hp hoj) hQ hy (H.2 j (ready_mono hj hji))
    refine wpOpIn_mono (fun a' w' h3 => ?_) h2
    have hS2 : S (listed.setIfInBounds j true) w' := by
     have := h3.2.1
     rw [<- Array.setIfInBounds_comm _ _ hji] at this
     exact (hSi _ _).1 this
    have hop2 : Closed ops (listed.setIfInBounds j true) := by
     intro x ox hx hl e he hb
     by_cases hxj : e.on = j
     ·rw [hxj]
      have hjl : j < listed.size := by
       rcases Nat.lt_or_ge j listed.size with h' | h'
       ·exact h'
       ·rw [Array.getD_eq_getD_getElem?, Array.getElem?_eq_none h'] at hjun; cases hjun
      simp [hjl]
     ·rw [getD_set_ne true (Ne.symm hxj)]
      by_cases hjx : j = x
      ·subst hjx
       rw [hoj] at hx
       cases hx
       have h9 := hall e he hb
       simp only [Array.getD_eq_getD_getElem?] at h9 |-
       cases hh : listed[e.on]? with
       | none => rfl
       | some z => rw [hh] at h9; exact h9
      ·rw [getD_set_ne true hjx] at hl
       exact hop x ox hx hl e he hb
    refine ⟨hS2, AnyS.first hF hp hi hQ hSi k _ a' w' (fun x ox hx hxi hun hno => hfree x ox hx hxi ?_ hno) (ready_mono hr (Ne.symm hji)) hop2 h3.1 hS2 ?_⟩
    ·by_cases hjx : j = x
     ·subst hjx; exact hjun
     ·rw [getD_set_ne true hjx] at hun; exact hun
    ·rw [Array.setIfInBounds_comm _ _ hji]; exact h3.2.2
theorem AnyS.take (hF : ∀ f, F.fn f) {i : Nat} {oi : Oper} {v : Value} {k : Nat} {listed : Array Bool} {a : Act} {w : World} (hi : ops[i]? = some oi) (hp : plainOps ops = true) (hf : Region.free .any ops listed i = true)
  (hr : (Region.ready .any ops listed).contains i = true) (ho : closedB ops listed = true) (hQ : ∀ c a w, Q (.panic c) (a.put oi.dst v) w -> Q (.panic c) a w) (hSi : ∀ l w, S (l.setIfInBounds i true) w ↔ S l w) (hy : Tells P ops (Bef ops S i) oi v a) (hS : S listed w)
  (h : AnyS F n P ops Q S k (listed.setIfInBounds i true) (a.put oi.dst v) w) : AnyS F n P ops Q S (k + 1) listed a w :=
 AnyS.first hF hp hi hQ hSi k listed a w (Region.free_spec hi hf) (by simpa using hr) (closed_of ho) hy hS h
def Til (s : Nat) (T : World -> Prop) (l : Array Bool) (w : World) : Prop := l.getD s true = false -> T w
theorem til_set {s i : Nat} (h : i ≠ s) (T : World -> Prop) (l : Array Bool) (w : World) : Til s T (l.setIfInBounds i true) w ↔ Til s T l w := by
 unfold Til
 rw [getD_set_ne true h]
theorem AnyS.tk (i : Nat) (v : Value) (hF : ∀ f, F.fn f) {s : Nat} {T : World -> Prop} {oi : Oper} {k : Nat} {listed : Array Bool} {a : Act} {w : World} (hi : ops[i]? = some oi) (hy : Tells P ops (Bef ops (Til s T) i) oi v a) (hS : Til s T listed w)
  (h : AnyS F n P ops Q (Til s T) k (listed.setIfInBounds i true) (a.put oi.dst v) w) (hp : plainOps ops = true := by kernel_rfl) (hf : Region.free .any ops listed i = true := by kernel_rfl)
  (hr : (Region.ready .any ops listed).contains i = true := by kernel_rfl) (ho : closedB ops listed = true := by kernel_rfl) (hQ : ∀ c a w, Q (.panic c) (a.put oi.dst v) w -> Q (.panic c) a w := by exact fun _ _ _ h => h) (hn : i ≠ s := by decide) : AnyS F n P ops Q (Til s T) (k + 1) listed a w :=
 AnyS.take hF hi hp hf hr ho hQ (til_set hn T) hy hS h
theorem til_tells {s i : Nat} (r : List Nat) {o : Oper} {v : Value} {a : Act} {T : World -> Prop} (hb : roadB ops (i :: r) = true) (hs : (i :: r).getLast? = some s)
  (hw : Region.wanted o (yielded ops a.tmps) = true) (h : ∀ w, T w -> (execOp a.eval o).run P w = .ok (.value v) w) : Tells P ops (Bef ops (Til s T) i) o v a := by
 refine .inl ⟨hw, fun w hB => ?_⟩
 obtain ⟨l, hcl, hi, hT⟩ := hB
 refine h w (hT ?_)
 cases hl : l.getD s true with
 | false => rfl
 | true => rw [road_up hcl r i s hb hs hl] at hi; cases hi
theorem AnyS.one {i : Nat} {o : Oper} {k : Nat} {listed : Array Bool} {a : Act} {w : World} (hr : Region.ready .any ops listed = [i]) (ho : ops[i]? = some o) (hw : Region.wanted o (yielded ops a.tmps) = true)
  (h : ∀ K : Act -> World -> Prop, (∀ a' w', S (listed.setIfInBounds i true) w' -> AnyS F n P ops Q S k (listed.setIfInBounds i true) a' w' -> K a' w') -> Oper.wpIn F n P o a w K Q) : AnyS F n P ops Q S (k + 1) listed a w := by
 refine ⟨fun h0 => (by rw [hr] at h0; cases h0), fun j hj => ?_⟩
 rw [hr] at hj
 obtain rfl : j = i := by simpa using hj
 refine wpOpIn_step ho fun K hK => ?_
 rw [if_pos hw]
 exact h K fun a' w' h1 h2 => hK a' w' ⟨h1, h2⟩
theorem AnyS.done {k : Nat} {listed : Array Bool} {a : Act} {w : World} (hr : Region.ready .any ops listed = []) (h : Q .normal a w) : AnyS F n P ops Q S k listed a w := by
 cases k with
 | zero => exact ⟨hr, h⟩
 | succ k => exact ⟨fun _ => h, by rw [hr]; simp⟩
theorem region_pickS {id : Nat} {a : Act} {w : World} (S : Array Bool -> World -> Prop) (hm : P.follows .mixedOrders = true)
  (h : AnyS F n P ops (nrm Q) S ops.size (Array.replicate ops.size false) a w.drew) : (Code.region id ops true).wpIn F n P Q a w :=
 Go.wpIn_mono (wpIn_region_any hm (AnyS.plain _ _ _ _ h)) fun e a w hq => by
  cases e with
  | normal => exact hq
  | _ => exact hq.elim
end
end Go.Proofs.YtipbhdhiklmieaaGreatDoor
namespace Go.Proofs.YtipbhdhiklmieaaGreatDoor
open Go.RowKit Go.Shelf
attribute [local go_sem] Oper.semAt_some
def pAt (p : Pl) (k : Nat) : Pl := if k = 0 then p else ⟨p.i + k, 0⟩
theorem pAt_i (p : Pl) (k : Nat) : (pAt p k).i = p.i + k := by
 unfold pAt
 split
 ·rename_i h; rw [h]; rfl
 ·rfl
def plsL (N : Nat) (p : Pl) : List Pl := (List.range (N - p.i)).map (pAt p)
theorem plsL_len (N : Nat) (p : Pl) : (plsL N p).length = N - p.i := by simp [plsL]
theorem plsL_at {N : Nat} {p : Pl} {k : Nat} (h : p.i + k < N) : (plsL N p)[k]? = some (pAt p k) := by
 unfold plsL
 rw [List.getElem?_map, List.getElem?_range (by omega)]
 rfl
theorem plsL_of {N : Nat} {p x : Pl} {k : Nat} (h : (plsL N p)[k]? = some x) : p.i + k < N /\ x = pAt p k := by
 have hl := (List.getElem?_eq_some_iff.1 h).1
 rw [plsL_len] at hl
 rw [plsL_at (by omega)] at h
 cases h
 exact ⟨by omega, rfl⟩
def encP (x : Pl) : Array Value := #[x.v]
def RP (Bp Bw wb b : Nat) : Prop := b = Bp \/ b = Bw \/ b = wb
def bxI (w : World) : Value -> Nat
 | .pointer (some a) => (match w.cell? a with | some (.int _ i) => i.toNat | _ => 0)
 | _ => 0
theorem bxI_of {w : World} {b : Nat} {i k : Int} (h : Bx w b i k) : bxI w (.pointer (some ⟨b, 0, none⟩)) = i.toNat := by
 have := h.cell 0
 simp at this
 simp [bxI, this]
theorem places_in (n wb : Nat) (p : Pl) (w : World) :
  CallsIn Fence.wide n Tryz.prog 140 #[.pointer (some ⟨wb, 0, none⟩), p.v] w fun e w' => e = .returned (.func (.func 170) #[] #[.pointer (some ⟨w.heap.size + 1, 0, none⟩), .pointer (some ⟨w.heap.size, 0, none⟩)]) /\ w' = (w.alloc (.cells #[.pointer (some ⟨wb, 0, none⟩)] 93)).alloc (.cells #[.int .i64 (p.i : Nat), .int .i64 (p.k : Nat)] 60) := by
 refine callsIn_of_wp Tryz.func140 rfl trivial ?_ rfl
 simp only [Tryz.ntmps140, frm, Nat.reduceAdd, Nat.reduceSub]
 gi_wp2
 go_ret
 exact ⟨rfl, rfl⟩
theorem places1_in (n l Bp Bw wb N c : Nat) (q : Option Addr) (p : Pl) (hp : p.i <= N) (hN : N <= 1048576) (J : (Nat -> Prop) -> Nat -> World -> Prop) (Jx : Nat -> World -> Prop) (W : World)
  (c1 : Bx W Bp (p.i : Nat) (p.k : Nat)) (c2 : W.cell? ⟨Bw, 0, none⟩ = some (.pointer (some ⟨wb, 0, none⟩))) (c3 : W.cell? ⟨wb, 0, none⟩ = some (.slice q N c)) (hJ : Abo W.heap.size J)
  (hY : ∀ (m : Nat) (X : Nat -> Prop) (i : Nat) (x : Pl) (W1 : World), (plsL N p)[i]? = some x -> J X i W1 -> YieldAt Fence.wide m Tryz.prog l (encP x) W1 fun e W' =>
   (e = .returned (.bool true) /\ J X (i + 1) W' /\ Kq (orX (RP Bp Bw wb) X) W1 W') \/ (e = .returned (.bool false) /\ Jx (i + 1) W')) (h0 : J (fun _ => False) 0 W) :
  CallsIn Fence.wide n Tryz.prog 170 #[.func (.yield l) #[] #[], .pointer (some ⟨Bp, 0, none⟩), .pointer (some ⟨Bw, 0, none⟩)] W fun e W' => (∃ v, e = .returned v) /\ ((∃ X, J X (plsL N p).length W') \/ ∃ i, Jx i W') := by
 have HR : Hid (∀ b, RP Bp Bw wb b -> b < W.heap.size) := by
  rintro b (rfl | rfl | rfl)
  ·exact c1.lt
  ·exact World.block_lt_of_cell? W _ c2
  ·exact World.block_lt_of_cell? W _ c3
 have HA : Hid (Abo W.heap.size J) := hJ
 have HY : Hid _ := hY
 have x0 := c1.cell 0
 have x1 := c1.cell 1
 simp at x0 x1
 have HJ0 : Hid (J (fun b => b = W.heap.size) 0 (W.alloc (.cells #[.int .i64 (p.i : Nat), .int .i64 (p.k : Nat)] 60))) :=
  HA.out.less _ _ _ _ (HA.out.new _ _ _ _ none h0 (World.grownBy_alloc W _ none) (fun r e => by cases e)) (fun b hb => .inr ⟨by omega, by rw [hb]; simp⟩)
 have HK0 : Hid (Kq (RP Bp Bw wb) W (W.alloc (.cells #[.int .i64 (p.i : Nat), .int .i64 (p.k : Nat)] 60))) := Kq.grown (World.grownBy_alloc W _ none) (fun b hb => ⟨HR.out b hb, by simp⟩)
 have HB0 : Hid (Bx (W.alloc (.cells #[.int .i64 (p.i : Nat), .int .i64 (p.k : Nat)] 60)) W.heap.size (p.i : Nat) (p.k : Nat)) := Bx.new W _ _
 rw [plsL_len]
 clear hJ hY h0 c1
 refine callsIn_of_wp Tryz.func170 rfl trivial ?_ rfl
 simp only [Tryz.ntmps170, frm, Nat.reduceAdd, Nat.reduceSub]
 gi_wp2
 gi_loopw [4] (fun qv wr => ∃ (k b : Nat), qv = .pointer (some ⟨b, 0, none⟩) /\ Hid (p.i + k <= N /\ W.heap.size <= b /\ b < wr.heap.size /\ Bx wr b ((pAt p k).i : Nat) ((pAt p k).k : Nat) /\ J (fun x => x = b) k wr /\ Kq (RP Bp Bw wb) W wr)) (fun qv wr => N - bxI wr qv)
 case atStart => exact ⟨0, W.heap.size, rfl, by omega, Nat.le_refl _, by simp, HB0.out, HJ0.out, HK0.out⟩
 case round =>
  obtain ⟨k, b, rfl, HI⟩ := hrel
  clear HJ0 HK0 HB0
  obtain ⟨h1, h2, h2', h3, h4, h5⟩ := HI.out
  have d2 := (World.cell?_of_block (a := ⟨Bw, 0, none⟩) (h5.same Bw (.inr (.inl rfl)))).trans c2
  have d3 := (World.cell?_of_block (a := ⟨wb, 0, none⟩) (h5.same wb (.inr (.inr rfl)))).trans c3
  have y0 := h3.cell 0
  have y1 := h3.cell 1
  simp at y0 y1
  have HN : Hid (p.i + k < N \/ ¬ p.i + k < N) := Classical.em _
  have T0 : Bx wr.drew b ((pAt p k).i : Nat) ((pAt p k).k : Nat) /\ wr.drew.cell? ⟨Bw, 0, none⟩ = some (.pointer (some ⟨wb, 0, none⟩)) /\ wr.drew.cell? ⟨wb, 0, none⟩ = some (.slice q N c) := ⟨h3, d2, d3⟩
  have hJd : J (fun x => x = b) k wr.drew := HA.out.drew h4
  have hKd : Kq (RP Bp Bw wb) W wr.drew := h5.trans ⟨Nat.le_refl _, fun _ _ => rfl⟩
  have hpi := pAt_i p k
  by_cases hlt : p.i + k < N
  ·have Y := HY.out (n - 1) (fun x => x = b) k (pAt p k) wr.drew (plsL_at hlt) hJd
   simp only [encP, Pl.v] at Y
   obtain ⟨fn, tmps, assign, body, hy, hR⟩ := Y
   have e1 : ((pAt p k).i : Int) < (N : Int) := by omega
   have e2 : decide (((pAt p k).i : Int) < (N : Int)) = true := decide_eq_true e1
   have e3 : (pAt p k).i < N := by omega
   have HP : Hid ((pAt p k).i = p.i + k) := hpi
   have HE : Hid (((pAt p k).i : Int) + 1 = ((pAt p (k + 1)).i : Nat)) := by
    show _ = _
    rw [pAt_i, pAt_i]; omega
   have hki : ((pAt p k).i : Int) <= 1048576 := by omega
   have HM : Hid (bxI wr (.pointer (some ⟨b, 0, none⟩)) = (pAt p k).i) := by
    show _ = _
    rw [bxI_of h3]
    simp
   clear hpi HI h3 h4 h5 d2 d3 y0 y1 c2 c3 x0 x1 HY HN
   generalize (pAt p k).i = pi at *
   generalize (pAt p k).k = pk at *
   gi_wp2
   refine region_pickS (Til 11 (fun w' => Bx w' b (pi : Nat) (pk : Nat) /\ w'.cell? ⟨Bw, 0, none⟩ = some (.pointer (some ⟨wb, 0, none⟩)) /\ w'.cell? ⟨wb, 0, none⟩ = some (.slice q N c))) (by kernel_rfl) ?_
   show AnyS _ _ _ _ _ _ 13 _ ⟨#[_,_,_,_,_,_,_,_,_,_,_,_,_,_,_,_,_,_,_,_,_,_,_,_], []⟩ wr.drew
   refine .tk 0 (.pointer (some ⟨b, 0, none⟩)) wideF rfl (.inl ⟨rfl, fun w _ => by go_simp⟩) (fun _ => T0) ?_
   refine .tk 1 (.int .i64 (pi : Nat)) wideF rfl (til_tells (s := 11) [7, 8, 11] (by kernel_rfl) rfl rfl (fun w hw => by have a1 := hw.1.cell 0; simp at a1; go_simp)) (fun _ => T0) ?_
   refine .tk 2 (.pointer (some ⟨wb, 0, none⟩)) wideF rfl (til_tells (s := 11) [3, 4, 5, 6, 7, 8, 11] (by kernel_rfl) rfl rfl (fun w hw => by have a1 := hw.2.1; go_simp)) (fun _ => T0) ?_
   refine .tk 3 (.pointer (some ⟨wb, 0, none⟩)) wideF rfl (.inl ⟨rfl, fun w _ => by go_simp⟩) (fun _ => T0) ?_
   refine .tk 4 (.pointer (some ⟨wb, 0, none⟩)) wideF rfl (.inl ⟨rfl, fun w _ => by go_simp⟩) (fun _ => T0) ?_
   refine .tk 5 (.slice q N c) wideF rfl (til_tells (s := 11) [6, 7, 8, 11] (by kernel_rfl) rfl rfl (fun w hw => by have a1 := hw.2.2; go_simp)) (fun _ => T0) ?_
   show AnyS _ _ _ _ _ _ 7 _ ⟨#[_,_,_,_,_,_,_,_,_,_,_,_,_,_,_,_,_,_,_,_,_,_,_,_], []⟩ _
   refine .tk 6 (.int .i64 (N : Nat)) wideF rfl (.inl ⟨rfl, fun w _ => by go_simp⟩) (fun _ => T0) ?_
   refine .tk 7 (.bool true) wideF rfl (.inl ⟨rfl, fun w _ => by go_simp⟩) (fun _ => T0) ?_
   refine .tk 8 (.bool true) wideF rfl (.inl ⟨rfl, fun w _ => by go_simp⟩) (fun _ => T0) ?_
   refine .tk 9 (.func (.yield l) #[] #[]) wideF rfl (.inl ⟨rfl, fun w _ => by go_simp⟩) (fun _ => T0) ?_
   refine .tk 10 (.agg #[.int .i64 (pi : Nat), .int .i64 (pk : Nat)]) wideF rfl (til_tells (s := 11) [11] (by kernel_rfl) rfl rfl (fun w hw => by have a1 := hw.1.cell 0; have a2 := hw.1.cell 1; simp at a1 a2; go_simp)) (fun _ => T0) ?_
   refine AnyS.one (i := 11) (by kernel_rfl) rfl rfl (fun K hK => ?_)
   go_simp
   refine ⟨(fun h => by cases h), hR.mono ?_⟩
   rintro e3 W3 (⟨rfl, hJ3, hk3⟩ | ⟨rfl, hJx3⟩)
   ·refine hK _ _ (fun h => by cases h) ?_
    clear hR hy hK K
    show AnyS _ _ _ _ _ _ 1 _ ⟨#[_,_,_,_,_,_,_,_,_,_,_,_,_,_,_,_,_,_,_,_,_,_,_,_], []⟩ W3
    refine AnyS.take (i := 12) (v := (.bool true)) wideF rfl (by kernel_rfl) (by kernel_rfl) (by kernel_rfl) (by kernel_rfl) (fun _ _ _ h => h) (til_set (by decide) _) (.inl ⟨rfl, fun w _ => by go_simp⟩) (fun h => by cases h) ?_
    refine AnyS.done (by kernel_rfl) ?_
    rename_i Kb hKb
    have B3 : Bx W3 b (pi : Nat) (pk : Nat) := (hk3.same b (.inr rfl)).trans T0.1
    have z0 := B3.cell 0
    have f0 := B3.frozen 0
    have f1 := B3.frozen 1
    have z1 := B3.cell 1
    simp at z0 z1
    have hb3 : b < W3.heap.size := B3.lt
    have hK3 : Kq (RP Bp Bw wb) W W3 := hKd.trans (hk3.less (fun b hb => .inl hb))
    have HF : Hid (∀ v : Int, v = (pi : Int) + 1 -> Bx (((W3.setCell ⟨b, 0, none⟩ (.int .i64 v)).setCell ⟨b, 1, none⟩ (.int .i64 0)).alloc (.cells #[.int .i64 v, .int .i64 0] 60)) W3.heap.size v 0 /\
      J (fun x => x = W3.heap.size) (k + 1) (((W3.setCell ⟨b, 0, none⟩ (.int .i64 v)).setCell ⟨b, 1, none⟩ (.int .i64 0)).alloc (.cells #[.int .i64 v, .int .i64 0] 60)) /\
      Kq (RP Bp Bw wb) W (((W3.setCell ⟨b, 0, none⟩ (.int .i64 v)).setCell ⟨b, 1, none⟩ (.int .i64 0)).alloc (.cells #[.int .i64 v, .int .i64 0] 60))) := fun v hv => by
     have g1 : W3.grownBy (W3.setCell ⟨b, 0, none⟩ (.int .i64 v)) (some b) := ⟨rfl, rfl, rfl, by simp [World.setCell], fun j hj hne => Below.heap_setCell _ _ _ _ (fun e => hne (by rw [e]))⟩
     have g2 : (W3.setCell ⟨b, 0, none⟩ (.int .i64 v)).grownBy ((W3.setCell ⟨b, 0, none⟩ (.int .i64 v)).setCell ⟨b, 1, none⟩ (.int .i64 0)) (some b) := ⟨rfl, rfl, rfl, by simp [World.setCell], fun j hj hne => Below.heap_setCell _ _ _ _ (fun e => hne (by rw [e]))⟩
     have j1 := HA.out.step _ _ _ _ _ hJ3 g1 (fun r e => by cases e; exact .inl rfl)
     have j2 := HA.out.step _ _ _ _ _ j1 g2 (fun r e => by cases e; exact .inl rfl)
     have hs : ((W3.setCell ⟨b, 0, none⟩ (.int .i64 v)).setCell ⟨b, 1, none⟩ (.int .i64 0)).heap.size = W3.heap.size := by simp [World.setCell]
     have j3 := HA.out.new _ _ _ _ none j2 (World.grownBy_alloc _ (.cells #[.int .i64 v, .int .i64 0] 60) none) (fun r e => by cases e)
     have hne : ∀ x, RP Bp Bw wb x -> x ≠ b := fun x hx e => by have := HR.out x hx; omega
     refine ⟨?_, HA.out.less _ _ _ _ j3 (fun x hx => .inr ⟨by rw [hs]; omega, by rw [World.size_alloc, hs]; omega⟩), hK3.trans ⟨by rw [World.size_alloc, hs]; omega, fun x hx => ?_⟩⟩
     ·have := Bx.new ((W3.setCell ⟨b, 0, none⟩ (.int .i64 v)).setCell ⟨b, 1, none⟩ (.int .i64 0)) v 0
      rw [hs] at this
      exact this
     ·have hx1 := HR.out x hx
      have hx2 := hK3.size
      rw [Below.heap_alloc _ _ _ (by rw [hs]; omega), Below.heap_setCell _ _ _ _ (hne x hx), Below.heap_setCell _ _ _ _ (hne x hx)]
    have hs3 : W3.heap.size >= b + 1 := by omega
    have hWs : W.heap.size <= W3.heap.size := hK3.size
    clear hJ3 hk3 T0 hJd hKd B3 hK3 HR HA
    refine hKb _ _ ?_
    clear hKb
    gi_wp2
    go_roundw
    case rel =>
     obtain ⟨r1, r2, r3⟩ := HF.out ((pi : Int) + 1) rfl
     refine ⟨k + 1, W3.heap.size, by simp [World.setCell], by omega, hWs, by simp [World.setCell], ?_, r2, r3⟩
     rw [<- HE.out, show (pAt p (k + 1)).k = 0 by unfold pAt; rw [if_neg (by omega)]]
     exact r1
    case measure =>
     obtain ⟨r1, r2, r3⟩ := HF.out ((pi : Int) + 1) rfl
     have m1 := bxI_of r1
     have m2 := HM.out
     simp only [World.size_alloc, World.setCell, Array.size_modify] at m1 |-
     rw [m2]
     first | (rw [m1]; omega) | trace_state
   ·refine hK _ _ (fun h => by cases h) ?_
    clear hR hy hK K
    show AnyS _ _ _ _ _ _ 1 _ ⟨#[_,_,_,_,_,_,_,_,_,_,_,_,_,_,_,_,_,_,_,_,_,_,_,_], []⟩ W3
    refine AnyS.take (i := 12) (v := (.bool false)) wideF rfl (by kernel_rfl) (by kernel_rfl) (by kernel_rfl) (by kernel_rfl) (fun _ _ _ h => h) (til_set (by decide) _) (.inl ⟨rfl, fun w _ => by go_simp⟩) (fun h => by cases h) ?_
    refine AnyS.done (by kernel_rfl) ?_
    rename_i Kb hKb
    refine hKb _ _ ?_
    clear hKb
    gi_wp2
    go_end0
    exact ⟨⟨_, rfl⟩, .inr ⟨_, hJx3⟩⟩
  ·have e1 : ¬ ((pAt p k).i : Int) < (N : Int) := by omega
   have e2 : decide (((pAt p k).i : Int) < (N : Int)) = false := decide_eq_false e1
   have hkN : k = N - p.i := by omega
   have HZ : Hid (J (fun x => x = b) (N - p.i) wr.drew) := by rw [<- hkN]; exact hJd
   clear hpi HI h3 h4 h5 d2 d3 y0 y1 c2 c3 x0 x1 HY HN hJd hKd
   generalize (pAt p k).i = pi at *
   generalize (pAt p k).k = pk at *
   gi_wp2
   refine region_pickN (fun w' => Bx w' b (pi : Nat) (pk : Nat) /\ w'.cell? ⟨Bw, 0, none⟩ = some (.pointer (some ⟨wb, 0, none⟩)) /\ w'.cell? ⟨wb, 0, none⟩ = some (.slice q N c)) (by kernel_rfl) ?_
   show Any _ _ _ _ _ _ 13 _ ⟨#[_,_,_,_,_,_,_,_,_,_,_,_,_,_,_,_,_,_,_,_,_,_,_,_], []⟩ wr.drew
   refine .tp 0 (.pointer (some ⟨b, 0, none⟩)) T0 ?_
   refine .tl 1 (.int .i64 (pi : Nat)) rfl (fun w hw => by have a1 := hw.1.cell 0; simp at a1; go_simp) T0 ?_
   refine .tl 2 (.pointer (some ⟨wb, 0, none⟩)) rfl (fun w hw => by have a1 := hw.2.1; go_simp) T0 ?_
   refine .tp 3 (.pointer (some ⟨wb, 0, none⟩)) T0 ?_
   refine .tp 4 (.pointer (some ⟨wb, 0, none⟩)) T0 ?_
   refine .tl 5 (.slice q N c) rfl (fun w hw => by have a1 := hw.2.2; go_simp) T0 ?_
   show Any _ _ _ _ _ _ 7 _ ⟨#[_,_,_,_,_,_,_,_,_,_,_,_,_,_,_,_,_,_,_,_,_,_,_,_], []⟩ _
   refine .tp 6 (.int .i64 (N : Nat)) T0 ?_
   refine .tl 7 (.bool false) rfl (fun w _ => by (go_simp; omega)) T0 ?_
   refine .tp 8 (.bool false) T0 ?_
   refine .ts 9 T0 ?_
   refine .ts 10 T0 ?_
   refine .ts 11 T0 ?_
   show Any _ _ _ _ _ _ 1 _ ⟨#[_,_,_,_,_,_,_,_,_,_,_,_,_,_,_,_,_,_,_,_,_,_,_,_], []⟩ _
   refine .tp 12 (.bool false) T0 ?_
   refine Any.done (by kernel_rfl) ?_
   rename_i Kb hKb
   refine hKb _ _ ?_
   clear hKb
   gi_wp2
   go_end0
   exact ⟨⟨_, rfl⟩, .inl ⟨_, HZ.out⟩⟩
theorem places_seq (n Bp Bw wb N c : Nat) (q : Option Addr) (p : Pl) (hp : p.i <= N) (hN : N <= 1048576) (w : World)
  (c1 : Bx w Bp (p.i : Nat) (p.k : Nat)) (c2 : w.cell? ⟨Bw, 0, none⟩ = some (.pointer (some ⟨wb, 0, none⟩))) (c3 : w.cell? ⟨wb, 0, none⟩ = some (.slice q N c)) :
  SeqO n Tryz.prog 170 #[.pointer (some ⟨Bp, 0, none⟩), .pointer (some ⟨Bw, 0, none⟩)] encP (plsL N p) (RP Bp Bw wb) w := fun l J Jx W hW _ hJ hY h0 =>
 places1_in n l Bp Bw wb N c q p hp hN J Jx W (c1.on hW) ((hW.cell (p := ⟨Bw, 0, none⟩) (World.block_lt_of_cell? w _ c2)).trans c2) ((hW.cell (p := ⟨wb, 0, none⟩) (World.block_lt_of_cell? w _ c3)).trans c3) hJ hY h0
end Go.Proofs.YtipbhdhiklmieaaGreatDoor
namespace Go.Proofs.YtipbhdhiklmieaaGreatDoor
open Go.RowKit Go.Shelf
structure Ib (w : World) (n1 : Nat) (Bx : Nat -> World -> Prop) (X : Nat -> Prop) (i : Nat) (W : World) : Prop where
 sz : n1 <= W.heap.size
 bel : Below w.heap.size w W
 own : ∀ b, X b -> n1 <= b /\ b < W.heap.size
 bx : Bx i W
theorem Ib.abo {w : World} {n1 : Nat} {Bx : Nat -> World -> Prop} (hn : w.heap.size <= n1) (hs : ∀ i (A B : World), (∀ k, k < n1 -> B.heap[k]? = A.heap[k]?) -> Bx i A -> Bx i B) : Abo n1 (Ib w n1 Bx) := by
 refine ⟨fun X i W W' row h hg hr => ?_, fun X i W W' row h hg hr => ?_, fun X Y i W h hY => ⟨h.sz, h.bel, fun b hb => h.own b (hY b hb), h.bx⟩, fun X i W b h hb => (h.own b hb).2⟩
 ·have hlow : ∀ r, row = some r -> n1 <= r := fun r e => by
   rcases hr r e with h' | ⟨h', -⟩
   ·exact (h.own r h').1
   ·exact h'
  have hsame : ∀ k, k < n1 -> W'.heap[k]? = W.heap[k]? := fun k hk => hg.block k (by have := h.sz; omega) (fun e => by have := hlow k e.symm; omega)
  exact ⟨Nat.le_trans h.sz hg.size, h.bel.grown hg h.bel.size (fun k e => by have := hlow k e; omega), fun b hb => ⟨(h.own b hb).1, Nat.lt_of_lt_of_le (h.own b hb).2 hg.size⟩, hs i W W' hsame h.bx⟩
 ·have hlow : ∀ r, row = some r -> n1 <= r := fun r e => (h.own r (hr r e)).1
  have hsame : ∀ k, k < n1 -> W'.heap[k]? = W.heap[k]? := fun k hk => hg.block k (by have := h.sz; omega) (fun e => by have := hlow k e.symm; omega)
  refine ⟨Nat.le_trans h.sz hg.size, h.bel.grown hg h.bel.size (fun k e => by have := hlow k e; omega), fun b hb => ?_, hs i W W' hsame h.bx⟩
  rcases hb with hb | ⟨h1, h2⟩
  ·exact ⟨(h.own b hb).1, Nat.lt_of_lt_of_le (h.own b hb).2 hg.size⟩
  ·exact ⟨by have := h.sz; omega, h2⟩
structure Qk (b : Nat) (A B : World) : Prop where
 os : B.os = A.os
 tape : B.tape = A.tape
 output : B.output = A.output
 size : A.heap.size <= B.heap.size
 same : ∀ k, k < A.heap.size -> k ≠ b -> B.heap[k]? = A.heap[k]?
theorem Qk.of {b : Nat} {A B : World} (h : Below A.heap.size A B) : Qk b A B := ⟨h.os, h.tape, h.output, h.size, fun k hk _ => h.block k hk⟩
theorem Qk.trans {b : Nat} {A B C : World} (h : Qk b A B) (k : Qk b B C) : Qk b A C :=
 ⟨k.os.trans h.os, k.tape.trans h.tape, k.output.trans h.output, Nat.le_trans h.size k.size, fun x hx hb => (k.same x (Nat.lt_of_lt_of_le hx h.size) hb).trans (h.same x hx hb)⟩
theorem Qk.set {b o : Nat} (A : World) (v : Value) : Qk b A (A.setCell ⟨b, o, none⟩ v) := ⟨rfl, rfl, rfl, by simp [World.setCell], fun k _ hb => Below.heap_setCell _ _ _ _ hb⟩
theorem Qk.below {b B : Nat} {w A C : World} (h : Qk b A C) (hB : Below B w A) (hb : B <= b) (hs : B <= A.heap.size) : Below B w C :=
 ⟨h.os.trans hB.os, h.tape.trans hB.tape, h.output.trans hB.output, Nat.le_trans hB.size h.size, fun k hk => (h.same k (by omega) (by omega)).trans (hB.block k hk)⟩
def postQ (B b : Nat) (I : Prop) (Ix : Code -> World -> Prop) (W : World) : Exit -> Act -> World -> Prop
 | .normal, _, W' => I /\ Qk b W W'
 | .ret, _, W' => KeepsFrom B W W' /\ Ix .ret W'
 | .exit id, _, W' => KeepsFrom B W W' /\ Ix (.exit id) W'
 | .goto t, _, W' => KeepsFrom B W W' /\ Ix (.goto t) W'
 | .panic _, _, _ => False
 | .outgrown, _, _ => False
theorem wpIn_rangeFuncQ {α : Type} {n : Nat} {P : Program} {g : Operand} {ps : Array Tmp} {assign body : Code} {Q : Exit -> Act -> World -> Prop} {a : Act} {w : World}
  {gf : Nat} {lb : Array Value} (hg : a.eval g = .func (.func gf) #[] lb) (eg : ∀ args w, (callFunc gf args).run P w = .ok (.enter gf args) w)
  {enc : α -> Array Value} {T : List α} {R : Nat -> Prop} {w0 : World} (hseq : SeqO (n - 1) P gf lb enc T R w0) (hR : ∀ b, R b -> b < w.heap.size)
  (hb0 : Below w0.heap.size w0 w) (hps : ∀ x, (enc x).size = ps.size)
  (I : Nat -> Prop) (Ix : Code -> World -> Prop) (hIx : ∀ c, OwnFrom w.heap.size (fun (_ : Nat) W => Ix c W)) (h0 : I 0)
  (ob : α -> Obj) (hob : ∀ x, (ob x).isCells = true) (a₁ : α -> Nat -> Act)
  (hassign : ∀ (m l : Nat) (x : α) (W : World) (K : Act -> World -> Prop), K (a₁ x W.heap.size) (W.alloc (ob x)) ->
   assign.wpIn (Fence.wide.inRound l) m P (Exit.then K (fun _ _ _ => False)) { tmps := (ps.zip (enc x)).foldl (fun t (p, v) => t.setIfInBounds p v) a.tmps, defers := [] } W)
  (hbody : ∀ (m l i b : Nat) (x : α) (W : World), T[i]? = some x -> I i -> Below w.heap.size w W -> w.heap.size <= b -> W.heap[b]? = some (ob x) ->
   body.wpIn (Fence.wide.inRound l) m P (postQ w.heap.size b (I (i + 1)) Ix W) (a₁ x b) W)
  (hdone : ∀ (D : Nat) (W : World), w.heap.size <= D -> I T.length -> Below w.heap.size w W -> W.heap[D]? = some (.deferred (some [])) -> Q .normal { a with defers := { target := .collected D, args := #[] } :: a.defers } W)
  (hstop : ∀ (D : Nat) (c : Code) (W : World), w.heap.size <= D -> Ix c W -> W.heap[D]? = some (.deferred (some [])) -> c.wpIn Fence.wide n P Q { a with defers := { target := .collected D, args := #[] } :: a.defers } W) :
  (Code.rangeFunc g ps assign body).wpIn Fence.wide n P Q a w := by
 refine wpIn_rangeFuncO hg eg hseq hR hb0 hps (Ib w w.heap.size (fun i _ => I i)) (fun c _ W => Ix c W) (Ib.abo (Nat.le_refl _) (fun _ _ _ _ h => h)) hIx ⟨Nat.le_refl _, Below.refl _ _, fun _ h => h.elim, h0⟩
  (fun x W => W.alloc (ob x)) (fun x W => World.grownBy_alloc W _ none) a₁ hassign ?_ (fun D X W hD hI hK => hdone D W hD hI.bx hI.bel hK) (fun D c i W hD hI hK => hstop D c W hD hI hK)
 intro m l X i x W0 W hx hI hl1 hl2 hoth hX hsz
 have hws : w.heap.size <= W0.heap.size := by omega
 have hb : W.heap[W0.heap.size]? = some (ob x) := (hoth _ (by omega)).trans (World.alloc_heap_new W0 _)
 refine wpIn_mono (hbody m l i W0.heap.size x W hx hI.bx hI.bel hws hb) ?_
 intro e a' W' hp
 cases e with
 | normal =>
  obtain ⟨hn, hq⟩ := hp
  refine ⟨⟨hq.size, fun k o hk ho hc => ?_⟩, ⟨hq.size, fun k hk => ?_⟩, Nat.le_trans hI.sz hq.size, hq.below hI.bel hws hI.sz, fun k hk => ⟨(hI.own k hk).1, Nat.lt_of_lt_of_le (hI.own k hk).2 hq.size⟩, hn⟩
  ·have hk2 : k ≠ W0.heap.size := fun e => by
    rw [e, hb] at ho
    cases ho
    rw [hob] at hc
    cases hc
   exact (hq.same k (Array.getElem?_eq_some_iff.1 ho).1 hk2).trans ho
  ·rcases hk with hk | hk
   ·have := hR k hk
    exact hq.same k (by have := hI.sz; omega) (by omega)
   ·have := hX k hk
    exact hq.same k (hI.own k hk).2 (by omega)
 | ret => exact hp
 | exit id => exact hp
 | goto t => exact hp
 | panic c => exact hp
 | outgrown => exact hp
def alls (w : World) (l : List Obj) : World := l.foldl World.alloc w
theorem alls_cons (w : World) (o : Obj) (l : List Obj) : alls w (o :: l) = alls (w.alloc o) l := rfl
theorem alls_size : ∀ (l : List Obj) (w : World), (alls w l).heap.size = w.heap.size + l.length
 | [], w => rfl
 | o :: l, w => by rw [alls_cons, alls_size l, World.size_alloc, List.length_cons]; omega
theorem alls_below : ∀ (l : List Obj) (w : World), Below w.heap.size w (alls w l)
 | [], w => Below.refl _ _
 | o :: l, w => (below_alloc w o).trans ((alls_below l (w.alloc o)).mono (by simp))
theorem alls_at : ∀ (l : List Obj) (w : World) (k : Nat) (o : Obj), l[k]? = some o -> (alls w l).heap[w.heap.size + k]? = some o
 | [], w, k, o, h => by cases h
 | x :: l, w, 0, o, h => by
  cases h
  rw [alls_cons, Nat.add_zero, (alls_below l (w.alloc x)).block _ (by simp)]
  exact World.alloc_heap_new w x
 | x :: l, w, k + 1, o, h => by
  rw [alls_cons]
  have := alls_at l (w.alloc x) k o h
  rw [World.size_alloc] at this
  rw [show w.heap.size + (k + 1) = w.heap.size + 1 + k by omega]
  exact this
def Sq (W w : World) : Prop := ∀ k, k < W.heap.size -> w.heap[k]? = W.heap[k]?
theorem Sq.cell {W w : World} (h : Sq W w) {a : Addr} {v : Value} (hc : W.cell? a = some v) : w.cell? a = some v := (World.cell?_of_block (h _ (World.block_lt_of_cell? W a hc))).trans hc
theorem Sq.drew (W : World) : Sq W W.drew := fun _ _ => rfl
theorem Sq.alloc {W w : World} (h : Sq W w) (hs : W.heap.size <= w.heap.size) (o : Obj) : Sq W (w.alloc o) := fun k hk => (Below.heap_alloc _ _ _ (by omega)).trans (h k hk)
def Bl (w : World) (b : Nat) (x : Ln) : Prop := w.heap[b]? = some (.cells #[.int .i64 x.n, .slice x.q x.t.length x.c] 44)
theorem Bl.cell {w : World} {b : Nat} {x : Ln} (h : Bl w b x) (o : Nat) : w.cell? ⟨b, o, none⟩ = (#[.int .i64 x.n, .slice x.q x.t.length x.c] : Array Value)[o]? := by
 show (match w.heap[b]? with | some (.cells c _ _) => c[o]? | _ => none) = _
 rw [show w.heap[b]? = _ from h]
theorem Bl.lt {w : World} {b : Nat} {x : Ln} (h : Bl w b x) : b < w.heap.size := (Array.getElem?_eq_some_iff.1 (show w.heap[b]? = _ from h)).1
theorem Bl.on {w w' : World} {b : Nat} {x : Ln} (h : Bl w b x) (hb : Below w.heap.size w w') : Bl w' b x := (hb.block b h.lt).trans h
theorem Bl.other {w : World} {b g o : Nat} {x : Ln} (h : Bl w b x) (v : Value) (hg : b ≠ g) : Bl (w.setCell ⟨g, o, none⟩ v) b x := (Below.heap_setCell _ _ _ _ hg).trans h
end Go.Proofs.YtipbhdhiklmieaaGreatDoor
