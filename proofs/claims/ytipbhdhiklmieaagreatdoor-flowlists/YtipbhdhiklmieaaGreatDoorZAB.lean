/- A range over a function that tells the elements of a known list in order, whose body may leave the loop early: the body knows which element it is at. -/
import Derived.Test.YtipbhdhiklmieaaGreatDoorZAA
import Derived.Deep.AppendLies
import Derived.RangeFuncBox
import Derived.Sort.QuietIn
import Derived.Deep.Quiet
set_option linter.all false
set_option maxRecDepth 100000
set_option maxHeartbeats 2000000
namespace Go.Proofs.YtipbhdhiklmieaaGreatDoor
open Go.RowKit Go.Shelf
def AbN (J : Nat -> World -> Prop) : Prop := ∀ s W W', J s W -> W.grownBy W' none -> J s W'
def SeqT {α : Type} (n : Nat) (P : Program) (g : Nat) (lb : Array Value) (enc : α -> Array Value) (T : List α) (Kp : World -> World -> Prop) (w : World) : Prop :=
 ∀ (l : Nat) (J Jx : Nat -> World -> Prop) (W : World), Below w.heap.size w W -> l < W.heap.size -> AbN J -> AbN Jx ->
  (∀ (m i : Nat) (x : α) (W1 : World), T[i]? = some x -> J i W1 -> YieldAt Fence.wide m P l (enc x) W1 fun e W' =>
   (e = .returned (.bool true) /\ J (i + 1) W' /\ Kp W1 W') \/ (e = .returned (.bool false) /\ Jx (i + 1) W')) ->
  J 0 W ->
  CallsIn Fence.wide n P g (#[.func (.yield l) #[] #[]] ++ lb) W fun e W' => (∃ v, e = .returned v) /\ (J T.length W' \/ ∃ i, Jx i W')
def postT (B : Nat) (Kp : World -> World -> Prop) (I : Nat -> World -> Prop) (Ix : Code -> Nat -> World -> Prop) (i : Nat) (W : World) : Exit -> Act -> World -> Prop
 | .normal, _, W' => KeepsFrom B W W' /\ Kp W W' /\ I i W'
 | .ret, _, W' => KeepsFrom B W W' /\ Ix .ret i W'
 | .exit id, _, W' => KeepsFrom B W W' /\ Ix (.exit id) i W'
 | .goto t, _, W' => KeepsFrom B W W' /\ Ix (.goto t) i W'
 | .panic _, _, _ => False
 | .outgrown, _, _ => False
theorem wpIn_rangeFuncT {α : Type} {n : Nat} {P : Program} {g : Operand} {ps : Array Tmp} {assign body : Code} {Q : Exit -> Act -> World -> Prop} {a : Act} {w : World}
  {gf : Nat} {lb : Array Value} (hg : a.eval g = .func (.func gf) #[] lb) (eg : ∀ args w, (callFunc gf args).run P w = .ok (.enter gf args) w)
  {enc : α -> Array Value} {T : List α} {Kp : World -> World -> Prop} {w0 : World} (hseq : SeqT (n - 1) P gf lb enc T Kp w0)
  (hKt : ∀ {A B C : World}, Kp A B -> Kp B C -> Kp A C) (hKb : ∀ (W : World) (l : Nat) (o o' : Obj), w.heap.size <= l -> W.heap[l]? = some o -> o.isCells = false -> Kp W (W.putObj l o'))
  (hb0 : Below w0.heap.size w0 w) (hps : ∀ x, (enc x).size = ps.size)
  (I : Nat -> World -> Prop) (Ix : Code -> Nat -> World -> Prop) (hI : OwnFrom w.heap.size I) (hIx : ∀ c, OwnFrom w.heap.size (Ix c)) (h0 : I 0 w) (a₁ : α -> Act)
  (hassign : ∀ (m l : Nat) (x : α) (W : World) (K : Act -> World -> Prop), K (a₁ x) W ->
   assign.wpIn (Fence.wide.inRound l) m P (Exit.then K (fun _ _ _ => False)) { tmps := (ps.zip (enc x)).foldl (fun t (p, v) => t.setIfInBounds p v) a.tmps, defers := [] } W)
  (hbody : ∀ (m l i : Nat) (x : α) (W : World), T[i]? = some x -> I i W -> body.wpIn (Fence.wide.inRound l) m P (postT w.heap.size Kp I Ix (i + 1) W) (a₁ x) W)
  (hdone : ∀ (D : Nat) (W : World), w.heap.size <= D -> I T.length W -> W.heap[D]? = some (.deferred (some [])) -> Q .normal { a with defers := { target := .collected D, args := #[] } :: a.defers } W)
  (hstop : ∀ (D : Nat) (c : Code) (i : Nat) (W : World), w.heap.size <= D -> Ix c i W -> W.heap[D]? = some (.deferred (some [])) -> c.wpIn Fence.wide n P Q { a with defers := { target := .collected D, args := #[] } :: a.defers } W) :
  (Code.rangeFunc g ps assign body).wpIn Fence.wide n P Q a w := by
 refine wpIn_rangeFunc ?_
 intro fn hfn
 rw [show Fence.wide.round = none from rfl]
 obtain ⟨rec, hrec⟩ : ∃ rec : LoopState -> Option Code -> Loop, rec = fun st pe => { state := st, pending := pe, fn, tmps := a.tmps, params := ps, assign, body, defers := w.heap.size } := ⟨_, rfl⟩
 obtain ⟨W1, hW1⟩ : ∃ W1, (w.alloc (.deferred (some []))).alloc (.loop (rec .ready none)) = W1 := ⟨_, rfl⟩
 have hL1 : W1.heap[w.heap.size + 1]? = some (.loop (rec .ready none)) := by
  rw [<- hW1]; have := World.alloc_heap_new (w.alloc (.deferred (some []))) (.loop (rec .ready none)); rwa [World.size_alloc] at this
 have hK1 : W1.heap[w.heap.size]? = some (.deferred (some [])) := by
  rw [<- hW1]; exact (Below.heap_alloc _ _ _ (by simp)).trans (World.alloc_heap_new w _)
 have hI1 : I 0 W1 := by rw [<- hW1]; exact hI.alloc _ (hI.alloc _ h0)
 have hsz1 : W1.heap.size = w.heap.size + 2 := by rw [<- hW1]; simp
 have hb1 : Below w0.heap.size w0 W1 := by
  rw [<- hW1]; exact hb0.trans ((((Below.refl _ w).alloc (Nat.le_refl _) _).alloc (by simp) _).mono hb0.size)
 refine ⟨w.heap.size + 1, [{ target := .collected w.heap.size, args := #[] }], W1, { target := .fn (.func gf) lb, args := #[.func (.yield (w.heap.size + 1)) #[] #[]] }, W1, gf,
  #[.func (.yield (w.heap.size + 1)) #[] #[]] ++ lb, W1, ?_, ?_, fun _ _ => trivial, ?_, (fun h => by cases h), ?_⟩
 ·rw [<- hW1, hrec]; exact run_enterLoop_outer _ _ _ _ _
 ·simp only [resolve, hg]
  simp [go_sem]
 ·simp [invoke, go_sem, eg]
 ·clear hW1
  have nn : ∀ {A B : World}, A.grownBy B none -> ∀ {k : Nat} {o : Obj}, A.heap[k]? = some o -> B.heap[k]? = some o := fun h k o hk => (h.block k (Array.getElem?_eq_some_iff.1 hk).1 (by simp)).trans hk
  refine (hseq (w.heap.size + 1)
   (fun i W => I i W /\ W.heap[w.heap.size + 1]? = some (.loop (rec .ready none)) /\ W.heap[w.heap.size]? = some (.deferred (some [])))
   (fun i W => ∃ c, Ix c i W /\ W.heap[w.heap.size + 1]? = some (.loop (rec .done (some c))) /\ W.heap[w.heap.size]? = some (.deferred (some [])))
   W1 hb1 (by omega)
   (fun s A B hs hg' => ⟨hI s A B none hs.1 hg' (fun r e => by cases e), nn hg' hs.2.1, nn hg' hs.2.2⟩)
   (fun s A B hs hg' => by
    obtain ⟨c, hc, hl, hk⟩ := hs
    exact ⟨c, hIx c s A B none hc hg' (fun r e => by cases e), nn hg' hl, nn hg' hk⟩)
   ?_ ⟨hI1, hL1, hK1⟩).mono ?_
  ·rintro m i x W hx ⟨hi, hl, hk⟩
   have hlt : w.heap.size + 1 < W.heap.size := (Array.getElem?_eq_some_iff.1 hl).1
   have hy := run_yield (P := P) (args := enc x) hl (by rw [hrec]; exact hps x)
   rw [hrec] at hy
   refine ⟨fn, _, assign, body, hy, roundIn_of_wpIn hfn (hassign _ _ x W _ ⟨_, run_beginRound hl (by rw [hrec]), ?_⟩)⟩
   have hl2 : (W.putObj (w.heap.size + 1) (.loop { rec .ready none with state := .busy })).heap[w.heap.size + 1]? = some (.loop { rec .ready none with state := .busy }) := World.putObj_heap_same hlt
   have hk2 : (W.putObj (w.heap.size + 1) (.loop { rec .ready none with state := .busy })).heap[w.heap.size]? = some (.deferred (some [])) := (World.putObj_heap_other (by omega)).trans hk
   have hw2 : Kp W (W.putObj (w.heap.size + 1) (.loop { rec .ready none with state := .busy })) := hKb _ _ _ _ (by omega) hl rfl
   refine wpIn_mono (hbody _ _ i x _ hx (hI.putObj _ hi (by omega) hl rfl)) ?_
   have fin : ∀ (jump : Option Code) (W3 : World), KeepsFrom w.heap.size (W.putObj (w.heap.size + 1) (.loop { rec .ready none with state := .busy })) W3 ->
     (Instr.endRound (w.heap.size + 1) jump).run P W3 = .ok (.bool jump.isNone) (W3.putObj (w.heap.size + 1) (.loop (rec (if jump.isNone then .ready else .done) jump))) /\
     W3.heap[w.heap.size + 1]? = some (.loop { rec .ready none with state := .busy }) /\
     (W3.putObj (w.heap.size + 1) (.loop (rec (if jump.isNone then .ready else .done) jump))).heap[w.heap.size + 1]? = some (.loop (rec (if jump.isNone then .ready else .done) jump)) /\
     (W3.putObj (w.heap.size + 1) (.loop (rec (if jump.isNone then .ready else .done) jump))).heap[w.heap.size]? = some (.deferred (some [])) := fun jump W3 hk3 => by
    have hl3 := hk3.same _ _ (by omega) hl2 rfl
    have := run_endRound (P := P) jump hl3
    rw [hrec] at this |-
    exact ⟨this, by rw [hrec] at hl3; exact hl3, World.putObj_heap_same (Array.getElem?_eq_some_iff.1 hl3).1, (World.putObj_heap_other (by omega)).trans (hk3.same _ _ (Nat.le_refl _) hk2 rfl)⟩
   rintro e a3 W3 hp
   cases e with
   | normal =>
    obtain ⟨hk3, hkp3, hi3⟩ := hp
    obtain ⟨hr, hl3, hl4, hk4⟩ := fin none W3 hk3
    exact ⟨_, _, hr, .inl ⟨rfl, ⟨hI.putObj _ hi3 (by omega) hl3 rfl, hl4, hk4⟩, hKt (hKt hw2 hkp3) (hKb _ _ _ _ (by omega) hl3 rfl)⟩⟩
   | ret =>
    obtain ⟨hk3, hi3⟩ := hp
    obtain ⟨hr, hl3, hl4, hk4⟩ := fin (some .ret) W3 hk3
    exact ⟨_, _, hr, .inr ⟨rfl, .ret, (hIx _).putObj _ hi3 (by omega) hl3 rfl, hl4, hk4⟩⟩
   | exit id =>
    obtain ⟨hk3, hi3⟩ := hp
    obtain ⟨hr, hl3, hl4, hk4⟩ := fin (some (.exit id)) W3 hk3
    exact ⟨_, _, hr, .inr ⟨rfl, .exit id, (hIx _).putObj _ hi3 (by omega) hl3 rfl, hl4, hk4⟩⟩
   | goto t =>
    obtain ⟨hk3, hi3⟩ := hp
    obtain ⟨hr, hl3, hl4, hk4⟩ := fin (some (.goto t)) W3 hk3
    exact ⟨_, _, hr, .inr ⟨rfl, .goto t, (hIx _).putObj _ hi3 (by omega) hl3 rfl, hl4, hk4⟩⟩
   | panic ch => exact hp.elim
   | outgrown => exact hp.elim
  ·rintro e W2 ⟨⟨v, rfl⟩, (⟨hi, hl, hk⟩ | ⟨i, c, hi, hl, hk⟩)⟩
   ·exact ⟨none, _, by have := run_endLoop (P := P) hl (by rw [hrec]; simp); rw [hrec] at this; exact this, hdone _ _ (Nat.le_refl _) (hI.putObj _ hi (by omega) hl rfl) ((World.putObj_heap_other (by omega)).trans hk)⟩
   ·exact ⟨some c, _, by have := run_endLoop (P := P) hl (by rw [hrec]; simp); rw [hrec] at this; exact this, hstop _ c i _ (Nat.le_refl _) ((hIx c).putObj _ hi (by omega) hl rfl) ((World.putObj_heap_other (by omega)).trans hk)⟩
theorem wpIn_rangeFuncB {α : Type} {n : Nat} {P : Program} {g : Operand} {ps : Array Tmp} {assign body : Code} {Q : Exit -> Act -> World -> Prop} {a : Act} {w : World}
  {gf : Nat} {lb : Array Value} (hg : a.eval g = .func (.func gf) #[] lb) (eg : ∀ args w, (callFunc gf args).run P w = .ok (.enter gf args) w)
  {enc : α -> Array Value} {T : List α} {Kp : World -> World -> Prop} {w0 : World} (hseq : SeqT (n - 1) P gf lb enc T Kp w0)
  (hKt : ∀ {A B C : World}, Kp A B -> Kp B C -> Kp A C) (hKb : ∀ (W : World) (l : Nat) (o o' : Obj), w.heap.size <= l -> W.heap[l]? = some o -> o.isCells = false -> Kp W (W.putObj l o'))
  (hb0 : Below w0.heap.size w0 w) (hps : ∀ x, (enc x).size = ps.size)
  (I : Nat -> World -> Prop) (Ix : Code -> Nat -> World -> Prop) (hI : OwnFrom w.heap.size I) (hIx : ∀ c, OwnFrom w.heap.size (Ix c)) (h0 : I 0 w) (ob : α -> Obj) (hKg : ∀ (W : World) (x : α), w.heap.size <= W.heap.size -> Kp W (W.alloc (ob x))) (a₁ : α -> Nat -> Act)
  (hassign : ∀ (m l : Nat) (x : α) (W : World) (K : Act -> World -> Prop), K (a₁ x W.heap.size) (W.alloc (ob x)) ->
   assign.wpIn (Fence.wide.inRound l) m P (Exit.then K (fun _ _ _ => False)) { tmps := (ps.zip (enc x)).foldl (fun t (p, v) => t.setIfInBounds p v) a.tmps, defers := [] } W)
  (hbody : ∀ (m l i b : Nat) (x : α) (W : World), T[i]? = some x -> I i W -> W.heap[b]? = some (ob x) -> body.wpIn (Fence.wide.inRound l) m P (postT w.heap.size Kp I Ix (i + 1) W) (a₁ x b) W)
  (hdone : ∀ (D : Nat) (W : World), w.heap.size <= D -> I T.length W -> W.heap[D]? = some (.deferred (some [])) -> Q .normal { a with defers := { target := .collected D, args := #[] } :: a.defers } W)
  (hstop : ∀ (D : Nat) (c : Code) (i : Nat) (W : World), w.heap.size <= D -> Ix c i W -> W.heap[D]? = some (.deferred (some [])) -> c.wpIn Fence.wide n P Q { a with defers := { target := .collected D, args := #[] } :: a.defers } W) :
  (Code.rangeFunc g ps assign body).wpIn Fence.wide n P Q a w := by
 refine wpIn_rangeFunc ?_
 intro fn hfn
 rw [show Fence.wide.round = none from rfl]
 obtain ⟨rec, hrec⟩ : ∃ rec : LoopState -> Option Code -> Loop, rec = fun st pe => { state := st, pending := pe, fn, tmps := a.tmps, params := ps, assign, body, defers := w.heap.size } := ⟨_, rfl⟩
 obtain ⟨W1, hW1⟩ : ∃ W1, (w.alloc (.deferred (some []))).alloc (.loop (rec .ready none)) = W1 := ⟨_, rfl⟩
 have hL1 : W1.heap[w.heap.size + 1]? = some (.loop (rec .ready none)) := by
  rw [<- hW1]; have := World.alloc_heap_new (w.alloc (.deferred (some []))) (.loop (rec .ready none)); rwa [World.size_alloc] at this
 have hK1 : W1.heap[w.heap.size]? = some (.deferred (some [])) := by
  rw [<- hW1]; exact (Below.heap_alloc _ _ _ (by simp)).trans (World.alloc_heap_new w _)
 have hI1 : I 0 W1 := by rw [<- hW1]; exact hI.alloc _ (hI.alloc _ h0)
 have hsz1 : W1.heap.size = w.heap.size + 2 := by rw [<- hW1]; simp
 have hb1 : Below w0.heap.size w0 W1 := by
  rw [<- hW1]; exact hb0.trans ((((Below.refl _ w).alloc (Nat.le_refl _) _).alloc (by simp) _).mono hb0.size)
 refine ⟨w.heap.size + 1, [{ target := .collected w.heap.size, args := #[] }], W1, { target := .fn (.func gf) lb, args := #[.func (.yield (w.heap.size + 1)) #[] #[]] }, W1, gf,
  #[.func (.yield (w.heap.size + 1)) #[] #[]] ++ lb, W1, ?_, ?_, fun _ _ => trivial, ?_, (fun h => by cases h), ?_⟩
 ·rw [<- hW1, hrec]; exact run_enterLoop_outer _ _ _ _ _
 ·simp only [resolve, hg]
  simp [go_sem]
 ·simp [invoke, go_sem, eg]
 ·clear hW1
  have nn : ∀ {A B : World}, A.grownBy B none -> ∀ {k : Nat} {o : Obj}, A.heap[k]? = some o -> B.heap[k]? = some o := fun h k o hk => (h.block k (Array.getElem?_eq_some_iff.1 hk).1 (by simp)).trans hk
  refine (hseq (w.heap.size + 1)
   (fun i W => I i W /\ W.heap[w.heap.size + 1]? = some (.loop (rec .ready none)) /\ W.heap[w.heap.size]? = some (.deferred (some [])))
   (fun i W => ∃ c, Ix c i W /\ W.heap[w.heap.size + 1]? = some (.loop (rec .done (some c))) /\ W.heap[w.heap.size]? = some (.deferred (some [])))
   W1 hb1 (by omega)
   (fun s A B hs hg' => ⟨hI s A B none hs.1 hg' (fun r e => by cases e), nn hg' hs.2.1, nn hg' hs.2.2⟩)
   (fun s A B hs hg' => by
    obtain ⟨c, hc, hl, hk⟩ := hs
    exact ⟨c, hIx c s A B none hc hg' (fun r e => by cases e), nn hg' hl, nn hg' hk⟩)
   ?_ ⟨hI1, hL1, hK1⟩).mono ?_
  ·rintro m i x W0 hx ⟨hi0, hl0, hk0⟩
   have hy := run_yield (P := P) (args := enc x) hl0 (by rw [hrec]; exact hps x)
   rw [hrec] at hy
   have hsW : w.heap.size <= W0.heap.size := by have := (Array.getElem?_eq_some_iff.1 hl0).1; omega
   have hK0 := hKg W0 x hsW
   have hob := World.alloc_heap_new W0 (ob x)
   have hi := hI.alloc (ob x) hi0
   have hl := nn (World.grownBy_alloc W0 (ob x) none) hl0
   have hk := nn (World.grownBy_alloc W0 (ob x) none) hk0
   refine ⟨fn, _, assign, body, hy, roundIn_of_wpIn hfn (hassign _ _ x W0 _ ⟨_, run_beginRound hl (by rw [hrec]), ?_⟩)⟩
   have hbne : W0.heap.size ≠ w.heap.size + 1 := by have := (Array.getElem?_eq_some_iff.1 hl0).1; omega
   obtain ⟨W, hW⟩ : ∃ W, W0.alloc (ob x) = W := ⟨_, rfl⟩
   rw [hW] at hK0 hob hi hl hk |-
   have hlt : w.heap.size + 1 < W.heap.size := (Array.getElem?_eq_some_iff.1 hl).1
   have hl2 : (W.putObj (w.heap.size + 1) (.loop { rec .ready none with state := .busy })).heap[w.heap.size + 1]? = some (.loop { rec .ready none with state := .busy }) := World.putObj_heap_same hlt
   have hk2 : (W.putObj (w.heap.size + 1) (.loop { rec .ready none with state := .busy })).heap[w.heap.size]? = some (.deferred (some [])) := (World.putObj_heap_other (by omega)).trans hk
   have hw2 : Kp W (W.putObj (w.heap.size + 1) (.loop { rec .ready none with state := .busy })) := hKb _ _ _ _ (by omega) hl rfl
   refine wpIn_mono (hbody _ _ i W0.heap.size x _ hx (hI.putObj _ hi (by omega) hl rfl) ((World.putObj_heap_other hbne).trans hob)) ?_
   have fin : ∀ (jump : Option Code) (W3 : World), KeepsFrom w.heap.size (W.putObj (w.heap.size + 1) (.loop { rec .ready none with state := .busy })) W3 ->
     (Instr.endRound (w.heap.size + 1) jump).run P W3 = .ok (.bool jump.isNone) (W3.putObj (w.heap.size + 1) (.loop (rec (if jump.isNone then .ready else .done) jump))) /\
     W3.heap[w.heap.size + 1]? = some (.loop { rec .ready none with state := .busy }) /\
     (W3.putObj (w.heap.size + 1) (.loop (rec (if jump.isNone then .ready else .done) jump))).heap[w.heap.size + 1]? = some (.loop (rec (if jump.isNone then .ready else .done) jump)) /\
     (W3.putObj (w.heap.size + 1) (.loop (rec (if jump.isNone then .ready else .done) jump))).heap[w.heap.size]? = some (.deferred (some [])) := fun jump W3 hk3 => by
    have hl3 := hk3.same _ _ (by omega) hl2 rfl
    have := run_endRound (P := P) jump hl3
    rw [hrec] at this |-
    exact ⟨this, by rw [hrec] at hl3; exact hl3, World.putObj_heap_same (Array.getElem?_eq_some_iff.1 hl3).1, (World.putObj_heap_other (by omega)).trans (hk3.same _ _ (Nat.le_refl _) hk2 rfl)⟩
   rintro e a3 W3 hp
   cases e with
   | normal =>
    obtain ⟨hk3, hkp3, hi3⟩ := hp
    obtain ⟨hr, hl3, hl4, hk4⟩ := fin none W3 hk3
    exact ⟨_, _, hr, .inl ⟨rfl, ⟨hI.putObj _ hi3 (by omega) hl3 rfl, hl4, hk4⟩, hKt hK0 (hKt (hKt hw2 hkp3) (hKb _ _ _ _ (by omega) hl3 rfl))⟩⟩
   | ret =>
    obtain ⟨hk3, hi3⟩ := hp
    obtain ⟨hr, hl3, hl4, hk4⟩ := fin (some .ret) W3 hk3
    exact ⟨_, _, hr, .inr ⟨rfl, .ret, (hIx _).putObj _ hi3 (by omega) hl3 rfl, hl4, hk4⟩⟩
   | exit id =>
    obtain ⟨hk3, hi3⟩ := hp
    obtain ⟨hr, hl3, hl4, hk4⟩ := fin (some (.exit id)) W3 hk3
    exact ⟨_, _, hr, .inr ⟨rfl, .exit id, (hIx _).putObj _ hi3 (by omega) hl3 rfl, hl4, hk4⟩⟩
   | goto t =>
    obtain ⟨hk3, hi3⟩ := hp
    obtain ⟨hr, hl3, hl4, hk4⟩ := fin (some (.goto t)) W3 hk3
    exact ⟨_, _, hr, .inr ⟨rfl, .goto t, (hIx _).putObj _ hi3 (by omega) hl3 rfl, hl4, hk4⟩⟩
   | panic ch => exact hp.elim
   | outgrown => exact hp.elim
  ·rintro e W2 ⟨⟨v, rfl⟩, (⟨hi, hl, hk⟩ | ⟨i, c, hi, hl, hk⟩)⟩
   ·exact ⟨none, _, by have := run_endLoop (P := P) hl (by rw [hrec]; simp); rw [hrec] at this; exact this, hdone _ _ (Nat.le_refl _) (hI.putObj _ hi (by omega) hl rfl) ((World.putObj_heap_other (by omega)).trans hk)⟩
   ·exact ⟨some c, _, by have := run_endLoop (P := P) hl (by rw [hrec]; simp); rw [hrec] at this; exact this, hstop _ c i _ (Nat.le_refl _) ((hIx c).putObj _ hi (by omega) hl rfl) ((World.putObj_heap_other (by omega)).trans hk)⟩
structure Ln where
 n : Int
 q : Option Addr
 t : List Int
 c : Nat
def Ln.lp (x : Ln) : Lp := ⟨x.n, x.t⟩
abbrev Ln.v (x : Ln) : Value := .agg #[.int .i64 x.n, .slice x.q x.t.length x.c]
def Ls (w : World) (p : Option Addr) (L : List Ln) : Prop :=
 (∀ (j : Nat) (x : Ln), L[j]? = some x -> x.t.length <= x.c /\ x.c <= maxLen /\ Is w x.q x.t) /\
 (L = [] \/ ∃ b o, p = some ⟨b, o, none⟩ /\ ∀ (j : Nat) (x : Ln), L[j]? = some x -> w.cell? ⟨b, o + j * 2, none⟩ = some (.int .i64 x.n) /\ w.cell? ⟨b, o + j * 2 + 1, none⟩ = some (.slice x.q x.t.length x.c))
theorem Ls.at {w : World} {p : Option Addr} {L : List Ln} (h : Ls w p L) (hl : 0 < L.length) : ∃ b o, p = some ⟨b, o, none⟩ /\ ∀ (j : Nat) (x : Ln), L[j]? = some x -> w.cell? ⟨b, o + j * 2, none⟩ = some (.int .i64 x.n) /\ w.cell? ⟨b, o + j * 2 + 1, none⟩ = some (.slice x.q x.t.length x.c) := by
 rcases h.2 with rfl | h
 ·simp at hl
 ·exact h
theorem Ls.lt {w : World} {p : Option Addr} {L : List Ln} (h : Ls w p L) : ∀ a, p = some a -> 0 < L.length -> a.block < w.heap.size := by
 intro a e hl
 obtain ⟨b, o, rfl, hc⟩ := h.at hl
 cases e
 obtain ⟨x, hx⟩ : ∃ x, L[0]? = some x := ⟨_, List.getElem?_eq_getElem hl⟩
 exact World.block_lt_of_cell? w ⟨b, o + 0 * 2, none⟩ (hc 0 x hx).1
def LsB (n0 : Nat) (w : World) (p : Option Addr) (L : List Ln) : Prop :=
 Ls w p L /\ (∀ a, p = some a -> 0 < L.length -> a.block < n0) /\ ∀ (j : Nat) (x : Ln), L[j]? = some x -> ∀ a, x.q = some a -> 0 < x.t.length -> a.block < n0
theorem LsB.on {n0 : Nat} {A B : World} {p : Option Addr} {L : List Ln} (h : LsB n0 A p L) (hb : Below n0 A B) : LsB n0 B p L := by
 refine ⟨⟨fun j x hx => ?_, ?_⟩, h.2⟩
 ·obtain ⟨h1, h2, h3⟩ := h.1.1 j x hx
  exact ⟨h1, h2, h3.below (h.2.2 j x hx) hb⟩
 ·rcases h.1.2 with e | ⟨b, o, rfl, hc⟩
  ·exact .inl e
  ·refine .inr ⟨b, o, rfl, fun j x hx => ?_⟩
   have hl : b < n0 := h.2.1 ⟨b, o, none⟩ rfl (by have := (List.getElem?_eq_some_iff.1 hx).1; omega)
   obtain ⟨h1, h2⟩ := hc j x hx
   exact ⟨(hb.cell (p := ⟨b, o + j * 2, none⟩) hl).trans h1, (hb.cell (p := ⟨b, o + j * 2 + 1, none⟩) hl).trans h2⟩
theorem Ls.b {w : World} {p : Option Addr} {L : List Ln} (h : Ls w p L) : LsB w.heap.size w p L := ⟨h, h.lt, fun j x hx => (h.1 j x hx).2.2.lt⟩
theorem LsB.le {n0 m : Nat} {w : World} {p : Option Addr} {L : List Ln} (h : LsB n0 w p L) (hm : n0 <= m) : LsB m w p L :=
 ⟨h.1, fun a e hl => Nat.lt_of_lt_of_le (h.2.1 a e hl) hm, fun j x hx a e hl => Nat.lt_of_lt_of_le (h.2.2 j x hx a e hl) hm⟩
theorem Ls.on {A B : World} {p : Option Addr} {L : List Ln} (h : Ls A p L) (hb : Below A.heap.size A B) : Ls B p L := (h.b.on hb).1
structure Env where
 q : Option Addr
 c : Nat
 M : List Ln
 n : Int
 d : Int
 b : Bool
def Env.L (E : Env) : List Lp := E.M.map Ln.lp
theorem Env.len (E : Env) : E.L.length = E.M.length := by simp [Env.L]
structure Fine (E : Env) : Prop where
 len : E.M.length <= 1048576
 txt : ∀ (j : Nat) (x : Ln), E.M[j]? = some x -> x.t.length <= 1048576
 dl : 0 <= E.d
 dh : E.d <= 1048576
 cl : E.M.length <= E.c
 ch : E.c <= maxLen
 l2 : E.M.length <= 600
 t2 : ∀ (j : Nat) (x : Ln), E.M[j]? = some x -> x.t.length <= 1300
def Okp (E : Env) (p : Pl) : Prop := ∃ x, E.M[p.i]? = some x /\ p.k <= x.t.length
theorem tx_at {E : Env} {i : Nat} {x : Ln} (h : E.M[i]? = some x) : tx E.L i = x.t := by
 unfold tx Env.L
 rw [List.getElem?_map, h]
 rfl
abbrev Pl.v (p : Pl) : Value := .agg #[.int .i64 (p.i : Nat), .int .i64 (p.k : Nat)]
def Ev.c (x : Ev) : List Value := [.int .i64 x.k, .string x.tx, .string x.tg, .string x.an, .int .i64 x.st, .bool x.fl]
abbrev Ev.v (x : Ev) : Value := .agg #[.int .i64 x.k, .string x.tx, .string x.tg, .string x.an, .int .i64 x.st, .bool x.fl]
def Lv.c (x : Lv) : List Value := [.int .i64 x.cl, .bool x.pr, .int .u8 (x.nx : Nat), .int .i64 (x.bi : Nat), .int .i64 (x.bk : Nat), .int .i64 (x.ho : Nat), .int .i64 (x.ta : Nat)]
abbrev Lv.v (x : Lv) : Value := .agg #[.int .i64 x.cl, .bool x.pr, .int .u8 (x.nx : Nat), .int .i64 (x.bi : Nat), .int .i64 (x.bk : Nat), .int .i64 (x.ho : Nat), .int .i64 (x.ta : Nat)]
def flE : List Ev -> List Value
 | [] => []
 | x :: l => x.c ++ flE l
def flL : List Lv -> List Value
 | [] => []
 | x :: l => x.c ++ flL l
theorem flE_len (l : List Ev) : (flE l).length = l.length * 6 := by
 induction l with
 | nil => rfl
 | cons x l ih => rw [flE, List.length_append, ih, List.length_cons]; simp [Ev.c]; omega
theorem flL_len (l : List Lv) : (flL l).length = l.length * 7 := by
 induction l with
 | nil => rfl
 | cons x l ih => rw [flL, List.length_append, ih, List.length_cons]; simp [Lv.c]; omega
theorem flE_app (a b : List Ev) : flE (a ++ b) = flE a ++ flE b := by
 induction a with
 | nil => rfl
 | cons x a ih => simp [flE, ih]
theorem flL_app (a b : List Lv) : flL (a ++ b) = flL a ++ flL b := by
 induction a with
 | nil => rfl
 | cons x a ih => simp [flL, ih]
structure Wk (w : World) (wb : Nat) (E : Env) (s : St) (ov tv : Value) : Prop where
 blk : w.heap[wb]? = some (.cells #[.slice E.q E.M.length E.c, .int .i64 E.n, .int .i64 E.d, .bool E.b, .int .i64 (s.p.i : Nat), .int .i64 (s.p.k : Nat), ov, tv, .int .i64 (s.ta : Nat)] 67)
 lin : LsB wb w E.q E.M
 op : w.ownsRow (wb + 1) 97 7 ov s.op.length (flL s.op.reverse)
 to : w.ownsRow (wb + 1) 50 6 tv s.to.length (flE s.to)
section
variable {w : World} {wb : Nat} {E : Env} {s : St} {ov tv : Value}
theorem Wk.cell (h : Wk w wb E s ov tv) (o : Nat) : w.cell? ⟨wb, o, none⟩ = (#[.slice E.q E.M.length E.c, .int .i64 E.n, .int .i64 E.d, .bool E.b, .int .i64 (s.p.i : Nat), .int .i64 (s.p.k : Nat), ov, tv, .int .i64 (s.ta : Nat)] : Array Value)[o]? := by
 show (match w.heap[wb]? with | some (.cells c _ _) => c[o]? | _ => none) = _
 rw [h.blk]
theorem Wk.frozen (h : Wk w wb E s ov tv) (o : Nat) : w.frozen? ⟨wb, o, none⟩ = false := by simp [World.frozen?, h.blk]
theorem Wk.lt (h : Wk w wb E s ov tv) : wb < w.heap.size := (Array.getElem?_eq_some_iff.1 h.blk).1
theorem row_on {A B : World} {base : Nat} {e : TypeId} {k : Nat} {v : Value} {n : Nat} {xs : List Value} (h : A.ownsRow base e k v n xs) (hb : Below A.heap.size A B) : B.ownsRow base e k v n xs := by
 obtain ⟨h0, ⟨e1, e2⟩ | ⟨g, cap, cur, e1, hb', hg, h1⟩⟩ := h
 ·exact ⟨h0, .inl ⟨e1, e2⟩⟩
 ·exact ⟨h0, .inr ⟨g, cap, cur, e1, hb', (hb.block g (Array.getElem?_eq_some_iff.1 hg).1).trans hg, h1⟩⟩
theorem row_same {A B : World} {base : Nat} {e : TypeId} {k : Nat} {v : Value} {n : Nat} {xs : List Value} (h : A.ownsRow base e k v n xs) (hk : ∀ g, v.ownBlock = some g -> B.heap[g]? = A.heap[g]?) : B.ownsRow base e k v n xs := by
 obtain ⟨h0, ⟨e1, e2⟩ | ⟨g, cap, cur, e1, hb', hg, h1⟩⟩ := h
 ·exact ⟨h0, .inl ⟨e1, e2⟩⟩
 ·exact ⟨h0, .inr ⟨g, cap, cur, e1, hb', (hk g (by rw [e1]; rfl)).trans hg, h1⟩⟩
theorem row_type {A : World} {base : Nat} {e : TypeId} {k : Nat} {v : Value} {n : Nat} {xs : List Value} (h : A.ownsRow base e k v n xs) {g : Nat} (hg : v.ownBlock = some g) : base <= g /\ ∃ cur, A.heap[g]? = some (.cells cur e (0, 0)) := by
 obtain ⟨h0, ⟨e1, e2⟩ | ⟨g', cap, cur, e1, hb', hh, h1⟩⟩ := h
 ·rw [e1] at hg; cases hg
 ·rw [e1] at hg; cases hg; exact ⟨hb', cur, hh⟩
theorem Wk.on {w' : World} (h : Wk w wb E s ov tv) (hb : Below w.heap.size w w') : Wk w' wb E s ov tv :=
 ⟨(hb.block wb h.lt).trans h.blk, h.lin.on (hb.mono (Nat.le_of_lt h.lt)), row_on h.op hb, row_on h.to hb⟩
end
def Mine : Obj -> Prop
 | .cells _ t _ => t = 67 \/ t = 97 \/ t = 50
 | _ => False
structure Kee (wb : Nat) (A B : World) : Prop where
 os : B.os = A.os
 tape : B.tape = A.tape
 output : B.output = A.output
 size : A.heap.size <= B.heap.size
 keep : ∀ b o, A.heap[b]? = some o -> (b < wb \/ ¬ Mine o) -> B.heap[b]? = some o
theorem Kee.of {wb : Nat} {A B : World} (h : Below A.heap.size A B) : Kee wb A B :=
 ⟨h.os, h.tape, h.output, h.size, fun b o hb _ => (h.block b (Array.getElem?_eq_some_iff.1 hb).1).trans hb⟩
theorem Kee.refl (wb : Nat) (A : World) : Kee wb A A := ⟨rfl, rfl, rfl, Nat.le_refl _, fun _ _ h _ => h⟩
theorem Kee.trans {wb : Nat} {A B C : World} (h : Kee wb A B) (k : Kee wb B C) : Kee wb A C :=
 ⟨k.os.trans h.os, k.tape.trans h.tape, k.output.trans h.output, Nat.le_trans h.size k.size, fun b o hb hm => k.keep b o (h.keep b o hb hm) hm⟩
theorem Kee.below {wb : Nat} {A B : World} (h : Kee wb A B) (hw : wb <= A.heap.size) : Below wb A B :=
 ⟨h.os, h.tape, h.output, h.size, fun b hb => by
  obtain ⟨o, ho⟩ : ∃ o, A.heap[b]? = some o := ⟨_, Array.getElem?_eq_getElem (by omega)⟩
  rw [ho]
  exact h.keep b o ho (.inl hb)⟩
theorem Kee.set {wb : Nat} {A : World} {g : Nat} {c : Array Value} {t : TypeId} {r : Nat × Nat} (hg : A.heap[g]? = some (.cells c t r)) (ht : t = 67 \/ t = 97 \/ t = 50) (hw : wb <= g) (o : Nat) (x : Value) : Kee wb A (A.setCell ⟨g, o, none⟩ x) := by
 refine ⟨rfl, rfl, rfl, by simp [World.setCell], fun b ob hb hm => ?_⟩
 by_cases e : b = g
 ·subst e
  rw [hg] at hb
  cases hb
  rcases hm with hm | hm
  ·omega
  ·exact absurd ht hm
 ·rw [Below.heap_setCell _ _ _ _ e]; exact hb
theorem Kee.grown {wb : Nat} {A B : World} {row : Option Nat} (hg : A.grownBy B row) (hr : ∀ g, row = some g -> wb <= g /\ ∃ c t r, A.heap[g]? = some (.cells c t r) /\ (t = 67 \/ t = 97 \/ t = 50)) : Kee wb A B := by
 refine ⟨hg.os, hg.tape, hg.output, hg.size, fun b ob hb hm => ?_⟩
 by_cases e : some b = row
 ·obtain ⟨h1, c, t, r, h2, h3⟩ := hr b e.symm
  rw [h2] at hb
  cases hb
  rcases hm with hm | hm
  ·omega
  ·exact absurd h3 hm
 ·rw [hg.block b (Array.getElem?_eq_some_iff.1 hb).1 e]; exact hb
theorem Kee.alloc (wb : Nat) (A : World) (o : Obj) : Kee wb A (A.alloc o) := Kee.of ((Below.refl _ A).alloc (Nat.le_refl _) _)
theorem below_alloc (w : World) (o : Obj) : Below w.heap.size w (w.alloc o) := (Below.refl _ w).alloc (Nat.le_refl _) _
theorem Below.drewN {B : Nat} {A W : World} (h : Below B A W) (n : Nat) : Below B A (W.drewN n) := ⟨h.os, h.tape, h.output, h.size, h.block⟩
theorem below_alloc_drewN (w : World) (o : Obj) (n : Nat) : Below w.heap.size w ((w.alloc o).drewN n) := Below.drewN (below_alloc w o) n
theorem box_new (w : World) (c : Array Value) (t : TypeId) (j : Nat) : (w.alloc (.cells c t)).cell? ⟨w.heap.size, j, none⟩ = c[j]? := by
 have h := World.alloc_heap_new w (.cells c t)
 show (match (w.alloc (.cells c t)).heap[w.heap.size]? with | some (.cells c _ _) => c[j]? | _ => none) = _
 rw [h]
structure LowC (O : Orc) : Prop where
 blank : ∀ (x : Int) (W : World), Calls Tryz.prog 55 #[.int .i64 x] W fun en w' => en = .returned (.bool (O.blank x)) /\ w' = W
 name : ∀ (x : Int) (W : World), Calls Tryz.prog 145 #[.int .i64 x] W fun en w' => en = .returned (.bool (O.name x)) /\ w' = W
 flow : ∀ (x : Int) (W : World), Calls Tryz.prog 155 #[.int .i64 x] W fun en w' => en = .returned (.bool (O.flow x)) /\ w' = W
 past : ∀ t : List Int, O.past t = (match t with | [] => 0 | x :: r => if O.blank x then O.past r + 1 else 0)
def rq (E : Env) (p : Pl) : Option Addr := match E.M[p.i]? with | none => none | some x => if x.c = p.k then x.q else x.q.map (·.add p.k)
def rc (E : Env) (p : Pl) : Nat := match E.M[p.i]? with | none => 0 | some x => x.c - p.k
section
variable {w : World} {wb : Nat} {E : Env} {s : St} {ov tv : Value} {p : Pl}
theorem rst_at {x : Ln} (hx : E.M[p.i]? = some x) : rst E.L p = x.t.drop p.k := by rw [rst, tx_at hx]
theorem rest_is (h : LsB wb w E.q E.M) (hf : Fine E) (hp : Okp E p) : Is w (rq E p) (rst E.L p) /\ (rst E.L p).length <= rc E p /\ rc E p <= maxLen /\ (rst E.L p).length <= 1048576 /\ ∀ a, rq E p = some a -> 0 < (rst E.L p).length -> a.block < wb := by
 obtain ⟨x, hx, hk⟩ := hp
 obtain ⟨b1, b2, hI⟩ := h.1.1 p.i x hx
 have hl := hf.txt p.i x hx
 rw [rst_at hx]
 refine ⟨?_, ?_, ?_, ?_, ?_⟩
 ·simp only [rq, hx]
  exact hI.from x.c p.k b1
 ·simp only [rc, hx, List.length_drop]; omega
 ·simp only [rc, hx]; omega
 ·simp only [List.length_drop]; omega
 ·intro a ha h0
  simp only [List.length_drop] at h0
  obtain ⟨b, o, hq, -⟩ := hI.at (by omega)
  have hb := h.2.2 p.i x hx ⟨b, o, none⟩ hq (by omega)
  simp only [rq, hx, hq] at ha
  rw [if_neg (by omega), Option.map_some, add_plain] at ha
  cases ha
  exact hb
theorem rest_small (hf : Fine E) (hp : Okp E p) : (rst E.L p).length <= 1300 := by
 obtain ⟨x, hx, hk⟩ := hp
 rw [rst_at hx, List.length_drop]
 have := hf.t2 _ x hx
 omega
theorem head_at (h : LsB wb w E.q E.M) (hf : Fine E) (hp : Okp E p) (h0 : 0 < (rst E.L p).length) : ∃ b o, rq E p = some ⟨b, o, none⟩ /\ ∀ W, Below wb w W -> W.cell? ⟨b, o, none⟩ = some (.int .i64 (hd E.L p)) := by
 obtain ⟨hI, -, -, -, hB⟩ := rest_is h hf hp
 obtain ⟨b, o, hq, hc⟩ := hI.at h0
 refine ⟨b, o, hq, fun W hW => ?_⟩
 have := hc 0 h0
 rw [Nat.add_zero] at this
 rw [hW.cell (p := ⟨b, o, none⟩) (hB _ hq h0), this]
 unfold hd iAt
 cases rst E.L p <;> rfl
theorem blanks_any (n : Int) (q : Option Addr) (l c : Nat) (w : World) :
  Calls Tryz.prog 32 #[.agg #[.int .i64 n, .slice q l c]] w fun en w' => en = .returned (.int .i64 (max n 0)) /\ Below w.heap.size w w' := by
 by_cases hn : n < 0
 ·have e : max n 0 = 0 := by omega
  rw [e]
  have e2 : ¬ (0 : Int) < n := by omega
  clear e
  go_enter Tryz.func32, Tryz.ntmps32
  go_wp2
  go_ret
  exact ⟨rfl, below_alloc _ _⟩
 ·have e : max n 0 = n := by omega
  rw [e]
  clear e
  go_enter Tryz.func32, Tryz.ntmps32
  go_wp2
  go_ret
  exact ⟨rfl, below_alloc _ _⟩
theorem results_pl {fn : Func} {t : Tmp} (h : fn.results = #[.cell t 60]) {tmps : Array Value} {W : World} {b : Nat} {i k : Int} (hp : tmps.getD t undef = .pointer (some ⟨b, 0, none⟩))
  (hb : ∀ j, W.cell? ⟨b, j, none⟩ = (#[.int .i64 i, .int .i64 k] : Array Value)[j]?) : (results fn tmps).run Tryz.prog W = .ok (.agg #[.int .i64 i, .int .i64 k]) W := by
 have hp' : tmps[t]?.getD undef = .pointer (some ⟨b, 0, none⟩) := by simpa using hp
 have c0 := hb 0
 have c1 := hb 1
 simp at c0 c1
 simp [results, h, hp', asAddr, go_sem, c0, c1]
theorem plus_any (p : Pl) (m : Nat) (w : World) (hp : (p.k : Int) + m <= 9223372036854775807) :
  Calls Tryz.prog 36 #[p.v, .int .i64 (m : Nat)] w fun en w' => en = .returned (p.plus m).v /\ Below w.heap.size w w' := by
 obtain ⟨i, k⟩ := p
 have bx := box_new w #[.int .i64 (i : Nat), .int .i64 (k : Nat)] 60
 have b0 := bx 0
 have b1 := bx 1
 simp at b0 b1
 have kA := below_alloc w (.cells #[.int .i64 (i : Nat), .int .i64 (k : Nat)] 60)
 have bz := box_new (w.alloc (.cells #[.int .i64 (i : Nat), .int .i64 (k : Nat)] 60)) #[.int .i64 (i : Nat), .int .i64 ((k : Int) + m)] 60
 rw [World.size_alloc] at bz
 have HZ : Hid _ := bz
 dsimp only at hp
 clear bx bz
 go_enter Tryz.func36, Tryz.ntmps36
 go_wp2
 refine bodyPost_ret (results_pl rfl rfl HZ.out) rfl ?_
 refine ⟨?_, kA.alloc (by simp) _⟩
 show Ending.returned _ = Ending.returned (.agg #[.int .i64 (i : Nat), .int .i64 ((k + m : Nat) : Int)])
 rw [show ((k + m : Nat) : Int) = (k : Int) + m by omega]
theorem rest_any (h : Wk w wb E s ov tv) (hf : Fine E) (hp : Okp E p) :
  Calls Tryz.prog 54 #[.pointer (some ⟨wb, 0, none⟩), p.v] w fun en w' => en = .returned (.slice (rq E p) (rst E.L p).length (rc E p)) /\ Below w.heap.size w w' := by
 obtain ⟨i, k⟩ := p
 obtain ⟨x, hx, hk⟩ := hp
 dsimp only at hx hk
 have hil : i < E.M.length := (List.getElem?_eq_some_iff.1 hx).1
 have hml := hf.len
 have htl := hf.txt i x hx
 obtain ⟨b1, b2, hI⟩ := h.lin.1.1 i x hx
 obtain ⟨b, o, hq, hc⟩ := h.lin.1.at (by omega)
 have c1 := (hc i x hx).2
 have hbl : b < wb := h.lin.2.1 _ hq (by omega)
 have bx := box_new w #[.int .i64 (i : Nat), .int .i64 (k : Nat)] 60
 have x0 := bx 0
 have x1 := bx 1
 simp at x0 x1
 have kA := below_alloc w (.cells #[.int .i64 (i : Nat), .int .i64 (k : Nat)] 60)
 have c0 := (h.on kA).cell 0
 rw [hq] at c0
 simp at c0
 have cr := (kA.cell (p := ⟨b, o + i * 2 + 1, none⟩) (World.block_lt_of_cell? w _ c1)).trans c1
 have S := slice_from x.q x.t.length x.c k hk b1
 have e1 : rq E ⟨i, k⟩ = if x.c = k then x.q else x.q.map (·.add k) := by simp [rq, hx]
 have e2 : rc E ⟨i, k⟩ = x.c - k := by simp [rc, hx]
 have e3 : (rst E.L ⟨i, k⟩).length = x.t.length - k := by rw [rst_at (p := ⟨i, k⟩) hx, List.length_drop]
 rw [e1, e2, e3]
 generalize (if x.c = k then x.q else x.q.map (·.add k)) = v at *
 generalize x.t.length - k = l2 at *
 generalize x.c - k = c2 at *
 have d5 : (i : Int) < E.M.length := by omega
 clear bx hc c1 h hI hq e1 e2 e3
 go_enter Tryz.func54, Tryz.ntmps54
 go_wp2
 go_quiet (fail)
 go_wp2
 go_ret
 exact ⟨rfl, below_alloc_drewN _ _ _⟩
theorem stands_any (h : Wk w wb E s ov tv) (hf : Fine E) (hp : Okp E p) (c : Int) :
  Calls Tryz.prog 34 #[.pointer (some ⟨wb, 0, none⟩), p.v, .int .i64 c] w fun en w' => en = .returned (.bool (staW E.L p c)) /\ Below w.heap.size w w' := by
 have kA := below_alloc w (.cells #[.int .i64 (p.i : Nat), .int .i64 (p.k : Nat)] 60)
 have RC := rest_any (h.on kA) hf hp
 have bx := box_new w #[.int .i64 (p.i : Nat), .int .i64 (p.k : Nat)] 60
 have x0 := bx 0
 have x1 := bx 1
 simp at x0 x1
 have hl3 := (rest_is h.lin hf hp).2.2.2.1
 unfold staW
 by_cases h0 : (rst E.L p).length = 0
 ·rw [h0] at RC |-
  clear bx h h0 hl3
  go_enter Tryz.func34, Tryz.ntmps34
  go_wp2_with (first | (go_at_call 54; refine RC.mono ?_; clear RC; rintro en W1 ⟨rfl, hB⟩))
  go_ret
  exact ⟨rfl, kA.trans (hB.mono (by simp))⟩
 ·obtain ⟨b, o, hq, hH⟩ := head_at h.lin hf hp (by omega)
  rw [hq] at RC
  have HH : Hid (∀ W1 : World, Below (w.alloc (.cells #[.int .i64 (p.i : Nat), .int .i64 (p.k : Nat)] 60)).heap.size (w.alloc (.cells #[.int .i64 (p.i : Nat), .int .i64 (p.k : Nat)] 60)) W1 -> W1.cell? ⟨b, o, none⟩ = some (.int .i64 (hd E.L p))) := fun W1 hB => hH W1 ((kA.trans (hB.mono (by simp))).mono (Nat.le_of_lt h.lt))
  have hd1 : decide (0 < (rst E.L p).length) = true := decide_eq_true (by omega)
  rw [hd1, Bool.true_and]
  have e3 : (0 : Int) < ((rst E.L p).length : Int) := by omega
  have e4 : decide ((0 : Int) < ((rst E.L p).length : Int)) = true := decide_eq_true e3
  have e5 : 0 < (rst E.L p).length := by omega
  generalize (rst E.L p).length = tl at *
  generalize hd E.L p = x at *
  clear bx h hH hq h0 hp
  go_enter Tryz.func34, Tryz.ntmps34
  go_wp2_with (first | (go_at_call 54; refine RC.mono ?_; clear RC; rintro en W1 ⟨rfl, hB⟩; have c0 := HH.out W1 hB))
  go_ret
  exact ⟨ret_bool (by rw [Bool.eq_iff_iff]; simp), kA.trans (hB.mono (by simp))⟩
theorem blankAt_any {O : Orc} (LO : LowC O) (h : Wk w wb E s ov tv) (hf : Fine E) (hp : Okp E p) :
  Calls Tryz.prog 35 #[.pointer (some ⟨wb, 0, none⟩), p.v] w fun en w' => en = .returned (.bool (blaW O E.L p)) /\ Below w.heap.size w w' := by
 have kA := below_alloc w (.cells #[.int .i64 (p.i : Nat), .int .i64 (p.k : Nat)] 60)
 have RC := rest_any (h.on kA) hf hp
 have bx := box_new w #[.int .i64 (p.i : Nat), .int .i64 (p.k : Nat)] 60
 have x0 := bx 0
 have x1 := bx 1
 simp at x0 x1
 have hl3 := (rest_is h.lin hf hp).2.2.2.1
 unfold blaW
 by_cases h0 : (rst E.L p).length = 0
 ·rw [h0] at RC |-
  clear bx h h0 hl3 LO
  go_enter Tryz.func35, Tryz.ntmps35
  go_wp2_with (first | (go_at_call 54; refine RC.mono ?_; clear RC; rintro en W1 ⟨rfl, hB⟩))
  go_ret
  exact ⟨rfl, kA.trans (hB.mono (by simp))⟩
 ·obtain ⟨b, o, hq, hH⟩ := head_at h.lin hf hp (by omega)
  rw [hq] at RC
  have HH : Hid (∀ W1 : World, Below (w.alloc (.cells #[.int .i64 (p.i : Nat), .int .i64 (p.k : Nat)] 60)).heap.size (w.alloc (.cells #[.int .i64 (p.i : Nat), .int .i64 (p.k : Nat)] 60)) W1 -> W1.cell? ⟨b, o, none⟩ = some (.int .i64 (hd E.L p))) := fun W1 hB => hH W1 ((kA.trans (hB.mono (by simp))).mono (Nat.le_of_lt h.lt))
  have hd1 : decide ((rst E.L p).length = 0) = false := decide_eq_false h0
  rw [hd1, Bool.false_or]
  have e3 : (0 : Int) < ((rst E.L p).length : Int) := by omega
  have e4 : (((rst E.L p).length : Int) == 0) = false := by rw [beq_eq_false_iff_ne]; omega
  have e5 : ¬ ((rst E.L p).length : Int) = 0 := by omega
  have BL := LO.blank (hd E.L p)
  generalize (rst E.L p).length = tl at *
  generalize hd E.L p = x at *
  generalize O.blank x = bv at *
  clear bx h hH hq h0 hp LO
  go_enter Tryz.func35, Tryz.ntmps35
  go_wp2_with (first | (go_at_call 54; refine RC.mono ?_; clear RC; rintro en W1 ⟨rfl, hB⟩; have c0 := HH.out W1 hB) | (go_at_call 55; refine (BL _).mono ?_; clear BL; rintro en W2 ⟨rfl, rfl⟩))
  go_ret
  exact ⟨rfl, kA.trans (hB.mono (by simp))⟩
theorem endsName_any {O : Orc} (LO : LowC O) (h : Wk w wb E s ov tv) (hf : Fine E) (hp : Okp E p) :
  Calls Tryz.prog 143 #[.pointer (some ⟨wb, 0, none⟩), p.v] w fun en w' => en = .returned (.bool (endW O E.L p)) /\ Below w.heap.size w w' := by
 have kA := below_alloc w (.cells #[.int .i64 (p.i : Nat), .int .i64 (p.k : Nat)] 60)
 have BC := blankAt_any LO (h.on kA) hf hp
 have bx := box_new w #[.int .i64 (p.i : Nat), .int .i64 (p.k : Nat)] 60
 have x0 := bx 0
 have x1 := bx 1
 have T : Hid (∀ W1 : World, Below (w.alloc (.cells #[.int .i64 (p.i : Nat), .int .i64 (p.k : Nat)] 60)).heap.size (w.alloc (.cells #[.int .i64 (p.i : Nat), .int .i64 (p.k : Nat)] 60)) W1 -> W1.cell? ⟨w.heap.size, 0, none⟩ = some (.int .i64 (p.i : Nat)) /\ W1.cell? ⟨w.heap.size, 1, none⟩ = some (.int .i64 (p.k : Nat))) := fun W1 hB =>
  ⟨(hB.cell (p := ⟨w.heap.size, 0, none⟩) (by simp)).trans x0, (hB.cell (p := ⟨w.heap.size, 1, none⟩) (by simp)).trans x1⟩
 simp at x0 x1
 unfold endW
 cases hbv : blaW O E.L p with
 | true =>
  rw [hbv] at BC
  clear bx h LO T
  go_enter Tryz.func143, Tryz.ntmps143
  go_wp2_with (first | (go_at_call 35; refine BC.mono ?_; clear BC; rintro en W1 ⟨rfl, hB⟩))
  go_ret
  exact ⟨rfl, kA.trans (hB.mono (by simp))⟩
 | false =>
  rw [hbv] at BC
  have h0 : ¬ (rst E.L p).length = 0 := fun e => by unfold blaW at hbv; rw [decide_eq_true e] at hbv; cases hbv
  obtain ⟨b, o, hq, hH⟩ := head_at h.lin hf hp (by omega)
  have hl3 := (rest_is h.lin hf hp).2.2.2.1
  have RC : Hid (∀ W1 : World, Below w.heap.size w W1 -> Calls Tryz.prog 54 #[.pointer (some ⟨wb, 0, none⟩), p.v] W1 fun en w' => en = .returned (.slice (some ⟨b, o, none⟩) (rst E.L p).length (rc E p)) /\ Below W1.heap.size W1 w') := fun W1 hW => by rw [<- hq]; exact rest_any (h.on hW) hf hp
  have HH : Hid (∀ W1 : World, Below w.heap.size w W1 -> W1.cell? ⟨b, o, none⟩ = some (.int .i64 (hd E.L p))) := fun W1 hB => hH W1 (hB.mono (Nat.le_of_lt h.lt))
  have e3 : (0 : Int) < ((rst E.L p).length : Int) := by omega
  have FL := LO.flow (hd E.L p)
  rw [Bool.false_or]
  generalize (rst E.L p).length = tl at *
  generalize hd E.L p = x at *
  generalize O.flow x = bv at *
  clear bx h hH hq h0 hp LO hbv
  go_enter Tryz.func143, Tryz.ntmps143
  go_wp2_with (first | (go_at_call 35; refine BC.mono ?_; clear BC; rintro en W1 ⟨rfl, hB⟩; have k1 := kA.trans (hB.mono (by simp)); obtain ⟨d0, d1⟩ := T.out W1 hB; have RX := RC.out W1 k1) | (go_at_call 54; refine RX.mono ?_; clear RX; rintro en W2 ⟨rfl, hB2⟩; have k2 := k1.trans (hB2.mono k1.size); have c0 := HH.out W2 k2) | (go_at_call 155; refine (FL _).mono ?_; clear FL; rintro en W3 ⟨rfl, rfl⟩))
  go_ret
  exact ⟨rfl, k2⟩
theorem alone_any {O : Orc} (LO : LowC O) (h : Wk w wb E s ov tv) (hf : Fine E) (hp : Okp E p) (c : Int) :
  Calls Tryz.prog 120 #[.pointer (some ⟨wb, 0, none⟩), p.v, .int .i64 c] w fun en w' => en = .returned (.bool (aloW O E.L p c)) /\ Below w.heap.size w w' := by
 have kA := below_alloc w (.cells #[.int .i64 (p.i : Nat), .int .i64 (p.k : Nat)] 60)
 have SC := stands_any (h.on kA) hf hp c
 have bx := box_new w #[.int .i64 (p.i : Nat), .int .i64 (p.k : Nat)] 60
 have x0 := bx 0
 have x1 := bx 1
 have T : Hid (∀ W1 : World, Below (w.alloc (.cells #[.int .i64 (p.i : Nat), .int .i64 (p.k : Nat)] 60)).heap.size (w.alloc (.cells #[.int .i64 (p.i : Nat), .int .i64 (p.k : Nat)] 60)) W1 -> W1.cell? ⟨w.heap.size, 0, none⟩ = some (.int .i64 (p.i : Nat)) /\ W1.cell? ⟨w.heap.size, 1, none⟩ = some (.int .i64 (p.k : Nat))) := fun W1 hB =>
  ⟨(hB.cell (p := ⟨w.heap.size, 0, none⟩) (by simp)).trans x0, (hB.cell (p := ⟨w.heap.size, 1, none⟩) (by simp)).trans x1⟩
 simp at x0 x1
 unfold aloW
 cases hbv : staW E.L p c with
 | false =>
  rw [hbv] at SC
  clear bx h LO T
  go_enter Tryz.func120, Tryz.ntmps120
  go_wp2_with (first | (go_at_call 34; refine SC.mono ?_; clear SC; rintro en W1 ⟨rfl, hB⟩))
  go_ret
  exact ⟨rfl, kA.trans (hB.mono (by simp))⟩
 | true =>
  rw [hbv] at SC
  have h0 : 0 < (rst E.L p).length := by
   unfold staW at hbv
   simp at hbv
   exact hbv.1
  have hp1 : Okp E (p.plus 1) := by
   obtain ⟨x, hx, hk⟩ := hp
   rw [rst_at hx, List.length_drop] at h0
   exact ⟨x, hx, by show p.k + 1 <= _; omega⟩
  have hpk : (p.k : Int) + (1 : Nat) <= 9223372036854775807 := by
   obtain ⟨x, hx, hk⟩ := hp
   have := hf.txt _ x hx
   omega
  have PL : ∀ W : World, Calls Tryz.prog 36 #[p.v, .int .i64 1] W fun en w' => en = .returned (p.plus 1).v /\ Below W.heap.size W w' := fun W => plus_any p 1 W hpk
  have RC : Hid (∀ W1 : World, Below w.heap.size w W1 -> Calls Tryz.prog 54 #[.pointer (some ⟨wb, 0, none⟩), (p.plus 1).v] W1 fun en w' => en = .returned (.slice (rq E (p.plus 1)) (rst E.L (p.plus 1)).length (rc E (p.plus 1))) /\ Below W1.heap.size W1 w') := fun W1 hW => rest_any (h.on hW) hf hp1
  rw [Bool.true_and]
  have hl3 := (rest_is h.lin hf hp1).2.2.2.1
  by_cases h1 : (rst E.L (p.plus 1)).length = 0
  ·rw [h1] at RC |-
   clear bx h LO hp hp1 h0 hbv hl3
   go_enter Tryz.func120, Tryz.ntmps120
   go_wp2_with (first | (go_at_call 34; refine SC.mono ?_; clear SC; rintro en W1 ⟨rfl, hB⟩; have k1 := kA.trans (hB.mono (by simp)); obtain ⟨d0, d1⟩ := T.out W1 hB) | (go_at_call 36; refine (PL _).mono ?_; clear PL; rintro en W2 ⟨rfl, hB2⟩; have k2 := k1.trans (hB2.mono k1.size); have RX := RC.out W2 k2) | (go_at_call 54; refine RX.mono ?_; clear RX; rintro en W3 ⟨rfl, hB3⟩; have k3 := k2.trans (hB3.mono k2.size)))
   go_ret
   exact ⟨rfl, k3⟩
  ·obtain ⟨b, o, hq, hH⟩ := head_at h.lin hf hp1 (by omega)
   rw [hq] at RC
   have HH : Hid (∀ W1 : World, Below w.heap.size w W1 -> W1.cell? ⟨b, o, none⟩ = some (.int .i64 (hd E.L (p.plus 1)))) := fun W1 hB => hH W1 (hB.mono (Nat.le_of_lt h.lt))
   have e3 : (0 : Int) < ((rst E.L (p.plus 1)).length : Int) := by omega
   have e4 : (((rst E.L (p.plus 1)).length : Int) == 0) = false := by rw [beq_eq_false_iff_ne]; omega
   have e5 : ¬ ((rst E.L (p.plus 1)).length : Int) = 0 := by omega
   have e6 : decide ((rst E.L (p.plus 1)).length = 0) = false := decide_eq_false h1
   rw [e6, Bool.false_or]
   have NM := LO.name (hd E.L (p.plus 1))
   generalize (rst E.L (p.plus 1)).length = tl at *
   generalize hd E.L (p.plus 1) = x at *
   generalize O.name x = bv at *
   clear bx h hH hq h0 hp LO hbv hp1 e6 h1
   go_enter Tryz.func120, Tryz.ntmps120
   go_wp2_with (first | (go_at_call 34; refine SC.mono ?_; clear SC; rintro en W1 ⟨rfl, hB⟩; have k1 := kA.trans (hB.mono (by simp)); obtain ⟨d0, d1⟩ := T.out W1 hB) | (go_at_call 36; refine (PL _).mono ?_; clear PL; rintro en W2 ⟨rfl, hB2⟩; have k2 := k1.trans (hB2.mono k1.size); have RX := RC.out W2 k2) | (go_at_call 54; refine RX.mono ?_; clear RX; rintro en W3 ⟨rfl, hB3⟩; have k3 := k2.trans (hB3.mono k2.size); have c0 := HH.out W3 k3) | (go_at_call 145; refine (NM _).mono ?_; clear NM; rintro en W4 ⟨rfl, rfl⟩))
   go_ret
   exact ⟨rfl, k3⟩
end
def Bx (w : World) (b : Nat) (i k : Int) : Prop := w.heap[b]? = some (.cells #[.int .i64 i, .int .i64 k] 60)
theorem Bx.cell {w : World} {b : Nat} {i k : Int} (h : Bx w b i k) (o : Nat) : w.cell? ⟨b, o, none⟩ = (#[.int .i64 i, .int .i64 k] : Array Value)[o]? := by
 show (match w.heap[b]? with | some (.cells c _ _) => c[o]? | _ => none) = _
 rw [show w.heap[b]? = _ from h]
theorem Bx.frozen {w : World} {b : Nat} {i k : Int} (h : Bx w b i k) (o : Nat) : w.frozen? ⟨b, o, none⟩ = false := by simp [World.frozen?, show w.heap[b]? = _ from h]
theorem Bx.lt {w : World} {b : Nat} {i k : Int} (h : Bx w b i k) : b < w.heap.size := (Array.getElem?_eq_some_iff.1 (show w.heap[b]? = _ from h)).1
theorem Bx.on {w w' : World} {b : Nat} {i k : Int} (h : Bx w b i k) (hb : Below w.heap.size w w') : Bx w' b i k := (hb.block b h.lt).trans h
theorem Bx.new (w : World) (i k : Int) : Bx (w.alloc (.cells #[.int .i64 i, .int .i64 k] 60)) w.heap.size i k := World.alloc_heap_new w _
theorem Bx.set1 {w : World} {b : Nat} {i k : Int} (h : Bx w b i k) (x : Int) : Bx (w.setCell ⟨b, 1, none⟩ (.int .i64 x)) b i x := by
 unfold Bx at *
 simp only [World.setCell, Array.getElem?_modify, h, if_true, Option.map_some]
 rfl
theorem Bx.set0 {w : World} {b : Nat} {i k : Int} (h : Bx w b i k) (x : Int) : Bx (w.setCell ⟨b, 0, none⟩ (.int .i64 x)) b x k := by
 unfold Bx at *
 simp only [World.setCell, Array.getElem?_modify, h, if_true, Option.map_some]
 rfl
theorem Bx.other {w : World} {b g o : Nat} {i k : Int} (h : Bx w b i k) (x : Value) (hg : b ≠ g) : Bx (w.setCell ⟨g, o, none⟩ x) b i k := (Below.heap_setCell _ _ _ _ hg).trans h
theorem Bx.put {w : World} {b : Nat} {i k : Int} (h : Bx w b i k) (x y : Int) : Bx ((w.setCell ⟨b, 0, none⟩ (.int .i64 x)).setCell ⟨b, 1, none⟩ (.int .i64 y)) b x y := (h.set0 x).set1 y
section
variable {w : World} {wb : Nat} {E : Env} {s : St} {ov tv : Value} {p : Pl} {O : Orc}
theorem past_more (LO : LowC O) {t : List Int} {j : Nat} (hj : j < t.length) (hb : O.blank (iAt t j) = true) : O.past (t.drop j) = O.past (t.drop (j + 1)) + 1 := by
 have e : t.drop j = iAt t j :: t.drop (j + 1) := by
  rw [List.drop_eq_getElem_cons hj]
  simp [iAt, hj]
 rw [e, LO.past]
 simp [hb]
theorem past_stop (LO : LowC O) {t : List Int} {j : Nat} (h : j = t.length \/ (j < t.length /\ O.blank (iAt t j) = false)) : O.past (t.drop j) = 0 := by
 rcases h with rfl | ⟨hj, hb⟩
 ·rw [List.drop_length, LO.past]
 ·have e : t.drop j = iAt t j :: t.drop (j + 1) := by
   rw [List.drop_eq_getElem_cons hj]
   simp [iAt, hj]
  rw [e, LO.past]
  simp [hb]
theorem pastBlanks_any (LO : LowC O) (h : Wk w wb E s ov tv) (hf : Fine E) (hp : Okp E p) :
  Calls Tryz.prog 33 #[.pointer (some ⟨wb, 0, none⟩), p.v] w fun en w' => en = .returned (pasW O E.L p).v /\ Below w.heap.size w w' := by
 have kA := below_alloc w (.cells #[.int .i64 (p.i : Nat), .int .i64 (p.k : Nat)] 60)
 have kB := kA.alloc (o := .cells #[.int .i64 0, .int .i64 0] 60) (by simp)
 have RC := rest_any (h.on kB) hf hp
 have BA := Bx.new w (p.i : Nat) (p.k : Nat)
 have BB := BA.on (below_alloc _ (.cells #[.int .i64 0, .int .i64 0] 60))
 have BN := Bx.new (w.alloc (.cells #[.int .i64 (p.i : Nat), .int .i64 (p.k : Nat)] 60)) 0 0
 rw [World.size_alloc] at BN
 have x0 := BB.cell 0
 have x1 := BB.cell 1
 simp at x0 x1
 obtain ⟨hI, -, -, hl3, hIb⟩ := rest_is h.lin hf hp
 have hkm : (p.k : Int) <= 1048576 := by
  obtain ⟨x, hx, hk⟩ := hp
  have := hf.txt _ x hx
  omega
 have HI : Hid (∀ W, Below w.heap.size w W -> Is W (rq E p) (rst E.L p)) := fun W hW => hI.on hW
 have hv : (pasW O E.L p).v = .agg #[.int .i64 (p.i : Nat), .int .i64 ((p.k : Int) + (O.past (rst E.L p) : Nat))] := by
  simp only [pasW, Pl.plus, Pl.v]
  rw [show ((p.k + O.past (rst E.L p) : Nat) : Int) = (p.k : Int) + (O.past (rst E.L p) : Nat) by omega]
 rw [hv]
 generalize rst E.L p = t at *
 generalize rq E p = q at *
 generalize rc E p = c at *
 have hti : (t.length : Int) <= 1048576 := by omega
 obtain ⟨r, hr⟩ : ∃ r, O.past t = r := ⟨_, rfl⟩
 have HR : Hid (O.past t = r) := hr
 rw [hr]
 have HB : Hid (Bx ((w.alloc (.cells #[.int .i64 (p.i : Nat), .int .i64 (p.k : Nat)] 60)).alloc (.cells #[.int .i64 0, .int .i64 0] 60)) w.heap.size (p.i : Nat) (p.k : Nat)) := BB
 have HN : Hid (Bx ((w.alloc (.cells #[.int .i64 (p.i : Nat), .int .i64 (p.k : Nat)] 60)).alloc (.cells #[.int .i64 0, .int .i64 0] 60)) (w.heap.size + 1) 0 0) := BN
 have HL : Hid (∀ t : List Int, ∀ j, j < t.length -> O.blank (iAt t j) = true -> O.past (t.drop j) = O.past (t.drop (j + 1)) + 1) := fun t j h1 h2 => past_more LO h1 h2
 have HT : Hid (∀ t : List Int, ∀ j, (j = t.length \/ (j < t.length /\ O.blank (iAt t j) = false)) -> O.past (t.drop j) = 0) := fun t j h1 => past_stop LO h1
 have BL := LO.blank
 clear hr hv BA BB BN h hp hI hIb LO
 go_enter Tryz.func33, Tryz.ntmps33
 go_wp2_with (first | (go_at_call 54; refine RC.mono ?_; clear RC; rintro en W1 ⟨rfl, hB⟩))
 have k1 := kB.trans (hB.mono (by simp; omega))
 have B1 := HB.out.on hB
 have N1 := HN.out.on hB
 go_loopw [11] (fun iv wr => ∃ j : Nat, j <= t.length /\ iv = .int .i64 j /\ Hid (O.past t = j + O.past (t.drop j)) /\ Bx wr w.heap.size (p.i : Nat) ((p.k : Int) + j) /\ Bx wr (w.heap.size + 1) 0 0 /\ Below w.heap.size w wr) (fun iv _ => t.length - (intOf iv).toNat)
 case atStart => exact ⟨0, Nat.zero_le _, rfl, by show O.past t = 0 + O.past (t.drop 0); simp, by simpa using B1, N1, k1⟩
 case round =>
  obtain ⟨j, hj, rfl, HE, Bj, Nj, kj⟩ := hrel
  by_cases hlt : j < t.length
  ·have hli : (j : Int) < t.length := by omega
   obtain ⟨b, o, rfl, hu⟩ := (HI.out wr kj).at (by omega)
   have c0 := hu j hlt
   have KD := BL (iAt t j)
   cases hz : O.blank (iAt t j) with
   | true =>
    rw [hz] at KD
    have HN2 : Hid (O.past t = (j + 1 : Nat) + O.past (t.drop (j + 1))) := by
     show O.past t = _
     rw [HE.out, HL.out t j hlt hz]; omega
    have y1 := Bj.cell 1
    have f1 := Bj.frozen 1
    simp at y1
    have B2 := Bj.set1 ((p.k : Int) + j + 1)
    have N2 := Nj.other (g := w.heap.size) (o := 1) (.int .i64 ((p.k : Int) + j + 1)) (by omega)
    have k2 := kj.setCell (p := ⟨w.heap.size, 1, none⟩) (Nat.le_refl _) (.int .i64 ((p.k : Int) + j + 1))
    have HB2 : Hid (Bx (wr.setCell ⟨w.heap.size, 1, none⟩ (.int .i64 ((p.k : Int) + j + 1))) w.heap.size (p.i : Nat) ((p.k : Int) + (j + 1 : Nat)) /\ Bx (wr.setCell ⟨w.heap.size, 1, none⟩ (.int .i64 ((p.k : Int) + j + 1))) (w.heap.size + 1) 0 0 /\ Below w.heap.size w (wr.setCell ⟨w.heap.size, 1, none⟩ (.int .i64 ((p.k : Int) + j + 1)))) := ⟨by rw [show (p.k : Int) + (j + 1 : Nat) = (p.k : Int) + j + 1 by omega]; exact B2, N2, k2⟩
    generalize iAt t j = x at c0 KD
    clear hu hz HE HR B2 N2 k2 Bj Nj B1 N1 HB HN HI HL HT BL
    go_wp2_with (first | (go_at_call 55; refine (KD _).mono ?_; rintro e w ⟨rfl, rfl⟩))
    go_roundw
    case rel => exact ⟨j + 1, by omega, by go_num, HN2, HB2.out⟩
    case measure => simp [intOf]; omega
   | false =>
    rw [hz] at KD
    have hrj : r = j := by
     have e1 := HE.out
     rw [HT.out t j (.inr ⟨hlt, hz⟩), HR.out] at e1
     omega
    subst hrj
    have y0 := Bj.cell 0
    have y1 := Bj.cell 1
    have f0 := Nj.frozen 0
    have f1 := Nj.frozen 1
    have z0 := Nj.cell 0
    have z1 := Nj.cell 1
    simp at y0 y1 z0 z1
    have HZ : Hid (Bx ((wr.setCell ⟨w.heap.size + 1, 0, none⟩ (.int .i64 (p.i : Nat))).setCell ⟨w.heap.size + 1, 1, none⟩ (.int .i64 ((p.k : Int) + r))) (w.heap.size + 1) (p.i : Nat) ((p.k : Int) + r)) := Nj.put _ _
    have HK : Hid (Below w.heap.size w ((wr.setCell ⟨w.heap.size + 1, 0, none⟩ (.int .i64 (p.i : Nat))).setCell ⟨w.heap.size + 1, 1, none⟩ (.int .i64 ((p.k : Int) + r)))) := (kj.setCell (p := ⟨w.heap.size + 1, 0, none⟩) (Nat.le_succ _) _).setCell (p := ⟨w.heap.size + 1, 1, none⟩) (Nat.le_succ _) _
    generalize iAt t r = x at c0 KD
    clear hu hz HE HR Bj Nj B1 N1 HB HN HI HL HT BL
    go_wp2_with (first | (go_at_call 55; refine (KD _).mono ?_; rintro e w ⟨rfl, rfl⟩))
    refine bodyPost_ret (results_pl rfl rfl HZ.out.cell) rfl ⟨rfl, HK.out⟩
  ·have hge : ¬ (j : Int) < t.length := by omega
   have hrj : r = j := by
    have e1 := HE.out
    rw [HT.out t j (.inl (by omega)), HR.out] at e1
    omega
   subst hrj
   have y0 := Bj.cell 0
   have y1 := Bj.cell 1
   have f0 := Nj.frozen 0
   have f1 := Nj.frozen 1
   have z0 := Nj.cell 0
   have z1 := Nj.cell 1
   simp at y0 y1 z0 z1
   have HZ : Hid (Bx ((wr.setCell ⟨w.heap.size + 1, 0, none⟩ (.int .i64 (p.i : Nat))).setCell ⟨w.heap.size + 1, 1, none⟩ (.int .i64 ((p.k : Int) + r))) (w.heap.size + 1) (p.i : Nat) ((p.k : Int) + r)) := Nj.put _ _
   have HK : Hid (Below w.heap.size w ((wr.setCell ⟨w.heap.size + 1, 0, none⟩ (.int .i64 (p.i : Nat))).setCell ⟨w.heap.size + 1, 1, none⟩ (.int .i64 ((p.k : Int) + r)))) := (kj.setCell (p := ⟨w.heap.size + 1, 0, none⟩) (Nat.le_succ _) _).setCell (p := ⟨w.heap.size + 1, 1, none⟩) (Nat.le_succ _) _
   clear HE HR Bj Nj B1 N1 HB HN HI HL HT BL
   go_wp2
   refine bodyPost_ret (results_pl rfl rfl HZ.out.cell) rfl ⟨rfl, HK.out⟩
theorem lineEnds_any (LO : LowC O) (h : Wk w wb E s ov tv) (hf : Fine E) (hp : Okp E p) :
  Calls Tryz.prog 142 #[.pointer (some ⟨wb, 0, none⟩), p.v] w fun en w' => en = .returned (.bool (linW O E.L p)) /\ Below w.heap.size w w' := by
 obtain ⟨i, k⟩ := p
 obtain ⟨x, hx, hk⟩ := hp
 dsimp only at hx hk
 have hil : i < E.M.length := (List.getElem?_eq_some_iff.1 hx).1
 have hml := hf.len
 have htl := hf.txt i x hx
 obtain ⟨b1, b2, hI⟩ := h.lin.1.1 i x hx
 obtain ⟨b, o, hq, hc⟩ := h.lin.1.at (by omega)
 have c1 := (hc i x hx).2
 have hbl : b < wb := h.lin.2.1 _ hq (by omega)
 have bx := box_new w #[.int .i64 (i : Nat), .int .i64 (k : Nat)] 60
 have x0 := bx 0
 have x1 := bx 1
 simp at x0 x1
 have kA := below_alloc w (.cells #[.int .i64 (i : Nat), .int .i64 (k : Nat)] 60)
 have c0 := (h.on kA).cell 0
 rw [hq] at c0
 simp at c0
 have cr := (kA.cell (p := ⟨b, o + i * 2 + 1, none⟩) (World.block_lt_of_cell? w _ c1)).trans c1
 have hI2 := hI.on kA
 have d5 : (i : Int) < E.M.length := by omega
 have hv : linW O E.L ⟨i, k⟩ = (decide (k = x.t.length) || (decide (iAt x.t k = 35) && (decide (k = 0) || O.blank (iAt x.t (k - 1))))) := by
  unfold linW hd
  rw [rst_at (p := ⟨i, k⟩) hx]
  dsimp only
  rw [tx_at hx, List.length_drop]
  congr 1
  ·rw [decide_eq_decide]; omega
  ·congr 1
   ·rw [decide_eq_decide]
    have : (x.t.drop k).headD 0 = iAt x.t k := by
     unfold iAt
     rw [<- List.head?_drop]
     cases x.t.drop k <;> rfl
    rw [this]
 rw [hv]
 have BL := LO.blank
 generalize x.t = t at *
 generalize x.q = q at *
 generalize x.c = c at *
 clear bx hc c1 h hI hq hv hx LO hbl
 by_cases h1 : k = t.length
 ·rw [decide_eq_true h1, Bool.true_or]
  subst h1
  clear hI2 BL
  go_enter Tryz.func142, Tryz.ntmps142
  go_wp2
  go_quiet (fail)
  go_wp2
  go_ret
  exact ⟨rfl, below_alloc_drewN _ _ _⟩
 ·rw [decide_eq_false h1, Bool.false_or]
  have hlt : k < t.length := by omega
  obtain ⟨bt, ot, rfl, hu⟩ := hI2.at (by omega)
  have ck := hu k hlt
  have cp := fun h0 : 0 < k => hu (k - 1) (by omega)
  have e1 : ((k : Int) == (t.length : Int)) = false := by rw [beq_eq_false_iff_ne]; omega
  have e2 : ¬ (k : Int) = (t.length : Int) := by omega
  have e3 : (k : Int) < (t.length : Int) := by omega
  have e7 : (k == t.length) = false := by rw [beq_eq_false_iff_ne]; omega
  by_cases h2 : iAt t k = 35
  ·rw [decide_eq_true h2, Bool.true_and]
   rw [h2] at ck
   by_cases h3 : k = 0
   ·rw [decide_eq_true h3, Bool.true_or]
    have e4 : ((k : Int) == 0) = true := by rw [h3]; rfl
    clear h3
    generalize t.length = tl at *
    clear hu hI2 BL cp h1 h2
    go_enter Tryz.func142, Tryz.ntmps142
    go_wp2
    go_quiet (fail)
    go_wp2
    go_ret
    exact ⟨rfl, below_alloc_drewN _ _ _⟩
   ·rw [decide_eq_false h3, Bool.false_or]
    have c2 := cp (by omega)
    have KD := BL (iAt t (k - 1))
    have e4 : ((k : Int) == 0) = false := by rw [beq_eq_false_iff_ne]; omega
    have e9 : (k == 0) = false := by rw [beq_eq_false_iff_ne]; omega
    have e5 : ((k - 1 : Nat) : Int) = (k : Int) - 1 := by omega
    have e6 : (k : Int) - 1 < (t.length : Int) := by omega
    have e10 : 0 <= (k : Int) - 1 := by omega
    have e11 : ((k : Int) - 1).toNat = k - 1 := by omega
    generalize iAt t (k - 1) = y at *
    generalize O.blank y = bv at *
    generalize t.length = tl at *
    clear hu hI2 BL cp h1 h2 e5
    go_enter Tryz.func142, Tryz.ntmps142
    go_wp2
    go_quiet (fail)
    go_wp2_with (first | (go_at_call 55; refine (KD _).mono ?_; clear KD; rintro e w1 ⟨rfl, rfl⟩))
    go_ret
    exact ⟨rfl, below_alloc_drewN _ _ _⟩
  ·rw [decide_eq_false h2, Bool.false_and]
   have e4 : (iAt t k == 35) = false := by rw [beq_eq_false_iff_ne]; exact h2
   generalize iAt t k = y at *
   generalize t.length = tl at *
   clear hu hI2 BL cp h1
   go_enter Tryz.func142, Tryz.ntmps142
   go_wp2
   go_quiet (fail)
   go_wp2
   go_ret
   exact ⟨rfl, below_alloc_drewN _ _ _⟩
end
end Go.Proofs.YtipbhdhiklmieaaGreatDoor
