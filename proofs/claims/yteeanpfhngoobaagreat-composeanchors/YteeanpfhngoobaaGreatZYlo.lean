/- A range over a function that tells the elements of a known list in order, keeps a list of its own while it tells, and may be left early. -/
import Derived.Test.YteeanpfhngoobaaGreatZYls
set_option linter.unusedVariables false
set_option linter.unusedSimpArgs false
namespace Go.Proofs.YteeanpfhngoobaaGreat
open Go.RowKit Go.Shelf

/-- What a round keeps. -/
structure Kq (X : Nat → Prop) (A C : World) : Prop where
  size : A.heap.size ≤ C.heap.size
  same : ∀ b, X b → C.heap[b]? = A.heap[b]?
theorem Kq.trans {X : Nat → Prop} {A B C : World} (h : Kq X A B) (k : Kq X B C) : Kq X A C := ⟨Nat.le_trans h.size k.size, fun b hb => (k.same b hb).trans (h.same b hb)⟩
theorem Kq.refl (X : Nat → Prop) (A : World) : Kq X A A := ⟨Nat.le_refl _, fun _ _ => rfl⟩
theorem Kq.less {X Y : Nat → Prop} {A B : World} (h : Kq X A B) (hY : ∀ b, Y b → X b) : Kq Y A B := ⟨h.size, fun b hb => h.same b (hY b hb)⟩
theorem Kq.grown {X : Nat → Prop} {A B : World} {row : Option Nat} (h : A.grownBy B row) (hX : ∀ b, X b → b < A.heap.size ∧ some b ≠ row) : Kq X A B := ⟨h.size, fun b hb => h.block b (hX b hb).1 (hX b hb).2⟩
/-- The other side's invariant J X: it holds whatever is done to the blocks of X, to new ones, and to what is no cells and lies at or beyond B; what is made anew may come to X. -/
structure Abo (B : Nat) (J : (Nat → Prop) → Nat → World → Prop) : Prop where
  step : ∀ X s W W' row, J X s W → W.grownBy W' row → (∀ r, row = some r → X r ∨ (B ≤ r ∧ ∃ o : Obj, W.heap[r]? = some o ∧ o.isCells = false)) → J X s W'
  new : ∀ X s W W' row, J X s W → W.grownBy W' row → (∀ r, row = some r → X r) → J (fun b => X b ∨ (W.heap.size ≤ b ∧ b < W'.heap.size)) s W'
  less : ∀ X Y s W, J X s W → (∀ b, Y b → X b) → J Y s W
  lt : ∀ X s W b, J X s W → X b → b < W.heap.size
theorem Abo.alloc {B : Nat} {J : (Nat → Prop) → Nat → World → Prop} (h : Abo B J) {X : Nat → Prop} {s : Nat} {W : World} (hs : J X s W) (o : Obj) : J X s (W.alloc o) :=
  h.step X s W _ none hs (World.grownBy_alloc W o none) (fun r e => by cases e)
theorem Abo.drew {B : Nat} {J : (Nat → Prop) → Nat → World → Prop} (h : Abo B J) {X : Nat → Prop} {s : Nat} {W : World} (hs : J X s W) : J X s W.drew :=
  h.step X s W _ none hs (grownBy_drew W) (fun r e => by cases e)
theorem grownBy_drewN (W : World) (n : Nat) : W.grownBy (W.drewN n) none := ⟨rfl, rfl, rfl, Nat.le_refl _, fun _ _ _ => rfl⟩
theorem Abo.drewN {B : Nat} {J : (Nat → Prop) → Nat → World → Prop} (h : Abo B J) {X : Nat → Prop} {s : Nat} {W : World} (hs : J X s W) (n : Nat) : J X s (W.drewN n) :=
  h.step X s W _ none hs (grownBy_drewN W n) (fun r e => by cases e)
def orX (R X : Nat → Prop) (b : Nat) : Prop := R b ∨ X b

/-- An iterator that tells T in order, or stops where the round says so; R: what it looks at; X: what is its own. -/
def SeqO {α : Type} (n : Nat) (P : Program) (g : Nat) (lb : Array Value) (enc : α → Array Value) (T : List α) (R : Nat → Prop) (w : World) : Prop :=
  ∀ (l : Nat) (J : (Nat → Prop) → Nat → World → Prop) (Jx : Nat → World → Prop) (W : World), Below w.heap.size w W → l < W.heap.size → Abo W.heap.size J →
    (∀ (m : Nat) (X : Nat → Prop) (i : Nat) (x : α) (W1 : World), T[i]? = some x → J X i W1 → YieldAt Fence.wide m P l (enc x) W1 fun e W' =>
      (e = .returned (.bool true) ∧ J X (i + 1) W' ∧ Kq (orX R X) W1 W') ∨ (e = .returned (.bool false) ∧ Jx (i + 1) W')) →
    J (fun _ => False) 0 W →
    CallsIn Fence.wide n P g (#[.func (.yield l) #[] #[]] ++ lb) W fun e W' => (∃ v, e = .returned v) ∧ ((∃ X, J X T.length W') ∨ ∃ i, Jx i W')

/-- How the body of a round may be left. -/
def postO (B : Nat) (R : Nat → Prop) (I : (Nat → Prop) → Nat → World → Prop) (Ix : Code → Nat → World → Prop) (X : Nat → Prop) (i : Nat) (W : World) : Exit → Act → World → Prop
  | .normal, _, W' => KeepsFrom B W W' ∧ Kq (orX R X) W W' ∧ I X i W'
  | .ret, _, W' => KeepsFrom B W W' ∧ Ix .ret i W'
  | .exit id, _, W' => KeepsFrom B W W' ∧ Ix (.exit id) i W'
  | .goto t, _, W' => KeepsFrom B W W' ∧ Ix (.goto t) i W'
  | .panic _, _, _ => False
  | .outgrown, _, _ => False

theorem wpIn_rangeFuncO {α : Type} {n : Nat} {P : Program} {g : Operand} {ps : Array Tmp} {assign body : Code} {Q : Exit → Act → World → Prop} {a : Act} {w : World}
    {gf : Nat} {lb : Array Value} (hg : a.eval g = .func (.func gf) #[] lb) (eg : ∀ args w, (callFunc gf args).run P w = .ok (.enter gf args) w)
    {enc : α → Array Value} {T : List α} {R : Nat → Prop} {w0 : World} (hseq : SeqO (n - 1) P gf lb enc T R w0) (hR : ∀ b, R b → b < w.heap.size)
    (hb0 : Below w0.heap.size w0 w) (hps : ∀ x, (enc x).size = ps.size)
    (I : (Nat → Prop) → Nat → World → Prop) (Ix : Code → Nat → World → Prop) (hI : Abo w.heap.size I) (hIx : ∀ c, OwnFrom w.heap.size (Ix c)) (h0 : I (fun _ => False) 0 w)
    (gr : α → World → World) (hgr : ∀ (x : α) (W : World), W.grownBy (gr x W) none) (a₁ : α → Nat → Act)
    (hassign : ∀ (m l : Nat) (x : α) (W : World) (K : Act → World → Prop), K (a₁ x W.heap.size) (gr x W) →
      assign.wpIn (Fence.wide.inRound l) m P (Exit.then K (fun _ _ _ => False)) { tmps := (ps.zip (enc x)).foldl (fun t (p, v) => t.setIfInBounds p v) a.tmps, defers := [] } W)
    (hbody : ∀ (m l : Nat) (X : Nat → Prop) (i : Nat) (x : α) (W0 W : World), T[i]? = some x → I X i W → w.heap.size ≤ l → l < W0.heap.size → (∀ k, k ≠ l → W.heap[k]? = (gr x W0).heap[k]?) →
      body.wpIn (Fence.wide.inRound l) m P (postO w.heap.size R I Ix X (i + 1) W) (a₁ x W0.heap.size) W)
    (hdone : ∀ (D : Nat) (X : Nat → Prop) (W : World), w.heap.size ≤ D → I X T.length W → W.heap[D]? = some (.deferred (some [])) → Q .normal { a with defers := { target := .collected D, args := #[] } :: a.defers } W)
    (hstop : ∀ (D : Nat) (c : Code) (i : Nat) (W : World), w.heap.size ≤ D → Ix c i W → W.heap[D]? = some (.deferred (some [])) → c.wpIn Fence.wide n P Q { a with defers := { target := .collected D, args := #[] } :: a.defers } W) :
    (Code.rangeFunc g ps assign body).wpIn Fence.wide n P Q a w := by
  refine wpIn_rangeFunc ?_
  intro fn hfn
  rw [show Fence.wide.round = none from rfl]
  obtain ⟨rec, hrec⟩ : ∃ rec : LoopState → Option Code → Loop, rec = fun st pe => { state := st, pending := pe, fn, tmps := a.tmps, params := ps, assign, body, defers := w.heap.size } := ⟨_, rfl⟩
  obtain ⟨W1, hW1⟩ : ∃ W1, (w.alloc (.deferred (some []))).alloc (.loop (rec .ready none)) = W1 := ⟨_, rfl⟩
  have hL1 : W1.heap[w.heap.size + 1]? = some (.loop (rec .ready none)) := by
    rw [← hW1]; have := World.alloc_heap_new (w.alloc (.deferred (some []))) (.loop (rec .ready none)); rwa [World.size_alloc] at this
  have hK1 : W1.heap[w.heap.size]? = some (.deferred (some [])) := by
    rw [← hW1]; exact (Below.heap_alloc _ _ _ (by simp)).trans (World.alloc_heap_new w _)
  have hI1 : I (fun _ => False) 0 W1 := by rw [← hW1]; exact hI.alloc (hI.alloc h0 _) _
  have hsz1 : W1.heap.size = w.heap.size + 2 := by rw [← hW1]; simp
  have hb1 : Below w0.heap.size w0 W1 := by
    rw [← hW1]; exact hb0.trans ((((Below.refl _ w).alloc (Nat.le_refl _) _).alloc (by simp) _).mono hb0.size)
  refine ⟨w.heap.size + 1, [{ target := .collected w.heap.size, args := #[] }], W1, { target := .fn (.func gf) lb, args := #[.func (.yield (w.heap.size + 1)) #[] #[]] }, W1, gf,
    #[.func (.yield (w.heap.size + 1)) #[] #[]] ++ lb, W1, ?_, ?_, fun _ _ => trivial, ?_, (fun h => by cases h), ?_⟩
  · rw [← hW1, hrec]; exact run_enterLoop_outer _ _ _ _ _
  · simp only [resolve, hg]
    simp [go_sem]
  · simp [invoke, go_sem, eg]
  · clear hW1
    have nn : ∀ {A B : World}, A.grownBy B none → ∀ {k : Nat} {o : Obj}, A.heap[k]? = some o → B.heap[k]? = some o := fun h k o hk => (h.block k (Array.getElem?_eq_some_iff.1 hk).1 (by simp)).trans hk
    have hJ : Abo W1.heap.size (fun X (i : Nat) W => I X i W ∧ W.heap[w.heap.size + 1]? = some (.loop (rec .ready none)) ∧ W.heap[w.heap.size]? = some (.deferred (some [])) ∧ ¬ X (w.heap.size + 1) ∧ ¬ X w.heap.size) := by
      refine ⟨fun X s W W' row hs hg' hr => ?_, fun X s W W2 row hs hg2 hr2 => ?_, fun X Y s W hs hY => ?_, fun X s W b hs hb => hI.lt X s W b hs.1 hb⟩
      · obtain ⟨hi, hl, hk, nl, nd⟩ := hs
        have ne : ∀ r, r < W1.heap.size → ¬ X r → some r ≠ row := fun r hlt hn e => by
          rcases hr r e.symm with h | ⟨h, -⟩
          · exact hn h
          · omega
        exact ⟨hI.step X s W W' row hi hg' (fun r e => (hr r e).imp id (fun ⟨h1, h2⟩ => ⟨by omega, h2⟩)), (hg'.block _ (Array.getElem?_eq_some_iff.1 hl).1 (ne _ (by omega) nl)).trans hl, (hg'.block _ (Array.getElem?_eq_some_iff.1 hk).1 (ne _ (by omega) nd)).trans hk, nl, nd⟩
      · obtain ⟨hi, hl, hk, nl, nd⟩ := hs
        have l1 := (Array.getElem?_eq_some_iff.1 hl).1
        exact ⟨hI.new X s W W2 row hi hg2 hr2, (hg2.block _ l1 (fun e => nl (hr2 _ e.symm))).trans hl, (hg2.block _ (by omega) (fun e => nd (hr2 _ e.symm))).trans hk, (fun h => h.elim nl (fun e => by omega)), fun h => h.elim nd (fun e => by omega)⟩
      · obtain ⟨hi, hl, hk, nl, nd⟩ := hs
        exact ⟨hI.less X Y s W hi hY, hl, hk, fun h => nl (hY _ h), fun h => nd (hY _ h)⟩
    refine (hseq (w.heap.size + 1) _
      (fun i W => ∃ c, Ix c i W ∧ W.heap[w.heap.size + 1]? = some (.loop (rec .done (some c))) ∧ W.heap[w.heap.size]? = some (.deferred (some [])))
      W1 hb1 (by omega) hJ ?_ ⟨hI1, hL1, hK1, id, id⟩).mono ?_
    · rintro m X i x W0 hx ⟨hi0, hl0, hk0, nl, nd⟩
      have hy := run_yield (P := P) (args := enc x) hl0 (by rw [hrec]; exact hps x)
      rw [hrec] at hy
      have hlt0 : w.heap.size + 1 < W0.heap.size := (Array.getElem?_eq_some_iff.1 hl0).1
      have hG := hgr x W0
      have hi := hI.step X i W0 _ none hi0 hG (fun r e => by cases e)
      have hl := nn hG hl0
      have hk := nn hG hk0
      have hXlt : ∀ b, X b → b < W0.heap.size := fun b hb => hI.lt X i W0 b hi0 hb
      have hKg : Kq (orX R X) W0 (gr x W0) := Kq.grown hG fun b hb => ⟨by rcases hb with h | h; (have := hR b h; omega); exact hXlt b h, by simp⟩
      refine ⟨fn, _, assign, body, hy, roundIn_of_wpIn hfn (hassign _ _ x W0 _ ⟨_, run_beginRound hl (by rw [hrec]), ?_⟩)⟩
      obtain ⟨W, hW⟩ : ∃ W, gr x W0 = W := ⟨_, rfl⟩
      rw [hW] at hi hl hk hKg ⊢
      have nR : ∀ b, orX R X b → b ≠ w.heap.size + 1 := fun b hb e => by
        rcases hb with h | h
        · have := hR b h; omega
        · exact nl (e ▸ h)
      have hput : ∀ (A : World) (o' : Obj), Kq (orX R X) A (A.putObj (w.heap.size + 1) o') := fun A o' => ⟨by simp [World.putObj], fun b hb => World.putObj_heap_other (nR b hb)⟩
      have hlt : w.heap.size + 1 < W.heap.size := (Array.getElem?_eq_some_iff.1 hl).1
      have hl2 : (W.putObj (w.heap.size + 1) (.loop { rec .ready none with state := .busy })).heap[w.heap.size + 1]? = some (.loop { rec .ready none with state := .busy }) := World.putObj_heap_same hlt
      have hk2 : (W.putObj (w.heap.size + 1) (.loop { rec .ready none with state := .busy })).heap[w.heap.size]? = some (.deferred (some [])) := (World.putObj_heap_other (by omega)).trans hk
      have hi2 : I X i (W.putObj (w.heap.size + 1) (.loop { rec .ready none with state := .busy })) := hI.step X i W _ (some (w.heap.size + 1)) hi (grownBy_putObj' W _ _) (fun r e => by cases e; exact .inr ⟨by omega, _, hl, rfl⟩)
      have hk3 := hKg.trans (hput W (.loop { rec .ready none with state := .busy }))
      have hoth : ∀ k, k ≠ w.heap.size + 1 → (W.putObj (w.heap.size + 1) (.loop { rec .ready none with state := .busy })).heap[k]? = (gr x W0).heap[k]? := fun k hk => by rw [hW]; exact World.putObj_heap_other hk
      generalize W.putObj (w.heap.size + 1) (.loop { rec .ready none with state := .busy }) = Wb at hl2 hk2 hi2 hk3 hoth ⊢
      refine wpIn_mono (hbody _ _ X i x W0 Wb hx hi2 (by omega) hlt0 hoth) ?_
      have fin : ∀ (jump : Option Code) (W3 : World), KeepsFrom w.heap.size Wb W3 →
          (Instr.endRound (w.heap.size + 1) jump).run P W3 = .ok (.bool jump.isNone) (W3.putObj (w.heap.size + 1) (.loop (rec (if jump.isNone then .ready else .done) jump))) ∧
          W3.heap[w.heap.size + 1]? = some (.loop { rec .ready none with state := .busy }) ∧
          (W3.putObj (w.heap.size + 1) (.loop (rec (if jump.isNone then .ready else .done) jump))).heap[w.heap.size + 1]? = some (.loop (rec (if jump.isNone then .ready else .done) jump)) ∧
          (W3.putObj (w.heap.size + 1) (.loop (rec (if jump.isNone then .ready else .done) jump))).heap[w.heap.size]? = some (.deferred (some [])) := fun jump W3 hk3 => by
        have hl3 := hk3.same _ _ (by omega) hl2 rfl
        have := run_endRound (P := P) jump hl3
        rw [hrec] at this ⊢
        exact ⟨this, by rw [hrec] at hl3; exact hl3, World.putObj_heap_same (Array.getElem?_eq_some_iff.1 hl3).1, (World.putObj_heap_other (by omega)).trans (hk3.same _ _ (Nat.le_refl _) hk2 rfl)⟩
      rintro e a3 W3 hp
      cases e with
      | normal =>
        obtain ⟨hf3, hkp3, hi3⟩ := hp
        obtain ⟨hr, hl3, hl4, hk4⟩ := fin none W3 hf3
        exact ⟨_, _, hr, .inl ⟨rfl, ⟨hI.step X _ W3 _ (some (w.heap.size + 1)) hi3 (grownBy_putObj' W3 _ _) (fun r e => by cases e; exact .inr ⟨by omega, _, hl3, rfl⟩), hl4, hk4, nl, nd⟩, (hk3.trans hkp3).trans (hput W3 _)⟩⟩
      | ret =>
        obtain ⟨hf3, hi3⟩ := hp
        obtain ⟨hr, hl3, hl4, hk4⟩ := fin (some .ret) W3 hf3
        exact ⟨_, _, hr, .inr ⟨rfl, .ret, (hIx _).putObj _ hi3 (by omega) hl3 rfl, hl4, hk4⟩⟩
      | exit id =>
        obtain ⟨hf3, hi3⟩ := hp
        obtain ⟨hr, hl3, hl4, hk4⟩ := fin (some (.exit id)) W3 hf3
        exact ⟨_, _, hr, .inr ⟨rfl, .exit id, (hIx _).putObj _ hi3 (by omega) hl3 rfl, hl4, hk4⟩⟩
      | goto t =>
        obtain ⟨hf3, hi3⟩ := hp
        obtain ⟨hr, hl3, hl4, hk4⟩ := fin (some (.goto t)) W3 hf3
        exact ⟨_, _, hr, .inr ⟨rfl, .goto t, (hIx _).putObj _ hi3 (by omega) hl3 rfl, hl4, hk4⟩⟩
      | panic ch => exact hp.elim
      | outgrown => exact hp.elim
    · rintro e W2 ⟨⟨v, rfl⟩, (⟨X, hi, hl, hk, -, -⟩ | ⟨i, c, hi, hl, hk⟩)⟩
      · exact ⟨none, _, by have := run_endLoop (P := P) hl (by rw [hrec]; simp); rw [hrec] at this; exact this, hdone _ X _ (Nat.le_refl _) (hI.step X _ W2 _ (some (w.heap.size + 1)) hi (grownBy_putObj' W2 _ _) (fun r e => by cases e; exact .inr ⟨by omega, _, hl, rfl⟩)) ((World.putObj_heap_other (by omega)).trans hk)⟩
      · exact ⟨some c, _, by have := run_endLoop (P := P) hl (by rw [hrec]; simp); rw [hrec] at this; exact this, hstop _ c i _ (Nat.le_refl _) ((hIx c).putObj _ hi (by omega) hl rfl) ((World.putObj_heap_other (by omega)).trans hk)⟩
end Go.Proofs.YteeanpfhngoobaaGreat
