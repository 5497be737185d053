/- isWords: whether a text is words alone. -/
import Derived.Test.YtmeojnpehmhmoaaPts
import Derived.Test.YtmeojnpehmhmoaaSml
set_option linter.all false
namespace Go.Proofs.Ytmeojnpehmhmoaa
open Go.RowKit Go.Shelf Go.Lib
attribute [local go_sem] Oper.semAt_some

theorem boxed_ownS {W W' : World} {b : Nat} {ty : TypeId} {v : Value} {row : Option Nat} (hv : Boxed W b ty v) (hgr : W.grownBy W' row) {B : Nat} (hr : ∀ r, row = some r → B ≤ r ∧ ∃ o : Obj, W.heap[r]? = some o ∧ o.isCells = false) : Boxed W' b ty v := by
  refine hv.kept hgr fun e => ?_
  obtain ⟨-, o, ho, hc⟩ := hr _ e.symm
  rw [show W.heap[b]? = _ from hv] at ho; cases ho; cases hc
theorem keeps_belowS {B : Nat} {A C : World} (h : Below A.heap.size A C) : KeepsFrom B A C := ⟨h.size, fun k o hk ho hc => (h.block k (Array.getElem?_eq_some_iff.1 ho).1).trans ho⟩
theorem set1S {w W : World} {B b : Nat} {ty : TypeId} {v0 : Value} (b0 : Boxed W b ty v0) (hB : b < B) (hw : w.heap.size ≤ b) (hb : Below w.heap.size w W) (x : Value) :
    Boxed (W.setCell ⟨b, 0, none⟩ x) b ty x ∧ KeepsFrom B W (W.setCell ⟨b, 0, none⟩ x) ∧ Below w.heap.size w (W.setCell ⟨b, 0, none⟩ x) := by
  refine ⟨b0.set x, ⟨by simp [World.setCell], fun k o hk ho hc => ?_⟩, hb.setCell hw _⟩
  rw [Deep.blk_setCell_other _ _ _ _ (by dsimp only; omega)]
  exact ho
theorem boxed_putS {W : World} {b D : Nat} {ty : TypeId} {v : Value} {ds : Option (List Deferred)} (h : Boxed W b ty v) (hK : W.heap[D]? = some (.deferred ds)) {o : Obj} : Boxed (W.putObj D o) b ty v := by
  refine (World.putObj_heap_other (fun e => ?_)).trans h
  subst e
  rw [show W.heap[b]? = _ from h] at hK
  cases hK
/-- One result in a box. -/
theorem results_boxB {fn : Func} {p : Tmp} (h : fn.results = #[.cell p 4]) {tmps : Array Value} {W : World} {b0 : Nat} {x : Bool} (hp : tmps.getD p undef = .pointer (some ⟨b0, 0, none⟩))
    (h0 : Boxed W b0 4 (.bool x)) : (results fn tmps).run Try.prog W = .ok (.bool x) W := by
  have hp' : tmps[p]?.getD undef = .pointer (some ⟨b0, 0, none⟩) := by simpa using hp
  have c0 := h0.cell
  simp [results, h, hp', asAddr, go_sem, c0]

structure Iw (w : World) (T : List Int) (i : Nat) (W : World) : Prop where
  e : ∀ j x, j < i → T[j]? = some x → wordP x = true
  b0 : Boxed W w.heap.size 4 (.bool false)
  below : Below w.heap.size w W
  room : w.heap.size + 2 ≤ W.heap.size
def Iwx (w : World) (T : List Int) (c : Code) (i : Nat) (W : World) : Prop :=
  c = .ret ∧ T.all wordP = false ∧ Boxed W w.heap.size 4 (.bool false) ∧ Below w.heap.size w W
theorem Iw.own {w : World} {T : List Int} {B : Nat} (hB : w.heap.size ≤ B) : OwnFrom B (Iw w T) := by
  rintro s W W' row ⟨h1, h2, h4, h5⟩ hgr hr
  have h6 := h4.grown hgr h4.size (fun k e => by have := (hr k e).1; omega)
  exact ⟨h1, boxed_ownS h2 hgr hr, h6, Nat.le_trans h5 hgr.size⟩
theorem Iwx.own {w : World} {T : List Int} (c : Code) {B : Nat} (hB : w.heap.size ≤ B) : OwnFrom B (Iwx w T c) := by
  rintro s W W' row ⟨h1, h2, h3, h4⟩ hgr hr
  exact ⟨h1, h2, boxed_ownS h3 hgr hr, h4.grown hgr h4.size (fun k e => by have := (hr k e).1; omega)⟩

def wordsB (s : ByteArray) : Bool := (rnS s 0).all wordP && !(s.toList.isEmpty)

set_option maxRecDepth 100000 in
set_option maxHeartbeats 1600000 in
theorem isWords_any (s : ByteArray) (w : World) :
    Calls Try.prog 26 #[.string s] w fun e w' => e = .returned (.bool (wordsB s)) ∧ Below w.heap.size w w' := by
  refine (callsIn_wide (n := 9)).1 ?_
  have b0 := Boxed.new w 4 (.bool false)
  have b2 := Boxed.new (w.alloc (.cells #[.bool false] 4)) 9 (.string s)
  have hs1 : (w.alloc (.cells #[.bool false] 4)).heap.size = w.heap.size + 1 := by simp
  rw [hs1] at b2
  have hB1 := (Below.refl w.heap.size w).alloc (Nat.le_refl _) (.cells #[.bool false] 4)
  have hB2 := hB1.alloc (by simp) (.cells #[.string s] 9)
  have hs3 : ((w.alloc (.cells #[.bool false] 4)).alloc (.cells #[.string s] 9)).heap.size = w.heap.size + 1 + 1 := by simp
  have c0 := b0.alloc (.cells #[.string s] 9)
  have SG := fun m => points_in m s (w.alloc (.cells #[.bool false] 4))
  rw [hs1] at SG
  obtain ⟨T, hT⟩ : ∃ T, rnS s 0 = T := ⟨_, rfl⟩
  unfold wordsB
  rw [hT]
  have HT : Hid (rnS s 0 = T) := hT
  clear hT
  refine callsIn_of_wp_marks Try.func26 rfl trivial ?_ rfl
  simp only [Try.ntmps26, List.size_toArray, List.length_cons, List.length_nil, Nat.reduceAdd, Nat.reduceSub, Array.replicate_succ, Array.replicate_zero, List.push_toArray, List.append_toArray, List.nil_append, List.cons_append]
  clear b0 hs1
  gi_wp2_with (first | (refine ⟨trivial, ?_⟩; gi_at_call 40; refine (SG _).mono ?_; rintro e W2 ⟨rfl, rfl⟩))
  generalize ((w.alloc (.cells #[.bool false] 4)).alloc (.cells #[.string s] 9)) = W3 at b2 hB2 hs3 c0 ⊢
  clear SG hB1
  have SQ := points_seq (9 - 1) (w.heap.size + 1) s W3 b2.cell
  rw [HT.out] at SQ
  clear HT
  refine wpIn_rangeFuncS (gf := 66) (lb := #[.pointer (some ⟨w.heap.size + 1, 0, none⟩)]) rfl (enters_of Try.func66 (by kernel_rfl) rfl) SQ (Below.refl _ _) (fun _ => rfl)
    (Iw w T) (Iwx w T) (Iw.own (by omega)) (fun c => Iwx.own c (by omega)) ⟨fun j x hj => by omega, c0, hB2, by omega⟩
    (fun x => { tmps := #[.string s, undef, .pointer (some ⟨w.heap.size, 0, none⟩), .int .i64 x, .string s, .func (.func 66) #[] #[.pointer (some ⟨w.heap.size + 1, 0, none⟩)], .int .i64 x, undef, undef, undef, undef, undef], defers := [] }) ?assign ?body ?done ?stop
  case assign =>
    intro m l x W K hK
    gi_wp2
    exact hK
  case body =>
    clear SQ c0 b2
    rintro m l i x W hx ⟨he, b0, hbW, hrm⟩
    have WD := fun m => CallsIn.inRound l ((callsIn_wide (n := m)).2 (word_any x W))
    have f0 := b0.cell
    have f1 := b0.frozen
    cases hv : wordP x with
    | false =>
      rw [hv] at WD
      obtain ⟨P1, P2, P3⟩ := set1S (w := w) (B := W3.heap.size) b0 (by omega) (by omega) hbW (.bool false)
      have HA : Hid (T.all wordP = false) := by
        show T.all wordP = false
        rw [List.all_eq_false]
        exact ⟨x, List.mem_of_getElem? hx, by rw [hv]; decide⟩
      clear hv he hx
      gi_wp2
      refine ⟨trivial, (fun h => by cases h), ?_⟩
      gi_at_call 44
      refine (WD _).mono ?_
      rintro e W2 ⟨rfl, rfl⟩
      gi_wp2
      exact ⟨P2, rfl, HA.out, P1, P3⟩
    | true =>
      rw [hv] at WD
      have HN : Hid (∀ j y, j < i + 1 → T[j]? = some y → wordP y = true) := fun j y hj hy => by
        by_cases e : j = i
        · subst e; rw [hx] at hy; cases hy; exact hv
        · exact he j y (by omega) hy
      clear hv he hx
      gi_wp2
      refine ⟨trivial, (fun h => by cases h), ?_⟩
      gi_at_call 44
      refine (WD _).mono ?_
      rintro e W2 ⟨rfl, rfl⟩
      gi_wp2
      exact ⟨keeps_belowS (Below.refl _ _), trivial, HN.out, b0, hbW, hrm⟩
  case done =>
    rintro D W hD ⟨he, b1, hbW, hrm⟩ hK
    have HE : Hid (T.all wordP = true) := by
      show T.all wordP = true
      rw [List.all_eq_true]
      intro x hx
      obtain ⟨j, hj⟩ := List.mem_iff_getElem?.1 hx
      exact he j x (List.getElem?_eq_some_iff.1 hj).1 hj
    obtain ⟨P1, P2, P3⟩ := set1S (w := w) (B := W3.heap.size) b1 (by omega) (by omega) hbW (.bool (!(s.toList.isEmpty)))
    have f0 := b1.cell
    have f1 := b1.frozen
    have hK2 := P2.same D _ hD hK rfl
    clear he SQ c0 b2
    gi_wp2
    refine ⟨by simp, .inl ⟨_, _, rfl, run_takeDeferred hK2, ?_⟩⟩
    refine ⟨_, results_boxB rfl rfl (boxed_putS P1 hK2), ?_⟩
    rw [HE.out]
    exact ⟨rfl, P3.trans (belowK_b (w := w) (Nat.le_refl _) _ D _ _ (by omega) hK2 rfl rfl)⟩
  case stop =>
    rintro D c' i W hD ⟨rfl, hA, b1, hbW⟩ hK
    have HA : Hid (T.all wordP = false) := hA
    clear SQ c0 b2 hA
    gi_wp2
    refine ⟨by simp, .inl ⟨_, _, rfl, run_takeDeferred hK, ?_⟩⟩
    refine ⟨_, results_boxB rfl rfl (boxed_putS b1 hK), ?_⟩
    rw [HA.out]
    exact ⟨rfl, hbW.trans (belowK_b (w := w) (Nat.le_refl _) W D _ _ (by omega) hK rfl rfl)⟩
end Go.Proofs.Ytmeojnpehmhmoaa
