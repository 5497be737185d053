/- Lines in memory, and what void, ends and within answer of one. -/
import Derived.Test.YtgmcomfeggidnaaBare
import Derived.Test.YtgmcomfeggidnaaItr
set_option linter.unusedVariables false
set_option linter.unusedSimpArgs false
namespace Go.Proofs.Ytgmcomfeggidnaa
open Go.RowKit

/-- A line: how many blanks it has ahead, and where its text lies. -/
structure Ln where
  n : Int
  q : Option Addr
  t : List Int
  c : Nat

/-- The slice at p holds these lines. -/
def Ls (w : World) (p : Option Addr) (L : List Ln) : Prop :=
  (∀ (j : Nat) (x : Ln), L[j]? = some x → x.t.length ≤ x.c ∧ x.c ≤ maxLen ∧ Is w x.q x.t) ∧
  (L = [] ∨ ∃ b o, p = some ⟨b, o, none⟩ ∧ ∀ (j : Nat) (x : Ln), L[j]? = some x → w.cell? ⟨b, o + j * 2, none⟩ = some (.int .i64 x.n) ∧ w.cell? ⟨b, o + j * 2 + 1, none⟩ = some (.slice x.q x.t.length x.c))

theorem Ls.at {w : World} {p : Option Addr} {L : List Ln} (h : Ls w p L) (hl : 0 < L.length) : ∃ b o, p = some ⟨b, o, none⟩ ∧ ∀ (j : Nat) (x : Ln), L[j]? = some x → w.cell? ⟨b, o + j * 2, none⟩ = some (.int .i64 x.n) ∧ w.cell? ⟨b, o + j * 2 + 1, none⟩ = some (.slice x.q x.t.length x.c) := by
  rcases h.2 with rfl | h
  · simp at hl
  · exact h
theorem Ls.lt {w : World} {p : Option Addr} {L : List Ln} (h : Ls w p L) : ∀ a, p = some a → 0 < L.length → a.block < w.heap.size := by
  intro a e hl
  obtain ⟨b, o, rfl, hc⟩ := h.at hl
  cases e
  obtain ⟨x, hx⟩ : ∃ x, L[0]? = some x := ⟨_, List.getElem?_eq_getElem hl⟩
  exact World.block_lt_of_cell? w ⟨b, o + 0 * 2, none⟩ (hc 0 x hx).1
/-- Where all of it lies below n₀. -/
def LsB (n₀ : Nat) (w : World) (p : Option Addr) (L : List Ln) : Prop :=
  Ls w p L ∧ (∀ a, p = some a → 0 < L.length → a.block < n₀) ∧ ∀ (j : Nat) (x : Ln), L[j]? = some x → ∀ a, x.q = some a → 0 < x.t.length → a.block < n₀
theorem LsB.on {n₀ : Nat} {A B : World} {p : Option Addr} {L : List Ln} (h : LsB n₀ A p L) (hb : Below n₀ A B) : LsB n₀ B p L := by
  refine ⟨⟨fun j x hx => ?_, ?_⟩, h.2⟩
  · obtain ⟨h1, h2, h3⟩ := h.1.1 j x hx
    exact ⟨h1, h2, h3.below (h.2.2 j x hx) hb⟩
  · rcases h.1.2 with e | ⟨b, o, rfl, hc⟩
    · exact .inl e
    · refine .inr ⟨b, o, rfl, fun j x hx => ?_⟩
      have hl : b < n₀ := h.2.1 ⟨b, o, none⟩ rfl (by have := (List.getElem?_eq_some_iff.1 hx).1; omega)
      obtain ⟨h1, h2⟩ := hc j x hx
      exact ⟨(hb.cell (p := ⟨b, o + j * 2, none⟩) hl).trans h1, (hb.cell (p := ⟨b, o + j * 2 + 1, none⟩) hl).trans h2⟩
theorem Ls.b {w : World} {p : Option Addr} {L : List Ln} (h : Ls w p L) : LsB w.heap.size w p L := ⟨h, h.lt, fun j x hx => (h.1 j x hx).2.2.lt⟩
theorem LsB.le {n₀ m : Nat} {w : World} {p : Option Addr} {L : List Ln} (h : LsB n₀ w p L) (hm : n₀ ≤ m) : LsB m w p L :=
  ⟨h.1, fun a e hl => Nat.lt_of_lt_of_le (h.2.1 a e hl) hm, fun j x hx a e hl => Nat.lt_of_lt_of_le (h.2.2 j x hx a e hl) hm⟩
theorem Ls.on {A B : World} {p : Option Addr} {L : List Ln} (h : Ls A p L) (hb : Below A.heap.size A B) : Ls B p L := (h.b.on hb).1

theorem box2 {w w2 : World} {a b : Value} {t : TypeId} (h : Below (w.alloc (.cells #[a, b] t)).heap.size (w.alloc (.cells #[a, b] t)) w2) : w2.cell? ⟨w.heap.size, 0, none⟩ = some a ∧ w2.cell? ⟨w.heap.size, 1, none⟩ = some b := by
  have h0 := World.alloc_heap_new w (.cells #[a, b] t)
  have h1 : ∀ o, (w.alloc (.cells #[a, b] t)).cell? ⟨w.heap.size, o, none⟩ = (#[a, b] : Array Value)[o]? := fun o => by
    show (match (w.alloc (.cells #[a, b] t)).heap[w.heap.size]? with | some (.cells c _ _) => c[o]? | _ => none) = _
    rw [h0]
  exact ⟨(h.cell (p := ⟨w.heap.size, 0, none⟩) (by simp)).trans (h1 0), (h.cell (p := ⟨w.heap.size, 1, none⟩) (by simp)).trans (h1 1)⟩

/-- A line as a value. -/
def Ln.v (x : Ln) : Value := .agg #[.int .i64 x.n, .slice x.q x.t.length x.c]

set_option maxHeartbeats 1000000 in
theorem void_any (i : Int) (p : Option Addr) (len cap : Nat) (w : World) :
    Calls Try.prog 46 #[.agg #[.int .i64 i, .slice p len cap]] w fun e w' => e = .returned (.bool (decide (len = 0))) ∧ Below w.heap.size w w' := by
  go_enter Try.func46, Try.ntmps46
  go_wp2
  go_ret
  exact ⟨ret_bool (by rw [Bool.eq_iff_iff]; simp), (Below.refl _ w).alloc (Nat.le_refl _) _⟩

set_option maxHeartbeats 1000000 in
theorem rvoid_any (i : Int) (p : Option Addr) (len cap : Nat) (w : World) :
    Calls Try.prog 26 #[.agg #[.int .i64 i, .slice p len cap]] w fun e w' => e = .returned (.bool (decide (len = 0))) ∧ Below w.heap.size w w' := by
  go_enter Try.func26, Try.ntmps26
  go_wp2
  go_ret
  exact ⟨ret_bool (by rw [Bool.eq_iff_iff]; simp), (Below.refl _ w).alloc (Nat.le_refl _) _⟩

set_option maxRecDepth 100000 in
set_option maxHeartbeats 1000000 in
theorem within_any (i n : Int) (p : Option Addr) (l : List Int) (cap : Nat) (w : World) (hm : (l.length : Int) ≤ 9223372036854775807) (h : Is w p l) :
    Calls Try.prog 34 #[.agg #[.int .i64 i, .slice p l.length cap], .int .i64 n] w fun e w' => e = .returned (.bool (decide (n < i) && decide (markP i l = 0))) ∧ Below w.heap.size w w' := by
  have h' := h.alloc (.cells #[.int .i64 i, .slice p l.length cap] 44)
  have M := fun W hW => marker_any i p l cap W hm hW
  have HB : Hid (Below w.heap.size w (w.alloc (.cells #[.int .i64 i, .slice p l.length cap] 44))) := (Below.refl _ w).alloc (Nat.le_refl _) _
  generalize markP i l = m at M ⊢
  by_cases hi : n < i
  · rw [decide_eq_true hi, Bool.true_and]
    go_enter Try.func34, Try.ntmps34
    go_wp2_with (first | (go_at_call 47; refine (M _ h').mono ?_; rintro e w2 ⟨rfl, hb2⟩))
    go_ret
    exact ⟨ret_bool (by rw [Bool.eq_iff_iff]; simp), HB.out.trans (hb2.mono (by simp))⟩
  · rw [decide_eq_false hi, Bool.false_and]
    go_enter Try.func34, Try.ntmps34
    go_wp2
    go_ret
    exact ⟨rfl, HB.out⟩

/-- Does the text end ahead of this line? -/
def endsP (ind : Int) (i : Int) (t : List Int) : Bool := !decide (t.length = 0) && (decide (i < ind) || !decide (markP i t = 0))

set_option maxRecDepth 100000 in
set_option maxHeartbeats 1000000 in
theorem ends_any (i ind : Int) (p : Option Addr) (l : List Int) (cap : Nat) (w : World) (hm : (l.length : Int) ≤ 9223372036854775807) (h : Is w p l) (h0 : 0 ≤ i) (h1 : i ≤ 100000) (h2 : 0 ≤ ind) (h3 : ind ≤ 100000) :
    Calls Try.prog 36 #[.agg #[.int .i64 i, .slice p l.length cap], .int .u64 ind] w fun e w' => e = .returned (.bool (endsP ind i l)) ∧ Below w.heap.size w w' := by
  have hA : Is (w.alloc (.cells #[.int .i64 i, .slice p l.length cap] 44)) p l := h.alloc _
  have HB : Hid (Below w.heap.size w (w.alloc (.cells #[.int .i64 i, .slice p l.length cap] 44))) := (Below.refl _ w).alloc (Nat.le_refl _) _
  have V := void_any i p l.length cap
  have M := fun W hW => marker_any i p l cap W hm hW
  unfold endsP
  generalize markP i l = m at M ⊢
  have hi : ¬ i < 0 := by omega
  by_cases hl : l.length = 0
  · rw [decide_eq_true hl] at V ⊢
    clear hl
    go_enter Try.func36, Try.ntmps36
    go_wp2_with (first | (go_at_call 46; refine (V _).mono ?_; rintro e w2 ⟨rfl, hb2⟩))
    go_ret
    exact ⟨rfl, HB.out.trans (hb2.mono (by simp))⟩
  · rw [decide_eq_false hl] at V ⊢
    clear hl
    by_cases hc : i < ind
    · rw [decide_eq_true hc]
      go_enter Try.func36, Try.ntmps36
      go_wp2_with (first | (go_at_call 46; refine (V _).mono ?_; rintro e w2 ⟨rfl, hb2⟩; obtain ⟨k0, k1⟩ := box2 hb2))
      go_ret
      exact ⟨rfl, HB.out.trans (hb2.mono (by simp))⟩
    · rw [decide_eq_false hc]
      go_enter Try.func36, Try.ntmps36
      go_wp2_with (first | (go_at_call 46; refine (V _).mono ?_; rintro e w2 ⟨rfl, hb2⟩; obtain ⟨k0, k1⟩ := box2 hb2; have hA2 := hA.on hb2) | (go_at_call 47; refine (M _ hA2).mono ?_; rintro e w3 ⟨rfl, hb3⟩))
      go_ret
      exact ⟨ret_bool (by rw [Bool.eq_iff_iff]; simp; omega), (HB.out.trans (hb2.mono (by simp))).trans (hb3.mono (by have := hb2.size; simp at this; omega))⟩
end Go.Proofs.Ytgmcomfeggidnaa
