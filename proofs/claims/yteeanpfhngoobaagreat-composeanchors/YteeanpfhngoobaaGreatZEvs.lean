/- Events in memory; what the small functions answer of one. -/
import Derived.Test.YteeanpfhngoobaaGreatZPlb
import Derived.Test.YteeanpfhngoobaaGreatZYls
set_option linter.unusedVariables false
set_option linter.unusedSimpArgs false
namespace Go.Proofs.YteeanpfhngoobaaGreat
open Go.RowKit Go.Shelf

/-- An event as a value, and as cells. -/
def Ev.c (x : Ev) : List Value := [.int .i64 x.k, .string x.tx, .string x.tg, .string x.an, .int .i64 x.st, .bool x.fl]
abbrev Ev.v (x : Ev) : Value := .agg #[.int .i64 x.k, .string x.tx, .string x.tg, .string x.an, .int .i64 x.st, .bool x.fl]

/-- Six cells hold an event. -/
structure At6 (w : World) (b o : Nat) (x : Ev) : Prop where
  c0 : w.cell? ⟨b, o, none⟩ = some (.int .i64 x.k)
  c1 : w.cell? ⟨b, o + 1, none⟩ = some (.string x.tx)
  c2 : w.cell? ⟨b, o + 2, none⟩ = some (.string x.tg)
  c3 : w.cell? ⟨b, o + 3, none⟩ = some (.string x.an)
  c4 : w.cell? ⟨b, o + 4, none⟩ = some (.int .i64 x.st)
  c5 : w.cell? ⟨b, o + 5, none⟩ = some (.bool x.fl)
theorem At6.kept {A B : World} {b o : Nat} {x : Ev} (h : At6 A b o x) (he : B.heap[b]? = A.heap[b]?) : At6 B b o x :=
  ⟨(World.cell?_of_block he).trans h.c0, (World.cell?_of_block he).trans h.c1, (World.cell?_of_block he).trans h.c2, (World.cell?_of_block he).trans h.c3, (World.cell?_of_block he).trans h.c4, (World.cell?_of_block he).trans h.c5⟩

/-- The slice at p holds these events; of an empty one nothing is asked. -/
def Es (w : World) (p : Option Addr) (L : List Ev) : Prop :=
  L = [] ∨ ∃ b o, p = some ⟨b, o, none⟩ ∧ ∀ (j : Nat) (x : Ev), L[j]? = some x → At6 w b (o + j * 6) x
theorem Es.at {w : World} {p : Option Addr} {L : List Ev} (h : Es w p L) (hl : 0 < L.length) : ∃ b o, p = some ⟨b, o, none⟩ ∧ ∀ (j : Nat) (x : Ev), L[j]? = some x → At6 w b (o + j * 6) x := by
  rcases h with rfl | h
  · simp at hl
  · exact h
theorem Es.kept {A B : World} {p : Option Addr} {L : List Ev} (h : Es A p L) (hk : ∀ a, p = some a → 0 < L.length → B.heap[a.block]? = A.heap[a.block]?) : Es B p L := by
  rcases h with rfl | ⟨b, o, rfl, hc⟩
  · exact .inl rfl
  · exact .inr ⟨b, o, rfl, fun j x hx => (hc j x hx).kept (hk ⟨b, o, none⟩ rfl (by have := (List.getElem?_eq_some_iff.1 hx).1; omega))⟩
theorem Es.lt {w : World} {p : Option Addr} {L : List Ev} (h : Es w p L) : ∀ a, p = some a → 0 < L.length → a.block < w.heap.size := by
  intro a e hl
  obtain ⟨b, o, rfl, hc⟩ := h.at hl
  cases e
  exact World.block_lt_of_cell? w ⟨b, o + 0 * 6, none⟩ (hc 0 _ (List.getElem?_eq_getElem hl)).c0
theorem Es.below {n₀ : Nat} {A B : World} {p : Option Addr} {L : List Ev} (h : Es A p L) (hp : ∀ a, p = some a → 0 < L.length → a.block < n₀) (hb : Below n₀ A B) : Es B p L :=
  h.kept fun a e hl => hb.block _ (hp a e hl)
theorem Es.on {A B : World} {p : Option Addr} {L : List Ev} (h : Es A p L) (hb : Below A.heap.size A B) : Es B p L := h.below h.lt hb
theorem Es.alloc {A : World} {p : Option Addr} {L : List Ev} (h : Es A p L) (o : Obj) : Es (A.alloc o) p L := h.on ((Below.refl _ A).alloc (Nat.le_refl _) _)
theorem Es.drop {w : World} {b o : Nat} {L : List Ev} (h : Es w (some ⟨b, o, none⟩) L) (k : Nat) : Es w (some ⟨b, o + k * 6, none⟩) (L.drop k) := by
  rcases h with rfl | ⟨b', o', e, hc⟩
  · exact .inl (by simp)
  · cases e
    refine .inr ⟨b, o + k * 6, rfl, fun j x hj => ?_⟩
    rw [List.getElem?_drop] at hj
    have := hc (k + j) x hj
    rwa [Nat.add_mul, ← Nat.add_assoc] at this
theorem Es.take {w : World} {p : Option Addr} {L : List Ev} (h : Es w p L) (k : Nat) : Es w p (L.take k) := by
  rcases h with rfl | ⟨b, o, rfl, hc⟩
  · exact .inl (by simp)
  · refine .inr ⟨b, o, rfl, fun j x hj => ?_⟩
    by_cases hk : j < k
    · rw [List.getElem?_take_of_lt hk] at hj; exact hc j x hj
    · rw [List.getElem?_eq_none (by simp; omega)] at hj; cases hj

set_option maxHeartbeats 1000000 in
theorem bn_any (h : Nat) (w : World) : Calls Tryz.prog 88 #[.int .u8 h] w fun e w' => e = .returned (.tuple #[.int .u8 ((bn h).1 : Nat), .bool (bn h).2]) ∧ w' = w := by
  by_cases h1 : h = 1
  · subst h1
    go_enter Tryz.func88, Tryz.ntmps88
    go_wp2
    go_ret2
    exact ⟨rfl, rfl⟩
  by_cases h3 : h = 3
  · subst h3
    go_enter Tryz.func88, Tryz.ntmps88
    go_wp2
    go_ret2
    exact ⟨rfl, rfl⟩
  by_cases h4 : h = 4
  · subst h4
    go_enter Tryz.func88, Tryz.ntmps88
    go_wp2
    go_ret2
    exact ⟨rfl, rfl⟩
  by_cases h5 : h = 5
  · subst h5
    go_enter Tryz.func88, Tryz.ntmps88
    go_wp2
    go_ret2
    exact ⟨rfl, rfl⟩
  have hb : bn h = (h, false) := by unfold bn; rw [if_neg h1, if_neg h3, if_neg h4, if_neg h5]
  rw [hb]
  have i1 : ¬ (h : Int) = 1 := by omega
  have i3 : ¬ (h : Int) = 3 := by omega
  have i4 : ¬ (h : Int) = 4 := by omega
  have i5 : ¬ (h : Int) = 5 := by omega
  go_enter Tryz.func88, Tryz.ntmps88
  go_wp2
  go_ret2
  exact ⟨rfl, rfl⟩

set_option maxRecDepth 100000 in
set_option maxHeartbeats 2000000 in
theorem fol_any (h : Nat) (k : Int) (w : World) : Calls Tryz.prog 62 #[.int .u8 h, .int .i64 k] w fun e w' => e = .returned (.tuple #[.int .u8 ((fol h k).1 : Nat), .bool (fol h k).2]) ∧ w' = w := by
  have B := bn_any h
  by_cases h1 : k = 1
  · subst h1
    go_enter Tryz.func62, Tryz.ntmps62
    go_wp2
    go_ret2
    refine ⟨?_, rfl⟩
    simp [fol]
    rw [Bool.eq_iff_iff]; simp <;> omega
  by_cases h2 : k = 2
  · subst h2
    go_enter Tryz.func62, Tryz.ntmps62
    go_wp2
    go_ret2
    refine ⟨?_, rfl⟩
    simp [fol]
    rw [Bool.eq_iff_iff]; simp <;> omega
  by_cases h4 : k = 4
  · subst h4
    go_enter Tryz.func62, Tryz.ntmps62
    go_wp2
    go_ret2
    refine ⟨?_, rfl⟩
    simp [fol]
    rw [Bool.eq_iff_iff]; simp <;> omega
  by_cases h6 : k = 6
  · subst h6
    go_enter Tryz.func62, Tryz.ntmps62
    go_wp2
    go_ret2
    refine ⟨?_, rfl⟩
    simp [fol]
    rw [Bool.eq_iff_iff]; simp <;> omega
  by_cases hn : k = 7 ∨ k = 8 ∨ k = 3 ∨ k = 5
  · rw [fol_node hn]
    generalize bn h = r at *
    obtain ⟨r1, r2⟩ := r
    rcases hn with rfl | rfl | rfl | rfl
    · go_enter Tryz.func62, Tryz.ntmps62
      go_wp2_with (first | (go_at_call 88; refine (B _).mono ?_; rintro e w ⟨rfl, rfl⟩))
      go_ret2
      exact ⟨rfl, rfl⟩
    · go_enter Tryz.func62, Tryz.ntmps62
      go_wp2_with (first | (go_at_call 88; refine (B _).mono ?_; rintro e w ⟨rfl, rfl⟩))
      go_ret2
      exact ⟨rfl, rfl⟩
    · go_enter Tryz.func62, Tryz.ntmps62
      go_wp2_with (first | (go_at_call 88; refine (B _).mono ?_; rintro e w ⟨rfl, rfl⟩))
      go_ret2
      exact ⟨rfl, rfl⟩
    · go_enter Tryz.func62, Tryz.ntmps62
      go_wp2_with (first | (go_at_call 88; refine (B _).mono ?_; rintro e w ⟨rfl, rfl⟩))
      go_ret2
      exact ⟨rfl, rfl⟩
  · have hf : fol h k = (h, false) := by unfold fol; rw [if_neg h1, if_neg h2, if_neg h4, if_neg h6, if_neg hn]
    rw [hf]
    have h7 : ¬ k = 7 := by omega
    have h8 : ¬ k = 8 := by omega
    have h3 : ¬ k = 3 := by omega
    have h5 : ¬ k = 5 := by omega
    clear hn hf B
    go_enter Tryz.func62, Tryz.ntmps62
    go_wp2
    go_ret2
    exact ⟨rfl, rfl⟩
end Go.Proofs.YteeanpfhngoobaaGreat
