/- The document's own DoubleRead, in plain terms and as it runs. -/
import Derived.Test.YtpiefdpcinjkpaaDoorRit
import Derived.Test.YtpiefdpcinjkpaaDoorOne
import Derived.Deep.CutBlock
import Derived.Deep.DeepCutAuto
set_option linter.unusedVariables false
set_option linter.unusedSimpArgs false
namespace Go.Proofs.YtpiefdpcinjkpaaDoor
open Go.RowKit Go.Shelf

structure Rs where
  out : List Int
  em : Nat
  jn : Bool
def onP (last : Bool) (t : List Int) : Bool := opnI false (itP last 0 t)
def uP (last : Bool) (t : List Int) : List Item := if onP last t then (itP last 0 t).dropLast else itP last 0 t
def frI (b : Bool) (u : List Item) : List Item := if b then u.dropWhile softI else u
def bkI (b : Bool) (u : List Item) : List Item := if b then (u.reverse.dropWhile softI).reverse else u
def ruP (k n : Nat) (t : List Int) : List Item := bkI (decide (k + 1 < n) && !onP (decide (k + 1 = n)) t) (frI (decide (0 < k)) (uP (decide (k + 1 = n)) t))
def rsNext (s : Rs) (k n : Nat) (t : List Int) : Rs :=
  if 0 < k ∧ k + 1 < n ∧ ruP k n t = [] ∧ onP (decide (k + 1 = n)) t = false ∧ s.jn = false then ⟨s.out, s.em + 1, false⟩
  else ⟨s.out ++ (if 0 < k ∧ s.jn = false ∧ s.em = 0 then [32] else []) ++ List.replicate s.em 10 ++ (ruP k n t).map (·.1), 0, onP (decide (k + 1 = n)) t⟩
def rsAt (ls : List (List Int)) : Nat → Rs
  | 0 => ⟨[], 0, false⟩
  | k + 1 => rsNext (rsAt ls k) k ls.length (lAt ls k)

theorem opn_keep : ∀ (u : List Item), (∀ x ∈ u, keepI x = true) → opnI false u = false
  | [], _ => rfl
  | (c, h) :: u, hk => by
    have ih := opn_keep u (fun x hx => hk x (by simp [hx]))
    have h0 := hk (c, h) (by simp)
    cases h with
    | false => exact ih
    | true =>
      have hc : (c == -1) = false := by simpa [keepI] using h0
      show opnI (c == -1) u = false
      rw [hc]; exact ih
theorem it_split {last : Bool} {t : List Int} {on : Bool} {u : List Item} (h : itP last 0 t = u ++ (if on then [(-1, true)] else [])) (hk : ∀ x ∈ u, keepI x = true) : on = onP last t ∧ u = uP last t := by
  unfold uP onP
  rw [h]
  cases on with
  | true =>
    have : opnI false (u ++ [(-1, true)]) = true := by simp [opnI]
    simp only [if_true]
    rw [this]
    simp
  | false =>
    simp only [Bool.false_eq_true, if_false, List.append_nil]
    rw [opn_keep u hk]
    simp

theorem slice45_from (p : Option Addr) (len cap : Nat) (hm : 1 ≤ len) (hl : len ≤ cap) (w2 : World) :
    (Instr.slice 45 (.slice p len cap) (some (.int .i64 1)) none none).run Tryd.prog w2 = .ok (.slice (if cap = 1 then p else p.map (·.add 2)) (len - 1) (cap - 1)) w2 := by
  have h0 : (1 : Int) ≤ len := by omega
  have h1 : (len : Int) ≤ cap := by omega
  have u := Tryd.underlying45
  have z := Tryd.sizeOf50
  simp [go_sem, h0, h1]
theorem slice45_to (p : Option Addr) (len cap s : Nat) (hs : s ≤ cap) (w2 : World) :
    (Instr.slice 45 (.slice p len cap) none (some (.int .i64 s)) none).run Tryd.prog w2 = .ok (.slice p s cap) w2 := by
  have h0 : (s : Int) ≤ cap := by omega
  have u := Tryd.underlying45
  have z := Tryd.sizeOf50
  cases p with
  | none => simp [go_sem, h0]
  | some a =>
    obtain ⟨b, o, sp⟩ := a
    by_cases hc : cap = 0
    · subst hc; obtain rfl : s = 0 := by omega
      simp [go_sem]
    · cases sp <;> simp [go_sem, h0, hc, Addr.add]
theorem Ii.tail {w : World} {p : Option Addr} {l : List Item} (h : Ii w p l) (cap : Nat) (hl : l.length ≤ cap) : Ii w (if cap = 1 then p else p.map (·.add 2)) (l.drop 1) := by
  split
  · exact .inl (List.drop_eq_nil_of_le (by omega))
  · rcases h with rfl | ⟨b, o, rfl, hc⟩
    · exact .inl (by simp)
    · rw [Option.map_some, add_plain]
      refine .inr ⟨b, o + 2, rfl, fun j x hx => ?_⟩
      rw [List.getElem?_drop] at hx
      have := hc (1 + j) x hx
      rw [show o + 2 + 2 * j = o + 2 * (1 + j) by omega]
      exact this
theorem Ii.init {w : World} {p : Option Addr} {l : List Item} (h : Ii w p l) (m : Nat) : Ii w p (l.take m) := by
  rcases h with rfl | ⟨b, o, rfl, hc⟩
  · exact .inl (by simp)
  · refine .inr ⟨b, o, rfl, fun j x hx => hc j x ?_⟩
    rw [List.getElem?_take] at hx
    split at hx
    · exact hx
    · cases hx
theorem Ii.grown {A B : World} {p : Option Addr} {l : List Item} (h : Ii A p l) (hg : A.grownBy B none) : Ii B p l := h.on (grown_below hg)

def lenV : Value → Nat | .slice _ n _ => n | _ => 0
theorem below_grown {A B : World} (h : Below A.heap.size A B) : A.grownBy B none := ⟨h.os, h.tape, h.output, h.size, fun k hk _ => h.block k hk⟩
theorem owns_on {A B : World} {base : Nat} {v : Value} {l : List Int} (h : Owns A base v l) (hb : Below A.heap.size A B) : Owns B base v l :=
  h.kept (below_grown hb) (ne_of_none fun g h e => by cases e)
theorem frI_len (b : Bool) (u : List Item) : (frI b u).length ≤ u.length := by
  unfold frI
  split
  · exact List.IsSuffix.length_le (List.dropWhile_suffix softI)
  · exact Nat.le_refl _
theorem bkI_len (b : Bool) (u : List Item) : (bkI b u).length ≤ u.length := by
  unfold bkI
  split
  · have := List.IsSuffix.length_le (List.dropWhile_suffix (l := u.reverse) softI)
    simpa using this
  · exact Nat.le_refl _
theorem bkI_concat (r : List Item) (y : Item) : bkI true (r ++ [y]) = if softI y then bkI true r else r ++ [y] := by
  simp only [bkI, if_true, List.reverse_append, List.reverse_cons, List.reverse_nil, List.nil_append, List.singleton_append, List.dropWhile_cons]
  split <;> simp
/-- Items that are read, in a block that holds items. -/
def Ij (w : World) (p : Option Addr) (l : List Item) : Prop := Ii w p l ∧ (l = [] ∨ ∃ a cur z, p = some a ∧ w.heap[a.block]? = some (.cells cur 50 z))
theorem Ij.kept {A B : World} {p : Option Addr} {l : List Item} {row : Option Nat} (h : Ij A p l) (hg : A.grownBy B row) (hr : ∀ a cur z, p = some a → A.heap[a.block]? = some (.cells cur 50 z) → some a.block ≠ row) : Ij B p l := by
  obtain ⟨h1, rfl | ⟨a, cur, z, rfl, h2⟩⟩ := h
  · exact ⟨.inl rfl, .inl rfl⟩
  · have hne := hr a cur z rfl h2
    have hlt : a.block < A.heap.size := by
      rcases Nat.lt_or_ge a.block A.heap.size with h | h
      · exact h
      · rw [Array.getElem?_eq_none h] at h2; cases h2
    refine ⟨?_, .inr ⟨a, cur, z, rfl, (hg.block _ hlt hne).trans h2⟩⟩
    rcases h1 with rfl | ⟨b, o, e, hc⟩
    · exact .inl rfl
    · cases e
      exact .inr ⟨b, o, rfl, fun j x hx => ⟨hg.cell (hc j x hx).1 hne, hg.cell (hc j x hx).2 hne⟩⟩
theorem Ij.on {A B : World} {p : Option Addr} {l : List Item} (h : Ij A p l) (hb : Below A.heap.size A B) : Ij B p l := h.kept (below_grown hb) (fun _ _ _ _ _ e => by cases e)
theorem Ij.tail {w : World} {p : Option Addr} {l : List Item} (h : Ij w p l) (cap : Nat) (hl : l.length ≤ cap) : Ij w (if cap = 1 then p else p.map (·.add 2)) (l.drop 1) := by
  refine ⟨h.1.tail cap hl, ?_⟩
  rcases h.2 with rfl | ⟨a, cur, z, rfl, h2⟩
  · exact .inl (by simp)
  · split
    · exact .inr ⟨a, cur, z, rfl, h2⟩
    · obtain ⟨b, o, sp⟩ := a
      cases sp with
      | none => exact .inr ⟨_, cur, z, rfl, h2⟩
      | some sp => exact .inr ⟨_, cur, z, rfl, h2⟩
theorem Ij.init {w : World} {p : Option Addr} {l : List Item} (h : Ij w p l) (m : Nat) : Ij w p (l.take m) := by
  refine ⟨h.1.init m, ?_⟩
  rcases h.2 with rfl | h2
  · exact .inl (by simp)
  · exact .inr h2
theorem ij_of_row {w : World} {base n : Nat} {a : Option Addr} {k c : Nat} {l : List Item} (h : w.ownsRow base 50 2 (.slice a k c) n (cellsI l)) (hn : n = l.length) : Ij w a l := by
  refine ⟨(ii_of_row h hn).1, ?_⟩
  subst hn
  obtain ⟨-, ⟨e, e2⟩ | ⟨g, cap, cur, e, hb, hg, h1, h2, h3, h4⟩⟩ := h
  · exact .inl (List.eq_nil_of_length_eq_zero e2)
  · cases e
    exact .inr ⟨_, _, _, rfl, hg⟩
theorem push1j {w : World} {base : Nat} {v : Value} {xs : List Int} (h : Owns w base v xs) (hb : base ≤ w.heap.size) (hn : xs.length + 1 ≤ 8796093022208) (x : Int) {p : Option Addr} {l : List Item} (hI : Ij w p l) :
    ∃ v' w1, (Builtin.append_ #[25, 25] 25 #[v, .slice (some ⟨w.heap.size, 0, none⟩) 1 1]).run Tryd.prog (w.alloc (.cells #[.int .i64 x] 3)) = .ok v' w1 ∧ Owns w1 base v' (xs ++ [x]) ∧ Below base w w1 ∧ Ij w1 p l := by
  obtain ⟨g, cap, w1, h1, h2, h3, -⟩ := push1 h hb hn x
  have hIa := hI.on ((Below.refl _ _).alloc (Nat.le_refl _) (.cells #[.int .i64 x] 3))
  refine ⟨_, w1, h1, h2, ((Below.refl base w).alloc hb _).trans (owns_below (h.alloc _) h3 (Nat.le_refl _) (by simp; omega)), hIa.kept h3 fun a cur z e hc ee => ?_⟩
  obtain ⟨-, cur', hc'⟩ := owns_cells (h.alloc _) ee.symm
  rw [hc] at hc'
  cases hc'
end Go.Proofs.YtpiefdpcinjkpaaDoor
