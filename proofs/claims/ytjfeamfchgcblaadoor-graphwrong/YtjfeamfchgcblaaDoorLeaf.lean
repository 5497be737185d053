/- The leaves: what the small functions of chars and fold, and the document's own ones, answer for every number; how a slice of ints is read. -/
import Derived.Test.YtjfeamfchgcblaaDoorProg
import Derived.KernelRfl
import Derived.WalkKit
import Derived.WalkSpells
import Derived.WalkLawsBesides
import Derived.BigQuiet
import Derived.Deep.Cut
import Derived.Deep.AppendSrc
import Derived.Deep.Heap
set_option linter.unusedVariables false
set_option linter.unusedSimpArgs false
namespace Go.Proofs.YtjfeamfchgcblaaDoor
open Go.RowKit

theorem ret_int {k : IntKind} {a b : Int} (h : a = b) : Ending.returned (.int k a) = .returned (.int k b) := by rw [h]
theorem ret_bool {a b : Bool} (h : a = b) : Ending.returned (.bool a) = .returned (.bool b) := by rw [h]

def iAt (l : List Int) (k : Nat) : Int := l[k]?.getD 0

/-- The slice at p holds these ints; of an empty one nothing is asked. -/
def Is (w : World) (p : Option Addr) (l : List Int) : Prop :=
  l = [] ∨ ∃ b o, p = some ⟨b, o, none⟩ ∧ ∀ j, j < l.length → w.cell? ⟨b, o + j, none⟩ = some (.int .i64 (iAt l j))

theorem Is.at {w : World} {p : Option Addr} {l : List Int} (h : Is w p l) (hl : 0 < l.length) : ∃ b o, p = some ⟨b, o, none⟩ ∧ ∀ j, j < l.length → w.cell? ⟨b, o + j, none⟩ = some (.int .i64 (iAt l j)) := by
  rcases h with rfl | h
  · simp at hl
  · exact h
theorem Is.below {n₀ : Nat} {A B : World} {p : Option Addr} {l : List Int} (h : Is A p l) (hp : ∀ a, p = some a → 0 < l.length → a.block < n₀) (hb : Below n₀ A B) : Is B p l := by
  rcases h with rfl | ⟨b, o, rfl, hc⟩
  · exact .inl rfl
  · exact .inr ⟨b, o, rfl, fun j hj => (hb.cell (p := ⟨b, o + j, none⟩) (hp ⟨b, o, none⟩ rfl (by omega))).trans (hc j hj)⟩
theorem Is.lt {w : World} {p : Option Addr} {l : List Int} (h : Is w p l) : ∀ a, p = some a → 0 < l.length → a.block < w.heap.size := by
  intro a e hl
  obtain ⟨b, o, rfl, hc⟩ := h.at hl
  cases e
  exact World.block_lt_of_cell? w ⟨b, o + 0, none⟩ (hc 0 hl)
theorem Is.on {A B : World} {p : Option Addr} {l : List Int} (h : Is A p l) (hb : Below A.heap.size A B) : Is B p l := h.below h.lt hb
theorem Is.alloc {A : World} {p : Option Addr} {l : List Int} (h : Is A p l) (o : Obj) : Is (A.alloc o) p l := h.on ((Below.refl _ A).alloc (Nat.le_refl _) _)
theorem Is.drew {A : World} {p : Option Addr} {l : List Int} (h : Is A p l) : Is A.drew p l := h.on ((Below.refl _ A).drew)
theorem Is.drewN {w : World} {p : Option Addr} {l : List Int} (h : Is w p l) (n : Nat) : Is (w.drewN n) p l := by
  rcases h with rfl | ⟨b, o, rfl, hc⟩
  · exact .inl rfl
  · exact .inr ⟨b, o, rfl, fun j hj => by simpa using hc j hj⟩
theorem Is.drop {w : World} {b o : Nat} {l : List Int} (h : Is w (some ⟨b, o, none⟩) l) (k : Nat) : Is w (some ⟨b, o + k, none⟩) (l.drop k) := by
  rcases h with rfl | ⟨b', o', e, hc⟩
  · exact .inl (by simp)
  · cases e
    refine .inr ⟨b, o + k, rfl, fun j hj => ?_⟩
    have hj' : k + j < l.length := by simp at hj; omega
    rw [Nat.add_assoc, hc (k + j) hj']
    simp [iAt]
theorem Is.take {w : World} {p : Option Addr} {l : List Int} (h : Is w p l) (k : Nat) : Is w p (l.take k) := by
  rcases h with rfl | ⟨b, o, rfl, hc⟩
  · exact .inl (by simp)
  · refine .inr ⟨b, o, rfl, fun j hj => ?_⟩
    rw [List.length_take] at hj
    have hj1 : j < k := by omega
    rw [hc j (by omega)]
    simp [iAt, List.getElem?_take, hj1]

theorem add_plain (b o m : Nat) : (⟨b, o, none⟩ : Addr).add m = ⟨b, o + m, none⟩ := by unfold Addr.add; split <;> simp_all

theorem Tryd.info3 : (Tryd.prog.info? 3).map (fun i => (i.zero, i.size, i.bytes)) = some (some (.int .i64 0), 1, 8) := by kernel_rfl

theorem slice_from (p : Option Addr) (len cap m : Nat) (hm : m ≤ len) (hl : len ≤ cap) (w2 : World) :
    (Instr.slice 23 (.slice p len cap) (some (.int .i64 m)) none none).run Tryd.prog w2 = .ok (.slice (if cap = m then p else p.map (·.add m)) (len - m) (cap - m)) w2 := by
  have h0 : (m : Int) ≤ len := by omega
  have h1 : (len : Int) ≤ cap := by omega
  have u := Tryd.underlying23
  have z := Tryd.sizeOf3
  simp [go_sem, h0, h1]

theorem slice_to (p : Option Addr) (len cap s : Nat) (hs : s ≤ cap) (w2 : World) :
    (Instr.slice 23 (.slice p len cap) none (some (.int .i64 s)) none).run Tryd.prog w2 = .ok (.slice p s cap) w2 := by
  have h0 : (s : Int) ≤ cap := by omega
  have u := Tryd.underlying23
  have z := Tryd.sizeOf3
  cases p with
  | none => simp [go_sem, h0]
  | some a =>
    obtain ⟨b, o, sp⟩ := a
    by_cases hc : cap = 0
    · subst hc; obtain rfl : s = 0 := by omega
      simp [go_sem]
    · cases sp <;> simp [go_sem, h0, hc, Addr.add]

theorem Is.from {w : World} {p : Option Addr} {l : List Int} (h : Is w p l) (cap m : Nat) (hl : l.length ≤ cap) : Is w (if cap = m then p else p.map (·.add m)) (l.drop m) := by
  split
  · exact .inl (List.drop_eq_nil_of_le (by omega))
  · rcases h with rfl | ⟨b, o, rfl, hc⟩
    · exact .inl (by simp)
    · rw [Option.map_some, add_plain]
      exact Is.drop (.inr ⟨b, o, rfl, hc⟩) m

/-- An append whose run is known. -/
theorem wpList_append_run {P : Program} {w w' : World} {ops : Array Oper} {rest : List Oper} {o : Oper} {a : Act} {Q : Exit → Act → World → Prop} (hgd : o.guard = none) (s x : Operand) (t : TypeId)
    (ho : o.op = .call { callee := .builtin .append, args := #[s, x], argTypes := #[t, t] }) {u y v : Value} (hs : a.eval s = u) (hx : a.eval x = y)
    (hrun : (Builtin.append_ #[t, t] o.type #[u, y]).run P w = .ok v w') (h : wpList P ops Q rest (a.put o.dst v) w') : wpList P ops Q (o :: rest) a w :=
  wpList_plain hgd fun K hK => by
    unfold Oper.wp execOp
    simp [ho, resolve, invoke, builtin, hs, hx, hrun, Result.andThen]
    exact hK _ _ h

theorem ownsRow_form {w : World} {base : Nat} {e : TypeId} {size : Nat} {v : Value} {n : Nat} {xs : List Value} (h : w.ownsRow base e size v n xs) : ∃ a k c, v = .slice a k c := by
  obtain ⟨-, ⟨rfl, -⟩ | ⟨g, cap, cur, rfl, -⟩⟩ := h
  · exact ⟨_, _, _, rfl⟩
  · exact ⟨_, _, _, rfl⟩
theorem ownsRow_mono {w : World} {base base' : Nat} {e : TypeId} {size : Nat} {v : Value} {n : Nat} {xs : List Value} (h : w.ownsRow base e size v n xs) (hb : base' ≤ base) : w.ownsRow base' e size v n xs := by
  obtain ⟨h1, h2 | ⟨g, cap, cur, hv, hg, rest⟩⟩ := h
  · exact ⟨h1, .inl h2⟩
  · exact ⟨h1, .inr ⟨g, cap, cur, hv, Nat.le_trans hb hg, rest⟩⟩

theorem is_of_row {w : World} {base n : Nat} {a : Option Addr} {k c : Nat} {l : List Int} (h : w.ownsRow base 3 1 (.slice a k c) n (l.map (.int .i64))) : Is w a l ∧ k = l.length ∧ k ≤ c ∧ c ≤ maxLen := by
  have hl : l.length = n := by have := h.1; simpa using this
  have h' := h
  obtain ⟨-, ⟨e, e2⟩ | ⟨g, cap, cur, e, hb, hg, h1, h2, h3, h4⟩⟩ := h'
  · cases e
    exact ⟨.inl (List.eq_nil_of_length_eq_zero (by omega)), by omega, by omega, by unfold maxLen; omega⟩
  · cases e
    refine ⟨.inr ⟨g, 0, rfl, fun j hj => ?_⟩, by omega, h1, h2⟩
    have := h.cells (g := g) rfl j (.int .i64 (iAt l j)) (by simp [iAt, hj])
    rw [add_plain] at this
    exact this

theorem is_of_block {W : World} {b : Nat} {l : List Int} {f : Nat × Nat} (h : W.heap[b]? = some (.cells (l.map (Value.int .i64)).toArray 3 f)) : Is W (some ⟨b, 0, none⟩) l := by
  refine .inr ⟨b, 0, rfl, fun j hj => ?_⟩
  simp [World.cell?, h, hj, iAt]

end Go.Proofs.YtjfeamfchgcblaaDoor
