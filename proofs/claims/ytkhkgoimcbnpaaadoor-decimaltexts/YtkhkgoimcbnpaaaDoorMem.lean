/- Lists of digits in memory: read, owned, shortened, made longer. -/
import Derived.Test.YtkhkgoimcbnpaaaDoorPlain
import Derived.WalkKit
import Derived.WalkSpells
import Derived.WalkLawsBesides
import Derived.BigQuiet
import Derived.Deep.Cut
import Derived.Deep.AppendSrc
import Derived.Deep.Heap
import Derived.OwnWalk
import Derived.Laws.IdiomStrings
set_option linter.unusedVariables false
set_option linter.unusedSimpArgs false
namespace Go.Proofs.YtkhkgoimcbnpaaaDoor
open Go.RowKit

theorem add_plain (b o m : Nat) : (⟨b, o, none⟩ : Addr).add m = ⟨b, o + m, none⟩ := by unfold Addr.add; split <;> simp_all
theorem Tryd.info5 : (Tryd.prog.info? 5).map (fun i => (i.zero, i.size, i.bytes)) = some (some (.int .u8 0), 1, 1) := by kernel_rfl
theorem Tryd.info72 : (Tryd.prog.info? 72).map (fun i => (i.zero, i.size, i.bytes)) = some (some (.int .u32 0), 1, 4) := by kernel_rfl
theorem Tryd.info3 : (Tryd.prog.info? 3).map (fun i => (i.zero, i.size, i.bytes)) = some (some (.int .i64 0), 1, 8) := by kernel_rfl
theorem ret_int {k : IntKind} {a b : Int} (h : a = b) : Ending.returned (.int k a) = .returned (.int k b) := by rw [h]
theorem ret_bool {a b : Bool} (h : a = b) : Ending.returned (.bool a) = .returned (.bool b) := by rw [h]

def vi (k : IntKind) (l : List Nat) : List Value := l.map fun (n : Nat) => Value.int k (n : Int)
theorem vi_len (k : IntKind) (l : List Nat) : (vi k l).length = l.length := by simp [vi]
theorem vi_snoc (k : IntKind) (l : List Nat) (d : Nat) : vi k (l ++ [d]) = vi k l ++ [.int k d] := by simp [vi]
theorem vi_at (k : IntKind) {l : List Nat} {j : Nat} (h : j < l.length) : (vi k l)[j]? = some (.int k (nAt l j)) := by simp [vi, nAt, h]

/-- The slice at p reads as these digits; of an empty one nothing is asked. -/
def Rd (k : IntKind) (w : World) (p : Option Addr) (l : List Nat) : Prop :=
  l = [] ∨ ∃ b o, p = some ⟨b, o, none⟩ ∧ ∀ j, j < l.length → w.cell? ⟨b, o + j, none⟩ = some (.int k (nAt l j))

theorem Rd.at {k : IntKind} {w : World} {p : Option Addr} {l : List Nat} (h : Rd k w p l) (hl : 0 < l.length) : ∃ b o, p = some ⟨b, o, none⟩ ∧ ∀ j, j < l.length → w.cell? ⟨b, o + j, none⟩ = some (.int k (nAt l j)) := by
  rcases h with rfl | h
  · simp at hl
  · exact h
theorem Rd.lt {k : IntKind} {w : World} {p : Option Addr} {l : List Nat} (h : Rd k w p l) : ∀ a, p = some a → 0 < l.length → a.block < w.heap.size := by
  intro a e hl
  obtain ⟨b, o, rfl, hc⟩ := h.at hl
  cases e
  exact World.block_lt_of_cell? w ⟨b, o + 0, none⟩ (hc 0 hl)
theorem Rd.below {k : IntKind} {n₀ : Nat} {A B : World} {p : Option Addr} {l : List Nat} (h : Rd k A p l) (hp : ∀ a, p = some a → 0 < l.length → a.block < n₀) (hb : Below n₀ A B) : Rd k B p l := by
  rcases h with rfl | ⟨b, o, rfl, hc⟩
  · exact .inl rfl
  · exact .inr ⟨b, o, rfl, fun j hj => (hb.cell (p := ⟨b, o + j, none⟩) (hp ⟨b, o, none⟩ rfl (by omega))).trans (hc j hj)⟩
theorem Rd.on {k : IntKind} {A B : World} {p : Option Addr} {l : List Nat} (h : Rd k A p l) (hb : Below A.heap.size A B) : Rd k B p l := h.below h.lt hb
theorem Rd.take {k : IntKind} {w : World} {p : Option Addr} {l : List Nat} (h : Rd k w p l) (m : Nat) : Rd k w p (l.take m) := by
  rcases h with rfl | ⟨b, o, rfl, hc⟩
  · exact .inl (by simp)
  · refine .inr ⟨b, o, rfl, fun j hj => ?_⟩
    rw [List.length_take] at hj
    have hj1 : j < m := by omega
    rw [hc j (by omega)]
    simp [nAt, List.getElem?_take, hj1]
theorem Rd.drop {k : IntKind} {w : World} {b o : Nat} {l : List Nat} (h : Rd k w (some ⟨b, o, none⟩) l) (m : Nat) : Rd k w (some ⟨b, o + m, none⟩) (l.drop m) := by
  rcases h with rfl | ⟨b', o', e, hc⟩
  · exact .inl (by simp)
  · cases e
    refine .inr ⟨b, o + m, rfl, fun j hj => ?_⟩
    have hj' : m + j < l.length := by simp at hj; omega
    rw [Nat.add_assoc, hc (m + j) hj']
    simp [nAt]

/-- A list of the call's own: its block is B or a later one. -/
def Own (k : IntKind) (e : TypeId) (B : Nat) (w : World) (v : Value) (l : List Nat) : Prop := w.ownsRow B e 1 v l.length (vi k l)

theorem Own.nil (k : IntKind) (e : TypeId) (B : Nat) (w : World) : Own k e B w (.slice none 0 0) [] := World.ownsRow_nil w B e 1
theorem Own.form {k : IntKind} {e : TypeId} {B : Nat} {w : World} {v : Value} {l : List Nat} (h : Own k e B w v l) :
    ∃ p c, v = .slice p l.length c ∧ l.length ≤ c ∧ c ≤ maxLen ∧ Rd k w p l ∧ (∀ a, p = some a → B ≤ a.block ∧ a.block < w.heap.size) ∧ (p = none → l = [] ∧ c = 0) ∧ ∀ a, p = some a → a = ⟨a.block, 0, none⟩ := by
  have h' := h
  obtain ⟨h1, ⟨rfl, e2⟩ | ⟨g, cap, cur, rfl, hb, hg, hn, hm, hs, ht⟩⟩ := h'
  · have : l = [] := List.eq_nil_of_length_eq_zero e2
    subst this
    exact ⟨none, 0, rfl, Nat.le_refl _, Nat.zero_le _, .inl rfl, (fun a e => by cases e), (fun _ => ⟨rfl, rfl⟩), fun a e => by cases e⟩
  · refine ⟨_, cap, rfl, hn, hm, ?_, ?_, (fun e => by cases e), fun a e => by cases e; rfl⟩
    · by_cases h0 : l = []
      · exact .inl h0
      · refine .inr ⟨g, 0, rfl, fun j hj => ?_⟩
        have := World.ownsRow.cells h (g := g) rfl j _ (vi_at k hj)
        rw [add_plain] at this
        exact this
    · intro a e
      cases e
      exact ⟨hb, (Array.getElem?_eq_some_iff.1 hg).1⟩
theorem Own.mono {k : IntKind} {e : TypeId} {B B' : Nat} {w : World} {v : Value} {l : List Nat} (h : Own k e B w v l) (hb : B' ≤ B) : Own k e B' w v l := by
  obtain ⟨h1, h2 | ⟨g, cap, cur, hv, hg, rest⟩⟩ := h
  · exact ⟨h1, .inl h2⟩
  · exact ⟨h1, .inr ⟨g, cap, cur, hv, Nat.le_trans hb hg, rest⟩⟩
theorem Own.on {k : IntKind} {e : TypeId} {B : Nat} {w w' : World} {v : Value} {l : List Nat} (h : Own k e B w v l) (hb : Below w.heap.size w w') : Own k e B w' v l := by
  obtain ⟨h1, h2 | ⟨g, cap, cur, hv, hg, hc, rest⟩⟩ := h
  · exact ⟨h1, .inl h2⟩
  · exact ⟨h1, .inr ⟨g, cap, cur, hv, hg, (hb.block g (Array.getElem?_eq_some_iff.1 hc).1).trans hc, rest⟩⟩
theorem Own.short {k : IntKind} {e : TypeId} {B : Nat} {w : World} {p : Option Addr} {n c : Nat} {l : List Nat} (h : Own k e B w (.slice p n c) l) {m : Nat} (hm : m ≤ l.length) : Own k e B w (.slice p m c) (l.take m) := by
  have hl : (l.take m).length = m := by rw [List.length_take]; omega
  obtain ⟨h1, ⟨e1, e2⟩ | ⟨g, cap, cur, hv, hg, hc, hn, hmx, hs, ht⟩⟩ := h
  · have e0 : l = [] := List.eq_nil_of_length_eq_zero e2
    subst e0
    simp at hm
    subst hm
    cases e1
    exact World.ownsRow_nil w B e 1
  · cases hv
    refine ⟨by simp [vi], .inr ⟨g, c, cur, ?_, hg, hc, by omega, hmx, hs, ?_⟩⟩
    · rw [hl]
    · rw [hl, Nat.mul_one]
      rw [Nat.mul_one] at ht
      have : vi k (l.take m) = (vi k l).take m := by simp [vi, List.map_take]
      rw [this, ← ht, List.take_take, Nat.min_eq_left hm]

theorem cells_new (w : World) (cs : List Value) (t : TypeId) : ∀ (j : Nat) (u : Value), cs[j]? = some u → (w.alloc (.cells cs.toArray t)).cell? ((⟨w.heap.size, 0, none⟩ : Addr).add j) = some u := by
  intro j u hj
  have h := heap_alloc_new w (.cells cs.toArray t)
  rw [add_plain, Nat.zero_add]
  show (match (w.alloc (.cells cs.toArray t)).heap[w.heap.size]? with | some (.cells c _ _) => c[j]? | _ => none) = some u
  rw [h]
  simpa using hj

/-- An append whose run is known. -/
theorem wpList_append_run {P : Program} {w w' : World} {ops : Array Oper} {rest : List Oper} {o : Oper} {a : Act} {Q : Exit → Act → World → Prop} (hgd : o.guard = none) (s x : Operand) (t : TypeId)
    (ho : o.op = .call { callee := .builtin .append, args := #[s, x], argTypes := #[t, t] }) {u y v : Value} (hs : a.eval s = u) (hx : a.eval x = y)
    (hrun : (Builtin.append_ #[t, t] o.type #[u, y]).run P w = .ok v w') (h : wpList P ops Q rest (a.put o.dst v) w') : wpList P ops Q (o :: rest) a w :=
  wpList_plain hgd fun K hK => by
    unfold Oper.wp execOp
    simp [ho, resolve, invoke, builtin, hs, hx, hrun, Result.andThen]
    exact hK _ _ h

/-- append(v, x). -/
theorem Own.push {k : IntKind} {e t : TypeId} {bytes : Nat} (ht : Tryd.prog.underlying t = some (.slice e)) (hinfo : (Tryd.prog.info? e).map (fun i => (i.zero, i.size, i.bytes)) = some (some (.int k 0), 1, bytes)) (hby : bytes ≤ 8)
    {B : Nat} {w : World} {v : Value} {l : List Nat} (h : Own k e B w v l) (hB : B ≤ w.heap.size) (x : Nat) (hl : l.length < 1099511627776) :
    ∃ g c w', (Builtin.append_ #[t, t] t #[v, .slice (some ⟨w.heap.size, 0, none⟩) 1 1]).run Tryd.prog (w.alloc (.cells #[.int k x] e)) = .ok (.slice (some ⟨g, 0, none⟩) (l.length + 1) c) w' ∧
      Own k e B w' (.slice (some ⟨g, 0, none⟩) (l.length + 1) c) (l ++ [x]) ∧ Below B w w' := by
  obtain ⟨i0, hi, hz0, hz1, hz2⟩ := info_parts hinfo
  have hb : bytes * (l.length + 1) ≤ 8 * (l.length + 1) := Nat.mul_le_mul_right _ hby
  have hb' : (l.length + 1) * bytes ≤ 8 * (l.length + 1) := by rw [Nat.mul_comm]; exact hb
  obtain ⟨v', w', hr, ho, hg, -⟩ := run_append_own (P := Tryd.prog) (w.alloc (.cells #[.int k x] e)) B t t e i0 (.int k 0) 1 bytes ht hi hz0 hz1 hz2 rfl (by decide) v l.length (vi k l) (h.alloc _)
    ⟨w.heap.size, 0, none⟩ 1 1 [.int k x] rfl (cells_new w [.int k x] e) (by simp [Value.oneCell']) (by unfold maxLen; omega) (by omega) (by simp; omega)
  have ho' : Own k e B w' v' (l ++ [x]) := by
    unfold Own
    rw [vi_snoc, List.length_append]
    exact ho
  obtain ⟨p, c, rfl, hc1, hc2, -, -, hn, hg0⟩ := ho'.form
  cases p with
  | none => have := (hn rfl).1; simp at this
  | some a =>
    have ea := hg0 a rfl
    rw [ea] at hr ho' 
    rw [List.length_append] at hr ho'
    refine ⟨a.block, c, w', hr, ho', ((Below.refl _ w).alloc hB _).grown hg (by simp; omega) (fun j e => (h.lt j e).1)⟩

theorem push8 {B : Nat} {w : World} {v : Value} {l : List Nat} (h : Own .u8 5 B w v l) (hB : B ≤ w.heap.size) (x : Nat) (hl : l.length < 1099511627776) :
    ∃ g c w', (Builtin.append_ #[46, 46] 46 #[v, .slice (some ⟨w.heap.size, 0, none⟩) 1 1]).run Tryd.prog (w.alloc (.cells #[.int .u8 x] 5)) = .ok (.slice (some ⟨g, 0, none⟩) (l.length + 1) c) w' ∧
      Own .u8 5 B w' (.slice (some ⟨g, 0, none⟩) (l.length + 1) c) (l ++ [x]) ∧ Below B w w' := h.push Tryd.underlying46 Tryd.info5 (by decide) hB x hl
theorem push8b {B : Nat} {w : World} {v : Value} {l : List Nat} (h : Own .u8 5 B w v l) (hB : B ≤ w.heap.size) (x : Nat) (hl : l.length < 1099511627776) :
    ∃ g c w', (Builtin.append_ #[29, 29] 29 #[v, .slice (some ⟨w.heap.size, 0, none⟩) 1 1]).run Tryd.prog (w.alloc (.cells #[.int .u8 x] 5)) = .ok (.slice (some ⟨g, 0, none⟩) (l.length + 1) c) w' ∧
      Own .u8 5 B w' (.slice (some ⟨g, 0, none⟩) (l.length + 1) c) (l ++ [x]) ∧ Below B w w' := h.push Tryd.underlying29 Tryd.info5 (by decide) hB x hl
theorem push32 {B : Nat} {w : World} {v : Value} {l : List Nat} (h : Own .u32 72 B w v l) (hB : B ≤ w.heap.size) (x : Nat) (hl : l.length < 1099511627776) :
    ∃ g c w', (Builtin.append_ #[51, 51] 51 #[v, .slice (some ⟨w.heap.size, 0, none⟩) 1 1]).run Tryd.prog (w.alloc (.cells #[.int .u32 x] 72)) = .ok (.slice (some ⟨g, 0, none⟩) (l.length + 1) c) w' ∧
      Own .u32 72 B w' (.slice (some ⟨g, 0, none⟩) (l.length + 1) c) (l ++ [x]) ∧ Below B w w' := h.push Tryd.underlying51 Tryd.info72 (by decide) hB x hl
theorem push64 {B : Nat} {w : World} {v : Value} {l : List Nat} (h : Own .i64 3 B w v l) (hB : B ≤ w.heap.size) (x : Nat) (hl : l.length < 1099511627776) :
    ∃ g c w', (Builtin.append_ #[65, 65] 65 #[v, .slice (some ⟨w.heap.size, 0, none⟩) 1 1]).run Tryd.prog (w.alloc (.cells #[.int .i64 x] 3)) = .ok (.slice (some ⟨g, 0, none⟩) (l.length + 1) c) w' ∧
      Own .i64 3 B w' (.slice (some ⟨g, 0, none⟩) (l.length + 1) c) (l ++ [x]) ∧ Below B w w' := h.push Tryd.underlying65 Tryd.info3 (by decide) hB x hl

/-- make(list, 0, c). -/
theorem own_make {t e : TypeId} {k : IntKind} {bytes : Nat} (ht : Tryd.prog.underlying t = some (.slice e)) (hinfo : (Tryd.prog.info? e).map (fun i => (i.zero, i.size, i.bytes)) = some (some (.int k 0), 1, bytes)) (hby : bytes ≤ 8)
    (B : Nat) (w : World) (c : Nat) (hc : c ≤ 1099511627776) (hB : B ≤ w.heap.size) :
    ∃ w', (Instr.makeSlice t (.int .i64 0) (.int .i64 (c : Int))).run Tryd.prog w = .ok (.slice (some ⟨w.heap.size, 0, none⟩) 0 c) w' ∧ Own k e B w' (.slice (some ⟨w.heap.size, 0, none⟩) 0 c) [] ∧ Below B w w' ∧ w'.heap.size = w.heap.size + 1 := by
  obtain ⟨i0, hi, hz0, hz1, hz2⟩ := info_parts hinfo
  have hb : bytes * c ≤ 8 * c := Nat.mul_le_mul_right _ hby
  have hbi : (bytes : Int) * (c : Int) ≤ 281474976710656 := by
    have h : ((bytes * c : Nat) : Int) ≤ 281474976710656 := by omega
    rwa [Int.natCast_mul] at h
  have hr := run_make (P := Tryd.prog) w t e i0 (.int k 0) ht hi hz0 .i64 .i64 0 c (Int.le_refl _) (by omega) (by rw [hz2]; exact hbi) (by omega)
  simp only [Int.toNat_zero, Int.toNat_natCast] at hr
  exact ⟨_, hr, World.ownsRow_made w _ c hB (by unfold maxLen; omega) (by rw [size_madeCells, hz1]), (Below.refl _ w).alloc hB _, by simp⟩
end Go.Proofs.YtkhkgoimcbnpaaaDoor
