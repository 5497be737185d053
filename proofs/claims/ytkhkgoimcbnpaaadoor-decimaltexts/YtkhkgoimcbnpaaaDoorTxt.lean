/- Text of any number. -/
import Derived.Test.YtkhkgoimcbnpaaaDoorRTxt
import Derived.Lib.AppendStr
import Derived.Lib.AppendIntMem
set_option linter.unusedVariables false
set_option linter.unusedSimpArgs false
namespace Go.Proofs.YtkhkgoimcbnpaaaDoor
open Go.RowKit

theorem dec_lib : ∀ (m u : Nat), u ≤ m → (decB u).data.toList = Lib.decDigits u
  | 0, u, h => by
    obtain rfl : u = 0 := by omega
    rw [dec_small (by omega), Lib.decDigits, dif_pos (by omega)]
  | m + 1, u, h => by
    by_cases h9 : u ≤ 9
    · rw [dec_small h9, Lib.decDigits, dif_pos (by omega)]
    · rw [dec_more (by omega), app_list, dec_lib m (u / 10) (by omega), Lib.decDigits.eq_def u, dif_neg (by omega)]
theorem itoa_lib (n : Int) : (⟨(Lib.itoa n).toArray⟩ : ByteArray) = itoaB n := by
  apply ByteArray.ext
  apply Array.ext'
  unfold Lib.itoa itoaB
  by_cases h : n < 0
  · rw [if_pos h, if_pos h]
    have e : n.natAbs = (-n).toNat := by omega
    rw [app_list, dec_lib _ _ (Nat.le_refl _), e]
    rfl
  · rw [if_neg h, if_neg h, dec_lib _ _ (Nat.le_refl _)]
theorem itoa_own (n : Int) (h0 : -9223372036854775808 ≤ n) (h1 : n ≤ 9223372036854775807) (w : World) (htab : Lib.TabIs Tryd.prog w "internal/strconv.uint64pow10" .u64 Lib.pow10Tab) :
    Calls Tryd.prog 11 #[.int .i64 n] w fun e w' => e = .returned (.string (itoaB n)) ∧ Below w.heap.size w w' := by
  refine (Tryd.strconv_Itoa n h0 h1 w htab).mono ?_
  rintro e w' ⟨rfl, k, os, rfl⟩
  exact ⟨by rw [itoa_lib], Lib.below_grow _ _ (Nat.le_refl _) _ _⟩

/-- A text as numbers. -/
def bl (s : ByteArray) : List Nat := s.data.toList.map UInt8.toNat
theorem bl_len (s : ByteArray) : (bl s).length = s.size := by unfold bl; rw [List.length_map, ← Lib.size_eq]
theorem bl_cells (s : ByteArray) : vi .u8 (bl s) = Lib.strCells s := by
  unfold vi bl Lib.strCells
  simp [List.map_map, Function.comp_def]
theorem bl_dg (s : ByteArray) : Dg 256 (bl s) := by
  intro d h
  obtain ⟨c, -, rfl⟩ := List.mem_map.1 h
  exact c.toNat_lt
theorem bl_back (s : ByteArray) : (⟨((bl s).map UInt8.ofNat).toArray⟩ : ByteArray) = s := by
  apply ByteArray.ext
  apply Array.ext'
  unfold bl
  simp [List.map_map, Function.comp_def]
theorem bl_app (s t : ByteArray) : bl (s ++ t) = bl s ++ bl t := by unfold bl; rw [app_list, List.map_append]

/-- append(v, s...). -/
theorem pushS {B : Nat} {w : World} {v : Value} {x : ByteArray} (h : Own .u8 5 B w v (bl x)) (hB : B ≤ w.heap.size) (s : ByteArray) (h0 : 0 < s.size) (hl : x.size ≤ 1000) (hs : s.size ≤ 1000) :
    ∃ g c w', (Builtin.append_ #[29, 9] 29 #[v, .string s]).run Tryd.prog w = .ok (.slice (some ⟨g, 0, none⟩) (x ++ s).size c) w' ∧
      Own .u8 5 B w' (.slice (some ⟨g, 0, none⟩) (x ++ s).size c) (bl (x ++ s)) ∧ Below B w w' := by
  obtain ⟨i0, hi, hz0, hz1, hz2⟩ := info_parts Tryd.info5
  have h' := h
  unfold Own at h'
  rw [bl_len] at h'
  obtain ⟨v', w', hr, ho, hg, -⟩ := Lib.run_append_own_string (P := Tryd.prog) w B 29 9 29 5 i0 Tryd.underlying29 Tryd.underlying9 hi hz0 hz1 hz2 v x.size (vi .u8 (bl x)) h' s (by unfold maxLen; omega) (by omega) hB
  have ho' : Own .u8 5 B w' v' (bl (x ++ s)) := by
    unfold Own
    rw [bl_len, bl_app, ByteArray.size_append]
    have : vi .u8 (bl x ++ bl s) = vi .u8 (bl x) ++ Lib.strCells s := by rw [← bl_cells]; unfold vi; rw [List.map_append]
    rw [this]
    exact ho
  have hn0 : 0 < (x ++ s).size := by rw [ByteArray.size_append]; omega
  obtain ⟨p, c, rfl, hc1, hc2, -, -, hn, hg0⟩ := ho'.form
  cases p with
  | none => have := congrArg List.length (hn rfl).1; rw [bl_len, List.length_nil] at this; omega
  | some a =>
    have ea := hg0 a rfl
    rw [ea] at hr ho'
    rw [bl_len] at hr ho'
    exact ⟨a.block, c, w', hr, ho', (Below.refl _ w).grown hg hB (fun j e => (h.lt j e).1)⟩
theorem push1 {B : Nat} {w : World} {v : Value} {x : ByteArray} (h : Own .u8 5 B w v (bl x)) (hB : B ≤ w.heap.size) (c : UInt8) (hl : x.size ≤ 1000) :
    ∃ g p w', (Builtin.append_ #[29, 29] 29 #[v, .slice (some ⟨w.heap.size, 0, none⟩) 1 1]).run Tryd.prog (w.alloc (.cells #[.int .u8 (c.toNat : Int)] 5)) = .ok (.slice (some ⟨g, 0, none⟩) (x ++ ⟨#[c]⟩).size p) w' ∧
      Own .u8 5 B w' (.slice (some ⟨g, 0, none⟩) (x ++ ⟨#[c]⟩).size p) (bl (x ++ ⟨#[c]⟩)) ∧ Below B w w' := by
  obtain ⟨g, p, w', h1, h2, h3⟩ := push8b h hB c.toNat (by rw [bl_len]; omega)
  have e1 : (bl x).length + 1 = (x ++ ⟨#[c]⟩).size := by rw [bl_len, ByteArray.size_append]; rfl
  have e2 : bl x ++ [c.toNat] = bl (x ++ ⟨#[c]⟩) := by rw [bl_app]; rfl
  rw [e1] at h1 h2
  rw [e2] at h2
  exact ⟨g, p, w', h1, h2, h3⟩
theorem strS {B : Nat} {w : World} {g n c : Nat} {x : ByteArray} (h : Own .u8 5 B w (.slice (some ⟨g, 0, none⟩) n c) (bl x)) :
    (convert 29 9 (.slice (some ⟨g, 0, none⟩) n c)).run Tryd.prog w = .ok (.string x) w := by
  have := own_string h (bl_dg x)
  rwa [bl_back] at this

/-- An append of a text whose run is known. -/
theorem wpList_append_runs {P : Program} {w w' : World} {ops : Array Oper} {rest : List Oper} {o : Oper} {a : Act} {Q : Exit → Act → World → Prop} (hgd : o.guard = none) (s x : Operand) (t t' : TypeId)
    (ho : o.op = .call { callee := .builtin .append, args := #[s, x], argTypes := #[t, t'] }) {u y v : Value} (hs : a.eval s = u) (hx : a.eval x = y)
    (hrun : (Builtin.append_ #[t, t'] o.type #[u, y]).run P w = .ok v w') (h : wpList P ops Q rest (a.put o.dst v) w') : wpList P ops Q (o :: rest) a w :=
  wpList_plain hgd fun K hK => by
    unfold Oper.wp execOp
    simp [ho, resolve, invoke, builtin, hs, hx, hrun, Result.andThen]
    exact hK _ _ h

/-- The number lies in its block. -/
theorem box4 {w W : World} {b : Bool} {D : ByteArray} {E X : Int} (hB : Below (w.heap.size + 1) (w.alloc (.cells #[.bool b, .string D, .int .i64 E, .int .i64 X] 23)) W) :
    W.cell? ⟨w.heap.size, 0, none⟩ = some (.bool b) ∧ W.cell? ⟨w.heap.size, 1, none⟩ = some (.string D) ∧ W.cell? ⟨w.heap.size, 2, none⟩ = some (.int .i64 E) ∧ W.cell? ⟨w.heap.size, 3, none⟩ = some (.int .i64 X) := by
  have key : ∀ (j : Nat) (u : Value), ([.bool b, .string D, .int .i64 E, .int .i64 X] : List Value)[j]? = some u → W.cell? ⟨w.heap.size, j, none⟩ = some u := by
    intro j u hj
    have := cells_new w [.bool b, .string D, .int .i64 E, .int .i64 X] 23 j u hj
    rw [add_plain, Nat.zero_add] at this
    exact (hB.cell (p := ⟨w.heap.size, j, none⟩) (by show w.heap.size < _; omega)).trans this
  exact ⟨key 0 _ rfl, key 1 _ rfl, key 2 _ rfl, key 3 _ rfl⟩
end Go.Proofs.YtkhkgoimcbnpaaaDoor
