/- The document's own written and number. -/
import Derived.Test.YtkhkgoimcbnpaaaDoorRefA
import Derived.Test.YtkhkgoimcbnpaaaDoorRefB
set_option linter.unusedVariables false
set_option linter.unusedSimpArgs false
namespace Go.Proofs.YtkhkgoimcbnpaaaDoor
open Go.RowKit

/-- string(b) of bytes that are known. -/
theorem own_string {B : Nat} {w : World} {g n c : Nat} {L : List Nat} (h : Own .u8 5 B w (.slice (some ⟨g, 0, none⟩) n c) L) (hL : Dg 256 L) :
    (convert 29 9 (.slice (some ⟨g, 0, none⟩) n c)).run Tryd.prog w = .ok (.string ⟨(L.map UInt8.ofNat).toArray⟩) w := by
  obtain ⟨p, c', e1, -, -, -, -, -, -⟩ := h.form
  cases e1
  have := run_convert_bytes_back (P := Tryd.prog) w 29 9 5 ⟨g, 0, none⟩ c (L.map UInt8.ofNat) Tryd.underlying29 Tryd.underlying5 Tryd.underlying9 (fun j hj => by
    have hj' : j < L.length := by simpa using hj
    rw [add_plain, Nat.zero_add, h.cellAt j hj', nAt_get hj']
    have := hL _ (List.getElem_mem hj')
    simp
    omega)
  rw [List.length_map] at this
  exact this

theorem writ_text {l : List Nat} {k : Nat} (hl : k ≤ l.length) (h1 : 1 ≤ k) (hd : Dg 10 l) (hz : ∀ j, k ≤ j → j < l.length → nAt l j = 0) (hn : k = 1 ∨ nAt l (k - 1) ≠ 0) :
    (⟨(((l.take k).map (48 + ·)).reverse.map UInt8.ofNat).toArray⟩ : ByteArray) = decB (val 10 l) := by
  rw [← val_trim, ← text_dec hd.trim (canon_trim l)]
  by_cases h0 : nAt l (k - 1) = 0
  · have hk : k = 1 := by rcases hn with h | h; exact h; exact absurd h0 h
    subst hk
    have ht : trimLen l = 0 := trimLen_eq l 0 (by omega) (fun j _ hj => by
      by_cases e : j = 0
      · subst e; exact h0
      · exact hz j (by omega) hj) (.inl rfl)
    have : trimL l = [] := by unfold trimL; rw [ht]; rfl
    rw [this, take_snoc (by omega)]
    have h0' : nAt l 0 = 0 := h0
    simp [textB, h0']
  · have ht : trimLen l = k := trimLen_eq l k hl hz (.inr h0)
    have hne : trimL l ≠ [] := by
      intro e
      have := congrArg List.length e
      rw [trimL_len, ht] at this
      simp at this
      omega
    unfold textB
    rw [if_neg hne]
    unfold trimL
    rw [ht]
    rw [List.map_reverse, List.map_reverse, List.map_map]
    rfl

theorem own_full (B : Nat) (w : World) (n : Nat) (hn : n ≤ 1099511627776) (hB : B ≤ w.heap.size) :
    ∃ w', (Instr.makeSlice 29 (.int .i64 (n : Int)) (.int .i64 (n : Int))).run Tryd.prog w = .ok (.slice (some ⟨w.heap.size, 0, none⟩) n n) w' ∧ Own .u8 5 B w' (.slice (some ⟨w.heap.size, 0, none⟩) n n) (List.replicate n 0) ∧ Below B w w' := by
  obtain ⟨i0, hi, hz0, hz1, hz2⟩ := info_parts Tryd.info5
  obtain ⟨w', h1, h2, h3⟩ := run_make_full (P := Tryd.prog) w B 29 5 i0 (.int .u8 0) 1 Tryd.underlying29 hi hz0 hz1 .i64 .i64 n (by rw [hz2]; omega) (by unfold maxLen; omega) hB
  refine ⟨w', h1, ?_, (Below.refl _ w).grown h3 hB (fun k e => by cases e)⟩
  unfold Own
  rw [List.length_replicate]
  have : vi .u8 (List.replicate n 0) = (madeCells (Value.int .u8 0).cells (n * 1)).toList := by
    rw [Nat.mul_one]
    show _ = (madeCells #[Value.int .u8 0] n).toList
    rw [toList_madeCells_one]
    simp [vi]
  rw [this]
  exact h2

theorem mapped_dg {l : List Nat} (hd : Dg 10 l) : Dg 256 (l.map (48 + ·)).reverse := by
  intro d h
  rw [List.mem_reverse] at h
  obtain ⟨x, hx, rfl⟩ := List.mem_map.1 h
  have := hd x hx
  omega

theorem nil_is {w : World} : (binOp .eql 65 (.slice none 0 0) (.slice none 0 0)).run Tryd.prog w = .ok (.bool true) w := run_eql_nil_slice w 65 3 none 0 0 0 0 Tryd.underlying65
theorem nil_not {w : World} (a : Addr) (n c : Nat) : (binOp .eql 65 (.slice (some a) n c) (.slice none 0 0)).run Tryd.prog w = .ok (.bool false) w := run_eql_nil_slice w 65 3 (some a) n c 0 0 Tryd.underlying65
/-- The digits that the document's number makes of a text. -/
def rnum (s : ByteArray) : List Nat := if okS s 10 then lsd s else [0]
theorem rnum_dg (s : ByteArray) : Dg 10 (rnum s) := by
  unfold rnum
  split
  · rename_i h; exact lsd_dg (base := 10) h
  · intro d h; simp at h; omega
theorem rnum_val (s : ByteArray) : val 10 (rnum s) = num s := by
  unfold rnum num
  split <;> rfl
theorem rnum_len (s : ByteArray) : 0 < (rnum s).length ∧ (rnum s).length ≤ 5000 := by
  unfold rnum
  split
  · rename_i h
    have h2 := (okS_iff.1 h).2
    rw [lsd_len]
    exact ⟨h2.1, h2.2.1⟩
  · simp

end Go.Proofs.YtkhkgoimcbnpaaaDoor
