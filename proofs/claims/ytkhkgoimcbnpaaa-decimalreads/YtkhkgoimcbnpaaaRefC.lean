/- The document's own written and number. -/
import Derived.Test.YtkhkgoimcbnpaaaRefA
import Derived.Test.YtkhkgoimcbnpaaaRefB
set_option linter.unusedVariables false
set_option linter.unusedSimpArgs false
namespace Go.Proofs.Ytkhkgoimcbnpaaa
open Go.RowKit

/-- string(b) of bytes that are known. -/
theorem own_string {B : Nat} {w : World} {g n c : Nat} {L : List Nat} (h : Own .u8 5 B w (.slice (some ⟨g, 0, none⟩) n c) L) (hL : Dg 256 L) :
    (convert 48 9 (.slice (some ⟨g, 0, none⟩) n c)).run Try.prog w = .ok (.string ⟨(L.map UInt8.ofNat).toArray⟩) w := by
  obtain ⟨p, c', e1, -, -, -, -, -, -⟩ := h.form
  cases e1
  have := run_convert_bytes_back (P := Try.prog) w 48 9 5 ⟨g, 0, none⟩ c (L.map UInt8.ofNat) Try.underlying48 Try.underlying5 Try.underlying9 (fun j hj => by
    have hj' : j < L.length := by simpa using hj
    rw [add_plain, Nat.zero_add, h.cellAt j hj', nAt_get hj']
    have := hL _ (List.getElem_mem hj')
    simp
    omega)
  rw [List.length_map] at this
  exact this

theorem writ_text {l : List Nat} {k : Nat} (hl : k ≤ l.length) (h1 : 1 ≤ k) (hd : Dg 10 l) (hz : ∀ j, k ≤ j → j < l.length → nAt l j = 0) (hn : k = 1 ∨ nAt l (k - 1) ≠ 0) :
    (⟨(((l.take k).map (48 + ·)).reverse.map UInt8.ofNat).toArray⟩ : ByteArray) = decB (val 10 l) := by
  rw [← val_trim, ← text_dec hd.trim (canon_trim l)]
  by_cases h0 : nAt l (k - 1) = 0
  · have hk : k = 1 := by rcases hn with h | h; exact h; exact absurd h0 h
    subst hk
    have ht : trimLen l = 0 := trimLen_eq l 0 (by omega) (fun j _ hj => by
      by_cases e : j = 0
      · subst e; exact h0
      · exact hz j (by omega) hj) (.inl rfl)
    have : trimL l = [] := by unfold trimL; rw [ht]; rfl
    rw [this, take_snoc (by omega)]
    have h0' : nAt l 0 = 0 := h0
    simp [textB, h0']
  · have ht : trimLen l = k := trimLen_eq l k hl hz (.inr h0)
    have hne : trimL l ≠ [] := by
      intro e
      have := congrArg List.length e
      rw [trimL_len, ht] at this
      simp at this
      omega
    unfold textB
    rw [if_neg hne]
    unfold trimL
    rw [ht]
    rw [List.map_reverse, List.map_reverse, List.map_map]
    rfl

theorem own_full (B : Nat) (w : World) (n : Nat) (hn : n ≤ 1099511627776) (hB : B ≤ w.heap.size) :
    ∃ w', (Instr.makeSlice 48 (.int .i64 (n : Int)) (.int .i64 (n : Int))).run Try.prog w = .ok (.slice (some ⟨w.heap.size, 0, none⟩) n n) w' ∧ Own .u8 5 B w' (.slice (some ⟨w.heap.size, 0, none⟩) n n) (List.replicate n 0) ∧ Below B w w' := by
  obtain ⟨i0, hi, hz0, hz1, hz2⟩ := info_parts Try.info5
  obtain ⟨w', h1, h2, h3⟩ := run_make_full (P := Try.prog) w B 48 5 i0 (.int .u8 0) 1 Try.underlying48 hi hz0 hz1 .i64 .i64 n (by rw [hz2]; omega) (by unfold maxLen; omega) hB
  refine ⟨w', h1, ?_, (Below.refl _ w).grown h3 hB (fun k e => by cases e)⟩
  unfold Own
  rw [List.length_replicate]
  have : vi .u8 (List.replicate n 0) = (madeCells (Value.int .u8 0).cells (n * 1)).toList := by
    rw [Nat.mul_one]
    show _ = (madeCells #[Value.int .u8 0] n).toList
    rw [toList_madeCells_one]
    simp [vi]
  rw [this]
  exact h2

theorem mapped_dg {l : List Nat} (hd : Dg 10 l) : Dg 256 (l.map (48 + ·)).reverse := by
  intro d h
  rw [List.mem_reverse] at h
  obtain ⟨x, hx, rfl⟩ := List.mem_map.1 h
  have := hd x hx
  omega

set_option maxRecDepth 100000 in
set_option maxHeartbeats 2000000 in
theorem written_any (p : Option Addr) (cap : Nat) (l : List Nat) (w : World) (hrd : Rd .i64 w p l) (hl : 0 < l.length) (hd : Dg 10 l) (hlen : l.length ≤ 274877906944) :
    Calls Try.prog 36 #[.slice p l.length cap] w fun e w' => e = .returned (.string (decB (val 10 l))) ∧ Below w.heap.size w w' := by
  obtain ⟨b, o, rfl, hcell⟩ := hrd.at hl
  have hbl : b < w.heap.size := World.block_lt_of_cell? w ⟨b, o + 0, none⟩ (hcell 0 hl)
  go_enter Try.func36, Try.ntmps36
  go_wp2
  go_loop [3] (fun nv => ∃ (k : Nat), 1 ≤ k ∧ k ≤ l.length ∧ nv = .int .i64 k ∧ Hid (∀ j, k ≤ j → j < l.length → nAt l j = 0)) (fun nv => (intOf nv).toNat)
  case atStart => exact ⟨l.length, by omega, Nat.le_refl _, rfl, fun j h1 h2 => by omega⟩
  case round =>
    obtain ⟨k, hk1, hk, rfl, HZ⟩ := hrel
    by_cases hmore : 1 < k ∧ nAt l (k - 1) = 0
    · obtain ⟨h1, hx⟩ := hmore
      have c0 := hcell (k - 1) (by omega)
      rw [hx] at c0
      have hi : (k : Int) - 1 = ((k - 1 : Nat) : Int) := by omega
      have hlt : ((k - 1 : Nat) : Int) < l.length := by omega
      have h1' : (1 : Int) < k := by omega
      have HZ' : Hid (∀ j, k - 1 ≤ j → j < l.length → nAt l j = 0) := by
        intro j a1 a2
        by_cases e : j = k - 1
        · rw [e, hx]
        · exact HZ.out j (by omega) a2
      clear hcell hrd
      go_wp2
      go_round
      case rel => exact ⟨k - 1, by omega, by omega, rfl, HZ'⟩
      case measure => simp [intOf]; omega
    · have hn : k = 1 ∨ nAt l (k - 1) ≠ 0 := by
        by_cases e : nAt l (k - 1) = 0
        · left; by_cases e2 : 1 < k; exact absurd ⟨e2, e⟩ hmore; omega
        · exact .inr e
      have HW : Hid ((⟨(((l.take k).map (48 + ·)).reverse.map UInt8.ofNat).toArray⟩ : ByteArray) = decB (val 10 l)) := writ_text hk hk1 hd HZ.out hn
      obtain ⟨w1, MK, HO0, hB0⟩ := own_full w.heap.size w k (by omega) (Nat.le_refl _)
      have HO0 : Hid _ := HO0
      have HC : Hid (∀ j, j < l.length → w.cell? ⟨b, o + j, none⟩ = some (.int .i64 (nAt l j))) := hcell
      have c0 := hcell (k - 1) (by omega)
      have hi : (k : Int) - 1 = ((k - 1 : Nat) : Int) := by omega
      have hlt : ((k - 1 : Nat) : Int) < l.length := by omega
      have hkk : (¬ (1 : Int) < k) ∨ ((1 : Int) < k ∧ ((nAt l (k - 1) : Nat) : Int) ≠ 0) := by omega
      clear hcell hrd hmore hn HZ
      have KEY : ∀ (wr : World) (i : Nat), i < k → Hid (Own .u8 5 w.heap.size wr (.slice (some ⟨w.heap.size, 0, none⟩) k k) (List.replicate (k - i) 0 ++ ((l.take i).map (48 + ·)).reverse)) →
          wr.frozen? ⟨w.heap.size, k - 1 - i, none⟩ = false ∧ (∃ x, wr.cell? ⟨w.heap.size, k - 1 - i, none⟩ = some (.int .u8 x)) ∧
          Hid (Own .u8 5 w.heap.size (wr.setCell ⟨w.heap.size, k - 1 - i, none⟩ (.int .u8 (48 + (nAt l i : Int)))) (.slice (some ⟨w.heap.size, 0, none⟩) k k) (List.replicate (k - (i + 1)) 0 ++ ((l.take (i + 1)).map (48 + ·)).reverse)) ∧
          Below w.heap.size wr (wr.setCell ⟨w.heap.size, k - 1 - i, none⟩ (.int .u8 (48 + (nAt l i : Int)))) := by
        intro wr i hik HO
        have hO := HO.out
        rw [show k - i = (k - 1 - i) + 1 from by omega, List.replicate_succ', List.append_assoc] at hO
        have h2 := hO.put (d := 0) (rest := ((l.take i).map (48 + ·)).reverse) (out := List.replicate (k - 1 - i) 0) (k - 1 - i) (by simp) (48 + nAt l i)
        have e1 : (((48 + nAt l i : Nat)) : Int) = 48 + (nAt l i : Int) := by omega
        rw [e1] at h2
        refine ⟨hO.frozenAt _, ⟨_, hO.cellAt _ (by simp)⟩, ?_, h2.2⟩
        rw [take_snoc (by omega), show k - (i + 1) = k - 1 - i from by omega]
        have := h2.1
        simp only [List.map_append, List.reverse_append, List.append_assoc] at this ⊢
        exact this
      generalize nAt l (k - 1) = x at c0 hkk
      have tx : (¬ (1 : Int) < k) ∨ ((1 : Int) < k ∧ ((x : Int) == 0) = false) := by
        rcases hkk with h | ⟨h, h'⟩
        · exact .inl h
        · exact .inr ⟨h, beq_false_of_ne h'⟩
      clear hkk
      rcases tx with h1 | ⟨h1, tx⟩
      all_goals
        go_wp2
        go_loopw [5] (fun iv wr => ∃ (i : Nat), i ≤ k ∧ iv = .int .i64 i ∧ Hid (Own .u8 5 w.heap.size wr (.slice (some ⟨w.heap.size, 0, none⟩) k k) (List.replicate (k - i) 0 ++ ((l.take i).map (48 + ·)).reverse)) ∧ Below w.heap.size w wr) (fun iv _ => k - (intOf iv).toNat)
        case atStart => exact ⟨0, Nat.zero_le _, rfl, (by simp only [Nat.sub_zero, List.take_zero, List.map_nil, List.reverse_nil, List.append_nil]; exact HO0), hB0⟩
        case round =>
          obtain ⟨i, hik, rfl, HO, hBw⟩ := hrel
          by_cases hlt2 : i < k
          · obtain ⟨f0, ⟨y, y0⟩, HO2, hB2⟩ := KEY wr i hlt2 HO
            have c1 := (hBw.cell (p := ⟨b, o + i, none⟩) hbl).trans (HC.out i (by omega))
            have hdi := hd.at (show i < l.length by omega)
            generalize nAt l i = d at c1 hdi HO2 hB2
            have j1 : ((k : Int) - 1 - i) = ((k - 1 - i : Nat) : Int) := by omega
            have j1' : (((k - 1 : Nat) : Int) - i) = ((k - 1 - i : Nat) : Int) := by omega
            have j2 : ((k - 1 - i : Nat) : Int) < k := by omega
            have j3 : (i : Int) < l.length := by omega
            have j4 : (i : Int) < k := by omega
            generalize k - 1 - i = m at j1 j1' j2 f0 y0 HO2 hB2
            clear HO KEY
            go_wp2
            go_roundw
            case rel => exact ⟨i + 1, by omega, by go_num, HO2, hBw.trans hB2⟩
            case measure => simp [intOf]; omega
          · obtain rfl : i = k := by omega
            have hO := HO.out
            rw [Nat.sub_self, List.replicate_zero, List.nil_append] at hO
            have CV := own_string hO (mapped_dg (hd.take i))
            rw [HW.out] at CV
            clear hO HO KEY
            go_wp2
            go_ret
            exact ⟨rfl, hBw⟩

theorem nil_is {w : World} : (binOp .eql 63 (.slice none 0 0) (.slice none 0 0)).run Try.prog w = .ok (.bool true) w := run_eql_nil_slice w 63 3 none 0 0 0 0 Try.underlying63
theorem nil_not {w : World} (a : Addr) (n c : Nat) : (binOp .eql 63 (.slice (some a) n c) (.slice none 0 0)).run Try.prog w = .ok (.bool false) w := run_eql_nil_slice w 63 3 (some a) n c 0 0 Try.underlying63
/-- The digits that the document's number makes of a text. -/
def rnum (s : ByteArray) : List Nat := if okS s 10 then lsd s else [0]
theorem rnum_dg (s : ByteArray) : Dg 10 (rnum s) := by
  unfold rnum
  split
  · rename_i h; exact lsd_dg (base := 10) h
  · intro d h; simp at h; omega
theorem rnum_val (s : ByteArray) : val 10 (rnum s) = num s := by
  unfold rnum num
  split <;> rfl
theorem rnum_len (s : ByteArray) : 0 < (rnum s).length ∧ (rnum s).length ≤ 5000 := by
  unfold rnum
  split
  · rename_i h
    have h2 := (okS_iff.1 h).2
    rw [lsd_len]
    exact ⟨h2.1, h2.2.1⟩
  · simp

end Go.Proofs.Ytkhkgoimcbnpaaa
