/- slices.BinarySearchFunc in a row of handles. -/
import Derived.Test.YtmeojnpehmhmoaaCmp
set_option linter.all false
set_option maxRecDepth 100000
namespace Go.Proofs.Ytmeojnpehmhmoaa
open Go.RowKit

set_option maxHeartbeats 800000 in
theorem seek_any (x y h : ByteArray) (w : World) :
    Calls Try.prog 32 #[.agg #[.string x, .string y], .string h] w fun e w' => e = .returned (.int .i64 (Lib.compareBytes x.data.toList h.data.toList)) ∧ Below w.heap.size w w' := by
  have H := fun W => cmp_any x h W
  generalize Lib.compareBytes x.data.toList h.data.toList = r at H ⊢
  have hB := (Below.refl w.heap.size w).alloc (Nat.le_refl _) (.cells #[.string x, .string y] 47)
  go_enter Try.func32, Try.ntmps32
  go_wp2_with (first | (go_at_call 18; refine (H _).mono ?_; rintro e w' ⟨rfl, rfl⟩))
  go_ret
  exact ⟨rfl, hB⟩

/-- A row of handles in memory. -/
def Mr (w : World) (b : Nat) (l : List Mn) : Prop := ∀ j, j < l.length → w.cell? ⟨b, j * 2, none⟩ = some (.string (mAt l j).1) ∧ w.cell? ⟨b, j * 2 + 1, none⟩ = some (.string (mAt l j).2)
theorem Mr.on {A B : World} {b : Nat} {l : List Mn} (h : Mr A b l) (hb : Below A.heap.size A B) : Mr B b l := fun j hj => by
  obtain ⟨h1, h2⟩ := h j hj
  have hlt := World.block_lt_of_cell? A _ h1
  exact ⟨(hb.cell (p := ⟨b, j * 2, none⟩) hlt).trans h1, (hb.cell (p := ⟨b, j * 2 + 1, none⟩) hlt).trans h2⟩

set_option maxHeartbeats 1600000 in
theorem search_any (b cap : Nat) (l : List Mn) (h : ByteArray) (w : World) (hl : l.length ≤ 1000) (hc : l.length ≤ cap) (hS : Srt l) (hM : Mr w b l) :
    Calls Try.prog 31 #[.slice (some ⟨b, 0, none⟩) l.length cap, .string h, .func (.func 32) #[] #[]] w fun e w' =>
      ∃ i : Nat, i ≤ l.length ∧ e = .returned (.tuple #[.int .i64 i, .bool (inRow l h).isSome]) ∧ ((inRow l h).isSome = true → i < l.length ∧ inRow l h = some (mAt l i).2) ∧ Below w.heap.size w w' := by
  go_enter Try.func31, Try.ntmps31
  go_wp2
  go_loopw [9, 10, 11] (fun ri rj rm wr => ∃ i j : Nat, i ≤ j ∧ j ≤ l.length ∧ ri = .int .i64 i ∧ rj = .int .i64 j ∧ Hid (∀ k, k < i → Lib.compareBytes (hB (mAt l k)) h.data.toList < 0) ∧ Hid (∀ k, j ≤ k → k < l.length → 0 ≤ Lib.compareBytes (hB (mAt l k)) h.data.toList) ∧ Below w.heap.size w wr) (fun ri rj _ _ => (RowKit.intOf rj - RowKit.intOf ri).toNat)
  case atStart => exact ⟨0, l.length, Nat.zero_le _, Nat.le_refl _, rfl, rfl, fun k hk => by omega, fun k h1 h2 => by omega, Below.refl _ _⟩
  case round =>
    obtain ⟨i, j, hij, hj, rfl, rfl, h1, h2, hBw⟩ := hrel
    by_cases hlt : i < j
    · have hm : (i + j) / 2 < l.length := by omega
      have hM2 := hM.on hBw
      obtain ⟨c1, c2⟩ := hM2 _ hm
      have SK := seek_any (mAt l ((i + j) / 2)).1 (mAt l ((i + j) / 2)).2 h wr
      have hlt' : (i : Int) < j := by omega
      clear hM2
      obtain ⟨m, hmm⟩ : ∃ m, (i + j) / 2 = m := ⟨_, rfl⟩
      rw [hmm] at c1 c2 SK
      have hmi : ((i : Int) + j) / 2 = (m : Nat) := by omega
      have hc0 := cb_bd (hB (mAt l m)) h.data.toList
      by_cases hv : Lib.compareBytes (hB (mAt l m)) h.data.toList < 0
      · have HN : Hid (∀ k, k < m + 1 → Lib.compareBytes (hB (mAt l k)) h.data.toList < 0) := fun k hk => by
          by_cases e : k = m
          · subst e; exact hv
          · exact cb_lt (by have := hS k m (by omega) (by omega); omega) hv
        have hv' : Lib.compareBytes (mAt l m).1.data.toList h.data.toList < 0 := hv
        generalize Lib.compareBytes (mAt l m).1.data.toList h.data.toList = r at SK hv'
        clear hv hc0 h1
        go_wp2_with (first | (go_at_call 32; refine SK.mono ?_; rintro e w' ⟨rfl, hb⟩))
        go_roundw
        case rel => exact ⟨m + 1, j, by omega, hj, by go_num, rfl, HN.out, h2, hBw.trans (hb.mono hBw.size)⟩
        case measure => simp [RowKit.intOf]; omega
      · have HN : Hid (∀ k, m ≤ k → k < l.length → 0 ≤ Lib.compareBytes (hB (mAt l k)) h.data.toList) := fun k hk hk2 => by
          by_cases e : k = m
          · subst e; omega
          · have a1 := hS m k (by omega) hk2
            apply Classical.byContradiction
            intro hc
            have := cb_lt (c := h.data.toList) (Int.le_of_lt a1) (by omega)
            omega
        have hv' : ¬ Lib.compareBytes (mAt l m).1.data.toList h.data.toList < 0 := hv
        generalize Lib.compareBytes (mAt l m).1.data.toList h.data.toList = r at SK hv'
        clear hv hc0 h2
        go_wp2_with (first | (go_at_call 32; refine SK.mono ?_; rintro e w' ⟨rfl, hb⟩))
        go_roundw
        case rel => exact ⟨i, m, by omega, by omega, rfl, rfl, h1, HN.out, hBw.trans (hb.mono hBw.size)⟩
        case measure => simp [RowKit.intOf]; omega
    · obtain rfl : i = j := by omega
      have HF : Hid (inRow l h = if i < l.length ∧ Lib.compareBytes (hB (mAt l i)) h.data.toList = 0 then some (mAt l i).2 else none) := found_at hS hj h1.out h2.out
      clear h1 h2
      by_cases hil : i < l.length
      · obtain ⟨c1, c2⟩ := (hM.on hBw) _ hil
        have SK := seek_any (mAt l i).1 (mAt l i).2 h wr
        by_cases hz : Lib.compareBytes (hB (mAt l i)) h.data.toList = 0
        · have hz' : Lib.compareBytes (mAt l i).1.data.toList h.data.toList = 0 := hz
          rw [hz'] at SK
          have HR : Hid (inRow l h = some (mAt l i).2) := by show _ = _; rw [HF.out, if_pos ⟨hil, hz⟩]
          clear HF hz hz'
          go_wp2_with (first | (go_at_call 32; refine SK.mono ?_; rintro e w' ⟨rfl, hb⟩))
          go_ret2
          refine ⟨i, hj, ?_, fun _ => ⟨hil, HR.out⟩, hBw.trans (hb.mono hBw.size)⟩
          rw [HR.out]
          rfl
        · have hz' : ¬ Lib.compareBytes (mAt l i).1.data.toList h.data.toList = 0 := hz
          have HR : Hid (inRow l h = none) := by show _ = _; rw [HF.out, if_neg (fun hc => hz hc.2)]
          generalize Lib.compareBytes (mAt l i).1.data.toList h.data.toList = r at SK hz'
          clear HF hz
          have hz2 : (r == 0) = false := by simpa using hz'
          go_wp2_with (first | (go_at_call 32; refine SK.mono ?_; rintro e w' ⟨rfl, hb⟩))
          go_ret2
          refine ⟨i, hj, ?_, fun hc => ?_, hBw.trans (hb.mono hBw.size)⟩
          · rw [HR.out]; rfl
          · rw [HR.out] at hc; cases hc
      · have HR : Hid (inRow l h = none) := by show _ = _; rw [HF.out, if_neg (fun hc => hil hc.1)]
        have hil' : ¬ (i : Int) < l.length := by omega
        clear HF
        go_wp2
        go_ret2
        refine ⟨i, hj, ?_, fun hc => ?_, hBw⟩
        · rw [HR.out]; rfl
        · rw [HR.out] at hc; cases hc
end Go.Proofs.Ytmeojnpehmhmoaa
