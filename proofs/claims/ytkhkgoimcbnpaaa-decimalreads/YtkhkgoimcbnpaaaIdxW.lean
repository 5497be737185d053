/- strings.IndexAny of e and E at short texts of whatever bytes: none, or a place where one stands. -/
import Derived.Test.YtkhkgoimcbnpaaaHigh
set_option linter.unusedVariables false
set_option linter.unusedSimpArgs false
namespace Go.Proofs.Ytkhkgoimcbnpaaa
open Go.RowKit

def stepW (W : World) (g : Nat) (s : ByteArray) (pos : Nat) : World := { W with heap := W.heap.setIfInBounds g (.stringIter s pos) }
theorem next_at (W : World) (g : Nat) (s : ByteArray) (pos : Nat) (ty : TypeId) (hg : W.heap[g]? = some (.stringIter s pos)) (h : pos < s.size) :
    (Instr.next (.pointer (some ⟨g, 0, none⟩)) true ty).run Try.prog W = .ok (.tuple #[.bool true, .int .i64 pos, .int .i32 (Utf8.decode s pos).1]) (stepW W g s (pos + (Utf8.decode s pos).2)) := by
  simp only [Instr.next, getObj, setObj, Sem.run_bind, Sem.run, hg, Result.andThen, h, if_true]
  simp [goInt, stepW]
theorem next_end (W : World) (g : Nat) (s : ByteArray) (pos : Nat) (ty : TypeId) (hg : W.heap[g]? = some (.stringIter s pos)) (h : ¬ pos < s.size) :
    (Instr.next (.pointer (some ⟨g, 0, none⟩)) true ty).run Try.prog W = .ok (.tuple #[.bool false]) W := by
  simp [Instr.next, getObj, Sem.run, hg, h]
theorem step_heap {W : World} {g : Nat} {s : ByteArray} {p q : Nat} (hg : W.heap[g]? = some (.stringIter s p)) : (stepW W g s q).heap[g]? = some (.stringIter s q) := by
  have hl : g < W.heap.size := (Array.getElem?_eq_some_iff.1 hg).1
  simp [stepW, hl]
theorem step_below {B g : Nat} {w W : World} {s : ByteArray} {q : Nat} (h : Below B w W) (hg : B ≤ g) : Below B w (stepW W g s q) :=
  h.trans ⟨rfl, rfl, rfl, by simp [stepW], fun k hk => by simp only [stepW]; rw [Array.getElem?_setIfInBounds_ne (by omega)]⟩
theorem rune_high (r : Int) (w : World) (h0 : 128 ≤ r) :
    Calls Try.prog 49 #[.string ⟨#[101, 69]⟩, .int .i32 r] w fun e w' => e = .returned (.int .i64 (-1)) ∧ Below w.heap.size w w' := by
  by_cases h1 : r = 65533
  · subst h1; exact rune_bad w
  · cases hv : Lib.validRune r
    · exact rune_invalid r w h0 h1 hv
    · exact rune_valid r w h0 h1 hv

set_option maxHeartbeats 400000 in
theorem use_no (n : Int) (w : World) (h : ¬ 8 < n) : Calls Try.prog 50 #[.int .i64 n] w fun e w' => e = .returned (.bool false) ∧ w' = w := by
  go_enter Try.func50, Try.ntmps50
  go_wp2
  go_ret
  exact ⟨ret_bool (by simp <;> omega), rfl⟩

set_option maxRecDepth 1000000 in
set_option maxHeartbeats 1000000 in
theorem idx_weak (s : ByteArray) (w : World) (h8 : s.size ≤ 8) :
    Calls Try.prog 38 #[.string s, .string ⟨#[101, 69]⟩] w fun e w' => ∃ K, QE s K ∧ e = .returned (.int .i64 K) ∧ Below w.heap.size w w' := by
  have U := fun w => use_no (s.size : Int) w (by omega)
  go_enter Try.func38, Try.ntmps38
  go_wp2_with fail
  refine (U _).mono ?_
  rintro e w1 ⟨rfl, rfl⟩
  go_wp2_with fail
  go_loopg [9, 10] s.size (fun g _ _ wx => ∃ i : Nat, s.size ≤ i + g ∧ Hid (wx.heap[w1.heap.size]? = some (.stringIter s i)) ∧ Below w1.heap.size w1 wx)
  case atStart => exact ⟨0, by omega, World.iter_heap w1 s 0, (Below.refl _ w1).alloc (Nat.le_refl _) _⟩
  case round =>
    obtain ⟨i, hig, HI, hBw⟩ := hrel
    by_cases hi : i < s.size
    · have hnx := fun ty => next_at wr w1.heap.size s i ty HI.out hi
      have HI2 : Hid ((stepW wr w1.heap.size s (i + (Utf8.decode s i).2)).heap[w1.heap.size]? = some (.stringIter s (i + (Utf8.decode s i).2))) := step_heap HI.out
      have hB2 : Below w1.heap.size w1 (stepW wr w1.heap.size s (i + (Utf8.decode s i).2)) := step_below hBw (Nat.le_refl _)
      by_cases hx : (s[i]).toNat < 128
      · have hd := decode_ascii s i hi hx
        rw [hd] at hnx HI2 hB2
        have IR := fun w => Try.strings_IndexRune_ascii ⟨#[101, 69]⟩ (s[i].toNat : Int) w (by omega) (by omega)
        have hback : ((s[i].toNat : Int)).toNat.toUInt8 = s[i] := by simp
        rw [hback] at IR
        have HE : Hid (isE s[i] = decide (0 ≤ Lib.indexByte [101, 69] s[i])) := Lib.contains_iff_indexByte [101, 69] s[i]
        have HS : Hid (∃ h : i < s.size, s[i] = s[i]) := ⟨hi, rfl⟩
        generalize stepW wr w1.heap.size s (i + 1) = W2 at hnx HI2 hB2
        cases gk with
        | zero => omega
        | succ g =>
          by_cases hk : 0 ≤ Lib.indexByte [101, 69] s[i]
          · have HQ : Hid (QE s (i : Int)) := .inr ⟨i, rfl, hi, by rw [HE.out]; exact decide_eq_true hk⟩
            have IR' : ∀ w, Calls Try.prog 49 #[.string ⟨#[101, 69]⟩, .int .i32 (s[i].toNat : Int)] w fun e w' => e = .returned (.int .i64 (Lib.indexByte [101, 69] s[i])) ∧ w' = w := IR
            generalize Lib.indexByte [101, 69] s[i] = z at IR' hk
            clear IR HE hback hd
            go_wp2_with fail
            refine (IR' _).mono ?_
            rintro e w3 ⟨rfl, rfl⟩
            go_wp2
            go_ret
            exact ⟨i, HQ.out, rfl, hB2⟩
          · have IR' : ∀ w, Calls Try.prog 49 #[.string ⟨#[101, 69]⟩, .int .i32 (s[i].toNat : Int)] w fun e w' => e = .returned (.int .i64 (Lib.indexByte [101, 69] s[i])) ∧ w' = w := IR
            generalize Lib.indexByte [101, 69] s[i] = z at IR' hk
            clear IR HE hback hd
            go_wp2_with fail
            refine (IR' _).mono ?_
            rintro e w3 ⟨rfl, rfl⟩
            go_wp2
            go_roundg g
            case measure => omega
            case rel => exact ⟨i + 1, by omega, HI2, hB2⟩
      · have hdh := decode_high s i hi (by omega)
        have IR := fun w => rune_high ((Utf8.decode s i).1 : Int) w (by omega)
        have hge : 1 ≤ (Utf8.decode s i).2 := hdh.2
        generalize stepW wr w1.heap.size s (i + (Utf8.decode s i).2) = W2 at hnx HI2 hB2
        generalize ((Utf8.decode s i).1 : Int) = r at hnx IR
        generalize (Utf8.decode s i).2 = n at HI2 hge
        clear hdh
        cases gk with
        | zero => omega
        | succ g =>
          have hlt : w1.heap.size < W2.heap.size := (Array.getElem?_eq_some_iff.1 HI2.out).1
          go_wp2_with fail
          refine (IR _).mono ?_
          rintro e w3 ⟨rfl, hB3⟩
          have HI3 : Hid (w3.heap[w1.heap.size]? = some (.stringIter s (i + n))) := by
            show _ = _
            rw [hB3.block _ hlt]
            exact HI2.out
          have hB4 : Below w1.heap.size w1 w3 := hB2.trans (hB3.mono (by omega))
          clear hB3 hnx IR
          go_wp2
          go_roundg g
          case measure => omega
          case rel => exact ⟨i + n, by omega, HI3, hB4⟩
    · have hnx := fun ty => next_end wr w1.heap.size s i ty HI.out hi
      go_wp2
      go_ret
      exact ⟨-1, .inl rfl, rfl, hBw⟩
end Go.Proofs.Ytkhkgoimcbnpaaa
