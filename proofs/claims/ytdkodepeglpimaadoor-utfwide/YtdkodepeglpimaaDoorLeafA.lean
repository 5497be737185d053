/- The leaves of package utf: what isHalf and the two units answer, for every slice of bytes that holds as many as they read. -/
import Derived.Test.YtdkodepeglpimaaDoorRows
import Derived.Test.YtdkodepeglpimaaDoorPlain
import Derived.WalkKit
import Derived.WalkSpells
import Derived.WalkLawsBesides
import Derived.BigQuiet
import Derived.Laws.BytesArg
set_option linter.unusedVariables false
set_option linter.unusedSimpArgs false
namespace Go.Proofs.YtdkodepeglpimaaDoor
open Go.RowKit

theorem ret_int {k : IntKind} {a b : Int} (h : a = b) : Ending.returned (.int k a) = .returned (.int k b) := by rw [h]
theorem ret_bool {a b : Bool} (h : a = b) : Ending.returned (.bool a) = .returned (.bool b) := by rw [h]

def half (p : Int) : Bool := decide (55296 ≤ p) && decide (p ≤ 57343)

set_option maxHeartbeats 400000 in
theorem isHalf_any (p : Int) (w : World) :
    Calls Tryd.prog 32 #[.int .i64 p] w fun e w' => e = .returned (.bool (half p)) ∧ w' = w := by
  go_enter Tryd.func32, Tryd.ntmps32
  go_wp2
  · go_ret
    exact ⟨ret_bool (by unfold half; simp [*]), rfl⟩
  · go_ret
    exact ⟨ret_bool (by unfold half; simp; omega), rfl⟩

set_option maxHeartbeats 400000 in
theorem unit16_great (b off n cap x0 x1 : Nat) (w : World) (hn : 2 ≤ n)
    (h0 : w.cell? ⟨b, off, none⟩ = some (.int .u8 x0)) (h1 : w.cell? ⟨b, off + 1, none⟩ = some (.int .u8 x1)) (l0 : x0 < 256) (l1 : x1 < 256) :
    Calls Tryd.prog 37 #[.slice (some ⟨b, off, none⟩) n cap, .bool true] w fun e w' => e = .returned (.int .i64 (x0 * 256 + x1)) ∧ ∃ k, w' = w.drewN k := by
  go_enter Tryd.func37, Tryd.ntmps37
  go_wp2
  go_quiet (fail)
  go_wp2
  go_ret
  exact ⟨ret_int (or16 x0 x1 l0 l1), _, rfl⟩

set_option maxHeartbeats 400000 in
theorem unit16_small (b off n cap x0 x1 : Nat) (w : World) (hn : 2 ≤ n)
    (h0 : w.cell? ⟨b, off, none⟩ = some (.int .u8 x0)) (h1 : w.cell? ⟨b, off + 1, none⟩ = some (.int .u8 x1)) (l0 : x0 < 256) (l1 : x1 < 256) :
    Calls Tryd.prog 37 #[.slice (some ⟨b, off, none⟩) n cap, .bool false] w fun e w' => e = .returned (.int .i64 (x1 * 256 + x0)) ∧ ∃ k, w' = w.drewN k := by
  go_enter Tryd.func37, Tryd.ntmps37
  go_wp2
  go_quiet (fail)
  go_wp2
  go_ret
  exact ⟨ret_int (or16 x1 x0 l1 l0), _, rfl⟩

set_option maxHeartbeats 400000 in
theorem unit32_great (b off n cap x0 x1 x2 x3 : Nat) (w : World) (hn : 4 ≤ n)
    (h0 : w.cell? ⟨b, off, none⟩ = some (.int .u8 x0)) (h1 : w.cell? ⟨b, off + 1, none⟩ = some (.int .u8 x1)) (h2 : w.cell? ⟨b, off + 2, none⟩ = some (.int .u8 x2)) (h3 : w.cell? ⟨b, off + 3, none⟩ = some (.int .u8 x3)) (l0 : x0 < 256) (l1 : x1 < 256) (l2 : x2 < 256) (l3 : x3 < 256) :
    Calls Tryd.prog 38 #[.slice (some ⟨b, off, none⟩) n cap, .bool true] w fun e w' => e = .returned (.int .u32 (x0 * 16777216 + x1 * 65536 + x2 * 256 + x3)) ∧ ∃ k, w' = w.drewN k := by
  go_enter Tryd.func38, Tryd.ntmps38
  go_wp2
  go_quiet (fail)
  go_wp2
  go_ret
  exact ⟨ret_int (or32 x0 x1 x2 x3 l0 l1 l2 l3), _, rfl⟩

set_option maxHeartbeats 400000 in
theorem unit32_small (b off n cap x0 x1 x2 x3 : Nat) (w : World) (hn : 4 ≤ n)
    (h0 : w.cell? ⟨b, off, none⟩ = some (.int .u8 x0)) (h1 : w.cell? ⟨b, off + 1, none⟩ = some (.int .u8 x1)) (h2 : w.cell? ⟨b, off + 2, none⟩ = some (.int .u8 x2)) (h3 : w.cell? ⟨b, off + 3, none⟩ = some (.int .u8 x3)) (l0 : x0 < 256) (l1 : x1 < 256) (l2 : x2 < 256) (l3 : x3 < 256) :
    Calls Tryd.prog 38 #[.slice (some ⟨b, off, none⟩) n cap, .bool false] w fun e w' => e = .returned (.int .u32 (x3 * 16777216 + x2 * 65536 + x1 * 256 + x0)) ∧ ∃ k, w' = w.drewN k := by
  go_enter Tryd.func38, Tryd.ntmps38
  go_wp2
  go_quiet (fail)
  go_wp2
  go_ret
  exact ⟨ret_int (or32 x3 x2 x1 x0 l3 l2 l1 l0), _, rfl⟩

/-- The slice at p holds the bytes l; of an empty one nothing is asked. -/
def Bs (w : World) (p : Option Addr) (l : List UInt8) : Prop :=
  l = [] ∨ ∃ b o, p = some ⟨b, o, none⟩ ∧ ∀ j (h : j < l.length), w.cell? ⟨b, o + j, none⟩ = some (.int .u8 (l[j].toNat : Int))

def beginsB (l : List UInt8) (m : ByteArray) : Bool := decide (m.size ≤ l.length) && decide (l.take m.size = m.toList)

theorem conv_of (w : World) (p : Option Addr) (l : List UInt8) (cap : Nat) (h : Bs w p l) :
    (convert 22 9 (.slice p l.length cap)).run Tryd.prog w = .ok (.string ⟨l.toArray⟩) w := by
  rcases h with rfl | ⟨b, o, rfl, hc⟩
  · rw [run_convert_bytes_string w 22 9 5 _ _ cap Tryd.underlying22 Tryd.underlying5 Tryd.underlying9]
    cases p <;> simp [Conv.bytesToString, loadCells]
    all_goals rfl
  · rw [run_convert_bytes_arg (P := Tryd.prog) w 22 5 Tryd.underlying22 Tryd.underlying5 b o l.length cap (l.map fun x => (x.toNat : Int)) (by simp) (fun i hi => by rw [hc i hi]; simp [List.getD, hi]) 9 Tryd.underlying9]
    congr 2
    apply ByteArray.ext
    apply Array.toList_inj.1
    rw [strOfNums_data, List.map_map]
    simp [Function.comp_def]

theorem Bs.take {w : World} {p : Option Addr} {l : List UInt8} (h : Bs w p l) (k : Nat) : Bs w p (l.take k) := by
  rcases h with rfl | ⟨b, o, rfl, hc⟩
  · exact .inl (by simp)
  · refine .inr ⟨b, o, rfl, fun j hj => ?_⟩
    rw [hc j (by simp at hj; omega)]
    simp

set_option maxHeartbeats 400000 in
theorem begins_any (p : Option Addr) (l : List UInt8) (cap : Nat) (m : ByteArray) (w : World) (hl : l.length ≤ cap) (hc : cap ≤ maxLen) (h : Bs w p l) :
    Calls Tryd.prog 31 #[.slice p l.length cap, .string m] w fun e w' => e = .returned (.bool (beginsB l m)) ∧ w' = w := by
  unfold maxLen at hc
  by_cases hm : m.size ≤ l.length
  · have hv := conv_of w p (l.take m.size) cap (h.take _)
    rw [List.length_take, Nat.min_eq_left hm] at hv
    clear h
    go_enter Tryd.func31, Tryd.ntmps31
    go_wp2
    go_ret
    exact ⟨ret_bool (by unfold beginsB; rw [decide_eq_true hm, Bool.true_and, Bool.eq_iff_iff]; simp), rfl⟩
  · clear h
    go_enter Tryd.func31, Tryd.ntmps31
    go_wp2
    go_ret
    exact ⟨ret_bool (by unfold beginsB; simp [hm]), rfl⟩

/-- The form and the length of the mark ahead, as the code looks for it. -/
def markedP (l : List UInt8) : Int × Int :=
  if beginsB l ⟨#[0, 0, 254, 255]⟩ then (4, 4) else if beginsB l ⟨#[255, 254, 0, 0]⟩ then (5, 4)
  else if beginsB l ⟨#[254, 255]⟩ then (2, 2) else if beginsB l ⟨#[255, 254]⟩ then (3, 2)
  else if beginsB l ⟨#[239, 187, 191]⟩ then (1, 3) else (0, 0)

set_option maxHeartbeats 400000 in
theorem marked_any (p : Option Addr) (l : List UInt8) (cap : Nat) (w : World) (hl : l.length ≤ cap) (hc : cap ≤ maxLen) (h : Bs w p l) :
    Calls Tryd.prog 22 #[.slice p l.length cap] w fun e w' => e = .returned (.tuple #[.int .i64 (markedP l).1, .int .i64 (markedP l).2]) ∧ w' = w := by
  obtain ⟨d, hd⟩ : ∃ d, markedP l = d := ⟨_, rfl⟩
  rw [hd]
  unfold markedP at hd
  have Hd : Hid (_ = d) := hd
  clear hd
  go_enter Tryd.func22, Tryd.ntmps22
  go_wp2_with (go_at_call 31; refine (begins_any _ _ _ _ _ hl hc h).mono ?_; rintro e w' ⟨rfl, rfl⟩)
  all_goals
    have hd := Hd.out
    simp only [*, if_true, if_false, Bool.false_eq_true] at hd
    subst hd
    go_ret2
    exact ⟨rfl, rfl⟩

def byteAt (l : List UInt8) (j : Nat) : Int := ((l[j]?.getD 0).toNat : Int)

/-- The form of bytes without a mark, as the code guesses it. -/
def guessedP (l : List UInt8) : Int :=
  if 4 ≤ l.length ∧ byteAt l 1 = 0 ∧ byteAt l 2 = 0 ∧ byteAt l 0 = 0 ∧ byteAt l 3 ≠ 0 then 4
  else if 4 ≤ l.length ∧ byteAt l 1 = 0 ∧ byteAt l 2 = 0 ∧ byteAt l 0 ≠ 0 ∧ byteAt l 3 = 0 then 5
  else if 2 ≤ l.length ∧ byteAt l 0 = 0 ∧ byteAt l 1 ≠ 0 then 2
  else if 2 ≤ l.length ∧ byteAt l 0 ≠ 0 ∧ byteAt l 1 = 0 then 3
  else 1

theorem Bs.at {w : World} {p : Option Addr} {l : List UInt8} (h : Bs w p l) (hl : 0 < l.length) : ∃ b o, p = some ⟨b, o, none⟩ ∧ ∀ j, j < l.length → w.cell? ⟨b, o + j, none⟩ = some (.int .u8 (byteAt l j)) := by
  rcases h with rfl | ⟨b, o, rfl, hc⟩
  · simp at hl
  · exact ⟨b, o, rfl, fun j hj => by rw [hc j hj]; unfold byteAt; simp [hj]⟩

def guess4 (x0 x1 x2 x3 : Int) : Int :=
  if x1 = 0 ∧ x2 = 0 ∧ x0 = 0 ∧ x3 ≠ 0 then 4 else if x1 = 0 ∧ x2 = 0 ∧ x0 ≠ 0 ∧ x3 = 0 then 5 else if x0 = 0 ∧ x1 ≠ 0 then 2 else if x0 ≠ 0 ∧ x1 = 0 then 3 else 1
def guess2 (x0 x1 : Int) : Int := if x0 = 0 ∧ x1 ≠ 0 then 2 else if x0 ≠ 0 ∧ x1 = 0 then 3 else 1

set_option maxHeartbeats 400000 in
theorem guessed_long (b o : Nat) (n : Nat) (x0 x1 x2 x3 : Int) (cap : Nat) (w : World) (hn : 4 ≤ n)
    (h0 : w.cell? ⟨b, o, none⟩ = some (.int .u8 x0)) (h1 : w.cell? ⟨b, o + 1, none⟩ = some (.int .u8 x1)) (h2 : w.cell? ⟨b, o + 2, none⟩ = some (.int .u8 x2)) (h3 : w.cell? ⟨b, o + 3, none⟩ = some (.int .u8 x3)) :
    Calls Tryd.prog 23 #[.slice (some ⟨b, o, none⟩) n cap] w fun e w' => e = .returned (.int .i64 (guess4 x0 x1 x2 x3)) ∧ w' = w := by
  go_enter Tryd.func23, Tryd.ntmps23
  go_wp2
  all_goals
    go_ret
    refine ⟨ret_int ?_, rfl⟩
    unfold guess4
    simp_all

set_option maxHeartbeats 400000 in
theorem guessed_mid (b o : Nat) (n : Nat) (x0 x1 : Int) (cap : Nat) (w : World) (hn : 2 ≤ n) (hn4 : n < 4)
    (h0 : w.cell? ⟨b, o, none⟩ = some (.int .u8 x0)) (h1 : w.cell? ⟨b, o + 1, none⟩ = some (.int .u8 x1)) :
    Calls Tryd.prog 23 #[.slice (some ⟨b, o, none⟩) n cap] w fun e w' => e = .returned (.int .i64 (guess2 x0 x1)) ∧ w' = w := by
  go_enter Tryd.func23, Tryd.ntmps23
  go_wp2
  all_goals
    go_ret
    refine ⟨ret_int ?_, rfl⟩
    unfold guess2
    simp_all

set_option maxHeartbeats 400000 in
theorem guessed_short (p : Option Addr) (n cap : Nat) (w : World) (hn : n < 2) :
    Calls Tryd.prog 23 #[.slice p n cap] w fun e w' => e = .returned (.int .i64 1) ∧ w' = w := by
  go_enter Tryd.func23, Tryd.ntmps23
  go_wp2
  go_ret
  exact ⟨rfl, rfl⟩

theorem guessed_any (p : Option Addr) (l : List UInt8) (cap : Nat) (w : World) (h : Bs w p l) :
    Calls Tryd.prog 23 #[.slice p l.length cap] w fun e w' => e = .returned (.int .i64 (guessedP l)) ∧ w' = w := by
  by_cases h2 : 2 ≤ l.length
  · obtain ⟨b, o, rfl, hc⟩ := h.at (by omega)
    by_cases h4 : 4 ≤ l.length
    · refine (guessed_long b o l.length _ _ _ _ cap w h4 (hc 0 (by omega)) (hc 1 (by omega)) (hc 2 (by omega)) (hc 3 (by omega))).mono ?_
      rintro e w' ⟨rfl, rfl⟩
      exact ⟨ret_int (by unfold guess4 guessedP; simp [h2, h4]), rfl⟩
    · refine (guessed_mid b o l.length _ _ cap w h2 (by omega) (hc 0 (by omega)) (hc 1 (by omega))).mono ?_
      rintro e w' ⟨rfl, rfl⟩
      exact ⟨ret_int (by unfold guess2 guessedP; simp [h2, h4]), rfl⟩
  · refine (guessed_short p l.length cap w (by omega)).mono ?_
    rintro e w' ⟨rfl, rfl⟩
    exact ⟨ret_int (by unfold guessedP; simp [h2, show ¬ 4 ≤ l.length by omega]), rfl⟩

/-- How bytes are written, and how long the mark at their beginning is. -/
def formP (l : List UInt8) : Int × Int := if (0 : Int) < (markedP l).2 then markedP l else (guessedP l, 0)

set_option maxHeartbeats 400000 in
theorem form_any (p : Option Addr) (l : List UInt8) (cap : Nat) (w : World) (hl : l.length ≤ cap) (hc : cap ≤ maxLen) (h : Bs w p l) :
    Calls Tryd.prog 11 #[.slice p l.length cap] w fun e w' => e = .returned (.tuple #[.int .i64 (formP l).1, .int .i64 (formP l).2]) ∧ w' = w := by
  by_cases hm : (0 : Int) < (markedP l).2
  · have hf : formP l = markedP l := by unfold formP; rw [if_pos hm]
    rw [hf]
    clear hf
    go_enter Tryd.func11, Tryd.ntmps11
    go_wp2_with (go_at_call 22; refine (marked_any _ _ _ _ hl hc h).mono ?_; rintro e w' ⟨rfl, rfl⟩)
    go_ret2
    exact ⟨rfl, rfl⟩
  · have hf : formP l = (guessedP l, 0) := by unfold formP; rw [if_neg hm]
    rw [hf]
    clear hf
    go_enter Tryd.func11, Tryd.ntmps11
    go_wp2_with (first | (go_at_call 22; refine (marked_any _ _ _ _ hl hc h).mono ?_; rintro e w' ⟨rfl, rfl⟩) | (go_at_call 23; refine (guessed_any _ _ _ _ h).mono ?_; rintro e w' ⟨rfl, rfl⟩))
    go_ret2
    exact ⟨rfl, rfl⟩

end Go.Proofs.YtdkodepeglpimaaDoor
