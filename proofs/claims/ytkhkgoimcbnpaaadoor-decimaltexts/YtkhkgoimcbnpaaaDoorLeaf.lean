/- The leaves: within, both Hex, isBase, and lists without the noughts that stand last. -/
import Derived.Test.YtkhkgoimcbnpaaaDoorMem
set_option linter.unusedVariables false
set_option linter.unusedSimpArgs false
namespace Go.Proofs.YtkhkgoimcbnpaaaDoor
open Go.RowKit

def span (n a b : Int) : Bool := decide (a ≤ n) && decide (n ≤ b)
theorem span_iff {n a b : Int} : span n a b = true ↔ a ≤ n ∧ n ≤ b := by unfold span; simp
theorem span_not {n a b : Int} : span n a b = false ↔ ¬ (a ≤ n ∧ n ≤ b) := by rw [← span_iff]; simp

set_option maxHeartbeats 400000 in
theorem within_any (n a b : Int) (w : World) :
    Calls Tryd.prog 54 #[.int .i64 n, .int .i64 a, .int .i64 b] w fun e w' => e = .returned (.bool (span n a b)) ∧ w' = w := by
  go_enter Tryd.func54, Tryd.ntmps54
  go_wp2
  all_goals
    go_ret
    exact ⟨ret_bool (by unfold span; simp [*] <;> omega), rfl⟩

/-- The number that a sign is as a digit; -1: it is none. -/
def hexP (c : Int) : Int := if 48 ≤ c ∧ c ≤ 57 then c - 48 else if 97 ≤ c ∧ c ≤ 102 then c - 97 + 10 else if 65 ≤ c ∧ c ≤ 70 then c - 65 + 10 else -1

set_option maxRecDepth 100000 in
set_option maxHeartbeats 1000000 in
theorem hex_any (c : Int) (w : World) (h0 : 0 ≤ c) (h1 : c ≤ 255) :
    Calls Tryd.prog 40 #[.int .i64 c] w fun e w' => e = .returned (.int .i64 (hexP c)) ∧ w' = w := by
  go_enter Tryd.func40, Tryd.ntmps40
  go_wp2_with (first | (go_at_call 54; refine (within_any _ _ _ _).mono ?_; rintro e w' ⟨rfl, rfl⟩))
  all_goals
    go_ret
    refine ⟨ret_int ?_, rfl⟩
    unfold hexP
    simp only [span_iff, span_not, Bool.not_eq_true] at *
    repeat' split
    all_goals omega

/-- A base that there is. -/
def baseP (b : Int) : Bool := decide (b = 8 ∨ b = 10 ∨ b = 16)

set_option maxHeartbeats 400000 in
theorem isBase_any (b : Int) (w : World) : Calls Tryd.prog 39 #[.int .i64 b] w fun e w' => e = .returned (.bool (baseP b)) ∧ w' = w := by
  go_enter Tryd.func39, Tryd.ntmps39
  go_wp2
  all_goals
    go_ret
    refine ⟨ret_bool ?_, rfl⟩
    unfold baseP
    rw [Bool.eq_iff_iff]
    simp only [beq_iff_eq, beq_eq_false_iff_ne, bne_iff_ne, decide_eq_true_eq, Bool.or_eq_true, Bool.and_eq_true, Bool.not_eq_true', Bool.not_eq_eq_eq_not, Bool.not_true, Bool.not_false, Bool.false_eq_true, decide_eq_false_iff_not, ne_eq, iff_false, false_iff, true_iff, iff_true] at *
    try omega

theorem slice_to8 (p : Option Addr) (len cap s : Nat) (hs : s ≤ cap) (w2 : World) :
    (Instr.slice 46 (.slice p len cap) none (some (.int .i64 s)) none).run Tryd.prog w2 = .ok (.slice p s cap) w2 := by
  have h0 : (s : Int) ≤ cap := by omega
  have u := Tryd.underlying46
  have z := Tryd.sizeOf5
  cases p with
  | none => simp [go_sem, h0]
  | some a => obtain ⟨b, o, sp⟩ := a; simp [go_sem, h0, Addr.add]
theorem slice_to32 (p : Option Addr) (len cap s : Nat) (hs : s ≤ cap) (w2 : World) :
    (Instr.slice 51 (.slice p len cap) none (some (.int .i64 s)) none).run Tryd.prog w2 = .ok (.slice p s cap) w2 := by
  have h0 : (s : Int) ≤ cap := by omega
  have u := Tryd.underlying51
  have z := Tryd.sizeOf72
  cases p with
  | none => simp [go_sem, h0]
  | some a => obtain ⟨b, o, sp⟩ := a; simp [go_sem, h0, Addr.add]

def slen : Value → Nat
  | .slice _ n _ => n
  | _ => 0

set_option maxRecDepth 100000 in
set_option maxHeartbeats 1000000 in
theorem trim8_any (p : Option Addr) (l : List Nat) (cap : Nat) (w : World) (hc : l.length ≤ cap) (hm : (cap : Int) ≤ 9223372036854775807) (h : Rd .u8 w p l) :
    Calls Tryd.prog 41 #[.slice p l.length cap] w fun e w' => e = .returned (.slice p (trimLen l) cap) ∧ w' = w := by
  obtain ⟨r, hR⟩ : ∃ r, trimLen l = r := ⟨_, rfl⟩
  rw [hR]
  have HR : Hid (trimLen l = r) := hR
  clear hR
  go_enter Tryd.func41, Tryd.ntmps41
  go_wp2
  go_loop [0] (fun v => ∃ (k : Nat), k ≤ l.length ∧ v = .slice p k cap ∧ Hid (∀ j, k ≤ j → j < l.length → nAt l j = 0)) (fun v => slen v)
  case atStart => exact ⟨l.length, Nat.le_refl _, rfl, fun j h1 h2 => by omega⟩
  case round =>
    obtain ⟨k, hk, rfl, HZ⟩ := hrel
    by_cases h0 : 0 < k
    · obtain ⟨b, o, rfl, hb⟩ := h.at (by omega)
      have c0 := hb (k - 1) (by omega)
      have hi : (k : Int) - 1 = ((k - 1 : Nat) : Int) := by omega
      have hlt : ((k - 1 : Nat) : Int) < k := by omega
      have h0' : (0 : Int) < k := by omega
      have S := slice_to8 (some ⟨b, o, none⟩) k cap (k - 1) (by omega)
      clear hb h
      by_cases hx : nAt l (k - 1) = 0
      · have HZ' : Hid (∀ j, k - 1 ≤ j → j < l.length → nAt l j = 0) := by
          intro j h1 h2
          by_cases e : j = k - 1
          · rw [e, hx]
          · exact HZ.out j (by omega) h2
        rw [hx] at c0
        go_wp2
        go_round
        case rel => exact ⟨k - 1, by omega, rfl, HZ'⟩
        case measure => simp [slen]; omega
      · have hr : r = k := HR.out.symm.trans (trimLen_eq l k hk HZ.out (.inr hx))
        generalize nAt l (k - 1) = x at c0 hx
        have t : ((x : Int) == 0) = false := by simp; omega
        subst hr
        go_wp2
        go_ret
        exact ⟨rfl, rfl⟩
    · obtain rfl : k = 0 := by omega
      have hr : r = 0 := HR.out.symm.trans (trimLen_eq l 0 hk HZ.out (.inl rfl))
      subst hr
      clear h
      go_wp2
      go_ret
      exact ⟨rfl, rfl⟩

set_option maxRecDepth 100000 in
set_option maxHeartbeats 1000000 in
theorem trim32_any (p : Option Addr) (l : List Nat) (cap : Nat) (w : World) (hc : l.length ≤ cap) (hm : (cap : Int) ≤ 9223372036854775807) (h : Rd .u32 w p l) :
    Calls Tryd.prog 57 #[.slice p l.length cap] w fun e w' => e = .returned (.slice p (trimLen l) cap) ∧ w' = w := by
  obtain ⟨r, hR⟩ : ∃ r, trimLen l = r := ⟨_, rfl⟩
  rw [hR]
  have HR : Hid (trimLen l = r) := hR
  clear hR
  go_enter Tryd.func57, Tryd.ntmps57
  go_wp2
  go_loop [0] (fun v => ∃ (k : Nat), k ≤ l.length ∧ v = .slice p k cap ∧ Hid (∀ j, k ≤ j → j < l.length → nAt l j = 0)) (fun v => slen v)
  case atStart => exact ⟨l.length, Nat.le_refl _, rfl, fun j h1 h2 => by omega⟩
  case round =>
    obtain ⟨k, hk, rfl, HZ⟩ := hrel
    by_cases h0 : 0 < k
    · obtain ⟨b, o, rfl, hb⟩ := h.at (by omega)
      have c0 := hb (k - 1) (by omega)
      have hi : (k : Int) - 1 = ((k - 1 : Nat) : Int) := by omega
      have hlt : ((k - 1 : Nat) : Int) < k := by omega
      have h0' : (0 : Int) < k := by omega
      have S := slice_to32 (some ⟨b, o, none⟩) k cap (k - 1) (by omega)
      clear hb h
      by_cases hx : nAt l (k - 1) = 0
      · have HZ' : Hid (∀ j, k - 1 ≤ j → j < l.length → nAt l j = 0) := by
          intro j h1 h2
          by_cases e : j = k - 1
          · rw [e, hx]
          · exact HZ.out j (by omega) h2
        rw [hx] at c0
        go_wp2
        go_round
        case rel => exact ⟨k - 1, by omega, rfl, HZ'⟩
        case measure => simp [slen]; omega
      · have hr : r = k := HR.out.symm.trans (trimLen_eq l k hk HZ.out (.inr hx))
        generalize nAt l (k - 1) = x at c0 hx
        have t : ((x : Int) == 0) = false := by simp; omega
        subst hr
        go_wp2
        go_ret
        exact ⟨rfl, rfl⟩
    · obtain rfl : k = 0 := by omega
      have hr : r = 0 := HR.out.symm.trans (trimLen_eq l 0 hk HZ.out (.inl rfl))
      subst hr
      clear h
      go_wp2
      go_ret
      exact ⟨rfl, rfl⟩
end Go.Proofs.YtkhkgoimcbnpaaaDoor
