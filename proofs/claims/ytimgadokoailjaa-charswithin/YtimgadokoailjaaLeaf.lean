/- The leaves: what within, oneOf and among answer, for every number and every short text. -/
import Derived.Test.YtimgadokoailjaaRows
import Derived.WalkKit
import Derived.WalkSpells
import Derived.WalkLawsBesides
import Derived.BigQuiet
set_option linter.unusedVariables false
set_option linter.unusedSimpArgs false
namespace Go.Proofs.Ytimgadokoailjaa
open Go.RowKit

theorem ret_int {k : IntKind} {a b : Int} (h : a = b) : Ending.returned (.int k a) = .returned (.int k b) := by rw [h]
theorem ret_bool {a b : Bool} (h : a = b) : Ending.returned (.bool a) = .returned (.bool b) := by rw [h]

def span (n a b : Int) : Bool := decide (a ≤ n) && decide (n ≤ b)

set_option maxHeartbeats 400000 in
theorem within_any (n a b : Int) (w : World) :
    Calls Try.prog 19 #[.int .i64 n, .int .i64 a, .int .i64 b] w fun e w' => e = .returned (.bool (span n a b)) ∧ w' = w := by
  go_enter Try.func19, Try.ntmps19
  go_wp2
  all_goals
    go_ret
    exact ⟨ret_bool (by unfold span; simp [*] <;> omega), rfl⟩

def has (s : ByteArray) (n : Int) : Bool := s.data.toList.any fun x => decide ((x.toNat : Int) = n)

theorem has_yes {s : ByteArray} {n : Int} (k : Nat) (h : k < s.size) (e : (s[k].toNat : Int) = n) : has s n = true := by
  unfold has
  rw [List.any_eq_true]
  exact ⟨s[k], by rw [show s[k] = s.data[k] from rfl]; exact Array.mem_toList_iff.2 (Array.getElem_mem _), decide_eq_true e⟩

theorem has_no {s : ByteArray} {n : Int} (h : ∀ j (hj : j < s.size), ¬ (s[j].toNat : Int) = n) : has s n = false := by
  unfold has
  rw [List.any_eq_false]
  intro x hx
  obtain ⟨j, hj, rfl⟩ := Array.mem_iff_getElem.1 (Array.mem_toList_iff.1 hx)
  have := h j hj
  rw [decide_eq_true_iff]
  exact this

theorem wrap_byte (x : UInt8) : wrap64 (x.toNat : Int) = x.toNat := by
  have := x.toNat_lt
  unfold wrap64
  omega

set_option maxRecDepth 100000 in
set_option maxHeartbeats 1000000 in
theorem oneOf_any (n : Int) (s : ByteArray) (w : World) (hs : s.size ≤ 100) :
    Calls Try.prog 20 #[.int .i64 n, .string s] w fun e w' => e = .returned (.bool (has s n)) ∧ w' = w := by
  go_enter Try.func20, Try.ntmps20
  go_wp2
  go_loop [8] (fun i => ∃ k : Nat, k ≤ s.size ∧ i = .int .i64 k ∧ ∀ j (h : j < s.size), j < k → ¬ (s[j].toNat : Int) = n) (fun i => s.size - (intOf i).toNat)
  case atStart => exact ⟨0, Nat.zero_le _, rfl, fun j _ hj => by omega⟩
  case round =>
    obtain ⟨k, hk, rfl, hno⟩ := hrel
    by_cases hlt : k < s.size
    · have hwb := wrap_byte s[k]
      go_wp2
      · go_ret
        rename_i he _
        exact ⟨ret_bool (has_yes k hlt (by exact (beq_iff_eq.1 he).symm)).symm, rfl⟩
      · go_round
        case rel =>
          rename_i he
          refine ⟨k + 1, by omega, by go_num, fun j h hj => ?_⟩
          by_cases e : j = k
          · subst e; exact Ne.symm (beq_eq_false_iff_ne.1 he)
          · exact hno j h (by omega)
        case measure => simp [intOf]; omega
    · obtain rfl : k = s.size := by omega
      go_wp2
      go_ret
      exact ⟨ret_bool (has_no fun j hj => hno j hj hj).symm, rfl⟩

set_option maxRecDepth 100000 in
set_option maxHeartbeats 1000000 in
theorem among_any (n : Int) (s : ByteArray) (w : World) (hs : s.size ≤ 100) :
    Calls Try.prog 21 #[.string s, .int .i64 n] w fun e w' => e = .returned (.bool (has s n)) ∧ w' = w := by
  go_enter Try.func21, Try.ntmps21
  go_wp2
  go_loop [5] (fun i => ∃ k : Nat, k ≤ s.size ∧ i = .int .i64 k ∧ ∀ j (h : j < s.size), j < k → ¬ (s[j].toNat : Int) = n) (fun i => s.size - (intOf i).toNat)
  case atStart => exact ⟨0, Nat.zero_le _, rfl, fun j _ hj => by omega⟩
  case round =>
    obtain ⟨k, hk, rfl, hno⟩ := hrel
    by_cases hlt : k < s.size
    · have hwb := wrap_byte s[k]
      go_wp2
      · go_ret
        rename_i he _
        exact ⟨ret_bool (has_yes k hlt (by exact beq_iff_eq.1 he)).symm, rfl⟩
      · go_round
        case rel =>
          rename_i he
          refine ⟨k + 1, by omega, by go_num, fun j h hj => ?_⟩
          by_cases e : j = k
          · subst e; exact beq_eq_false_iff_ne.1 he
          · exact hno j h (by omega)
        case measure => simp [intOf]; omega
    · obtain rfl : k = s.size := by omega
      go_wp2
      go_ret
      exact ⟨ret_bool (has_no fun j hj => hno j hj hj).symm, rfl⟩
end Go.Proofs.Ytimgadokoailjaa
