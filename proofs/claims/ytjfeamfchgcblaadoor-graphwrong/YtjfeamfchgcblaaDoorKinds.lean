/- What the small functions of package chars answer, and the document's own ones, for every number. -/
import Derived.Test.YtjfeamfchgcblaaDoorLeaf
set_option linter.unusedVariables false
set_option linter.unusedSimpArgs false
namespace Go.Proofs.YtjfeamfchgcblaaDoor
open Go.RowKit


def span (n a b : Int) : Bool := decide (a ≤ n) && decide (n ≤ b)

set_option maxHeartbeats 400000 in
theorem within_any (n a b : Int) (w : World) :
    Calls Tryd.prog 55 #[.int .i64 n, .int .i64 a, .int .i64 b] w fun e w' => e = .returned (.bool (span n a b)) ∧ w' = w := by
  go_enter Tryd.func55, Tryd.ntmps55
  go_wp2
  all_goals
    go_ret
    exact ⟨ret_bool (by unfold span; simp [*] <;> omega), rfl⟩

def has (s : ByteArray) (n : Int) : Bool := s.data.toList.any fun x => decide ((x.toNat : Int) = n)

theorem has_yes {s : ByteArray} {n : Int} (k : Nat) (h : k < s.size) (e : (s[k].toNat : Int) = n) : has s n = true := by
  unfold has
  rw [List.any_eq_true]
  exact ⟨s[k], by rw [show s[k] = s.data[k] from rfl]; exact Array.mem_toList_iff.2 (Array.getElem_mem _), decide_eq_true e⟩

theorem has_no {s : ByteArray} {n : Int} (h : ∀ j (hj : j < s.size), ¬ (s[j].toNat : Int) = n) : has s n = false := by
  unfold has
  rw [List.any_eq_false]
  intro x hx
  obtain ⟨j, hj, rfl⟩ := Array.mem_iff_getElem.1 (Array.mem_toList_iff.1 hx)
  have := h j hj
  rw [decide_eq_true_iff]
  exact this

theorem wrap_byte (x : UInt8) : wrap64 (x.toNat : Int) = x.toNat := by
  have := x.toNat_lt
  unfold wrap64
  omega

set_option maxRecDepth 100000 in
set_option maxHeartbeats 1000000 in
theorem among_any (n : Int) (s : ByteArray) (w : World) (hs : s.size ≤ 100) :
    Calls Tryd.prog 45 #[.string s, .int .i64 n] w fun e w' => e = .returned (.bool (has s n)) ∧ w' = w := by
  go_enter Tryd.func45, Tryd.ntmps45
  go_wp2
  go_loop [5] (fun i => ∃ k : Nat, k ≤ s.size ∧ i = .int .i64 k ∧ ∀ j (h : j < s.size), j < k → ¬ (s[j].toNat : Int) = n) (fun i => s.size - (intOf i).toNat)
  case atStart => exact ⟨0, Nat.zero_le _, rfl, fun j _ hj => by omega⟩
  case round =>
    obtain ⟨k, hk, rfl, hno⟩ := hrel
    by_cases hlt : k < s.size
    · have hwb := wrap_byte s[k]
      go_wp2
      · go_ret
        rename_i he _
        exact ⟨ret_bool (has_yes k hlt (by exact beq_iff_eq.1 he)).symm, rfl⟩
      · go_round
        case rel =>
          rename_i he
          refine ⟨k + 1, by omega, by go_num, fun j h hj => ?_⟩
          by_cases e : j = k
          · subst e; exact beq_eq_false_iff_ne.1 he
          · exact hno j h (by omega)
        case measure => simp [intOf]; omega
    · obtain rfl : k = s.size := by omega
      go_wp2
      go_ret
      exact ⟨ret_bool (has_no fun j hj => hno j hj hj).symm, rfl⟩


theorem span_iff {n a b : Int} : span n a b = true ↔ a ≤ n ∧ n ≤ b := by unfold span; simp

theorem has_flow (c : Int) : has ⟨#[44, 91, 93, 123, 125]⟩ c = true ↔ (c = 44 ∨ c = 91 ∨ c = 93 ∨ c = 123 ∨ c = 125) := by
  unfold has
  simp
  omega
theorem has_other (c : Int) : has ⟨#[45, 63, 58, 35, 38, 42, 33, 124, 62, 39, 34, 37, 64, 96]⟩ c = true ↔ (c = 45 ∨ c = 63 ∨ c = 58 ∨ c = 35 ∨ c = 38 ∨ c = 42 ∨ c = 33 ∨ c = 124 ∨ c = 62 ∨ c = 39 ∨ c = 34 ∨ c = 37 ∨ c = 64 ∨ c = 96) := by
  unfold has
  simp
  omega
theorem has_sign (c : Int) : has ⟨#[45, 63, 58, 44, 91, 93, 123, 125, 35, 38, 42, 33, 124, 62, 39, 34, 37, 64, 96]⟩ c = true ↔ (c = 45 ∨ c = 63 ∨ c = 58 ∨ c = 44 ∨ c = 91 ∨ c = 93 ∨ c = 123 ∨ c = 125 ∨ c = 35 ∨ c = 38 ∨ c = 42 ∨ c = 33 ∨ c = 124 ∨ c = 62 ∨ c = 39 ∨ c = 34 ∨ c = 37 ∨ c = 64 ∨ c = 96) := by
  unfold has
  simp
  omega

def printP (c : Int) : Bool := decide (c = 9 ∨ c = 10 ∨ c = 13 ∨ (32 ≤ c ∧ c ≤ 126) ∨ c = 133 ∨ (160 ≤ c ∧ c ≤ 55295) ∨ (57344 ≤ c ∧ c ≤ 65533) ∨ (65536 ≤ c ∧ c ≤ 1114111))
def blankP (c : Int) : Bool := decide (c = 32 ∨ c = 9)
def flowP (c : Int) : Bool := decide (c = 44 ∨ c = 91 ∨ c = 93 ∨ c = 123 ∨ c = 125)
def signP (c : Int) : Bool := decide (c = 45 ∨ c = 63 ∨ c = 58 ∨ c = 44 ∨ c = 91 ∨ c = 93 ∨ c = 123 ∨ c = 125 ∨ c = 35 ∨ c = 38 ∨ c = 42 ∨ c = 33 ∨ c = 124 ∨ c = 62 ∨ c = 39 ∨ c = 34 ∨ c = 37 ∨ c = 64 ∨ c = 96)
def nameP (c : Int) : Bool := printP c && !blankP c && !flowP c && decide (c ≠ 10 ∧ c ≠ 13 ∧ c ≠ 65279)
theorem nameP_iff (c : Int) : nameP c = true ↔ printP c = true ∧ blankP c = false ∧ flowP c = false ∧ ¬ c = 10 ∧ ¬ c = 13 ∧ ¬ c = 65279 := by
  unfold nameP
  simp
  exact ⟨fun ⟨⟨⟨h1, h2⟩, h3⟩, h4⟩ => ⟨h1, h2, h3, h4⟩, fun ⟨h1, h2, h3, h4⟩ => ⟨⟨⟨h1, h2⟩, h3⟩, h4⟩⟩

end Go.Proofs.YtjfeamfchgcblaaDoor
