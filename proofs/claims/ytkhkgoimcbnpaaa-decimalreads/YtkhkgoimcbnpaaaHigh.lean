/- strings.IndexAny at short texts of whatever bytes. -/
import Derived.Test.YtkhkgoimcbnpaaaRFltC
import Derived.Test.YtkhkgoimcbnpaaaShelfB
import Derived.Laws.RangeAny
import Derived.Laws.Runes
import Derived.Deep.LoopGhost
import Derived.Scope
import Derived.Deep.RegionHeld3
set_option linter.unusedVariables false
set_option linter.unusedSimpArgs false
namespace Go.Proofs.Ytkhkgoimcbnpaaa
open Go.RowKit

set_option maxRecDepth 1000000 in
set_option maxHeartbeats 1000000 in
theorem rune_bad (w : World) :
    Calls Try.prog 49 #[.string ⟨#[101, 69]⟩, .int .i32 65533] w fun e w' => e = .returned (.int .i64 (-1)) ∧ Below w.heap.size w w' := by
  go_enter Try.func49, Try.ntmps49
  go_wp2_with fail
  go_loopg [5, 6] 2 (fun g _ _ wx => ∃ i : Nat, i + g = 2 ∧ wx = w.iter ⟨#[101, 69]⟩ i)
  case atStart => exact ⟨0, by omega, rfl⟩
  case round =>
    obtain ⟨i, hig, rfl⟩ := hrel
    cases gk with
    | zero =>
      obtain rfl : i = 2 := by omega
      have hnx := run_next_end (P := Try.prog) w ⟨#[101, 69]⟩ 2
      go_wp2
      go_ret
      exact ⟨rfl, (Below.refl _ w).alloc (Nat.le_refl _) _⟩
    | succ g =>
      have hi : i = 0 ∨ i = 1 := by omega
      rcases hi with rfl | rfl
      · have hnx := fun ty => run_next_ascii (P := Try.prog) w ⟨#[101, 69]⟩ 0 ty (by decide) (by decide)
        go_wp2
        go_roundg g
        case measure => omega
        case rel => exact ⟨1, by omega, rfl⟩
      · have hnx := fun ty => run_next_ascii (P := Try.prog) w ⟨#[101, 69]⟩ 1 ty (by decide) (by decide)
        go_wp2
        go_roundg g
        case measure => omega
        case rel => exact ⟨2, by omega, rfl⟩

set_option maxRecDepth 1000000 in
set_option maxHeartbeats 1000000 in
theorem rune_invalid (r : Int) (w : World) (h0 : 128 ≤ r) (h1 : r ≠ 65533) (hv : Lib.validRune r = false) :
    Calls Try.prog 49 #[.string ⟨#[101, 69]⟩, .int .i32 r] w fun e w' => e = .returned (.int .i64 (-1)) ∧ Below w.heap.size w w' := by
  have VR := fun w => Try.utf8_ValidRune r w
  rw [hv] at VR
  have g1 : ¬ r < 128 := by omega
  have g2 : (r == 65533) = false := beq_false_of_ne h1
  have g3 : 0 ≤ r := by omega
  clear hv h1
  go_enter Try.func49, Try.ntmps49
  go_wp2_with fail
  refine (VR _).mono ?_
  rintro e w1 ⟨rfl, rfl⟩
  go_wp2
  go_ret
  exact ⟨rfl, Below.refl _ _⟩

theorem enc_ex (r : Int) (hv : Utf8.valid r = true) (h0 : 128 ≤ r) : ∃ rs : ByteArray, Utf8.encode r = rs ∧ 2 ≤ rs.size ∧ rs.size ≤ 4 ∧ ∀ h : 1 < rs.size, rs.size = 2 → 128 ≤ (rs[1]'h).toNat := by
  obtain ⟨z1, z2, z3⟩ := encode_facts r hv h0
  refine ⟨_, rfl, z1, z2, fun h e => ?_⟩
  have z4 := z3 (by omega)
  have e1 : (Utf8.encode r).size - 1 = 1 := by omega
  simp only [e1] at z4
  exact z4

set_option maxRecDepth 1000000 in
set_option maxHeartbeats 1000000 in
theorem rune_valid (r : Int) (w : World) (h0 : 128 ≤ r) (h1 : r ≠ 65533) (hv : Lib.validRune r = true) :
    Calls Try.prog 49 #[.string ⟨#[101, 69]⟩, .int .i32 r] w fun e w' => e = .returned (.int .i64 (-1)) ∧ Below w.heap.size w w' := by
  have VR := fun w => Try.utf8_ValidRune r w
  have hv2 : Utf8.valid r = true := by
    unfold Lib.validRune at hv
    have := of_decide_eq_true hv
    unfold Utf8.valid
    simp
    omega
  obtain ⟨rs, hrs, z1, z2, z3⟩ := enc_ex r hv2 h0
  rw [hv] at VR
  have CV := fun w => run_convert_int_string (P := Try.prog) w 21 9 .i32 r (by rw [Try.underlying21]; rfl) Try.underlying9
  have g1 : ¬ r < 128 := by omega
  have g2 : (r == 65533) = false := beq_false_of_ne h1
  have g3 : 0 ≤ r := by omega
  clear hv h1 hv2 CV
  by_cases hz : rs.size = 2
  · have hb : ¬ ((69 : Int) = (rs[1]'(by omega)).toNat) := by
      have := z3 (by omega) hz
      omega
    have IB : ∀ w, Calls Try.prog 60 #[.string ByteArray.empty, .int .u8 (rs[1]'(by omega)).toNat] w fun e w' => e = .returned (.int .i64 (-1)) ∧ w' = w := fun w => by
      have := Try.strings_IndexByte ByteArray.empty (rs[1]'(by omega)).toNat w
      have e : (ByteArray.empty).data.toList = [] := by decide
      rw [e] at this
      exact this
    have hw2 : IntKind.i64.wrap 2 = 2 := by rw [IntKind.wrap_i64]; decide
    have k1 : (rs.size : Int) - 1 = 1 := by omega
    have k2 : (1 : Int) < rs.size := by omega
    have hb2 : (((69 : Int)) == ((rs[1]'(by omega)).toNat : Int)) = false := beq_false_of_ne hb
    have hb3 : (((69 : Int)) != ((rs[1]'(by omega)).toNat : Int)) = true := bne_iff_ne.2 hb
    have hb4 : ((((⟨#[101, 69]⟩ : ByteArray)[1]'(by decide)).toNat : Int) == ((rs[1]'(by omega)).toNat : Int)) = false := hb2
    have hb5 : ((((⟨#[101, 69]⟩ : ByteArray)[1]'(by decide)).toNat : Int) != ((rs[1]'(by omega)).toNat : Int)) = true := hb3
    clear z3 z1 z2
    go_enter Try.func49, Try.ntmps49
    go_wp2_with fail
    refine (VR _).mono ?_
    rintro e w1 ⟨rfl, rfl⟩
    go_wp2_with fail
    refine wp_scope_straight ?_
    go_wp2_with fail
    go_loop [9, 10] (fun a b => a = .int .i64 1 ∧ b = .int .i64 0) (fun _ _ => 0)
    case atStart => exact ⟨rfl, rfl⟩
    case round =>
      obtain ⟨rfl, rfl⟩ := hrel
      go_wp2_with fail
      refine wp_scope_straight ?_
      go_wp2_with fail
      go_quiet (fail)
      go_wp2_with fail
      go_region_held3 (fun _ => True) (trivial) (first | (go_at_call 60; refine (IB _).mono ?_; rintro e w2 ⟨rfl, rfl⟩))
      go_wp2
      show bodyPost Try.prog Try.f49 (fun e w' => e = .returned (.int .i64 (-1)) ∧ Below w1.heap.size w1 w') Exit.ret _ _
      go_ret
      exact ⟨rfl, (below_drewN (Below.refl _ _) _).drew⟩
  · have k1 : ¬ (rs.size : Int) - 1 < 2 := by omega
    have k2 : (rs.size : Int) ≤ 4 := by omega
    have k3 : (2 : Int) ≤ (rs.size : Int) - 1 := by omega
    clear z3 z1 z2
    go_enter Try.func49, Try.ntmps49
    go_wp2_with fail
    refine (VR _).mono ?_
    rintro e w1 ⟨rfl, rfl⟩
    go_wp2_with fail
    refine wp_scope_straight ?_
    go_wp2_with fail
    go_loop [9, 10] (fun a b => a = .int .i64 ((rs.size : Int) - 1) ∧ b = .int .i64 0) (fun _ _ => 0)
    case atStart => exact ⟨rfl, rfl⟩
    case round =>
      obtain ⟨rfl, rfl⟩ := hrel
      go_wp2
      go_ret
      exact ⟨rfl, Below.refl _ _⟩
end Go.Proofs.Ytkhkgoimcbnpaaa
