/- Two more of the library's functions, laid at their numbers here. -/
import Derived.Shelf.Small.Utf8
import Derived.Shelf.Small.Strs
import Derived.Test.YtpffegkckejpiaaRows
import Derived.Test.YtpffegkckejpiaaRFltC
import Derived.Laws.RangeAny
import Derived.Laws.Runes
import Derived.Deep.LoopGhost
import Derived.Scope
import Derived.Deep.RegionHeld3
set_option linter.unusedVariables false
set_option linter.unusedSimpArgs false
namespace Go.Proofs
open Go.Shelf
def Try.lays119_ren : Go.Shelf.Ren := ⟨fun | 119 => 89 | n => n, fun | 21 => 21 | 4 => 4 | n => n, fun | n => n⟩
theorem Try.lays119 : Go.Proofs.Lays.n119 Try.prog Try.lays119_ren := {
  mixed := by kernel_rfl
  f119 := Try.func89.trans (congrArg some (by kernel_rfl))
  t4 := Try.underlying4
  a4 := Try.isAgg4
  z4 := Try.sizeOf4
  v4 := Try.zeroValue4
  t21 := Try.underlying21
  a21 := Try.isAgg21
  z21 := Try.sizeOf21
  v21 := Try.zeroValue21 }
theorem Try.utf8_ValidRune (r : Int) (w : World) :
    Calls Try.prog 89 #[.int .i32 r] w fun e w' => e = .returned (.bool (Lib.validRune r)) ∧ w' = w := Any.utf8_ValidRune Try.lays119 r w
def Try.lays137_ren : Go.Shelf.Ren := ⟨fun | 137 => 88 | 217 => 92 | 266 => 94 | n => n, fun | 9 => 9 | 5 => 5 | 3 => 3 | n => n, fun | n => n⟩
theorem Try.lays137 : Go.Proofs.Lays.n137 Try.prog Try.lays137_ren := {
  mixed := by kernel_rfl
  f137 := Try.func88.trans (congrArg some (by kernel_rfl))
  f217 := Try.func92.trans (congrArg some (by kernel_rfl))
  f266 := Try.func94.trans (congrArg some (by kernel_rfl))
  t3 := Try.underlying3
  a3 := Try.isAgg3
  z3 := Try.sizeOf3
  v3 := Try.zeroValue3
  t5 := Try.underlying5
  a5 := Try.isAgg5
  z5 := Try.sizeOf5
  v5 := Try.zeroValue5
  t9 := Try.underlying9
  a9 := Try.isAgg9
  z9 := Try.sizeOf9
  v9 := Try.zeroValue9 }
open Go.RowKit in
theorem Try.strings_IndexByte (s : ByteArray) (c : Int) (w : World) :
    Calls Try.prog 88 #[.string s, .int .u8 c] w fun e w' => e = .returned (.int .i64 (Lib.indexByte s.data.toList c.toNat.toUInt8)) ∧ w' = w := Any.strings_IndexByte Try.lays137 s c w
end Go.Proofs
set_option maxRecDepth 100000
namespace Go.Proofs.Ytpffegkckejpiaa
open Go.RowKit

set_option maxRecDepth 1000000 in
set_option maxHeartbeats 1000000 in
theorem rune_bad (w : World) :
    Calls Try.prog 81 #[.string ⟨#[101, 69]⟩, .int .i32 65533] w fun e w' => e = .returned (.int .i64 (-1)) ∧ Below w.heap.size w w' := by
  go_enter Try.func81, Try.ntmps81
  go_wp2_with fail
  go_loopg [5, 6] 2 (fun g _ _ wx => ∃ i : Nat, i + g = 2 ∧ wx = w.iter ⟨#[101, 69]⟩ i)
  case atStart => exact ⟨0, by omega, rfl⟩
  case round =>
    obtain ⟨i, hig, rfl⟩ := hrel
    cases gk with
    | zero =>
      obtain rfl : i = 2 := by omega
      have hnx := run_next_end (P := Try.prog) w ⟨#[101, 69]⟩ 2
      go_wp2
      go_ret
      exact ⟨rfl, (Below.refl _ w).alloc (Nat.le_refl _) _⟩
    | succ g =>
      have hi : i = 0 ∨ i = 1 := by omega
      rcases hi with rfl | rfl
      · have hnx := fun ty => run_next_ascii (P := Try.prog) w ⟨#[101, 69]⟩ 0 ty (by decide) (by decide)
        go_wp2
        go_roundg g
        case measure => omega
        case rel => exact ⟨1, by omega, rfl⟩
      · have hnx := fun ty => run_next_ascii (P := Try.prog) w ⟨#[101, 69]⟩ 1 ty (by decide) (by decide)
        go_wp2
        go_roundg g
        case measure => omega
        case rel => exact ⟨2, by omega, rfl⟩

set_option maxRecDepth 1000000 in
set_option maxHeartbeats 1000000 in
theorem rune_invalid (r : Int) (w : World) (h0 : 128 ≤ r) (h1 : r ≠ 65533) (hv : Lib.validRune r = false) :
    Calls Try.prog 81 #[.string ⟨#[101, 69]⟩, .int .i32 r] w fun e w' => e = .returned (.int .i64 (-1)) ∧ Below w.heap.size w w' := by
  have VR := fun w => Try.utf8_ValidRune r w
  rw [hv] at VR
  have g1 : ¬ r < 128 := by omega
  have g2 : (r == 65533) = false := beq_false_of_ne h1
  have g3 : 0 ≤ r := by omega
  clear hv h1
  go_enter Try.func81, Try.ntmps81
  go_wp2_with fail
  refine (VR _).mono ?_
  rintro e w1 ⟨rfl, rfl⟩
  go_wp2
  go_ret
  exact ⟨rfl, Below.refl _ _⟩

theorem enc_ex (r : Int) (hv : Utf8.valid r = true) (h0 : 128 ≤ r) : ∃ rs : ByteArray, Utf8.encode r = rs ∧ 2 ≤ rs.size ∧ rs.size ≤ 4 ∧ ∀ h : 1 < rs.size, rs.size = 2 → 128 ≤ (rs[1]'h).toNat := by
  obtain ⟨z1, z2, z3⟩ := encode_facts r hv h0
  refine ⟨_, rfl, z1, z2, fun h e => ?_⟩
  have z4 := z3 (by omega)
  have e1 : (Utf8.encode r).size - 1 = 1 := by omega
  simp only [e1] at z4
  exact z4

set_option maxRecDepth 1000000 in
set_option maxHeartbeats 1000000 in
theorem rune_valid (r : Int) (w : World) (h0 : 128 ≤ r) (h1 : r ≠ 65533) (hv : Lib.validRune r = true) :
    Calls Try.prog 81 #[.string ⟨#[101, 69]⟩, .int .i32 r] w fun e w' => e = .returned (.int .i64 (-1)) ∧ Below w.heap.size w w' := by
  have VR := fun w => Try.utf8_ValidRune r w
  have hv2 : Utf8.valid r = true := by
    unfold Lib.validRune at hv
    have := of_decide_eq_true hv
    unfold Utf8.valid
    simp
    omega
  obtain ⟨rs, hrs, z1, z2, z3⟩ := enc_ex r hv2 h0
  rw [hv] at VR
  have CV := fun w => run_convert_int_string (P := Try.prog) w 21 9 .i32 r (by rw [Try.underlying21]; rfl) Try.underlying9
  have g1 : ¬ r < 128 := by omega
  have g2 : (r == 65533) = false := beq_false_of_ne h1
  have g3 : 0 ≤ r := by omega
  clear hv h1 hv2 CV
  by_cases hz : rs.size = 2
  · have hb : ¬ ((69 : Int) = (rs[1]'(by omega)).toNat) := by
      have := z3 (by omega) hz
      omega
    have IB : ∀ w, Calls Try.prog 88 #[.string ByteArray.empty, .int .u8 (rs[1]'(by omega)).toNat] w fun e w' => e = .returned (.int .i64 (-1)) ∧ w' = w := fun w => by
      have := Try.strings_IndexByte ByteArray.empty (rs[1]'(by omega)).toNat w
      have e : (ByteArray.empty).data.toList = [] := by decide
      rw [e] at this
      exact this
    have hw2 : IntKind.i64.wrap 2 = 2 := by rw [IntKind.wrap_i64]; decide
    have k1 : (rs.size : Int) - 1 = 1 := by omega
    have k2 : (1 : Int) < rs.size := by omega
    have hb2 : (((69 : Int)) == ((rs[1]'(by omega)).toNat : Int)) = false := beq_false_of_ne hb
    have hb3 : (((69 : Int)) != ((rs[1]'(by omega)).toNat : Int)) = true := bne_iff_ne.2 hb
    have hb4 : ((((⟨#[101, 69]⟩ : ByteArray)[1]'(by decide)).toNat : Int) == ((rs[1]'(by omega)).toNat : Int)) = false := hb2
    have hb5 : ((((⟨#[101, 69]⟩ : ByteArray)[1]'(by decide)).toNat : Int) != ((rs[1]'(by omega)).toNat : Int)) = true := hb3
    clear z3 z1 z2
    go_enter Try.func81, Try.ntmps81
    go_wp2_with fail
    refine (VR _).mono ?_
    rintro e w1 ⟨rfl, rfl⟩
    go_wp2_with fail
    refine wp_scope_straight ?_
    go_wp2_with fail
    go_loop [9, 10] (fun a b => a = .int .i64 1 ∧ b = .int .i64 0) (fun _ _ => 0)
    case atStart => exact ⟨rfl, rfl⟩
    case round =>
      obtain ⟨rfl, rfl⟩ := hrel
      go_wp2_with fail
      refine wp_scope_straight ?_
      go_wp2_with fail
      go_quiet (fail)
      go_wp2_with fail
      go_region_held3 (fun _ => True) (trivial) (first | (go_at_call 88; refine (IB _).mono ?_; rintro e w2 ⟨rfl, rfl⟩))
      go_wp2
      show bodyPost Try.prog Try.f81 (fun e w' => e = .returned (.int .i64 (-1)) ∧ Below w1.heap.size w1 w') Exit.ret _ _
      go_ret
      exact ⟨rfl, (below_drewN (Below.refl _ _) _).drew⟩
  · have k1 : ¬ (rs.size : Int) - 1 < 2 := by omega
    have k2 : (rs.size : Int) ≤ 4 := by omega
    have k3 : (2 : Int) ≤ (rs.size : Int) - 1 := by omega
    clear z3 z1 z2
    go_enter Try.func81, Try.ntmps81
    go_wp2_with fail
    refine (VR _).mono ?_
    rintro e w1 ⟨rfl, rfl⟩
    go_wp2_with fail
    refine wp_scope_straight ?_
    go_wp2_with fail
    go_loop [9, 10] (fun a b => a = .int .i64 ((rs.size : Int) - 1) ∧ b = .int .i64 0) (fun _ _ => 0)
    case atStart => exact ⟨rfl, rfl⟩
    case round =>
      obtain ⟨rfl, rfl⟩ := hrel
      go_wp2
      go_ret
      exact ⟨rfl, Below.refl _ _⟩
end Go.Proofs.Ytpffegkckejpiaa
set_option maxRecDepth 100000
namespace Go.Proofs.Ytpffegkckejpiaa
open Go.RowKit

def stepW (W : World) (g : Nat) (s : ByteArray) (pos : Nat) : World := { W with heap := W.heap.setIfInBounds g (.stringIter s pos) }
theorem next_at (W : World) (g : Nat) (s : ByteArray) (pos : Nat) (ty : TypeId) (hg : W.heap[g]? = some (.stringIter s pos)) (h : pos < s.size) :
    (Instr.next (.pointer (some ⟨g, 0, none⟩)) true ty).run Try.prog W = .ok (.tuple #[.bool true, .int .i64 pos, .int .i32 (Utf8.decode s pos).1]) (stepW W g s (pos + (Utf8.decode s pos).2)) := by
  simp only [Instr.next, getObj, setObj, Sem.run_bind, Sem.run, hg, Result.andThen, h, if_true]
  simp [goInt, stepW]
theorem next_end (W : World) (g : Nat) (s : ByteArray) (pos : Nat) (ty : TypeId) (hg : W.heap[g]? = some (.stringIter s pos)) (h : ¬ pos < s.size) :
    (Instr.next (.pointer (some ⟨g, 0, none⟩)) true ty).run Try.prog W = .ok (.tuple #[.bool false]) W := by
  simp [Instr.next, getObj, Sem.run, hg, h]
theorem step_heap {W : World} {g : Nat} {s : ByteArray} {p q : Nat} (hg : W.heap[g]? = some (.stringIter s p)) : (stepW W g s q).heap[g]? = some (.stringIter s q) := by
  have hl : g < W.heap.size := (Array.getElem?_eq_some_iff.1 hg).1
  simp [stepW, hl]
theorem step_below {B g : Nat} {w W : World} {s : ByteArray} {q : Nat} (h : Below B w W) (hg : B ≤ g) : Below B w (stepW W g s q) :=
  h.trans ⟨rfl, rfl, rfl, by simp [stepW], fun k hk => by simp only [stepW]; rw [Array.getElem?_setIfInBounds_ne (by omega)]⟩
theorem rune_high (r : Int) (w : World) (h0 : 128 ≤ r) :
    Calls Try.prog 81 #[.string ⟨#[101, 69]⟩, .int .i32 r] w fun e w' => e = .returned (.int .i64 (-1)) ∧ Below w.heap.size w w' := by
  by_cases h1 : r = 65533
  · subst h1; exact rune_bad w
  · cases hv : Lib.validRune r
    · exact rune_invalid r w h0 h1 hv
    · exact rune_valid r w h0 h1 hv

set_option maxHeartbeats 400000 in
theorem use_no (n : Int) (w : World) (h : ¬ 8 < n) : Calls Try.prog 82 #[.int .i64 n] w fun e w' => e = .returned (.bool false) ∧ w' = w := by
  go_enter Try.func82, Try.ntmps82
  go_wp2
  go_ret
  exact ⟨ret_bool (by simp <;> omega), rfl⟩

set_option maxRecDepth 1000000 in
set_option maxHeartbeats 1000000 in
theorem idx_weak (s : ByteArray) (w : World) (h8 : s.size ≤ 8) :
    Calls Try.prog 71 #[.string s, .string ⟨#[101, 69]⟩] w fun e w' => ∃ K, QE s K ∧ e = .returned (.int .i64 K) ∧ Below w.heap.size w w' := by
  have U := fun w => use_no (s.size : Int) w (by omega)
  go_enter Try.func71, Try.ntmps71
  go_wp2_with fail
  refine (U _).mono ?_
  rintro e w1 ⟨rfl, rfl⟩
  go_wp2_with fail
  go_loopg [9, 10] s.size (fun g _ _ wx => ∃ i : Nat, s.size ≤ i + g ∧ Hid (wx.heap[w1.heap.size]? = some (.stringIter s i)) ∧ Below w1.heap.size w1 wx)
  case atStart => exact ⟨0, by omega, World.iter_heap w1 s 0, (Below.refl _ w1).alloc (Nat.le_refl _) _⟩
  case round =>
    obtain ⟨i, hig, HI, hBw⟩ := hrel
    by_cases hi : i < s.size
    · have hnx := fun ty => next_at wr w1.heap.size s i ty HI.out hi
      have HI2 : Hid ((stepW wr w1.heap.size s (i + (Utf8.decode s i).2)).heap[w1.heap.size]? = some (.stringIter s (i + (Utf8.decode s i).2))) := step_heap HI.out
      have hB2 : Below w1.heap.size w1 (stepW wr w1.heap.size s (i + (Utf8.decode s i).2)) := step_below hBw (Nat.le_refl _)
      by_cases hx : (s[i]).toNat < 128
      · have hd := decode_ascii s i hi hx
        rw [hd] at hnx HI2 hB2
        have IR := fun w => Try.strings_IndexRune_ascii ⟨#[101, 69]⟩ (s[i].toNat : Int) w (by omega) (by omega)
        have hback : ((s[i].toNat : Int)).toNat.toUInt8 = s[i] := by simp
        rw [hback] at IR
        have HE : Hid (isE s[i] = decide (0 ≤ Lib.indexByte [101, 69] s[i])) := Lib.contains_iff_indexByte [101, 69] s[i]
        have HS : Hid (∃ h : i < s.size, s[i] = s[i]) := ⟨hi, rfl⟩
        generalize stepW wr w1.heap.size s (i + 1) = W2 at hnx HI2 hB2
        cases gk with
        | zero => omega
        | succ g =>
          by_cases hk : 0 ≤ Lib.indexByte [101, 69] s[i]
          · have HQ : Hid (QE s (i : Int)) := .inr ⟨i, rfl, hi, by rw [HE.out]; exact decide_eq_true hk⟩
            have IR' : ∀ w, Calls Try.prog 81 #[.string ⟨#[101, 69]⟩, .int .i32 (s[i].toNat : Int)] w fun e w' => e = .returned (.int .i64 (Lib.indexByte [101, 69] s[i])) ∧ w' = w := IR
            generalize Lib.indexByte [101, 69] s[i] = z at IR' hk
            clear IR HE hback hd
            go_wp2_with fail
            refine (IR' _).mono ?_
            rintro e w3 ⟨rfl, rfl⟩
            go_wp2
            go_ret
            exact ⟨i, HQ.out, rfl, hB2⟩
          · have IR' : ∀ w, Calls Try.prog 81 #[.string ⟨#[101, 69]⟩, .int .i32 (s[i].toNat : Int)] w fun e w' => e = .returned (.int .i64 (Lib.indexByte [101, 69] s[i])) ∧ w' = w := IR
            generalize Lib.indexByte [101, 69] s[i] = z at IR' hk
            clear IR HE hback hd
            go_wp2_with fail
            refine (IR' _).mono ?_
            rintro e w3 ⟨rfl, rfl⟩
            go_wp2
            go_roundg g
            case measure => omega
            case rel => exact ⟨i + 1, by omega, HI2, hB2⟩
      · have hdh := decode_high s i hi (by omega)
        have IR := fun w => rune_high ((Utf8.decode s i).1 : Int) w (by omega)
        have hge : 1 ≤ (Utf8.decode s i).2 := hdh.2
        generalize stepW wr w1.heap.size s (i + (Utf8.decode s i).2) = W2 at hnx HI2 hB2
        generalize ((Utf8.decode s i).1 : Int) = r at hnx IR
        generalize (Utf8.decode s i).2 = n at HI2 hge
        clear hdh
        cases gk with
        | zero => omega
        | succ g =>
          have hlt : w1.heap.size < W2.heap.size := (Array.getElem?_eq_some_iff.1 HI2.out).1
          go_wp2_with fail
          refine (IR _).mono ?_
          rintro e w3 ⟨rfl, hB3⟩
          have HI3 : Hid (w3.heap[w1.heap.size]? = some (.stringIter s (i + n))) := by
            show _ = _
            rw [hB3.block _ hlt]
            exact HI2.out
          have hB4 : Below w1.heap.size w1 w3 := hB2.trans (hB3.mono (by omega))
          clear hB3 hnx IR
          go_wp2
          go_roundg g
          case measure => omega
          case rel => exact ⟨i + n, by omega, HI3, hB4⟩
    · have hnx := fun ty => next_end wr w1.heap.size s i ty HI.out hi
      go_wp2
      go_ret
      exact ⟨-1, .inl rfl, rfl, hBw⟩
end Go.Proofs.Ytpffegkckejpiaa
set_option maxRecDepth 100000
namespace Go.Proofs.Ytpffegkckejpiaa
open Go.RowKit

theorem Float_any (s : ByteArray) (w : World) (hs : s.size ≤ 100000) :
    Calls Try.prog 40 #[.string s] w fun e w' => e = .returned (floatV s (kE s)) ∧ Below w.heap.size w w' := by
  by_cases h : 8 < (restB s).size ∨ asc s = true
  · exact Float_plain s w hs h
  · have h8 : (restB s).size ≤ 8 := by
      by_cases e : 8 < (restB s).size
      · exact absurd (.inl e) h
      · omega
    have ha : asc s = false := by
      cases e : asc s
      · rfl
      · exact absurd (.inr e) h
    refine (Float_of s w (QE (restB s)) hs (-1) (.inl rfl) (fun K hK => ?_) (fun w => idx_weak (restB s) w h8)).mono ?_
    · rcases hK with rfl | ⟨i, rfl, hi, -⟩
      · exact .inl rfl
      · exact .inr ⟨by omega, by omega⟩
    · rintro e w' ⟨K, hK, rfl, hB⟩
      exact ⟨by rw [floatV_high ha hK], hB⟩

/-- What is answered is four cells, and whether there is a number. -/
theorem int_form (s : ByteArray) : ∃ a b c d e, intV s = .tuple #[.agg #[.bool a, .string b, .int .i64 c, .int .i64 d], .bool e] := by
  unfold intV
  split
  · obtain ⟨D, E, hV⟩ := numV_form (negB s && decide (numB (bodyOf s) (baseOf s) ≠ 0)) (numB (bodyOf s) (baseOf s)) 0
    exact ⟨_, _, _, _, _, by rw [hV]⟩
  · exact ⟨_, _, _, _, _, rfl⟩
theorem float_form (s : ByteArray) (K : Int) : ∃ a b c d e, floatV s K = .tuple #[.agg #[.bool a, .string b, .int .i64 c, .int .i64 d], .bool e] := by
  unfold floatV
  split
  · exact ⟨_, _, _, _, _, rfl⟩
  · split
    · exact ⟨_, _, _, _, _, rfl⟩
    · cases fltK (restB s) K with
      | none => exact ⟨_, _, _, _, _, rfl⟩
      | some p =>
        obtain ⟨n, x⟩ := p
        obtain ⟨D, E, hV⟩ := numV_form (negB s) n x
        exact ⟨_, _, _, _, _, by show Value.tuple #[numV (negB s) n x, .bool true] = _; rw [hV]⟩

theorem cells_on {V W : World} {g : Nat} {c0 c1 c2 c3 : Value} (hB : Below V.heap.size V W) (hg : g < V.heap.size) (k0 : V.cell? ⟨g, 0, none⟩ = some c0) (k1 : V.cell? ⟨g, 1, none⟩ = some c1) (k2 : V.cell? ⟨g, 2, none⟩ = some c2) (k3 : V.cell? ⟨g, 3, none⟩ = some c3) :
    ∀ o, g < (W.alloc o).heap.size ∧ (W.alloc o).cell? ⟨g, 0, none⟩ = some c0 ∧ (W.alloc o).cell? ⟨g, 1, none⟩ = some c1 ∧ (W.alloc o).cell? ⟨g, 2, none⟩ = some c2 ∧ (W.alloc o).cell? ⟨g, 3, none⟩ = some c3 := by
  intro o
  have hz := hB.size
  have hA : Below V.heap.size V (W.alloc o) := hB.alloc hz o
  have hb : ∀ i, (⟨g, i, none⟩ : Addr).block < V.heap.size := fun _ => hg
  exact ⟨by simp; omega, (hA.cell (hb 0)).trans k0, (hA.cell (hb 1)).trans k1, (hA.cell (hb 2)).trans k2, (hA.cell (hb 3)).trans k3⟩
theorem cells_new4 (w : World) (c0 c1 c2 c3 : Value) : w.heap.size < (w.alloc (.cells #[c0, c1, c2, c3] 27)).heap.size ∧ (w.alloc (.cells #[c0, c1, c2, c3] 27)).cell? ⟨w.heap.size, 0, none⟩ = some c0 ∧ (w.alloc (.cells #[c0, c1, c2, c3] 27)).cell? ⟨w.heap.size, 1, none⟩ = some c1 ∧ (w.alloc (.cells #[c0, c1, c2, c3] 27)).cell? ⟨w.heap.size, 2, none⟩ = some c2 ∧ (w.alloc (.cells #[c0, c1, c2, c3] 27)).cell? ⟨w.heap.size, 3, none⟩ = some c3 := by
  simp

end Go.Proofs.Ytpffegkckejpiaa
