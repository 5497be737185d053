/- decimal.parted, and a text cut at its point. -/
import Derived.Test.YtpffegkckejpiaaExpo
import Derived.Deep.WholeRow
set_option linter.unusedVariables false
set_option linter.unusedSimpArgs false
set_option maxRecDepth 100000
namespace Go.Proofs.Ytpffegkckejpiaa
open Go.RowKit

def eE : List UInt8 := [101, 69]
theorem set_zero : ∀ w, (zeroValue 104).run Try.prog w = .ok (.agg (Array.replicate 256 (.bool false))) w := (zero_of_info (n := 256) (by kernel_rfl)).1

theorem idx_any (s : ByteArray) (w : World) (hs : s.size ≤ 100000) (h : 8 < s.size ∨ ∀ (j : Nat) b, s.data.toList[j]? = some b → b.toNat < 128) :
    Calls Try.prog 71 #[.string s, .string ⟨#[101, 69]⟩] w fun e w' => ∃ K, K = Lib.indexAny s.data.toList eE ∧ e = .returned (.int .i64 K) ∧ Below w.heap.size w w' := by
  have hc : ∀ (j : Nat) (b : UInt8), (⟨#[101, 69]⟩ : ByteArray).data.toList[j]? = some b → b.toNat < 128 := by
    intro j b hb
    have hm := List.mem_of_getElem? hb
    have : b = 101 ∨ b = 69 := by simpa using hm
    rcases this with rfl | rfl <;> decide
  by_cases h8 : 8 < s.size
  · refine (Try.strings_IndexAny_long set_zero s ⟨#[101, 69]⟩ w (by decide) h8 (by omega) (by decide) hc).mono ?_
    rintro e w' ⟨rfl, rfl⟩
    exact ⟨_, rfl, rfl, ((Below.refl _ w).alloc (Nat.le_refl _) _).alloc (by simp) _⟩
  · have ha := h.resolve_left h8
    refine (Try.strings_IndexAny_short s ⟨#[101, 69]⟩ w (by decide) (by omega) ha).mono ?_
    rintro e w' ⟨rfl, pos, rfl⟩
    exact ⟨_, rfl, rfl, (Below.refl _ w).alloc (Nat.le_refl _) _⟩

theorem indexAny_range (c : List UInt8) : ∀ l : List UInt8, Lib.indexAny l c = -1 ∨ (0 ≤ Lib.indexAny l c ∧ Lib.indexAny l c < l.length)
  | [] => .inl rfl
  | b :: l => by
    have ih := indexAny_range c l
    unfold Lib.indexAny
    split
    · right; simp
    · split
      · exact .inl rfl
      · rename_i h
        have h' : ¬ Lib.indexAny l c = -1 := by simpa using h
        right
        rcases ih with e | ⟨e1, e2⟩
        · exact absurd e h'
        · simp; omega
theorem indexByte_range (c : UInt8) (l : List UInt8) : Lib.indexByte l c = -1 ∨ (0 ≤ Lib.indexByte l c ∧ Lib.indexByte l c < l.length) := by
  rw [← Lib.indexAny_one]; exact indexAny_range [c] l

/-- What parted answers where e stands at K. -/
def partV (s : ByteArray) (K : Int) : Value :=
  if K < 0 then .tuple #[.string s, .int .i64 0, .bool true] else match expP (s.extract (K.toNat + 1) s.size) with
    | none => .tuple #[.string ⟨#[]⟩, .int .i64 0, .bool false]
    | some x => .tuple #[.string (s.extract 0 K.toNat), .int .i64 x, .bool true]

set_option maxRecDepth 100000 in
set_option maxHeartbeats 400000 in
theorem parted_any (s : ByteArray) (w : World) (Q : Int → Prop) (hs : s.size ≤ 100000) (hQ : ∀ K, Q K → K = -1 ∨ (0 ≤ K ∧ K < s.size))
    (IX : ∀ w, Calls Try.prog 71 #[.string s, .string ⟨#[101, 69]⟩] w fun e w' => ∃ K, Q K ∧ e = .returned (.int .i64 K) ∧ Below w.heap.size w w') :
    Calls Try.prog 57 #[.string s] w fun e w' => ∃ K, Q K ∧ e = .returned (partV s K) ∧ Below w.heap.size w w' := by
  go_enter Try.func57, Try.ntmps57
  go_wp2_with fail
  refine (IX _).mono ?_
  rintro e w1 ⟨K, hK, rfl, hB1⟩
  have HK : Hid (Q K) := hK
  rcases hQ K hK with rfl | ⟨h0, h1⟩
  · clear hQ IX hK
    go_wp2
    go_ret3
    exact ⟨-1, HK.out, rfl, hB1⟩
  · clear hQ hK IX
    obtain ⟨i, rfl⟩ := Int.eq_ofNat_of_zero_le h0
    have hi : i < s.size := by omega
    have hneg : ¬ (i : Int) < 0 := by omega
    have hi1 : (i : Int) + 1 ≤ s.size := by omega
    have hi2 : (i : Int) ≤ s.size := by omega
    have EX := fun w => exponent_any (s.extract (i + 1) s.size) w
    have hp : partV s (i : Int) = match expP (s.extract (i + 1) s.size) with
      | none => .tuple #[.string ⟨#[]⟩, .int .i64 0, .bool false]
      | some x => .tuple #[.string (s.extract 0 i), .int .i64 x, .bool true] := by
      unfold partV
      rw [if_neg hneg]
      rfl
    cases hx : expP (s.extract (i + 1) s.size) with
    | none =>
      rw [hx] at EX hp
      have HP : Hid _ := hp
      clear hp hx
      go_wp2_with fail
      refine (EX _).mono ?_
      rintro e w2 ⟨rfl, hB2⟩
      go_wp2
      go_ret3
      exact ⟨i, HK.out, by rw [HP.out]; rfl, hB1.trans (hB2.mono hB1.size)⟩
    | some x =>
      rw [hx] at EX hp
      have HP : Hid _ := hp
      clear hp hx
      go_wp2_with fail
      refine (EX _).mono ?_
      rintro e w2 ⟨rfl, hB2⟩
      go_wp2
      go_ret3
      exact ⟨i, HK.out, by rw [HP.out]; rfl, hB1.trans (hB2.mono hB1.size)⟩

def dotJ (a : ByteArray) : Int := Lib.indexByte a.data.toList 46
def whD (a : ByteArray) : ByteArray := if dotJ a < 0 then a else a.extract 0 (dotJ a).toNat
def ptD (a : ByteArray) : ByteArray := if dotJ a < 0 then ⟨#[]⟩ else a.extract ((dotJ a).toNat + 1) a.size

set_option maxRecDepth 100000 in
set_option maxHeartbeats 400000 in
theorem cut40 (a : ByteArray) (w : World) (hs : a.size ≤ 100000) :
    Calls Try.prog 73 #[.string a, .string ⟨#[46]⟩] w fun e w' => ∃ b, e = .returned (.tuple #[.string (whD a), .string (ptD a), .bool b]) ∧ Below w.heap.size w w' := by
  have IX := fun w => Try.stringslite_Index_one a 46 w
  have hr := indexByte_range 46 a.data.toList
  have hw : whD a = if Lib.indexByte a.data.toList 46 < 0 then a else a.extract 0 (Lib.indexByte a.data.toList 46).toNat := rfl
  have hp : ptD a = if Lib.indexByte a.data.toList 46 < 0 then ⟨#[]⟩ else a.extract ((Lib.indexByte a.data.toList 46).toNat + 1) a.size := rfl
  rw [← Lib.size_eq] at hr
  rw [hw, hp]
  clear hw hp
  generalize Lib.indexByte a.data.toList 46 = J at IX hr ⊢
  rcases hr with rfl | ⟨h0, h1⟩
  · go_enter Try.func73, Try.ntmps73
    go_wp2_with fail
    refine (IX _).mono ?_
    rintro e w1 ⟨rfl, rfl⟩
    go_wp2
    go_ret3
    exact ⟨.inl rfl, Below.refl _ _⟩
  · obtain ⟨i, rfl⟩ := Int.eq_ofNat_of_zero_le h0
    have hneg : ¬ (i : Int) < 0 := by omega
    rw [if_neg hneg, if_neg hneg]
    have e1 : ((i : Int)).toNat = i := by omega
    rw [e1]
    have h2 : (i : Int) ≤ a.size := by omega
    have h3 : (i : Int) + 1 ≤ a.size := by omega
    clear e1 hneg
    go_enter Try.func73, Try.ntmps73
    go_wp2_with fail
    refine (IX _).mono ?_
    rintro e w1 ⟨rfl, rfl⟩
    go_wp2
    go_quiet (fail)
    go_wp2
    go_ret3
    exact ⟨_, rfl, below_drewN (Below.refl _ _) _⟩

set_option maxRecDepth 100000 in
set_option maxHeartbeats 400000 in
theorem cut_any (a : ByteArray) (w : World) (hs : a.size ≤ 100000) :
    Calls Try.prog 58 #[.string a, .string ⟨#[46]⟩] w fun e w' => ∃ b, e = .returned (.tuple #[.string (whD a), .string (ptD a), .bool b]) ∧ Below w.heap.size w w' := by
  have C := fun w => cut40 a w hs
  go_enter Try.func58, Try.ntmps58
  go_wp2_with fail
  refine (C _).mono ?_
  rintro e w1 ⟨b, rfl, hB1⟩
  go_wp2
  go_ret3
  exact ⟨_, rfl, hB1⟩
end Go.Proofs.Ytpffegkckejpiaa
