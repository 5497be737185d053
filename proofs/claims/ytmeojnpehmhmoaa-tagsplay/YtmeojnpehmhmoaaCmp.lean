/- How texts are ordered; rows of handles that are sorted by them, and how a handle is found in one, in plain terms. -/
import Derived.Test.YtmeojnpehmhmoaaShl
import Derived.Shelf.SlSortCmp.WholeK
set_option linter.all false
namespace Go.Proofs.Ytmeojnpehmhmoaa
open Go.RowKit

theorem cb_self : ∀ a : List UInt8, Lib.compareBytes a a = 0
  | [] => rfl
  | x :: a => by
    unfold Lib.compareBytes
    rw [if_neg (UInt8.lt_irrefl x), if_neg (UInt8.lt_irrefl x)]
    exact cb_self a
theorem cb_anti : ∀ a b : List UInt8, Lib.compareBytes b a = - Lib.compareBytes a b
  | [], [] => rfl
  | [], _ :: _ => rfl
  | _ :: _, [] => rfl
  | x :: a, y :: b => by
    have ih := cb_anti a b
    unfold Lib.compareBytes
    by_cases h1 : x < y
    · have h2 : ¬ y < x := UInt8.lt_asymm h1
      rw [if_neg h2, if_pos h1, if_pos h1]
      rfl
    · by_cases h2 : y < x
      · rw [if_pos h2, if_neg h1, if_pos h2]
      · rw [if_neg h2, if_neg h1, if_neg h1, if_neg h2]
        exact ih
theorem u8_eq {x y : UInt8} (h1 : ¬ x < y) (h2 : ¬ y < x) : x = y := by
  rw [UInt8.lt_iff_toNat_lt] at h1 h2
  exact UInt8.toNat_inj.1 (by omega)
theorem cb_zero : ∀ a b : List UInt8, Lib.compareBytes a b = 0 → a = b
  | [], [], _ => rfl
  | [], _ :: _, h => by unfold Lib.compareBytes at h; omega
  | _ :: _, [], h => by unfold Lib.compareBytes at h; omega
  | x :: a, y :: b, h => by
    unfold Lib.compareBytes at h
    by_cases h1 : x < y
    · rw [if_pos h1] at h; omega
    · by_cases h2 : y < x
      · rw [if_neg h1, if_pos h2] at h; omega
      · rw [if_neg h1, if_neg h2] at h
        rw [u8_eq h1 h2, cb_zero a b h]
theorem cb_le : ∀ a b c : List UInt8, Lib.compareBytes a b ≤ 0 → Lib.compareBytes b c ≤ 0 → Lib.compareBytes a c ≤ 0
  | [], _, [], _, _ => by unfold Lib.compareBytes; omega
  | [], _, _ :: _, _, _ => by unfold Lib.compareBytes; omega
  | _ :: _, [], _, h, _ => by unfold Lib.compareBytes at h; omega
  | _ :: _, _ :: _, [], _, h => by unfold Lib.compareBytes at h; omega
  | x :: a, y :: b, z :: c, h1, h2 => by
    have ih := cb_le a b c
    unfold Lib.compareBytes at h1 h2 ⊢
    by_cases e1 : x < y
    · by_cases e2 : y < z
      · have : x < z := UInt8.lt_trans e1 e2
        rw [if_pos this]; omega
      · rw [if_neg e2] at h2
        by_cases e3 : z < y
        · rw [if_pos e3] at h2; omega
        · have : y = z := u8_eq e2 e3
          subst this
          rw [if_pos e1]; omega
    · rw [if_neg e1] at h1
      by_cases e3 : y < x
      · rw [if_pos e3] at h1; omega
      · have : x = y := u8_eq e1 e3
        subst this
        rw [if_neg e3] at h1
        by_cases e2 : x < z
        · rw [if_pos e2]; omega
        · rw [if_neg e2] at h2 ⊢
          by_cases e4 : z < x
          · rw [if_pos e4] at h2; omega
          · rw [if_neg e4] at h2 ⊢
            exact ih h1 h2
theorem cb_lt {a b c : List UInt8} (h1 : Lib.compareBytes a b ≤ 0) (h2 : Lib.compareBytes b c < 0) : Lib.compareBytes a c < 0 := by
  have h3 := cb_le a b c h1 (by omega)
  by_cases h4 : Lib.compareBytes a c = 0
  · have := cb_zero _ _ h4
    subst this
    have := cb_anti a b
    omega
  · omega
theorem cb_lt' {a b c : List UInt8} (h1 : Lib.compareBytes a b < 0) (h2 : Lib.compareBytes b c ≤ 0) : Lib.compareBytes a c < 0 := by
  have h3 := cb_le a b c (by omega) h2
  by_cases h4 : Lib.compareBytes a c = 0
  · have := cb_zero _ _ h4
    subst this
    have := cb_anti a b
    omega
  · omega
theorem cb_bd : ∀ a b : List UInt8, -1 ≤ Lib.compareBytes a b ∧ Lib.compareBytes a b ≤ 1
  | [], [] => by unfold Lib.compareBytes; omega
  | [], _ :: _ => by unfold Lib.compareBytes; omega
  | _ :: _, [] => by unfold Lib.compareBytes; omega
  | x :: a, y :: b => by
    have ih := cb_bd a b
    unfold Lib.compareBytes
    split
    · omega
    · split
      · omega
      · exact ih

/-- A handle and its prefix. -/
abbrev Mn := ByteArray × ByteArray
def hB (x : Mn) : List UInt8 := x.1.data.toList
def cfM (x y : Mn) : Int := Lib.compareBytes (hB x) (hB y)
theorem swoM : Sort.SWO (ltOf cfM) where
  irrefl x := by unfold ltOf cfM; rw [cb_self]; rfl
  trans x y z h1 h2 := by
    unfold ltOf cfM at *
    have h1 := of_decide_eq_true h1
    have h2 := of_decide_eq_true h2
    exact decide_eq_true (cb_lt (by omega) h2)
  ntrans x y z h1 h2 := by
    unfold ltOf cfM at *
    have h1 := of_decide_eq_false h1
    have h2 := of_decide_eq_false h2
    refine decide_eq_false ?_
    have a1 := cb_anti (hB x) (hB y)
    have a2 := cb_anti (hB y) (hB z)
    have a3 := cb_anti (hB x) (hB z)
    have := cb_le (hB z) (hB y) (hB x) (by omega) (by omega)
    omega
def mAt (l : List Mn) (i : Nat) : Mn := l[i]?.getD (⟨#[]⟩, ⟨#[]⟩)
theorem mAt_get {l : List Mn} {i : Nat} (h : i < l.length) : mAt l i = l[i] := by unfold mAt; rw [List.getElem?_eq_getElem h]; rfl
/-- Sorted, and no handle twice. -/
def Srt (l : List Mn) : Prop := ∀ i j, i < j → j < l.length → Lib.compareBytes (hB (mAt l i)) (hB (mAt l j)) < 0
/-- Which prefix a row has for a handle. -/
def inRow (l : List Mn) (h : ByteArray) : Option ByteArray := (l.find? fun x => decide (hB x = h.data.toList)).map (·.2)
def inRows (R : List (List Mn)) (h : ByteArray) : Option ByteArray := (R.flatten.find? fun x => decide (hB x = h.data.toList)).map (·.2)
theorem inRows_nil (h : ByteArray) : inRows [] h = none := rfl
theorem inRows_cons (l : List Mn) (R : List (List Mn)) (h : ByteArray) : inRows (l :: R) h = (inRow l h).or (inRows R h) := by
  unfold inRows inRow
  rw [List.flatten_cons, List.find?_append]
  cases (l.find? fun x => decide (hB x = h.data.toList)) <;> simp
/-- Where a search ends that goes on where all ahead are less and none behind is. -/
theorem found_at {l : List Mn} {h : ByteArray} {i : Nat} (hS : Srt l) (hi : i ≤ l.length) (h1 : ∀ j, j < i → Lib.compareBytes (hB (mAt l j)) h.data.toList < 0)
    (h2 : ∀ j, i ≤ j → j < l.length → 0 ≤ Lib.compareBytes (hB (mAt l j)) h.data.toList) :
    inRow l h = if i < l.length ∧ Lib.compareBytes (hB (mAt l i)) h.data.toList = 0 then some (mAt l i).2 else none := by
  unfold inRow
  split
  · rename_i hc
    have hz := cb_zero _ _ hc.2
    have e : l.find? (fun x => decide (hB x = h.data.toList)) = some (mAt l i) := by
      rw [List.find?_eq_some_iff_getElem]
      refine ⟨decide_eq_true hz, i, hc.1, ?_, fun j hj => ?_⟩
      · exact (mAt_get hc.1).symm
      · have := h1 j hj
        have e2 : mAt l j = l[j] := mAt_get (by omega)
        rw [e2] at this
        simp
        intro e3
        rw [e3, cb_self] at this
        omega
    rw [e]
    rfl
  · rename_i hc
    have e : l.find? (fun x => decide (hB x = h.data.toList)) = none := by
      rw [List.find?_eq_none]
      intro x hx
      obtain ⟨j, hj, rfl⟩ := List.mem_iff_getElem.1 hx
      have e2 : mAt l j = l[j] := mAt_get hj
      simp
      intro e3
      have e4 : Lib.compareBytes (hB (mAt l j)) h.data.toList = 0 := by rw [e2, e3, cb_self]
      by_cases a1 : j < i
      · have := h1 j a1; omega
      · by_cases a2 : j = i
        · subst a2; exact hc ⟨hj, e4⟩
        · have h5 := hS i j (by omega) hj
          have e5 := cb_zero _ _ e4
          rw [e5] at h5
          have := h2 i (Nat.le_refl _) (by omega)
          omega
    rw [e]
    rfl
end Go.Proofs.Ytmeojnpehmhmoaa
