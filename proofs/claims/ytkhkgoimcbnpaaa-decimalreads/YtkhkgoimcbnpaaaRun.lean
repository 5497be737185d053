/- The document's own: run. -/
import Derived.Test.YtkhkgoimcbnpaaaRefP
import Derived.Test.YtkhkgoimcbnpaaaRInt
set_option linter.unusedVariables false
set_option linter.unusedSimpArgs false
namespace Go.Proofs.Ytkhkgoimcbnpaaa
open Go.RowKit

def rlen (t : ByteArray) (i : Nat) : Nat := (tk (t.data.toList.drop i)).length
theorem rlen_le (t : ByteArray) (i : Nat) (h : i ≤ t.size) : i + rlen t i ≤ t.size := by
  have h1 : (tk (t.data.toList.drop i)).length ≤ (t.data.toList.drop i).length := by
    conv => rhs; rw [tk_dk (t.data.toList.drop i)]
    rw [List.length_append]; omega
  rw [List.length_drop, ← Lib.size_eq] at h1
  unfold rlen
  omega
theorem tk_at {l : List UInt8} {j : Nat} (h : j < (tk l).length) : ∃ c, l[j]? = some c ∧ isD c = true := by
  refine ⟨(tk l)[j], ?_, List.all_eq_true.1 (tk_all l) _ (List.getElem_mem h)⟩
  conv => lhs; rw [tk_dk l]
  rw [List.getElem?_append_left h, List.getElem?_eq_getElem h]
theorem tk_end {l : List UInt8} (h : (tk l).length < l.length) : ∃ c, l[(tk l).length]? = some c ∧ isD c = false := by
  cases hd : dk l with
  | nil =>
    have := tk_dk l
    rw [hd, List.append_nil] at this
    rw [← this] at h
    omega
  | cons c r =>
    refine ⟨c, ?_, dk_head hd⟩
    have h1 := tk_dk l
    rw [hd] at h1
    have h2 : l[(tk l).length]? = (tk l ++ c :: r)[(tk l).length]? := by rw [← h1]
    rw [h2, List.getElem?_append_right (Nat.le_refl _), Nat.sub_self]
    rfl
theorem run_at {t : ByteArray} {i j : Nat} (h : j < rlen t i) (hs : i + j < t.size) : isD t[i + j] = true := by
  obtain ⟨c, h1, h2⟩ := tk_at (l := t.data.toList.drop i) h
  rw [List.getElem?_drop, byte_get t (i + j) hs] at h1
  cases h1
  exact h2
theorem run_end {t : ByteArray} {i : Nat} (hs : i + rlen t i < t.size) : isD t[i + rlen t i] = false := by
  obtain ⟨c, h1, h2⟩ := tk_end (l := t.data.toList.drop i) (by rw [List.length_drop, ← Lib.size_eq]; unfold rlen at hs; omega)
  rw [List.getElem?_drop] at h1
  have h3 := byte_get t (i + rlen t i) hs
  unfold rlen at h3
  rw [h3] at h1
  have h4 := Option.some.inj h1
  have h5 : t[i + rlen t i] = c := h4
  rw [h5]
  exact h2

set_option maxRecDepth 100000 in
set_option maxHeartbeats 400000 in
theorem run_any (t : ByteArray) (i : Nat) (w : World) (h : i ≤ t.size) (hs : t.size ≤ 100000) :
    Calls Try.prog 25 #[.string t, .int .i64 i] w fun e w' => e = .returned (.tuple #[.string (t.extract i (i + rlen t i)), .int .i64 ((i + rlen t i : Nat) : Int)]) ∧ w' = w := by
  have hle := rlen_le t i h
  have HA : Hid (∀ m, i ≤ m → m < i + rlen t i → ∀ hs : m < t.size, isD t[m] = true) := fun m h1 h2 hs => by
    obtain ⟨j, rfl⟩ : ∃ j, m = i + j := ⟨m - i, by omega⟩
    exact run_at (by omega) hs
  have HE : Hid (∀ hs : i + rlen t i < t.size, isD t[i + rlen t i] = false) := fun hs => run_end hs
  have hiE : i ≤ i + rlen t i := by omega
  generalize i + rlen t i = E at *
  go_enter Try.func25, Try.ntmps25
  go_wp2
  go_loop [1] (fun v => ∃ (m : Nat), i ≤ m ∧ m ≤ E ∧ v = .int .i64 m) (fun v => t.size - (intOf v).toNat)
  case atStart => exact ⟨i, Nat.le_refl _, hiE, rfl⟩
  case round =>
    obtain ⟨m, him, hmE, rfl⟩ := hrel
    have hmb : (m : Int) ≤ 100000 := by omega
    by_cases hlt : m < E
    · have hms : m < t.size := by omega
      have hD' := isD_iff.1 (HA.out m him hlt hms)
      have g1 := hD'.1
      have g2 := hD'.2
      have hl : (m : Int) < t.size := by omega
      clear hD'
      go_wp2
      go_round
      case rel => exact ⟨m + 1, by omega, by omega, by go_num⟩
      case measure => simp [intOf] <;> omega
    · obtain rfl : m = E := by omega
      have hi0 : (i : Int) ≤ m := by omega
      have hm1 : (m : Int) ≤ t.size := by omega
      by_cases hms : m < t.size
      · have hD := HE.out hms
        have hl : (m : Int) < t.size := by omega
        have hc : ¬ (48 : Int) ≤ t[m].toNat ∨ ((48 : Int) ≤ t[m].toNat ∧ ¬ (t[m].toNat : Int) ≤ 57) := by
          by_cases h1 : (48 : Int) ≤ t[m].toNat
          · right
            refine ⟨h1, fun h2 => ?_⟩
            rw [isD_iff.2 ⟨h1, h2⟩] at hD
            cases hD
          · exact .inl h1
        clear hD HE HA
        rcases hc with g1 | ⟨g1, g2⟩
        all_goals
          go_wp2
          go_ret2
          exact ⟨rfl, rfl⟩
      · have hl : ¬ (m : Int) < t.size := by omega
        clear HE HA
        go_wp2
        go_ret2
        exact ⟨rfl, rfl⟩
end Go.Proofs.Ytkhkgoimcbnpaaa
