/- The document's Begins, words and Short. -/
import Derived.Test.YtmeojnpehmhmoaaSho
set_option linter.all false
set_option maxRecDepth 100000
namespace Go.Proofs.Ytmeojnpehmhmoaa
open Go.RowKit Go.Shelf Go.Lib

set_option maxHeartbeats 1000000 in
theorem rBegins_any (s p : ByteArray) (w : World) (hs : s.size ≤ 1000000) :
    Calls Try.prog 27 #[.string s, .string p] w fun e w' => e = .returned (.bool (begB s p)) ∧ w' = w := by
  by_cases h1 : p.size ≤ s.size
  · have h2 : (p.size : Int) ≤ s.size := by omega
    go_enter Try.func27, Try.ntmps27
    go_wp2
    all_goals go_ret
    all_goals (refine ⟨?_, rfl⟩; unfold begB; rw [decide_eq_true h1]; simp_all)
  · have h2 : ¬ (p.size : Int) ≤ s.size := by omega
    go_enter Try.func27, Try.ntmps27
    go_wp2
    all_goals go_ret
    all_goals (refine ⟨?_, rfl⟩; unfold begB; rw [decide_eq_false h1]; simp_all)

def rwdB (s : ByteArray) : Bool := decide (∀ j (h : j < s.size), wordP (s[j].toNat : Int) = true) && !(s.toList.isEmpty)
set_option maxHeartbeats 1000000 in
theorem rwords_any (s : ByteArray) (w : World) (hs : s.size ≤ 1000000) :
    Calls Try.prog 28 #[.string s] w fun e w' => e = .returned (.bool (rwdB s)) ∧ w' = w := by
  go_enter Try.func28, Try.ntmps28
  go_wp2
  go_loop [3] (fun i => ∃ k : Nat, k ≤ s.size ∧ i = .int .i64 k ∧ Hid (∀ j (h : j < s.size), j < k → wordP (s[j].toNat : Int) = true)) (fun i => s.size - (RowKit.intOf i).toNat)
  case atStart => exact ⟨0, Nat.zero_le _, rfl, fun j _ hj => by omega⟩
  case round =>
    obtain ⟨k, hk, rfl, hno⟩ := hrel
    by_cases hlt : k < s.size
    · have hwb := wrap_byte s[k]
      have RW := rword_any (s[k].toNat : Int) w
      cases hv : wordP (s[k].toNat : Int) with
      | false =>
        rw [hv] at RW
        have HR : Hid (rwdB s = false) := by
          show rwdB s = false
          unfold rwdB
          rw [decide_eq_false (fun h => by rw [h k hlt] at hv; cases hv)]
          rfl
        clear hno
        go_wp2_with (first | (go_at_call 45; refine RW.mono ?_; rintro e w' ⟨rfl, rfl⟩))
        go_ret
        exact ⟨ret_bool HR.out.symm, rfl⟩
      | true =>
        rw [hv] at RW
        have HN : Hid (∀ j (h : j < s.size), j < k + 1 → wordP (s[j].toNat : Int) = true) := fun j h hj => by
          by_cases e : j = k
          · subst e; exact hv
          · exact hno.out j h (by omega)
        clear hno hv
        go_wp2_with (first | (go_at_call 45; refine RW.mono ?_; rintro e w' ⟨rfl, rfl⟩))
        go_round
        case rel => exact ⟨k + 1, by omega, by go_num, HN.out⟩
        case measure => simp [RowKit.intOf]; omega
    · obtain rfl : k = s.size := by omega
      have HR : Hid (rwdB s = !(s.toList.isEmpty)) := by
        show rwdB s = !(s.toList.isEmpty)
        unfold rwdB
        rw [decide_eq_true (fun j h => hno.out j h h)]
        rfl
      clear hno
      go_wp2
      go_ret
      exact ⟨ret_bool HR.out.symm, rfl⟩

/-- ASCII texts are told byte by byte. -/
theorem rnS_ascii (s : ByteArray) (h : ∀ j (h : j < s.size), s[j].toNat < 128) : ∀ f p, s.size - p ≤ f → rnS s p = (zs s.data.toList).drop p := by
  intro f
  induction f with
  | zero =>
    intro p hp
    rw [rnS_stop (by omega), List.drop_eq_nil_of_le (by rw [zs_len]; simp; omega)]
  | succ f ih =>
    intro p hp
    by_cases hlt : p < s.size
    · rw [rnS_step hlt, decode_ascii s p hlt (h p hlt)]
      dsimp only
      rw [ih (p + 1) (by omega)]
      have hl : p < (zs s.data.toList).length := by rw [zs_len]; simpa using hlt
      rw [List.drop_eq_getElem_cons hl]
      congr 1
      simp [zs]
      rfl
    · rw [rnS_stop hlt, List.drop_eq_nil_of_le (by rw [zs_len]; simp; omega)]
theorem rnS_asc {s : ByteArray} (h : ∀ j (h : j < s.size), s[j].toNat < 128) : rnS s 0 = zs s.data.toList := by
  rw [rnS_ascii s h _ 0 (Nat.le_refl _)]; rfl
/-- A byte that is not ASCII is told by a code point that is none. -/
theorem rnS_high (s : ByteArray) : ∀ f p, s.size - p ≤ f → (∃ j, ∃ h : j < s.size, p ≤ j ∧ 128 ≤ s[j].toNat) → ∃ c ∈ rnS s p, 128 ≤ c := by
  intro f
  induction f with
  | zero =>
    rintro p hp ⟨j, hj, h1, h2⟩
    omega
  | succ f ih =>
    rintro p hp ⟨j, hj, h1, h2⟩
    have hlt : p < s.size := by omega
    rw [rnS_step hlt]
    by_cases ha : (s[p]'hlt).toNat < 128
    · rw [decode_ascii s p hlt ha]
      dsimp only
      have hne : j ≠ p := by rintro rfl; omega
      obtain ⟨c, hc, h3⟩ := ih (p + 1) (by omega) ⟨j, hj, by omega, h2⟩
      exact ⟨c, List.mem_cons_of_mem _ hc, h3⟩
    · have := (decode_high s p hlt (by omega)).1
      exact ⟨_, List.mem_cons_self .., by omega⟩
theorem word_low {c : Int} (h : wordP c = true) : 0 ≤ c ∧ c < 128 := by
  unfold wordP at h
  have := of_decide_eq_true h
  omega
theorem words_eq (s : ByteArray) : wordsB s = rwdB s := by
  unfold wordsB rwdB
  congr 1
  by_cases h : ∀ j (h : j < s.size), s[j].toNat < 128
  · rw [rnS_asc h, Bool.eq_iff_iff, List.all_eq_true, decide_eq_true_iff]
    constructor
    · intro h1 j hj
      exact h1 _ (by
        unfold zs
        refine List.mem_map.2 ⟨s[j], ?_, rfl⟩
        show s.data[j] ∈ s.data.toList
        simp)
    · intro h1 x hx
      unfold zs at hx
      obtain ⟨y, hy, rfl⟩ := List.mem_map.1 hx
      obtain ⟨j, hj, rfl⟩ := List.mem_iff_getElem.1 hy
      exact h1 j (by simpa using hj)
  · have h' : ∃ j, ∃ h : j < s.size, 128 ≤ s[j].toNat := by
      apply Classical.byContradiction
      intro hc
      refine h fun j hj => ?_
      apply Classical.byContradiction
      intro h2
      exact hc ⟨j, hj, by omega⟩
    obtain ⟨j, hj, h2⟩ := h'
    obtain ⟨c, hc, h3⟩ := rnS_high s _ 0 (Nat.le_refl _) ⟨j, hj, Nat.zero_le _, h2⟩
    have e1 : (rnS s 0).all wordP = false := by
      rw [List.all_eq_false]
      exact ⟨c, hc, fun hw => by have := word_low hw; omega⟩
    rw [e1, eq_comm, decide_eq_false_iff_not]
    intro hA
    have := word_low (hA j hj)
    omega
theorem valid_doc (s : ByteArray) : rvP s.data.toList = validB s := by
  rw [valid_eq]
  unfold validB
  simp
end Go.Proofs.Ytmeojnpehmhmoaa
