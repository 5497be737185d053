/- The document's own Tag, whole; alive; PropsRead, as it runs. -/
import Derived.Test.YtmeojnpehmhmoaaRta
import Derived.Test.YtmeojnpehmhmoaaRtb
import Derived.Test.YtmeojnpehmhmoaaRtc
set_option linter.unusedVariables false
set_option linter.unusedSimpArgs false
namespace Go.Proofs.Ytmeojnpehmhmoaa
open Go.RowKit Go.Shelf

set_option maxRecDepth 100000 in
set_option maxHeartbeats 1000000 in
theorem rTag_any (q : Option Addr) (t : List Int) (n c : Nat) (w : World) (hl : n = t.length) (hn : t.length ≤ 1000000) (hc : t.length ≤ c) (hm : c ≤ maxLen) (hI : Is w q t) :
    Calls Try.prog 42 #[.slice q n c] w fun e w' => e = .returned (tagV (tagP t)) ∧ Below w.heap.size w w' := by
  subst hl
  have hn2 : (t.length : Int) ≤ 1000000 := by omega
  obtain ⟨V, hV⟩ : ∃ V, tagV (tagP t) = V := ⟨_, rfl⟩
  rw [hV]
  unfold tagP at hV
  by_cases h0 : t.length = 0
  · rw [if_pos (.inl h0)] at hV
    subst hV
    rw [tagV_none]
    rw [h0]
    have e0 : ((0 : Nat) : Int) = 0 := rfl
    go_enter Try.func42, Try.ntmps42
    go_wp2
    go_ret3
    exact ⟨rfl, Below.refl _ _⟩
  · have h0' : ((t.length : Int) == 0) = false := by simp; intro e; subst e; simp at h0
    have h0'' : (0 : Int) < t.length := by omega
    obtain ⟨b, o, rfl, hu⟩ := hI.at (by omega)
    have c0 := hu 0 (by omega)
    rw [Nat.add_zero] at c0
    by_cases h1 : iAt t 0 = 33
    · rw [if_neg (by simp [h0, h1])] at hV
      by_cases h2 : 1 < t.length ∧ iAt t 1 = 60
      · rw [if_pos h2] at hV
        subst hV
        exact rang_any b o t c w hn hc hm h2.1 h1 h2.2 hI
      · rw [if_neg h2] at hV
        subst hV
        by_cases h3 : 1 < t.length
        · have h4 : iAt t 1 ≠ 60 := fun e => h2 ⟨h3, e⟩
          cases h5 : hdB t with
          | true => exact rsh_hd b o t c w hn hc hm h1 h3 h4 h5 hI
          | false => exact rsh_no b o t c w hn hc hm h1 h3 h4 h5 hI
        · exact rsh_one b o t c w hn hc hm h1 (by omega) hI
    · rw [if_pos (.inr h1)] at hV
      subst hV
      rw [tagV_none]
      have h1' : (iAt t 0 == 33) = false := by simpa using h1
      generalize iAt t 0 = x at c0 h1'
      clear hu hI h1
      go_enter Try.func42, Try.ntmps42
      go_wp2
      go_ret3
      exact ⟨rfl, Below.refl _ _⟩

theorem ex_tag : tagP [33, 33, 115, 116, 114, 32, 120] = some ([33, 33, 115, 116, 114], 5) := by decide +kernel
theorem ex_txt : txt [33, 33, 115, 116, 114] = ⟨#[33, 33, 115, 116, 114]⟩ := by decide +kernel

theorem ex1 (w : World) : Calls Try.prog 38 #[.slice (some ⟨w.heap.size, 0, none⟩) 7 7] (w.alloc (.cells #[.int .i64 33, .int .i64 33, .int .i64 115, .int .i64 116, .int .i64 114, .int .i64 32, .int .i64 120] 3)) fun e w' => e = .returned (.tuple #[.string ⟨#[33, 33, 115, 116, 114]⟩, .int .i64 5, .bool true]) ∧ Below w.heap.size w w' := by
  have h := Tag_any (some ⟨w.heap.size, 0, none⟩) [33, 33, 115, 116, 114, 32, 120] 7 7 (w.alloc (.cells #[.int .i64 33, .int .i64 33, .int .i64 115, .int .i64 116, .int .i64 114, .int .i64 32, .int .i64 120] 3)) rfl (by simp) (by simp) (by unfold maxLen; omega) (is_of_block (f := (0, 0)) (World.alloc_heap_new w _))
  rw [ex_tag, tagV_some, ex_txt] at h
  refine h.mono ?_
  rintro e w' ⟨rfl, hb⟩
  exact ⟨rfl, ((Below.refl _ w).alloc (Nat.le_refl _) _).trans (hb.mono (by simp))⟩

theorem big_int {n : Nat} (h : n ≤ maxLen) : (n : Int) ≤ 9223372036854775807 := by unfold maxLen at h; omega

theorem tagV_form (o : Option (List Int × Nat)) : ∃ s n ok, tagV o = .tuple #[.string s, .int .i64 (n : Nat), .bool ok] := by
  cases o with
  | none => exact ⟨_, 0, _, tagV_none⟩
  | some y => exact ⟨_, y.2, _, tagV_some y.1 y.2⟩

end Go.Proofs.Ytmeojnpehmhmoaa
