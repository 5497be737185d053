/- The document's own reading of lines between single quotes: the same text. -/
import Derived.Test.YtfblagepgflndaaRed
set_option linter.unusedVariables false
set_option linter.unusedSimpArgs false
namespace Go.Proofs.Ytfblagepgflndaa
open Go.RowKit Go.Shelf

def readF (t : List Int) (k : Nat) : List Int := (sgP k (t.drop k)).map (·.2.1)
theorem readF_two {t : List Int} {k : Nat} (h : k + 1 < t.length) (h1 : iAt t k = 39) (h2 : iAt t (k + 1) = 39) : readF t k = 39 :: readF t (k + 2) := by
  unfold readF; rw [sg_two h h1 h2]; rfl
theorem readF_one {t : List Int} {k : Nat} (h : k < t.length) (hn : ¬ (iAt t k = 39 ∧ k + 1 < t.length ∧ iAt t (k + 1) = 39)) : readF t k = iAt t k :: readF t (k + 1) := by
  unfold readF
  by_cases h3 : k + 1 < t.length
  · rw [sg_one h3 (fun h => hn ⟨h.1, h3, h.2⟩)]; rfl
  · rw [sg_last h h3]; rfl
theorem readF_end {t : List Int} {k : Nat} (h : t.length ≤ k) : readF t k = [] := by unfold readF; rw [sg_end h]; rfl

set_option maxRecDepth 100000 in
set_option maxHeartbeats 1000000 in
theorem refRead_any (p : Option Addr) (R : List Row) (cap : Nat) (w : World) (hS : Sized R) (hM : Mt w p R) :
    Calls Try.prog 11 #[.slice p R.length cap] w fun e w' => ∃ v, e = .returned v ∧ Owns w' w.heap.size v (readS (flowT R)) ∧ Below w.heap.size w w' := by
  have hlen : (flowT R).length ≤ 2199025352704 := by rw [flowT_flS]; exact flS_len R hS R.length (Nat.le_refl _)
  have FL := refFlow_any p R cap w hS hM
  generalize flowT R = t at FL hlen ⊢
  have hlen2 : (t.length : Int) ≤ 2199025352704 := by omega
  obtain ⟨S, hS'⟩ : ∃ S, readS t = S := ⟨_, rfl⟩
  rw [hS']
  have HS : Hid (readF t 0 = S) := hS'
  clear hS'
  go_enter Try.func11, Try.ntmps11
  go_wp2_with (first | (go_at_call 16; refine FL.mono ?_; rintro e W1 ⟨v, rfl, ho1, hb1⟩; obtain ⟨q, c, rfl, hI⟩ := Owns.read ho1))
  go_loopw [4, 5] (fun ov iv wr => ∃ (k : Nat) (pre : List Int), k ≤ t.length ∧ pre.length ≤ k ∧ iv = .int .i64 k ∧ Hid (pre ++ readF t k = S) ∧ Owns wr W1.heap.size ov pre ∧ Below W1.heap.size W1 wr) (fun _ iv _ => t.length - (intOf iv).toNat)
  case atStart => exact ⟨0, [], Nat.zero_le _, Nat.le_refl _, rfl, HS, World.ownsRow_nil _ _ 3 1, Below.refl _ _⟩
  case round =>
    obtain ⟨k, pre, hk, hpk, rfl, Hs, ho, hb⟩ := hrel
    obtain ⟨va, vk, vq, rfl⟩ := ownsRow_form ho
    by_cases hlt : k < t.length
    · have hli : (k : Int) < t.length := by omega
      have hIr := hI.on hb
      obtain ⟨b, o, rfl, hu⟩ := hIr.at (by omega)
      have c0 := hu k hlt
      obtain ⟨v4, W4, hr4, ho4, hb4⟩ := push1w ho hb.size (by omega) (iAt t k)
      obtain ⟨v4a, v4k, v4c, rfl⟩ := ownsRow_form ho4
      have hb5 := hb.trans hb4
      obtain ⟨b', o', e', hu'⟩ := (hI.on hb5).at (by omega)
      cases e'
      have c4 := hu' k hlt
      by_cases h1 : iAt t k = 39
      · rw [h1] at c0 c4 ho4 hr4
        by_cases h2 : k + 1 < t.length
        · have h2' : (k : Int) + 1 < t.length := by omega
          have c5 := hu' (k + 1) h2
          by_cases h3 : iAt t (k + 1) = 39
          · have Hs' : Hid ((pre ++ [39]) ++ readF t (k + 2) = S) := by show _ = _; rw [← Hs.out, readF_two h2 h1 h3]; simp
            rw [h3] at c5
            clear hu hu' hI hIr Hs
            go_wp2_with (first | (at_builtin; refine wpList_append_run (u := .slice va vk vq) (y := .slice (some ⟨wr.heap.size, 0, none⟩) 1 1) rfl _ _ 24 rfl rfl rfl hr4 ?_; clear hr4))
            go_roundw
            case rel => exact ⟨k + 2, pre ++ [39], by omega, by simp; omega, by go_num, Hs', ho4, hb5⟩
            case measure => simp [intOf]; omega
          · have Hs' : Hid ((pre ++ [39]) ++ readF t (k + 1) = S) := by show _ = _; rw [← Hs.out, readF_one hlt (fun h => h3 h.2.2), h1]; simp
            have h3' : (iAt t (k + 1) == 39) = false := by simpa using h3
            generalize iAt t (k + 1) = y at c5 h3 h3'
            clear hu hu' hI hIr Hs
            go_wp2_with (first | (at_builtin; refine wpList_append_run (u := .slice va vk vq) (y := .slice (some ⟨wr.heap.size, 0, none⟩) 1 1) rfl _ _ 24 rfl rfl rfl hr4 ?_; clear hr4))
            go_roundw
            case rel => exact ⟨k + 1, pre ++ [39], by omega, by simp; omega, by go_num, Hs', ho4, hb5⟩
            case measure => simp [intOf]; omega
        · have h2' : decide ((k : Int) + 1 < t.length) = false := by simp; omega
          have h2'' : ¬ (k : Int) + 1 < t.length := by omega
          have Hs' : Hid ((pre ++ [39]) ++ readF t (k + 1) = S) := by show _ = _; rw [← Hs.out, readF_one hlt (fun h => h2 h.2.1), h1]; simp
          clear hu hu' hI hIr Hs
          go_wp2_with (first | (at_builtin; refine wpList_append_run (u := .slice va vk vq) (y := .slice (some ⟨wr.heap.size, 0, none⟩) 1 1) rfl _ _ 24 rfl rfl rfl hr4 ?_; clear hr4))
          go_roundw
          case rel => exact ⟨k + 1, pre ++ [39], by omega, by simp; omega, by go_num, Hs', ho4, hb5⟩
          case measure => simp [intOf]; omega
      · have Hs' : Hid ((pre ++ [iAt t k]) ++ readF t (k + 1) = S) := by show _ = _; rw [← Hs.out, readF_one hlt (fun h => h1 h.1)]; simp
        have h1' : (iAt t k == 39) = false := by simpa using h1
        generalize iAt t k = x at c0 c4 ho4 hr4 h1 h1' Hs'
        clear hu hu' hI hIr Hs
        go_wp2_with (first | (at_builtin; refine wpList_append_run (u := .slice va vk vq) (y := .slice (some ⟨wr.heap.size, 0, none⟩) 1 1) rfl _ _ 24 rfl rfl rfl hr4 ?_; clear hr4))
        go_roundw
        case rel => exact ⟨k + 1, pre ++ [x], by omega, by simp; omega, by go_num, Hs', ho4, hb5⟩
        case measure => simp [intOf]; omega
    · obtain rfl : k = t.length := by omega
      have hE := Hs.out
      rw [readF_end (Nat.le_refl _), List.append_nil] at hE
      clear hI Hs
      go_wp2
      go_ret
      exact ⟨_, rfl, hE ▸ ownsRow_mono ho hb1.size, hb1.trans (hb.mono hb1.size)⟩
end Go.Proofs.Ytfblagepgflndaa
