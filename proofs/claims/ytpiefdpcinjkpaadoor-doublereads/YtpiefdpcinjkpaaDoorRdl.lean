/- DoubleReads, as it runs. -/
import Derived.Test.YtpiefdpcinjkpaaDoorRdr
import Derived.Test.YtpiefdpcinjkpaaDoorRde
import Derived.Test.YtpiefdpcinjkpaaDoorRed
import Derived.Test.YtpiefdpcinjkpaaDoorAlv
import Derived.Test.YtpiefdpcinjkpaaDoorPln
set_option linter.unusedVariables false
set_option linter.unusedSimpArgs false
namespace Go.Proofs.YtpiefdpcinjkpaaDoor
open Go.RowKit Go.Shelf

theorem uP_len (last : Bool) (t : List Int) : (uP last t).length ≤ t.length := by
  have := itP_len last t 0
  unfold uP
  split
  · rw [List.length_dropLast]; omega
  · exact this
theorem rs_len (ls : List (List Int)) (h : ∀ k, (lAt ls k).length ≤ 200) : ∀ k, (rsAt ls k).em ≤ k ∧ (rsAt ls k).out.length ≤ k * 201 + k * k
  | 0 => by simp [rsAt]
  | k + 1 => by
    obtain ⟨h1, h2⟩ := rs_len ls h k
    have h3 := uP_len (decide (k + 1 = ls.length)) (lAt ls k)
    have h4 := h k
    have h5 := frI_len (decide (0 < k)) (uP (decide (k + 1 = ls.length)) (lAt ls k))
    have h6 := bkI_len (decide (k + 1 < ls.length) && !onP (decide (k + 1 = ls.length)) (lAt ls k)) (frI (decide (0 < k)) (uP (decide (k + 1 = ls.length)) (lAt ls k)))
    have h7 : (k + 1) * (k + 1) = k * k + k + k + 1 := by rw [Nat.add_mul, Nat.mul_add]; omega
    rw [rsAt]
    unfold rsNext ruP
    split
    · exact ⟨by dsimp only; omega, by dsimp only; omega⟩
    · refine ⟨Nat.zero_le _, ?_⟩
      simp only [List.length_append, List.length_replicate, List.length_map]
      have h8 : (if 0 < k ∧ (rsAt ls k).jn = false ∧ (rsAt ls k).em = 0 then [32] else ([] : List Int)).length ≤ 1 := by split <;> simp
      omega
theorem lAt_small {R : List Row} (h : bigB R = false) (k : Nat) : (lAt (R.map (·.t)) k).length ≤ 200 := by
  have := (big_small h).2 k
  unfold tAt at this
  unfold lAt
  rw [List.getElem?_map]
  cases hr : R[k]? with
  | none => simp
  | some r => rw [hr] at this; exact this
theorem row_small {R : List Row} (h : bigB R = false) : ∀ r ∈ R, r.t.length ≤ 200 := fun r hr => by
  obtain ⟨i, hi, rfl⟩ := List.getElem_of_mem hr
  have := (big_small h).2 i
  unfold tAt at this
  rw [List.getElem?_eq_getElem hi] at this
  exact this
theorem tot_le (ls : List (List Int)) (h : ∀ k, (lAt ls k).length ≤ 200) : ∀ k, totK ls k ≤ k * 200
  | 0 => by simp [totK]
  | k + 1 => by
    have h1 := tot_le ls h k
    have h2 := h k
    rw [totK]; omega

set_option maxRecDepth 100000 in
set_option maxHeartbeats 2000000 in
theorem reads_law (p : Option Addr) (R : List Row) (cap : Nat) (w : World) (hl : R.length ≤ maxLen) (hM : Mt w p R) (hT : Tab w) :
    Calls Tryd.prog 3 #[.slice p R.length cap] w fun e w' => e = .returned (.bool true) ∧ Below w.heap.size w w' := by
  have AL := alive_any w hT
  have BG := fun W h => big_any p R cap W hl h
  cases hb : bigB R with
  | true =>
    rw [hb] at BG
    go_enter Tryd.func3, Tryd.ntmps3
    go_wp2_with (first | (go_at_call 9; refine AL.mono ?_; rintro e W ⟨rfl, hB⟩) | (go_at_call 10; refine (BG _ (hM.on hB)).mono ?_; rintro e W ⟨rfl, rfl⟩))
    go_ret
    exact ⟨rfl, hB⟩
  | false =>
    rw [hb] at BG
    obtain ⟨s1, -⟩ := big_small hb
    have hrow := row_small hb
    have hla := lAt_small hb
    have ht := tot_le _ hla R.length
    have RD := fun W (h : Below w.heap.size w W) => Read_any p R cap W (hM.on h) (by omega) (by omega) (hT.on h)
    have RR := fun W (h : Below w.heap.size w W) => refRead_any p R cap W (hM.on h) s1 hrow
    have hlen : (R.map (·.t)).length = R.length := by simp
    obtain ⟨ls, hls⟩ : ∃ ls, R.map (·.t) = ls := ⟨_, rfl⟩
    rw [hls] at RD RR hla hlen
    have hrl := (rs_len ls hla R.length).2
    have hkk : R.length * R.length ≤ 40 * 40 := Nat.mul_le_mul s1 s1
    by_cases hE : readE ls = 0
    · have hz := readE_zero hE
      have hX := readT_rs ls hz
      rw [hlen] at hz hX
      rw [← hX] at hrl
      have RD' : ∀ W, Below w.heap.size w W → Calls Tryd.prog 11 #[.slice p R.length cap] W fun e w' => ∃ q c, e = .returned (.tuple #[.slice q (readT ls).length c, .int .i64 0]) ∧ Is w' q (readT ls) ∧ Below W.heap.size W w' := fun W h => (RD W h).mono (by
        rintro e w' ⟨hb, (⟨h, -⟩ | ⟨-, v, rfl, ho⟩)⟩
        · exact absurd hE h
        · obtain ⟨q', c', rfl, hI'⟩ := ho.read
          exact ⟨q', c', rfl, hI', hb⟩)
      have RR' : ∀ W, Below w.heap.size w W → Calls Tryd.prog 12 #[.slice p R.length cap] W fun e w' => ∃ q c, e = .returned (.tuple #[.slice q (readT ls).length c, .int .i64 0]) ∧ Is w' q (readT ls) ∧ Below W.heap.size W w' := fun W h => (RR W h).mono (by
        rintro e w' ⟨hb, (⟨k, hk, -, h, -⟩ | ⟨-, v, rfl, ho⟩)⟩
        · exact absurd (hz k hk) h
        · rw [← hX] at ho
          obtain ⟨q', c', rfl, hI'⟩ := ho.read
          exact ⟨q', c', rfl, hI', hb⟩)
      have SI := fun p q c d W => same_ints p q (readT ls) c d W (by omega)
      generalize readT ls = T at RD' RR' SI
      clear RD RR hX hz hE hrl hkk hla ht hrow hls hlen
      go_enter Tryd.func3, Tryd.ntmps3
      go_wp2_with (first | (go_at_call 9; refine AL.mono ?_; rintro e W ⟨rfl, hB⟩) | (go_at_call 10; refine (BG _ (hM.on hB)).mono ?_; rintro e W1 ⟨rfl, rfl⟩) | (go_at_call 11; refine (RD' _ hB).mono ?_; rintro e W2 ⟨q2, c2, rfl, hI2, hb2⟩) | (go_at_call 12; refine (RR' _ (hB.trans (hb2.mono hB.size))).mono ?_; rintro e W3 ⟨q3, c3, rfl, hI3, hb3⟩) | (go_at_call 13; refine (num_any _ _).mono ?_; rintro e W7 ⟨rfl, rfl⟩))
      refine (SI _ _ _ _ _ (hI2.on hb3) hI3).mono ?_
      rintro e W6 ⟨rfl, m6, rfl⟩
      go_wp2
      go_ret
      exact ⟨rfl, belowN ((hB.trans (hb2.mono hB.size)).trans (hb3.mono (Nat.le_trans hB.size hb2.size))) _⟩
    · have RD' : ∀ W, Below w.heap.size w W → Calls Tryd.prog 11 #[.slice p R.length cap] W fun e w' => e = .returned (.tuple #[.slice none ([] : List Int).length 0, .int .i64 (readE ls : Nat)]) ∧ Below W.heap.size W w' := fun W h => (RD W h).mono (by
        rintro e w' ⟨hb, (⟨-, h⟩ | ⟨h, -⟩)⟩
        · exact ⟨h, hb⟩
        · exact absurd h hE)
      have RR' : ∀ W, Below w.heap.size w W → Calls Tryd.prog 12 #[.slice p R.length cap] W fun e w' => e = .returned (.tuple #[.slice none ([] : List Int).length 0, .int .i64 (readE ls : Nat)]) ∧ Below W.heap.size W w' := fun W h => (RR W h).mono (by
        rintro e w' ⟨hb, (⟨k, hk, h1, h2, h3⟩ | ⟨h, -⟩)⟩
        · have : readE ls = flP (decide (k + 1 = R.length)) 0 (lAt ls k) := by
            rw [readE_first (k := k) (by omega) (fun j hj => by rw [flAt_eq, hlen]; exact h1 j hj) (by rw [flAt_eq, hlen]; exact h2), flAt_eq, hlen]
          rw [this]
          exact ⟨h3, hb⟩
        · exact absurd (readE_none (fun k hk => by rw [flAt_eq, hlen]; exact h k (by omega))) hE)
      have SI := fun p q c d W => same_ints p q [] c d W (by simp)
      generalize readE ls = E at RD' RR'
      clear RD RR hE hrl hkk hla ht hrow hls hlen
      go_enter Tryd.func3, Tryd.ntmps3
      go_wp2_with (first | (go_at_call 9; refine AL.mono ?_; rintro e W ⟨rfl, hB⟩) | (go_at_call 10; refine (BG _ (hM.on hB)).mono ?_; rintro e W1 ⟨rfl, rfl⟩) | (go_at_call 11; refine (RD' _ hB).mono ?_; rintro e W2 ⟨rfl, hb2⟩) | (go_at_call 12; refine (RR' _ (hB.trans (hb2.mono hB.size))).mono ?_; rintro e W3 ⟨rfl, hb3⟩) | (go_at_call 13; refine (num_any _ _).mono ?_; rintro e W7 ⟨rfl, rfl⟩))
      refine (SI none none 0 0 _ (.inl rfl) (.inl rfl)).mono ?_
      rintro e W6 ⟨rfl, m6, rfl⟩
      go_wp2
      go_ret
      exact ⟨rfl, belowN ((hB.trans (hb2.mono hB.size)).trans (hb3.mono (Nat.le_trans hB.size hb2.size))) _⟩
end Go.Proofs.YtpiefdpcinjkpaaDoor
