/- The document's Valid, and that both tell the same; PropsValid, as it runs. -/
import Derived.Test.YtjfeamfchgcblaaDoorDec

set_option linter.unusedVariables false
set_option linter.unusedSimpArgs false
namespace Go.Proofs.YtjfeamfchgcblaaDoor
open Go.RowKit Go.Shelf

theorem posF_len (n : Nat → Nat) : ∀ f k, (posF n f k).length ≤ f := by
  intro f
  induction f with
  | zero => intro k; simp [posF]
  | succ f ih =>
    intro k
    rw [posF]
    split
    · simp
    · have := ih (k + n k)
      simp
      omega
theorem pts_len (l : List UInt8) : (ptsP l).length ≤ l.length := by
  unfold ptsP
  split
  · rw [List.length_map]
    exact posF_len _ _ _
  · simp

/-- URI signs alone, one at least. -/
def onlyP (t : List Int) : Bool := decide (0 < t.length ∧ runE (uN t) t.length 0 = t.length)
def rvP (l : List UInt8) : Bool := ritP l && onlyP (ptsP l)

set_option maxRecDepth 100000 in
set_option maxHeartbeats 1000000 in
theorem rValid_any (s : ByteArray) (w : World) (hs : s.size ≤ 1048576) :
    Calls Tryd.prog 30 #[.string s] w fun e w' => e = .returned (.bool (rvP s.data.toList)) ∧ Below w.heap.size w w' := by
  have TX := Text_any s w hs
  have hpl := pts_len s.data.toList
  have hsz : s.data.toList.length ≤ 1048576 := by simpa using hs
  unfold rvP
  generalize ptsP s.data.toList = T at TX hpl ⊢
  generalize ritP s.data.toList = r at TX ⊢
  obtain ⟨V, hV⟩ : ∃ V, (r && onlyP T) = V := ⟨_, rfl⟩
  rw [hV]
  have hT : T.length ≤ 1048576 := by omega
  have hT2 : (T.length : Int) ≤ 1048576 := by omega
  clear hpl hsz
  cases r with
  | false =>
    obtain rfl : false = V := hV
    go_enter Tryd.func30, Tryd.ntmps30
    go_wp2_with (first | (go_at_call 40; refine TX.mono ?_; rintro e W2 ⟨v, rfl, ho, hb⟩))
    go_ret
    exact ⟨rfl, hb⟩
  | true =>
    rw [Bool.true_and] at hV
    have HV : Hid (onlyP T = V) := hV
    clear hV
    by_cases h0 : T.length = 0
    · obtain rfl : false = V := by rw [← HV.out]; unfold onlyP; exact (decide_eq_false (by omega)).symm
      go_enter Tryd.func30, Tryd.ntmps30
      go_wp2_with (first | (go_at_call 40; refine TX.mono ?_; rintro e W2 ⟨v, rfl, ho, hb⟩; obtain ⟨a, k, c, rfl⟩ := ownsRow_form ho; obtain ⟨hI, hk, hkc, hcm⟩ := is_of_row ho; rw [h0] at hk; subst hk))
      go_ret
      exact ⟨rfl, hb⟩
    · have h0' : ((T.length : Int) == 0) = false := by simp; intro e; subst e; simp at h0
      have hbd : Hid (Bd (uN T) T.length) := uN_bd T
      go_enter Tryd.func30, Tryd.ntmps30
      go_wp2_with (first | (go_at_call 40; refine TX.mono ?_; rintro e W2 ⟨v, rfl, ho, hb⟩; obtain ⟨a, k, c, rfl⟩ := ownsRow_form ho; obtain ⟨hI, hk, hkc, hcm⟩ := is_of_row ho; subst hk))
      have UR : Hid (∀ i, i ≤ T.length → Calls Tryd.prog 41 #[.slice a T.length c, .int .i64 i] W2 fun e w' => e = .returned (.int .i64 (uN T i : Nat)) ∧ w' = W2) := fun i hi => uri_any a T T.length c i W2 rfl (by omega) (by omega) hI
      clear ho TX
      go_loop [5] (fun iv => ∃ (k : Nat), k ≤ T.length ∧ iv = .int .i64 k ∧ Hid (runE (uN T) T.length k = runE (uN T) T.length 0)) (fun iv => T.length - (intOf iv).toNat)
      case atStart => exact ⟨0, by omega, rfl, rfl⟩
      case round =>
        obtain ⟨k, hk, rfl, HE⟩ := hrel
        by_cases hlt : k < T.length
        · have hli : (k : Int) < T.length := by omega
          have U1 := UR.out k hk
          by_cases hz : uN T k = 0
          · obtain rfl : false = V := by
              rw [← HV.out]
              unfold onlyP
              rw [← HE.out, runE_stop hz]
              exact (decide_eq_false (by omega)).symm
            rw [hz] at U1
            have e0 : ((0 : Nat) : Int) = 0 := rfl
            rw [e0] at U1
            clear HE UR hz
            go_wp2_with (first | (go_at_call 41; refine U1.mono ?_; rintro e W2 ⟨rfl, rfl⟩))
            go_ret
            exact ⟨rfl, hb⟩
          · have hle2 : k + uN T k ≤ T.length := by rcases hbd.out k with h | h <;> omega
            have HN : Hid (runE (uN T) T.length (k + uN T k) = runE (uN T) T.length 0) := (runE_step hbd.out hz).trans HE.out
            have hz' : ((uN T k : Int) == 0) = false := by simpa using hz
            generalize uN T k = z at *
            have hz2 : 0 < z := by omega
            clear HE UR hz
            go_wp2_with (first | (go_at_call 41; refine U1.mono ?_; rintro e W2 ⟨rfl, rfl⟩))
            go_round
            case rel => exact ⟨k + z, by omega, by go_num, HN⟩
            case measure => simp [intOf]; omega
        · have hge : ¬ (k : Int) < T.length := by omega
          obtain rfl : true = V := by
            rw [← HV.out]
            unfold onlyP
            obtain rfl : k = T.length := by omega
            rw [← HE.out, runE_stop (by unfold uN; rw [if_pos (Nat.le_refl _)])]
            exact (decide_eq_true ⟨by omega, rfl⟩).symm
          clear HE UR
          go_wp2
          go_ret
          exact ⟨rfl, hb⟩

theorem uriP_low {c : Int} (h : uriP c = true) : 0 ≤ c ∧ c < 128 := by
  unfold uriP wordP otherP at h
  simp at h
  omega
theorem hexOk_low {c : Int} (h : hexOk c = true) : 0 ≤ c ∧ c < 128 := by
  rw [hexOk_iff] at h
  omega
/-- What URI signs cover is ASCII. -/
theorem cover_low (t : List Int) : ∀ f k, t.length - k ≤ f → runE (uN t) t.length k = t.length → ∀ j, k ≤ j → j < t.length → 0 ≤ iAt t j ∧ iAt t j < 128 := by
  intro f
  induction f with
  | zero => intro k h1 h2 j h3 h4; omega
  | succ f ih =>
    intro k h1 h2 j h3 h4
    by_cases hz : uN t k = 0
    · rw [runE_stop hz] at h2; omega
    · have h5 := runE_step (L := t.length) (uN_bd t) hz
      rw [h2] at h5
      by_cases h6 : k + uN t k ≤ j
      · exact ih _ (by omega) h5 j h6 h4
      · unfold uN at hz h6
        rw [if_neg (by omega)] at hz h6
        split at h6
        · rename_i h7
          obtain rfl : j = k := by omega
          exact uriP_low h7
        · split at h6
          · rename_i h8
            obtain ⟨a1, a2, a3, a4⟩ := h8
            obtain rfl | rfl | rfl : j = k ∨ j = k + 1 ∨ j = k + 2 := by omega
            · omega
            · exact hexOk_low a3
            · exact hexOk_low a4
          · omega

/-- A text of ASCII is its own code points. -/
theorem pos_ascii (l : List UInt8) (h : ∀ j, j < l.length → bt l j < 128) : ∀ f k, k ≤ l.length → l.length - k ≤ f → runE (pN l) l.length k = l.length ∧ (posE (pN l) l.length k).map (pC l) = (zs l).drop k := by
  intro f
  induction f with
  | zero =>
    intro k hk h1
    have hz : pN l k = 0 := by unfold pN; rw [if_neg (by omega)]
    rw [runE_stop hz, posE_stop hz, List.drop_eq_nil_of_le (by rw [zs_len]; omega)]
    exact ⟨by omega, rfl⟩
  | succ f ih =>
    intro k hk h1
    by_cases hlt : k < l.length
    · obtain ⟨h2, h3⟩ := pN_ascii hlt (h k hlt)
      have hnz : pN l k ≠ 0 := by omega
      rw [← runE_step (pN_bd l) hnz, posE_step (pN_bd l) hnz, h2]
      obtain ⟨h4, h5⟩ := ih (k + 1) (by omega) (by omega)
      refine ⟨h4, ?_⟩
      have hk2 : k < (zs l).length := by rw [zs_len]; exact hlt
      have h6 : (zs l).drop k = iAt (zs l) k :: (zs l).drop (k + 1) := by
        rw [List.drop_eq_getElem_cons hk2]
        simp [iAt, hk2]
      rw [List.map_cons, h5, h3, ← zs_at, h6]
    · have hz : pN l k = 0 := by unfold pN; rw [if_neg hlt]
      rw [runE_stop hz, posE_stop hz, List.drop_eq_nil_of_le (by rw [zs_len]; omega)]
      exact ⟨by omega, rfl⟩
theorem pts_ascii {l : List UInt8} (h : ∀ j, j < l.length → bt l j < 128) : ritP l = true ∧ ptsP l = zs l := by
  obtain ⟨h1, h2⟩ := pos_ascii l h l.length 0 (Nat.zero_le _) (Nat.sub_le _ _)
  have h3 : ritP l = true := decide_eq_true h1
  refine ⟨h3, ?_⟩
  unfold ptsP
  rw [if_pos h3, h2, List.drop_zero]
theorem low_back (l : List UInt8) : ∀ f k, l.length - k ≤ f → runE (pN l) l.length k = l.length → (∀ x ∈ posE (pN l) l.length k, pC l x < 128) → ∀ j, k ≤ j → j < l.length → bt l j < 128 := by
  intro f
  induction f with
  | zero => intro k h1 h2 h3 j h4 h5; omega
  | succ f ih =>
    intro k h1 h2 h3 j h4 h5
    by_cases hz : pN l k = 0
    · rw [runE_stop hz] at h2; omega
    · have h6 := runE_step (L := l.length) (pN_bd l) hz
      rw [h2] at h6
      rw [posE_step (pN_bd l) hz] at h3
      obtain ⟨h7, h8⟩ := pN_low hz (h3 k (by simp))
      obtain ⟨h9, -⟩ := pN_ascii h7 h8
      rw [h9] at h6 h3
      by_cases e : j = k
      · rw [e]; exact h8
      · exact ih (k + 1) (by omega) h6 (fun x hx => h3 x (by simp [hx])) j (by omega) h5

theorem valid_eq (l : List UInt8) : rvP l = decide (0 < l.length ∧ runE (uN (zs l)) l.length 0 = l.length) := by
  have e : decide (0 < l.length ∧ runE (uN (zs l)) l.length 0 = l.length) = onlyP (zs l) := by unfold onlyP; rw [zs_len]
  rw [e]
  by_cases h : ∀ j, j < l.length → bt l j < 128
  · obtain ⟨h1, h2⟩ := pts_ascii h
    unfold rvP
    rw [h1, h2]
    rfl
  · have h1 : onlyP (zs l) = false := by
      unfold onlyP
      refine decide_eq_false (fun ⟨a1, a2⟩ => h fun j hj => ?_)
      have := cover_low (zs l) _ 0 (Nat.le_refl _) a2 j (Nat.zero_le _) (by rw [zs_len]; exact hj)
      rw [zs_at] at this
      omega
    rw [h1]
    unfold rvP
    cases h2 : ritP l with
    | false => rfl
    | true =>
      rw [Bool.true_and]
      unfold onlyP
      refine decide_eq_false (fun ⟨a1, a2⟩ => h fun j hj => ?_)
      have h3 : runE (pN l) l.length 0 = l.length := of_decide_eq_true h2
      refine low_back l _ 0 (Nat.le_refl _) h3 (fun x hx => ?_) j (Nat.zero_le _) hj
      have hp : ptsP l = (posE (pN l) l.length 0).map (pC l) := by unfold ptsP; rw [if_pos h2]
      obtain ⟨i, hi, hx2⟩ := List.mem_iff_getElem.1 hx
      have hi2 : i < (ptsP l).length := by rw [hp, List.length_map]; exact hi
      have := (cover_low (ptsP l) _ 0 (Nat.le_refl _) a2 i (Nat.zero_le _) hi2).2
      have h5 : iAt (ptsP l) i = pC l x := by
        unfold iAt
        rw [hp]
        simp [hi, hx2]
      rw [h5] at this
      exact this

end Go.Proofs.YtjfeamfchgcblaaDoor
