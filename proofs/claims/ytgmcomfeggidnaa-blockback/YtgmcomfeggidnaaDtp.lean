/- BlockDetects in plain terms. -/
import Derived.Test.YtgmcomfeggidnaaAlv
set_option linter.unusedVariables false
set_option linter.unusedSimpArgs false
namespace Go.Proofs.Ytgmcomfeggidnaa
open Go.RowKit Go.Shelf

def dtL (ahead at_ back : Int) (q r : Option Addr) : List Ln := [⟨ahead, none, [], 0⟩, ⟨at_, q, [97], 1⟩, ⟨back, r, [98], 1⟩]

theorem mark_short {t : List Int} (h : t.length < 3) (i : Int) : markP i t = 0 := by
  unfold markP mk3
  have : ¬ 3 ≤ t.length := by omega
  simp [this]
theorem dt_lead (ahead at_ back : Int) (q r : Option Addr) : leadN (dtL ahead at_ back q r) = 1 := by simp [dtL, leadN]
theorem dt_wide {ahead : Int} (h : 0 ≤ ahead) (at_ back : Int) (q r : Option Addr) : wideN (dtL ahead at_ back q r) 1 = ahead := by simp [dtL, wideN]; omega
theorem dt_ind {ahead at_ back n : Int} (h : 0 ≤ ahead) (q r : Option Addr) : indP (dtL ahead at_ back q r) 0 n = if n < at_ then (if at_ < ahead then none else some at_) else some (max (n + 1) ahead) := by
  unfold indP
  rw [if_neg (by decide), dt_lead, dt_wide h]
  have e : (dtL ahead at_ back q r)[1]? = some ⟨at_, q, [97], 1⟩ := rfl
  rw [e]
  dsimp only
  rw [mark_short (by decide)]
  simp

theorem wh_one (f : Bool) : wholeT (fp f) (rowsOf [[]]) 0 = [] := by cases f <;> decide +kernel
theorem wh_two (f : Bool) : wholeT (fp f) (rowsOf [[], [97]]) 0 = [10, 97, 10] := by cases f <;> decide +kernel
theorem wh_lit : wholeT (fp false) (rowsOf [[], [97], [98]]) 0 = [10, 97, 10, 98, 10] := by decide +kernel
theorem wh_fold : wholeT (fp true) (rowsOf [[], [97], [98]]) 0 = [10, 97, 32, 98, 10] := by decide +kernel
theorem wh_pad (f : Bool) : ∀ d : Fin 31, wholeT (fp f) (rowsOf [[], [97], List.replicate (d.val + 1) 32 ++ [98]]) 0 = [10, 97, 10] ++ List.replicate (d.val + 1) 32 ++ [98, 10] := by cases f <;> decide +kernel
theorem en_pad : ∀ d : Fin 31, encZ ([10, 97, 10] ++ List.replicate (d.val + 1) 32 ++ [98, 10]) = [10, 97, 10] ++ List.replicate (d.val + 1) 32 ++ [98, 10] := by decide +kernel

theorem det_low (f : Bool) {n at_ ahead back : Int} (q r : Option Addr) (hn : -1 ≤ n) (ha : 0 ≤ ahead) (h0 : 0 ≤ at_) (h : at_ ≤ n) : readV f 0 0 n (dtL ahead at_ back q r) = .tuple #[.string ⟨#[]⟩, .int .i64 1, .int .i64 0] := by
  unfold readV
  rw [show max n (-1) = n by omega, dt_ind ha, if_neg (by omega)]
  dsimp only
  have h2 : tkN (max (n + 1) ahead) (dtL ahead at_ back q r) = 1 := by
    refine tk_eq _ _ 1 (by simp [dtL]) (fun j x hj hx => ?_) (fun x hx => ?_)
    · obtain rfl : j = 0 := by omega
      cases hx
      simp [endsP]
    · cases hx
      have : at_ < max (n + 1) ahead := by omega
      simp [endsP, this]
  have h3 : pcsP (max (n + 1) ahead) (dtL ahead at_ back q r) = [[]] := by
    unfold pcsP
    rw [h2]
    have : (ahead - max (n + 1) ahead).toNat = 0 := by omega
    simp [dtL, behP, this]
  unfold readT
  rw [h2, h3, wh_one]
  rfl
theorem det_err (f : Bool) {n at_ ahead back : Int} (q r : Option Addr) (hn : -1 ≤ n) (ha : 0 ≤ ahead) (h : n < at_) (h1 : at_ < ahead) : readV f 0 0 n (dtL ahead at_ back q r) = .tuple #[.string ⟨#[]⟩, .int .i64 0, .int .i64 7] := by
  unfold readV
  rw [show max n (-1) = n by omega, dt_ind ha, if_pos h, if_pos h1]
theorem det_two (f : Bool) {n at_ ahead back : Int} (q r : Option Addr) (hn : -1 ≤ n) (ha : 0 ≤ ahead) (h : n < at_) (h1 : ¬ at_ < ahead) (h2 : back < at_) : readV f 0 0 n (dtL ahead at_ back q r) = .tuple #[.string ⟨#[10, 97, 10]⟩, .int .i64 2, .int .i64 0] := by
  unfold readV
  rw [show max n (-1) = n by omega, dt_ind ha, if_pos h, if_neg h1]
  dsimp only
  have h3 : tkN at_ (dtL ahead at_ back q r) = 2 := by
    refine tk_eq _ _ 2 (by simp [dtL]) (fun j x hj hx => ?_) (fun x hx => ?_)
    · match j, hj, hx with
      | 0, _, hx => cases hx; simp [endsP]
      | 1, _, hx => cases hx; simp [endsP, mark_short]
    · cases hx
      simp [endsP, h2]
  have h4 : pcsP at_ (dtL ahead at_ back q r) = [[], [97]] := by
    unfold pcsP
    rw [h3]
    have : (ahead - at_).toNat = 0 := by omega
    simp [dtL, behP, this]
  unfold readT
  rw [h3, h4, wh_two]
  rfl
theorem det_three (f : Bool) {n at_ ahead back : Int} (q r : Option Addr) (hn : -1 ≤ n) (ha : 0 ≤ ahead) (h : n < at_) (h1 : ¬ at_ < ahead) (h2 : ¬ back < at_) : readV f 0 0 n (dtL ahead at_ back q r) = .tuple #[.string (strB (encZ (wholeT (fp f) (rowsOf [[], [97], List.replicate (back - at_).toNat 32 ++ [98]]) 0))), .int .i64 3, .int .i64 0] := by
  unfold readV
  rw [show max n (-1) = n by omega, dt_ind ha, if_pos h, if_neg h1]
  dsimp only
  have h3 : tkN at_ (dtL ahead at_ back q r) = 3 := by
    refine tk_eq _ _ 3 (by simp [dtL]) (fun j x hj hx => ?_) (fun x hx => by simp [dtL] at hx)
    match j, hj, hx with
    | 0, _, hx => cases hx; simp [endsP]
    | 1, _, hx => cases hx; simp [endsP, mark_short]
    | 2, _, hx => cases hx; simp [endsP, mark_short, h2]
  have h4 : pcsP at_ (dtL ahead at_ back q r) = [[], [97], List.replicate (back - at_).toNat 32 ++ [98]] := by
    unfold pcsP
    rw [h3]
    have : (ahead - at_).toNat = 0 := by omega
    simp [dtL, behP, this]
  unfold readT
  rw [h3, h4]
  rfl
end Go.Proofs.Ytgmcomfeggidnaa
