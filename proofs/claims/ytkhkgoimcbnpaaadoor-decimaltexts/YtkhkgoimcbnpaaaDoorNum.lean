/- The text of a number is read as that number; the frame's facts. -/
import Derived.Test.YtkhkgoimcbnpaaaDoorPlainB
import Derived.Test.YtkhkgoimcbnpaaaDoorRefD
import Derived.Test.YtkhkgoimcbnpaaaDoorDigits
import Derived.ProofKit
import Derived.OpenShut
import Derived.ChangeOld
import Derived.Below
set_option linter.unusedVariables false
set_option linter.unusedSimpArgs false
namespace Go.Proofs.YtkhkgoimcbnpaaaDoor
open Go.RowKit

theorem own : ownKnob Tryd.prog.godebug = none := by kernel_rfl
theorem laidOut : laidOutB Tryd.prog = true := by kernel_rfl

theorem hexP_digit {d : Nat} (h : d < 10) : hexP ((UInt8.ofNat (48 + d)).toNat : Int) = (d : Int) := by
  have h1 : (UInt8.ofNat (48 + d)).toNat = 48 + d := by simp; omega
  rw [h1]
  unfold hexP
  rw [if_pos (by omega)]
  omega
theorem dec_ok {n : Nat} (h : (decB n).size ≤ 5000) : okS (decB n) 10 = true := by
  refine okS_iff.2 ⟨rfl, ?_, h, ?_⟩
  · rw [dec_sz]
    unfold dl
    split
    · simp
    · rw [carP_pos (by decide) (by omega)]; simp
  · rw [dec_list, List.all_eq_true]
    intro c hc
    obtain ⟨d, hd, rfl⟩ := List.mem_map.1 hc
    have hd' := dl_dg n d (List.mem_reverse.1 hd)
    rw [okD_iff, hexP_digit hd']
    omega
theorem dec_lsd (n : Nat) : lsd (decB n) = dl n := by
  unfold lsd msd
  rw [dec_list, List.map_map, ← List.map_reverse, List.reverse_reverse]
  have : ∀ d, d ∈ dl n → (hexN ∘ fun d => UInt8.ofNat (48 + d)) d = d := by
    intro d hd
    have := hexP_digit (dl_dg n d hd)
    simp only [Function.comp, hexN, this]
    omega
  rw [List.map_congr_left this, List.map_id']
theorem num_dec {n : Nat} (h : (decB n).size ≤ 5000) : num (decB n) = n := by
  rw [num_yes (dec_ok h), dec_lsd, dl_val]
theorem num_small {n : Nat} (h : n < 18446744073709551616) : num (decB n) = n := num_dec (by have := dec_size n h; omega)

end Go.Proofs.YtkhkgoimcbnpaaaDoor
