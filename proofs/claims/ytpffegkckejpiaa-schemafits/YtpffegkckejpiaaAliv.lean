/- The document's example; what Float answers for a text that is told. -/
import Derived.Test.YtpffegkckejpiaaFlt
import Derived.Test.YtpffegkckejpiaaInt2
set_option linter.unusedVariables false
set_option linter.unusedSimpArgs false
namespace Go.Proofs.Ytpffegkckejpiaa
open Go.RowKit

def kE (s : ByteArray) : Int := Lib.indexAny (restB s).data.toList eE
def asc (s : ByteArray) : Bool := s.data.toList.all fun c => decide (c.toNat < 128)
theorem asc_at {s : ByteArray} (h : asc s = true) (j : Nat) (b : UInt8) (hb : s.data.toList[j]? = some b) : b.toNat < 128 := by
  unfold asc at h
  have := List.all_eq_true.1 h b (List.mem_of_getElem? hb)
  simpa using this
theorem asc_rest {s : ByteArray} (h : asc s = true) : asc (restB s) = true := by
  unfold restB
  split
  · unfold asc at *
    rw [Lib.extract_data]
    rw [List.all_eq_true] at *
    intro c hc
    exact h c (List.mem_of_mem_drop (List.mem_of_mem_take hc))
  · exact h
theorem kE_range (s : ByteArray) : kE s = -1 ∨ (0 ≤ kE s ∧ kE s < (restB s).size) := by
  have := indexAny_range eE (restB s).data.toList
  rw [← Lib.size_eq] at this
  exact this
theorem Float_plain (s : ByteArray) (w : World) (hs : s.size ≤ 100000) (h : 8 < (restB s).size ∨ asc s = true) :
    Calls Try.prog 40 #[.string s] w fun e w' => e = .returned (floatV s (kE s)) ∧ Below w.heap.size w w' := by
  refine (Float_of s w (fun K => K = kE s) hs (kE s) rfl (fun K hK => by rw [hK]; exact kE_range s) (fun w => ?_)).mono ?_
  · exact idx_any (restB s) w (Nat.le_trans (rest_size s) hs) (h.imp id fun ha => asc_at (asc_rest ha))
  · rintro e w' ⟨K, rfl, rfl, hB⟩
    exact ⟨rfl, hB⟩

def exS : ByteArray := ⟨#[45, 49, 50, 46, 53, 48]⟩
theorem ex_inf : isInf (restB exS) = false := by decide +kernel
theorem ex_nan : isNan exS = false := by decide +kernel
theorem ex_k : fltK (restB exS) (kE exS) = some (1250, -2) := by decide +kernel
theorem ex_tz : tz 1250 = 1 := by decide +kernel
theorem ex_dec : decB (1250 / 10 ^ 1) = ⟨#[49, 50, 53]⟩ := by decide +kernel
theorem ex_val : floatV exS (kE exS) = .tuple #[.agg #[.bool true, .string ⟨#[49, 50, 53]⟩, .int .i64 (-1), .int .i64 0], .bool true] := by
  unfold floatV
  rw [ex_inf, ex_nan, ex_k]
  show Value.tuple #[numV _ 1250 (-2), .bool true] = _
  unfold numV
  rw [if_neg (by decide), ex_tz, ex_dec]
  have : negB exS = true := by decide +kernel
  rw [this]
  rfl

end Go.Proofs.Ytpffegkckejpiaa
