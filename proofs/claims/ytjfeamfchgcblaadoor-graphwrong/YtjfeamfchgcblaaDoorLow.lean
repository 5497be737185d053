/- What is asked of the lower chapters holds; the example of the document. -/
import Derived.Test.YtjfeamfchgcblaaDoorVld
import Derived.Test.YtjfeamfchgcblaaDoorVal
import Derived.Test.YtjfeamfchgcblaaDoorRch
import Derived.Test.YtjfeamfchgcblaaDoorCyc
set_option linter.all false
set_option maxRecDepth 100000
namespace Go.Proofs.YtjfeamfchgcblaaDoor
open Go.RowKit Go.Shelf
attribute [local go_sem] Oper.semAt_some

def ritB (s : ByteArray) : Bool := ritP s.data.toList
def rvB (s : ByteArray) : Bool := rvP s.data.toList
theorem lowG : LowG ritB rvB :=
  ⟨fun s w hs => (Text_any s w hs).mono fun e w' ⟨v, he, _, hb⟩ => ⟨v, he, hb⟩, fun s w hs => rValid_any s w hs⟩
theorem lowP : LowP Tabs ritB rvB :=
  ⟨fun hT hb => Utf8Tabs_below hT hb, fun s w hs hT => by
    have := valid_string s w hs hT
    rw [valid_rit] at this
    exact this, fun s w hs => by
    have := Valid_any s w (by omega)
    have e : rvB s = decide (0 < s.size ∧ runE (uN (zs s.data.toList)) s.size 0 = s.size) := by
      unfold rvB
      rw [valid_eq]
      have : s.data.toList.length = s.size := by simp
      rw [this]
    rw [e]
    exact this⟩
/-- The example's graph. -/
def exN (q : Option Addr) : Gn := ⟨2, ⟨#[120]⟩, ⟨#[]⟩, q, [0], 1, false⟩
theorem rv_x : rvB ⟨#[120]⟩ = true := by decide +kernel
theorem ex_right (q : Option Addr) : rightP ritB rvB [exN q] [0] = true := by
  have h := rv_x
  unfold rightP nodeP tagOk exN
  simp [h, sumK, kidsOk, kindOk]
  decide
theorem ex_may (q : Option Addr) : mayP ritB rvB [exN q] [0] 0 = true := by unfold mayP; rw [ex_right]; simp
theorem ex_uses (q : Option Addr) : usesP ritB rvB [exN q] [0] 0 = [2] := by
  unfold usesP reachP
  rw [ex_may, if_pos rfl, if_pos rfl]
  rfl
theorem ex_cyc (q : Option Addr) : cycP ritB rvB [exN q] [0] 0 = true := by
  unfold cycP
  rw [ex_may]
  rfl
end Go.Proofs.YtjfeamfchgcblaaDoor
