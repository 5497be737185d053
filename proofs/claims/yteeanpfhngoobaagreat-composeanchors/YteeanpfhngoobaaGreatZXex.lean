/- The document's example, read by the document's own functions. -/
import Derived.Test.YteeanpfhngoobaaGreatZXkey
import Derived.Test.YteeanpfhngoobaaGreatZXleaf
set_option linter.all false
set_option maxRecDepth 100000
namespace Go.Proofs.YteeanpfhngoobaaGreat.Xk
open Go.RowKit

def exO : Nat → List Value → HP → Option (Value × HP) := orElse (known 78 keyA keyH keyV keyG) (known 81 leafA leafH leafV leafG)
theorem exO_ok : HC Tryz.prog exO := orElse_ok key_ok leaf_ok
def exCells : List Value := [.int .i64 1, .string ⟨#[]⟩, .string ⟨#[]⟩, .string ⟨#[]⟩, .int .i64 0, .bool false, .int .i64 3, .string ⟨#[]⟩, .string ⟨#[]⟩, .string ⟨#[97]⟩, .int .i64 0, .bool true, .int .i64 8, .string ⟨#[]⟩, .string ⟨#[]⟩, .string ⟨#[97]⟩, .int .i64 0, .bool false, .int .i64 4, .string ⟨#[]⟩, .string ⟨#[]⟩, .string ⟨#[]⟩, .int .i64 0, .bool false, .int .i64 2, .string ⟨#[]⟩, .string ⟨#[]⟩, .string ⟨#[]⟩, .int .i64 0, .bool false]
def rowAt : Value → Option (Nat × Nat × Nat)
  | .tuple vs => match vs.toList with
    | [.slice (some ⟨b, 0, none⟩) k c, .int .i64 n] => if n = 0 then some (b, k, c) else none
    | _ => none
  | _ => none
/-- Is it a row of n elements, these cells, and a nought? -/
def isRow (cells : List Value) (n : Nat) (v : Value) (h : HP) : Bool :=
  match rowAt v with
  | some (b, k, _) => k == n && (match h.get b with | some r => r.live && r.cells.length == cells.length && ((r.cells.zip cells).all fun p => sameC p.1 p.2) && cells.all scal | none => false)
  | none => false
def Ex (P : Program) (v : Value) (h : HP) : Bool := match exC P exO 13 [v] h with
  | some (u, g) => isRow exCells 5 u g
  | none => false
theorem ex_reckoned : (match exC Tryz.prog exO 14 [.string exT] ⟨0, []⟩ with | some (v, h) => Ex Tryz.prog v h | none => false) = true := by kernel_rfl
theorem rowAt_spec {v : Value} {b k c : Nat} (h : rowAt v = some (b, k, c)) : v = .tuple #[.slice (some ⟨b, 0, none⟩) k c, .int .i64 0] := by
  unfold rowAt at h
  split at h
  · rename_i vs
    split at h
    · rename_i b' k' c' n e
      split at h
      · rename_i hn
        cases h
        subst hn
        rw [show vs = #[.slice (some ⟨b, 0, none⟩) k c, .int .i64 0] from Array.ext' (by simpa using e)]
      · cases h
    · cases h
  · cases h
/-- The example's lines. -/
theorem lines_ex (w : World) : Calls Tryz.prog 14 #[.string exT] w fun e w' => ∃ v m h, e = .returned (cT m v) ∧ WR w.heap.size w m h w' ∧ okT m h.nb v ∧ Ex Tryz.prog v h = true := by
  have hx := ex_reckoned
  split at hx
  · rename_i v h hv
    refine ((exC_ok exO_ok 14 _ _ v h hv).2 w.heap.size w _ w (WR.none w) (fun u hu => by rw [List.mem_singleton.1 hu]; trivial)).mono fun e w' ⟨m', _, _, e1, e2, e3⟩ => ?_
    exact ⟨v, m', h, e1, e3, e2, hx⟩
  · cases hx
/-- The example's events. -/
theorem stream_ex {B : Nat} {w0 w : World} {m : Nat → MB} {h : HP} {v : Value} (hw : WR B w0 m h w) (hk : okT m h.nb v) (hx : Ex Tryz.prog v h = true) :
    Calls Tryz.prog 13 #[cT m v] w fun e w' => ∃ b o c, e = .returned (.tuple #[.slice (some ⟨b, o, none⟩) 5 c, .int .i64 0]) ∧ Below B w0 w' ∧ ∀ (i : Nat) (u : Value), exCells[i]? = some u → w'.cell? ⟨b, o + i, none⟩ = some u := by
  unfold Ex at hx
  split at hx
  · rename_i u g hu
    refine ((exC_ok exO_ok 13 _ _ u g hu).2 B w0 m w hw (fun x hx' => by rw [List.mem_singleton.1 hx']; exact hk)).mono fun e w' ⟨m', _, _, e1, e2, e3⟩ => ?_
    unfold isRow at hx
    split at hx
    · rename_i b k c hr
      rw [Bool.and_eq_true, beq_iff_eq] at hx
      obtain ⟨rfl, hx⟩ := hx
      split at hx
      · rename_i r hg
        simp only [Bool.and_eq_true, beq_iff_eq] at hx
        obtain ⟨⟨⟨h1, h2⟩, h3⟩, h4⟩ := hx
        have hcs : r.cells = exCells := zip_all (fun _ _ => sameC_eq) _ _ h2 h3
        rw [rowAt_spec hr] at e1
        refine ⟨(m' b).blk, (m' b).sh + 0, room (m' b) 0, by rw [e1]; simp [cT, cA, cv, cs0, ca], e3.bel, fun i u hu => ?_⟩
        rw [Nat.add_zero]
        have := e3.at_ b r hg h1 i u (by rw [hcs]; exact hu)
        rw [this]
        have hs : scal u = true := List.all_eq_true.1 h4 u (List.mem_of_getElem? hu)
        cases u <;> first | rfl | (simp [scal] at hs)
      · cases hx
    · cases hx
  · cases hx
end Go.Proofs.YteeanpfhngoobaaGreat.Xk
