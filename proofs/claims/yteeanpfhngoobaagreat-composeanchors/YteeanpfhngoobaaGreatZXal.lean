/- The document's example, read by the document's own functions: reckoned by the kernel. -/
import Derived.Test.YteeanpfhngoobaaGreatZXrn
import Derived.Test.YteeanpfhngoobaaGreatProg
import Derived.KernelRfl
set_option linter.all false
set_option maxRecDepth 100000
namespace Go.Proofs.YteeanpfhngoobaaGreat.Xk
open Go.RowKit

/-- The functions that the document's reader calls at its example, and the orders of their regions. -/
def exFs : List Nat := [13, 14, 25, 26, 29, 30, 31, 32, 33, 44, 45, 48, 49, 50, 54, 55, 58, 59, 60, 69, 73, 74, 75, 78, 80, 81, 86, 87, 89, 90, 95, 97, 98, 102, 105, 106, 109, 125, 127, 135, 137, 138]
def exTab : List (Nat × List (Nat × List Nat × List Nat)) := [(25, [(2, List.range 38, [])]), (29, [(5, List.range 15, [14])]), (73, [(1, List.range 9, [8]), (2, List.range 25, [])]), (74, [(1, List.range 36, []), (3, List.range 12, [])]), (78, [(1, List.range 22, []), (3, List.range 12, []), (23, List.range 9, [8])]), (86, [(6, List.range 9, [])]), (109, [(9, List.range 16, [15])])]
def lookT (t : List (Nat × List (Nat × List Nat × List Nat))) (k id : Nat) : Option (List Nat × List Nat) :=
  match t.lookup k with
  | some l => l.lookup id
  | none => none
def FX (P : Program) (l : List Nat) (k : Nat) : Option Func := if l.contains k then P.funcs[k]? else none
def fnOk (P : Program) (t : List (Nat × List (Nat × List Nat × List Nat))) (k : Nat) : Bool :=
  match P.funcs[k]? with
  | some fn => !(fn.name == "runtime.NumGoroutine") && (match fn.body with | some c => codeOk P (lookT t k) c | none => true)
  | none => true
theorem fx_fns {P : Program} {l : List Nat} {t : List (Nat × List (Nat × List Nat × List Nat))} (h : ∀ k ∈ l, fnOk P t k = true) : Fns P (FX P l) (lookT t) := fun k fn hk => by
  unfold FX at hk
  split at hk
  · rename_i hc
    have := h k (by simpa using hc)
    unfold fnOk at this
    rw [hk] at this
    simp only [Bool.and_eq_true, Bool.not_eq_true'] at this
    refine ⟨hk, this.1, fun c hb => ?_⟩
    have h2 := this.2
    rw [hb] at h2
    exact h2
  · cases hk
theorem ex_fns0 : ([13, 14, 25, 26, 29, 30, 31].all (fnOk Tryz.prog exTab)) = true := by kernel_rfl
theorem ex_fns1 : ([32, 33, 44, 45, 48, 49, 50].all (fnOk Tryz.prog exTab)) = true := by kernel_rfl
theorem ex_fns2 : ([54, 55, 58, 59, 60, 69, 73].all (fnOk Tryz.prog exTab)) = true := by kernel_rfl
theorem ex_fns3 : ([74, 75, 78, 80, 81, 86, 87].all (fnOk Tryz.prog exTab)) = true := by kernel_rfl
theorem ex_fns4 : ([89, 90, 95, 97, 98, 102, 105].all (fnOk Tryz.prog exTab)) = true := by kernel_rfl
theorem ex_fns5 : ([106, 109, 125, 127, 135, 137, 138].all (fnOk Tryz.prog exTab)) = true := by kernel_rfl
theorem ex_fns : Fns Tryz.prog (FX Tryz.prog exFs) (lookT exTab) := fx_fns fun k hk => by
  have e : exFs = [13, 14, 25, 26, 29, 30, 31] ++ [32, 33, 44, 45, 48, 49, 50] ++ [54, 55, 58, 59, 60, 69, 73] ++ [74, 75, 78, 80, 81, 86, 87] ++ [89, 90, 95, 97, 98, 102, 105] ++ [106, 109, 125, 127, 135, 137, 138] := rfl
  rw [e] at hk
  simp only [List.mem_append] at hk
  rcases hk with (((((hk | hk) | hk) | hk) | hk) | hk)
  · exact List.all_eq_true.1 ex_fns0 k hk
  · exact List.all_eq_true.1 ex_fns1 k hk
  · exact List.all_eq_true.1 ex_fns2 k hk
  · exact List.all_eq_true.1 ex_fns3 k hk
  · exact List.all_eq_true.1 ex_fns4 k hk
  · exact List.all_eq_true.1 ex_fns5 k hk
/-- What is there stays as it lies when other memory is made. -/
theorem WR.on {B : Nat} {w0 w w' : World} {m : Nat → MB} {h : HP} (hw : WR B w0 m h w) (hb : Below w.heap.size w w') : WR B w0 m h w' := by
  have hs := hb.size
  have old : ∀ k r, h.get k = some r → r.live = true → ∀ o, w'.cell? ⟨(m k).blk, o, none⟩ = w.cell? ⟨(m k).blk, o, none⟩ ∧ w'.frozen? ⟨(m k).blk, o, none⟩ = w.frozen? ⟨(m k).blk, o, none⟩ := fun k r hg hl o => by
    have := (hw.lo k r hg hl).2.2.1
    exact ⟨hb.cell (p := ⟨(m k).blk, o, none⟩) this, hb.frozen (p := ⟨(m k).blk, o, none⟩) this⟩
  exact { hw with
    bel := hw.bel.trans (hb.mono hw.sB)
    sB := by have := hw.sB; omega
    lo := fun k r hg hl => by
      obtain ⟨h1, h0, h2, h3⟩ := hw.lo k r hg hl
      exact ⟨h1, h0, by omega, h3⟩
    fr := fun k r hg hl hz o ho => by
      obtain ⟨e1, e2⟩ := old k r hg hl o
      rw [e1, e2]
      exact hw.fr k r hg hl hz o ho
    at_ := fun k r hg hl i v hv => by
      rw [(old k r hg hl _).1]
      exact hw.at_ k r hg hl i v hv
    mp := fun k r hg hl h0 => by
      obtain ⟨q1, E, c, q2, q3⟩ := hw.mp k r hg hl h0
      exact ⟨q1, E, c, (hb.block _ (Array.getElem?_eq_some_iff.1 q2).1).trans q2, q3⟩ }
theorem WR.none (w : World) : WR w.heap.size w (fun _ => ⟨0, 0, 0, 0⟩) ⟨0, []⟩ w where
  ln := rfl
  es := fun k r hg => by simp [HP.get] at hg
  ok := fun k r hg => by simp [HP.get] at hg
  bel := Below.refl _ _
  sB := Nat.le_refl _
  lo := fun k r hg => by simp [HP.get] at hg
  fr := fun k r hg => by simp [HP.get] at hg
  at_ := fun k r hg => by simp [HP.get] at hg
  inj := fun j k r s hg => by simp [HP.get] at hg
  mp := fun k r hg => by simp [HP.get] at hg
  mi := fun j k r s hg => by simp [HP.get] at hg
theorem fx_any : Tryz.prog.follows .mixedOrders = true := by kernel_rfl
end Go.Proofs.YteeanpfhngoobaaGreat.Xk
