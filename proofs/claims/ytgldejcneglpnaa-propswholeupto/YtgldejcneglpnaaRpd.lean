/- The document's prefix in plain terms. -/
import Derived.Test.YtgldejcneglpnaaRvr
set_option linter.unusedVariables false
set_option linter.unusedSimpArgs false
namespace Go.Proofs.Ytgldejcneglpnaa
open Go.RowKit Go.Shelf

def wE (t : List Int) (k : Nat) : Nat := runE (st wordP t) t.length k
theorem wE_le {t : List Int} {k : Nat} (h : k ≤ t.length) : wE t k ≤ t.length := runE_le (st_bd _ t) h
theorem wE_ge (t : List Int) (k : Nat) : k ≤ wE t k := runE_ge _ _ _
def rhB (t : List Int) (s : Nat) : Bool := decide (wE t (s + 1) < t.length ∧ iAt t (wE t (s + 1)) = 33)
/-- Where the handle that begins at s ends. -/
def rkP (t : List Int) (s : Nat) : Nat := if rhB t s = true then wE t (s + 1) + 1 else s + 1
/-- What stands behind a handle that begins at s. -/
def rpfP (t : List Int) (s : Nat) : Option (ByteArray × ByteArray × ByteArray) :=
  if bE t (rkP t s) = rkP t s ∨ runE (uN t) t.length (bE t (rkP t s)) = bE t (rkP t s) ∨ tailP (t.drop (runE (uN t) t.length (bE t (rkP t s)))) = false then none
  else some (tagB, txt ((t.drop s).take (rkP t s - s)), txt ((t.drop (bE t (rkP t s))).take (runE (uN t) t.length (bE t (rkP t s)) - bE t (rkP t s))))
/-- Of %TAG, behind its name, by the document. -/
def rprefP (t : List Int) (i : Nat) : Option (ByteArray × ByteArray × ByteArray) :=
  if bE t i = i ∨ t.length ≤ bE t i ∨ iAt t (bE t i) ≠ 33 then none
  else if rhB t (bE t i) = false ∧ bE t i + 1 < wE t (bE t i + 1) then none
  else rpfP t (bE t i)
end Go.Proofs.Ytgldejcneglpnaa
