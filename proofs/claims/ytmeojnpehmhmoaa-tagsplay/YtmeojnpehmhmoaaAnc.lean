/- Anchor, and the document's own; pieces of a list of ints. -/
import Derived.Test.YtmeojnpehmhmoaaSgs
import Derived.Test.YtmeojnpehmhmoaaBase
import Derived.OwnWalk
set_option linter.unusedVariables false
set_option linter.unusedSimpArgs false
namespace Go.Proofs.Ytmeojnpehmhmoaa
open Go.RowKit Go.Shelf

theorem slice_mid (b o len cap m e : Nat) (h1 : m ≤ e) (h2 : e ≤ cap) (hc : m < cap) (w2 : World) :
    (Instr.slice 57 (.slice (some ⟨b, o, none⟩) len cap) (some (.int .i64 m)) (some (.int .i64 e)) none).run Try.prog w2 = .ok (.slice (some ⟨b, o + m, none⟩) (e - m) (cap - m)) w2 := by
  have h0 : (m : Int) ≤ e := by omega
  have h3 : (e : Int) ≤ cap := by omega
  have h4 : ¬ cap = m := by omega
  have u := Try.underlying57
  have z := Try.sizeOf3
  simp [go_sem, h0, h3, h4, add_plain]

/-- A text, a number, and whether there is one. -/
def triV (s : ByteArray) (n : Nat) (ok : Bool) : Value := .tuple #[.string s, .int .i64 n, .bool ok]
def ancV (t : List Int) : Value := triV (txt (t.take (cnt nameP t))) (cnt nameP t) (decide (0 < cnt nameP t))

theorem is_take {w : World} {q : Option Addr} {t : List Int} (h : Is w q t) (k : Nat) : Is w q (t.take k) := h.take k

end Go.Proofs.Ytmeojnpehmhmoaa
