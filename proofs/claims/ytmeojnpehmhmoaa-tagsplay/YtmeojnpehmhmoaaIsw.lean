/- isWritten: whether props.Tag tells all of a text. -/
import Derived.Test.YtmeojnpehmhmoaaCll
import Derived.Test.YtmeojnpehmhmoaaTag
set_option linter.all false
set_option maxRecDepth 100000
namespace Go.Proofs.Ytmeojnpehmhmoaa
open Go.RowKit Go.Shelf Go.Lib

def wrtB (s : ByteArray) : Bool :=
  match tagP (rnS s 0) with
  | some (t, _) => (txt t).toList == s.toList
  | none => false
set_option maxHeartbeats 800000 in
theorem isWritten_any (s : ByteArray) (w : World) (hs : s.size ≤ 1000000) :
    Calls Try.prog 20 #[.string s] w fun e w' => e = .returned (.bool (wrtB s)) ∧ Below w.heap.size w w' := by
  have PT := points_any s w
  have hB1 : Below w.heap.size w (w.alloc (.cells #[.string s] 9)) := (Below.refl _ w).alloc (Nat.le_refl _) _
  have c1 := (Boxed.new w 9 (.string s)).cell
  have CL := collect_any w.heap.size s _ c1 hs
  have hTl : (rnS s 0).length ≤ 1000000 := Nat.le_trans (rnS_len s _ 0 (Nat.le_refl _)) (by omega)
  unfold wrtB
  obtain ⟨T, hT⟩ : ∃ T, rnS s 0 = T := ⟨_, rfl⟩
  rw [hT] at CL hTl ⊢
  clear hT
  obtain ⟨W1, hW1⟩ : ∃ W1, w.alloc (.cells #[.string s] 9) = W1 := ⟨_, rfl⟩
  rw [hW1] at PT hB1 c1 CL
  clear hW1
  cases ho : tagP T with
  | none =>
    go_enter Try.func20, Try.ntmps20
    go_wp2_with (first | (go_at_call 40; refine PT.mono ?_; rintro e w1 ⟨rfl, rfl⟩))
    refine CL.mono ?_
    rintro e w2 ⟨v, rfl, ho2, hb2⟩
    obtain ⟨a, k, c, rfl⟩ := ownsRow_form ho2
    obtain ⟨hI, hk, hkc, hcm⟩ := is_of_row ho2
    subst hk
    have TG := Tag_any a T T.length c w2 rfl hTl (by omega) hcm hI
    rw [ho, tagV_none] at TG
    clear CL PT ho ho2
    go_wp2_with (first | (go_at_call 38; refine TG.mono ?_; rintro e w3 ⟨rfl, hb3⟩))
    go_ret
    exact ⟨rfl, hB1.trans ((hb2.trans (hb3.mono hb2.size)).mono hB1.size)⟩
  | some o =>
    obtain ⟨t, m⟩ := o
    dsimp only
    go_enter Try.func20, Try.ntmps20
    go_wp2_with (first | (go_at_call 40; refine PT.mono ?_; rintro e w1 ⟨rfl, rfl⟩))
    refine CL.mono ?_
    rintro e w2 ⟨v, rfl, ho2, hb2⟩
    obtain ⟨a, k, c, rfl⟩ := ownsRow_form ho2
    obtain ⟨hI, hk, hkc, hcm⟩ := is_of_row ho2
    subst hk
    have TG := Tag_any a T T.length c w2 rfl hTl (by omega) hcm hI
    rw [ho, tagV_some] at TG
    clear CL PT ho ho2
    go_wp2_with (first | (go_at_call 38; refine TG.mono ?_; rintro e w3 ⟨rfl, hb3⟩))
    all_goals go_ret
    all_goals exact ⟨by simp_all, hB1.trans ((hb2.trans (hb3.mono hb2.size)).mono hB1.size)⟩
end Go.Proofs.Ytmeojnpehmhmoaa
