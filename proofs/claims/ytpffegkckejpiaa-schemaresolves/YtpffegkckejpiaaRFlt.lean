/- The document's own Float: it answers as the program does. -/
import Derived.Test.YtpffegkckejpiaaRfA
import Derived.Test.YtpffegkckejpiaaRfB
import Derived.Test.YtpffegkckejpiaaRfC
import Derived.Test.YtpffegkckejpiaaRfD
set_option linter.unusedVariables false
set_option linter.unusedSimpArgs false
set_option maxRecDepth 100000
namespace Go.Proofs.Ytpffegkckejpiaa
open Go.RowKit

theorem byte_mid {t : ByteArray} {a u : List UInt8} {c : UInt8} (h : t.data.toList = a ++ c :: u) : ∃ hs : a.length < t.size, t[a.length] = c := by
  have hs : a.length < t.size := by rw [Lib.size_eq, h]; simp
  refine ⟨hs, ?_⟩
  have h1 := byte_get t a.length hs
  rw [h, List.getElem?_append_right (Nat.le_refl _), Nat.sub_self] at h1
  exact (Option.some.inj h1).symm
theorem tk_split {l w r : List UInt8} (h : l = w ++ r) (hw : w.all isD = true) (hr : ∀ c u, r = c :: u → isD c = false) : tk l = w ∧ dk l = r := by
  subst h
  unfold tk dk
  have h1 : ∀ x ∈ w, isD x = true := List.all_eq_true.1 hw
  rw [List.takeWhile_append_of_pos h1, List.dropWhile_append_of_pos h1]
  cases r with
  | nil => simp
  | cons c u =>
    have := hr c u rfl
    simp [List.takeWhile_cons, List.dropWhile_cons, this]
theorem rlen_at {t : ByteArray} {a w r : List UInt8} (h : t.data.toList = a ++ (w ++ r)) (hw : w.all isD = true) (hr : ∀ c u, r = c :: u → isD c = false) : rlen t a.length = w.length ∧ (t.extract a.length (a.length + w.length)).data.toList = w := by
  have hd : t.data.toList.drop a.length = w ++ r := by rw [h]; simp
  constructor
  · unfold rlen
    rw [hd, (tk_split rfl hw hr).1]
  · rw [Lib.extract_data, hd, Nat.add_sub_cancel_left, List.take_left']
    rfl
theorem exp_cases (u2 : ByteArray) :
    (expP u2 = none ∧ (rlen (restB u2) 0 ≠ (restB u2).size ∨ (rlen (restB u2) 0 = (restB u2).size ∧ (restB u2).size < 1) ∨ (rlen (restB u2) 0 = (restB u2).size ∧ ¬ (restB u2).size < 1 ∧ 9 < (restB u2).size))) ∨
    (rlen (restB u2) 0 = (restB u2).size ∧ ¬ (restB u2).size < 1 ∧ ¬ 9 < (restB u2).size ∧ (restB u2).data.toList.all isD = true ∧ expP u2 = some (if negB u2 then -(valD (restB u2).data.toList : Int) else (valD (restB u2).data.toList : Int))) := by
  unfold expP
  generalize restB u2 = u
  cases ha : u.data.toList.all isD
  · left
    refine ⟨?_, .inl ?_⟩
    · split
      · rfl
      · rfl
    · intro e
      unfold rlen at e
      rw [List.drop_zero, Lib.size_eq] at e
      have h1 := tk_dk u.data.toList
      have h2 : dk u.data.toList = [] := by
        apply List.eq_nil_of_length_eq_zero
        have := congrArg List.length h1
        rw [List.length_append] at this
        omega
      rw [h2, List.append_nil] at h1
      rw [h1, tk_all] at ha
      cases ha
  · have hr : rlen u 0 = u.size := by
      unfold rlen
      rw [List.drop_zero, (tk_split (l := u.data.toList) (w := u.data.toList) (r := []) (by simp) ha (by intro c u h; cases h)).1, ← Lib.size_eq]
    by_cases h1 : u.size < 1
    · left
      exact ⟨by rw [if_pos (.inl (by omega))], .inr (.inl ⟨hr, h1⟩)⟩
    · by_cases h2 : 9 < u.size
      · left
        exact ⟨by rw [if_pos (.inr h2)], .inr (.inr ⟨hr, h1, h2⟩)⟩
      · right
        refine ⟨hr, h1, h2, rfl, ?_⟩
        rw [if_neg (by omega)]
        rfl
theorem fltV_num {b : Bool} {w p : List UInt8} {x e : Int} {n : Nat} (hok : okL (w ++ p) = true) (hn : n = valD (w ++ p)) (he : e = x - p.length) : fltV b (numF w p x) = .tuple #[numV b n e, .bool true] := by
  unfold numF
  rw [hok, hn, he]
  rfl
theorem okL_yes {w p : List UInt8} (hw : w.all isD = true) (hp : p.all isD = true) (h0 : 0 < w.length + p.length) (h1 : ¬ 5000 < w.length + p.length) : okL (w ++ p) = true := by
  unfold okL
  rw [List.all_append, hw, hp, List.length_append, decide_eq_true h0, decide_eq_true (show w.length + p.length ≤ 5000 by omega)]
  rfl
theorem numF_len {w p : List UInt8} (x : Int) (h : w.length + p.length = 0 ∨ 5000 < w.length + p.length) : numF w p x = none := by
  unfold numF okL
  rw [List.length_append]
  rcases h with h | h
  · rw [decide_eq_false (show ¬ 0 < w.length + p.length by omega)]; rfl
  · rw [decide_eq_false (show ¬ w.length + p.length ≤ 5000 by omega)]; simp
theorem bind_none {α β : Type} (o : Option α) (f : α → Option β) (h : ∀ x, f x = none) : o.bind f = none := by
  cases o with
  | none => rfl
  | some x => exact h x
end Go.Proofs.Ytpffegkckejpiaa
