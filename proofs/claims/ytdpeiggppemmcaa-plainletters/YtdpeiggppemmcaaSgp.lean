/- Signs between single quotes, in plain terms; the iterator over them, as it runs. -/
import Derived.Test.YtdpeiggppemmcaaYls
import Derived.Test.YtdpeiggppemmcaaSaf
import Derived.Sort.QuietIn
set_option linter.unusedVariables false
set_option linter.unusedSimpArgs false
namespace Go.Proofs.Ytdpeiggppemmcaa
open Go.RowKit Go.Shelf
attribute [local go_sem] Oper.semAt_some

theorem drop_at {t : List Int} {j : Nat} (h : j < t.length) : t.drop j = iAt t j :: t.drop (j + 1) := by
  rw [List.drop_eq_getElem_cons h]
  simp [iAt, h]
/-- What the iterators look at: the block of their box, and the block of the list. -/
def Xs (q : Option Addr) (t : List Int) (Bb : Nat) (b : Nat) : Prop := b = Bb ∨ (0 < t.length ∧ ∃ a, q = some a ∧ b = a.block)
theorem xs_lt {q : Option Addr} {t : List Int} {Bb B : Nat} {w : World} (hI : Is w q t) (h1 : Bb < B) (h2 : w.heap.size ≤ B) (b : Nat) (h : Xs q t Bb b) : b < B := by
  rcases h with rfl | ⟨hl, a, ha, rfl⟩
  · exact h1
  · exact Nat.lt_of_lt_of_le (hI.lt a ha hl) h2
/-- What a round keeps. -/
structure Kq (X : Nat → Prop) (A C : World) : Prop where
  size : A.heap.size ≤ C.heap.size
  same : ∀ b, X b → C.heap[b]? = A.heap[b]?
theorem Kq.trans {X : Nat → Prop} {A B C : World} (h : Kq X A B) (k : Kq X B C) : Kq X A C := ⟨Nat.le_trans h.size k.size, fun b hb => (k.same b hb).trans (h.same b hb)⟩
theorem Kq.refl (X : Nat → Prop) (A : World) : Kq X A A := ⟨Nat.le_refl _, fun _ _ => rfl⟩
theorem Kq.drewN {X : Nat → Prop} (A : World) (k : Nat) : Kq X A (A.drewN k) := ⟨Nat.le_refl _, fun _ _ => rfl⟩
theorem Kq.box {q : Option Addr} {t : List Int} {Bb : Nat} {A C : World} (h : Kq (Xs q t Bb) A C) : C.cell? ⟨Bb, 0, none⟩ = A.cell? ⟨Bb, 0, none⟩ := World.cell?_of_block (h.same Bb (.inl rfl))
theorem Kq.is {q : Option Addr} {Bb : Nat} {A C : World} {t : List Int} (h : Kq (Xs q t Bb) A C) (hI : Is A q t) : Is C q t := by
  rcases hI with e | ⟨b, o, rfl, hc⟩
  · exact .inl e
  · exact .inr ⟨b, o, rfl, fun j hj => (World.cell?_of_block (h.same b (.inr ⟨by omega, _, rfl, rfl⟩))).trans (hc j hj)⟩
theorem grown_drewN (w : World) (k : Nat) : w.grownBy (w.drewN k) none := ⟨rfl, rfl, rfl, Nat.le_refl _, fun _ _ _ => rfl⟩

theorem drop_cons {α : Type} {T : List α} {i : Nat} {x : α} {r : List α} (h : T.drop i = x :: r) : T[i]? = some x ∧ T.drop (i + 1) = r ∧ i < T.length := by
  have hl : i < T.length := by
    by_cases hl : i < T.length
    · exact hl
    · rw [List.drop_eq_nil_of_le (by omega)] at h; cases h
  rw [List.drop_eq_getElem_cons hl] at h
  injection h with h1 h2
  exact ⟨by rw [List.getElem?_eq_getElem hl, h1], h2, hl⟩

set_option maxHeartbeats 1000000 in
theorem signs_in (n : Nat) (p : Option Addr) (len cap : Nat) (w : World) :
    CallsIn Fence.wide n Try.prog 24 #[.slice p len cap] w fun e w' => e = .returned (.func (.func 32) #[] #[.pointer (some ⟨w.heap.size, 0, none⟩)]) ∧ w' = w.alloc (.cells #[.slice p len cap] 22) := by
  refine callsIn_of_wp Try.func24 rfl trivial ?_ rfl
  simp only [Try.ntmps24, List.size_toArray, List.length_cons, List.length_nil, Nat.reduceAdd, Nat.reduceSub, Array.replicate_succ, Array.replicate_zero, List.push_toArray, List.append_toArray, List.nil_append, List.cons_append]
  gi_wp2
  go_ret
  exact ⟨rfl, rfl⟩

end Go.Proofs.Ytdpeiggppemmcaa
