/- SameInts and SameLines of two lists that are one. -/
import Derived.Test.YtcijjbnkdjmklaaAlive
set_option linter.unusedVariables false
set_option linter.unusedSimpArgs false
namespace Go.Proofs.Ytcijjbnkdjmklaa
open Go.RowKit Go.Shelf

set_option maxRecDepth 100000 in
set_option maxHeartbeats 1000000 in
theorem same_ints (p q : Option Addr) (l : List Int) (c d : Nat) (w : World) (hn : (l.length : Int) ≤ 1099511627776) (hp : Is w p l) (hq : Is w q l) :
    Calls Try.prog 24 #[.slice p l.length c, .slice q l.length d] w fun e w' => e = .returned (.bool true) ∧ ∃ k, w' = w.drewN k := by
  go_enter Try.func24, Try.ntmps24
  go_wp2
  go_loopw [5] (fun i wr => ∃ (k m : Nat), k ≤ l.length ∧ i = .int .i64 k ∧ wr = w.drewN m) (fun i _ => l.length - (intOf i).toNat)
  case atStart => exact ⟨0, 0, Nat.zero_le _, rfl, rfl⟩
  case round =>
    obtain ⟨k, m, hk, rfl, rfl⟩ := hrel
    by_cases hlt : k < l.length
    · obtain ⟨b, o, rfl, hb⟩ := hp.at (by omega)
      obtain ⟨b', o', rfl, hb'⟩ := hq.at (by omega)
      have c0 := hb k hlt
      have c1 := hb' k hlt
      clear hb hb' hp hq
      generalize iAt l k = x at c0 c1
      go_wp2
      go_quiet (fail)
      go_wp2
      go_roundw
      case rel => exact ⟨k + 1, _, by omega, by go_num, rfl⟩
      case measure => simp [intOf]; omega
    · obtain rfl : k = l.length := by omega
      go_wp2
      go_ret
      exact ⟨rfl, _, rfl⟩

theorem same_text (p q : Option Addr) (l : List Int) (c d : Nat) (w : World) (m a : Nat) (hn : (l.length : Int) ≤ 1099511627776) (hp : Is w p l) (hq : Is w q l) :
    Calls Try.prog 24 #[.slice p l.length c, .slice q l.length d] (w.drewN (m + a)) fun e w'' => e = .returned (.bool true) ∧ ∃ n, w'' = w.drewN (m + n) :=
  (same_ints p q l c d _ hn (hp.drewN _) (hq.drewN _)).mono fun e w'' ⟨he, k, hk⟩ => ⟨he, a + k, by rw [hk, World.drewN_drewN, Nat.add_assoc]⟩

set_option maxRecDepth 100000 in
set_option maxHeartbeats 1000000 in
theorem same_lines (p q : Option Addr) (xs : List (Nat × List Int)) (c d : Nat) (w : World) (hn : (xs.length : Int) ≤ 1099511627776) (hm : ∀ x, x ∈ xs → (x.2.length : Int) ≤ 1099511627776) (hp : Ls w p xs) (hq : Ls w q xs) :
    Calls Try.prog 11 #[.slice p xs.length c, .slice q xs.length d] w fun e w' => e = .returned (.bool true) ∧ ∃ k, w' = w.drewN k := by
  go_enter Try.func11, Try.ntmps11
  go_wp2
  go_loopw [5] (fun i wr => ∃ (k m : Nat), k ≤ xs.length ∧ i = .int .i64 k ∧ wr = w.drewN m) (fun i _ => xs.length - (intOf i).toNat)
  case atStart => exact ⟨0, 0, Nat.zero_le _, rfl, rfl⟩
  case round =>
    obtain ⟨k, m, hk, rfl, rfl⟩ := hrel
    by_cases hlt : k < xs.length
    · obtain ⟨b, o, rfl, hb⟩ := hp (by omega)
      obtain ⟨b', o', rfl, hb'⟩ := hq (by omega)
      obtain ⟨⟨y, t⟩, hy⟩ : ∃ x, xs[k]? = some x := ⟨_, List.getElem?_eq_getElem hlt⟩
      obtain ⟨c0, r0, e0, c1, i0⟩ := hb k _ hy
      obtain ⟨d0, r1, e1, d1, i1⟩ := hb' k _ hy
      have ht := hm _ (List.mem_of_getElem? hy)
      have ST := fun a => same_text r0 r1 t e0 e1 w m a ht i0 i1
      dsimp only at c0 c1 d0 d1 ht
      have hlt' : (k : Int) < xs.length := by omega
      clear hb hb' hp hq hy hm
      go_wp2
      go_quiet (first | (go_at_call 24; exact ST _))
      go_wp2
      go_roundw
      case rel => exact ⟨k + 1, _, by omega, by go_num, rfl⟩
      case measure => simp [intOf]; omega
    · obtain rfl : k = xs.length := by omega
      go_wp2
      go_ret
      exact ⟨rfl, _, rfl⟩
end Go.Proofs.Ytcijjbnkdjmklaa
