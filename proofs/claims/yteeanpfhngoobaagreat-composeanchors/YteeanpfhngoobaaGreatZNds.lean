/- How many nodes there are, and whether there are too many events. -/
import Derived.Test.YteeanpfhngoobaaGreatZEvs
set_option linter.unusedVariables false
set_option linter.unusedSimpArgs false
namespace Go.Proofs.YteeanpfhngoobaaGreat
open Go.RowKit Go.Shelf

def isN (x : Ev) : Bool := decide (x.k = 7 ∨ x.k = 3 ∨ x.k = 5)
theorem nodes_next {L : List Ev} {k : Nat} {x : Ev} (h : L[k]? = some x) : nodesP (L.take (k + 1)) = nodesP (L.take k) + if isN x then 1 else 0 := by
  unfold nodesP
  rw [List.take_add_one, h, List.countP_append]
  simp [isN]
theorem ev_at {L : List Ev} {k : Nat} (h : k < L.length) : ∃ x, L[k]? = some x := ⟨_, List.getElem?_eq_getElem h⟩

set_option maxRecDepth 100000 in
set_option maxHeartbeats 2000000 in
theorem rNodes_any (p : Option Addr) (L : List Ev) (cap : Nat) (w : World) (hl : L.length ≤ 5864062014805) (hE : Es w p L) :
    Calls Tryz.prog 16 #[.slice p L.length cap] w fun e w' => e = .returned (.int .i64 (nodesP L : Nat)) ∧ w' = w := by
  obtain ⟨V, hV⟩ : ∃ V, nodesP L = V := ⟨_, rfl⟩
  rw [hV]
  have HV : Hid (nodesP L = V) := hV
  have hl2 : (L.length : Int) ≤ 5864062014805 := by omega
  clear hV
  go_enter Tryz.func16, Tryz.ntmps16
  go_wp2
  go_loop [3, 4] (fun cv iv => ∃ (k m : Nat), k ≤ L.length ∧ iv = .int .i64 k ∧ cv = .int .i64 m ∧ m ≤ k ∧ Hid (nodesP (L.take k) = m)) (fun _ iv => L.length - (intOf iv).toNat)
  case atStart => exact ⟨0, 0, Nat.zero_le _, rfl, rfl, Nat.le_refl _, rfl⟩
  case round =>
    obtain ⟨k, m, hk, rfl, rfl, hm, HM⟩ := hrel
    by_cases hlt : k < L.length
    · have hli : (k : Int) < L.length := by omega
      obtain ⟨b, o, rfl, hc⟩ := hE.at (by omega)
      obtain ⟨x, hx⟩ := ev_at hlt
      have c0 := (hc k x hx).c0
      by_cases h7 : x.k = 7
      · have HN : Hid (nodesP (L.take (k + 1)) = m + 1) := by
          show nodesP _ = _
          rw [nodes_next hx, HM.out]
          simp [isN, h7]
        generalize x.k = xk at *
        clear hE hc hx HM
        go_wp2
        go_round
        case rel => exact ⟨k + 1, m + 1, by omega, by go_num, by go_num, by omega, HN⟩
        case measure => simp [intOf]; omega
      by_cases h3 : x.k = 3
      · have HN : Hid (nodesP (L.take (k + 1)) = m + 1) := by
          show nodesP _ = _
          rw [nodes_next hx, HM.out]
          simp [isN, h3]
        generalize x.k = xk at *
        clear hE hc hx HM
        go_wp2
        go_round
        case rel => exact ⟨k + 1, m + 1, by omega, by go_num, by go_num, by omega, HN⟩
        case measure => simp [intOf]; omega
      by_cases h5 : x.k = 5
      · have HN : Hid (nodesP (L.take (k + 1)) = m + 1) := by
          show nodesP _ = _
          rw [nodes_next hx, HM.out]
          simp [isN, h5]
        generalize x.k = xk at *
        clear hE hc hx HM
        go_wp2
        go_round
        case rel => exact ⟨k + 1, m + 1, by omega, by go_num, by go_num, by omega, HN⟩
        case measure => simp [intOf]; omega
      have HN : Hid (nodesP (L.take (k + 1)) = m) := by
        show nodesP _ = _
        rw [nodes_next hx, HM.out]
        simp [isN, h7, h3, h5]
      generalize x.k = xk at *
      have b7 : (xk == 7) = false := by simp [h7]
      have b3 : (xk == 3) = false := by simp [h3]
      have b5 : (xk == 5) = false := by simp [h5]
      clear hE hc hx HM
      go_wp2
      go_round
      case rel => exact ⟨k + 1, m, by omega, by go_num, by rfl, by omega, HN⟩
      case measure => simp [intOf]; omega
    · have hge : ¬ (k : Int) < L.length := by omega
      obtain rfl : k = L.length := by omega
      have hmV : m = V := by rw [← HV.out, ← HM.out, List.take_length]
      subst hmV
      clear hE HM HV
      go_wp2
      go_ret
      exact ⟨rfl, rfl⟩

/-- What Big answers: if there are not too many, there are few. -/
def BigE (L : List Ev) (e : Ending) : Prop := ∃ V : Bool, e = .returned (.bool V) ∧ (V = false → L.length ≤ 300)

set_option maxRecDepth 100000 in
set_option maxHeartbeats 2000000 in
theorem Big_any (p : Option Addr) (L : List Ev) (cap : Nat) (w : World) (hl : L.length ≤ maxLen) (hE : Es w p L) :
    Calls Tryz.prog 8 #[.slice p L.length cap] w fun e w' => BigE L e ∧ w' = w := by
  have hl2 : (L.length : Int) ≤ 9223372036854775807 := by unfold maxLen at hl; omega
  clear hl
  go_enter Tryz.func8, Tryz.ntmps8
  go_wp2
  go_loop [3] (fun iv => ∃ (k : Nat), k ≤ L.length ∧ iv = .int .i64 k) (fun iv => L.length - (intOf iv).toNat)
  case atStart => exact ⟨0, Nat.zero_le _, rfl⟩
  case round =>
    obtain ⟨k, hk, rfl⟩ := hrel
    by_cases hlt : k < L.length
    · have hli : (k : Int) < L.length := by omega
      obtain ⟨b, o, rfl, hc⟩ := hE.at (by omega)
      obtain ⟨x, hx⟩ := ev_at hlt
      have c1 := (hc k x hx).c1
      have c2 := (hc k x hx).c2
      have c3 := (hc k x hx).c3
      obtain ⟨xk, tx, tg, an, st, fl⟩ := x
      dsimp only at c1 c2 c3
      clear hE hc hx
      by_cases h1 : (500 : Int) < (tx.size : Int)
      · go_wp2
        go_ret
        exact ⟨⟨_, rfl, fun h => by cases h⟩, rfl⟩
      by_cases h2 : (300 : Int) < (tg.size : Int)
      · go_wp2
        go_ret
        exact ⟨⟨_, rfl, fun h => by cases h⟩, rfl⟩
      by_cases h3 : (300 : Int) < (an.size : Int)
      · go_wp2
        go_ret
        exact ⟨⟨_, rfl, fun h => by cases h⟩, rfl⟩
      go_wp2
      go_round
      case rel => exact ⟨k + 1, by omega, by go_num⟩
      case measure => simp [intOf]; omega
    · have hge : ¬ (k : Int) < L.length := by omega
      clear hE
      go_wp2
      go_ret
      refine ⟨⟨_, rfl, fun h => ?_⟩, rfl⟩
      simp at h
      omega
end Go.Proofs.YteeanpfhngoobaaGreat
