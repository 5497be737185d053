/- numbered: the escape of digits. -/
import Derived.Test.YtpiefdpcinjkpaaDoorPla
set_option linter.unusedVariables false
set_option linter.unusedSimpArgs false
namespace Go.Proofs.YtpiefdpcinjkpaaDoor
open Go.RowKit

theorem grown_of_alloc {w w' : World} {o : Obj} (h : (w.alloc o).grownBy w' none) : w.grownBy w' none := by
  obtain ⟨h1, h2, h3, h4, h5⟩ := h
  refine ⟨h1, h2, h3, by rw [World.size_alloc] at h4; omega, fun k hk hr => ?_⟩
  exact (h5 k (by rw [World.size_alloc]; omega) hr).trans (Below.heap_alloc w o k hk)
theorem grown_set {w W : World} (h : w.grownBy W none) {a : Addr} (ha : w.heap.size ≤ a.block) (v : Value) : w.grownBy (W.setCell a v) none := by
  obtain ⟨h1, h2, h3, h4, h5⟩ := h
  refine ⟨h1, h2, h3, by have := (KeepsOthers.setCell W a v).size; omega, fun k hk hr => ?_⟩
  exact (Below.heap_setCell W a v k (by omega)).trans (h5 k hk hr)
theorem grown_new (w : World) (o : Obj) : w.grownBy (w.alloc o) none := World.grownBy_alloc w o none
theorem grown_refl (w : World) : w.grownBy w none := ⟨rfl, rfl, rfl, Nat.le_refl _, fun _ _ _ => rfl⟩
theorem grown_trans {a b c : World} (h : a.grownBy b none) (k : b.grownBy c none) : a.grownBy c none := by
  obtain ⟨h1, h2, h3, h4, h5⟩ := h
  obtain ⟨k1, k2, k3, k4, k5⟩ := k
  exact ⟨k1.trans h1, k2.trans h2, k3.trans h3, Nat.le_trans h4 k4, fun i hi hr => (k5 i (Nat.lt_of_lt_of_le hi h4) hr).trans (h5 i hi hr)⟩
theorem grown_below {a b : World} (h : a.grownBy b none) : Below a.heap.size a b := (Below.refl _ a).grown h (Nat.le_refl _) (fun k e => by cases e)

theorem take_more' {t : List Int} {j : Nat} (h : j < t.length) : t.take (j + 1) = t.take j ++ [iAt t j] := by
  rw [List.take_add_one]
  simp [iAt, h]

/-- Three stores into a variable of three cells. -/
def put3 (W : World) (g : Nat) (b0 b1 b2 : Value) : World := ((W.setCell ⟨g, 0, none⟩ b0).setCell ⟨g, 1, none⟩ b1).setCell ⟨g, 2, none⟩ b2
theorem put3_grown {w W : World} (h : w.grownBy W none) {g : Nat} (hg : w.heap.size ≤ g) (b0 b1 b2 : Value) : w.grownBy (put3 W g b0 b1 b2) none :=
  grown_set (grown_set (grown_set h hg b0) hg b1) hg b2

set_option maxRecDepth 100000 in
set_option maxHeartbeats 1000000 in
theorem numb_any (q : Option Addr) (t : List Int) (c k : Nat) (w : World) (hc : t.length ≤ c) (hm : c ≤ maxLen) (hk : k ≤ 8) (hI : Is w q t) :
    Calls Tryd.prog 43 #[.slice q t.length c, .int .i64 (k : Nat)] w fun e w' => e = .returned (escV (numbP t k)) ∧ w.grownBy w' none := by
  have hm2 : (c : Int) ≤ 9223372036854775807 := by unfold maxLen at hm; omega
  have hc2 : (t.length : Int) ≤ c := by omega
  have G0 := grown_new w (.cells #[.int .i64 0, .int .i64 0, .int .i64 0] 60)
  by_cases hlt : t.length < k
  · have hlt' : (t.length : Int) < k := by omega
    have e : numbP t k = ⟨0, 0, 2⟩ := by unfold numbP; rw [if_pos hlt]
    rw [e]
    go_enter Tryd.func43, Tryd.ntmps43
    go_wp2
    refine bodyPost_ret (v := escV ⟨0, 0, 2⟩) (by simp [results, Tryd.results43, go_sem, escV]) rfl ⟨rfl, ?_⟩
    exact grown_new _ _
  · have hge : ¬ (t.length : Int) < k := by omega
    have hkc : k ≤ c := by omega
    have S := slice_to q t.length c k hkc
    have HN : Hid (numbP t k = match accP (t.take k) with | none => ⟨0, 0, 2⟩ | some n => if pointP n then ⟨2 + k, n, 0⟩ else ⟨0, 0, 4⟩) := by
      show _ = _
      unfold numbP
      rw [if_neg hlt]
      rfl
    generalize numbP t k = E at HN ⊢
    go_enter Tryd.func43, Tryd.ntmps43
    go_wp2
    clear S
    go_loop [5, 18] (fun pv iv => ∃ (j n : Nat), j ≤ k ∧ iv = .int .i64 j ∧ pv = .int .i64 n ∧ Hid (accP (t.take j) = some n)) (fun _ iv => k - (intOf iv).toNat)
    case atStart => exact ⟨0, 0, Nat.zero_le _, rfl, rfl, rfl⟩
    case round =>
      obtain ⟨j, n, hj, rfl, rfl, HA⟩ := hrel
      by_cases hjk : j < k
      · have hjk' : (j : Int) < k := by omega
        have hn1 : n < 268435456 := by
          have h1 := accP_lt _ _ HA.out
          have h2 : (t.take j).length ≤ 7 := by rw [List.length_take]; omega
          have h3 : 16 ^ (t.take j).length ≤ 16 ^ 7 := Nat.pow_le_pow_right (by decide) h2
          have h4 : (16 : Nat) ^ 7 = 268435456 := by decide
          omega
        obtain ⟨b, o, rfl, hu⟩ := (hI.alloc (.cells #[.int .i64 0, .int .i64 0, .int .i64 0] 60)).at (by omega)
        have d0 := hu j (by omega)
        have hs1 := take_more' (t := t) (j := j) (by omega)
        have HX := hex_any (iAt t j)
        have hx1 := hexP_lt (iAt t j)
        have hx2 := hexP_ge (iAt t j)
        have HS : Hid (accP (t.take (j + 1)) = accS (some n) (iAt t j)) := by
          show _ = _
          rw [hs1, accP_snoc, HA.out]
        by_cases hneg : hexP (iAt t j) < 0
        · have HE : Hid (E = ⟨0, 0, 2⟩) := by
            show _ = _
            have h1 : accP (t.take (j + 1)) = none := by rw [HS.out]; unfold accS; simp [hneg]
            have h2 := accP_none ((t.drop (j + 1)).take (k - (j + 1))) _ h1
            have h3 : t.take (j + 1) ++ (t.drop (j + 1)).take (k - (j + 1)) = t.take k := by
              rw [← List.take_add]; congr 1; omega
            rw [h3] at h2
            rw [HN.out, h2]
          generalize iAt t j = x at d0 HX hx1 hx2 hneg HS
          generalize hexP x = y at HX hx1 hx2 hneg
          clear hu hs1 HS HN HA
          go_wp2_with (go_at_call 49; refine (HX _).mono ?_; rintro e w' ⟨rfl, rfl⟩)
          rw [HE.out]
          refine bodyPost_ret (v := escV ⟨0, 0, 2⟩) (by simp [results, Tryd.results43, go_sem, escV]) rfl ⟨rfl, ?_⟩
          exact grown_new _ _
        · obtain ⟨y, hy⟩ : ∃ y : Nat, hexP (iAt t j) = y := ⟨(hexP (iAt t j)).toNat, by omega⟩
          have HS2 : Hid (accP (t.take (j + 1)) = some (n * 16 + y)) := by
            show _ = _
            rw [HS.out]; unfold accS; simp [hneg, hy]
          have hor := or16 n y hn1 (by omega)
          have hw1 : wrap64 ((n : Int) * 16) = (n : Int) * 16 := by unfold wrap64; omega
          rw [hy] at HX hneg hx1
          generalize iAt t j = x at d0 HX
          clear hu hs1 HS hy hx2
          have hneg' : ¬ ((y : Int) < 0) := by omega
          go_wp2_with (go_at_call 49; refine (HX _).mono ?_; rintro e w' ⟨rfl, rfl⟩)
          go_round
          case rel => exact ⟨j + 1, n * 16 + y, by omega, by go_num, by first | (rw [hor]) | rfl, HS2⟩
          case measure => simp [intOf]; omega
      · obtain rfl : j = k := by omega
        have HE : Hid (E = if pointP n then ⟨2 + j, n, 0⟩ else ⟨0, 0, 4⟩) := by
          show _ = _
          rw [HN.out, HA.out]
        have IP := isPoint_any (n : Int)
        cases hp : pointP n with
        | true =>
          rw [hp] at IP
          rw [hp, if_pos rfl] at HE
          clear HN HA hp
          go_wp2_with (go_at_call 23; refine (IP _).mono ?_; rintro e w' ⟨rfl, rfl⟩)
          rw [HE.out]
          refine bodyPost_ret (v := escV ⟨2 + j, n, 0⟩) (by simp [results, Tryd.results43, go_sem, escV]) rfl ⟨rfl, ?_⟩
          exact grown_new _ _
        | false =>
          rw [hp] at IP
          rw [hp, if_neg (by simp)] at HE
          clear HN HA hp
          go_wp2_with (go_at_call 23; refine (IP _).mono ?_; rintro e w' ⟨rfl, rfl⟩)
          rw [HE.out]
          refine bodyPost_ret (v := escV ⟨0, 0, 4⟩) (by simp [results, Tryd.results43, go_sem, escV]) rfl ⟨rfl, ?_⟩
          exact grown_new _ _
end Go.Proofs.YtpiefdpcinjkpaaDoor
