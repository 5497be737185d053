/- The document's own escape: the same escapes. -/
import Derived.Test.YtpiefdpcinjkpaaDoorAlv
set_option linter.unusedVariables false
set_option linter.unusedSimpArgs false
namespace Go.Proofs.YtpiefdpcinjkpaaDoor
open Go.RowKit Go.Shelf

def fromL : List Int := [48, 97, 98, 116, 9, 110, 118, 102, 114, 101, 32, 34, 47, 92, 78, 95, 76, 80]
def toL : List Int := [0, 7, 8, 9, 9, 10, 11, 12, 13, 27, 32, 34, 47, 92, 133, 160, 8232, 8233]
theorem from_at : ∀ j, j < 18 → iAt fromL j = sgn j := by decide
theorem to_at : ∀ j, j < 18 → iAt toL j = pnt j := by decide
/-- The world behind the two lists. -/
def wE (w : World) : World := (w.alloc (.cells #[.int .i64 48, .int .i64 97, .int .i64 98, .int .i64 116, .int .i64 9, .int .i64 110, .int .i64 118, .int .i64 102, .int .i64 114, .int .i64 101, .int .i64 32, .int .i64 34, .int .i64 47, .int .i64 92, .int .i64 78, .int .i64 95, .int .i64 76, .int .i64 80] 3)).alloc (.cells #[.int .i64 0, .int .i64 7, .int .i64 8, .int .i64 9, .int .i64 9, .int .i64 10, .int .i64 11, .int .i64 12, .int .i64 13, .int .i64 27, .int .i64 32, .int .i64 34, .int .i64 47, .int .i64 92, .int .i64 133, .int .i64 160, .int .i64 8232, .int .i64 8233] 3)
theorem wE_facts (w : World) : w.grownBy (wE w) none ∧ (∀ j, j < 18 → (wE w).cell? ⟨w.heap.size, j, none⟩ = some (.int .i64 (sgn j))) ∧ (∀ j, j < 18 → (wE w).cell? ⟨w.heap.size + 1, j, none⟩ = some (.int .i64 (pnt j))) := by
  have h1 := World.alloc_heap_new w (.cells #[.int .i64 48, .int .i64 97, .int .i64 98, .int .i64 116, .int .i64 9, .int .i64 110, .int .i64 118, .int .i64 102, .int .i64 114, .int .i64 101, .int .i64 32, .int .i64 34, .int .i64 47, .int .i64 92, .int .i64 78, .int .i64 95, .int .i64 76, .int .i64 80] 3)
  have h2 := World.alloc_heap_new (w.alloc (.cells #[.int .i64 48, .int .i64 97, .int .i64 98, .int .i64 116, .int .i64 9, .int .i64 110, .int .i64 118, .int .i64 102, .int .i64 114, .int .i64 101, .int .i64 32, .int .i64 34, .int .i64 47, .int .i64 92, .int .i64 78, .int .i64 95, .int .i64 76, .int .i64 80] 3)) (.cells #[.int .i64 0, .int .i64 7, .int .i64 8, .int .i64 9, .int .i64 9, .int .i64 10, .int .i64 11, .int .i64 12, .int .i64 13, .int .i64 27, .int .i64 32, .int .i64 34, .int .i64 47, .int .i64 92, .int .i64 133, .int .i64 160, .int .i64 8232, .int .i64 8233] 3)
  rw [World.size_alloc] at h2
  have h1' : (wE w).heap[w.heap.size]? = _ := (Below.heap_alloc _ _ w.heap.size (by simp)).trans h1
  have i1 : Is (wE w) (some ⟨w.heap.size, 0, none⟩) fromL := is_of_block (l := fromL) h1'
  have i2 : Is (wE w) (some ⟨w.heap.size + 1, 0, none⟩) toL := is_of_block (l := toL) h2
  refine ⟨grown_trans (grown_new _ _) (grown_new _ _), fun j hj => ?_, fun j hj => ?_⟩
  · obtain ⟨b, o, e, hc⟩ := i1.at (by decide)
    cases e
    have := hc j hj
    rw [Nat.zero_add, from_at j hj] at this
    exact this
  · obtain ⟨b, o, e, hc⟩ := i2.at (by decide)
    cases e
    have := hc j hj
    rw [Nat.zero_add, to_at j hj] at this
    exact this

def escT (x : Esc) : Value := .tuple #[.int .i64 x.point, .int .i64 (x.size - 1 : Nat), .int .i64 (x.fault : Nat)]

theorem numbP_fail {r : List Int} {n k : Nat} (hk : k < n) (h : r.length ≤ k ∨ accP (r.take (k + 1)) = none) : numbP r n = ⟨0, 0, 2⟩ := by
  unfold numbP
  by_cases hl : r.length < n
  · rw [if_pos hl]
  · rw [if_neg hl]
    rcases h with h | h
    · omega
    · have h2 := accP_none ((r.drop (k + 1)).take (n - (k + 1))) _ h
      have h3 : r.take (k + 1) ++ (r.drop (k + 1)).take (n - (k + 1)) = r.take n := by
        rw [← List.take_add]; congr 1; omega
      rw [h3] at h2
      rw [h2]
theorem numbP_done {r : List Int} {n m : Nat} (hl : n ≤ r.length) (h : accP (r.take n) = some m) : numbP r n = if pointP m then ⟨2 + n, m, 0⟩ else ⟨0, 0, 4⟩ := by
  unfold numbP
  rw [if_neg (by omega), h]

set_option maxRecDepth 100000 in
set_option maxHeartbeats 2000000 in
theorem refEsc120 (b o : Nat) (t : List Int) (c i : Nat) (w : World) (hn : t.length ≤ 1099511627776) (hi : i < t.length) (hx : iAt t i = 120) (hI : Is w (some ⟨b, o, none⟩) t) :
    Calls Tryd.prog 30 #[.slice (some ⟨b, o, none⟩) t.length c, .int .i64 (i : Nat)] w fun e w' => e = .returned (escT (numbP (t.drop (i + 1)) 2)) ∧ w.grownBy w' none := by
  obtain ⟨hg, hF, hTo⟩ := wE_facts w
  have hn2 : (t.length : Int) ≤ 1099511627776 := by omega
  have hi2 : (i : Int) < t.length := by omega
  have HI : Hid (Is (wE w) (some ⟨b, o, none⟩) t) := hI.grown hg
  have HX : Hid ((wE w).cell? ⟨b, o + i, none⟩ = some (.int .i64 120)) := by
    obtain ⟨b', o', e, hc⟩ := HI.out.at (by omega)
    cases e
    have := hc i hi
    rw [hx] at this
    exact this
  have HF : Hid (∀ j, j < 18 → (wE w).cell? ⟨w.heap.size, j, none⟩ = some (.int .i64 (sgn j))) := hF
  have HG : Hid (∀ m, w.grownBy ((wE w).drewN m) none) := fun m => grown_trans hg (grown_drewN _ m)
  have hr : ∀ j, j < 18 → (sgn j == 120) = false := by decide
  obtain ⟨r, hr'⟩ : ∃ r, t.drop (i + 1) = r := ⟨_, rfl⟩
  have hrl : r.length = t.length - (i + 1) := by rw [← hr', List.length_drop]
  have HR : Hid (∀ k, k < r.length → iAt r k = iAt t (i + 1 + k)) := fun k hk => by rw [← hr']; simp [iAt]
  rw [hr']
  obtain ⟨E, hE⟩ : ∃ E, numbP r 2 = E := ⟨_, rfl⟩
  rw [hE]
  have HE : Hid (numbP r 2 = E) := hE
  clear hg hF hTo hI hx hr' hE
  go_enter Tryd.func30, Tryd.ntmps30
  go_wp2
  change Code.wp _ _ _ _ (wE w)
  generalize wE w = W1 at *
  go_loopw [9] (fun iv wr => ∃ (j m : Nat), j ≤ 18 ∧ iv = .int .i64 j ∧ wr = W1.drewN m) (fun iv _ => 18 - (intOf iv).toNat)
  case atStart => exact ⟨0, 0, by omega, rfl, rfl⟩
  case round =>
    obtain ⟨j, m, hj, rfl, rfl⟩ := hrel
    by_cases hlt : j < 18
    · have hlt' : (j : Int) < 18 := by omega
      have c0 := HF.out j hlt
      have c1 := HX.out
      have hne := hr j hlt
      generalize sgn j = sj at c0 hne
      go_wp2
      go_quiet (fail)
      go_wp2
      go_roundw
      case rel => exact ⟨j + 1, _, by omega, by go_num, rfl⟩
      case measure => simp [intOf]; omega
    · obtain rfl : j = 18 := by omega
      rw [show ((18 : Nat) : Int) = 18 from rfl]
      have c1 := HX.out
      go_wp2
      clear c1
      go_loop [11, 12] (fun cv kv => ∃ (k n : Nat), k ≤ 2 ∧ k ≤ r.length ∧ kv = .int .i64 ((k : Int) + 1) ∧ cv = .int .i64 n ∧ Hid (accP (r.take k) = some n)) (fun _ kv => 2 + 1 - (intOf kv).toNat)
      case atStart => exact ⟨0, 0, by omega, by omega, rfl, rfl, rfl⟩
      case round =>
        obtain ⟨k, n, hk, hkr, rfl, rfl, HA⟩ := hrel
        by_cases hkn : k < 2
        · have hkn' : (k : Int) + 1 ≤ 2 := by omega
          by_cases hlen : k < r.length
          · have hlen' : ¬ (t.length : Int) ≤ (i : Int) + ((k : Int) + 1) := by omega
            have hlen2 : (i : Int) + ((k : Int) + 1) < t.length := by omega
            have hn1 : n < 268435456 := by
              have h1 := accP_lt _ _ HA.out
              have h2 : (r.take k).length ≤ 7 := by rw [List.length_take]; omega
              have h3 : 16 ^ (r.take k).length ≤ 16 ^ 7 := Nat.pow_le_pow_right (by decide) h2
              have h4 : (16 : Nat) ^ 7 = 268435456 := by decide
              omega
            have d0 : W1.cell? ⟨b, o + (i + (k + 1)), none⟩ = some (.int .i64 (iAt r k)) := by
              obtain ⟨b', o', e, hc⟩ := HI.out.at (by omega)
              cases e
              have := hc (i + (k + 1)) (by omega)
              rw [HR.out k hlen, this]
              congr 3; omega
            have hix : ((i : Int) + ((k : Int) + 1)).toNat = i + (k + 1) := by omega
            have hix0 : (0 : Int) ≤ (i : Int) + ((k : Int) + 1) := by omega
            have hs1 := take_more' (t := r) (j := k) hlen
            have HXX := rhex_any (iAt r k)
            have hx1 := hexP_lt (iAt r k)
            have hx2 := hexP_ge (iAt r k)
            have HS : Hid (accP (r.take (k + 1)) = accS (some n) (iAt r k)) := by show _ = _; rw [hs1, accP_snoc, HA.out]
            by_cases hneg : hexP (iAt r k) < 0
            · have HE2 : Hid (E = ⟨0, 0, 2⟩) := by
                show _ = _
                rw [← HE.out]
                exact numbP_fail hkn (.inr (by rw [HS.out]; unfold accS; simp [hneg]))
              generalize iAt r k = x at d0 HXX hx1 hx2 hneg HS
              generalize hexP x = y at HXX hx1 hx2 hneg
              clear hs1 HS HE HA
              go_wp2_with (go_at_call 40; refine (HXX _).mono ?_; rintro e w' ⟨rfl, rfl⟩)
              rw [HE2.out]
              go_ret3
              exact ⟨rfl, HG.out m⟩
            · obtain ⟨y, hy⟩ : ∃ y : Nat, hexP (iAt r k) = y := ⟨(hexP (iAt r k)).toNat, by omega⟩
              have HS2 : Hid (accP (r.take (k + 1)) = some (n * 16 + y)) := by show _ = _; rw [HS.out]; unfold accS; simp [hneg, hy]
              rw [hy] at HXX hneg hx1
              generalize iAt r k = x at d0 HXX
              clear hs1 HS hy hx2
              have hneg' : ¬ ((y : Int) < 0) := by omega
              go_wp2_with (go_at_call 40; refine (HXX _).mono ?_; rintro e w' ⟨rfl, rfl⟩)
              go_round
              case rel => exact ⟨k + 1, n * 16 + y, by omega, by omega, by go_num, by go_num, HS2⟩
              case measure => simp [intOf]; omega
          · have hlen' : (t.length : Int) ≤ (i : Int) + ((k : Int) + 1) := by omega
            have HE2 : Hid (E = ⟨0, 0, 2⟩) := by show _ = _; rw [← HE.out]; exact numbP_fail hkn (.inl (by omega))
            go_wp2
            rw [HE2.out]
            go_ret3
            exact ⟨rfl, HG.out m⟩
        · obtain rfl : k = 2 := by omega
          have HE2 : Hid (E = if pointP n then ⟨2 + 2, n, 0⟩ else ⟨0, 0, 4⟩) := by show _ = _; rw [← HE.out]; exact numbP_done hkr HA.out
          have IP := right_any (n : Int)
          cases hp : pointP n with
          | true =>
            rw [hp] at IP
            rw [hp, if_pos rfl] at HE2
            clear hp HE HA
            go_wp2_with (go_at_call 41; refine (IP _).mono ?_; rintro e w' ⟨rfl, rfl⟩)
            rw [HE2.out]
            go_ret3
            exact ⟨rfl, HG.out m⟩
          | false =>
            rw [hp] at IP
            rw [hp, if_neg (by simp)] at HE2
            clear hp HE HA
            go_wp2_with (go_at_call 41; refine (IP _).mono ?_; rintro e w' ⟨rfl, rfl⟩)
            rw [HE2.out]
            go_ret3
            exact ⟨rfl, HG.out m⟩

set_option maxRecDepth 100000 in
set_option maxHeartbeats 2000000 in
theorem refEsc117 (b o : Nat) (t : List Int) (c i : Nat) (w : World) (hn : t.length ≤ 1099511627776) (hi : i < t.length) (hx : iAt t i = 117) (hI : Is w (some ⟨b, o, none⟩) t) :
    Calls Tryd.prog 30 #[.slice (some ⟨b, o, none⟩) t.length c, .int .i64 (i : Nat)] w fun e w' => e = .returned (escT (numbP (t.drop (i + 1)) 4)) ∧ w.grownBy w' none := by
  obtain ⟨hg, hF, hTo⟩ := wE_facts w
  have hn2 : (t.length : Int) ≤ 1099511627776 := by omega
  have hi2 : (i : Int) < t.length := by omega
  have HI : Hid (Is (wE w) (some ⟨b, o, none⟩) t) := hI.grown hg
  have HX : Hid ((wE w).cell? ⟨b, o + i, none⟩ = some (.int .i64 117)) := by
    obtain ⟨b', o', e, hc⟩ := HI.out.at (by omega)
    cases e
    have := hc i hi
    rw [hx] at this
    exact this
  have HF : Hid (∀ j, j < 18 → (wE w).cell? ⟨w.heap.size, j, none⟩ = some (.int .i64 (sgn j))) := hF
  have HG : Hid (∀ m, w.grownBy ((wE w).drewN m) none) := fun m => grown_trans hg (grown_drewN _ m)
  have hr : ∀ j, j < 18 → (sgn j == 117) = false := by decide
  obtain ⟨r, hr'⟩ : ∃ r, t.drop (i + 1) = r := ⟨_, rfl⟩
  have hrl : r.length = t.length - (i + 1) := by rw [← hr', List.length_drop]
  have HR : Hid (∀ k, k < r.length → iAt r k = iAt t (i + 1 + k)) := fun k hk => by rw [← hr']; simp [iAt]
  rw [hr']
  obtain ⟨E, hE⟩ : ∃ E, numbP r 4 = E := ⟨_, rfl⟩
  rw [hE]
  have HE : Hid (numbP r 4 = E) := hE
  clear hg hF hTo hI hx hr' hE
  go_enter Tryd.func30, Tryd.ntmps30
  go_wp2
  change Code.wp _ _ _ _ (wE w)
  generalize wE w = W1 at *
  go_loopw [9] (fun iv wr => ∃ (j m : Nat), j ≤ 18 ∧ iv = .int .i64 j ∧ wr = W1.drewN m) (fun iv _ => 18 - (intOf iv).toNat)
  case atStart => exact ⟨0, 0, by omega, rfl, rfl⟩
  case round =>
    obtain ⟨j, m, hj, rfl, rfl⟩ := hrel
    by_cases hlt : j < 18
    · have hlt' : (j : Int) < 18 := by omega
      have c0 := HF.out j hlt
      have c1 := HX.out
      have hne := hr j hlt
      generalize sgn j = sj at c0 hne
      go_wp2
      go_quiet (fail)
      go_wp2
      go_roundw
      case rel => exact ⟨j + 1, _, by omega, by go_num, rfl⟩
      case measure => simp [intOf]; omega
    · obtain rfl : j = 18 := by omega
      rw [show ((18 : Nat) : Int) = 18 from rfl]
      have c1 := HX.out
      go_wp2
      clear c1
      go_loop [11, 12] (fun cv kv => ∃ (k n : Nat), k ≤ 4 ∧ k ≤ r.length ∧ kv = .int .i64 ((k : Int) + 1) ∧ cv = .int .i64 n ∧ Hid (accP (r.take k) = some n)) (fun _ kv => 4 + 1 - (intOf kv).toNat)
      case atStart => exact ⟨0, 0, by omega, by omega, rfl, rfl, rfl⟩
      case round =>
        obtain ⟨k, n, hk, hkr, rfl, rfl, HA⟩ := hrel
        by_cases hkn : k < 4
        · have hkn' : (k : Int) + 1 ≤ 4 := by omega
          by_cases hlen : k < r.length
          · have hlen' : ¬ (t.length : Int) ≤ (i : Int) + ((k : Int) + 1) := by omega
            have hlen2 : (i : Int) + ((k : Int) + 1) < t.length := by omega
            have hn1 : n < 268435456 := by
              have h1 := accP_lt _ _ HA.out
              have h2 : (r.take k).length ≤ 7 := by rw [List.length_take]; omega
              have h3 : 16 ^ (r.take k).length ≤ 16 ^ 7 := Nat.pow_le_pow_right (by decide) h2
              have h4 : (16 : Nat) ^ 7 = 268435456 := by decide
              omega
            have d0 : W1.cell? ⟨b, o + (i + (k + 1)), none⟩ = some (.int .i64 (iAt r k)) := by
              obtain ⟨b', o', e, hc⟩ := HI.out.at (by omega)
              cases e
              have := hc (i + (k + 1)) (by omega)
              rw [HR.out k hlen, this]
              congr 3; omega
            have hix : ((i : Int) + ((k : Int) + 1)).toNat = i + (k + 1) := by omega
            have hix0 : (0 : Int) ≤ (i : Int) + ((k : Int) + 1) := by omega
            have hs1 := take_more' (t := r) (j := k) hlen
            have HXX := rhex_any (iAt r k)
            have hx1 := hexP_lt (iAt r k)
            have hx2 := hexP_ge (iAt r k)
            have HS : Hid (accP (r.take (k + 1)) = accS (some n) (iAt r k)) := by show _ = _; rw [hs1, accP_snoc, HA.out]
            by_cases hneg : hexP (iAt r k) < 0
            · have HE2 : Hid (E = ⟨0, 0, 2⟩) := by
                show _ = _
                rw [← HE.out]
                exact numbP_fail hkn (.inr (by rw [HS.out]; unfold accS; simp [hneg]))
              generalize iAt r k = x at d0 HXX hx1 hx2 hneg HS
              generalize hexP x = y at HXX hx1 hx2 hneg
              clear hs1 HS HE HA
              go_wp2_with (go_at_call 40; refine (HXX _).mono ?_; rintro e w' ⟨rfl, rfl⟩)
              rw [HE2.out]
              go_ret3
              exact ⟨rfl, HG.out m⟩
            · obtain ⟨y, hy⟩ : ∃ y : Nat, hexP (iAt r k) = y := ⟨(hexP (iAt r k)).toNat, by omega⟩
              have HS2 : Hid (accP (r.take (k + 1)) = some (n * 16 + y)) := by show _ = _; rw [HS.out]; unfold accS; simp [hneg, hy]
              rw [hy] at HXX hneg hx1
              generalize iAt r k = x at d0 HXX
              clear hs1 HS hy hx2
              have hneg' : ¬ ((y : Int) < 0) := by omega
              go_wp2_with (go_at_call 40; refine (HXX _).mono ?_; rintro e w' ⟨rfl, rfl⟩)
              go_round
              case rel => exact ⟨k + 1, n * 16 + y, by omega, by omega, by go_num, by go_num, HS2⟩
              case measure => simp [intOf]; omega
          · have hlen' : (t.length : Int) ≤ (i : Int) + ((k : Int) + 1) := by omega
            have HE2 : Hid (E = ⟨0, 0, 2⟩) := by show _ = _; rw [← HE.out]; exact numbP_fail hkn (.inl (by omega))
            go_wp2
            rw [HE2.out]
            go_ret3
            exact ⟨rfl, HG.out m⟩
        · obtain rfl : k = 4 := by omega
          have HE2 : Hid (E = if pointP n then ⟨2 + 4, n, 0⟩ else ⟨0, 0, 4⟩) := by show _ = _; rw [← HE.out]; exact numbP_done hkr HA.out
          have IP := right_any (n : Int)
          cases hp : pointP n with
          | true =>
            rw [hp] at IP
            rw [hp, if_pos rfl] at HE2
            clear hp HE HA
            go_wp2_with (go_at_call 41; refine (IP _).mono ?_; rintro e w' ⟨rfl, rfl⟩)
            rw [HE2.out]
            go_ret3
            exact ⟨rfl, HG.out m⟩
          | false =>
            rw [hp] at IP
            rw [hp, if_neg (by simp)] at HE2
            clear hp HE HA
            go_wp2_with (go_at_call 41; refine (IP _).mono ?_; rintro e w' ⟨rfl, rfl⟩)
            rw [HE2.out]
            go_ret3
            exact ⟨rfl, HG.out m⟩

set_option maxRecDepth 100000 in
set_option maxHeartbeats 2000000 in
theorem refEsc85 (b o : Nat) (t : List Int) (c i : Nat) (w : World) (hn : t.length ≤ 1099511627776) (hi : i < t.length) (hx : iAt t i = 85) (hI : Is w (some ⟨b, o, none⟩) t) :
    Calls Tryd.prog 30 #[.slice (some ⟨b, o, none⟩) t.length c, .int .i64 (i : Nat)] w fun e w' => e = .returned (escT (numbP (t.drop (i + 1)) 8)) ∧ w.grownBy w' none := by
  obtain ⟨hg, hF, hTo⟩ := wE_facts w
  have hn2 : (t.length : Int) ≤ 1099511627776 := by omega
  have hi2 : (i : Int) < t.length := by omega
  have HI : Hid (Is (wE w) (some ⟨b, o, none⟩) t) := hI.grown hg
  have HX : Hid ((wE w).cell? ⟨b, o + i, none⟩ = some (.int .i64 85)) := by
    obtain ⟨b', o', e, hc⟩ := HI.out.at (by omega)
    cases e
    have := hc i hi
    rw [hx] at this
    exact this
  have HF : Hid (∀ j, j < 18 → (wE w).cell? ⟨w.heap.size, j, none⟩ = some (.int .i64 (sgn j))) := hF
  have HG : Hid (∀ m, w.grownBy ((wE w).drewN m) none) := fun m => grown_trans hg (grown_drewN _ m)
  have hr : ∀ j, j < 18 → (sgn j == 85) = false := by decide
  obtain ⟨r, hr'⟩ : ∃ r, t.drop (i + 1) = r := ⟨_, rfl⟩
  have hrl : r.length = t.length - (i + 1) := by rw [← hr', List.length_drop]
  have HR : Hid (∀ k, k < r.length → iAt r k = iAt t (i + 1 + k)) := fun k hk => by rw [← hr']; simp [iAt]
  rw [hr']
  obtain ⟨E, hE⟩ : ∃ E, numbP r 8 = E := ⟨_, rfl⟩
  rw [hE]
  have HE : Hid (numbP r 8 = E) := hE
  clear hg hF hTo hI hx hr' hE
  go_enter Tryd.func30, Tryd.ntmps30
  go_wp2
  change Code.wp _ _ _ _ (wE w)
  generalize wE w = W1 at *
  go_loopw [9] (fun iv wr => ∃ (j m : Nat), j ≤ 18 ∧ iv = .int .i64 j ∧ wr = W1.drewN m) (fun iv _ => 18 - (intOf iv).toNat)
  case atStart => exact ⟨0, 0, by omega, rfl, rfl⟩
  case round =>
    obtain ⟨j, m, hj, rfl, rfl⟩ := hrel
    by_cases hlt : j < 18
    · have hlt' : (j : Int) < 18 := by omega
      have c0 := HF.out j hlt
      have c1 := HX.out
      have hne := hr j hlt
      generalize sgn j = sj at c0 hne
      go_wp2
      go_quiet (fail)
      go_wp2
      go_roundw
      case rel => exact ⟨j + 1, _, by omega, by go_num, rfl⟩
      case measure => simp [intOf]; omega
    · obtain rfl : j = 18 := by omega
      rw [show ((18 : Nat) : Int) = 18 from rfl]
      have c1 := HX.out
      go_wp2
      clear c1
      go_loop [11, 12] (fun cv kv => ∃ (k n : Nat), k ≤ 8 ∧ k ≤ r.length ∧ kv = .int .i64 ((k : Int) + 1) ∧ cv = .int .i64 n ∧ Hid (accP (r.take k) = some n)) (fun _ kv => 8 + 1 - (intOf kv).toNat)
      case atStart => exact ⟨0, 0, by omega, by omega, rfl, rfl, rfl⟩
      case round =>
        obtain ⟨k, n, hk, hkr, rfl, rfl, HA⟩ := hrel
        by_cases hkn : k < 8
        · have hkn' : (k : Int) + 1 ≤ 8 := by omega
          by_cases hlen : k < r.length
          · have hlen' : ¬ (t.length : Int) ≤ (i : Int) + ((k : Int) + 1) := by omega
            have hlen2 : (i : Int) + ((k : Int) + 1) < t.length := by omega
            have hn1 : n < 268435456 := by
              have h1 := accP_lt _ _ HA.out
              have h2 : (r.take k).length ≤ 7 := by rw [List.length_take]; omega
              have h3 : 16 ^ (r.take k).length ≤ 16 ^ 7 := Nat.pow_le_pow_right (by decide) h2
              have h4 : (16 : Nat) ^ 7 = 268435456 := by decide
              omega
            have d0 : W1.cell? ⟨b, o + (i + (k + 1)), none⟩ = some (.int .i64 (iAt r k)) := by
              obtain ⟨b', o', e, hc⟩ := HI.out.at (by omega)
              cases e
              have := hc (i + (k + 1)) (by omega)
              rw [HR.out k hlen, this]
              congr 3; omega
            have hix : ((i : Int) + ((k : Int) + 1)).toNat = i + (k + 1) := by omega
            have hix0 : (0 : Int) ≤ (i : Int) + ((k : Int) + 1) := by omega
            have hs1 := take_more' (t := r) (j := k) hlen
            have HXX := rhex_any (iAt r k)
            have hx1 := hexP_lt (iAt r k)
            have hx2 := hexP_ge (iAt r k)
            have HS : Hid (accP (r.take (k + 1)) = accS (some n) (iAt r k)) := by show _ = _; rw [hs1, accP_snoc, HA.out]
            by_cases hneg : hexP (iAt r k) < 0
            · have HE2 : Hid (E = ⟨0, 0, 2⟩) := by
                show _ = _
                rw [← HE.out]
                exact numbP_fail hkn (.inr (by rw [HS.out]; unfold accS; simp [hneg]))
              generalize iAt r k = x at d0 HXX hx1 hx2 hneg HS
              generalize hexP x = y at HXX hx1 hx2 hneg
              clear hs1 HS HE HA
              go_wp2_with (go_at_call 40; refine (HXX _).mono ?_; rintro e w' ⟨rfl, rfl⟩)
              rw [HE2.out]
              go_ret3
              exact ⟨rfl, HG.out m⟩
            · obtain ⟨y, hy⟩ : ∃ y : Nat, hexP (iAt r k) = y := ⟨(hexP (iAt r k)).toNat, by omega⟩
              have HS2 : Hid (accP (r.take (k + 1)) = some (n * 16 + y)) := by show _ = _; rw [HS.out]; unfold accS; simp [hneg, hy]
              rw [hy] at HXX hneg hx1
              generalize iAt r k = x at d0 HXX
              clear hs1 HS hy hx2
              have hneg' : ¬ ((y : Int) < 0) := by omega
              go_wp2_with (go_at_call 40; refine (HXX _).mono ?_; rintro e w' ⟨rfl, rfl⟩)
              go_round
              case rel => exact ⟨k + 1, n * 16 + y, by omega, by omega, by go_num, by go_num, HS2⟩
              case measure => simp [intOf]; omega
          · have hlen' : (t.length : Int) ≤ (i : Int) + ((k : Int) + 1) := by omega
            have HE2 : Hid (E = ⟨0, 0, 2⟩) := by show _ = _; rw [← HE.out]; exact numbP_fail hkn (.inl (by omega))
            go_wp2
            rw [HE2.out]
            go_ret3
            exact ⟨rfl, HG.out m⟩
        · obtain rfl : k = 8 := by omega
          have HE2 : Hid (E = if pointP n then ⟨2 + 8, n, 0⟩ else ⟨0, 0, 4⟩) := by show _ = _; rw [← HE.out]; exact numbP_done hkr HA.out
          have IP := right_any (n : Int)
          cases hp : pointP n with
          | true =>
            rw [hp] at IP
            rw [hp, if_pos rfl] at HE2
            clear hp HE HA
            go_wp2_with (go_at_call 41; refine (IP _).mono ?_; rintro e w' ⟨rfl, rfl⟩)
            rw [HE2.out]
            go_ret3
            exact ⟨rfl, HG.out m⟩
          | false =>
            rw [hp] at IP
            rw [hp, if_neg (by simp)] at HE2
            clear hp HE HA
            go_wp2_with (go_at_call 41; refine (IP _).mono ?_; rintro e w' ⟨rfl, rfl⟩)
            rw [HE2.out]
            go_ret3
            exact ⟨rfl, HG.out m⟩

set_option maxRecDepth 100000 in
set_option maxHeartbeats 2000000 in
theorem refEscO (b o : Nat) (t : List Int) (c i : Nat) (x : Int) (w : World) (hn : t.length ≤ 1099511627776) (hi : i < t.length) (hx : iAt t i = x) (h1 : x ≠ 120) (h2 : x ≠ 117) (h3 : x ≠ 85) (hI : Is w (some ⟨b, o, none⟩) t) :
    Calls Tryd.prog 30 #[.slice (some ⟨b, o, none⟩) t.length c, .int .i64 (i : Nat)] w fun e w' => e = .returned (escT (match shortAt x with | some p => ⟨2, p, 0⟩ | none => ⟨0, 0, 2⟩)) ∧ w.grownBy w' none := by
  obtain ⟨hg, hF, hTo⟩ := wE_facts w
  have hn2 : (t.length : Int) ≤ 1099511627776 := by omega
  have hi2 : (i : Int) < t.length := by omega
  have HX : Hid ((wE w).cell? ⟨b, o + i, none⟩ = some (.int .i64 x)) := by
    obtain ⟨b', o', e, hc⟩ := (hI.grown hg).at (by omega)
    cases e
    have := hc i hi
    rw [hx] at this
    exact this
  have HF : Hid (∀ j, j < 18 → (wE w).cell? ⟨w.heap.size, j, none⟩ = some (.int .i64 (sgn j))) := hF
  have HO : Hid (∀ j, j < 18 → (wE w).cell? ⟨w.heap.size + 1, j, none⟩ = some (.int .i64 (pnt j))) := hTo
  have HG : Hid (∀ m, w.grownBy ((wE w).drewN m) none) := fun m => grown_trans hg (grown_drewN _ m)
  have g1 : (x == 120) = false := by simpa using h1
  have g2 : (x == 117) = false := by simpa using h2
  have g3 : (x == 85) = false := by simpa using h3
  obtain ⟨E, hE⟩ : ∃ E, (match shortAt x with | some p => (⟨2, p, 0⟩ : Esc) | none => ⟨0, 0, 2⟩) = E := ⟨_, rfl⟩
  rw [hE]
  have HE : Hid ((match shortAt x with | some p => (⟨2, p, 0⟩ : Esc) | none => ⟨0, 0, 2⟩) = E) := hE
  clear hg hF hTo hI hx hE
  go_enter Tryd.func30, Tryd.ntmps30
  go_wp2
  change Code.wp _ _ _ _ (wE w)
  generalize wE w = W1 at *
  go_loopw [9] (fun iv wr => ∃ (j m : Nat), j ≤ 18 ∧ iv = .int .i64 j ∧ wr = W1.drewN m ∧ Hid (∀ i, i < j → sgn i ≠ x)) (fun iv _ => 18 - (intOf iv).toNat)
  case atStart => exact ⟨0, 0, by omega, rfl, rfl, fun i h => by omega⟩
  case round =>
    obtain ⟨j, m, hj, rfl, rfl, Hn⟩ := hrel
    by_cases hlt : j < 18
    · have hlt' : (j : Int) < 18 := by omega
      have c0 := HF.out j hlt
      have c1 := HX.out
      have c2 := HO.out j hlt
      have HS : Hid (sgn j = x → E = ⟨2, pnt j, 0⟩) := fun e => by rw [← HE.out, ← e, short_some j hlt]
      have HN1 : Hid (sgn j ≠ x → ∀ i, i < j + 1 → sgn i ≠ x) := fun h i hi => by
        by_cases e : i = j
        · subst e; exact h
        · exact Hn.out i (by omega)
      generalize sgn j = sj at c0 HS HN1
      generalize pnt j = pj at c2 HS
      by_cases he : sj = x
      · subst he
        have hE2 := HS.out rfl
        subst hE2
        clear HS HN1 Hn HE
        go_wp2
        go_quiet (fail)
        go_wp2
        go_ret3
        exact ⟨rfl, HG.out _⟩
      · have he' : (sj == x) = false := by simpa using he
        clear HS
        go_wp2
        go_quiet (fail)
        go_wp2
        go_roundw
        case rel => exact ⟨j + 1, _, by omega, by go_num, rfl, HN1.out he⟩
        case measure => simp [intOf]; omega
    · obtain rfl : j = 18 := by omega
      rw [show ((18 : Nat) : Int) = 18 from rfl]
      have c1 := HX.out
      have hE2 : E = ⟨0, 0, 2⟩ := by rw [← HE.out, short_none Hn.out]
      subst hE2
      clear HE Hn
      go_wp2
      go_ret3
      exact ⟨rfl, HG.out m⟩

theorem refEsc_any (q : Option Addr) (t : List Int) (c i : Nat) (last : Bool) (w : World) (hn : t.length ≤ 1099511627776) (hi : i < t.length) (hI : Is w q t) :
    Calls Tryd.prog 30 #[.slice q t.length c, .int .i64 (i : Nat)] w fun e w' => e = .returned (escT (firstP (t.drop i) last)) ∧ w.grownBy w' none := by
  obtain ⟨b, o, rfl, -⟩ := hI.at (by omega)
  have hd := drop_at hi
  by_cases h1 : iAt t i = 120
  · have e : firstP (t.drop i) last = numbP (t.drop (i + 1)) 2 := by rw [hd, h1]; rfl
    rw [e]; exact refEsc120 b o t c i w hn hi h1 hI
  · by_cases h2 : iAt t i = 117
    · have e : firstP (t.drop i) last = numbP (t.drop (i + 1)) 4 := by rw [hd, h2]; rfl
      rw [e]; exact refEsc117 b o t c i w hn hi h2 hI
    · by_cases h3 : iAt t i = 85
      · have e : firstP (t.drop i) last = numbP (t.drop (i + 1)) 8 := by rw [hd, h3]; rfl
        rw [e]; exact refEsc85 b o t c i w hn hi h3 hI
      · have e : firstP (t.drop i) last = match shortAt (iAt t i) with | some p => ⟨2, p, 0⟩ | none => ⟨0, 0, 2⟩ := by
          rw [hd]
          unfold firstP
          dsimp only
          have : countP (iAt t i) = 0 := by unfold countP; rw [if_neg h1, if_neg h2, if_neg h3]
          rw [this, if_neg (by omega)]
          rfl
        rw [e]
        exact refEscO b o t c i _ w hn hi rfl h1 h2 h3 hI
end Go.Proofs.YtpiefdpcinjkpaaDoor
