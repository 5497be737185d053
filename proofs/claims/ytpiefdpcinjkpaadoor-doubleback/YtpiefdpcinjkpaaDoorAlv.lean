/- The law's own alive and big; both Ends. -/
import Derived.Test.YtpiefdpcinjkpaaDoorRed
set_option linter.unusedVariables false
set_option linter.unusedSimpArgs false
namespace Go.Proofs.YtpiefdpcinjkpaaDoor
open Go.RowKit Go.Shelf

def exW (w : World) : World := (w.alloc (.cells #[.int .i64 97, .int .i64 92, .int .i64 116, .int .i64 98] 3)).alloc (.cells #[.slice (some ⟨w.heap.size, 0, none⟩) 4 4] 25)
def exR (w : World) : List Row := [⟨some ⟨w.heap.size, 0, none⟩, [97, 92, 116, 98], 4⟩]
theorem exW_facts (w : World) : Mt (exW w) (some ⟨w.heap.size + 1, 0, none⟩) (exR w) ∧ w.grownBy (exW w) none := by
  have h1 := World.alloc_heap_new w (.cells #[.int .i64 97, .int .i64 92, .int .i64 116, .int .i64 98] 3)
  have h2 := World.alloc_heap_new (w.alloc (.cells #[.int .i64 97, .int .i64 92, .int .i64 116, .int .i64 98] 3)) (.cells #[.slice (some ⟨w.heap.size, 0, none⟩) 4 4] 25)
  rw [World.size_alloc] at h2
  have h1' : (exW w).heap[w.heap.size]? = _ := (Below.heap_alloc _ (.cells #[.slice (some ⟨w.heap.size, 0, none⟩) 4 4] 25) w.heap.size (by simp)).trans h1
  refine ⟨⟨fun j r hr => ?_, .inr ⟨_, 0, rfl, fun j r hr => ?_⟩⟩, grown_trans (grown_new _ _) (grown_new _ _)⟩
  · match j, hr with
    | 0, hr =>
      cases hr
      refine ⟨by simp, by unfold maxLen; simp, ?_⟩
      exact is_of_block (l := [97, 92, 116, 98]) h1'
    | j + 1, hr => simp [exR] at hr
  · match j, hr with
    | 0, hr =>
      cases hr
      have : (exW w).heap[w.heap.size + 1]? = _ := h2
      simp [World.cell?, this]
    | j + 1, hr => simp [exR] at hr

theorem ex_read (w : World) : readE ((exR w).map (·.t)) = 0 ∧ readT ((exR w).map (·.t)) = [97, 9, 98] := by
  show readE [[97, 92, 116, 98]] = 0 ∧ readT [[97, 92, 116, 98]] = [97, 9, 98]
  constructor <;> decide +kernel

theorem ex_call (w : World) (hT : Tab w) : Calls Tryd.prog 11 #[.slice (some ⟨w.heap.size + 1, 0, none⟩) 1 1] (exW w) fun e w' => ∃ g c, e = .returned (.tuple #[.slice (some ⟨g, 0, none⟩) 3 c, .int .i64 0]) ∧ w'.cell? ⟨g, 1, none⟩ = some (.int .i64 9) ∧ Below w.heap.size w w' := by
  obtain ⟨hM, hg⟩ := exW_facts w
  obtain ⟨e1, e2⟩ := ex_read w
  have RD := Read_any (some ⟨w.heap.size + 1, 0, none⟩) (exR w) 1 (exW w) hM (by simp [exR]) (by simp [exR, totK, lAt]) (hT.grown hg)
  rw [e1, e2] at RD
  refine RD.mono ?_
  rintro e w' ⟨hb, (⟨h, -⟩ | ⟨-, v, rfl, ho⟩)⟩
  · exact absurd rfl h
  · obtain ⟨g, cap, e⟩ := ownsRow_succ (k := 2) ho
    subst e
    have c1 := ho.cells (g := g) rfl 1 _ rfl
    rw [add_plain] at c1
    exact ⟨g, cap, rfl, c1, (grown_below hg).trans (hb.mono hg.size)⟩

set_option maxRecDepth 100000 in
set_option maxHeartbeats 1000000 in
theorem alive_any (w : World) (hT : Tab w) : Calls Tryd.prog 9 #[] w fun e w' => e = .returned (.bool true) ∧ Below w.heap.size w w' := by
  have RD := ex_call w hT
  unfold exW at RD
  go_enter Tryd.func9, Tryd.ntmps9
  go_wp2_with (first | (go_at_call 11; refine RD.mono ?_; rintro e w' ⟨g, c, rfl, c1, hb⟩) | (go_at_call 13; refine (num_any _ _).mono ?_; rintro e w' ⟨rfl, rfl⟩))
  go_ret
  exact ⟨rfl, hb⟩

def bigB (R : List Row) : Bool := R.any (fun r => decide (200 < r.t.length)) || decide (40 < R.length)
theorem big_small {R : List Row} (h : bigB R = false) : R.length ≤ 40 ∧ ∀ i, (tAt R i).length ≤ 200 := by
  unfold bigB at h
  simp at h
  refine ⟨h.2, fun i => ?_⟩
  unfold tAt
  cases hr : R[i]? with
  | none => simp
  | some r => simpa using h.1 r (List.mem_of_getElem? hr)
theorem big_sized {R : List Row} (h : bigB R = false) : Sized R := by
  obtain ⟨h1, h2⟩ := big_small h
  exact ⟨by omega, fun i => Nat.le_trans (h2 i) (by omega)⟩

set_option maxRecDepth 100000 in
set_option maxHeartbeats 1000000 in
theorem big_any (p : Option Addr) (R : List Row) (cap : Nat) (w : World) (hl : R.length ≤ maxLen) (hM : Mt w p R) :
    Calls Tryd.prog 10 #[.slice p R.length cap] w fun e w' => e = .returned (.bool (bigB R)) ∧ w' = w := by
  have hm : (R.length : Int) ≤ 9223372036854775807 := by unfold maxLen at hl; omega
  obtain ⟨z, hz⟩ : ∃ z, bigB R = z := ⟨_, rfl⟩
  rw [hz]
  have HZ : Hid (bigB R = z) := hz
  clear hz
  go_enter Tryd.func10, Tryd.ntmps10
  go_wp2
  go_loop [3] (fun i => ∃ (k : Nat), k ≤ R.length ∧ i = .int .i64 k ∧ Hid (∀ j r, j < k → R[j]? = some r → ¬ 200 < r.t.length)) (fun i => R.length - (intOf i).toNat)
  case atStart => exact ⟨0, Nat.zero_le _, rfl, fun j r hj => by omega⟩
  case round =>
    obtain ⟨k, hk, rfl, HE⟩ := hrel
    by_cases hlt : k < R.length
    · have hli : (k : Int) < R.length := by omega
      obtain ⟨b, o, rfl, hb⟩ := hM.at (by omega)
      obtain ⟨r, hr⟩ : ∃ r, R[k]? = some r := ⟨_, List.getElem?_eq_getElem hlt⟩
      have c0 := hb k r hr
      have hmr : r.t.length ≤ maxLen := Nat.le_trans (hM.1 k r hr).1 (hM.1 k r hr).2.1
      by_cases h2 : 200 < r.t.length
      · have h2' : (200 : Int) < r.t.length := by omega
        have hzt : z = true := by
          rw [← HZ.out]
          unfold bigB
          rw [List.any_eq_true.2 ⟨r, List.mem_of_getElem? hr, by simpa using h2⟩]
          rfl
        subst hzt
        clear hb hM
        go_wp2
        go_ret
        exact ⟨rfl, rfl⟩
      · have h2' : ¬ (200 : Int) < r.t.length := by omega
        have HE' : Hid (∀ j r, j < k + 1 → R[j]? = some r → ¬ 200 < r.t.length) := by
          intro j r' hj hr'
          by_cases e : j = k
          · subst e; rw [hr] at hr'; cases hr'; exact h2
          · exact HE.out j r' (by omega) hr'
        clear hb hM
        go_wp2
        go_round
        case rel => exact ⟨k + 1, by omega, by go_num, HE'⟩
        case measure => simp [intOf]; omega
    · obtain rfl : k = R.length := by omega
      have hzt : z = decide ((40 : Int) < R.length) := by
        rw [← HZ.out]
        unfold bigB
        have : R.any (fun r => decide (200 < r.t.length)) = false := by
          rw [List.any_eq_false]
          intro r hr
          obtain ⟨j, hj⟩ := List.mem_iff_getElem?.1 hr
          simpa using HE.out j r (List.getElem?_eq_some_iff.1 hj).1 hj
        rw [this, Bool.false_or]
        by_cases h : 40 < R.length
        · rw [decide_eq_true h, decide_eq_true (by omega)]
        · rw [decide_eq_false h, decide_eq_false (by omega)]
      subst hzt
      go_wp2
      go_ret
      exact ⟨rfl, rfl⟩

/-- Where a line's quote is closed. -/
def endP : Nat → Nat → List Int → Option Nat
  | _, _, [] => none
  | p, k + 1, _ :: r => endP (p + 1) k r
  | p, 0, c :: r => if c = 34 then some p else if c = 92 then endP (p + 1) 1 r else endP (p + 1) 0 r
def endV : Option Nat → Value
  | none => .tuple #[.int .i64 0, .bool false]
  | some p => .tuple #[.int .i64 (p : Nat), .bool true]
theorem endP_one (p : Nat) (l : List Int) : endP p 1 l = endP (p + 1) 0 (l.drop 1) := by cases l <;> simp [endP]
theorem endP_quote {t : List Int} {k : Nat} (h : k < t.length) (hc : iAt t k = 34) : endP k 0 (t.drop k) = some k := by rw [drop_at h, endP, if_pos hc]
theorem endP_slash {t : List Int} {k : Nat} (h : k < t.length) (hc : iAt t k = 92) : endP k 0 (t.drop k) = endP (k + 2) 0 (t.drop (k + 2)) := by
  rw [drop_at h, endP, if_neg (by omega), if_pos hc, endP_one, List.drop_drop]
theorem endP_other {t : List Int} {k : Nat} (h : k < t.length) (h1 : iAt t k ≠ 34) (h2 : iAt t k ≠ 92) : endP k 0 (t.drop k) = endP (k + 1) 0 (t.drop (k + 1)) := by
  rw [drop_at h, endP, if_neg h1, if_neg h2]

set_option maxRecDepth 100000 in
set_option maxHeartbeats 1000000 in
theorem End_any (q : Option Addr) (t : List Int) (c : Nat) (w : World) (hn : t.length ≤ 1099511627776) (hI : Is w q t) :
    Calls Tryd.prog 15 #[.slice q t.length c] w fun e w' => e = .returned (endV (endP 0 0 t)) ∧ w' = w := by
  obtain ⟨E, hE⟩ : ∃ E, endP 0 0 t = E := ⟨_, rfl⟩
  rw [hE]
  have HE : Hid (endP 0 0 (t.drop 0) = E) := hE
  have hn2 : (t.length : Int) ≤ 1099511627776 := by omega
  clear hE
  go_enter Tryd.func15, Tryd.ntmps15
  go_wp2
  go_loop [4] (fun iv => ∃ (k : Nat), k ≤ t.length + 1 ∧ iv = .int .i64 k ∧ Hid (endP k 0 (t.drop k) = E)) (fun iv => t.length + 1 - (intOf iv).toNat)
  case atStart => exact ⟨0, by omega, rfl, HE⟩
  case round =>
    obtain ⟨k, hk, rfl, Hs⟩ := hrel
    by_cases hlt : k < t.length
    · have hli : (k : Int) < t.length := by omega
      obtain ⟨b, o, rfl, hu⟩ := hI.at (by omega)
      have c0 := hu k hlt
      by_cases h1 : iAt t k = 34
      · have hE : E = some k := by rw [← Hs.out, endP_quote hlt h1]
        rw [h1] at c0
        subst hE
        clear hu
        go_wp2
        go_ret2
        exact ⟨rfl, rfl⟩
      · by_cases h2 : iAt t k = 92
        · have Hs' : Hid (endP (k + 2) 0 (t.drop (k + 2)) = E) := by show _ = _; rw [← endP_slash hlt h2]; exact Hs.out
          rw [h2] at c0
          clear hu
          go_wp2
          go_round
          case rel => exact ⟨k + 2, by omega, by go_num, Hs'⟩
          case measure => simp [intOf]; omega
        · have Hs' : Hid (endP (k + 1) 0 (t.drop (k + 1)) = E) := by show _ = _; rw [← endP_other hlt h1 h2]; exact Hs.out
          have h1' : (iAt t k == 34) = false := by simpa using h1
          have h2' : (iAt t k == 92) = false := by simpa using h2
          generalize iAt t k = x at c0 h1 h2 h1' h2'
          clear hu
          go_wp2
          go_round
          case rel => exact ⟨k + 1, by omega, by go_num, Hs'⟩
          case measure => simp [intOf]; omega
    · have hge : ¬ (k : Int) < t.length := by omega
      have hE : E = none := by
        rw [← Hs.out, List.drop_eq_nil_of_le (by omega)]
        cases k <;> rfl
      subst hE
      go_wp2
      go_ret2
      exact ⟨rfl, rfl⟩

set_option maxRecDepth 100000 in
set_option maxHeartbeats 1000000 in
theorem refEnd_any (q : Option Addr) (t : List Int) (c : Nat) (w : World) (hn : t.length ≤ 1099511627776) (hI : Is w q t) :
    Calls Tryd.prog 16 #[.slice q t.length c] w fun e w' => e = .returned (endV (endP 0 0 t)) ∧ w' = w := by
  obtain ⟨E, hE⟩ : ∃ E, endP 0 0 t = E := ⟨_, rfl⟩
  rw [hE]
  have HE : Hid (endP 0 0 (t.drop 0) = E) := hE
  have hn2 : (t.length : Int) ≤ 1099511627776 := by omega
  clear hE
  go_enter Tryd.func16, Tryd.ntmps16
  go_wp2
  go_loop [4] (fun iv => ∃ (k : Nat), k ≤ t.length + 1 ∧ iv = .int .i64 k ∧ Hid (endP k 0 (t.drop k) = E)) (fun iv => t.length + 1 - (intOf iv).toNat)
  case atStart => exact ⟨0, by omega, rfl, HE⟩
  case round =>
    obtain ⟨k, hk, rfl, Hs⟩ := hrel
    by_cases hlt : k < t.length
    · have hli : (k : Int) < t.length := by omega
      obtain ⟨b, o, rfl, hu⟩ := hI.at (by omega)
      have c0 := hu k hlt
      by_cases h1 : iAt t k = 34
      · have hE : E = some k := by rw [← Hs.out, endP_quote hlt h1]
        rw [h1] at c0
        subst hE
        clear hu
        go_wp2
        go_ret2
        exact ⟨rfl, rfl⟩
      · by_cases h2 : iAt t k = 92
        · have Hs' : Hid (endP (k + 2) 0 (t.drop (k + 2)) = E) := by show _ = _; rw [← endP_slash hlt h2]; exact Hs.out
          rw [h2] at c0
          clear hu
          go_wp2
          go_round
          case rel => exact ⟨k + 2, by omega, by go_num, Hs'⟩
          case measure => simp [intOf]; omega
        · have Hs' : Hid (endP (k + 1) 0 (t.drop (k + 1)) = E) := by show _ = _; rw [← endP_other hlt h1 h2]; exact Hs.out
          have h1' : (iAt t k == 34) = false := by simpa using h1
          have h2' : (iAt t k == 92) = false := by simpa using h2
          generalize iAt t k = x at c0 h1 h2 h1' h2'
          clear hu
          go_wp2
          go_round
          case rel => exact ⟨k + 1, by omega, by go_num, Hs'⟩
          case measure => simp [intOf]; omega
    · have hge : ¬ (k : Int) < t.length := by omega
      have hE : E = none := by
        rw [← Hs.out, List.drop_eq_nil_of_le (by omega)]
        cases k <;> rfl
      subst hE
      go_wp2
      go_ret2
      exact ⟨rfl, rfl⟩

set_option maxRecDepth 100000 in
set_option maxHeartbeats 1000000 in
theorem ends_law (q : Option Addr) (t : List Int) (c : Nat) (w : World) (hm : t.length ≤ maxLen) (hI : Is w q t) (hT : Tab w) :
    Calls Tryd.prog 4 #[.slice q t.length c] w fun e w' => e = .returned (.bool true) ∧ Below w.heap.size w w' := by
  have AL := alive_any w hT
  by_cases hn : t.length ≤ 300
  · have hn' : ¬ (300 : Int) < t.length := by omega
    have E1 := fun W (hb : Below w.heap.size w W) => End_any q t c W (by omega) (hI.on hb)
    have E2 := fun W (hb : Below w.heap.size w W) => refEnd_any q t c W (by omega) (hI.on hb)
    cases hE : endP 0 0 t with
    | none =>
      rw [hE] at E1 E2
      simp only [endV] at E1 E2
      go_enter Tryd.func4, Tryd.ntmps4
      go_wp2_with (first | (go_at_call 9; refine AL.mono ?_; rintro e W1 ⟨rfl, hb⟩) | (go_at_call 15; refine (E1 _ hb).mono ?_; rintro e W2 ⟨rfl, rfl⟩) | (go_at_call 16; refine (E2 _ hb).mono ?_; rintro e W2 ⟨rfl, rfl⟩))
      go_ret
      exact ⟨rfl, hb⟩
    | some p =>
      rw [hE] at E1 E2
      simp only [endV] at E1 E2
      go_enter Tryd.func4, Tryd.ntmps4
      go_wp2_with (first | (go_at_call 9; refine AL.mono ?_; rintro e W1 ⟨rfl, hb⟩) | (go_at_call 15; refine (E1 _ hb).mono ?_; rintro e W2 ⟨rfl, rfl⟩) | (go_at_call 16; refine (E2 _ hb).mono ?_; rintro e W2 ⟨rfl, rfl⟩))
      go_ret
      exact ⟨rfl, hb⟩
  · have hn' : (300 : Int) < t.length := by omega
    go_enter Tryd.func4, Tryd.ntmps4
    go_wp2_with (first | (go_at_call 9; refine AL.mono ?_; rintro e W1 ⟨rfl, hb⟩))
    go_ret
    exact ⟨rfl, hb⟩
end Go.Proofs.YtpiefdpcinjkpaaDoor
