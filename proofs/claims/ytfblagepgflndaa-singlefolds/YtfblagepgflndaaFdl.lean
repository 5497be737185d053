/- SingleFolds' walk. -/
import Derived.Test.YtfblagepgflndaaLaw
set_option linter.unusedVariables false
set_option linter.unusedSimpArgs false
namespace Go.Proofs.Ytfblagepgflndaa
open Go.RowKit Go.Shelf

theorem read_plain : ∀ (t : List Int) (p : Nat), (∀ c ∈ t, c ≠ 39) → (sgP p t).map (·.2.1) = t
  | [], _, _ => by simp [sgP]
  | [c], _, _ => by simp [sgP]
  | c :: d :: r, p, h => by
    rw [sgP, if_neg (fun e => h c (by simp) e.1), List.map_cons, read_plain (d :: r) (p + 1) (fun x hx => h x (by simp at hx ⊢; exact .inr hx))]
theorem trimF_mem {f b : Bool} {u : List Int} {x : Int} (h : x ∈ trimF f b u) : x ∈ u := by
  have hd : ∀ (v : List Int), x ∈ dropF v → x ∈ v := fun v hv => (List.dropWhile_suffix _).subset hv
  have hb : ∀ (v : List Int), x ∈ dropB v → x ∈ v := fun v hv => by
    unfold dropB at hv
    have := (List.dropWhile_suffix (l := v.reverse) blankP).subset (List.mem_reverse.1 hv)
    exact List.mem_reverse.1 this
  unfold trimF at h
  cases f <;> cases b <;> simp only [Bool.false_eq_true, if_false, if_true] at h
  · exact h
  · exact hb _ h
  · exact hd _ h
  · exact hd _ (hb _ h)
theorem flS_no {R : List Row} (h : ∀ r ∈ R, ∀ c ∈ r.t, c ≠ 39) : ∀ k, ∀ c ∈ (flS R k).1, c ≠ 39
  | 0, c, hc => by simp [flS] at hc
  | k + 1, c, hc => by
    rw [flS] at hc
    split at hc
    · simp only [List.mem_append] at hc
      rcases hc with (hc | hc) | hc
      · exact flS_no h k c hc
      · unfold sepR at hc
        split at hc
        · simp at hc; omega
        · have := (List.mem_replicate.1 hc).2
          omega
      · have := trimF_mem hc
        unfold tAt at this
        cases hr : R[k]? with
        | none => rw [hr] at this; simp at this
        | some r => rw [hr] at this; exact h r (List.mem_of_getElem? hr) c (by simpa using this)
    · exact flS_no h k c hc
theorem folds_plain (R : List Row) (h : ∀ r ∈ R, ∀ c ∈ r.t, c ≠ 39) : readS (flowT R) = flowT R := by
  unfold readS
  refine read_plain _ 0 ?_
  rw [flowT_flS]
  exact flS_no h R.length

set_option maxRecDepth 100000 in
set_option maxHeartbeats 2000000 in
theorem folds_law (p : Option Addr) (R : List Row) (cap : Nat) (w : World) (hl : R.length ≤ maxLen) (hM : Mt w p R) :
    Calls Try.prog 5 #[.slice p R.length cap] w fun e w' => e = .returned (.bool true) ∧ Below w.heap.size w w' := by
  have AL := alive_any w
  by_cases h40 : R.length ≤ 40
  · have h40' : ¬ (40 : Int) < R.length := by omega
    have h40'' : (R.length : Int) ≤ 40 := by omega
    go_enter Try.func5, Try.ntmps5
    go_wp2_with (first | (go_at_call 6; refine AL.mono ?_; rintro e W ⟨rfl, hB⟩))
    clear AL
    have hMW := hM.on hB
    go_loop [4] (fun iv => ∃ (k : Nat), k ≤ R.length ∧ iv = .int .i64 k ∧ Hid (∀ j r, j < k → R[j]? = some r → r.t.length ≤ 200 ∧ ∀ c ∈ r.t, c ≠ 39)) (fun iv => R.length - (intOf iv).toNat)
    case atStart => exact ⟨0, Nat.zero_le _, rfl, fun j r hj => by omega⟩
    case round =>
      obtain ⟨k, hk, rfl, Hn⟩ := hrel
      by_cases hlt : k < R.length
      · have hli : (k : Int) < R.length := by omega
        obtain ⟨r, hr⟩ : ∃ r, R[k]? = some r := ⟨_, List.getElem?_eq_getElem hlt⟩
        obtain ⟨b, o, rfl, hcell⟩ := hMW.at (by omega)
        have c0 := hcell k r hr
        have hIr := (hMW.1 k r hr).2.2
        have hrm : r.t.length ≤ maxLen := Nat.le_trans (hMW.1 k r hr).1 (hMW.1 k r hr).2.1
        have HR : Hid (R[k]? = some r) := hr
        clear hcell hr
        obtain ⟨rq, rt, rc⟩ := r
        dsimp only at c0 hIr hrm
        by_cases h200 : rt.length ≤ 200
        · have h200' : ¬ (200 : Int) < rt.length := by omega
          have h200'' : (rt.length : Int) ≤ 200 := by omega
          go_wp2
          go_loop [5] (fun iv => ∃ (m : Nat), m ≤ rt.length ∧ iv = .int .i64 m ∧ Hid (∀ x ∈ rt.take m, x ≠ 39)) (fun iv => rt.length - (intOf iv).toNat)
          case atStart => exact ⟨0, Nat.zero_le _, rfl, by intro x hx; simp at hx⟩
          case round =>
            obtain ⟨m, hm, rfl, Hm⟩ := hrel
            by_cases hmt : m < rt.length
            · have hmi : (m : Int) < rt.length := by omega
              obtain ⟨b2, o2, rfl, hu⟩ := hIr.at (by omega)
              have c1 := hu m hmt
              clear hu
              by_cases hx : iAt rt m = 39
              · rw [hx] at c1
                go_wp2
                go_ret
                exact ⟨rfl, hB⟩
              · have hx' : (iAt rt m == 39) = false := by simpa using hx
                have Hm1 : Hid (∀ x ∈ rt.take (m + 1), x ≠ 39) := fun x hx2 => by
                  rw [take_more hmt] at hx2
                  rcases List.mem_append.1 hx2 with hx2 | hx2
                  · exact Hm.out x hx2
                  · simp at hx2; subst hx2; exact hx
                generalize iAt rt m = y at c1 hx hx'
                go_wp2
                go_round
                case rel => exact ⟨m + 1, by omega, by go_num, Hm1⟩
                case measure => simp [intOf]; omega
            · obtain rfl : m = rt.length := by omega
              have Hn1 : Hid (∀ j r, j < k + 1 → R[j]? = some r → r.t.length ≤ 200 ∧ ∀ c ∈ r.t, c ≠ 39) := fun j r hj hr => by
                by_cases e : j = k
                · subst e
                  rw [HR.out] at hr
                  cases hr
                  have := Hm.out
                  rw [List.take_length] at this
                  exact ⟨h200, this⟩
                · exact Hn.out j r (by omega) hr
              go_wp2
              go_round
              case rel => exact ⟨k + 1, by omega, by go_num, Hn1⟩
              case measure => simp [intOf]; omega
        · have h200' : (200 : Int) < rt.length := by omega
          go_wp2
          go_ret
          exact ⟨rfl, hB⟩
      · obtain rfl : k = R.length := by omega
        have hS : Shrt R := ⟨h40, fun j r hr => (Hn.out j r (List.getElem?_eq_some_iff.1 hr).1 hr).1⟩
        have hall : ∀ r ∈ R, ∀ c ∈ r.t, c ≠ 39 := fun r hr => by
          obtain ⟨j, hj⟩ := List.mem_iff_getElem?.1 hr
          exact (Hn.out j r (List.getElem?_eq_some_iff.1 hj).1 hj).2
        have RD := Read_any p R cap W hS.sized hMW
        rw [folds_plain R hall] at RD
        have RF := fun W h => refFlow_any p R cap W hS.sized h
        have hfl := hS.flow
        have SI := fun p q c d W => same_ints p q (flowT R) c d W (by omega)
        generalize flowT R = T at RD RF SI hfl
        clear Hn hS hall
        go_wp2_with (first | (go_at_call 10; refine RD.mono ?_; rintro e W4 ⟨v4, rfl, ho4, hb4⟩; obtain ⟨q4, c4, rfl, hI4⟩ := ho4.read) | (go_at_call 16; refine (RF _ (hMW.on hb4)).mono ?_; rintro e W5 ⟨v5, rfl, ho5, hb5⟩; obtain ⟨q5, c5, rfl, hI5⟩ := ho5.read) | (go_at_call 9; refine (SI _ _ _ _ _ (hI4.on hb5) hI5).mono ?_; rintro e W6 ⟨rfl, m6, rfl⟩))
        go_ret
        exact ⟨rfl, belowN ((hB.trans (hb4.mono hB.size)).trans (hb5.mono (Nat.le_trans hB.size hb4.size))) _⟩
  · have h40' : (40 : Int) < R.length := by omega
    have hm : (R.length : Int) ≤ 9223372036854775807 := by unfold maxLen at hl; omega
    go_enter Try.func5, Try.ntmps5
    go_wp2_with (first | (go_at_call 6; refine AL.mono ?_; rintro e W ⟨rfl, hB⟩))
    go_ret
    exact ⟨rfl, hB⟩
end Go.Proofs.Ytfblagepgflndaa
