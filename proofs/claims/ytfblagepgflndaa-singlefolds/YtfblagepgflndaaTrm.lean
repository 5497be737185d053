/- A list of lines that is read; fold's trimmed. -/
import Derived.Test.YtfblagepgflndaaRep
set_option linter.unusedVariables false
set_option linter.unusedSimpArgs false
namespace Go.Proofs.Ytfblagepgflndaa
open Go.RowKit Go.Shelf

/-- A line in memory: where it lies, what it holds, how much room it has. -/
structure Row where
  q : Option Addr
  t : List Int
  c : Nat

/-- The slice at p holds these lines. -/
def Mt (w : World) (p : Option Addr) (R : List Row) : Prop :=
  (∀ (j : Nat) (r : Row), R[j]? = some r → r.t.length ≤ r.c ∧ r.c ≤ maxLen ∧ Is w r.q r.t) ∧
  (R = [] ∨ ∃ b o, p = some ⟨b, o, none⟩ ∧ ∀ (j : Nat) (r : Row), R[j]? = some r → w.cell? ⟨b, o + j, none⟩ = some (.slice r.q r.t.length r.c))

theorem Mt.at {w : World} {p : Option Addr} {R : List Row} (h : Mt w p R) (hl : 0 < R.length) : ∃ b o, p = some ⟨b, o, none⟩ ∧ ∀ (j : Nat) (r : Row), R[j]? = some r → w.cell? ⟨b, o + j, none⟩ = some (.slice r.q r.t.length r.c) := by
  rcases h.2 with rfl | h
  · simp at hl
  · exact h
theorem Mt.on {A B : World} {p : Option Addr} {R : List Row} (h : Mt A p R) (hb : Below A.heap.size A B) : Mt B p R := by
  refine ⟨fun j r hr => ⟨(h.1 j r hr).1, (h.1 j r hr).2.1, (h.1 j r hr).2.2.on hb⟩, ?_⟩
  rcases h.2 with e | ⟨b, o, e, hc⟩
  · exact .inl e
  · exact .inr ⟨b, o, e, fun j r hr => (hb.cell (p := ⟨b, o + j, none⟩) (World.block_lt_of_cell? A _ (hc j r hr))).trans (hc j r hr)⟩
theorem Mt.lt {w : World} {p : Option Addr} {R : List Row} (h : Mt w p R) : ∀ a, p = some a → 0 < R.length → a.block < w.heap.size := by
  intro a e hl
  obtain ⟨b, o, rfl, hc⟩ := h.at hl
  cases e
  exact World.block_lt_of_cell? w ⟨b, o + 0, none⟩ (hc 0 R[0] (by simp [hl]))

/-- u, at q', is a piece of what lies at q. -/
def Sub (q : Option Addr) (t : List Int) (q' : Option Addr) (u : List Int) : Prop :=
  u = [] ∨ ∃ b o k, q = some ⟨b, o, none⟩ ∧ q' = some ⟨b, o + k, none⟩ ∧ k + u.length ≤ t.length ∧ u = (t.drop k).take u.length

theorem Sub.is {w : World} {q q' : Option Addr} {t u : List Int} (h : Sub q t q' u) (hI : Is w q t) : Is w q' u := by
  rcases h with rfl | ⟨b, o, k, rfl, rfl, h1, h2⟩
  · exact .inl rfl
  · rw [h2]
    exact (hI.drop k).take _
theorem Sub.refl {w : World} {q : Option Addr} {t : List Int} (h : Is w q t) : Sub q t q t := by
  rcases h with rfl | ⟨b, o, rfl, -⟩
  · exact .inl rfl
  · exact .inr ⟨b, o, 0, rfl, rfl, by omega, by simp⟩
theorem Sub.len {q q' : Option Addr} {t u : List Int} (h : Sub q t q' u) : u.length ≤ t.length := by
  rcases h with rfl | ⟨b, o, k, -, -, h1, -⟩
  · simp
  · omega
theorem Sub.block {q q' : Option Addr} {t u : List Int} (h : Sub q t q' u) {n₀ : Nat} (hq : ∀ a, q = some a → 0 < t.length → a.block < n₀) : ∀ a, q' = some a → 0 < u.length → a.block < n₀ := by
  rcases h with rfl | ⟨b, o, k, rfl, rfl, h1, -⟩
  · intro a e h; simp at h
  · intro a e h
    cases e
    have := hq ⟨b, o, none⟩ rfl (by omega)
    exact this
theorem Sub.tail {q q' : Option Addr} {t u : List Int} (h : Sub q t q' u) (c : Nat) (hc : u.length ≤ c) : Sub q t (if c = 1 then q' else q'.map (·.add 1)) (u.drop 1) := by
  by_cases hl : u.length ≤ 1
  · exact .inl (List.drop_eq_nil_of_le hl)
  · rcases h with rfl | ⟨b, o, k, rfl, rfl, h1, h2⟩
    · exact .inl (by simp)
    · rw [if_neg (by omega), Option.map_some, add_plain]
      refine .inr ⟨b, o, k + 1, rfl, by rw [Nat.add_assoc], by rw [List.length_drop]; omega, ?_⟩
      conv => lhs; rw [h2]
      rw [List.drop_take, List.drop_drop, List.length_drop]
theorem Sub.init {q q' : Option Addr} {t u : List Int} (h : Sub q t q' u) (m : Nat) : Sub q t q' (u.take m) := by
  rcases h with rfl | ⟨b, o, k, rfl, rfl, h1, h2⟩
  · exact .inl (by simp)
  · refine .inr ⟨b, o, k, rfl, rfl, by rw [List.length_take]; omega, ?_⟩
    conv => lhs; rw [h2]
    rw [List.take_take, List.length_take]

/-- Without blanks at the beginning; at the end. -/
def dropF (u : List Int) : List Int := u.dropWhile blankP
def dropB (u : List Int) : List Int := (u.reverse.dropWhile blankP).reverse
def trimF (front back : Bool) (u : List Int) : List Int :=
  let v := if front then dropF u else u
  if back then dropB v else v

theorem iAt_zero (x : Int) (u : List Int) : iAt (x :: u) 0 = x := rfl
theorem dropF_more {u : List Int} (h : 0 < u.length) (hb : blankP (iAt u 0) = true) : dropF (u.drop 1) = dropF u := by
  cases u with
  | nil => simp at h
  | cons x u =>
    rw [iAt_zero] at hb
    show dropF u = dropF (x :: u)
    unfold dropF
    rw [List.dropWhile_cons_of_pos hb]
theorem dropF_stop {u : List Int} (h : 0 < u.length → blankP (iAt u 0) = false) : dropF u = u := by
  cases u with
  | nil => rfl
  | cons x u =>
    have hb := h (by simp)
    rw [iAt_zero] at hb
    unfold dropF
    rw [List.dropWhile_cons_of_neg (by simp [hb])]
theorem last_split {u : List Int} (h : 0 < u.length) : u = u.take (u.length - 1) ++ [iAt u (u.length - 1)] := by
  have := take_more (t := u) (j := u.length - 1) (by omega)
  rw [← this, show u.length - 1 + 1 = u.length by omega, List.take_length]
theorem dropB_more {u : List Int} (h : 0 < u.length) (hb : blankP (iAt u (u.length - 1)) = true) : dropB (u.take (u.length - 1)) = dropB u := by
  conv => rhs; rw [last_split h]
  unfold dropB
  rw [List.reverse_append, List.reverse_singleton, List.singleton_append, List.dropWhile_cons_of_pos hb]
theorem dropB_stop {u : List Int} (h : 0 < u.length → blankP (iAt u (u.length - 1)) = false) : dropB u = u := by
  by_cases hl : 0 < u.length
  · have hb := h hl
    have hs := last_split hl
    generalize iAt u (u.length - 1) = x at hb hs
    generalize u.take (u.length - 1) = v at hs
    subst hs
    unfold dropB
    rw [List.reverse_append, List.reverse_singleton, List.singleton_append, List.dropWhile_cons_of_neg (by simp [hb])]
    simp
  · have : u = [] := List.eq_nil_of_length_eq_zero (by omega)
    subst this
    rfl

/-- A piece of what lies at q0 is handed back. -/
def Piece (q0 : Option Addr) (t u : List Int) (e : Ending) : Prop := ∃ (q : Option Addr) (c : Nat), e = .returned (.slice q u.length c) ∧ u.length ≤ c ∧ Sub q0 t q u

def slen : Value → Nat
  | .slice _ n _ => n
  | _ => 0

set_option maxRecDepth 100000 in
set_option maxHeartbeats 2000000 in
theorem trimmed_any (p : Option Addr) (R : List Row) (pc i : Nat) (r : Row) (w : World) (hM : Mt w p R) (hr : R[i]? = some r) (hn : R.length ≤ 1099511627776) :
    Calls Try.prog 41 #[.slice p R.length pc, .int .i64 i] w fun e w' => Piece r.q r.t (trimF (decide (0 < i)) (decide (i + 1 < R.length)) r.t) e ∧ w' = w := by
  have hi : i < R.length := (List.getElem?_eq_some_iff.1 hr).1
  have hi' : (i : Int) < R.length := by omega
  obtain ⟨b0, o0, rfl, hcell⟩ := hM.at (by omega)
  have c0 := hcell i r hr
  obtain ⟨hc, hm, hI⟩ := hM.1 i r hr
  have hsub := Sub.refl hI
  clear hcell hM
  obtain ⟨T, hT⟩ : ∃ T, trimF (decide (0 < i)) (decide (i + 1 < R.length)) r.t = T := ⟨_, rfl⟩
  rw [hT]
  have HT : Hid (trimF (decide (0 < i)) (decide (i + 1 < R.length)) r.t = T) := hT
  clear hT
  go_enter Try.func41, Try.ntmps41
  go_wp2
  clear c0
  go_loop [5] (fun v => ∃ (q' : Option Addr) (u : List Int) (c' : Nat), v = .slice q' u.length c' ∧ Sub r.q r.t q' u ∧ u.length ≤ c' ∧ c' ≤ maxLen ∧ Hid ((if decide (0 < i) then dropF u else u) = (if decide (0 < i) then dropF r.t else r.t))) (fun v => slen v)
  case atStart => exact ⟨r.q, r.t, r.c, rfl, hsub, hc, hm, rfl⟩
  case round =>
    obtain ⟨q', u, c', rfl, hs, hc1, hm1, HD⟩ := hrel
    have hm2 : (c' : Int) ≤ 9223372036854775807 := by unfold maxLen at hm1; omega
    have hc2 : (u.length : Int) ≤ c' := by omega
    by_cases hi0 : 0 < i
    · have hi0' : (0 : Int) < i := by omega
      have HD1 : Hid (dropF u = dropF r.t) := by have := HD.out; simp only [hi0, decide_true, if_true] at this; exact this
      by_cases hl : 0 < u.length
      · have hl' : (0 : Int) < u.length := by omega
        obtain ⟨b, o, rfl, hu⟩ := (hs.is hI).at hl
        have d0 := hu 0 hl
        rw [Nat.add_zero] at d0
        cases hb : blankP (iAt u 0) with
        | true =>
          have S : ∀ w2, (Instr.slice 24 (.slice (some ⟨b, o, none⟩) u.length c') (some (.int .i64 1)) none none).run Try.prog w2 = .ok (.slice (if c' = 1 then (some (⟨b, o, none⟩ : Addr)) else (some (⟨b, o, none⟩ : Addr)).map (·.add 1)) (u.length - 1) (c' - 1)) w2 := slice_from (some ⟨b, o, none⟩) u.length c' 1 (by omega) hc1
          have hs' := hs.tail c' hc1
          have HD' : Hid ((if decide (0 < i) then dropF (u.drop 1) else u.drop 1) = (if decide (0 < i) then dropF r.t else r.t)) := by
            show _ = _
            simp only [hi0, decide_true, if_true]
            rw [dropF_more hl hb]; exact HD1.out
          have BL := blank_any (iAt u 0)
          rw [hb] at BL
          generalize (if c' = 1 then (some (⟨b, o, none⟩ : Addr)) else (some (⟨b, o, none⟩ : Addr)).map (·.add 1)) = q'' at S hs'
          have hlen : (u.drop 1).length = u.length - 1 := by simp
          generalize iAt u 0 = x at d0 BL
          clear hu hb HD HD1
          go_wp2_with (go_at_call 42; refine (BL _).mono ?_; rintro e w' ⟨rfl, rfl⟩)
          go_round
          case rel => exact ⟨q'', u.drop 1, c' - 1, by rw [hlen], hs', by rw [hlen]; omega, by omega, HD'⟩
          case measure => simp [slen]; omega
        | false =>
          have HE1 : Hid (u = (if decide (0 < i) then dropF r.t else r.t)) := by
            show _ = _
            simp only [hi0, decide_true, if_true]
            rw [← HD1.out, dropF_stop (fun _ => hb)]
          have BL := blank_any (iAt u 0)
          rw [hb] at BL
          generalize iAt u 0 = x at d0 BL
          clear hu hb HD HD1
          go_wp2_with (go_at_call 42; refine (BL _).mono ?_; rintro e w' ⟨rfl, rfl⟩)
          go_loop [5] (fun v => ∃ (q' : Option Addr) (u' : List Int) (c' : Nat), v = .slice q' u'.length c' ∧ Sub r.q r.t q' u' ∧ u'.length ≤ c' ∧ c' ≤ maxLen ∧ Hid ((if decide (i + 1 < R.length) then dropB u' else u') = T)) (fun v => slen v)
          case atStart =>
            refine ⟨_, u, _, rfl, hs, hc1, hm1, ?_⟩
            show _ = _
            rw [← HT.out]
            unfold trimF
            rw [← HE1.out]
          case round =>
            clear HE1 hs hc1 hm1 hm2 hc2
            obtain ⟨q2, u2, c2, rfl, hs, hc1, hm1, HD⟩ := hrel
            have hm2 : (c2 : Int) ≤ 9223372036854775807 := by unfold maxLen at hm1; omega
            have hc2 : (u2.length : Int) ≤ c2 := by omega
            by_cases hb0 : i + 1 < R.length
            · have hb0' : (i : Int) < (R.length : Int) - 1 := by omega
              have HD1 : Hid (dropB u2 = T) := by have := HD.out; simp only [hb0, decide_true, if_true] at this ⊢; exact this
              by_cases hl2 : 0 < u2.length
              · have hl2' : (0 : Int) < u2.length := by omega
                obtain ⟨b2, o2, rfl, hu⟩ := (hs.is hI).at hl2
                have d0 := hu (u2.length - 1) (by omega)
                have hj : ((u2.length - 1 : Nat) : Int) = (u2.length : Int) - 1 := by omega
                have hj2 : (0 : Int) ≤ (u2.length : Int) - 1 := by omega
                have S := slice_to (some ⟨b2, o2, none⟩) u2.length c2 (u2.length - 1) (by omega)
                rw [hj] at S
                cases hb : blankP (iAt u2 (u2.length - 1)) with
                | true =>
                  have hs' := hs.init (u2.length - 1)
                  have HD' : Hid ((if decide (i + 1 < R.length) then dropB (u2.take (u2.length - 1)) else u2.take (u2.length - 1)) = T) := by
                    have e := HD1.out
                    show _ = _
                    rw [← e]
                    simp only [hb0, decide_true, if_true]
                    rw [dropB_more hl2 hb]
                  have BL := blank_any (iAt u2 (u2.length - 1))
                  rw [hb] at BL
                  have hlen : (u2.take (u2.length - 1)).length = u2.length - 1 := by simp
                  generalize iAt u2 (u2.length - 1) = x2 at d0 BL
                  clear hu hb HD HD1
                  go_wp2_with (go_at_call 42; refine (BL _).mono ?_; rintro e w' ⟨rfl, rfl⟩)
                  go_round
                  case rel => exact ⟨_, u2.take (u2.length - 1), c2, by rw [hlen], hs', by rw [hlen]; omega, hm1, HD'⟩
                  case measure => simp [slen]; omega
                | false =>
                  have HE2 : Hid (u2 = T) := by
                    show _ = _
                    rw [← HD1.out, dropB_stop (fun _ => hb)]
                  have BL := blank_any (iAt u2 (u2.length - 1))
                  rw [hb] at BL
                  generalize iAt u2 (u2.length - 1) = x2 at d0 BL
                  clear hu hb HD HD1
                  go_wp2_with (go_at_call 42; refine (BL _).mono ?_; rintro e w' ⟨rfl, rfl⟩)
                  go_ret
                  refine ⟨?_, rfl⟩
                  rw [← HE2.out]
                  exact ⟨_, _, rfl, hc1, hs⟩
              · have hl3 : u2.length = 0 := by omega
                have HE2 : Hid (u2 = T) := by
                  show _ = _
                  rw [← HD1.out, dropB_stop (fun h => absurd h hl2)]
                clear HD HD1
                obtain rfl : u2 = [] := List.eq_nil_of_length_eq_zero hl3
                go_wp2
                go_ret
                refine ⟨?_, rfl⟩
                rw [← HE2.out]
                exact ⟨_, _, rfl, hc1, hs⟩
            · have hb0' : ¬ (i : Int) < (R.length : Int) - 1 := by omega
              have HE2 : Hid (u2 = T) := by
                have := HD.out; simp only [hb0, decide_false, Bool.false_eq_true, if_false] at this ⊢; exact this
              clear HD
              go_wp2
              go_ret
              refine ⟨?_, rfl⟩
              rw [← HE2.out]
              exact ⟨_, _, rfl, hc1, hs⟩
      · have hl' : u.length = 0 := by omega
        have HE1 : Hid (u = (if decide (0 < i) then dropF r.t else r.t)) := by
          show _ = _
          simp only [hi0, decide_true, if_true]
          rw [← HD1.out, dropF_stop (fun h => absurd h hl)]
        clear HD HD1
        obtain rfl : u = [] := List.eq_nil_of_length_eq_zero hl'
        go_wp2
        go_loop [5] (fun v => ∃ (q' : Option Addr) (u' : List Int) (c' : Nat), v = .slice q' u'.length c' ∧ Sub r.q r.t q' u' ∧ u'.length ≤ c' ∧ c' ≤ maxLen ∧ Hid ((if decide (i + 1 < R.length) then dropB u' else u') = T)) (fun v => slen v)
        case atStart =>
          refine ⟨_, [], _, rfl, hs, hc1, hm1, ?_⟩
          show _ = _
          rw [← HT.out]
          unfold trimF
          rw [← HE1.out]
        case round =>
          clear HE1 hs hc1 hm1 hm2 hc2
          obtain ⟨q2, u2, c2, rfl, hs, hc1, hm1, HD⟩ := hrel
          have hm2 : (c2 : Int) ≤ 9223372036854775807 := by unfold maxLen at hm1; omega
          have hc2 : (u2.length : Int) ≤ c2 := by omega
          by_cases hb0 : i + 1 < R.length
          · have hb0' : (i : Int) < (R.length : Int) - 1 := by omega
            have HD1 : Hid (dropB u2 = T) := by have := HD.out; simp only [hb0, decide_true, if_true] at this ⊢; exact this
            by_cases hl2 : 0 < u2.length
            · have hl2' : (0 : Int) < u2.length := by omega
              obtain ⟨b2, o2, rfl, hu⟩ := (hs.is hI).at hl2
              have d0 := hu (u2.length - 1) (by omega)
              have hj : ((u2.length - 1 : Nat) : Int) = (u2.length : Int) - 1 := by omega
              have hj2 : (0 : Int) ≤ (u2.length : Int) - 1 := by omega
              have S := slice_to (some ⟨b2, o2, none⟩) u2.length c2 (u2.length - 1) (by omega)
              rw [hj] at S
              cases hb : blankP (iAt u2 (u2.length - 1)) with
              | true =>
                have hs' := hs.init (u2.length - 1)
                have HD' : Hid ((if decide (i + 1 < R.length) then dropB (u2.take (u2.length - 1)) else u2.take (u2.length - 1)) = T) := by
                  have e := HD1.out
                  show _ = _
                  rw [← e]
                  simp only [hb0, decide_true, if_true]
                  rw [dropB_more hl2 hb]
                have BL := blank_any (iAt u2 (u2.length - 1))
                rw [hb] at BL
                have hlen : (u2.take (u2.length - 1)).length = u2.length - 1 := by simp
                generalize iAt u2 (u2.length - 1) = x2 at d0 BL
                clear hu hb HD HD1
                go_wp2_with (go_at_call 42; refine (BL _).mono ?_; rintro e w' ⟨rfl, rfl⟩)
                go_round
                case rel => exact ⟨_, u2.take (u2.length - 1), c2, by rw [hlen], hs', by rw [hlen]; omega, hm1, HD'⟩
                case measure => simp [slen]; omega
              | false =>
                have HE2 : Hid (u2 = T) := by
                  show _ = _
                  rw [← HD1.out, dropB_stop (fun _ => hb)]
                have BL := blank_any (iAt u2 (u2.length - 1))
                rw [hb] at BL
                generalize iAt u2 (u2.length - 1) = x2 at d0 BL
                clear hu hb HD HD1
                go_wp2_with (go_at_call 42; refine (BL _).mono ?_; rintro e w' ⟨rfl, rfl⟩)
                go_ret
                refine ⟨?_, rfl⟩
                rw [← HE2.out]
                exact ⟨_, _, rfl, hc1, hs⟩
            · have hl3 : u2.length = 0 := by omega
              have HE2 : Hid (u2 = T) := by
                show _ = _
                rw [← HD1.out, dropB_stop (fun h => absurd h hl2)]
              clear HD HD1
              obtain rfl : u2 = [] := List.eq_nil_of_length_eq_zero hl3
              go_wp2
              go_ret
              refine ⟨?_, rfl⟩
              rw [← HE2.out]
              exact ⟨_, _, rfl, hc1, hs⟩
          · have hb0' : ¬ (i : Int) < (R.length : Int) - 1 := by omega
            have HE2 : Hid (u2 = T) := by
              have := HD.out; simp only [hb0, decide_false, Bool.false_eq_true, if_false] at this ⊢; exact this
            clear HD
            go_wp2
            go_ret
            refine ⟨?_, rfl⟩
            rw [← HE2.out]
            exact ⟨_, _, rfl, hc1, hs⟩
    · have hi1 : i = 0 := by omega
      have HE1 : Hid (u = (if decide (0 < i) then dropF r.t else r.t)) := by
        have := HD.out
        simp only [hi0, decide_false, Bool.false_eq_true, if_false] at this ⊢
        exact this
      clear HD
      subst hi1
      go_wp2
      go_loop [5] (fun v => ∃ (q' : Option Addr) (u' : List Int) (c' : Nat), v = .slice q' u'.length c' ∧ Sub r.q r.t q' u' ∧ u'.length ≤ c' ∧ c' ≤ maxLen ∧ Hid ((if decide (0 + 1 < R.length) then dropB u' else u') = T)) (fun v => slen v)
      case atStart =>
        refine ⟨_, u, _, rfl, hs, hc1, hm1, ?_⟩
        show _ = _
        rw [← HT.out]
        unfold trimF
        rw [← HE1.out]
      case round =>
        clear HE1 hs hc1 hm1 hm2 hc2
        obtain ⟨q2, u2, c2, rfl, hs, hc1, hm1, HD⟩ := hrel
        have hm2 : (c2 : Int) ≤ 9223372036854775807 := by unfold maxLen at hm1; omega
        have hc2 : (u2.length : Int) ≤ c2 := by omega
        by_cases hb0 : 0 + 1 < R.length
        · have hb0' : (0 : Int) < (R.length : Int) - 1 := by omega
          have HD1 : Hid (dropB u2 = T) := by have := HD.out; simp only [hb0, decide_true, if_true] at this ⊢; exact this
          by_cases hl2 : 0 < u2.length
          · have hl2' : (0 : Int) < u2.length := by omega
            obtain ⟨b2, o2, rfl, hu⟩ := (hs.is hI).at hl2
            have d0 := hu (u2.length - 1) (by omega)
            have hj : ((u2.length - 1 : Nat) : Int) = (u2.length : Int) - 1 := by omega
            have hj2 : (0 : Int) ≤ (u2.length : Int) - 1 := by omega
            have S := slice_to (some ⟨b2, o2, none⟩) u2.length c2 (u2.length - 1) (by omega)
            rw [hj] at S
            cases hb : blankP (iAt u2 (u2.length - 1)) with
            | true =>
              have hs' := hs.init (u2.length - 1)
              have HD' : Hid ((if decide (0 + 1 < R.length) then dropB (u2.take (u2.length - 1)) else u2.take (u2.length - 1)) = T) := by
                have e := HD1.out
                show _ = _
                rw [← e]
                simp only [hb0, decide_true, if_true]
                rw [dropB_more hl2 hb]
              have BL := blank_any (iAt u2 (u2.length - 1))
              rw [hb] at BL
              have hlen : (u2.take (u2.length - 1)).length = u2.length - 1 := by simp
              generalize iAt u2 (u2.length - 1) = x2 at d0 BL
              clear hu hb HD HD1
              go_wp2_with (go_at_call 42; refine (BL _).mono ?_; rintro e w' ⟨rfl, rfl⟩)
              go_round
              case rel => exact ⟨_, u2.take (u2.length - 1), c2, by rw [hlen], hs', by rw [hlen]; omega, hm1, HD'⟩
              case measure => simp [slen]; omega
            | false =>
              have HE2 : Hid (u2 = T) := by
                show _ = _
                rw [← HD1.out, dropB_stop (fun _ => hb)]
              have BL := blank_any (iAt u2 (u2.length - 1))
              rw [hb] at BL
              generalize iAt u2 (u2.length - 1) = x2 at d0 BL
              clear hu hb HD HD1
              go_wp2_with (go_at_call 42; refine (BL _).mono ?_; rintro e w' ⟨rfl, rfl⟩)
              go_ret
              refine ⟨?_, rfl⟩
              rw [← HE2.out]
              exact ⟨_, _, rfl, hc1, hs⟩
          · have hl3 : u2.length = 0 := by omega
            have HE2 : Hid (u2 = T) := by
              show _ = _
              rw [← HD1.out, dropB_stop (fun h => absurd h hl2)]
            clear HD HD1
            obtain rfl : u2 = [] := List.eq_nil_of_length_eq_zero hl3
            go_wp2
            go_ret
            refine ⟨?_, rfl⟩
            rw [← HE2.out]
            exact ⟨_, _, rfl, hc1, hs⟩
        · have hb0' : ¬ (0 : Int) < (R.length : Int) - 1 := by omega
          have HE2 : Hid (u2 = T) := by
            have := HD.out; simp only [hb0, decide_false, Bool.false_eq_true, if_false] at this ⊢; exact this
          clear HD
          go_wp2
          go_ret
          refine ⟨?_, rfl⟩
          rw [← HE2.out]
          exact ⟨_, _, rfl, hc1, hs⟩
end Go.Proofs.Ytfblagepgflndaa
