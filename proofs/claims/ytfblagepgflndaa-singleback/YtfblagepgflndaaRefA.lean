/- The document's own Past, trim; appends of ints. -/
import Derived.Test.YtfblagepgflndaaCol
set_option linter.unusedVariables false
set_option linter.unusedSimpArgs false
namespace Go.Proofs.Ytfblagepgflndaa
open Go.RowKit Go.Shelf

/-- How many blanks stand at the beginning. -/
def pastN : List Int → Nat
  | [] => 0
  | x :: t => if blankP x then pastN t + 1 else 0
theorem pastN_le : ∀ t, pastN t ≤ t.length
  | [] => Nat.le_refl _
  | x :: t => by
    unfold pastN
    split
    · have := pastN_le t; simp; omega
    · simp
theorem pastN_drop : ∀ t, t.drop (pastN t) = dropF t
  | [] => rfl
  | x :: t => by
    unfold pastN dropF
    split
    · rename_i h
      rw [List.drop_succ_cons, pastN_drop t, List.dropWhile_cons_of_pos h]
      rfl
    · rename_i h
      rw [List.dropWhile_cons_of_neg h]
      rfl
theorem pastN_stop : ∀ t, pastN t < t.length → blankP (iAt t (pastN t)) = false
  | [], h => by simp [pastN] at h
  | x :: t, h => by
    by_cases hb : blankP x = true
    · rw [show pastN (x :: t) = pastN t + 1 from by simp [pastN, hb]] at h ⊢
      have := pastN_stop t (by simp at h; omega)
      simpa [iAt] using this
    · rw [show pastN (x :: t) = 0 from by simp [pastN, hb]]
      simpa [iAt] using hb
theorem pastN_all : ∀ t (k : Nat), k < pastN t → blankP (iAt t k) = true
  | [], k, h => by simp [pastN] at h
  | x :: t, k, h => by
    by_cases hb : blankP x = true
    · rw [show pastN (x :: t) = pastN t + 1 from by simp [pastN, hb]] at h
      cases k with
      | zero => simpa [iAt] using hb
      | succ k => have := pastN_all t k (by omega); simpa [iAt] using this
    · rw [show pastN (x :: t) = 0 from by simp [pastN, hb]] at h
      omega

set_option maxRecDepth 100000 in
set_option maxHeartbeats 1000000 in
theorem past_any (q : Option Addr) (t : List Int) (c : Nat) (w : World) (hn : (t.length : Int) ≤ 1099511627776) (hI : Is w q t) :
    Calls Try.prog 31 #[.slice q t.length c] w fun e w' => e = .returned (.int .i64 (pastN t)) ∧ w' = w := by
  have hle := pastN_le t
  obtain ⟨m, hm⟩ : ∃ m, pastN t = m := ⟨_, rfl⟩
  rw [hm] at hle ⊢
  have HM : Hid (pastN t = m) := hm
  clear hm
  go_enter Try.func31, Try.ntmps31
  go_wp2
  go_loop [3] (fun i => ∃ (k : Nat), k ≤ m ∧ i = .int .i64 k) (fun i => t.length - (intOf i).toNat)
  case atStart => exact ⟨0, Nat.zero_le _, rfl⟩
  case round =>
    obtain ⟨k, hk, rfl⟩ := hrel
    by_cases hlt : k < t.length
    · have hli : (k : Int) < t.length := by omega
      obtain ⟨b, o, rfl, hc⟩ := hI.at (by omega)
      have c0 := hc k hlt
      have BL := rblank_any (iAt t k)
      by_cases hkm : k < m
      · rw [pastN_all t k (by rw [HM.out]; exact hkm)] at BL
        generalize iAt t k = x at c0 BL
        clear hc
        go_wp2_with (go_at_call 32; refine (BL _).mono ?_; rintro e w' ⟨rfl, rfl⟩)
        go_round
        case rel => exact ⟨k + 1, by omega, by go_num⟩
        case measure => simp [intOf]; omega
      · obtain rfl : k = m := by omega
        have hst := pastN_stop t (by rw [HM.out]; exact hlt)
        rw [HM.out] at hst
        rw [hst] at BL
        generalize iAt t k = x at c0 BL
        clear hc hst
        go_wp2_with (go_at_call 32; refine (BL _).mono ?_; rintro e w' ⟨rfl, rfl⟩)
        go_ret
        exact ⟨rfl, rfl⟩
    · obtain rfl : k = t.length := by omega
      obtain rfl : m = t.length := by omega
      go_wp2
      go_ret
      exact ⟨rfl, rfl⟩

theorem Sub.from {w : World} {q : Option Addr} {t : List Int} (h : Is w q t) (c m : Nat) (hc : t.length ≤ c) : Sub q t (if c = m then q else q.map (·.add m)) (t.drop m) := by
  by_cases hm : t.length ≤ m
  · exact .inl (List.drop_eq_nil_of_le hm)
  · rcases h with rfl | ⟨b, o, rfl, -⟩
    · exact .inl (by simp)
    · rw [if_neg (by omega), Option.map_some, add_plain]
      refine .inr ⟨b, o, m, rfl, rfl, by rw [List.length_drop]; omega, ?_⟩
      rw [List.take_of_length_le (by simp)]

set_option maxRecDepth 100000 in
set_option maxHeartbeats 2000000 in
theorem trim_any (q : Option Addr) (t : List Int) (c : Nat) (front back : Bool) (w : World) (hn : (t.length : Int) ≤ 1099511627776) (hc : t.length ≤ c) (hm : c ≤ maxLen) (hI : Is w q t) :
    Calls Try.prog 24 #[.slice q t.length c, .bool front, .bool back] w fun e w' => Piece q t (trimF front back t) e ∧ w' = w := by
  obtain ⟨T, hT⟩ : ∃ T, trimF front back t = T := ⟨_, rfl⟩
  rw [hT]
  have HT : Hid (trimF front back t = T) := hT
  clear hT
  have PA := past_any q t c w hn hI
  have S := slice_from q t.length c (pastN t) (pastN_le t) hc
  have hsF := Sub.from hI c (pastN t) hc
  have hsR := Sub.refl hI
  have hple := pastN_le t
  rw [pastN_drop] at hsF
  have HL : Hid ((dropF t).length = t.length - pastN t) := by show _ = _; rw [← pastN_drop, List.length_drop]
  generalize (if c = pastN t then q else q.map (·.add (pastN t))) = qf at S hsF
  generalize pastN t = m at PA S HL hple
  cases front
  · go_enter Try.func24, Try.ntmps24
    go_wp2
    go_loop [0] (fun v => ∃ (q' : Option Addr) (u' : List Int) (c' : Nat), v = .slice q' u'.length c' ∧ Sub q t q' u' ∧ u'.length ≤ c' ∧ c' ≤ maxLen ∧ Hid ((if back then dropB u' else u') = T)) (fun v => slen v)
    case atStart =>
      exact ⟨q, t, c, rfl, hsR, hc, hm, HT.out⟩
    case round =>
      clear hsF hsR
      obtain ⟨q2, u2, c2, rfl, hs, hc1, hm1, HD⟩ := hrel
      have hm2 : (c2 : Int) ≤ 9223372036854775807 := by unfold maxLen at hm1; omega
      have hc2 : (u2.length : Int) ≤ c2 := by omega
      cases back
      · have HE2 : Hid (u2 = T) := HD.out
        clear HD
        go_wp2
        go_ret
        refine ⟨?_, rfl⟩
        rw [← HE2.out]
        exact ⟨_, _, rfl, hc1, hs⟩
      · have HD1 : Hid (dropB u2 = T) := HD.out
        clear HD
        by_cases hl2 : 0 < u2.length
        · have hl2' : (0 : Int) < u2.length := by omega
          obtain ⟨b2, o2, rfl, hu⟩ := (hs.is hI).at hl2
          have d0 := hu (u2.length - 1) (by omega)
          have hj : ((u2.length - 1 : Nat) : Int) = (u2.length : Int) - 1 := by omega
          have hj2 : (0 : Int) ≤ (u2.length : Int) - 1 := by omega
          have S2 := slice_to (some ⟨b2, o2, none⟩) u2.length c2 (u2.length - 1) (by omega)
          rw [hj] at S2
          cases hb : blankP (iAt u2 (u2.length - 1)) with
          | true =>
            have hs' := hs.init (u2.length - 1)
            have HD' : Hid ((if true then dropB (u2.take (u2.length - 1)) else u2.take (u2.length - 1)) = T) := by
              show dropB _ = _
              rw [dropB_more hl2 hb]
              exact HD1.out
            have BL := rblank_any (iAt u2 (u2.length - 1))
            rw [hb] at BL
            have hlen : (u2.take (u2.length - 1)).length = u2.length - 1 := by simp
            generalize iAt u2 (u2.length - 1) = x2 at d0 BL
            clear hu hb HD1 S PA
            go_wp2_with (go_at_call 32; refine (BL _).mono ?_; rintro e w' ⟨rfl, rfl⟩)
            go_round
            case rel => exact ⟨_, u2.take (u2.length - 1), c2, by rw [hlen], hs', by rw [hlen]; omega, hm1, HD'⟩
            case measure => simp [slen]; omega
          | false =>
            have HE2 : Hid (u2 = T) := by
              show _ = _
              rw [← HD1.out, dropB_stop (fun _ => hb)]
            have BL := rblank_any (iAt u2 (u2.length - 1))
            rw [hb] at BL
            generalize iAt u2 (u2.length - 1) = x2 at d0 BL
            clear hu hb HD1 S PA
            go_wp2_with (go_at_call 32; refine (BL _).mono ?_; rintro e w' ⟨rfl, rfl⟩)
            go_ret
            refine ⟨?_, rfl⟩
            rw [← HE2.out]
            exact ⟨_, _, rfl, hc1, hs⟩
        · have hl3 : u2.length = 0 := by omega
          have HE2 : Hid (u2 = T) := by
            show _ = _
            rw [← HD1.out, dropB_stop (fun h => absurd h hl2)]
          clear HD1
          obtain rfl : u2 = [] := List.eq_nil_of_length_eq_zero hl3
          go_wp2
          go_ret
          refine ⟨?_, rfl⟩
          rw [← HE2.out]
          exact ⟨_, _, rfl, hc1, hs⟩
  · go_enter Try.func24, Try.ntmps24
    go_wp2_with (first | (go_at_call 31; refine PA.mono ?_; rintro e w' ⟨rfl, rfl⟩))
    go_loop [0] (fun v => ∃ (q' : Option Addr) (u' : List Int) (c' : Nat), v = .slice q' u'.length c' ∧ Sub q t q' u' ∧ u'.length ≤ c' ∧ c' ≤ maxLen ∧ Hid ((if back then dropB u' else u') = T)) (fun v => slen v)
    case atStart =>
      exact ⟨qf, dropF t, c - m, (by rw [HL.out]), hsF, (by rw [HL.out]; omega), by omega, HT.out⟩
    case round =>
      clear hsR
      obtain ⟨q2, u2, c2, rfl, hs, hc1, hm1, HD⟩ := hrel
      have hm2 : (c2 : Int) ≤ 9223372036854775807 := by unfold maxLen at hm1; omega
      have hc2 : (u2.length : Int) ≤ c2 := by omega
      cases back
      · have HE2 : Hid (u2 = T) := HD.out
        clear HD
        go_wp2
        go_ret
        refine ⟨?_, rfl⟩
        rw [← HE2.out]
        exact ⟨_, _, rfl, hc1, hs⟩
      · have HD1 : Hid (dropB u2 = T) := HD.out
        clear HD
        by_cases hl2 : 0 < u2.length
        · have hl2' : (0 : Int) < u2.length := by omega
          obtain ⟨b2, o2, rfl, hu⟩ := (hs.is hI).at hl2
          have d0 := hu (u2.length - 1) (by omega)
          have hj : ((u2.length - 1 : Nat) : Int) = (u2.length : Int) - 1 := by omega
          have hj2 : (0 : Int) ≤ (u2.length : Int) - 1 := by omega
          have S2 := slice_to (some ⟨b2, o2, none⟩) u2.length c2 (u2.length - 1) (by omega)
          rw [hj] at S2
          cases hb : blankP (iAt u2 (u2.length - 1)) with
          | true =>
            have hs' := hs.init (u2.length - 1)
            have HD' : Hid ((if true then dropB (u2.take (u2.length - 1)) else u2.take (u2.length - 1)) = T) := by
              show dropB _ = _
              rw [dropB_more hl2 hb]
              exact HD1.out
            have BL := rblank_any (iAt u2 (u2.length - 1))
            rw [hb] at BL
            have hlen : (u2.take (u2.length - 1)).length = u2.length - 1 := by simp
            generalize iAt u2 (u2.length - 1) = x2 at d0 BL
            clear hu hb HD1 S PA
            go_wp2_with (go_at_call 32; refine (BL _).mono ?_; rintro e w' ⟨rfl, rfl⟩)
            go_round
            case rel => exact ⟨_, u2.take (u2.length - 1), c2, by rw [hlen], hs', by rw [hlen]; omega, hm1, HD'⟩
            case measure => simp [slen]; omega
          | false =>
            have HE2 : Hid (u2 = T) := by
              show _ = _
              rw [← HD1.out, dropB_stop (fun _ => hb)]
            have BL := rblank_any (iAt u2 (u2.length - 1))
            rw [hb] at BL
            generalize iAt u2 (u2.length - 1) = x2 at d0 BL
            clear hu hb HD1 S PA
            go_wp2_with (go_at_call 32; refine (BL _).mono ?_; rintro e w' ⟨rfl, rfl⟩)
            go_ret
            refine ⟨?_, rfl⟩
            rw [← HE2.out]
            exact ⟨_, _, rfl, hc1, hs⟩
        · have hl3 : u2.length = 0 := by omega
          have HE2 : Hid (u2 = T) := by
            show _ = _
            rw [← HD1.out, dropB_stop (fun h => absurd h hl2)]
          clear HD1
          obtain rfl : u2 = [] := List.eq_nil_of_length_eq_zero hl3
          go_wp2
          go_ret
          refine ⟨?_, rfl⟩
          rw [← HE2.out]
          exact ⟨_, _, rfl, hc1, hs⟩

/-- append(v, u...) -/
theorem pushL {w : World} {base : Nat} {v : Value} {xs u : List Int} {q : Option Addr} (c : Nat) (h : Owns w base v xs) (hb : base ≤ w.heap.size) (hn : xs.length + u.length ≤ 8796093022208) (hI : Is w q u) :
    ∃ v' w1, (Builtin.append_ #[24, 24] 24 #[v, .slice q u.length c]).run Try.prog w = .ok v' w1 ∧ Owns w1 base v' (xs ++ u) ∧ w.grownBy w1 v.ownBlock := by
  obtain ⟨i0, hi, hz0, hz1, hz2⟩ := info_parts Try.info3
  cases q with
  | none =>
    have e : u = [] := by
      rcases hI with e | ⟨b, o, e, -⟩
      · exact e
      · cases e
    subst e
    refine ⟨v, w, ?_, by rw [List.append_nil]; exact h, ⟨rfl, rfl, rfl, Nat.le_refl _, fun _ _ _ => rfl⟩⟩
    rcases h.2 with ⟨rfl, -⟩ | ⟨g, cap, cur, rfl, -, hg, hle, -⟩
    · simp [Builtin.append_, run_underlying Try.underlying24, sizeOf, typeInfo, hi, Builtin.lenOf, Builtin.firstCells, loadCells, loadCellsFrom]
    · simp [Builtin.append_, run_underlying Try.underlying24, sizeOf, typeInfo, hi, Builtin.lenOf, Builtin.firstCells, loadCells, loadCellsFrom, hle, storeCells]
  | some a =>
    have hnews : ∀ j z, (u.map (Value.int .i64))[j]? = some z → w.cell? (a.add j) = some z := by
      intro j z hz
      rw [List.getElem?_map] at hz
      cases hj : u[j]? with
      | none => rw [hj] at hz; cases hz
      | some y =>
        rw [hj] at hz
        have hjl : j < u.length := (List.getElem?_eq_some_iff.1 hj).1
        obtain ⟨b, o, e, hc⟩ := hI.at (by omega)
        cases e
        rw [add_plain, hc j hjl]
        simp [iAt, hj] at hz ⊢
        exact hz
    obtain ⟨v', w', hr, ho, hg, -⟩ := run_append_own (P := Try.prog) w base 24 24 3 i0 (.int .i64 0) 1 8 Try.underlying24 hi hz0 hz1 hz2 rfl (by decide) v xs.length (xs.map (.int .i64)) h
      a u.length c (u.map (.int .i64)) (by simp) hnews (by simp [Value.oneCell']) (by unfold maxLen; omega) (by omega) hb
    refine ⟨v', w', hr, ?_, hg⟩
    unfold Owns
    rw [List.map_append, List.length_append]
    exact ho

theorem owns_below {w w1 : World} {base : Nat} {v : Value} {xs : List Int} (h : Owns w base v xs) (hg : w.grownBy w1 v.ownBlock) {n₀ : Nat} (hn : n₀ ≤ base) (hb : base ≤ w.heap.size) : Below n₀ w w1 :=
  (Below.refl n₀ w).grown hg (by omega) (fun k e => Nat.le_trans hn (owns_cells h e).1)
/-- One more, as the walk wants it. -/
theorem push1w {w : World} {base : Nat} {v : Value} {xs : List Int} (h : Owns w base v xs) (hb : base ≤ w.heap.size) (hn : xs.length + 1 ≤ 8796093022208) (x : Int) :
    ∃ v' w1, (Builtin.append_ #[24, 24] 24 #[v, .slice (some ⟨w.heap.size, 0, none⟩) 1 1]).run Try.prog (w.alloc (.cells #[.int .i64 x] 3)) = .ok v' w1 ∧ Owns w1 base v' (xs ++ [x]) ∧ Below base w w1 := by
  obtain ⟨g, cap, w1, h1, h2, h3, -⟩ := push1 h hb hn x
  refine ⟨_, w1, h1, ?_, ?_⟩
  · exact h2
  · exact ((Below.refl base w).alloc hb _).trans (owns_below (h.alloc _) h3 (Nat.le_refl _) (by simp; omega))
end Go.Proofs.Ytfblagepgflndaa
