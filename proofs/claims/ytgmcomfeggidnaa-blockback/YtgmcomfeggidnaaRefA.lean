/- The document's own Past, trim; appends of ints. -/
import Derived.Test.YtgmcomfeggidnaaCol
set_option linter.unusedVariables false
set_option linter.unusedSimpArgs false
namespace Go.Proofs.Ytgmcomfeggidnaa
open Go.RowKit Go.Shelf

/-- How many blanks stand at the beginning. -/
def pastN : List Int → Nat
  | [] => 0
  | x :: t => if blankP x then pastN t + 1 else 0
theorem pastN_le : ∀ t, pastN t ≤ t.length
  | [] => Nat.le_refl _
  | x :: t => by
    unfold pastN
    split
    · have := pastN_le t; simp; omega
    · simp
theorem pastN_drop : ∀ t, t.drop (pastN t) = dropF t
  | [] => rfl
  | x :: t => by
    unfold pastN dropF
    split
    · rename_i h
      rw [List.drop_succ_cons, pastN_drop t, List.dropWhile_cons_of_pos h]
      rfl
    · rename_i h
      rw [List.dropWhile_cons_of_neg h]
      rfl
theorem pastN_stop : ∀ t, pastN t < t.length → blankP (iAt t (pastN t)) = false
  | [], h => by simp [pastN] at h
  | x :: t, h => by
    by_cases hb : blankP x = true
    · rw [show pastN (x :: t) = pastN t + 1 from by simp [pastN, hb]] at h ⊢
      have := pastN_stop t (by simp at h; omega)
      simpa [iAt] using this
    · rw [show pastN (x :: t) = 0 from by simp [pastN, hb]]
      simpa [iAt] using hb
theorem pastN_all : ∀ t (k : Nat), k < pastN t → blankP (iAt t k) = true
  | [], k, h => by simp [pastN] at h
  | x :: t, k, h => by
    by_cases hb : blankP x = true
    · rw [show pastN (x :: t) = pastN t + 1 from by simp [pastN, hb]] at h
      cases k with
      | zero => simpa [iAt] using hb
      | succ k => have := pastN_all t k (by omega); simpa [iAt] using this
    · rw [show pastN (x :: t) = 0 from by simp [pastN, hb]] at h
      omega

set_option maxRecDepth 100000 in
set_option maxHeartbeats 1000000 in
theorem past_any (q : Option Addr) (t : List Int) (c : Nat) (w : World) (hn : (t.length : Int) ≤ 1099511627776) (hI : Is w q t) :
    Calls Try.prog 18 #[.slice q t.length c] w fun e w' => e = .returned (.int .i64 (pastN t)) ∧ w' = w := by
  have hle := pastN_le t
  obtain ⟨m, hm⟩ : ∃ m, pastN t = m := ⟨_, rfl⟩
  rw [hm] at hle ⊢
  have HM : Hid (pastN t = m) := hm
  clear hm
  go_enter Try.func18, Try.ntmps18
  go_wp2
  go_loop [3] (fun i => ∃ (k : Nat), k ≤ m ∧ i = .int .i64 k) (fun i => t.length - (intOf i).toNat)
  case atStart => exact ⟨0, Nat.zero_le _, rfl⟩
  case round =>
    obtain ⟨k, hk, rfl⟩ := hrel
    by_cases hlt : k < t.length
    · have hli : (k : Int) < t.length := by omega
      obtain ⟨b, o, rfl, hc⟩ := hI.at (by omega)
      have c0 := hc k hlt
      have BL := rblank_any (iAt t k)
      by_cases hkm : k < m
      · rw [pastN_all t k (by rw [HM.out]; exact hkm)] at BL
        generalize iAt t k = x at c0 BL
        clear hc
        go_wp2_with (go_at_call 32; refine (BL _).mono ?_; rintro e w' ⟨rfl, rfl⟩)
        go_round
        case rel => exact ⟨k + 1, by omega, by go_num⟩
        case measure => simp [intOf]; omega
      · obtain rfl : k = m := by omega
        have hst := pastN_stop t (by rw [HM.out]; exact hlt)
        rw [HM.out] at hst
        rw [hst] at BL
        generalize iAt t k = x at c0 BL
        clear hc hst
        go_wp2_with (go_at_call 32; refine (BL _).mono ?_; rintro e w' ⟨rfl, rfl⟩)
        go_ret
        exact ⟨rfl, rfl⟩
    · obtain rfl : k = t.length := by omega
      obtain rfl : m = t.length := by omega
      go_wp2
      go_ret
      exact ⟨rfl, rfl⟩

theorem Sub.from {w : World} {q : Option Addr} {t : List Int} (h : Is w q t) (c m : Nat) (hc : t.length ≤ c) : Sub q t (if c = m then q else q.map (·.add m)) (t.drop m) := by
  by_cases hm : t.length ≤ m
  · exact .inl (List.drop_eq_nil_of_le hm)
  · rcases h with rfl | ⟨b, o, rfl, -⟩
    · exact .inl (by simp)
    · rw [if_neg (by omega), Option.map_some, add_plain]
      refine .inr ⟨b, o, m, rfl, rfl, by rw [List.length_drop]; omega, ?_⟩
      rw [List.take_of_length_le (by simp)]

/-- append(v, u...) -/
theorem pushL {w : World} {base : Nat} {v : Value} {xs u : List Int} {q : Option Addr} (c : Nat) (h : Owns w base v xs) (hb : base ≤ w.heap.size) (hn : xs.length + u.length ≤ 8796093022208) (hI : Is w q u) :
    ∃ v' w1, (Builtin.append_ #[22, 22] 22 #[v, .slice q u.length c]).run Try.prog w = .ok v' w1 ∧ Owns w1 base v' (xs ++ u) ∧ w.grownBy w1 v.ownBlock := by
  obtain ⟨i0, hi, hz0, hz1, hz2⟩ := info_parts Try.info3
  cases q with
  | none =>
    have e : u = [] := by
      rcases hI with e | ⟨b, o, e, -⟩
      · exact e
      · cases e
    subst e
    refine ⟨v, w, ?_, by rw [List.append_nil]; exact h, ⟨rfl, rfl, rfl, Nat.le_refl _, fun _ _ _ => rfl⟩⟩
    rcases h.2 with ⟨rfl, -⟩ | ⟨g, cap, cur, rfl, -, hg, hle, -⟩
    · simp [Builtin.append_, run_underlying Try.underlying22, sizeOf, typeInfo, hi, Builtin.lenOf, Builtin.firstCells, loadCells, loadCellsFrom]
    · simp [Builtin.append_, run_underlying Try.underlying22, sizeOf, typeInfo, hi, Builtin.lenOf, Builtin.firstCells, loadCells, loadCellsFrom, hle, storeCells]
  | some a =>
    have hnews : ∀ j z, (u.map (Value.int .i64))[j]? = some z → w.cell? (a.add j) = some z := by
      intro j z hz
      rw [List.getElem?_map] at hz
      cases hj : u[j]? with
      | none => rw [hj] at hz; cases hz
      | some y =>
        rw [hj] at hz
        have hjl : j < u.length := (List.getElem?_eq_some_iff.1 hj).1
        obtain ⟨b, o, e, hc⟩ := hI.at (by omega)
        cases e
        rw [add_plain, hc j hjl]
        simp [iAt, hj] at hz ⊢
        exact hz
    obtain ⟨v', w', hr, ho, hg, -⟩ := run_append_own (P := Try.prog) w base 22 22 3 i0 (.int .i64 0) 1 8 Try.underlying22 hi hz0 hz1 hz2 rfl (by decide) v xs.length (xs.map (.int .i64)) h
      a u.length c (u.map (.int .i64)) (by simp) hnews (by simp [Value.oneCell']) (by unfold maxLen; omega) (by omega) hb
    refine ⟨v', w', hr, ?_, hg⟩
    unfold Owns
    rw [List.map_append, List.length_append]
    exact ho

theorem owns_below {w w1 : World} {base : Nat} {v : Value} {xs : List Int} (h : Owns w base v xs) (hg : w.grownBy w1 v.ownBlock) {n₀ : Nat} (hn : n₀ ≤ base) (hb : base ≤ w.heap.size) : Below n₀ w w1 :=
  (Below.refl n₀ w).grown hg (by omega) (fun k e => Nat.le_trans hn (owns_cells h e).1)
/-- One more, as the walk wants it. -/
theorem push1w {w : World} {base : Nat} {v : Value} {xs : List Int} (h : Owns w base v xs) (hb : base ≤ w.heap.size) (hn : xs.length + 1 ≤ 8796093022208) (x : Int) :
    ∃ v' w1, (Builtin.append_ #[22, 22] 22 #[v, .slice (some ⟨w.heap.size, 0, none⟩) 1 1]).run Try.prog (w.alloc (.cells #[.int .i64 x] 3)) = .ok v' w1 ∧ Owns w1 base v' (xs ++ [x]) ∧ Below base w w1 := by
  obtain ⟨g, cap, w1, h1, h2, h3, -⟩ := push1 h hb hn x
  refine ⟨_, w1, h1, ?_, ?_⟩
  · exact h2
  · exact ((Below.refl base w).alloc hb _).trans (owns_below (h.alloc _) h3 (Nat.le_refl _) (by simp; omega))
end Go.Proofs.Ytgmcomfeggidnaa
