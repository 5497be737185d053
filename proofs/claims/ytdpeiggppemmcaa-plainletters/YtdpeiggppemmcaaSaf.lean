/- What safe, safeAt, signAt and ends answer, and the document's own ones. -/
import Derived.Test.YtdpeiggppemmcaaPln
set_option linter.unusedVariables false
set_option linter.unusedSimpArgs false
namespace Go.Proofs.Ytdpeiggppemmcaa
open Go.RowKit

set_option maxRecDepth 100000 in
set_option maxHeartbeats 1000000 in
theorem safe_any (c : Int) (fl : Bool) (w : World) :
    Calls Try.prog 16 #[.int .i64 c, .bool fl] w fun e w' => e = .returned (.bool (safeP c fl)) ∧ w' = w := by
  have NM := name_any c
  have FL := flow_any c
  unfold safeP
  generalize nameP c = a at NM
  generalize flowP c = b at FL
  cases a <;> cases b <;> cases fl <;>
  · go_enter Try.func16, Try.ntmps16
    go_wp2_with (first | (go_at_call 26; refine (NM _).mono ?_; rintro e w' ⟨rfl, rfl⟩) | (go_at_call 27; refine (FL _).mono ?_; rintro e w' ⟨rfl, rfl⟩))
    go_ret
    exact ⟨rfl, rfl⟩

set_option maxRecDepth 100000 in
set_option maxHeartbeats 2000000 in
theorem rsafe_any (c : Int) (fl : Bool) (w : World) :
    Calls Try.prog 19 #[.int .i64 c, .bool fl] w fun e w' => e = .returned (.bool (safeP c fl)) ∧ w' = w := by
  have PR := rprint_any c
  have BL := rblank_any c
  have FL := rflow_any c
  rw [safeP_doc]
  generalize printP c = a at PR
  generalize blankP c = b at BL
  generalize flowP c = d at FL
  go_enter Try.func19, Try.ntmps19
  go_wp2_with (first | (go_at_call 29; refine (PR _).mono ?_; rintro e w' ⟨rfl, rfl⟩) | (go_at_call 23; refine (BL _).mono ?_; rintro e w' ⟨rfl, rfl⟩) | (go_at_call 30; refine (FL _).mono ?_; rintro e w' ⟨rfl, rfl⟩))
  all_goals
    go_ret
    refine ⟨ret_bool ?_, rfl⟩
    simp_all

set_option maxRecDepth 100000 in
set_option maxHeartbeats 1000000 in
theorem safeAt_any (q : Option Addr) (t : List Int) (c i : Nat) (fl : Bool) (w : World) (hn : t.length ≤ 1099511627776) (hI : Is w q t) :
    Calls Try.prog 20 #[.slice q t.length c, .int .i64 i, .bool fl] w fun e w' => e = .returned (.bool (decide (i < t.length) && safeP (iAt t i) fl)) ∧ w' = w := by
  by_cases h : i < t.length
  · have h' : (i : Int) < t.length := by omega
    obtain ⟨b, o, rfl, hu⟩ := hI.at (by omega)
    have c0 := hu i h
    have SF := rsafe_any (iAt t i) fl
    rw [show decide (i < t.length) = true from decide_eq_true h]
    generalize iAt t i = x at c0 SF
    generalize safeP x fl = z at SF
    clear hu hI h
    go_enter Try.func20, Try.ntmps20
    go_wp2_with (first | (go_at_call 19; refine (SF _).mono ?_; rintro e w' ⟨rfl, rfl⟩))
    all_goals
      go_ret
      refine ⟨ret_bool ?_, rfl⟩
      simp_all
  · have h' : ¬ (i : Int) < t.length := by omega
    rw [show decide (i < t.length) = false from decide_eq_false h]
    go_enter Try.func20, Try.ntmps20
    go_wp2
    all_goals
      go_ret
      refine ⟨ret_bool ?_, rfl⟩
      simp_all

/-- A sign, as it lies in memory. -/
def sgV (t : List Int) (i : Nat) : Value := .agg #[.int .i64 (ahP t i), .int .i64 (iAt t i), .int .i64 (bhP t i)]

set_option maxRecDepth 100000 in
set_option maxHeartbeats 1000000 in
theorem signAt_any (q : Option Addr) (t : List Int) (c i : Nat) (w : World) (hn : t.length ≤ 1099511627776) (hI : Is w q t) (hi : i < t.length) :
    Calls Try.prog 17 #[.slice q t.length c, .int .i64 i] w fun e w' => e = .returned (sgV t i) ∧ Below w.heap.size w w' := by
  have hi' : (i : Int) < t.length := by omega
  obtain ⟨b, o, rfl, hu⟩ := hI.at (by omega)
  have hb := World.block_lt_of_cell? w _ (hu i hi)
  have c0 := hu i hi
  unfold sgV ahP bhP
  by_cases h0 : 0 < i
  · have h0' : (0 : Int) < i := by omega
    have e1 : (i : Int) - 1 = ((i - 1 : Nat) : Int) := by omega
    have c1 := hu (i - 1) (by omega)
    rw [if_pos h0]
    by_cases h1 : i + 1 < t.length
    · have h1' : (i : Int) + 1 < t.length := by omega
      have c2 := hu (i + 1) h1
      rw [if_pos h1]
      generalize iAt t i = x at c0
      generalize iAt t (i - 1) = y at c1
      generalize iAt t (i + 1) = z at c2
      clear hu hI
      go_enter Try.func17, Try.ntmps17
      go_wp2
      exact bodyPost_ret (v := .agg #[.int .i64 y, .int .i64 x, .int .i64 z]) (by simp [results, Try.results17, go_sem]) rfl ⟨rfl, ((Below.refl _ w).alloc (Nat.le_refl _) _).alloc (by simp) _⟩
    · have h1' : ¬ (i : Int) + 1 < t.length := by omega
      rw [if_neg h1]
      generalize iAt t i = x at c0
      generalize iAt t (i - 1) = y at c1
      clear hu hI
      go_enter Try.func17, Try.ntmps17
      go_wp2
      exact bodyPost_ret (v := .agg #[.int .i64 y, .int .i64 x, .int .i64 10]) (by simp [results, Try.results17, go_sem]) rfl ⟨rfl, ((Below.refl _ w).alloc (Nat.le_refl _) _).alloc (by simp) _⟩
  · have h0' : ¬ (0 : Int) < i := by omega
    rw [if_neg h0]
    by_cases h1 : i + 1 < t.length
    · have h1' : (i : Int) + 1 < t.length := by omega
      have c2 := hu (i + 1) h1
      rw [if_pos h1]
      generalize iAt t i = x at c0
      generalize iAt t (i + 1) = z at c2
      clear hu hI
      go_enter Try.func17, Try.ntmps17
      go_wp2
      exact bodyPost_ret (v := .agg #[.int .i64 10, .int .i64 x, .int .i64 z]) (by simp [results, Try.results17, go_sem]) rfl ⟨rfl, ((Below.refl _ w).alloc (Nat.le_refl _) _).alloc (by simp) _⟩
    · have h1' : ¬ (i : Int) + 1 < t.length := by omega
      rw [if_neg h1]
      generalize iAt t i = x at c0
      clear hu hI
      go_enter Try.func17, Try.ntmps17
      go_wp2
      exact bodyPost_ret (v := .agg #[.int .i64 10, .int .i64 x, .int .i64 10]) (by simp [results, Try.results17, go_sem]) rfl ⟨rfl, ((Below.refl _ w).alloc (Nat.le_refl _) _).alloc (by simp) _⟩

theorem grown_of_below {A B : World} (h : Below A.heap.size A B) : A.grownBy B none := ⟨h.os, h.tape, h.output, h.size, fun k hk _ => h.block k hk⟩

set_option maxRecDepth 100000 in
set_option maxHeartbeats 1000000 in
theorem ends_any (a c b : Int) (fl : Bool) (w : World) :
    Calls Try.prog 25 #[.agg #[.int .i64 a, .int .i64 c, .int .i64 b], .bool fl] w fun e w' => e = .returned (.bool (enP a c b fl)) ∧ Below w.heap.size w w' := by
  unfold enP
  by_cases h1 : c = 58
  · subst h1
    rw [if_pos rfl]
    have SF := safe_any b fl
    generalize safeP b fl = z at SF
    go_enter Try.func25, Try.ntmps25
    go_wp2_with (first | (go_at_call 16; refine (SF _).mono ?_; rintro e w' ⟨rfl, rfl⟩))
    go_ret
    exact ⟨rfl, (Below.refl _ w).alloc (Nat.le_refl _) _⟩
  · rw [if_neg h1]
    have h1' : (c == 58) = false := by simpa using h1
    by_cases h2 : c = 35
    · subst h2
      rw [if_pos rfl]
      have SF := blank_any a
      generalize blankP a = z at SF
      go_enter Try.func25, Try.ntmps25
      go_wp2_with (first | (go_at_call 15; refine (SF _).mono ?_; rintro e w' ⟨rfl, rfl⟩))
      go_ret
      exact ⟨rfl, (Below.refl _ w).alloc (Nat.le_refl _) _⟩
    · rw [if_neg h2]
      have h2' : (c == 35) = false := by simpa using h2
      have SF := flow_any c
      generalize flowP c = z at SF
      cases fl <;>
      · go_enter Try.func25, Try.ntmps25
        go_wp2_with (first | (go_at_call 27; refine (SF _).mono ?_; rintro e w' ⟨rfl, rfl⟩))
        go_ret
        exact ⟨rfl, (Below.refl _ w).alloc (Nat.le_refl _) _⟩
end Go.Proofs.Ytdpeiggppemmcaa
