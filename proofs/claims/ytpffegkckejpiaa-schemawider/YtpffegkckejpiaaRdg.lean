/- The tag that JSON tells. -/
import Derived.Test.YtpffegkckejpiaaPow
set_option linter.unusedVariables false
set_option linter.unusedSimpArgs false
set_option maxRecDepth 100000
namespace Go.Proofs.Ytpffegkckejpiaa
open Go.RowKit

theorem bl_empty {r : List UInt8} (h : r = []) : (bl r).toList.isEmpty = true := by subst h; rw [Lib.toList_data]; rfl
theorem bl_some {r : List UInt8} (h : ¬ r = []) : (bl r).toList.isEmpty = false := by
  rw [Lib.toList_data, bl_list]
  cases r with
  | nil => exact absurd rfl h
  | cons a t => rfl
theorem dk_len (l : List UInt8) : (dk l).length ≤ l.length := by
  conv => rhs; rw [tk_dk l]
  rw [List.length_append]; omega
theorem whP_len {l r : List UInt8} (h : whP l = some r) : r.length ≤ l.length := by
  obtain ⟨-, -, rfl⟩ := whP_some h
  exact dk_len l
theorem ptP_len {l r : List UInt8} (h : ptP l = some r) : r.length ≤ l.length := by
  unfold ptP at h
  by_cases h1 : l.head? = some 46
  · rw [if_pos h1] at h
    by_cases h2 : (tk l.tail).length = 0
    · rw [if_pos h2] at h; cases h
    · rw [if_neg h2] at h
      cases h
      have := dk_len l.tail
      rw [List.length_tail] at this
      omega
  · rw [if_neg h1] at h
    cases h
    exact Nat.le_refl _
/-- What JSON tells of a text that is no word and not too great. -/
def numT (n : Nat) : ByteArray := if n = 1 then intT else if n = 2 then floatT else strT
set_option maxHeartbeats 4000000 in
theorem json_num (s : ByteArray) (w : World) (hs : (s.size : Int) ≤ 5000) (h1 : (s.toList == [110, 117, 108, 108]) = false) (h2 : (s.toList == []) = false) (h3 : (s.toList == [116, 114, 117, 101]) = false) (h4 : (s.toList == [102, 97, 108, 115, 101]) = false) :
    Calls Try.prog 33 #[.string s] w fun e w' => e = .returned (.string (numT (jsN s.data.toList))) ∧ w' = w := by
  have hsz : s.size ≤ 100000 := by omega
  have hg : ¬ (5000 : Int) < s.size := by omega
  have WH := fun w => whole_any s w hsz
  unfold jsN
  cases hw : whP (skipM s.data.toList) with
  | none =>
    rw [hw] at WH
    simp only [optV] at WH
    clear hw
    show Calls Try.prog 33 #[.string s] w fun e w' => e = .returned (.string strT) ∧ w' = w
    go_enter Try.func33, Try.ntmps33
    go_wp2_with fail
    refine (WH _).mono ?_
    rintro e w1 ⟨rfl, rfl⟩
    go_wp2
    go_ret
    exact ⟨rfl, rfl⟩
  | some r =>
    have hrl : r.length ≤ 100000 := by
      have a1 := whP_len hw
      have a2 := skipM_len s.data.toList
      rw [size_list] at a2
      omega
    rw [hw] at WH
    simp only [optV] at WH
    clear hw
    show Calls Try.prog 33 #[.string s] w fun e w' => e = .returned (.string (numT (if r = [] then 1 else if (ptP r).bind pwP = some [] then 2 else 0))) ∧ w' = w
    by_cases hr : r = []
    · have hR := bl_empty hr
      rw [if_pos hr]
      generalize bl r = R at WH hR
      clear hr
      show Calls Try.prog 33 #[.string s] w fun e w' => e = .returned (.string intT) ∧ w' = w
      go_enter Try.func33, Try.ntmps33
      go_wp2_with fail
      refine (WH _).mono ?_
      rintro e w1 ⟨rfl, rfl⟩
      go_wp2
      go_ret
      exact ⟨rfl, rfl⟩
    · have hR := bl_some hr
      rw [if_neg hr]
      have PT := fun w => part_any (bl r) w (by rw [bl_size]; exact hrl)
      rw [bl_list] at PT
      generalize bl r = R at WH hR PT
      clear hr
      cases hp : ptP r with
      | none =>
        rw [hp] at PT
        simp only [optV] at PT
        clear hp
        show Calls Try.prog 33 #[.string s] w fun e w' => e = .returned (.string strT) ∧ w' = w
        go_enter Try.func33, Try.ntmps33
        go_wp2_with fail
        refine (WH _).mono ?_
        rintro e w1 ⟨rfl, rfl⟩
        go_wp2_with fail
        refine (PT _).mono ?_
        rintro e w1 ⟨rfl, rfl⟩
        go_wp2
        go_ret
        exact ⟨rfl, rfl⟩
      | some q =>
        have hql : q.length ≤ 100000 := Nat.le_trans (ptP_len hp) hrl
        rw [hp] at PT
        simp only [optV] at PT
        clear hp
        have PW := fun w => pow_any (bl q) w (by rw [bl_size]; exact hql)
        rw [bl_list] at PW
        generalize bl q = Q at PT PW
        rw [show (some q).bind pwP = pwP q from rfl]
        cases hq : pwP q with
        | none =>
          rw [hq] at PW
          simp only [optV] at PW
          clear hq
          show Calls Try.prog 33 #[.string s] w fun e w' => e = .returned (.string strT) ∧ w' = w
          go_enter Try.func33, Try.ntmps33
          go_wp2_with fail
          refine (WH _).mono ?_
          rintro e w1 ⟨rfl, rfl⟩
          go_wp2_with fail
          refine (PT _).mono ?_
          rintro e w1 ⟨rfl, rfl⟩
          go_wp2_with fail
          refine (PW _).mono ?_
          rintro e w1 ⟨rfl, rfl⟩
          go_wp2
          go_ret
          exact ⟨rfl, rfl⟩
        | some x =>
          rw [hq] at PW
          simp only [optV] at PW
          clear hq
          by_cases hx : x = []
          · have hX := bl_empty hx
            generalize bl x = X at PW hX
            subst hx
            show Calls Try.prog 33 #[.string s] w fun e w' => e = .returned (.string floatT) ∧ w' = w
            go_enter Try.func33, Try.ntmps33
            go_wp2_with fail
            refine (WH _).mono ?_
            rintro e w1 ⟨rfl, rfl⟩
            go_wp2_with fail
            refine (PT _).mono ?_
            rintro e w1 ⟨rfl, rfl⟩
            go_wp2_with fail
            refine (PW _).mono ?_
            rintro e w1 ⟨rfl, rfl⟩
            go_wp2
            go_ret
            exact ⟨rfl, rfl⟩
          · have hX := bl_some hx
            generalize bl x = X at PW hX
            rw [if_neg (fun e => hx (Option.some.inj e))]
            clear hx
            show Calls Try.prog 33 #[.string s] w fun e w' => e = .returned (.string strT) ∧ w' = w
            go_enter Try.func33, Try.ntmps33
            go_wp2_with fail
            refine (WH _).mono ?_
            rintro e w1 ⟨rfl, rfl⟩
            go_wp2_with fail
            refine (PT _).mono ?_
            rintro e w1 ⟨rfl, rfl⟩
            go_wp2_with fail
            refine (PW _).mono ?_
            rintro e w1 ⟨rfl, rfl⟩
            go_wp2
            go_ret
            exact ⟨rfl, rfl⟩

set_option maxHeartbeats 1000000 in
theorem json_any (s : ByteArray) (w : World) : Calls Try.prog 33 #[.string s] w fun e w' => e = .returned (.string (jsT s)) ∧ w' = w := by
  unfold jsT
  cases h1 : s.toList == [110, 117, 108, 108]
  · cases h2 : s.toList == []
    · cases h3 : s.toList == [116, 114, 117, 101]
      · cases h4 : s.toList == [102, 97, 108, 115, 101]
        · by_cases hg : 5000 < s.size
          · have hgi : (5000 : Int) < s.size := by omega
            rw [if_pos hg]
            show Calls Try.prog 33 #[.string s] w fun e w' => e = .returned (.string strT) ∧ w' = w
            go_enter Try.func33, Try.ntmps33
            go_wp2
            go_ret
            exact ⟨rfl, rfl⟩
          · rw [if_neg hg]
            exact json_num s w (by omega) h1 h2 h3 h4
        · show Calls Try.prog 33 #[.string s] w fun e w' => e = .returned (.string boolT) ∧ w' = w
          go_enter Try.func33, Try.ntmps33
          go_wp2
          go_ret
          exact ⟨rfl, rfl⟩
      · show Calls Try.prog 33 #[.string s] w fun e w' => e = .returned (.string boolT) ∧ w' = w
        go_enter Try.func33, Try.ntmps33
        go_wp2
        go_ret
        exact ⟨rfl, rfl⟩
    · show Calls Try.prog 33 #[.string s] w fun e w' => e = .returned (.string nullT) ∧ w' = w
      go_enter Try.func33, Try.ntmps33
      go_wp2
      go_ret
      exact ⟨rfl, rfl⟩
  · show Calls Try.prog 33 #[.string s] w fun e w' => e = .returned (.string nullT) ∧ w' = w
    go_enter Try.func33, Try.ntmps33
    go_wp2
    go_ret
    exact ⟨rfl, rfl⟩
end Go.Proofs.Ytpffegkckejpiaa
set_option maxRecDepth 100000
namespace Go.Proofs.Ytpffegkckejpiaa
open Go.RowKit

set_option maxHeartbeats 1000000 in
theorem rdigits_any (t : ByteArray) (i : Nat) (w : World) (h : i ≤ t.size) (hs : t.size ≤ 100000) :
    Calls Try.prog 35 #[.string t, .int .i64 i] w fun e w' => e = .returned (.int .i64 (rlen t i)) ∧ w' = w := by
  have hle := rlen_le t i h
  have HA : Hid (∀ m, m < rlen t i → ∀ hs : i + m < t.size, isD t[i + m] = true) := fun m h1 h2 => run_at h1 h2
  have HE : Hid (∀ hs : i + rlen t i < t.size, isD t[i + rlen t i] = false) := fun hs => run_end hs
  generalize rlen t i = E at *
  go_enter Try.func35, Try.ntmps35
  go_wp2
  go_loop [5] (fun v => ∃ (m : Nat), m ≤ E ∧ v = .int .i64 m) (fun v => t.size - (intOf v).toNat)
  case atStart => exact ⟨0, Nat.zero_le _, rfl⟩
  case round =>
    obtain ⟨m, hmE, rfl⟩ := hrel
    have hmb : (i : Int) + m ≤ 100000 := by omega
    by_cases hlt : m < E
    · have hms : i + m < t.size := by omega
      have hD' := isD_iff.1 (HA.out m hlt hms)
      have g1 := hD'.1
      have g2 := hD'.2
      have hl : (i : Int) + m < t.size := by omega
      clear hD'
      go_wp2
      go_round
      case rel => exact ⟨m + 1, by omega, by go_num⟩
      case measure => simp [intOf] <;> omega
    · obtain rfl : m = E := by omega
      by_cases hms : i + m < t.size
      · have hD := HE.out hms
        have hl : (i : Int) + m < t.size := by omega
        have hc : ¬ (48 : Int) ≤ t[i + m].toNat ∨ ((48 : Int) ≤ t[i + m].toNat ∧ ¬ (t[i + m].toNat : Int) ≤ 57) := by
          by_cases h1 : (48 : Int) ≤ t[i + m].toNat
          · right
            refine ⟨h1, fun h2 => ?_⟩
            rw [isD_iff.2 ⟨h1, h2⟩] at hD
            cases hD
          · exact .inl h1
        clear hD HE HA
        rcases hc with g1 | ⟨g1, g2⟩
        all_goals
          go_wp2
          go_ret
          exact ⟨rfl, rfl⟩
      · have hl : ¬ (i : Int) + m < t.size := by omega
        clear HE HA
        go_wp2
        go_ret
        exact ⟨rfl, rfl⟩

def rl (l : List UInt8) (i : Nat) : Nat := (tk (l.drop i)).length
theorem rl_rlen (t : ByteArray) (i : Nat) : rlen t i = rl t.data.toList i := rfl
theorem rl_le {l : List UInt8} {i : Nat} (h : i ≤ l.length) : i + rl l i ≤ l.length := by
  have h1 : (tk (l.drop i)).length ≤ (l.drop i).length := by
    conv => rhs; rw [tk_dk (l.drop i)]
    rw [List.length_append]; omega
  rw [List.length_drop] at h1
  unfold rl
  omega
theorem dk_rl (l : List UInt8) (i : Nat) : dk (l.drop i) = l.drop (i + rl l i) := by
  rw [← dk_drop, List.drop_drop]
  rfl
def i0 (l : List UInt8) : Nat := if l.head? = some 45 then 1 else 0
def whI (l : List UInt8) (i : Nat) : Option Nat := if rl l i = 0 ∨ (1 < rl l i ∧ l[i]? = some 48) then none else some (i + rl l i)
def ptI (l : List UInt8) (i : Nat) : Option Nat := if l[i]? = some 46 then (if rl l (i + 1) = 0 then none else some (i + 1 + rl l (i + 1))) else some i
def skI (l : List UInt8) (j : Nat) : Nat := if l[j]? = some 43 ∨ l[j]? = some 45 then j + 1 else j
def pwI (l : List UInt8) (i : Nat) : Option Nat :=
  if l[i]? = some 101 ∨ l[i]? = some 69 then (if 1 ≤ rl l (skI l (i + 1)) ∧ rl l (skI l (i + 1)) ≤ 9 then some (skI l (i + 1) + rl l (skI l (i + 1))) else none) else some i
def jsI (l : List UInt8) : Nat :=
  match whI l (i0 l) with
  | none => 0
  | some i => if i = l.length then 1 else
    match ptI l i with
    | none => 0
    | some j => match pwI l j with
      | none => 0
      | some k => if k = l.length then 2 else 0
theorem i0_le (l : List UInt8) : i0 l ≤ l.length := by
  unfold i0
  split
  · rename_i h
    cases l with
    | nil => cases h
    | cons a t => simp
  · exact Nat.zero_le _
theorem at_lt {l : List UInt8} {i : Nat} {c : UInt8} (h : l[i]? = some c) : i < l.length := by
  rcases Nat.lt_or_ge i l.length with h1 | h1
  · exact h1
  · rw [List.getElem?_eq_none h1] at h; cases h
theorem whI_le {l : List UInt8} {i j : Nat} (h : i ≤ l.length) (hw : whI l i = some j) : j ≤ l.length := by
  unfold whI at hw
  split at hw
  · cases hw
  · cases hw
    exact rl_le h
theorem ptI_le {l : List UInt8} {i j : Nat} (h : i ≤ l.length) (hw : ptI l i = some j) : j ≤ l.length := by
  unfold ptI at hw
  by_cases h1 : l[i]? = some 46
  · rw [if_pos h1] at hw
    by_cases h2 : rl l (i + 1) = 0
    · rw [if_pos h2] at hw; cases hw
    · rw [if_neg h2] at hw
      cases hw
      exact rl_le (at_lt h1)
  · rw [if_neg h1] at hw
    cases hw
    exact h
theorem skI_le {l : List UInt8} {j : Nat} (h : j ≤ l.length) : skI l j ≤ l.length := by
  unfold skI
  split
  · rename_i hc
    rcases hc with hc | hc
    · exact at_lt hc
    · exact at_lt hc
  · exact h
theorem pwI_le {l : List UInt8} {i j : Nat} (h : i ≤ l.length) (hw : pwI l i = some j) : j ≤ l.length := by
  unfold pwI at hw
  by_cases h1 : l[i]? = some 101 ∨ l[i]? = some 69
  · rw [if_pos h1] at hw
    have hl : i + 1 ≤ l.length := by rcases h1 with e | e <;> exact at_lt e
    by_cases h2 : 1 ≤ rl l (skI l (i + 1)) ∧ rl l (skI l (i + 1)) ≤ 9
    · rw [if_pos h2] at hw
      cases hw
      exact rl_le (skI_le hl)
    · rw [if_neg h2] at hw; cases hw
  · rw [if_neg h1] at hw
    cases hw
    exact h
theorem skipM_drop (l : List UInt8) : skipM l = l.drop (i0 l) := by
  unfold skipM i0
  split
  · rw [List.drop_one]
  · rfl
theorem whP_drop (l : List UInt8) (i : Nat) : whP (l.drop i) = (whI l i).map l.drop := by
  unfold whP whI
  rw [List.head?_drop]
  show (if rl l i = 0 ∨ (1 < rl l i ∧ l[i]? = some 48) then none else some (dk (l.drop i))) = _
  rw [dk_rl]
  split <;> rfl
theorem ptP_drop (l : List UInt8) (i : Nat) : ptP (l.drop i) = (ptI l i).map l.drop := by
  unfold ptP ptI
  rw [List.head?_drop, List.tail_drop]
  show (if l[i]? = some 46 then (if rl l (i + 1) = 0 then none else some (dk (l.drop (i + 1)))) else some (l.drop i)) = _
  rw [dk_rl]
  split
  · split <;> rfl
  · rfl
theorem skipS_drop (l : List UInt8) (j : Nat) : skipS (l.drop j) = l.drop (skI l j) := by
  unfold skipS skI
  rw [List.head?_drop, List.tail_drop]
  split <;> rfl
theorem pwP_drop (l : List UInt8) (i : Nat) : pwP (l.drop i) = (pwI l i).map l.drop := by
  unfold pwP pwI
  rw [List.head?_drop, List.tail_drop, skipS_drop]
  show (if l[i]? = some 101 ∨ l[i]? = some 69 then (if 1 ≤ rl l (skI l (i + 1)) ∧ rl l (skI l (i + 1)) ≤ 9 then some (dk (l.drop (skI l (i + 1)))) else none) else some (l.drop i)) = _
  rw [dk_rl]
  split
  · split <;> rfl
  · rfl
theorem drop_nil {l : List UInt8} {i : Nat} (h : i ≤ l.length) : l.drop i = [] ↔ i = l.length := by
  rw [List.drop_eq_nil_iff]
  omega
theorem jsN_I (l : List UInt8) : jsN l = jsI l := by
  unfold jsN jsI
  rw [skipM_drop, whP_drop]
  cases hw : whI l (i0 l) with
  | none => rfl
  | some i =>
    have hi := whI_le (i0_le l) hw
    show (if l.drop i = [] then 1 else if (ptP (l.drop i)).bind pwP = some [] then 2 else 0) = _
    by_cases he : i = l.length
    · rw [if_pos ((drop_nil hi).2 he)]
      show 1 = if i = l.length then 1 else _
      rw [if_pos he]
    · rw [if_neg (fun e => he ((drop_nil hi).1 e))]
      show _ = if i = l.length then 1 else _
      rw [if_neg he, ptP_drop]
      cases hp : ptI l i with
      | none => rfl
      | some j =>
        have hj := ptI_le hi hp
        show (if pwP (l.drop j) = some [] then 2 else 0) = _
        rw [pwP_drop]
        show _ = (match pwI l j with | none => 0 | some k => if k = l.length then 2 else 0)
        cases hq : pwI l j with
        | none => rfl
        | some k =>
          have hk := pwI_le hj hq
          show (if some (l.drop k) = some [] then 2 else 0) = if k = l.length then 2 else 0
          by_cases h : k = l.length
          · rw [if_pos h, if_pos (congrArg some ((drop_nil hk).2 h))]
          · rw [if_neg h, if_neg (fun e => h ((drop_nil hk).1 (Option.some.inj e)))]
end Go.Proofs.Ytpffegkckejpiaa
