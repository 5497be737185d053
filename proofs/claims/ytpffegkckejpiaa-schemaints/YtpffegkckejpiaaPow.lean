/- JSON's exponents. -/
import Derived.Test.YtpffegkckejpiaaWhl
set_option linter.unusedVariables false
set_option linter.unusedSimpArgs false
set_option maxRecDepth 100000
namespace Go.Proofs.Ytpffegkckejpiaa
open Go.RowKit

theorem tail_ext (s : ByteArray) : s.extract 1 s.size = bl s.data.toList.tail := by
  rw [ext_bl, List.drop_one]
set_option maxHeartbeats 800000 in
theorem pow_no (s : ByteArray) (w : World) (h : s.data.toList.head? ≠ some 101 ∧ s.data.toList.head? ≠ some 69) :
    Calls Try.prog 48 #[.string s] w fun e w' => e = .returned (optV (some s.data.toList)) ∧ w' = w := by
  have HB : Hid (bl s.data.toList = s) := bl_of s
  by_cases h0 : s.size = 0
  · have he := empty_of h0
    clear h h0
    go_enter Try.func48, Try.ntmps48
    go_wp2
    go_ret2
    refine ⟨?_, rfl⟩
    show Ending.returned (.tuple #[.string s, _]) = .returned (.tuple #[.string (bl s.data.toList), _])
    rw [HB.out]
    rfl
  · have ht : 0 < s.size := by omega
    have he := nonempty_of ht
    have hl : (0 : Int) < s.size := by omega
    rw [head_of ht] at h
    have h1 : ¬ (s[0].toNat : Int) = 101 := fun e => h.1 (by congr 1; exact byte_eq (k := 101) (by decide) e)
    have h2 : ¬ (s[0].toNat : Int) = 69 := fun e => h.2 (by congr 1; exact byte_eq (k := 69) (by decide) e)
    have b1 : ((s[0].toNat : Int) != 101) = true := by simpa using h1
    have b2 : ((s[0].toNat : Int) != 69) = true := by simpa using h2
    clear h h0 h1 h2
    go_enter Try.func48, Try.ntmps48
    go_wp2
    go_ret2
    refine ⟨?_, rfl⟩
    show Ending.returned (.tuple #[.string s, _]) = .returned (.tuple #[.string (bl s.data.toList), _])
    rw [HB.out]
    rfl
set_option maxHeartbeats 4000000 in
theorem pow_e101 (s t : ByteArray) (w : World) (he : s.toList.isEmpty = false) (hl : (0 : Int) < s.size) (hl1 : (1 : Int) ≤ s.size) (hh : (s[0]'(by omega)).toNat = (101 : Int)) (htl : s.extract 1 s.size = t) (hus : t.size ≤ 100000) (het : t.toList.isEmpty = true) :
    Calls Try.prog 48 #[.string s] w fun e w' => e = .returned (optV (if 1 ≤ (tk t.data.toList).length ∧ (tk t.data.toList).length ≤ 9 then some (dk t.data.toList) else none)) ∧ w' = w := by
  have DG := fun w => digits_s t w hus
  have WI := fun w => within_s (dg t) 1 9 w
  have hle := dg_le t
  have HX : Hid _ := ext_dk t
  rw [show (tk t.data.toList).length = dg t from rfl]
  generalize dg t = n at DG WI hle HX ⊢
  have hnl : (n : Int) ≤ t.size := by omega
  by_cases hk : 1 ≤ n ∧ n ≤ 9
  · rw [if_pos hk]
    rw [show (decide ((1 : Int) ≤ n) && decide ((n : Int) ≤ 9)) = true from by rw [decide_eq_true (by omega), decide_eq_true (by omega)]; rfl] at WI
    go_enter Try.func48, Try.ntmps48
    go_wp2_with fail
    refine (DG _).mono ?_
    rintro e w1 ⟨rfl, rfl⟩
    go_wp2_with fail
    refine (WI _).mono ?_
    rintro e w1 ⟨rfl, rfl⟩
    go_wp2
    go_ret2
    refine ⟨?_, rfl⟩
    show Ending.returned (.tuple #[.string (t.extract n t.size), _]) = _
    rw [HX.out]
    rfl
  · rw [if_neg hk]
    rw [show (decide ((1 : Int) ≤ n) && decide ((n : Int) ≤ 9)) = false from by rw [← Bool.decide_and]; exact decide_eq_false (by omega)] at WI
    clear HX
    go_enter Try.func48, Try.ntmps48
    go_wp2_with fail
    refine (DG _).mono ?_
    rintro e w1 ⟨rfl, rfl⟩
    go_wp2_with fail
    refine (WI _).mono ?_
    rintro e w1 ⟨rfl, rfl⟩
    go_wp2
    go_ret2
    exact ⟨rfl, rfl⟩
set_option maxHeartbeats 4000000 in
theorem pow_s101_43 (s t : ByteArray) (w : World) (he : s.toList.isEmpty = false) (hl : (0 : Int) < s.size) (hl1 : (1 : Int) ≤ s.size) (hh : (s[0]'(by omega)).toNat = (101 : Int)) (htl : s.extract 1 s.size = t) (u : ByteArray) (hus : u.size ≤ 100000) (het : t.toList.isEmpty = false) (hlt : (0 : Int) < t.size) (hlt1 : (1 : Int) ≤ t.size) (hc : (t[0]'(by omega)).toNat = (43 : Int)) (htu : t.extract 1 t.size = u) :
    Calls Try.prog 48 #[.string s] w fun e w' => e = .returned (optV (if 1 ≤ (tk u.data.toList).length ∧ (tk u.data.toList).length ≤ 9 then some (dk u.data.toList) else none)) ∧ w' = w := by
  have DG := fun w => digits_s u w hus
  have WI := fun w => within_s (dg u) 1 9 w
  have hle := dg_le u
  have HX : Hid _ := ext_dk u
  rw [show (tk u.data.toList).length = dg u from rfl]
  generalize dg u = n at DG WI hle HX ⊢
  have hnl : (n : Int) ≤ u.size := by omega
  by_cases hk : 1 ≤ n ∧ n ≤ 9
  · rw [if_pos hk]
    rw [show (decide ((1 : Int) ≤ n) && decide ((n : Int) ≤ 9)) = true from by rw [decide_eq_true (by omega), decide_eq_true (by omega)]; rfl] at WI
    go_enter Try.func48, Try.ntmps48
    go_wp2_with fail
    refine (DG _).mono ?_
    rintro e w1 ⟨rfl, rfl⟩
    go_wp2_with fail
    refine (WI _).mono ?_
    rintro e w1 ⟨rfl, rfl⟩
    go_wp2
    go_ret2
    refine ⟨?_, rfl⟩
    show Ending.returned (.tuple #[.string (u.extract n u.size), _]) = _
    rw [HX.out]
    rfl
  · rw [if_neg hk]
    rw [show (decide ((1 : Int) ≤ n) && decide ((n : Int) ≤ 9)) = false from by rw [← Bool.decide_and]; exact decide_eq_false (by omega)] at WI
    clear HX
    go_enter Try.func48, Try.ntmps48
    go_wp2_with fail
    refine (DG _).mono ?_
    rintro e w1 ⟨rfl, rfl⟩
    go_wp2_with fail
    refine (WI _).mono ?_
    rintro e w1 ⟨rfl, rfl⟩
    go_wp2
    go_ret2
    exact ⟨rfl, rfl⟩
set_option maxHeartbeats 4000000 in
theorem pow_s101_45 (s t : ByteArray) (w : World) (he : s.toList.isEmpty = false) (hl : (0 : Int) < s.size) (hl1 : (1 : Int) ≤ s.size) (hh : (s[0]'(by omega)).toNat = (101 : Int)) (htl : s.extract 1 s.size = t) (u : ByteArray) (hus : u.size ≤ 100000) (het : t.toList.isEmpty = false) (hlt : (0 : Int) < t.size) (hlt1 : (1 : Int) ≤ t.size) (hc : (t[0]'(by omega)).toNat = (45 : Int)) (htu : t.extract 1 t.size = u) :
    Calls Try.prog 48 #[.string s] w fun e w' => e = .returned (optV (if 1 ≤ (tk u.data.toList).length ∧ (tk u.data.toList).length ≤ 9 then some (dk u.data.toList) else none)) ∧ w' = w := by
  have DG := fun w => digits_s u w hus
  have WI := fun w => within_s (dg u) 1 9 w
  have hle := dg_le u
  have HX : Hid _ := ext_dk u
  rw [show (tk u.data.toList).length = dg u from rfl]
  generalize dg u = n at DG WI hle HX ⊢
  have hnl : (n : Int) ≤ u.size := by omega
  by_cases hk : 1 ≤ n ∧ n ≤ 9
  · rw [if_pos hk]
    rw [show (decide ((1 : Int) ≤ n) && decide ((n : Int) ≤ 9)) = true from by rw [decide_eq_true (by omega), decide_eq_true (by omega)]; rfl] at WI
    go_enter Try.func48, Try.ntmps48
    go_wp2_with fail
    refine (DG _).mono ?_
    rintro e w1 ⟨rfl, rfl⟩
    go_wp2_with fail
    refine (WI _).mono ?_
    rintro e w1 ⟨rfl, rfl⟩
    go_wp2
    go_ret2
    refine ⟨?_, rfl⟩
    show Ending.returned (.tuple #[.string (u.extract n u.size), _]) = _
    rw [HX.out]
    rfl
  · rw [if_neg hk]
    rw [show (decide ((1 : Int) ≤ n) && decide ((n : Int) ≤ 9)) = false from by rw [← Bool.decide_and]; exact decide_eq_false (by omega)] at WI
    clear HX
    go_enter Try.func48, Try.ntmps48
    go_wp2_with fail
    refine (DG _).mono ?_
    rintro e w1 ⟨rfl, rfl⟩
    go_wp2_with fail
    refine (WI _).mono ?_
    rintro e w1 ⟨rfl, rfl⟩
    go_wp2
    go_ret2
    exact ⟨rfl, rfl⟩
set_option maxHeartbeats 4000000 in
theorem pow_n101 (s t : ByteArray) (w : World) (he : s.toList.isEmpty = false) (hl : (0 : Int) < s.size) (hl1 : (1 : Int) ≤ s.size) (hh : (s[0]'(by omega)).toNat = (101 : Int)) (htl : s.extract 1 s.size = t) (hus : t.size ≤ 100000) (het : t.toList.isEmpty = false) (hlt : (0 : Int) < t.size) (hlt1 : (1 : Int) ≤ t.size) (b1 : (((t[0]'(by omega)).toNat : Int) == 43) = false) (b2 : (((t[0]'(by omega)).toNat : Int) == 45) = false) :
    Calls Try.prog 48 #[.string s] w fun e w' => e = .returned (optV (if 1 ≤ (tk t.data.toList).length ∧ (tk t.data.toList).length ≤ 9 then some (dk t.data.toList) else none)) ∧ w' = w := by
  have DG := fun w => digits_s t w hus
  have WI := fun w => within_s (dg t) 1 9 w
  have hle := dg_le t
  have HX : Hid _ := ext_dk t
  rw [show (tk t.data.toList).length = dg t from rfl]
  generalize dg t = n at DG WI hle HX ⊢
  have hnl : (n : Int) ≤ t.size := by omega
  by_cases hk : 1 ≤ n ∧ n ≤ 9
  · rw [if_pos hk]
    rw [show (decide ((1 : Int) ≤ n) && decide ((n : Int) ≤ 9)) = true from by rw [decide_eq_true (by omega), decide_eq_true (by omega)]; rfl] at WI
    go_enter Try.func48, Try.ntmps48
    go_wp2_with fail
    refine (DG _).mono ?_
    rintro e w1 ⟨rfl, rfl⟩
    go_wp2_with fail
    refine (WI _).mono ?_
    rintro e w1 ⟨rfl, rfl⟩
    go_wp2
    go_ret2
    refine ⟨?_, rfl⟩
    show Ending.returned (.tuple #[.string (t.extract n t.size), _]) = _
    rw [HX.out]
    rfl
  · rw [if_neg hk]
    rw [show (decide ((1 : Int) ≤ n) && decide ((n : Int) ≤ 9)) = false from by rw [← Bool.decide_and]; exact decide_eq_false (by omega)] at WI
    clear HX
    go_enter Try.func48, Try.ntmps48
    go_wp2_with fail
    refine (DG _).mono ?_
    rintro e w1 ⟨rfl, rfl⟩
    go_wp2_with fail
    refine (WI _).mono ?_
    rintro e w1 ⟨rfl, rfl⟩
    go_wp2
    go_ret2
    exact ⟨rfl, rfl⟩
set_option maxHeartbeats 4000000 in
theorem pow_e69 (s t : ByteArray) (w : World) (he : s.toList.isEmpty = false) (hl : (0 : Int) < s.size) (hl1 : (1 : Int) ≤ s.size) (hh : (s[0]'(by omega)).toNat = (69 : Int)) (htl : s.extract 1 s.size = t) (hus : t.size ≤ 100000) (het : t.toList.isEmpty = true) :
    Calls Try.prog 48 #[.string s] w fun e w' => e = .returned (optV (if 1 ≤ (tk t.data.toList).length ∧ (tk t.data.toList).length ≤ 9 then some (dk t.data.toList) else none)) ∧ w' = w := by
  have DG := fun w => digits_s t w hus
  have WI := fun w => within_s (dg t) 1 9 w
  have hle := dg_le t
  have HX : Hid _ := ext_dk t
  rw [show (tk t.data.toList).length = dg t from rfl]
  generalize dg t = n at DG WI hle HX ⊢
  have hnl : (n : Int) ≤ t.size := by omega
  by_cases hk : 1 ≤ n ∧ n ≤ 9
  · rw [if_pos hk]
    rw [show (decide ((1 : Int) ≤ n) && decide ((n : Int) ≤ 9)) = true from by rw [decide_eq_true (by omega), decide_eq_true (by omega)]; rfl] at WI
    go_enter Try.func48, Try.ntmps48
    go_wp2_with fail
    refine (DG _).mono ?_
    rintro e w1 ⟨rfl, rfl⟩
    go_wp2_with fail
    refine (WI _).mono ?_
    rintro e w1 ⟨rfl, rfl⟩
    go_wp2
    go_ret2
    refine ⟨?_, rfl⟩
    show Ending.returned (.tuple #[.string (t.extract n t.size), _]) = _
    rw [HX.out]
    rfl
  · rw [if_neg hk]
    rw [show (decide ((1 : Int) ≤ n) && decide ((n : Int) ≤ 9)) = false from by rw [← Bool.decide_and]; exact decide_eq_false (by omega)] at WI
    clear HX
    go_enter Try.func48, Try.ntmps48
    go_wp2_with fail
    refine (DG _).mono ?_
    rintro e w1 ⟨rfl, rfl⟩
    go_wp2_with fail
    refine (WI _).mono ?_
    rintro e w1 ⟨rfl, rfl⟩
    go_wp2
    go_ret2
    exact ⟨rfl, rfl⟩
set_option maxHeartbeats 4000000 in
theorem pow_s69_43 (s t : ByteArray) (w : World) (he : s.toList.isEmpty = false) (hl : (0 : Int) < s.size) (hl1 : (1 : Int) ≤ s.size) (hh : (s[0]'(by omega)).toNat = (69 : Int)) (htl : s.extract 1 s.size = t) (u : ByteArray) (hus : u.size ≤ 100000) (het : t.toList.isEmpty = false) (hlt : (0 : Int) < t.size) (hlt1 : (1 : Int) ≤ t.size) (hc : (t[0]'(by omega)).toNat = (43 : Int)) (htu : t.extract 1 t.size = u) :
    Calls Try.prog 48 #[.string s] w fun e w' => e = .returned (optV (if 1 ≤ (tk u.data.toList).length ∧ (tk u.data.toList).length ≤ 9 then some (dk u.data.toList) else none)) ∧ w' = w := by
  have DG := fun w => digits_s u w hus
  have WI := fun w => within_s (dg u) 1 9 w
  have hle := dg_le u
  have HX : Hid _ := ext_dk u
  rw [show (tk u.data.toList).length = dg u from rfl]
  generalize dg u = n at DG WI hle HX ⊢
  have hnl : (n : Int) ≤ u.size := by omega
  by_cases hk : 1 ≤ n ∧ n ≤ 9
  · rw [if_pos hk]
    rw [show (decide ((1 : Int) ≤ n) && decide ((n : Int) ≤ 9)) = true from by rw [decide_eq_true (by omega), decide_eq_true (by omega)]; rfl] at WI
    go_enter Try.func48, Try.ntmps48
    go_wp2_with fail
    refine (DG _).mono ?_
    rintro e w1 ⟨rfl, rfl⟩
    go_wp2_with fail
    refine (WI _).mono ?_
    rintro e w1 ⟨rfl, rfl⟩
    go_wp2
    go_ret2
    refine ⟨?_, rfl⟩
    show Ending.returned (.tuple #[.string (u.extract n u.size), _]) = _
    rw [HX.out]
    rfl
  · rw [if_neg hk]
    rw [show (decide ((1 : Int) ≤ n) && decide ((n : Int) ≤ 9)) = false from by rw [← Bool.decide_and]; exact decide_eq_false (by omega)] at WI
    clear HX
    go_enter Try.func48, Try.ntmps48
    go_wp2_with fail
    refine (DG _).mono ?_
    rintro e w1 ⟨rfl, rfl⟩
    go_wp2_with fail
    refine (WI _).mono ?_
    rintro e w1 ⟨rfl, rfl⟩
    go_wp2
    go_ret2
    exact ⟨rfl, rfl⟩
set_option maxHeartbeats 4000000 in
theorem pow_s69_45 (s t : ByteArray) (w : World) (he : s.toList.isEmpty = false) (hl : (0 : Int) < s.size) (hl1 : (1 : Int) ≤ s.size) (hh : (s[0]'(by omega)).toNat = (69 : Int)) (htl : s.extract 1 s.size = t) (u : ByteArray) (hus : u.size ≤ 100000) (het : t.toList.isEmpty = false) (hlt : (0 : Int) < t.size) (hlt1 : (1 : Int) ≤ t.size) (hc : (t[0]'(by omega)).toNat = (45 : Int)) (htu : t.extract 1 t.size = u) :
    Calls Try.prog 48 #[.string s] w fun e w' => e = .returned (optV (if 1 ≤ (tk u.data.toList).length ∧ (tk u.data.toList).length ≤ 9 then some (dk u.data.toList) else none)) ∧ w' = w := by
  have DG := fun w => digits_s u w hus
  have WI := fun w => within_s (dg u) 1 9 w
  have hle := dg_le u
  have HX : Hid _ := ext_dk u
  rw [show (tk u.data.toList).length = dg u from rfl]
  generalize dg u = n at DG WI hle HX ⊢
  have hnl : (n : Int) ≤ u.size := by omega
  by_cases hk : 1 ≤ n ∧ n ≤ 9
  · rw [if_pos hk]
    rw [show (decide ((1 : Int) ≤ n) && decide ((n : Int) ≤ 9)) = true from by rw [decide_eq_true (by omega), decide_eq_true (by omega)]; rfl] at WI
    go_enter Try.func48, Try.ntmps48
    go_wp2_with fail
    refine (DG _).mono ?_
    rintro e w1 ⟨rfl, rfl⟩
    go_wp2_with fail
    refine (WI _).mono ?_
    rintro e w1 ⟨rfl, rfl⟩
    go_wp2
    go_ret2
    refine ⟨?_, rfl⟩
    show Ending.returned (.tuple #[.string (u.extract n u.size), _]) = _
    rw [HX.out]
    rfl
  · rw [if_neg hk]
    rw [show (decide ((1 : Int) ≤ n) && decide ((n : Int) ≤ 9)) = false from by rw [← Bool.decide_and]; exact decide_eq_false (by omega)] at WI
    clear HX
    go_enter Try.func48, Try.ntmps48
    go_wp2_with fail
    refine (DG _).mono ?_
    rintro e w1 ⟨rfl, rfl⟩
    go_wp2_with fail
    refine (WI _).mono ?_
    rintro e w1 ⟨rfl, rfl⟩
    go_wp2
    go_ret2
    exact ⟨rfl, rfl⟩
set_option maxHeartbeats 4000000 in
theorem pow_n69 (s t : ByteArray) (w : World) (he : s.toList.isEmpty = false) (hl : (0 : Int) < s.size) (hl1 : (1 : Int) ≤ s.size) (hh : (s[0]'(by omega)).toNat = (69 : Int)) (htl : s.extract 1 s.size = t) (hus : t.size ≤ 100000) (het : t.toList.isEmpty = false) (hlt : (0 : Int) < t.size) (hlt1 : (1 : Int) ≤ t.size) (b1 : (((t[0]'(by omega)).toNat : Int) == 43) = false) (b2 : (((t[0]'(by omega)).toNat : Int) == 45) = false) :
    Calls Try.prog 48 #[.string s] w fun e w' => e = .returned (optV (if 1 ≤ (tk t.data.toList).length ∧ (tk t.data.toList).length ≤ 9 then some (dk t.data.toList) else none)) ∧ w' = w := by
  have DG := fun w => digits_s t w hus
  have WI := fun w => within_s (dg t) 1 9 w
  have hle := dg_le t
  have HX : Hid _ := ext_dk t
  rw [show (tk t.data.toList).length = dg t from rfl]
  generalize dg t = n at DG WI hle HX ⊢
  have hnl : (n : Int) ≤ t.size := by omega
  by_cases hk : 1 ≤ n ∧ n ≤ 9
  · rw [if_pos hk]
    rw [show (decide ((1 : Int) ≤ n) && decide ((n : Int) ≤ 9)) = true from by rw [decide_eq_true (by omega), decide_eq_true (by omega)]; rfl] at WI
    go_enter Try.func48, Try.ntmps48
    go_wp2_with fail
    refine (DG _).mono ?_
    rintro e w1 ⟨rfl, rfl⟩
    go_wp2_with fail
    refine (WI _).mono ?_
    rintro e w1 ⟨rfl, rfl⟩
    go_wp2
    go_ret2
    refine ⟨?_, rfl⟩
    show Ending.returned (.tuple #[.string (t.extract n t.size), _]) = _
    rw [HX.out]
    rfl
  · rw [if_neg hk]
    rw [show (decide ((1 : Int) ≤ n) && decide ((n : Int) ≤ 9)) = false from by rw [← Bool.decide_and]; exact decide_eq_false (by omega)] at WI
    clear HX
    go_enter Try.func48, Try.ntmps48
    go_wp2_with fail
    refine (DG _).mono ?_
    rintro e w1 ⟨rfl, rfl⟩
    go_wp2_with fail
    refine (WI _).mono ?_
    rintro e w1 ⟨rfl, rfl⟩
    go_wp2
    go_ret2
    exact ⟨rfl, rfl⟩
theorem pow_yes (s : ByteArray) (w : World) (hs : s.size ≤ 100000) (h : s.data.toList.head? = some 101 ∨ s.data.toList.head? = some 69) :
    Calls Try.prog 48 #[.string s] w fun e w' => e = .returned (optV (pwP s.data.toList)) ∧ w' = w := by
  have ht : 0 < s.size := by
    rcases Nat.eq_zero_or_pos s.size with e | e
    · rw [← size_list] at e
      rw [List.eq_nil_of_length_eq_zero e] at h
      rcases h with h | h <;> cases h
    · exact e
  have he := nonempty_of ht
  have hl : (0 : Int) < s.size := by omega
  have hl1 : (1 : Int) ≤ s.size := by omega
  have hh : (s[0].toNat : Int) = 101 ∨ (s[0].toNat : Int) = 69 := by
    rw [head_of ht] at h
    rcases h with e | e
    · left; rw [Option.some.inj e]; rfl
    · right; rw [Option.some.inj e]; rfl
  rw [show pwP s.data.toList = if 1 ≤ (tk (skipS s.data.toList.tail)).length ∧ (tk (skipS s.data.toList.tail)).length ≤ 9 then some (dk (skipS s.data.toList.tail)) else none from if_pos h]
  clear h
  have htl := tail_ext s
  have hts : (bl s.data.toList.tail).size ≤ 100000 := by rw [bl_size, List.length_tail, size_list]; omega
  rw [show skipS s.data.toList.tail = skipS (bl s.data.toList.tail).data.toList from rfl]
  generalize bl s.data.toList.tail = t at htl hts ⊢
  by_cases h0 : t.size = 0
  · have het := empty_of h0
    rw [show skipS t.data.toList = t.data.toList from by rw [List.eq_nil_of_length_eq_zero (show t.data.toList.length = 0 by rw [size_list]; exact h0)]; rfl]
    rcases hh with hh | hh
    · exact pow_e101 s t w he hl hl1 hh htl hts het
    · exact pow_e69 s t w he hl hl1 hh htl hts het
  · have htt : 0 < t.size := by omega
    have het := nonempty_of htt
    have hlt : (0 : Int) < t.size := by omega
    have hlt1 : (1 : Int) ≤ t.size := by omega
    by_cases hc : (t[0].toNat : Int) = 43 ∨ (t[0].toNat : Int) = 45
    · have hk : t.data.toList.head? = some 43 ∨ t.data.toList.head? = some 45 := by
        rw [head_of htt]
        rcases hc with e | e
        · left; congr 1; exact byte_eq (k := 43) (by decide) e
        · right; congr 1; exact byte_eq (k := 45) (by decide) e
      rw [show skipS t.data.toList = (bl t.data.toList.tail).data.toList from if_pos hk]
      have htu := tail_ext t
      have hus : (bl t.data.toList.tail).size ≤ 100000 := by rw [bl_size, List.length_tail, size_list]; omega
      rcases hc with hc | hc
      · rcases hh with hh | hh
        · exact pow_s101_43 s t w he hl hl1 hh htl _ hus het hlt hlt1 hc htu
        · exact pow_s69_43 s t w he hl hl1 hh htl _ hus het hlt hlt1 hc htu
      · rcases hh with hh | hh
        · exact pow_s101_45 s t w he hl hl1 hh htl _ hus het hlt hlt1 hc htu
        · exact pow_s69_45 s t w he hl hl1 hh htl _ hus het hlt hlt1 hc htu
    · have hc1 : ¬ (t[0].toNat : Int) = 43 := fun e => hc (.inl e)
      have hc2 : ¬ (t[0].toNat : Int) = 45 := fun e => hc (.inr e)
      rw [show skipS t.data.toList = t.data.toList from if_neg (by
        rw [head_of htt]
        rintro (e | e)
        · apply hc1; rw [Option.some.inj e]; rfl
        · apply hc2; rw [Option.some.inj e]; rfl)]
      rcases hh with hh | hh
      · exact pow_n101 s t w he hl hl1 hh htl hts het hlt hlt1 (by simpa using hc1) (by simpa using hc2)
      · exact pow_n69 s t w he hl hl1 hh htl hts het hlt hlt1 (by simpa using hc1) (by simpa using hc2)
theorem pow_any (s : ByteArray) (w : World) (hs : s.size ≤ 100000) :
    Calls Try.prog 48 #[.string s] w fun e w' => e = .returned (optV (pwP s.data.toList)) ∧ w' = w := by
  by_cases h : s.data.toList.head? = some 101 ∨ s.data.toList.head? = some 69
  · exact pow_yes s w hs h
  · rw [show pwP s.data.toList = some s.data.toList from if_neg h]
    exact pow_no s w ⟨fun e => h (.inl e), fun e => h (.inr e)⟩
end Go.Proofs.Ytpffegkckejpiaa
