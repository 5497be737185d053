/- The document's point: UTF-8 read code point by code point (ported from the first stage). -/
import Derived.Test.YtjfeamfchgcblaaDoorByt
set_option linter.unusedVariables false
set_option linter.unusedSimpArgs false
namespace Go.Proofs.YtjfeamfchgcblaaDoor
open Go.RowKit Go.Shelf

def bt (l : List UInt8) (j : Nat) : Nat := (l[j]?.getD 0).toNat
theorem bt_lt (l : List UInt8) (j : Nat) : bt l j < 256 := (l[j]?.getD 0).toNat_lt
theorem and31 (a : Nat) (h : a < 256) : bits .and .i64 (a : Int) 31 = ((a % 32 : Nat) : Int) := by
  have := i64_and_nat a 31 (by omega) (by omega)
  rw [show a &&& 31 = a % 32 from Nat.and_two_pow_sub_one_eq_mod a 5] at this
  exact this
theorem and15 (a : Nat) (h : a < 256) : bits .and .i64 (a : Int) 15 = ((a % 16 : Nat) : Int) := by
  have := i64_and_nat a 15 (by omega) (by omega)
  rw [show a &&& 15 = a % 16 from Nat.and_two_pow_sub_one_eq_mod a 4] at this
  exact this
theorem and7 (a : Nat) (h : a < 256) : bits .and .i64 (a : Int) 7 = ((a % 8 : Nat) : Int) := by
  have := i64_and_nat a 7 (by omega) (by omega)
  rw [show a &&& 7 = a % 8 from Nat.and_two_pow_sub_one_eq_mod a 3] at this
  exact this
theorem and63 (a : Nat) (h : a < 256) : bits .and .i64 (a : Int) 63 = ((a % 64 : Nat) : Int) := by
  have := i64_and_nat a 63 (by omega) (by omega)
  rw [show a &&& 63 = a % 64 from Nat.and_two_pow_sub_one_eq_mod a 6] at this
  exact this

/-- The number behind k bytes more. -/
def acc (c0 : Nat) (l : List UInt8) : Nat → Nat
  | 0 => c0
  | k + 1 => acc c0 l k * 64 + bt l (k + 1) % 64
theorem acc_lt (c0 : Nat) (l : List UInt8) (h : c0 < 32) : ∀ k, k ≤ 3 → acc c0 l k < 8388608
  | 0, _ => by simp [acc]; omega
  | 1, _ => by simp [acc]; omega
  | 2, _ => by simp [acc]; omega
  | 3, _ => by simp [acc]; omega
  | k + 4, h => by omega
def cont (l : List UInt8) (k : Nat) : Bool := (List.range k).all fun j => decide (128 ≤ bt l (j + 1)) && decide (bt l (j + 1) ≤ 191)
theorem cont_succ (l : List UInt8) (k : Nat) : cont l (k + 1) = (cont l k && (decide (128 ≤ bt l (k + 1)) && decide (bt l (k + 1) ≤ 191))) := by
  unfold cont; simp [List.range_succ]

/-- A code point of n bytes, by the document. -/
def multi (n least c0 : Nat) (l : List UInt8) : Int × Int :=
  if l.length < n then (0, 0) else if cont l (n - 1) = false then (0, 0)
  else if acc c0 l (n - 1) < least ∨ okP (acc c0 l (n - 1)) = false then (0, 0) else (acc c0 l (n - 1), n)
def pointP (l : List UInt8) : Int × Int :=
  if bt l 0 < 128 then (bt l 0, 1) else if bt l 0 < 194 then (0, 0) else if bt l 0 < 224 then multi 2 128 (bt l 0 % 32) l
  else if bt l 0 < 240 then multi 3 2048 (bt l 0 % 16) l else if bt l 0 < 245 then multi 4 65536 (bt l 0 % 8) l else (0, 0)

theorem okP_false (c : Nat) : okP c = false ↔ 1114111 < c ∨ (55296 ≤ c ∧ c ≤ 57343) := by
  unfold okP
  simp
  omega

theorem cont_false (l : List UInt8) (k n : Nat) (hk : k ≤ n) (h : cont l k = false) : cont l n = false := by
  induction n with
  | zero => obtain rfl : k = 0 := by omega
            exact h
  | succ n ih =>
    by_cases e : k = n + 1
    · rw [← e]; exact h
    · rw [cont_succ, ih (by omega)]; rfl

set_option maxRecDepth 100000 in
set_option maxHeartbeats 1000000 in
theorem point_a (b o n cap : Nat) (x0 : Int) (w : World) (hn : 0 < n) (h0 : w.cell? ⟨b, o, none⟩ = some (.int .u8 x0)) (h : 0 ≤ x0) (h' : x0 < 128) :
    Calls Tryd.prog 48 #[.slice (some ⟨b, o, none⟩) n cap] w fun e w' => e = .returned (.tuple #[.int .i64 x0, .int .i64 1]) ∧ w' = w := by
  go_enter Tryd.func48, Tryd.ntmps48
  go_wp2
  go_ret2
  exact ⟨rfl, rfl⟩

set_option maxRecDepth 100000 in
set_option maxHeartbeats 1000000 in
theorem point_b (b o n cap : Nat) (x0 : Int) (w : World) (hn : 0 < n) (h0 : w.cell? ⟨b, o, none⟩ = some (.int .u8 x0)) (h : 128 ≤ x0) (h' : x0 < 194 ∨ 245 ≤ x0) (h2 : x0 < 256) :
    Calls Tryd.prog 48 #[.slice (some ⟨b, o, none⟩) n cap] w fun e w' => e = .returned (.tuple #[.int .i64 0, .int .i64 0]) ∧ w' = w := by
  rcases h' with h' | h'
  · go_enter Tryd.func48, Tryd.ntmps48
    go_wp2
    all_goals
      go_ret2
      exact ⟨rfl, rfl⟩
  · go_enter Tryd.func48, Tryd.ntmps48
    go_wp2
    all_goals
      go_ret2
      exact ⟨rfl, rfl⟩

set_option maxRecDepth 100000 in
set_option maxHeartbeats 1000000 in
theorem point_c_short (b o n cap : Nat) (x0 : Nat) (w : World) (hn : 0 < n) (h0 : w.cell? ⟨b, o, none⟩ = some (.int .u8 x0)) (h : 194 ≤ (x0 : Int)) (h' : (x0 : Int) < 224) (hs : (n : Int) < 2) :
    Calls Tryd.prog 48 #[.slice (some ⟨b, o, none⟩) n cap] w fun e w' => e = .returned (.tuple #[.int .i64 0, .int .i64 0]) ∧ w' = w := by
  go_enter Tryd.func48, Tryd.ntmps48
  go_wp2
  go_ret2
  exact ⟨rfl, rfl⟩

set_option maxRecDepth 100000 in
set_option maxHeartbeats 1000000 in
theorem point_c (b o cap : Nat) (l : List UInt8) (w : World) (hl : (l.length : Int) ≤ 1048576) (hs : (2 : Int) ≤ l.length) (hc : ∀ j, j < l.length → w.cell? ⟨b, o + j, none⟩ = some (.int .u8 (bt l j))) (h : 194 ≤ (bt l 0 : Int)) (h' : (bt l 0 : Int) < 224) :
    Calls Tryd.prog 48 #[.slice (some ⟨b, o, none⟩) l.length cap] w fun e w' => e = .returned (.tuple #[.int .i64 (multi 2 128 (bt l 0 % 32) l).1, .int .i64 (multi 2 128 (bt l 0 % 32) l).2]) ∧ w' = w := by
  obtain ⟨r, hR⟩ : ∃ r, multi 2 128 (bt l 0 % 32) l = r := ⟨_, rfl⟩
  rw [hR]
  unfold multi at hR
  rw [if_neg (by omega)] at hR
  have HR : Hid (_ = r) := hR
  have h0 : w.cell? ⟨b, o, none⟩ = some (.int .u8 (bt l 0)) := hc 0 (by omega)
  have hm := and31 (bt l 0) (bt_lt l 0)
  have ha : ∀ k, k ≤ 1 → acc (bt l 0 % 32) l k < 8388608 := fun k hk => acc_lt _ l (by omega) k (by omega)
  have HC : Hid (∀ j, j < l.length → w.cell? ⟨b, o + j, none⟩ = some (.int .u8 (bt l j))) := hc
  have HA : Hid (∀ k, k ≤ 1 → acc (bt l 0 % 32) l k < 8388608) := ha
  have HX : Hid (acc (bt l 0 % 32) l 0 = bt l 0 % 32) := rfl
  clear hR hc ha
  generalize bt l 0 = x0 at h0 h h' hm HR HA HX
  generalize x0 % 32 = c0 at hm HR HA HX
  go_enter Tryd.func48, Tryd.ntmps48
  go_wp2
  go_loop [7, 8] (fun c i => ∃ k : Nat, k + 1 ≤ 2 ∧ i = .int .i64 ((k : Int) + 1) ∧ c = .int .i64 (acc c0 l k) ∧ Hid (cont l k = true)) (fun _ i => 2 - (intOf i).toNat)
  case atStart => exact ⟨0, by omega, rfl, rfl, rfl⟩
  case round =>
    obtain ⟨k, hk, rfl, rfl, HK⟩ := hrel
    have hak := HA.out k (by omega)
    obtain ⟨A, hA⟩ : ∃ A : Int, (acc c0 l k : Int) = A := ⟨_, rfl⟩
    have hA0 : 0 ≤ A := by omega
    have hA1 : A < 8388608 := by omega
    have HAK : Hid ((acc c0 l k : Int) = A) := hA
    rw [hA]
    clear hA hak
    by_cases hlt : k + 1 < 2
    · have hlt' : (k : Int) + 1 < 2 := by omega
      have ck : w.cell? ⟨b, o + (k + 1), none⟩ = some (.int .u8 (bt l (k + 1))) := HC.out (k + 1) (by omega)
      obtain ⟨y, hy⟩ : ∃ y : Int, (bt l (k + 1) : Int) = y := ⟨_, rfl⟩
      have hb := bt_lt l (k + 1)
      have hy0 : 0 ≤ y := by omega
      have hy1 : y < 256 := by omega
      have hm6 := and63 (bt l (k + 1)) hb
      have HY : Hid ((bt l (k + 1) : Int) = y) := hy
      have hsuc := cont_succ l k
      rw [HK.out, Bool.true_and] at hsuc
      have HS : Hid (cont l (k + 1) = (decide (128 ≤ bt l (k + 1)) && decide (bt l (k + 1) ≤ 191))) := hsuc
      rw [hy] at ck hm6
      clear hy hb hsuc
      by_cases hy2 : 128 ≤ y ∧ y ≤ 191
      · obtain ⟨y2, y3⟩ := hy2
        have hmod : ((bt l (k + 1) % 64 : Nat) : Int) = y - 128 := by have := HY.out; omega
        rw [hmod] at hm6
        clear hmod
        go_wp2
        go_round
        case rel => exact ⟨k + 1, by omega, by go_num, congrArg _ (by have h1 := HAK.out; have h2 := HY.out; show A * 64 + (y - 128) = ((acc c0 l k * 64 + bt l (k + 1) % 64 : Nat) : Int); omega), (HS.out.trans (by have := HY.out; simp; omega) : cont l (k + 1) = true)⟩
        case measure => simp [intOf]; omega
      · have hcf : cont l (k + 1) = false := HS.out.trans (by have := HY.out; simp; omega)
        have hr : r = (0, 0) := by
          have h1 := HR.out
          rw [if_pos (cont_false l (k + 1) 1 (by omega) hcf)] at h1
          exact h1.symm
        subst hr
        clear hm6
        by_cases hy3 : y < 128
        · go_wp2
          go_ret2
          exact ⟨rfl, rfl⟩
        · have hy4 : 191 < y := by omega
          clear hy2
          go_wp2
          go_ret2
          exact ⟨rfl, rfl⟩
    · obtain rfl : k = 1 := by omega
      have hr := HR.out
      rw [if_neg (by rw [HK.out]; simp), show acc c0 l (2 - 1) = acc c0 l 1 from rfl] at hr
      have HR2 : Hid (_ = r) := hr
      by_cases hle : A < 128
      · have hr2 : r = (0, 0) := by
          have h1 := HR2.out
          rw [if_pos (.inl (by have := HAK.out; omega))] at h1
          exact h1.symm
        subst hr2
        clear hr hm
        go_wp2_with (go_at_call 51; refine (right_any _ _).mono ?_; rintro e w' ⟨rfl, rfl⟩)
        go_ret2
        exact ⟨rfl, rfl⟩
      · by_cases hok : okP A = false
        · have hr2 : r = (0, 0) := by
            have h1 := HR2.out
            rw [if_pos (.inr (by rw [HAK.out]; exact hok))] at h1
            exact h1.symm
          subst hr2
          clear hr hm
          go_wp2_with (go_at_call 51; refine (right_any _ _).mono ?_; rintro e w' ⟨rfl, rfl⟩)
          go_ret2
          exact ⟨rfl, rfl⟩
        · have hr2 : r = (A, 2) := by
            have h1 := HR2.out
            rw [if_neg (by rw [HAK.out]; rintro (h | h); have := HAK.out; omega; exact hok h), HAK.out] at h1
            exact h1.symm
          subst hr2
          have hok' : okP A = true := by simpa using hok
          clear hr hm hok
          go_wp2_with (go_at_call 51; refine (right_any _ _).mono ?_; rintro e w' ⟨rfl, rfl⟩)
          go_ret2
          exact ⟨rfl, rfl⟩

set_option maxRecDepth 100000 in
set_option maxHeartbeats 1000000 in
theorem point_d_short (b o n cap : Nat) (x0 : Nat) (w : World) (hn : 0 < n) (h0 : w.cell? ⟨b, o, none⟩ = some (.int .u8 x0)) (h : 224 ≤ (x0 : Int)) (h' : (x0 : Int) < 240) (hs : (n : Int) < 3) :
    Calls Tryd.prog 48 #[.slice (some ⟨b, o, none⟩) n cap] w fun e w' => e = .returned (.tuple #[.int .i64 0, .int .i64 0]) ∧ w' = w := by
  go_enter Tryd.func48, Tryd.ntmps48
  go_wp2
  go_ret2
  exact ⟨rfl, rfl⟩

set_option maxRecDepth 100000 in
set_option maxHeartbeats 1000000 in
theorem point_d (b o cap : Nat) (l : List UInt8) (w : World) (hl : (l.length : Int) ≤ 1048576) (hs : (3 : Int) ≤ l.length) (hc : ∀ j, j < l.length → w.cell? ⟨b, o + j, none⟩ = some (.int .u8 (bt l j))) (h : 224 ≤ (bt l 0 : Int)) (h' : (bt l 0 : Int) < 240) :
    Calls Tryd.prog 48 #[.slice (some ⟨b, o, none⟩) l.length cap] w fun e w' => e = .returned (.tuple #[.int .i64 (multi 3 2048 (bt l 0 % 16) l).1, .int .i64 (multi 3 2048 (bt l 0 % 16) l).2]) ∧ w' = w := by
  obtain ⟨r, hR⟩ : ∃ r, multi 3 2048 (bt l 0 % 16) l = r := ⟨_, rfl⟩
  rw [hR]
  unfold multi at hR
  rw [if_neg (by omega)] at hR
  have HR : Hid (_ = r) := hR
  have h0 : w.cell? ⟨b, o, none⟩ = some (.int .u8 (bt l 0)) := hc 0 (by omega)
  have hm := and15 (bt l 0) (bt_lt l 0)
  have ha : ∀ k, k ≤ 2 → acc (bt l 0 % 16) l k < 8388608 := fun k hk => acc_lt _ l (by omega) k (by omega)
  have HC : Hid (∀ j, j < l.length → w.cell? ⟨b, o + j, none⟩ = some (.int .u8 (bt l j))) := hc
  have HA : Hid (∀ k, k ≤ 2 → acc (bt l 0 % 16) l k < 8388608) := ha
  have HX : Hid (acc (bt l 0 % 16) l 0 = bt l 0 % 16) := rfl
  clear hR hc ha
  generalize bt l 0 = x0 at h0 h h' hm HR HA HX
  generalize x0 % 16 = c0 at hm HR HA HX
  go_enter Tryd.func48, Tryd.ntmps48
  go_wp2
  go_loop [7, 8] (fun c i => ∃ k : Nat, k + 1 ≤ 3 ∧ i = .int .i64 ((k : Int) + 1) ∧ c = .int .i64 (acc c0 l k) ∧ Hid (cont l k = true)) (fun _ i => 3 - (intOf i).toNat)
  case atStart => exact ⟨0, by omega, rfl, rfl, rfl⟩
  case round =>
    obtain ⟨k, hk, rfl, rfl, HK⟩ := hrel
    have hak := HA.out k (by omega)
    obtain ⟨A, hA⟩ : ∃ A : Int, (acc c0 l k : Int) = A := ⟨_, rfl⟩
    have hA0 : 0 ≤ A := by omega
    have hA1 : A < 8388608 := by omega
    have HAK : Hid ((acc c0 l k : Int) = A) := hA
    rw [hA]
    clear hA hak
    by_cases hlt : k + 1 < 3
    · have hlt' : (k : Int) + 1 < 3 := by omega
      have ck : w.cell? ⟨b, o + (k + 1), none⟩ = some (.int .u8 (bt l (k + 1))) := HC.out (k + 1) (by omega)
      obtain ⟨y, hy⟩ : ∃ y : Int, (bt l (k + 1) : Int) = y := ⟨_, rfl⟩
      have hb := bt_lt l (k + 1)
      have hy0 : 0 ≤ y := by omega
      have hy1 : y < 256 := by omega
      have hm6 := and63 (bt l (k + 1)) hb
      have HY : Hid ((bt l (k + 1) : Int) = y) := hy
      have hsuc := cont_succ l k
      rw [HK.out, Bool.true_and] at hsuc
      have HS : Hid (cont l (k + 1) = (decide (128 ≤ bt l (k + 1)) && decide (bt l (k + 1) ≤ 191))) := hsuc
      rw [hy] at ck hm6
      clear hy hb hsuc
      by_cases hy2 : 128 ≤ y ∧ y ≤ 191
      · obtain ⟨y2, y3⟩ := hy2
        have hmod : ((bt l (k + 1) % 64 : Nat) : Int) = y - 128 := by have := HY.out; omega
        rw [hmod] at hm6
        clear hmod
        go_wp2
        go_round
        case rel => exact ⟨k + 1, by omega, by go_num, congrArg _ (by have h1 := HAK.out; have h2 := HY.out; show A * 64 + (y - 128) = ((acc c0 l k * 64 + bt l (k + 1) % 64 : Nat) : Int); omega), (HS.out.trans (by have := HY.out; simp; omega) : cont l (k + 1) = true)⟩
        case measure => simp [intOf]; omega
      · have hcf : cont l (k + 1) = false := HS.out.trans (by have := HY.out; simp; omega)
        have hr : r = (0, 0) := by
          have h1 := HR.out
          rw [if_pos (cont_false l (k + 1) 2 (by omega) hcf)] at h1
          exact h1.symm
        subst hr
        clear hm6
        by_cases hy3 : y < 128
        · go_wp2
          go_ret2
          exact ⟨rfl, rfl⟩
        · have hy4 : 191 < y := by omega
          clear hy2
          go_wp2
          go_ret2
          exact ⟨rfl, rfl⟩
    · obtain rfl : k = 2 := by omega
      have hr := HR.out
      rw [if_neg (by rw [HK.out]; simp), show acc c0 l (3 - 1) = acc c0 l 2 from rfl] at hr
      have HR2 : Hid (_ = r) := hr
      by_cases hle : A < 2048
      · have hr2 : r = (0, 0) := by
          have h1 := HR2.out
          rw [if_pos (.inl (by have := HAK.out; omega))] at h1
          exact h1.symm
        subst hr2
        clear hr hm
        go_wp2_with (go_at_call 51; refine (right_any _ _).mono ?_; rintro e w' ⟨rfl, rfl⟩)
        go_ret2
        exact ⟨rfl, rfl⟩
      · by_cases hok : okP A = false
        · have hr2 : r = (0, 0) := by
            have h1 := HR2.out
            rw [if_pos (.inr (by rw [HAK.out]; exact hok))] at h1
            exact h1.symm
          subst hr2
          clear hr hm
          go_wp2_with (go_at_call 51; refine (right_any _ _).mono ?_; rintro e w' ⟨rfl, rfl⟩)
          go_ret2
          exact ⟨rfl, rfl⟩
        · have hr2 : r = (A, 3) := by
            have h1 := HR2.out
            rw [if_neg (by rw [HAK.out]; rintro (h | h); have := HAK.out; omega; exact hok h), HAK.out] at h1
            exact h1.symm
          subst hr2
          have hok' : okP A = true := by simpa using hok
          clear hr hm hok
          go_wp2_with (go_at_call 51; refine (right_any _ _).mono ?_; rintro e w' ⟨rfl, rfl⟩)
          go_ret2
          exact ⟨rfl, rfl⟩

set_option maxRecDepth 100000 in
set_option maxHeartbeats 1000000 in
theorem point_e_short (b o n cap : Nat) (x0 : Nat) (w : World) (hn : 0 < n) (h0 : w.cell? ⟨b, o, none⟩ = some (.int .u8 x0)) (h : 240 ≤ (x0 : Int)) (h' : (x0 : Int) < 245) (hs : (n : Int) < 4) :
    Calls Tryd.prog 48 #[.slice (some ⟨b, o, none⟩) n cap] w fun e w' => e = .returned (.tuple #[.int .i64 0, .int .i64 0]) ∧ w' = w := by
  go_enter Tryd.func48, Tryd.ntmps48
  go_wp2
  go_ret2
  exact ⟨rfl, rfl⟩

set_option maxRecDepth 100000 in
set_option maxHeartbeats 1000000 in
theorem point_e (b o cap : Nat) (l : List UInt8) (w : World) (hl : (l.length : Int) ≤ 1048576) (hs : (4 : Int) ≤ l.length) (hc : ∀ j, j < l.length → w.cell? ⟨b, o + j, none⟩ = some (.int .u8 (bt l j))) (h : 240 ≤ (bt l 0 : Int)) (h' : (bt l 0 : Int) < 245) :
    Calls Tryd.prog 48 #[.slice (some ⟨b, o, none⟩) l.length cap] w fun e w' => e = .returned (.tuple #[.int .i64 (multi 4 65536 (bt l 0 % 8) l).1, .int .i64 (multi 4 65536 (bt l 0 % 8) l).2]) ∧ w' = w := by
  obtain ⟨r, hR⟩ : ∃ r, multi 4 65536 (bt l 0 % 8) l = r := ⟨_, rfl⟩
  rw [hR]
  unfold multi at hR
  rw [if_neg (by omega)] at hR
  have HR : Hid (_ = r) := hR
  have h0 : w.cell? ⟨b, o, none⟩ = some (.int .u8 (bt l 0)) := hc 0 (by omega)
  have hm := and7 (bt l 0) (bt_lt l 0)
  have ha : ∀ k, k ≤ 3 → acc (bt l 0 % 8) l k < 8388608 := fun k hk => acc_lt _ l (by omega) k (by omega)
  have HC : Hid (∀ j, j < l.length → w.cell? ⟨b, o + j, none⟩ = some (.int .u8 (bt l j))) := hc
  have HA : Hid (∀ k, k ≤ 3 → acc (bt l 0 % 8) l k < 8388608) := ha
  have HX : Hid (acc (bt l 0 % 8) l 0 = bt l 0 % 8) := rfl
  clear hR hc ha
  generalize bt l 0 = x0 at h0 h h' hm HR HA HX
  generalize x0 % 8 = c0 at hm HR HA HX
  go_enter Tryd.func48, Tryd.ntmps48
  go_wp2
  go_loop [7, 8] (fun c i => ∃ k : Nat, k + 1 ≤ 4 ∧ i = .int .i64 ((k : Int) + 1) ∧ c = .int .i64 (acc c0 l k) ∧ Hid (cont l k = true)) (fun _ i => 4 - (intOf i).toNat)
  case atStart => exact ⟨0, by omega, rfl, rfl, rfl⟩
  case round =>
    obtain ⟨k, hk, rfl, rfl, HK⟩ := hrel
    have hak := HA.out k (by omega)
    obtain ⟨A, hA⟩ : ∃ A : Int, (acc c0 l k : Int) = A := ⟨_, rfl⟩
    have hA0 : 0 ≤ A := by omega
    have hA1 : A < 8388608 := by omega
    have HAK : Hid ((acc c0 l k : Int) = A) := hA
    rw [hA]
    clear hA hak
    by_cases hlt : k + 1 < 4
    · have hlt' : (k : Int) + 1 < 4 := by omega
      have ck : w.cell? ⟨b, o + (k + 1), none⟩ = some (.int .u8 (bt l (k + 1))) := HC.out (k + 1) (by omega)
      obtain ⟨y, hy⟩ : ∃ y : Int, (bt l (k + 1) : Int) = y := ⟨_, rfl⟩
      have hb := bt_lt l (k + 1)
      have hy0 : 0 ≤ y := by omega
      have hy1 : y < 256 := by omega
      have hm6 := and63 (bt l (k + 1)) hb
      have HY : Hid ((bt l (k + 1) : Int) = y) := hy
      have hsuc := cont_succ l k
      rw [HK.out, Bool.true_and] at hsuc
      have HS : Hid (cont l (k + 1) = (decide (128 ≤ bt l (k + 1)) && decide (bt l (k + 1) ≤ 191))) := hsuc
      rw [hy] at ck hm6
      clear hy hb hsuc
      by_cases hy2 : 128 ≤ y ∧ y ≤ 191
      · obtain ⟨y2, y3⟩ := hy2
        have hmod : ((bt l (k + 1) % 64 : Nat) : Int) = y - 128 := by have := HY.out; omega
        rw [hmod] at hm6
        clear hmod
        go_wp2
        go_round
        case rel => exact ⟨k + 1, by omega, by go_num, congrArg _ (by have h1 := HAK.out; have h2 := HY.out; show A * 64 + (y - 128) = ((acc c0 l k * 64 + bt l (k + 1) % 64 : Nat) : Int); omega), (HS.out.trans (by have := HY.out; simp; omega) : cont l (k + 1) = true)⟩
        case measure => simp [intOf]; omega
      · have hcf : cont l (k + 1) = false := HS.out.trans (by have := HY.out; simp; omega)
        have hr : r = (0, 0) := by
          have h1 := HR.out
          rw [if_pos (cont_false l (k + 1) 3 (by omega) hcf)] at h1
          exact h1.symm
        subst hr
        clear hm6
        by_cases hy3 : y < 128
        · go_wp2
          go_ret2
          exact ⟨rfl, rfl⟩
        · have hy4 : 191 < y := by omega
          clear hy2
          go_wp2
          go_ret2
          exact ⟨rfl, rfl⟩
    · obtain rfl : k = 3 := by omega
      have hr := HR.out
      rw [if_neg (by rw [HK.out]; simp), show acc c0 l (4 - 1) = acc c0 l 3 from rfl] at hr
      have HR2 : Hid (_ = r) := hr
      by_cases hle : A < 65536
      · have hr2 : r = (0, 0) := by
          have h1 := HR2.out
          rw [if_pos (.inl (by have := HAK.out; omega))] at h1
          exact h1.symm
        subst hr2
        clear hr hm
        go_wp2_with (go_at_call 51; refine (right_any _ _).mono ?_; rintro e w' ⟨rfl, rfl⟩)
        go_ret2
        exact ⟨rfl, rfl⟩
      · by_cases hok : okP A = false
        · have hr2 : r = (0, 0) := by
            have h1 := HR2.out
            rw [if_pos (.inr (by rw [HAK.out]; exact hok))] at h1
            exact h1.symm
          subst hr2
          clear hr hm
          go_wp2_with (go_at_call 51; refine (right_any _ _).mono ?_; rintro e w' ⟨rfl, rfl⟩)
          go_ret2
          exact ⟨rfl, rfl⟩
        · have hr2 : r = (A, 4) := by
            have h1 := HR2.out
            rw [if_neg (by rw [HAK.out]; rintro (h | h); have := HAK.out; omega; exact hok h), HAK.out] at h1
            exact h1.symm
          subst hr2
          have hok' : okP A = true := by simpa using hok
          clear hr hm hok
          go_wp2_with (go_at_call 51; refine (right_any _ _).mono ?_; rintro e w' ⟨rfl, rfl⟩)
          go_ret2
          exact ⟨rfl, rfl⟩

end Go.Proofs.YtjfeamfchgcblaaDoor
