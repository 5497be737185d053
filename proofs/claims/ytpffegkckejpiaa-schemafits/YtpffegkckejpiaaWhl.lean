/- The document's own: run. -/
import Derived.Test.YtpffegkckejpiaaRefP
import Derived.Test.YtpffegkckejpiaaRInt
import Derived.Test.YtpffegkckejpiaaSma
import Derived.Test.YtpffegkckejpiaaRows
import Derived.Shelf.LaysM
import Derived.Shelf.Strconv.Clone
import Derived.Shelf.Strings.Prefix
import Derived.Shelf.Small.Wraps
import Derived.Test.YtpffegkckejpiaaScp
set_option linter.unusedVariables false
set_option linter.unusedSimpArgs false
set_option maxRecDepth 100000
namespace Go.Proofs.Ytpffegkckejpiaa
open Go.RowKit

def rlen (t : ByteArray) (i : Nat) : Nat := (tk (t.data.toList.drop i)).length
theorem rlen_le (t : ByteArray) (i : Nat) (h : i ≤ t.size) : i + rlen t i ≤ t.size := by
  have h1 : (tk (t.data.toList.drop i)).length ≤ (t.data.toList.drop i).length := by
    conv => rhs; rw [tk_dk (t.data.toList.drop i)]
    rw [List.length_append]; omega
  rw [List.length_drop, ← Lib.size_eq] at h1
  unfold rlen
  omega
theorem tk_at {l : List UInt8} {j : Nat} (h : j < (tk l).length) : ∃ c, l[j]? = some c ∧ isD c = true := by
  refine ⟨(tk l)[j], ?_, List.all_eq_true.1 (tk_all l) _ (List.getElem_mem h)⟩
  conv => lhs; rw [tk_dk l]
  rw [List.getElem?_append_left h, List.getElem?_eq_getElem h]
theorem tk_end {l : List UInt8} (h : (tk l).length < l.length) : ∃ c, l[(tk l).length]? = some c ∧ isD c = false := by
  cases hd : dk l with
  | nil =>
    have := tk_dk l
    rw [hd, List.append_nil] at this
    rw [← this] at h
    omega
  | cons c r =>
    refine ⟨c, ?_, dk_head hd⟩
    have h1 := tk_dk l
    rw [hd] at h1
    have h2 : l[(tk l).length]? = (tk l ++ c :: r)[(tk l).length]? := by rw [← h1]
    rw [h2, List.getElem?_append_right (Nat.le_refl _), Nat.sub_self]
    rfl
theorem run_at {t : ByteArray} {i j : Nat} (h : j < rlen t i) (hs : i + j < t.size) : isD t[i + j] = true := by
  obtain ⟨c, h1, h2⟩ := tk_at (l := t.data.toList.drop i) h
  rw [List.getElem?_drop, byte_get t (i + j) hs] at h1
  cases h1
  exact h2
theorem run_end {t : ByteArray} {i : Nat} (hs : i + rlen t i < t.size) : isD t[i + rlen t i] = false := by
  obtain ⟨c, h1, h2⟩ := tk_end (l := t.data.toList.drop i) (by rw [List.length_drop, ← Lib.size_eq]; unfold rlen at hs; omega)
  rw [List.getElem?_drop] at h1
  have h3 := byte_get t (i + rlen t i) hs
  unfold rlen at h3
  rw [h3] at h1
  have h4 := Option.some.inj h1
  have h5 : t[i + rlen t i] = c := h4
  rw [h5]
  exact h2

set_option maxRecDepth 100000 in
set_option maxHeartbeats 400000 in
theorem run_any (t : ByteArray) (i : Nat) (w : World) (h : i ≤ t.size) (hs : t.size ≤ 100000) :
    Calls Try.prog 44 #[.string t, .int .i64 i] w fun e w' => e = .returned (.tuple #[.string (t.extract i (i + rlen t i)), .int .i64 ((i + rlen t i : Nat) : Int)]) ∧ w' = w := by
  have hle := rlen_le t i h
  have HA : Hid (∀ m, i ≤ m → m < i + rlen t i → ∀ hs : m < t.size, isD t[m] = true) := fun m h1 h2 hs => by
    obtain ⟨j, rfl⟩ : ∃ j, m = i + j := ⟨m - i, by omega⟩
    exact run_at (by omega) hs
  have HE : Hid (∀ hs : i + rlen t i < t.size, isD t[i + rlen t i] = false) := fun hs => run_end hs
  have hiE : i ≤ i + rlen t i := by omega
  generalize i + rlen t i = E at *
  go_enter Try.func44, Try.ntmps44
  go_wp2
  go_loop [1] (fun v => ∃ (m : Nat), i ≤ m ∧ m ≤ E ∧ v = .int .i64 m) (fun v => t.size - (intOf v).toNat)
  case atStart => exact ⟨i, Nat.le_refl _, hiE, rfl⟩
  case round =>
    obtain ⟨m, him, hmE, rfl⟩ := hrel
    have hmb : (m : Int) ≤ 100000 := by omega
    by_cases hlt : m < E
    · have hms : m < t.size := by omega
      have hD' := isD_iff.1 (HA.out m him hlt hms)
      have g1 := hD'.1
      have g2 := hD'.2
      have hl : (m : Int) < t.size := by omega
      clear hD'
      go_wp2
      go_round
      case rel => exact ⟨m + 1, by omega, by omega, by go_num⟩
      case measure => simp [intOf] <;> omega
    · obtain rfl : m = E := by omega
      have hi0 : (i : Int) ≤ m := by omega
      have hm1 : (m : Int) ≤ t.size := by omega
      by_cases hms : m < t.size
      · have hD := HE.out hms
        have hl : (m : Int) < t.size := by omega
        have hc : ¬ (48 : Int) ≤ t[m].toNat ∨ ((48 : Int) ≤ t[m].toNat ∧ ¬ (t[m].toNat : Int) ≤ 57) := by
          by_cases h1 : (48 : Int) ≤ t[m].toNat
          · right
            refine ⟨h1, fun h2 => ?_⟩
            rw [isD_iff.2 ⟨h1, h2⟩] at hD
            cases hD
          · exact .inl h1
        clear hD HE HA
        rcases hc with g1 | ⟨g1, g2⟩
        all_goals
          go_wp2
          go_ret2
          exact ⟨rfl, rfl⟩
      · have hl : ¬ (m : Int) < t.size := by omega
        clear HE HA
        go_wp2
        go_ret2
        exact ⟨rfl, rfl⟩
end Go.Proofs.Ytpffegkckejpiaa
set_option maxRecDepth 100000
namespace Go.Proofs.Ytpffegkckejpiaa
open Go.RowKit

def dg (t : ByteArray) : Nat := (tk t.data.toList).length
theorem dg_rlen (t : ByteArray) : dg t = rlen t 0 := rfl
theorem dg_le (t : ByteArray) : dg t ≤ t.size := by
  have := rlen_le t 0 (Nat.zero_le _)
  rw [← dg_rlen] at this
  omega
theorem within_yes (c : UInt8) (w : World) (h : isD c = true) : Calls Try.prog 76 #[.int .u8 c.toNat, .int .u8 48, .int .u8 57] w fun e w' => e = .returned (.bool true) ∧ w' = w := by
  refine (within_b _ _ _ w).mono ?_
  rintro e w' ⟨rfl, rfl⟩
  have := isD_iff.1 h
  exact ⟨by rw [decide_eq_true this.1, decide_eq_true this.2]; rfl, rfl⟩
theorem within_no (c : UInt8) (w : World) (h : isD c = false) : Calls Try.prog 76 #[.int .u8 c.toNat, .int .u8 48, .int .u8 57] w fun e w' => e = .returned (.bool false) ∧ w' = w := by
  refine (within_b _ _ _ w).mono ?_
  rintro e w' ⟨rfl, rfl⟩
  unfold isD at h
  exact ⟨by rw [h], rfl⟩
set_option maxHeartbeats 400000 in
theorem digits_s (t : ByteArray) (w : World) (hs : t.size ≤ 100000) :
    Calls Try.prog 63 #[.string t] w fun e w' => e = .returned (.int .i64 (dg t)) ∧ w' = w := by
  have hle := dg_le t
  have HA : Hid (∀ m, m < dg t → ∀ hs : m < t.size, isD t[m] = true) := fun m h1 h2 => by
    have := run_at (t := t) (i := 0) (j := m) h1 (by omega)
    simpa using this
  have HE : Hid (∀ hs : dg t < t.size, isD t[dg t] = false) := fun hs => by
    have := run_end (t := t) (i := 0) (by rw [← dg_rlen]; omega)
    simpa [← dg_rlen] using this
  generalize dg t = E at *
  go_enter Try.func63, Try.ntmps63
  go_wp2
  go_loop [3] (fun v => ∃ (m : Nat), m ≤ E ∧ v = .int .i64 m) (fun v => t.size - (intOf v).toNat)
  case atStart => exact ⟨0, Nat.zero_le _, rfl⟩
  case round =>
    obtain ⟨m, hmE, rfl⟩ := hrel
    have hmb : (m : Int) ≤ 100000 := by omega
    by_cases hlt : m < E
    · have hms : m < t.size := by omega
      have hW := fun w => within_yes t[m] w (HA.out m hlt hms)
      have hl : (m : Int) < t.size := by omega
      go_wp2_with fail
      refine (hW _).mono ?_
      rintro e w1 ⟨rfl, rfl⟩
      go_wp2
      go_round
      case rel => exact ⟨m + 1, by omega, by go_num⟩
      case measure => simp [intOf] <;> omega
    · obtain rfl : m = E := by omega
      by_cases hms : m < t.size
      · have hW := fun w => within_no t[m] w (HE.out hms)
        have hl : (m : Int) < t.size := by omega
        clear HE HA
        go_wp2_with fail
        refine (hW _).mono ?_
        rintro e w1 ⟨rfl, rfl⟩
        go_wp2
        go_ret
        exact ⟨rfl, rfl⟩
      · have hl : ¬ (m : Int) < t.size := by omega
        clear HE HA
        go_wp2
        go_ret
        exact ⟨rfl, rfl⟩
end Go.Proofs.Ytpffegkckejpiaa
namespace Go.Proofs
open Go.Shelf
def Try.laysM316_ren : Go.Shelf.Ren := ⟨fun | 316 => 31 | n => n, fun | 9 => 9 | 3 => 3 | 4 => 4 | 37 => 60 | 0 => 0 | 127 => 61 | 5 => 5 | n => n, fun | n => n⟩
theorem Try.laysM316 : Go.Proofs.LaysM.n316 Try.prog Try.laysM316_ren := {
  mixed := by kernel_rfl
  f316 := Try.func31.trans (congrArg some (by kernel_rfl))
  t0 := Try.underlying0
  a0 := Try.isAgg0
  z0 := Try.sizeOf0
  v0 := Try.zeroValue0
  t3 := Try.underlying3
  a3 := Try.isAgg3
  z3 := Try.sizeOf3
  v3 := Try.zeroValue3
  t4 := Try.underlying4
  a4 := Try.isAgg4
  z4 := Try.sizeOf4
  v4 := Try.zeroValue4
  t9 := Try.underlying9
  a9 := Try.isAgg9
  z9 := Try.sizeOf9
  v9 := Try.zeroValue9
  t37 := Try.underlying60
  a37 := Try.isAgg60
  z37 := Try.sizeOf60
  v37 := Try.zeroValue60
  t127 := Try.underlying61
  a127 := Try.isAgg61
  z127 := Try.sizeOf61
  v127 := Try.zeroValue61
  t5 := Try.underlying5
  a5 := Try.isAgg5
  z5 := Try.sizeOf5
  v5 := Try.zeroValue5
  i0 := by kernel_rfl
  i3 := by kernel_rfl
  i4 := by kernel_rfl
  i5 := by kernel_rfl
  i9 := by kernel_rfl
  i37 := by kernel_rfl
  i127 := by kernel_rfl }
open Go.RowKit in
/-- internal/stringslite.Clone (what strings.Clone calls): "Clone returns a fresh copy of s.": THE SAME BYTES. Of what was there nothing has turned (a new row is laid, and frozen, where s is not empty). (LAID: no walk: one application.) -/
theorem Try.stringslite_Clone (s : ByteArray) (w : World) (hlim : s.size ≤ 281474976710656) :
    Calls Try.prog 31 #[.string s] w fun e w' => e = .returned (.string s) ∧ Below w.heap.size w w' := Any.stringslite_Clone Try.laysM316 s w hlim
def Try.lays208_ren : Go.Shelf.Ren := ⟨fun | 208 => 75 | 206 => 65 | n => n, fun | 9 => 9 | 4 => 4 | 3 => 3 | n => n, fun | n => n⟩
theorem Try.lays208 : Go.Proofs.Lays.n208 Try.prog Try.lays208_ren := {
  mixed := by kernel_rfl
  f206 := Try.func65.trans (congrArg some (by kernel_rfl))
  f208 := Try.func75.trans (congrArg some (by kernel_rfl))
  t3 := Try.underlying3
  a3 := Try.isAgg3
  z3 := Try.sizeOf3
  v3 := Try.zeroValue3
  t4 := Try.underlying4
  a4 := Try.isAgg4
  z4 := Try.sizeOf4
  v4 := Try.zeroValue4
  t9 := Try.underlying9
  a9 := Try.isAgg9
  z9 := Try.sizeOf9
  v9 := Try.zeroValue9 }
open Go.RowKit Go.Lib in
/-- internal/stringslite.TrimPrefix (what strings.TrimPrefix calls). (LAID: no walk: one application.) -/
theorem Try.stringslite_TrimPrefix (s p : ByteArray) (w : World) :
    Calls Try.prog 75 #[.string s, .string p] w fun e w' => e = .returned (.string ⟨(Lib.trimPrefix s.data.toList p.data.toList).toArray⟩) ∧ w' = w := Any.stringslite_TrimPrefix Try.lays208 s p w
def Try.lays101_ren : Go.Shelf.Ren := ⟨fun | 101 => 62 | 208 => 75 | 206 => 65 | n => n, fun | 9 => 9 | 4 => 4 | 3 => 3 | n => n, fun | n => n⟩
theorem Try.lays101 : Go.Proofs.Lays.n101 Try.prog Try.lays101_ren := {
  mixed := by kernel_rfl
  f101 := Try.func62.trans (congrArg some (by kernel_rfl))
  f206 := Try.func65.trans (congrArg some (by kernel_rfl))
  f208 := Try.func75.trans (congrArg some (by kernel_rfl))
  t3 := Try.underlying3
  a3 := Try.isAgg3
  z3 := Try.sizeOf3
  v3 := Try.zeroValue3
  t4 := Try.underlying4
  a4 := Try.isAgg4
  z4 := Try.sizeOf4
  v4 := Try.zeroValue4
  t9 := Try.underlying9
  a9 := Try.isAgg9
  z9 := Try.sizeOf9
  v9 := Try.zeroValue9 }
open Go.RowKit Go.Lib in
/-- strings.TrimPrefix: "TrimPrefix returns s without the provided leading prefix string. If s doesn't start with prefix, s is returned unchanged.": IT RETURNS 'Lib.trimPrefix s prefix'; the world is as it was. (LAID: no walk: one application.) -/
theorem Try.strings_TrimPrefix (s p : ByteArray) (w : World) :
    Calls Try.prog 62 #[.string s, .string p] w fun e w' => e = .returned (.string ⟨(Lib.trimPrefix s.data.toList p.data.toList).toArray⟩) ∧ w' = w := Any.strings_TrimPrefix Try.lays101 s p w
end Go.Proofs
set_option maxRecDepth 100000
namespace Go.Proofs.Ytpffegkckejpiaa
open Go.RowKit

def bl (l : List UInt8) : ByteArray := ⟨l.toArray⟩
theorem bl_list (l : List UInt8) : (bl l).data.toList = l := rfl
theorem bl_size (l : List UInt8) : (bl l).size = l.length := by rw [Lib.size_eq]; rfl
theorem bl_of (s : ByteArray) : bl s.data.toList = s := Lib.mk_data s
theorem ext_bl (t : ByteArray) (n : Nat) : t.extract n t.size = bl (t.data.toList.drop n) := by
  unfold bl
  rw [Lib.extract_eq]
  congr 2
  rw [List.take_of_length_le (by rw [List.length_drop, size_list]; exact Nat.le_refl _)]
theorem dk_drop (l : List UInt8) : l.drop (tk l).length = dk l := by
  have h := tk_dk l
  conv => lhs; rw [h]
  have : (tk (tk l ++ dk l)).length = (tk l).length := by rw [← h]
  rw [this]
  simp
theorem ext_dk (t : ByteArray) : t.extract (dg t) t.size = bl (dk t.data.toList) := by
  rw [ext_bl]
  unfold dg
  rw [dk_drop]
theorem trim_one (l : List UInt8) (c : UInt8) : Lib.trimPrefix l [c] = if l.head? = some c then l.tail else l := by
  unfold Lib.trimPrefix
  cases l with
  | nil => simp [Lib.hasPrefix]
  | cons a t =>
    by_cases h : a = c
    · subst h
      simp [Lib.hasPrefix]
    · have : ¬ c = a := fun e => h e.symm
      simp [Lib.hasPrefix, h, this]
theorem trimM (s : ByteArray) (w : World) : Calls Try.prog 62 #[.string s, .string ⟨#[45]⟩] w fun e w' => e = .returned (.string (bl (skipM s.data.toList))) ∧ w' = w := by
  have := Try.strings_TrimPrefix s ⟨#[45]⟩ w
  rwa [show (⟨#[45]⟩ : ByteArray).data.toList = [45] from rfl, trim_one] at this
theorem cutP (s : ByteArray) (w : World) : Calls Try.prog 37 #[.string s, .string ⟨#[46]⟩] w fun e w' => e = .returned (.tuple #[.string (bl (if s.data.toList.head? = some 46 then s.data.toList.tail else s.data.toList)), .bool (s.data.toList.head? == some 46)]) ∧ w' = w := by
  have := Try.strings_CutPrefix s ⟨#[46]⟩ w
  rwa [show (⟨#[46]⟩ : ByteArray).data.toList = [46] from rfl, trim_one, pre1] at this
def optV : Option (List UInt8) → Value
  | none => .tuple #[.string ⟨#[]⟩, .bool false]
  | some r => .tuple #[.string (bl r), .bool true]
theorem skipM_len (l : List UInt8) : (skipM l).length ≤ l.length := by
  unfold skipM
  split
  · rw [List.length_tail]; omega
  · exact Nat.le_refl _

set_option maxHeartbeats 400000 in
theorem whole_any (s : ByteArray) (w : World) (hs : s.size ≤ 100000) :
    Calls Try.prog 46 #[.string s] w fun e w' => e = .returned (optV (whP (skipM s.data.toList))) ∧ w' = w := by
  have TR := fun w => trimM s w
  have hsz : (bl (skipM s.data.toList)).size ≤ 100000 := by
    rw [bl_size]
    have := skipM_len s.data.toList
    rw [size_list] at this
    omega
  rw [show whP (skipM s.data.toList) = whP (bl (skipM s.data.toList)).data.toList from rfl]
  generalize bl (skipM s.data.toList) = t at TR hsz ⊢
  have DG := fun w => digits_s t w hsz
  have hle := dg_le t
  have HX : Hid _ := ext_dk t
  have HN : Hid (dg t = (tk t.data.toList).length) := rfl
  generalize dg t = n at DG hle HX HN
  by_cases h0 : n = 0
  · rw [show whP t.data.toList = none from if_pos (.inl (by rw [← HN.out]; exact h0))]
    subst h0
    clear HN HX
    go_enter Try.func46, Try.ntmps46
    go_wp2_with fail
    refine (TR _).mono ?_
    rintro e w1 ⟨rfl, rfl⟩
    go_wp2_with fail
    refine (DG _).mono ?_
    rintro e w1 ⟨rfl, rfl⟩
    go_wp2
    go_ret2
    exact ⟨rfl, rfl⟩
  · have hn0 : ¬ (n : Int) = 0 := by omega
    have hnl : (n : Int) ≤ t.size := by omega
    have hl : (0 : Int) < t.size := by omega
    have ht : 0 < t.size := by omega
    by_cases h1 : 1 < n
    · have hn1 : (1 : Int) < n := by omega
      by_cases h2 : (t[0].toNat : Int) = 48
      · rw [show whP t.data.toList = none from if_pos (.inr ⟨by rw [← HN.out]; exact h1, by rw [head_of ht]; congr 1; exact byte_eq (k := 48) (by decide) h2⟩)]
        clear HN HX
        go_enter Try.func46, Try.ntmps46
        go_wp2_with fail
        refine (TR _).mono ?_
        rintro e w1 ⟨rfl, rfl⟩
        go_wp2_with fail
        refine (DG _).mono ?_
        rintro e w1 ⟨rfl, rfl⟩
        go_wp2
        go_ret2
        exact ⟨rfl, rfl⟩
      · rw [show whP t.data.toList = some (dk t.data.toList) from if_neg (by
          rw [← HN.out, head_of ht]
          rintro (e | ⟨-, e⟩)
          · exact h0 e
          · apply h2
            rw [Option.some.inj e]; rfl)]
        clear HN
        go_enter Try.func46, Try.ntmps46
        go_wp2_with fail
        refine (TR _).mono ?_
        rintro e w1 ⟨rfl, rfl⟩
        go_wp2_with fail
        refine (DG _).mono ?_
        rintro e w1 ⟨rfl, rfl⟩
        go_wp2
        · rename_i h
          exfalso
          simp [h0, h2] at h
        · go_ret2
          refine ⟨?_, rfl⟩
          show Ending.returned (.tuple #[.string (t.extract n t.size), _]) = _
          rw [HX.out]
          rfl
    · have hn1 : ¬ (1 : Int) < n := by omega
      rw [show whP t.data.toList = some (dk t.data.toList) from if_neg (by
          rw [← HN.out, head_of ht]
          rintro (e | ⟨e, -⟩)
          · exact h0 e
          · exact h1 e)]
      clear HN
      go_enter Try.func46, Try.ntmps46
      go_wp2_with fail
      refine (TR _).mono ?_
      rintro e w1 ⟨rfl, rfl⟩
      go_wp2_with fail
      refine (DG _).mono ?_
      rintro e w1 ⟨rfl, rfl⟩
      go_wp2
      go_ret2
      refine ⟨?_, rfl⟩
      show Ending.returned (.tuple #[.string (t.extract n t.size), _]) = _
      rw [HX.out]
      rfl

def ptIn (l : List UInt8) : List UInt8 := if l.head? = some 46 then l.tail else l
set_option maxHeartbeats 400000 in
theorem part_any (s : ByteArray) (w : World) (hs : s.size ≤ 100000) :
    Calls Try.prog 47 #[.string s] w fun e w' => e = .returned (optV (ptP s.data.toList)) ∧ w' = w := by
  have CP := fun w => cutP s w
  by_cases hp : s.data.toList.head? = some 46
  · rw [if_pos hp] at CP
    rw [show (s.data.toList.head? == some 46) = true from by rw [hp]; rfl] at CP
    have hsz : (bl s.data.toList.tail).size ≤ 100000 := by
      rw [bl_size, List.length_tail, size_list]
      omega
    have hE : ptP s.data.toList = if (tk (bl s.data.toList.tail).data.toList).length = 0 then none else some (dk (bl s.data.toList.tail).data.toList) := if_pos hp
    rw [hE]
    generalize bl s.data.toList.tail = t at CP hsz ⊢
    have DG := fun w => digits_s t w hsz
    have hle := dg_le t
    have HX : Hid _ := ext_dk t
    have HN : Hid (dg t = (tk t.data.toList).length) := rfl
    generalize dg t = n at DG hle HX HN
    rw [← HN.out]
    clear HN hE hp
    by_cases h0 : n = 0
    · subst h0
      clear HX
      rw [if_pos rfl]
      go_enter Try.func47, Try.ntmps47
      go_wp2_with fail
      refine (CP _).mono ?_
      rintro e w1 ⟨rfl, rfl⟩
      go_wp2_with fail
      refine (DG _).mono ?_
      rintro e w1 ⟨rfl, rfl⟩
      go_wp2
      go_ret2
      exact ⟨rfl, rfl⟩
    · rw [if_neg h0]
      have hn0 : ¬ (n : Int) = 0 := by omega
      have hnl : (n : Int) ≤ t.size := by omega
      go_enter Try.func47, Try.ntmps47
      go_wp2_with fail
      refine (CP _).mono ?_
      rintro e w1 ⟨rfl, rfl⟩
      go_wp2_with fail
      refine (DG _).mono ?_
      rintro e w1 ⟨rfl, rfl⟩
      go_wp2
      go_ret2
      refine ⟨?_, rfl⟩
      show Ending.returned (.tuple #[.string (t.extract n t.size), _]) = _
      rw [HX.out]
      rfl
  · rw [show (s.data.toList.head? == some 46) = false from beq_false_of_ne hp] at CP
    rw [show ptP s.data.toList = some s.data.toList from if_neg hp]
    rw [if_neg hp, bl_of] at CP
    have HB : Hid (bl s.data.toList = s) := bl_of s
    clear hp
    go_enter Try.func47, Try.ntmps47
    go_wp2_with fail
    refine (CP _).mono ?_
    rintro e w1 ⟨rfl, rfl⟩
    go_wp2
    go_ret2
    refine ⟨?_, rfl⟩
    show Ending.returned (.tuple #[.string s, _]) = .returned (.tuple #[.string (bl s.data.toList), _])
    rw [HB.out]
    rfl
end Go.Proofs.Ytpffegkckejpiaa
