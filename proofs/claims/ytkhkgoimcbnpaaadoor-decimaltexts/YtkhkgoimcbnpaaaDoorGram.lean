/- How floats are written, in plain terms. -/
import Derived.Test.YtkhkgoimcbnpaaaDoorAliv
set_option linter.unusedVariables false
set_option linter.unusedSimpArgs false
namespace Go.Proofs.YtkhkgoimcbnpaaaDoor
open Go.RowKit

def isE (c : UInt8) : Bool := eE.contains c
def kT (t : ByteArray) : Int := Lib.indexAny t.data.toList eE
theorem idxE_app {l r : List UInt8} {c : UInt8} (hl : ∀ x ∈ l, isE x = false) (hc : isE c = true) : Lib.indexAny (l ++ c :: r) eE = l.length := by
  refine Lib.indexAny_hit (i := l.length) (x := c) (fun j b hj hb => ?_) (by simp) hc
  rw [List.getElem?_append_left hj] at hb
  exact hl b (List.mem_of_getElem? hb)
theorem idxE_none {l : List UInt8} (hl : ∀ x ∈ l, isE x = false) : Lib.indexAny l eE = -1 :=
  Lib.indexAny_none fun j b hj hb => hl b (List.mem_of_getElem? hb)
theorem dot_app {l r : List UInt8} (hl : ∀ x ∈ l, x ≠ 46) : Lib.indexByte (l ++ 46 :: r) 46 = l.length := by
  rw [← Lib.indexAny_one]
  refine Lib.indexAny_hit (i := l.length) (x := 46) (fun j b hj hb => ?_) (by simp) (by decide)
  rw [List.getElem?_append_left hj] at hb
  have := hl b (List.mem_of_getElem? hb)
  simpa using this
theorem dot_none {l : List UInt8} (hl : ∀ x ∈ l, x ≠ 46) : Lib.indexByte l 46 = -1 := by
  rw [← Lib.indexAny_one]
  refine Lib.indexAny_none fun j b hj hb => ?_
  have := hl b (List.mem_of_getElem? hb)
  simpa using this
theorem ext_head {t : ByteArray} {l r : List UInt8} {c : UInt8} (h : t.data.toList = l ++ c :: r) : t.extract 0 l.length = ⟨l.toArray⟩ := by
  rw [Lib.extract_eq, h]; simp
theorem ext_tl {t : ByteArray} {l r : List UInt8} {c : UInt8} (h : t.data.toList = l ++ c :: r) : t.extract (l.length + 1) t.size = ⟨r.toArray⟩ := by
  rw [Lib.extract_eq, h, List.take_of_length_le (by rw [← h]; simp)]
  have : (l ++ c :: r).drop (l.length + 1) = r := by
    rw [show l.length + 1 = l.length + 1 from rfl, List.drop_append]
    simp
  rw [this]

theorem ahead_e {t : ByteArray} {l r : List UInt8} {c : UInt8} (h : t.data.toList = l ++ c :: r) (hl : ∀ x ∈ l, isE x = false) (hc : isE c = true) :
    aheadK t (kT t) = (expP ⟨r.toArray⟩).map fun x => (⟨l.toArray⟩, x) := by
  unfold aheadK kT
  rw [h, idxE_app hl hc, if_neg (by omega)]
  rw [Int.toNat_natCast, ext_tl h, ext_head h]
theorem ahead_no {t : ByteArray} (hl : ∀ x ∈ t.data.toList, isE x = false) : aheadK t (kT t) = some (t, 0) := by
  unfold aheadK kT
  rw [idxE_none hl, if_pos (by decide)]
theorem cut_dot {a : ByteArray} {l r : List UInt8} (h : a.data.toList = l ++ 46 :: r) (hl : ∀ x ∈ l, x ≠ 46) : whD a = ⟨l.toArray⟩ ∧ ptD a = ⟨r.toArray⟩ := by
  unfold whD ptD dotJ
  rw [h, dot_app hl, if_neg (by omega), if_neg (by omega), Int.toNat_natCast, ext_head h, ext_tl h]
  exact ⟨rfl, rfl⟩
theorem cut_no {a : ByteArray} (hl : ∀ x ∈ a.data.toList, x ≠ 46) : whD a = a ∧ ptD a = ⟨#[]⟩ := by
  unfold whD ptD dotJ
  rw [dot_none hl]
  exact ⟨rfl, rfl⟩

def okL (l : List UInt8) : Bool := decide (0 < l.length) && decide (l.length ≤ 5000) && l.all isD
theorem okS_okL (s : ByteArray) : okS s 10 = okL s.data.toList := by
  unfold okS okL
  rw [all_isD, Lib.size_eq]
  rfl
theorem app_list (x y : ByteArray) : (x ++ y).data.toList = x.data.toList ++ y.data.toList := by simp
/-- The number of digits ahead of a point and behind it, and an exponent. -/
def numF (w p : List UInt8) (x : Int) : Option (Nat × Int) := if okL (w ++ p) then some (valD (w ++ p), x - p.length) else none
theorem fltA_eq (a : ByteArray) (x : Int) : fltA a x = numF (whD a).data.toList (ptD a).data.toList x := by
  unfold fltA numF
  rw [okS_okL, app_list, numB_valD, app_list, ← Lib.size_eq]
theorem fltA_dot {a : ByteArray} {l r : List UInt8} (x : Int) (h : a.data.toList = l ++ 46 :: r) (hl : ∀ x ∈ l, x ≠ 46) : fltA a x = numF l r x := by
  rw [fltA_eq, (cut_dot h hl).1, (cut_dot h hl).2]
theorem fltA_no {a : ByteArray} (x : Int) (hl : ∀ x ∈ a.data.toList, x ≠ 46) : fltA a x = numF a.data.toList [] x := by
  rw [fltA_eq, (cut_no hl).1, (cut_no hl).2]

theorem dig_E {l : List UInt8} (h : l.all isD = true) : ∀ x ∈ l, isE x = false := by
  intro x hx
  have := isD_iff.1 (List.all_eq_true.1 h x hx)
  unfold isE eE
  cases e : [101, 69].contains x
  · rfl
  · have : x = 101 ∨ x = 69 := by simpa using e
    rcases this with rfl | rfl
    · have h2 : ((101 : UInt8).toNat : Int) = 101 := rfl
      omega
    · have h2 : ((69 : UInt8).toNat : Int) = 69 := rfl
      omega
theorem dig_dot {l : List UInt8} (h : l.all isD = true) : ∀ x ∈ l, x ≠ 46 := by
  rintro x hx rfl
  have := isD_iff.1 (List.all_eq_true.1 h _ hx)
  have h2 : ((46 : UInt8).toNat : Int) = 46 := rfl
  omega

/-- Digits, a point, digits, e, an exponent. -/
theorem flt_full {t : ByteArray} {w p u : List UInt8} {c : UInt8} (h : t.data.toList = w ++ 46 :: (p ++ c :: u)) (hw : w.all isD = true) (hp : p.all isD = true) (hc : isE c = true) :
    fltK t (kT t) = (expP ⟨u.toArray⟩).bind fun x => numF w p x := by
  have h' : t.data.toList = (w ++ 46 :: p) ++ c :: u := by rw [h]; simp
  have hl : ∀ x ∈ w ++ 46 :: p, isE x = false := by
    intro x hx
    rw [List.mem_append, List.mem_cons] at hx
    rcases hx with hx | rfl | hx
    · exact dig_E hw x hx
    · rfl
    · exact dig_E hp x hx
  unfold fltK
  rw [ahead_e h' hl hc]
  cases expP ⟨u.toArray⟩ with
  | none => rfl
  | some x =>
    show fltA ⟨(w ++ 46 :: p).toArray⟩ x = numF w p x
    exact fltA_dot x rfl (dig_dot hw)
theorem flt_we {t : ByteArray} {w u : List UInt8} {c : UInt8} (h : t.data.toList = w ++ c :: u) (hw : w.all isD = true) (hc : isE c = true) :
    fltK t (kT t) = (expP ⟨u.toArray⟩).bind fun x => numF w [] x := by
  unfold fltK
  rw [ahead_e h (dig_E hw) hc]
  cases expP ⟨u.toArray⟩ with
  | none => rfl
  | some x =>
    show fltA ⟨w.toArray⟩ x = numF w [] x
    exact fltA_no x (dig_dot hw)
theorem flt_wp {t : ByteArray} {w p : List UInt8} (h : t.data.toList = w ++ 46 :: p) (hw : w.all isD = true) (hp : p.all isD = true) :
    fltK t (kT t) = numF w p 0 := by
  unfold fltK
  rw [ahead_no (by
    rw [h]
    intro x hx
    rw [List.mem_append, List.mem_cons] at hx
    rcases hx with hx | rfl | hx
    · exact dig_E hw x hx
    · rfl
    · exact dig_E hp x hx)]
  exact fltA_dot 0 h (dig_dot hw)
theorem flt_w {t : ByteArray} (hw : t.data.toList.all isD = true) : fltK t (kT t) = numF t.data.toList [] 0 := by
  unfold fltK
  rw [ahead_no (dig_E hw)]
  exact fltA_no 0 (dig_dot hw)

/-- A number that is moved by noughts is the same. -/
theorem tz_mul {n : Nat} (h : 0 < n) (k : Nat) : tz (n * 10 ^ k) = tz n + k := by
  obtain ⟨a, b⟩ := tz_spec n h
  have hd : ∀ j, n * 10 ^ k / 10 ^ (j + k) = n / 10 ^ j := by
    intro j
    rw [Nat.pow_add, ← Nat.div_div_eq_div_mul, Nat.div_div_eq_div_mul, Nat.mul_comm (10 ^ j), ← Nat.div_div_eq_div_mul, Nat.mul_div_cancel _ (Nat.pow_pos (by decide))]
  refine tz_eq (fun j hj => ?_) (by rw [hd]; exact b)
  by_cases hk : j < k
  · obtain ⟨m, rfl⟩ : ∃ m, k = j + 1 + m := ⟨k - j - 1, by omega⟩
    have : n * 10 ^ (j + 1 + m) / 10 ^ j = n * 10 ^ m * 10 := by
      rw [show n * 10 ^ (j + 1 + m) = (n * 10 ^ m * 10) * 10 ^ j from by rw [Nat.pow_add, Nat.pow_succ]; simp [Nat.mul_comm, Nat.mul_left_comm, Nat.mul_assoc]]
      exact Nat.mul_div_cancel _ (Nat.pow_pos (by decide))
    rw [this]
    omega
  · obtain ⟨m, rfl⟩ : ∃ m, j = m + k := ⟨j - k, by omega⟩
    rw [hd]
    exact a m (by omega)
theorem numV_move (b : Bool) (n k : Nat) (e : Int) : numV b (n * 10 ^ k) (e - k) = numV b n e := by
  unfold numV
  by_cases h : n = 0
  · subst h; rw [Nat.zero_mul]; rfl
  · have hp : 0 < 10 ^ k := Nat.pow_pos (by decide)
    have h2 : ¬ n * 10 ^ k = 0 := by
      intro e
      rcases Nat.mul_eq_zero.1 e with e | e
      · exact h e
      · omega
    rw [if_neg h, if_neg h2, tz_mul (by omega)]
    have e1 : n * 10 ^ k / 10 ^ (tz n + k) = n / 10 ^ tz n := by
      rw [Nat.pow_add, Nat.mul_comm (10 ^ tz n), ← Nat.div_div_eq_div_mul, Nat.mul_div_cancel _ hp]
    have e2 : e - (k : Int) + ((tz n + k : Nat) : Int) = e + (tz n : Int) := by omega
    rw [e1, e2]
theorem valD_append (l m : List UInt8) : valD (l ++ m) = valD l * 10 ^ m.length + valD m := by
  unfold valD msd
  rw [List.map_append, List.reverse_append, val_append]
  simp [Nat.mul_comm]
  omega
end Go.Proofs.YtkhkgoimcbnpaaaDoor
