/- How floats are written, in plain terms. -/
import Derived.Test.YtpffegkckejpiaaAliv
set_option linter.unusedVariables false
set_option linter.unusedSimpArgs false
set_option maxRecDepth 100000
namespace Go.Proofs.Ytpffegkckejpiaa
open Go.RowKit

def isE (c : UInt8) : Bool := eE.contains c
def kT (t : ByteArray) : Int := Lib.indexAny t.data.toList eE
theorem idxE_app {l r : List UInt8} {c : UInt8} (hl : ∀ x ∈ l, isE x = false) (hc : isE c = true) : Lib.indexAny (l ++ c :: r) eE = l.length := by
  refine Lib.indexAny_hit (i := l.length) (x := c) (fun j b hj hb => ?_) (by simp) hc
  rw [List.getElem?_append_left hj] at hb
  exact hl b (List.mem_of_getElem? hb)
theorem idxE_none {l : List UInt8} (hl : ∀ x ∈ l, isE x = false) : Lib.indexAny l eE = -1 :=
  Lib.indexAny_none fun j b hj hb => hl b (List.mem_of_getElem? hb)
theorem dot_app {l r : List UInt8} (hl : ∀ x ∈ l, x ≠ 46) : Lib.indexByte (l ++ 46 :: r) 46 = l.length := by
  rw [← Lib.indexAny_one]
  refine Lib.indexAny_hit (i := l.length) (x := 46) (fun j b hj hb => ?_) (by simp) (by decide)
  rw [List.getElem?_append_left hj] at hb
  have := hl b (List.mem_of_getElem? hb)
  simpa using this
theorem dot_none {l : List UInt8} (hl : ∀ x ∈ l, x ≠ 46) : Lib.indexByte l 46 = -1 := by
  rw [← Lib.indexAny_one]
  refine Lib.indexAny_none fun j b hj hb => ?_
  have := hl b (List.mem_of_getElem? hb)
  simpa using this
theorem ext_head {t : ByteArray} {l r : List UInt8} {c : UInt8} (h : t.data.toList = l ++ c :: r) : t.extract 0 l.length = ⟨l.toArray⟩ := by
  rw [Lib.extract_eq, h]; simp
theorem ext_tl {t : ByteArray} {l r : List UInt8} {c : UInt8} (h : t.data.toList = l ++ c :: r) : t.extract (l.length + 1) t.size = ⟨r.toArray⟩ := by
  rw [Lib.extract_eq, h, List.take_of_length_le (by rw [← h]; simp)]
  have : (l ++ c :: r).drop (l.length + 1) = r := by
    rw [show l.length + 1 = l.length + 1 from rfl, List.drop_append]
    simp
  rw [this]

theorem ahead_e {t : ByteArray} {l r : List UInt8} {c : UInt8} (h : t.data.toList = l ++ c :: r) (hl : ∀ x ∈ l, isE x = false) (hc : isE c = true) :
    aheadK t (kT t) = (expP ⟨r.toArray⟩).map fun x => (⟨l.toArray⟩, x) := by
  unfold aheadK kT
  rw [h, idxE_app hl hc, if_neg (by omega)]
  rw [Int.toNat_natCast, ext_tl h, ext_head h]
theorem ahead_no {t : ByteArray} (hl : ∀ x ∈ t.data.toList, isE x = false) : aheadK t (kT t) = some (t, 0) := by
  unfold aheadK kT
  rw [idxE_none hl, if_pos (by decide)]
theorem cut_dot {a : ByteArray} {l r : List UInt8} (h : a.data.toList = l ++ 46 :: r) (hl : ∀ x ∈ l, x ≠ 46) : whD a = ⟨l.toArray⟩ ∧ ptD a = ⟨r.toArray⟩ := by
  unfold whD ptD dotJ
  rw [h, dot_app hl, if_neg (by omega), if_neg (by omega), Int.toNat_natCast, ext_head h, ext_tl h]
  exact ⟨rfl, rfl⟩
theorem cut_no {a : ByteArray} (hl : ∀ x ∈ a.data.toList, x ≠ 46) : whD a = a ∧ ptD a = ⟨#[]⟩ := by
  unfold whD ptD dotJ
  rw [dot_none hl]
  exact ⟨rfl, rfl⟩

def okL (l : List UInt8) : Bool := decide (0 < l.length) && decide (l.length ≤ 5000) && l.all isD
theorem okS_okL (s : ByteArray) : okS s 10 = okL s.data.toList := by
  unfold okS okL
  rw [all_isD, Lib.size_eq]
  rfl
theorem app_list (x y : ByteArray) : (x ++ y).data.toList = x.data.toList ++ y.data.toList := by simp
/-- The number of digits ahead of a point and behind it, and an exponent. -/
def numF (w p : List UInt8) (x : Int) : Option (Nat × Int) := if okL (w ++ p) then some (valD (w ++ p), x - p.length) else none
theorem fltA_eq (a : ByteArray) (x : Int) : fltA a x = numF (whD a).data.toList (ptD a).data.toList x := by
  unfold fltA numF
  rw [okS_okL, app_list, numB_valD, app_list, ← Lib.size_eq]
theorem fltA_dot {a : ByteArray} {l r : List UInt8} (x : Int) (h : a.data.toList = l ++ 46 :: r) (hl : ∀ x ∈ l, x ≠ 46) : fltA a x = numF l r x := by
  rw [fltA_eq, (cut_dot h hl).1, (cut_dot h hl).2]
theorem fltA_no {a : ByteArray} (x : Int) (hl : ∀ x ∈ a.data.toList, x ≠ 46) : fltA a x = numF a.data.toList [] x := by
  rw [fltA_eq, (cut_no hl).1, (cut_no hl).2]

theorem dig_E {l : List UInt8} (h : l.all isD = true) : ∀ x ∈ l, isE x = false := by
  intro x hx
  have := isD_iff.1 (List.all_eq_true.1 h x hx)
  unfold isE eE
  cases e : [101, 69].contains x
  · rfl
  · have : x = 101 ∨ x = 69 := by simpa using e
    rcases this with rfl | rfl
    · have h2 : ((101 : UInt8).toNat : Int) = 101 := rfl
      omega
    · have h2 : ((69 : UInt8).toNat : Int) = 69 := rfl
      omega
theorem dig_dot {l : List UInt8} (h : l.all isD = true) : ∀ x ∈ l, x ≠ 46 := by
  rintro x hx rfl
  have := isD_iff.1 (List.all_eq_true.1 h _ hx)
  have h2 : ((46 : UInt8).toNat : Int) = 46 := rfl
  omega

/-- Digits, a point, digits, e, an exponent. -/
theorem flt_full {t : ByteArray} {w p u : List UInt8} {c : UInt8} (h : t.data.toList = w ++ 46 :: (p ++ c :: u)) (hw : w.all isD = true) (hp : p.all isD = true) (hc : isE c = true) :
    fltK t (kT t) = (expP ⟨u.toArray⟩).bind fun x => numF w p x := by
  have h' : t.data.toList = (w ++ 46 :: p) ++ c :: u := by rw [h]; simp
  have hl : ∀ x ∈ w ++ 46 :: p, isE x = false := by
    intro x hx
    rw [List.mem_append, List.mem_cons] at hx
    rcases hx with hx | rfl | hx
    · exact dig_E hw x hx
    · rfl
    · exact dig_E hp x hx
  unfold fltK
  rw [ahead_e h' hl hc]
  cases expP ⟨u.toArray⟩ with
  | none => rfl
  | some x =>
    show fltA ⟨(w ++ 46 :: p).toArray⟩ x = numF w p x
    exact fltA_dot x rfl (dig_dot hw)
theorem flt_we {t : ByteArray} {w u : List UInt8} {c : UInt8} (h : t.data.toList = w ++ c :: u) (hw : w.all isD = true) (hc : isE c = true) :
    fltK t (kT t) = (expP ⟨u.toArray⟩).bind fun x => numF w [] x := by
  unfold fltK
  rw [ahead_e h (dig_E hw) hc]
  cases expP ⟨u.toArray⟩ with
  | none => rfl
  | some x =>
    show fltA ⟨w.toArray⟩ x = numF w [] x
    exact fltA_no x (dig_dot hw)
theorem flt_wp {t : ByteArray} {w p : List UInt8} (h : t.data.toList = w ++ 46 :: p) (hw : w.all isD = true) (hp : p.all isD = true) :
    fltK t (kT t) = numF w p 0 := by
  unfold fltK
  rw [ahead_no (by
    rw [h]
    intro x hx
    rw [List.mem_append, List.mem_cons] at hx
    rcases hx with hx | rfl | hx
    · exact dig_E hw x hx
    · rfl
    · exact dig_E hp x hx)]
  exact fltA_dot 0 h (dig_dot hw)
theorem flt_w {t : ByteArray} (hw : t.data.toList.all isD = true) : fltK t (kT t) = numF t.data.toList [] 0 := by
  unfold fltK
  rw [ahead_no (dig_E hw)]
  exact fltA_no 0 (dig_dot hw)

/-- A number that is moved by noughts is the same. -/
theorem tz_mul {n : Nat} (h : 0 < n) (k : Nat) : tz (n * 10 ^ k) = tz n + k := by
  obtain ⟨a, b⟩ := tz_spec n h
  have hd : ∀ j, n * 10 ^ k / 10 ^ (j + k) = n / 10 ^ j := by
    intro j
    rw [Nat.pow_add, ← Nat.div_div_eq_div_mul, Nat.div_div_eq_div_mul, Nat.mul_comm (10 ^ j), ← Nat.div_div_eq_div_mul, Nat.mul_div_cancel _ (Nat.pow_pos (by decide))]
  refine tz_eq (fun j hj => ?_) (by rw [hd]; exact b)
  by_cases hk : j < k
  · obtain ⟨m, rfl⟩ : ∃ m, k = j + 1 + m := ⟨k - j - 1, by omega⟩
    have : n * 10 ^ (j + 1 + m) / 10 ^ j = n * 10 ^ m * 10 := by
      rw [show n * 10 ^ (j + 1 + m) = (n * 10 ^ m * 10) * 10 ^ j from by rw [Nat.pow_add, Nat.pow_succ]; simp [Nat.mul_comm, Nat.mul_left_comm, Nat.mul_assoc]]
      exact Nat.mul_div_cancel _ (Nat.pow_pos (by decide))
    rw [this]
    omega
  · obtain ⟨m, rfl⟩ : ∃ m, j = m + k := ⟨j - k, by omega⟩
    rw [hd]
    exact a m (by omega)
theorem numV_move (b : Bool) (n k : Nat) (e : Int) : numV b (n * 10 ^ k) (e - k) = numV b n e := by
  unfold numV
  by_cases h : n = 0
  · subst h; rw [Nat.zero_mul]; rfl
  · have hp : 0 < 10 ^ k := Nat.pow_pos (by decide)
    have h2 : ¬ n * 10 ^ k = 0 := by
      intro e
      rcases Nat.mul_eq_zero.1 e with e | e
      · exact h e
      · omega
    rw [if_neg h, if_neg h2, tz_mul (by omega)]
    have e1 : n * 10 ^ k / 10 ^ (tz n + k) = n / 10 ^ tz n := by
      rw [Nat.pow_add, Nat.mul_comm (10 ^ tz n), ← Nat.div_div_eq_div_mul, Nat.mul_div_cancel _ hp]
    have e2 : e - (k : Int) + ((tz n + k : Nat) : Int) = e + (tz n : Int) := by omega
    rw [e1, e2]
theorem valD_append (l m : List UInt8) : valD (l ++ m) = valD l * 10 ^ m.length + valD m := by
  unfold valD msd
  rw [List.map_append, List.reverse_append, val_append]
  simp [Nat.mul_comm]
  omega
end Go.Proofs.Ytpffegkckejpiaa
set_option maxRecDepth 100000
namespace Go.Proofs.Ytpffegkckejpiaa
open Go.RowKit

theorem mem_tw {p : UInt8 → Bool} {c : UInt8} : ∀ {l : List UInt8}, c ∈ l.takeWhile p → p c = true
  | [], h => by simp at h
  | a :: t, h => by
    rw [List.takeWhile_cons] at h
    split at h
    · rename_i ha
      rcases List.mem_cons.1 h with rfl | h
      · exact ha
      · exact mem_tw h
    · simp at h
def tk (l : List UInt8) : List UInt8 := l.takeWhile isD
def dk (l : List UInt8) : List UInt8 := l.dropWhile isD
theorem tk_dk (l : List UInt8) : l = tk l ++ dk l := (List.takeWhile_append_dropWhile).symm
theorem tk_all (l : List UInt8) : (tk l).all isD = true := by
  unfold tk
  rw [List.all_eq_true]
  intro c hc
  exact mem_tw hc
theorem dk_head {l : List UInt8} {c : UInt8} {r : List UInt8} (h : dk l = c :: r) : isD c = false := by
  unfold dk at h
  have := List.head_dropWhile_not isD (l := l) (by rw [h]; simp)
  simpa [h] using this
theorem numF_bad {w p : List UInt8} {c : UInt8} (x : Int) (h : c ∈ w ++ p) (hc : isD c = false) : numF w p x = none := by
  unfold numF okL
  have : (w ++ p).all isD = false := by
    cases e : (w ++ p).all isD
    · rfl
    · rw [List.all_eq_true.1 e c h] at hc; cases hc
  rw [this]
  simp
theorem ahead_pre {t : ByteArray} {l u : List UInt8} {c : UInt8} (h : t.data.toList = l ++ c :: u) (hl : ∀ x ∈ l, isE x = false) (hc : isE c = false) :
    aheadK t (kT t) = none ∨ ∃ u' x, aheadK t (kT t) = some (⟨(l ++ c :: u').toArray⟩, x) := by
  have hs : u = u.takeWhile (fun x => !isE x) ++ u.dropWhile (fun x => !isE x) := (List.takeWhile_append_dropWhile).symm
  have hno : ∀ x ∈ l ++ c :: u.takeWhile (fun x => !isE x), isE x = false := by
    intro x hx
    rw [List.mem_append, List.mem_cons] at hx
    rcases hx with hx | rfl | hx
    · exact hl x hx
    · exact hc
    · have := mem_tw hx
      simpa using this
  cases hd : u.dropWhile (fun x => !isE x) with
  | nil =>
    rw [hd, List.append_nil] at hs
    right
    refine ⟨u, 0, ?_⟩
    rw [ahead_no (by rw [h]; rw [← hs] at hno; exact hno), ← h, Lib.mk_data]
  | cons e u2 =>
    have he : isE e = true := by
      have := List.head_dropWhile_not (fun x => !isE x) (l := u) (by rw [hd]; simp)
      simpa [hd] using this
    rw [hd] at hs
    have h' : t.data.toList = (l ++ c :: u.takeWhile (fun x => !isE x)) ++ e :: u2 := by
      rw [h]
      conv => lhs; rw [hs]
      simp
    rw [ahead_e h' hno he]
    cases expP ⟨u2.toArray⟩ with
    | none => exact .inl rfl
    | some x => exact .inr ⟨_, x, rfl⟩
/-- A sign that stands neither for a digit nor for a point nor for e, behind digits. -/
theorem flt_bad1 {t : ByteArray} {w u : List UInt8} {c : UInt8} (h : t.data.toList = w ++ c :: u) (hw : w.all isD = true) (hD : isD c = false) (hE : isE c = false) (h46 : c ≠ 46) : fltK t (kT t) = none := by
  unfold fltK
  rcases ahead_pre h (dig_E hw) hE with e | ⟨u', x, e⟩
  · rw [e]; rfl
  · rw [e]
    show fltA ⟨(w ++ c :: u').toArray⟩ x = none
    by_cases hdot : (46 : UInt8) ∈ u'
    · obtain ⟨a, b, rfl, ha⟩ := List.append_of_mem hdot |> fun ⟨a, b, e⟩ => (⟨u'.takeWhile (fun x => x != 46), (u'.dropWhile (fun x => x != 46)).drop 1, by
        have h1 : u' = u'.takeWhile (fun x => x != 46) ++ u'.dropWhile (fun x => x != 46) := (List.takeWhile_append_dropWhile).symm
        cases hd : u'.dropWhile (fun x => x != 46) with
        | nil =>
          rw [hd, List.append_nil] at h1
          rw [h1] at hdot
          have := mem_tw hdot
          simp at this
        | cons y z =>
          have hy : y = 46 := by
            have := List.head_dropWhile_not (fun x => x != 46) (l := u') (by rw [hd]; simp)
            simpa [hd] using this
          rw [hd] at h1
          rw [hy] at h1
          exact h1, fun x hx => by have := mem_tw hx; simpa using this⟩ : ∃ a b, u' = a ++ 46 :: b ∧ ∀ x ∈ a, x ≠ 46)
      have hl : ∀ x ∈ w ++ c :: a, x ≠ 46 := by
        intro x hx
        rw [List.mem_append, List.mem_cons] at hx
        rcases hx with hx | rfl | hx
        · exact dig_dot hw x hx
        · exact h46
        · exact ha x hx
      rw [fltA_dot x (l := w ++ c :: a) (r := b) (by simp) hl]
      exact numF_bad x (c := c) (by simp) hD
    · have hl : ∀ x ∈ (⟨(w ++ c :: u').toArray⟩ : ByteArray).data.toList, x ≠ 46 := by
        intro x hx
        have hx' : x ∈ w ++ c :: u' := hx
        rw [List.mem_append, List.mem_cons] at hx'
        rcases hx' with hx' | rfl | hx'
        · exact dig_dot hw x hx'
        · exact h46
        · rintro rfl
          exact hdot hx'
      rw [fltA_no x hl]
      exact numF_bad x (c := c) (by simp) hD
/-- The same behind a point. -/
theorem flt_bad2 {t : ByteArray} {w p u : List UInt8} {c : UInt8} (h : t.data.toList = w ++ 46 :: (p ++ c :: u)) (hw : w.all isD = true) (hp : p.all isD = true) (hD : isD c = false) (hE : isE c = false) : fltK t (kT t) = none := by
  have h' : t.data.toList = (w ++ 46 :: p) ++ c :: u := by rw [h]; simp
  have hl : ∀ x ∈ w ++ 46 :: p, isE x = false := by
    intro x hx
    rw [List.mem_append, List.mem_cons] at hx
    rcases hx with hx | rfl | hx
    · exact dig_E hw x hx
    · rfl
    · exact dig_E hp x hx
  unfold fltK
  rcases ahead_pre h' hl hE with e | ⟨u', x, e⟩
  · rw [e]; rfl
  · rw [e]
    show fltA ⟨((w ++ 46 :: p) ++ c :: u').toArray⟩ x = none
    rw [fltA_dot x (l := w) (r := p ++ c :: u') (by simp) (dig_dot hw)]
    exact numF_bad x (c := c) (by simp) hD
end Go.Proofs.Ytpffegkckejpiaa
set_option maxRecDepth 100000
namespace Go.Proofs.Ytpffegkckejpiaa
open Go.RowKit

def SgOf (sg : List UInt8) (b : Bool) : Prop := (sg = [] ∧ b = false) ∨ (sg = [43] ∧ b = false) ∨ (sg = [45] ∧ b = true)
theorem rest_list {s : ByteArray} {c : UInt8} {r : List UInt8} (h : s.data.toList = c :: r) : s.extract 1 s.size = ⟨r.toArray⟩ := by
  have := ext_tl (t := s) (l := []) (r := r) (c := c) h
  simpa using this
theorem sg_split {s : ByteArray} {sg r : List UInt8} {b : Bool} (h : SgOf sg b) (hl : s.data.toList = sg ++ r) (hr : r.head? ≠ some 43 ∧ r.head? ≠ some 45) : negB s = b ∧ restB s = ⟨r.toArray⟩ := by
  unfold negB restB sgB
  rcases h with ⟨rfl, rfl⟩ | ⟨rfl, rfl⟩ | ⟨rfl, rfl⟩
  · have hl' : s.data.toList = r := hl
    rw [hl']
    have a1 : (r.head? == some 45) = false := beq_false_of_ne hr.2
    have a2 : (r.head? == some 43) = false := beq_false_of_ne hr.1
    rw [a1, a2]
    refine ⟨rfl, ?_⟩
    show s = _
    rw [← Lib.mk_data s, hl]
    rfl
  · rw [hl]
    refine ⟨rfl, ?_⟩
    show s.extract 1 s.size = _
    exact rest_list hl
  · rw [hl]
    refine ⟨rfl, ?_⟩
    show s.extract 1 s.size = _
    exact rest_list hl
theorem dig_head {r : List UInt8} (hd : r.all isD = true) : r.head? ≠ some 43 ∧ r.head? ≠ some 45 ∧ r.head? ≠ some 46 := by
  cases r with
  | nil => simp
  | cons c t =>
    rw [List.all_cons, Bool.and_eq_true] at hd
    have := isD_iff.1 hd.1
    refine ⟨?_, ?_, ?_⟩
    all_goals
      intro e
      have e' := Option.some.inj (show some c = some _ from e)
      rw [e'] at this
      revert this
      decide
theorem pre_no {s : ByteArray} {a b : UInt8} (h : ∀ x ∈ s.data.toList, x ≠ b) : Lib.hasPrefix s.data.toList [a, b] = false := by
  unfold Lib.hasPrefix
  cases e : List.isPrefixOf [a, b] s.data.toList
  · rfl
  · have := (List.isPrefixOf_iff_prefix.1 e).subset (show b ∈ [a, b] by simp)
    exact absurd rfl (h b this)
theorem list_dot {t : ByteArray} (h : t.data.toList.head? ≠ some 46) : isInf t = false ∧ isNan t = false := by
  have hh : ∀ l : List UInt8, (t.toList == 46 :: l) = false := by
    intro l
    apply beq_false_of_ne
    intro e
    rw [Lib.toList_data] at e
    rw [e] at h
    exact h rfl
  unfold isInf isNan
  rw [hh, hh, hh, hh, hh, hh]
  exact ⟨rfl, rfl⟩
theorem sg_chars {sg : List UInt8} {b : Bool} (h : SgOf sg b) {x : UInt8} (hx : x ∈ sg) : x = 43 ∨ x = 45 := by
  rcases h with ⟨rfl, rfl⟩ | ⟨rfl, rfl⟩ | ⟨rfl, rfl⟩
  · cases hx
  · left; simpa using hx
  · right; simpa using hx
theorem dig_ne {l : List UInt8} (h : l.all isD = true) (c : UInt8) (hc : isD c = false) : ∀ x ∈ l, x ≠ c := by
  rintro x hx rfl
  rw [List.all_eq_true.1 h x hx] at hc
  cases hc

/-- A sign and digits: Int. -/
theorem int_digits {s : ByteArray} {sg r : List UInt8} {b : Bool} (h : SgOf sg b) (hl : s.data.toList = sg ++ r) (hd : r.all isD = true) (h0 : 0 < r.length) (h1 : r.length ≤ 5000) (hb : b = true → valD r ≠ 0) :
    intV s = .tuple #[numV b (valD r) 0, .bool true] := by
  have hh := dig_head hd
  obtain ⟨e1, e2⟩ := sg_split h hl ⟨hh.1, hh.2.1⟩
  have hx : ∀ c : UInt8, isD c = false → c ≠ 43 → c ≠ 45 → ∀ x ∈ s.data.toList, x ≠ c := by
    intro c hc h3 h4 x hx
    rw [hl, List.mem_append] at hx
    rcases hx with hx | hx
    · rintro rfl
      rcases sg_chars h hx with e | e
      · exact h3 e
      · exact h4 e
    · exact dig_ne hd c hc x hx
  have p1 : preO s = false := pre_no (hx 111 (by decide) (by decide) (by decide))
  have p2 : preX s = false := pre_no (hx 120 (by decide) (by decide) (by decide))
  have eb : bodyOf s = ⟨r.toArray⟩ := by unfold bodyOf; rw [p1, p2, ← e2]; rfl
  have ec : baseOf s = 10 := by unfold baseOf; rw [p1, p2]; rfl
  unfold intV
  rw [eb, ec, e1]
  have ok : okS (⟨r.toArray⟩ : ByteArray) ((10 : Nat) : Int) = true := by
    show okS _ 10 = true
    rw [okS_okL]
    unfold okL
    simp [hd, h0, h1]
  rw [ok]
  have en : numB (⟨r.toArray⟩ : ByteArray) 10 = valD r := rfl
  rw [en]
  have eb2 : (b && decide (valD r ≠ 0)) = b := by
    cases b
    · rfl
    · simp [hb rfl]
  rw [eb2]
  rfl

/-- A sign, and what Float reads. -/
theorem float_of {s : ByteArray} {sg r : List UInt8} {b : Bool} (h : SgOf sg b) (hl : s.data.toList = sg ++ r) (hr : r.head? ≠ some 43 ∧ r.head? ≠ some 45 ∧ r.head? ≠ some 46) :
    floatV s (kE s) = fltV b (fltK ⟨r.toArray⟩ (kT ⟨r.toArray⟩)) := by
  obtain ⟨e1, e2⟩ := sg_split h hl ⟨hr.1, hr.2.1⟩
  unfold floatV kE
  rw [e1, e2]
  have i1 := (list_dot (t := ⟨r.toArray⟩) hr.2.2).1
  have i2 : isNan s = false := by
    refine (list_dot ?_).2
    rw [hl]
    rcases h with ⟨rfl, rfl⟩ | ⟨rfl, rfl⟩ | ⟨rfl, rfl⟩
    · exact hr.2.2
    · show some (43 : UInt8) ≠ some 46
      decide
    · show some (45 : UInt8) ≠ some 46
      decide
  rw [i1, i2]
  rfl
theorem valD_zeros (k : Nat) (d : List UInt8) : valD (List.replicate k 48 ++ d) = valD d := by
  induction k with
  | zero => rfl
  | succ k ih => rw [List.replicate_succ, List.cons_append, valD_zero, ih]
theorem zeros_isD (k : Nat) : (List.replicate k (48 : UInt8)).all isD = true := by
  induction k with
  | zero => rfl
  | succ k ih => rw [List.replicate_succ, List.all_cons, ih]; rfl
theorem exp_zero : expP ⟨[48].toArray⟩ = some 0 := by decide +kernel

/-- Whole numbers, with three noughts behind a point, and an exponent that is nought. -/
theorem float_ints {s : ByteArray} {sg r : List UInt8} {b : Bool} (h : SgOf sg b) (hl : s.data.toList = sg ++ (r ++ [46, 48, 48, 48, 101, 48])) (hd : r.all isD = true) (h0 : 0 < r.length) (h1 : r.length ≤ 4000) :
    floatV s (kE s) = .tuple #[numV b (valD r) 0, .bool true] := by
  have hne : r ≠ [] := by rintro rfl; simp at h0
  have hh := dig_head hd
  have hr : (r ++ [46, 48, 48, 48, 101, 48]).head? = r.head? := by
    cases r with
    | nil => exact absurd rfl hne
    | cons c t => rfl
  rw [float_of h hl (by rw [hr]; exact hh)]
  have hf := flt_full (t := (⟨(r ++ [46, 48, 48, 48, 101, 48]).toArray⟩ : ByteArray)) (w := r) (p := [48, 48, 48]) (u := [48]) (c := 101) rfl hd (by decide) (by decide)
  rw [hf, exp_zero]
  show fltV b (numF r [48, 48, 48] 0) = _
  unfold numF
  have ok : okL (r ++ [48, 48, 48]) = true := by
    unfold okL
    rw [List.all_append, hd]
    simp
    exact ⟨by omega, by decide⟩
  rw [ok]
  show Value.tuple #[numV b (valD (r ++ [48, 48, 48])) (0 - 3), .bool true] = _
  rw [valD_append, show valD [48, 48, 48] = 0 from by decide]
  have := numV_move b (valD r) 3 0
  have e3 : (0 : Int) - ((3 : Nat) : Int) = 0 - 3 := by decide
  rw [e3] at this
  rw [show ([48, 48, 48] : List UInt8).length = 3 from rfl, Nat.add_zero, this]

theorem dec_some (n : Nat) : 0 < (decB n).size := by
  rw [dec_sz]
  unfold dl
  split
  · simp
  · rw [carP_pos (by decide) (by omega)]; simp

/-- How many noughts are taken off. -/
def Zn (m : Nat) : Nat := if m = 0 then 0 else tz m
theorem numV_Z (b : Bool) (m : Nat) : numV b m 0 = .agg #[.bool b, .string (decB (m / 10 ^ Zn m)), .int .i64 (Zn m), .int .i64 0] := by
  unfold numV Zn
  split
  · rename_i h
    subst h
    rw [Nat.zero_div, dec_zero]
    rfl
  · rw [Int.zero_add]
theorem Zn_lt {m z : Nat} (h : z < Zn m) : 0 < m / 10 ^ z ∧ m / 10 ^ z % 10 = 0 := by
  unfold Zn at h
  split at h
  · omega
  · rename_i hm
    have hm0 : 0 < m := by omega
    refine ⟨?_, (tz_spec m hm0).1 z h⟩
    have h1 := quot_pos hm0
    have h2 : m / 10 ^ tz m ≤ m / 10 ^ z := Nat.div_le_div_left (Nat.pow_le_pow_right (by decide) (by omega)) (Nat.pow_pos (by decide))
    exact Nat.lt_of_lt_of_le h1 h2
theorem Zn_end (m : Nat) : m / 10 ^ Zn m = 0 ∨ m / 10 ^ Zn m % 10 ≠ 0 := by
  unfold Zn
  split
  · rename_i h
    subst h
    left; rfl
  · rename_i h
    exact .inr (tz_spec m (by omega)).2
end Go.Proofs.Ytpffegkckejpiaa
