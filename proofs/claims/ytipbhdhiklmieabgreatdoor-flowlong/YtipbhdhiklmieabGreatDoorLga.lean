/- A word of letters on one line, in plain terms. -/
import Derived.Test.YtipbhdhiklmieabGreatDoorLg0
set_option linter.unusedVariables false
set_option linter.unusedSimpArgs false
namespace Go.Proofs.YtipbhdhiklmieabGreatDoor
open Go.RowKit Go.Shelf

theorem iAt_drop (t : List Int) (k j : Nat) : iAt (t.drop k) j = iAt t (k + j) := by simp [iAt]
/-- A small letter. -/
def Ltr (c : Int) : Prop := 97 ≤ c ∧ c ≤ 122
theorem Ltr.is {c : Int} (h : Ltr c) : blankP c = false ∧ flowP c = false ∧ nameP c = true ∧ signP c = false ∧ c ≠ 58 ∧ c ≠ 35 := by
  obtain ⟨a, b⟩ := h
  have : c = 97 ∨ c = 98 ∨ c = 99 ∨ c = 100 ∨ c = 101 ∨ c = 102 ∨ c = 103 ∨ c = 104 ∨ c = 105 ∨ c = 106 ∨ c = 107 ∨ c = 108 ∨ c = 109 ∨ c = 110 ∨ c = 111 ∨ c = 112 ∨ c = 113 ∨ c = 114 ∨ c = 115 ∨ c = 116 ∨ c = 117 ∨ c = 118 ∨ c = 119 ∨ c = 120 ∨ c = 121 ∨ c = 122 := by omega
  rcases this with rfl | rfl | rfl | rfl | rfl | rfl | rfl | rfl | rfl | rfl | rfl | rfl | rfl | rfl | rfl | rfl | rfl | rfl | rfl | rfl | rfl | rfl | rfl | rfl | rfl | rfl <;> decide
/-- A word. -/
structure Wd (t : List Int) (k m : Nat) (fl : Bool) : Prop where
  pos : 0 < m
  lt : k + m < t.length
  ltr : ∀ j, j < m → Ltr (iAt t (k + j))
  nb : blankP (iAt t (k + m)) = false
  st : P9.enAt (t.drop k) fl m = true
section
variable {t : List Int} {d : Int} {k m : Nat} {fl : Bool}
theorem Wd.en (h : Wd t k m fl) : P9.endP (t.drop k) fl = m := by
  have h1 : P9.stopP (t.drop k) fl = m := by
    refine P9.stop_eq (by rw [List.length_drop]; have := h.lt; omega) (fun j hj => ?_) (fun _ => h.st)
    show P9.enP _ (iAt (t.drop k) j) _ fl = false
    rw [iAt_drop]
    obtain ⟨-, l2, -, -, l5, l6⟩ := (h.ltr j hj).is
    unfold P9.enP
    rw [if_neg l5, if_neg l6, l2, Bool.and_false]
  unfold P9.endP
  rw [h1]
  obtain ⟨m', rfl⟩ : ∃ m', m = m' + 1 := ⟨m - 1, by have := h.pos; omega⟩
  rw [P9.trimP, iAt_drop, (h.ltr m' (by omega)).is.1]
  rfl
theorem Wd.hd (h : Wd t k m fl) : Ltr (iAt t k) := by have := h.ltr 0 h.pos; simpa using this
theorem Wd.beg (h : Wd t k m fl) : P9.begP (t.drop k) fl = true := by
  unfold P9.begP P9.safeP
  have h0 : iAt (t.drop k) 0 = iAt t k := by rw [iAt_drop]; rfl
  have h1 : decide (0 < (t.drop k).length) = true := decide_eq_true (by rw [List.length_drop]; have := h.lt; omega)
  obtain ⟨-, -, l3, l4, l5, -⟩ := h.hd.is
  have := h.hd
  unfold Ltr at this
  rw [h0, h1, l3, if_neg (by omega), l4]
  rfl
theorem Wd.pln (h : Wd t k m fl) (n : Int) : plnF orc (one t) n fl 2 ⟨0, k⟩ ⟨0, k⟩ [] = ([(t.drop k).take m], ⟨0, k + m⟩) := by
  have he : orc.pEnd fl (t.drop k) = m := h.en
  have hlt := h.lt
  have hf : furW orc (one t) n fl ⟨0, k + m⟩ = none := by
    show furF orc (one t) n fl ⟨0, k + m⟩ 1 ⟨0, k + m⟩ = none
    rw [furF]
    have hp : pasW orc (one t) ⟨0, k + m⟩ = ⟨0, k + m⟩ := by
      show Pl.plus ⟨0, k + m⟩ (orc.past (rst (one t) ⟨0, k + m⟩)) = _
      rw [rst_one, past_here hlt h.nb]
      rfl
    split
    · rfl
    · rw [hp, rst_one, if_neg (by rw [List.length_drop]; omega), if_pos (.inl rfl)]
  rw [plnF]
  simp only [rst_one, he]
  have : (⟨0, k⟩ : Pl).plus m = ⟨0, k + m⟩ := rfl
  rw [this, hf]
  simp
/-- A word is read. -/
theorem Wd.begW (h : Wd t k m fl) {blk : Bool} {s : St} (hp : s.p = ⟨0, k⟩) (hw : (!blk || decide (0 < s.op.length)) = fl) (n : Int) : begW orc (one t) n d blk s = .ok (scaW orc { s with p := ⟨0, k + m⟩ } hs0 (orc.fold [(t.drop k).take m]) 1) := by
  have hkl : k < t.length := by have := h.lt; omega
  have hc := h.hd
  obtain ⟨l1, -, -, -, -, l6⟩ := hc.is
  unfold Ltr at hc
  have ep : proF orc (one t) n 3 s.p hs0 = .ok (hs0, true, ⟨0, k⟩) := by
    rw [hp, proF, nex_here hkl l1 l6]
    simp only [hd_one hkl]
    rw [if_neg (by omega), if_neg (by omega)]
  have hs : ({ s with p := ⟨0, k⟩ } : St) = s := by rw [← hp]
  unfold Go.Proofs.YtipbhdhiklmieabGreatDoor.begW
  rw [ep]
  simp only [hd_one hkl, hs]
  rw [if_neg (by omega), if_neg (by omega), if_neg (by omega), hw, rst_one, if_pos (show orc.begins fl (t.drop k) = true from h.beg)]
  unfold plnW
  rw [hp, show (one t).length + 1 = 2 from rfl, h.pln]
end
section
variable {t : List Int} {k n : Nat}
/-- A key of so many letters, a value of one, and a sign that ends them. -/
structure Kv (t : List Int) (k n : Nat) (e : Int) : Prop where
  pos : 0 < n
  len : k + n + 3 < t.length
  ltr : ∀ j, j < n → iAt t (k + j) = 120
  col : iAt t (k + n) = 58
  bla : iAt t (k + n + 1) = 32
  val : iAt t (k + n + 2) = 98
  cl : iAt t (k + n + 3) = e
theorem key_wd (fl : Bool) (hn : 0 < n) (hl : k + n + 1 < t.length) (h1 : ∀ j, j < n → iAt t (k + j) = 120) (h2 : iAt t (k + n) = 58) (h3 : iAt t (k + n + 1) = 32) : Wd t k n fl := by
  refine ⟨hn, by omega, fun j hj => ?_, by rw [h2]; decide, ?_⟩
  · rw [h1 j hj]; exact ⟨by decide, by decide⟩
  · show P9.enP _ (iAt (t.drop k) n) (P9.bhP (t.drop k) n) fl = true
    have hb : P9.bhP (t.drop k) n = 32 := by
      unfold P9.bhP
      rw [if_pos (by rw [List.length_drop]; omega), iAt_drop, ← Nat.add_assoc, h3]
    rw [iAt_drop, h2, hb]
    unfold P9.enP
    rw [if_pos rfl]
    cases fl <;> decide
theorem Kv.key {e : Int} (h : Kv t k n e) (fl : Bool) : Wd t k n fl := key_wd fl h.pos (by have := h.len; omega) h.ltr h.col h.bla
theorem Kv.value {e : Int} (h : Kv t k n e) (he : e = 93 ∨ e = 125) : Wd t (k + n + 2) 1 true := by
  refine ⟨by decide, by have := h.len; omega, fun j hj => ?_, by rw [show k + n + 2 + 1 = k + n + 3 from rfl, h.cl]; rcases he with rfl | rfl <;> decide, ?_⟩
  · obtain rfl : j = 0 := by omega
    rw [Nat.add_zero, h.val]
    exact ⟨by decide, by decide⟩
  · show P9.enP _ (iAt (t.drop (k + n + 2)) 1) _ true = true
    rw [iAt_drop, show k + n + 2 + 1 = k + n + 3 from rfl, h.cl]
    unfold P9.enP
    rcases he with rfl | rfl <;> rw [if_neg (by decide), if_neg (by decide)] <;> decide
end
end Go.Proofs.YtipbhdhiklmieabGreatDoor
