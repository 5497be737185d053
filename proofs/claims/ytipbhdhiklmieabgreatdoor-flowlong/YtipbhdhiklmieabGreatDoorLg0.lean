/- One line, in plain terms. -/
import Derived.Test.YtipbhdhiklmieabGreatDoorZBC
set_option linter.unusedVariables false
set_option linter.unusedSimpArgs false
namespace Go.Proofs.YtipbhdhiklmieabGreatDoor
open Go.RowKit Go.Shelf
open P3 (endP upTo_none cuts_last linesP lineP pieceOf cutsAt inP)
/-- A text of one line. -/
theorem lps_one {t : List Int} (h0 : 0 < t.length) (hn : ∀ j, j < t.length → endP (iAt t j) = false) (h32 : iAt t 0 ≠ 32) : lpsO t = [⟨0, t⟩] := by
  have hu := upTo_none (t := t) (f := 0) (Nat.zero_le _) (fun j _ hj => hn j hj)
  have hc : cutsAt t 0 = [(0, t.length)] := by
    have := cuts_last (l := t) (k := 0) h0 (by rw [hu]; omega)
    simpa using this
  have hi : inP t = 0 := by
    refine P10.run_eq _ _ 0 (Nat.zero_le _) (fun j hj => by omega) (fun _ => ?_)
    show decide (iAt t 0 = 32) = false
    simpa using h32
  unfold lpsO linesP
  rw [hc]
  simp [lineP, pieceOf, hi]
section
variable {t : List Int} {d : Int}
/-- The one line. -/
def one (t : List Int) : List Lp := [⟨0, t⟩]
theorem rst_one (t : List Int) (k : Nat) : rst (one t) ⟨0, k⟩ = t.drop k := rfl
theorem hd_one {k : Nat} (hk : k < t.length) : hd (one t) ⟨0, k⟩ = iAt t k := by
  show (t.drop k).headD 0 = iAt t k
  simp [iAt, List.headD_eq_head?_getD, List.head?_drop]
theorem past_here {k : Nat} (hk : k < t.length) (hb : blankP (iAt t k) = false) : orc.past (t.drop k) = 0 := by
  show P10.run blankP (t.drop k) = 0
  refine P10.run_eq _ _ 0 (Nat.zero_le _) (fun j hj => by omega) (fun _ => ?_)
  have : iAt (t.drop k) 0 = iAt t k := by simp [iAt]
  rw [this]
  exact hb
theorem nex_here {k : Nat} (hk : k < t.length) (hb : blankP (iAt t k) = false) (h35 : iAt t k ≠ 35) (n : Int) : nexW orc (one t) n ⟨0, k⟩ = .ok (some ⟨0, k⟩) := by
  have hp : pasW orc (one t) ⟨0, k⟩ = ⟨0, k⟩ := by
    show Pl.plus ⟨0, k⟩ (orc.past (rst (one t) ⟨0, k⟩)) = _
    rw [rst_one, past_here hk hb]
    rfl
  have hl : linW orc (one t) ⟨0, k⟩ = false := by
    unfold linW
    rw [hd_one hk, rst_one]
    have hz : decide ((t.drop k).length = 0) = false := decide_eq_false (by rw [List.length_drop]; omega)
    have h3 : decide (iAt t k = 35) = false := decide_eq_false h35
    rw [hz, h3]
    rfl
  show nexF orc (one t) n 1 ⟨0, k⟩ true = _
  rw [nexF]
  split
  · rename_i h
    exact absurd h (by simp [one])
  · rename_i x h
    rw [if_neg (by simp), hp, hl]
    simp
theorem sta_here {k : Nat} {c : Int} (hk : k < t.length) : staW (one t) ⟨0, k⟩ c = decide (iAt t k = c) := by
  unfold staW
  rw [hd_one hk, rst_one]
  have hz : decide (0 < (t.drop k).length) = true := decide_eq_true (by rw [List.length_drop]; omega)
  rw [hz]
  rfl
theorem gon_here {k : Nat} (hk : k < t.length) (hb : blankP (iAt t k) = false) (h35 : iAt t k ≠ 35) (n : Int) : gonW orc (one t) n ⟨0, k⟩ = .ok ⟨0, k⟩ := by
  unfold gonW
  rw [nex_here hk hb h35]
theorem alo_no {k : Nat} {c : Int} (hk : k < t.length) (h : iAt t k ≠ c) : aloW orc (one t) ⟨0, k⟩ c = false := by
  unfold aloW
  rw [sta_here hk]
  simp [h]
/-- A sign that opens. -/
theorem beg_open {k : Nat} {c : Int} (hk : k < t.length) (hc : iAt t k = c) (h : c = 91 ∨ c = 123) (s : St) (hp : s.p = ⟨0, k⟩) (n : Int) : begW orc (one t) n d false s = opeW d s hs0 c := by
  have hb : blankP (iAt t k) = false := by rw [hc]; rcases h with rfl | rfl <;> decide
  have h35 : iAt t k ≠ 35 := by rw [hc]; rcases h with rfl | rfl <;> decide
  have e : proF orc (one t) n 3 s.p hs0 = .ok (hs0, true, ⟨0, k⟩) := by
    rw [hp, proF, nex_here hk hb h35]
    simp only [hd_one hk, hc]
    rcases h with rfl | rfl <;> rfl
  have hs : ({ s with p := ⟨0, k⟩ } : St) = s := by rw [← hp]
  unfold begW
  rw [e]
  simp only [hd_one hk, hc, hs]
  rcases h with rfl | rfl <;> rfl
theorem nex_blank {k : Nat} (hk : k + 1 < t.length) (h : iAt t k = 32) (hb : blankP (iAt t (k + 1)) = false) (h35 : iAt t (k + 1) ≠ 35) (n : Int) : nexW orc (one t) n ⟨0, k⟩ = .ok (some ⟨0, k + 1⟩) := by
  have hpa : orc.past (t.drop k) = 1 := by
    show P10.run blankP (t.drop k) = 1
    refine P10.run_eq _ _ 1 (by rw [List.length_drop]; omega) (fun j hj => ?_) (fun _ => ?_)
    · have : iAt (t.drop k) j = iAt t k := by
        obtain rfl : j = 0 := by omega
        simp [iAt]
      rw [this, h]
      decide
    · have : iAt (t.drop k) 1 = iAt t (k + 1) := by simp [iAt]
      rw [this]
      exact hb
  have hp : pasW orc (one t) ⟨0, k⟩ = ⟨0, k + 1⟩ := by
    show Pl.plus ⟨0, k⟩ (orc.past (rst (one t) ⟨0, k⟩)) = _
    rw [rst_one, hpa]
    rfl
  have hl : linW orc (one t) ⟨0, k + 1⟩ = false := by
    unfold linW
    rw [hd_one hk, rst_one]
    have hz : decide ((t.drop (k + 1)).length = 0) = false := decide_eq_false (by rw [List.length_drop]; omega)
    have h3 : decide (iAt t (k + 1) = 35) = false := decide_eq_false h35
    rw [hz, h3]
    rfl
  show nexF orc (one t) n 1 ⟨0, k⟩ true = _
  rw [nexF]
  split
  · rename_i h
    exact absurd h (by simp [one])
  · rename_i x h
    rw [if_neg (by simp), hp, hl]
    simp
end
end Go.Proofs.YtipbhdhiklmieabGreatDoor
