/- The call of events.Right, told for all rows of events: an answer that a run may lean on. -/
import Derived.Test.YteeanpfhngoobaaGreatZXal
import Derived.Test.YteeanpfhngoobaaGreatZAlv
set_option linter.all false
set_option maxRecDepth 100000
namespace Go.Proofs.YteeanpfhngoobaaGreat.Xk
open Go.RowKit

/-- Cells that are events. -/
def evs : Nat → List Value → Option (List Ev)
  | 0, [] => some []
  | n + 1, .int .i64 k :: .string tx :: .string tg :: .string an :: .int .i64 st :: .bool fl :: r => (match evs n r with | some L => some (⟨k, tx, tg, an, st, fl⟩ :: L) | none => none)
  | _, _ => none
theorem evs_ok : ∀ (n : Nat) (cs : List Value) (L : List Ev), evs n cs = some L → cs = Go.Proofs.YteeanpfhngoobaaGreat.flat L ∧ L.length = n
  | 0, [], L, h => by cases h; exact ⟨rfl, rfl⟩
  | 0, _ :: _, L, h => by cases h
  | n + 1, cs, L, h => by
    unfold evs at h
    split at h
    · cases ‹n + 1 = 0›
    · rename_i n' k tx tg an st fl r he
      split at h
      · rename_i L' hL
        cases h
        cases he
        obtain ⟨h1, h2⟩ := evs_ok n r L' hL
        exact ⟨by rw [h1]; rfl, by simp [h2]⟩
      · cases h
    · cases h
def emptyB (b : ByteArray) : Bool := match b.data.toList with | [] => true | _ => false
theorem emptyB_iff (b : ByteArray) : emptyB b = true ↔ b.toList = [] := by
  rw [ByteArray.toList_eq]
  unfold emptyB
  split
  · rename_i h; simp [h]
  · rename_i h
    simp only [Bool.false_eq_true, false_iff]
    exact fun e => h e
def cleanB (x : Ev) : Bool :=
  if x.k == 1 || x.k == 2 then emptyB x.tx && emptyB x.tg && emptyB x.an && x.st == 0
  else if x.k == 3 || x.k == 5 then emptyB x.tx && x.st == 0
  else if x.k == 4 || x.k == 6 then emptyB x.tx && emptyB x.tg && emptyB x.an && x.st == 0 && !x.fl
  else if x.k == 7 then !x.fl && decide (1 ≤ x.st) && decide (x.st ≤ 5)
  else if x.k == 8 then emptyB x.tx && emptyB x.tg && x.st == 0 && !x.fl && !emptyB x.an
  else false
theorem cleanB_eq (x : Ev) : cleanB x = cleanP x := by
  have e1 := emptyB_iff x.tx
  have e2 := emptyB_iff x.tg
  have e3 := emptyB_iff x.an
  unfold cleanB cleanP
  by_cases h1 : x.k = 1 ∨ x.k = 2
  · rw [if_pos h1, if_pos (by simpa using h1), Bool.eq_iff_iff]
    simp [e1, e2, e3, and_assoc]
  · rw [if_neg h1, if_neg (by simpa using h1)]
    by_cases h2 : x.k = 3 ∨ x.k = 5
    · rw [if_pos h2, if_pos (by simpa using h2), Bool.eq_iff_iff]
      simp [e1, e2, e3, and_assoc]
    · rw [if_neg h2, if_neg (by simpa using h2)]
      by_cases h3 : x.k = 4 ∨ x.k = 6
      · rw [if_pos h3, if_pos (by simpa using h3), Bool.eq_iff_iff]
        simp [e1, e2, e3, and_assoc]
      · rw [if_neg h3, if_neg (by simpa using h3)]
        by_cases h4 : x.k = 7
        · rw [if_pos h4, if_pos (by simpa using h4), Bool.eq_iff_iff]
          simp [e1, e2, e3, and_assoc]
        · rw [if_neg h4, if_neg (by simpa using h4)]
          by_cases h5 : x.k = 8
          · rw [if_pos h5, if_pos (by simpa using h5), Bool.eq_iff_iff]
            simp [e1, e2, ← e3, and_assoc]
          · rw [if_neg h5, if_neg (by simpa using h5)]
def rightB (L : List Ev) : Bool := L.all cleanB && (match rn [0] L with | some [0] => true | _ => false)
theorem rightB_eq (L : List Ev) : rightB L = rightP L := by
  rw [Bool.eq_iff_iff, rightP_iff]
  unfold rightB
  rw [Bool.and_eq_true, show L.all cleanB = L.all cleanP by congr 1; exact funext cleanB_eq]
  refine and_congr Iff.rfl ?_
  split
  · rename_i h; simp [h]
  · rename_i h
    constructor
    · intro h2; cases h2
    · intro h2; exact absurd h2 h
theorem flat_scal : ∀ (L : List Ev) (u : Value), u ∈ Go.Proofs.YteeanpfhngoobaaGreat.flat L → scal u = true
  | [], u, h => by simp [Go.Proofs.YteeanpfhngoobaaGreat.flat] at h
  | x :: L, u, h => by
    rw [Go.Proofs.YteeanpfhngoobaaGreat.flat, List.mem_append] at h
    rcases h with h | h
    · simp only [Ev.c, List.mem_cons, List.mem_nil_iff, or_false] at h
      rcases h with rfl | rfl | rfl | rfl | rfl | rfl <;> rfl
    · exact flat_scal L u h
/-- What Right answers of the rows of events that a slice holds. -/
def rightO (k : Nat) (vs : List Value) (h : HP) : Option (Value × HP) :=
  if k = 19 then match vs with
    | [.slice (some ⟨b, off, none⟩) n _] => (match h.read b off (n * 6) with
      | some cs => (match evs n cs with | some L => if n ≤ 1048576 then some (.bool (rightB L), h) else none | none => none)
      | none => none)
    | [.slice none _ _] => some (.bool true, h)
    | _ => none
  else none
theorem right_fn : ∃ fn, Tryz.prog.funcs[19]? = some fn ∧ (fn.name == "runtime.NumGoroutine") = false ∧ fn.body.isNone = false := ⟨Tryz.f19, Tryz.func19, by kernel_rfl, by kernel_rfl⟩
theorem rightO_ok : HC Tryz.prog rightO := fun k vs h v h1 hx => by
  unfold rightO at hx
  split at hx
  · rename_i hk
    subst hk
    refine ⟨right_fn, fun B w0 m w hw hok => ?_⟩
    have fin : ∀ (q : Option Addr) (L : List Ev) (n c : Nat), n = L.length → L.length ≤ 1048576 → Es w q L → v = .bool (rightP L) → h1 = h → (vs.map (cT m)).toArray = #[.slice q n c] →
        Calls Tryz.prog 19 (vs.map (cT m)).toArray w fun e w' => ∃ m', Ext m m' h.nb ∧ h.nb ≤ h1.nb ∧ e = .returned (cT m' v) ∧ okT m' h1.nb v ∧ WR B w0 m' h1 w' := fun q L n c e1 e2 e3 e4 e5 e6 => by
      rw [e6]
      refine (Right_any q L n c w e1 e2 e3).mono fun e w' hq => ?_
      subst e4
      subst e5
      exact ⟨m, Ext.refl, Nat.le_refl _, by rw [hq.1]; rfl, trivial, hw.on hq.2⟩
    split at hx
    · rename_i b off n c
      split at hx
      · rename_i cs hr
        split at hx
        · rename_i L hL
          split at hx
          · rename_i hn
            cases hx
            obtain ⟨e1, e2⟩ := evs_ok n cs L hL
            obtain ⟨r, hg, hl, hle, hcs⟩ := read_ok hr
            refine fin (some (ca m b off)) L n (room (m b) off) e2.symm (by omega) (es_of fun j u hj => ?_) (by rw [rightB_eq]) rfl rfl
            rw [← e1, hcs] at hj
            have hjn : j < n * 6 := by
              have := (List.getElem?_eq_some_iff.1 hj).1
              simp only [List.length_take, List.length_drop] at this
              omega
            rw [List.getElem?_take_of_lt hjn, List.getElem?_drop] at hj
            have := hw.at_ b r hg hl (off + j) u hj
            rw [← Nat.add_assoc] at this
            rw [this]
            have hs : scal u = true := by
              have hm : u ∈ Go.Proofs.YteeanpfhngoobaaGreat.flat L := by
                rw [← e1, hcs]
                exact List.mem_of_getElem? (i := j) (by rw [List.getElem?_take_of_lt hjn, List.getElem?_drop]; exact hj)
              exact flat_scal L u hm
            cases u <;> first | rfl | (simp [scal] at hs)
          · cases hx
        · cases hx
      · cases hx
    · rename_i n c
      cases hx
      have hk := hok _ (List.mem_singleton.2 rfl)
      obtain ⟨rfl, rfl⟩ : n = 0 ∧ c = 0 := hk
      exact fin none [] 0 0 rfl (by simp) (.inl rfl) (by rw [show rightP [] = true from (rightP_iff _).2 ⟨rfl, rfl⟩]) rfl rfl
    · cases hx
  · cases hx
end Go.Proofs.YteeanpfhngoobaaGreat.Xk
