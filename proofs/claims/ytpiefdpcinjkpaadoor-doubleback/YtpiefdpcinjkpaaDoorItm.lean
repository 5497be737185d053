/- A line as items: each sign, and each escape as what it stands for. In plain terms: what the draft is, and what it is folded and filled to. -/
import Derived.Test.YtpiefdpcinjkpaaDoorOps
import Derived.Test.YtpiefdpcinjkpaaDoorTxt
set_option linter.unusedVariables false
set_option linter.unusedSimpArgs false
namespace Go.Proofs.YtpiefdpcinjkpaaDoor
open Go.RowKit Go.Shelf

abbrev Item := Int × Bool
def drI (x : Item) : Int := if x.2 then 92 else x.1
def softI (x : Item) : Bool := !x.2 && blankP x.1
def hards (l : List Item) : List Int := (l.filter (·.2)).map (·.1)
def keepI (x : Item) : Bool := !(x.2 && x.1 == -1)
theorem hards_app (a b : List Item) : hards (a ++ b) = hards a ++ hards b := by simp [hards]

/-- The items of a line; k: so many signs belong to the one before. -/
def itP (last : Bool) : Nat → List Int → List Item
  | _, [] => []
  | k + 1, _ :: r => itP last k r
  | 0, c :: r => if c = 92 then ((firstP r last).point, true) :: itP last ((firstP r last).size - 1) r else (c, false) :: itP last 0 r
/-- The first fault of a line. -/
def flP (last : Bool) : Nat → List Int → Nat
  | _, [] => 0
  | k + 1, _ :: r => flP last k r
  | 0, c :: r => if c = 92 then (if (firstP r last).fault = 0 then flP last ((firstP r last).size - 1) r else (firstP r last).fault) else flP last 0 r
def opnI (o : Bool) (l : List Item) : Bool := l.foldl (fun o x => if x.2 then x.1 == -1 else o) o

theorem faultOf_flP (last : Bool) : ∀ (l : List Int) (p k : Nat), faultOf (esP last p k l) = flP last k l
  | [], p, k => by simp [esP, flP, faultOf]
  | c :: r, p, k + 1 => by rw [esP, flP]; exact faultOf_flP last r (p + 1) k
  | c :: r, p, 0 => by
    rw [esP, flP]
    by_cases hc : c = 92
    · rw [if_pos hc, if_pos hc]
      by_cases hf : (firstP r last).fault = 0
      · rw [if_pos hf, if_pos hf, ← faultOf_flP last r (p + 1) ((firstP r last).size - 1)]
        unfold faultOf
        rw [List.find?_cons_of_neg (by simp [hf])]
      · rw [if_neg hf, if_neg hf]
        unfold faultOf
        rw [List.find?_cons_of_pos (by simp [hf])]
        rfl
    · rw [if_neg hc, if_neg hc]; exact faultOf_flP last r (p + 1) 0

theorem dsAt_fold (t cur mt : List Int) (es : List (Nat × Esc)) : ∀ i, dsAt t cur mt es i = (es.take i).foldl (dstep t) ⟨cur, mt, false, 0⟩
  | 0 => by simp [dsAt]
  | i + 1 => by
    rw [dsAt]
    cases h : es[i]? with
    | none =>
      have hl : es.length ≤ i := by simpa using h
      rw [List.take_of_length_le (by omega)]
      have := dsAt_fold t cur mt es i
      rw [List.take_of_length_le hl] at this
      exact this
    | some x =>
      rw [List.take_add_one, h, Option.toList_some, List.foldl_append, ← dsAt_fold t cur mt es i]
      rfl

/-- The draft of a line is its items. -/
theorem ds_items (last : Bool) (t : List Int) : ∀ (l : List Int) (p k : Nat) (s : Ds), t.drop p = l → (k = 0 ∧ s.frm ≤ p ∨ s.frm = p + k) → flP last k l = 0 →
    (((esP last p k l).foldl (dstep t) s).line ++ t.drop ((esP last p k l).foldl (dstep t) s).frm = s.line ++ (t.drop s.frm).take (p - s.frm) ++ (itP last k l).map drI) ∧
    ((esP last p k l).foldl (dstep t) s).meant = s.meant ++ hards (itP last k l) ∧ ((esP last p k l).foldl (dstep t) s).opn = opnI s.opn (itP last k l)
  | [], p, k, s, hl, hk, hf => by
    have hlen : t.length ≤ p := by simpa using hl
    simp only [esP, itP, List.foldl_nil, List.map_nil, List.append_nil, hards, List.filter_nil, opnI]
    refine ⟨?_, by simp, trivial⟩
    rw [List.take_of_length_le (by rw [List.length_drop]; omega)]
  | c :: r, p, k + 1, s, hl, hk, hf => by
    have hr : t.drop (p + 1) = r := by rw [← List.drop_drop, hl]; rfl
    have hk' : s.frm = p + (k + 1) := by omega
    have := ds_items last t r (p + 1) k s hr (.inr (by omega)) (by rw [flP] at hf; exact hf)
    rw [esP, itP]
    refine ⟨?_, this.2⟩
    rw [this.1, show p + 1 - s.frm = 0 by omega, show p - s.frm = 0 by omega]
  | c :: r, p, 0, s, hl, hk, hf => by
    have hr : t.drop (p + 1) = r := by rw [← List.drop_drop, hl]; rfl
    have hlt : p < t.length := by
      have := congrArg List.length hl
      rw [List.length_drop, List.length_cons] at this
      omega
    have hfr : s.frm ≤ p := by omega
    rw [flP] at hf
    rw [esP, itP]
    by_cases hc : c = 92
    · rw [if_pos hc] at hf ⊢
      rw [if_pos hc]
      by_cases hz : (firstP r last).fault = 0
      · rw [if_pos hz] at hf ⊢
        have h1 := (firstP_size r last hz).1
        rw [List.foldl_cons]
        have := ds_items last t r (p + 1) ((firstP r last).size - 1) (dstep t s (p, firstP r last)) hr (.inr (by show p + (firstP r last).size = _; omega)) hf
        obtain ⟨i1, i2, i3⟩ := this
        refine ⟨?_, ?_, ?_⟩
        · rw [i1]
          show s.line ++ (t.drop s.frm).take (p - s.frm) ++ [92] ++ (t.drop (p + (firstP r last).size)).take (p + 1 - (p + (firstP r last).size)) ++ _ = _
          rw [show p + 1 - (p + (firstP r last).size) = 0 by omega, List.take_zero, List.append_nil, List.map_cons]
          simp [drI]
        · rw [i2]
          show s.meant ++ [(firstP r last).point] ++ _ = _
          simp [hards]
        · rw [i3]
          show opnI ((firstP r last).point == -1) _ = _
          simp [opnI]
      · rw [if_neg hz] at hf; exact absurd hf hz
    · rw [if_neg hc] at hf ⊢
      rw [if_neg hc]
      obtain ⟨i1, i2, i3⟩ := ds_items last t r (p + 1) 0 s hr (.inl ⟨rfl, by omega⟩) hf
      refine ⟨?_, ?_, ?_⟩
      · rw [i1, List.map_cons]
        have e1 : (t.drop s.frm).take (p + 1 - s.frm) = (t.drop s.frm).take (p - s.frm) ++ [c] := by
          rw [show p + 1 - s.frm = (p - s.frm) + 1 by omega, List.take_add_one, List.getElem?_drop, show s.frm + (p - s.frm) = p by omega]
          have : t[p]? = some c := by
            have := congrArg (·[0]?) hl
            simpa using this
          rw [this]; rfl
        rw [e1]
        simp [drI]
      · rw [i2]; simp [hards]
      · rw [i3]; simp [opnI]

/-- What firstP tells is the line's end just at a line's end. -/
theorem firstP_end (r : List Int) (last : Bool) (hz : (firstP r last).fault = 0) : (firstP r last).point = -1 ↔ r = [] := by
  unfold firstP at hz ⊢
  cases r with
  | nil => cases last <;> simp at hz ⊢
  | cons c r =>
    dsimp only at hz ⊢
    simp only [reduceCtorEq, iff_false]
    split
    · rename_i h1
      rw [if_pos h1] at hz
      exact (numbP_size r (countP c) hz).2.2
    · rename_i h1
      rw [if_neg h1] at hz
      cases hs : shortAt c with
      | none => rw [hs] at hz; simp at hz
      | some p =>
        dsimp only
        unfold shortAt at hs
        obtain ⟨x, hx, rfl⟩ := Option.map_eq_some_iff.1 hs
        have := List.mem_of_find?_eq_some hx
        have all : ∀ x ∈ shortsL, x.2 ≠ -1 := by decide
        exact all x this

/-- The items of a line without fault: the line's end is told last, or nowhere. -/
theorem itP_end (last : Bool) : ∀ (l : List Int) (k : Nat), flP last k l = 0 →
    (∀ o, opnI o (itP last k l) = true → (o = true ∧ ∀ x ∈ itP last k l, x.2 = false) ∨ (∃ u, itP last k l = u ++ [(-1, true)] ∧ (∀ x ∈ u, keepI x = true) ∧ last = false)) ∧
    (∀ o, opnI o (itP last k l) = false → ∀ x ∈ itP last k l, keepI x = true)
  | [], k, _ => by
    simp only [itP, opnI, List.foldl_nil]
    exact ⟨fun o ho => .inl ⟨ho, by simp⟩, fun o ho x hx => by simp at hx⟩
  | c :: r, k + 1, hf => by rw [flP] at hf; rw [itP]; exact itP_end last r k hf
  | c :: r, 0, hf => by
    rw [flP] at hf
    rw [itP]
    by_cases hc : c = 92
    · rw [if_pos hc] at hf ⊢
      by_cases hz : (firstP r last).fault = 0
      · rw [if_pos hz] at hf
        have he := firstP_end r last hz
        by_cases hp : (firstP r last).point = -1
        · have hr := he.1 hp
          subst hr
          have hl : last = false := by cases last with | false => rfl | true => simp [firstP] at hz
          subst hl
          refine ⟨fun o _ => .inr ⟨[], by simp [firstP, itP], by simp, rfl⟩, fun o ho => ?_⟩
          simp [firstP, itP, opnI] at ho
        · obtain ⟨i1, i2⟩ := itP_end last r ((firstP r last).size - 1) hf
          have hb : ((firstP r last).point == -1) = false := by simpa using hp
          have ek : keepI ((firstP r last).point, true) = true := by simp [keepI, hb]
          have eo : ∀ o, opnI o (((firstP r last).point, true) :: itP last ((firstP r last).size - 1) r) = opnI false (itP last ((firstP r last).size - 1) r) := fun o => by simp [opnI, hb]
          refine ⟨fun o ho => ?_, fun o ho x hx => ?_⟩
          · rw [eo] at ho
            rcases i1 false ho with ⟨h, -⟩ | ⟨u, h1, h2, h3⟩
            · cases h
            · exact .inr ⟨_ :: u, by rw [h1]; rfl, List.forall_mem_cons.2 ⟨ek, h2⟩, h3⟩
          · rw [eo] at ho
            rcases List.mem_cons.1 hx with rfl | hx
            · exact ek
            · exact i2 false ho x hx
      · rw [if_neg hz] at hf; exact absurd hf hz
    · rw [if_neg hc] at hf ⊢
      obtain ⟨i1, i2⟩ := itP_end last r 0 hf
      have eo : ∀ o, opnI o ((c, false) :: itP last 0 r) = opnI o (itP last 0 r) := fun o => by simp [opnI]
      refine ⟨fun o ho => ?_, fun o ho x hx => ?_⟩
      · rw [eo] at ho
        rcases i1 o ho with ⟨h, h'⟩ | ⟨u, h1, h2, h3⟩
        · exact .inl ⟨h, List.forall_mem_cons.2 ⟨rfl, h'⟩⟩
        · exact .inr ⟨_ :: u, by rw [h1]; rfl, List.forall_mem_cons.2 ⟨rfl, h2⟩, h3⟩
      · rw [eo] at ho
        rcases List.mem_cons.1 hx with rfl | hx
        · rfl
        · exact i2 o ho x hx

/-- What is no escape is no backslash. -/
theorem itP_soft (last : Bool) : ∀ (l : List Int) (k : Nat), ∀ x ∈ itP last k l, x.2 = false → x.1 ≠ 92
  | [], k, x, hx, _ => by simp [itP] at hx
  | c :: r, k + 1, x, hx, h => by rw [itP] at hx; exact itP_soft last r k x hx h
  | c :: r, 0, x, hx, h => by
    rw [itP] at hx
    split at hx
    · rcases List.mem_cons.1 hx with rfl | hx
      · cases h
      · exact itP_soft last r _ x hx h
    · rename_i hc
      rcases List.mem_cons.1 hx with rfl | hx
      · exact hc
      · exact itP_soft last r 0 x hx h

/-- The escapes of a folded text are told in order. -/
theorem fill_items : ∀ (its : List Item) (pre post : List Int) (o : List Int), (∀ x ∈ its, x.2 = false → x.1 ≠ 92) →
    (its.map drI).foldl (fillS (pre ++ hards its ++ post)) (o, pre.length) = (o ++ (its.filter keepI).map (·.1), pre.length + (hards its).length)
  | [], pre, post, o, _ => by simp [hards]
  | (c, true) :: its, pre, post, o, h => by
    have ih := fill_items its (pre ++ [c]) post (if c = -1 then o else o ++ [c]) (fun x hx => h x (by simp [hx]))
    have e : pre ++ hards ((c, true) :: its) ++ post = pre ++ [c] ++ hards its ++ post := by simp [hards]
    rw [e, List.map_cons, List.foldl_cons]
    have e2 : fillS (pre ++ [c] ++ hards its ++ post) (o, pre.length) (drI (c, true)) = (if c = -1 then o else o ++ [c], (pre ++ [c]).length) := by
      unfold fillS drI
      simp only [if_true]
      have : iAt (pre ++ [c] ++ hards its ++ post) pre.length = c := by simp [iAt]
      rw [this]
      split <;> simp
    rw [e2, ih]
    by_cases hc : c = -1
    · subst hc; simp [keepI, hards]; omega
    · simp [keepI, hards, hc]; omega
  | (c, false) :: its, pre, post, o, h => by
    have hc := h (c, false) (by simp) rfl
    have ih := fill_items its pre post (o ++ [c]) (fun x hx => h x (by simp [hx]))
    have e : hards ((c, false) :: its) = hards its := by simp [hards]
    rw [e, List.map_cons, List.foldl_cons]
    have e2 : fillS (pre ++ hards its ++ post) (o, pre.length) (drI (c, false)) = (o ++ [c], pre.length) := by
      unfold fillS drI
      simp at hc
      simp [hc]
    rw [e2, ih]
    simp [keepI]
theorem fillP_items (its : List Item) (h : ∀ x ∈ its, x.2 = false → x.1 ≠ 92) : fillP (hards its) (its.map drI) = ((its.filter keepI).map (·.1), (hards its).length) := by
  have := fill_items its [] [] [] h
  simpa [fillP] using this
theorem count_items : ∀ (its : List Item), (∀ x ∈ its, x.2 = false → x.1 ≠ 92) → (its.map drI).count 92 = (hards its).length
  | [], _ => by simp [hards]
  | (c, true) :: its, h => by
    have ih := count_items its (fun x hx => h x (by simp [hx]))
    simp [drI, hards] at ih ⊢
    exact ih
  | (c, false) :: its, h => by
    have hc := h (c, false) (by simp) rfl
    have ih := count_items its (fun x hx => h x (by simp [hx]))
    simp at hc
    simp [drI, hards, hc] at ih ⊢
    exact ih
end Go.Proofs.YtpiefdpcinjkpaaDoor
