/- What JSON takes for a number, in plain terms, and that Int and Float take it too. -/
import Derived.Test.YtpffegkckejpiaaRefP
set_option linter.unusedVariables false
set_option linter.unusedSimpArgs false
set_option maxRecDepth 100000
namespace Go.Proofs.Ytpffegkckejpiaa
open Go.RowKit

def isNul (s : ByteArray) : Bool := s.toList == [110, 117, 108, 108] || s.toList == [78, 117, 108, 108] || s.toList == [78, 85, 76, 76] || s.toList == [126] || s.toList == []
def isYes (s : ByteArray) : Bool := s.toList == [116, 114, 117, 101] || s.toList == [84, 114, 117, 101] || s.toList == [84, 82, 85, 69]
def isNo (s : ByteArray) : Bool := s.toList == [102, 97, 108, 115, 101] || s.toList == [70, 97, 108, 115, 101] || s.toList == [70, 65, 76, 83, 69]

def skipM (l : List UInt8) : List UInt8 := if l.head? = some 45 then l.tail else l
def whP (l : List UInt8) : Option (List UInt8) := if (tk l).length = 0 ∨ (1 < (tk l).length ∧ l.head? = some 48) then none else some (dk l)
def ptP (l : List UInt8) : Option (List UInt8) := if l.head? = some 46 then (if (tk l.tail).length = 0 then none else some (dk l.tail)) else some l
def skipS (l : List UInt8) : List UInt8 := if l.head? = some 43 ∨ l.head? = some 45 then l.tail else l
def pwP (l : List UInt8) : Option (List UInt8) :=
  if l.head? = some 101 ∨ l.head? = some 69 then (if 1 ≤ (tk (skipS l.tail)).length ∧ (tk (skipS l.tail)).length ≤ 9 then some (dk (skipS l.tail)) else none) else some l
/-- What JSON takes a text for: 1 a whole number, 2 a float, 0 neither. -/
def jsN (l : List UInt8) : Nat :=
  match whP (skipM l) with
  | none => 0
  | some r => if r = [] then 1 else if (ptP r).bind pwP = some [] then 2 else 0

theorem skipM_sg (l : List UInt8) : ∃ sg b, SgOf sg b ∧ l = sg ++ skipM l ∧ (sg = [] ∨ sg = [45]) := by
  unfold skipM
  by_cases h : l.head? = some 45
  · rw [if_pos h]
    cases l with
    | nil => cases h
    | cons c t =>
      cases h
      exact ⟨[45], true, .inr (.inr ⟨rfl, rfl⟩), rfl, .inr rfl⟩
  · rw [if_neg h]
    exact ⟨[], false, .inl ⟨rfl, rfl⟩, rfl, .inl rfl⟩
theorem whP_some {l r : List UInt8} (h : whP l = some r) : l = tk l ++ r ∧ 0 < (tk l).length ∧ r = dk l := by
  unfold whP at h
  split at h
  · cases h
  · rename_i hn
    cases h
    refine ⟨tk_dk l, ?_, rfl⟩
    have : ¬ (tk l).length = 0 := fun e => hn (.inl e)
    omega
/-- What an exponent is. -/
def Uok (u : List UInt8) : Prop := ∃ sg d, u = sg ++ d ∧ (sg = [] ∨ sg = [43] ∨ sg = [45]) ∧ d.all isD = true ∧ 1 ≤ d.length ∧ d.length ≤ 9
theorem pwP_nil {l : List UInt8} (h : pwP l = some []) : l = [] ∨ ∃ c u, l = c :: u ∧ isE c = true ∧ Uok u := by
  unfold pwP at h
  split at h
  · rename_i hc
    right
    cases l with
    | nil => rcases hc with e | e <;> cases e
    | cons c u =>
      have hE : isE c = true := by
        rcases hc with e | e
        · cases e; decide
        · cases e; decide
      refine ⟨c, u, rfl, hE, ?_⟩
      by_cases hl : 1 ≤ (tk (skipS (c :: u).tail)).length ∧ (tk (skipS (c :: u).tail)).length ≤ 9
      · rw [if_pos hl] at h
        have hd : dk (skipS u) = [] := Option.some.inj h
        have h1 := tk_dk (skipS u)
        rw [hd, List.append_nil] at h1
        have hall : (skipS u).all isD = true := by rw [h1]; exact tk_all _
        have hlen : 1 ≤ (skipS u).length ∧ (skipS u).length ≤ 9 := by rw [h1]; exact hl
        unfold skipS at hall hlen
        by_cases hs : u.head? = some 43 ∨ u.head? = some 45
        · rw [if_pos hs] at hall hlen
          cases u with
          | nil => rcases hs with e | e <;> cases e
          | cons a v =>
            rcases hs with e | e
            · cases e
              exact ⟨[43], v, rfl, .inr (.inl rfl), hall, hlen⟩
            · cases e
              exact ⟨[45], v, rfl, .inr (.inr rfl), hall, hlen⟩
        · rw [if_neg hs] at hall hlen
          exact ⟨[], u, rfl, .inl rfl, hall, hlen⟩
      · rw [if_neg hl] at h
        cases h
  · left
    exact Option.some.inj h
def Rok (r : List UInt8) : Prop := (∃ p, r = 46 :: p ∧ p.all isD = true) ∨ (∃ c u, r = c :: u ∧ isE c = true ∧ Uok u) ∨ (∃ p c u, r = 46 :: (p ++ c :: u) ∧ p.all isD = true ∧ isE c = true ∧ Uok u)
theorem js_two {l : List UInt8} (h : jsN l = 2) : ∃ w r, skipM l = w ++ r ∧ w.all isD = true ∧ 0 < w.length ∧ Rok r := by
  unfold jsN at h
  split at h
  · cases h
  · rename_i r hr
    split at h
    · cases h
    · rename_i hne
      split at h
      · rename_i hb
        obtain ⟨h1, h2, h3⟩ := whP_some hr
        refine ⟨tk (skipM l), r, h1, tk_all _, h2, ?_⟩
        unfold ptP at hb
        split at hb
        · rename_i hp
          cases r with
          | nil => cases hp
          | cons a t =>
            cases hp
            by_cases hz : (tk ((46 : UInt8) :: t).tail).length = 0
            · rw [if_pos hz] at hb; cases hb
            · rw [if_neg hz] at hb
              have hq : pwP (dk t) = some [] := hb
              rcases pwP_nil hq with e | ⟨c, u, e, hc, hu⟩
              · left
                refine ⟨t, rfl, ?_⟩
                have h1 := tk_dk t
                rw [e, List.append_nil] at h1
                rw [h1]; exact tk_all _
              · right; right
                refine ⟨tk t, c, u, ?_, tk_all _, hc, hu⟩
                rw [← e, ← tk_dk t]
        · have hq : pwP r = some [] := hb
          rcases pwP_nil hq with e | ⟨c, u, e, hc, hu⟩
          · exact absurd e hne
          · exact .inr (.inl ⟨c, u, e, hc, hu⟩)
      · cases h
theorem js_one {l : List UInt8} (h : jsN l = 1) : (skipM l).all isD = true ∧ 0 < (skipM l).length := by
  unfold jsN at h
  split at h
  · cases h
  · rename_i r hr
    split at h
    · rename_i e
      obtain ⟨h1, h2, h3⟩ := whP_some hr
      rw [e, List.append_nil] at h1
      rw [h1]
      exact ⟨tk_all _, h2⟩
    · split at h
      · cases h
      · cases h
theorem exp_ok {u : List UInt8} (h : Uok u) : ∃ x, expP ⟨u.toArray⟩ = some x := by
  obtain ⟨sg, d, hu, hs, hd, h1, h9⟩ := h
  have hh := dig_head hd
  have hsg : ∃ b, SgOf sg b := by
    rcases hs with rfl | rfl | rfl
    · exact ⟨false, .inl ⟨rfl, rfl⟩⟩
    · exact ⟨false, .inr (.inl ⟨rfl, rfl⟩)⟩
    · exact ⟨true, .inr (.inr ⟨rfl, rfl⟩)⟩
  obtain ⟨b, hb⟩ := hsg
  obtain ⟨e1, e2⟩ := sg_split (s := ⟨u.toArray⟩) hb (show _ = sg ++ d from hu) ⟨hh.1, hh.2.1⟩
  unfold expP
  rw [e2]
  have hz : (⟨d.toArray⟩ : ByteArray).size = d.length := by rw [Lib.size_eq]
  rw [hz, if_neg (by omega)]
  rw [if_pos (show (⟨d.toArray⟩ : ByteArray).data.toList.all isD = true from hd)]
  exact ⟨_, rfl⟩

def nice (c : UInt8) : Bool := isD c || (c == 46) || isE c || (c == 43) || (c == 45)
theorem nice_dig {l : List UInt8} (h : l.all isD = true) : l.all nice = true := by
  rw [List.all_eq_true] at *
  intro c hc
  unfold nice
  rw [h c hc]
  rfl
theorem nice_E {c : UInt8} (h : isE c = true) : nice c = true := by
  unfold nice
  rw [h]
  simp
theorem nice_U {u : List UInt8} (h : Uok u) : u.all nice = true := by
  obtain ⟨sg, d, rfl, hs, hd, -, -⟩ := h
  rw [List.all_append, nice_dig hd]
  rcases hs with rfl | rfl | rfl
  · rfl
  · decide
  · decide
theorem nice_R {r : List UInt8} (h : Rok r) : r.all nice = true := by
  rcases h with ⟨p, rfl, hp⟩ | ⟨c, u, rfl, hc, hu⟩ | ⟨p, c, u, rfl, hp, hc, hu⟩
  · rw [List.all_cons, nice_dig hp]; decide
  · rw [List.all_cons, nice_U hu, nice_E hc]; rfl
  · rw [List.all_cons, List.all_append, List.all_cons, nice_dig hp, nice_U hu, nice_E hc]; decide
theorem nice_sg {sg : List UInt8} (h : sg = [] ∨ sg = [45]) : sg.all nice = true := by
  rcases h with rfl | rfl
  · rfl
  · decide
theorem nice_ne {l : List UInt8} (h : l.all nice = true) {c : UInt8} (hc : nice c = false) : ∀ x ∈ l, x ≠ c := by
  rintro x hx rfl
  rw [List.all_eq_true.1 h x hx] at hc
  cases hc
theorem nice_body {s : ByteArray} {sg r : List UInt8} {b : Bool} (hg : SgOf sg b) (hl : s.data.toList = sg ++ r) (hr : r.head? ≠ some 43 ∧ r.head? ≠ some 45) (hn : (sg ++ r).all nice = true) :
    bodyOf s = ⟨r.toArray⟩ ∧ baseOf s = 10 := by
  obtain ⟨e1, e2⟩ := sg_split hg hl hr
  have p1 : preO s = false := pre_no (by rw [hl]; exact nice_ne hn (by decide))
  have p2 : preX s = false := pre_no (by rw [hl]; exact nice_ne hn (by decide))
  refine ⟨?_, ?_⟩
  · unfold bodyOf; rw [p1, p2, ← e2]; rfl
  · unfold baseOf; rw [p1, p2]; rfl

/-- Whole numbers of JSON are Int's. -/
theorem js_int {s : ByteArray} (hs : s.size ≤ 5000) (h : jsN s.data.toList = 1) : ∃ b n, intV s = .tuple #[numV b n 0, .bool true] := by
  obtain ⟨hd, h0⟩ := js_one h
  obtain ⟨sg, b, hg, hl, hm⟩ := skipM_sg s.data.toList
  have hh := dig_head hd
  obtain ⟨eb, ec⟩ := nice_body hg hl ⟨hh.1, hh.2.1⟩ (by rw [List.all_append, nice_sg hm, nice_dig hd]; rfl)
  have hlen : (skipM s.data.toList).length ≤ 5000 := by
    have : s.data.toList.length = sg.length + (skipM s.data.toList).length := by rw [← List.length_append, ← hl]
    rw [← Lib.size_eq] at this
    omega
  unfold intV
  rw [eb, ec]
  have ok : okS (⟨(skipM s.data.toList).toArray⟩ : ByteArray) ((10 : Nat) : Int) = true := by
    show okS _ 10 = true
    rw [okS_okL]
    unfold okL
    simp [hd, h0, hlen]
  rw [ok]
  exact ⟨_, _, rfl⟩
theorem rok_head {r : List UInt8} (h : Rok r) : ∃ c t, r = c :: t ∧ isD c = false := by
  rcases h with ⟨p, rfl, -⟩ | ⟨c, u, rfl, hc, -⟩ | ⟨p, c, u, rfl, -, -, -⟩
  · exact ⟨_, _, rfl, by decide⟩
  · refine ⟨_, _, rfl, ?_⟩
    cases e : isD c
    · rfl
    · have := dig_E (l := [c]) (by simp [e]) c (by simp)
      rw [hc] at this; cases this
  · exact ⟨_, _, rfl, by decide⟩
/-- Floats of JSON are Float's, and none of Int's. -/
theorem js_float {s : ByteArray} (hs : s.size ≤ 5000) (h : jsN s.data.toList = 2) : (∃ b n e, floatV s (kE s) = .tuple #[numV b n e, .bool true]) ∧ intV s = .tuple #[zV, .bool false] := by
  obtain ⟨w, r, hwr, hw, h0, hR⟩ := js_two h
  obtain ⟨sg, b, hg, hl, hm⟩ := skipM_sg s.data.toList
  rw [hwr] at hl
  have hh : (w ++ r).head? = w.head? := by
    cases w with
    | nil => simp at h0
    | cons a t => rfl
  have hd := dig_head hw
  rw [← hh] at hd
  have hlen : w.length + r.length ≤ 5000 := by
    have : s.data.toList.length = sg.length + (w.length + r.length) := by rw [← List.length_append, ← List.length_append, ← hl]
    rw [← Lib.size_eq] at this
    omega
  have okw : ∀ p : List UInt8, p.all isD = true → p.length ≤ r.length → ∀ x, numF w p x = some (valD (w ++ p), x - p.length) := by
    intro p hp hpl x
    unfold numF
    rw [if_pos]
    unfold okL
    rw [List.all_append, hw, hp, List.length_append]
    simp
    omega
  refine ⟨?_, ?_⟩
  · rw [float_of hg hl hd]
    rcases hR with ⟨p, rfl, hp⟩ | ⟨c, u, rfl, hc, hu⟩ | ⟨p, c, u, rfl, hp, hc, hu⟩
    · rw [flt_wp (t := (⟨(w ++ 46 :: p).toArray⟩ : ByteArray)) rfl hw hp, okw p hp (by simp)]
      exact ⟨_, _, _, rfl⟩
    · obtain ⟨x, hx⟩ := exp_ok hu
      rw [flt_we (t := (⟨(w ++ c :: u).toArray⟩ : ByteArray)) rfl hw hc, hx]
      show ∃ b' n e, fltV b (numF w [] x) = _
      rw [okw [] rfl (by simp)]
      exact ⟨_, _, _, rfl⟩
    · obtain ⟨x, hx⟩ := exp_ok hu
      rw [flt_full (t := (⟨(w ++ 46 :: (p ++ c :: u)).toArray⟩ : ByteArray)) rfl hw hp hc, hx]
      show ∃ b' n e, fltV b (numF w p x) = _
      rw [okw p hp (by simp; omega)]
      exact ⟨_, _, _, rfl⟩
  · obtain ⟨eb, ec⟩ := nice_body hg hl ⟨hd.1, hd.2.1⟩ (by rw [List.all_append, List.all_append, nice_sg hm, nice_dig hw, nice_R hR]; rfl)
    unfold intV
    rw [eb, ec]
    have ok : okS (⟨(w ++ r).toArray⟩ : ByteArray) ((10 : Nat) : Int) = false := by
      show okS _ 10 = false
      rw [okS_okL]
      unfold okL
      obtain ⟨c, t, rfl, hc⟩ := rok_head hR
      simp [hc]
    rw [ok]
    rfl
end Go.Proofs.Ytpffegkckejpiaa
set_option maxRecDepth 100000
namespace Go.Proofs.Ytpffegkckejpiaa
open Go.RowKit

def nullT : ByteArray := ⟨#[116, 97, 103, 58, 121, 97, 109, 108, 46, 111, 114, 103, 44, 50, 48, 48, 50, 58, 110, 117, 108, 108]⟩
def boolT : ByteArray := ⟨#[116, 97, 103, 58, 121, 97, 109, 108, 46, 111, 114, 103, 44, 50, 48, 48, 50, 58, 98, 111, 111, 108]⟩
def intT : ByteArray := ⟨#[116, 97, 103, 58, 121, 97, 109, 108, 46, 111, 114, 103, 44, 50, 48, 48, 50, 58, 105, 110, 116]⟩
def floatT : ByteArray := ⟨#[116, 97, 103, 58, 121, 97, 109, 108, 46, 111, 114, 103, 44, 50, 48, 48, 50, 58, 102, 108, 111, 97, 116]⟩
def strT : ByteArray := ⟨#[116, 97, 103, 58, 121, 97, 109, 108, 46, 111, 114, 103, 44, 50, 48, 48, 50, 58, 115, 116, 114]⟩
def seqT : ByteArray := ⟨#[116, 97, 103, 58, 121, 97, 109, 108, 46, 111, 114, 103, 44, 50, 48, 48, 50, 58, 115, 101, 113]⟩
def mapT : ByteArray := ⟨#[116, 97, 103, 58, 121, 97, 109, 108, 46, 111, 114, 103, 44, 50, 48, 48, 50, 58, 109, 97, 112]⟩

def intOk (s : ByteArray) : Bool := okS (bodyOf s) (baseOf s)
def intN (s : ByteArray) : Value := if intOk s then numV (negB s && decide (numB (bodyOf s) (baseOf s) ≠ 0)) (numB (bodyOf s) (baseOf s)) 0 else zV
theorem intV_eq (s : ByteArray) : intV s = .tuple #[intN s, .bool (intOk s)] := by
  unfold intV intN intOk
  cases okS (bodyOf s) (baseOf s) <;> rfl
def fltOk (s : ByteArray) : Bool := isInf (restB s) || isNan s || (fltK (restB s) (kE s)).isSome
def fltN (s : ByteArray) : Value :=
  if isInf (restB s) then .agg #[.bool (negB s), .string ⟨#[]⟩, .int .i64 0, .int .i64 1]
  else if isNan s then .agg #[.bool false, .string ⟨#[]⟩, .int .i64 0, .int .i64 2]
  else match fltK (restB s) (kE s) with
    | none => zV
    | some (n, e) => numV (negB s) n e
theorem fltV_eq (s : ByteArray) : floatV s (kE s) = .tuple #[fltN s, .bool (fltOk s)] := by
  unfold floatV fltN fltOk
  cases isInf (restB s)
  · cases isNan s
    · cases fltK (restB s) (kE s) with
      | none => rfl
      | some p => rfl
    · rfl
  · rfl
/-- A number's shape. -/
def NumF (v : Value) : Prop := ∃ b d x k, v = .agg #[.bool b, .string d, .int .i64 x, .int .i64 k]
theorem numV_F (b : Bool) (n : Nat) (e : Int) : NumF (numV b n e) := by
  obtain ⟨D, E, h⟩ := numV_form b n e
  exact ⟨_, _, _, _, h⟩
theorem zV_F : NumF zV := ⟨_, _, _, _, rfl⟩
theorem intN_F (s : ByteArray) : NumF (intN s) := by
  unfold intN
  split
  · exact numV_F _ _ _
  · exact zV_F
theorem fltN_F (s : ByteArray) : NumF (fltN s) := by
  unfold fltN
  split
  · exact ⟨_, _, _, _, rfl⟩
  · split
    · exact ⟨_, _, _, _, rfl⟩
    · split
      · exact zV_F
      · exact numV_F _ _ _
theorem intN_no {s : ByteArray} (h : intOk s = false) : intN s = zV := by unfold intN; rw [h]; rfl
theorem fltN_no {s : ByteArray} (h : fltOk s = false) : fltN s = zV := by
  unfold fltOk at h
  unfold fltN
  rw [Bool.or_eq_false_iff, Bool.or_eq_false_iff] at h
  rw [h.1.1, h.1.2]
  cases e : fltK (restB s) (kE s) with
  | none => rfl
  | some p => rw [e] at h; cases h.2
/-- What the number of a text is: Float is asked first. -/
def numC (s : ByteArray) : Value := if fltOk s then fltN s else intN s
def numOk (s : ByteArray) : Bool := fltOk s || intOk s
theorem numC_F (s : ByteArray) : NumF (numC s) := by
  unfold numC
  split
  · exact fltN_F s
  · exact intN_F s

/-- The tag that Core tells. -/
def coreT (s : ByteArray) : ByteArray := if isNul s then nullT else if isYes s || isNo s then boolT else if intOk s then intT else if fltOk s then floatT else strT
/-- The tag that JSON tells. -/
def jsT (s : ByteArray) : ByteArray :=
  if s.toList == [110, 117, 108, 108] || s.toList == [] then nullT
  else if s.toList == [116, 114, 117, 101] || s.toList == [102, 97, 108, 115, 101] then boolT
  else if 5000 < s.size then strT
  else if jsN s.data.toList = 1 then intT else if jsN s.data.toList = 2 then floatT else strT
def defB (k : Int) : ByteArray := if k = 1 then strT else if k = 2 then seqT else if k = 3 then mapT else ⟨#[]⟩
def plainT (s : ByteArray) (which : Int) : ByteArray := if which = 2 then coreT s else if which = 1 then jsT s else strT
def resT (kind : Int) (tag s : ByteArray) (plain : Bool) (which : Int) : ByteArray :=
  if tag.toList ≠ [] ∧ tag.toList ≠ [33] then tag
  else if tag.toList = [] ∧ kind = 1 ∧ plain = true then plainT s which
  else defB kind

/-- A value: its kind, its truth, its number, its text. -/
def v7 (k : Int) (t : Bool) (n : Value) (s : ByteArray) : Value :=
  match n with
  | .agg #[b, d, x, w] => .agg #[.int .i64 k, .bool t, b, d, x, w, .string s]
  | _ => .agg #[]
def noV : Value := .tuple #[v7 0 false zV ⟨#[]⟩, .int .i64 15]
def valV (tag s : ByteArray) : Value :=
  if tag.toList == nullT.toList then (if isNul s then .tuple #[v7 1 false zV ⟨#[]⟩, .int .i64 0] else noV)
  else if tag.toList == boolT.toList then (if isYes s || isNo s then .tuple #[v7 2 (isYes s) zV ⟨#[]⟩, .int .i64 0] else noV)
  else if tag.toList == intT.toList then (if intOk s then .tuple #[v7 3 false (intN s) ⟨#[]⟩, .int .i64 0] else noV)
  else if tag.toList == floatT.toList then (if numOk s then .tuple #[v7 4 false (numC s) ⟨#[]⟩, .int .i64 0] else noV)
  else .tuple #[v7 5 false zV s, .int .i64 0]

theorem js_intOk {s : ByteArray} (hs : s.size ≤ 5000) (h : jsN s.data.toList = 1) : intOk s = true := by
  obtain ⟨b, n, e⟩ := js_int hs h
  rw [intV_eq] at e
  have e1 := Value.tuple.inj e
  have e2 : (#[intN s, Value.bool (intOk s)])[1]? = (#[numV b n 0, Value.bool true])[1]? := by rw [e1]
  have e3 : Value.bool (intOk s) = Value.bool true := Option.some.inj e2
  exact Value.bool.inj e3
theorem js_fltOk {s : ByteArray} (hs : s.size ≤ 5000) (h : jsN s.data.toList = 2) : fltOk s = true ∧ intOk s = false := by
  obtain ⟨⟨b, n, x, e⟩, f⟩ := js_float hs h
  rw [fltV_eq] at e
  rw [intV_eq] at f
  have e1 := Value.tuple.inj e
  have e2 : (#[fltN s, Value.bool (fltOk s)])[1]? = (#[numV b n x, Value.bool true])[1]? := by rw [e1]
  have e3 : Value.bool (fltOk s) = Value.bool true := Option.some.inj e2
  have f1 := Value.tuple.inj f
  have f2 : (#[intN s, Value.bool (intOk s)])[1]? = (#[zV, Value.bool false])[1]? := by rw [f1]
  have f3 : Value.bool (intOk s) = Value.bool false := Option.some.inj f2
  exact ⟨Value.bool.inj e3, Value.bool.inj f3⟩
end Go.Proofs.Ytpffegkckejpiaa
