/- Words and gaps over several lines, in plain terms. -/
import Derived.Test.YtipbhdhiklmieaaGreatDoorZBC
set_option linter.all false
set_option maxRecDepth 100000
set_option maxHeartbeats 8000000
namespace Go.Proofs.YtipbhdhiklmieaaGreatDoor
open Go.RowKit Go.Shelf
def Ltr (c : Int) : Prop := 97 <= c /\ c <= 122
theorem ltr_all {P : Int -> Prop} (h : ∀ n : Fin 26, P (97 + ((n : Nat) : Int))) {c : Int} (hc : Ltr c) : P c := by
 obtain ⟨a, b⟩ := hc
 have := h ⟨(c - 97).toNat, by omega⟩
 rw [show (97 : Int) + (((⟨(c - 97).toNat, by omega⟩ : Fin 26) : Nat) : Int) = c by show 97 + (((c - 97).toNat : Nat) : Int) = c; omega] at this
 exact this
theorem Ltr.is {c : Int} (h : Ltr c) : blankP c = false /\ flowP c = false /\ nameP c = true /\ signP c = false /\ c ≠ 58 /\ c ≠ 35 :=
 ltr_all (P := fun c => blankP c = false /\ flowP c = false /\ nameP c = true /\ signP c = false /\ c ≠ 58 /\ c ≠ 35) (by decide) h
def tailT : List Lp -> List Int
 | [] => []
 | x :: r => 10 :: (List.replicate x.n.toNat 32 ++ (x.t ++ tailT r))
structure GoodL (L : List Lp) : Prop where
 n : ∀ x, x ∈ L -> 0 <= x.n
 t : ∀ x, x ∈ L -> ∀ c, c ∈ x.t -> c ≠ 10
 h : ∀ x, x ∈ L -> ∀ c r, x.t = c :: r -> c ≠ 32
structure At (L : List Lp) (p : Pl) (R : List Int) : Prop where
 lt : p.i < L.length
 eq : R = rst L p ++ tailT (L.drop (p.i + 1))
section
variable {L : List Lp} {p : Pl} {c : Int} {R : List Int}
theorem At.cons (h : At L p (c :: R)) (hc : c ≠ 10) : rst L p = c :: rst L (p.plus 1) /\ At L (p.plus 1) R := by
 have he := h.eq
 have hd : rst L (p.plus 1) = (rst L p).drop 1 := by
  show (tx L p.i).drop (p.k + 1) = ((tx L p.i).drop p.k).drop 1
  rw [List.drop_drop]
 cases hr : rst L p with
 | nil =>
  rw [hr, List.nil_append] at he
  cases hl : L.drop (p.i + 1) with
  | nil => rw [hl] at he; cases he
  | cons x r => rw [hl, tailT] at he; exact absurd (List.cons.inj he).1 hc
 | cons y r =>
  rw [hr, List.cons_append] at he
  obtain ⟨hyc, he2⟩ := List.cons.inj he
  rw [hr] at hd
  have hd : rst L (p.plus 1) = r := hd
  exact ⟨by rw [hd, hyc], h.lt, by rw [hd]; exact he2⟩
theorem At.app : ∀ (B : List Int) {p : Pl} {R : List Int}, At L p (B ++ R) -> (∀ b, b ∈ B -> b ≠ 10) -> rst L p = B ++ rst L (p.plus B.length) /\ At L (p.plus B.length) R
 | [], p, R, h, _ => ⟨rfl, h⟩
 | b :: B, p, R, h, hb => by
  obtain ⟨h1, h2⟩ := At.cons (c := b) h (hb b (by simp))
  obtain ⟨h3, h4⟩ := At.app B h2 (fun x hx => hb x (by simp [hx]))
  have e : (p.plus 1).plus B.length = p.plus (b :: B).length := by
   show (⟨p.i, p.k + 1 + B.length⟩ : Pl) = ⟨p.i, p.k + (B.length + 1)⟩
   congr 1
   omega
  rw [e] at h3 h4
  exact ⟨by rw [h1, h3]; rfl, h4⟩
theorem lead_eq : ∀ (m a : Nat) (X : List Int) (c : Int) (R : List Int), c ≠ 32 -> (∀ y r, X = y :: r -> y ≠ 32) -> List.replicate m 32 ++ X = List.replicate a 32 ++ c :: R -> m = a /\ X = c :: R
 | 0, 0, X, c, R, _, _, h => ⟨rfl, h⟩
 | 0, a + 1, X, c, R, _, hX, h => by
  rw [List.replicate_zero, List.nil_append, List.replicate_succ, List.cons_append] at h
  exact absurd rfl (hX _ _ h)
 | m + 1, 0, X, c, R, hc, _, h => by
  rw [List.replicate_zero, List.nil_append, List.replicate_succ, List.cons_append] at h
  exact absurd (List.cons.inj h).1.symm hc
 | m + 1, a + 1, X, c, R, hc, hX, h => by
  rw [List.replicate_succ, List.replicate_succ, List.cons_append, List.cons_append] at h
  obtain ⟨h1, h2⟩ := lead_eq m a X c R hc hX (List.cons.inj h).2
  exact ⟨by omega, h2⟩
theorem At.line (G : GoodL L) {a : Nat} (h : At L p (10 :: (List.replicate a 32 ++ c :: R))) (hc : c ≠ 32) : rst L p = [] /\ ∃ x, L[p.i + 1]? = some x /\ x.n = (a : Nat) /\ At L ⟨p.i + 1, 0⟩ (c :: R) := by
 have he := h.eq
 have hx : ∃ x, L[p.i]? = some x := ⟨_, List.getElem?_eq_getElem h.lt⟩
 obtain ⟨x0, hx0⟩ := hx
 have ht0 : tx L p.i = x0.t := by unfold tx; rw [hx0]
 cases hr : rst L p with
 | cons y r =>
  rw [hr, List.cons_append] at he
  have hy := (List.cons.inj he).1
  have hm : y ∈ x0.t := by
   rw [<- ht0]
   have : y ∈ rst L p := by rw [hr]; simp
   exact List.mem_of_mem_drop this
  exact absurd hy.symm (G.t x0 (List.mem_of_getElem? hx0) y hm)
 | nil =>
  refine ⟨rfl, ?_⟩
  rw [hr, List.nil_append] at he
  cases hl : L.drop (p.i + 1) with
  | nil => rw [hl] at he; cases he
  | cons x r =>
   rw [hl, tailT] at he
   have he := (List.cons.inj he).2
   have hlt : p.i + 1 < L.length := by
    have := congrArg List.length hl
    rw [List.length_drop, List.length_cons] at this
    omega
   have hd := List.drop_eq_getElem_cons hlt
   rw [hl] at hd
   obtain ⟨hx, hrr⟩ := List.cons.inj hd
   have hxx : L[p.i + 1]? = some x := by rw [List.getElem?_eq_getElem hlt, hx]
   have hm : x ∈ L := List.mem_of_getElem? hxx
   have hX : ∀ y r', x.t ++ tailT r = y :: r' -> y ≠ 32 := by
    intro y r' e
    cases ht : x.t with
    | cons z zs =>
     rw [ht, List.cons_append] at e
     rw [<- (List.cons.inj e).1]
     exact G.h x hm z zs ht
    | nil =>
     rw [ht, List.nil_append] at e
     cases r with
     | nil => cases e
     | cons z zs => rw [tailT] at e; rw [<- (List.cons.inj e).1]; decide
   obtain ⟨h1, h2⟩ := lead_eq _ _ _ _ _ hc hX he.symm
   have htx : tx L (p.i + 1) = x.t := by unfold tx; rw [hxx]
   refine ⟨x, hxx, by have := G.n x hm; omega, hlt, ?_⟩
   show c :: R = (tx L (p.i + 1)).drop 0 ++ tailT (L.drop (p.i + 1 + 1))
   rw [htx, <- hrr, List.drop_zero, h2]
end
section
variable {L : List Lp} {p : Pl} {c : Int} {R : List Int} {n : Int}
theorem past_run (B : List Int) {X : List Int} (hB : ∀ b, b ∈ B -> blankP b = true) (hX : ∀ y r, X = y :: r -> blankP y = false) : orc.past (B ++ X) = B.length := by
 show P10.run blankP (B ++ X) = B.length
 refine P10.run_eq _ _ _ (by simp) (fun j hj => ?_) (fun hlt => ?_)
 ·have : iAt (B ++ X) j = B[j] := by unfold iAt; rw [List.getElem?_append_left hj]; simp [hj]
  rw [this]
  exact hB _ (List.getElem_mem hj)
 ·have : iAt (B ++ X) B.length = X.headD 0 := by
   unfold iAt
   rw [List.getElem?_append_right (Nat.le_refl _), Nat.sub_self]
   cases X <;> rfl
  rw [this]
  cases X with
  | nil => simp at hlt
  | cons y r => exact hX y r rfl
theorem blank_ne {b : Int} (h : blankP b = true) : b ≠ 10 := by
 rintro rfl
 revert h
 decide
def Mk (L : List Lp) (n : Int) (p : Pl) (first : Bool) : Prop := first = false -> ∃ x, L[p.i]? = some x /\ orc.marker x = false /\ ¬ x.n <= n
theorem nexF_go {f : Nat} {first : Bool} (hlt : p.i < L.length) (hm : Mk L n p first) : nexF orc L n (f + 1) p first = if linW orc L (pasW orc L p) then nexF orc L n f ⟨p.i + 1, 0⟩ false else .ok (some (pasW orc L p)) := by
 rw [nexF]
 have hx : L[p.i]? = some L[p.i] := List.getElem?_eq_getElem hlt
 rw [hx]
 dsimp only
 cases first with
 | true => simp
 | false =>
  obtain ⟨x, h1, h2, h3⟩ := hm rfl
  rw [hx] at h1
  cases h1
  rw [if_neg (by rw [h2]; simp), if_neg (c := _ /\ _) (by rintro ⟨-, h⟩; exact h3 h)]
theorem nex_ord {f : Nat} {first : Bool} (B : List Int) (h : At L p (B ++ c :: R)) (hB : ∀ b, b ∈ B -> blankP b = true) (hc : blankP c = false) (h10 : c ≠ 10) (h35 : c ≠ 35) (hm : Mk L n p first) : nexF orc L n (f + 1) p first = .ok (some (p.plus B.length)) /\ At L (p.plus B.length) (c :: R) := by
 obtain ⟨h1, h2⟩ := h.app B (fun b hb => blank_ne (hB b hb))
 obtain ⟨h3, -⟩ := h2.cons h10
 have hp : pasW orc L p = p.plus B.length := by
  unfold pasW
  rw [h1, h3, past_run B hB (fun y r e => by cases e; exact hc)]
 refine ⟨?_, h2⟩
 have hl : linW orc L (p.plus B.length) = false := by
  unfold linW hd
  rw [h3]
  simp [h35]
 rw [nexF_go h.lt hm, hp, hl]
 rfl
theorem nex_eol {f : Nat} {first : Bool} (G : GoodL L) (B : List Int) {a : Nat} (h : At L p (B ++ 10 :: (List.replicate a 32 ++ c :: R))) (hB : ∀ b, b ∈ B -> blankP b = true) (hc : c ≠ 32) (hm : Mk L n p first) : nexF orc L n (f + 1) p first = nexF orc L n f ⟨p.i + 1, 0⟩ false /\ At L ⟨p.i + 1, 0⟩ (c :: R) /\ ∃ x, L[p.i + 1]? = some x /\ x.n = (a : Nat) := by
 obtain ⟨h1, h2⟩ := h.app B (fun b hb => blank_ne (hB b hb))
 obtain ⟨h3, x, hx, hn, h4⟩ := h2.line G hc
 have hp : pasW orc L p = p.plus B.length := by
  unfold pasW
  rw [h1, h3, past_run B hB (fun y r e => by cases e)]
 have hl : linW orc L (p.plus B.length) = true := by
  unfold linW
  rw [h3]
  rfl
 rw [nexF_go h.lt hm, hp, hl]
 exact ⟨rfl, h4, x, hx, hn⟩
theorem nex_com {f : Nat} {first : Bool} (G : GoodL L) (B : List Int) (hB : ∀ b, b ∈ B -> blankP b = true) (C : List Int) {a : Nat} (h : At L p (B ++ 32 :: 35 :: (C ++ 10 :: (List.replicate a 32 ++ c :: R)))) (hC : ∀ b, b ∈ C -> b ≠ 10) (hc : c ≠ 32) (hm : Mk L n p first) : nexF orc L n (f + 1) p first = nexF orc L n f ⟨p.i + 1, 0⟩ false /\ At L ⟨p.i + 1, 0⟩ (c :: R) /\ ∃ x, L[p.i + 1]? = some x /\ x.n = (a : Nat) := by
 obtain ⟨h0, h0'⟩ := h.app B (fun b hb => blank_ne (hB b hb))
 obtain ⟨h1, h2⟩ := h0'.cons (by decide)
 obtain ⟨h3, h4⟩ := h2.cons (by decide)
 obtain ⟨h5, h6⟩ := h4.app C hC
 obtain ⟨h7, x, hx, hn, h8⟩ := h6.line G hc
 have hp : pasW orc L p = (p.plus B.length).plus 1 := by
  unfold pasW
  rw [h0, h1, h3, show B ++ (32 : Int) :: 35 :: rst L (((p.plus B.length).plus 1).plus 1) = (B ++ [32]) ++ 35 :: rst L (((p.plus B.length).plus 1).plus 1) by simp, past_run (B ++ [32]) (fun b hb => by
   rcases List.mem_append.1 hb with hb | hb
   ·exact hB b hb
   ·simp at hb; subst hb; decide) (fun y r e => by cases e; decide)]
  rw [List.length_append]
  rfl
 have hl : linW orc L ((p.plus B.length).plus 1) = true := by
  have hb : (tx L p.i).getD (p.k + B.length + 1 - 1) 0 = 32 := by
   have h1 : (tx L p.i).drop (p.k + B.length) = 32 :: rst L ((p.plus B.length).plus 1) := h1
   have := congrArg (fun l => l[0]?) h1
   simp at this
   simp [this]
  unfold linW hd
  rw [h3]
  show (_ || (decide ((35 : Int) = 35) && (decide (p.k + B.length + 1 = 0) || orc.blank ((tx L p.i).getD (p.k + B.length + 1 - 1) 0)))) = true
  rw [hb, show orc.blank 32 = true by decide]
  simp
 rw [nexF_go h.lt hm, hp, hl]
 exact ⟨rfl, h8, x, hx, hn⟩
end
open P3 (endP upTo endSz cutsAt cuts_end cuts_last cuts_more pieceOf lineP inP linesP upTo_le)

theorem run_take (p : Int -> Bool) : ∀ (X : List Int) (c : Int), c ∈ X.take (P10.run p X) -> p c = true
 | [], c, h => by simp at h
 | x :: t, c, h => by
  rw [P10.run] at h
  split at h
  ·rename_i hx
   rw [List.take_succ_cons] at h
   rcases List.mem_cons.1 h with rfl | h
   ·exact hx
   ·exact run_take p t c h
  ·simp at h
theorem run_drop (p : Int -> Bool) : ∀ (X : List Int) (c : Int) (r : List Int), X.drop (P10.run p X) = c :: r -> p c = false
 | [], c, r, h => by simp at h
 | x :: t, c, r, h => by
  rw [P10.run] at h
  split at h
  ·rw [List.drop_succ_cons] at h
   exact run_drop p t c r h
  ·rename_i hx
   rw [List.drop_zero] at h
   cases h
   simpa using hx
theorem in_split (t : List Int) : List.replicate (inP t) 32 ++ t.drop (inP t) = t := by
 have h : t.take (inP t) = List.replicate (inP t) 32 := by
  refine List.eq_replicate_iff.2 ⟨?_, fun c hc => ?_⟩
  ·rw [List.length_take]
   have : inP t <= t.length := P10.run_le _ _
   omega
  ·exact of_decide_eq_true (run_take _ t c hc)
 rw [<- h, List.take_append_drop]
theorem in_head (t : List Int) (c : Int) (r : List Int) (h : t.drop (inP t) = c :: r) : c ≠ 32 := of_decide_eq_false (run_drop _ t c r h)
def lp1 (t : List Int) : Lp := ⟨(inP t : Nat), t.drop (inP t)⟩
theorem tail_cons (t : List Int) (r : List Lp) : tailT (lp1 t :: r) = 10 :: (t ++ tailT r) := by
 rw [tailT]
 show 10 :: (List.replicate (inP t : Int).toNat 32 ++ (t.drop (inP t) ++ tailT r)) = _
 rw [Int.toNat_natCast, <- List.append_assoc, in_split]
def lpsK (l : List Int) (k : Nat) : List Lp := (cutsAt l k).map fun x => lp1 (pieceOf l x)
theorem lps_zero (l : List Int) : lpsO l = lpsK l 0 := by
 unfold lpsO lpsK linesP
 rw [List.map_map]
 rfl
theorem good_one {t : List Int} (ht : ∀ c, c ∈ t -> c ≠ 10) {r : List Lp} (hr : GoodL r) : GoodL (lp1 t :: r) := by
 refine ⟨fun x hx => ?_, fun x hx c hc => ?_, fun x hx c r e => ?_⟩
 ·rcases List.mem_cons.1 hx with rfl | hx
  ·show (0 : Int) <= ((inP t : Nat) : Int); omega
  ·exact hr.n x hx
 ·rcases List.mem_cons.1 hx with rfl | hx
  ·exact ht c (List.mem_of_mem_drop hc)
  ·exact hr.t x hx c hc
 ·rcases List.mem_cons.1 hx with rfl | hx
  ·exact in_head t c r e
  ·exact hr.h x hx c r e
theorem cut_all {l : List Int} (h13 : ∀ c, c ∈ l -> c ≠ 13) (hlast : ∀ X, l ≠ X ++ [10]) : ∀ n k, l.length - k <= n -> k < l.length -> tailT (lpsK l k) = 10 :: l.drop k /\ GoodL (lpsK l k) /\ (lpsK l k).length <= 1 + ((l.drop k).filter fun c => decide (c = 10)).length := by
 intro n
 induction n with
 | zero => intro k h1 h2; omega
 | succ n ih =>
  intro k h1 h2
  have hup := upTo_le l k
  have hnil : GoodL [] := ⟨(fun x hx => by cases hx), (fun x hx => by cases hx), (fun x hx => by cases hx)⟩
  have hpc : ∀ c, c ∈ (l.drop k).take (upTo endP (l.drop k)) -> c ≠ 10 := fun c hc => by
   have := run_take (fun c => !endP c) (l.drop k) c hc
   rintro rfl
   revert this
   decide
  by_cases hs : k + upTo endP (l.drop k) < l.length
  ·obtain ⟨s, hse⟩ : ∃ s, upTo endP (l.drop k) = s := ⟨_, rfl⟩
   rw [hse] at hs hpc hup
   have hd := List.drop_eq_getElem_cons hs
   obtain ⟨e, he⟩ : ∃ e, l[k + s] = e := ⟨_, rfl⟩
   rw [he] at hd
   have hdd : (l.drop k).drop s = e :: l.drop (k + s + 1) := by rw [List.drop_drop]; exact hd
   have hee : endP e = true := by
    have := run_drop (fun c => !endP c) (l.drop k) e (l.drop (k + s + 1)) (by rw [show P10.run (fun c => !endP c) (l.drop k) = s from hse]; exact hdd)
    simpa using this
   have hem : e ∈ l := by rw [<- he]; exact List.getElem_mem hs
   have he10 : e = 10 := by
    have h := h13 e hem
    unfold endP at hee
    rcases of_decide_eq_true hee with h' | h'
    ·exact h'
    ·exact absurd h' h
   subst he10
   have hz : endSz (l.drop (k + s)) = 1 := by
    unfold endSz
    rw [hd, if_neg (by rintro ⟨-, h, -⟩; revert h; show ¬ ((10 : Int) = 13); decide)]
   have hk2 : k + s + 1 < l.length := by
    rcases Nat.lt_or_ge (k + s + 1) l.length with h | h
    ·exact h
    ·exfalso
     rw [List.drop_eq_nil_of_le h] at hd
     exact hlast (l.take (k + s)) (by rw [<- hd, List.take_append_drop])
   have hc := cuts_more h2 hse hs
   rw [hz] at hc
   obtain ⟨i1, i2, i3⟩ := ih (k + s + 1) (by omega) hk2
   have hL : lpsK l k = lp1 ((l.drop k).take s) :: lpsK l (k + s + 1) := by
    unfold lpsK
    rw [hc]
    rfl
   have hsp : l.drop k = (l.drop k).take s ++ 10 :: l.drop (k + s + 1) := by rw [<- hdd, List.take_append_drop]
   refine ⟨?_, ?_, ?_⟩
   ·rw [hL, tail_cons, i1, <- hsp]
   ·rw [hL]
    exact good_one hpc i2
   ·rw [hL, List.length_cons, hsp, List.filter_append, List.length_append, List.filter_cons_of_pos (by decide), List.length_cons]
    omega
  ·have hc := cuts_last h2 hs
   have hL : lpsK l k = [lp1 (l.drop k)] := by
    unfold lpsK
    rw [hc]
    show [lp1 ((l.drop k).take (l.length - k))] = _
    rw [<- List.length_drop, List.take_length]
   have hpc2 : ∀ c, c ∈ l.drop k -> c ≠ 10 := fun c hm => by
    refine hpc c ?_
    rw [List.take_of_length_le (by rw [List.length_drop]; omega)]
    exact hm
   refine ⟨?_, ?_, ?_⟩
   ·rw [hL, tail_cons]
    show 10 :: (l.drop k ++ []) = _
    rw [List.append_nil]
   ·rw [hL]
    exact good_one hpc2 hnil
   ·rw [hL]
    show 1 <= _
    omega
theorem lines_at {c : Int} {R : List Int} (h13 : ∀ x, x ∈ c :: R -> x ≠ 13) (hlast : ∀ X, c :: R ≠ X ++ [10]) (hc : c ≠ 10) (hc2 : c ≠ 32) : GoodL (lpsO (c :: R)) /\ At (lpsO (c :: R)) ⟨0, 0⟩ (c :: R) /\ (lpsO (c :: R)).length <= 1 + ((c :: R).filter fun c => decide (c = 10)).length := by
 obtain ⟨h1, h2, h3⟩ := cut_all h13 hlast (c :: R).length 0 (by omega) (by simp)
 rw [<- lps_zero, List.drop_zero] at h1 h3
 rw [<- lps_zero] at h2
 refine ⟨h2, ?_, h3⟩
 cases hL : lpsO (c :: R) with
 | nil => rw [hL] at h1; cases h1
 | cons x r =>
  rw [hL, tailT] at h1
  have h1 := (List.cons.inj h1).2
  have hX : ∀ y r', x.t ++ tailT r = y :: r' -> y ≠ 32 := by
   intro y r' e
   cases ht : x.t with
   | cons z zs =>
    rw [ht, List.cons_append] at e
    rw [<- (List.cons.inj e).1]
    exact h2.h x (by rw [hL]; simp) z zs ht
   | nil =>
    rw [ht, List.nil_append] at e
    cases r with
    | nil => cases e
    | cons z zs => rw [tailT] at e; rw [<- (List.cons.inj e).1]; decide
  obtain ⟨-, e⟩ := lead_eq _ 0 _ c R hc2 hX h1
  exact ⟨by simp, e.symm⟩
def gapI : Nat -> List Int
 | 0 => []
 | 1 => [32]
 | 2 => [10, 32]
 | 3 => [32, 35, 32, 99, 10, 10, 32, 32]
 | _ => [9]
structure Ordn (c : Int) : Prop where
 b : blankP c = false
 e : c ≠ 10
 h : c ≠ 35
section
variable {L : List Lp} {p : Pl} {c : Int} {R : List Int}
theorem mk_first {n : Int} : Mk L n p true := fun h => by cases h
theorem mk_deep {x : Lp} {a : Nat} (hx : L[p.i]? = some x) (hn : x.n = (a : Nat)) (ha : a ≠ 0) : Mk L (-1) p false := fun _ => by
 refine ⟨x, hx, ?_, by omega⟩
 show decide (P10.markP x.n x.t ≠ 0) = false
 unfold P10.markP
 rw [if_pos (by omega)]
 rfl
theorem mk_empty {x : Lp} {k : Nat} (hx : L[p.i]? = some x) (hn : x.n = ((0 : Nat) : Int)) (ht : x.t = []) : Mk L (-1) p false := fun _ => by
 refine ⟨x, hx, ?_, by omega⟩
 show decide (P10.markP x.n x.t ≠ 0) = false
 rw [hn, ht]
 decide
theorem blanks_ok {B : List Int} (h : ∀ b, b ∈ B -> b = 32) : ∀ b, b ∈ B -> blankP b = true := fun b hb => by rw [h b hb]; decide
theorem nex_gap (G : GoodL L) (j : Nat) (B : List Int) (hB : ∀ b, b ∈ B -> b = 32) (h : At L p (B ++ (gapI j ++ c :: R))) (hc : Ordn c) : ∃ q, nexW orc L (-1) p = .ok (some q) /\ At L q (c :: R) := by
 obtain ⟨f, hf⟩ : ∃ f, L.length - p.i = f + 1 := ⟨L.length - p.i - 1, by have := h.lt; omega⟩
 have hc32 : c ≠ 32 := by rintro rfl; exact absurd hc.b (by decide)
 unfold nexW
 rw [hf]
 have two : ∀ {b : Int} {f : Nat} {p : Pl}, blankP b = true -> At L p (B ++ b :: c :: R) -> ∃ q, nexF orc L (-1) (f + 1) p true = .ok (some q) /\ At L q (c :: R) := fun {b f p} hb h => by
  obtain ⟨h1, h2⟩ := nex_ord (f := f) (n := -1) (first := true) (B ++ [b]) (by rw [List.append_assoc]; exact h) (fun x hx => by
   rcases List.mem_append.1 hx with hx | hx
   ·exact blanks_ok hB x hx
   ·simp at hx; rw [hx]; exact hb) hc.b hc.e hc.h mk_first
  exact ⟨_, h1, h2⟩
 match j, h with
 | 0, h =>
  obtain ⟨h1, h2⟩ := nex_ord (f := f) (n := -1) (first := true) B h (blanks_ok hB) hc.b hc.e hc.h mk_first
  exact ⟨_, h1, h2⟩
 | 1, h => exact two (by decide) h
 | 2, h =>
  obtain ⟨h1, h2, x, hx, hn⟩ := nex_eol (f := f) (n := -1) (first := true) G B (a := 1) h (blanks_ok hB) hc32 mk_first
  obtain ⟨f', hf'⟩ : ∃ f', f = f' + 1 := ⟨f - 1, by have := h2.lt; have : p.i + 1 < L.length := this; omega⟩
  rw [h1, hf']
  obtain ⟨h3, h4⟩ := nex_ord (f := f') (n := -1) (first := false) [] h2 (fun b hb => by cases hb) hc.b hc.e hc.h (mk_deep (a := 1) hx hn (by decide))
  exact ⟨_, h3, h4⟩
 | 3, h =>
  obtain ⟨h1, h2, x, hx, hn⟩ := nex_com (f := f) (n := -1) (first := true) (c := 10) (R := 32 :: 32 :: c :: R) G B (blanks_ok hB) [32, 99] (a := 0) h (by decide) (by decide) mk_first
  obtain ⟨f', hf'⟩ : ∃ f', f = f' + 1 := ⟨f - 1, by have := h2.lt; have : p.i + 1 < L.length := this; omega⟩
  rw [h1, hf']
  have ht : x.t = [] := by
   have := (At.line (a := 2) (c := c) (R := R) G h2 hc32).1
   have htx : tx L (p.i + 1) = x.t := by unfold tx; rw [hx]
   have this : (tx L (p.i + 1)).drop 0 = [] := this
   rw [htx, List.drop_zero] at this
   exact this
  obtain ⟨h3, h4, y, hy, hm⟩ := nex_eol (f := f') (n := -1) (first := false) G [] (a := 2) h2 (fun b hb => by cases hb) hc32 (mk_empty (k := 0) hx hn ht)
  obtain ⟨f2, hf2⟩ : ∃ f2, f' = f2 + 1 := ⟨f' - 1, by have := h4.lt; have : p.i + 1 + 1 < L.length := this; omega⟩
  rw [h3, hf2]
  obtain ⟨h5, h6⟩ := nex_ord (f := f2) (n := -1) (first := false) [] h4 (fun b hb => by cases hb) hc.b hc.e hc.h (mk_deep (a := 2) hy hm (by decide))
  exact ⟨_, h5, h6⟩
 | j + 4, h => exact two (b := 9) (by decide) h
theorem gon_gap (G : GoodL L) (j : Nat) (B : List Int) (hB : ∀ b, b ∈ B -> b = 32) (h : At L p (B ++ (gapI j ++ c :: R))) (hc : Ordn c) : ∃ q, gonW orc L (-1) p = .ok q /\ At L q (c :: R) := by
 obtain ⟨q, h1, h2⟩ := nex_gap G j B hB h hc
 exact ⟨q, by unfold gonW; rw [h1], h2⟩
theorem At.hd (h : At L p (c :: R)) (hc : c ≠ 10) : hd L p = c /\ 0 < (rst L p).length := by
 obtain ⟨h1, -⟩ := h.cons hc
 unfold Go.Proofs.YtipbhdhiklmieaaGreatDoor.hd
 rw [h1]
 exact ⟨rfl, by simp⟩
theorem At.sta (h : At L p (c :: R)) (hc : c ≠ 10) (d : Int) : staW L p d = decide (c = d) := by
 obtain ⟨h1, h2⟩ := h.hd hc
 unfold staW
 rw [h1, decide_eq_true h2]
 rfl
theorem end_gen (w B Y : List Int) (hw : ∀ c, c ∈ w -> Ltr c) (hB : ∀ b, b ∈ B -> blankP b = true) (hY : ∀ y r, Y = y :: r -> P9.enAt (w ++ (B ++ Y)) true (w.length + B.length) = true) : P9.endP (w ++ (B ++ Y)) true = w.length := by
 have hat : ∀ j, j < w.length + B.length -> (∃ c, iAt (w ++ (B ++ Y)) j = c /\ (j < w.length /\ Ltr c \/ w.length <= j /\ blankP c = true)) := fun j hj => by
  refine ⟨_, rfl, ?_⟩
  by_cases h : j < w.length
  ·refine .inl ⟨h, ?_⟩
   have : iAt (w ++ (B ++ Y)) j = w[j] := by unfold iAt; rw [List.getElem?_append_left h]; simp [h]
   rw [this]
   exact hw _ (List.getElem_mem h)
  ·refine .inr ⟨by omega, ?_⟩
   have hj2 : j - w.length < B.length := by omega
   have : iAt (w ++ (B ++ Y)) j = B[j - w.length] := by
    unfold iAt
    rw [List.getElem?_append_right (by omega), List.getElem?_append_left hj2]
    simp [hj2]
   rw [this]
   exact hB _ (List.getElem_mem hj2)
 have hs : P9.stopP (w ++ (B ++ Y)) true = w.length + B.length := by
  refine P9.stop_eq (by simp only [List.length_append]; omega) (fun j hj => ?_) (fun hlt => ?_)
  ·obtain ⟨c, hc, h⟩ := hat j hj
   show P9.enP _ (iAt (w ++ (B ++ Y)) j) _ true = false
   rw [hc]
   unfold P9.enP
   rcases h with ⟨-, h⟩ | ⟨-, h⟩
   ·obtain ⟨-, l2, -, -, l5, l6⟩ := h.is
    rw [if_neg l5, if_neg l6, l2]
    rfl
   ·unfold blankP at h
    have h := of_decide_eq_true h
    rcases h with rfl | rfl <;> rw [if_neg (by decide), if_neg (by decide)] <;> decide
  ·cases Y with
   | nil => simp at hlt
   | cons y r => exact hY y r rfl
 unfold P9.endP
 rw [hs]
 have trim : ∀ m, m <= B.length -> P9.trimP (w ++ (B ++ Y)) (w.length + m) = P9.trimP (w ++ (B ++ Y)) w.length := by
  intro m
  induction m with
  | zero => intro _; rfl
  | succ m ih =>
   intro hm
   obtain ⟨c, hc, h⟩ := hat (w.length + m) (by omega)
   rcases h with ⟨h, -⟩ | ⟨-, h⟩
   ·omega
   ·rw [show w.length + (m + 1) = (w.length + m) + 1 from rfl, P9.trimP, hc, if_pos h]
    exact ih (by omega)
 rw [trim _ (Nat.le_refl _)]
 rcases Nat.eq_zero_or_pos w.length with h0 | h0
 ·rw [h0]; rfl
 ·obtain ⟨m, hm⟩ : ∃ m, w.length = m + 1 := ⟨w.length - 1, by omega⟩
  obtain ⟨c, hc, h⟩ := hat m (by omega)
  rcases h with ⟨-, h⟩ | ⟨h, -⟩
  ·rw [hm, P9.trimP, hc, h.is.1]
   rfl
  ·omega
def Sep (c : Int) (R : List Int) : Prop := c = 44 \/ c = 93 \/ c = 125 \/ c = 58 /\ ∃ r, R = 32 :: r
theorem Sep.ord (h : Sep c R) : Ordn c := by
 rcases h with rfl | rfl | rfl | ⟨rfl, -⟩ <;> exact ⟨by decide, by decide, by decide⟩
theorem Sep.en (h : Sep c R) (h2 : At L p (c :: R)) (X : List Int) : P9.enAt (X ++ rst L p) true X.length = true := by
 obtain ⟨h3, h4⟩ := h2.cons h.ord.e
 have h0 : iAt (X ++ rst L p) X.length = c := by
  rw [h3]
  unfold iAt
  rw [List.getElem?_append_right (Nat.le_refl _), Nat.sub_self]
  rfl
 show P9.enP _ (iAt (X ++ rst L p) X.length) (P9.bhP (X ++ rst L p) X.length) true = true
 rw [h0]
 unfold P9.enP
 rcases h with rfl | rfl | rfl | ⟨rfl, r, rfl⟩
 ·rw [if_neg (by decide), if_neg (by decide)]; decide
 ·rw [if_neg (by decide), if_neg (by decide)]; decide
 ·rw [if_neg (by decide), if_neg (by decide)]; decide
 ·obtain ⟨h5, -⟩ := h4.cons (c := 32) (by decide)
  have hb : P9.bhP (X ++ rst L p) X.length = 32 := by
   unfold P9.bhP
   rw [h3, h5, if_pos (by simp)]
   unfold iAt
   rw [List.getElem?_append_right (by omega), show X.length + 1 - X.length = 1 by omega]
   rfl
  rw [hb, if_pos rfl]
  decide
theorem gap_line (G : GoodL L) (j : Nat) (h : At L p (gapI j ++ c :: R)) (hs : Sep c R) : ∃ B Y, rst L p = B ++ Y /\ (∀ b, b ∈ B -> blankP b = true) /\ (∀ w : List Int, ∀ y r, Y = y :: r -> P9.enAt (w ++ (B ++ Y)) true (w.length + B.length) = true) /\ (∀ y r, Y = y :: r -> blankP y = false) /\ (Y = [] -> j = 2) := by
 have hc32 : c ≠ 32 := by rintro rfl; exact absurd hs.ord.b (by decide)
 have use : ∀ B : List Int, (∀ b, b ∈ B -> blankP b = true) -> At L p (B ++ c :: R) -> ∃ B Y, rst L p = B ++ Y /\ (∀ b, b ∈ B -> blankP b = true) /\ (∀ w : List Int, ∀ y r, Y = y :: r -> P9.enAt (w ++ (B ++ Y)) true (w.length + B.length) = true) /\ (∀ y r, Y = y :: r -> blankP y = false) /\ (Y = [] -> j = 2) := fun B hB h => by
  obtain ⟨h1, h2⟩ := h.app B (fun b hb => blank_ne (hB b hb))
  obtain ⟨h3, -⟩ := h2.cons hs.ord.e
  refine ⟨B, rst L (p.plus B.length), h1, hB, fun w y r _ => ?_, fun y r e => ?_, fun e => ?_⟩
  ·have := hs.en h2 (w ++ B)
   rw [List.append_assoc, List.length_append] at this
   exact this
  ·rw [h3] at e
   rw [<- (List.cons.inj e).1]
   exact hs.ord.b
  ·rw [h3] at e
   cases e
 match j, h with
 | 0, h => exact use [] (fun b hb => by cases hb) h
 | 1, h => exact use [32] (fun b hb => by simp at hb; rw [hb]; decide) h
 | 2, h =>
  obtain ⟨h1, -⟩ := At.line (a := 1) G h hc32
  exact ⟨[], [], h1, (fun b hb => by cases hb), (fun w y r e => by cases e), (fun y r e => by cases e), fun _ => rfl⟩
 | 3, h =>
  obtain ⟨h1, h2⟩ := At.app [32, 35, 32, 99] (R := 10 :: 10 :: 32 :: 32 :: c :: R) h (by decide)
  refine ⟨[32], 35 :: 32 :: 99 :: rst L (p.plus 4), h1, (fun b hb => by simp at hb; rw [hb]; decide), (fun w y r e => ?_), (fun y r e => by cases e; decide), fun e => by cases e⟩
  have h0 : iAt (w ++ ([32] ++ 35 :: 32 :: 99 :: rst L (p.plus 4))) (w.length + 1) = 35 := by
   unfold iAt
   rw [List.getElem?_append_right (by omega), show w.length + 1 - w.length = 1 by omega]
   rfl
  have ha : P9.ahP (w ++ ([32] ++ 35 :: 32 :: 99 :: rst L (p.plus 4))) (w.length + 1) = 32 := by
   unfold P9.ahP
   rw [if_pos (by omega), show w.length + 1 - 1 = w.length by omega]
   unfold iAt
   rw [List.getElem?_append_right (Nat.le_refl _), Nat.sub_self]
   rfl
  show P9.enP (P9.ahP (w ++ ([32] ++ 35 :: 32 :: 99 :: rst L (p.plus 4))) (w.length + 1)) (iAt (w ++ ([32] ++ 35 :: 32 :: 99 :: rst L (p.plus 4))) (w.length + 1)) _ true = true
  rw [h0, ha]
  unfold P9.enP
  rw [if_neg (by decide), if_pos rfl]
  decide
 | j + 4, h => exact use [9] (fun b hb => by simp at hb; rw [hb]; decide) h
theorem fur_gap (G : GoodL L) (j : Nat) (h : At L p (gapI j ++ c :: R)) (hs : Sep c R) : furW orc L (-1) true p = none := by
 obtain ⟨B, Y, h1, hB, hY, hb, h2⟩ := gap_line G j h hs
 obtain ⟨f, hf⟩ : ∃ f, L.length - p.i = f + 1 := ⟨L.length - p.i - 1, by have := h.lt; omega⟩
 unfold furW
 rw [hf, furF]
 have hx : L[p.i]? = some L[p.i] := List.getElem?_eq_getElem h.lt
 rw [hx]
 dsimp only
 have hp : pasW orc L p = p.plus B.length := by
  unfold pasW
  rw [h1, past_run B hB hb]
 have hr : rst L (p.plus B.length) = Y := by
  show (tx L p.i).drop (p.k + B.length) = Y
  rw [<- List.drop_drop]
  show (rst L p).drop B.length = Y
  rw [h1, List.drop_left]
 rw [hp, hr]
 cases hYY : Y with
 | cons y r => rw [if_neg (by simp), if_pos (.inl rfl)]
 | nil =>
  rw [if_pos (by rfl)]
  have hj := h2 hYY
  subst hj
  have hc32 : c ≠ 32 := by rintro rfl; exact absurd hs.ord.b (by decide)
  obtain ⟨-, x, hx2, hn, h3⟩ := At.line (a := 1) G h hc32
  obtain ⟨f', hf'⟩ : ∃ f', f = f' + 1 := ⟨f - 1, by have := h3.lt; have : p.i + 1 < L.length := this; omega⟩
  rw [hf', furF, hx2]
  dsimp only
  obtain ⟨h4, -⟩ := h3.cons hs.ord.e
  have hp2 : pasW orc L ⟨p.i + 1, 0⟩ = ⟨p.i + 1, 0⟩ := by
   unfold pasW
   have := past_run (X := rst L ⟨p.i + 1, 0⟩) [] (fun b hb => by cases hb) (fun y r e => by rw [h4] at e; rw [<- (List.cons.inj e).1]; exact hs.ord.b)
   rw [List.nil_append] at this
   rw [this]
   rfl
  have hxt : x.t = rst L ⟨p.i + 1, 0⟩ := by
   show x.t = (tx L (p.i + 1)).drop 0
   unfold tx
   rw [hx2, List.drop_zero]
  have he : orc.pEnd true x.t = 0 := by
   rw [hxt]
   have := end_gen [] [] (rst L ⟨p.i + 1, 0⟩) (fun c hc => by cases hc) (fun b hb => by cases hb) (fun y r e => hs.en h3 [])
   exact this
  rw [hp2, if_neg (by rw [h4]; simp)]
  split
  ·rfl
  ·first | rfl | rw [if_pos he]
theorem pln_word (G : GoodL L) (j : Nat) {w : List Int} (hw : ∀ c, c ∈ w -> Ltr c) (h : At L p (w ++ (gapI j ++ c :: R))) (hs : Sep c R) : plnF orc L (-1) true (L.length + 1) p p [] = ([w], p.plus w.length) /\ At L (p.plus w.length) (gapI j ++ c :: R) := by
 obtain ⟨h1, h2⟩ := h.app w (fun b hb => by have := hw b hb; unfold Ltr at this; omega)
 refine ⟨?_, h2⟩
 obtain ⟨B, Y, h3, hB, hY, -, -⟩ := gap_line G j h2 hs
 have he : orc.pEnd true (rst L p) = w.length := by
  rw [h1, h3]
  exact end_gen w B Y hw hB (hY w)
 rw [plnF]
 simp only [he]
 rw [fur_gap G j h2 hs, h1]
 simp
theorem fold_one (w : List Int) : orc.fold [w] = w := rfl
theorem Ordn.ltr (h : Ltr c) : Ordn c := by
 obtain ⟨l1, -, -, -, -, l6⟩ := h.is
 exact ⟨l1, by unfold Ltr at h; omega, l6⟩
theorem beg_word (G : GoodL L) (j : Nat) {w : List Int} (h0 : 0 < w.length) (hw : ∀ c, c ∈ w -> Ltr c) (h : At L p (w ++ (gapI j ++ c :: R))) (hs : Sep c R) {s : St} (hp : s.p = p) {d : Int} : begW orc L (-1) d false s = .ok (scaW orc { s with p := p.plus w.length } hs0 w 1) := by
 cases hww : w with
 | nil => rw [hww] at h0; simp at h0
 | cons a v =>
  have ha : Ltr a := hw a (by rw [hww]; simp)
  have h' := h
  rw [hww] at h'
  obtain ⟨q, hq, -⟩ := nex_gap (c := a) (R := v ++ (gapI j ++ c :: R)) G 0 [] (fun b hb => by cases hb) h' (Ordn.ltr ha)
  have hq2 : nexW orc L (-1) p = .ok (some p) := by
   obtain ⟨f, hf⟩ : ∃ f, L.length - p.i = f + 1 := ⟨L.length - p.i - 1, by have := h.lt; omega⟩
   unfold nexW
   rw [hf]
   exact (nex_ord (f := f) (n := -1) (first := true) (c := a) (R := v ++ (gapI j ++ c :: R)) [] h' (fun b hb => by cases hb) (Ordn.ltr ha).b (Ordn.ltr ha).e (Ordn.ltr ha).h mk_first).1
  obtain ⟨hd1, hd2⟩ := At.hd (c := a) (R := v ++ (gapI j ++ c :: R)) h' (Ordn.ltr ha).e
  have hl := ha
  unfold Ltr at hl
  have ep : proF orc L (-1) 3 s.p hs0 = .ok (hs0, true, p) := by
   rw [hp, proF, hq2]
   simp only [hd1]
   rw [if_neg (by omega), if_neg (by omega)]
  have hss : ({ s with p := p } : St) = s := by rw [<- hp]
  have hbg : orc.begins true (rst L p) = true := by
   obtain ⟨h1, -⟩ := At.cons (c := a) (R := v ++ (gapI j ++ c :: R)) h' (Ordn.ltr ha).e
   show P9.begP (rst L p) true = true
   rw [h1]
   obtain ⟨-, -, l3, l4, -, -⟩ := ha.is
   unfold P9.begP P9.safeP
   rw [show iAt (a :: rst L (p.plus 1)) 0 = a from rfl, l3, l4, if_neg (by omega)]
   simp
  unfold begW
  rw [ep]
  simp only [hd1, hss]
  rw [if_neg (by omega), if_neg (by omega), if_neg (by omega), show (!false || decide (0 < s.op.length)) = true from rfl, if_pos hbg]
  unfold plnW
  rw [hp, (pln_word G j hw h hs).1, <- hww]
  rfl
end
abbrev Wg := List Int × Nat
def WgOk (x : Wg) : Prop := 0 < x.1.length /\ ∀ c, c ∈ x.1 -> Ltr c
def itL (tail : Bool) (jf : Nat) : List Wg -> List Int
 | [] => gapI jf ++ [93]
 | x :: r => gapI x.2 ++ (x.1 ++ (if r.isEmpty && !tail then gapI jf ++ [93] else gapI x.2 ++ 44 :: itL tail jf r))
def itM (tail : Bool) (jf : Nat) : List (Wg × Wg) -> List Int
 | [] => gapI jf ++ [125]
 | (x, y) :: r => gapI x.2 ++ (x.1 ++ (gapI x.2 ++ 58 :: 32 :: (gapI y.2 ++ (y.1 ++ (if r.isEmpty && !tail then gapI jf ++ [125] else gapI y.2 ++ 44 :: itM tail jf r)))))
def scE (w : List Int) : Ev := ⟨7, orc.text w, ⟨#[]⟩, ⟨#[]⟩, 1, false⟩
def enE (cl : Int) : Ev := ⟨if cl = 93 then 4 else 6, ⟨#[]⟩, ⟨#[]⟩, ⟨#[]⟩, 0, false⟩
structure Lev (s : St) (cl : Int) (nx : Nat) : Prop where
 ex : ∃ l, s.op = [l] /\ l.cl = cl /\ l.pr = false /\ l.nx = nx
section
variable {L : List Lp} {p : Pl} {c : Int} {R : List Int}
theorem gon_word (G : GoodL L) (B : List Int) (hB : ∀ b, b ∈ B -> b = 32) {x : Wg} (hx : WgOk x) (h : At L p (B ++ (gapI x.2 ++ (x.1 ++ R)))) : ∃ q a v, x.1 = a :: v /\ Ltr a /\ gonW orc L (-1) p = .ok q /\ At L q (x.1 ++ R) := by
 obtain ⟨h0, hw⟩ := hx
 cases hww : x.1 with
 | nil => rw [hww] at h0; simp at h0
 | cons a v =>
  have ha : Ltr a := hw a (by rw [hww]; simp)
  rw [hww] at h
  obtain ⟨q, h1, h2⟩ := gon_gap (c := a) (R := v ++ R) G x.2 B hB h (Ordn.ltr ha)
  exact ⟨q, a, v, rfl, ha, h1, h2⟩
theorem clo_to {s : St} {l : Lv} (hop : s.op = [l]) (hp : l.pr = false) (hc : l.cl = 93 \/ l.cl = 125) (q : Pl) : (cloS { s with p := q }).op = [] /\ (cloS { s with p := q }).to = s.to ++ [enE l.cl] := by
 unfold cloS
 dsimp only
 rw [hop]
 unfold telW enE
 dsimp only
 rw [hp]
 refine ⟨rfl, ?_⟩
 rcases hc with h | h <;> rw [h] <;> simp
theorem ent_close (G : GoodL L) {s : St} {cl : Int} (hv : Lev s cl 0) (hcl : cl = 93 \/ cl = 125) (j : Nat) (h : At L s.p (gapI j ++ [cl])) (d : Int) : ∃ s', stpW orc L (-1) d false s = .ok s' /\ s'.op = [] /\ s'.to = s.to ++ [enE cl] := by
 obtain ⟨l, hop, h1, h2, h3⟩ := hv.ex
 have ho : Ordn cl := by rcases hcl with rfl | rfl <;> exact ⟨by decide, by decide, by decide⟩
 obtain ⟨q, hq, ha⟩ := gon_gap (R := []) G j [] (fun b hb => by cases hb) h ho
 obtain ⟨e1, e2⟩ := clo_to (q := q.plus 1) hop h2 (by rw [h1]; exact hcl)
 rw [h1] at e2
 have e0 : stpW orc L (-1) d false s = entW orc L (-1) d false s l := by
  unfold stpW
  rw [hop]
  dsimp only
  rw [if_pos h3]
 refine ⟨_, ?_, e1, e2⟩
 rw [e0]
 unfold entW
 rw [hq]
 dsimp only
 rw [ha.sta ho.e, h1, if_pos (by simp)]
theorem com_step (G : GoodL L) {s : St} {cl : Int} (hv : Lev s cl 4) (hcl : cl = 93 \/ cl = 125) (j : Nat) (hc : c = 44 \/ c = cl) (h : At L s.p (gapI j ++ c :: R)) (d : Int) : (c = 44 -> ∃ s', stpW orc L (-1) d false s = .ok s' /\ Lev s' cl 0 /\ At L s'.p R /\ s'.to = s.to) /\ (c = cl -> ∃ s', stpW orc L (-1) d false s = .ok s' /\ s'.op = [] /\ s'.to = s.to ++ [enE cl]) := by
 obtain ⟨l, hop, h1, h2, h3⟩ := hv.ex
 have ho : Ordn c := by rcases hc with rfl | rfl; exact ⟨by decide, by decide, by decide⟩; rcases hcl with rfl | rfl <;> exact ⟨by decide, by decide, by decide⟩
 obtain ⟨q, hq, ha⟩ := gon_gap G j [] (fun b hb => by cases hb) h ho
 have e0 : stpW orc L (-1) d false s = comW orc L (-1) s l := by
  unfold stpW
  rw [hop]
  dsimp only
  rw [if_neg (by rw [h3]; decide), if_neg (by rw [h3]; decide), if_neg (by rw [h3]; decide), if_neg (by rw [h3]; decide)]
 have h44 : cl ≠ 44 := by rcases hcl with rfl | rfl <;> decide
 refine ⟨fun e => ?_, fun e => ?_⟩
 ·refine ⟨topS { s with p := q.plus 1 } fun l => { l with nx := 0 }, ?_, ⟨{ l with nx := 0 }, by unfold topS; dsimp only; rw [hop], h1, h2, rfl⟩, (ha.cons ho.e).2, rfl⟩
  rw [e0]
  unfold comW
  rw [hq]
  dsimp only
  rw [ha.sta ho.e, if_pos (by simp [e])]
 ·obtain ⟨e1, e2⟩ := clo_to (q := q.plus 1) hop h2 (by rw [h1]; exact hcl)
  rw [h1] at e2
  refine ⟨_, ?_, e1, e2⟩
  rw [e0]
  unfold comW
  rw [hq]
  dsimp only
  rw [ha.sta ho.e, ha.sta ho.e, h1, if_neg (by simp; omega), if_pos (by simp [e])]
theorem run_st {n d : Int} {s s1 : St} {cl : Int} {nx : Nat} {f : Nat} (hv : Lev s cl nx) (e : stpW orc L n d false s = .ok s1) : runW orc L n d false (f + 1) s = runW orc L n d false f s1 := by
 obtain ⟨l, hop, -⟩ := hv.ex
 rw [runW, hop]
 dsimp only
 rw [e]
theorem run_done {n d : Int} {s : St} (h : s.op = []) (f : Nat) : runW orc L n d false f s = some (.ok s) := by
 cases f <;> rw [runW, h]
theorem rest_sep (tail : Bool) (jf j : Nat) (cl : Int) (hcl : cl = 93 \/ cl = 125) (e : Bool) (T : List Int) : ∃ j' c R, (if e && !tail then gapI jf ++ [cl] else gapI j ++ 44 :: T) = gapI j' ++ c :: R /\ Sep c R /\ ((e && !tail) = true /\ c = cl /\ R = [] \/ (e && !tail) = false /\ c = 44 /\ R = T) := by
 by_cases h : (e && !tail) = true
 ·rw [if_pos h]
  exact ⟨jf, cl, [], rfl, by rcases hcl with rfl | rfl; exact .inr (.inl rfl); exact .inr (.inr (.inl rfl)), .inl ⟨h, rfl, rfl⟩⟩
 ·rw [if_neg h]
  exact ⟨j, 44, T, rfl, .inl rfl, .inr ⟨by simpa using h, rfl, rfl⟩⟩
theorem sgn_not (h : At L p (c :: R)) (h10 : c ≠ 10) (h58 : c ≠ 58) (s : St) : sgnW orc L s p = false := by
 unfold sgnW aloW
 rw [h.sta h10, decide_eq_false h58]
 rfl
theorem ent_list (G : GoodL L) {x : Wg} (hx : WgOk x) {s : St} (hv : Lev s 93 0) {j : Nat} (h : At L s.p (gapI x.2 ++ (x.1 ++ (gapI j ++ c :: R)))) (hs : Sep c R) (h58 : c ≠ 58) (d : Int) :
  ∃ s1 s2, stpW orc L (-1) d false s = .ok s1 /\ Lev s1 93 1 /\ stpW orc L (-1) d false s1 = .ok s2 /\ Lev s2 93 4 /\ At L s2.p (gapI j ++ c :: R) /\ s2.to = s.to ++ [ev0, scE x.1] := by
 obtain ⟨l, hop, h1, h2, h3⟩ := hv.ex
 obtain ⟨q, a, v, hww, ha, hq, h4⟩ := gon_word G [] (fun b hb => by cases hb) hx h
 have h4' := h4
 rw [hww] at h4'
 have hla := ha
 unfold Ltr at hla
 have hn10 : a ≠ 10 := by omega
 obtain ⟨s0, hs0e, hp0, hop0, hto0⟩ : ∃ s0 : St, s0 = { topS { s with p := q } (fun l => { l with nx := 1, bi := q.i, bk := q.k, ho := s.to.length }) with to := s.to ++ [ev0] } /\ s0.p = q /\ s0.op = [{ l with nx := 1, bi := q.i, bk := q.k, ho := s.to.length }] /\ s0.to = s.to ++ [ev0] := ⟨_, rfl, rfl, by unfold topS; dsimp only; rw [hop], rfl⟩
 have e0 : stpW orc L (-1) d false s = entW orc L (-1) d false s l := by
  unfold stpW
  rw [hop]
  dsimp only
  rw [if_pos h3]
 have hb := beg_word (d := d) G j hx.1 hx.2 h4 hs hp0
 have e1 : stpW orc L (-1) d false s = .ok (scaW orc { s0 with p := q.plus x.1.length } hs0 x.1 1) := by
  rw [<- hb, hs0e, e0]
  unfold entW
  rw [hq]
  dsimp only
  have hal : aloW orc L q 63 = false := by
   unfold aloW
   rw [At.sta (c := a) (R := v ++ (gapI j ++ c :: R)) h4' hn10, decide_eq_false (by omega)]
   rfl
  rw [At.sta (c := a) (R := v ++ (gapI j ++ c :: R)) h4' hn10, hal, h1, if_neg (by simp; omega), if_neg (by decide), if_neg (by decide)]
 have h5 : At L (q.plus x.1.length) (gapI j ++ c :: R) := (h4.app x.1 (fun b hb => by have := hx.2 b hb; unfold Ltr at this; omega)).2
 have e2 : (scaW orc { s0 with p := q.plus x.1.length } hs0 x.1 1).op = [{ l with nx := 1, bi := q.i, bk := q.k, ho := s.to.length, ta := max l.ta 0 }] := by
  unfold scaW telW
  dsimp only
  rw [hop0]
 have e3 : (scaW orc { s0 with p := q.plus x.1.length } hs0 x.1 1).to = s.to ++ [ev0, scE x.1] := by
  unfold scaW telW
  dsimp only
  rw [hto0, List.append_assoc]
  rfl
 have e4 : (scaW orc { s0 with p := q.plus x.1.length } hs0 x.1 1).p = q.plus x.1.length := rfl
 generalize scaW orc { s0 with p := q.plus x.1.length } hs0 x.1 1 = s1 at e1 e2 e3 e4
 refine ⟨s1, topS s1 fun l => { l with nx := 4 }, e1, ⟨_, e2, h1, h2, rfl⟩, ?_, ⟨{ l with nx := 4, bi := q.i, bk := q.k, ho := s.to.length, ta := max l.ta 0 }, by unfold topS; dsimp only; rw [e2], h1, h2, rfl⟩, by show At L s1.p _; rw [e4]; exact h5, e3⟩
 obtain ⟨q2, hq2, h6⟩ := nex_gap G j [] (fun b hb => by cases hb) h5 hs.ord
 have e9 : stpW orc L (-1) d false s1 = iteW orc L (-1) d s1 { l with nx := 1, bi := q.i, bk := q.k, ho := s.to.length, ta := max l.ta 0 } := by
  unfold stpW
  rw [e2]
  rfl
 rw [e9]
 unfold iteW
 rw [e4, hq2]
 dsimp only
 rw [if_pos (.inl (sgn_not h6 hs.ord.e h58 s1))]
theorem run_list (G : GoodL L) (tail : Bool) (jf : Nat) (d : Int) : ∀ (xs : List Wg) (s : St), (∀ x, x ∈ xs -> WgOk x) -> Lev s 93 0 -> At L s.p (itL tail jf xs) -> ∃ f s', runW orc L (-1) d false f s = some (.ok s') /\ s'.to.filter nz = s.to.filter nz ++ xs.map (fun x => scE x.1) ++ [enE 93]
 | [], s, _, hv, h => by
  obtain ⟨s', e, h1, h2⟩ := ent_close G hv (.inl rfl) jf h d
  refine ⟨1, s', (run_st hv e).trans (run_done h1 0), ?_⟩
  rw [h2, List.filter_append]
  simp
  rfl
 | x :: r, s, hx, hv, h => by
  obtain ⟨j', c, R, hR, hs, hc⟩ := rest_sep tail jf x.2 93 (.inl rfl) r.isEmpty (itL tail jf r)
  rw [itL, hR] at h
  have h58 : c ≠ 58 := by rcases hc with ⟨-, rfl, -⟩ | ⟨-, rfl, -⟩ <;> decide
  obtain ⟨s1, s2, e1, v1, e2, v2, a2, t2⟩ := ent_list G (hx x (by simp)) hv h hs h58 d
  have hf : s2.to.filter nz = s.to.filter nz ++ [scE x.1] := by
   rw [t2, List.filter_append]
   rfl
  obtain ⟨k1, k2⟩ := com_step G v2 (.inl rfl) j' (by rcases hc with ⟨-, h, -⟩ | ⟨-, h, -⟩; exact .inr h; exact .inl h) a2 d
  rcases hc with ⟨he, hc, hRR⟩ | ⟨he, hc, hRR⟩
  ·obtain ⟨s3, e3, o3, t3⟩ := k2 hc
   have hr : r = [] := by cases r; rfl; simp at he
   refine ⟨3, s3, (run_st hv e1).trans ((run_st v1 e2).trans ((run_st v2 e3).trans (run_done o3 0))), ?_⟩
   rw [t3, List.filter_append, hf, hr]
   simp
   rfl
  ·obtain ⟨s3, e3, v3, a3, t3⟩ := k1 hc
   rw [hRR] at a3
   obtain ⟨f, s', e4, t4⟩ := run_list G tail jf d r s3 (fun y hy => hx y (by simp [hy])) v3 a3
   refine ⟨f + 3, s', (run_st hv e1).trans ((run_st v1 e2).trans ((run_st v2 e3).trans e4)), ?_⟩
   rw [t4, t3, hf]
   simp
end
section
variable {L : List Lp} {p : Pl} {c : Int} {R : List Int}
theorem sgn_yes {r : List Int} (h : At L p (58 :: 32 :: r)) (s : St) : sgnW orc L s p = true := by
 obtain ⟨-, h2⟩ := h.cons (by decide)
 obtain ⟨h3, -⟩ := h2.hd (by decide)
 have hal : aloW orc L p 58 = true := by
  unfold aloW
  rw [h.sta (by decide), h3, show orc.name 32 = false by decide]
  simp
 unfold sgnW
 rw [hal]
 rfl
theorem ent_map (G : GoodL L) {x y : Wg} (hx : WgOk x) (hy : WgOk y) {s : St} (hv : Lev s 125 0) {j : Nat} (h : At L s.p (gapI x.2 ++ (x.1 ++ (gapI x.2 ++ 58 :: 32 :: (gapI y.2 ++ (y.1 ++ (gapI j ++ c :: R))))))) (hs : Sep c R) (d : Int) :
  ∃ s1 s2, stpW orc L (-1) d false s = .ok s1 /\ Lev s1 125 2 /\ stpW orc L (-1) d false s1 = .ok s2 /\ Lev s2 125 4 /\ At L s2.p (gapI j ++ c :: R) /\ s2.to = s.to ++ [scE x.1, scE y.1] := by
 obtain ⟨l, hop, h1, h2, h3⟩ := hv.ex
 obtain ⟨q, a, v, hww, ha, hq, h4⟩ := gon_word G [] (fun b hb => by cases hb) hx h
 have h4' := h4
 rw [hww] at h4'
 have hla := ha
 unfold Ltr at hla
 have hn10 : a ≠ 10 := by omega
 have hsc : Sep 58 (32 :: (gapI y.2 ++ (y.1 ++ (gapI j ++ c :: R)))) := .inr (.inr (.inr ⟨rfl, _, rfl⟩))
 obtain ⟨s0, hs0e, hp0, hop0, hto0⟩ : ∃ s0 : St, s0 = (topS { s with p := q } fun l => { l with nx := 2 }) /\ s0.p = q /\ s0.op = [{ l with nx := 2 }] /\ s0.to = s.to := ⟨_, rfl, rfl, by unfold topS; dsimp only; rw [hop], rfl⟩
 have e0 : stpW orc L (-1) d false s = entW orc L (-1) d false s l := by
  unfold stpW
  rw [hop]
  dsimp only
  rw [if_pos h3]
 have hb := beg_word (d := d) G x.2 hx.1 hx.2 h4 hsc hp0
 have e1 : stpW orc L (-1) d false s = .ok (scaW orc { s0 with p := q.plus x.1.length } hs0 x.1 1) := by
  rw [<- hb, hs0e, e0]
  unfold entW
  rw [hq]
  dsimp only
  have hst : ∀ e : Int, staW L q e = decide (a = e) := fun e => At.sta (c := a) h4' hn10 e
  have hal : aloW orc L q 63 = false := by
   unfold aloW
   rw [hst, decide_eq_false (by omega)]
   rfl
  rw [hst, hal, h1, if_neg (by simp; omega), if_neg (by decide), if_pos rfl]
 have h5 : At L (q.plus x.1.length) (gapI x.2 ++ 58 :: 32 :: (gapI y.2 ++ (y.1 ++ (gapI j ++ c :: R)))) := (h4.app x.1 (fun b hb => by have := hx.2 b hb; unfold Ltr at this; omega)).2
 have e2 : (scaW orc { s0 with p := q.plus x.1.length } hs0 x.1 1).op = [{ l with nx := 2, ta := max l.ta 0 }] := by
  unfold scaW telW
  dsimp only
  rw [hop0]
 have e3 : (scaW orc { s0 with p := q.plus x.1.length } hs0 x.1 1).to = s.to ++ [scE x.1] := by
  unfold scaW telW
  dsimp only
  rw [hto0]
  rfl
 have e4 : (scaW orc { s0 with p := q.plus x.1.length } hs0 x.1 1).p = q.plus x.1.length := rfl
 generalize scaW orc { s0 with p := q.plus x.1.length } hs0 x.1 1 = s1 at e1 e2 e3 e4
 obtain ⟨q2, hq2, h6⟩ := gon_gap G x.2 [] (fun b hb => by cases hb) h5 hsc.ord
 obtain ⟨-, h7⟩ := h6.cons (by decide)
 obtain ⟨q3, b, u, hyy, hbl, hq3, h8⟩ := gon_word G [32] (fun b hb => by simpa using hb) hy h7
 have h8' := h8
 rw [hyy] at h8'
 have hlb := hbl
 unfold Ltr at hlb
 have hst2 : ∀ e : Int, staW L q3 e = decide (b = e) := fun e => At.sta (c := b) h8' (by omega) e
 obtain ⟨s5, hs5, hp5, hop5, hto5⟩ : ∃ s5 : St, s5 = { (topS s1 fun l => { l with nx := if l.pr then 3 else 4 }) with p := q3 } /\ s5.p = q3 /\ s5.op = [{ l with nx := 4, ta := max l.ta 0 }] /\ s5.to = s1.to := ⟨_, rfl, rfl, by unfold topS; dsimp only; rw [e2]; simp [h2], rfl⟩
 have hb2 := beg_word (d := d) G j hy.1 hy.2 h8 hs hp5
 have e5 : stpW orc L (-1) d false s1 = .ok (scaW orc { s5 with p := q3.plus y.1.length } hs0 y.1 1) := by
  have e9 : stpW orc L (-1) d false s1 = valW orc L (-1) d false s1 { l with nx := 2, ta := max l.ta 0 } := by
   unfold stpW
   rw [e2]
   rfl
  rw [<- hb2, hs5, e9]
  unfold valW
  rw [e4, hq2]
  dsimp only
  rw [sgn_yes h6, if_neg (by decide), hq3]
  dsimp only
  unfold entEnds
  dsimp only
  rw [hst2, hst2, h1, if_neg (by simp; omega)]
 have h9 : At L (q3.plus y.1.length) (gapI j ++ c :: R) := (h8.app y.1 (fun b hb => by have := hy.2 b hb; unfold Ltr at this; omega)).2
 refine ⟨s1, scaW orc { s5 with p := q3.plus y.1.length } hs0 y.1 1, e1, ⟨_, e2, h1, h2, rfl⟩, e5, ⟨{ l with nx := 4, ta := max (max l.ta 0) 0 }, by unfold scaW telW; dsimp only; rw [hop5], h1, h2, rfl⟩, h9, ?_⟩
 unfold scaW telW
 dsimp only
 rw [hto5, e3, List.append_assoc]
 rfl
theorem run_map (G : GoodL L) (tail : Bool) (jf : Nat) (d : Int) : ∀ (xs : List (Wg × Wg)) (s : St), (∀ x, x ∈ xs -> WgOk x.1 /\ WgOk x.2) -> Lev s 125 0 -> At L s.p (itM tail jf xs) -> ∃ f s', runW orc L (-1) d false f s = some (.ok s') /\ s'.to.filter nz = s.to.filter nz ++ xs.flatMap (fun x => [scE x.1.1, scE x.2.1]) ++ [enE 125]
 | [], s, _, hv, h => by
  obtain ⟨s', e, h1, h2⟩ := ent_close G hv (.inr rfl) jf h d
  refine ⟨1, s', (run_st hv e).trans (run_done h1 0), ?_⟩
  rw [h2, List.filter_append]
  simp
  rfl
 | (x, y) :: r, s, hx, hv, h => by
  obtain ⟨j', c, R, hR, hs, hc⟩ := rest_sep tail jf y.2 125 (.inr rfl) r.isEmpty (itM tail jf r)
  rw [itM, hR] at h
  obtain ⟨s1, s2, e1, v1, e2, v2, a2, t2⟩ := ent_map G (hx (x, y) (by simp)).1 (hx (x, y) (by simp)).2 hv h hs d
  have hf : s2.to.filter nz = s.to.filter nz ++ [scE x.1, scE y.1] := by
   rw [t2, List.filter_append]
   rfl
  obtain ⟨k1, k2⟩ := com_step G v2 (.inr rfl) j' (by rcases hc with ⟨-, h, -⟩ | ⟨-, h, -⟩; exact .inr h; exact .inl h) a2 d
  rcases hc with ⟨he, hc, hRR⟩ | ⟨he, hc, hRR⟩
  ·obtain ⟨s3, e3, o3, t3⟩ := k2 hc
   have hr : r = [] := by cases r; rfl; simp at he
   refine ⟨3, s3, (run_st hv e1).trans ((run_st v1 e2).trans ((run_st v2 e3).trans (run_done o3 0))), ?_⟩
   rw [t3, List.filter_append, hf, hr]
   simp
   rfl
  ·obtain ⟨s3, e3, v3, a3, t3⟩ := k1 hc
   rw [hRR] at a3
   obtain ⟨f, s', e4, t4⟩ := run_map G tail jf d r s3 (fun y hy => hx y (by simp [hy])) v3 a3
   refine ⟨f + 3, s', (run_st hv e1).trans ((run_st v1 e2).trans ((run_st v2 e3).trans e4)), ?_⟩
   rw [t4, t3, hf]
   simp
end
theorem plc_zero {L : List Lp} (h : 0 < L.length) (G : GoodL L) : plcP L 0 0 = some ⟨0, 0⟩ := by
 unfold plcP
 rw [show ((0 : Int).toNat) = 0 from rfl, List.getElem?_eq_getElem h]
 dsimp only
 rw [if_neg (by omega)]
 have := G.n _ (List.getElem_mem h)
 have e : ((0 : Int) - max L[0].n 0).toNat = 0 := by omega
 rw [e, Nat.zero_min]
theorem beg_at {L : List Lp} {p : Pl} {c : Int} {R : List Int} (h : At L p (c :: R)) (hc : c = 91 \/ c = 123) {s : St} (hp : s.p = p) (d : Int) : begW orc L (-1) d false s = opeW d s hs0 c := by
 have ho : Ordn c := by rcases hc with rfl | rfl <;> exact ⟨by decide, by decide, by decide⟩
 have hq2 : nexW orc L (-1) p = .ok (some p) := by
  obtain ⟨f, hf⟩ : ∃ f, L.length - p.i = f + 1 := ⟨L.length - p.i - 1, by have := h.lt; omega⟩
  unfold nexW
  rw [hf]
  exact (nex_ord (f := f) (n := -1) (first := true) [] h (fun b hb => by cases hb) ho.b ho.e ho.h mk_first).1
 obtain ⟨hd1, -⟩ := h.hd ho.e
 have ep : proF orc L (-1) 3 s.p hs0 = .ok (hs0, true, p) := by
  rw [hp, proF, hq2]
  simp only [hd1]
  rw [if_neg (by omega), if_neg (by omega)]
 have hss : ({ s with p := p } : St) = s := by rw [<- hp]
 unfold begW
 rw [ep]
 simp only [hd1, hss]
 rw [if_neg (by omega), if_neg (by omega), if_pos hc]
def beE (c : Int) : Ev := ⟨if c = 123 then 5 else 3, ⟨#[]⟩, ⟨#[]⟩, ⟨#[]⟩, 0, true⟩
theorem coll_ans {c : Int} {R : List Int} (hc : c = 91 \/ c = 123) (h13 : ∀ x, x ∈ c :: R -> x ≠ 13) (hlast : ∀ X, c :: R ≠ X ++ [10]) {evs : List Ev}
  (run : ∀ (L : List Lp) (s : St), GoodL L -> Lev s (if c = 123 then 125 else 93) 0 -> At L s.p R -> ∃ f s', runW orc L (-1) 0 false f s = some (.ok s') /\ s'.to.filter nz = s.to.filter nz ++ evs) : ∃ f i k, ansW (c :: R) 0 f = some (0, i, k, beE c :: evs) := by
 obtain ⟨G, ha, -⟩ := lines_at h13 hlast (by omega) (by omega)
 have hpl := plc_zero ha.lt G
 have hb : begW orc (lpsO (c :: R)) (-1) 0 false ⟨⟨0, 0⟩, [], [], 0⟩ = .ok ⟨⟨0, 1⟩, [⟨if c = 123 then 125 else 93, false, 0, 0, 0, 0, 0⟩], [beE c], 0⟩ := (beg_at ha hc rfl 0).trans rfl
 obtain ⟨f, s', h1, h2⟩ := run (lpsO (c :: R)) ⟨⟨0, 1⟩, [⟨if c = 123 then 125 else 93, false, 0, 0, 0, 0, 0⟩], [beE c], 0⟩ G ⟨_, rfl, rfl, rfl, rfl⟩ (ha.cons (by omega)).2
 refine ⟨f, ((s'.p.i : Nat) : Int), colW (lpsO (c :: R)) s'.p, ?_⟩
 unfold ansW
 rw [hpl]
 dsimp only
 unfold nodW
 rw [hb]
 dsimp only
 rw [h1]
 dsimp only
 rw [h2]
 have : ([beE c].filter nz) = [beE c] := by rcases hc with rfl | rfl <;> rfl
 rw [this]
 rfl
theorem list_ans (tail : Bool) (jf : Nat) (xs : List Wg) (hx : ∀ x, x ∈ xs -> WgOk x) (h13 : ∀ x, x ∈ 91 :: itL tail jf xs -> x ≠ 13) (hlast : ∀ X, 91 :: itL tail jf xs ≠ X ++ [10]) : ∃ f i k, ansW (91 :: itL tail jf xs) 0 f = some (0, i, k, beE 91 :: (xs.map (fun x => scE x.1) ++ [enE 93])) :=
 coll_ans (.inl rfl) h13 hlast (fun L s G hv ha => by
  obtain ⟨f, s', h1, h2⟩ := run_list G tail jf 0 xs s hx hv ha
  exact ⟨f, s', h1, by rw [h2, List.append_assoc]⟩)
theorem map_ans (tail : Bool) (jf : Nat) (xs : List (Wg × Wg)) (hx : ∀ x, x ∈ xs -> WgOk x.1 /\ WgOk x.2) (h13 : ∀ x, x ∈ 123 :: itM tail jf xs -> x ≠ 13) (hlast : ∀ X, 123 :: itM tail jf xs ≠ X ++ [10]) : ∃ f i k, ansW (123 :: itM tail jf xs) 0 f = some (0, i, k, beE 123 :: (xs.flatMap (fun x => [scE x.1.1, scE x.2.1]) ++ [enE 125])) :=
 coll_ans (.inr rfl) h13 hlast (fun L s G hv ha => by
  obtain ⟨f, s', h1, h2⟩ := run_map G tail jf 0 xs s hx hv ha
  exact ⟨f, s', h1, by rw [h2, List.append_assoc]⟩)
theorem enc_ltr {c : Int} (h : Ltr c) : Lib.encodeRuneZ (P11.fixP c) = [c] := ltr_all (P := fun c => Lib.encodeRuneZ (P11.fixP c) = [c]) (by decide) h
theorem encZ_ltr : ∀ (t : List Int), (∀ c, c ∈ t -> Ltr c) -> P11.encZ t = t
 | [], _ => rfl
 | c :: t, h => by
  show Lib.encodeRuneZ (P11.fixP c) ++ P11.encZ t = c :: t
  rw [enc_ltr (h c (by simp)), encZ_ltr t (fun x hx => h x (by simp [hx]))]
  rfl
theorem text_word (w : ByteArray) (h : ∀ c, c ∈ bI w -> Ltr c) : orc.text (bI w) = w := by
 show P11.strB (P11.encZ (bI w)) = w
 rw [encZ_ltr _ h]
 unfold P11.strB bI
 rw [List.map_map]
 have e : ((fun x : Int => UInt8.ofNat x.toNat) ∘ fun b : UInt8 => ((b.toNat : Nat) : Int)) = id := by
  funext b
  simp
 rw [e, List.map_id]
open P3 (badP)
def pcE (m tail : Bool) (n i : Nat) (x : Wg) : List Int := gapI x.2 ++ (x.1 ++ (if (decide (i + 1 < n) || tail) = true then gapI x.2 ++ (if (m && decide (i % 2 = 0)) = true then [58, 32] else [44]) else []))
def pref (m tail : Bool) (xs : List Wg) (k : Nat) : List Int := (List.range k).flatMap fun i => pcE m tail xs.length i (xs.getD i ([], 0))
theorem pref_succ (m tail : Bool) (xs : List Wg) (k : Nat) : pref m tail xs (k + 1) = pref m tail xs k ++ pcE m tail xs.length k (xs.getD k ([], 0)) := by
 unfold pref
 rw [List.range_succ, List.flatMap_append]
 simp
def suf (m tail : Bool) (n : Nat) : Nat -> List Wg -> List Int
 | _, [] => []
 | i, x :: r => pcE m tail n i x ++ suf m tail n (i + 1) r
theorem pref_suf (m tail : Bool) (xs : List Wg) : ∀ (r : List Wg) (i : Nat), i <= xs.length -> xs.drop i = r -> pref m tail xs i ++ suf m tail xs.length i r = pref m tail xs xs.length
 | [], i, hi, h => by
  have hl : xs.length <= i := by
   have := congrArg List.length h
   rw [List.length_drop, List.length_nil] at this
   omega
  rw [suf, List.append_nil, show i = xs.length by omega]
 | x :: r, i, hi, h => by
  have hlt : i < xs.length := by
   have := congrArg List.length h
   rw [List.length_drop, List.length_cons] at this
   omega
  have hd := List.drop_eq_getElem_cons hlt
  rw [h] at hd
  obtain ⟨hx, hr⟩ := List.cons.inj hd
  have hg : xs.getD i ([], 0) = x := by simp [hlt, hx]
  rw [suf, <- List.append_assoc, show pref m tail xs i ++ pcE m tail xs.length i x = pref m tail xs (i + 1) by rw [pref_succ, hg]]
  exact pref_suf m tail xs r (i + 1) hlt hr.symm
theorem suf_list (tail : Bool) (jf n : Nat) : ∀ (r : List Wg) (i : Nat), i + r.length = n -> suf false tail n i r ++ (gapI jf ++ [93]) = itL tail jf r
 | [], i, _ => rfl
 | x :: r, i, h => by
  have ih := suf_list tail jf n r (i + 1) (by simp at h; omega)
  rw [suf, itL, pcE]
  cases r with
  | nil =>
   have hn : decide (i + 1 < n) = false := decide_eq_false (by simp at h; omega)
   rw [hn]
   cases tail
   ·simp [suf]
   ·simp [suf, itL]
  | cons y r =>
   have hn : decide (i + 1 < n) = true := decide_eq_true (by simp at h; omega)
   rw [hn, <- ih]
   simp
theorem suf_map (tail : Bool) (jf n : Nat) : ∀ (r : List (Wg × Wg)) (i : Nat), i % 2 = 0 -> i + 2 * r.length = n -> suf true tail n i (r.flatMap fun p => [p.1, p.2]) ++ (gapI jf ++ [125]) = itM tail jf r
 | [], i, _, _ => rfl
 | (x, y) :: r, i, h2, h => by
  have ih := suf_map tail jf n r (i + 2) (by omega) (by simp at h; omega)
  have hn : decide (i + 1 < n) = true := decide_eq_true (by simp at h; omega)
  have e0 : decide (i % 2 = 0) = true := decide_eq_true h2
  have e1 : decide ((i + 1) % 2 = 0) = false := decide_eq_false (by omega)
  rw [List.flatMap_cons]
  show suf true tail n i (x :: y :: _) ++ _ = _
  rw [suf, suf, itM, pcE, pcE, hn, e0, e1]
  cases r with
  | nil =>
   have hn2 : decide (i + 1 + 1 < n) = false := decide_eq_false (by simp at h; omega)
   rw [hn2]
   cases tail
   ·simp [suf]
   ·simp [suf, itM]
  | cons z r =>
   have hn2 : decide (i + 1 + 1 < n) = true := decide_eq_true (by simp at h; omega)
   rw [hn2, <- ih]
   simp
def pairsOf : List Wg -> List (Wg × Wg)
 | a :: b :: r => (a, b) :: pairsOf r
 | _ => []
theorem pairs_of : ∀ (k : Nat) (xs : List Wg), xs.length = 2 * k -> ((pairsOf xs).flatMap fun p => [p.1, p.2]) = xs /\ (pairsOf xs).length = k
 | 0, xs, h => by
  have : xs = [] := List.eq_nil_of_length_eq_zero (by omega)
  subst this
  exact ⟨rfl, rfl⟩
 | k + 1, xs, h => by
  match xs, h with
  | a :: b :: r, h =>
   obtain ⟨h1, h2⟩ := pairs_of k r (by simp at h; omega)
   rw [pairsOf, List.flatMap_cons, h1]
   exact ⟨rfl, by simp [h2]⟩
  | [a], h => simp at h; omega
  | [], h => simp at h
def opn (m : Bool) : Int := if m then 123 else 91
def cls (m : Bool) : Int := if m then 125 else 93
def lstT (m tail : Bool) (jf : Nat) (xs : List Wg) : List Int := opn m :: (pref m tail xs xs.length ++ (gapI jf ++ [cls m]))
theorem pref_zero (m tail : Bool) (xs : List Wg) : suf m tail xs.length 0 xs = pref m tail xs xs.length := by
 have := pref_suf m tail xs xs 0 (Nat.zero_le _) rfl
 exact this
def Sg (x : Int) : Prop := Ltr x \/ x = 9 \/ x = 10 \/ x = 32 \/ x = 35 \/ x = 44 \/ x = 58 \/ x = 91 \/ x = 93 \/ x = 123 \/ x = 125
theorem gap_sg (j : Nat) : ∀ x, x ∈ gapI j -> Sg x := fun x hx => by
 unfold Sg Ltr
 match j, hx with
 | 0, hx => cases hx
 | 1, hx => simp [gapI] at hx; omega
 | 2, hx => simp [gapI] at hx; omega
 | 3, hx => simp [gapI] at hx; omega
 | j + 4, hx => simp [gapI] at hx; omega
theorem gap_len (j : Nat) : (gapI j).length <= 8 /\ ((gapI j).filter fun c => decide (c = 10)).length <= 2 := by
 match j with
 | 0 => decide
 | 1 => decide
 | 2 => decide
 | 3 => decide
 | j + 4 => exact ⟨by show 1 <= 8; decide, by show 0 <= 2; decide⟩
theorem pce_sg (m tail : Bool) (n i : Nat) {x : Wg} (hx : WgOk x) : ∀ c, c ∈ pcE m tail n i x -> Sg c := fun c hc => by
 unfold pcE at hc
 rcases List.mem_append.1 hc with hc | hc
 ·exact gap_sg _ c hc
 rcases List.mem_append.1 hc with hc | hc
 ·exact .inl (hx.2 c hc)
 split at hc
 ·rcases List.mem_append.1 hc with hc | hc
  ·exact gap_sg _ c hc
  ·unfold Sg
   split at hc <;> simp at hc <;> omega
 ·cases hc
theorem pce_len (m tail : Bool) (n i : Nat) {x : Wg} (hx : WgOk x) (hl : x.1.length <= 40) : (pcE m tail n i x).length <= 58 /\ ((pcE m tail n i x).filter fun c => decide (c = 10)).length <= 4 := by
 obtain ⟨g1, g2⟩ := gap_len x.2
 have hw : (x.1.filter fun c => decide (c = 10)) = [] := by
  rw [List.filter_eq_nil_iff]
  intro c hc
  have := hx.2 c hc
  unfold Ltr at this
  simp
  omega
 unfold pcE
 simp only [List.filter_append, List.length_append, hw]
 split
 ·split
  ·simp only [List.filter_append, List.length_append]
   have : (([58, 32] : List Int).filter fun c => decide (c = 10)).length = 0 := by decide
   simp only [List.length_cons, List.length_nil, this]
   omega
  ·simp only [List.filter_append, List.length_append]
   have : (([44] : List Int).filter fun c => decide (c = 10)).length = 0 := by decide
   simp only [List.length_cons, List.length_nil, this]
   omega
 ·simp
  omega
theorem pref_ok (m tail : Bool) {xs : List Wg} (hx : ∀ x, x ∈ xs -> WgOk x /\ x.1.length <= 40) : ∀ k, k <= xs.length -> (∀ c, c ∈ pref m tail xs k -> Sg c) /\ (pref m tail xs k).length <= 58 * k /\ ((pref m tail xs k).filter fun c => decide (c = 10)).length <= 4 * k
 | 0, _ => ⟨(fun c hc => by cases hc), Nat.le_refl _, Nat.le_refl _⟩
 | k + 1, hk => by
  obtain ⟨h1, h2, h3⟩ := pref_ok m tail hx k (by omega)
  have hm : xs.getD k ([], 0) ∈ xs := by
   rw [show xs.getD k ([], 0) = xs[k] by simp [show k < xs.length by omega]]
   exact List.getElem_mem _
  obtain ⟨p1, p2⟩ := pce_len m tail xs.length k (hx _ hm).1 (hx _ hm).2
  rw [pref_succ]
  refine ⟨fun c hc => ?_, by rw [List.length_append]; omega, by rw [List.filter_append, List.length_append]; omega⟩
  rcases List.mem_append.1 hc with hc | hc
  ·exact h1 c hc
  ·exact pce_sg m tail _ k (hx _ hm).1 c hc
theorem lst_ok (m tail : Bool) (jf : Nat) {xs : List Wg} (hx : ∀ x, x ∈ xs -> WgOk x /\ x.1.length <= 40) (hn : xs.length <= 20) (hm : m = true -> xs.length % 2 = 0) :
  Asc (lstT m tail jf xs) /\ (lstT m tail jf xs).any badP = false /\ (lstT m tail jf xs).length <= 1250 /\ (lpsO (lstT m tail jf xs)).length <= 600 /\
  ∃ f i k, ansW (lstT m tail jf xs) 0 f = some (0, i, k, beE (opn m) :: (xs.map (fun x => scE x.1) ++ [enE (cls m)])) := by
 obtain ⟨p1, p2, p3⟩ := pref_ok m tail hx xs.length (Nat.le_refl _)
 obtain ⟨g1, g2⟩ := gap_len jf
 have hsg : ∀ c, c ∈ lstT m tail jf xs -> Sg c := fun c hc => by
  rcases List.mem_cons.1 (show c ∈ opn m :: _ from hc) with rfl | hc
  ·unfold Sg opn; cases m <;> simp
  rcases List.mem_append.1 hc with hc | hc
  ·exact p1 c hc
  rcases List.mem_append.1 hc with hc | hc
  ·exact gap_sg _ c hc
  ·simp at hc
   subst hc
   unfold Sg cls; cases m <;> simp
 have h13 : ∀ c, c ∈ lstT m tail jf xs -> c ≠ 13 := fun c hc => by
  have := hsg c hc
  unfold Sg Ltr at this
  omega
 have hlast : ∀ X, lstT m tail jf xs ≠ X ++ [10] := fun X h => by
  have : (lstT m tail jf xs).getLast? = (X ++ [10]).getLast? := by rw [h]
  unfold lstT at this
  rw [List.getLast?_append, <- List.append_assoc, <- List.cons_append, List.getLast?_append] at this
  simp at this
  revert this
  unfold cls
  cases m <;> decide
 have hlen : (lstT m tail jf xs).length <= 1250 := by
  unfold lstT
  simp only [List.length_cons, List.length_append, List.length_nil]
  omega
 have hop : opn m ≠ 10 /\ opn m ≠ 32 := by unfold opn; cases m <;> decide
 refine ⟨fun x hx => ?_, ?_, hlen, ?_, ?_⟩
 ·have := hsg x hx
  unfold Sg Ltr at this
  omega
 ·rw [List.any_eq_false]
  intro x hx
  rcases hsg x hx with h | h
  ·exact ltr_all (P := fun c => ¬ badP c = true) (by decide) h
  ·rcases h with rfl | rfl | rfl | rfl | rfl | rfl | rfl | rfl | rfl | rfl <;> decide
 ·obtain ⟨-, -, h⟩ := lines_at h13 hlast hop.1 hop.2
  have hc1 : (([opn m]).filter fun c => decide (c = 10)).length = 0 := by unfold opn; cases m <;> decide
  have hc2 : (([cls m]).filter fun c => decide (c = 10)).length = 0 := by unfold cls; cases m <;> decide
  have e : (lstT m tail jf xs).filter (fun c => decide (c = 10)) = [opn m].filter (fun c => decide (c = 10)) ++ ((pref m tail xs xs.length).filter (fun c => decide (c = 10)) ++ ((gapI jf).filter (fun c => decide (c = 10)) ++ [cls m].filter (fun c => decide (c = 10)))) := by
   rw [<- List.filter_append, <- List.filter_append, <- List.filter_append]
   rfl
  have h : (lpsO (lstT m tail jf xs)).length <= 1 + ((lstT m tail jf xs).filter fun c => decide (c = 10)).length := h
  rw [e] at h
  simp only [List.length_append, hc1, hc2] at h
  omega
 ·cases m with
  | false =>
   have ht : lstT false tail jf xs = 91 :: itL tail jf xs := by
    unfold lstT
    rw [<- pref_zero]
    show 91 :: (_ ++ (gapI jf ++ [93])) = _
    rw [suf_list tail jf xs.length xs 0 (by omega)]
   rw [ht] at h13 hlast |-
   exact list_ans tail jf xs (fun x h => (hx x h).1) h13 hlast
  | true =>
   obtain ⟨q1, q2⟩ := pairs_of (xs.length / 2) xs (by have := hm rfl; omega)
   have ht : lstT true tail jf xs = 123 :: itM tail jf (pairsOf xs) := by
    unfold lstT
    rw [<- pref_zero]
    show 123 :: (_ ++ (gapI jf ++ [125])) = _
    have := suf_map tail jf xs.length (pairsOf xs) 0 rfl (by have := hm rfl; omega)
    rw [q1] at this
    rw [this]
   rw [ht] at h13 hlast |-
   have hp : ∀ x, x ∈ pairsOf xs -> WgOk x.1 /\ WgOk x.2 := fun x h => by
    have h1 : x.1 ∈ xs := by rw [<- q1]; exact List.mem_flatMap.2 ⟨x, h, by simp⟩
    have h2 : x.2 ∈ xs := by rw [<- q1]; exact List.mem_flatMap.2 ⟨x, h, by simp⟩
    exact ⟨(hx _ h1).1, (hx _ h2).1⟩
   obtain ⟨f, i, k, h⟩ := map_ans tail jf (pairsOf xs) hp h13 hlast
   refine ⟨f, i, k, ?_⟩
   rw [h]
   have e : ((pairsOf xs).flatMap fun x => [scE x.1.1, scE x.2.1]) = xs.map (fun x => scE x.1) := by
    conv => rhs; rw [<- q1]
    rw [List.map_flatMap]
    rfl
   rw [e]
   rfl
end Go.Proofs.YtipbhdhiklmieaaGreatDoor
