/- What the document's Compose makes, in plain terms: the same as the program's Graph. -/
import Derived.Test.YteeanpfhngoobaaGreatZXue
import Derived.Test.YteeanpfhngoobaaGreatZXub
set_option linter.all false
set_option maxRecDepth 100000
namespace Go.Proofs.YteeanpfhngoobaaGreat.Xk
open Go.RowKit Go.MapKept

structure CS where
  N : List Nd
  R : List Int
  O : List Nat
  P : List (ByteArray × Nat)
def pfind (P : List (ByteArray × Nat)) (s : ByteArray) : Option Nat := P.foldl (fun a p => if p.1.toList == s.toList then some p.2 else a) none
def ndC (e : Ev) : Nd := ⟨if e.k = 3 then 2 else if e.k = 5 then 3 else 1, e.tg, e.tx, [], e.st == 1⟩
def stepC (D K : Int) (s : CS) (e : Ev) : Int × CS :=
  if e.k = 1 then (0, ⟨s.N, s.R, s.O, []⟩)
  else if e.k = 2 then (0, s)
  else if e.k = 4 ∨ e.k = 6 then (0, ⟨s.N, s.R, s.O.dropLast, s.P⟩)
  else if e.k = 8 then (match pfind s.P e.an with
    | none => (10, s)
    | some n => (0, ⟨(putN s.N s.R s.O n).1, (putN s.N s.R s.O n).2, s.O, s.P⟩))
  else if e.k ≠ 7 ∧ D ≤ s.O.length then (8, s)
  else if K ≤ s.N.length then (9, s)
  else (0, ⟨(putN (s.N ++ [ndC e]) s.R s.O s.N.length).1, (putN (s.N ++ [ndC e]) s.R s.O s.N.length).2, if e.k = 3 ∨ e.k = 5 then s.O ++ [s.N.length] else s.O, if e.an.toList == [] then s.P else s.P ++ [(e.an, s.N.length)]⟩)
def goC (D K : Int) : List Ev → CS → Int × CS
  | [], s => (0, s)
  | e :: l, s => if (stepC D K s e).1 = 0 then goC D K l (stepC D K s e).2 else ((stepC D K s e).1, s)
def tf (s : ByteArray) : List Value → Option Int
  | [] => none
  | x :: l => match keyOf x with
    | some (s', v) => if s == s' then (match v with | .int _ k => some k | _ => none) else tf s l
    | none => none
theorem tf_eq (s : ByteArray) : ∀ (l : List Value) (i : Nat), tf s l = (match mfind s l i with | some (_, .int _ k) => some k | _ => none)
  | [], i => rfl
  | x :: l, i => by
    unfold tf mfind
    cases hk : keyOf x with
    | none => rfl
    | some p =>
      obtain ⟨s', v⟩ := p
      dsimp only
      by_cases h : (s == s') = true
      · rw [if_pos h, if_pos h]
        cases v <;> rfl
      · rw [if_neg h, if_neg h]
        exact tf_eq s l (i + 1)
theorem tf_set (a b : ByteArray) (m : Int) : ∀ (T : List Value) (i : Nat), intsL T → (∃ j v, mfind a T i = some (j, v) ∧ i ≤ j ∧ tf b (T.set (j - i) (.tuple #[.string a, .int .i64 m])) = if b == a then some m else tf b T) ∨ (mfind a T i = none ∧ tf b (T ++ [.tuple #[.string a, .int .i64 m]]) = if b == a then some m else tf b T)
  | [], i, h => by
    right
    refine ⟨rfl, ?_⟩
    show (match keyOf (.tuple #[.string a, .int .i64 m]) with | some (s', v) => if b == s' then (match v with | .int _ k => some k | _ => none) else tf b [] | none => none) = _
    rfl
  | x :: l, i, h => by
    obtain ⟨s, n, rfl⟩ := h x (by simp)
    by_cases hs : (a == s) = true
    · left
      refine ⟨i, .int .i64 n, ?_, Nat.le_refl _, ?_⟩
      · show (if a == s then some (i, Value.int .i64 n) else mfind a l (i + 1)) = _
        rw [if_pos hs]
      · rw [Nat.sub_self]
        show (if b == a then some m else tf b l) = if b == a then some m else (if b == s then some n else tf b l)
        by_cases hb : (b == a) = true
        · rw [if_pos hb, if_pos hb]
        · rw [if_neg hb, if_neg hb]
          have : s = a := ((bytes_beq _ _).1 hs).symm
          rw [this, if_neg hb]
    · have hm : mfind a (.tuple #[.string s, .int .i64 n] :: l) i = mfind a l (i + 1) := by
        show (if a == s then some (i, Value.int .i64 n) else mfind a l (i + 1)) = _
        rw [if_neg hs]
      have key : ∀ q, (if b == s then some n else (if b == a then some m else q)) = if b == a then some m else (if b == s then some n else q) := fun q => by
        by_cases h1 : (b == s) = true
        · rw [if_pos h1, if_pos h1]
          have h2 : ¬ (b == a) = true := fun h2 => hs ((bytes_beq _ _).2 (((bytes_beq _ _).1 h2).symm.trans ((bytes_beq _ _).1 h1)))
          rw [if_neg h2]
        · rw [if_neg h1, if_neg h1]
      rcases tf_set a b m l (i + 1) (fun y hy => h y (by simp [hy])) with ⟨j, v, h1, h2, h3⟩ | ⟨h1, h2⟩
      · left
        refine ⟨j, v, by rw [hm]; exact h1, by omega, ?_⟩
        rw [show j - i = (j - (i + 1)) + 1 by omega, List.set_cons_succ]
        show (if b == s then some n else tf b (l.set (j - (i + 1)) _)) = if b == a then some m else (if b == s then some n else tf b l)
        rw [h3, key]
      · right
        refine ⟨by rw [hm]; exact h1, ?_⟩
        show (if b == s then some n else tf b (l ++ _)) = if b == a then some m else (if b == s then some n else tf b l)
        rw [h2, key]
theorem tf_mset {T : List Value} (h : intsL T) (a b : ByteArray) (m : Int) : tf b (mset a (.int .i64 m) T) = if b == a then some m else tf b T := by
  unfold mset
  rcases tf_set a b m T 0 h with ⟨j, v, h1, h2, h3⟩ | ⟨h1, h2⟩
  · rw [h1]; exact h3
  · rw [h1]; exact h2
theorem bytes_eq (a b : ByteArray) : (b == a) = (a.toList == b.toList) := by
  rw [Bool.eq_iff_iff, bytes_beq, beq_iff_eq, ByteArray.toList_eq, ByteArray.toList_eq]
  constructor
  · rintro rfl; rfl
  · intro h; exact ByteArray.ext (Array.toList_inj.1 h.symm)
theorem pfind_snoc (P : List (ByteArray × Nat)) (a : ByteArray) (m : Nat) (b : ByteArray) : pfind (P ++ [(a, m)]) b = if b == a then some m else pfind P b := by
  unfold pfind
  rw [List.foldl_append, bytes_eq]
  rfl
/-- The two agree. -/
structure Rel (s : CS) (p : PS) (D K : Int) : Prop where
  N : s.N = p.N
  R : s.R = p.R
  O : s.O = p.O
  T : ∀ a, tf a p.T = (pfind s.P a).map fun (n : Nat) => (n : Int)
  d : (p.O.length : Int) ≤ D
  k : (p.N.length : Int) ≤ K
theorem empty_iff (b : ByteArray) : b.toList = [] ↔ b = ⟨#[]⟩ := by
  rw [ByteArray.toList_eq]
  constructor
  · intro h; exact ByteArray.ext (Array.toList_inj.1 (by simpa using h))
  · rintro rfl; rfl
theorem ndC_eq {e : Ev} (hc : cleanP e = true) (hk : e.k = 7 ∨ e.k = 3 ∨ e.k = 5) : ndC e = ndOf e := by
  obtain ⟨k, tx, tg, an, st, fl⟩ := e
  unfold cleanP at hc
  dsimp only at hk hc
  rcases hk with rfl | rfl | rfl
  · rfl
  · simp at hc
    unfold ndC ndOf
    simp [hc.2, (empty_iff tx).1 hc.1]
  · simp at hc
    unfold ndC ndOf
    simp [hc.2, (empty_iff tx).1 hc.1]
theorem stepC_take {s : CS} {p : PS} {D K : Int} {e : Ev} (hr : Rel s p D K) (hc : cleanP e = true) (hi : intsL p.T) :
    (stepC D K s e).1 = (takeP D K p e).1 ∧ ((stepC D K s e).1 = 0 → Rel (stepC D K s e).2 (takeP D K p e).2 D K) := by
  obtain ⟨N, R, O, P⟩ := s
  obtain ⟨N', R', O', T⟩ := p
  obtain ⟨rfl, rfl, rfl, hT, hd, hk⟩ := hr
  dsimp only at hT hd hk hi
  have hkinds : e.k = 1 ∨ e.k = 2 ∨ e.k = 3 ∨ e.k = 5 ∨ e.k = 4 ∨ e.k = 6 ∨ e.k = 7 ∨ e.k = 8 := by
    unfold cleanP at hc
    by_cases h1 : e.k = 1 ∨ e.k = 2
    · rcases h1 with h | h <;> simp [h]
    · rw [if_neg h1] at hc
      by_cases h2 : e.k = 3 ∨ e.k = 5
      · rcases h2 with h | h <;> simp [h]
      · rw [if_neg h2] at hc
        by_cases h3 : e.k = 4 ∨ e.k = 6
        · rcases h3 with h | h <;> simp [h]
        · rw [if_neg h3] at hc
          by_cases h4 : e.k = 7
          · simp [h4]
          · rw [if_neg h4] at hc
            by_cases h5 : e.k = 8
            · simp [h5]
            · rw [if_neg h5] at hc
              cases hc
  have node : (e.k = 7 ∨ e.k = 3 ∨ e.k = 5) → (e.k ≠ 7 → ¬ (O.length : Int) = D) → addP N R O T K (ndOf e) e.an = (if K ≤ N.length then none else some ((putN (N ++ [ndC e]) R O N.length).1, (putN (N ++ [ndC e]) R O N.length).2, if e.an.toList == [] then T else mset e.an (.int .i64 N.length) T)) := fun h1 _ => by
    unfold addP
    rw [ndC_eq hc h1]
    by_cases h2 : (N.length : Int) = K
    · rw [if_pos h2, if_pos (by omega)]
    · rw [if_neg h2, if_neg (show ¬ K ≤ (N.length : Int) by omega)]
  have named : ∀ a, tf a (if e.an.toList == [] then T else mset e.an (.int .i64 N.length) T) = (pfind (if e.an.toList == [] then P else P ++ [(e.an, N.length)]) a).map fun (n : Nat) => (n : Int) := fun a => by
    by_cases h : (e.an.toList == []) = true
    · rw [if_pos h, if_pos h]; exact hT a
    · rw [if_neg h, if_neg h, tf_mset hi, pfind_snoc]
      by_cases h2 : (a == e.an) = true
      · rw [if_pos h2, if_pos h2]; rfl
      · rw [if_neg h2, if_neg h2]; exact hT a
  have plen : ((putN (N ++ [ndC e]) R O N.length).1.length : Int) = N.length + 1 := by rw [putN_len]; simp
  rcases hkinds with h | h | h | h | h | h | h | h
  · have e1 : stepC D K ⟨N, R, O, P⟩ e = (0, ⟨N, R, O, []⟩) := by simp [stepC, h]
    have e2 : takeP D K ⟨N, R, O, T⟩ e = (0, ⟨N, R, O, []⟩) := by simp [takeP, h]
    rw [e1, e2]
    exact ⟨rfl, fun _ => ⟨rfl, rfl, rfl, fun a => rfl, hd, hk⟩⟩
  · have e1 : stepC D K ⟨N, R, O, P⟩ e = (0, ⟨N, R, O, P⟩) := by simp [stepC, h]
    have e2 : takeP D K ⟨N, R, O, T⟩ e = (0, ⟨N, R, O, T⟩) := by simp [takeP, h]
    rw [e1, e2]
    exact ⟨rfl, fun _ => ⟨rfl, rfl, rfl, hT, hd, hk⟩⟩
  · by_cases hD : (O.length : Int) = D
    · have e1 : stepC D K ⟨N, R, O, P⟩ e = (8, ⟨N, R, O, P⟩) := by
        have : D ≤ O.length := by omega
        simp [stepC, h, this]
      have e2 : takeP D K ⟨N, R, O, T⟩ e = (8, ⟨N, R, O, T⟩) := by simp [takeP, h, beginP, hD]
      rw [e1, e2]
      exact ⟨rfl, fun h => by cases h⟩
    · have hnD : ¬ D ≤ O.length := by omega
      have hnode := node (.inr (.inl h)) (fun _ => hD)
      by_cases hK : K ≤ N.length
      · rw [if_pos hK] at hnode
        have e1 : stepC D K ⟨N, R, O, P⟩ e = (9, ⟨N, R, O, P⟩) := by simp [stepC, h, hnD, hK]
        have e2 : takeP D K ⟨N, R, O, T⟩ e = (9, ⟨N, R, O, T⟩) := by simp [takeP, h, beginP, hD, hnode]
        rw [e1, e2]
        exact ⟨rfl, fun h => by cases h⟩
      · rw [if_neg hK] at hnode
        have e1 : stepC D K ⟨N, R, O, P⟩ e = (0, ⟨(putN (N ++ [ndC e]) R O N.length).1, (putN (N ++ [ndC e]) R O N.length).2, O ++ [N.length], if e.an.toList == [] then P else P ++ [(e.an, N.length)]⟩) := by simp [stepC, h, hnD, hK]
        have e2 : takeP D K ⟨N, R, O, T⟩ e = (0, ⟨(putN (N ++ [ndC e]) R O N.length).1, (putN (N ++ [ndC e]) R O N.length).2, O ++ [N.length], if e.an.toList == [] then T else mset e.an (.int .i64 N.length) T⟩) := by simp [takeP, h, beginP, hD, hnode]
        rw [e1, e2]
        exact ⟨rfl, fun _ => ⟨rfl, rfl, rfl, named, by simp; omega, by show ((putN _ R O N.length).1.length : Int) ≤ K; rw [plen]; omega⟩⟩
  · by_cases hD : (O.length : Int) = D
    · have e1 : stepC D K ⟨N, R, O, P⟩ e = (8, ⟨N, R, O, P⟩) := by
        have : D ≤ O.length := by omega
        simp [stepC, h, this]
      have e2 : takeP D K ⟨N, R, O, T⟩ e = (8, ⟨N, R, O, T⟩) := by simp [takeP, h, beginP, hD]
      rw [e1, e2]
      exact ⟨rfl, fun h => by cases h⟩
    · have hnD : ¬ D ≤ O.length := by omega
      have hnode := node (.inr (.inr h)) (fun _ => hD)
      by_cases hK : K ≤ N.length
      · rw [if_pos hK] at hnode
        have e1 : stepC D K ⟨N, R, O, P⟩ e = (9, ⟨N, R, O, P⟩) := by simp [stepC, h, hnD, hK]
        have e2 : takeP D K ⟨N, R, O, T⟩ e = (9, ⟨N, R, O, T⟩) := by simp [takeP, h, beginP, hD, hnode]
        rw [e1, e2]
        exact ⟨rfl, fun h => by cases h⟩
      · rw [if_neg hK] at hnode
        have e1 : stepC D K ⟨N, R, O, P⟩ e = (0, ⟨(putN (N ++ [ndC e]) R O N.length).1, (putN (N ++ [ndC e]) R O N.length).2, O ++ [N.length], if e.an.toList == [] then P else P ++ [(e.an, N.length)]⟩) := by simp [stepC, h, hnD, hK]
        have e2 : takeP D K ⟨N, R, O, T⟩ e = (0, ⟨(putN (N ++ [ndC e]) R O N.length).1, (putN (N ++ [ndC e]) R O N.length).2, O ++ [N.length], if e.an.toList == [] then T else mset e.an (.int .i64 N.length) T⟩) := by simp [takeP, h, beginP, hD, hnode]
        rw [e1, e2]
        exact ⟨rfl, fun _ => ⟨rfl, rfl, rfl, named, by simp; omega, by show ((putN _ R O N.length).1.length : Int) ≤ K; rw [plen]; omega⟩⟩
  · have e1 : stepC D K ⟨N, R, O, P⟩ e = (0, ⟨N, R, O.dropLast, P⟩) := by simp [stepC, h]
    have e2 : takeP D K ⟨N, R, O, T⟩ e = (0, ⟨N, R, O.dropLast, T⟩) := by simp [takeP, h]
    rw [e1, e2]
    exact ⟨rfl, fun _ => ⟨rfl, rfl, rfl, hT, by simp; omega, hk⟩⟩
  · have e1 : stepC D K ⟨N, R, O, P⟩ e = (0, ⟨N, R, O.dropLast, P⟩) := by simp [stepC, h]
    have e2 : takeP D K ⟨N, R, O, T⟩ e = (0, ⟨N, R, O.dropLast, T⟩) := by simp [takeP, h]
    rw [e1, e2]
    exact ⟨rfl, fun _ => ⟨rfl, rfl, rfl, hT, by simp; omega, hk⟩⟩
  · have hnode := node (.inl h) (fun h2 => absurd h h2)
    by_cases hK : K ≤ N.length
    · rw [if_pos hK] at hnode
      have e1 : stepC D K ⟨N, R, O, P⟩ e = (9, ⟨N, R, O, P⟩) := by simp [stepC, h, hK]
      have e2 : takeP D K ⟨N, R, O, T⟩ e = (9, ⟨N, R, O, T⟩) := by simp [takeP, h, hnode]
      rw [e1, e2]
      exact ⟨rfl, fun h => by cases h⟩
    · rw [if_neg hK] at hnode
      have e1 : stepC D K ⟨N, R, O, P⟩ e = (0, ⟨(putN (N ++ [ndC e]) R O N.length).1, (putN (N ++ [ndC e]) R O N.length).2, O, if e.an.toList == [] then P else P ++ [(e.an, N.length)]⟩) := by simp [stepC, h, hK]
      have e2 : takeP D K ⟨N, R, O, T⟩ e = (0, ⟨(putN (N ++ [ndC e]) R O N.length).1, (putN (N ++ [ndC e]) R O N.length).2, O, if e.an.toList == [] then T else mset e.an (.int .i64 N.length) T⟩) := by simp [takeP, h, hnode]
      rw [e1, e2]
      exact ⟨rfl, fun _ => ⟨rfl, rfl, rfl, named, hd, by show ((putN _ R O N.length).1.length : Int) ≤ K; rw [plen]; omega⟩⟩
  · have hta := hT e.an
    have e2 : takeP D K ⟨N, R, O, T⟩ e = aliasP ⟨N, R, O, T⟩ e.an := by simp [takeP, h]
    rw [tf_eq e.an T 0] at hta
    rw [e2]
    unfold aliasP
    dsimp only
    cases hp : pfind P e.an with
    | none =>
      have e1 : stepC D K ⟨N, R, O, P⟩ e = (10, ⟨N, R, O, P⟩) := by simp [stepC, h, hp]
      rw [e1]
      rw [hp] at hta
      dsimp only [Option.map_none] at hta
      split at hta
      · cases hta
      · rename_i hno
        split
        · rename_i j kk k2 hm
          exact absurd hm (hno _ _ _)
        · exact ⟨rfl, fun h => by cases h⟩
    | some n =>
      have e1 : stepC D K ⟨N, R, O, P⟩ e = (0, ⟨(putN N R O n).1, (putN N R O n).2, O, P⟩) := by simp [stepC, h, hp]
      rw [e1]
      rw [hp] at hta
      dsimp only [Option.map_some] at hta
      split at hta
      · rename_i j kk k2 hm
        cases hta
        rw [hm]
        exact ⟨rfl, fun _ => ⟨rfl, rfl, rfl, hT, hd, by show ((putN N R O n).1.length : Int) ≤ K; rw [putN_len]; exact hk⟩⟩
      · cases hta
theorem goC_app (D K : Int) : ∀ (A B : List Ev) (s : CS), goC D K (A ++ B) s = if (goC D K A s).1 = 0 then goC D K B (goC D K A s).2 else goC D K A s
  | [], B, s => by simp [goC]
  | e :: A, B, s => by
    show (if (stepC D K s e).1 = 0 then goC D K (A ++ B) (stepC D K s e).2 else ((stepC D K s e).1, s)) = _
    by_cases h : (stepC D K s e).1 = 0
    · rw [if_pos h, goC_app D K A B]
      have : goC D K (e :: A) s = goC D K A (stepC D K s e).2 := if_pos h
      rw [this]
    · have : goC D K (e :: A) s = ((stepC D K s e).1, s) := if_neg h
      rw [if_neg h, this, if_neg h]
end Go.Proofs.YteeanpfhngoobaaGreat.Xk
