/- In plain terms: what a backslash and the signs behind it stand for. -/
import Derived.Test.YtpiefdpcinjkpaaDoorSml
import Derived.Laws.BitsAllLaws
set_option linter.unusedVariables false
set_option linter.unusedSimpArgs false
namespace Go.Proofs.YtpiefdpcinjkpaaDoor
open Go.RowKit

theorem or_mul (a b i m : Nat) (hm : m = 2 ^ i) (h : a < m) : (b * m) ||| a = b * m + a := by
  subst hm
  rw [← Nat.shiftLeft_eq, Nat.shiftLeft_add_eq_or_of_lt h]
theorem ofInt_i64 (a : Nat) (ha : a < 4294967296) : (BitVec.ofInt 64 (a : Int)).toNat = a := by
  rw [BitVec.ofInt_natCast, BitVec.toNat_ofNat]; exact Nat.mod_eq_of_lt (by omega)
theorem i64_or_nat (a b : Nat) (ha : a < 4294967296) (hb : b < 4294967296) : bits .or .i64 (a : Int) (b : Int) = ((a ||| b : Nat) : Int) := by
  have hx : a ||| b < 2 ^ 32 := Nat.or_lt_two_pow (by omega) (by omega)
  show IntKind.i64.wrap ((BitVec.ofInt 64 (a : Int) ||| BitVec.ofInt 64 (b : Int)).toNat : Int) = _
  rw [BitVec.toNat_or, ofInt_i64 a ha, ofInt_i64 b hb]
  simp [IntKind.wrap, IntKind.bits, IntKind.signed]
  split <;> omega
theorem or16 (n x : Nat) (hn : n < 268435456) (hx : x < 16) : bits .or .i64 ((n : Int) * 16) (x : Int) = ((n * 16 + x : Nat) : Int) := by
  rw [show ((n : Int) * 16) = ((n * 16 : Nat) : Int) from by omega, i64_or_nat _ _ (by omega) (by omega), or_mul x n 4 16 (by decide) hx]

theorem hexP_lt (c : Int) : hexP c < 16 := by unfold hexP; repeat' split; all_goals omega
theorem hexP_ge (c : Int) : -1 ≤ hexP c := by unfold hexP; repeat' split; all_goals omega

/-- The number that digits are. -/
def accS (a : Option Nat) (c : Int) : Option Nat := a.bind fun n => if hexP c < 0 then none else some (n * 16 + (hexP c).toNat)
def accP (l : List Int) : Option Nat := l.foldl accS (some 0)
theorem accP_snoc (l : List Int) (c : Int) : accP (l ++ [c]) = accS (accP l) c := by simp [accP]
theorem accP_none : ∀ (m l : List Int), accP l = none → accP (l ++ m) = none
  | [], l, h => by simpa using h
  | c :: m, l, h => by
    have := accP_none m (l ++ [c]) (by rw [accP_snoc, h]; rfl)
    simpa using this
theorem accP_lt (l : List Int) (n : Nat) (h : accP l = some n) : n < 16 ^ l.length := by
  have gen : ∀ (r : List Int) (i : Nat) (a n : Nat), a < 16 ^ i → r.foldl accS (some a) = some n → n < 16 ^ (i + r.length) := by
    intro r
    induction r with
    | nil => intro i a n ha hn; simp at hn; subst hn; simpa using ha
    | cons c r ih =>
      intro i a n ha hn
      rw [List.foldl_cons] at hn
      unfold accS at hn
      simp only [Option.bind_some] at hn
      by_cases hc : hexP c < 0
      · rw [if_pos hc] at hn
        exfalso
        have : ∀ r : List Int, r.foldl accS none = none := by intro r; induction r with | nil => rfl | cons c r ih => simpa [accS] using ih
        have h2 := this r
        unfold accS at h2
        rw [h2] at hn
        cases hn
      · rw [if_neg hc] at hn
        have h1 := hexP_lt c
        have := ih (i + 1) (a * 16 + (hexP c).toNat) n (by rw [Nat.pow_succ]; omega) hn
        rw [List.length_cons]
        rw [show i + (r.length + 1) = i + 1 + r.length by omega]
        exact this
  have := gen l 0 0 n (by simp) h
  simpa using this

/-- What a backslash stands for: how long it is, which code point, which fault. -/
structure Esc where
  size : Nat
  point : Int
  fault : Nat

def escV (x : Esc) : Value := .agg #[.int .i64 (x.size : Nat), .int .i64 x.point, .int .i64 (x.fault : Nat)]

def shortsL : List (Int × Int) := [(48, 0), (97, 7), (98, 8), (116, 9), (9, 9), (110, 10), (118, 11), (102, 12), (114, 13), (101, 27), (32, 32), (34, 34), (47, 47), (92, 92), (78, 133), (95, 160), (76, 8232), (80, 8233)]
def sgn (j : Nat) : Int := ((shortsL[j]?).map (·.1)).getD 0
def pnt (j : Nat) : Int := ((shortsL[j]?).map (·.2)).getD 0
/-- The first place of the table, from number j on, that has this sign. -/
def shortAt (c : Int) : Option Int := (shortsL.find? fun x => decide (x.1 = c)).map (·.2)

def numbP (rest : List Int) (count : Nat) : Esc :=
  if rest.length < count then ⟨0, 0, 2⟩ else
  match accP (rest.take count) with
  | none => ⟨0, 0, 2⟩
  | some n => if pointP n then ⟨2 + count, n, 0⟩ else ⟨0, 0, 4⟩

def firstP (rest : List Int) (last : Bool) : Esc :=
  match rest with
  | [] => if last then ⟨0, 0, 2⟩ else ⟨1, -1, 0⟩
  | c :: r => if 0 < countP c then numbP r (countP c) else
    match shortAt c with
    | some p => ⟨2, p, 0⟩
    | none => ⟨0, 0, 2⟩

theorem countP_le (c : Int) : countP c ≤ 8 := by
  unfold countP
  by_cases h1 : c = 120
  · rw [if_pos h1]; omega
  · by_cases h2 : c = 117
    · rw [if_neg h1, if_pos h2]; omega
    · by_cases h3 : c = 85
      · rw [if_neg h1, if_neg h2, if_pos h3]; omega
      · rw [if_neg h1, if_neg h2, if_neg h3]; omega
theorem numbP_size (r : List Int) (k : Nat) (h : (numbP r k).fault = 0) : (numbP r k).size = 2 + k ∧ k ≤ r.length ∧ (numbP r k).point ≠ -1 := by
  unfold numbP at h ⊢
  split
  · rename_i h1; rw [if_pos h1] at h; simp at h
  · rename_i h1
    rw [if_neg h1] at h
    cases ha : accP (r.take k) with
    | none => rw [ha] at h; simp at h
    | some n =>
      rw [ha] at h
      dsimp only at h ⊢
      split
      · exact ⟨rfl, by omega, by dsimp only; omega⟩
      · rename_i h2; rw [if_neg h2] at h; simp at h
/-- An escape without fault has at least its backslash, and lies within the line. -/
theorem firstP_size (r : List Int) (last : Bool) (h : (firstP r last).fault = 0) : 1 ≤ (firstP r last).size ∧ (firstP r last).size ≤ r.length + 1 ∧ (firstP r last).size ≤ 10 := by
  unfold firstP at h ⊢
  cases r with
  | nil =>
    dsimp only at h ⊢
    cases last
    · simp
    · simp at h
  | cons c r =>
    dsimp only at h ⊢
    split
    · rename_i h1
      rw [if_pos h1] at h
      have := numbP_size r (countP c) h
      have := countP_le c
      simp only [List.length_cons]
      omega
    · rename_i h1
      rw [if_neg h1] at h
      cases hs : shortAt c with
      | none => rw [hs] at h; simp at h
      | some p => simp
end Go.Proofs.YtpiefdpcinjkpaaDoor
