/- Numbers as digits, in plain terms: the value of a list of digits in a base (the least first), lists without noughts last, the decimal text of a number. -/
import Derived.Test.YtpffegkckejpiaaRows
import Derived.WalkKit
import Derived.WalkSpells
import Derived.WalkLawsBesides
import Derived.BigQuiet
import Derived.Deep.Cut
import Derived.Deep.AppendSrc
import Derived.Deep.Heap
import Derived.OwnWalk
import Derived.Laws.IdiomStrings
set_option linter.unusedVariables false
set_option linter.unusedSimpArgs false
namespace Go.Proofs.Ytpffegkckejpiaa

def nAt (l : List Nat) (j : Nat) : Nat := l[j]?.getD 0
theorem nAt_cons_succ (d : Nat) (t : List Nat) (j : Nat) : nAt (d :: t) (j + 1) = nAt t j := by simp [nAt]
theorem nAt_cons_zero (d : Nat) (t : List Nat) : nAt (d :: t) 0 = d := by simp [nAt]
theorem nAt_get {l : List Nat} {j : Nat} (h : j < l.length) : nAt l j = l[j] := by simp [nAt, h]
theorem nAt_mem {l : List Nat} {j : Nat} (h : j < l.length) : nAt l j ∈ l := by rw [nAt_get h]; exact List.getElem_mem h
theorem take_snoc {l : List Nat} {k : Nat} (h : k < l.length) : l.take (k + 1) = l.take k ++ [nAt l k] := by
  rw [List.take_succ_eq_append_getElem h, nAt_get h]
theorem drop_cons {l : List Nat} {k : Nat} (h : k < l.length) : l.drop k = nAt l k :: l.drop (k + 1) := by
  rw [List.drop_eq_getElem_cons h, nAt_get h]

/-- The number that digits are in base b, the least first. -/
def val (b : Nat) : List Nat → Nat
  | [] => 0
  | d :: t => d + b * val b t
theorem val_append (b : Nat) (l m : List Nat) : val b (l ++ m) = val b l + b ^ l.length * val b m := by
  induction l with
  | nil => simp [val]
  | cons d t ih =>
    simp only [List.cons_append, val, ih, List.length_cons, Nat.pow_succ]
    rw [Nat.mul_add, Nat.add_assoc, ← Nat.mul_assoc, Nat.mul_comm b (b ^ t.length)]
theorem val_snoc (b : Nat) (l : List Nat) (d : Nat) : val b (l ++ [d]) = val b l + b ^ l.length * d := by rw [val_append]; simp [val]
/-- All of them are digits. -/
def Dg (b : Nat) (l : List Nat) : Prop := ∀ d, d ∈ l → d < b
theorem Dg.nil (b : Nat) : Dg b [] := fun d h => by cases h
theorem Dg.snoc {b : Nat} {l : List Nat} (h : Dg b l) {d : Nat} (hd : d < b) : Dg b (l ++ [d]) := by
  intro x hx
  rcases List.mem_append.1 hx with h' | h'
  · exact h x h'
  · simp at h'; omega
theorem Dg.append {b : Nat} {l m : List Nat} (h : Dg b l) (h' : Dg b m) : Dg b (l ++ m) := by
  intro x hx
  rcases List.mem_append.1 hx with k | k
  · exact h x k
  · exact h' x k
theorem Dg.take {b : Nat} {l : List Nat} (h : Dg b l) (k : Nat) : Dg b (l.take k) := fun d hd => h d (List.mem_of_mem_take hd)
theorem Dg.at {b : Nat} {l : List Nat} (h : Dg b l) {j : Nat} (hj : j < l.length) : nAt l j < b := h _ (nAt_mem hj)
theorem val_lt {b : Nat} (hb : 0 < b) : ∀ {l : List Nat}, Dg b l → val b l < b ^ l.length
  | [], _ => by simp [val]
  | d :: t, h => by
    have ih := val_lt hb (l := t) (fun x hx => h x (List.mem_cons_of_mem _ hx))
    have hd := h d (List.mem_cons_self ..)
    simp only [val, List.length_cons, Nat.pow_succ]
    have : b * val b t + b ≤ b ^ t.length * b := by
      rw [Nat.mul_comm (b ^ t.length) b]
      have h2 := Nat.mul_le_mul_left b (show val b t + 1 ≤ b ^ t.length from ih)
      rw [Nat.mul_add, Nat.mul_one] at h2
      exact h2
    omega

/-- How long a list is without the noughts that stand last. -/
def trimLen : List Nat → Nat
  | [] => 0
  | d :: t => if trimLen t = 0 ∧ d = 0 then 0 else trimLen t + 1
def trimL (l : List Nat) : List Nat := l.take (trimLen l)
theorem trimLen_le : ∀ l : List Nat, trimLen l ≤ l.length
  | [] => Nat.le_refl _
  | d :: t => by have := trimLen_le t; simp only [trimLen, List.length_cons]; split <;> omega
theorem trimLen_eq : ∀ (l : List Nat) (k : Nat), k ≤ l.length → (∀ j, k ≤ j → j < l.length → nAt l j = 0) → (k = 0 ∨ nAt l (k - 1) ≠ 0) → trimLen l = k
  | [], k, hk, _, _ => by simp at hk; simp [trimLen, hk]
  | d :: t, 0, _, hz, _ => by
    have h0 := trimLen_eq t 0 (Nat.zero_le _) (fun j _ hj => by have := hz (j + 1) (by omega) (by simp; omega); rwa [nAt_cons_succ] at this) (.inl rfl)
    have hd := hz 0 (Nat.le_refl _) (by simp)
    rw [nAt_cons_zero] at hd
    simp [trimLen, h0, hd]
  | d :: t, k + 1, hk, hz, hn => by
    simp only [List.length_cons] at hk
    have ht : trimLen t = k := by
      refine trimLen_eq t k (by omega) (fun j hj hj' => by have := hz (j + 1) (by omega) (by simp; omega); rwa [nAt_cons_succ] at this) ?_
      cases k with
      | zero => exact .inl rfl
      | succ m => right; rcases hn with h | h; · omega
                  rw [show m + 1 + 1 - 1 = m + 1 from by omega, nAt_cons_succ] at h; simpa using h
    rcases hn with h | h
    · omega
    · rw [trimLen, if_neg, ht]
      rintro ⟨h1, h2⟩
      rw [ht] at h1
      subst h1
      simp [nAt_cons_zero, h2] at h
theorem trimL_cons (d : Nat) (t : List Nat) : trimL (d :: t) = if trimLen t = 0 ∧ d = 0 then [] else d :: trimL t := by
  unfold trimL
  rw [trimLen]
  split <;> simp
theorem val_trim (b : Nat) : ∀ l : List Nat, val b (trimL l) = val b l
  | [] => rfl
  | d :: t => by
    have ih := val_trim b t
    rw [trimL_cons]
    split
    · rename_i h
      have : trimL t = [] := by unfold trimL; rw [h.1]; rfl
      rw [this] at ih
      simp [val, ← ih, h.2]
    · simp [val, ih]
theorem trimL_len (l : List Nat) : (trimL l).length = trimLen l := by have := trimLen_le l; simp [trimL]; omega
/-- No nought stands last. -/
def Canon (l : List Nat) : Prop := trimLen l = l.length
theorem canon_trim : ∀ l : List Nat, Canon (trimL l)
  | [] => rfl
  | d :: t => by
    have ih := canon_trim t
    unfold Canon at *
    rw [trimL_cons]
    split
    · rfl
    · rename_i h
      have h' := trimL_len t
      rw [trimLen, ih, h', if_neg h, List.length_cons, h']
theorem Dg.trim {b : Nat} {l : List Nat} (h : Dg b l) : Dg b (trimL l) := h.take _

/-- The digits of c in base b. -/
def carF (b : Nat) : Nat → Nat → List Nat
  | 0, _ => []
  | f + 1, c => if c = 0 then [] else c % b :: carF b f (c / b)
def carP (b c : Nat) : List Nat := carF b c c
theorem carF_same {b : Nat} (hb : 2 ≤ b) : ∀ f g c, c ≤ f → c ≤ g → carF b f c = carF b g c
  | 0, 0, _, _, _ => rfl
  | 0, g + 1, c, h, _ => by rw [carF, carF, if_pos (by omega)]
  | f + 1, 0, c, _, h => by rw [carF, carF, if_pos (by omega)]
  | f + 1, g + 1, c, h1, h2 => by
    rw [carF, carF]
    by_cases hc : c = 0
    · rw [if_pos hc, if_pos hc]
    · have := Nat.div_lt_self (show 0 < c by omega) (show 1 < b by omega)
      rw [if_neg hc, if_neg hc, carF_same hb f g (c / b) (by omega) (by omega)]
theorem carP_zero (b : Nat) : carP b 0 = [] := rfl
theorem carP_pos {b c : Nat} (hb : 2 ≤ b) (hc : 0 < c) : carP b c = c % b :: carP b (c / b) := by
  have := Nat.div_lt_self hc (show 1 < b by omega)
  obtain ⟨m, rfl⟩ : ∃ m, c = m + 1 := ⟨c - 1, by omega⟩
  unfold carP
  rw [carF, if_neg (by omega), carF_same hb m _ _ (by omega) (Nat.le_refl _)]
theorem carP_val {b : Nat} (hb : 2 ≤ b) : ∀ c, val b (carP b c) = c := by
  intro c
  induction c using Nat.strongRecOn with
  | ind c ih =>
    by_cases h : c = 0
    · rw [h, carP_zero]; rfl
    · rw [carP_pos hb (by omega), val, ih _ (Nat.div_lt_self (by omega) (by omega))]
      exact Nat.mod_add_div c b
theorem carP_dg {b : Nat} (hb : 2 ≤ b) : ∀ c, Dg b (carP b c) := by
  intro c
  induction c using Nat.strongRecOn with
  | ind c ih =>
    by_cases h : c = 0
    · rw [h, carP_zero]; exact Dg.nil _
    · rw [carP_pos hb (by omega)]
      intro d hd
      rcases List.mem_cons.1 hd with rfl | hd
      · exact Nat.mod_lt _ (by omega)
      · exact ih _ (Nat.div_lt_self (by omega) (by omega)) d hd
theorem carP_len {b : Nat} (hb : 2 ≤ b) : ∀ (k c : Nat), c < 2 ^ k → (carP b c).length ≤ k
  | 0, c, h => by have : c = 0 := by simpa using h
                  rw [this, carP_zero]; simp
  | k + 1, c, h => by
    by_cases h0 : c = 0
    · rw [h0, carP_zero]; simp
    · rw [carP_pos hb (by omega), List.length_cons]
      have h2 : c / b ≤ c / 2 := Nat.div_le_div_left hb (by omega)
      have := carP_len hb k (c / b) (by rw [Nat.pow_succ] at h; omega)
      omega
theorem canon_nil : Canon [] := rfl
theorem canon_cons {d : Nat} {t : List Nat} (h : Canon (d :: t)) : Canon t ∧ ¬ (t = [] ∧ d = 0) := by
  unfold Canon at *
  rw [trimLen, List.length_cons] at h
  have hl := trimLen_le t
  split at h
  · omega
  · rename_i h2
    refine ⟨by omega, fun ⟨e, h3⟩ => ?_⟩
    subst e
    exact h2 ⟨rfl, h3⟩
theorem canon_unique {b : Nat} (hb : 2 ≤ b) : ∀ {l : List Nat}, Dg b l → Canon l → l = carP b (val b l)
  | [], _, _ => (carP_zero b).symm
  | d :: t, h, hc => by
    obtain ⟨h1, h2⟩ := canon_cons hc
    have ih := canon_unique hb (l := t) (fun x hx => h x (List.mem_cons_of_mem _ hx)) h1
    have hd := h d (List.mem_cons_self ..)
    have hpos : 0 < d + b * val b t := by
      by_cases hv : val b t = 0
      · rw [hv, carP_zero] at ih
        have : d ≠ 0 := fun e => h2 ⟨ih, e⟩
        omega
      · have : 0 < b * val b t := Nat.mul_pos (by omega) (by omega)
        omega
    rw [val, carP_pos hb hpos, Nat.add_mul_mod_self_left, Nat.mod_eq_of_lt hd, Nat.add_mul_div_left _ _ (by omega), Nat.div_eq_of_lt hd, Nat.zero_add, ← ih]
theorem canon_carP {b : Nat} (hb : 2 ≤ b) : ∀ c, Canon (carP b c) := by
  intro c
  induction c using Nat.strongRecOn with
  | ind c ih =>
    by_cases h : c = 0
    · rw [h, carP_zero]; rfl
    · rw [carP_pos hb (by omega)]
      have i := ih _ (Nat.div_lt_self (show 0 < c by omega) (show 1 < b by omega))
      unfold Canon at *
      rw [trimLen, i, List.length_cons, if_neg]
      rintro ⟨h1, h2⟩
      have h3 := carP_val hb (c / b)
      rw [List.eq_nil_of_length_eq_zero h1] at h3
      simp [val] at h3
      have := Nat.mod_add_div c b
      rw [h2, ← h3] at this
      omega
theorem canon_low {b : Nat} (hb : 2 ≤ b) : ∀ {l : List Nat}, Canon l → l ≠ [] → b ^ (l.length - 1) ≤ val b l
  | [], _, h => absurd rfl h
  | d :: t, hc, _ => by
    obtain ⟨h1, h2⟩ := canon_cons hc
    by_cases e : t = []
    · subst e
      have : d ≠ 0 := fun e => h2 ⟨rfl, e⟩
      simp [val]; omega
    · have ih := canon_low hb h1 e
      have hl : 0 < t.length := by cases t with | nil => exact absurd rfl e | cons => simp
      simp only [List.length_cons, val]
      rw [show t.length + 1 - 1 = (t.length - 1) + 1 from by omega, Nat.pow_succ, Nat.mul_comm]
      have := Nat.mul_le_mul_left b ih
      omega
theorem canon_of_low {b : Nat} (hb : 2 ≤ b) : ∀ {l : List Nat}, Dg b l → (l = [] ∨ b ^ (l.length - 1) ≤ val b l) → Canon l
  | [], _, _ => rfl
  | d :: t, h, hv => by
    have hv : b ^ t.length ≤ d + b * val b t := by rcases hv with e | e; · cases e
                                                   simpa [val] using e
    have hd := h d (List.mem_cons_self ..)
    by_cases e : t = []
    · subst e
      simp [val] at hv
      unfold Canon
      rw [trimLen, if_neg (by omega)]
      rfl
    · have hl : 0 < t.length := by cases t with | nil => exact absurd rfl e | cons => simp
      have ih : Canon t := by
        refine canon_of_low hb (fun x hx => h x (List.mem_cons_of_mem _ hx)) (.inr ?_)
        rw [show t.length = (t.length - 1) + 1 from by omega, Nat.pow_succ, Nat.mul_comm] at hv
        have h3 : b * b ^ (t.length - 1) < b * (val b t + 1) := by rw [Nat.mul_add, Nat.mul_one]; omega
        have := Nat.lt_of_mul_lt_mul_left h3
        omega
      unfold Canon at *
      rw [trimLen, ih, List.length_cons, if_neg (by omega)]

/-- Decimal digits, the least first, as they are written. -/
def textB (l : List Nat) : ByteArray := if l = [] then ⟨#[48]⟩ else ⟨(l.reverse.map fun d => UInt8.ofNat (48 + d)).toArray⟩
/-- The decimal text of a number. -/
def decB (n : Nat) : ByteArray := textB (carP 10 n)
theorem text_dec {l : List Nat} (h : Dg 10 l) (hc : Canon l) : textB l = decB (val 10 l) := by
  unfold decB
  rw [← canon_unique (by decide) h hc]
end Go.Proofs.Ytpffegkckejpiaa
namespace Go.Proofs.Ytpffegkckejpiaa
open Go.RowKit

theorem add_plain (b o m : Nat) : (⟨b, o, none⟩ : Addr).add m = ⟨b, o + m, none⟩ := by unfold Addr.add; split <;> simp_all
theorem Try.info5 : (Try.prog.info? 5).map (fun i => (i.zero, i.size, i.bytes)) = some (some (.int .u8 0), 1, 1) := by kernel_rfl
theorem Try.info90 : (Try.prog.info? 90).map (fun i => (i.zero, i.size, i.bytes)) = some (some (.int .u32 0), 1, 4) := by kernel_rfl
theorem Try.info3 : (Try.prog.info? 3).map (fun i => (i.zero, i.size, i.bytes)) = some (some (.int .i64 0), 1, 8) := by kernel_rfl
theorem ret_int {k : IntKind} {a b : Int} (h : a = b) : Ending.returned (.int k a) = .returned (.int k b) := by rw [h]
theorem ret_bool {a b : Bool} (h : a = b) : Ending.returned (.bool a) = .returned (.bool b) := by rw [h]

def vi (k : IntKind) (l : List Nat) : List Value := l.map fun (n : Nat) => Value.int k (n : Int)
theorem vi_len (k : IntKind) (l : List Nat) : (vi k l).length = l.length := by simp [vi]
theorem vi_snoc (k : IntKind) (l : List Nat) (d : Nat) : vi k (l ++ [d]) = vi k l ++ [.int k d] := by simp [vi]
theorem vi_at (k : IntKind) {l : List Nat} {j : Nat} (h : j < l.length) : (vi k l)[j]? = some (.int k (nAt l j)) := by simp [vi, nAt, h]

/-- The slice at p reads as these digits; of an empty one nothing is asked. -/
def Rd (k : IntKind) (w : World) (p : Option Addr) (l : List Nat) : Prop :=
  l = [] ∨ ∃ b o, p = some ⟨b, o, none⟩ ∧ ∀ j, j < l.length → w.cell? ⟨b, o + j, none⟩ = some (.int k (nAt l j))

theorem Rd.at {k : IntKind} {w : World} {p : Option Addr} {l : List Nat} (h : Rd k w p l) (hl : 0 < l.length) : ∃ b o, p = some ⟨b, o, none⟩ ∧ ∀ j, j < l.length → w.cell? ⟨b, o + j, none⟩ = some (.int k (nAt l j)) := by
  rcases h with rfl | h
  · simp at hl
  · exact h
theorem Rd.lt {k : IntKind} {w : World} {p : Option Addr} {l : List Nat} (h : Rd k w p l) : ∀ a, p = some a → 0 < l.length → a.block < w.heap.size := by
  intro a e hl
  obtain ⟨b, o, rfl, hc⟩ := h.at hl
  cases e
  exact World.block_lt_of_cell? w ⟨b, o + 0, none⟩ (hc 0 hl)
theorem Rd.below {k : IntKind} {n₀ : Nat} {A B : World} {p : Option Addr} {l : List Nat} (h : Rd k A p l) (hp : ∀ a, p = some a → 0 < l.length → a.block < n₀) (hb : Below n₀ A B) : Rd k B p l := by
  rcases h with rfl | ⟨b, o, rfl, hc⟩
  · exact .inl rfl
  · exact .inr ⟨b, o, rfl, fun j hj => (hb.cell (p := ⟨b, o + j, none⟩) (hp ⟨b, o, none⟩ rfl (by omega))).trans (hc j hj)⟩
theorem Rd.on {k : IntKind} {A B : World} {p : Option Addr} {l : List Nat} (h : Rd k A p l) (hb : Below A.heap.size A B) : Rd k B p l := h.below h.lt hb
theorem Rd.take {k : IntKind} {w : World} {p : Option Addr} {l : List Nat} (h : Rd k w p l) (m : Nat) : Rd k w p (l.take m) := by
  rcases h with rfl | ⟨b, o, rfl, hc⟩
  · exact .inl (by simp)
  · refine .inr ⟨b, o, rfl, fun j hj => ?_⟩
    rw [List.length_take] at hj
    have hj1 : j < m := by omega
    rw [hc j (by omega)]
    simp [nAt, List.getElem?_take, hj1]
theorem Rd.drop {k : IntKind} {w : World} {b o : Nat} {l : List Nat} (h : Rd k w (some ⟨b, o, none⟩) l) (m : Nat) : Rd k w (some ⟨b, o + m, none⟩) (l.drop m) := by
  rcases h with rfl | ⟨b', o', e, hc⟩
  · exact .inl (by simp)
  · cases e
    refine .inr ⟨b, o + m, rfl, fun j hj => ?_⟩
    have hj' : m + j < l.length := by simp at hj; omega
    rw [Nat.add_assoc, hc (m + j) hj']
    simp [nAt]

/-- A list of the call's own: its block is B or a later one. -/
def Own (k : IntKind) (e : TypeId) (B : Nat) (w : World) (v : Value) (l : List Nat) : Prop := w.ownsRow B e 1 v l.length (vi k l)

theorem Own.nil (k : IntKind) (e : TypeId) (B : Nat) (w : World) : Own k e B w (.slice none 0 0) [] := World.ownsRow_nil w B e 1
theorem Own.form {k : IntKind} {e : TypeId} {B : Nat} {w : World} {v : Value} {l : List Nat} (h : Own k e B w v l) :
    ∃ p c, v = .slice p l.length c ∧ l.length ≤ c ∧ c ≤ maxLen ∧ Rd k w p l ∧ (∀ a, p = some a → B ≤ a.block ∧ a.block < w.heap.size) ∧ (p = none → l = [] ∧ c = 0) ∧ ∀ a, p = some a → a = ⟨a.block, 0, none⟩ := by
  have h' := h
  obtain ⟨h1, ⟨rfl, e2⟩ | ⟨g, cap, cur, rfl, hb, hg, hn, hm, hs, ht⟩⟩ := h'
  · have : l = [] := List.eq_nil_of_length_eq_zero e2
    subst this
    exact ⟨none, 0, rfl, Nat.le_refl _, Nat.zero_le _, .inl rfl, (fun a e => by cases e), (fun _ => ⟨rfl, rfl⟩), fun a e => by cases e⟩
  · refine ⟨_, cap, rfl, hn, hm, ?_, ?_, (fun e => by cases e), fun a e => by cases e; rfl⟩
    · by_cases h0 : l = []
      · exact .inl h0
      · refine .inr ⟨g, 0, rfl, fun j hj => ?_⟩
        have := World.ownsRow.cells h (g := g) rfl j _ (vi_at k hj)
        rw [add_plain] at this
        exact this
    · intro a e
      cases e
      exact ⟨hb, (Array.getElem?_eq_some_iff.1 hg).1⟩
theorem Own.mono {k : IntKind} {e : TypeId} {B B' : Nat} {w : World} {v : Value} {l : List Nat} (h : Own k e B w v l) (hb : B' ≤ B) : Own k e B' w v l := by
  obtain ⟨h1, h2 | ⟨g, cap, cur, hv, hg, rest⟩⟩ := h
  · exact ⟨h1, .inl h2⟩
  · exact ⟨h1, .inr ⟨g, cap, cur, hv, Nat.le_trans hb hg, rest⟩⟩
theorem Own.on {k : IntKind} {e : TypeId} {B : Nat} {w w' : World} {v : Value} {l : List Nat} (h : Own k e B w v l) (hb : Below w.heap.size w w') : Own k e B w' v l := by
  obtain ⟨h1, h2 | ⟨g, cap, cur, hv, hg, hc, rest⟩⟩ := h
  · exact ⟨h1, .inl h2⟩
  · exact ⟨h1, .inr ⟨g, cap, cur, hv, hg, (hb.block g (Array.getElem?_eq_some_iff.1 hc).1).trans hc, rest⟩⟩
theorem Own.short {k : IntKind} {e : TypeId} {B : Nat} {w : World} {p : Option Addr} {n c : Nat} {l : List Nat} (h : Own k e B w (.slice p n c) l) {m : Nat} (hm : m ≤ l.length) : Own k e B w (.slice p m c) (l.take m) := by
  have hl : (l.take m).length = m := by rw [List.length_take]; omega
  obtain ⟨h1, ⟨e1, e2⟩ | ⟨g, cap, cur, hv, hg, hc, hn, hmx, hs, ht⟩⟩ := h
  · have e0 : l = [] := List.eq_nil_of_length_eq_zero e2
    subst e0
    simp at hm
    subst hm
    cases e1
    exact World.ownsRow_nil w B e 1
  · cases hv
    refine ⟨by simp [vi], .inr ⟨g, c, cur, ?_, hg, hc, by omega, hmx, hs, ?_⟩⟩
    · rw [hl]
    · rw [hl, Nat.mul_one]
      rw [Nat.mul_one] at ht
      have : vi k (l.take m) = (vi k l).take m := by simp [vi, List.map_take]
      rw [this, ← ht, List.take_take, Nat.min_eq_left hm]

theorem cells_new (w : World) (cs : List Value) (t : TypeId) : ∀ (j : Nat) (u : Value), cs[j]? = some u → (w.alloc (.cells cs.toArray t)).cell? ((⟨w.heap.size, 0, none⟩ : Addr).add j) = some u := by
  intro j u hj
  have h := heap_alloc_new w (.cells cs.toArray t)
  rw [add_plain, Nat.zero_add]
  show (match (w.alloc (.cells cs.toArray t)).heap[w.heap.size]? with | some (.cells c _ _) => c[j]? | _ => none) = some u
  rw [h]
  simpa using hj

/-- An append whose run is known. -/
theorem wpList_append_run {P : Program} {w w' : World} {ops : Array Oper} {rest : List Oper} {o : Oper} {a : Act} {Q : Exit → Act → World → Prop} (hgd : o.guard = none) (s x : Operand) (t : TypeId)
    (ho : o.op = .call { callee := .builtin .append, args := #[s, x], argTypes := #[t, t] }) {u y v : Value} (hs : a.eval s = u) (hx : a.eval x = y)
    (hrun : (Builtin.append_ #[t, t] o.type #[u, y]).run P w = .ok v w') (h : wpList P ops Q rest (a.put o.dst v) w') : wpList P ops Q (o :: rest) a w :=
  wpList_plain hgd fun K hK => by
    unfold Oper.wp execOp
    simp [ho, resolve, invoke, builtin, hs, hx, hrun, Result.andThen]
    exact hK _ _ h

/-- append(v, x). -/
theorem Own.push {k : IntKind} {e t : TypeId} {bytes : Nat} (ht : Try.prog.underlying t = some (.slice e)) (hinfo : (Try.prog.info? e).map (fun i => (i.zero, i.size, i.bytes)) = some (some (.int k 0), 1, bytes)) (hby : bytes ≤ 8)
    {B : Nat} {w : World} {v : Value} {l : List Nat} (h : Own k e B w v l) (hB : B ≤ w.heap.size) (x : Nat) (hl : l.length < 1099511627776) :
    ∃ g c w', (Builtin.append_ #[t, t] t #[v, .slice (some ⟨w.heap.size, 0, none⟩) 1 1]).run Try.prog (w.alloc (.cells #[.int k x] e)) = .ok (.slice (some ⟨g, 0, none⟩) (l.length + 1) c) w' ∧
      Own k e B w' (.slice (some ⟨g, 0, none⟩) (l.length + 1) c) (l ++ [x]) ∧ Below B w w' := by
  obtain ⟨i0, hi, hz0, hz1, hz2⟩ := info_parts hinfo
  have hb : bytes * (l.length + 1) ≤ 8 * (l.length + 1) := Nat.mul_le_mul_right _ hby
  have hb' : (l.length + 1) * bytes ≤ 8 * (l.length + 1) := by rw [Nat.mul_comm]; exact hb
  obtain ⟨v', w', hr, ho, hg, -⟩ := run_append_own (P := Try.prog) (w.alloc (.cells #[.int k x] e)) B t t e i0 (.int k 0) 1 bytes ht hi hz0 hz1 hz2 rfl (by decide) v l.length (vi k l) (h.alloc _)
    ⟨w.heap.size, 0, none⟩ 1 1 [.int k x] rfl (cells_new w [.int k x] e) (by simp [Value.oneCell']) (by unfold maxLen; omega) (by omega) (by simp; omega)
  have ho' : Own k e B w' v' (l ++ [x]) := by
    unfold Own
    rw [vi_snoc, List.length_append]
    exact ho
  obtain ⟨p, c, rfl, hc1, hc2, -, -, hn, hg0⟩ := ho'.form
  cases p with
  | none => have := (hn rfl).1; simp at this
  | some a =>
    have ea := hg0 a rfl
    rw [ea] at hr ho' 
    rw [List.length_append] at hr ho'
    refine ⟨a.block, c, w', hr, ho', ((Below.refl _ w).alloc hB _).grown hg (by simp; omega) (fun j e => (h.lt j e).1)⟩

theorem push8 {B : Nat} {w : World} {v : Value} {l : List Nat} (h : Own .u8 5 B w v l) (hB : B ≤ w.heap.size) (x : Nat) (hl : l.length < 1099511627776) :
    ∃ g c w', (Builtin.append_ #[62, 62] 62 #[v, .slice (some ⟨w.heap.size, 0, none⟩) 1 1]).run Try.prog (w.alloc (.cells #[.int .u8 x] 5)) = .ok (.slice (some ⟨g, 0, none⟩) (l.length + 1) c) w' ∧
      Own .u8 5 B w' (.slice (some ⟨g, 0, none⟩) (l.length + 1) c) (l ++ [x]) ∧ Below B w w' := h.push Try.underlying62 Try.info5 (by decide) hB x hl
theorem push8b {B : Nat} {w : World} {v : Value} {l : List Nat} (h : Own .u8 5 B w v l) (hB : B ≤ w.heap.size) (x : Nat) (hl : l.length < 1099511627776) :
    ∃ g c w', (Builtin.append_ #[60, 60] 60 #[v, .slice (some ⟨w.heap.size, 0, none⟩) 1 1]).run Try.prog (w.alloc (.cells #[.int .u8 x] 5)) = .ok (.slice (some ⟨g, 0, none⟩) (l.length + 1) c) w' ∧
      Own .u8 5 B w' (.slice (some ⟨g, 0, none⟩) (l.length + 1) c) (l ++ [x]) ∧ Below B w w' := h.push Try.underlying60 Try.info5 (by decide) hB x hl
theorem push32 {B : Nat} {w : World} {v : Value} {l : List Nat} (h : Own .u32 90 B w v l) (hB : B ≤ w.heap.size) (x : Nat) (hl : l.length < 1099511627776) :
    ∃ g c w', (Builtin.append_ #[67, 67] 67 #[v, .slice (some ⟨w.heap.size, 0, none⟩) 1 1]).run Try.prog (w.alloc (.cells #[.int .u32 x] 90)) = .ok (.slice (some ⟨g, 0, none⟩) (l.length + 1) c) w' ∧
      Own .u32 90 B w' (.slice (some ⟨g, 0, none⟩) (l.length + 1) c) (l ++ [x]) ∧ Below B w w' := h.push Try.underlying67 Try.info90 (by decide) hB x hl
theorem push64 {B : Nat} {w : World} {v : Value} {l : List Nat} (h : Own .i64 3 B w v l) (hB : B ≤ w.heap.size) (x : Nat) (hl : l.length < 1099511627776) :
    ∃ g c w', (Builtin.append_ #[80, 80] 80 #[v, .slice (some ⟨w.heap.size, 0, none⟩) 1 1]).run Try.prog (w.alloc (.cells #[.int .i64 x] 3)) = .ok (.slice (some ⟨g, 0, none⟩) (l.length + 1) c) w' ∧
      Own .i64 3 B w' (.slice (some ⟨g, 0, none⟩) (l.length + 1) c) (l ++ [x]) ∧ Below B w w' := h.push Try.underlying80 Try.info3 (by decide) hB x hl

/-- make(list, 0, c). -/
theorem own_make {t e : TypeId} {k : IntKind} {bytes : Nat} (ht : Try.prog.underlying t = some (.slice e)) (hinfo : (Try.prog.info? e).map (fun i => (i.zero, i.size, i.bytes)) = some (some (.int k 0), 1, bytes)) (hby : bytes ≤ 8)
    (B : Nat) (w : World) (c : Nat) (hc : c ≤ 1099511627776) (hB : B ≤ w.heap.size) :
    ∃ w', (Instr.makeSlice t (.int .i64 0) (.int .i64 (c : Int))).run Try.prog w = .ok (.slice (some ⟨w.heap.size, 0, none⟩) 0 c) w' ∧ Own k e B w' (.slice (some ⟨w.heap.size, 0, none⟩) 0 c) [] ∧ Below B w w' ∧ w'.heap.size = w.heap.size + 1 := by
  obtain ⟨i0, hi, hz0, hz1, hz2⟩ := info_parts hinfo
  have hb : bytes * c ≤ 8 * c := Nat.mul_le_mul_right _ hby
  have hbi : (bytes : Int) * (c : Int) ≤ 281474976710656 := by
    have h : ((bytes * c : Nat) : Int) ≤ 281474976710656 := by omega
    rwa [Int.natCast_mul] at h
  have hr := run_make (P := Try.prog) w t e i0 (.int k 0) ht hi hz0 .i64 .i64 0 c (Int.le_refl _) (by omega) (by rw [hz2]; exact hbi) (by omega)
  simp only [Int.toNat_zero, Int.toNat_natCast] at hr
  exact ⟨_, hr, World.ownsRow_made w _ c hB (by unfold maxLen; omega) (by rw [size_madeCells, hz1]), (Below.refl _ w).alloc hB _, by simp⟩
end Go.Proofs.Ytpffegkckejpiaa
namespace Go.Proofs.Ytpffegkckejpiaa
open Go.RowKit

def span (n a b : Int) : Bool := decide (a ≤ n) && decide (n ≤ b)
theorem span_iff {n a b : Int} : span n a b = true ↔ a ≤ n ∧ n ≤ b := by unfold span; simp
theorem span_not {n a b : Int} : span n a b = false ↔ ¬ (a ≤ n ∧ n ≤ b) := by rw [← span_iff]; simp

set_option maxHeartbeats 400000 in
theorem within_any (n a b : Int) (w : World) :
    Calls Try.prog 77 #[.int .i64 n, .int .i64 a, .int .i64 b] w fun e w' => e = .returned (.bool (span n a b)) ∧ w' = w := by
  go_enter Try.func77, Try.ntmps77
  go_wp2
  all_goals
    go_ret
    exact ⟨ret_bool (by unfold span; simp [*] <;> omega), rfl⟩

/-- The number that a sign is as a digit; -1: it is none. -/
def hexP (c : Int) : Int := if 48 ≤ c ∧ c ≤ 57 then c - 48 else if 97 ≤ c ∧ c ≤ 102 then c - 97 + 10 else if 65 ≤ c ∧ c ≤ 70 then c - 65 + 10 else -1

set_option maxRecDepth 100000 in
set_option maxHeartbeats 1000000 in
theorem hex_any (c : Int) (w : World) (h0 : 0 ≤ c) (h1 : c ≤ 255) :
    Calls Try.prog 67 #[.int .i64 c] w fun e w' => e = .returned (.int .i64 (hexP c)) ∧ w' = w := by
  go_enter Try.func67, Try.ntmps67
  go_wp2_with (first | (go_at_call 77; refine (within_any _ _ _ _).mono ?_; rintro e w' ⟨rfl, rfl⟩))
  all_goals
    go_ret
    refine ⟨ret_int ?_, rfl⟩
    unfold hexP
    simp only [span_iff, span_not, Bool.not_eq_true] at *
    repeat' split
    all_goals omega

set_option maxRecDepth 100000 in
set_option maxHeartbeats 1000000 in
theorem rhex_any (c : Int) (w : World) (h0 : 0 ≤ c) (h1 : c ≤ 255) :
    Calls Try.prog 74 #[.int .i64 c] w fun e w' => e = .returned (.int .i64 (hexP c)) ∧ w' = w := by
  go_enter Try.func74, Try.ntmps74
  go_wp2
  all_goals
    go_ret
    refine ⟨ret_int ?_, rfl⟩
    unfold hexP
    repeat' split
    all_goals omega

/-- A base that there is. -/
def baseP (b : Int) : Bool := decide (b = 8 ∨ b = 10 ∨ b = 16)

set_option maxHeartbeats 400000 in
theorem isBase_any (b : Int) (w : World) : Calls Try.prog 66 #[.int .i64 b] w fun e w' => e = .returned (.bool (baseP b)) ∧ w' = w := by
  go_enter Try.func66, Try.ntmps66
  go_wp2
  all_goals
    go_ret
    refine ⟨ret_bool ?_, rfl⟩
    unfold baseP
    rw [Bool.eq_iff_iff]
    simp only [beq_iff_eq, beq_eq_false_iff_ne, bne_iff_ne, decide_eq_true_eq, Bool.or_eq_true, Bool.and_eq_true, Bool.not_eq_true', Bool.not_eq_eq_eq_not, Bool.not_true, Bool.not_false, Bool.false_eq_true, decide_eq_false_iff_not, ne_eq, iff_false, false_iff, true_iff, iff_true] at *
    try omega

theorem slice_to8 (p : Option Addr) (len cap s : Nat) (hs : s ≤ cap) (w2 : World) :
    (Instr.slice 62 (.slice p len cap) none (some (.int .i64 s)) none).run Try.prog w2 = .ok (.slice p s cap) w2 := by
  have h0 : (s : Int) ≤ cap := by omega
  have u := Try.underlying62
  have z := Try.sizeOf5
  cases p with
  | none => simp [go_sem, h0]
  | some a => obtain ⟨b, o, sp⟩ := a; simp [go_sem, h0, Addr.add]
theorem slice_to32 (p : Option Addr) (len cap s : Nat) (hs : s ≤ cap) (w2 : World) :
    (Instr.slice 67 (.slice p len cap) none (some (.int .i64 s)) none).run Try.prog w2 = .ok (.slice p s cap) w2 := by
  have h0 : (s : Int) ≤ cap := by omega
  have u := Try.underlying67
  have z := Try.sizeOf90
  cases p with
  | none => simp [go_sem, h0]
  | some a => obtain ⟨b, o, sp⟩ := a; simp [go_sem, h0, Addr.add]

def slen : Value → Nat
  | .slice _ n _ => n
  | _ => 0

set_option maxRecDepth 100000 in
set_option maxHeartbeats 1000000 in
theorem trim8_any (p : Option Addr) (l : List Nat) (cap : Nat) (w : World) (hc : l.length ≤ cap) (hm : (cap : Int) ≤ 9223372036854775807) (h : Rd .u8 w p l) :
    Calls Try.prog 68 #[.slice p l.length cap] w fun e w' => e = .returned (.slice p (trimLen l) cap) ∧ w' = w := by
  obtain ⟨r, hR⟩ : ∃ r, trimLen l = r := ⟨_, rfl⟩
  rw [hR]
  have HR : Hid (trimLen l = r) := hR
  clear hR
  go_enter Try.func68, Try.ntmps68
  go_wp2
  go_loop [0] (fun v => ∃ (k : Nat), k ≤ l.length ∧ v = .slice p k cap ∧ Hid (∀ j, k ≤ j → j < l.length → nAt l j = 0)) (fun v => slen v)
  case atStart => exact ⟨l.length, Nat.le_refl _, rfl, fun j h1 h2 => by omega⟩
  case round =>
    obtain ⟨k, hk, rfl, HZ⟩ := hrel
    by_cases h0 : 0 < k
    · obtain ⟨b, o, rfl, hb⟩ := h.at (by omega)
      have c0 := hb (k - 1) (by omega)
      have hi : (k : Int) - 1 = ((k - 1 : Nat) : Int) := by omega
      have hlt : ((k - 1 : Nat) : Int) < k := by omega
      have h0' : (0 : Int) < k := by omega
      have S := slice_to8 (some ⟨b, o, none⟩) k cap (k - 1) (by omega)
      clear hb h
      by_cases hx : nAt l (k - 1) = 0
      · have HZ' : Hid (∀ j, k - 1 ≤ j → j < l.length → nAt l j = 0) := by
          intro j h1 h2
          by_cases e : j = k - 1
          · rw [e, hx]
          · exact HZ.out j (by omega) h2
        rw [hx] at c0
        go_wp2
        go_round
        case rel => exact ⟨k - 1, by omega, rfl, HZ'⟩
        case measure => simp [slen]; omega
      · have hr : r = k := HR.out.symm.trans (trimLen_eq l k hk HZ.out (.inr hx))
        generalize nAt l (k - 1) = x at c0 hx
        have t : ((x : Int) == 0) = false := by simp; omega
        subst hr
        go_wp2
        go_ret
        exact ⟨rfl, rfl⟩
    · obtain rfl : k = 0 := by omega
      have hr : r = 0 := HR.out.symm.trans (trimLen_eq l 0 hk HZ.out (.inl rfl))
      subst hr
      clear h
      go_wp2
      go_ret
      exact ⟨rfl, rfl⟩

set_option maxRecDepth 100000 in
set_option maxHeartbeats 1000000 in
theorem trim32_any (p : Option Addr) (l : List Nat) (cap : Nat) (w : World) (hc : l.length ≤ cap) (hm : (cap : Int) ≤ 9223372036854775807) (h : Rd .u32 w p l) :
    Calls Try.prog 80 #[.slice p l.length cap] w fun e w' => e = .returned (.slice p (trimLen l) cap) ∧ w' = w := by
  obtain ⟨r, hR⟩ : ∃ r, trimLen l = r := ⟨_, rfl⟩
  rw [hR]
  have HR : Hid (trimLen l = r) := hR
  clear hR
  go_enter Try.func80, Try.ntmps80
  go_wp2
  go_loop [0] (fun v => ∃ (k : Nat), k ≤ l.length ∧ v = .slice p k cap ∧ Hid (∀ j, k ≤ j → j < l.length → nAt l j = 0)) (fun v => slen v)
  case atStart => exact ⟨l.length, Nat.le_refl _, rfl, fun j h1 h2 => by omega⟩
  case round =>
    obtain ⟨k, hk, rfl, HZ⟩ := hrel
    by_cases h0 : 0 < k
    · obtain ⟨b, o, rfl, hb⟩ := h.at (by omega)
      have c0 := hb (k - 1) (by omega)
      have hi : (k : Int) - 1 = ((k - 1 : Nat) : Int) := by omega
      have hlt : ((k - 1 : Nat) : Int) < k := by omega
      have h0' : (0 : Int) < k := by omega
      have S := slice_to32 (some ⟨b, o, none⟩) k cap (k - 1) (by omega)
      clear hb h
      by_cases hx : nAt l (k - 1) = 0
      · have HZ' : Hid (∀ j, k - 1 ≤ j → j < l.length → nAt l j = 0) := by
          intro j h1 h2
          by_cases e : j = k - 1
          · rw [e, hx]
          · exact HZ.out j (by omega) h2
        rw [hx] at c0
        go_wp2
        go_round
        case rel => exact ⟨k - 1, by omega, rfl, HZ'⟩
        case measure => simp [slen]; omega
      · have hr : r = k := HR.out.symm.trans (trimLen_eq l k hk HZ.out (.inr hx))
        generalize nAt l (k - 1) = x at c0 hx
        have t : ((x : Int) == 0) = false := by simp; omega
        subst hr
        go_wp2
        go_ret
        exact ⟨rfl, rfl⟩
    · obtain rfl : k = 0 := by omega
      have hr : r = 0 := HR.out.symm.trans (trimLen_eq l 0 hk HZ.out (.inl rfl))
      subst hr
      clear h
      go_wp2
      go_ret
      exact ⟨rfl, rfl⟩
end Go.Proofs.Ytpffegkckejpiaa
namespace Go.Proofs.Ytpffegkckejpiaa
open Go.RowKit

def hexN (c : UInt8) : Nat := (hexP (c.toNat : Int)).toNat
def okD (base : Int) (c : UInt8) : Bool := decide (0 ≤ hexP (c.toNat : Int)) && decide (hexP (c.toNat : Int) < base)
theorem okD_iff {base : Int} {c : UInt8} : okD base c = true ↔ 0 ≤ hexP (c.toNat : Int) ∧ hexP (c.toNat : Int) < base := by unfold okD; simp
/-- The text is a number in that base. -/
def okS (s : ByteArray) (base : Int) : Bool := baseP base && decide (0 < s.size) && decide (s.size ≤ 5000) && s.data.toList.all (okD base)
theorem okS_iff {s : ByteArray} {base : Int} : okS s base = true ↔ baseP base = true ∧ 0 < s.size ∧ s.size ≤ 5000 ∧ s.data.toList.all (okD base) = true := by unfold okS; simp [and_assoc]
/-- The digits of a text, the first one first. -/
def msd (l : List UInt8) : List Nat := l.map hexN
/-- The least first. -/
def lsd (s : ByteArray) : List Nat := (msd s.data.toList).reverse
theorem lsd_len (s : ByteArray) : (lsd s).length = s.size := by simp [lsd, msd]
theorem size_list (s : ByteArray) : s.data.toList.length = s.size := by simp
theorem byte_get (s : ByteArray) (k : Nat) (h : k < s.size) : s.data.toList[k]? = some s[k] := by
  rw [List.getElem?_eq_getElem (by simpa using h)]; rfl
theorem byte_drop (s : ByteArray) (k : Nat) (h : k < s.size) : s.data.toList.drop k = s[k] :: s.data.toList.drop (k + 1) := by
  rw [List.drop_eq_getElem_cons (by simpa using h)]; rfl
theorem byte_take (s : ByteArray) (k : Nat) (h : k < s.size) : s.data.toList.take (k + 1) = s.data.toList.take k ++ [s[k]] := by
  rw [List.take_succ_eq_append_getElem (by simpa using h)]; rfl
theorem byte_mem (s : ByteArray) (k : Nat) (h : k < s.size) : s[k] ∈ s.data.toList := List.mem_of_getElem? (byte_get s k h)
theorem okS_at {s : ByteArray} {base : Int} (h : okS s base = true) (k : Nat) (hk : k < s.size) : okD base s[k] = true := List.all_eq_true.1 (okS_iff.1 h).2.2.2 _ (byte_mem s k hk)
theorem hexP_range (c : UInt8) : -1 ≤ hexP (c.toNat : Int) ∧ hexP (c.toNat : Int) ≤ 15 := by unfold hexP; repeat' split
                                                                                             all_goals omega
theorem hexN_cast {c : UInt8} (h : 0 ≤ hexP (c.toNat : Int)) : ((hexN c : Nat) : Int) = hexP (c.toNat : Int) := by unfold hexN; omega
theorem baseP_iff {b : Int} : baseP b = true ↔ b = 8 ∨ b = 10 ∨ b = 16 := by unfold baseP; simp
theorem lsd_dg {s : ByteArray} {base : Nat} (h : okS s base = true) : Dg base (lsd s) := by
  intro d hd
  unfold lsd msd at hd
  rw [List.mem_reverse] at hd
  obtain ⟨c, hc, rfl⟩ := List.mem_map.1 hd
  have := okD_iff.1 (List.all_eq_true.1 (okS_iff.1 h).2.2.2 c hc)
  have := hexN_cast this.1
  omega
/-- The number of a text in a base. -/
def numB (s : ByteArray) (base : Nat) : Nat := val base (lsd s)
/-- The number of a text in base 10; what is none is nought. -/
def num (s : ByteArray) : Nat := if okS s 10 then numB s 10 else 0
theorem num_yes {s : ByteArray} (h : okS s 10 = true) : num s = val 10 (lsd s) := by unfold num; rw [if_pos h]; rfl
theorem num_no {s : ByteArray} (h : okS s 10 = false) : num s = 0 := by unfold num; rw [if_neg (by rw [h]; decide)]
end Go.Proofs.Ytpffegkckejpiaa
