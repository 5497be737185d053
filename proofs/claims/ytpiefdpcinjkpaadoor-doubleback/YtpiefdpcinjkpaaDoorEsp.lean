/- Escapes by number: in plain terms, and what the walk of DoubleEscapes wants. -/
import Derived.Test.YtpiefdpcinjkpaaDoorJns
import Derived.Test.YtpiefdpcinjkpaaDoorRit
import Derived.Laws.BitsLemmas
set_option linter.unusedVariables false
set_option linter.unusedSimpArgs false
namespace Go.Proofs.YtpiefdpcinjkpaaDoor
open Go.RowKit Go.Shelf

def dg (up : Bool) (d : Int) : Int := if d < 10 then 48 + d else if up then 55 + d else 87 + d
def hexL (up : Bool) : Nat → Int → List Int
  | 0, _ => []
  | m + 1, c => hexL up m (c / 16) ++ [dg up (c % 16)]
theorem hexP_dg (up : Bool) (d : Int) (h0 : 0 ≤ d) (h1 : d < 16) : hexP (dg up d) = d := by
  unfold hexP dg
  by_cases h : d < 10
  · rw [if_pos h, if_pos (by omega)]; omega
  · rw [if_neg h]
    cases up
    · simp only [Bool.false_eq_true, if_false]
      rw [if_neg (by omega), if_pos (by omega)]; omega
    · simp only [if_true]
      rw [if_neg (by omega), if_neg (by omega), if_pos (by omega)]; omega
theorem hexL_len (up : Bool) : ∀ (m : Nat) (c : Int), (hexL up m c).length = m
  | 0, _ => rfl
  | m + 1, c => by rw [hexL, List.length_append, hexL_len up m]; rfl
theorem acc_hex (up : Bool) : ∀ (m : Nat) (c : Int), 0 ≤ c → c < 16 ^ m → accP (hexL up m c) = some c.toNat
  | 0, c, h0, h1 => by
    have : c = 0 := by simp at h1; omega
    subst this; rfl
  | m + 1, c, h0, h1 => by
    have h2 : c / 16 < 16 ^ m := by
      rw [Int.pow_succ] at h1
      omega
    rw [hexL, accP_snoc, acc_hex up m (c / 16) (by omega) h2]
    unfold accS
    rw [Option.bind_some, hexP_dg up _ (by omega) (by omega), if_neg (by omega)]
    congr 1
    omega
theorem numb_hex (up : Bool) (m : Nat) (c : Int) (r : List Int) (h0 : 0 ≤ c) (h1 : c < 16 ^ m) : numbP (hexL up m c ++ r) m = if pointP c then ⟨2 + m, c, 0⟩ else ⟨0, 0, 4⟩ := by
  unfold numbP
  rw [if_neg (by rw [List.length_append, hexL_len]; omega), List.take_left' (hexL_len up m c), acc_hex up m c h0 h1]
  dsimp only
  rw [Int.toNat_of_nonneg h0]
theorem first_hex (up : Bool) (s : Int) (c : Int) (r : List Int) (hs : 0 < countP s) (h0 : 0 ≤ c) (h1 : c < 16 ^ countP s) : firstP (s :: (hexL up (countP s) c ++ r)) true = if pointP c then ⟨2 + countP s, c, 0⟩ else ⟨0, 0, 4⟩ := by
  unfold firstP
  dsimp only
  rw [if_pos hs, numb_hex up _ c r h0 h1]
/-- The whole escape between x and y. -/
theorem esc_whole (up : Bool) (s : Int) (c : Int) (hs : 0 < countP s) (h0 : 0 ≤ c) (h1 : c < 16 ^ countP s) :
    (pointP c = true → flP true 0 ([120, 92, s] ++ hexL up (countP s) c ++ [121]) = 0 ∧ (itP true 0 ([120, 92, s] ++ hexL up (countP s) c ++ [121])).map (·.1) = [120, c, 121]) ∧
    (pointP c = false → flP true 0 ([120, 92, s] ++ hexL up (countP s) c ++ [121]) = 4) := by
  have hF := first_hex up s c [121] hs h0 h1
  have e : [120, 92, s] ++ hexL up (countP s) c ++ [121] = 120 :: 92 :: s :: (hexL up (countP s) c ++ [121]) := by simp
  rw [e]
  have hl := hexL_len up (countP s) c
  have n1 : ¬ (120 : Int) = 92 := by decide
  have hd : (s :: (hexL up (countP s) c ++ [121])).drop (2 + countP s - 1) = [121] := by
    rw [show 2 + countP s - 1 = countP s + 1 by omega, List.drop_succ_cons, List.drop_left' hl]
  refine ⟨fun hp => ?_, fun hp => ?_⟩
  · rw [hp, if_pos rfl] at hF
    rw [flP, if_neg n1, flP, if_pos rfl, hF, if_pos rfl, (it_skip true _ _).2, itP, if_neg n1, itP, if_pos rfl, hF, (it_skip true _ _).1]
    dsimp only
    rw [hd]
    exact ⟨rfl, rfl⟩
  · rw [hp, if_neg (by simp)] at hF
    rw [flP, if_neg n1, flP, if_pos rfl, hF, if_neg (by simp)]
theorem esc_short (up : Bool) (s : Int) (c : Int) (hs : 0 < countP s) : flP true 0 (([120, 92, s] ++ hexL up (countP s) c).take (2 + countP s)) = 2 := by
  have hl := hexL_len up (countP s) c
  have e : ([120, 92, s] ++ hexL up (countP s) c).take (2 + countP s) = 120 :: 92 :: s :: (hexL up (countP s) c).take (countP s - 1) := by
    have e0 : [120, 92, s] ++ hexL up (countP s) c = 120 :: 92 :: s :: hexL up (countP s) c := by simp
    rw [e0, show 2 + countP s = (countP s - 1) + 1 + 1 + 1 by omega, List.take_succ_cons, List.take_succ_cons, List.take_succ_cons]
  have n1 : ¬ (120 : Int) = 92 := by decide
  have hF : firstP (s :: (hexL up (countP s) c).take (countP s - 1)) true = ⟨0, 0, 2⟩ := by
    unfold firstP
    dsimp only
    rw [if_pos hs]
    unfold numbP
    rw [if_pos (by rw [List.length_take, hl]; omega)]
  rw [e, flP, if_neg n1, flP, if_pos rfl, hF, if_neg (by simp)]

theorem i64_and15 (n : Int) : bits .and .i64 n 15 = n % 16 := by
  have h15 : (BitVec.ofInt 64 15).toNat = 2 ^ 4 - 1 := by decide
  have key : (BitVec.ofInt 64 n &&& BitVec.ofInt 64 15).toNat = (n % ((2 ^ 64 : Nat) : Int)).toNat % 2 ^ 4 := by
    rw [BitVec.toNat_and, BitVec.toNat_ofInt, h15, Nat.and_two_pow_sub_one_eq_mod]
  show IntKind.i64.wrap ((BitVec.ofInt 64 n &&& BitVec.ofInt 64 15).toNat : Nat) = n % 16
  rw [key, IntKind.wrap_i64]
  omega
theorem of16 {d : Int} (h0 : 0 ≤ d) (h1 : d < 16) : d = 0 ∨ d = 1 ∨ d = 2 ∨ d = 3 ∨ d = 4 ∨ d = 5 ∨ d = 6 ∨ d = 7 ∨ d = 8 ∨ d = 9 ∨ d = 10 ∨ d = 11 ∨ d = 12 ∨ d = 13 ∨ d = 14 ∨ d = 15 := by omega
theorem idx_low (d : Int) (h0 : 0 ≤ d) (h1 : d < 16) (w : World) : (Instr.index 9 (.string ⟨#[48, 49, 50, 51, 52, 53, 54, 55, 56, 57, 97, 98, 99, 100, 101, 102]⟩) (.int .i64 d)).run Tryd.prog w = .ok (.int .u8 (dg false d)) w := by
  rcases of16 h0 h1 with rfl | rfl | rfl | rfl | rfl | rfl | rfl | rfl | rfl | rfl | rfl | rfl | rfl | rfl | rfl | rfl <;> kernel_rfl
theorem idx_up (d : Int) (h0 : 0 ≤ d) (h1 : d < 16) (w : World) : (Instr.index 9 (.string ⟨#[48, 49, 50, 51, 52, 53, 54, 55, 56, 57, 65, 66, 67, 68, 69, 70]⟩) (.int .i64 d)).run Tryd.prog w = .ok (.int .u8 (dg true d)) w := by
  rcases of16 h0 h1 with rfl | rfl | rfl | rfl | rfl | rfl | rfl | rfl | rfl | rfl | rfl | rfl | rfl | rfl | rfl | rfl <;> kernel_rfl
theorem owns_lit3 (w : World) (x y z : Int) : Owns (w.alloc (.cells #[.int .i64 x, .int .i64 y, .int .i64 z] 3)) w.heap.size (.slice (some ⟨w.heap.size, 0, none⟩) 3 3) [x, y, z] :=
  World.ownsRow_lit (base := w.heap.size) (e := 3) (size := 1) w #[.int .i64 x, .int .i64 y, .int .i64 z] 3 (Nat.le_refl _) (by unfold maxLen; omega) rfl
theorem dg_range (up : Bool) (d : Int) (h0 : 0 ≤ d) (h1 : d < 16) : 0 ≤ dg up d ∧ dg up d < 256 := by
  unfold dg
  split
  · omega
  · cases up
    · simp only [Bool.false_eq_true, if_false]; omega
    · simp only [if_true]; omega
theorem hex_step (up : Bool) (n : Nat) (l : List Int) (e f : Int) (h : e / 16 = f) : l ++ hexL up n f ++ [dg up (e % 16)] = l ++ hexL up (n + 1) e := by
  subst h
  rw [List.append_assoc]
  rfl
theorem Is.fore {w : World} {p : Option Addr} {l : List Int} (h : Is w p l) (n : Nat) : Is w p (l.take n) := by
  rcases h with rfl | ⟨b, o, rfl, hc⟩
  · exact .inl (by simp)
  · refine .inr ⟨b, o, rfl, fun j hj => ?_⟩
    rw [List.length_take] at hj
    rw [hc j (by omega)]
    unfold iAt
    rw [List.getElem?_take, if_pos (by omega)]
theorem Read_oneS (q : Option Addr) (t : List Int) (k c : Nat) (W : World) (hk : k = t.length) (hI : Is W q t) (hc : k ≤ c) (hm : c ≤ maxLen) (ht : t.length ≤ 1000) (hT : Tab W) :
    (∀ f : Nat, flP true 0 t = f → f ≠ 0 → Calls Tryd.prog 11 #[.slice (some ⟨W.heap.size, 0, none⟩) 1 1] (W.alloc (.cells #[.slice q k c] 25)) fun e w' => e = .returned (.tuple #[.slice none 0 0, .int .i64 (f : Nat)]) ∧ Below W.heap.size W w') ∧
    (∀ T, flP true 0 t = 0 → (itP true 0 t).map (·.1) = T → Calls Tryd.prog 11 #[.slice (some ⟨W.heap.size, 0, none⟩) 1 1] (W.alloc (.cells #[.slice q k c] 25)) fun e w' => ∃ q' c', e = .returned (.tuple #[.slice q' T.length c', .int .i64 0]) ∧ Is w' q' T ∧ Below W.heap.size W w') := by
  subst hk
  have RD := Read_one q t c W hI hc hm (by omega) hT
  refine ⟨fun f hf h0 => RD.mono ?_, fun T hf hT => RD.mono ?_⟩
  · rintro e w' ⟨hb, (⟨-, h⟩ | ⟨h, -⟩)⟩
    · exact ⟨by rw [h, hf], hb⟩
    · exact absurd (hf.symm.trans h) h0
  · rintro e w' ⟨hb, (⟨h, -⟩ | ⟨-, v, rfl, ho⟩)⟩
    · exact absurd hf h
    · rw [hT] at ho
      obtain ⟨q', c', rfl, hI'⟩ := ho.read
      exact ⟨q', c', rfl, hI', hb⟩
theorem is_lit3 (w : World) (x y z : Int) : Is (w.alloc (.cells #[.int .i64 x, .int .i64 y, .int .i64 z] 3)) (some ⟨w.heap.size, 0, none⟩) [x, y, z] := (is_of_row (owns_lit3 w x y z)).1
end Go.Proofs.YtpiefdpcinjkpaaDoor
