/- utf8.ValidString as this program bears it: the shelf's contract, laid at its numbers here; and that it tells right UTF-8 as the document does. -/
import Derived.Shelf.Unicode.ValidAny
import Derived.Lib.ValidLaws
import Derived.Test.YtjfeamfchgcblaaDoorDec
set_option linter.all false
namespace Go.Proofs.YtjfeamfchgcblaaDoor
open Go.Shelf Go.RowKit Go.Lib
def vldRen : Go.Shelf.Ren := ⟨fun | 196 => 28 | 259 => 38 | n => n, fun | 0 => 0 | 3 => 3 | 4 => 4 | 5 => 5 | 9 => 9 | 12 => 12 | 46 => 67 | 53 => 74 | 119 => 63 | 138 => 65 | 139 => 66 | n => n, fun | 3 => 0 | 4 => 1 | n => n⟩
theorem vldLays : Go.Proofs.Lays.n196 Tryd.prog vldRen := {
  mixed := by kernel_rfl
  f196 := Tryd.func28.trans (congrArg some (by kernel_rfl))
  f259 := Tryd.func38.trans (congrArg some (by kernel_rfl))
  t0 := Tryd.underlying0
  a0 := Tryd.isAgg0
  z0 := Tryd.sizeOf0
  v0 := Tryd.zeroValue0
  t3 := Tryd.underlying3
  a3 := Tryd.isAgg3
  z3 := Tryd.sizeOf3
  v3 := Tryd.zeroValue3
  t4 := Tryd.underlying4
  a4 := Tryd.isAgg4
  z4 := Tryd.sizeOf4
  v4 := Tryd.zeroValue4
  t5 := Tryd.underlying5
  a5 := Tryd.isAgg5
  z5 := Tryd.sizeOf5
  v5 := Tryd.zeroValue5
  t9 := Tryd.underlying9
  a9 := Tryd.isAgg9
  z9 := Tryd.sizeOf9
  v9 := Tryd.zeroValue9
  t12 := Tryd.underlying12
  a12 := Tryd.isAgg12
  z12 := Tryd.sizeOf12
  v12 := Tryd.zeroValue12
  t46 := Tryd.underlying67
  a46 := Tryd.isAgg67
  z46 := Tryd.sizeOf67
  v46 := Tryd.zeroValue67
  t53 := Tryd.underlying74
  a53 := Tryd.isAgg74
  z53 := Tryd.sizeOf74
  v53 := Tryd.zeroValue74
  t119 := Tryd.underlying63
  a119 := Tryd.isAgg63
  z119 := Tryd.sizeOf63
  t138 := Tryd.underlying65
  a138 := Tryd.isAgg65
  z138 := Tryd.sizeOf65
  v138 := Tryd.zeroValue65
  t139 := Tryd.underlying66
  a139 := Tryd.isAgg66
  z139 := Tryd.sizeOf66
  v139 := Tryd.zeroValue66
  g3 := by kernel_rfl
  g4 := by kernel_rfl }
/-- The two tables of utf8. -/
def Tabs (w : World) : Prop := Lib.Utf8Tabs 0 1 w
theorem valid_string (s : ByteArray) (w : World) (hs : s.size ≤ 1048576) (hT : Tabs w) :
    Calls Tryd.prog 28 #[.string s] w fun e w' => e = .returned (.bool (Lib.validD s.data.toList)) ∧ Below w.heap.size w w' := Any.utf8_ValidString vldLays s w (by omega) hT
def g8 (r k : Int) : Int × Int := if r = 65533 ∧ k ≤ 1 then (0, 0) else (r, k)
def f8 (l : List UInt8) : Int × Int := g8 (Lib.decodeN l.length (bt l 0) (bt l 1) (bt l 2) (bt l 3)).1 (Lib.decodeN l.length (bt l 0) (bt l 1) (bt l 2) (bt l 3)).2
theorem g8_bad : g8 65533 1 = (0, 0) := by decide
theorem dec_a (n x0 x1 x2 x3 : Nat) (h : x0 < 128) : Lib.decodeN n x0 x1 x2 x3 = (x0, 1) := by unfold Lib.decodeN; rw [if_pos h]
theorem dec_b (n x0 x1 x2 x3 : Nat) (h : 128 ≤ x0) (h' : x0 < 194) : Lib.decodeN n x0 x1 x2 x3 = (65533, 1) := by
  unfold Lib.decodeN
  rw [if_neg (by omega)]
  by_cases c : x0 / 32 = 6 ∧ (1 < n ∧ x1 / 64 = 2)
  · rw [if_pos c, if_neg (by omega)]
  · rw [if_neg c, if_neg (by omega), if_neg (by omega)]
theorem dec_c (n x0 x1 x2 x3 : Nat) (h : 194 ≤ x0) (h' : x0 < 224) : Lib.decodeN n x0 x1 x2 x3 = if 1 < n ∧ x1 / 64 = 2 then (x0 % 32 * 64 + x1 % 64, 2) else (65533, 1) := by
  unfold Lib.decodeN
  rw [if_neg (by omega)]
  by_cases c : 1 < n ∧ x1 / 64 = 2
  · rw [if_pos c, if_pos ⟨by omega, c⟩, if_pos (by omega)]
  · rw [if_neg c, if_neg (fun h => c h.2), if_neg (by omega), if_neg (by omega)]
theorem dec_d (n x0 x1 x2 x3 : Nat) (h : 224 ≤ x0) (h' : x0 < 240) : Lib.decodeN n x0 x1 x2 x3 =
    if ((1 < n ∧ x1 / 64 = 2) ∧ (2 < n ∧ x2 / 64 = 2)) ∧ 2048 ≤ x0 % 16 * 4096 + x1 % 64 * 64 + x2 % 64 ∧ ¬ (55296 ≤ x0 % 16 * 4096 + x1 % 64 * 64 + x2 % 64 ∧ x0 % 16 * 4096 + x1 % 64 * 64 + x2 % 64 ≤ 57343)
    then (x0 % 16 * 4096 + x1 % 64 * 64 + x2 % 64, 3) else (65533, 1) := by
  unfold Lib.decodeN
  rw [if_neg (by omega), if_neg (by omega)]
  by_cases c : (1 < n ∧ x1 / 64 = 2) ∧ (2 < n ∧ x2 / 64 = 2)
  · rw [if_pos ⟨by omega, c.1, c.2⟩]
    by_cases d : 2048 ≤ x0 % 16 * 4096 + x1 % 64 * 64 + x2 % 64 ∧ ¬ (55296 ≤ x0 % 16 * 4096 + x1 % 64 * 64 + x2 % 64 ∧ x0 % 16 * 4096 + x1 % 64 * 64 + x2 % 64 ≤ 57343)
    · rw [if_pos (by omega), if_pos ⟨c, d⟩]
    · rw [if_neg (by omega), if_neg (fun h => d h.2)]
  · rw [if_neg (fun h => c ⟨h.2.1, h.2.2⟩), if_neg (by omega), if_neg (fun h => c h.1)]
theorem dec_e (n x0 x1 x2 x3 : Nat) (h : 240 ≤ x0) (h' : x0 < 256) : Lib.decodeN n x0 x1 x2 x3 =
    if x0 < 248 ∧ ((1 < n ∧ x1 / 64 = 2) ∧ (2 < n ∧ x2 / 64 = 2) ∧ (3 < n ∧ x3 / 64 = 2)) ∧ 65536 ≤ x0 % 8 * 262144 + x1 % 64 * 4096 + x2 % 64 * 64 + x3 % 64 ∧ x0 % 8 * 262144 + x1 % 64 * 4096 + x2 % 64 * 64 + x3 % 64 ≤ 1114111
    then (x0 % 8 * 262144 + x1 % 64 * 4096 + x2 % 64 * 64 + x3 % 64, 4) else (65533, 1) := by
  unfold Lib.decodeN
  rw [if_neg (by omega), if_neg (by omega), if_neg (by omega)]
  by_cases c : x0 < 248 ∧ ((1 < n ∧ x1 / 64 = 2) ∧ (2 < n ∧ x2 / 64 = 2) ∧ (3 < n ∧ x3 / 64 = 2))
  · rw [if_pos ⟨by omega, c.2⟩]
    by_cases d : 65536 ≤ x0 % 8 * 262144 + x1 % 64 * 4096 + x2 % 64 * 64 + x3 % 64 ∧ x0 % 8 * 262144 + x1 % 64 * 4096 + x2 % 64 * 64 + x3 % 64 ≤ 1114111
    · rw [if_pos (by omega), if_pos ⟨c.1, c.2, d⟩]
    · rw [if_neg (by omega), if_neg (fun h => d h.2.2)]
  · rw [if_neg (fun h => c ⟨by omega, h.2⟩), if_neg (fun h => c ⟨h.1, h.2.1⟩)]

theorem g8_two (r k : Int) (h : 1 < k) : g8 r k = (r, k) := by unfold g8; rw [if_neg (by omega)]
theorem g8_one (r : Int) (h : r < 128) : g8 r 1 = (r, 1) := by unfold g8; rw [if_neg (by omega)]

theorem pointP_eq (l : List UInt8) : pointP l = f8 l := by
  have b0 := bt_lt l 0
  have b1 := bt_lt l 1
  have b2 := bt_lt l 2
  have b3 := bt_lt l 3
  unfold pointP f8
  by_cases hA : bt l 0 < 128
  · rw [if_pos hA, dec_a _ _ _ _ _ hA]
    exact (g8_one _ (by omega)).symm
  rw [if_neg hA]
  by_cases hB : bt l 0 < 194
  · rw [if_pos hB, dec_b _ _ _ _ _ (by omega) hB]; rfl
  rw [if_neg hB]
  by_cases hC : bt l 0 < 224
  · rw [if_pos hC, dec_c _ _ _ _ _ (by omega) hC]
    unfold multi
    have a1 : acc (bt l 0 % 32) l (2 - 1) = bt l 0 % 32 * 64 + bt l 1 % 64 := rfl
    have c1 : cont l (2 - 1) = (decide (128 ≤ bt l 1) && decide (bt l 1 ≤ 191)) := by show cont l 1 = _; rw [cont_succ]; rfl
    rw [a1, c1]
    by_cases c : 1 < l.length ∧ bt l 1 / 64 = 2
    · rw [if_pos c, if_neg (by omega), if_neg (by simp; omega), if_neg (by rw [okP_false]; omega), g8_two _ _ (by simp)]
    · rw [if_neg c]
      by_cases d : l.length < 2
      · rw [if_pos d]; rfl
      · rw [if_neg d, if_pos (by simp; omega)]; rfl
  rw [if_neg hC]
  by_cases hD : bt l 0 < 240
  · rw [if_pos hD, dec_d _ _ _ _ _ (by omega) hD]
    unfold multi
    have a1 : acc (bt l 0 % 16) l (3 - 1) = bt l 0 % 16 * 4096 + bt l 1 % 64 * 64 + bt l 2 % 64 := by show (bt l 0 % 16 * 64 + bt l 1 % 64) * 64 + bt l 2 % 64 = _; omega
    have c1 : cont l (3 - 1) = ((decide (128 ≤ bt l 1) && decide (bt l 1 ≤ 191)) && (decide (128 ≤ bt l 2) && decide (bt l 2 ≤ 191))) := by show cont l 2 = _; rw [cont_succ, cont_succ]; rfl
    rw [a1, c1]
    generalize hv : bt l 0 % 16 * 4096 + bt l 1 % 64 * 64 + bt l 2 % 64 = v
    by_cases c : ((1 < l.length ∧ bt l 1 / 64 = 2) ∧ (2 < l.length ∧ bt l 2 / 64 = 2)) ∧ 2048 ≤ v ∧ ¬ (55296 ≤ v ∧ v ≤ 57343)
    · rw [if_pos c, if_neg (by omega), if_neg (by simp; omega), if_neg (by rw [okP_false]; omega), g8_two _ _ (by simp)]
    · rw [if_neg c]
      by_cases d : l.length < 3
      · rw [if_pos d]; rfl
      · rw [if_neg d]
        by_cases e : ((decide (128 ≤ bt l 1) && decide (bt l 1 ≤ 191)) && (decide (128 ≤ bt l 2) && decide (bt l 2 ≤ 191))) = false
        · rw [if_pos e]; rfl
        · rw [if_neg e, if_pos (by rw [okP_false]; simp at e; omega)]; rfl
  rw [if_neg hD, dec_e _ _ _ _ _ (by omega) b0]
  by_cases hE : bt l 0 < 245
  · rw [if_pos hE]
    unfold multi
    have a1 : acc (bt l 0 % 8) l (4 - 1) = bt l 0 % 8 * 262144 + bt l 1 % 64 * 4096 + bt l 2 % 64 * 64 + bt l 3 % 64 := by show ((bt l 0 % 8 * 64 + bt l 1 % 64) * 64 + bt l 2 % 64) * 64 + bt l 3 % 64 = _; omega
    have c1 : cont l (4 - 1) = (((decide (128 ≤ bt l 1) && decide (bt l 1 ≤ 191)) && (decide (128 ≤ bt l 2) && decide (bt l 2 ≤ 191))) && (decide (128 ≤ bt l 3) && decide (bt l 3 ≤ 191))) := by show cont l 3 = _; rw [cont_succ, cont_succ, cont_succ]; rfl
    rw [a1, c1]
    generalize hv : bt l 0 % 8 * 262144 + bt l 1 % 64 * 4096 + bt l 2 % 64 * 64 + bt l 3 % 64 = v
    by_cases c : bt l 0 < 248 ∧ ((1 < l.length ∧ bt l 1 / 64 = 2) ∧ (2 < l.length ∧ bt l 2 / 64 = 2) ∧ (3 < l.length ∧ bt l 3 / 64 = 2)) ∧ 65536 ≤ v ∧ v ≤ 1114111
    · rw [if_pos c, if_neg (by omega), if_neg (by simp; omega), if_neg (by rw [okP_false]; omega), g8_two _ _ (by simp)]
    · rw [if_neg c]
      by_cases d : l.length < 4
      · rw [if_pos d]; rfl
      · rw [if_neg d]
        by_cases e : (((decide (128 ≤ bt l 1) && decide (bt l 1 ≤ 191)) && (decide (128 ≤ bt l 2) && decide (bt l 2 ≤ 191))) && (decide (128 ≤ bt l 3) && decide (bt l 3 ≤ 191))) = false
        · rw [if_pos e]; rfl
        · rw [if_neg e, if_pos (by rw [okP_false]; simp at e; omega)]; rfl
  · rw [if_neg hE, if_neg (by omega)]; rfl

theorem decode_bt (l : List UInt8) (h : l ≠ []) : Lib.decodeL l = Lib.decodeN l.length (bt l 0) (bt l 1) (bt l 2) (bt l 3) := by
  rw [Lib.decodeL_N]
  unfold bt
  simp only [List.getD_eq_getElem?_getD]
theorem valid_from (l : List UInt8) : ∀ f k, k ≤ l.length → l.length - k ≤ f → Lib.validD (l.drop k) = decide (runE (pN l) l.length k = l.length) := by
  intro f
  induction f with
  | zero =>
    intro k hk h
    obtain rfl : k = l.length := by omega
    rw [List.drop_length, Lib.validD_nil, runE_stop (by unfold pN; rw [if_neg (by omega)])]
    simp
  | succ f ih =>
    intro k hk h
    by_cases hkl : k < l.length
    · have hne : l.drop k ≠ [] := fun e => by have := congrArg List.length e; simp at this; omega
      have hw := Lib.decodeL_width (l.drop k)
      have hlen : 0 < (l.drop k).length := List.length_pos_iff.2 hne
      have hp : pointP (l.drop k) = g8 (Lib.decodeL (l.drop k)).1 (Lib.decodeL (l.drop k)).2 := by rw [pointP_eq, decode_bt _ hne]; rfl
      have hN : pN l k = (g8 (Lib.decodeL (l.drop k)).1 (Lib.decodeL (l.drop k)).2).2.toNat := by unfold pN; rw [if_pos hkl, hp]
      rw [Lib.validD_step _ hne]
      by_cases hb : (Lib.decodeL (l.drop k)).1 = 65533 ∧ (Lib.decodeL (l.drop k)).2 = 1
      · rw [if_pos hb, runE_stop (by rw [hN, hb.1, hb.2]; rfl)]
        exact (decide_eq_false (by omega)).symm
      · rw [if_neg hb]
        have hg : pN l k = (Lib.decodeL (l.drop k)).2 := by
          rw [hN]
          unfold g8
          rw [if_neg (by omega)]
          simp
        have h1 := pN_bd l k
        have h2 : pN l k ≠ 0 := by omega
        rw [List.drop_drop, ← hg, ← runE_step (pN_bd l) h2]
        exact ih (k + pN l k) (by omega) (by omega)
    · obtain rfl : k = l.length := by omega
      rw [List.drop_length, Lib.validD_nil, runE_stop (by unfold pN; rw [if_neg (by omega)])]
      simp
theorem valid_rit (l : List UInt8) : Lib.validD l = ritP l := by
  have := valid_from l l.length 0 (Nat.zero_le _) (Nat.sub_le _ _)
  rw [List.drop_zero] at this
  exact this
end Go.Proofs.YtjfeamfchgcblaaDoor
