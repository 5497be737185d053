/- What is written as UTF-8, with the mark ahead, is read as it was: plain lists. -/
import Derived.Test.YtdkodepeglpimaaDoorPut
set_option linter.unusedVariables false
set_option linter.unusedSimpArgs false
namespace Go.Proofs.YtdkodepeglpimaaDoor

def toB (z : Int) : UInt8 := UInt8.ofNat z.toNat
theorem toB_toNat (z : Int) (h0 : 0 ≤ z) (h : z < 256) : ((toB z).toNat : Int) = z := by unfold toB; simp; omega
theorem toB_nat (z : Int) (h0 : 0 ≤ z) (h : z < 256) : (toB z).toNat = z.toNat := by unfold toB; simp; omega
def encU (l : List Int) : List UInt8 := (encZ l).map toB

theorem first_enc (f : Int) (t : List UInt8) (hok : okP f = true) : firstP 1 ((Lib.encodeRuneZ f).map toB ++ t) = (f, ((Lib.encodeRuneZ f).length : Int)) := by
  have e1 : ∀ l, firstP 1 l = f8 l := fun l => by unfold firstP; rw [if_neg (by decide), if_neg (by decide), if_neg (by decide), if_neg (by decide)]
  rw [e1]
  obtain ⟨a0, a1, a2⟩ := okP_range hok
  unfold f8
  by_cases h1 : f ≤ 127
  · rw [Lib.encodeRuneZ_one a0 h1]
    simp only [List.map_cons, List.map_nil, List.cons_append, List.nil_append]
    have b0 : bt (toB f :: t) 0 = f.toNat := toB_nat f a0 (by omega)
    rw [dec_a _ _ _ _ _ (by rw [b0]; omega), b0, show ((f.toNat : Nat) : Int) = f by omega]
    exact g8_one f (by omega)
  by_cases h2 : f ≤ 2047
  · rw [Lib.encodeRuneZ_two (by omega) h2]
    simp only [List.map_cons, List.map_nil, List.cons_append, List.nil_append]
    generalize hL : toB (192 + f / 64) :: toB (128 + f % 64) :: t = L
    have b0 : bt L 0 = (192 + f / 64).toNat := by rw [← hL]; exact toB_nat _ (by omega) (by omega)
    have b1 : bt L 1 = (128 + f % 64).toNat := by rw [← hL]; exact toB_nat _ (by omega) (by omega)
    have hn : 2 ≤ L.length := by rw [← hL]; simp
    rw [dec_c _ _ _ _ _ (by omega) (by omega), if_pos (by omega), g8_two _ _ (by simp)]
    congr 1
    simp only
    omega
  by_cases h3 : f ≤ 65535
  · rw [Lib.encodeRuneZ_three (by omega)]
    simp only [List.map_cons, List.map_nil, List.cons_append, List.nil_append]
    generalize hL : toB (224 + f / 4096) :: toB (128 + f / 64 % 64) :: toB (128 + f % 64) :: t = L
    have b0 : bt L 0 = (224 + f / 4096).toNat := by rw [← hL]; exact toB_nat _ (by omega) (by omega)
    have b1 : bt L 1 = (128 + f / 64 % 64).toNat := by rw [← hL]; exact toB_nat _ (by omega) (by omega)
    have b2 : bt L 2 = (128 + f % 64).toNat := by rw [← hL]; exact toB_nat _ (by omega) (by omega)
    have hn : 3 ≤ L.length := by rw [← hL]; simp
    rw [dec_d _ _ _ _ _ (by omega) (by omega), if_pos (by omega), g8_two _ _ (by simp)]
    congr 1
    simp only
    omega
  · rw [Lib.encodeRuneZ_four (by omega) a1]
    simp only [List.map_cons, List.map_nil, List.cons_append, List.nil_append]
    generalize hL : toB (240 + f / 262144) :: toB (128 + f / 4096 % 64) :: toB (128 + f / 64 % 64) :: toB (128 + f % 64) :: t = L
    have b0 : bt L 0 = (240 + f / 262144).toNat := by rw [← hL]; exact toB_nat _ (by omega) (by omega)
    have b1 : bt L 1 = (128 + f / 4096 % 64).toNat := by rw [← hL]; exact toB_nat _ (by omega) (by omega)
    have b2 : bt L 2 = (128 + f / 64 % 64).toNat := by rw [← hL]; exact toB_nat _ (by omega) (by omega)
    have b3 : bt L 3 = (128 + f % 64).toNat := by rw [← hL]; exact toB_nat _ (by omega) (by omega)
    have hn : 4 ≤ L.length := by rw [← hL]; simp
    rw [dec_e _ _ _ _ _ (by omega) (by omega), if_pos (by omega), g8_two _ _ (by simp)]
    congr 1
    simp only
    omega

theorem enc_pos (f : Int) : 1 ≤ (Lib.encodeRuneZ f).length := by
  unfold Lib.encodeRuneZ
  repeat' split
  all_goals simp

theorem seq_enc (l : List Int) : seqS 1 0 (encU l) = l.map fun c => (fixP c, true) := by
  induction l with
  | nil => rfl
  | cons c t ih =>
    have e : encU (c :: t) = (Lib.encodeRuneZ (fixP c)).map toB ++ encU t := by unfold encU encZ; simp
    have hf := first_enc (fixP c) (encU t) (fixP_ok c)
    have hp := enc_pos (fixP c)
    rw [e, seqS_good 1 _ (by rw [List.length_append, List.length_map]; omega) (by rw [hf]; show ((Lib.encodeRuneZ (fixP c)).length : Int) ≠ 0; omega) (by rw [hf]; simp), hf]
    simp only [List.map_cons, Int.toNat_natCast]
    rw [List.drop_left' (by simp), ih]

theorem encZ_byte (l : List Int) : ∀ z, z ∈ encZ l → 0 ≤ z ∧ z < 256 := by
  intro z hz
  unfold encZ at hz
  obtain ⟨c, -, hz⟩ := List.mem_flatMap.1 hz
  obtain ⟨a0, a1, a2⟩ := okP_range (fixP_ok c)
  unfold Lib.encodeRuneZ at hz
  repeat' split at hz
  all_goals (simp at hz; omega)

theorem form_bom (t : List UInt8) : formP (239 :: 187 :: 191 :: t) = (1, 3) := by
  have hm : markedP (239 :: 187 :: 191 :: t) = (1, 3) := by
    have no : ∀ (a : UInt8) (m : List UInt8), a ≠ 239 → beginsB (239 :: 187 :: 191 :: t) ⟨(a :: m).toArray⟩ = false := by
      intro a m ha
      refine begins_no 0 (by simp) (by simp) ?_
      unfold byteAt
      intro h
      have h2 : (239 : Int) = (a.toNat : Int) := by simpa using h
      have h' : (239 : UInt8).toNat = a.toNat := by show 239 = a.toNat; omega
      exact ha (UInt8.toNat_inj.1 h').symm
    have yes : beginsB (239 :: 187 :: 191 :: t) ⟨[239, 187, 191].toArray⟩ = true := begins_yes (by simp) (by simp)
    unfold markedP
    rw [if_neg (by rw [show (#[0, 0, 254, 255] : Array UInt8) = [0, 0, 254, 255].toArray from rfl, no 0 _ (by decide)]; simp),
      if_neg (by rw [show (#[255, 254, 0, 0] : Array UInt8) = [255, 254, 0, 0].toArray from rfl, no 255 _ (by decide)]; simp),
      if_neg (by rw [show (#[254, 255] : Array UInt8) = [254, 255].toArray from rfl, no 254 _ (by decide)]; simp),
      if_neg (by rw [show (#[255, 254] : Array UInt8) = [255, 254].toArray from rfl, no 255 _ (by decide)]; simp), if_pos yes]
  unfold formP
  rw [hm]
  rfl

theorem pts_enc (l : List Int) (h : l.length ≤ 1000) : ptsOf (239 :: 187 :: 191 :: encU l) = (l.map fixP, 0) := by
  have hn := encZ_len l
  have hl : (encU l).length = (encZ l).length := by unfold encU; simp
  unfold ptsOf
  rw [if_neg (by simp; omega), form_bom]
  show (if rightP 1 (encU l) then (ptsP 1 (encU l), (0 : Int)) else ([], 4)) = _
  unfold rightP ptsP
  rw [seq_enc, if_pos (by simp)]
  simp
end Go.Proofs.YtdkodepeglpimaaDoor
