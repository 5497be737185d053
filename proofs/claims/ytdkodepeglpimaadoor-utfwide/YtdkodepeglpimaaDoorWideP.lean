/- What is written by twos or fours of bytes, with the mark ahead, is read as it was: plain lists. -/
import Derived.Test.YtdkodepeglpimaaDoorWideA
import Derived.Test.YtdkodepeglpimaaDoorLink
set_option linter.unusedVariables false
set_option linter.unusedSimpArgs false
namespace Go.Proofs.YtdkodepeglpimaaDoor

def two (great : Bool) (u : Int) : List Int := if great = true then [u / 256 % 256, u % 256] else [u % 256, u / 256 % 256]
def encW (four great : Bool) (c : Int) : List Int :=
  if four = true then (if great = true then [c / 16777216 % 256, c / 65536 % 256, c / 256 % 256, c % 256] else [c % 256, c / 256 % 256, c / 65536 % 256, c / 16777216 % 256])
  else if c ≤ 65535 then two great c
  else two great (55296 + (c - 65536) / 1024) ++ two great (56320 + (c - 65536) % 1024)
def formW (four great : Bool) : Int := if four = true then (if great = true then 4 else 5) else (if great = true then 2 else 3)

theorem two_byte {great : Bool} {u z : Int} (h : z ∈ two great u) : 0 ≤ z ∧ z < 256 := by
  unfold two at h
  split at h <;> simp at h <;> omega
theorem encW_byte {four great : Bool} {c z : Int} (h : z ∈ encW four great c) : 0 ≤ z ∧ z < 256 := by
  unfold encW at h
  repeat' split at h
  · simp at h; omega
  · simp at h; omega
  · exact two_byte h
  · rcases List.mem_append.1 h with h | h
    · exact two_byte h
    · exact two_byte h
theorem encsW_byte (four great : Bool) (l : List Int) : ∀ z, z ∈ l.flatMap (encW four great) → 0 ≤ z ∧ z < 256 := fun z hz => by
  obtain ⟨c, -, h⟩ := List.mem_flatMap.1 hz
  exact encW_byte h
theorem two_len (great : Bool) (u : Int) : (two great u).length = 2 := by unfold two; split <;> rfl
theorem encW_len (four great : Bool) (c : Int) : 2 ≤ (encW four great c).length ∧ (encW four great c).length ≤ 4 := by
  unfold encW
  repeat' split
  all_goals simp [two_len]
theorem encsW_len (four great : Bool) (l : List Int) : (l.flatMap (encW four great)).length ≤ 4 * l.length := by
  induction l with
  | nil => simp
  | cons c t ih =>
    have := encW_len four great c
    rw [List.flatMap_cons, List.length_append, List.length_cons]
    omega

theorem g16_one (n : Nat) (u v c : Int) (h : u = c) (ho : c < 55296 ∨ 57343 < c) : g16 n u v = (c, 2) := by
  subst h
  unfold g16
  rw [if_pos ((half_niff u).2 ho)]
theorem g16_two (n : Nat) (u v c : Int) (hn : 4 ≤ n) (h1 : 65536 ≤ c) (h2 : c ≤ 1114111) (hu : u = 55296 + (c - 65536) / 1024) (hv : v = 56320 + (c - 65536) % 1024) : g16 n u v = (c, 4) := by
  unfold g16
  rw [if_neg (by rw [half_niff]; omega), if_neg (by omega), if_neg (by omega)]
  congr 1
  omega
theorem g32_one (u c : Int) (h : u = c) (h1 : c ≤ 1114111) (ho : c < 55296 ∨ 57343 < c) : g32 u = (c, 4) := by
  subst h
  unfold g32
  rw [if_neg (by rw [half_iff]; omega)]

theorem firstP_w (four great : Bool) (l : List UInt8) : firstP (formW four great) l = if four = true then f32 great l else f16 great l := by
  cases four <;> cases great <;> simp [formW, firstP]

theorem bt_lit (z : Int) (t : List UInt8) (h : 0 ≤ z ∧ z < 256) : (bt (toB z :: t) 0 : Int) = z := toB_toNat z h.1 h.2
theorem bt_tail (x : UInt8) (t : List UInt8) (j : Nat) : bt (x :: t) (j + 1) = bt t j := rfl

theorem first_w (four great : Bool) (c : Int) (t : List UInt8) (ho : okP c = true) : firstP (formW four great) ((encW four great c).map toB ++ t) = (c, ((encW four great c).length : Int)) := by
  obtain ⟨a0, a1, a2⟩ := okP_range ho
  rw [firstP_w]
  cases four
  · rw [if_neg (by decide)]
    unfold f16
    rw [if_neg (by have := (encW_len false great c).1; rw [List.length_append, List.length_map]; omega)]
    by_cases h : c ≤ 65535
    · have e : encW false great c = two great c := by unfold encW; rw [if_neg (by decide), if_pos h]
      rw [e, two_len]
      refine g16_one _ _ _ c ?_ a2
      cases great
      · show ((u16 false (bt (toB (c % 256) :: toB (c / 256 % 256) :: t) 0) (bt (toB (c % 256) :: toB (c / 256 % 256) :: t) 1) : Nat) : Int) = c
        rw [bt_tail]
        have b0 := bt_lit (c % 256) (toB (c / 256 % 256) :: t) (by omega)
        have b1 := bt_lit (c / 256 % 256) t (by omega)
        generalize bt (toB (c % 256) :: toB (c / 256 % 256) :: t) 0 = x0 at *
        generalize bt (toB (c / 256 % 256) :: t) 0 = x1 at *
        simp only [u16]
        rw [if_neg (by decide)]
        omega
      · show ((u16 true (bt (toB (c / 256 % 256) :: toB (c % 256) :: t) 0) (bt (toB (c / 256 % 256) :: toB (c % 256) :: t) 1) : Nat) : Int) = c
        rw [bt_tail]
        have b0 := bt_lit (c / 256 % 256) (toB (c % 256) :: t) (by omega)
        have b1 := bt_lit (c % 256) t (by omega)
        generalize bt (toB (c / 256 % 256) :: toB (c % 256) :: t) 0 = x0 at *
        generalize bt (toB (c % 256) :: t) 0 = x1 at *
        simp only [u16]
        rw [if_pos trivial]
        omega
    · have e : encW false great c = two great (55296 + (c - 65536) / 1024) ++ two great (56320 + (c - 65536) % 1024) := by unfold encW; rw [if_neg (by decide), if_neg h]
      rw [e, show ((two great (55296 + (c - 65536) / 1024) ++ two great (56320 + (c - 65536) % 1024)).length : Int) = 4 by rw [List.length_append, two_len, two_len]; rfl]
      obtain ⟨u, hu⟩ : ∃ u, 55296 + (c - 65536) / 1024 = u := ⟨_, rfl⟩
      obtain ⟨v, hv⟩ : ∃ v, 56320 + (c - 65536) % 1024 = v := ⟨_, rfl⟩
      rw [hu, hv]
      refine g16_two _ _ _ c (by simp [two_len]; omega) (by omega) a1 ?_ ?_
      · rw [hu]
        have hr : 0 ≤ u ∧ u < 65536 := by omega
        clear hu
        cases great
        · show ((u16 false (bt (toB (u % 256) :: toB (u / 256 % 256) :: ((two false v).map toB ++ t)) 0) (bt (toB (u % 256) :: toB (u / 256 % 256) :: ((two false v).map toB ++ t)) 1) : Nat) : Int) = u
          rw [bt_tail]
          have b0 := bt_lit (u % 256) (toB (u / 256 % 256) :: ((two false v).map toB ++ t)) (by omega)
          have b1 := bt_lit (u / 256 % 256) ((two false v).map toB ++ t) (by omega)
          generalize bt (toB (u % 256) :: toB (u / 256 % 256) :: _) 0 = x0 at *
          generalize bt (toB (u / 256 % 256) :: _) 0 = x1 at *
          simp only [u16]
          rw [if_neg (by decide)]
          omega
        · show ((u16 true (bt (toB (u / 256 % 256) :: toB (u % 256) :: ((two true v).map toB ++ t)) 0) (bt (toB (u / 256 % 256) :: toB (u % 256) :: ((two true v).map toB ++ t)) 1) : Nat) : Int) = u
          rw [bt_tail]
          have b0 := bt_lit (u / 256 % 256) (toB (u % 256) :: ((two true v).map toB ++ t)) (by omega)
          have b1 := bt_lit (u % 256) ((two true v).map toB ++ t) (by omega)
          generalize bt (toB (u / 256 % 256) :: toB (u % 256) :: _) 0 = x0 at *
          generalize bt (toB (u % 256) :: _) 0 = x1 at *
          simp only [u16]
          rw [if_pos trivial]
          omega
      · rw [hv]
        have hr : 0 ≤ v ∧ v < 65536 := by omega
        clear hu hv
        cases great
        · show ((u16 false (bt (toB (v % 256) :: toB (v / 256 % 256) :: t) 0) (bt (toB (v / 256 % 256) :: t) 0) : Nat) : Int) = v
          have b0 := bt_lit (v % 256) (toB (v / 256 % 256) :: t) (by omega)
          have b1 := bt_lit (v / 256 % 256) t (by omega)
          generalize bt (toB (v % 256) :: toB (v / 256 % 256) :: t) 0 = x0 at *
          generalize bt (toB (v / 256 % 256) :: t) 0 = x1 at *
          simp only [u16]
          rw [if_neg (by decide)]
          omega
        · show ((u16 true (bt (toB (v / 256 % 256) :: toB (v % 256) :: t) 0) (bt (toB (v % 256) :: t) 0) : Nat) : Int) = v
          have b0 := bt_lit (v / 256 % 256) (toB (v % 256) :: t) (by omega)
          have b1 := bt_lit (v % 256) t (by omega)
          generalize bt (toB (v / 256 % 256) :: toB (v % 256) :: t) 0 = x0 at *
          generalize bt (toB (v % 256) :: t) 0 = x1 at *
          simp only [u16]
          rw [if_pos trivial]
          omega
  · rw [if_pos rfl]
    cases great
    · have e : encW true false c = [c % 256, c / 256 % 256, c / 65536 % 256, c / 16777216 % 256] := rfl
      rw [e]
      unfold f32
      rw [if_neg (by simp)]
      refine g32_one _ c ?_ a1 a2
      show ((u32 false (bt (toB (c % 256) :: toB (c / 256 % 256) :: toB (c / 65536 % 256) :: toB (c / 16777216 % 256) :: t) 0) (bt (toB (c / 256 % 256) :: toB (c / 65536 % 256) :: toB (c / 16777216 % 256) :: t) 0) (bt (toB (c / 65536 % 256) :: toB (c / 16777216 % 256) :: t) 0) (bt (toB (c / 16777216 % 256) :: t) 0) : Nat) : Int) = c
      have b0 := bt_lit (c % 256) (toB (c / 256 % 256) :: toB (c / 65536 % 256) :: toB (c / 16777216 % 256) :: t) (by omega)
      have b1 := bt_lit (c / 256 % 256) (toB (c / 65536 % 256) :: toB (c / 16777216 % 256) :: t) (by omega)
      have b2 := bt_lit (c / 65536 % 256) (toB (c / 16777216 % 256) :: t) (by omega)
      have b3 := bt_lit (c / 16777216 % 256) t (by omega)
      generalize bt (toB (c % 256) :: _) 0 = x0 at *
      generalize bt (toB (c / 256 % 256) :: _) 0 = x1 at *
      generalize bt (toB (c / 65536 % 256) :: _) 0 = x2 at *
      generalize bt (toB (c / 16777216 % 256) :: _) 0 = x3 at *
      simp only [u32]
      rw [if_neg (by decide)]
      omega
    · have e : encW true true c = [c / 16777216 % 256, c / 65536 % 256, c / 256 % 256, c % 256] := rfl
      rw [e]
      unfold f32
      rw [if_neg (by simp)]
      refine g32_one _ c ?_ a1 a2
      show ((u32 true (bt (toB (c / 16777216 % 256) :: toB (c / 65536 % 256) :: toB (c / 256 % 256) :: toB (c % 256) :: t) 0) (bt (toB (c / 65536 % 256) :: toB (c / 256 % 256) :: toB (c % 256) :: t) 0) (bt (toB (c / 256 % 256) :: toB (c % 256) :: t) 0) (bt (toB (c % 256) :: t) 0) : Nat) : Int) = c
      have b0 := bt_lit (c / 16777216 % 256) (toB (c / 65536 % 256) :: toB (c / 256 % 256) :: toB (c % 256) :: t) (by omega)
      have b1 := bt_lit (c / 65536 % 256) (toB (c / 256 % 256) :: toB (c % 256) :: t) (by omega)
      have b2 := bt_lit (c / 256 % 256) (toB (c % 256) :: t) (by omega)
      have b3 := bt_lit (c % 256) t (by omega)
      generalize bt (toB (c / 16777216 % 256) :: _) 0 = x0 at *
      generalize bt (toB (c / 65536 % 256) :: _) 0 = x1 at *
      generalize bt (toB (c / 256 % 256) :: _) 0 = x2 at *
      generalize bt (toB (c % 256) :: _) 0 = x3 at *
      simp only [u32]
      rw [if_pos trivial]
      omega

theorem seq_w (four great : Bool) (l : List Int) (h : ∀ c, c ∈ l → okP c = true) : seqS (formW four great) 0 ((l.flatMap (encW four great)).map toB) = l.map fun c => (c, true) := by
  induction l with
  | nil => rfl
  | cons c t ih =>
    have hf := first_w four great c ((t.flatMap (encW four great)).map toB) (h c (by simp))
    have hp := (encW_len four great c).1
    rw [List.flatMap_cons, List.map_append, seqS_good _ _ (by rw [List.length_append, List.length_map]; omega) (by rw [hf]; show ((encW four great c).length : Int) ≠ 0; omega) (by rw [hf]; simp), hf]
    simp only [List.map_cons, Int.toNat_natCast]
    rw [List.drop_left' (by simp), ih (fun c hc => h c (by simp [hc]))]

theorem begins_head (a x : UInt8) (t m : List UInt8) (ha : a ≠ x) : beginsB (x :: t) ⟨(a :: m).toArray⟩ = false := by
  refine begins_no 0 (by simp) (by simp) ?_
  unfold byteAt
  intro h
  have h2 : (x.toNat : Int) = (a.toNat : Int) := by simpa using h
  have h' : x.toNat = a.toNat := by omega
  exact ha (UInt8.toNat_inj.1 h').symm

theorem form_w (four great : Bool) (t : List UInt8) (h : four = false → great = false → t.length = 0 ∨ (2 ≤ t.length ∧ ¬ (bt t 0 = 0 ∧ bt t 1 = 0))) :
    formP ((encW four great 65279).map toB ++ t) = (formW four great, ((encW four great 65279).length : Int)) := by
  have hm : markedP ((encW four great 65279).map toB ++ t) = (formW four great, ((encW four great 65279).length : Int)) := by
    cases four <;> cases great
    · show markedP (255 :: 254 :: t) = (3, 2)
      have no : beginsB (255 :: 254 :: t) ⟨[255, 254, 0, 0].toArray⟩ = false := by
        rcases h rfl rfl with h0 | ⟨h0, hz⟩
        · exact begins_short (by simp [h0])
        · by_cases hz0 : bt t 0 = 0
          · refine begins_no 3 (by simp; omega) (by simp) ?_
            show ¬ ((bt t 1 : Nat) : Int) = 0
            omega
          · refine begins_no 2 (by simp; omega) (by simp) ?_
            show ¬ ((bt t 0 : Nat) : Int) = 0
            omega
      unfold markedP
      rw [if_neg (by rw [show (#[0, 0, 254, 255] : Array UInt8) = [0, 0, 254, 255].toArray from rfl, begins_head 0 255 _ _ (by decide)]; simp),
        if_neg (by rw [show (#[255, 254, 0, 0] : Array UInt8) = [255, 254, 0, 0].toArray from rfl, no]; simp),
        if_neg (by rw [show (#[254, 255] : Array UInt8) = [254, 255].toArray from rfl, begins_head 254 255 _ _ (by decide)]; simp),
        if_pos (begins_yes (m := [255, 254]) (by simp) (by simp))]
    · show markedP (254 :: 255 :: t) = (2, 2)
      unfold markedP
      rw [if_neg (by rw [show (#[0, 0, 254, 255] : Array UInt8) = [0, 0, 254, 255].toArray from rfl, begins_head 0 254 _ _ (by decide)]; simp),
        if_neg (by rw [show (#[255, 254, 0, 0] : Array UInt8) = [255, 254, 0, 0].toArray from rfl, begins_head 255 254 _ _ (by decide)]; simp),
        if_pos (begins_yes (m := [254, 255]) (by simp) (by simp))]
    · show markedP (255 :: 254 :: 0 :: 0 :: t) = (5, 4)
      unfold markedP
      rw [if_neg (by rw [show (#[0, 0, 254, 255] : Array UInt8) = [0, 0, 254, 255].toArray from rfl, begins_head 0 255 _ _ (by decide)]; simp),
        if_pos (begins_yes (m := [255, 254, 0, 0]) (by simp) (by simp))]
    · show markedP (0 :: 0 :: 254 :: 255 :: t) = (4, 4)
      unfold markedP
      rw [if_pos (begins_yes (m := [0, 0, 254, 255]) (by simp) (by simp))]
  unfold formP
  rw [hm, if_pos (by have := (encW_len four great 65279).1; show (0 : Int) < ((encW four great 65279).length : Int); omega)]

theorem pts_w (four great : Bool) (l : List Int) (hn : (l.length : Int) ≤ 300) (hok : ∀ j, j < l.length + 1 → badW (iAt (65279 :: l) j) j = false) :
    ptsOf (((65279 :: l).flatMap (encW four great)).map toB) = (l, 0) := by
  have hl := encsW_len four great (65279 :: l)
  rw [List.length_cons] at hl
  unfold ptsOf
  rw [if_neg (by rw [List.length_map]; omega), List.flatMap_cons, List.map_append, form_w]
  · simp only [Int.toNat_natCast]
    rw [List.drop_left' (by simp)]
    unfold rightP ptsP
    have hs := seq_w four great l (fun c hc => by
      obtain ⟨j, hj, rfl⟩ := List.mem_iff_getElem.1 hc
      have := (bad_out (hok (j + 1) (by omega))).1
      have e : iAt (65279 :: l) (j + 1) = l[j] := by unfold iAt; simp [hj]
      rwa [e] at this)
    rw [hs, if_pos (by simp), List.map_map]
    rw [show ((fun x : Int × Bool => x.fst) ∘ fun c : Int => (c, true)) = id from rfl, List.map_id]
  · rintro rfl rfl
    cases l with
    | nil => left; rfl
    | cons c t =>
      right
      have hb := bad_out (hok 1 (by simp))
      have e : iAt (65279 :: c :: t) 1 = c := rfl
      rw [e] at hb
      have hc : c ≠ 0 := by rcases hb.2 with h | h; exact h; exact absurd rfl h
      obtain ⟨a0, a1, a2⟩ := okP_range hb.1
      refine ⟨?_, ?_⟩
      · have := (encW_len false false c).1
        rw [List.flatMap_cons, List.length_map, List.length_append]; omega
      · rw [List.flatMap_cons, List.map_append]
        by_cases h : c ≤ 65535
        · have e : encW false false c = [c % 256, c / 256 % 256] := by unfold encW; rw [if_neg (by decide), if_pos h]; rfl
          rw [e]
          have b0 := bt_lit (c % 256) (toB (c / 256 % 256) :: ((t.flatMap (encW false false)).map toB)) (by omega)
          have b1 := bt_lit (c / 256 % 256) ((t.flatMap (encW false false)).map toB) (by omega)
          show ¬ (bt (toB (c % 256) :: toB (c / 256 % 256) :: ((t.flatMap (encW false false)).map toB)) 0 = 0 ∧ bt (toB (c / 256 % 256) :: ((t.flatMap (encW false false)).map toB)) 0 = 0)
          omega
        · obtain ⟨u, hu⟩ : ∃ u, 55296 + (c - 65536) / 1024 = u := ⟨_, rfl⟩
          obtain ⟨v, hv⟩ : ∃ v, two false (56320 + (c - 65536) % 1024) = v := ⟨_, rfl⟩
          have e : encW false false c = [u % 256, u / 256 % 256] ++ v := by unfold encW; rw [if_neg (by decide), if_neg h, hu, hv]; rfl
          rw [e]
          have hu1 : 55296 ≤ u ∧ u < 65536 := by omega
          have b1 := bt_lit (u / 256 % 256) (v.map toB ++ ((t.flatMap (encW false false)).map toB)) (by omega)
          show ¬ (bt (toB (u % 256) :: toB (u / 256 % 256) :: (v.map toB ++ ((t.flatMap (encW false false)).map toB))) 0 = 0 ∧ bt (toB (u / 256 % 256) :: (v.map toB ++ ((t.flatMap (encW false false)).map toB))) 0 = 0)
          omega
end Go.Proofs.YtdkodepeglpimaaDoor
