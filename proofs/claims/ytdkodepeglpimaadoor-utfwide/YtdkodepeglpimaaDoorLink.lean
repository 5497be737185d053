/- By twos and by fours of bytes the code and the document tell the same: plain lists. -/
import Derived.Test.YtdkodepeglpimaaDoorPairs
set_option linter.unusedVariables false
set_option linter.unusedSimpArgs false
namespace Go.Proofs.YtdkodepeglpimaaDoor

theorem fp2 (l : List UInt8) : firstP 2 l = f16 true l := by unfold firstP; rw [if_pos rfl]
theorem fp3 (l : List UInt8) : firstP 3 l = f16 false l := by unfold firstP; rw [if_neg (by decide), if_pos rfl]
theorem fp4 (l : List UInt8) : firstP 4 l = f32 true l := by unfold firstP; rw [if_neg (by decide), if_neg (by decide), if_pos rfl]
theorem fp5 (l : List UInt8) : firstP 5 l = f32 false l := by unfold firstP; rw [if_neg (by decide), if_neg (by decide), if_neg (by decide), if_pos rfl]

def unitsL (g : Bool) : List UInt8 → List Int
  | x0 :: x1 :: t => (u16 g x0.toNat x1.toNat : Int) :: unitsL g t
  | _ => []
def unitsQ (g : Bool) : List UInt8 → List Int
  | x0 :: x1 :: x2 :: x3 :: t => (u32 g x0.toNat x1.toNat x2.toNat x3.toNat : Int) :: unitsQ g t
  | _ => []

theorem bt_cons (x : UInt8) (t : List UInt8) (j : Nat) : bt (x :: t) (j + 1) = bt t j := by unfold bt; simp
theorem bt_zero (x : UInt8) (t : List UInt8) : bt (x :: t) 0 = x.toNat := rfl

theorem units2_cons (g : Bool) (x0 x1 : UInt8) (t : List UInt8) (k : Nat) : units2 g (x0 :: x1 :: t) (k + 1) = (u16 g x0.toNat x1.toNat : Int) :: units2 g t k := by
  unfold units2
  rw [List.range_succ_eq_map, List.map_cons, List.map_map]
  congr 1
theorem units2_all (g : Bool) : ∀ l : List UInt8, units2 g l (l.length / 2) = unitsL g l
  | [] => rfl
  | [x] => by simp [units2, unitsL]
  | x0 :: x1 :: t => by
    have e : (x0 :: x1 :: t).length / 2 = t.length / 2 + 1 := by simp only [List.length_cons]; omega
    rw [e, units2_cons, units2_all g t]
    rfl
theorem units4_cons (g : Bool) (x0 x1 x2 x3 : UInt8) (t : List UInt8) (k : Nat) : units4 g (x0 :: x1 :: x2 :: x3 :: t) (k + 1) = (u32 g x0.toNat x1.toNat x2.toNat x3.toNat : Int) :: units4 g t k := by
  unfold units4
  rw [List.range_succ_eq_map, List.map_cons, List.map_map]
  congr 1
theorem units4_all (g : Bool) : ∀ l : List UInt8, units4 g l (l.length / 4) = unitsQ g l
  | [] => rfl
  | [x] => by simp [units4, unitsQ]
  | [x, y] => by simp [units4, unitsQ]
  | [x, y, z] => by simp [units4, unitsQ]
  | x0 :: x1 :: x2 :: x3 :: t => by
    have e : (x0 :: x1 :: x2 :: x3 :: t).length / 4 = t.length / 4 + 1 := by simp only [List.length_cons]; omega
    rw [e, units4_cons, units4_all g t]
    rfl

theorem iAt_cons (x : Int) (t : List Int) (j : Nat) : iAt (x :: t) (j + 1) = iAt t j := by unfold iAt; simp
theorem unitsL_bound (g : Bool) : ∀ (l : List UInt8) (j : Nat), 0 ≤ iAt (unitsL g l) j ∧ iAt (unitsL g l) j < 65536
  | [], j => by unfold unitsL iAt; simp
  | [x], j => by unfold unitsL iAt; simp
  | x0 :: x1 :: t, 0 => by
    have := u16_lt g _ _ x0.toNat_lt x1.toNat_lt
    unfold unitsL iAt
    simp
    omega
  | x0 :: x1 :: t, j + 1 => by
    unfold unitsL
    rw [iAt_cons]
    exact unitsL_bound g t j

/-- All is right, and the points are these. -/
def Told (f : Int) (bs : List UInt8) (r : Bool) (ps : List Int) : Prop := rightP f bs = r ∧ (r = true → ptsP f bs = ps)

theorem told_cons (f : Int) (bs : List UInt8) (p : Int) (s : Nat) (r : Bool) (ps : List Int) (h : seqS f 0 bs = (p, true) :: seqS f 0 (bs.drop s)) (ht : Told f (bs.drop s) r ps) : Told f bs r (p :: ps) := by
  unfold Told rightP ptsP at *
  rw [h]
  refine ⟨by simpa using ht.1, fun hr => ?_⟩
  rw [List.map_cons, ht.2 hr]
theorem told_bad (f : Int) (bs : List UInt8) (ps : List Int) (hl : 0 < bs.length) (h : (firstP f bs).2 = 0) : Told f bs false ps := by
  unfold Told rightP
  rw [seqS_bad f bs hl h]
  exact ⟨rfl, fun h => by cases h⟩

theorem half_iff (u : Int) : half u = true ↔ 55296 ≤ u ∧ u ≤ 57343 := by unfold half; simp
theorem half_niff (u : Int) : half u = false ↔ u < 55296 ∨ 57343 < u := by unfold half; simp; omega

theorem rightU_cons (us : List Int) (p : Int) (s : Nat) (hl : 0 < us.length) (hs : s ≠ 0) (h : firstU us = (p, s)) : rightU us = rightU (us.drop s) ∧ (seqU 0 us).map (·.1) = p :: (seqU 0 (us.drop s)).map (·.1) := by
  have := seqU_good us hl (by rw [h]; exact hs)
  rw [h] at this
  unfold rightU
  rw [this]
  simp
theorem rightU_bad (us : List Int) (hl : 0 < us.length) (h : (firstU us).2 = 0) : rightU us = false := by
  unfold rightU
  rw [seqU_bad us hl h]
  rfl

theorem link16 (f : Int) (g : Bool) (hf : ∀ l, firstP f l = f16 g l) (n : Nat) : ∀ bs : List UInt8, bs.length ≤ n → Told f bs (decide (bs.length % 2 = 0) && rightU (unitsL g bs)) ((seqU 0 (unitsL g bs)).map (·.1)) := by
  induction n with
  | zero =>
    intro bs hb
    obtain rfl : bs = [] := List.eq_nil_of_length_eq_zero (by omega)
    exact ⟨rfl, fun _ => rfl⟩
  | succ n ih =>
    intro bs hb
    match bs, hb with
    | [], _ => exact ⟨rfl, fun _ => rfl⟩
    | [x], _ =>
      exact told_bad f [x] _ (by simp) (by rw [hf]; rfl)
    | x0 :: x1 :: t, hb =>
      have hu := u16_lt g _ _ x0.toNat_lt x1.toNat_lt
      obtain ⟨u, hU⟩ : ∃ u : Int, (u16 g x0.toNat x1.toNat : Int) = u := ⟨_, rfl⟩
      have hL : unitsL g (x0 :: x1 :: t) = u :: unitsL g t := by rw [unitsL, hU]
      have hlen : (x0 :: x1 :: t).length = t.length + 2 := rfl
      have hmod : decide ((x0 :: x1 :: t).length % 2 = 0) = decide (t.length % 2 = 0) := by rw [hlen]; congr 1; simp
      obtain ⟨v, hV⟩ : ∃ v : Int, (u16 g (bt (x0 :: x1 :: t) 2) (bt (x0 :: x1 :: t) 3) : Int) = v := ⟨_, rfl⟩
      have h16 : f16 g (x0 :: x1 :: t) = g16 (t.length + 2) u v := by unfold f16; rw [if_neg (by simp), hV, bt_zero, show bt (x0 :: x1 :: t) 1 = x1.toNat from rfl, hU]; rfl
      have hu0 : 0 ≤ u := by omega
      have hu1 : u < 65536 := by omega
      rw [hmod, hL]
      by_cases hh : half u = false
      · have hg : g16 (t.length + 2) u v = (u, 2) := by unfold g16; rw [if_pos hh]
        have hfp : firstP f (x0 :: x1 :: t) = (u, 2) := by rw [hf, h16, hg]
        have hs : seqS f 0 (x0 :: x1 :: t) = (u, true) :: seqS f 0 ((x0 :: x1 :: t).drop 2) := by
          have := seqS_good f (x0 :: x1 :: t) (by simp) (by rw [hfp]; simp) (by rw [hfp]; simp)
          rw [hfp] at this
          exact this
        have hok : okP u = true := by
          rcases (half_niff u).1 hh with h | h
          · exact okP_lo u hu0 h
          · exact okP_hi u h (by omega)
        have hfu : firstU (u :: unitsL g t) = (u, 1) := by
          have := (half_niff u).1 hh
          unfold firstU
          rw [show iAt (u :: unitsL g t) 0 = u from rfl, if_neg (by omega), if_pos hok]
        obtain ⟨e1, e2⟩ := rightU_cons (u :: unitsL g t) u 1 (by simp) (by decide) hfu
        rw [e1, e2]
        exact told_cons f _ u 2 _ _ hs (ih t (by simp at hb; omega))
      · have hh1 : 55296 ≤ u ∧ u ≤ 57343 := (half_iff u).1 (by simpa using hh)
        have hok := okP_mid u hh1.1 hh1.2
        by_cases h3 : 56320 ≤ u ∨ t.length + 2 < 4
        · have hg : g16 (t.length + 2) u v = (0, 0) := by unfold g16; rw [if_neg hh, if_pos h3]
          have hfu : (firstU (u :: unitsL g t)).2 = 0 := by
            unfold firstU
            rw [show iAt (u :: unitsL g t) 0 = u from rfl, if_neg ?_, if_neg (by simp [hok])]
            rintro ⟨h1, h2, -⟩
            rcases h3 with h | h
            · omega
            · rcases t with _ | ⟨x2, _ | ⟨x3, t'⟩⟩
              · simp [unitsL] at h2
              · simp [unitsL] at h2
              · simp at h; omega
          rw [rightU_bad _ (by simp) hfu, Bool.and_false]
          exact told_bad f _ _ (by simp) (by rw [hf, h16, hg])
        · rcases t with _ | ⟨x2, _ | ⟨x3, t'⟩⟩
          · simp at h3
          · simp at h3
          · have hV' : (u16 g x2.toNat x3.toNat : Int) = v := hV
            have hL2 : unitsL g (x2 :: x3 :: t') = v :: unitsL g t' := by rw [unitsL, hV']
            rw [hL2]
            by_cases h4 : v < 56320 ∨ 57343 < v
            · have hg : g16 ((x2 :: x3 :: t').length + 2) u v = (0, 0) := by unfold g16; rw [if_neg hh, if_neg h3, if_pos h4]
              have hfu : (firstU (u :: v :: unitsL g t')).2 = 0 := by
                unfold firstU
                rw [show iAt (u :: v :: unitsL g t') 0 = u from rfl, show iAt (u :: v :: unitsL g t') 1 = v from rfl, if_neg (by omega), if_neg (by simp [hok])]
              rw [rightU_bad _ (by simp) hfu, Bool.and_false]
              exact told_bad f _ _ (by simp) (by rw [hf, h16, hg])
            · have hg : g16 ((x2 :: x3 :: t').length + 2) u v = (65536 + (u - 55296) * 1024 + (v - 56320), 4) := by unfold g16; rw [if_neg hh, if_neg h3, if_neg h4]
              have hfp : firstP f (x0 :: x1 :: x2 :: x3 :: t') = (65536 + (u - 55296) * 1024 + (v - 56320), 4) := by rw [hf, h16, hg]
              have hs : seqS f 0 (x0 :: x1 :: x2 :: x3 :: t') = (65536 + (u - 55296) * 1024 + (v - 56320), true) :: seqS f 0 ((x0 :: x1 :: x2 :: x3 :: t').drop 4) := by
                have := seqS_good f (x0 :: x1 :: x2 :: x3 :: t') (by simp) (by rw [hfp]; simp) (by rw [hfp]; simp)
                rw [hfp] at this
                exact this
              have hfu : firstU (u :: v :: unitsL g t') = (65536 + (u - 55296) * 1024 + (v - 56320), 2) := by
                unfold firstU
                rw [show iAt (u :: v :: unitsL g t') 0 = u from rfl, show iAt (u :: v :: unitsL g t') 1 = v from rfl, if_pos ⟨⟨by omega, by omega⟩, by simp, by omega, by omega⟩]
                congr 1
                omega
              obtain ⟨e1, e2⟩ := rightU_cons (u :: v :: unitsL g t') _ 2 (by simp) (by decide) hfu
              rw [e1, e2, show decide ((x2 :: x3 :: t').length % 2 = 0) = decide (t'.length % 2 = 0) from by rw [show (x2 :: x3 :: t').length = t'.length + 2 from rfl]; congr 1; simp]
              exact told_cons f _ _ 4 _ _ hs (ih t' (by simp at hb; omega))

theorem link32 (f : Int) (g : Bool) (hf : ∀ l, firstP f l = f32 g l) (n : Nat) : ∀ bs : List UInt8, bs.length ≤ n → Told f bs (decide (bs.length % 4 = 0) && (unitsQ g bs).all okP) (unitsQ g bs) := by
  induction n with
  | zero =>
    intro bs hb
    obtain rfl : bs = [] := List.eq_nil_of_length_eq_zero (by omega)
    exact ⟨rfl, fun _ => rfl⟩
  | succ n ih =>
    intro bs hb
    match bs, hb with
    | [], _ => exact ⟨rfl, fun _ => rfl⟩
    | [x], _ => exact told_bad f _ _ (by simp) (by rw [hf]; rfl)
    | [x, y], _ => exact told_bad f _ _ (by simp) (by rw [hf]; rfl)
    | [x, y, z], _ => exact told_bad f _ _ (by simp) (by rw [hf]; rfl)
    | x0 :: x1 :: x2 :: x3 :: t, hb =>
      have hu := u32_lt g _ _ _ _ x0.toNat_lt x1.toNat_lt x2.toNat_lt x3.toNat_lt
      obtain ⟨u, hU⟩ : ∃ u : Int, (u32 g x0.toNat x1.toNat x2.toNat x3.toNat : Int) = u := ⟨_, rfl⟩
      have hL : unitsQ g (x0 :: x1 :: x2 :: x3 :: t) = u :: unitsQ g t := by rw [unitsQ, hU]
      have hmod : decide ((x0 :: x1 :: x2 :: x3 :: t).length % 4 = 0) = decide (t.length % 4 = 0) := by rw [show (x0 :: x1 :: x2 :: x3 :: t).length = t.length + 4 from rfl]; congr 1; simp
      have h32 : f32 g (x0 :: x1 :: x2 :: x3 :: t) = g32 u := by
        unfold f32
        rw [if_neg (by simp), ← hU]
        rfl
      rw [hmod, hL, List.all_cons]
      by_cases hc : 1114111 < u ∨ half u = true
      · have hg : g32 u = (0, 0) := by unfold g32; rw [if_pos hc]
        have hok : okP u = false := by
          rcases hc with h | h
          · unfold okP; simp; omega
          · exact okP_mid u ((half_iff u).1 h).1 ((half_iff u).1 h).2
        rw [hok, Bool.false_and, Bool.and_false]
        exact told_bad f _ _ (by simp) (by rw [hf, h32, hg])
      · have hg : g32 u = (u, 4) := by unfold g32; rw [if_neg hc]
        have hok : okP u = true := by
          have h1 : ¬ 1114111 < u := fun h => hc (.inl h)
          have h2 := (half_niff u).1 (by simpa using fun h => hc (.inr h))
          unfold okP; simp; omega
        have hfp : firstP f (x0 :: x1 :: x2 :: x3 :: t) = (u, 4) := by rw [hf, h32, hg]
        have hs : seqS f 0 (x0 :: x1 :: x2 :: x3 :: t) = (u, true) :: seqS f 0 ((x0 :: x1 :: x2 :: x3 :: t).drop 4) := by
          have := seqS_good f (x0 :: x1 :: x2 :: x3 :: t) (by simp) (by rw [hfp]; simp) (by rw [hfp]; simp)
          rw [hfp] at this
          exact this
        rw [hok, Bool.true_and]
        exact told_cons f _ u 4 _ _ hs (ih t (by simp at hb; omega))
end Go.Proofs.YtdkodepeglpimaaDoor
