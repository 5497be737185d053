/- PropsVersions in plain terms: what Directive tells of a version's line. -/
import Derived.Test.YtgldejcneglpnaaDez
set_option linter.unusedVariables false
set_option linter.unusedSimpArgs false
namespace Go.Proofs.Ytgldejcneglpnaa
open Go

theorem cnt_app {P : Int → Bool} : ∀ {a : List Int} (b : List Int), (∀ x ∈ a, P x = true) → cnt P (a ++ b) = a.length + cnt P b := by
  intro a
  induction a with
  | nil => intro b h; simp
  | cons c a ih =>
    intro b h
    rw [List.cons_append, cnt_cons, if_pos (h c (by simp)), ih b (fun x hx => h x (by simp [hx]))]
    simp
    omega
theorem cnt_not {P : Int → Bool} {c : Int} (b : List Int) (h : P c = false) : cnt P (c :: b) = 0 := by rw [cnt_cons, if_neg (by rw [h]; simp)]
theorem drop_len {a b : List Int} {n : Nat} (h : n = a.length) : (a ++ b).drop n = b := by rw [h]; simp
/-- Bytes that are digits, one at least. -/
structure Dg (x : List UInt8) : Prop where
  pos : 0 < x.length
  dig : ∀ b ∈ x, 48 ≤ b.toNat ∧ b.toNat ≤ 57
  short : x.length ≤ 20
theorem Dg.digit {x : List UInt8} (h : Dg x) : ∀ c ∈ zs x, digitP c = true := by
  intro c hc
  unfold zs at hc
  obtain ⟨b, hb, rfl⟩ := List.mem_map.1 hc
  have := h.dig b hb
  exact decide_eq_true (by omega)
theorem Dg.head {x : List UInt8} (h : Dg x) : ∃ c r, zs x = c :: r ∧ digitP c = true := by
  have hp := h.pos
  have hd := h.digit
  cases hx : zs x with
  | nil => have := zs_len x; rw [hx] at this; simp at this; omega
  | cons c r => exact ⟨c, r, rfl, hd c (by rw [hx]; simp)⟩
theorem digit_name {c : Int} (h : digitP c = true) : nameP c = true := by
  have := of_decide_eq_true h
  rw [nameP_iff]
  unfold printP blankP flowP
  refine ⟨decide_eq_true (by omega), decide_eq_false (by omega), decide_eq_false (by omega), ?_⟩
  omega

def y4 : List Int := [89, 65, 77, 76]
/-- The line of a version. -/
def verT (k : Nat) (x z tl : List Int) : List Int := 37 :: (y4 ++ (List.replicate k 32 ++ (x ++ (46 :: (z ++ tl)))))

theorem ver_dir {k : Nat} {x z : List UInt8} {tl : List Int} (hk : 0 < k) (hx : Dg x) (hz : Dg z) (ht : ∀ c r, tl = c :: r → digitP c = false) :
    dirP (verT k (zs x) (zs z) tl) = if tailP tl = false then none else some (yamlB, txt (zs x), txt (zs z)) := by
  rw [dir_eq]
  have hT : verT k (zs x) (zs z) tl = 37 :: (y4 ++ (List.replicate k 32 ++ (zs x ++ (46 :: (zs z ++ tl))))) := rfl
  obtain ⟨kk, rfl⟩ : ∃ kk, k = kk + 1 := ⟨k - 1, by omega⟩
  have hN : dnN (verT (kk + 1) (zs x) (zs z) tl) = 5 := by
    unfold dnN
    rw [hT, List.drop_one, List.tail_cons, cnt_app _ (by decide), List.replicate_succ, List.cons_append, cnt_not _ (by decide)]
    rfl
  have hB : dnB (verT (kk + 1) (zs x) (zs z) tl) = yamlB := by
    unfold dnB
    rw [hN, hT, List.drop_one, List.tail_cons]
    have hq : List.take (5 - 1) (y4 ++ (List.replicate (kk + 1) (32 : Int) ++ (zs x ++ (46 :: (zs z ++ tl))))) = y4 := by simp [y4]
    rw [hq]
    decide +kernel
  have d5 : (verT (kk + 1) (zs x) (zs z) tl).drop 5 = List.replicate (kk + 1) 32 ++ (zs x ++ (46 :: (zs z ++ tl))) := by rw [hT]; rfl
  obtain ⟨c1, r1, e1, hc1⟩ := hx.head
  have hb5 : bE (verT (kk + 1) (zs x) (zs z) tl) 5 = 5 + (kk + 1) := by
    unfold bE
    rw [d5, cnt_app _ (fun x hx => by rw [List.eq_of_mem_replicate hx]; decide), e1, List.cons_append, cnt_not _ (digit_no _ hc1)]
    simp
  have hsp : ∀ n, (verT (kk + 1) (zs x) (zs z) tl).drop (5 + n) = ((verT (kk + 1) (zs x) (zs z) tl).drop 5).drop n := fun n => by rw [List.drop_drop]
  have d6 : (verT (kk + 1) (zs x) (zs z) tl).drop (5 + (kk + 1)) = zs x ++ (46 :: (zs z ++ tl)) := by rw [hsp, d5]; exact drop_len (by simp)
  have hd6 : dE (verT (kk + 1) (zs x) (zs z) tl) (5 + (kk + 1)) = 5 + (kk + 1) + x.length := by
    unfold dE
    rw [d6, cnt_app _ hx.digit, cnt_not _ (by decide), zs_len]
    rfl
  have d7 : (verT (kk + 1) (zs x) (zs z) tl).drop (5 + (kk + 1) + x.length) = 46 :: (zs z ++ tl) := by
    rw [← List.drop_drop, d6]
    exact drop_len (zs_len x).symm
  have i7 : iAt (verT (kk + 1) (zs x) (zs z) tl) (5 + (kk + 1) + x.length) = 46 := by
    have := iAt_drop (verT (kk + 1) (zs x) (zs z) tl) (5 + (kk + 1) + x.length) 0
    rw [d7] at this
    exact this.symm
  have l7 : ¬ (verT (kk + 1) (zs x) (zs z) tl).length ≤ 5 + (kk + 1) + x.length := fun h => by
    rw [List.drop_eq_nil_of_le h] at d7
    cases d7
  have d8 : (verT (kk + 1) (zs x) (zs z) tl).drop (5 + (kk + 1) + x.length + 1) = zs z ++ tl := by
    rw [← List.drop_drop, d7]
    rfl
  have hcz : cnt digitP tl = 0 := by
    cases tl with
    | nil => rfl
    | cons c r => exact cnt_not _ (ht c r rfl)
  have hd8 : dE (verT (kk + 1) (zs x) (zs z) tl) (5 + (kk + 1) + x.length + 1) = 5 + (kk + 1) + x.length + 1 + z.length := by
    unfold dE
    rw [d8, cnt_app _ hz.digit, hcz, zs_len]
    rfl
  have d9 : (verT (kk + 1) (zs x) (zs z) tl).drop (5 + (kk + 1) + x.length + 1 + z.length) = tl := by
    rw [← List.drop_drop, d8]
    exact drop_len (zs_len z).symm
  have hpx := hx.pos
  have hpz := hz.pos
  unfold rdirP
  rw [if_neg (fun h => by rcases h with h | h; rw [hT] at h; simp at h; exact h (by rw [hT]; rfl)), hN, hB, if_neg (by decide), if_pos rfl]
  unfold rverP
  rw [hb5, hd6, hd8, d9, d8, d6, i7]
  rw [if_neg (fun h => by rcases h with h | h | h | h; omega; omega; exact l7 h; exact h rfl)]
  have q1 : (zs x ++ 46 :: (zs z ++ tl)).take (5 + (kk + 1) + x.length - (5 + (kk + 1))) = zs x := by
    rw [show 5 + (kk + 1) + x.length - (5 + (kk + 1)) = (zs x).length by rw [zs_len]; omega]
    simp
  have q2 : (zs z ++ tl).take (5 + (kk + 1) + x.length + 1 + z.length - (5 + (kk + 1) + x.length + 1)) = zs z := by
    rw [show 5 + (kk + 1) + x.length + 1 + z.length - (5 + (kk + 1) + x.length + 1) = (zs z).length by rw [zs_len]; omega]
    simp
  rw [q1, q2]
  cases htv : tailP tl with
  | false => rw [if_pos (.inr rfl), if_pos rfl]
  | true => rw [if_neg (fun h => by rcases h with h | h; omega; cases h), if_neg (by simp)]

theorem enc_pos (c : Int) : 0 < (Lib.encodeRuneZ (fixP c)).length := by
  unfold Lib.encodeRuneZ
  repeat' split
  all_goals simp
theorem txt_size : ∀ t : List Int, t.length ≤ (encZ t).length := by
  intro t
  induction t with
  | nil => simp
  | cons c t ih =>
    have h1 : encZ (c :: t) = Lib.encodeRuneZ (fixP c) ++ encZ t := rfl
    have := enc_pos c
    rw [h1]
    simp
    omega
theorem txt_long {t : List Int} {l : List UInt8} (h : l.length < t.length) : txt t ≠ ⟨l.toArray⟩ := by
  intro e
  have e3 := congrArg (fun b : ByteArray => b.data.size) e
  have := txt_size t
  simp [txt, strB] at e3
  omega

/-- Without blanks it is another name. -/
theorem ver_none {x z : List UInt8} {tl : List Int} (hx : Dg x) (hz : Dg z) : dirP (verT 0 (zs x) (zs z) tl) = none ∨ ∃ s : ByteArray, s ≠ yamlB ∧ dirP (verT 0 (zs x) (zs z) tl) = some (s, ⟨#[]⟩, ⟨#[]⟩) := by
  rw [dir_eq]
  have hT : verT 0 (zs x) (zs z) tl = 37 :: (y4 ++ (zs x ++ (46 :: (zs z ++ tl)))) := rfl
  have hpx := hx.pos
  have hN : 6 ≤ dnN (verT 0 (zs x) (zs z) tl) := by
    unfold dnN
    rw [hT, List.drop_one, List.tail_cons, cnt_app _ (by decide), cnt_app _ (fun c hc => digit_name (hx.digit c hc)), zs_len]
    simp [y4]
    omega
  have hl : dnN (verT 0 (zs x) (zs z) tl) ≤ (verT 0 (zs x) (zs z) tl).length := dnN_le (by rw [hT]; simp)
  have hB1 : dnB (verT 0 (zs x) (zs z) tl) ≠ yamlB := by
    unfold dnB
    exact txt_long (l := [89, 65, 77, 76]) (by simp; omega)
  have hB2 : dnB (verT 0 (zs x) (zs z) tl) ≠ tagB := by
    unfold dnB
    exact txt_long (l := [84, 65, 71]) (by simp; omega)
  have hB0 : dnB (verT 0 (zs x) (zs z) tl) ≠ ⟨#[]⟩ := by
    unfold dnB
    exact txt_long (l := []) (by simp; omega)
  unfold rdirP
  rw [if_neg (fun h => by rcases h with h | h; rw [hT] at h; simp at h; exact h (by rw [hT]; rfl)), if_neg hB0, if_neg hB1, if_neg hB2]
  split
  · exact .inl rfl
  · exact .inr ⟨_, hB1, rfl⟩

/-- The text of ASCII is what it was. -/
theorem txt_ascii : ∀ l : List UInt8, (∀ b ∈ l, b.toNat < 128) → txt (zs l) = ⟨l.toArray⟩ := by
  intro l h
  have he : encZ (zs l) = zs l := by
    unfold encZ
    have : ∀ m : List Int, (∀ c ∈ m, 0 ≤ c ∧ c < 128) → m.flatMap (fun c => Lib.encodeRuneZ (fixP c)) = m := by
      intro m
      induction m with
      | nil => intro _; rfl
      | cons c m ih =>
        intro hm
        obtain ⟨a1, a2⟩ := hm c (by simp)
        have hf : fixP c = c := by
          unfold fixP okP
          rw [if_pos (by simp; omega)]
        rw [List.flatMap_cons, hf, Lib.encodeRuneZ_one a1 (by omega), ih (fun x hx => hm x (by simp [hx]))]
        rfl
    refine this _ (fun c hc => ?_)
    unfold zs at hc
    obtain ⟨b, hb, rfl⟩ := List.mem_map.1 hc
    have := h b hb
    omega
  unfold txt strB
  rw [he]
  congr 2
  unfold zs
  rw [List.map_map]
  have : ∀ b : UInt8, UInt8.ofNat ((b.toNat : Int).toNat) = b := fun b => by simp
  conv => rhs; rw [← List.map_id l]
  exact List.map_congr_left (fun b _ => this b)
end Go.Proofs.Ytgldejcneglpnaa
