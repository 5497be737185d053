/- Which texts are written, in plain terms; a tag that is told short is the same whole. -/
import Derived.Test.YtmeojnpehmhmoaaRsh
import Derived.Lib.IndexLaws
set_option linter.all false
set_option maxRecDepth 100000
namespace Go.Proofs.Ytmeojnpehmhmoaa
open Go.RowKit Go.Shelf Go.Lib

theorem tlD (s : ByteArray) : s.toList = s.data.toList := ByteArray.toList_eq s
theorem ba_eq {a b : ByteArray} (h : a.data.toList = b.data.toList) : a = b := by
  obtain ⟨⟨a⟩⟩ := a
  obtain ⟨⟨b⟩⟩ := b
  simp at h
  rw [h]
theorem dataA (a b : ByteArray) : (a ++ b).data.toList = a.data.toList ++ b.data.toList := by
  rw [ByteArray.data_append]
  simp
theorem exD (s : ByteArray) (a : Nat) : (s.extract a s.size).data.toList = s.data.toList.drop a := by
  rw [ByteArray.data_extract]
  simp
  rw [List.take_of_length_le (by simp)]
theorem exT (s : ByteArray) (k : Nat) : (s.extract 0 k).data.toList = s.data.toList.take k := by
  rw [ByteArray.data_extract]
  simp
theorem sizeD (s : ByteArray) : s.size = s.data.toList.length := by simp
theorem zsA (a b : List UInt8) : zs (a ++ b) = zs a ++ zs b := by simp [zs]
theorem zs_drop (a : List UInt8) (k : Nat) : zs (a.drop k) = (zs a).drop k := by simp [zs]
theorem zs_inj {a b : List UInt8} (h : zs a = zs b) : a = b := by
  unfold zs at h
  refine List.map_inj_right (fun x y hxy => ?_) |>.1 h
  exact UInt8.toNat_inj.1 (by omega)
theorem iAt_mem {t : List Int} {j : Nat} (h : j < t.length) : iAt t j ∈ t := by
  unfold iAt
  rw [List.getElem?_eq_getElem h]
  exact List.getElem_mem h
theorem mem_iAt {t : List Int} {x : Int} (h : x ∈ t) : ∃ j, j < t.length ∧ iAt t j = x := by
  obtain ⟨j, hj, e⟩ := List.mem_iff_getElem.1 h
  exact ⟨j, hj, by unfold iAt; rw [List.getElem?_eq_getElem hj, e]; rfl⟩
theorem txt_asc {t : List Int} (h : ∀ x ∈ t, 0 ≤ x ∧ x < 128) : (txt t).data.toList = t.map fun x => UInt8.ofNat x.toNat := by
  unfold txt strB
  have e : encZ t = t := by
    induction t with
    | nil => rfl
    | cons c t ih =>
      have hc := h c (List.mem_cons_self ..)
      have e1 : Lib.encodeRuneZ (fixP c) = [c] := by
        have : fixP c = c := by unfold fixP okP; rw [if_pos]; simp; omega
        rw [this]
        unfold Lib.encodeRuneZ
        rw [if_pos (by omega)]
      have e2 := ih (fun x hx => h x (List.mem_cons_of_mem _ hx))
      unfold encZ at e2 ⊢
      rw [List.flatMap_cons, e1, e2]
      rfl
  rw [e]
theorem zs_txt {t : List Int} (h : ∀ x ∈ t, 0 ≤ x ∧ x < 128) : zs (txt t).data.toList = t := by
  rw [txt_asc h]
  unfold zs
  rw [List.map_map]
  conv => rhs; rw [← List.map_id t]
  refine List.map_congr_left fun x hx => ?_
  have := h x hx
  simp
  omega
theorem txt_zs {s : ByteArray} (h : ∀ x ∈ zs s.data.toList, 0 ≤ x ∧ x < 128) : txt (zs s.data.toList) = s :=
  ba_eq (zs_inj (zs_txt h))

/-! How far signs of one kind go. -/
theorem run_ones {n : Nat → Nat} {L : Nat} (hb : Bd n L) : ∀ f k, L - k ≤ f → k ≤ L → (∀ j, k ≤ j → j < L → n j = 1) → runE n L k = L := by
  intro f
  induction f with
  | zero =>
    intro k h1 h2 h3
    have : k = L := by omega
    subst this
    exact runE_stop (by rcases hb k with h | h <;> omega)
  | succ f ih =>
    intro k h1 h2 h3
    by_cases hk : k = L
    · subst hk
      exact runE_stop (by rcases hb k with h | h <;> omega)
    · have h4 := h3 k (Nat.le_refl _) (by omega)
      rw [← runE_step hb (by omega), h4]
      exact ih (k + 1) (by omega) (by omega) (fun j hj => h3 j (by omega))
theorem uri_all {t : List Int} (h : ∀ x ∈ t, uriP x = true) : runE (uN t) t.length 0 = t.length :=
  run_ones (uN_bd t) _ 0 (Nat.le_refl _) (Nat.zero_le _) fun j _ hj => by
    unfold uN
    rw [if_neg (by omega), if_pos (h _ (iAt_mem hj))]
theorem word_uri {c : Int} (h : wordP c = true) : uriP c = true := by unfold uriP; rw [h]; rfl
theorem word_sN {t : List Int} {k : Nat} (hk : k < t.length) (h : wordP (iAt t k) = true) : sN t k = 1 := by
  have h1 := h
  unfold wordP at h1
  have h2 := of_decide_eq_true h1
  unfold sN
  rw [if_neg, uN, if_neg (by omega), if_pos (word_uri h)]
  rintro ⟨-, h3 | h3⟩
  · omega
  · unfold flowP at h3
    have := of_decide_eq_true h3
    omega

/-! The signs of what props.Tag tells are ASCII. -/
theorem run_low (t : List Int) (n : Nat → Nat) (hb : Bd n t.length) (hn : ∀ k, n k ≠ 0 → n k = uN t k) : ∀ f k, t.length - k ≤ f → ∀ j, k ≤ j → j < runE n t.length k → 0 ≤ iAt t j ∧ iAt t j < 128 := by
  intro f
  induction f with
  | zero =>
    intro k h1 j h2 h3
    have := runE_le hb (k := k)
    by_cases hk : k ≤ t.length
    · have := this hk; omega
    · rw [runE_stop (by rcases hb k with h | h <;> omega)] at h3; omega
  | succ f ih =>
    intro k h1 j h2 h3
    by_cases hz : n k = 0
    · rw [runE_stop hz] at h3; omega
    · rw [← runE_step hb hz] at h3
      by_cases hj : k + n k ≤ j
      · exact ih (k + n k) (by omega) j hj h3
      · have e := hn k hz
        have h5 := uN_cases t k
        unfold uN at e h5
        by_cases hl : t.length ≤ k
        · rw [if_pos hl] at e; omega
        · rw [if_neg hl] at e h5
          by_cases hu : uriP (iAt t k) = true
          · rw [if_pos hu] at e
            have : j = k := by omega
            subst this
            exact uriP_low hu
          · rw [if_neg hu] at e
            by_cases h6 : iAt t k = 37 ∧ k + 2 < t.length ∧ hexOk (iAt t (k + 1)) = true ∧ hexOk (iAt t (k + 2)) = true
            · rw [if_pos h6] at e
              have : j = k ∨ j = k + 1 ∨ j = k + 2 := by omega
              rcases this with rfl | rfl | rfl
              · omega
              · exact hexOk_low h6.2.2.1
              · exact hexOk_low h6.2.2.2
            · rw [if_neg h6] at e; omega
theorem st_low (t : List Int) : ∀ f k, t.length - k ≤ f → ∀ j, k ≤ j → j < runE (st wordP t) t.length k → wordP (iAt t j) = true := by
  intro f
  induction f with
  | zero =>
    intro k h1 j h2 h3
    by_cases hk : k ≤ t.length
    · have := runE_le (st_bd wordP t) hk; omega
    · rw [runE_stop (by rcases st_bd wordP t k with h | h <;> omega)] at h3; omega
  | succ f ih =>
    intro k h1 j h2 h3
    by_cases hz : st wordP t k = 0
    · rw [runE_stop hz] at h3; omega
    · rw [← runE_step (st_bd wordP t) hz] at h3
      have e : k < t.length ∧ wordP (iAt t k) = true := by
        apply Classical.byContradiction
        intro hc
        exact hz (if_neg hc)
      rw [st_one e.1 e.2] at h3
      by_cases hj : j = k
      · subst hj; exact e.2
      · exact ih (k + 1) (by omega) j (by omega) h3
/-- What is told is ASCII; and where it is all of the text, how. -/
theorem tag_low {t u : List Int} {n : Nat} (h : tagP t = some (u, n)) : ∀ x ∈ u, 0 ≤ x ∧ x < 128 := by
  unfold tagP at h
  by_cases h0 : t.length = 0 ∨ iAt t 0 ≠ 33
  · rw [if_pos h0] at h; cases h
  rw [if_neg h0] at h
  have hl : 0 < t.length := by omega
  have e0 : iAt t 0 = 33 := by
    apply Classical.byContradiction
    intro hc
    exact h0 (.inr hc)
  by_cases h1 : 1 < t.length ∧ iAt t 1 = 60
  · rw [if_pos h1] at h
    unfold angP at h
    split at h
    · cases h
    · cases h
      intro x hx
      obtain ⟨j, hj, rfl⟩ := mem_iAt hx
      rw [List.length_take, List.length_drop] at hj
      have e : iAt ((t.drop 1).take (runE (uN t) t.length 2 - 1)) j = iAt t (1 + j) := by
        unfold iAt
        rw [List.getElem?_take, if_pos (by omega), List.getElem?_drop]
      rw [e]
      by_cases hj0 : j = 0
      · subst hj0; rw [h1.2]; omega
      · exact run_low t (uN t) (uN_bd t) (fun _ _ => rfl) _ 2 (Nat.le_refl _) (1 + j) (by omega) (by omega)
  · rw [if_neg h1] at h
    unfold shP at h
    split at h
    · cases h
    · cases h
      intro x hx
      obtain ⟨j, hj, rfl⟩ := mem_iAt hx
      rw [List.length_take] at hj
      have e : iAt (t.take (runE (sN t) t.length (hdP t))) j = iAt t j := by
        unfold iAt
        rw [List.getElem?_take, if_pos (by omega)]
      rw [e]
      by_cases hd : hdP t ≤ j
      · refine run_low t (sN t) (sN_bd t) (fun k hk => ?_) _ (hdP t) (Nat.le_refl _) j hd (by omega)
        unfold sN at hk ⊢
        split
        · rename_i hc; rw [if_pos hc] at hk; exact absurd rfl hk
        · rfl
      · unfold hdP at hd
        by_cases hB : hdB t = true
        · rw [if_pos hB] at hd
          unfold hdB at hB
          have hB2 := of_decide_eq_true hB
          by_cases hj0 : j = 0
          · subst hj0; rw [e0]; omega
          · by_cases hjw : j = wrE t
            · subst hjw; rw [hB2.2]; omega
            · have := st_low t _ 1 (Nat.le_refl _) j (by omega) (by unfold wrE at hd hjw; omega)
              exact word_low this
        · rw [if_neg hB] at hd
          have : j = 0 := by omega
          subst this; rw [e0]; omega
/-- It is written: ASCII, and told whole. -/
def Wr (s : ByteArray) : Prop := (∀ x ∈ zs s.data.toList, 0 ≤ x ∧ x < 128) ∧ ∃ n, tagP (zs s.data.toList) = some (zs s.data.toList, n)
theorem asc_bytes {s : ByteArray} (h : ∀ x ∈ zs s.data.toList, 0 ≤ x ∧ x < 128) : ∀ j (h : j < s.size), s[j].toNat < 128 := fun j hj => by
  have := h (s[j].toNat : Int) (by
    unfold zs
    refine List.mem_map.2 ⟨s[j], ?_, rfl⟩
    show s.data[j] ∈ s.data.toList
    simp)
  omega
theorem wrt_iff (s : ByteArray) : wrtB s = true ↔ Wr s := by
  unfold wrtB
  constructor
  · intro h
    cases ho : tagP (rnS s 0) with
    | none => rw [ho] at h; cases h
    | some o =>
      obtain ⟨t, n⟩ := o
      rw [ho] at h
      dsimp only at h
      rw [beq_iff_eq, tlD, tlD] at h
      have hlow := tag_low ho
      have e : zs s.data.toList = t := by rw [← h, zs_txt hlow]
      have h1 : ∀ x ∈ zs s.data.toList, 0 ≤ x ∧ x < 128 := by rw [e]; exact hlow
      rw [rnS_asc (asc_bytes h1)] at ho
      exact ⟨h1, n, by rw [ho, e]⟩
  · rintro ⟨h1, n, h2⟩
    rw [rnS_asc (asc_bytes h1), h2]
    dsimp only
    rw [beq_iff_eq, txt_zs h1]
end Go.Proofs.Ytmeojnpehmhmoaa
