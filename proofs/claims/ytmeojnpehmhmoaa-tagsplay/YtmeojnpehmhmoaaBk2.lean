/- A tag that is told short, and made whole by a Scope that was told nothing. -/
import Derived.Test.YtmeojnpehmhmoaaBkp
import Derived.Test.YtmeojnpehmhmoaaRss
set_option linter.all false
set_option maxRecDepth 100000
namespace Go.Proofs.Ytmeojnpehmhmoaa
open Go.RowKit Go.Shelf Go.Lib

theorem index_no : ∀ (l : List UInt8) (c : UInt8), (∀ b ∈ l, b ≠ c) → Lib.indexByte l c = -1 := by
  intro l c
  induction l with
  | nil => intro _; rfl
  | cons b l ih =>
    intro h
    have h1 := h b (List.mem_cons_self ..)
    unfold Lib.indexByte
    rw [ih (fun x hx => h x (List.mem_cons_of_mem _ hx))]
    simp [h1]
theorem iAt_zero (c : Int) (t : List Int) : iAt (c :: t) 0 = c := rfl
theorem iAt_succ (c : Int) (t : List Int) (j : Nat) : iAt (c :: t) (j + 1) = iAt t j := by simp [iAt]
/-- All of them are words, and there is one. -/
structure Wds (W : List UInt8) : Prop where
  w : ∀ x ∈ zs W, wordP x = true
  ne : W ≠ []
theorem Wds.low {W : List UInt8} (h : Wds W) : ∀ x ∈ zs W, 0 ≤ x ∧ x < 128 := fun x hx => word_low (h.w x hx)
theorem Wds.no33 {W : List UInt8} (h : Wds W) : ∀ b ∈ W, b ≠ 33 := fun b hb e => by
  have := h.w (b.toNat : Int) (by unfold zs; exact List.mem_map.2 ⟨b, hb, rfl⟩)
  subst e
  unfold wordP at this
  have := of_decide_eq_true this
  have e : ((33 : UInt8).toNat : Int) = 33 := rfl
  omega
theorem Wds.len {W : List UInt8} (h : Wds W) : 0 < W.length := by
  cases hW : W with
  | nil => exact absurd hW h.ne
  | cons a b => simp
theorem words_wds {s : ByteArray} (h : wordsB s = true) : Wds s.data.toList := by
  rw [words_eq] at h
  unfold rwdB at h
  rw [Bool.and_eq_true] at h
  have h1 := of_decide_eq_true h.1
  refine ⟨fun x hx => ?_, fun e => ?_⟩
  · unfold zs at hx
    obtain ⟨y, hy, rfl⟩ := List.mem_map.1 hx
    obtain ⟨j, hj, rfl⟩ := List.mem_iff_getElem.1 hy
    exact h1 j (by simpa using hj)
  · have := h.2
    rw [tlD, e] at this
    cases this
theorem zs_cons (b : UInt8) (l : List UInt8) : zs (b :: l) = (b.toNat : Int) :: zs l := rfl
theorem wr_two {t : ByteArray} {W : List UInt8} (ht : t.data.toList = 33 :: 33 :: W) (hW : Wds W) : Wr t := by
  have hl := hW.len
  have e : zs t.data.toList = 33 :: 33 :: zs W := by rw [ht]; rfl
  have hz : (zs W).length = W.length := zs_len W
  refine ⟨fun x hx => ?_, W.length + 2, ?_⟩
  · rw [e] at hx
    rcases List.mem_cons.1 hx with rfl | hx
    · omega
    · rcases List.mem_cons.1 hx with rfl | hx
      · omega
      · exact hW.low x hx
  · rw [e]
    obtain ⟨T, hT⟩ : ∃ T, (33 :: 33 :: zs W : List Int) = T := ⟨_, rfl⟩
    have hTl : T.length = W.length + 2 := by rw [← hT]; simp [zs_len]
    have a0 : iAt T 0 = 33 := by rw [← hT]; rfl
    have a1 : iAt T 1 = 33 := by rw [← hT]; rfl
    have a2 : ∀ j, 2 ≤ j → j < T.length → wordP (iAt T j) = true := by
      intro j h1 h2
      obtain ⟨k, rfl⟩ : ∃ k, j = k + 1 + 1 := ⟨j - 2, by omega⟩
      rw [← hT, iAt_succ, iAt_succ]
      exact hW.w _ (iAt_mem (by rw [hz]; omega))
    rw [hT]
    have w1 : wrE T = 1 := runE_stop (st_none (fun _ => by rw [a1]; decide))
    have hB : hdB T = true := by unfold hdB; rw [w1]; exact decide_eq_true ⟨by omega, a1⟩
    have hP : hdP T = 2 := by unfold hdP; rw [if_pos hB, w1]
    have hR : runE (sN T) T.length 2 = T.length := run_ones (sN_bd T) _ 2 (Nat.le_refl _) (by omega) fun j h1 h2 => word_sN h2 (a2 j h1 h2)
    unfold tagP
    rw [if_neg (by rintro (h | h); omega; exact h a0), if_neg (by rintro ⟨-, h⟩; rw [a1] at h; cases h)]
    unfold shP
    rw [hP, hR, if_neg (by rintro ⟨-, h⟩; omega), List.take_length, hTl]
theorem wr_one {t : ByteArray} {W : List UInt8} (ht : t.data.toList = 33 :: W) (hW : Wds W) : Wr t := by
  have hl := hW.len
  have e : zs t.data.toList = 33 :: zs W := by rw [ht]; rfl
  have hz : (zs W).length = W.length := zs_len W
  refine ⟨fun x hx => ?_, W.length + 1, ?_⟩
  · rw [e] at hx
    rcases List.mem_cons.1 hx with rfl | hx
    · omega
    · exact hW.low x hx
  · rw [e]
    obtain ⟨T, hT⟩ : ∃ T, (33 :: zs W : List Int) = T := ⟨_, rfl⟩
    have hTl : T.length = W.length + 1 := by rw [← hT]; simp [zs_len]
    have a0 : iAt T 0 = 33 := by rw [← hT]; rfl
    have a2 : ∀ j, 1 ≤ j → j < T.length → wordP (iAt T j) = true := by
      intro j h1 h2
      obtain ⟨k, rfl⟩ : ∃ k, j = k + 1 := ⟨j - 1, by omega⟩
      rw [← hT, iAt_succ]
      exact hW.w _ (iAt_mem (by rw [hz]; omega))
    have a1 : iAt T 1 ≠ 60 := by
      intro h
      have := a2 1 (Nat.le_refl _) (by omega)
      rw [h] at this
      revert this
      decide
    rw [hT]
    have w1 : wrE T = T.length := run_ones (st_bd wordP T) _ 1 (Nat.le_refl _) (by omega) fun j h1 h2 => st_one h2 (a2 j h1 h2)
    have hB : hdB T = false := by unfold hdB; rw [w1]; exact decide_eq_false (by rintro ⟨h, -⟩; omega)
    have hP : hdP T = 1 := by unfold hdP; rw [hB]; rfl
    have hR : runE (sN T) T.length 1 = T.length := run_ones (sN_bd T) _ 1 (Nat.le_refl _) (by omega) fun j h1 h2 => word_sN h2 (a2 j h1 h2)
    unfold tagP
    rw [if_neg (by rintro (h | h); omega; exact h a0), if_neg (by rintro ⟨-, h⟩; exact a1 h)]
    unfold shP
    rw [hP, hR, if_neg (by rintro ⟨h, -⟩; rw [hB] at h; cases h), List.take_length, hTl]
theorem hsz_two {t : ByteArray} {W : List UInt8} (ht : t.data.toList = 33 :: 33 :: W) : hszP t = (2 : Nat) ∧ Lib.indexByte (t.extract 1 t.size).data.toList 33 ≤ 1000000 := by
  have e : Lib.indexByte (t.extract 1 t.size).data.toList 33 = 0 := by rw [exD, ht]; simp [Lib.indexByte]
  unfold hszP
  rw [e]
  exact ⟨rfl, by omega⟩
theorem hsz_one {t : ByteArray} {W : List UInt8} (ht : t.data.toList = 33 :: W) (hW : Wds W) : hszP t = (1 : Nat) ∧ Lib.indexByte (t.extract 1 t.size).data.toList 33 ≤ 1000000 := by
  have e : Lib.indexByte (t.extract 1 t.size).data.toList 33 = -1 := by rw [exD, ht]; exact index_no _ _ hW.no33
  unfold hszP
  rw [e]
  exact ⟨rfl, by omega⟩

/-! The Scope that was told nothing. -/
set_option maxHeartbeats 800000 in
theorem told_none (b : Nat) (h : ByteArray) (w : World) (hc : w.cell? ⟨b, 0, none⟩ = some (.slice none 0 0)) :
    Calls Try.prog 14 #[.pointer (some ⟨b, 0, none⟩), .string h] w fun e w' => e = .returned (optV none) ∧ Below w.heap.size w w' := by
  unfold optV
  simp only [Option.getD, Option.isSome]
  go_enter Try.func14, Try.ntmps14
  go_wp2
  go_loop [15] (fun i => i = .int .i64 0) (fun i => 0)
  case atStart => exact rfl
  case round =>
    subst hrel
    go_wp2
    go_ret2
    exact ⟨rfl, Below.refl _ _⟩
theorem tels_none {b : Nat} {w : World} (hc : w.cell? ⟨b, 0, none⟩ = some (.slice none 0 0)) : TelS (some ⟨b, 0, none⟩) (fun _ => none) w := fun h W _ hb =>
  told_none b h W ((hb.cell (p := ⟨b, 0, none⟩) (World.block_lt_of_cell? w _ hc)).trans hc)

theorem byte0 {s : ByteArray} {c : UInt8} {W : List UInt8} (hs : s.data.toList = c :: W) : ∃ h0 : 0 < s.size, s[0]'h0 = c := by
  have h0 : 0 < s.size := by rw [sizeD, hs]; simp
  refine ⟨h0, ?_⟩
  have h1 : s.data.toList[0]'(by rw [hs]; simp) = c := by simp [hs]
  rw [← h1]
  rfl
theorem pre_two (h : ByteArray) (hh : h.data.toList = [33, 33]) : preP h none = some yamlS := by
  unfold preP
  dsimp only
  rw [tlD, hh]
  rfl
theorem pre_one (h : ByteArray) (hh : h.data.toList = [33]) : preP h none = some exS := by
  unfold preP
  dsimp only
  rw [tlD, hh]
  rfl
theorem beg_list {s p : ByteArray} (h : begB s p = true) : s.data.toList = p.data.toList ++ (s.extract p.size s.size).data.toList := by
  have hs := beg_size h
  unfold begB at h
  rw [Bool.and_eq_true, beq_iff_eq, tlD, tlD, exT] at h
  rw [exD, ← h.2, List.take_append_drop]
/-- What is told short is the same whole. -/
theorem Whole_short (b : Nat) (s t : ByteArray) (w : World) (hc : w.cell? ⟨b, 0, none⟩ = some (.slice none 0 0)) (hs : s.size ≤ 100000) (h : shoP s = some t) :
    Calls Try.prog 8 #[.pointer (some ⟨b, 0, none⟩), .string t] w fun e w' => e = .returned (whoV (s, 0)) ∧ Below w.heap.size w w' := by
  unfold shoP at h
  split at h
  · rename_i hy
    rw [Bool.and_eq_true] at hy
    cases h
    have hW := words_wds hy.2
    have hl := beg_list hy.1
    have e18 : yamlS.size = 18 := rfl
    rw [e18] at hl
    have ht : (exxS ++ s.extract 18 s.size).data.toList = 33 :: 33 :: (s.extract 18 s.size).data.toList := by rw [dataA]; rfl
    generalize exxS ++ s.extract 18 s.size = t at ht ⊢
    generalize (s.extract 18 s.size).data.toList = W at ht hl hW
    obtain ⟨h0, hb0⟩ := byte0 ht
    obtain ⟨k1, k2⟩ := hsz_two ht
    have hsz : t.size = W.length + 2 := by rw [sizeD, ht]; simp
    have hss : s.size = W.length + 18 := by rw [sizeD, hl]; simp [yamlS]
    have hres : yamlS ++ t.extract 2 t.size = s := ba_eq (by rw [dataA, exD, ht, hl]; rfl)
    have := Whole_known (some ⟨b, 0, none⟩) t yamlS (fun _ => none) w (by rw [tlD, ht]; rfl) (by rw [tlD, ht]; simp) h0 (by rw [hb0]; rfl) (by omega) ((wrt_iff t).2 (wr_two ht hW)) 2 k1 (by omega) k2 (tels_none hc)
      (pre_two _ (by rw [exT, ht]; rfl)) (by decide)
    rw [hres] at this
    exact this
  · split at h
    · rename_i hy
      rw [Bool.and_eq_true] at hy
      cases h
      have hW := words_wds hy.2
      have hl := beg_list hy.1
      have e1 : exS.size = 1 := rfl
      rw [e1] at hl
      have ht : s.data.toList = 33 :: (s.extract 1 s.size).data.toList := hl
      generalize (s.extract 1 s.size).data.toList = W at ht hl hW
      obtain ⟨h0, hb0⟩ := byte0 ht
      obtain ⟨k1, k2⟩ := hsz_one ht hW
      have hsz : s.size = W.length + 1 := by rw [sizeD, ht]; simp
      have hlen := hW.len
      have hres : exS ++ s.extract 1 s.size = s := ba_eq (by rw [dataA, exD, ht]; rfl)
      have := Whole_known (some ⟨b, 0, none⟩) s exS (fun _ => none) w (by rw [tlD, ht]; rfl) (by rw [tlD, ht]; simp; exact hW.ne) h0 (by rw [hb0]; rfl) (by omega) ((wrt_iff s).2 (wr_one ht hW)) 1 k1 (by omega) k2 (tels_none hc)
        (pre_one _ (by rw [exT, ht]; rfl)) (by decide)
      rw [hres] at this
      exact this
    · split at h
      · rename_i hv
        cases h
        have ht : (ltS ++ s).data.toList = 60 :: s.data.toList := by rw [dataA]; rfl
        generalize ltS ++ s = t at ht ⊢
        obtain ⟨h0, hb0⟩ := byte0 ht
        have hsz : t.size = s.size + 1 := by rw [sizeD, ht, sizeD]; simp
        have hres : t.extract 1 t.size = s := ba_eq (by rw [exD, ht]; rfl)
        have := Whole_angle (some ⟨b, 0, none⟩) t w (by rw [tlD, ht]; rfl) (by rw [tlD, ht]; simp) h0 (by rw [hb0]; rfl) (by omega) (by rw [hres]; exact hv)
        rw [hres] at this
        exact this
      · cases h
/-- Which tags may be told so. -/
theorem short_valid (s : ByteArray) : (shoP s).isSome = validB s := by
  unfold shoP
  have all : ∀ (p : ByteArray) (k : Nat), p.size = k → (∀ x ∈ zs p.data.toList, uriP x = true) → begB s p = true → wordsB (s.extract k s.size) = true → validB s = true := by
    rintro p k rfl hp hb hw
    have hW := words_wds hw
    have hl := beg_list hb
    unfold validB
    have e : s.size = (zs s.data.toList).length := by rw [zs_len]; simp
    refine decide_eq_true ⟨?_, ?_⟩
    · rw [sizeD, hl, List.length_append]
      have := hW.len
      omega
    · rw [e]
      refine uri_all fun x hx => ?_
      rw [hl, zsA] at hx
      rcases List.mem_append.1 hx with h | h
      · exact hp x h
      · exact word_uri (hW.w x h)
  split
  · rename_i h
    rw [Bool.and_eq_true] at h
    exact (all yamlS 18 rfl (by decide) h.1 h.2).symm
  · split
    · rename_i h
      rw [Bool.and_eq_true] at h
      exact (all exS 1 rfl (by decide) h.1 h.2).symm
    · split
      · rename_i h; exact h.symm
      · rename_i h; simpa using h
end Go.Proofs.Ytmeojnpehmhmoaa
