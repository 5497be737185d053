/- The document's told: whether props.Tag tells all of a text. -/
import Derived.Test.YtmeojnpehmhmoaaBk2
set_option linter.all false
set_option maxRecDepth 100000
namespace Go.Proofs.Ytmeojnpehmhmoaa
open Go.RowKit Go.Shelf Go.Lib

theorem bt_zero {c : UInt8} {W : List UInt8} : bt (c :: W) 0 = c.toNat := rfl
/-- The first code point of a text that is right. -/
theorem pts_first {l : List UInt8} (hr : ritP l = true) (hl : 0 < l.length) : 0 < (ptsP l).length ∧ (iAt (ptsP l) 0 = 60 ↔ bt l 0 = 60) := by
  have hrun : runE (pN l) l.length 0 = l.length := by unfold ritP at hr; exact of_decide_eq_true hr
  have hn : pN l 0 ≠ 0 := fun h => by rw [runE_stop h] at hrun; omega
  have e : ptsP l = pC l 0 :: (posE (pN l) l.length (0 + pN l 0)).map (pC l) := by
    unfold ptsP
    rw [if_pos hr, posE_step (pN_bd l) hn]
    rfl
  rw [e]
  refine ⟨by simp, ?_⟩
  show pC l 0 = 60 ↔ _
  constructor
  · intro h
    obtain ⟨-, h2⟩ := pN_low hn (by omega)
    have := (pN_ascii hl h2).2
    omega
  · intro h
    have := (pN_ascii hl (by omega)).2
    omega
/-- Where all is told, all is taken, and it stands in no angles. -/
theorem wr_len {t : List Int} {n : Nat} (h : tagP t = some (t, n)) : n = t.length ∧ ¬ (1 < t.length ∧ iAt t 1 = 60) := by
  unfold tagP at h
  by_cases h0 : t.length = 0 ∨ iAt t 0 ≠ 33
  · rw [if_pos h0] at h; cases h
  rw [if_neg h0] at h
  by_cases h1 : 1 < t.length ∧ iAt t 1 = 60
  · rw [if_pos h1] at h
    unfold angP at h
    split at h
    · cases h
    · injection h with h
      injection h with h2 h3
      have := congrArg List.length h2
      rw [List.length_take, List.length_drop] at this
      omega
  · rw [if_neg h1] at h
    unfold shP at h
    split at h
    · cases h
    · injection h with h
      injection h with h2 h3
      have := congrArg List.length h2
      rw [List.length_take] at this
      have hl : 0 < t.length := by omega
      have := runE_le (sN_bd t) (hdP_le hl)
      exact ⟨by omega, h1⟩
theorem zs_asc_pts {s : ByteArray} (h : ∀ x ∈ zs s.data.toList, 0 ≤ x ∧ x < 128) : ritP s.data.toList = true ∧ ptsP s.data.toList = zs s.data.toList :=
  pts_ascii fun j hj => by
    have := h (iAt (zs s.data.toList) j) (iAt_mem (by rw [zs_len]; exact hj))
    rw [zs_at] at this
    omega
theorem valid_low {s : ByteArray} (h : validB s = true) : ∀ x ∈ zs s.data.toList, 0 ≤ x ∧ x < 128 := by
  unfold validB at h
  have h := of_decide_eq_true h
  intro x hx
  obtain ⟨j, hj, rfl⟩ := mem_iAt hx
  have e : s.size = (zs s.data.toList).length := by rw [zs_len]; simp
  rw [e] at h
  exact cover_low _ _ 0 (Nat.le_refl _) h.2 j (Nat.zero_le _) hj
set_option maxHeartbeats 1600000 in
theorem rtold_lt (s : ByteArray) (W : List UInt8) (w : World) (hs : s.size ≤ 100000) (hd : s.data.toList = 60 :: W) :
    Calls Try.prog 23 #[.string s] w fun e w' => e = .returned (.bool (validB (s.extract 1 s.size))) ∧ Below w.heap.size w w' := by
  have TX := Text_any s w (by omega)
  have hsz : s.size = W.length + 1 := by rw [sizeD, hd]; simp
  have RV := fun W' => rValid_any (s.extract 1 s.size) W' (by simp; omega)
  rw [valid_doc] at RV
  have hs1 : (1 : Int) ≤ s.size := by omega
  have hlen := pts_len s.data.toList
  cases hr : ritP s.data.toList with
  | false =>
    have HV : Hid (validB (s.extract 1 s.size) = false) := by
      show _ = _
      rw [← Bool.not_eq_true]
      intro hv
      have h1 := valid_low hv
      rw [exD, hd] at h1
      have := (zs_asc_pts (s := s) (fun x hx => by
        rw [hd, zs_cons] at hx
        rcases List.mem_cons.1 hx with rfl | hx
        · decide
        · exact h1 x hx)).1
      rw [hr] at this
      cases this
    rw [hr] at TX
    generalize validB (s.extract 1 s.size) = V at HV ⊢
    clear RV hr hsz hlen
    generalize ptsP s.data.toList = P at TX
    go_enter Try.func23, Try.ntmps23
    go_wp2_with (first | (go_at_call 29; refine TX.mono ?_; rintro e w1 ⟨v, rfl, ho, hb⟩; obtain ⟨a, k, c, rfl⟩ := ownsRow_form ho))
    go_ret
    exact ⟨by rw [HV.out]; rfl, hb⟩
  | true =>
    obtain ⟨hp0, hp1⟩ := pts_first hr (by rw [hd]; simp)
    have h60 := hp1.2 (by rw [hd]; rfl)
    rw [hr] at TX
    by_cases h1 : 1 < (ptsP s.data.toList).length
    · clear hp1
      rw [← sizeD] at hlen
      generalize validB (s.extract 1 s.size) = V at RV ⊢
      generalize ptsP s.data.toList = P at TX h60 h1 hp0 hlen
      have h1' : (1 : Int) < P.length := by omega
      have hp0' : (0 : Int) < P.length := by omega
      clear hr hd hsz
      go_enter Try.func23, Try.ntmps23
      go_wp2_with (first | (go_at_call 29; refine TX.mono ?_; rintro e w1 ⟨v, rfl, ho, hb⟩; obtain ⟨a, k, c, rfl⟩ := ownsRow_form ho; obtain ⟨hI, rfl, hkc, hcm⟩ := is_of_row ho; obtain ⟨bb, oo, rfl, hcell⟩ := hI.at (by omega); have hc0 := hcell 0 hp0; rw [Nat.add_zero, h60] at hc0) | (go_at_call 13; refine (RV _).mono ?_; rintro e w2 ⟨rfl, hb2⟩))
      go_ret
      exact ⟨rfl, hb.trans (hb2.mono hb.size)⟩
    · have HV : Hid (validB (s.extract 1 s.size) = false) := by
        show _ = _
        rw [← Bool.not_eq_true]
        intro hv
        have h5 := valid_low hv
        rw [exD, hd] at h5
        have h6 := (zs_asc_pts (s := s) (fun x hx => by
          rw [hd, zs_cons] at hx
          rcases List.mem_cons.1 hx with rfl | hx
          · decide
          · exact h5 x hx)).2
        rw [h6, zs_len, hd] at h1
        have h7 : 0 < (s.extract 1 s.size).size := by unfold validB at hv; exact (of_decide_eq_true hv).1
        rw [sizeD, exD, hd] at h7
        have h8 : ((60 :: W : List UInt8).drop 1).length = W.length := by simp
        rw [h8] at h7
        rw [List.length_cons] at h1
        omega
      clear hp1 RV hlen
      generalize validB (s.extract 1 s.size) = V at HV ⊢
      generalize ptsP s.data.toList = P at TX h60 h1 hp0
      have h1' : ¬ (1 : Int) < P.length := by omega
      have hp0' : (0 : Int) < P.length := by omega
      clear hr hd hsz
      go_enter Try.func23, Try.ntmps23
      go_wp2_with (first | (go_at_call 29; refine TX.mono ?_; rintro e w1 ⟨v, rfl, ho, hb⟩; obtain ⟨a, k, c, rfl⟩ := ownsRow_form ho; obtain ⟨hI, rfl, hkc, hcm⟩ := is_of_row ho; obtain ⟨bb, oo, rfl, hcell⟩ := hI.at (by omega); have hc0 := hcell 0 hp0; rw [Nat.add_zero, h60] at hc0))
      go_ret
      exact ⟨by rw [HV.out]; rfl, hb⟩
set_option maxHeartbeats 1600000 in
theorem rtold_ne (s : ByteArray) (c0 : UInt8) (W : List UInt8) (w : World) (hs : s.size ≤ 100000) (hd : s.data.toList = c0 :: W) (h60 : c0.toNat ≠ 60) :
    Calls Try.prog 23 #[.string s] w fun e w' => e = .returned (.bool (wrtB s)) ∧ Below w.heap.size w w' := by
  have TX := Text_any s w (by omega)
  have hlen := pts_len s.data.toList
  rw [← sizeD] at hlen
  have RB := fun p W' => rBegins_any s p W' (by omega)
  cases hr : ritP s.data.toList with
  | false =>
    have HV : Hid (wrtB s = false) := by
      show _ = _
      rw [← Bool.not_eq_true]
      intro hv
      have := (zs_asc_pts ((wrt_iff s).1 hv).1).1
      rw [hr] at this
      cases this
    rw [hr] at TX
    generalize wrtB s = V at HV ⊢
    clear hr hlen RB
    generalize ptsP s.data.toList = P at TX
    go_enter Try.func23, Try.ntmps23
    go_wp2_with (first | (go_at_call 29; refine TX.mono ?_; rintro e w1 ⟨v, rfl, ho, hb⟩; obtain ⟨a, k, c, rfl⟩ := ownsRow_form ho))
    go_ret
    exact ⟨by rw [HV.out]; rfl, hb⟩
  | true =>
    obtain ⟨hp0, hp1⟩ := pts_first hr (by rw [hd]; simp)
    have hn60 : ¬ iAt (ptsP s.data.toList) 0 = 60 := fun h => h60 (by have := hp1.1 h; rw [hd, bt_zero] at this; exact this)
    rw [hr] at TX
    have hn60' : (iAt (ptsP s.data.toList) 0 == 60) = false := by simpa using hn60
    have key : wrtB s = true → ∃ n, tagP (ptsP s.data.toList) = some (zs s.data.toList, n) ∧ n = (ptsP s.data.toList).length ∧ (txt (zs s.data.toList)).toList = s.toList ∧ begB s ⟨#[33, 60]⟩ = false := by
      intro hv
      obtain ⟨h1, n, h2⟩ := (wrt_iff s).1 hv
      have h3 := (zs_asc_pts h1).2
      obtain ⟨h4, h5⟩ := wr_len h2
      refine ⟨n, by rw [h3]; exact h2, by rw [h3]; exact h4, by rw [txt_zs h1], ?_⟩
      rw [← Bool.not_eq_true]
      intro hb
      have h6 := beg_list hb
      refine h5 ?_
      rw [h6, zsA]
      exact ⟨by rw [List.length_append]; show 1 < 2 + _; omega, rfl⟩
    have key2 : ∀ t n, tagP (ptsP s.data.toList) = some (t, n) → (txt t).toList = s.toList → wrtB s = true := by
      intro t n h1 h2
      rw [tlD, tlD] at h2
      have hlow := tag_low h1
      have e : zs s.data.toList = t := by rw [← h2, zs_txt hlow]
      have h3 : ∀ x ∈ zs s.data.toList, 0 ≤ x ∧ x < 128 := by rw [e]; exact hlow
      refine (wrt_iff s).2 ⟨h3, n, ?_⟩
      rw [(zs_asc_pts h3).2] at h1
      rw [h1, e]
    clear hp1 hn60
    have hPl : (ptsP s.data.toList).length ≤ 1000000 := by omega
    cases ho : tagP (ptsP s.data.toList) with
    | none =>
      have HV : Hid (wrtB s = false) := by
        show _ = _
        rw [← Bool.not_eq_true]
        intro hv
        obtain ⟨n, h1, -⟩ := key hv
        rw [ho] at h1
        cases h1
      clear key key2 RB hlen hr hd
      generalize wrtB s = V at HV ⊢
      generalize ptsP s.data.toList = P at *
      have hp0' : (0 : Int) < P.length := by omega
      have TG : Hid (∀ (q : Option Addr) (c : Nat) (w : World), P.length ≤ c → c ≤ maxLen → Is w q P → Calls Try.prog 42 #[.slice q P.length c] w fun e w' => e = .returned (.tuple #[.string ⟨#[]⟩, .int .i64 0, .bool false]) ∧ Below w.heap.size w w') := fun q c w h1 h2 h3 => by
        have := rTag_any q P P.length c w rfl hPl h1 h2 h3
        rw [ho, tagV_none] at this
        exact this
      clear ho
      go_enter Try.func23, Try.ntmps23
      go_wp2_with (first | (go_at_call 29; refine TX.mono ?_; rintro e w1 ⟨v, rfl, ho, hb⟩; obtain ⟨a, k, c, rfl⟩ := ownsRow_form ho; obtain ⟨hI, rfl, hkc, hcm⟩ := is_of_row ho; have TG2 := TG.out a c w1 hkc hcm hI; obtain ⟨bb, oo, rfl, hcell⟩ := hI.at (by omega); have hc0 := hcell 0 hp0; rw [Nat.add_zero] at hc0) | (go_at_call 42; refine TG2.mono ?_; rintro e w2 ⟨rfl, hb2⟩))
      go_ret
      exact ⟨by rw [HV.out]; rfl, hb.trans (hb2.mono hb.size)⟩
    | some o =>
      obtain ⟨t, n⟩ := o
      have hnP : n ≤ 1000000 ∨ True := .inr trivial
      have TG : Hid (∀ (q : Option Addr) (c : Nat) (w : World), (ptsP s.data.toList).length ≤ c → c ≤ maxLen → Is w q (ptsP s.data.toList) → Calls Try.prog 42 #[.slice q (ptsP s.data.toList).length c] w fun e w' => e = .returned (.tuple #[.string (txt t), .int .i64 n, .bool true]) ∧ Below w.heap.size w w') := fun q c w h1 h2 h3 => by
        have := rTag_any q _ _ c w rfl hPl h1 h2 h3
        rw [ho, tagV_some] at this
        exact this
      by_cases c1 : n = (ptsP s.data.toList).length
      · by_cases c2 : (txt t).toList = s.toList
        · have hv := key2 t n ho c2
          obtain ⟨n', -, -, -, c3⟩ := key hv
          rw [hv]
          have c2' : ((txt t).toList == s.toList) = true := by rw [c2]; simp
          have RB2 := RB ⟨#[33, 60]⟩
          rw [c3] at RB2
          clear key key2 RB hlen hr hd ho hv c3 c2 hnP
          generalize ptsP s.data.toList = P at *
          subst c1
          generalize txt t = tt at *
          have hp0' : (0 : Int) < P.length := by omega
          go_enter Try.func23, Try.ntmps23
          go_wp2_with (first | (go_at_call 29; refine TX.mono ?_; rintro e w1 ⟨v, rfl, ho, hb⟩; obtain ⟨a, k, c, rfl⟩ := ownsRow_form ho; obtain ⟨hI, rfl, hkc, hcm⟩ := is_of_row ho; have TG2 := TG.out a c w1 hkc hcm hI; obtain ⟨bb, oo, rfl, hcell⟩ := hI.at (by omega); have hc0 := hcell 0 hp0; rw [Nat.add_zero] at hc0) | (go_at_call 42; refine TG2.mono ?_; rintro e w2 ⟨rfl, hb2⟩) | (go_at_call 27; refine (RB2 _).mono ?_; rintro e w3 ⟨rfl, rfl⟩))
          go_ret
          exact ⟨rfl, hb.trans (hb2.mono hb.size)⟩
        · have HV : Hid (wrtB s = false) := by
            show _ = _
            rw [← Bool.not_eq_true]
            intro hv
            obtain ⟨n', h1, h2, h3, -⟩ := key hv
            rw [ho] at h1
            cases h1
            exact c2 h3
          have c2' : ((txt t).toList == s.toList) = false := by simpa using c2
          clear key key2 RB hlen hr hd ho c2 hnP
          generalize wrtB s = V at HV ⊢
          generalize ptsP s.data.toList = P at *
          subst c1
          generalize txt t = tt at *
          have hp0' : (0 : Int) < P.length := by omega
          go_enter Try.func23, Try.ntmps23
          go_wp2_with (first | (go_at_call 29; refine TX.mono ?_; rintro e w1 ⟨v, rfl, ho, hb⟩; obtain ⟨a, k, c, rfl⟩ := ownsRow_form ho; obtain ⟨hI, rfl, hkc, hcm⟩ := is_of_row ho; have TG2 := TG.out a c w1 hkc hcm hI; obtain ⟨bb, oo, rfl, hcell⟩ := hI.at (by omega); have hc0 := hcell 0 hp0; rw [Nat.add_zero] at hc0) | (go_at_call 42; refine TG2.mono ?_; rintro e w2 ⟨rfl, hb2⟩))
          go_ret
          exact ⟨by rw [HV.out]; rfl, hb.trans (hb2.mono hb.size)⟩
      · have HV : Hid (wrtB s = false) := by
          show _ = _
          rw [← Bool.not_eq_true]
          intro hv
          obtain ⟨n', h1, h2, h3, -⟩ := key hv
          rw [ho] at h1
          cases h1
          exact c1 h2
        clear key key2 RB hlen hr hd ho hnP
        generalize wrtB s = V at HV ⊢
        generalize ptsP s.data.toList = P at *
        generalize txt t = tt at *
        have hp0' : (0 : Int) < P.length := by omega
        have c1' : ((n : Int) == (P.length : Int)) = false := by simpa using fun h : (n : Int) = P.length => c1 (by omega)
        go_enter Try.func23, Try.ntmps23
        go_wp2_with (first | (go_at_call 29; refine TX.mono ?_; rintro e w1 ⟨v, rfl, ho, hb⟩; obtain ⟨a, k, c, rfl⟩ := ownsRow_form ho; obtain ⟨hI, rfl, hkc, hcm⟩ := is_of_row ho; have TG2 := TG.out a c w1 hkc hcm hI; obtain ⟨bb, oo, rfl, hcell⟩ := hI.at (by omega); have hc0 := hcell 0 hp0; rw [Nat.add_zero] at hc0) | (go_at_call 42; refine TG2.mono ?_; rintro e w2 ⟨rfl, hb2⟩))
        go_ret
        exact ⟨by rw [HV.out]; rfl, hb.trans (hb2.mono hb.size)⟩
end Go.Proofs.Ytmeojnpehmhmoaa
