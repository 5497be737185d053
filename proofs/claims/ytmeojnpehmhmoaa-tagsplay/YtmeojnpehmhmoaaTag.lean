/- Tag, as it runs. -/
import Derived.Test.YtmeojnpehmhmoaaAnc
set_option linter.unusedVariables false
set_option linter.unusedSimpArgs false
namespace Go.Proofs.Ytmeojnpehmhmoaa
open Go.RowKit Go.Shelf

theorem cut_from {w : World} {q : Option Addr} {t : List Int} {c : Nat} (hI : Is w q t) (hc : t.length ≤ c) (m : Nat) (mi : Int) (hmi : (m : Int) = mi) (hm : m ≤ t.length) :
    ∃ p, (∀ w2, (Instr.slice 57 (.slice q t.length c) (some (.int .i64 mi)) none none).run Try.prog w2 = .ok (.slice p (t.length - m) (c - m)) w2) ∧ Is w p (t.drop m) := by
  subst hmi
  exact ⟨_, slice_from q t.length c m hm hc, hI.from c m hc⟩

/-- Where the words behind the first ! end. -/
def wrE (t : List Int) : Nat := runE (st wordP t) t.length 1
def hdB (t : List Int) : Bool := decide (wrE t < t.length ∧ iAt t (wrE t) = 33)
/-- How long the handle is. -/
def hdP (t : List Int) : Nat := if hdB t = true then wrE t + 1 else 1
def angP (t : List Int) : Option (List Int × Nat) :=
  if runE (uN t) t.length 2 = 2 ∨ runE (uN t) t.length 2 = t.length ∨ iAt t (runE (uN t) t.length 2) ≠ 62 then none
  else some ((t.drop 1).take (runE (uN t) t.length 2 - 1), runE (uN t) t.length 2 + 1)
def shP (t : List Int) : Option (List Int × Nat) :=
  if hdB t = true ∧ runE (sN t) t.length (hdP t) = hdP t then none else some (t.take (runE (sN t) t.length (hdP t)), runE (sN t) t.length (hdP t))
def tagP (t : List Int) : Option (List Int × Nat) :=
  if t.length = 0 ∨ iAt t 0 ≠ 33 then none else if 1 < t.length ∧ iAt t 1 = 60 then angP t else shP t
def tagV : Option (List Int × Nat) → Value
  | none => triV ⟨#[]⟩ 0 false
  | some (s, n) => triV (txt s) n true

theorem tagV_none : tagV none = .tuple #[.string ⟨#[]⟩, .int .i64 0, .bool false] := rfl
theorem tagV_some (s : List Int) (n : Nat) : tagV (some (s, n)) = .tuple #[.string (txt s), .int .i64 n, .bool true] := rfl
theorem wrE_le {t : List Int} (h : 0 < t.length) : wrE t ≤ t.length := runE_le (st_bd _ t) h
theorem wrE_ge (t : List Int) : 1 ≤ wrE t := runE_ge _ _ _
theorem hdP_le {t : List Int} (h : 0 < t.length) : hdP t ≤ t.length := by
  unfold hdP hdB
  split
  · rename_i h1
    have := of_decide_eq_true h1
    omega
  · omega
theorem hdP_ge (t : List Int) : 1 ≤ hdP t := by
  unfold hdP
  split <;> omega
theorem hdB_iff (t : List Int) : hdB t = true ↔ 1 < hdP t := by
  have := wrE_ge t
  unfold hdP
  split
  · rename_i h; rw [h]; simp; omega
  · rename_i h; simp at h; rw [h]; simp

set_option maxRecDepth 100000 in
set_option maxHeartbeats 1000000 in
theorem handle_any (q : Option Addr) (t : List Int) (n c : Nat) (w : World) (hl : n = t.length) (hn : t.length ≤ 1000000) (hc : t.length ≤ c) (hm : c ≤ maxLen) (h1 : 0 < t.length) (hI : Is w q t) :
    Calls Try.prog 62 #[.slice q n c] w fun e w' => e = .returned (.int .i64 (hdP t : Nat)) ∧ w' = w := by
  subst hl
  obtain ⟨p, S1, hI1⟩ := cut_from hI hc 1 1 rfl h1
  have CN := count_word p (t.drop 1) (t.length - 1) (c - 1) w (by simp) (by simp; omega) hI1
  have e1 : (1 : Int) + (cnt wordP (t.drop 1) : Nat) = (wrE t : Nat) := by
    unfold wrE
    rw [cnt_drop]
    omega
  have hle := wrE_le h1
  have hge := wrE_ge t
  have hn2 : (t.length : Int) ≤ 1000000 := by omega
  obtain ⟨V, hV⟩ : ∃ V, hdP t = V := ⟨_, rfl⟩
  rw [hV]
  unfold hdP hdB at hV
  obtain ⟨b, o, rfl, hu⟩ := hI.at h1
  generalize cnt wordP (t.drop 1) = a' at CN e1
  generalize hA : wrE t = a at *
  clear hA
  by_cases h2 : a < t.length
  · have c0 := hu a h2
    have h2' : (a : Int) < t.length := by omega
    by_cases h3 : iAt t a = 33
    · rw [if_pos (decide_eq_true ⟨h2, h3⟩)] at hV
      subst hV
      rw [h3] at c0
      clear hu hI hI1
      go_enter Try.func62, Try.ntmps62
      go_wp2_with (first | (go_at_call 80; refine CN.mono ?_; rintro e w ⟨rfl, rfl⟩))
      go_ret
      exact ⟨rfl, rfl⟩
    · rw [if_neg (by simp; intro _; exact h3)] at hV
      subst hV
      have h3' : (iAt t a == 33) = false := by simpa using h3
      generalize iAt t a = x at c0 h3'
      clear hu hI hI1 h3
      go_enter Try.func62, Try.ntmps62
      go_wp2_with (first | (go_at_call 80; refine CN.mono ?_; rintro e w ⟨rfl, rfl⟩))
      go_ret
      exact ⟨rfl, rfl⟩
  · rw [if_neg (by simp; intro h; exact absurd h h2)] at hV
    subst hV
    have h2' : ¬ (a : Int) < t.length := by omega
    clear hu hI hI1
    go_enter Try.func62, Try.ntmps62
    go_wp2_with (first | (go_at_call 80; refine CN.mono ?_; rintro e w ⟨rfl, rfl⟩))
    go_ret
    exact ⟨rfl, rfl⟩

set_option maxRecDepth 100000 in
set_option maxHeartbeats 1000000 in
theorem angled_any (q : Option Addr) (t : List Int) (n c : Nat) (w : World) (hl : n = t.length) (hn : t.length ≤ 1000000) (hc : t.length ≤ c) (hm : c ≤ maxLen) (h1 : 1 < t.length) (hI : Is w q t) :
    Calls Try.prog 61 #[.slice q n c] w fun e w' => e = .returned (tagV (angP t)) ∧ Below w.heap.size w w' := by
  subst hl
  obtain ⟨p, S1, hI1⟩ := cut_from hI hc 2 2 rfl h1
  have SS := signsSize_any p (t.drop 2) (t.length - 2) (c - 2) w (by simp) (by simp; omega) (by simp; omega) (by omega) hI1
  have e1 : (2 : Int) + (runE (uN (t.drop 2)) (t.drop 2).length 0 : Nat) = (runE (uN t) t.length 2 : Nat) := by
    have := runE_shift (n := uN t) (n' := uN (t.drop 2)) (a := 2) (L := t.length) (k := 0) (uN_drop t 2)
    rw [Nat.add_zero] at this
    rw [this, List.length_drop]
    omega
  have hle : runE (uN t) t.length 2 ≤ t.length := runE_le (uN_bd t) h1
  have hge : 2 ≤ runE (uN t) t.length 2 := runE_ge _ _ _
  have hn2 : (t.length : Int) ≤ 1000000 := by omega
  obtain ⟨V, hV⟩ : ∃ V, tagV (angP t) = V := ⟨_, rfl⟩
  rw [hV]
  unfold angP at hV
  obtain ⟨b, o, rfl, hu⟩ := hI.at (by omega)
  generalize runE (uN (t.drop 2)) (t.drop 2).length 0 = a' at SS e1
  generalize hA : runE (uN t) t.length 2 = a at *
  clear hA
  have S2 := slice_mid b o t.length c 1 a (by omega) (by omega) (by omega)
  have TX := fun (W : World) (hW : Below w.heap.size w W) => text_any (some ⟨b, o + 1, none⟩) ((t.drop 1).take (a - 1)) (a - 1) (c - 1) W (by simp; omega) (by simp; omega) (((hI.on hW).drop 1).take _)
  by_cases h2 : a = 2
  · rw [if_pos (.inl h2)] at hV
    subst hV
    subst h2
    first | rw [tagV_none] | rw [tagV_some]
    clear hu hI hI1 TX S2
    have e2 : ((2 : Nat) : Int) = 2 := rfl
    rw [e2] at e1
    go_enter Try.func61, Try.ntmps61
    go_wp2_with (first | (go_at_call 79; refine SS.mono ?_; rintro e W ⟨rfl, hB⟩))
    go_ret3
    exact ⟨rfl, hB⟩
  · have h2' : ((a : Int) == 2) = false := by simp; omega
    by_cases h3 : a = t.length
    · rw [if_pos (.inr (.inl h3))] at hV
      subst hV
      first | rw [tagV_none] | rw [tagV_some]
      subst h3
      clear hu hI hI1 TX S2
      go_enter Try.func61, Try.ntmps61
      go_wp2_with (first | (go_at_call 79; refine SS.mono ?_; rintro e W ⟨rfl, hB⟩))
      go_ret3
      exact ⟨rfl, hB⟩
    · have h3' : ((a : Int) == (t.length : Int)) = false := by simp; omega
      have h3'' : (a : Int) < t.length := by omega
      have HC : Hid (∀ W, Below w.heap.size w W → W.cell? ⟨b, o + a, none⟩ = some (.int .i64 (iAt t a))) := fun W hW => (hW.cell (p := ⟨b, o + a, none⟩) (World.block_lt_of_cell? w _ (hu a (by omega)))).trans (hu a (by omega))
      by_cases h4 : iAt t a = 62
      · rw [if_neg (by simp [h2, h3, h4])] at hV
        subst hV
        first | rw [tagV_none] | rw [tagV_some]
        rw [h4] at HC
        generalize txt ((t.drop 1).take (a - 1)) = s at TX ⊢
        have e3 : ((a + 1 : Nat) : Int) = (a : Int) + 1 := by omega
        rw [e3]
        clear hu hI hI1 h2 h3
        go_enter Try.func61, Try.ntmps61
        go_wp2_with (first | (go_at_call 79; refine SS.mono ?_; rintro e W ⟨rfl, hB⟩; have c0 := HC.out _ hB) | (go_at_call 64; refine (TX _ hB).mono ?_; rintro e W2 ⟨rfl, hB2⟩))
        go_ret3
        exact ⟨rfl, hB.trans (hB2.mono hB.size)⟩
      · rw [if_pos (.inr (.inr h4))] at hV
        subst hV
        first | rw [tagV_none] | rw [tagV_some]
        have h4' : (iAt t a == 62) = false := by simpa using h4
        generalize iAt t a = x at HC h4'
        clear hu hI hI1 TX S2 h4 h2 h3
        go_enter Try.func61, Try.ntmps61
        go_wp2_with (first | (go_at_call 79; refine SS.mono ?_; rintro e W ⟨rfl, hB⟩; have c0 := HC.out _ hB))
        go_ret3
        exact ⟨rfl, hB⟩

set_option maxRecDepth 100000 in
set_option maxHeartbeats 1000000 in
theorem Tag_any (q : Option Addr) (t : List Int) (n c : Nat) (w : World) (hl : n = t.length) (hn : t.length ≤ 1000000) (hc : t.length ≤ c) (hm : c ≤ maxLen) (hI : Is w q t) :
    Calls Try.prog 38 #[.slice q n c] w fun e w' => e = .returned (tagV (tagP t)) ∧ Below w.heap.size w w' := by
  subst hl
  have hn2 : (t.length : Int) ≤ 1000000 := by omega
  obtain ⟨V, hV⟩ : ∃ V, tagV (tagP t) = V := ⟨_, rfl⟩
  rw [hV]
  unfold tagP at hV
  by_cases h0 : t.length = 0
  · rw [if_pos (.inl h0)] at hV
    subst hV
    first | rw [tagV_none] | rw [tagV_some]
    rw [h0]
    have e0 : ((0 : Nat) : Int) = 0 := rfl
    go_enter Try.func38, Try.ntmps38
    go_wp2
    go_ret3
    exact ⟨rfl, Below.refl _ _⟩
  · have h0' : ((t.length : Int) == 0) = false := by simp; intro e; subst e; simp at h0
    have h0'' : (0 : Int) < t.length := by omega
    have hI0 := hI
    obtain ⟨b, o, rfl, hu⟩ := hI.at (by omega)
    have c0 := hu 0 (by omega)
    rw [Nat.add_zero] at c0
    by_cases h1 : iAt t 0 = 33
    · rw [if_neg (by simp [h0, h1])] at hV
      rw [h1] at c0
      by_cases h2 : 1 < t.length ∧ iAt t 1 = 60
      · rw [if_pos h2] at hV
        subst hV
        have c1 := hu 1 h2.1
        rw [h2.2] at c1
        have h2' : (1 : Int) < t.length := by omega
        have AN := angled_any (some ⟨b, o, none⟩) t t.length c w rfl hn hc hm h2.1 hI
        generalize angP t = ap at AN ⊢
        cases ap with
        | none =>
          first | rw [tagV_none] at AN ⊢ | rw [tagV_some] at AN ⊢
          clear hu hI hI0 h1
          go_enter Try.func38, Try.ntmps38
          go_wp2_with (first | (go_at_call 61; refine AN.mono ?_; rintro e W ⟨rfl, hB⟩))
          go_ret3
          exact ⟨rfl, hB⟩
        | some y =>
          obtain ⟨s, k⟩ := y
          first | rw [tagV_none] at AN ⊢ | rw [tagV_some] at AN ⊢
          clear hu hI hI0 h1
          go_enter Try.func38, Try.ntmps38
          go_wp2_with (first | (go_at_call 61; refine AN.mono ?_; rintro e W ⟨rfl, hB⟩))
          go_ret3
          exact ⟨rfl, hB⟩
      · rw [if_neg h2] at hV
        unfold shP at hV
        have HD := handle_any (some ⟨b, o, none⟩) t t.length c w rfl hn hc hm (by omega) hI
        have hge := hdP_ge t
        have hle := hdP_le (t := t) (by omega)
        have hiff := hdB_iff t
        obtain ⟨p, S1, hI1⟩ := cut_from hI hc (hdP t) (hdP t) rfl hle
        have SX := suffix_any p (t.drop (hdP t)) (t.length - hdP t) (c - hdP t) w (by simp) (by simp; omega) (by simp; omega) (by omega) hI1
        have e1 : (hdP t : Int) + (runE (sN (t.drop (hdP t))) (t.drop (hdP t)).length 0 : Nat) = (runE (sN t) t.length (hdP t) : Nat) := by
          have := runE_shift (n := sN t) (n' := sN (t.drop (hdP t))) (a := hdP t) (L := t.length) (k := 0) (sN_drop t (hdP t))
          rw [Nat.add_zero] at this
          rw [this, List.length_drop]
          omega
        have hse := runE_le (L := t.length) (sN_bd t) hle
        have hsg := runE_ge (sN t) t.length (hdP t)
        generalize runE (sN (t.drop (hdP t))) (t.drop (hdP t)).length 0 = a' at SX e1
        generalize runE (sN t) t.length (hdP t) = s at *
        generalize hdP t = a at *
        have S2 := slice_to (some ⟨b, o, none⟩) t.length c s (by omega)
        have TX := fun (W : World) (hW : Below w.heap.size w W) => text_any (some ⟨b, o, none⟩) (t.take s) s c W (by simp; omega) (by simp; omega) ((hI.on hW).take _)
        have H1 : Hid ((1 < t.length → (iAt t 1 == 60) = false)) := fun h => by simp; intro e; exact h2 ⟨h, e⟩
        by_cases h3 : 1 < a
        · have h3' : (1 : Int) < a := by omega
          by_cases h4 : s = a
          · rw [if_pos ⟨hiff.2 h3, h4⟩] at hV
            subst hV
            subst h4
            first | rw [tagV_none] | rw [tagV_some]
            by_cases h5 : 1 < t.length
            · have h5' : (1 : Int) < t.length := by omega
              have h6 := H1.out h5
              have c1 := hu 1 h5
              generalize iAt t 1 = x1 at c1 h6
              clear hu hI hI0 h1 TX S2 hiff H1 h2
              go_enter Try.func38, Try.ntmps38
              go_wp2_with (first | (go_at_call 62; refine HD.mono ?_; rintro e w ⟨rfl, rfl⟩) | (go_at_call 63; refine SX.mono ?_; rintro e W ⟨rfl, hB⟩))
              go_ret3
              exact ⟨rfl, hB⟩
            · have h5' : ¬ (1 : Int) < t.length := by omega
              clear hu hI hI0 h1 TX S2 hiff H1 h2
              go_enter Try.func38, Try.ntmps38
              go_wp2_with (first | (go_at_call 62; refine HD.mono ?_; rintro e w ⟨rfl, rfl⟩) | (go_at_call 63; refine SX.mono ?_; rintro e W ⟨rfl, hB⟩))
              go_ret3
              exact ⟨rfl, hB⟩
          · rw [if_neg (fun h => h4 h.2)] at hV
            subst hV
            first | rw [tagV_none] | rw [tagV_some]
            have h4' : ((s : Int) == (a : Int)) = false := by simp; omega
            generalize txt (t.take s) = z at TX ⊢
            by_cases h5 : 1 < t.length
            · have h5' : (1 : Int) < t.length := by omega
              have h6 := H1.out h5
              have c1 := hu 1 h5
              generalize iAt t 1 = x1 at c1 h6
              clear hu hI hI0 h1 hiff H1 h2 h4
              go_enter Try.func38, Try.ntmps38
              go_wp2_with (first | (go_at_call 62; refine HD.mono ?_; rintro e w ⟨rfl, rfl⟩) | (go_at_call 63; refine SX.mono ?_; rintro e W ⟨rfl, hB⟩) | (go_at_call 64; refine (TX _ hB).mono ?_; rintro e W2 ⟨rfl, hB2⟩))
              go_ret3
              exact ⟨rfl, hB.trans (hB2.mono hB.size)⟩
            · have h5' : ¬ (1 : Int) < t.length := by omega
              clear hu hI hI0 h1 hiff H1 h2 h4
              go_enter Try.func38, Try.ntmps38
              go_wp2_with (first | (go_at_call 62; refine HD.mono ?_; rintro e w ⟨rfl, rfl⟩) | (go_at_call 63; refine SX.mono ?_; rintro e W ⟨rfl, hB⟩) | (go_at_call 64; refine (TX _ hB).mono ?_; rintro e W2 ⟨rfl, hB2⟩))
              go_ret3
              exact ⟨rfl, hB.trans (hB2.mono hB.size)⟩
        · have h3' : ¬ (1 : Int) < a := by omega
          rw [if_neg (fun h => h3 (hiff.1 h.1))] at hV
          subst hV
          first | rw [tagV_none] | rw [tagV_some]
          generalize txt (t.take s) = z at TX ⊢
          by_cases h5 : 1 < t.length
          · have h5' : (1 : Int) < t.length := by omega
            have h6 := H1.out h5
            have c1 := hu 1 h5
            generalize iAt t 1 = x1 at c1 h6
            clear hu hI hI0 h1 hiff H1 h2
            go_enter Try.func38, Try.ntmps38
            go_wp2_with (first | (go_at_call 62; refine HD.mono ?_; rintro e w ⟨rfl, rfl⟩) | (go_at_call 63; refine SX.mono ?_; rintro e W ⟨rfl, hB⟩) | (go_at_call 64; refine (TX _ hB).mono ?_; rintro e W2 ⟨rfl, hB2⟩))
            go_ret3
            exact ⟨rfl, hB.trans (hB2.mono hB.size)⟩
          · have h5' : ¬ (1 : Int) < t.length := by omega
            clear hu hI hI0 h1 hiff H1 h2
            go_enter Try.func38, Try.ntmps38
            go_wp2_with (first | (go_at_call 62; refine HD.mono ?_; rintro e w ⟨rfl, rfl⟩) | (go_at_call 63; refine SX.mono ?_; rintro e W ⟨rfl, hB⟩) | (go_at_call 64; refine (TX _ hB).mono ?_; rintro e W2 ⟨rfl, hB2⟩))
            go_ret3
            exact ⟨rfl, hB.trans (hB2.mono hB.size)⟩
    · rw [if_pos (.inr h1)] at hV
      subst hV
      first | rw [tagV_none] | rw [tagV_some]
      have h1' : (iAt t 0 == 33) = false := by simpa using h1
      generalize iAt t 0 = x at c0 h1'
      clear hu hI hI0 h1
      go_enter Try.func38, Try.ntmps38
      go_wp2
      go_ret3
      exact ⟨rfl, Below.refl _ _⟩
end Go.Proofs.Ytmeojnpehmhmoaa
