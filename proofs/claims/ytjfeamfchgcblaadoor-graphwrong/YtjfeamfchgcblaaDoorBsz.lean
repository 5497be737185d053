/- Bytes: slices of them, and the URI signs of a tag's bytes, as they run. -/
import Derived.Test.YtjfeamfchgcblaaDoorSgs
set_option linter.unusedVariables false
set_option linter.unusedSimpArgs false
namespace Go.Proofs.YtjfeamfchgcblaaDoor
open Go.RowKit Go.Shelf

/-- The slice at p holds these bytes; of an empty one nothing is asked. -/
def Bz (w : World) (p : Option Addr) (l : List Int) : Prop :=
  l = [] ∨ ∃ b o, p = some ⟨b, o, none⟩ ∧ ∀ j, j < l.length → w.cell? ⟨b, o + j, none⟩ = some (.int .u8 (iAt l j))
/-- All of them are bytes. -/
def By (t : List Int) : Prop := ∀ j, 0 ≤ iAt t j ∧ iAt t j < 256
theorem By.drop {t : List Int} (h : By t) (k : Nat) : By (t.drop k) := fun j => by rw [iAt_drop]; exact h (k + j)

theorem Bz.at {w : World} {p : Option Addr} {l : List Int} (h : Bz w p l) (hl : 0 < l.length) : ∃ b o, p = some ⟨b, o, none⟩ ∧ ∀ j, j < l.length → w.cell? ⟨b, o + j, none⟩ = some (.int .u8 (iAt l j)) := by
  rcases h with rfl | h
  · simp at hl
  · exact h
theorem Bz.below {n₀ : Nat} {A B : World} {p : Option Addr} {l : List Int} (h : Bz A p l) (hp : ∀ a, p = some a → 0 < l.length → a.block < n₀) (hb : Below n₀ A B) : Bz B p l := by
  rcases h with rfl | ⟨b, o, rfl, hc⟩
  · exact .inl rfl
  · exact .inr ⟨b, o, rfl, fun j hj => (hb.cell (p := ⟨b, o + j, none⟩) (hp ⟨b, o, none⟩ rfl (by omega))).trans (hc j hj)⟩
theorem Bz.lt {w : World} {p : Option Addr} {l : List Int} (h : Bz w p l) : ∀ a, p = some a → 0 < l.length → a.block < w.heap.size := by
  intro a e hl
  obtain ⟨b, o, rfl, hc⟩ := h.at hl
  cases e
  exact World.block_lt_of_cell? w ⟨b, o + 0, none⟩ (hc 0 hl)
theorem Bz.on {A B : World} {p : Option Addr} {l : List Int} (h : Bz A p l) (hb : Below A.heap.size A B) : Bz B p l := h.below h.lt hb
theorem Bz.drop {w : World} {b o : Nat} {l : List Int} (h : Bz w (some ⟨b, o, none⟩) l) (k : Nat) : Bz w (some ⟨b, o + k, none⟩) (l.drop k) := by
  rcases h with rfl | ⟨b', o', e, hc⟩
  · exact .inl (by simp)
  · cases e
    refine .inr ⟨b, o + k, rfl, fun j hj => ?_⟩
    have hj' : k + j < l.length := by simp at hj; omega
    rw [Nat.add_assoc, hc (k + j) hj']
    simp [iAt]
theorem xs_ltz {q : Option Addr} {t : List Int} {Bb B : Nat} {w : World} (hI : Bz w q t) (h1 : Bb < B) (h2 : w.heap.size ≤ B) (b : Nat) (h : Xs q t Bb b) : b < B := by
  rcases h with rfl | ⟨hl, a, ha, rfl⟩
  · exact h1
  · exact Nat.lt_of_lt_of_le (hI.lt a ha hl) h2
theorem Kq.bz {q : Option Addr} {Bb : Nat} {A C : World} {t : List Int} (h : Kq (Xs q t Bb) A C) (hI : Bz A q t) : Bz C q t := by
  rcases hI with e | ⟨b, o, rfl, hc⟩
  · exact .inl e
  · exact .inr ⟨b, o, rfl, fun j hj => (World.cell?_of_block (h.same b (.inr ⟨by omega, _, rfl, rfl⟩))).trans (hc j hj)⟩

set_option maxRecDepth 100000 in
set_option maxHeartbeats 2000000 in
theorem signSize8_any (q : Option Addr) (t : List Int) (n c : Nat) (w : World) (hl : n = t.length) (hn : t.length ≤ 1099511627776) (hr : By t) (hI : Bz w q t) :
    Calls Tryd.prog 50 #[.slice q n c] w fun e w' => e = .returned (.int .i64 (uN t 0 : Nat)) ∧ w' = w := by
  subst hl
  have hn2 : (t.length : Int) ≤ 1099511627776 := by omega
  obtain ⟨V, hV⟩ : ∃ V, uN t 0 = V := ⟨_, rfl⟩
  rw [hV]
  unfold uN at hV
  by_cases h0 : 0 < t.length
  · rw [if_neg (by omega)] at hV
    have h0' : (0 : Int) < t.length := by omega
    obtain ⟨b, o, rfl, hu⟩ := hI.at h0
    have c0 := hu 0 h0
    rw [Nat.add_zero] at c0
    have SI := stands_any (iAt t 0)
    have r0 := (hr 0).1
    have r0' := (hr 0).2
    cases hs : uriP (iAt t 0) with
    | true =>
      rw [hs] at SI hV
      rw [if_pos rfl] at hV
      subst hV
      generalize iAt t 0 = x at c0 SI r0 r0'
      clear hu hI hs
      go_enter Tryd.func50, Tryd.ntmps50
      go_wp2_with (first | (go_at_call 52; refine (SI _).mono ?_; rintro e w ⟨rfl, rfl⟩))
      go_ret
      exact ⟨rfl, rfl⟩
    | false =>
      rw [hs] at SI hV
      rw [if_neg (by simp)] at hV
      by_cases h2 : 2 < t.length
      · have h2' : (2 : Int) < t.length := by omega
        have c1 := hu 1 (by omega)
        have c2 := hu 2 (by omega)
        have X1 := hex_any (iAt t 1)
        have r1 := (hr 1).1
        have r1' := (hr 1).2
        have r2 := (hr 2).1
        have r2' := (hr 2).2
        have X2 := hex_any (iAt t 2)
        by_cases h3 : iAt t 0 = 37
        · have hV1 : (if hexOk (iAt t 1) = true ∧ hexOk (iAt t 2) = true then 3 else 0) = V := by rw [← hV]; simp [h2, h3]
          have hV2 : Hid _ := hV1
          clear hV1
          rw [h3] at c0 SI
          clear r0 r0'
          clear hu hI hs hV
          unfold hexOk at hV2
          simp only [decide_eq_true_eq] at hV2
          generalize iAt t 1 = x1 at c1 X1 hV2 r1 r1'
          generalize iAt t 2 = x2 at c2 X2 hV2 r2 r2'
          generalize hexP x1 = y1 at X1 hV2
          generalize hexP x2 = y2 at X2 hV2
          by_cases h4 : 0 ≤ y1
          · by_cases h5 : 0 ≤ y2
            · have := hV2.out
              rw [if_pos ⟨h4, h5⟩] at this
              subst this
              go_enter Tryd.func50, Tryd.ntmps50
              go_wp2_with fail
              refine (SI _).mono ?_; rintro e w ⟨rfl, rfl⟩
              go_wp2_with fail
              refine (X1 _).mono ?_; rintro e w ⟨rfl, rfl⟩
              go_wp2_with fail
              refine (X2 _).mono ?_; rintro e w ⟨rfl, rfl⟩
              go_wp2
              go_ret
              exact ⟨rfl, rfl⟩
            · have := hV2.out
              rw [if_neg (fun h => h5 h.2)] at this
              subst this
              go_enter Tryd.func50, Tryd.ntmps50
              go_wp2_with fail
              refine (SI _).mono ?_; rintro e w ⟨rfl, rfl⟩
              go_wp2_with fail
              refine (X1 _).mono ?_; rintro e w ⟨rfl, rfl⟩
              go_wp2_with fail
              refine (X2 _).mono ?_; rintro e w ⟨rfl, rfl⟩
              go_wp2
              go_ret
              exact ⟨rfl, rfl⟩
          · have := hV2.out
            rw [if_neg (fun h => h4 h.1)] at this
            subst this
            go_enter Tryd.func50, Tryd.ntmps50
            go_wp2_with fail
            refine (SI _).mono ?_; rintro e w ⟨rfl, rfl⟩
            go_wp2_with fail
            refine (X1 _).mono ?_; rintro e w ⟨rfl, rfl⟩
            go_wp2
            go_ret
            exact ⟨rfl, rfl⟩
        · rw [if_neg (fun h => h3 h.1)] at hV
          subst hV
          have h3' : (iAt t 0 == 37) = false := by simpa using h3
          generalize iAt t 0 = x at c0 SI h3' r0 r0'
          clear hu hI hs X1 X2 c1 c2 h3 r1 r1' r2 r2'
          go_enter Tryd.func50, Tryd.ntmps50
          go_wp2_with (first | (go_at_call 52; refine (SI _).mono ?_; rintro e w ⟨rfl, rfl⟩))
          go_ret
          exact ⟨rfl, rfl⟩
      · rw [if_neg (fun h => by omega)] at hV
        subst hV
        have h2' : ¬ (2 : Int) < t.length := by omega
        generalize iAt t 0 = x at c0 SI r0 r0'
        clear hu hI hs
        go_enter Tryd.func50, Tryd.ntmps50
        go_wp2_with (first | (go_at_call 52; refine (SI _).mono ?_; rintro e w ⟨rfl, rfl⟩))
        go_ret
        exact ⟨rfl, rfl⟩
  · have h0 : t.length = 0 := by omega
    rw [if_pos (by omega)] at hV
    subst hV
    rw [h0]
    have e0 : ((0 : Nat) : Int) = 0 := rfl
    go_enter Tryd.func50, Tryd.ntmps50
    go_wp2
    go_ret
    exact ⟨rfl, rfl⟩

end Go.Proofs.YtjfeamfchgcblaaDoor
