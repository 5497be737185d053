/- Write of a text between single quotes, as it runs; the document's own. -/
import Derived.Test.YtfblagepgflndaaWrt
set_option linter.unusedVariables false
set_option linter.unusedSimpArgs false
namespace Go.Proofs.Ytfblagepgflndaa
open Go.RowKit Go.Shelf

def writeS (t : List Int) : List Int := if mayP t then 39 :: (wrP t ++ [39]) else []
theorem owns_lit1 (w : World) (x : Int) : Owns (w.alloc (.cells #[.int .i64 x] 3)) w.heap.size (.slice (some ⟨w.heap.size, 0, none⟩) 1 1) [x] :=
  World.ownsRow_lit (base := w.heap.size) (e := 3) (size := 1) w #[.int .i64 x] 1 (Nat.le_refl _) (by unfold maxLen; omega) rfl

set_option maxRecDepth 100000 in
set_option maxHeartbeats 1000000 in
theorem Write_any (q : Option Addr) (t : List Int) (c : Nat) (w : World) (hn : t.length ≤ 1099511627776) (hI : Is w q t) :
    Calls Try.prog 13 #[.slice q t.length c] w fun e w' => ∃ v, e = .returned v ∧ Owns w' w.heap.size v (writeS t) ∧ Below w.heap.size w w' := by
  have MY := May_any q t c w hn hI
  cases hm : mayP t with
  | false =>
    rw [hm] at MY
    have HW : Hid (writeS t = []) := by show _ = _; unfold writeS; rw [hm]; rfl
    clear hm
    go_enter Try.func13, Try.ntmps13
    go_wp2_with (first | (go_at_call 12; refine MY.mono ?_; rintro e w' ⟨rfl, rfl⟩))
    go_ret
    exact ⟨_, rfl, by rw [HW.out]; exact World.ownsRow_nil _ _ 3 1, Below.refl _ _⟩
  | true =>
    rw [hm] at MY
    have HW : Hid (writeS t = 39 :: wrP t ++ [39]) := by show _ = _; unfold writeS; rw [hm]; rfl
    clear hm
    have ho1 := owns_lit1 w 39
    have hB1 := (Below.refl w.heap.size w).alloc (Nat.le_refl _) (.cells #[.int .i64 39] 3)
    have hs1 : (w.alloc (.cells #[.int .i64 39] 3)).heap.size = w.heap.size + 1 := by simp
    have hs2 : ((w.alloc (.cells #[.int .i64 39] 3)).alloc (.cells #[.slice q t.length c] 24)).heap.size = w.heap.size + 1 + 1 := by simp
    have WR := callsIn_wide.1 (written_in 0 q t.length c (w.alloc (.cells #[.int .i64 39] 3)))
    rw [hs1] at WR
    have b2 := Boxed.new (w.alloc (.cells #[.int .i64 39] 3)) 24 (.slice q t.length c)
    rw [hs1] at b2
    have hB2 := hB1.alloc (by omega) (.cells #[.slice q t.length c] 24)
    have SQ := written_seq (1 - 1) (w.heap.size + 1) c q t (by omega) _ b2.cell (hI.on hB2)
    have hwl := wr_len t
    have AS := callsIn_wide.1 (appendSeqT 1 (Nat.le_refl _) 30 _ _ (Xs q t (w.heap.size + 1)) w.heap.size _ _ _ [39] _ (enters_of Try.func30 (by kernel_rfl) rfl) (fun b h => by rw [hs2]; exact xs_lt hI (by omega) (by omega) b h) (by omega) (by simp; omega) (ho1.alloc (.cells #[.slice q t.length c] 24)) (by
      intro g e
      cases e
      rintro (e | ⟨hl, a, ha, e⟩)
      · dsimp only at e; omega
      · have := hI.lt a ha hl
        dsimp only at e
        omega) SQ)
    clear SQ b2 hs1 hs2
    generalize wrP t = T at AS HW hwl
    go_enter Try.func13, Try.ntmps13
    go_wp2_with (first | (go_at_call 12; refine MY.mono ?_; rintro e w' ⟨rfl, rfl⟩) | (go_at_call 22; refine WR.mono ?_; rintro e w' ⟨rfl, rfl⟩) | (go_at_call 21; refine AS.mono ?_; rintro e W6 ⟨v6, rfl, ho6, hb6⟩; obtain ⟨v6a, v6k, v6c, rfl⟩ := ownsRow_form ho6; obtain ⟨v4, W4, hr4, ho4, hb4⟩ := push1w ho6 (hB2.trans hb6).size (by simp; omega) 39; obtain ⟨v4a, v4k, v4c, rfl⟩ := ownsRow_form ho4) | (at_builtin; refine wpList_append_run (u := .slice v6a v6k v6c) (y := .slice (some ⟨W6.heap.size, 0, none⟩) 1 1) rfl _ _ 24 rfl rfl rfl hr4 ?_; clear hr4))
    go_ret
    exact ⟨_, rfl, by rw [HW.out]; exact ho4, (hB2.trans hb6).trans hb4⟩

theorem wr_snoc (t : List Int) {k : Nat} (h : k < t.length) : wrP (t.take (k + 1)) = wrP (t.take k) ++ (if iAt t k = 39 then [39, 39] else [iAt t k]) := by
  rw [take_more h]
  generalize t.take k = l
  induction l with
  | nil => simp only [List.nil_append, wrP]
  | cons c r ih =>
    rw [List.cons_append, wrP, wrP, ih]
    split <;> simp

set_option maxRecDepth 100000 in
set_option maxHeartbeats 1000000 in
theorem refWrite_any (q : Option Addr) (t : List Int) (c : Nat) (w : World) (hn : t.length ≤ 1099511627776) (hI : Is w q t) :
    Calls Try.prog 15 #[.slice q t.length c] w fun e w' => ∃ v, e = .returned v ∧ Owns w' w.heap.size v (writeS t) ∧ Below w.heap.size w w' := by
  have MY := refMay_any q t c w hn hI
  have hn2 : (t.length : Int) ≤ 1099511627776 := by omega
  cases hm : mayP t with
  | false =>
    rw [hm] at MY
    have HW : Hid (writeS t = []) := by show _ = _; unfold writeS; rw [hm]; rfl
    clear hm
    go_enter Try.func15, Try.ntmps15
    go_wp2_with (first | (go_at_call 14; refine MY.mono ?_; rintro e w ⟨rfl, rfl⟩))
    go_ret
    exact ⟨_, rfl, by rw [HW.out]; exact World.ownsRow_nil _ _ 3 1, Below.refl _ _⟩
  | true =>
    rw [hm] at MY
    have HW : Hid (writeS t = 39 :: wrP t ++ [39]) := by show _ = _; unfold writeS; rw [hm]; rfl
    clear hm
    have ho1 := owns_lit1 w 39
    have hB1 := (Below.refl w.heap.size w).alloc (Nat.le_refl _) (.cells #[.int .i64 39] 3)
    go_enter Try.func15, Try.ntmps15
    go_wp2_with (first | (go_at_call 14; refine MY.mono ?_; rintro e w ⟨rfl, rfl⟩))
    generalize w.alloc (.cells #[.int .i64 39] 3) = W0 at ho1 hB1
    go_loopw [3, 4] (fun ov iv wr => ∃ (k : Nat), k ≤ t.length ∧ iv = .int .i64 k ∧ Owns wr w.heap.size ov (39 :: wrP (t.take k)) ∧ Below w.heap.size w wr) (fun _ iv _ => t.length - (intOf iv).toNat)
    case atStart => exact ⟨0, Nat.zero_le _, rfl, by simpa [wrP] using ho1, hB1⟩
    case round =>
      obtain ⟨k, hk, rfl, ho, hb⟩ := hrel
      obtain ⟨va, vk, vq, rfl⟩ := ownsRow_form ho
      have hwl := wr_len (t.take k)
      rw [List.length_take] at hwl
      by_cases hlt : k < t.length
      · have hli : (k : Int) < t.length := by omega
        obtain ⟨b, o, rfl, hu⟩ := (hI.on hb).at (by omega)
        have c0 := hu k hlt
        have HT : Hid (wrP (t.take (k + 1)) = wrP (t.take k) ++ (if iAt t k = 39 then [39, 39] else [iAt t k])) := wr_snoc t hlt
        obtain ⟨v4, W4, hr4, ho4, hb4⟩ := push1w ho hb.size (by rw [List.length_cons]; omega) (iAt t k)
        obtain ⟨v4a, v4k, v4c, rfl⟩ := ownsRow_form ho4
        have hb5 := hb.trans hb4
        obtain ⟨b', o', e', hu'⟩ := (hI.on hb5).at (by omega)
        cases e'
        have c4 := hu' k hlt
        by_cases h1 : iAt t k = 39
        · rw [h1, if_pos rfl] at HT
          rw [h1] at c0 c4 ho4 hr4
          obtain ⟨v5, W5, hr5, ho5, hb6⟩ := push1w ho4 hb5.size (by simp; omega) 39
          obtain ⟨v5a, v5k, v5c, rfl⟩ := ownsRow_form ho5
          clear hu hu' hI h1
          go_wp2_with (first | (at_builtin; refine wpList_append_run (u := .slice va vk vq) (y := .slice (some ⟨wr.heap.size, 0, none⟩) 1 1) rfl _ _ 24 rfl rfl rfl hr4 ?_; clear hr4) | (at_builtin; refine wpList_append_run (u := .slice v4a v4k v4c) (y := .slice (some ⟨W4.heap.size, 0, none⟩) 1 1) rfl _ _ 24 rfl rfl rfl hr5 ?_; clear hr5))
          go_roundw
          case rel => exact ⟨k + 1, by omega, by go_num, by rw [HT.out]; simpa using ho5, hb5.trans hb6⟩
          case measure => simp [intOf]; omega
        · rw [if_neg h1] at HT
          have h1' : (iAt t k == 39) = false := by simpa using h1
          generalize iAt t k = x at c0 c4 ho4 hr4 HT h1 h1'
          clear hu hu' hI
          go_wp2_with (first | (at_builtin; refine wpList_append_run (u := .slice va vk vq) (y := .slice (some ⟨wr.heap.size, 0, none⟩) 1 1) rfl _ _ 24 rfl rfl rfl hr4 ?_; clear hr4))
          go_roundw
          case rel => exact ⟨k + 1, by omega, by go_num, by rw [HT.out]; exact ho4, hb5⟩
          case measure => simp [intOf]; omega
      · obtain rfl : k = t.length := by omega
        rw [List.take_length] at ho
        obtain ⟨v4, W4, hr4, ho4, hb4⟩ := push1w ho hb.size (by rw [List.length_cons]; rw [List.take_length] at hwl; omega) 39
        obtain ⟨v4a, v4k, v4c, rfl⟩ := ownsRow_form ho4
        clear hI
        go_wp2_with (first | (at_builtin; refine wpList_append_run (u := .slice va vk vq) (y := .slice (some ⟨wr.heap.size, 0, none⟩) 1 1) rfl _ _ 24 rfl rfl rfl hr4 ?_; clear hr4))
        go_ret
        exact ⟨_, rfl, by rw [HW.out]; exact ho4, hb.trans hb4⟩
end Go.Proofs.Ytfblagepgflndaa
