/- GraphReach, as it runs. -/
import Derived.Test.YtjfeamfchgcblaaDoorRhf
set_option linter.all false
set_option maxRecDepth 100000
namespace Go.Proofs.YtjfeamfchgcblaaDoor
open Go.RowKit Go.Shelf
attribute [local go_sem] Oper.semAt_some

set_option maxHeartbeats 8000000 in
theorem reach_law (p pr : Option Addr) (c cr : Nat) (G : List Gn) (rs : List Int) (a b : Int) (w : World) (hT : Tabs w) (hG : Gs w p G) (hI : Is w pr rs)
    (hb : ∀ x ∈ G, x.kids.length ≤ 1000000000000000 ∧ x.text.size ≤ 1000000000000000 ∧ x.tag.size ≤ 1000000000000000) (hl : G.length ≤ 1000000000000000) (hr : rs.length ≤ 1000000000000000) :
    Calls Tryd.prog 4 #[grV p G.length c pr rs.length cr, .int .i64 a, .int .i64 b] w fun e w' => e = .returned (.bool true) ∧ Below w.heap.size w w' := by
  have hB := (Below.refl w.heap.size w).alloc (Nat.le_refl _) (.cells #[.slice p G.length c, .slice pr rs.length cr] 25)
  have b0 : (w.alloc (.cells #[.slice p G.length c, .slice pr rs.length cr] 25)).heap[w.heap.size]? = some (.cells #[.slice p G.length c, .slice pr rs.length cr] 25) := World.alloc_heap_new w _
  obtain ⟨w1, hw1⟩ : ∃ w1, w.alloc (.cells #[.slice p G.length c, .slice pr rs.length cr] 25) = w1 := ⟨_, rfl⟩
  rw [hw1] at hB b0
  have hg1 := g2_of b0
  have hs1 : w.heap.size < w1.heap.size := (Array.getElem?_eq_some_iff.1 b0).1
  have AL := alive_any w1 (lowP.on hT (by rw [← hw1]; exact (Below.refl w.heap.size w).alloc (Nat.le_refl _) _))
  have BG : Hid (∀ W, Below w.heap.size w W → _) := fun W hb2 => Big_any p pr c rs.length cr G W (hG.on hb2) hb hl hr
  clear b0
  cases hbig : bigP G rs.length with
  | true =>
    unfold grV at BG ⊢
    rw [hbig] at BG
    go_enter Tryd.func4, Tryd.ntmps4
    go_wp2_with (first | (go_at_call 7; (try rw [hw1]); refine AL.mono ?_; clear AL; rintro e W1 ⟨rfl, hb1⟩; obtain ⟨g10, g11⟩ := hg1.on hb1; have hB1 := hB.trans (hb1.mono hB.size); have BG1 := BG.out W1 hB1) | (go_at_call 8; refine BG1.mono ?_; clear BG1; rintro e W2 ⟨rfl, hb2⟩; have hB2 := hB1.trans (hb2.mono hB1.size)))
    go_ret
    exact ⟨rfl, hB2⟩
  | false =>
    obtain ⟨hz, hrs, -, -⟩ := big_gz hbig
    rw [hbig] at BG
    have hrs2 : rs.length ≤ 1000000 := by omega
    have MA : Hid (∀ W, Below w.heap.size w W → _) := fun W hb2 => rMay_any lowG p pr c cr G rs a W (hG.on hb2) hz (hI.on hb2) hrs2
    cases hma : mayP ritB rvB G rs a with
    | false =>
      rw [hma] at MA
      unfold grV at BG MA ⊢
      clear hz hI hG hT
      go_enter Tryd.func4, Tryd.ntmps4
      go_wp2_with (first | (go_at_call 7; (try rw [hw1]); refine AL.mono ?_; clear AL; rintro e W1 ⟨rfl, hb1⟩; obtain ⟨g10, g11⟩ := hg1.on hb1; have hB1 := hB.trans (hb1.mono hB.size); have BG1 := BG.out W1 hB1) | (go_at_call 8; refine BG1.mono ?_; clear BG1; rintro e W2 ⟨rfl, hb2⟩; have hB2 := hB1.trans (hb2.mono hB1.size); obtain ⟨g20, g21⟩ := (hg1.on hb1).on hb2; have MA2 := MA.out W2 hB2) | (go_at_call 18; refine MA2.mono ?_; clear MA2; rintro e W3 ⟨rfl, hb3⟩; have hB3 := hB2.trans (hb3.mono hB2.size)))
      go_ret
      exact ⟨rfl, hB3⟩
    | true =>
      rw [hma] at MA
      have MB : Hid (∀ W, Below w.heap.size w W → _) := fun W hb2 => rMay_any lowG p pr c cr G rs b W (hG.on hb2) hz (hI.on hb2) hrs2
      cases hmb : mayP ritB rvB G rs b with
      | false =>
        rw [hmb] at MB
        unfold grV at BG MA MB ⊢
        clear hz hI hG hT
        go_enter Tryd.func4, Tryd.ntmps4
        go_wp2_with (first | (go_at_call 7; (try rw [hw1]); refine AL.mono ?_; clear AL; rintro e W1 ⟨rfl, hb1⟩; obtain ⟨g10, g11⟩ := hg1.on hb1; have hB1 := hB.trans (hb1.mono hB.size); have BG1 := BG.out W1 hB1) | (go_at_call 8; refine BG1.mono ?_; clear BG1; rintro e W2 ⟨rfl, hb2⟩; have hB2 := hB1.trans (hb2.mono hB1.size); obtain ⟨g20, g21⟩ := (hg1.on hb1).on hb2; have MA2 := MA.out W2 hB2) | (go_at_call 18; refine MA2.mono ?_; clear MA2; rintro e W3 ⟨rfl, hb3⟩; have hB3 := hB2.trans (hb3.mono hB2.size); obtain ⟨g30, g31⟩ := ((hg1.on hb1).on hb2).on hb3; have MB3 := MB.out W3 hB3) | (go_at_call 18; refine MB3.mono ?_; clear MB3; rintro e W4 ⟨rfl, hb4⟩; have hB4 := hB3.trans (hb4.mono hB3.size)))
        go_ret
        exact ⟨rfl, hB4⟩
      | true =>
        rw [hmb] at MB
        obtain ⟨f0, f1, f2⟩ := reach_facts hma
        have hLl := reach_len (rit := ritB) (rv := rvB) (G := G) (rs := rs) (r := a) hz.n
        have hZl := reach_len (rit := ritB) (rv := rvB) (G := G) (rs := rs) (r := b) hz.n
        have hn := hz.n
        obtain ⟨TH, hTH⟩ : ∃ TH, decide (b ∈ reachP ritB rvB G rs a) = TH := ⟨_, rfl⟩
        have F1 : Hid (TH = true → (∀ j, j < (reachP ritB rvB G rs b).length → iAt (reachP ritB rvB G rs b) j ∈ reachP ritB rvB G rs a) ∧ (cycP ritB rvB G rs b = true → cycP ritB rvB G rs a = true)) := fun h => by
          rw [h, decide_eq_true_iff] at hTH
          exact reach_trans hma hmb hTH
        have RA : Hid (∀ W, Below w.heap.size w W → _) := fun W hb2 => Reach_any lowP p pr c cr G rs a W (lowP.on hT hb2) (hG.on hb2) hz (hI.on hb2) hrs2
        have RB : Hid (∀ W, Below w.heap.size w W → _) := fun W hb2 => Reach_any lowP p pr c cr G rs b W (lowP.on hT hb2) (hG.on hb2) hz (hI.on hb2) hrs2
        have CA : Hid (∀ W, Below w.heap.size w W → _) := fun W hb2 => Cyclic_any lowP p pr c cr G rs a W (lowP.on hT hb2) (hG.on hb2) hz (hI.on hb2) hrs2
        have CB : Hid (∀ W, Below w.heap.size w W → _) := fun W hb2 => Cyclic_any lowP p pr c cr G rs b W (lowP.on hT hb2) (hG.on hb2) hz (hI.on hb2) hrs2
        have HKL : Hid (∀ x ∈ G, x.kids.length ≤ 1000000) := fun x hx => (hz.t x hx).2.2
        clear hz hI hT hma hmb hbig
        generalize reachP ritB rvB G rs a = L at *
        generalize reachP ritB rvB G rs b = Z at *
        generalize cycP ritB rvB G rs a = ca at *
        generalize cycP ritB rvB G rs b = cb at *
        have hLl0 : (0 : Int) < L.length := by omega
        have hLl2 : ((L.length : Int) == 0) = false := by simpa using (show ¬ L = [] by intro e; rw [e] at f0; simp at f0)
        have hLl1 : (L.length : Int) ≤ 30000 := by omega
        have hZl1 : (Z.length : Int) ≤ 30000 := by omega
        unfold grV at BG MA MB RA RB CA CB ⊢
        go_enter Tryd.func4, Tryd.ntmps4
        go_wp2_with (first | (go_at_call 7; (try rw [hw1]); refine AL.mono ?_; clear AL; rintro e W1 ⟨rfl, hb1⟩; obtain ⟨g10, g11⟩ := hg1.on hb1; have hB1 := hB.trans (hb1.mono hB.size); have BG1 := BG.out W1 hB1) | (go_at_call 8; refine BG1.mono ?_; clear BG1; rintro e W2 ⟨rfl, hb2⟩; have hB2 := hB1.trans (hb2.mono hB1.size); obtain ⟨g20, g21⟩ := (hg1.on hb1).on hb2; have MA2 := MA.out W2 hB2) | (go_at_call 18; refine MA2.mono ?_; clear MA2; rintro e W3 ⟨rfl, hb3⟩; have hB3 := hB2.trans (hb3.mono hB2.size); obtain ⟨g30, g31⟩ := ((hg1.on hb1).on hb2).on hb3; have MB3 := MB.out W3 hB3) | (go_at_call 18; refine MB3.mono ?_; clear MB3; rintro e W4 ⟨rfl, hb4⟩; have hB4 := hB3.trans (hb4.mono hB3.size); have hg4 := (((hg1.on hb1).on hb2).on hb3).on hb4; obtain ⟨g40, g41⟩ := id hg4; have RA4 := RA.out W4 hB4) | (go_at_call 12; refine RA4.mono ?_; clear RA4; rintro e W5 ⟨v5, rfl, ho5, hb5⟩; obtain ⟨a5, k5, c5, rfl⟩ := ownsRow_form ho5; obtain ⟨hI5, rfl, hkc5, hcm5⟩ := is_of_row ho5; have hB5 := hB4.trans (hb5.mono hB4.size); have hg5 := hg4.on hb5; obtain ⟨g50, g51⟩ := id hg5; have RB5 := RB.out W5 hB5) | (go_at_call 12; refine RB5.mono ?_; clear RB5; rintro e W6 ⟨v6, rfl, ho6, hb6⟩; obtain ⟨a6, k6, c6, rfl⟩ := ownsRow_form ho6; obtain ⟨hI6, rfl, -, -⟩ := is_of_row ho6; have hB6 := hB5.trans (hb6.mono hB5.size); have hg6 := hg5.on hb6; have hI56 := hI5.on hb6; have HS6 := has_any a5 L c5 b W6 hI56 (by omega); rw [hTH] at HS6) | (go_at_call 19; refine HS6.mono ?_; clear HS6; rintro e W7 ⟨rfl, hw7⟩; subst hw7))
        clear BG MA MB RA RB hg1 g10 g11 g20 g21 g30 g31 g40 g41 g50 g51 ho5 ho6 hI5 hTH hB hB1 hB2 hB3 hB4 hB5 hb1 hb2 hb3 hb4 hb5 hb6
        have F3 : Hid (_) := f2
        clear f2
        go_loop [12] (fun ri => ∃ i : Nat, i ≤ Z.length ∧ ri = .int .i64 i) (fun ri => Z.length - (RowKit.intOf ri).toNat)
        case atStart => exact ⟨0, Nat.zero_le _, rfl⟩
        case round =>
          obtain ⟨i, hi, rfl⟩ := hrel
          by_cases hlt : i < Z.length ∧ TH = true
          · obtain ⟨hlt, rfl⟩ := hlt
            obtain ⟨hz1, -⟩ := F1.out (by first | rfl | trivial)
            obtain ⟨b6, o6, rfl, hc6⟩ := hI6.at (by omega)
            have c1 := hc6 i hlt
            have hm := hz1 i hlt
            have hlt' : (i : Int) < Z.length := by omega
            have HA := has_any a5 L c5 (iAt Z i) W7 hI56 (by omega)
            rw [decide_eq_true hm] at HA
            clear hz1 hc6 hm F1 F3
            generalize iAt Z i = z at *
            go_wp2_with (first | (go_at_call 19; refine HA.mono ?_; clear HA; rintro e W8 ⟨rfl, hw8⟩; subst hw8))
            go_round
            case rel => exact ⟨i + 1, by omega, by go_num⟩
            case measure => simp [RowKit.intOf]; omega
          · have hi' : (i : Int) ≤ Z.length := by omega
            have hif : TH = true → i = Z.length := fun h => by
              have : ¬ i < Z.length := fun h2 => hlt ⟨h2, h⟩
              omega
            clear hlt
            obtain ⟨bx, ox, rfl, hc5⟩ := hI56.at f0
            have c0 := hc5 0 f0
            rw [f1, Nat.add_zero] at c0
            clear hI6
            have hif2 : TH = false ∨ (TH = true ∧ i = Z.length) := by
              cases TH
              · exact .inl rfl
              · exact .inr ⟨rfl, hif rfl⟩
            clear hif
            rcases hif2 with rfl | ⟨rfl, rfl⟩
            all_goals go_wp2
            all_goals
              go_loopw [13] (fun ri wr => ∃ (i m : Nat), i ≤ L.length ∧ ri = .int .i64 i ∧ wr = W7.drewN m) (fun ri _ => L.length - (RowKit.intOf ri).toNat)
              case atStart => exact ⟨0, 0, Nat.zero_le _, rfl, rfl⟩
              case round =>
                clear c0
                obtain ⟨i, m, hi, rfl, rfl⟩ := hrel
                by_cases hlt : i < L.length
                · obtain ⟨k, e1, hk, hni, hkd⟩ := F3.out i hlt
                  have c1 := hc5 i hlt
                  rw [e1] at c1
                  have HS : Hid (∀ n, Calls Tryd.prog 19 #[.slice (some ⟨bx, ox, none⟩) i c5, .int .i64 (k : Int)] (W7.drewN (m + n)) fun e w' => e = .returned (.bool false) ∧ ∃ n, w' = W7.drewN (m + n)) := fun n => by
                    have := has_any (some ⟨bx, ox, none⟩) (L.take i) c5 (k : Int) (W7.drewN (m + n)) ((hI56.drewN (m + n)).take i) (by rw [List.length_take]; omega)
                    rw [decide_eq_false hni, List.length_take, Nat.min_eq_left (by omega)] at this
                    exact this.mono fun e w' h => ⟨h.1, n, h.2⟩
                  have hG7 := hG.on hB6
                  obtain ⟨bg, og, rfl, hcg⟩ := hG7.at_ (by omega)
                  have x3 := (hcg k hk).c3
                  have hkk := (hG7.k k hk).is
                  have hkl := HKL.out _ (gAt_mem hk)
                  have HKD : Hid (∀ m, m < (gAt G k).kids.length → iAt (gAt G k).kids m ∈ L) := hkd
                  have hlt' : (i : Int) < L.length := by omega
                  have hk' : (k : Int) < G.length := by omega
                  have g0 := hg6.c0
                  have g1 := hg6.c1
                  clear hkd hni e1 hG hG7 hcg F3 hc5
                  generalize (gAt G k).q = q at x3 hkk
                  generalize (gAt G k).kids = kids at *
                  generalize (gAt G k).c = ck at x3
                  go_wp2
                  have d0 : decide ((k : Int) < 0) = false := decide_eq_false (by omega)
                  have d1 : decide ((G.length : Int) ≤ k) = false := decide_eq_false (by omega)
                  have d2 : decide (G.length ≤ k) = false := decide_eq_false (by omega)
                  have SL := slice_to (some ⟨bx, ox, none⟩) L.length c5 i (by omega)
                  have SL1 : (i : Int) ≤ c5 := by omega
                  have SL2 : ¬ c5 = 0 := by omega
                  have SL3 : (⟨bx, ox, none⟩ : Addr).add 0 = ⟨bx, ox, none⟩ := add_plain _ _ _
                  go_quiet ((exact HS.out _))
                  have g00 : decide ((0 : Int) ≤ k) = true := decide_eq_true (by omega)
                  go_wp2
                  go_quiet (fail)
                  go_wp2
                  simp only [World.drewN_drewN]
                  generalize m + _ + nq = m9
                  clear c1 x3 g0 g1 d0 d1 d2 g00 HS SL SL1 SL2 SL3
                  go_loop [15] (fun rj => ∃ j : Nat, j ≤ kids.length ∧ rj = .int .i64 j) (fun rj => kids.length - (RowKit.intOf rj).toNat)
                  case atStart => exact ⟨0, Nat.zero_le _, rfl⟩
                  case round =>
                    obtain ⟨j, hj, rfl⟩ := hrel
                    by_cases hjl : j < kids.length
                    · obtain ⟨bq, oq, rfl, hcq⟩ := hkk.at (by omega)
                      have cq := hcq j hjl
                      have hmj := HKD.out j hjl
                      have hjl' : (j : Int) < kids.length := by omega
                      have HA := has_any (some ⟨bx, ox, none⟩) L c5 (iAt kids j) (W7.drewN m9) (hI56.drewN m9) (by omega)
                      rw [decide_eq_true hmj] at HA
                      clear hcq hkk HKD hmj
                      generalize iAt kids j = z at *
                      go_wp2_with (first | (go_at_call 19; refine HA.mono ?_; clear HA; rintro e W8 ⟨rfl, hw8⟩; subst hw8))
                      go_round
                      case rel => exact ⟨j + 1, by omega, by go_num⟩
                      case measure => simp [RowKit.intOf]; omega
                    · obtain rfl : j = kids.length := by omega
                      clear hkk HKD
                      go_wp2
                      go_roundw
                      case rel => exact ⟨i + 1, m9, by omega, by go_num, rfl⟩
                      case measure => simp [RowKit.intOf]; omega
                · obtain rfl : i = L.length := by omega
                  clear F3 hc5 HKL hG
                  first
                  | (go_wp2
                     go_ret
                     exact ⟨rfl, below_drewN hB6 m⟩)
                  | (obtain ⟨-, hcc⟩ := F1.out (by first | rfl | trivial)
                     have hB7 := below_drewN hB6 m
                     have hD7 : Below W7.heap.size W7 (W7.drewN m) := below_drewN (Below.refl _ W7) m
                     have CB7 := CB.out _ hB7
                     obtain ⟨g0, g1⟩ := id hg6
                     clear F1
                     cases cb with
                     | false =>
                       go_wp2_with (first | (go_at_call 14; refine CB7.mono ?_; clear CB7; rintro e W8 ⟨rfl, hb8⟩))
                       go_ret
                       exact ⟨rfl, hB7.trans (hb8.mono hB7.size)⟩
                     | true =>
                       obtain rfl := hcc (by first | rfl | trivial)
                       go_wp2_with (first | (go_at_call 14; refine CB7.mono ?_; clear CB7; rintro e W8 ⟨rfl, hb8⟩; have hB8 := hB7.trans (hb8.mono hB7.size); have CA8 := CA.out _ hB8; obtain ⟨g80, g81⟩ := hg6.on (hD7.trans (hb8.mono hD7.size))) | (go_at_call 14; refine CA8.mono ?_; clear CA8; rintro e W9 ⟨rfl, hb9⟩))
                       go_ret
                       exact ⟨rfl, hB8.trans (hb9.mono hB8.size)⟩)
end Go.Proofs.YtjfeamfchgcblaaDoor
