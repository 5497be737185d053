/- BlockBack, as it runs. -/
import Derived.Test.YtgmcomfeggidnaaBkl
set_option linter.unusedVariables false
set_option linter.unusedSimpArgs false
namespace Go.Proofs.Ytgmcomfeggidnaa
open Go.RowKit Go.Shelf

theorem ownsL_on {W W' : World} {base : Nat} {v : Value} {L : List Ln} (h : OwnsL W base v L) (hB : Below W.heap.size W W') : OwnsL W' base v L := by
  have hlt := h.lt
  obtain ⟨h0, h1 | ⟨g, cap, cur, rfl, hb, hg, rest⟩⟩ := h
  · exact ⟨h0, .inl h1⟩
  · exact ⟨h0, .inr ⟨g, cap, cur, rfl, hb, (hB.block g (hlt g rfl).2).trans hg, rest⟩⟩
theorem owns_on {W W' : World} {base : Nat} {v : Value} {t : List Int} (h : Owns W base v t) (hB : Below W.heap.size W W') : Owns W' base v t := by
  have hlt := h.lt
  obtain ⟨h0, h1 | ⟨g, cap, cur, rfl, hb, hg, rest⟩⟩ := h
  · exact ⟨h0, .inl h1⟩
  · exact ⟨h0, .inr ⟨g, cap, cur, rfl, hb, (hB.block g (hlt g rfl).2).trans hg, rest⟩⟩

set_option maxRecDepth 100000 in
set_option maxHeartbeats 16000000 in
theorem back_in (p : Option Addr) (R : List Row) (cap : Nat) (n more : Int) (w : World) (hM : Mt w p R) (g0 : ¬ R.length < 1) (g1 : ¬ 30 < R.length) (g2 : ¬ n < -1) (g3 : ¬ 20 < n) (g4 : ¬ more < 1) (g5 : ¬ 9 < more) :
    Calls Try.prog 5 #[.slice p R.length cap, .int .i64 n, .int .i64 more] w fun e w' => e = .returned (.bool true) ∧ Below w.heap.size w w' := by
  have g0' : ¬ (R.length : Int) < 1 := by omega
  have g1' : ¬ (30 : Int) < R.length := by omega
  obtain ⟨at_, hat⟩ : ∃ at_, max n 0 + more = at_ := ⟨_, rfl⟩
  have HAT : Hid (max n 0 + more = at_) := hat
  have ha0 : 1 ≤ at_ := by omega
  have ha1 : at_ ≤ 29 := by omega
  clear hat
  go_enter Try.func5, Try.ntmps5
  go_upto_if 54 with (first | (go_at_call 7; refine (alive_any _).mono ?_; rintro e w1 ⟨rfl, hb1⟩))
  go_cut [8] from 20 (fun s8 wx => s8 = .int .i64 at_ ∧ wx = w1)
  case first =>
    have hat := HAT.out
    by_cases h : n < 0
    · obtain rfl : more = at_ := by omega
      go_wp2
      go_meet
      case rel => exact ⟨rfl, by first | rfl | trivial⟩
    · obtain rfl : at_ = n + more := by omega
      clear hat
      go_wp2
      go_meet
      case rel => exact ⟨rfl, by first | rfl | trivial⟩
  case rest =>
    obtain ⟨rfl, rfl⟩ := hcut
    have IB : Hid (Ibk w at_ R 0 (.slice none 0 0) (.slice none 0 0) wc) := Ibk.start w at_ R wc hb1
    go_wp2
    go_loopw [9, 10, 11] (fun vi vw kv wr => ∃ k : Nat, k ≤ R.length ∧ kv = .int .i64 k ∧ Ibk w at_ R k vi vw wr) (fun _ _ kv _ => R.length - (intOf kv).toNat)
    case atStart => exact ⟨0, Nat.zero_le _, rfl, IB.out⟩
    case round =>
      obtain ⟨k, hk, rfl, hJ⟩ := hrel
      have hbJ := hJ.below
      by_cases hlt : k < R.length
      · have hli : (k : Int) < R.length := by omega
        obtain ⟨r, hr⟩ : ∃ r, R[k]? = some r := ⟨_, List.getElem?_eq_getElem hlt⟩
        obtain ⟨b0, o0, rfl, hcell⟩ := hM.at (by omega)
        have cw := hcell k r hr
        obtain ⟨x1, x2, hI0⟩ := hM.1 k r hr
        have hb0 : b0 < w.heap.size := hM.lt _ rfl (by omega)
        have c1 := (hbJ.cell (p := ⟨b0, o0 + k, none⟩) hb0).trans cw
        have HR : Hid (R[k]? = some r) := hr
        have hI := hI0.on hbJ
        clear hcell hr
        obtain ⟨rq, rt, rc⟩ := r
        dsimp only at c1 cw x1 x2 hI0 hI HR
        by_cases h100 : rt.length ≤ 100
        · have h100' : ¬ (100 : Int) < rt.length := by omega
          go_wp2
          go_loop [12] (fun iv => ∃ j : Nat, j ≤ rt.length ∧ iv = .int .i64 j ∧ Hid (∀ i, i < j → iAt rt i = 32)) (fun iv => rt.length - (intOf iv).toNat)
          case atStart => exact ⟨0, Nat.zero_le _, rfl, fun i hi => by omega⟩
          case round =>
            obtain ⟨j0, hj0, rfl, HJ⟩ := hrel
            by_cases hjl0 : j0 < rt.length
            · have hji0 : (j0 : Int) < rt.length := by omega
              obtain ⟨b5, o5, e5, hu5⟩ := hI.at (by omega)
              subst e5
              have cj0 := hu5 j0 hjl0
              by_cases h32 : iAt rt j0 = 32
              · have HJ' : Hid (∀ i, i < j0 + 1 → iAt rt i = 32) := fun i hi => by
                  by_cases e : i = j0
                  · subst e; exact h32
                  · exact HJ.out i (by omega)
                rw [h32] at cj0
                clear hu5 h32
                go_wp2
                go_round
                case rel => exact ⟨j0 + 1, by omega, by go_num, HJ'⟩
                case measure => simp [intOf]; omega
              · have h32' : (iAt rt j0 == 32) = false := by simpa using h32
                have hspn0 : spN rt = j0 := sp_eq rt j0 hj0 HJ.out (fun _ => h32)
                generalize iAt rt j0 = y0 at cj0 h32'
                clear hu5 h32
                have hsp' : (j0 : Int) ≤ rt.length := by omega
                have SF := slice_from (some ⟨b5, o5, none⟩ : Option Addr) rt.length rc j0 (by omega) x1
                have hq := hI0.from rc j0 x1
                generalize (if rc = j0 then (some ⟨b5, o5, none⟩ : Option Addr) else ((some ⟨b5, o5, none⟩ : Option Addr)).map (·.add j0)) = q7 at SF hq
                have hspn : spN rt = j0 := hspn0
                obtain ⟨v1, W1, v2, W2, v3, W3, R1, R2, ⟨a2, m2, c2, rfl⟩, R3, hJ3, hbW1, hI1⟩ := hJ.push (r := ⟨(some ⟨b5, o5, none⟩ : Option Addr), rt, rc⟩) HR.out (by omega) h100 x1 x2 hI0 q7 (by show Is w q7 (rt.drop (spN rt)); rw [hspn]; exact hq)
                dsimp only at R1 R2 R3
                rw [hspn] at R1
                obtain ⟨b9, m9, d9, e9⟩ := hJ3.fi
                obtain ⟨b8, m8, d8, e8⟩ := hJ3.fw
                subst e9
                subst e8
                go_wp2
                go_loop [13] (fun jv => ∃ j : Nat, j ≤ rt.length ∧ jv = .int .i64 j) (fun jv => rt.length - (intOf jv).toNat)
                case atStart => exact ⟨0, Nat.zero_le _, rfl⟩
                case round =>
                  obtain ⟨j, hj, rfl⟩ := hrel
                  by_cases hjl : j < rt.length
                  · have hji : (j : Int) < rt.length := by omega
                    obtain ⟨b6, o6, e6, hu5⟩ := hI.at (by omega)
                    cases e6
                    have cj := hu5 j hjl
                    have PR := rprint_any (iAt rt j)
                    cases hp : printP (iAt rt j) with
                    | false =>
                      rw [hp] at PR
                      generalize iAt rt j = y at cj PR
                      clear hu5 hp SF R1 R2 R3 hJ3
                      go_wp2_with (first | (go_at_call 14; refine (PR _).mono ?_; rintro e wr ⟨rfl, rfl⟩))
                      go_ret
                      exact ⟨rfl, hbJ⟩
                    | true =>
                      rw [hp] at PR
                      generalize iAt rt j = y at cj PR
                      by_cases h10 : y = 10
                      · subst h10
                        clear hu5 hp SF R1 R2 R3 hJ3
                        go_wp2_with (first | (go_at_call 14; refine (PR _).mono ?_; rintro e wr ⟨rfl, rfl⟩))
                        go_ret
                        exact ⟨rfl, hbJ⟩
                      · by_cases h13 : y = 13
                        · subst h13
                          clear hu5 hp SF R1 R2 R3 hJ3
                          go_wp2_with (first | (go_at_call 14; refine (PR _).mono ?_; rintro e wr ⟨rfl, rfl⟩))
                          go_ret
                          exact ⟨rfl, hbJ⟩
                        · have h10' : (y == 10) = false := by simpa using h10
                          have h13' : (y == 13) = false := by simpa using h13
                          clear hu5 hp SF R1 R2 R3 hJ3
                          go_wp2_with (first | (go_at_call 14; refine (PR _).mono ?_; rintro e wr ⟨rfl, rfl⟩))
                          go_round
                          case rel => exact ⟨j + 1, by omega, by go_num⟩
                          case measure => simp [intOf]; omega
                  · obtain rfl : j = rt.length := by omega
                    have c1' : W1.cell? ⟨b0, o0 + k, none⟩ = some (.slice (some ⟨b5, o5, none⟩ : Option Addr) rt.length rc) := (hbW1.cell (p := ⟨b0, o0 + k, none⟩) hb0).trans cw
                    obtain ⟨a7, m7, d7, e7⟩ := hJ.fi
                    obtain ⟨a6, m6, d6, e6⟩ := hJ.fw
                    subst e7
                    subst e6
                    go_wp2_with (first | (at_builtin; refine wpList_append_run rfl _ _ 34 rfl rfl rfl R1 ?_; clear R1) | (at_builtin; refine wpList_append_run rfl _ _ 22 rfl rfl rfl R2 ?_; clear R2) | (at_builtin; refine wpList_append_run rfl _ _ 22 rfl rfl rfl R3 ?_))
                    go_roundw
                    case rel => exact ⟨k + 1, by omega, by go_num, hJ3⟩
                    case measure => simp [intOf]; omega
            · obtain rfl : j0 = rt.length := by omega
              have hspn0 : spN rt = rt.length := sp_eq rt _ hj0 HJ.out (fun h => by omega)
              have hsp' : (rt.length : Int) ≤ rt.length := by omega
              have SF := slice_from rq rt.length rc rt.length (by omega) x1
              have hq := hI0.from rc rt.length x1
              generalize (if rc = rt.length then rq else (rq).map (·.add rt.length)) = q7 at SF hq
              have hspn : spN rt = rt.length := hspn0
              obtain ⟨v1, W1, v2, W2, v3, W3, R1, R2, ⟨a2, m2, c2, rfl⟩, R3, hJ3, hbW1, hI1⟩ := hJ.push (r := ⟨rq, rt, rc⟩) HR.out (by omega) h100 x1 x2 hI0 q7 (by show Is w q7 (rt.drop (spN rt)); rw [hspn]; exact hq)
              dsimp only at R1 R2 R3
              rw [hspn] at R1
              simp only [Nat.sub_self] at R1 SF
              obtain ⟨b9, m9, d9, e9⟩ := hJ3.fi
              obtain ⟨b8, m8, d8, e8⟩ := hJ3.fw
              subst e9
              subst e8
              go_wp2
              go_loop [13] (fun jv => ∃ j : Nat, j ≤ rt.length ∧ jv = .int .i64 j) (fun jv => rt.length - (intOf jv).toNat)
              case atStart => exact ⟨0, Nat.zero_le _, rfl⟩
              case round =>
                obtain ⟨j, hj, rfl⟩ := hrel
                by_cases hjl : j < rt.length
                · have hji : (j : Int) < rt.length := by omega
                  obtain ⟨b5, o5, rfl, hu5⟩ := hI.at (by omega)
                  have cj := hu5 j hjl
                  have PR := rprint_any (iAt rt j)
                  cases hp : printP (iAt rt j) with
                  | false =>
                    rw [hp] at PR
                    generalize iAt rt j = y at cj PR
                    clear hu5 hp SF R1 R2 R3 hJ3
                    go_wp2_with (first | (go_at_call 14; refine (PR _).mono ?_; rintro e wr ⟨rfl, rfl⟩))
                    go_ret
                    exact ⟨rfl, hbJ⟩
                  | true =>
                    rw [hp] at PR
                    generalize iAt rt j = y at cj PR
                    by_cases h10 : y = 10
                    · subst h10
                      clear hu5 hp SF R1 R2 R3 hJ3
                      go_wp2_with (first | (go_at_call 14; refine (PR _).mono ?_; rintro e wr ⟨rfl, rfl⟩))
                      go_ret
                      exact ⟨rfl, hbJ⟩
                    · by_cases h13 : y = 13
                      · subst h13
                        clear hu5 hp SF R1 R2 R3 hJ3
                        go_wp2_with (first | (go_at_call 14; refine (PR _).mono ?_; rintro e wr ⟨rfl, rfl⟩))
                        go_ret
                        exact ⟨rfl, hbJ⟩
                      · have h10' : (y == 10) = false := by simpa using h10
                        have h13' : (y == 13) = false := by simpa using h13
                        clear hu5 hp SF R1 R2 R3 hJ3
                        go_wp2_with (first | (go_at_call 14; refine (PR _).mono ?_; rintro e wr ⟨rfl, rfl⟩))
                        go_round
                        case rel => exact ⟨j + 1, by omega, by go_num⟩
                        case measure => simp [intOf]; omega
                · obtain rfl : j = rt.length := by omega
                  have c1' : W1.cell? ⟨b0, o0 + k, none⟩ = some (.slice rq rt.length rc) := (hbW1.cell (p := ⟨b0, o0 + k, none⟩) hb0).trans cw
                  obtain ⟨a7, m7, d7, e7⟩ := hJ.fi
                  obtain ⟨a6, m6, d6, e6⟩ := hJ.fw
                  subst e7
                  subst e6
                  go_wp2_with (first | (at_builtin; refine wpList_append_run rfl _ _ 34 rfl rfl rfl R1 ?_; clear R1) | (at_builtin; refine wpList_append_run rfl _ _ 22 rfl rfl rfl R2 ?_; clear R2) | (at_builtin; refine wpList_append_run rfl _ _ 22 rfl rfl rfl R3 ?_))
                  go_roundw
                  case rel => exact ⟨k + 1, by omega, by go_num, hJ3⟩
                  case measure => simp [intOf]; omega
        · have h100' : (100 : Int) < rt.length := by omega
          go_wp2
          go_ret
          exact ⟨rfl, hbJ⟩
      · obtain rfl : k = R.length := by omega
        obtain ⟨m, hm9, rfl⟩ : ∃ m : Nat, m < 9 ∧ more = ((m + 1 : Nat) : Int) := ⟨(more - 1).toNat, by omega, by omega⟩
        have hat := HAT.out
        obtain ⟨L, o1, s1, x1⟩ := hJ.ls
        have hws := hJ.ws
        have hwl := hJ.wl
        obtain ⟨a9, m9, d9, e9⟩ := hJ.fi
        obtain ⟨a8, m8, d8, e8⟩ := hJ.fw
        subst e9
        subst e8
        have hsw := hbJ.size
        have HD := Head_any (some ⟨wr.heap.size, 0, none⟩) [124, 48 + ((m + 1 : Nat) : Int), 43] 3 (wr.alloc (.cells #[.int .i64 124, .int .i64 (48 + ((m + 1 : Nat) : Int)), .int .i64 43] 3)) (by simp) (by simp) (by decide) (is_of_block (l := [124, 48 + ((m + 1 : Nat) : Int), 43]) (World.alloc_heap_new wr _))
        rw [ex_heads ⟨m, hm9⟩] at HD
        unfold headV at HD
        simp only [List.length_cons, List.length_nil, Nat.reduceAdd] at HD
        have hm1 : (1 : Int) ≤ ((m + 1 : Nat) : Int) := by omega
        have hm2 : ((m + 1 : Nat) : Int) ≤ 9 := by omega
        generalize ((m + 1 : Nat) : Int) = more at HD hm1 hm2 hat HAT g4 g5
        go_wp2_with (first | (go_at_call 8; refine HD.mono ?_; rintro e w2 ⟨rfl, hb2⟩))
        have hs2 : wr.heap.size + 1 ≤ w2.heap.size := by have := hb2.size; simpa using this
        have hbw2 : Below wr.heap.size wr w2 := ((Below.refl _ wr).alloc (Nat.le_refl _) _).trans (hb2.mono (by simp))
        have hbB : Below w2.heap.size w2 (w2.alloc (.cells #[.bool false, .int .i64 2, .int .i64 more] 25)) := (Below.refl _ w2).alloc (Nat.le_refl _) _
        have hHB := Hb.new w2 25 false 2 more
        have hsB : (w2.alloc (.cells #[.bool false, .int .i64 2, .int .i64 more] 25)).heap.size = w2.heap.size + 1 := by simp
        generalize w2.alloc (.cells #[.bool false, .int .i64 2, .int .i64 more] 25) = WB at hbB hHB hsB ⊢
        obtain ⟨A1, hA1⟩ : ∃ A1, WB.drew.alloc (.cells #[.int .i64 120] 3) = A1 := ⟨_, rfl⟩
        have hsA1 : A1.heap.size = w2.heap.size + 2 := by rw [← hA1]; simp [hsB]
        have hbA1 : Below WB.heap.size WB A1 := by rw [← hA1]; exact ((Below.refl _ WB).drew).alloc (Nat.le_refl _) _
        have h120 : A1.heap[w2.heap.size + 1]? = some (.cells #[.int .i64 120] 3) := by
          rw [← hA1, ← hsB]
          exact World.alloc_heap_new WB.drew _
        have hbA : Below wr.heap.size wr A1 := (hbw2.trans (hbB.mono hbw2.size)).trans (hbA1.mono (by omega))
        have oA1 := ownsL_on o1 hbA
        obtain ⟨v3, W3, R1, O3, G3⟩ := pushN_run oA1 (by omega) (by have := s1.1; omega) ⟨0, some ⟨w2.heap.size + 1, 0, none⟩, [120], 1⟩
        dsimp only at R1 G3
        simp only [List.length_cons, List.length_nil, Nat.reduceAdd] at R1 G3
        rw [hsA1] at R1
        have hb3 : Below w.heap.size A1 W3 := ((Below.refl _ A1).alloc (by omega) _).grown G3 (by simp; omega) (fun j e => (ownsL_cells oA1 e).1)
        have hwr3 : ∀ (b : Nat) cur t f, A1.heap[b]? = some (.cells cur t f) → t ≠ 44 → W3.heap[b]? = A1.heap[b]? := fun b cur t f hb ht => by
          have hlt := (Array.getElem?_eq_some_iff.1 hb).1
          rw [G3.block b (by simp; omega) (fun e => ?_), Below.heap_alloc A1 _ b hlt]
          obtain ⟨-, -, cur', h'⟩ := ownsL_cells oA1 e.symm
          rw [h'] at hb; cases hb; exact ht rfl
        have hbw3 : Below w.heap.size w W3 := (hbJ.trans (hbA.mono hsw)).trans hb3
        obtain ⟨a3, m3, d3, rfl⟩ := ownsRow_form O3
        obtain ⟨hLs, hm3⟩ := ls_of_owns O3 (fun j x hx => by
          by_cases hj : j < L.length
          · rw [List.getElem?_append_left hj] at hx
            obtain ⟨y1, y2, y3, -⟩ := x1 j x hx
            exact ⟨y1, y2, y3.on hbw3⟩
          · have : j = L.length := by
              have := (List.getElem?_eq_some_iff.1 hx).1
              simp at this
              omega
            subst this
            simp at hx
            subst hx
            exact ⟨Nat.le_refl _, (by decide : 1 ≤ maxLen), is_of_block (l := [120]) ((hwr3 _ _ _ _ h120 (by decide)).trans h120)⟩)
        have RD := Read_any false 2 more n a3 _ d3 W3 ⟨by have := s1.1; simp; omega, fun j x hx => by
          by_cases hj : j < L.length
          · rw [List.getElem?_append_left hj] at hx
            obtain ⟨-, -, -, y4, y5, y6⟩ := x1 j x hx
            omega
          · have : j = L.length := by
              have := (List.getElem?_eq_some_iff.1 hx).1
              simp at this
              omega
            subst this
            simp at hx
            subst hx
            simp⟩ hLs (by omega) (by omega) (by omega)
        rw [← hat] at s1
        rw [back_read (by omega) (by omega) s1, ← hm3] at RD
        clear hm3
        have hHA := hHB.on hbA1
        have hH3 : Hb W3 w2.heap.size 25 false 2 more := (hwr3 _ _ _ _ hHA (by decide)).trans hHA
        have sB : WB.drew.cell? ⟨w2.heap.size, 0, none⟩ = some (.bool false) ∧ WB.drew.cell? ⟨w2.heap.size, 1, none⟩ = some (.int .i64 2) ∧ WB.drew.cell? ⟨w2.heap.size, 2, none⟩ = some (.int .i64 more) := hHB.cells
        have sA := hHA.cells
        have sA2 := (hHA.on ((Below.refl _ A1).alloc (Nat.le_refl _) (.cells #[.int .i64 0, .slice (some ⟨w2.heap.size + 1, 0, none⟩) 1 1] 44))).cells
        have s3 := hH3.cells
        have oWA := owns_on hws hbA
        have hap : (Value.slice a8 m8 d8).ownBlock = none ∨ (Value.slice a8 m8 d8).ownBlock ≠ (Value.slice a9 m9 d9).ownBlock := by
          cases hv : (Value.slice a8 m8 d8).ownBlock with
          | none => exact .inl rfl
          | some g =>
            refine .inr fun e => ?_
            obtain ⟨-, cur, q1⟩ := owns_cells oWA hv
            obtain ⟨-, -, cur', q2⟩ := ownsL_cells oA1 e.symm
            rw [q1] at q2
            cases q2
        have oW3 := (oWA.alloc (.cells #[.int .i64 0, .slice (some ⟨w2.heap.size + 1, 0, none⟩) 1 1] 44)).kept G3 hap
        obtain ⟨iw3, hmw, -, -⟩ := is_of_row oW3
        subst hmw
        have HW : Hid (Below w.heap.size w W3) := hbw3
        have hwl' : (linS R R.length).length ≤ 100000 := by omega
        generalize linS R R.length = T at RD iw3 hwl'
        clear oW3 hap oWA hLs O3 x1 s1 hwr3 h120 oA1 hbA hbA1 hbB hbw2 HD hws hwl o1 hHB hb3 hbw3 G3 HAT hat hJ hM
        go_region_held_law (fun w' => w'.cell? ⟨w2.heap.size, 0, none⟩ = some (.bool false) ∧ w'.cell? ⟨w2.heap.size, 1, none⟩ = some (.int .i64 2) ∧ w'.cell? ⟨w2.heap.size, 2, none⟩ = some (.int .i64 more)) (first | exact s4 | exact s3 | exact sA2 | exact sA | exact sB | go_keep)
          (first
            | (go_at_call 12; refine RD.mono ?_; rintro e w4 ⟨rfl, hb4⟩; have s4 := (hH3.on hb4).cells; have iw4 := iw3.on hb4)
            | (refine step_append_run rfl (.tmp 155) (.tmp 158) 34 rfl (by go_simp) (by go_simp) R1 ?_))
        go_wp2_with (first | (go_at_call 10; refine (num_any _ _).mono ?_; rintro e w4 ⟨rfl, rfl⟩) | (go_at_call 15; refine (refBytes_any a8 T d8 w4 (by omega) iw4 iw4.lt).mono ?_; rintro e w5 ⟨v5, rfl, ho5, hb5⟩; have CV := own_string ho5 (encZ_byte T); obtain ⟨q5, m5, c5, rfl⟩ := ownsRow_form ho5))
        go_ret
        exact ⟨ret_bool (by simp), HW.out.trans ((hb4.trans (hb5.mono hb4.size)).mono HW.out.size)⟩

set_option maxRecDepth 100000 in
set_option maxHeartbeats 1000000 in
theorem back_law (p : Option Addr) (R : List Row) (cap : Nat) (n more : Int) (w : World) (hl : R.length ≤ maxLen) (hM : Mt w p R) :
    Calls Try.prog 5 #[.slice p R.length cap, .int .i64 n, .int .i64 more] w fun e w' => e = .returned (.bool true) ∧ Below w.heap.size w w' := by
  by_cases g0 : R.length < 1
  · have g' : (R.length : Int) < 1 := by omega
    go_enter Try.func5, Try.ntmps5
    go_wp2_with (first | (go_at_call 7; refine (alive_any _).mono ?_; rintro e w1 ⟨rfl, hb1⟩))
    go_ret
    exact ⟨rfl, hb1⟩
  have g0' : ¬ (R.length : Int) < 1 := by omega
  by_cases g1 : 30 < R.length
  · have g' : 30 < (R.length : Int) := by omega
    go_enter Try.func5, Try.ntmps5
    go_wp2_with (first | (go_at_call 7; refine (alive_any _).mono ?_; rintro e w1 ⟨rfl, hb1⟩))
    go_ret
    exact ⟨rfl, hb1⟩
  have g1' : ¬ 30 < (R.length : Int) := by omega
  by_cases g2 : n < -1
  · have g' : n < -1 := by omega
    go_enter Try.func5, Try.ntmps5
    go_wp2_with (first | (go_at_call 7; refine (alive_any _).mono ?_; rintro e w1 ⟨rfl, hb1⟩))
    go_ret
    exact ⟨rfl, hb1⟩
  have g2' : ¬ n < -1 := by omega
  by_cases g3 : 20 < n
  · have g' : 20 < n := by omega
    go_enter Try.func5, Try.ntmps5
    go_wp2_with (first | (go_at_call 7; refine (alive_any _).mono ?_; rintro e w1 ⟨rfl, hb1⟩))
    go_ret
    exact ⟨rfl, hb1⟩
  have g3' : ¬ 20 < n := by omega
  by_cases g4 : more < 1
  · have g' : more < 1 := by omega
    go_enter Try.func5, Try.ntmps5
    go_wp2_with (first | (go_at_call 7; refine (alive_any _).mono ?_; rintro e w1 ⟨rfl, hb1⟩))
    go_ret
    exact ⟨rfl, hb1⟩
  have g4' : ¬ more < 1 := by omega
  by_cases g5 : 9 < more
  · have g' : 9 < more := by omega
    go_enter Try.func5, Try.ntmps5
    go_wp2_with (first | (go_at_call 7; refine (alive_any _).mono ?_; rintro e w1 ⟨rfl, hb1⟩))
    go_ret
    exact ⟨rfl, hb1⟩
  have g5' : ¬ 9 < more := by omega
  exact back_in p R cap n more w hM g0 g1 g2 g3 g4 g5
end Go.Proofs.Ytgmcomfeggidnaa
