/- DoubleJoins, as it runs. -/
import Derived.Test.YtpiefdpcinjkpaaDoorJns
import Derived.Test.YtpiefdpcinjkpaaDoorAlv
set_option linter.unusedVariables false
set_option linter.unusedSimpArgs false
namespace Go.Proofs.YtpiefdpcinjkpaaDoor
open Go.RowKit Go.Shelf

set_option maxRecDepth 100000 in
set_option maxHeartbeats 4000000 in
theorem joins_law (qa : Option Addr) (a : List Int) (ca : Nat) (qb : Option Addr) (b : List Int) (cb : Nat) (nb : Int) (w : World) (hca : a.length ≤ ca) (hma : ca ≤ maxLen) (hIa : Is w qa a) (hcb : b.length ≤ cb) (hmb : cb ≤ maxLen) (hIb : Is w qb b) (hT : Tab w) :
    Calls Tryd.prog 8 #[.slice qa a.length ca, .slice qb b.length cb, .int .i64 nb] w fun e w' => e = .returned (.bool true) ∧ Below w.heap.size w w' := by
  have AL := alive_any w hT
  have ha2 : (a.length : Int) ≤ 9223372036854775807 := by unfold maxLen at hma; omega
  have hbb2 : (b.length : Int) ≤ 9223372036854775807 := by unfold maxLen at hmb; omega
  by_cases hna : a.length ≤ 60
  rotate_left
  · have hna' : (60 : Int) < a.length := by omega
    go_enter Tryd.func8, Tryd.ntmps8
    go_wp2_with (first | (go_at_call 9; refine AL.mono ?_; rintro e W1 ⟨rfl, hb⟩))
    go_ret
    exact ⟨rfl, hb⟩
  by_cases hnb : b.length ≤ 60
  rotate_left
  · have hna' : ¬ (60 : Int) < a.length := by omega
    have hnb' : (60 : Int) < b.length := by omega
    go_enter Tryd.func8, Tryd.ntmps8
    go_wp2_with (first | (go_at_call 9; refine AL.mono ?_; rintro e W1 ⟨rfl, hb⟩))
    go_ret
    exact ⟨rfl, hb⟩
  have hna' : ¬ (60 : Int) < a.length := by omega
  have hnb' : ¬ (60 : Int) < b.length := by omega
  by_cases h0 : nb < 0
  · go_enter Tryd.func8, Tryd.ntmps8
    go_wp2_with (first | (go_at_call 9; refine AL.mono ?_; rintro e W1 ⟨rfl, hb⟩))
    go_ret
    exact ⟨rfl, hb⟩
  by_cases h10 : 10 < nb
  · go_enter Tryd.func8, Tryd.ntmps8
    go_wp2_with (first | (go_at_call 9; refine AL.mono ?_; rintro e W1 ⟨rfl, hb⟩))
    go_ret
    exact ⟨rfl, hb⟩
  obtain ⟨n, rfl⟩ : ∃ n : Nat, nb = n := ⟨nb.toNat, by omega⟩
  have hn10 : n ≤ 10 := by omega
  have hn10' : ¬ (10 : Int) < n := h10
  have hn0' : ¬ (n : Int) < 0 := h0
  clear h0 h10
  go_enter Tryd.func8, Tryd.ntmps8
  go_wp2_with (first | (go_at_call 9; refine AL.mono ?_; rintro e W1 ⟨rfl, hb1⟩; obtain ⟨p2, k2, c2, W2, hr2, ho2, hb2⟩ := apN W1 ca (by omega) (hIa.on hb1); obtain ⟨p3, k3, c3, W3, hr3, ho3, hb3⟩ := apS cb ho2 hb2.size (by omega) (hIb.on (hb1.trans (hb2.mono hb1.size)))) | (at_builtin; refine wpList_append_run (u := .slice none 0 0) (y := .slice qa a.length ca) rfl _ _ 25 rfl rfl rfl hr2 ?_; clear hr2) | (at_builtin; refine wpList_append_run (u := .slice p2 k2 c2) (y := .slice qb b.length cb) rfl _ _ 25 rfl rfl rfl hr3 ?_; clear hr3))
  have hb13 := hb2.trans hb3
  have hbw3 := hb1.trans (hb13.mono hb1.size)
  obtain ⟨hI3, hk3, -, -⟩ := is_of_row ho3
  have hTl : (a ++ b).length ≤ 120 := by rw [List.length_append]; omega
  have HAB : Hid (∀ k, k = (a ++ b).length → (∀ x ∈ (a ++ b).take k, 97 ≤ x ∧ x ≤ 122) → lets a ∧ lets b) := fun k hk h => by
    rw [hk, List.take_length] at h
    exact ⟨fun x hx => h x (List.mem_append_left _ hx), fun x hx => h x (List.mem_append_right _ hx)⟩
  generalize a ++ b = T at hI3 hk3 HAB hTl
  subst hk3
  clear AL ho3 ho2 hb2 hb3 hb13
  have hTl2 : (T.length : Int) ≤ 120 := by omega
  go_loop [9] (fun iv => ∃ (k : Nat), k ≤ T.length ∧ iv = .int .i64 k ∧ Hid (∀ x ∈ T.take k, 97 ≤ x ∧ x ≤ 122)) (fun iv => T.length - (intOf iv).toNat)
  case atStart => exact ⟨0, Nat.zero_le _, rfl, by intro x hx; simp at hx⟩
  case round =>
    obtain ⟨k, hk, rfl, Hs⟩ := hrel
    by_cases hlt : k < T.length
    · have hli : (k : Int) < T.length := by omega
      obtain ⟨tb, t9, rfl, hu⟩ := hI3.at (by omega)
      have c0 := hu k hlt
      have HS : Hid (97 ≤ iAt T k → iAt T k ≤ 122 → ∀ x ∈ T.take (k + 1), 97 ≤ x ∧ x ≤ 122) := fun h1 h2 x hx => by
        rw [take_more' hlt] at hx
        rcases List.mem_append.1 hx with hx | hx
        · exact Hs.out x hx
        · simp at hx; subst hx; exact ⟨h1, h2⟩
      generalize iAt T k = x at c0 HS
      clear hu
      by_cases h1 : 97 ≤ x
      · by_cases h2 : x ≤ 122
        · have HS1 : Hid (∀ x ∈ T.take (k + 1), 97 ≤ x ∧ x ≤ 122) := HS.out h1 h2
          clear HS
          go_wp2
          go_round
          case rel => exact ⟨k + 1, by omega, by go_num, HS1⟩
          case measure => simp [intOf]; omega
        · clear HS
          go_wp2
          go_ret
          exact ⟨rfl, hbw3⟩
      · clear HS
        go_wp2
        go_ret
        exact ⟨rfl, hbw3⟩
    · obtain rfl : k = T.length := by omega
      obtain ⟨hla, hlb⟩ := HAB.out _ rfl Hs.out
      have HLA : Hid (lets a) := hla
      have HLB : Hid (lets b) := hlb
      clear hla hlb HAB Hs hI3
      go_wp2
      go_loopw [10, 11] (fun gv iv wr => ∃ (k : Nat), k ≤ n ∧ iv = .int .i64 k ∧ Owns wr W3.heap.size gv (List.replicate k 32) ∧ Below W3.heap.size W3 wr) (fun _ iv _ => n - (intOf iv).toNat)
      case atStart => exact ⟨0, Nat.zero_le _, rfl, World.ownsRow_nil _ _ 3 1, Below.refl _ _⟩
      case round =>
        obtain ⟨k, hk, rfl, hog, hbg⟩ := hrel
        obtain ⟨gp, gk, gc, rfl⟩ := ownsRow_form hog
        by_cases hlt : k < n
        · have hli : (k : Int) < n := by omega
          obtain ⟨p4, k4, c4, W4, hr4, ho4, hb4⟩ := ap1 hog hbg.size (by rw [List.length_replicate]; omega) 32
          rw [← List.replicate_succ'] at ho4
          go_wp2_with (first | (at_builtin; refine wpList_append_run (u := .slice gp gk gc) (y := .slice (some ⟨wr.heap.size, 0, none⟩) 1 1) rfl _ _ 25 rfl rfl rfl hr4 ?_; clear hr4))
          go_roundw
          case rel => exact ⟨k + 1, by omega, by go_num, ho4, hbg.trans hb4⟩
          case measure => simp [intOf]; omega
        · obtain rfl : k = n := by omega
          have hli : ¬ (k : Int) < k := by omega
          obtain ⟨hG0, hgk, hgc, hgm⟩ := is_of_row hog
          have HJ1 := join_one k HLA.out HLB.out
          have HJ2 := join_two k HLA.out HLB.out
          have hGl : (List.replicate k (32 : Int)).length ≤ 10 := by rw [List.length_replicate]; omega
          generalize List.replicate k (32 : Int) = G at hog hG0 hgk HJ1 HJ2 hGl
          subst hgk
          have hbV := hbw3.trans (hbg.mono hbw3.size)
          have hA0 := hIa.on hbV
          have hB0 := hIb.on hbV
          have hT0 := hT.on hbV
          obtain ⟨p4, k4, c4, W4, hr4, ho4, hb4⟩ := apN wr ca (by omega) hA0
          obtain ⟨p5, k5, c5, W5, hr5, ho5, hb5⟩ := apS gc ho4 hb4.size (by (try simp only [List.length_append, List.length_cons, List.length_nil]); omega) (hG0.on hb4)
          have hb5' := hb4.trans hb5
          obtain ⟨p6, k6, c6, W6, hr6, ho6, hb6⟩ := ap1 ho5 hb5'.size (by (try simp only [List.length_append, List.length_cons, List.length_nil]); omega) 92
          have hb6' := hb5'.trans hb6
          obtain ⟨p7, k7, c7, W7, hr7, ho7, hb7⟩ := apN W6 gc (by omega) (hG0.on hb6')
          obtain ⟨p8, k8, c8, W8, hr8, ho8, hb8⟩ := apS cb ho7 hb7.size (by (try simp only [List.length_append, List.length_cons, List.length_nil]); omega) (hB0.on (hb6'.trans (hb7.mono hb6'.size)))
          have hb8' := hb7.trans hb8
          have hbV8 := hb6'.trans (hb8'.mono hb6'.size)
          have h0 := owns_lit2 W8 92 32
          have hbl := (Below.refl _ W8).alloc (Nat.le_refl _) (.cells #[.int .i64 92, .int .i64 32] 3)
          obtain ⟨p9, k9, c9, W9, hr9, ho9, hb9⟩ := apS ca h0 hbl.size (by (try simp only [List.length_append, List.length_cons, List.length_nil]); omega) (hA0.on (hbV8.trans (hbl.mono hbV8.size)))
          have hb9' := hbl.trans hb9
          obtain ⟨p10, k10, c10, W10, hr10, ho10, hb10⟩ := apS gc ho9 hb9'.size (by (try simp only [List.length_append, List.length_cons, List.length_nil]); omega) (hG0.on (hbV8.trans (hb9'.mono hbV8.size)))
          have hb10' := hb9'.trans hb10
          obtain ⟨p11, k11, c11, W11, hr11, ho11, hb11⟩ := ap2 ho10 hb10'.size (by (try simp only [List.length_append, List.length_cons, List.length_nil]); omega) 92 32
          have hb11' := hb10'.trans hb11
          have hbV11 := hbV8.trans (hb11'.mono hbV8.size)
          obtain ⟨i6, e6, l6, m6⟩ := is_of_row ho6
          obtain ⟨i8, e8, l8, m8⟩ := is_of_row ho8
          obtain ⟨i11, e11, l11, m11⟩ := is_of_row ho11
          have RD1 := Read_two p6 p8 _ _ _ k6 k8 c6 c8 W11 e6 e8 (i6.on (hb8'.trans (hb11'.mono hb8'.size))) l6 m6 (i8.on hb11') l8 m8 (by (try simp only [List.length_append, List.length_cons, List.length_nil]); omega) (by (try simp only [List.length_append, List.length_cons, List.length_nil]); omega) (hT0.on hbV11) HJ1.1 HJ1.2
          have RD2 := fun W (hb : Below W11.heap.size W11 W) => Read_two p11 p8 _ _ _ k11 k8 c11 c8 W e11 e8 (i11.on hb) l11 m11 ((i8.on hb11').on hb) l8 m8 (by (try simp only [List.length_append, List.length_cons, List.length_nil]); omega) (by (try simp only [List.length_append, List.length_cons, List.length_nil]); omega) ((hT0.on hbV11).on hb) HJ2.1 HJ2.2
          clear i6 e6 l6 m6 i8 e8 l8 m8 i11 e11 l11 m11 ho4 ho5 ho6 ho7 ho8 ho9 ho10 ho11 h0 HJ1 HJ2 hog HLA HLB
          go_wp2_with (first | (at_builtin; refine wpList_append_run (u := .slice none 0 0) (y := .slice qa a.length ca) rfl _ _ 25 rfl rfl rfl hr4 ?_; clear hr4) | (at_builtin; refine wpList_append_run (u := .slice p4 k4 c4) (y := .slice gp G.length gc) rfl _ _ 25 rfl rfl rfl hr5 ?_; clear hr5) | (at_builtin; refine wpList_append_run (u := .slice p5 k5 c5) (y := .slice (some ⟨W5.heap.size, 0, none⟩) 1 1) rfl _ _ 25 rfl rfl rfl hr6 ?_; clear hr6) | (at_builtin; refine wpList_append_run (u := .slice none 0 0) (y := .slice gp G.length gc) rfl _ _ 25 rfl rfl rfl hr7 ?_; clear hr7) | (at_builtin; refine wpList_append_run (u := .slice p7 k7 c7) (y := .slice qb b.length cb) rfl _ _ 25 rfl rfl rfl hr8 ?_; clear hr8) | (at_builtin; refine wpList_append_run (u := .slice (some ⟨W8.heap.size, 0, none⟩) 2 2) (y := .slice qa a.length ca) rfl _ _ 25 rfl rfl rfl hr9 ?_; clear hr9) | (at_builtin; refine wpList_append_run (u := .slice p9 k9 c9) (y := .slice gp G.length gc) rfl _ _ 25 rfl rfl rfl hr10 ?_; clear hr10) | (at_builtin; refine wpList_append_run (u := .slice p10 k10 c10) (y := .slice (some ⟨W10.heap.size, 0, none⟩) 2 2) rfl _ _ 25 rfl rfl rfl hr11 ?_; clear hr11))
          refine RD1.mono ?_
          rintro e W12 ⟨q12, k12, c12, rfl, hk12, i12, hb12⟩
          have HK12 : Hid (k12 = _) := hk12
          clear hk12 RD1
          go_wp2_with fail
          refine (RD2 _ hb12).mono ?_
          rintro e W13 ⟨q13, k13, c13, rfl, hk13, i13, hb13⟩
          have HK13 : Hid (k13 = _) := hk13
          clear hk13 RD2
          have i12' := i12.on hb13
          have hbV13 := hbV11.trans ((hb12.trans (hb13.mono hb12.size)).mono hbV11.size)
          have hA1 := hA0.on hbV13
          have hB1 := hB0.on hbV13
          have hG1 := hG0.on hbV13
          obtain ⟨p14, k14, c14, W14, hr14, ho14, hb14⟩ := apN W13 ca (by omega) hA1
          obtain ⟨p15, k15, c15, W15, hr15, ho15, hb15⟩ := apS gc ho14 hb14.size (by (try simp only [List.length_append, List.length_cons, List.length_nil]); omega) (hG1.on hb14)
          have hb15' := hb14.trans hb15
          obtain ⟨p16, k16, c16, W16, hr16, ho16, hb16⟩ := apS cb ho15 hb15'.size (by (try simp only [List.length_append, List.length_cons, List.length_nil]); omega) (hB1.on hb15')
          have hb16' := hb15'.trans hb16
          have h1 := owns_lit1 W16 32
          have hbl1 := (Below.refl _ W16).alloc (Nat.le_refl _) (.cells #[.int .i64 32] 3)
          have hb17a := hb16'.trans (hbl1.mono hb16'.size)
          obtain ⟨p17, k17, c17, W17, hr17, ho17, hb17⟩ := apS ca h1 hbl1.size (by (try simp only [List.length_append, List.length_cons, List.length_nil]); omega) (hA1.on hb17a)
          have hb17' := hbl1.trans hb17
          obtain ⟨p18, k18, c18, W18, hr18, ho18, hb18⟩ := apS gc ho17 hb17'.size (by (try simp only [List.length_append, List.length_cons, List.length_nil]); omega) (hG1.on (hb16'.trans (hb17'.mono hb16'.size)))
          have hb18' := hb17'.trans hb18
          obtain ⟨p19, k19, c19, W19, hr19, ho19, hb19⟩ := ap2 ho18 hb18'.size (by (try simp only [List.length_append, List.length_cons, List.length_nil]); omega) 32 32
          have hb19' := hb18'.trans hb19
          obtain ⟨p20, k20, c20, W20, hr20, ho20, hb20⟩ := apS cb ho19 hb19'.size (by (try simp only [List.length_append, List.length_cons, List.length_nil]); omega) (hB1.on (hb16'.trans (hb19'.mono hb16'.size)))
          have hb20' := hb19'.trans hb20
          have hbE := hb16'.trans (hb20'.mono hb16'.size)
          obtain ⟨i16, e16, -, -⟩ := is_of_row ho16
          obtain ⟨i20, e20, -, -⟩ := is_of_row ho20
          have S1 := fun W (h : Below W20.heap.size W20 W) => sameS q12 p16 _ k12 k16 c12 c16 W (by (try simp only [List.length_append, List.length_cons, List.length_nil]); omega) HK12.out e16 ((i12'.on hbE).on h) ((i16.on hb20').on h)
          have S2 := fun W (h : Below W20.heap.size W20 W) => sameS q13 p20 _ k13 k20 c13 c20 W (by (try simp only [List.length_append, List.length_cons, List.length_nil]); omega) HK13.out e20 ((i13.on hbE).on h) (i20.on h)
          have hbF := hbV.trans (((hbV13.trans (hbE.mono hbV13.size))).mono hbV.size)
          clear e16 e20 i16 i20 HK12 HK13 ho14 ho15 ho16 ho17 ho18 ho19 ho20 h1 i12 i13 i12'
          go_wp2_with (first | (at_builtin; refine wpList_append_run (u := .slice none 0 0) (y := .slice qa a.length ca) rfl _ _ 25 rfl rfl rfl hr14 ?_; clear hr14) | (at_builtin; refine wpList_append_run (u := .slice p14 k14 c14) (y := .slice gp G.length gc) rfl _ _ 25 rfl rfl rfl hr15 ?_; clear hr15) | (at_builtin; refine wpList_append_run (u := .slice p15 k15 c15) (y := .slice qb b.length cb) rfl _ _ 25 rfl rfl rfl hr16 ?_; clear hr16) | (at_builtin; refine wpList_append_run (u := .slice (some ⟨W16.heap.size, 0, none⟩) 1 1) (y := .slice qa a.length ca) rfl _ _ 25 rfl rfl rfl hr17 ?_; clear hr17) | (at_builtin; refine wpList_append_run (u := .slice p17 k17 c17) (y := .slice gp G.length gc) rfl _ _ 25 rfl rfl rfl hr18 ?_; clear hr18) | (at_builtin; refine wpList_append_run (u := .slice p18 k18 c18) (y := .slice (some ⟨W18.heap.size, 0, none⟩) 2 2) rfl _ _ 25 rfl rfl rfl hr19 ?_; clear hr19) | (at_builtin; refine wpList_append_run (u := .slice p19 k19 c19) (y := .slice qb b.length cb) rfl _ _ 25 rfl rfl rfl hr20 ?_; clear hr20) | (go_at_call 13; refine (num_any _ _).mono ?_; rintro e W30 ⟨rfl, rfl⟩))
          refine (S1 _ (Below.refl _ _)).mono ?_
          rintro e W21 ⟨rfl, m21, rfl⟩
          go_wp2_with (first | (go_at_call 13; refine (num_any _ _).mono ?_; rintro e W30 ⟨rfl, rfl⟩))
          refine (S2 _ (belowN (Below.refl _ _) _)).mono ?_
          rintro e W22 ⟨rfl, m22, rfl⟩
          go_wp2
          go_ret
          exact ⟨rfl, belowN hbF _⟩
end Go.Proofs.YtpiefdpcinjkpaaDoor
