/- The tag that the document's JSON tells. -/
import Derived.Test.YtpffegkckejpiaaRdg
import Derived.Deep.CutRange
import Derived.Test.YtpffegkckejpiaaScp
import Derived.Test.YtpffegkckejpiaaSma
set_option linter.unusedVariables false
set_option linter.unusedSimpArgs false
set_option maxRecDepth 100000
namespace Go.Proofs.Ytpffegkckejpiaa
open Go.RowKit

theorem at_some (s : ByteArray) (k : Nat) (h : k < s.size) (c : UInt8) : s.data.toList[k]? = some c ↔ (s[k].toNat : Int) = (c.toNat : Int) := by
  rw [byte_get s k h]
  constructor
  · intro e; rw [Option.some.inj e]
  · intro e; congr 1; exact UInt8.toNat_inj.1 (by omega)
theorem at_none (s : ByteArray) (k : Nat) (h : s.size ≤ k) (c : UInt8) : ¬ s.data.toList[k]? = some c := by
  rw [List.getElem?_eq_none (by rw [size_list]; exact h)]
  simp

set_option maxHeartbeats 8000000 in
theorem rjson_num (s : ByteArray) (w : World) (hs : (s.size : Int) ≤ 5000) (h1 : (s.toList == [110, 117, 108, 108]) = false) (h2 : (s.toList == []) = false) (h3 : (s.toList == [116, 114, 117, 101]) = false) (h4 : (s.toList == [102, 97, 108, 115, 101]) = false) :
    Calls Try.prog 20 #[.string s] w fun e w' => e = .returned (.string (numT (jsI s.data.toList))) ∧ w' = w := by
  have BM := fun w => beginsM s w
  have hsz : s.size ≤ 100000 := by omega
  have hg : ¬ (5000 : Int) < s.size := by omega
  have DG : Hid (∀ i (h : i ≤ s.size) (w : World), Calls Try.prog 35 #[.string s, .int .i64 i] w fun e w' => e = .returned (.int .i64 (rl s.data.toList i)) ∧ w' = w) := fun i h w => rdigits_any s i w h hsz
  have HI : Hid (i0 s.data.toList = if (s.data.toList.head? == some 45) = true then 1 else 0) := by
    show i0 s.data.toList = _
    unfold i0
    simp
  have hi0 := i0_le s.data.toList
  rw [size_list] at hi0
  obtain ⟨J, hJ⟩ : ∃ J, jsI s.data.toList = J := ⟨_, rfl⟩
  rw [hJ]
  have HJ : Hid _ := hJ
  clear hJ
  generalize hI0 : i0 s.data.toList = I at HI hi0
  have HI0 : Hid _ := hI0
  clear hI0
  generalize (s.data.toList.head? == some 45) = m at BM HI
  go_enter Try.func20, Try.ntmps20
  go_upto_if 13 with (go_at_call 34; refine (BM _).mono ?_; rintro e w1 ⟨rfl, rfl⟩)
  go_cut [3] from 12 to 13 (fun i wx => i = .int .i64 I ∧ wx = w1)
  case first =>
    have hI := HI.out
    clear BM
    cases m
    · rw [if_neg (by decide)] at hI
      subst hI
      go_wp2
      go_meet
      case rel => exact ⟨rfl, rfl⟩
    · rw [if_pos rfl] at hI
      subst hI
      go_wp2
      go_meet
      case rel => exact ⟨rfl, rfl⟩
  case rest =>
    obtain ⟨rfl, rfl⟩ := hcut
    clear BM h1 h2 h3 h4 HI
    have D0 := fun w => DG.out I hi0 w
    have hN := rl_le (l := s.data.toList) (i := I) (by rw [size_list]; exact hi0)
    rw [size_list] at hN
    obtain ⟨N, hNe⟩ : ∃ N, rl s.data.toList I = N := ⟨_, rfl⟩
    rw [hNe] at hN
    rw [hNe] at D0
    have HN : Hid _ := hNe
    clear hNe
    go_upto_region 12 with (go_at_call 35; refine (D0 _).mono ?_; rintro e w2 ⟨rfl, rfl⟩)
    go_cut [33] from 17 to 33 (fun c wx => c = .bool (decide (N = 0 ∨ (1 < N ∧ s.data.toList[I]? = some 48))) ∧ wx = w2)
    case first =>
      by_cases n0 : N = 0
      · have e : decide (N = 0 ∨ (1 < N ∧ s.data.toList[I]? = some 48)) = true := decide_eq_true (.inl n0)
        have E : Hid _ := e
        subst n0
        clear e D0
        go_wp2
        go_meet
        case rel => exact ⟨by rw [E.out], rfl⟩
      · have hIl : I < s.size := by omega
        have hIi : (I : Int) < s.size := by omega
        have n0i : ((N : Int) == 0) = false := beq_false_of_ne (by omega)
        by_cases n1 : 1 < N
        · have n1i : (1 : Int) < N := by omega
          by_cases h48 : (s[I].toNat : Int) = 48
          · have e : decide (N = 0 ∨ (1 < N ∧ s.data.toList[I]? = some 48)) = true := decide_eq_true (.inr ⟨n1, (at_some s I hIl 48).2 h48⟩)
            have E : Hid _ := e
            have b48 : ((s[I].toNat : Int) == 48) = true := by simpa using h48
            clear e D0 n0 n1 h48
            go_wp2
            go_meet
            case rel => exact ⟨by rw [E.out], rfl⟩
          · have e : decide (N = 0 ∨ (1 < N ∧ s.data.toList[I]? = some 48)) = false := decide_eq_false (fun c => c.elim n0 (fun c => h48 ((at_some s I hIl 48).1 c.2)))
            have E : Hid _ := e
            have b48 : ((s[I].toNat : Int) == 48) = false := beq_false_of_ne h48
            clear e D0 n0 n1 h48
            go_wp2
            go_meet
            case rel => exact ⟨by rw [E.out, decide_eq_false (show ¬ (5000 : Int) < s.size by omega)], rfl⟩
        · have n1i : ¬ (1 : Int) < N := by omega
          have e : decide (N = 0 ∨ (1 < N ∧ s.data.toList[I]? = some 48)) = false := decide_eq_false (fun c => c.elim n0 (fun c => n1 c.1))
          have E : Hid _ := e
          clear e D0 n0 n1
          go_wp2
          go_meet
          case rel => exact ⟨by rw [E.out, decide_eq_false (show ¬ (5000 : Int) < s.size by omega)], rfl⟩
    case rest =>
      obtain ⟨rfl, rfl⟩ := hcut
      clear D0
      by_cases hbad : N = 0 ∨ (1 < N ∧ s.data.toList[I]? = some 48)
      · rw [decide_eq_true hbad]
        have hJ := HJ.out
        unfold jsI at hJ
        rw [HI0.out] at hJ
        rw [show whI s.data.toList I = none from if_pos (by rw [HN.out]; exact hbad)] at hJ
        have hJ' : (0 : Nat) = J := hJ
        subst hJ'
        clear hJ hbad HJ HN HI0 DG
        go_wp2
        go_ret
        exact ⟨rfl, rfl⟩
      · rw [decide_eq_false hbad]
        have hJ := HJ.out
        unfold jsI at hJ
        rw [HI0.out] at hJ
        rw [show whI s.data.toList I = some (I + N) from by unfold whI; rw [HN.out]; exact if_neg hbad] at hJ
        have hJ' : (if I + N = s.data.toList.length then 1 else match ptI s.data.toList (I + N) with
          | none => 0
          | some j => match pwI s.data.toList j with
            | none => 0
            | some k => if k = s.data.toList.length then 2 else 0) = J := hJ
        rw [size_list] at hJ'
        clear hJ hbad HJ HN HI0
        go_upto_region 15 with fail
        obtain ⟨A, hA⟩ : ∃ A, I + N = A := ⟨_, rfl⟩
        rw [hA] at hN hJ'
        rw [show ((I : Int) + N) = (A : Int) by omega]
        clear hA hi0
        by_cases hE : A = s.size
        · have hEi : (A : Int) = s.size := by omega
          rw [if_pos hE] at hJ'
          subst hJ'
          clear DG hE
          go_wp2
          go_ret
          exact ⟨rfl, rfl⟩
        · have hEi : ¬ (A : Int) = s.size := by omega
          have hEb : ((A : Int) == s.size) = false := beq_false_of_ne hEi
          have hAl : A < s.size := by omega
          have hAi : (A : Int) < s.size := by omega
          rw [if_neg hE] at hJ'
          clear hE
          have hA1 : A + 1 ≤ s.size := hAl
          have D1 := fun w => DG.out (A + 1) hA1 w
          rw [show ((A + 1 : Nat) : Int) = (A : Int) + 1 by omega] at D1
          have hM := rl_le (l := s.data.toList) (i := A + 1) (by rw [size_list]; exact hA1)
          rw [size_list] at hM
          obtain ⟨M, hMe⟩ : ∃ M, rl s.data.toList (A + 1) = M := ⟨_, rfl⟩
          rw [hMe] at D1 hM
          by_cases h46 : (s[A].toNat : Int) = 46 ∧ M = 0
          · obtain ⟨h46, rfl⟩ := h46
            have hp : ptI s.data.toList A = none := by
              unfold ptI
              rw [if_pos ((at_some s A hAl 46).2 h46), if_pos hMe]
            rw [hp] at hJ'
            have hJ2 : (0 : Nat) = J := hJ'
            subst hJ2
            clear hJ' hp hMe DG hM
            go_wp2_with fail
            refine (D1 _).mono ?_
            rintro e w3 ⟨rfl, rfl⟩
            go_wp2
            go_ret
            exact ⟨rfl, rfl⟩
          · have hpt : Hid (∃ B, ptI s.data.toList A = some B ∧ B ≤ s.size ∧ (((s[A].toNat : Int) = 46 ∧ B = A + 1 + M) ∨ (¬ (s[A].toNat : Int) = 46 ∧ B = A))) := by
              show ∃ B, _
              by_cases h : (s[A].toNat : Int) = 46
              · have hm0 : ¬ M = 0 := fun e => h46 ⟨h, e⟩
                refine ⟨A + 1 + M, ?_, hM, .inl ⟨h, rfl⟩⟩
                unfold ptI
                rw [if_pos ((at_some s A hAl 46).2 h), hMe, if_neg hm0]
              · refine ⟨A, ?_, by omega, .inr ⟨h, rfl⟩⟩
                unfold ptI
                rw [if_neg (fun e => h ((at_some s A hAl 46).1 e))]
            obtain ⟨B, hp, hB, hcase⟩ := hpt.out
            rw [hp] at hJ'
            have hJ2 : (match pwI s.data.toList B with
              | none => 0
              | some k => if k = s.data.toList.length then 2 else 0) = J := hJ'
            rw [size_list] at hJ2
            have HJ2 : Hid _ := hJ2
            have H46 : Hid _ := h46
            have HC : Hid _ := hcase
            clear hJ' hJ2 hp hMe hpt h46 hcase
            go_upto_if 44 with fail
            go_cut [3, 4] from 41 to 54 (fun i n wx => i = .int .i64 B ∧ wx = wc)
            case first =>
              rcases HC.out with ⟨h, rfl⟩ | ⟨h, rfl⟩
              · have hm0 : ¬ (M : Int) = 0 := fun e => H46.out ⟨h, by omega⟩
                have hmb : ((M : Int) == 0) = false := beq_false_of_ne hm0
                have hMi : (A : Int) + 1 + M ≤ s.size := by omega
                clear HC H46 HJ2 DG
                go_wp2_with fail
                refine (D1 _).mono ?_
                rintro e w3 ⟨rfl, rfl⟩
                go_wp2
                go_meet
                case rel => exact ⟨congrArg (Value.int .i64) (by omega), rfl⟩
              · clear HC H46 HJ2 DG D1
                go_wp2
                go_meet
                case rel => exact ⟨rfl, rfl⟩
            case rest =>
              obtain ⟨rfl, rfl⟩ := hcut
              clear D1 HC H46 hM hA1 hAl hAi hEb hEi
              go_upto_region 22 with fail
              go_cut [70] from 55 to 70 (fun c wx => c = .bool (decide (s.data.toList[B]? = some 101 ∨ s.data.toList[B]? = some 69)) ∧ wx = wc)
              case first =>
                by_cases hl : B < s.size
                · have hli : (B : Int) < s.size := by omega
                  by_cases e1 : (s[B].toNat : Int) = 101
                  · have E : Hid (decide (s.data.toList[B]? = some 101 ∨ s.data.toList[B]? = some 69) = true) := decide_eq_true (.inl ((at_some s B hl 101).2 e1))
                    have b1 : ((s[B].toNat : Int) == 101) = true := by simpa using e1
                    clear DG HJ2
                    go_wp2
                    go_meet
                    case rel => exact ⟨by rw [E.out], rfl⟩
                  · have b1 : ((s[B].toNat : Int) == 101) = false := beq_false_of_ne e1
                    by_cases e2 : (s[B].toNat : Int) = 69
                    · have E : Hid (decide (s.data.toList[B]? = some 101 ∨ s.data.toList[B]? = some 69) = true) := decide_eq_true (.inr ((at_some s B hl 69).2 e2))
                      have b2 : ((s[B].toNat : Int) == 69) = true := by simpa using e2
                      clear DG HJ2 e1
                      go_wp2
                      go_meet
                      case rel => exact ⟨by rw [E.out], rfl⟩
                    · have b2 : ((s[B].toNat : Int) == 69) = false := beq_false_of_ne e2
                      have E : Hid (decide (s.data.toList[B]? = some 101 ∨ s.data.toList[B]? = some 69) = false) := decide_eq_false (fun c => c.elim (fun c => e1 ((at_some s B hl 101).1 c)) (fun c => e2 ((at_some s B hl 69).1 c)))
                      clear DG HJ2 e1 e2
                      go_wp2
                      go_meet
                      case rel => exact ⟨by rw [E.out], rfl⟩
                · have hli : ¬ (B : Int) < s.size := by omega
                  have E : Hid (decide (s.data.toList[B]? = some 101 ∨ s.data.toList[B]? = some 69) = false) := decide_eq_false (fun c => c.elim (at_none s B (by omega) 101) (at_none s B (by omega) 69))
                  clear DG HJ2
                  go_wp2
                  go_meet
                  case rel => exact ⟨by rw [E.out], rfl⟩
              case rest =>
                obtain ⟨rfl, rfl⟩ := hcut
                by_cases hPE : s.data.toList[B]? = some 101 ∨ s.data.toList[B]? = some 69
                · rw [decide_eq_true hPE]
                  have hBl : B < s.size := by
                    rcases Nat.lt_or_ge B s.size with h | h
                    · exact h
                    · exact absurd hPE (fun c => c.elim (at_none s B h 101) (at_none s B h 69))
                  have hJ := HJ2.out
                  obtain ⟨C, hC⟩ : ∃ C, B + 1 = C := ⟨_, rfl⟩
                  have hCs : C ≤ s.size := by omega
                  have hpw : pwI s.data.toList B = if 1 ≤ rl s.data.toList (skI s.data.toList C) ∧ rl s.data.toList (skI s.data.toList C) ≤ 9 then some (skI s.data.toList C + rl s.data.toList (skI s.data.toList C)) else none := by
                    rw [← hC]
                    exact if_pos hPE
                  rw [hpw] at hJ
                  have HJ2 : Hid _ := hJ
                  clear hJ hpw hPE
                  go_upto_region 24 with fail
                  rw [show ((B : Int) + 1) = (C : Int) by omega]
                  clear hC hB hBl
                  go_cut [88] from 73 to 88 (fun c wx => c = .bool (decide (s.data.toList[C]? = some 43 ∨ s.data.toList[C]? = some 45)) ∧ wx = wc)
                  case first =>
                    by_cases hl : C < s.size
                    · have hli : (C : Int) < s.size := by omega
                      by_cases e1 : (s[C].toNat : Int) = 45
                      · have E : Hid (decide (s.data.toList[C]? = some 43 ∨ s.data.toList[C]? = some 45) = true) := decide_eq_true (.inr ((at_some s C hl 45).2 e1))
                        have b1 : ((s[C].toNat : Int) == 45) = true := by simpa using e1
                        clear DG HJ2
                        go_wp2
                        go_meet
                        case rel => exact ⟨by rw [E.out], rfl⟩
                      · have b1 : ((s[C].toNat : Int) == 45) = false := beq_false_of_ne e1
                        by_cases e2 : (s[C].toNat : Int) = 43
                        · have E : Hid (decide (s.data.toList[C]? = some 43 ∨ s.data.toList[C]? = some 45) = true) := decide_eq_true (.inl ((at_some s C hl 43).2 e2))
                          have b2 : ((s[C].toNat : Int) == 43) = true := by simpa using e2
                          clear DG HJ2 e1
                          go_wp2
                          go_meet
                          case rel => exact ⟨by rw [E.out], rfl⟩
                        · have b2 : ((s[C].toNat : Int) == 43) = false := beq_false_of_ne e2
                          have E : Hid (decide (s.data.toList[C]? = some 43 ∨ s.data.toList[C]? = some 45) = false) := decide_eq_false (fun c => c.elim (fun c => e2 ((at_some s C hl 43).1 c)) (fun c => e1 ((at_some s C hl 45).1 c)))
                          clear DG HJ2 e1 e2
                          go_wp2
                          go_meet
                          case rel => exact ⟨by rw [E.out], rfl⟩
                    · have hli : ¬ (C : Int) < s.size := by omega
                      have E : Hid (decide (s.data.toList[C]? = some 43 ∨ s.data.toList[C]? = some 45) = false) := decide_eq_false (fun c => c.elim (at_none s C (by omega) 43) (at_none s C (by omega) 45))
                      clear DG HJ2
                      go_wp2
                      go_meet
                      case rel => exact ⟨by rw [E.out], rfl⟩
                  case rest =>
                    obtain ⟨rfl, rfl⟩ := hcut
                    have hD := skI_le (l := s.data.toList) (j := C) (by rw [size_list]; exact hCs)
                    rw [size_list] at hD
                    have HD : Hid (skI s.data.toList C = if (s.data.toList[C]? = some 43 ∨ s.data.toList[C]? = some 45) then C + 1 else C) := rfl
                    have hJ := HJ2.out
                    obtain ⟨D, hDe⟩ : ∃ D, skI s.data.toList C = D := ⟨_, rfl⟩
                    rw [hDe] at hD HD hJ
                    have HJ2 : Hid _ := hJ
                    clear hJ hDe
                    go_upto_if 88 with fail
                    go_cut [3] from 88 to 90 (fun i wx => i = .int .i64 D ∧ wx = wc)
                    case first =>
                      have hDv := HD.out
                      by_cases hPS : s.data.toList[C]? = some 43 ∨ s.data.toList[C]? = some 45
                      · rw [decide_eq_true hPS]
                        rw [if_pos hPS] at hDv
                        subst hDv
                        clear HJ2 DG hPS HD
                        go_wp2
                        go_meet
                        case rel => exact ⟨congrArg (Value.int .i64) (by omega), rfl⟩
                      · rw [decide_eq_false hPS]
                        rw [if_neg hPS] at hDv
                        subst hDv
                        clear HJ2 DG hPS HD
                        go_wp2
                        go_meet
                        case rel => exact ⟨rfl, rfl⟩
                    case rest =>
                      obtain ⟨rfl, rfl⟩ := hcut
                      have D2 := fun w => DG.out D hD w
                      have hK := rl_le (l := s.data.toList) (i := D) (by rw [size_list]; exact hD)
                      rw [size_list] at hK
                      have hJ := HJ2.out
                      obtain ⟨K, hKe⟩ : ∃ K, rl s.data.toList D = K := ⟨_, rfl⟩
                      rw [hKe] at D2 hK hJ
                      clear HJ2 DG hKe HD
                      by_cases hk : 1 ≤ K ∧ K ≤ 9
                      · rw [if_pos hk] at hJ
                        have k1 : ¬ (K : Int) < 1 := by omega
                        have k2 : ¬ (9 : Int) < K := by omega
                        have hJ3 : (if D + K = s.size then 2 else 0) = J := hJ
                        clear hJ
                        by_cases hE : D + K = s.size
                        · rw [if_pos hE] at hJ3
                          subst hJ3
                          have hEi : (D : Int) + K = s.size := by omega
                          clear hE hk
                          go_wp2_with fail
                          refine (D2 _).mono ?_
                          rintro e w3 ⟨rfl, rfl⟩
                          go_wp2
                          go_ret
                          exact ⟨rfl, rfl⟩
                        · rw [if_neg hE] at hJ3
                          subst hJ3
                          have hEi : ¬ (D : Int) + K = s.size := by omega
                          have hEb : (((D : Int) + K) != s.size) = true := by simpa using hEi
                          clear hE hk
                          go_wp2_with fail
                          refine (D2 _).mono ?_
                          rintro e w3 ⟨rfl, rfl⟩
                          go_wp2
                          go_ret
                          exact ⟨rfl, rfl⟩
                      · rw [if_neg hk] at hJ
                        have hJ3 : (0 : Nat) = J := hJ
                        subst hJ3
                        clear hJ
                        by_cases k0 : K < 1
                        · have k1 : (K : Int) < 1 := by omega
                          clear hk k0
                          go_wp2_with fail
                          refine (D2 _).mono ?_
                          rintro e w3 ⟨rfl, rfl⟩
                          go_wp2
                          go_ret
                          exact ⟨rfl, rfl⟩
                        · have k1 : ¬ (K : Int) < 1 := by omega
                          have k2 : (9 : Int) < K := by omega
                          clear hk k0
                          go_wp2_with fail
                          refine (D2 _).mono ?_
                          rintro e w3 ⟨rfl, rfl⟩
                          go_wp2
                          go_ret
                          exact ⟨rfl, rfl⟩
                · rw [decide_eq_false hPE]
                  have hJ := HJ2.out
                  rw [show pwI s.data.toList B = some B from if_neg hPE] at hJ
                  have hJ3 : (if B = s.size then 2 else 0) = J := hJ
                  clear hJ HJ2 DG hPE
                  by_cases hE : B = s.size
                  · rw [if_pos hE] at hJ3
                    subst hJ3
                    have hEi : (B : Int) = s.size := by omega
                    have hEb : ((B : Int) != s.size) = false := by simpa using hEi
                    clear hE
                    go_wp2
                    go_ret
                    exact ⟨rfl, rfl⟩
                  · rw [if_neg hE] at hJ3
                    subst hJ3
                    have hEi : ¬ (B : Int) = s.size := by omega
                    have hEb : ((B : Int) != s.size) = true := by simpa using hEi
                    clear hE
                    go_wp2
                    go_ret
                    exact ⟨rfl, rfl⟩
end Go.Proofs.Ytpffegkckejpiaa
set_option maxRecDepth 100000
namespace Go.Proofs.Ytpffegkckejpiaa
open Go.RowKit

def anyF (f : Nat → ByteArray) (n : Nat) (s : ByteArray) : Bool := (List.range n).any fun k => (f k).toList == s.toList
theorem anyF_yes {f : Nat → ByteArray} {n k : Nat} {s : ByteArray} (hk : k < n) (h : ((f k).toList == s.toList) = true) : anyF f n s = true := by
  unfold anyF
  rw [List.any_eq_true]
  exact ⟨k, List.mem_range.2 hk, h⟩
theorem anyF_no {f : Nat → ByteArray} {n : Nat} {s : ByteArray} (h : ∀ k, k < n → ((f k).toList == s.toList) = false) : anyF f n s = false := by
  unfold anyF
  rw [List.any_eq_false]
  intro k hk
  rw [h k (List.mem_range.1 hk)]
  decide
set_option maxHeartbeats 1000000 in
theorem among_any (s : ByteArray) (g n : Nat) (hn : n ≤ 100) (w : World) (f : Nat → ByteArray) (hf : ∀ k, k < n → w.cell? ⟨g, k, none⟩ = some (.string (f k))) :
    Calls Try.prog 45 #[.string s, .slice (some ⟨g, 0, none⟩) n n] w fun e w' => e = .returned (.bool (anyF f n s)) ∧ w' = w := by
  go_enter Try.func45, Try.ntmps45
  go_wp2
  go_loop [5] (fun v => ∃ k : Nat, k ≤ n ∧ v = .int .i64 k ∧ ∀ j, j < k → ((f j).toList == s.toList) = false) (fun v => n - (intOf v).toNat)
  case atStart => exact ⟨0, Nat.zero_le _, rfl, fun j hj => by omega⟩
  case round =>
    obtain ⟨k, hk, rfl, hno⟩ := hrel
    by_cases hlt : k < n
    · have hli : (k : Int) < n := by omega
      have hc := hf k hlt
      cases hq : (f k).toList == s.toList
      · have HN : Hid _ := hno
        clear hno
        go_wp2
        go_round
        case rel =>
          refine ⟨k + 1, by omega, by go_num, fun j hj => ?_⟩
          by_cases e : j = k
          · subst e; exact hq
          · exact HN.out j (by omega)
        case measure => simp [intOf]; omega
      · clear hno
        go_wp2
        go_ret
        refine ⟨?_, rfl⟩
        rw [anyF_yes hlt hq]
        rfl
    · obtain rfl : k = n := by omega
      have HN : Hid _ := anyF_no hno
      clear hno
      go_wp2
      go_ret
      refine ⟨?_, rfl⟩
      rw [HN.out]
      rfl
def nullF : Nat → ByteArray
  | 0 => ⟨#[110, 117, 108, 108]⟩
  | 1 => ⟨#[78, 117, 108, 108]⟩
  | 2 => ⟨#[78, 85, 76, 76]⟩
  | 3 => ⟨#[126]⟩
  | _ => ⟨#[]⟩
theorem null_eq (s : ByteArray) : anyF nullF 5 s = isNul s := by
  unfold anyF
  rw [show List.range 5 = [0, 1, 2, 3, 4] from rfl]
  simp only [List.any_cons, List.any_nil, Bool.or_false]
  unfold isNul
  rw [show (nullF 0).toList = [110, 117, 108, 108] from by rw [Lib.toList_data]; rfl]
  rw [show (nullF 1).toList = [78, 117, 108, 108] from by rw [Lib.toList_data]; rfl]
  rw [show (nullF 2).toList = [78, 85, 76, 76] from by rw [Lib.toList_data]; rfl]
  rw [show (nullF 3).toList = [126] from by rw [Lib.toList_data]; rfl]
  rw [show (nullF 4).toList = [] from by rw [Lib.toList_data]; rfl]
  rw [show ([110, 117, 108, 108] == s.toList) = (s.toList == [110, 117, 108, 108]) from BEq.comm]
  rw [show ([78, 117, 108, 108] == s.toList) = (s.toList == [78, 117, 108, 108]) from BEq.comm]
  rw [show ([78, 85, 76, 76] == s.toList) = (s.toList == [78, 85, 76, 76]) from BEq.comm]
  rw [show ([126] == s.toList) = (s.toList == [126]) from BEq.comm]
  rw [show (([] : List UInt8) == s.toList) = (s.toList == ([] : List UInt8)) from BEq.comm]
  simp only [Bool.or_assoc]
theorem null_any (s : ByteArray) (w : World) : Calls Try.prog 28 #[.string s] w fun e w' => e = .returned (.bool (isNul s)) ∧ Below w.heap.size w w' := by
  have HQ : Hid _ := null_eq s
  go_enter Try.func28, Try.ntmps28
  go_wp2_with fail
  refine (among_any s w.heap.size 5 (by decide) _ nullF ?_).mono ?_
  · intro k hk
    have hc : k = 0 ∨ k = 1 ∨ k = 2 ∨ k = 3 ∨ k = 4 := by omega
    rcases hc with rfl | rfl | rfl | rfl | rfl
    all_goals simp [nullF]
  · rintro e w1 ⟨rfl, rfl⟩
    rw [HQ.out]
    go_wp2
    go_ret
    exact ⟨rfl, (Below.refl _ w).alloc (Nat.le_refl _) _⟩
def yesF : Nat → ByteArray
  | 0 => ⟨#[116, 114, 117, 101]⟩
  | 1 => ⟨#[84, 114, 117, 101]⟩
  | _ => ⟨#[84, 82, 85, 69]⟩
theorem yes_eq (s : ByteArray) : anyF yesF 3 s = isYes s := by
  unfold anyF
  rw [show List.range 3 = [0, 1, 2] from rfl]
  simp only [List.any_cons, List.any_nil, Bool.or_false]
  unfold isYes
  rw [show (yesF 0).toList = [116, 114, 117, 101] from by rw [Lib.toList_data]; rfl]
  rw [show (yesF 1).toList = [84, 114, 117, 101] from by rw [Lib.toList_data]; rfl]
  rw [show (yesF 2).toList = [84, 82, 85, 69] from by rw [Lib.toList_data]; rfl]
  rw [show ([116, 114, 117, 101] == s.toList) = (s.toList == [116, 114, 117, 101]) from BEq.comm]
  rw [show ([84, 114, 117, 101] == s.toList) = (s.toList == [84, 114, 117, 101]) from BEq.comm]
  rw [show ([84, 82, 85, 69] == s.toList) = (s.toList == [84, 82, 85, 69]) from BEq.comm]
  simp only [Bool.or_assoc]
theorem yes_any (s : ByteArray) (w : World) : Calls Try.prog 29 #[.string s] w fun e w' => e = .returned (.bool (isYes s)) ∧ Below w.heap.size w w' := by
  have HQ : Hid _ := yes_eq s
  go_enter Try.func29, Try.ntmps29
  go_wp2_with fail
  refine (among_any s w.heap.size 3 (by decide) _ yesF ?_).mono ?_
  · intro k hk
    have hc : k = 0 ∨ k = 1 ∨ k = 2 := by omega
    rcases hc with rfl | rfl | rfl
    all_goals simp [yesF]
  · rintro e w1 ⟨rfl, rfl⟩
    rw [HQ.out]
    go_wp2
    go_ret
    exact ⟨rfl, (Below.refl _ w).alloc (Nat.le_refl _) _⟩
def noF : Nat → ByteArray
  | 0 => ⟨#[102, 97, 108, 115, 101]⟩
  | 1 => ⟨#[70, 97, 108, 115, 101]⟩
  | _ => ⟨#[70, 65, 76, 83, 69]⟩
theorem no_eq (s : ByteArray) : anyF noF 3 s = isNo s := by
  unfold anyF
  rw [show List.range 3 = [0, 1, 2] from rfl]
  simp only [List.any_cons, List.any_nil, Bool.or_false]
  unfold isNo
  rw [show (noF 0).toList = [102, 97, 108, 115, 101] from by rw [Lib.toList_data]; rfl]
  rw [show (noF 1).toList = [70, 97, 108, 115, 101] from by rw [Lib.toList_data]; rfl]
  rw [show (noF 2).toList = [70, 65, 76, 83, 69] from by rw [Lib.toList_data]; rfl]
  rw [show ([102, 97, 108, 115, 101] == s.toList) = (s.toList == [102, 97, 108, 115, 101]) from BEq.comm]
  rw [show ([70, 97, 108, 115, 101] == s.toList) = (s.toList == [70, 97, 108, 115, 101]) from BEq.comm]
  rw [show ([70, 65, 76, 83, 69] == s.toList) = (s.toList == [70, 65, 76, 83, 69]) from BEq.comm]
  simp only [Bool.or_assoc]
theorem no_any (s : ByteArray) (w : World) : Calls Try.prog 30 #[.string s] w fun e w' => e = .returned (.bool (isNo s)) ∧ Below w.heap.size w w' := by
  have HQ : Hid _ := no_eq s
  go_enter Try.func30, Try.ntmps30
  go_wp2_with fail
  refine (among_any s w.heap.size 3 (by decide) _ noF ?_).mono ?_
  · intro k hk
    have hc : k = 0 ∨ k = 1 ∨ k = 2 := by omega
    rcases hc with rfl | rfl | rfl
    all_goals simp [noF]
  · rintro e w1 ⟨rfl, rfl⟩
    rw [HQ.out]
    go_wp2
    go_ret
    exact ⟨rfl, (Below.refl _ w).alloc (Nat.le_refl _) _⟩
end Go.Proofs.Ytpffegkckejpiaa
