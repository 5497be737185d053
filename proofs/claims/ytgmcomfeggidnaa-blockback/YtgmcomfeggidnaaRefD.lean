/- The document's own Block: the same text. -/
import Derived.Test.YtgmcomfeggidnaaRefC
set_option linter.unusedVariables false
set_option linter.unusedSimpArgs false
namespace Go.Proofs.Ytgmcomfeggidnaa
open Go.RowKit Go.Shelf

/-- Behind the first k lines: how many empty ones stand last; is there none that is not empty; is the last such one spaced. -/
def blE (R : List Row) (k : Nat) : Nat := ((k : Int) - 1 - (wJ spacedP R k).2).toNat
def blF (R : List Row) (k : Nat) : Bool := decide ((wJ spacedP R k).2 < 0)
def blS (R : List Row) (k : Nat) : Bool := if (wJ spacedP R k).2 < 0 then false else spacedP (tAt R (wJ spacedP R k).2.toNat)
def sepB (f s : Bool) (e : Nat) (sp : Bool) : List Int := if f then List.replicate e 10 else if s || sp then List.replicate (e + 1) 10 else if e = 0 then [32] else List.replicate e 10

theorem bl_no {R : List Row} {k : Nat} (h : (tAt R k).length = 0) : (wJ spacedP R (k + 1)).1 = (wJ spacedP R k).1 ∧ blE R (k + 1) = blE R k + 1 ∧ blF R (k + 1) = blF R k ∧ blS R (k + 1) = blS R k := by
  have hlt := wJ_lt spacedP R k
  unfold blE blF blS
  rw [wJ_no h]
  refine ⟨rfl, by omega, rfl, rfl⟩
theorem bl_yes {R : List Row} {k : Nat} (h : 0 < (tAt R k).length) : (wJ spacedP R (k + 1)).1 = (wJ spacedP R k).1 ++ sepB (blF R k) (blS R k) (blE R k) (spacedP (tAt R k)) ++ tAt R k ∧ blE R (k + 1) = 0 ∧ blF R (k + 1) = false ∧ blS R (k + 1) = spacedP (tAt R k) := by
  have hlt := wJ_lt spacedP R k
  have h1 : (wJ spacedP R (k + 1)).2 = (k : Int) := by rw [wJ_yes h]
  refine ⟨?_, by unfold blE; rw [h1]; omega, by unfold blF; rw [h1]; exact decide_eq_false (by omega), by unfold blS; rw [h1, if_neg (by omega), Int.toNat_natCast]⟩
  rw [wJ_yes h]
  dsimp only
  congr 2
  unfold blF blS blE sepB sepW reps
  generalize (wJ spacedP R k).2 = b at hlt
  by_cases hb : b < 0
  · obtain rfl : b = -1 := by omega
    rw [if_pos hb, if_pos (by simp)]
    congr 1
    omega
  · simp only [hb, if_false, decide_false, Bool.false_eq_true]
    split
    · congr 1
      omega
    · unfold sepI
      by_cases h0 : (k : Int) - b - 1 = 0
      · rw [if_pos h0, if_pos (by omega)]
      · rw [if_neg h0, if_neg (by omega)]
        congr 1
        omega
theorem blE_le (R : List Row) (k : Nat) : blE R k ≤ k := by
  have := wJ_lt spacedP R k
  unfold blE
  omega

set_option maxRecDepth 100000 in
set_option maxHeartbeats 4000000 in
theorem refBlock_any (p : Option Addr) (R : List Row) (cap : Nat) (ch : Int) (w : World) (hS : Sized R) (hM : Mt w p R) :
    Calls Try.prog 28 #[.slice p R.length cap, .int .i64 ch] w fun e w' => ∃ v, e = .returned v ∧ Owns w' w.heap.size v (wholeT spacedP R ch) ∧ Below w.heap.size w w' := by
  have hR := hS.1
  have WH := whole_any p R cap w hR hM
  have hnl := wN_le R R.length
  have HW : Hid (wholeT spacedP R ch = (wJ spacedP R (wN R R.length)).1 ++ List.replicate (chN (wN R R.length) R.length ch) 10) := whole_chomp _ _ _
  generalize wN R R.length = n at WH hnl HW
  go_enter Try.func28, Try.ntmps28
  go_wp2_with (first | (go_at_call 42; refine WH.mono ?_; rintro e w ⟨rfl, rfl⟩))
  clear WH
  go_loopw [6, 7, 8, 9, 10] (fun v e f s i wr => ∃ (k : Nat), k ≤ n ∧ i = .int .i64 k ∧ e = .int .i64 (blE R k : Nat) ∧ f = .bool (blF R k) ∧ s = .bool (blS R k) ∧ Owns wr w.heap.size v (wJ spacedP R k).1 ∧ Below w.heap.size w wr) (fun _ _ _ _ i _ => n - (intOf i).toNat)
  case atStart => exact ⟨0, Nat.zero_le _, rfl, rfl, rfl, rfl, World.ownsRow_nil _ _ 3 1, Below.refl _ _⟩
  case round =>
    obtain ⟨k, hk, rfl, rfl, rfl, rfl, ho, hB⟩ := hrel
    have hbd := wJ_len spacedP R hS k (by omega)
    have heb := blE_le R k
    by_cases hlt : k < n
    · have hli : (k : Int) < n := by omega
      have hlR : (k : Int) < R.length := by omega
      obtain ⟨b0, o0, rfl, hcell⟩ := hM.at (by omega)
      obtain ⟨r, hr⟩ := row_at (R := R) (i := k) (by omega)
      have c0 := (hB.cell (p := ⟨b0, o0 + k, none⟩) (World.block_lt_of_cell? w _ (hcell k r hr))).trans (hcell k r hr)
      have hI := (hM.1 k r hr).2.2
      have hrt := hS.2 k
      have Hn := bl_no (R := R) (k := k)
      have Hy := bl_yes (R := R) (k := k)
      rw [tAt_at hr] at hrt Hn Hy
      generalize (wJ spacedP R k).1 = T at ho Hn Hy hbd
      generalize blE R k = e at Hn Hy heb
      generalize blF R k = f at Hn Hy
      generalize blS R k = s at Hn Hy
      have hlt0 := World.block_lt_of_cell? w _ (hcell k _ hr)
      obtain ⟨rq, rt, rc⟩ := r
      dsimp only at c0 hI hrt Hn Hy
      have hqb := hI.lt
      clear hcell hM
      obtain ⟨va, vk, vc, rfl⟩ := ownsRow_form ho
      by_cases h0 : rt.length = 0
      · have HN : Hid ((wJ spacedP R (k + 1)).1 = T ∧ blE R (k + 1) = e + 1 ∧ blF R (k + 1) = f ∧ blS R (k + 1) = s) := Hn h0
        obtain rfl : rt = [] := List.eq_nil_of_length_eq_zero h0
        clear Hn Hy
        go_wp2
        go_roundw
        case rel => exact ⟨k + 1, by omega, by go_num, (by rw [HN.out.2.1]; go_num), (by rw [HN.out.2.2.1]), (by rw [HN.out.2.2.2]), (by rw [HN.out.1]; exact ho), hB⟩
        case measure => simp [intOf]; omega
      · have h0' : ¬ (rt.length : Int) = 0 := by omega
        have h0b : ((rt.length : Int) == 0) = false := by simpa using h0'
        have h0l : (0 : Int) < rt.length := by omega
        have HY : Hid ((wJ spacedP R (k + 1)).1 = T ++ sepB f s e (spacedP rt) ++ rt ∧ blE R (k + 1) = 0 ∧ blF R (k + 1) = false ∧ blS R (k + 1) = spacedP rt) := Hy (by omega)
        clear Hn Hy
        obtain ⟨b1, o1, rfl, hc1⟩ := (hI.below hqb hB).at (by omega)
        have d0 := hc1 0 (by omega)
        rw [Nat.add_zero] at d0
        have BL := rblank_any (iAt rt 0)
        rw [show blankP (iAt rt 0) = spacedP rt from rfl] at BL
        have HI : Hid (Is w (some ⟨b1, o1, none⟩) rt) := hI
        have hb1l : b1 < w.heap.size := hqb ⟨b1, o1, none⟩ rfl (by omega)
        generalize iAt rt 0 = x0 at d0 BL
        clear hc1 hI hqb
        cases f with
        | true =>
          have HT : Hid ((wJ spacedP R (k + 1)).1 = T ++ List.replicate e 10 ++ rt) := HY.out.1
          generalize spacedP rt = sp at BL HY
          go_wp2_with (first | (go_at_call 32; refine (BL _).mono ?_; clear BL; rintro e wr ⟨rfl, rfl⟩))
          go_loopw [6, 13] (fun v j wx => ∃ (m : Nat), m ≤ e ∧ j = .int .i64 m ∧ Owns wx w.heap.size v (T ++ List.replicate m 10) ∧ Below w.heap.size wr wx) (fun _ j _ => e - (intOf j).toNat)
          case atStart => exact ⟨0, Nat.zero_le _, rfl, (by simpa using ho), Below.refl _ _⟩
          case round =>
            obtain ⟨m, hm2, rfl, ho2, hB2⟩ := hrel
            obtain ⟨va2, vk2, vc2, rfl⟩ := ownsRow_form ho2
            have hB3 := hB.trans hB2
            by_cases hml : m < e
            · have hml' : (m : Int) < (e : Int) := by omega
              obtain ⟨v3, w3, hrun3, ho3, hb3⟩ := push1w ho2 hB3.size (by simp; omega) 10
              obtain ⟨va3, vk3, vc3, rfl⟩ := ownsRow_form ho3
              rw [List.append_assoc, ← List.replicate_succ'] at ho3
              go_wp2_with (first | (at_builtin; refine wpList_append_run (u := .slice va2 vk2 vc2) (y := .slice (some ⟨wr.heap.size, 0, none⟩) 1 1) rfl _ _ 22 rfl rfl rfl hrun3 ?_; clear hrun3))
              go_roundw
              case rel => exact ⟨m + 1, by omega, by go_num, ho3, hB2.trans hb3⟩
              case measure => simp [intOf]; omega
            · have hme : e = m := by omega
              subst hme
              have hml' : ¬ (e : Int) < (e : Int) := by omega
              have c3 := (hB2.cell (p := ⟨b0, o0 + k, none⟩) hlt0).trans c0
              obtain ⟨v3, w3, hrun3, ho3, hg3⟩ := pushL rc ho2 hB3.size (by simp; omega) (HI.out.below (fun a ea _ => by cases ea; exact hb1l) hB3)
              have hb3 := owns_below ho2 hg3 (Nat.le_refl _) hB3.size
              obtain ⟨va3, vk3, vc3, rfl⟩ := ownsRow_form ho3
              go_wp2_with (first | (at_builtin; refine wpList_append_run (u := .slice va2 vk2 vc2) (y := .slice (some ⟨b1, o1, none⟩) rt.length rc) rfl _ _ 22 rfl rfl rfl hrun3 ?_; clear hrun3))
              go_roundw
              case rel => exact ⟨k + 1, by omega, by go_num, (by rw [HY.out.2.1]; rfl), (by rw [HY.out.2.2.1]), (by rw [HY.out.2.2.2]), (by rw [HT.out]; exact ho3), hB3.trans hb3⟩
              case measure => simp [intOf]; omega
        | false =>
          cases s with
          | true =>
            have HT : Hid ((wJ spacedP R (k + 1)).1 = T ++ List.replicate (e + 1) 10 ++ rt) := HY.out.1
            generalize spacedP rt = sp at BL HY
            go_wp2_with (first | (go_at_call 32; refine (BL _).mono ?_; clear BL; rintro e wr ⟨rfl, rfl⟩))
            go_loopw [6, 13] (fun v j wx => ∃ (m : Nat), m ≤ (e + 1) ∧ j = .int .i64 m ∧ Owns wx w.heap.size v (T ++ List.replicate m 10) ∧ Below w.heap.size wr wx) (fun _ j _ => (e + 1) - (intOf j).toNat)
            case atStart => exact ⟨0, Nat.zero_le _, rfl, (by simpa using ho), Below.refl _ _⟩
            case round =>
              obtain ⟨m, hm2, rfl, ho2, hB2⟩ := hrel
              obtain ⟨va2, vk2, vc2, rfl⟩ := ownsRow_form ho2
              have hB3 := hB.trans hB2
              by_cases hml : m < (e + 1)
              · have hml' : (m : Int) < ((e : Int) + 1) := by omega
                obtain ⟨v3, w3, hrun3, ho3, hb3⟩ := push1w ho2 hB3.size (by simp; omega) 10
                obtain ⟨va3, vk3, vc3, rfl⟩ := ownsRow_form ho3
                rw [List.append_assoc, ← List.replicate_succ'] at ho3
                go_wp2_with (first | (at_builtin; refine wpList_append_run (u := .slice va2 vk2 vc2) (y := .slice (some ⟨wr.heap.size, 0, none⟩) 1 1) rfl _ _ 22 rfl rfl rfl hrun3 ?_; clear hrun3))
                go_roundw
                case rel => exact ⟨m + 1, by omega, by go_num, ho3, hB2.trans hb3⟩
                case measure => simp [intOf]; omega
              · have hme : (e + 1) = m := by omega
                subst hme
                have hml' : ¬ ((e + 1 : Nat) : Int) < ((e : Int) + 1) := by omega
                have c3 := (hB2.cell (p := ⟨b0, o0 + k, none⟩) hlt0).trans c0
                obtain ⟨v3, w3, hrun3, ho3, hg3⟩ := pushL rc ho2 hB3.size (by simp; omega) (HI.out.below (fun a ea _ => by cases ea; exact hb1l) hB3)
                have hb3 := owns_below ho2 hg3 (Nat.le_refl _) hB3.size
                obtain ⟨va3, vk3, vc3, rfl⟩ := ownsRow_form ho3
                go_wp2_with (first | (at_builtin; refine wpList_append_run (u := .slice va2 vk2 vc2) (y := .slice (some ⟨b1, o1, none⟩) rt.length rc) rfl _ _ 22 rfl rfl rfl hrun3 ?_; clear hrun3))
                go_roundw
                case rel => exact ⟨k + 1, by omega, by go_num, (by rw [HY.out.2.1]; rfl), (by rw [HY.out.2.2.1]), (by rw [HY.out.2.2.2]), (by rw [HT.out]; exact ho3), hB3.trans hb3⟩
                case measure => simp [intOf]; omega
          | false =>
            cases hsp : spacedP rt with
            | true =>
              have HT : Hid ((wJ spacedP R (k + 1)).1 = T ++ List.replicate (e + 1) 10 ++ rt) := by have := HY.out.1; rw [hsp] at this; exact this
              rw [hsp] at BL HY
              clear hsp
              go_wp2_with (first | (go_at_call 32; refine (BL _).mono ?_; clear BL; rintro e wr ⟨rfl, rfl⟩))
              go_loopw [6, 13] (fun v j wx => ∃ (m : Nat), m ≤ (e + 1) ∧ j = .int .i64 m ∧ Owns wx w.heap.size v (T ++ List.replicate m 10) ∧ Below w.heap.size wr wx) (fun _ j _ => (e + 1) - (intOf j).toNat)
              case atStart => exact ⟨0, Nat.zero_le _, rfl, (by simpa using ho), Below.refl _ _⟩
              case round =>
                obtain ⟨m, hm2, rfl, ho2, hB2⟩ := hrel
                obtain ⟨va2, vk2, vc2, rfl⟩ := ownsRow_form ho2
                have hB3 := hB.trans hB2
                by_cases hml : m < (e + 1)
                · have hml' : (m : Int) < ((e : Int) + 1) := by omega
                  obtain ⟨v3, w3, hrun3, ho3, hb3⟩ := push1w ho2 hB3.size (by simp; omega) 10
                  obtain ⟨va3, vk3, vc3, rfl⟩ := ownsRow_form ho3
                  rw [List.append_assoc, ← List.replicate_succ'] at ho3
                  go_wp2_with (first | (at_builtin; refine wpList_append_run (u := .slice va2 vk2 vc2) (y := .slice (some ⟨wr.heap.size, 0, none⟩) 1 1) rfl _ _ 22 rfl rfl rfl hrun3 ?_; clear hrun3))
                  go_roundw
                  case rel => exact ⟨m + 1, by omega, by go_num, ho3, hB2.trans hb3⟩
                  case measure => simp [intOf]; omega
                · have hme : (e + 1) = m := by omega
                  subst hme
                  have hml' : ¬ ((e + 1 : Nat) : Int) < ((e : Int) + 1) := by omega
                  have c3 := (hB2.cell (p := ⟨b0, o0 + k, none⟩) hlt0).trans c0
                  obtain ⟨v3, w3, hrun3, ho3, hg3⟩ := pushL rc ho2 hB3.size (by simp; omega) (HI.out.below (fun a ea _ => by cases ea; exact hb1l) hB3)
                  have hb3 := owns_below ho2 hg3 (Nat.le_refl _) hB3.size
                  obtain ⟨va3, vk3, vc3, rfl⟩ := ownsRow_form ho3
                  go_wp2_with (first | (at_builtin; refine wpList_append_run (u := .slice va2 vk2 vc2) (y := .slice (some ⟨b1, o1, none⟩) rt.length rc) rfl _ _ 22 rfl rfl rfl hrun3 ?_; clear hrun3))
                  go_roundw
                  case rel => exact ⟨k + 1, by omega, by go_num, (by rw [HY.out.2.1]; rfl), (by rw [HY.out.2.2.1]), (by rw [HY.out.2.2.2]), (by rw [HT.out]; exact ho3), hB3.trans hb3⟩
                  case measure => simp [intOf]; omega
            | false =>
              rw [hsp] at BL HY
              by_cases he0 : e = 0
              · subst he0
                have HT : Hid ((wJ spacedP R (k + 1)).1 = (T ++ [32]) ++ List.replicate 0 10 ++ rt) := by show _ = _; rw [HY.out.1]; simp [sepB]
                clear hsp
                obtain ⟨v1, w1, hrun1, ho1, hb1⟩ := push1w ho hB.size (by omega) 32
                obtain ⟨va1, vk1, vc1, rfl⟩ := ownsRow_form ho1
                go_wp2_with (first | (go_at_call 32; refine (BL _).mono ?_; clear BL; rintro e wr ⟨rfl, rfl⟩) | (at_builtin; refine wpList_append_run (u := .slice va vk vc) (y := .slice (some ⟨wr.heap.size, 0, none⟩) 1 1) rfl _ _ 22 rfl rfl rfl hrun1 ?_; clear hrun1))
                go_loopw [6, 13] (fun v j wx => ∃ (m : Nat), m ≤ 0 ∧ j = .int .i64 m ∧ Owns wx w.heap.size v ((T ++ [32]) ++ List.replicate m 10) ∧ Below w.heap.size wr wx) (fun _ j _ => 0 - (intOf j).toNat)
                case atStart => exact ⟨0, Nat.zero_le _, rfl, (by simpa using ho1), hb1⟩
                case round =>
                  obtain ⟨m, hm2, rfl, ho2, hB2⟩ := hrel
                  obtain ⟨va2, vk2, vc2, rfl⟩ := ownsRow_form ho2
                  have hB3 := hB.trans hB2
                  obtain rfl : m = 0 := by omega
                  have hml' : ¬ (0 : Int) < (0 : Int) := by omega
                  have c3 := (hB2.cell (p := ⟨b0, o0 + k, none⟩) hlt0).trans c0
                  obtain ⟨v3, w3, hrun3, ho3, hg3⟩ := pushL rc ho2 hB3.size (by simp; omega) (HI.out.below (fun a ea _ => by cases ea; exact hb1l) hB3)
                  have hb3 := owns_below ho2 hg3 (Nat.le_refl _) hB3.size
                  obtain ⟨va3, vk3, vc3, rfl⟩ := ownsRow_form ho3
                  go_wp2_with (first | (at_builtin; refine wpList_append_run (u := .slice va2 vk2 vc2) (y := .slice (some ⟨b1, o1, none⟩) rt.length rc) rfl _ _ 22 rfl rfl rfl hrun3 ?_; clear hrun3))
                  go_roundw
                  case rel => exact ⟨k + 1, by omega, by go_num, (by rw [HY.out.2.1]; rfl), (by rw [HY.out.2.2.1]), (by rw [HY.out.2.2.2]), (by rw [HT.out]; exact ho3), hB3.trans hb3⟩
                  case measure => simp [intOf]; omega
              · have he0' : ¬ (e : Int) = 0 := by omega
                have he0b : ((e : Int) == 0) = false := by simpa using he0'
                have HT : Hid ((wJ spacedP R (k + 1)).1 = T ++ List.replicate e 10 ++ rt) := by show _ = _; rw [HY.out.1]; simp [sepB, he0]
                clear hsp
                go_wp2_with (first | (go_at_call 32; refine (BL _).mono ?_; clear BL; rintro e wr ⟨rfl, rfl⟩))
                go_loopw [6, 13] (fun v j wx => ∃ (m : Nat), m ≤ e ∧ j = .int .i64 m ∧ Owns wx w.heap.size v (T ++ List.replicate m 10) ∧ Below w.heap.size wr wx) (fun _ j _ => e - (intOf j).toNat)
                case atStart => exact ⟨0, Nat.zero_le _, rfl, (by simpa using ho), Below.refl _ _⟩
                case round =>
                  obtain ⟨m, hm2, rfl, ho2, hB2⟩ := hrel
                  obtain ⟨va2, vk2, vc2, rfl⟩ := ownsRow_form ho2
                  have hB3 := hB.trans hB2
                  by_cases hml : m < e
                  · have hml' : (m : Int) < (e : Int) := by omega
                    obtain ⟨v3, w3, hrun3, ho3, hb3⟩ := push1w ho2 hB3.size (by simp; omega) 10
                    obtain ⟨va3, vk3, vc3, rfl⟩ := ownsRow_form ho3
                    rw [List.append_assoc, ← List.replicate_succ'] at ho3
                    go_wp2_with (first | (at_builtin; refine wpList_append_run (u := .slice va2 vk2 vc2) (y := .slice (some ⟨wr.heap.size, 0, none⟩) 1 1) rfl _ _ 22 rfl rfl rfl hrun3 ?_; clear hrun3))
                    go_roundw
                    case rel => exact ⟨m + 1, by omega, by go_num, ho3, hB2.trans hb3⟩
                    case measure => simp [intOf]; omega
                  · have hme : e = m := by omega
                    subst hme
                    have hml' : ¬ (e : Int) < (e : Int) := by omega
                    have c3 := (hB2.cell (p := ⟨b0, o0 + k, none⟩) hlt0).trans c0
                    obtain ⟨v3, w3, hrun3, ho3, hg3⟩ := pushL rc ho2 hB3.size (by simp; omega) (HI.out.below (fun a ea _ => by cases ea; exact hb1l) hB3)
                    have hb3 := owns_below ho2 hg3 (Nat.le_refl _) hB3.size
                    obtain ⟨va3, vk3, vc3, rfl⟩ := ownsRow_form ho3
                    go_wp2_with (first | (at_builtin; refine wpList_append_run (u := .slice va2 vk2 vc2) (y := .slice (some ⟨b1, o1, none⟩) rt.length rc) rfl _ _ 22 rfl rfl rfl hrun3 ?_; clear hrun3))
                    go_roundw
                    case rel => exact ⟨k + 1, by omega, by go_num, (by rw [HY.out.2.1]; rfl), (by rw [HY.out.2.2.1]), (by rw [HY.out.2.2.2]), (by rw [HT.out]; exact ho3), hB3.trans hb3⟩
                    case measure => simp [intOf]; omega
    · obtain rfl : k = n := by omega
      obtain ⟨va, vk, vc, rfl⟩ := ownsRow_form ho
      have CH := chomped_any w.heap.size _ (wJ spacedP R k).1 k R.length ch wr hnl hR (by omega) hB.size ho
      rw [← HW.out] at CH
      clear hM
      go_wp2_with (first | (go_at_call 43; refine CH.mono ?_; rintro e w' ⟨v', rfl, ho', hb'⟩))
      go_ret
      exact ⟨_, rfl, ho', hB.trans hb'⟩
end Go.Proofs.Ytgmcomfeggidnaa
