/- The document's own FoldFlow: the same text. -/
import Derived.Test.YtfblagepgflndaaRefA
set_option linter.unusedVariables false
set_option linter.unusedSimpArgs false
namespace Go.Proofs.Ytfblagepgflndaa
open Go.RowKit Go.Shelf

theorem row_at {R : List Row} {i : Nat} (h : i < R.length) : ∃ r, R[i]? = some r := ⟨_, List.getElem?_eq_getElem h⟩
def sepR (k e : Nat) : List Int := if 0 < k ∧ e = 0 then [32] else List.replicate e 10
/-- Behind the first k lines: the text, and how many empty ones stand last. -/
def flS (R : List Row) : Nat → List Int × Nat
  | 0 => ([], 0)
  | k + 1 => if tellF R k then ((flS R k).1 ++ sepR k (flS R k).2 ++ trimG R k, 0) else ((flS R k).1, (flS R k).2 + 1)

theorem flS_join (R : List Row) : ∀ k, (joinT sepFl (trimG R) (told (tellF R) k)).1 = (flS R k).1 ∧ (joinT sepFl (trimG R) (told (tellF R) k)).2 = (k : Int) - 1 - (flS R k).2 ∧ (flS R k).2 + (if k = 0 then 0 else 1) ≤ k
  | 0 => ⟨rfl, rfl, by simp [flS]⟩
  | k + 1 => by
    obtain ⟨h1, h2, h3⟩ := flS_join R k
    cases ht : tellF R k with
    | true =>
      rw [told_yes ht, joinT_snoc, h1, h2]
      rw [show flS R (k + 1) = ((flS R k).1 ++ sepR k (flS R k).2 ++ trimG R k, 0) from by rw [flS, ht]; rfl]
      refine ⟨?_, by dsimp only; omega, by simp⟩
      dsimp only
      have hs : sepFl ((k : Int) - 1 - (flS R k).2) k = sepR k (flS R k).2 := by
        generalize (flS R k).2 = e at h3
        unfold sepFl sepR sepI
        by_cases hk : k = 0
        · subst hk
          simp at h3
          subst h3
          rfl
        · rw [if_neg hk] at h3
          rw [if_neg (by omega), show (k : Int) - ((k : Int) - 1 - e) - 1 = e by omega]
          by_cases he : e = 0
          · subst he; rw [if_pos (by rfl), if_pos ⟨by omega, rfl⟩]
          · rw [if_neg (by omega), if_neg (by omega), Int.toNat_natCast]
      rw [hs]
    | false =>
      have hk : k ≠ 0 := by rintro rfl; simp [tellF] at ht
      rw [told_no ht, h1, h2]
      rw [show flS R (k + 1) = ((flS R k).1, (flS R k).2 + 1) from by rw [flS, ht]; rfl]
      rw [if_neg hk] at h3
      refine ⟨rfl, by dsimp only; omega, ?_⟩
      dsimp only
      rw [if_neg (by omega)]
      omega

theorem flowT_flS (R : List Row) : flowT R = (flS R R.length).1 := (flS_join R R.length).1
theorem flS_len (R : List Row) (hS : Sized R) (k : Nat) (hk : k ≤ R.length) : (flS R k).1.length ≤ 2199025352704 := by
  rw [← (flS_join R k).1]
  have h1 := joinT_len sepFl (trimG R) 1048576 R.length (fun i => Nat.le_trans (trimF_le _ _ _) (hS.2 i)) (fun b i hb hi => sepFl_len _ b i hb hi) (told (tellF R) k) (fun i hi => by
    unfold told at hi
    have := List.mem_range.1 (List.mem_filter.1 hi).1
    omega)
  have h2 := told_len (tellF R) k
  have h3 := hS.1
  have : (told (tellF R) k).length * (1048576 + R.length + 1) ≤ 1048576 * 2097153 := Nat.mul_le_mul (by omega) (by omega)
  omega

set_option maxRecDepth 100000 in
set_option maxHeartbeats 4000000 in
theorem refFlow_any (p : Option Addr) (R : List Row) (cap : Nat) (w : World) (hS : Sized R) (hM : Mt w p R) :
    Calls Try.prog 16 #[.slice p R.length cap] w fun e w' => ∃ v, e = .returned v ∧ Owns w' w.heap.size v (flowT R) ∧ Below w.heap.size w w' := by
  have hR := hS.1
  go_enter Try.func16, Try.ntmps16
  go_wp2
  go_loopw [3, 4, 6] (fun v e i wr => ∃ (k : Nat), k ≤ R.length ∧ i = .int .i64 k ∧ e = .int .i64 ((flS R k).2 : Nat) ∧ Owns wr w.heap.size v (flS R k).1 ∧ Below w.heap.size w wr) (fun _ _ i _ => R.length - (intOf i).toNat)
  case atStart => exact ⟨0, Nat.zero_le _, rfl, rfl, World.ownsRow_nil _ _ 3 1, Below.refl _ _⟩
  case round =>
    obtain ⟨k, hk, rfl, rfl, ho, hB⟩ := hrel
    have hbd := flS_len R hS k hk
    have h3 := (flS_join R k).2.2
    obtain ⟨va, vk, vc, rfl⟩ := ownsRow_form ho
    by_cases hlt : k < R.length
    · have hli : (k : Int) ≤ (R.length : Int) - 1 := by omega
      obtain ⟨b0, o0, rfl, hcell⟩ := hM.at (by omega)
      obtain ⟨r, hr⟩ := row_at hlt
      have c0 := (hB.cell (p := ⟨b0, o0 + k, none⟩) (World.block_lt_of_cell? w _ (hcell k r hr))).trans (hcell k r hr)
      obtain ⟨hc, hm, hI0⟩ := hM.1 k r hr
      have hI := hI0.on hB
      have hrt := hS.2 k
      rw [tAt_at hr] at hrt
      have hG : trimF (decide (0 < k)) (decide (k + 1 < R.length)) r.t = trimG R k := by unfold trimG; rw [tAt_at hr]
      have TR : Calls Try.prog 24 #[.slice r.q r.t.length r.c, .bool (decide (0 < (k : Int))), .bool (decide ((k : Int) < (R.length : Int) - 1))] wr fun e w' => Piece r.q r.t (trimG R k) e ∧ w' = wr := by
        have := trim_any r.q r.t r.c (decide (0 < k)) (decide (k + 1 < R.length)) wr (by omega) hc hm hI
        rw [hG] at this
        rw [show decide (0 < (k : Int)) = decide (0 < k) from by congr 1; simp, show decide ((k : Int) < (R.length : Int) - 1) = decide (k + 1 < R.length) from by congr 1; simp only [eq_iff_iff]; omega]
        exact this
      have htl : (trimG R k).length ≤ 1048576 := by rw [← hG]; exact Nat.le_trans (trimF_le _ _ _) hrt
      obtain ⟨u, hu⟩ : ∃ u, trimG R k = u := ⟨_, rfl⟩
      have HFy : Hid (tellF R k = true → flS R (k + 1) = ((flS R k).1 ++ sepR k (flS R k).2 ++ u, 0)) := by intro h; rw [flS, if_pos h, hu]
      have HFn : Hid (tellF R k = false → flS R (k + 1) = ((flS R k).1, (flS R k).2 + 1)) := by intro h; rw [flS, if_neg (by simp [h])]
      have HTl : Hid (tellF R k = !(decide (0 < k) && decide (k + 1 < R.length) && decide (u.length = 0))) := by show _ = _; unfold tellF; rw [hu]
      rw [hu] at TR htl
      have hqb := hI0.lt
      clear hu hG hcell hM hI0
      generalize (flS R k).1 = T at ho HFy HFn hbd
      generalize (flS R k).2 = e at HFy HFn h3
      obtain ⟨rq, rt, rc⟩ := r
      dsimp only at c0 hc hm hI hrt TR hqb
      by_cases h0k : 0 < k
      · have h0k' : (0 : Int) < k := by omega
        have e1 : decide (0 < (k : Int)) = true := decide_eq_true h0k'
        by_cases h1k : k + 1 < R.length
        · have h1k' : (k : Int) < (R.length : Int) - 1 := by omega
          have e2 : decide ((k : Int) < (R.length : Int) - 1) = true := decide_eq_true h1k'
          rw [e1, e2] at TR
          by_cases hu0 : u.length = 0
          · obtain rfl : u = [] := List.eq_nil_of_length_eq_zero hu0
            have HTF : Hid (tellF R k = false) := by show _ = _; rw [HTl.out]; simp [h0k, h1k]
            clear HTl HFy
            go_wp2_with (first | (go_at_call 24; refine TR.mono ?_; rintro e wr ⟨⟨q, c, rfl, hcq, hsb⟩, rfl⟩; have hIu := hsb.is hI; have hIb := hsb.block hqb))
            go_roundw
            case rel => exact ⟨k + 1, by omega, by go_num, (by rw [HFn.out HTF.out]; go_num), (by rw [HFn.out HTF.out]; exact ho), hB⟩
            case measure => simp [intOf]; omega
          · have hu0' : ¬ (u.length : Int) = 0 := by omega
            have hu0b : ((u.length : Int) == 0) = false := by simpa using hu0'
            have HTF : Hid (tellF R k = true) := by show _ = _; rw [HTl.out]; simp [hu0]
            clear HTl HFn
            by_cases he0 : e = 0
            · subst he0
              have HFI : Hid (flS R (k + 1) = ((T ++ [32]) ++ List.replicate 0 10 ++ u, 0)) := by show _ = _; rw [HFy.out HTF.out]; unfold sepR; rw [if_pos ⟨h0k, rfl⟩]; simp
              obtain ⟨v1, w1, hrun1, ho1, hb1⟩ := push1w ho hB.size (by omega) 32
              obtain ⟨va1, vk1, vc1, rfl⟩ := ownsRow_form ho1
              clear HFy
              go_wp2_with (first | (go_at_call 24; refine TR.mono ?_; rintro e wr ⟨⟨q, c, rfl, hcq, hsb⟩, rfl⟩; have hIu := hsb.is hI; have hIb := hsb.block hqb) | (at_builtin; refine wpList_append_run (u := .slice va vk vc) (y := .slice (some ⟨wr.heap.size, 0, none⟩) 1 1) rfl _ _ 24 rfl rfl rfl hrun1 ?_; clear hrun1))
              go_loopw [3, 8] (fun v j wx => ∃ (m : Nat), m ≤ 0 ∧ j = .int .i64 m ∧ Owns wx w.heap.size v ((T ++ [32]) ++ List.replicate m 10) ∧ Below w.heap.size wr wx) (fun _ j _ => 0 - (intOf j).toNat)
              case atStart => exact ⟨0, Nat.zero_le _, rfl, (by simpa using ho1), hb1⟩
              case round =>
                obtain ⟨m, hm2, rfl, ho2, hB2⟩ := hrel
                obtain ⟨va2, vk2, vc2, rfl⟩ := ownsRow_form ho2
                have hB3 := hB.trans hB2
                obtain rfl : m = 0 := by omega
                obtain ⟨v3, w3, hrun3, ho3, hg3⟩ := pushL c ho2 hB3.size (by simp; omega) (hIu.below hIb hB2)
                have hb3 := owns_below ho2 hg3 (Nat.le_refl _) hB3.size
                obtain ⟨va3, vk3, vc3, rfl⟩ := ownsRow_form ho3
                go_wp2_with (first | (at_builtin; refine wpList_append_run (u := .slice va2 vk2 vc2) (y := .slice q u.length c) rfl _ _ 24 rfl rfl rfl hrun3 ?_; clear hrun3))
                go_roundw
                case rel => exact ⟨k + 1, by omega, by go_num, (by rw [HFI.out]; rfl), (by rw [HFI.out]; exact ho3), hB3.trans hb3⟩
                case measure => simp [intOf]; omega
            · have he0' : ¬ (e : Int) = 0 := by omega
              have he0b : ((e : Int) == 0) = false := by simpa using he0'
              have HFI : Hid (flS R (k + 1) = (T ++ List.replicate e 10 ++ u, 0)) := by show _ = _; rw [HFy.out HTF.out]; unfold sepR; rw [if_neg (by omega)]
              clear HFy
              go_wp2_with (first | (go_at_call 24; refine TR.mono ?_; rintro e wr ⟨⟨q, c, rfl, hcq, hsb⟩, rfl⟩; have hIu := hsb.is hI; have hIb := hsb.block hqb))
              go_loopw [3, 8] (fun v j wx => ∃ (m : Nat), m ≤ e ∧ j = .int .i64 m ∧ Owns wx w.heap.size v (T ++ List.replicate m 10) ∧ Below w.heap.size wr wx) (fun _ j _ => e - (intOf j).toNat)
              case atStart => exact ⟨0, Nat.zero_le _, rfl, (by simpa using ho), Below.refl _ _⟩
              case round =>
                obtain ⟨m, hm2, rfl, ho2, hB2⟩ := hrel
                obtain ⟨va2, vk2, vc2, rfl⟩ := ownsRow_form ho2
                have hB3 := hB.trans hB2
                by_cases hml : m < e
                · have hml' : (m : Int) < (e : Int) := by omega
                  obtain ⟨v3, w3, hrun3, ho3, hb3⟩ := push1w ho2 hB3.size (by simp; omega) 10
                  obtain ⟨va3, vk3, vc3, rfl⟩ := ownsRow_form ho3
                  rw [List.append_assoc, ← List.replicate_succ'] at ho3
                  go_wp2_with (first | (at_builtin; refine wpList_append_run (u := .slice va2 vk2 vc2) (y := .slice (some ⟨wr.heap.size, 0, none⟩) 1 1) rfl _ _ 24 rfl rfl rfl hrun3 ?_; clear hrun3))
                  go_roundw
                  case rel => exact ⟨m + 1, by omega, by go_num, ho3, hB2.trans hb3⟩
                  case measure => simp [intOf]; omega
                · obtain rfl : m = e := by omega
                  obtain ⟨v3, w3, hrun3, ho3, hg3⟩ := pushL c ho2 hB3.size (by simp; omega) (hIu.below hIb hB2)
                  have hb3 := owns_below ho2 hg3 (Nat.le_refl _) hB3.size
                  obtain ⟨va3, vk3, vc3, rfl⟩ := ownsRow_form ho3
                  go_wp2_with (first | (at_builtin; refine wpList_append_run (u := .slice va2 vk2 vc2) (y := .slice q u.length c) rfl _ _ 24 rfl rfl rfl hrun3 ?_; clear hrun3))
                  go_roundw
                  case rel => exact ⟨k + 1, by omega, by go_num, (by rw [HFI.out]; rfl), (by rw [HFI.out]; exact ho3), hB3.trans hb3⟩
                  case measure => simp [intOf]; omega
        · have h1k' : ¬ (k : Int) < (R.length : Int) - 1 := by omega
          have e2 : decide ((k : Int) < (R.length : Int) - 1) = false := decide_eq_false h1k'
          rw [e1, e2] at TR
          have HTF : Hid (tellF R k = true) := by show _ = _; rw [HTl.out]; simp [h1k]
          clear HTl HFn
          by_cases he0 : e = 0
          · subst he0
            have HFI : Hid (flS R (k + 1) = ((T ++ [32]) ++ List.replicate 0 10 ++ u, 0)) := by show _ = _; rw [HFy.out HTF.out]; unfold sepR; rw [if_pos ⟨h0k, rfl⟩]; simp
            obtain ⟨v1, w1, hrun1, ho1, hb1⟩ := push1w ho hB.size (by omega) 32
            obtain ⟨va1, vk1, vc1, rfl⟩ := ownsRow_form ho1
            clear HFy
            go_wp2_with (first | (go_at_call 24; refine TR.mono ?_; rintro e wr ⟨⟨q, c, rfl, hcq, hsb⟩, rfl⟩; have hIu := hsb.is hI; have hIb := hsb.block hqb) | (at_builtin; refine wpList_append_run (u := .slice va vk vc) (y := .slice (some ⟨wr.heap.size, 0, none⟩) 1 1) rfl _ _ 24 rfl rfl rfl hrun1 ?_; clear hrun1))
            go_loopw [3, 8] (fun v j wx => ∃ (m : Nat), m ≤ 0 ∧ j = .int .i64 m ∧ Owns wx w.heap.size v ((T ++ [32]) ++ List.replicate m 10) ∧ Below w.heap.size wr wx) (fun _ j _ => 0 - (intOf j).toNat)
            case atStart => exact ⟨0, Nat.zero_le _, rfl, (by simpa using ho1), hb1⟩
            case round =>
              obtain ⟨m, hm2, rfl, ho2, hB2⟩ := hrel
              obtain ⟨va2, vk2, vc2, rfl⟩ := ownsRow_form ho2
              have hB3 := hB.trans hB2
              obtain rfl : m = 0 := by omega
              obtain ⟨v3, w3, hrun3, ho3, hg3⟩ := pushL c ho2 hB3.size (by simp; omega) (hIu.below hIb hB2)
              have hb3 := owns_below ho2 hg3 (Nat.le_refl _) hB3.size
              obtain ⟨va3, vk3, vc3, rfl⟩ := ownsRow_form ho3
              go_wp2_with (first | (at_builtin; refine wpList_append_run (u := .slice va2 vk2 vc2) (y := .slice q u.length c) rfl _ _ 24 rfl rfl rfl hrun3 ?_; clear hrun3))
              go_roundw
              case rel => exact ⟨k + 1, by omega, by go_num, (by rw [HFI.out]; rfl), (by rw [HFI.out]; exact ho3), hB3.trans hb3⟩
              case measure => simp [intOf]; omega
          · have he0' : ¬ (e : Int) = 0 := by omega
            have he0b : ((e : Int) == 0) = false := by simpa using he0'
            have HFI : Hid (flS R (k + 1) = (T ++ List.replicate e 10 ++ u, 0)) := by show _ = _; rw [HFy.out HTF.out]; unfold sepR; rw [if_neg (by omega)]
            clear HFy
            go_wp2_with (first | (go_at_call 24; refine TR.mono ?_; rintro e wr ⟨⟨q, c, rfl, hcq, hsb⟩, rfl⟩; have hIu := hsb.is hI; have hIb := hsb.block hqb))
            go_loopw [3, 8] (fun v j wx => ∃ (m : Nat), m ≤ e ∧ j = .int .i64 m ∧ Owns wx w.heap.size v (T ++ List.replicate m 10) ∧ Below w.heap.size wr wx) (fun _ j _ => e - (intOf j).toNat)
            case atStart => exact ⟨0, Nat.zero_le _, rfl, (by simpa using ho), Below.refl _ _⟩
            case round =>
              obtain ⟨m, hm2, rfl, ho2, hB2⟩ := hrel
              obtain ⟨va2, vk2, vc2, rfl⟩ := ownsRow_form ho2
              have hB3 := hB.trans hB2
              by_cases hml : m < e
              · have hml' : (m : Int) < (e : Int) := by omega
                obtain ⟨v3, w3, hrun3, ho3, hb3⟩ := push1w ho2 hB3.size (by simp; omega) 10
                obtain ⟨va3, vk3, vc3, rfl⟩ := ownsRow_form ho3
                rw [List.append_assoc, ← List.replicate_succ'] at ho3
                go_wp2_with (first | (at_builtin; refine wpList_append_run (u := .slice va2 vk2 vc2) (y := .slice (some ⟨wr.heap.size, 0, none⟩) 1 1) rfl _ _ 24 rfl rfl rfl hrun3 ?_; clear hrun3))
                go_roundw
                case rel => exact ⟨m + 1, by omega, by go_num, ho3, hB2.trans hb3⟩
                case measure => simp [intOf]; omega
              · obtain rfl : m = e := by omega
                obtain ⟨v3, w3, hrun3, ho3, hg3⟩ := pushL c ho2 hB3.size (by simp; omega) (hIu.below hIb hB2)
                have hb3 := owns_below ho2 hg3 (Nat.le_refl _) hB3.size
                obtain ⟨va3, vk3, vc3, rfl⟩ := ownsRow_form ho3
                go_wp2_with (first | (at_builtin; refine wpList_append_run (u := .slice va2 vk2 vc2) (y := .slice q u.length c) rfl _ _ 24 rfl rfl rfl hrun3 ?_; clear hrun3))
                go_roundw
                case rel => exact ⟨k + 1, by omega, by go_num, (by rw [HFI.out]; rfl), (by rw [HFI.out]; exact ho3), hB3.trans hb3⟩
                case measure => simp [intOf]; omega
      · obtain rfl : k = 0 := by omega
        obtain rfl : e = 0 := by simp at h3; omega
        rw [Nat.add_zero] at c0
        have HTF : Hid (tellF R 0 = true) := by show _ = _; rw [HTl.out]; simp
        have HFI : Hid (flS R (0 + 1) = (T ++ List.replicate 0 10 ++ u, 0)) := by show _ = _; rw [HFy.out HTF.out]; rfl
        clear HTl HFn HFy
        have e1 : decide (0 < ((0 : Nat) : Int)) = false := rfl
        rw [e1] at TR
        have e2 : decide (((0 : Nat) : Int) < (R.length : Int) - 1) = decide ((1 : Int) < (R.length : Int)) := by congr 1; simp only [eq_iff_iff]; omega
        rw [e2] at TR
        go_wp2_with (first | (go_at_call 24; refine TR.mono ?_; rintro e wr ⟨⟨q, c, rfl, hcq, hsb⟩, rfl⟩; have hIu := hsb.is hI; have hIb := hsb.block hqb))
        go_loopw [3, 8] (fun v j wx => ∃ (m : Nat), m ≤ 0 ∧ j = .int .i64 m ∧ Owns wx w.heap.size v (T ++ List.replicate m 10) ∧ Below w.heap.size wr wx) (fun _ j _ => 0 - (intOf j).toNat)
        case atStart => exact ⟨0, Nat.zero_le _, rfl, (by simpa using ho), Below.refl _ _⟩
        case round =>
          obtain ⟨m, hm2, rfl, ho2, hB2⟩ := hrel
          obtain ⟨va2, vk2, vc2, rfl⟩ := ownsRow_form ho2
          have hB3 := hB.trans hB2
          obtain rfl : m = 0 := by omega
          obtain ⟨v3, w3, hrun3, ho3, hg3⟩ := pushL c ho2 hB3.size (by simp; omega) (hIu.below hIb hB2)
          have hb3 := owns_below ho2 hg3 (Nat.le_refl _) hB3.size
          obtain ⟨va3, vk3, vc3, rfl⟩ := ownsRow_form ho3
          go_wp2_with (first | (at_builtin; refine wpList_append_run (u := .slice va2 vk2 vc2) (y := .slice q u.length c) rfl _ _ 24 rfl rfl rfl hrun3 ?_; clear hrun3))
          go_roundw
          case rel => exact ⟨0 + 1, by omega, by go_num, (by rw [HFI.out]; rfl), (by rw [HFI.out]; exact ho3), hB3.trans hb3⟩
          case measure => simp [intOf]; omega
    · obtain rfl : k = R.length := by omega
      rw [← flowT_flS] at ho
      clear hM
      have hlf : ¬ (R.length : Int) ≤ (R.length : Int) - 1 := by omega
      go_wp2
      go_ret
      exact ⟨_, rfl, ho, hB⟩
end Go.Proofs.Ytfblagepgflndaa
