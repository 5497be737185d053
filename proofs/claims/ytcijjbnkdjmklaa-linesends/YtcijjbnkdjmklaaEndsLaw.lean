/- LinesEnds' walk: for every two slices of ints. -/
import Derived.Test.YtcijjbnkdjmklaaReadLaw
import Derived.Test.YtcijjbnkdjmklaaEndsP
import Derived.Test.YtcijjbnkdjmklaaEndsW
set_option linter.unusedVariables false
set_option linter.unusedSimpArgs false
namespace Go.Proofs.Ytcijjbnkdjmklaa
open Go.RowKit Go.Shelf

theorem i64_and7 (n : Int) : bits .and .i64 n 7 = n % 8 := by
  have h7 : (BitVec.ofInt 64 7).toNat = 2 ^ 3 - 1 := by decide
  have key : (BitVec.ofInt 64 n &&& BitVec.ofInt 64 7).toNat = (n % ((2 ^ 64 : Nat) : Int)).toNat % 2 ^ 3 := by
    rw [BitVec.toNat_and, BitVec.toNat_ofInt, h7, Nat.and_two_pow_sub_one_eq_mod]
  show IntKind.i64.wrap ((BitVec.ofInt 64 n &&& BitVec.ofInt 64 7).toNat : Nat) = n % 8
  rw [key, IntKind.wrap_i64]
  omega
theorem i64_and3 (n : Int) : bits .and .i64 n 3 = n % 4 := by
  have h3 : (BitVec.ofInt 64 3).toNat = 2 ^ 2 - 1 := by decide
  have key : (BitVec.ofInt 64 n &&& BitVec.ofInt 64 3).toNat = (n % ((2 ^ 64 : Nat) : Int)).toNat % 2 ^ 2 := by
    rw [BitVec.toNat_and, BitVec.toNat_ofInt, h3, Nat.and_two_pow_sub_one_eq_mod]
  show IntKind.i64.wrap ((BitVec.ofInt 64 n &&& BitVec.ofInt 64 3).toNat : Nat) = n % 4
  rw [key, IntKind.wrap_i64]
  omega

def psAt (ws is : List Int) (j : Nat) : Nat × Int := ((iAt is j % 8).toNat, iAt ws j % 4)
def psTo (ws is : List Int) (k : Nat) : List (Nat × Int) := (List.range k).map (psAt ws is)
theorem psTo_succ (ws is : List Int) (k : Nat) : psTo ws is (k + 1) = psTo ws is k ++ [psAt ws is k] := by unfold psTo; rw [List.range_succ, List.map_append]; rfl
theorem psTo_len (ws is : List Int) (k : Nat) : (psTo ws is k).length = k := by unfold psTo; simp
theorem psTo_small (ws is : List Int) (k : Nat) : ∀ x, x ∈ psTo ws is k → x.1 ≤ 7 := by
  intro x hx
  unfold psTo at hx
  obtain ⟨j, -, rfl⟩ := List.mem_map.1 hx
  unfold psAt
  simp
  omega
theorem psTxt_len (ws is : List Int) (k : Nat) : (txtOf (psTo ws is k)).length ≤ 12 * k := by
  have := txt_len (psTo ws is k) (psTo_small ws is k)
  rw [psTo_len] at this
  exact this
theorem want_len (ws is : List Int) (k : Nat) : (wantOf (psTo ws is k)).length = k := by unfold wantOf; rw [List.length_map, psTo_len]

theorem read_txt (q : Option Addr) (ws is : List Int) (k c : Nat) (w : World) (hk : k ≤ 60) (hl : (txtOf (psTo ws is k)).length ≤ c) (hc : c ≤ maxLen) (hI : Is w q (txtOf (psTo ws is k))) :
    Calls Try.prog 8 #[.slice q (txtOf (psTo ws is k)).length c] w fun e w' => ∃ v, e = .returned (.tuple #[v, .int .i64 0]) ∧ Below w.heap.size w w' ∧ Rws w' w.heap.size v (wantOf (psTo ws is k)) := by
  have := Read_any q (txtOf (psTo ws is k)) c w hl hc (by have := psTxt_len ws is k; omega) hI
  rw [txt_good, lines_txt] at this
  exact this

theorem same_want (p q : Option Addr) (ws is : List Int) (k c d : Nat) (w : World) (hk : k ≤ 60) (hp : Ls w p (wantOf (psTo ws is k))) (hq : Ls w q (wantOf (psTo ws is k))) :
    Calls Try.prog 11 #[.slice p (wantOf (psTo ws is k)).length c, .slice q (wantOf (psTo ws is k)).length d] w fun e w' => e = .returned (.bool true) ∧ ∃ k, w' = w.drewN k := by
  refine same_lines p q _ c d w ?_ ?_ hp hq
  · rw [want_len]; omega
  · intro x hx
    unfold wantOf at hx
    obtain ⟨y, -, rfl⟩ := List.mem_map.1 hx
    simp

set_option maxRecDepth 100000 in
set_option maxHeartbeats 4000000 in
theorem ends_law (p q : Option Addr) (ws is : List Int) (c1 c2 : Nat) (w : World) (hn : (ws.length : Int) ≤ 60) (hl : ws.length ≤ is.length) (hm : (is.length : Int) ≤ 9223372036854775807) (h1 : Is w p ws) (h2 : Is w q is) :
    Calls Try.prog 6 #[.slice p ws.length c1, .slice q is.length c2] w fun e w' => e = .returned (.bool true) ∧ Below w.heap.size w w' := by
  have hl' : ¬ (is.length : Int) < ws.length := by omega
  have t1 : decide (60 < (ws.length : Int)) = false := decide_eq_false (by omega)
  have t2 : decide ((is.length : Int) < ws.length) = false := decide_eq_false (by omega)
  have t3 : decide (is.length < ws.length) = false := decide_eq_false (by omega)
  go_enter Try.func6, Try.ntmps6
  go_wp2_with (first | (go_at_call 7; refine (alive_any _).mono ?_; rintro e W ⟨rfl, hB⟩))
  have hI1 := h1.on hB
  have hI2 := h2.on hB
  clear h1 h2
  go_loopw [6, 7, 8] (fun lv wv i wr => ∃ k : Nat, k ≤ ws.length ∧ i = .int .i64 k ∧ Hid (St W wr lv wv (txtOf (psTo ws is k)) (wantOf (psTo ws is k)))) (fun _ _ i _ => ws.length - (intOf i).toNat)
  case atStart => exact ⟨0, Nat.zero_le _, rfl, St.nil W⟩
  case round =>
    obtain ⟨k, hk, rfl, HS⟩ := hrel
    by_cases hlt : k < ws.length
    · obtain ⟨b1, o1, rfl, hb1⟩ := hI1.at (by omega)
      obtain ⟨b2, o2, rfl, hb2⟩ := hI2.at (by omega)
      have hz0 := hb1 k hlt
      have hy0 := hb2 k (by omega)
      have hy := ((hI2.on HS.out.2.2).at (by omega))
      have cz : ∀ w1, Below W.heap.size W w1 → w1.cell? ⟨b1, o1 + k, none⟩ = some (.int .i64 (iAt ws k)) := fun w1 hb => (hb.cell (p := ⟨b1, o1 + k, none⟩) (World.block_lt_of_cell? W _ hz0)).trans hz0
      have cy := (HS.out.2.2.cell (p := ⟨b2, o2 + k, none⟩) (World.block_lt_of_cell? W _ hy0)).trans hy0
      have hkl : (k : Int) < is.length := by omega
      have hA : bits .and .i64 (iAt is k) 7 = (((iAt is k % 8).toNat : Nat) : Int) := by rw [i64_and7]; omega
      have hn7 : (iAt is k % 8).toNat ≤ 7 := by omega
      have hz4 : 0 ≤ iAt ws k % 4 ∧ iAt ws k % 4 < 4 := by omega
      have hA3 := i64_and3 (iAt ws k)
      have htl := psTxt_len ws is k
      have hwl := want_len ws is k
      have HT : Hid (txtOf (psTo ws is (k + 1)) = txtOf (psTo ws is k) ++ lineT (iAt is k % 8).toNat ++ endT (iAt ws k % 4)) := by show _ = _; rw [psTo_succ, txt_snoc]; rfl
      have HV : Hid (wantOf (psTo ws is (k + 1)) = wantOf (psTo ws is k) ++ [((iAt is k % 8).toNat, [9, 120, 32])]) := by show _ = _; rw [psTo_succ, want_snoc]; rfl
      generalize txtOf (psTo ws is k) = tx at HS HT htl
      generalize wantOf (psTo ws is k) = xs at HS HV hwl
      generalize (iAt is k % 8).toNat = n at hA hn7 HT HV
      generalize iAt is k = y at cy hA
      generalize iAt ws k = z at cz hA3 hz4 HT
      clear hz0 hy0 hy hb1 hb2
      go_wp2
      go_loopw [6, 10] (fun lv i wr2 => ∃ m : Nat, m ≤ n ∧ i = .int .i64 m ∧ Hid (St W wr2 lv u7 (tx ++ List.replicate m 32) xs)) (fun _ i _ => n - (intOf i).toNat)
      case atStart => exact ⟨0, Nat.zero_le _, rfl, by have := HS.out; rw [← List.append_nil tx] at this; exact this⟩
      case round =>
        clear HS
        obtain ⟨m, hmn, rfl, HS⟩ := hrel
        by_cases hlm : m < n
        · obtain ⟨lv', w1, hrun, hS1, a', k', cc', rfl⟩ := HS.out.text [32] (by simp; omega)
          have hrun : (Builtin.append_ #[22, 22] 22 #[u6, .slice (some ⟨wr.heap.size, 0, none⟩) 1 1]).run Try.prog (wr.alloc (.cells #[.int .i64 32] 3)) = .ok (.slice a' k' cc') w1 := hrun
          have HS1 : Hid (St W w1 (.slice a' k' cc') u7 (tx ++ List.replicate (m + 1) 32) xs) := by
            show St W w1 _ _ _ _
            rw [List.replicate_succ', ← List.append_assoc]
            exact hS1
          clear hS1 HS cz
          go_wp2_with (at_builtin; refine wpList_append_run rfl _ _ 22 rfl rfl rfl hrun ?_)
          go_roundw
          case rel => exact ⟨m + 1, by omega, by go_num, HS1⟩
          case measure => simp [intOf]; omega
        · obtain rfl : m = n := by omega
          obtain ⟨lv1, w1, hrun1, HS1, a1, k1, cc1, rfl⟩ := HS.out.text [9, 120, 32] (by simp; omega)
          have hrun1 : (Builtin.append_ #[22, 22] 22 #[u6, .slice (some ⟨wr.heap.size, 0, none⟩) 3 3]).run Try.prog (wr.alloc (.cells #[.int .i64 9, .int .i64 120, .int .i64 32] 3)) = .ok (.slice a1 k1 cc1) w1 := hrun1
          obtain ⟨wv1, w2, hrun2, HS2, a2, k2, cc2, rfl⟩ := HS1.line m [9, 120, 32] (by omega) (by unfold maxLen; simp)
          have hrun2 : (Builtin.append_ #[24, 24] 24 #[u7, .slice (some ⟨w1.heap.size + 1, 0, none⟩) 1 1]).run Try.prog ((w1.alloc (.cells #[.int .i64 9, .int .i64 120, .int .i64 32] 3)).alloc (.cells #[.int .i64 m, .slice (some ⟨w1.heap.size, 0, none⟩) 3 3] 34)) = .ok (.slice a2 k2 cc2) w2 := hrun2
          have cz2 := cz w2 HS2.2.2
          have htl3 : (tx ++ List.replicate m 32 ++ [9, 120, 32]).length ≤ 12 * k + 7 + 3 := by simp; omega
          clear HS HS1 cz cy
          by_cases e0 : z % 4 = 0
          · rw [e0] at hA3
            obtain ⟨lv2, w3, hrun3, HS3, a3, k3, cc3, rfl⟩ := HS2.text [10] (by simp at htl3 ⊢; omega)
            have hrun3 : (Builtin.append_ #[22, 22] 22 #[.slice a1 k1 cc1, .slice (some ⟨w2.heap.size, 0, none⟩) 1 1]).run Try.prog (w2.alloc (.cells #[.int .i64 10] 3)) = .ok (.slice a3 k3 cc3) w3 := hrun3
            have HF : Hid (St W w3 (.slice a3 k3 cc3) (.slice a2 k2 cc2) (txtOf (psTo ws is (k + 1))) (wantOf (psTo ws is (k + 1)))) := by
              show St W w3 _ _ _ _
              rw [HT.out, HV.out, show endT (z % 4) = [10] from by unfold endT; rw [if_pos e0]]
              unfold lineT
              rw [← List.append_assoc]
              exact HS3
            clear HS2 HS3 htl3
            go_wp2_with (first | (at_builtin; refine wpList_append_run rfl _ _ 22 rfl rfl rfl hrun1 ?_; clear hrun1) | (at_builtin; refine wpList_append_run rfl _ _ 24 rfl rfl rfl hrun2 ?_; clear hrun2) | (at_builtin; refine wpList_append_run rfl _ _ 22 rfl rfl rfl hrun3 ?_; clear hrun3))
            go_roundw
            case rel => exact ⟨k + 1, by omega, by go_num, HF⟩
            case measure => simp [intOf]; omega
          · by_cases e1 : z % 4 = 1
            · rw [e1] at hA3
              obtain ⟨lv2, w3, hrun3, HS3, a3, k3, cc3, rfl⟩ := HS2.text [13] (by simp at htl3 ⊢; omega)
              have hrun3 : (Builtin.append_ #[22, 22] 22 #[.slice a1 k1 cc1, .slice (some ⟨w2.heap.size, 0, none⟩) 1 1]).run Try.prog (w2.alloc (.cells #[.int .i64 13] 3)) = .ok (.slice a3 k3 cc3) w3 := hrun3
              have HF : Hid (St W w3 (.slice a3 k3 cc3) (.slice a2 k2 cc2) (txtOf (psTo ws is (k + 1))) (wantOf (psTo ws is (k + 1)))) := by
                show St W w3 _ _ _ _
                rw [HT.out, HV.out, show endT (z % 4) = [13] from by unfold endT; rw [if_neg e0, if_pos e1]]
                unfold lineT
                rw [← List.append_assoc]
                exact HS3
              clear HS2 HS3 htl3
              go_wp2_with (first | (at_builtin; refine wpList_append_run rfl _ _ 22 rfl rfl rfl hrun1 ?_; clear hrun1) | (at_builtin; refine wpList_append_run rfl _ _ 24 rfl rfl rfl hrun2 ?_; clear hrun2) | (at_builtin; refine wpList_append_run rfl _ _ 22 rfl rfl rfl hrun3 ?_; clear hrun3))
              go_roundw
              case rel => exact ⟨k + 1, by omega, by go_num, HF⟩
              case measure => simp [intOf]; omega
            · have t0 : (z % 4 == 0) = false := by simpa using e0
              have t1 : (z % 4 == 1) = false := by simpa using e1
              obtain ⟨lv2, w3, hrun3, HS3, a3, k3, cc3, rfl⟩ := HS2.text [13, 10] (by simp at htl3 ⊢; omega)
              have hrun3 : (Builtin.append_ #[22, 22] 22 #[.slice a1 k1 cc1, .slice (some ⟨w2.heap.size, 0, none⟩) 2 2]).run Try.prog (w2.alloc (.cells #[.int .i64 13, .int .i64 10] 3)) = .ok (.slice a3 k3 cc3) w3 := hrun3
              have HF : Hid (St W w3 (.slice a3 k3 cc3) (.slice a2 k2 cc2) (txtOf (psTo ws is (k + 1))) (wantOf (psTo ws is (k + 1)))) := by
                show St W w3 _ _ _ _
                rw [HT.out, HV.out, show endT (z % 4) = [13, 10] from by unfold endT; rw [if_neg e0, if_neg e1]]
                unfold lineT
                rw [← List.append_assoc]
                exact HS3
              clear HS2 HS3 htl3
              go_wp2_with (first | (at_builtin; refine wpList_append_run rfl _ _ 22 rfl rfl rfl hrun1 ?_; clear hrun1) | (at_builtin; refine wpList_append_run rfl _ _ 24 rfl rfl rfl hrun2 ?_; clear hrun2) | (at_builtin; refine wpList_append_run rfl _ _ 22 rfl rfl rfl hrun3 ?_; clear hrun3))
              go_roundw
              case rel => exact ⟨k + 1, by omega, by go_num, HF⟩
              case measure => simp [intOf]; omega
    · obtain rfl : k = ws.length := by omega
      obtain ⟨hrow, hK, hBW⟩ := HS.out
      obtain ⟨a1, k1, cc1, rfl⟩ := ownsRow_form hrow
      obtain ⟨hI3, rfl, hk1, hk2⟩ := is_of_row hrow
      obtain ⟨a2, cc2, rfl, -, -, hL2, -⟩ := hK.rws.read
      have R := read_txt a1 ws is ws.length cc1 wr (by omega) hk1 hk2 hI3
      have S := fun q c d w2 h1 h2 => same_want q a2 ws is ws.length c d w2 (by omega) h1 h2
      have hB2 := hB.trans (hBW.mono hB.size)
      generalize wantOf (psTo ws is ws.length) = xs at R S hL2
      generalize txtOf (psTo ws is ws.length) = tx at R
      clear HS hrow hK hI1 hI2
      go_wp2_with (first | (go_at_call 8; refine R.mono ?_; rintro e w2 ⟨v2, rfl, hb2, hr2⟩; obtain ⟨a3, c3, rfl, -, -, hL3, -⟩ := hr2.read; have hB3 := hB2.trans (hb2.mono hB2.size); clear hr2) | (go_at_call 10; refine (num_any _ _).mono ?_; rintro e w' ⟨rfl, rfl⟩) | (go_at_call 11; refine (S _ _ _ _ hL3 (hL2.on hb2)).mono ?_; rintro e w4 ⟨rfl, m, rfl⟩))
      go_ret
      exact ⟨rfl, belowN hB3 _⟩
end Go.Proofs.Ytcijjbnkdjmklaa
