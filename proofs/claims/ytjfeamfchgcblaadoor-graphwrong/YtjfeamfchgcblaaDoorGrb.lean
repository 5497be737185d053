/- The law's Big and has. -/
import Derived.Test.YtjfeamfchgcblaaDoorGrr
set_option linter.all false
set_option maxRecDepth 100000
namespace Go.Proofs.YtjfeamfchgcblaaDoor
open Go.RowKit

set_option maxHeartbeats 800000 in
theorem has_any (a : Option Addr) (l : List Int) (c : Nat) (n : Int) (w : World) (hI : Is w a l) (hl : l.length ≤ 1000000) :
    Calls Tryd.prog 19 #[.slice a l.length c, .int .i64 n] w fun e w' => e = .returned (.bool (decide (n ∈ l))) ∧ w' = w := by
  obtain ⟨R, hR⟩ : ∃ R, decide (n ∈ l) = R := ⟨_, rfl⟩
  have HR : Hid (decide (n ∈ l) = R) := hR
  rw [hR]
  clear hR
  go_enter Tryd.func19, Tryd.ntmps19
  go_wp2
  go_loop [5] (fun ri => ∃ i : Nat, i ≤ l.length ∧ ri = .int .i64 i ∧ Hid (∀ j, j < i → iAt l j ≠ n)) (fun ri => l.length - (RowKit.intOf ri).toNat)
  case atStart => exact ⟨0, Nat.zero_le _, rfl, fun j hj => by omega⟩
  case round =>
    obtain ⟨i, hi, rfl, h1⟩ := hrel
    by_cases hlt : i < l.length
    · obtain ⟨b, o, rfl, hc⟩ := hI.at (by omega)
      have c1 := hc i hlt
      have hlt' : (i : Int) < l.length := by omega
      by_cases he : iAt l i = n
      · have hm : n ∈ l := by rw [← he]; unfold iAt; rw [List.getElem?_eq_getElem hlt]; exact List.getElem_mem _
        have he' : (iAt l i == n) = true := by simpa using he
        have hF : R = true := by rw [← HR.out, decide_eq_true hm]
        clear hc h1 HR hm he
        generalize iAt l i = z at c1 he'
        go_wp2
        go_ret
        exact ⟨by first | rfl | exact ret_bool hF.symm, rfl⟩
      · have he' : (iAt l i == n) = false := by simpa using he
        have HN : Hid (∀ j, j < i + 1 → iAt l j ≠ n) := fun j hj => by
          by_cases e : j = i
          · subst e; exact he
          · exact h1.out j (by omega)
        clear hc h1 he
        generalize iAt l i = z at c1 he'
        go_wp2
        go_round
        case rel => exact ⟨i + 1, by omega, by go_num, HN.out⟩
        case measure => simp [RowKit.intOf]; omega
    · obtain rfl : i = l.length := by omega
      have hm : ¬ n ∈ l := fun h => by
        obtain ⟨j, hj, e⟩ := List.mem_iff_getElem.1 h
        refine h1.out j hj ?_
        unfold iAt
        rw [List.getElem?_eq_getElem hj, e]
        rfl
      have hF : R = false := by rw [← HR.out, decide_eq_false hm]
      clear h1 HR hm
      go_wp2
      go_ret
      exact ⟨by first | rfl | exact ret_bool hF.symm, rfl⟩
def wtG (x : Gn) : Nat := x.kids.length + x.text.size / 20 + x.tag.size / 20
def sumB : List Gn → Nat
  | [] => 0
  | x :: G => wtG x + sumB G
theorem sumB_app (A B : List Gn) : sumB (A ++ B) = sumB A + sumB B := by
  induction A with
  | nil => simp [sumB]
  | cons x A ih => simp [sumB, ih]; omega
theorem sumB_step {G : List Gn} {i : Nat} (h : i < G.length) : sumB (G.take (i + 1)) = sumB (G.take i) + wtG (gAt G i) := by
  rw [List.take_add_one, List.getElem?_eq_getElem h, sumB_app, gAt_get h]
  simp [sumB]
theorem sumB_le {G : List Gn} {M : Nat} (hb : ∀ x ∈ G, wtG x ≤ M) : ∀ i, sumB (G.take i) ≤ i * M := by
  intro i
  induction i with
  | zero => simp [sumB]
  | succ i ih =>
    rw [Nat.succ_mul]
    by_cases h : i < G.length
    · rw [sumB_step h]
      have := hb _ (gAt_mem h)
      omega
    · rw [List.take_of_length_le (by omega)]
      rw [List.take_of_length_le (by omega)] at ih
      omega
def bigP (G : List Gn) (nr : Nat) : Bool := decide (60 < G.length ∨ 20 < nr ∨ 400 < sumB (G.take 100))
set_option maxHeartbeats 1600000 in
theorem Big_any (p pr : Option Addr) (c nr cr : Nat) (G : List Gn) (w : World) (hG : Gs w p G) (hb : ∀ x ∈ G, x.kids.length ≤ 1000000000000000 ∧ x.text.size ≤ 1000000000000000 ∧ x.tag.size ≤ 1000000000000000) (hl : G.length ≤ 1000000000000000) (hr : nr ≤ 1000000000000000) :
    Calls Tryd.prog 8 #[grV p G.length c pr nr cr] w fun e w' => e = .returned (.bool (bigP G nr)) ∧ Below w.heap.size w w' := by
  have hwt : ∀ x ∈ G, wtG x ≤ 10000000000000000 := fun x hx => by have := hb x hx; unfold wtG; omega
  have hsb := sumB_le hwt
  obtain ⟨R, hR⟩ : ∃ R, bigP G nr = R := ⟨_, rfl⟩
  have HR : Hid (bigP G nr = R) := hR
  rw [hR]
  clear hR
  unfold grV
  have hB := (Below.refl w.heap.size w).alloc (Nat.le_refl _) (.cells #[.slice p G.length c, .slice pr nr cr] 25)
  have b0 : (w.alloc (.cells #[.slice p G.length c, .slice pr nr cr] 25)).heap[w.heap.size]? = some (.cells #[.slice p G.length c, .slice pr nr cr] 25) := World.alloc_heap_new w _
  obtain ⟨w1, hw1⟩ : ∃ w1, w.alloc (.cells #[.slice p G.length c, .slice pr nr cr] 25) = w1 := ⟨_, rfl⟩
  rw [hw1] at hB b0
  have hlt : w.heap.size < w1.heap.size := by rw [← hw1]; simp
  go_enter Tryd.func8, Tryd.ntmps8
  go_wp2
  go_loopw [3, 4] (fun rs ri wr => ∃ i : Nat, i ≤ G.length ∧ i ≤ 100 ∧ ri = .int .i64 i ∧ rs = .int .i64 (sumB (G.take i) : Nat) ∧ Below w1.heap.size w1 wr) (fun _ ri _ => 100 - (RowKit.intOf ri).toNat)
  case atStart => exact ⟨0, Nat.zero_le _, by omega, rfl, rfl, by first | exact hw1 ▸ Below.refl _ _ | exact Below.refl _ _⟩
  case round =>
    obtain ⟨i, hi, hi2, rfl, rfl, hBr⟩ := hrel
    have hBw : Below w.heap.size w wr := hB.trans (hBr.mono hB.size)
    have hbr := (hBr.block _ hlt).trans b0
    have g0 : wr.cell? ⟨w.heap.size, 0, none⟩ = some (.slice p G.length c) := by simp [World.cell?, hbr]
    have g1 : wr.cell? ⟨w.heap.size, 1, none⟩ = some (.slice pr nr cr) := by simp [World.cell?, hbr]
    have hs1 := hsb i
    have hsi : (sumB (G.take i) : Int) ≤ 1000000000000000000 := by omega
    by_cases hlg : i < G.length
    · by_cases hlh : i < 100
      · have hG2 := hG.on hBw
        obtain ⟨b, o, rfl, hc⟩ := hG2.at_ (by omega)
        have hx := hc i hlg
        have hlg' : (i : Int) < G.length := by omega
        have hlh' : (i : Int) < 100 := by omega
        obtain ⟨t1, t2, t3⟩ := hb _ (gAt_mem hlg)
        have hst := sumB_step hlg
        unfold wtG at hst
        have a1 := hx.c1
        have a2 := hx.c2
        have a3 := hx.c3
        have q1 : ((gAt G i).text.size : Int).tdiv 20 = ((gAt G i).text.size / 20 : Nat) := by rw [Int.tdiv_eq_ediv_of_nonneg (by omega)]; omega
        have q2 : ((gAt G i).tag.size : Int).tdiv 20 = ((gAt G i).tag.size / 20 : Nat) := by rw [Int.tdiv_eq_ediv_of_nonneg (by omega)]; omega
        clear hc hx hG2 HR
        obtain ⟨kl, hkl⟩ : ∃ kl, (gAt G i).kids.length = kl := ⟨_, rfl⟩
        obtain ⟨xl, hxl⟩ : ∃ xl, (gAt G i).text.size = xl := ⟨_, rfl⟩
        obtain ⟨tl, htl⟩ : ∃ tl, (gAt G i).tag.size = tl := ⟨_, rfl⟩
        rw [hkl] at a3 t1 hst
        rw [hxl] at t2 hst q1
        rw [htl] at t3 hst q2
        have HST : Hid (sumB (G.take (i + 1)) = sumB (G.take i) + (kl + xl / 20 + tl / 20)) := hst
        have hkl' : (kl : Int) ≤ 1000000000000000 := by omega
        have hxl' : (xl : Int) ≤ 1000000000000000 := by omega
        have htl' : (tl : Int) ≤ 1000000000000000 := by omega
        clear hst
        go_wp2
        go_quiet (fail)
        go_wp2
        go_roundw
        case rel => exact ⟨i + 1, by omega, by omega, by go_num, by rw [HST.out]; congr 1; omega, below_drewN hBr _⟩
        case measure => simp [RowKit.intOf]; omega
      · have hlg' : (i : Int) < G.length := by omega
        have hlh' : ¬ (i : Int) < 100 := by omega
        have hF : R = true := by rw [← HR.out]; unfold bigP; exact decide_eq_true (.inl (by omega))
        have h60 : (60 : Int) < G.length := by omega
        clear HR hG
        go_wp2
        go_ret
        exact ⟨by first | rfl | exact ret_bool hF.symm, hBw⟩
    · have hlg' : ¬ (i : Int) < G.length := by omega
      obtain rfl : i = G.length := by omega
      have etk : G.take 100 = G := List.take_of_length_le (by omega)
      have etk2 : G.take G.length = G := List.take_length
      have hRR := HR.out
      unfold bigP at hRR
      rw [etk] at hRR
      rw [etk2] at hsi ⊢
      clear HR hG
      by_cases k1 : 60 < G.length
      · have hF : R = true := by rw [← hRR]; exact decide_eq_true (.inl k1)
        have k1' : (60 : Int) < G.length := by omega
        clear hRR
        go_wp2
        go_ret
        exact ⟨by first | rfl | exact ret_bool hF.symm, hBw⟩
      · have k1' : ¬ (60 : Int) < G.length := by omega
        by_cases k2 : 20 < nr
        · have hF : R = true := by rw [← hRR]; exact decide_eq_true (.inr (.inl k2))
          have k2' : (20 : Int) < nr := by omega
          clear hRR
          go_wp2
          go_ret
          exact ⟨by first | rfl | exact ret_bool hF.symm, hBw⟩
        · have k2' : ¬ (20 : Int) < nr := by omega
          by_cases k3 : 400 < sumB G
          · have hF : R = true := by rw [← hRR]; exact decide_eq_true (.inr (.inr k3))
            have k3' : (400 : Int) < (sumB G : Nat) := by omega
            clear hRR
            go_wp2
            go_ret
            exact ⟨by first | rfl | exact ret_bool hF.symm | simp_all, hBw⟩
          · have hF : R = false := by rw [← hRR]; exact decide_eq_false (by omega)
            have k3' : ¬ (400 : Int) < (sumB G : Nat) := by omega
            clear hRR
            go_wp2
            go_ret
            exact ⟨by first | rfl | exact ret_bool hF.symm | simp_all, hBw⟩
end Go.Proofs.YtjfeamfchgcblaaDoor
