/- The document's Right and May. -/
import Derived.Test.YtjfeamfchgcblaaDoorGra
set_option linter.all false
set_option maxRecDepth 100000
namespace Go.Proofs.YtjfeamfchgcblaaDoor
open Go.RowKit

def sumK : List Gn → Nat
  | [] => 0
  | x :: G => x.kids.length + sumK G
theorem sumK_app (A B : List Gn) : sumK (A ++ B) = sumK A + sumK B := by
  induction A with
  | nil => simp [sumK]
  | cons x A ih => simp [sumK, ih]; omega
theorem sumK_take (G : List Gn) (i : Nat) : sumK (G.take i) ≤ sumK G := by
  have := sumK_app (G.take i) (G.drop i)
  rw [List.take_append_drop] at this
  omega
theorem sumK_step {G : List Gn} {i : Nat} (h : i < G.length) : sumK (G.take (i + 1)) = sumK (G.take i) + (gAt G i).kids.length := by
  rw [List.take_add_one, List.getElem?_eq_getElem h, sumK_app, gAt_get h]
  simp [sumK]
def rightP (rit rv : ByteArray → Bool) (G : List Gn) (rs : List Int) : Bool :=
  (decide (G.length ≤ 20000 ∧ rs.length ≤ 20000) && (decide (sumK G ≤ 20000) && G.all fun x => nodeP rit rv x G.length)) && kidsOk rs G.length
theorem right_few {rit rv : ByteArray → Bool} {G : List Gn} {rs : List Int} (h1 : G.length ≤ 20000 ∧ rs.length ≤ 20000) : rightP rit rv G rs = ((decide (sumK G ≤ 20000) && G.all fun x => nodeP rit rv x G.length) && kidsOk rs G.length) := by
  unfold rightP; rw [decide_eq_true h1]; rfl
theorem right_sum {rit rv : ByteArray → Bool} {G : List Gn} {rs : List Int} {i : Nat} (h : ¬ sumK (G.take i) ≤ 20000) : rightP rit rv G rs = false := by
  have := sumK_take G i
  unfold rightP
  rw [decide_eq_false (p := sumK G ≤ 20000) (by omega)]
  simp
theorem right_node {rit rv : ByteArray → Bool} {G : List Gn} {rs : List Int} {i : Nat} (hi : i < G.length) (h : nodeP rit rv (gAt G i) G.length = false) : rightP rit rv G rs = false := by
  have : (G.all fun x => nodeP rit rv x G.length) = false := by
    rw [List.all_eq_false]
    exact ⟨gAt G i, gAt_mem hi, by rw [h]; decide⟩
  unfold rightP
  rw [this]
  simp
/-- How great a graph may be for what is told here. -/
structure Gz (G : List Gn) : Prop where
  n : G.length ≤ 1000
  t : ∀ x ∈ G, x.tag.size ≤ 1048576 ∧ x.text.size ≤ 1048576 ∧ x.kids.length ≤ 1000000
def grV (p : Option Addr) (n c : Nat) (pr : Option Addr) (nr cr : Nat) : Value := .agg #[.slice p n c, .slice pr nr cr]
set_option maxHeartbeats 1600000 in
theorem rRight_any {rit rv : ByteArray → Bool} (Lo : LowG rit rv) (p pr : Option Addr) (c cr : Nat) (G : List Gn) (rs : List Int) (w : World) (hG : Gs w p G) (hz : Gz G) (hI : Is w pr rs) (hr : rs.length ≤ 1000000) :
    Calls Tryd.prog 10 #[grV p G.length c pr rs.length cr] w fun e w' => e = .returned (.bool (rightP rit rv G rs)) ∧ Below w.heap.size w w' := by
  have hz1 := hz.n
  unfold grV
  obtain ⟨R, hR⟩ : ∃ R, rightP rit rv G rs = R := ⟨_, rfl⟩
  have HR : Hid (rightP rit rv G rs = R) := hR
  rw [hR]
  clear hR
  have hB := (Below.refl w.heap.size w).alloc (Nat.le_refl _) (.cells #[.slice p G.length c, .slice pr rs.length cr] 25)
  have b0 : (w.alloc (.cells #[.slice p G.length c, .slice pr rs.length cr] 25)).heap[w.heap.size]? = some (.cells #[.slice p G.length c, .slice pr rs.length cr] 25) := World.alloc_heap_new w _
  have hlt : w.heap.size < (w.alloc (.cells #[.slice p G.length c, .slice pr rs.length cr] 25)).heap.size := by simp
  obtain ⟨w1, hw1⟩ : ∃ w1, w.alloc (.cells #[.slice p G.length c, .slice pr rs.length cr] 25) = w1 := ⟨_, rfl⟩
  rw [hw1] at hB b0 hlt
  have cells : ∀ W : World, W.heap[w.heap.size]? = w1.heap[w.heap.size]? → (W.cell? ⟨w.heap.size, 0, none⟩ = some (.slice p G.length c) ∧ W.cell? ⟨w.heap.size, 1, none⟩ = some (.slice pr rs.length cr)) := by
    intro W h
    rw [b0] at h
    unfold World.cell?
    rw [h]
    exact ⟨rfl, rfl⟩
  obtain ⟨f0, f1⟩ := cells w1 rfl
  have hn : ¬ (20000 : Int) < G.length := by omega
  by_cases hrs : rs.length ≤ 20000
  · have hrs' : ¬ (20000 : Int) < rs.length := by omega
    have HF := right_few (rit := rit) (rv := rv) (G := G) (rs := rs) ⟨by omega, hrs⟩
    go_enter Tryd.func10, Tryd.ntmps10
    go_wp2
    go_loopw [4, 5] (fun rk ri wr => ∃ i : Nat, i ≤ G.length ∧ ri = .int .i64 i ∧ rk = .int .i64 (sumK (G.take i) : Nat) ∧ Hid (sumK (G.take i) ≤ 20000 ∧ ∀ j, j < i → nodeP rit rv (gAt G j) G.length = true) ∧ Below w1.heap.size w1 wr) (fun _ ri _ => G.length - (RowKit.intOf ri).toNat)
    case atStart => exact ⟨0, Nat.zero_le _, rfl, rfl, ⟨by simp [sumK], fun j hj => by omega⟩, by first | exact hw1 ▸ Below.refl _ _ | exact Below.refl _ _⟩
    case round =>
      obtain ⟨i, hi, rfl, rfl, h1, hBr⟩ := hrel
      have hBw : Below w.heap.size w wr := hB.trans (hBr.mono hB.size)
      obtain ⟨g0, g1⟩ := cells wr (hBr.block _ hlt)
      by_cases hli : i < G.length
      · have hG2 := hG.on hBw
        obtain ⟨b, o, rfl, hc⟩ := hG2.at_ (by omega)
        have hx := hc i hli
        have hk := hG2.k i hli
        have hli' : (i : Int) < G.length := by omega
        obtain ⟨t1, t2, t3⟩ := hz.t _ (gAt_mem hli)
        have NA := rnode_any Lo (gAt G i) G.length wr t1 t2 hk t3
        have hst := sumK_step hli
        have hsl := h1.out.1
        have hw : IntKind.i64.wrap ((sumK (G.take i) : Nat) + ((gAt G i).kids.length : Nat) : Int) = ((sumK (G.take (i + 1)) : Nat) : Int) := by rw [hst]; simp [IntKind.wrap, IntKind.bits, IntKind.signed]; omega
        have a0 := hx.c0
        have a1 := hx.c1
        have a2 := hx.c2
        have a3 := hx.c3
        have a4 := hx.c4
        have HRS : Hid (∀ i, ¬ sumK (G.take i) ≤ 20000 → R = false) := fun i h => HR.out.symm.trans (right_sum h)
        have HRN : Hid (nodeP rit rv (gAt G i) G.length = false → R = false) := fun h => HR.out.symm.trans (right_node hli h)
        unfold gV at NA
        by_cases hs2 : sumK (G.take (i + 1)) ≤ 20000
        · have hs2' : ¬ (20000 : Int) < (sumK (G.take (i + 1)) : Nat) := by omega
          have hs3 : ¬ (20000 : Int) < (sumK (G.take i) : Nat) + ((gAt G i).kids.length : Nat) := by omega
          cases hnp : nodeP rit rv (gAt G i) G.length with
          | false =>
            rw [hnp] at NA
            have hF := HRN.out hnp
            clear HRS HRN HR HF h1 hc hx hk hG2 hnp cells
            go_wp2_with (first | (go_at_call 23; refine NA.mono ?_; rintro e w2 ⟨rfl, hb2⟩))
            go_ret
            exact ⟨ret_bool hF.symm, hBw.trans (hb2.mono hBw.size)⟩
          | true =>
            rw [hnp] at NA
            have HN : Hid (sumK (G.take (i + 1)) ≤ 20000 ∧ ∀ j, j < i + 1 → nodeP rit rv (gAt G j) G.length = true) := ⟨hs2, fun j hj => by
              by_cases e : j = i
              · subst e; exact hnp
              · exact h1.out.2 j (by omega)⟩
            clear HRS HRN HF h1 hc hx hk hG2 hnp cells
            go_wp2_with (first | (go_at_call 23; refine NA.mono ?_; rintro e w2 ⟨rfl, hb2⟩))
            go_roundw
            case rel => exact ⟨i + 1, by omega, by go_num, by first | rfl | (rw [hst]; rfl) | (rw [hst, Int.natCast_add]), HN.out, hBr.trans (hb2.mono hBr.size)⟩
            case measure => simp [RowKit.intOf]; omega
        · have hs3 : (20000 : Int) < (sumK (G.take i) : Nat) + ((gAt G i).kids.length : Nat) := by omega
          have hs2' : (20000 : Int) < (sumK (G.take (i + 1)) : Nat) := by omega
          have hF := HRS.out (i + 1) hs2
          clear HRS HRN HR HF h1 hc hx hk hG2 cells NA
          go_wp2
          go_ret
          exact ⟨ret_bool hF.symm, hBw⟩
      · obtain rfl : i = G.length := by omega
        have HK : Hid (kidsOk rs G.length = R) := by
          show _ = _
          rw [← HR.out, HF, decide_eq_true (p := sumK G ≤ 20000) (by have := h1.out.1; rw [List.take_length] at this; exact this)]
          have : (G.all fun x => nodeP rit rv x G.length) = true := by
            rw [List.all_eq_true]
            intro x hx
            obtain ⟨j, hj, rfl⟩ := List.mem_iff_getElem.1 hx
            have := h1.out.2 j hj
            rw [gAt_get hj] at this
            exact this
          rw [this]
          rfl
        have hI2 := hI.on hBw
        clear HR HF h1 hG
        obtain ⟨wo, rfl⟩ : ∃ wo : World, wo = wr := ⟨_, rfl⟩
        go_wp2
        go_loop [6] (fun ri => ∃ i : Nat, i ≤ rs.length ∧ ri = .int .i64 i ∧ Hid (∀ j, j < i → 0 ≤ iAt rs j ∧ iAt rs j < G.length)) (fun ri => rs.length - (RowKit.intOf ri).toNat)
        case atStart => exact ⟨0, Nat.zero_le _, rfl, fun j hj => by omega⟩
        case round =>
          obtain ⟨i, hi2, rfl, h1⟩ := hrel
          by_cases hlt2 : i < rs.length
          · obtain ⟨b, o, rfl, hc⟩ := hI2.at (by omega)
            have c1 := hc i hlt2
            have hlt3 : (i : Int) < rs.length := by omega
            by_cases hlo : iAt rs i < 0
            · have HF : R = false := by rw [← HK.out, kidsOk_no hlt2 (by omega)]
              generalize iAt rs i = z at c1 hlo
              clear hc h1 HK hI2 cells
              go_wp2
              go_ret
              exact ⟨by first | rfl | exact ret_bool HF.symm, hBw⟩
            · by_cases hhi : (G.length : Int) ≤ iAt rs i
              · have HF : R = false := by rw [← HK.out, kidsOk_no hlt2 (by omega)]
                generalize iAt rs i = z at c1 hlo hhi
                clear hc h1 HK hI2 cells
                go_wp2
                go_ret
                exact ⟨by first | rfl | exact ret_bool HF.symm, hBw⟩
              · have HN : Hid (∀ j, j < i + 1 → 0 ≤ iAt rs j ∧ iAt rs j < G.length) := fun j hj => by
                  by_cases e : j = i
                  · subst e; omega
                  · exact h1.out j (by omega)
                generalize iAt rs i = z at c1 hlo hhi
                clear hc h1 HK hI2 cells
                go_wp2
                go_round
                case rel => exact ⟨i + 1, by omega, by go_num, HN.out⟩
                case measure => simp [RowKit.intOf]; omega
          · obtain rfl : i = rs.length := by omega
            have HF : R = true := by rw [← HK.out, kidsOk_yes h1.out]
            clear h1 HK hI2 cells
            go_wp2
            go_ret
            exact ⟨by first | rfl | exact ret_bool HF.symm, hBw⟩
  · have hrs' : (20000 : Int) < rs.length := by omega
    have hF : R = false := by rw [← HR.out]; unfold rightP; rw [decide_eq_false (p := G.length ≤ 20000 ∧ rs.length ≤ 20000) (by omega)]; rfl
    clear HR cells
    go_enter Tryd.func10, Tryd.ntmps10
    go_wp2
    go_ret
    exact ⟨by first | rfl | exact ret_bool hF.symm, by first | exact hB | exact hw1 ▸ hB⟩
def mayP (rit rv : ByteArray → Bool) (G : List Gn) (rs : List Int) (r : Int) : Bool := rightP rit rv G rs && decide (0 ≤ r ∧ r < G.length)
set_option maxHeartbeats 1600000 in
theorem rMay_any {rit rv : ByteArray → Bool} (Lo : LowG rit rv) (p pr : Option Addr) (c cr : Nat) (G : List Gn) (rs : List Int) (r : Int) (w : World) (hG : Gs w p G) (hz : Gz G) (hI : Is w pr rs) (hr : rs.length ≤ 1000000) :
    Calls Tryd.prog 18 #[grV p G.length c pr rs.length cr, .int .i64 r] w fun e w' => e = .returned (.bool (mayP rit rv G rs r)) ∧ Below w.heap.size w w' := by
  have hB := (Below.refl w.heap.size w).alloc (Nat.le_refl _) (.cells #[.slice p G.length c, .slice pr rs.length cr] 25)
  have b0 : (w.alloc (.cells #[.slice p G.length c, .slice pr rs.length cr] 25)).heap[w.heap.size]? = some (.cells #[.slice p G.length c, .slice pr rs.length cr] 25) := World.alloc_heap_new w _
  have hlt : w.heap.size < (w.alloc (.cells #[.slice p G.length c, .slice pr rs.length cr] 25)).heap.size := by simp
  obtain ⟨w1, hw1⟩ : ∃ w1, w.alloc (.cells #[.slice p G.length c, .slice pr rs.length cr] 25) = w1 := ⟨_, rfl⟩
  rw [hw1] at hB b0 hlt
  have RR := rRight_any Lo p pr c cr G rs w1 (hG.on hB) hz (hI.on hB) hr
  unfold grV at RR ⊢
  unfold mayP
  have cells : ∀ W : World, W.heap[w.heap.size]? = w1.heap[w.heap.size]? → (W.cell? ⟨w.heap.size, 0, none⟩ = some (.slice p G.length c) ∧ W.cell? ⟨w.heap.size, 1, none⟩ = some (.slice pr rs.length cr)) := by
    intro W h
    rw [b0] at h
    unfold World.cell?
    rw [h]
    exact ⟨rfl, rfl⟩
  obtain ⟨f0, f1⟩ := cells w1 rfl
  have hz1 := hz.n
  cases hR : rightP rit rv G rs with
  | false =>
    rw [hR] at RR
    go_enter Tryd.func18, Tryd.ntmps18
    go_wp2_with (first | (go_at_call 10; (try rw [hw1]); refine RR.mono ?_; rintro e w2 ⟨rfl, hb⟩))
    go_ret
    exact ⟨rfl, hB.trans (hb.mono hB.size)⟩
  | true =>
    rw [hR] at RR
    by_cases h0 : 0 ≤ r
    · by_cases h1 : r < G.length
      · rw [decide_eq_true (p := 0 ≤ r ∧ r < G.length) ⟨h0, h1⟩]
        go_enter Tryd.func18, Tryd.ntmps18
        go_wp2_with (first | (go_at_call 10; (try rw [hw1]); refine RR.mono ?_; rintro e w2 ⟨rfl, hb⟩; obtain ⟨g0, g1⟩ := cells w2 (hb.block _ hlt)))
        go_ret
        exact ⟨by first | rfl | simp_all, hB.trans (hb.mono hB.size)⟩
      · rw [decide_eq_false (p := 0 ≤ r ∧ r < G.length) (by omega)]
        go_enter Tryd.func18, Tryd.ntmps18
        go_wp2_with (first | (go_at_call 10; (try rw [hw1]); refine RR.mono ?_; rintro e w2 ⟨rfl, hb⟩; obtain ⟨g0, g1⟩ := cells w2 (hb.block _ hlt)))
        go_ret
        exact ⟨by first | rfl | simp_all, hB.trans (hb.mono hB.size)⟩
    · rw [decide_eq_false (p := 0 ≤ r ∧ r < G.length) (by omega)]
      go_enter Tryd.func18, Tryd.ntmps18
      go_wp2_with (first | (go_at_call 10; (try rw [hw1]); refine RR.mono ?_; rintro e w2 ⟨rfl, hb⟩; obtain ⟨g0, g1⟩ := cells w2 (hb.block _ hlt)))
      go_ret
      exact ⟨by first | rfl | simp_all, hB.trans (hb.mono hB.size)⟩
end Go.Proofs.YtjfeamfchgcblaaDoor
