/- The program's Right and hasRoot. -/
import Derived.Test.YtjfeamfchgcblaaDoorPgr
set_option linter.all false
set_option maxRecDepth 100000
namespace Go.Proofs.YtjfeamfchgcblaaDoor
open Go.RowKit

/-- A copy of a node. -/
structure N5 (b : Nat) (x : Gn) (W : World) : Prop where
  c0 : W.cell? ⟨b, 0, none⟩ = some (.int .i64 x.kind)
  c1 : W.cell? ⟨b, 1, none⟩ = some (.string x.tag)
  c2 : W.cell? ⟨b, 2, none⟩ = some (.string x.text)
  c3 : W.cell? ⟨b, 3, none⟩ = some (.slice x.q x.kids.length x.c)
  c4 : W.cell? ⟨b, 4, none⟩ = some (.bool x.plain)
theorem n5_of {b : Nat} {x : Gn} {W : World} (h : W.heap[b]? = some (.cells #[.int .i64 x.kind, .string x.tag, .string x.text, .slice x.q x.kids.length x.c, .bool x.plain] 33)) : N5 b x W := by
  constructor <;> (unfold World.cell?; rw [h]; rfl)
theorem N5.on {b : Nat} {x : Gn} {A B : World} (h : N5 b x A) (hb : Below A.heap.size A B) : N5 b x B := by
  have hlt := World.block_lt_of_cell? A _ h.c0
  dsimp only at hlt
  exact ⟨(hb.cell (p := ⟨b, 0, none⟩) hlt).trans h.c0, (hb.cell (p := ⟨b, 1, none⟩) hlt).trans h.c1, (hb.cell (p := ⟨b, 2, none⟩) hlt).trans h.c2, (hb.cell (p := ⟨b, 3, none⟩) hlt).trans h.c3, (hb.cell (p := ⟨b, 4, none⟩) hlt).trans h.c4⟩
/-- The box of a graph, and that it stays. -/
structure G2 (b : Nat) (x y : Value) (W : World) : Prop where
  c0 : W.cell? ⟨b, 0, none⟩ = some x
  c1 : W.cell? ⟨b, 1, none⟩ = some y
theorem g2_of {b : Nat} {x y : Value} {W : World} {f : Nat × Nat} (h : W.heap[b]? = some (.cells #[x, y] 25 f)) : G2 b x y W := by
  constructor <;> (unfold World.cell?; rw [h]; rfl)
theorem G2.on {b : Nat} {x y : Value} {A B : World} (h : G2 b x y A) (hb : Below A.heap.size A B) : G2 b x y B := by
  have hlt := World.block_lt_of_cell? A _ h.c0
  dsimp only at hlt
  exact ⟨(hb.cell (p := ⟨b, 0, none⟩) hlt).trans h.c0, (hb.cell (p := ⟨b, 1, none⟩) hlt).trans h.c1⟩
theorem right_roots {rit rv : ByteArray → Bool} {G : List Gn} {rs : List Int} (h : kidsOk rs G.length = false) : rightP rit rv G rs = false := by
  unfold rightP; rw [h, Bool.and_false]
set_option maxHeartbeats 3200000 in
theorem Right_any {Tb : World → Prop} {rit rv : ByteArray → Bool} (Lo : LowP Tb rit rv) (p pr : Option Addr) (c cr : Nat) (G : List Gn) (rs : List Int) (w : World) (hT : Tb w) (hG : Gs w p G) (hz : Gz G) (hI : Is w pr rs) (hr : rs.length ≤ 1000000) :
    Calls Tryd.prog 9 #[grV p G.length c pr rs.length cr] w fun e w' => e = .returned (.bool (rightP rit rv G rs)) ∧ Below w.heap.size w w' := by
  have hz1 := hz.n
  obtain ⟨R, hR⟩ : ∃ R, rightP rit rv G rs = R := ⟨_, rfl⟩
  have HR : Hid (rightP rit rv G rs = R) := hR
  rw [hR]
  clear hR
  have hB := (Below.refl w.heap.size w).alloc (Nat.le_refl _) (.cells #[.slice p G.length c, .slice pr rs.length cr] 25)
  have b0 : (w.alloc (.cells #[.slice p G.length c, .slice pr rs.length cr] 25)).heap[w.heap.size]? = some (.cells #[.slice p G.length c, .slice pr rs.length cr] 25) := World.alloc_heap_new w _
  obtain ⟨w1, hw1⟩ : ∃ w1, w.alloc (.cells #[.slice p G.length c, .slice pr rs.length cr] 25) = w1 := ⟨_, rfl⟩
  rw [hw1] at hB b0
  have hg1 := g2_of b0
  clear b0
  obtain ⟨f0, f1⟩ := hg1
  have hg1 : G2 w.heap.size (.slice p G.length c) (.slice pr rs.length cr) w1 := ⟨f0, f1⟩
  have hn : ¬ (20000 : Int) < G.length := by omega
  by_cases hrs : rs.length ≤ 20000
  · have hrs' : ¬ (20000 : Int) < rs.length := by omega
    have AR := areNodes_any p pr G.length c rs.length cr pr rs cr w1 (by omega) (hI.on hB) (by omega)
    unfold grV at AR ⊢
    cases hk : kidsOk rs G.length with
    | false =>
      rw [hk] at AR
      have hF : R = false := by rw [← HR.out]; exact right_roots hk
      clear HR hk
      go_enter Tryd.func9, Tryd.ntmps9
      go_wp2_with (first | (go_at_call 20; (try rw [hw1]); refine AR.mono ?_; rintro e w2 ⟨rfl, hb2⟩))
      go_ret
      exact ⟨by first | rfl | exact ret_bool hF.symm, hB.trans (hb2.mono hB.size)⟩
    | true =>
      rw [hk] at AR
      have HF : Hid ((decide (sumK G ≤ 20000) && G.all fun x => nodeP rit rv x G.length) = R) := by
        show _ = _
        rw [← HR.out, right_few ⟨by omega, hrs⟩, hk, Bool.and_true]
      clear hk
      go_enter Tryd.func9, Tryd.ntmps9
      go_wp2_with (first | (go_at_call 20; (try rw [hw1]); refine AR.mono ?_; rintro e w2 ⟨rfl, hb2⟩; obtain ⟨g0, g1⟩ := hg1.on hb2))
      have hg2 := hg1.on hb2
      have hB2 := hB.trans (hb2.mono hB.size)
      clear AR f0 f1 g0 g1
      obtain ⟨g0, g1⟩ := hg2
      have hg2 : G2 w.heap.size (.slice p G.length c) (.slice pr rs.length cr) w2 := ⟨g0, g1⟩
      go_loopw [3, 26] (fun rk ri wr => ∃ i : Nat, i ≤ G.length ∧ ri = .int .i64 i ∧ rk = .int .i64 (sumK (G.take i) : Nat) ∧ Hid (sumK (G.take i) ≤ 20000 ∧ ∀ j, j < i → nodeP rit rv (gAt G j) G.length = true) ∧ Below w2.heap.size w2 wr) (fun _ ri _ => G.length - (RowKit.intOf ri).toNat)
      case atStart => exact ⟨0, Nat.zero_le _, rfl, rfl, ⟨by simp [sumK], fun j hj => by omega⟩, Below.refl _ _⟩
      case round =>
        clear g0 g1
        obtain ⟨i, hi, rfl, rfl, h1, hBr⟩ := hrel
        have hBw : Below w.heap.size w wr := hB2.trans (hBr.mono hB2.size)
        have hgr := hg2.on hBr
        by_cases hli : i < G.length
        · have hG2 := hG.on hBw
          obtain ⟨b, o, rfl, hc⟩ := hG2.at_ (by omega)
          have hx := hc i hli
          have hk := hG2.k i hli
          have hli' : (i : Int) < G.length := by omega
          obtain ⟨t1, t2, t3⟩ := hz.t _ (gAt_mem hli)
          have hst := sumK_step hli
          have hsl := h1.out.1
          have a0 := hx.c0
          have a1 := hx.c1
          have a2 := hx.c2
          have a3 := hx.c3
          have a4 := hx.c4
          have HRS : Hid (∀ i, ¬ sumK (G.take i) ≤ 20000 → R = false) := fun i h => HR.out.symm.trans (right_sum h)
          have HRN : Hid (nodeP rit rv (gAt G i) G.length = false → R = false) := fun h => HR.out.symm.trans (right_node hli h)
          have HN : Hid (sumK (G.take (i + 1)) ≤ 20000 → nodeP rit rv (gAt G i) G.length = true → sumK (G.take (i + 1)) ≤ 20000 ∧ ∀ j, j < i + 1 → nodeP rit rv (gAt G j) G.length = true) := fun hs hnp => ⟨hs, fun j hj => by
            by_cases e : j = i
            · subst e; exact hnp
            · exact h1.out.2 j (by omega)⟩
          have HS : Hid (sumK (G.take (i + 1)) = sumK (G.take i) + (gAt G i).kids.length) := hst
          have hTr : Tb wr := Lo.on hT hBw
          clear HR HF h1 hc hx hG2 hst
          generalize hxg : gAt G i = x at *
          have hwr : Below wr.heap.size wr (wr.alloc (.cells #[.int .i64 x.kind, .string x.tag, .string x.text, .slice x.q x.kids.length x.c, .bool x.plain] 33)) := (Below.refl _ wr).alloc (Nat.le_refl _) _
          have hn5 : N5 wr.heap.size x (wr.alloc (.cells #[.int .i64 x.kind, .string x.tag, .string x.text, .slice x.q x.kids.length x.c, .bool x.plain] 33)) := n5_of (World.alloc_heap_new wr _)
          obtain ⟨wx, hwx⟩ : ∃ wx, wr.alloc (.cells #[.int .i64 x.kind, .string x.tag, .string x.text, .slice x.q x.kids.length x.c, .bool x.plain] 33) = wx := ⟨_, rfl⟩
          rw [hwx] at hwr hn5
          have hgx := hgr.on hwr
          have hBx : Below w.heap.size w wx := hBw.trans (hwr.mono hBw.size)
          have hBx2 : Below w2.heap.size w2 wx := hBr.trans (hwr.mono hBr.size)
          have hTx : Tb wx := Lo.on hTr hwr
          have AN := areNodes_any (some ⟨b, o, none⟩) pr G.length c rs.length cr x.q x.kids x.c wx (by omega) (hk.is.on hwr) t3
          unfold grV at AN
          have FK : Hid (∀ W, Tb W → Calls Tryd.prog 21 #[gV x] W fun e w' => e = .returned (.bool (kindOk rit x)) ∧ Below W.heap.size W w') := fun W hW => fitsKind_any Lo x W t2 hW t3
          have TG : Hid (∀ W, Calls Tryd.prog 22 #[.string x.tag] W fun e w' => e = .returned (.bool (tagOk rv x.tag)) ∧ Below W.heap.size W w') := fun W => isTag_any Lo x.tag W t1
          have HNP : Hid (nodeP rit rv x G.length = (tagOk rv x.tag && (kidsOk x.kids G.length && kindOk rit x))) := rfl
          unfold gV at FK
          have hKl : (x.kids.length : Int) ≤ 1000000 := by omega
          obtain ⟨kl, hkl⟩ : ∃ kl, x.kids.length = kl := ⟨_, rfl⟩
          obtain ⟨sm, hsm⟩ : ∃ sm, sumK (G.take i) = sm := ⟨_, rfl⟩
          have hsl' : (sm : Int) ≤ 20000 := by omega
          have g0 := hgr.c0
          have g1 := hgr.c1
          have y0 := hn5.c0
          have y1 := hn5.c1
          have y2 := hn5.c2
          have y3 := hn5.c3
          have y4 := hn5.c4
          have gx0 := hgx.c0
          have gx1 := hgx.c1
          obtain ⟨xk, xt, xx, xq, xs, xc, xp⟩ := x
          dsimp only at *
          rw [hkl] at AN FK hwx a3 y3 hKl
          rw [hsm] at HS hsl ⊢
          by_cases hs2 : sm + kl ≤ 20000
          · have hs3 : ¬ (20000 : Int) < (sm : Int) + kl := by omega
            have hs4 : sumK (G.take (i + 1)) ≤ 20000 := by rw [HS.out, hkl]; exact hs2
            cases k1 : kidsOk xs G.length with
            | false =>
              rw [k1] at AN
              have hF : R = false := HRN.out (by rw [HNP.out, k1]; simp)
              clear HRN HRS HN HNP FK TG hk hn5 hgx hgr HS hxg k1 hs4
              go_wp2_with (first | (go_at_call 20; (try rw [hwx]); refine AN.mono ?_; rintro e w3 ⟨rfl, hb3⟩))
              go_ret
              exact ⟨by first | rfl | exact ret_bool hF.symm, hBx.trans (hb3.mono hBx.size)⟩
            | true =>
              rw [k1] at AN
              cases k2 : kindOk rit ⟨xk, xt, xx, xq, xs, xc, xp⟩ with
              | false =>
                rw [k2] at FK
                have hF : R = false := HRN.out (by rw [HNP.out, k2]; simp)
                clear HRN HRS HN HNP TG hk HS hxg k1 k2 hs4
                go_wp2_with (first | (go_at_call 20; (try rw [hwx]); refine AN.mono ?_; rintro e w3 ⟨rfl, hb3⟩; obtain ⟨z0, z1, z2, z3, z4⟩ := hn5.on hb3; (try rw [hkl] at z3); have FK3 := FK.out w3 (Lo.on hTx hb3)) | (go_at_call 21; refine FK3.mono ?_; rintro e w4 ⟨rfl, hb4⟩))
                go_ret
                exact ⟨by first | rfl | exact ret_bool hF.symm, (hBx.trans (hb3.mono hBx.size)).trans (hb4.mono (by have := hBx.size; have := hb3.size; omega))⟩
              | true =>
                rw [k2] at FK
                cases k3 : tagOk rv xt with
                | false =>
                  rw [k3] at TG
                  have hF : R = false := HRN.out (by rw [HNP.out, k3]; simp)
                  clear HRN HRS HN HNP hk HS hxg k1 k2 k3 hs4
                  go_wp2_with (first | (go_at_call 20; (try rw [hwx]); refine AN.mono ?_; rintro e w3 ⟨rfl, hb3⟩; have hn6 := hn5.on hb3; obtain ⟨z0, z1, z2, z3, z4⟩ := hn5.on hb3; (try rw [hkl] at z3); have FK3 := FK.out w3 (Lo.on hTx hb3)) | (go_at_call 21; refine FK3.mono ?_; rintro e w4 ⟨rfl, hb4⟩; obtain ⟨v0, v1, v2, v3, v4⟩ := hn6.on hb4; have TG4 := TG.out w4) | (go_at_call 22; refine TG4.mono ?_; rintro e w5 ⟨rfl, hb5⟩))
                  go_ret
                  exact ⟨by first | rfl | exact ret_bool hF.symm, ((hBx.trans (hb3.mono hBx.size)).trans (hb4.mono (by have := hBx.size; have := hb3.size; omega))).trans (hb5.mono (by have := hBx.size; have := hb3.size; have := hb4.size; omega))⟩
                | true =>
                  rw [k3] at TG
                  have HN2 : Hid (sumK (G.take (i + 1)) ≤ 20000 ∧ ∀ j, j < i + 1 → nodeP rit rv (gAt G j) G.length = true) := HN.out hs4 (by rw [HNP.out, k1, k2, k3]; rfl)
                  have HS2 : Hid (sumK (G.take (i + 1)) = sm + kl) := by show _ = _; rw [HS.out, hkl]
                  clear HRN HRS HN HNP hk HS hxg k1 k2 k3 hs4
                  go_wp2_with (first | (go_at_call 20; (try rw [hwx]); refine AN.mono ?_; rintro e w3 ⟨rfl, hb3⟩; have hn6 := hn5.on hb3; obtain ⟨z0, z1, z2, z3, z4⟩ := hn5.on hb3; (try rw [hkl] at z3); have FK3 := FK.out w3 (Lo.on hTx hb3)) | (go_at_call 21; refine FK3.mono ?_; rintro e w4 ⟨rfl, hb4⟩; obtain ⟨v0, v1, v2, v3, v4⟩ := hn6.on hb4; have TG4 := TG.out w4) | (go_at_call 22; refine TG4.mono ?_; rintro e w5 ⟨rfl, hb5⟩))
                  go_roundw
                  case rel => exact ⟨i + 1, by omega, by go_num, by rw [HS2.out]; first | rfl | go_num, HN2.out, ((hBx2.trans (hb3.mono hBx2.size)).trans (hb4.mono (by have := hBx2.size; have := hb3.size; omega))).trans (hb5.mono (by have := hBx2.size; have := hb3.size; have := hb4.size; omega))⟩
                  case measure => simp [RowKit.intOf]; omega
          · have hs3 : (20000 : Int) < (sm : Int) + kl := by omega
            have hF : R = false := HRS.out (i + 1) (by rw [HS.out, hkl]; exact hs2)
            clear HRN HRS HN HNP FK TG hk hn5 hgx hgr HS hxg AN
            go_wp2
            go_ret
            exact ⟨by first | rfl | exact ret_bool hF.symm, by first | exact hBx | exact hwx ▸ hBx⟩
        · obtain rfl : i = G.length := by omega
          have hF : R = true := by
            rw [← HF.out, decide_eq_true (p := sumK G ≤ 20000) (by have := h1.out.1; rw [List.take_length] at this; exact this)]
            have : (G.all fun x => nodeP rit rv x G.length) = true := by
              rw [List.all_eq_true]
              intro x hx
              obtain ⟨j, hj, rfl⟩ := List.mem_iff_getElem.1 hx
              have := h1.out.2 j hj
              rw [gAt_get hj] at this
              exact this
            rw [this]
            rfl
          clear HR HF h1 hG
          go_wp2
          go_ret
          exact ⟨by first | rfl | exact ret_bool hF.symm, hBw⟩
  · have hrs' : (20000 : Int) < rs.length := by omega
    have hF : R = false := by rw [← HR.out]; unfold rightP; rw [decide_eq_false (p := G.length ≤ 20000 ∧ rs.length ≤ 20000) (by omega)]; rfl
    clear HR
    unfold grV
    go_enter Tryd.func9, Tryd.ntmps9
    go_wp2
    go_ret
    exact ⟨by first | rfl | exact ret_bool hF.symm, by first | exact hB | exact hw1 ▸ hB⟩
set_option maxHeartbeats 1600000 in
theorem hasRoot_any {Tb : World → Prop} {rit rv : ByteArray → Bool} (Lo : LowP Tb rit rv) (p pr : Option Addr) (c cr : Nat) (G : List Gn) (rs : List Int) (r : Int) (w : World) (hT : Tb w) (hG : Gs w p G) (hz : Gz G) (hI : Is w pr rs) (hr : rs.length ≤ 1000000) :
    Calls Tryd.prog 24 #[grV p G.length c pr rs.length cr, .int .i64 r] w fun e w' => e = .returned (.bool (mayP rit rv G rs r)) ∧ Below w.heap.size w w' := by
  have hB := (Below.refl w.heap.size w).alloc (Nat.le_refl _) (.cells #[.slice p G.length c, .slice pr rs.length cr] 25)
  have b0 : (w.alloc (.cells #[.slice p G.length c, .slice pr rs.length cr] 25)).heap[w.heap.size]? = some (.cells #[.slice p G.length c, .slice pr rs.length cr] 25) := World.alloc_heap_new w _
  obtain ⟨w1, hw1⟩ : ∃ w1, w.alloc (.cells #[.slice p G.length c, .slice pr rs.length cr] 25) = w1 := ⟨_, rfl⟩
  rw [hw1] at hB b0
  have hg1 := g2_of b0
  have hz1 := hz.n
  have NO := isNode_any p pr G.length c rs.length cr r w1 (by omega)
  unfold mayP
  have RR : Hid (∀ W, Below w.heap.size w W → Calls Tryd.prog 9 #[grV p G.length c pr rs.length cr] W fun e w' => e = .returned (.bool (rightP rit rv G rs)) ∧ Below W.heap.size W w') := fun W hb => Right_any Lo p pr c cr G rs W (Lo.on hT hb) (hG.on hb) hz (hI.on hb) hr
  unfold grV at RR NO ⊢
  obtain ⟨f0, f1⟩ := hg1
  have hg1 : G2 w.heap.size (.slice p G.length c) (.slice pr rs.length cr) w1 := ⟨f0, f1⟩
  clear b0
  cases hd : decide (0 ≤ r ∧ r < (G.length : Int)) with
  | false =>
    rw [hd] at NO
    rw [Bool.and_false]
    clear RR hd
    go_enter Tryd.func24, Tryd.ntmps24
    go_wp2_with (first | (go_at_call 27; (try rw [hw1]); refine NO.mono ?_; rintro e w2 ⟨rfl, hb⟩))
    go_ret
    exact ⟨rfl, hB.trans (hb.mono hB.size)⟩
  | true =>
    rw [hd] at NO
    rw [Bool.and_true]
    clear hd
    generalize rightP rit rv G rs = V at *
    go_enter Tryd.func24, Tryd.ntmps24
    go_wp2_with (first | (go_at_call 27; (try rw [hw1]); refine NO.mono ?_; rintro e w2 ⟨rfl, hb⟩; obtain ⟨g0, g1⟩ := hg1.on hb; have RR2 := RR.out w2 (hB.trans (hb.mono hB.size))) | (go_at_call 9; refine RR2.mono ?_; rintro e w3 ⟨rfl, hb3⟩))
    go_ret
    exact ⟨by first | rfl | simp_all, (hB.trans (hb.mono hB.size)).trans (hb3.mono (by have := hB.size; have := hb.size; omega))⟩
end Go.Proofs.YtjfeamfchgcblaaDoor
