/- The program's Cyclic. -/
import Derived.Test.YtjfeamfchgcblaaDoorRng
set_option linter.all false
set_option maxRecDepth 100000
namespace Go.Proofs.YtjfeamfchgcblaaDoor
open Go.RowKit Go.Shelf
attribute [local go_sem] Oper.semAt_some

def BxC (s : Nat) (T : List (Int × Nat)) (i : Nat) (W : World) : Prop := i ≤ T.length ∧ Boxed W s 4 (.bool false) ∧ ∀ x ∈ T.take i, x.2 ≠ 1
def CxX (w : World) (s : Nat) (V : Bool) (c : Code) (_ : Nat) (W : World) : Prop := c = .exit 0 ∧ Boxed W s 4 (.bool true) ∧ Below w.heap.size w W ∧ V = true
theorem CxX.own {w : World} {s : Nat} {V : Bool} (c : Code) {B : Nat} (hB : w.heap.size ≤ B) : OwnFrom B (CxX w s V c) := by
  rintro i W W' row ⟨h1, h2, h3, h4⟩ hgr hr
  exact ⟨h1, boxed_own' h2 hgr hr, h3.grown hgr h3.size (fun k e => by have := (hr k e).1; omega), h4⟩
def cycP (rit rv : ByteArray → Bool) (G : List Gn) (rs : List Int) (r : Int) : Bool := mayP rit rv G rs r && (cmT G r).any fun x => decide (x.2 = 1)
set_option maxHeartbeats 4000000 in
theorem Cyclic_any {Tb : World → Prop} {rit rv : ByteArray → Bool} (Lo : LowP Tb rit rv) (p pr : Option Addr) (c cr : Nat) (G : List Gn) (rs : List Int) (r : Int) (w : World) (hT : Tb w) (hG : Gs w p G) (hz : Gz G) (hI : Is w pr rs) (hr : rs.length ≤ 1000000) :
    Calls Tryd.prog 14 #[grV p G.length c pr rs.length cr, .int .i64 r] w fun e w' => e = .returned (.bool (cycP rit rv G rs r)) ∧ Below w.heap.size w w' := by
  have hB := (Below.refl w.heap.size w).alloc (Nat.le_refl _) (.cells #[.slice p G.length c, .slice pr rs.length cr] 25)
  have b0 : (w.alloc (.cells #[.slice p G.length c, .slice pr rs.length cr] 25)).heap[w.heap.size]? = some (.cells #[.slice p G.length c, .slice pr rs.length cr] 25) := World.alloc_heap_new w _
  obtain ⟨w1, hw1⟩ : ∃ w1, w.alloc (.cells #[.slice p G.length c, .slice pr rs.length cr] 25) = w1 := ⟨_, rfl⟩
  rw [hw1] at hB b0
  have HRt := fun m => (callsIn_wide (n := m)).2 (hasRoot_any Lo p pr c cr G rs r w1 (Lo.on hT (by rw [← hw1]; exact (Below.refl w.heap.size w).alloc (Nat.le_refl _) _)) (hG.on hB) hz (hI.on hB) hr)
  obtain ⟨f0, f1⟩ := g2_of b0
  have hg1 : G2 w.heap.size (.slice p G.length c) (.slice pr rs.length cr) w1 := ⟨f0, f1⟩
  unfold cycP
  have CI := fun (m : Nat) (W : World) => comings_in m p pr G.length c rs.length cr r W
  unfold grV at HRt CI ⊢
  cases hm : mayP rit rv G rs r with
  | false =>
    rw [hm] at HRt
    rw [Bool.false_and]
    refine (callsIn_wide (n := 9)).1 ?_
    refine callsIn_of_wp_marks Tryd.func14 rfl trivial ?_ rfl
    simp only [Tryd.ntmps14, List.size_toArray, List.length_cons, List.length_nil, Nat.reduceAdd, Nat.reduceSub, Array.replicate_succ, Array.replicate_zero, List.push_toArray, List.append_toArray, List.nil_append, List.cons_append]
    clear CI
    gi_wp2_with (first | (refine ⟨trivial, ?_⟩; gi_at_call 24; (try rw [hw1]); refine (HRt _).mono ?_; rintro e W2 ⟨rfl, hB2⟩))
    refine ⟨.bool false, by simp [results, Tryd.results14, go_sem], ?_⟩
    exact ⟨rfl, hB.trans (hB2.mono hB.size)⟩
  | true =>
    rw [hm] at HRt
    rw [Bool.true_and]
    have hmm := hm
    unfold mayP at hmm
    rw [Bool.and_eq_true, decide_eq_true_iff] at hmm
    obtain ⟨hK, hsk⟩ := right_kids hmm.1
    obtain ⟨rn, hrn⟩ : ∃ rn : Nat, r = rn := ⟨r.toNat, by omega⟩
    subst hrn
    have hrl : rn < G.length := by omega
    obtain ⟨V, hV⟩ : ∃ V, ((cmT G (rn : Int)).any fun x => decide (x.2 = 1)) = V := ⟨_, rfl⟩
    rw [hV]
    have HV : Hid (((cmT G (rn : Int)).any fun x => decide (x.2 = 1)) = V) := hV
    clear hV hmm hm
    refine (callsIn_wide (n := 9)).1 ?_
    refine callsIn_of_wp_marks Tryd.func14 rfl trivial ?_ rfl
    simp only [Tryd.ntmps14, List.size_toArray, List.length_cons, List.length_nil, Nat.reduceAdd, Nat.reduceSub, Array.replicate_succ, Array.replicate_zero, List.push_toArray, List.append_toArray, List.nil_append, List.cons_append]
    gi_wp2_with (first | rw [hw1])
    refine ⟨trivial, (HRt _).mono ?_⟩
    rintro e W2 ⟨rfl, hB2⟩
    obtain ⟨g0, g1⟩ := hg1.on hB2
    have lg2 := World.block_lt_of_cell? W2 _ g0
    dsimp only at lg2
    have CI2 := CI 8 (W2.alloc (.cells #[.bool false] 4))
    rw [World.size_alloc] at CI2
    clear HRt CI
    gi_wp2
    refine ⟨trivial, CI2.mono ?_⟩
    rintro e W3 ⟨rfl, rfl⟩
    clear CI2
    gi_wp2
    have hGw := hG.on (hB.trans (hB2.mono hB.size))
    have hB5 : Below W2.heap.size W2 (((W2.alloc (.cells #[.bool false] 4)).alloc (.cells #[.slice p G.length c, .slice pr rs.length cr] 25)).alloc (.cells #[.int .i64 (rn : Int)] 3)) := (((Below.refl _ W2).alloc (Nat.le_refl _) _).alloc (by simp) _).alloc (by simp; omega) _
    have x0 : Boxed (((W2.alloc (.cells #[.bool false] 4)).alloc (.cells #[.slice p G.length c, .slice pr rs.length cr] 25)).alloc (.cells #[.int .i64 (rn : Int)] 3)) W2.heap.size 4 (.bool false) := ((Boxed.new W2 4 (.bool false)).alloc _).alloc _
    have x1 : (((W2.alloc (.cells #[.bool false] 4)).alloc (.cells #[.slice p G.length c, .slice pr rs.length cr] 25)).alloc (.cells #[.int .i64 (rn : Int)] 3)).heap[W2.heap.size + 1]? = some (.cells #[.slice p G.length c, .slice pr rs.length cr] 25) := by
      have := World.alloc_heap_new (W2.alloc (.cells #[.bool false] 4)) (.cells #[.slice p G.length c, .slice pr rs.length cr] 25)
      rw [World.size_alloc] at this
      exact (Below.heap_alloc _ _ _ (by simp)).trans this
    have x2 : (((W2.alloc (.cells #[.bool false] 4)).alloc (.cells #[.slice p G.length c, .slice pr rs.length cr] 25)).alloc (.cells #[.int .i64 (rn : Int)] 3)).heap[W2.heap.size + 1 + 1]? = some (.cells #[.int .i64 (rn : Int)] 3) := by
      have := World.alloc_heap_new ((W2.alloc (.cells #[.bool false] 4)).alloc (.cells #[.slice p G.length c, .slice pr rs.length cr] 25)) (.cells #[.int .i64 (rn : Int)] 3)
      rw [World.size_alloc, World.size_alloc] at this
      exact this
    have hs5 : (((W2.alloc (.cells #[.bool false] 4)).alloc (.cells #[.slice p G.length c, .slice pr rs.length cr] 25)).alloc (.cells #[.int .i64 (rn : Int)] 3)).heap.size = W2.heap.size + 3 := by simp
    generalize (((W2.alloc (.cells #[.bool false] 4)).alloc (.cells #[.slice p G.length c, .slice pr rs.length cr] 25)).alloc (.cells #[.int .i64 (rn : Int)] 3)) = W5 at hB5 x0 x1 x2 hs5 ⊢
    have SQ := comings_seq hGw hz.n hK hsk rn hrl (9 - 1) (W2.heap.size + 1 + 1) (W2.heap.size + 1) W5 (.of hB5) (by omega) (by omega) x2 x1
    obtain ⟨T, hTT⟩ : ∃ T, cmT G (rn : Int) = T := ⟨_, rfl⟩
    rw [hTT] at SQ HV
    clear hTT x1 x2
    have hne : ∀ b, RK W2 (W2.heap.size + 1 + 1) (W2.heap.size + 1) b → b ≠ W2.heap.size ∧ b < W2.heap.size + 3 := by
      rintro b (h | h | h) <;> omega
    refine wpIn_rangeFuncO (gf := 32) (lb := #[.pointer (some ⟨W2.heap.size + 1 + 1, 0, none⟩), .pointer (some ⟨W2.heap.size + 1, 0, none⟩)]) rfl (enters_of Tryd.func32 (by kernel_rfl) rfl) SQ (fun b hb => by have := hne b hb; omega) (Below.refl _ _) (fun _ => rfl)
      (Ib W2 (W2.heap.size + 3) (BxC W2.heap.size T)) (CxX W2 W2.heap.size V) (by rw [hs5]; exact Ib.abo (by omega) (fun i A B h hb => ⟨hb.1, (h _ (by omega)).trans hb.2.1, hb.2.2⟩)) (fun cd => CxX.own cd (by omega)) ⟨by omega, hB5, (fun b h => h.elim), Nat.zero_le _, x0, fun x hx => by simp at hx⟩
      (fun x W => W) (fun x W => ⟨rfl, rfl, rfl, Nat.le_refl _, fun _ _ _ => rfl⟩)
      (fun x b => { tmps := #[.agg #[.slice p G.length c, .slice pr rs.length cr], .int .i64 (rn : Int), .pointer (some ⟨w.heap.size, 0, none⟩), undef, .bool false, .pointer (some ⟨W2.heap.size, 0, none⟩), undef, .int .u8 (x.2 : Nat), .agg #[.slice p G.length c, .slice pr rs.length cr], .int .i64 (rn : Int), .bool true, .bool false, .agg #[.slice p G.length c, .slice pr rs.length cr], .int .i64 (rn : Int), .func (.func 32) #[] #[.pointer (some ⟨W2.heap.size + 1 + 1, 0, none⟩), .pointer (some ⟨W2.heap.size + 1, 0, none⟩)], .int .i64 x.1, .int .u8 (x.2 : Nat), undef, undef, undef], defers := [] }) ?assign ?body ?done ?stop
    case assign =>
      intro m l x W K hK
      simp only [encK] at hK ⊢
      gi_wp2
      exact hK
    case body =>
      clear SQ x0
      rintro m l X i x W0 W hx hI hl1 hl2' hoth
      obtain ⟨hiT, r0, hno⟩ := hI.bx
      have hil : i < T.length := (List.getElem?_eq_some_iff.1 hx).1
      have f0 := r0.cell
      have f1 := r0.frozen
      obtain ⟨xn, xs⟩ := x
      dsimp only at *
      by_cases h1 : xs = 1
      · have hVt : V = true := by
          rw [← HV.out, List.any_eq_true]
          exact ⟨_, List.mem_of_getElem? hx, by simp [h1]⟩
        have HP : Hid (KeepsFrom W5.heap.size W (W.setCell ⟨W2.heap.size, 0, none⟩ (.bool true)) ∧ CxX W2 W2.heap.size V (.exit 0) (i + 1) (W.setCell ⟨W2.heap.size, 0, none⟩ (.bool true))) := by
          refine ⟨⟨by simp [World.setCell], fun k o hk ho _ => ?_⟩, rfl, r0.set _, hI.bel.setCell (Nat.le_refl _) _, hVt⟩
          rw [Deep.blk_setCell_other _ _ _ _ (by dsimp only; omega)]
          exact ho
        subst h1
        clear hoth hI r0 hx hno hVt HV
        gi_wp2
        exact HP.out
      · have h1' : ((xs : Int) == 1) = false := by simp; omega
        have HP : Hid (KeepsFrom W5.heap.size W W ∧ Kq (orX (RK W2 (W2.heap.size + 1 + 1) (W2.heap.size + 1)) X) W W ∧ Ib W2 (W2.heap.size + 3) (BxC W2.heap.size T) X (i + 1) W) := by
          refine ⟨⟨Nat.le_refl _, fun k o _ ho _ => ho⟩, Kq.refl _ _, hI.sz, hI.bel, hI.own, by omega, r0, fun y hy => ?_⟩
          rw [List.take_add_one, hx] at hy
          simp at hy
          rcases hy with hy | rfl
          · exact hno y hy
          · exact h1
        clear hoth hI r0 hx hno HV
        gi_wp2
        exact HP.out
    case done =>
      clear SQ x0
      rintro D X W hD hI hK2
      obtain ⟨hiT, r0, hno⟩ := hI.bx
      rw [List.take_of_length_le (Nat.le_refl _)] at hno
      have hVf : V = false := by
        rw [← HV.out, List.any_eq_false]
        intro y hy
        simpa using hno y hy
      have f0 := r0.cell
      have hbel := hI.bel
      clear hI r0 hno
      subst hVf
      gi_wp2
      refine ⟨by simp, .inl ⟨_, _, rfl, run_takeDeferred hK2, ?_⟩⟩
      refine ⟨.bool false, by simp [results, Tryd.results14, go_sem], ?_⟩
      exact ⟨rfl, (hB.trans (hB2.mono hB.size)).trans ((hbel.trans (belowK_b (w := W2) (Nat.le_refl _) W D _ _ (by omega) hK2 rfl rfl)).mono (by have := hB.size; have := hB2.size; omega))⟩
    case stop =>
      rintro D cd i W hD ⟨rfl, r0, hbel, hVt⟩ hK2
      have f0 := r0.cell
      clear r0
      subst hVt
      gi_wp2
      refine ⟨by simp, .inl ⟨_, _, rfl, run_takeDeferred hK2, ?_⟩⟩
      refine ⟨.bool true, by simp [results, Tryd.results14, go_sem], ?_⟩
      exact ⟨rfl, (hB.trans (hB2.mono hB.size)).trans ((hbel.trans (belowK_b (w := W2) (Nat.le_refl _) W D _ _ (by omega) hK2 rfl rfl)).mono (by have := hB.size; have := hB2.size; omega))⟩
end Go.Proofs.YtjfeamfchgcblaaDoor
