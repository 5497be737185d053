/- The program's Uses. -/
import Derived.Test.YtjfeamfchgcblaaDoorRng
set_option linter.all false
set_option maxRecDepth 100000
namespace Go.Proofs.YtjfeamfchgcblaaDoor
open Go.RowKit Go.Shelf
attribute [local go_sem] Oper.semAt_some

theorem cmF_length (G : List Gn) : ∀ f S p, (cmF G f S p).length ≤ f := by
  intro f
  induction f with
  | zero => intro S p; exact Nat.le_refl _
  | succ f ih =>
    intro S p
    match p with
    | [] => simp [cmF]
    | (n, []) :: p => rw [cmF]; have := ih (S.set n.toNat 2) p; omega
    | (n, k :: r) :: p =>
      rw [cmF, List.length_cons]
      split
      · have := ih (S.set k.toNat 1) ((k, kdN G k) :: (n, r) :: p); omega
      · have := ih S ((n, r) :: p); omega
theorem cmT_length {G : List Gn} {r : Int} (hn : G.length ≤ 1000) (hs : sumK G ≤ 20000) : (cmT G r).length ≤ 100001 := by
  unfold cmT cmE
  rw [List.length_cons]
  have h1 := cmF_length G (cmM G ((List.replicate G.length 0).set r.toNat 1) [(r, kdN G r)]) ((List.replicate G.length 0).set r.toNat 1) [(r, kdN G r)]
  have h2 := cm_small (S := (List.replicate G.length 0).set r.toNat 1) (r := r) hn hs (by simp)
  omega
/-- What Uses keeps. -/
def uL (n : Nat) (T : List (Int × Nat)) (i : Nat) : List Int := incrs (List.replicate n 0) ((T.take i).map (·.1))
theorem uL_len (n : Nat) (T : List (Int × Nat)) (i : Nat) : (uL n T i).length = n := by unfold uL; rw [incrs_len]; simp
theorem uL_step {n : Nat} {T : List (Int × Nat)} {i : Nat} {x : Int × Nat} (h : T[i]? = some x) : uL n T (i + 1) = incr (uL n T i) x.1 := by
  unfold uL incrs
  rw [List.take_add_one, h, List.map_append, List.foldl_append]
  rfl
theorem uL_le {n : Nat} {T : List (Int × Nat)} (hT : ∀ x ∈ T, 0 ≤ x.1 ∧ x.1.toNat < n) (i j : Nat) : 0 ≤ iAt (uL n T i) j ∧ iAt (uL n T i) j ≤ i := by
  have hz : iAt (List.replicate n 0) j = 0 := by
    unfold iAt
    rw [List.getElem?_replicate]
    split <;> rfl
  have h1 : ∀ k ∈ (T.take i).map (·.1), 0 ≤ k ∧ k.toNat < n := fun k hk => by
    obtain ⟨x, hx, rfl⟩ := List.mem_map.1 hk
    exact hT x (List.mem_of_mem_take hx)
  have h2 := incrs_at ((T.take i).map (·.1)) (fun k hk => (h1 k hk).1) (List.replicate n 0) (fun k hk => by simpa using (h1 k hk).2) j
  have h3 := List.count_le_length (a := (j : Int)) (l := (T.take i).map (·.1))
  rw [List.length_map, List.length_take] at h3
  unfold uL
  rw [h2, hz]
  omega
def BxU (s lb n : Nat) (T : List (Int × Nat)) (i : Nat) (W : World) : Prop := i ≤ T.length ∧ Boxed W s 23 (.slice (some ⟨lb, 0, none⟩) n n) ∧ W.heap[lb]? = some (.cells ((uL n T i).map (Value.int .i64)).toArray 3)
/-- A round that writes one cell of a list below n1. -/
theorem Ib.put {w : World} {n1 : Nat} {Bx : Nat → World → Prop} {X R : Nat → Prop} {i j : Nat} {W : World} (h : Ib w n1 Bx X i W) (c k : Nat) (hc : w.heap.size ≤ c) (hc1 : c < n1) (hRc : ¬ R c) (v : Value) (hbx : Bx j (W.setCell ⟨c, k, none⟩ v)) :
    KeepsFrom n1 W (W.setCell ⟨c, k, none⟩ v) ∧ Kq (orX R X) W (W.setCell ⟨c, k, none⟩ v) ∧ Ib w n1 Bx X j (W.setCell ⟨c, k, none⟩ v) := by
  have hoth : ∀ b, b ≠ c → (W.setCell ⟨c, k, none⟩ v).heap[b]? = W.heap[b]? := fun b hb => Deep.blk_setCell_other _ _ _ _ hb
  have hsz : (W.setCell ⟨c, k, none⟩ v).heap.size = W.heap.size := by simp [World.setCell]
  refine ⟨⟨by rw [hsz]; exact Nat.le_refl _, fun b o hb ho _ => (hoth b (by omega)).trans ho⟩, ⟨by rw [hsz]; exact Nat.le_refl _, fun b hb => hoth b (fun e => ?_)⟩, by rw [hsz]; exact h.sz, h.bel.setCell hc _, fun b hb => by rw [hsz]; exact h.own b hb, hbx⟩
  subst e
  rcases hb with hb | hb
  · exact hRc hb
  · have := (h.own b hb).1; omega
set_option maxHeartbeats 4000000 in
theorem Uses_any {Tb : World → Prop} {rit rv : ByteArray → Bool} (Lo : LowP Tb rit rv) (p pr : Option Addr) (c cr : Nat) (G : List Gn) (rs : List Int) (r : Int) (w : World) (hT : Tb w) (hG : Gs w p G) (hz : Gz G) (hI : Is w pr rs) (hr : rs.length ≤ 1000000) :
    Calls Tryd.prog 16 #[grV p G.length c pr rs.length cr, .int .i64 r] w fun e w' => ∃ v, e = .returned v ∧ OwnsI w' w.heap.size v (usesP rit rv G rs r) ∧ Below w.heap.size w w' := by
  have hB := (Below.refl w.heap.size w).alloc (Nat.le_refl _) (.cells #[.slice p G.length c, .slice pr rs.length cr] 25)
  have b0 : (w.alloc (.cells #[.slice p G.length c, .slice pr rs.length cr] 25)).heap[w.heap.size]? = some (.cells #[.slice p G.length c, .slice pr rs.length cr] 25) := World.alloc_heap_new w _
  obtain ⟨w1, hw1⟩ : ∃ w1, w.alloc (.cells #[.slice p G.length c, .slice pr rs.length cr] 25) = w1 := ⟨_, rfl⟩
  rw [hw1] at hB b0
  have HRt := fun m => (callsIn_wide (n := m)).2 (hasRoot_any Lo p pr c cr G rs r w1 (Lo.on hT (by rw [← hw1]; exact (Below.refl w.heap.size w).alloc (Nat.le_refl _) _)) (hG.on hB) hz (hI.on hB) hr)
  obtain ⟨f0, f1⟩ := g2_of b0
  have hg1 : G2 w.heap.size (.slice p G.length c) (.slice pr rs.length cr) w1 := ⟨f0, f1⟩
  have CI := fun (m : Nat) (W : World) => comings_in m p pr G.length c rs.length cr r W
  unfold grV at HRt CI ⊢
  cases hm : mayP rit rv G rs r with
  | false =>
    rw [hm] at HRt
    have HR : Hid (usesP rit rv G rs r = []) := by show _ = _; unfold usesP; rw [hm]; rfl
    generalize usesP rit rv G rs r = F at HR ⊢
    refine (callsIn_wide (n := 9)).1 ?_
    refine callsIn_of_wp_marks Tryd.func16 rfl trivial ?_ rfl
    simp only [Tryd.ntmps16, List.size_toArray, List.length_cons, List.length_nil, Nat.reduceAdd, Nat.reduceSub, Array.replicate_succ, Array.replicate_zero, List.push_toArray, List.append_toArray, List.nil_append, List.cons_append]
    clear CI
    gi_wp2_with (first | (refine ⟨trivial, ?_⟩; gi_at_call 24; (try rw [hw1]); refine (HRt _).mono ?_; rintro e W2 ⟨rfl, hB2⟩))
    refine ⟨.slice none 0 0, by simp [results, Tryd.results16, go_sem], ?_⟩
    exact ⟨_, rfl, by rw [HR.out]; exact ⟨rfl, .inl ⟨rfl, rfl⟩⟩, hB.trans (hB2.mono hB.size)⟩
  | true =>
    rw [hm] at HRt
    have hmm := hm
    unfold mayP at hmm
    rw [Bool.and_eq_true, decide_eq_true_iff] at hmm
    obtain ⟨hK, hsk⟩ := right_kids hmm.1
    obtain ⟨rn, hrn⟩ : ∃ rn : Nat, r = rn := ⟨r.toNat, by omega⟩
    subst hrn
    have hrl : rn < G.length := by omega
    have hreach : reachP rit rv G rs (rn : Int) = rcE G (List.replicate G.length false) [(rn : Int)] := by unfold reachP; rw [hm]; rfl
    have hUS : usesP rit rv G rs (rn : Int) = uL G.length (cmT G (rn : Int)) (cmT G (rn : Int)).length := by
      unfold usesP uL
      rw [hm, if_pos rfl, hreach, List.take_length, cmT_uses hK ⟨by omega, by rw [Int.toNat_natCast]; exact hrl⟩]
    have hTr : ∀ x ∈ cmT G (rn : Int), 0 ≤ x.1 ∧ x.1.toNat < G.length := cmT_range hK ⟨by omega, by rw [Int.toNat_natCast]; exact hrl⟩
    have hTl := cmT_length (r := (rn : Int)) hz.n hsk
    rw [hUS]
    clear hUS hreach hmm hm
    obtain ⟨T, hTT⟩ : ∃ T, cmT G (rn : Int) = T := ⟨_, rfl⟩
    rw [hTT] at hTr hTl ⊢
    have HTT : Hid (cmT G (rn : Int) = T) := hTT
    clear hTT
    refine (callsIn_wide (n := 9)).1 ?_
    refine callsIn_of_wp_marks Tryd.func16 rfl trivial ?_ rfl
    simp only [Tryd.ntmps16, List.size_toArray, List.length_cons, List.length_nil, Nat.reduceAdd, Nat.reduceSub, Array.replicate_succ, Array.replicate_zero, List.push_toArray, List.append_toArray, List.nil_append, List.cons_append]
    gi_wp2_with (first | rw [hw1])
    refine ⟨trivial, (HRt _).mono ?_⟩
    rintro e W2 ⟨rfl, hB2⟩
    obtain ⟨g0, g1⟩ := hg1.on hB2
    have lg2 := World.block_lt_of_cell? W2 _ g0
    dsimp only at lg2
    obtain ⟨W4, mk1, mk2, mk3, mk4⟩ := make_ints G.length (by have := hz.n; omega) W2
    have CI2 := CI 8 (W4.alloc (.cells #[.slice (some ⟨W2.heap.size, 0, none⟩) G.length G.length] 23))
    rw [World.size_alloc] at CI2
    have hnn := hz.n
    have hG4 := (hg1.on hB2).on mk3
    obtain ⟨y0, y1⟩ := hG4
    have hB4 : Below W2.heap.size W2 (W4.alloc (.cells #[.slice (some ⟨W2.heap.size, 0, none⟩) G.length G.length] 23)) := mk3.alloc mk3.size _
    obtain ⟨z0, z1⟩ := (hg1.on hB2).on hB4
    clear HRt CI
    gi_wp2
    refine ⟨trivial, CI2.mono ?_⟩
    rintro e W3 ⟨rfl, rfl⟩
    clear CI2
    gi_wp2
    have hGw := hG.on (hB.trans (hB2.mono hB.size))
    have hBW : Below w.heap.size w W2 := hB.trans (hB2.mono hB.size)
    have hB5 : Below W2.heap.size W2 (((W4.alloc (.cells #[.slice (some ⟨W2.heap.size, 0, none⟩) G.length G.length] 23)).alloc (.cells #[.slice p G.length c, .slice pr rs.length cr] 25)).alloc (.cells #[.int .i64 (rn : Int)] 3)) := (hB4.alloc (by simp; omega) _).alloc (by simp; omega) _
    have x0 : Boxed (((W4.alloc (.cells #[.slice (some ⟨W2.heap.size, 0, none⟩) G.length G.length] 23)).alloc (.cells #[.slice p G.length c, .slice pr rs.length cr] 25)).alloc (.cells #[.int .i64 (rn : Int)] 3)) W4.heap.size 23 (.slice (some ⟨W2.heap.size, 0, none⟩) G.length G.length) := ((Boxed.new W4 23 (.slice (some ⟨W2.heap.size, 0, none⟩) G.length G.length)).alloc _).alloc _
    have x3 : (((W4.alloc (.cells #[.slice (some ⟨W2.heap.size, 0, none⟩) G.length G.length] 23)).alloc (.cells #[.slice p G.length c, .slice pr rs.length cr] 25)).alloc (.cells #[.int .i64 (rn : Int)] 3)).heap[W2.heap.size]? = some (.cells ((List.replicate G.length (0 : Int)).map (Value.int .i64)).toArray 3) := (Below.heap_alloc _ _ _ (by simp; omega)).trans ((Below.heap_alloc _ _ _ (by simp; omega)).trans ((Below.heap_alloc _ _ _ mk4).trans mk2))
    have x1 : (((W4.alloc (.cells #[.slice (some ⟨W2.heap.size, 0, none⟩) G.length G.length] 23)).alloc (.cells #[.slice p G.length c, .slice pr rs.length cr] 25)).alloc (.cells #[.int .i64 (rn : Int)] 3)).heap[W4.heap.size + 1]? = some (.cells #[.slice p G.length c, .slice pr rs.length cr] 25) := by
      have := World.alloc_heap_new (W4.alloc (.cells #[.slice (some ⟨W2.heap.size, 0, none⟩) G.length G.length] 23)) (.cells #[.slice p G.length c, .slice pr rs.length cr] 25)
      rw [World.size_alloc] at this
      exact (Below.heap_alloc _ _ _ (by simp)).trans this
    have x2 : (((W4.alloc (.cells #[.slice (some ⟨W2.heap.size, 0, none⟩) G.length G.length] 23)).alloc (.cells #[.slice p G.length c, .slice pr rs.length cr] 25)).alloc (.cells #[.int .i64 (rn : Int)] 3)).heap[W4.heap.size + 1 + 1]? = some (.cells #[.int .i64 (rn : Int)] 3) := by
      have := World.alloc_heap_new ((W4.alloc (.cells #[.slice (some ⟨W2.heap.size, 0, none⟩) G.length G.length] 23)).alloc (.cells #[.slice p G.length c, .slice pr rs.length cr] 25)) (.cells #[.int .i64 (rn : Int)] 3)
      rw [World.size_alloc, World.size_alloc] at this
      exact this
    have hs5 : (((W4.alloc (.cells #[.slice (some ⟨W2.heap.size, 0, none⟩) G.length G.length] 23)).alloc (.cells #[.slice p G.length c, .slice pr rs.length cr] 25)).alloc (.cells #[.int .i64 (rn : Int)] 3)).heap.size = W4.heap.size + 3 := by simp
    generalize (((W4.alloc (.cells #[.slice (some ⟨W2.heap.size, 0, none⟩) G.length G.length] 23)).alloc (.cells #[.slice p G.length c, .slice pr rs.length cr] 25)).alloc (.cells #[.int .i64 (rn : Int)] 3)) = W5 at hB5 x0 x1 x2 x3 hs5 ⊢
    have SQ := comings_seq hGw hz.n hK hsk rn hrl (9 - 1) (W4.heap.size + 1 + 1) (W4.heap.size + 1) W5 (.of hB5) (by omega) (by omega) x2 x1
    rw [HTT.out] at SQ
    clear HTT x1 x2 mk1 mk2 y0 y1 z0 z1 hB4
    have hne : ∀ b, RK W2 (W4.heap.size + 1 + 1) (W4.heap.size + 1) b → b ≠ W2.heap.size ∧ b ≠ W4.heap.size ∧ b < W4.heap.size + 3 := by
      rintro b (h | h | h) <;> omega
    have HTR : Hid (∀ x ∈ T, 0 ≤ x.1 ∧ x.1.toNat < G.length) := hTr
    refine wpIn_rangeFuncO (gf := 32) (lb := #[.pointer (some ⟨W4.heap.size + 1 + 1, 0, none⟩), .pointer (some ⟨W4.heap.size + 1, 0, none⟩)]) rfl (enters_of Tryd.func32 (by kernel_rfl) rfl) SQ (fun b hb => by have := hne b hb; omega) (Below.refl _ _) (fun _ => rfl)
      (Ib W2 (W4.heap.size + 3) (BxU W4.heap.size W2.heap.size G.length T)) (fun _ _ _ => False) (by rw [hs5]; exact Ib.abo (by omega) (fun i A B h hb => ⟨hb.1, (h _ (by omega)).trans hb.2.1, (h _ (by omega)).trans hb.2.2⟩)) (fun cd _ _ _ _ h _ _ => h) ⟨by omega, hB5, (fun b h => h.elim), Nat.zero_le _, x0, x3⟩
      (fun x W => W) (fun x W => ⟨rfl, rfl, rfl, Nat.le_refl _, fun _ _ _ => rfl⟩)
      (fun x b => { tmps := #[.agg #[.slice p G.length c, .slice pr rs.length cr], .int .i64 (rn : Int), .pointer (some ⟨w.heap.size, 0, none⟩), undef, .slice none 0 0, .pointer (some ⟨W4.heap.size, 0, none⟩), .int .i64 x.1, .agg #[.slice p G.length c, .slice pr rs.length cr], .int .i64 (rn : Int), .bool true, .bool false, .pointer (some ⟨w.heap.size, 0, none⟩), .slice p G.length c, .int .i64 (G.length : Nat), .slice (some ⟨W2.heap.size, 0, none⟩) G.length G.length, .agg #[.slice p G.length c, .slice pr rs.length cr], .int .i64 (rn : Int), .func (.func 32) #[] #[.pointer (some ⟨W4.heap.size + 1 + 1, 0, none⟩), .pointer (some ⟨W4.heap.size + 1, 0, none⟩)], .int .i64 x.1, .int .u8 (x.2 : Nat), undef, undef, undef, undef, undef, undef, undef], defers := [] }) ?assign ?body ?done ?stop
    case assign =>
      intro m l x W K hK
      simp only [encK] at hK ⊢
      gi_wp2
      exact hK
    case body =>
      clear SQ x0 x3
      rintro m l X i x W0 W hx hI hl1 hl2' hoth
      obtain ⟨hiT, r0, r3⟩ := hI.bx
      have hil : i < T.length := (List.getElem?_eq_some_iff.1 hx).1
      have f0 := r0.cell
      obtain ⟨xn, xs⟩ := x
      obtain ⟨hx0, hx1⟩ := HTR.out _ (List.mem_of_getElem? hx)
      dsimp only at *
      obtain ⟨xk, rfl⟩ : ∃ xk : Nat, xn = xk := ⟨xn.toNat, by omega⟩
      rw [Int.toNat_natCast] at hx1
      have hx1' : (xk : Int) < G.length := by omega
      have hst := uL_step (n := G.length) hx
      unfold incr at hst
      dsimp only at hst
      rw [Int.toNat_natCast] at hst
      obtain ⟨hu0, hu1⟩ := uL_le HTR.out i xk
      have hul := uL_len G.length T i
      have c3 : W.cell? ⟨W2.heap.size, xk, none⟩ = some (.int .i64 (iAt (uL G.length T i) xk)) := by simp [World.cell?, r3, hul, hx1, iAt]
      have c4 : W.frozen? ⟨W2.heap.size, xk, none⟩ = false := by simp [World.frozen?, r3]
      have HP : Hid (KeepsFrom W5.heap.size W (W.setCell ⟨W2.heap.size, xk, none⟩ (.int .i64 (iAt (uL G.length T i) xk + 1))) ∧ Kq (orX (RK W2 (W4.heap.size + 1 + 1) (W4.heap.size + 1)) X) W (W.setCell ⟨W2.heap.size, xk, none⟩ (.int .i64 (iAt (uL G.length T i) xk + 1))) ∧ Ib W2 (W4.heap.size + 3) (BxU W4.heap.size W2.heap.size G.length T) X (i + 1) (W.setCell ⟨W2.heap.size, xk, none⟩ (.int .i64 (iAt (uL G.length T i) xk + 1)))) := by
        rw [hs5]
        refine hI.put W2.heap.size xk (Nat.le_refl _) (by omega) (fun h => (hne _ h).1 rfl) _ ⟨by omega, ?_, ?_⟩
        · refine (Deep.blk_setCell_other _ _ _ _ ?_).trans r0
          show W4.heap.size ≠ W2.heap.size
          omega
        · rw [hst]
          simp [World.setCell, Array.getElem?_modify, r3]
      have hb2 : iAt (uL G.length T i) xk ≤ 1000000000 := by omega
      generalize iAt (uL G.length T i) xk = z at *
      clear hoth hI r0 r3 hx hst
      gi_wp2
      exact HP.out
    case done =>
      clear SQ x0 x3
      rintro D X W hD hI hK2
      obtain ⟨hiT, r0, r3⟩ := hI.bx
      have f0 := r0.cell
      have hbel := hI.bel
      have hDn : D ≠ W2.heap.size := by omega
      have hul := uL_len G.length T T.length
      clear hI r0
      gi_wp2
      refine ⟨by simp, .inl ⟨_, _, rfl, run_takeDeferred hK2, ?_⟩⟩
      refine ⟨.slice (some ⟨W2.heap.size, 0, none⟩) G.length G.length, by simp [results, Tryd.results16, go_sem], ?_⟩
      refine ⟨_, rfl, ?_, hBW.trans ((hbel.trans (belowK_b (w := W2) (Nat.le_refl _) W D _ _ (by omega) hK2 rfl rfl)).mono hBW.size)⟩
      exact ⟨by simp, .inr ⟨W2.heap.size, G.length, _, by rw [hul], hBW.size, (World.putObj_heap_other (Ne.symm hDn)).trans r3, by omega, by unfold maxLen; omega, by simp [hul], by rw [Nat.mul_one, List.take_of_length_le (by simp [hul])]⟩⟩
    case stop =>
      rintro D cd i W hD h
      exact h.elim
end Go.Proofs.YtjfeamfchgcblaaDoor
