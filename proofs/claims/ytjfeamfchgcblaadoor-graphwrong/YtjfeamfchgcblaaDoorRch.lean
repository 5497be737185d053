/- The program's Reach. -/
import Derived.Test.YtjfeamfchgcblaaDoorUsp
set_option linter.all false
set_option maxRecDepth 100000
namespace Go.Proofs.YtjfeamfchgcblaaDoor
open Go.RowKit Go.Shelf
attribute [local go_sem] Oper.semAt_some

theorem wpListIn_append_run {F : Fence} {n : Nat} {P : Program} {w w' : World} {ops : Array Oper} {rest : List Oper} {o : Oper} {a : Act} {Q : Exit → Act → World → Prop} (hgd : o.guard = none) (s x : Operand) (t : TypeId)
    (ho : o.op = .call { callee := .builtin .append, args := #[s, x], argTypes := #[t, t] }) {u y v : Value} (hs : a.eval s = u) (hx : a.eval x = y)
    (hrun : (Builtin.append_ #[t, t] o.type #[u, y]).run P w = .ok v w') (h : wpListIn F n P ops Q rest (a.put o.dst v) w') : wpListIn F n P ops Q (o :: rest) a w := by
  refine wpListIn_plain hgd fun K hK' => ?_
  unfold Oper.wpIn
  refine ⟨?_, ?_⟩
  · simp [Oper.about, ho, resolve, Target.leads, Sem.run_pure]
  · rw [Oper.semAt_plain F _ _ (by rw [ho]; intro c hc'; cases hc')]
    simp [execOp, ho, resolve, invoke, builtin, hs, hx, hrun, Result.andThen]
    exact hK' _ _ h
/-- What Reach has told so far. -/
def rL (T : List (Int × Nat)) (i : Nat) : List Int := ((T.take i).filter fun x => decide (x.2 = 0)).map (·.1)
theorem rL_step {T : List (Int × Nat)} {i : Nat} {x : Int × Nat} (h : T[i]? = some x) : rL T (i + 1) = if x.2 = 0 then rL T i ++ [x.1] else rL T i := by
  unfold rL
  rw [List.take_add_one, h, List.filter_append, List.map_append]
  by_cases e : x.2 = 0
  · rw [if_pos e]; simp [e]
  · rw [if_neg e]; simp [e]
theorem rL_le (T : List (Int × Nat)) (i : Nat) : (rL T i).length ≤ T.length := by
  unfold rL
  rw [List.length_map]
  refine Nat.le_trans (List.length_filter_le _ _) ?_
  rw [List.length_take]
  omega
/-- Its caller's list grows beside what the iterator has of its own. -/
structure Il (w : World) (n1 s : Nat) (T : List (Int × Nat)) (X : Nat → Prop) (i : Nat) (W : World) : Prop where
  sz : n1 ≤ W.heap.size
  bel : Below w.heap.size w W
  own : ∀ b, X b → n1 ≤ b ∧ b < W.heap.size
  it : i ≤ T.length
  bx : ∃ v, Boxed W s 23 v ∧ OwnsI W n1 v (rL T i) ∧ ∀ g, v.ownBlock = some g → ¬ X g
theorem Il.abo {w : World} {n1 s : Nat} {T : List (Int × Nat)} (hn : w.heap.size ≤ n1) (hs : s < n1) : Abo n1 (Il w n1 s T) := by
  have stp : ∀ (X : Nat → Prop) (i : Nat) (W W' : World) (row : Option Nat), Il w n1 s T X i W → W.grownBy W' row → (∀ r, row = some r → n1 ≤ r) → (∀ v, OwnsI W n1 v (rL T i) → (∀ g, v.ownBlock = some g → ¬ X g) → ∀ k, v.ownBlock = some k → row ≠ some k) → Il w n1 s T X i W' := by
    intro X i W W' row h hg hlow hne
    obtain ⟨v, h1, h2, h3⟩ := h.bx
    refine ⟨Nat.le_trans h.sz hg.size, h.bel.grown hg h.bel.size (fun k e => by have := hlow k e; omega), fun b hb => ⟨(h.own b hb).1, Nat.lt_of_lt_of_le (h.own b hb).2 hg.size⟩, h.it, v, ?_, ownsI_kept h2 hg (hne v h2 h3), h3⟩
    exact (hg.block s (by have := h.sz; omega) (fun e => by have := hlow s e.symm; omega)).trans h1
  refine ⟨fun X i W W' row h hg hr => ?_, fun X i W W' row h hg hr => ?_, fun X Y i W h hY => ?_, fun X i W b h hb => (h.own b hb).2⟩
  · refine stp X i W W' row h hg (fun r e => ?_) (fun v hv hn2 k hk e => ?_)
    · rcases hr r e with h' | ⟨h', -⟩
      · exact (h.own r h').1
      · exact h'
    · rcases hr k e with h' | ⟨-, o, ho, hc⟩
      · exact hn2 k hk h'
      · obtain ⟨-, cur, h2⟩ := row_type hv hk
        rw [ho] at h2
        cases h2
        cases hc
  · have h1 := stp X i W W' row h hg (fun r e => (h.own r (hr r e)).1) (fun v hv hn2 k hk e => hn2 k hk (hr k e))
    obtain ⟨v, b1, b2, b3⟩ := h.bx
    obtain ⟨v', c1, c2, c3⟩ := h1.bx
    have he : v' = v := by
      have d1 : W'.heap[s]? = some (.cells #[v] 23) := (hg.block s (by have := h.sz; omega) (fun e => by have := (h.own s (hr s e.symm)).1; omega)).trans b1
      have d2 : W'.heap[s]? = some (.cells #[v'] 23) := c1
      rw [d1] at d2
      cases d2
      rfl
    subst he
    refine ⟨h1.sz, h1.bel, fun b hb => ?_, h1.it, v', c1, c2, fun g hg2 hx => ?_⟩
    · rcases hb with hb | ⟨h3, h4⟩
      · exact h1.own b hb
      · exact ⟨by have := h.sz; omega, h4⟩
    · rcases hx with hx | ⟨h3, -⟩
      · exact b3 g hg2 hx
      · have := (ownsI_lt b2 g hg2).2; omega
  · obtain ⟨v, b1, b2, b3⟩ := h.bx
    exact ⟨h.sz, h.bel, fun b hb => h.own b (hY b hb), h.it, v, b1, b2, fun g hg hy => b3 g hg (hY g hy)⟩
set_option maxHeartbeats 4000000 in
theorem Reach_any {Tb : World → Prop} {rit rv : ByteArray → Bool} (Lo : LowP Tb rit rv) (p pr : Option Addr) (c cr : Nat) (G : List Gn) (rs : List Int) (r : Int) (w : World) (hT : Tb w) (hG : Gs w p G) (hz : Gz G) (hI : Is w pr rs) (hr : rs.length ≤ 1000000) :
    Calls Tryd.prog 12 #[grV p G.length c pr rs.length cr, .int .i64 r] w fun e w' => ∃ v, e = .returned v ∧ OwnsI w' w.heap.size v (reachP rit rv G rs r) ∧ Below w.heap.size w w' := by
  have hB := (Below.refl w.heap.size w).alloc (Nat.le_refl _) (.cells #[.slice p G.length c, .slice pr rs.length cr] 25)
  have b0 : (w.alloc (.cells #[.slice p G.length c, .slice pr rs.length cr] 25)).heap[w.heap.size]? = some (.cells #[.slice p G.length c, .slice pr rs.length cr] 25) := World.alloc_heap_new w _
  obtain ⟨w1, hw1⟩ : ∃ w1, w.alloc (.cells #[.slice p G.length c, .slice pr rs.length cr] 25) = w1 := ⟨_, rfl⟩
  rw [hw1] at hB b0
  have HRt := fun m => (callsIn_wide (n := m)).2 (hasRoot_any Lo p pr c cr G rs r w1 (Lo.on hT (by rw [← hw1]; exact (Below.refl w.heap.size w).alloc (Nat.le_refl _) _)) (hG.on hB) hz (hI.on hB) hr)
  obtain ⟨f0, f1⟩ := g2_of b0
  have hg1 : G2 w.heap.size (.slice p G.length c) (.slice pr rs.length cr) w1 := ⟨f0, f1⟩
  have CI := fun (m : Nat) (W : World) => comings_in m p pr G.length c rs.length cr r W
  unfold grV at HRt CI ⊢
  cases hm : mayP rit rv G rs r with
  | false =>
    rw [hm] at HRt
    have HR : Hid (reachP rit rv G rs r = []) := by show _ = _; unfold reachP; rw [hm]; rfl
    generalize reachP rit rv G rs r = F at HR ⊢
    refine (callsIn_wide (n := 9)).1 ?_
    refine callsIn_of_wp_marks Tryd.func12 rfl trivial ?_ rfl
    simp only [Tryd.ntmps12, List.size_toArray, List.length_cons, List.length_nil, Nat.reduceAdd, Nat.reduceSub, Array.replicate_succ, Array.replicate_zero, List.push_toArray, List.append_toArray, List.nil_append, List.cons_append]
    clear CI
    gi_wp2_with (first | (refine ⟨trivial, ?_⟩; gi_at_call 24; (try rw [hw1]); refine (HRt _).mono ?_; rintro e W2 ⟨rfl, hB2⟩))
    refine ⟨.slice none 0 0, by simp [results, Tryd.results12, go_sem], ?_⟩
    exact ⟨_, rfl, by rw [HR.out]; exact ⟨rfl, .inl ⟨rfl, rfl⟩⟩, hB.trans (hB2.mono hB.size)⟩
  | true =>
    rw [hm] at HRt
    have hmm := hm
    unfold mayP at hmm
    rw [Bool.and_eq_true, decide_eq_true_iff] at hmm
    obtain ⟨hK, hsk⟩ := right_kids hmm.1
    obtain ⟨rn, hrn⟩ : ∃ rn : Nat, r = rn := ⟨r.toNat, by omega⟩
    subst hrn
    have hrl : rn < G.length := by omega
    have hUS : reachP rit rv G rs (rn : Int) = rL (cmT G (rn : Int)) (cmT G (rn : Int)).length := by
      unfold reachP rL
      rw [hm, if_pos rfl, List.take_length, cmT_reach hK ⟨by omega, by rw [Int.toNat_natCast]; exact hrl⟩]
    have hTr : ∀ x ∈ cmT G (rn : Int), 0 ≤ x.1 ∧ x.1.toNat < G.length := cmT_range hK ⟨by omega, by rw [Int.toNat_natCast]; exact hrl⟩
    have hTl := cmT_length (r := (rn : Int)) hz.n hsk
    rw [hUS]
    clear hUS hmm hm
    obtain ⟨T, hTT⟩ : ∃ T, cmT G (rn : Int) = T := ⟨_, rfl⟩
    rw [hTT] at hTr hTl ⊢
    have HTT : Hid (cmT G (rn : Int) = T) := hTT
    clear hTT
    refine (callsIn_wide (n := 9)).1 ?_
    refine callsIn_of_wp_marks Tryd.func12 rfl trivial ?_ rfl
    simp only [Tryd.ntmps12, List.size_toArray, List.length_cons, List.length_nil, Nat.reduceAdd, Nat.reduceSub, Array.replicate_succ, Array.replicate_zero, List.push_toArray, List.append_toArray, List.nil_append, List.cons_append]
    gi_wp2_with (first | rw [hw1])
    refine ⟨trivial, (HRt _).mono ?_⟩
    rintro e W2 ⟨rfl, hB2⟩
    obtain ⟨g0, g1⟩ := hg1.on hB2
    have lg2 := World.block_lt_of_cell? W2 _ g0
    dsimp only at lg2
    have CI2 := CI 8 (W2.alloc (.cells #[.slice none 0 0] 23))
    rw [World.size_alloc] at CI2
    have hB4 : Below W2.heap.size W2 (W2.alloc (.cells #[.slice none 0 0] 23)) := (Below.refl _ W2).alloc (Nat.le_refl _) _
    obtain ⟨z0, z1⟩ := (hg1.on hB2).on hB4
    clear HRt CI
    gi_wp2
    refine ⟨trivial, CI2.mono ?_⟩
    rintro e W3 ⟨rfl, rfl⟩
    clear CI2
    gi_wp2
    have hGw := hG.on (hB.trans (hB2.mono hB.size))
    have hBW : Below w.heap.size w W2 := hB.trans (hB2.mono hB.size)
    have hB5 : Below W2.heap.size W2 (((W2.alloc (.cells #[.slice none 0 0] 23)).alloc (.cells #[.slice p G.length c, .slice pr rs.length cr] 25)).alloc (.cells #[.int .i64 (rn : Int)] 3)) := (hB4.alloc (by simp) _).alloc (by simp; omega) _
    have x0 : Boxed (((W2.alloc (.cells #[.slice none 0 0] 23)).alloc (.cells #[.slice p G.length c, .slice pr rs.length cr] 25)).alloc (.cells #[.int .i64 (rn : Int)] 3)) W2.heap.size 23 (.slice none 0 0) := ((Boxed.new W2 23 (.slice none 0 0)).alloc _).alloc _
    have x1 : (((W2.alloc (.cells #[.slice none 0 0] 23)).alloc (.cells #[.slice p G.length c, .slice pr rs.length cr] 25)).alloc (.cells #[.int .i64 (rn : Int)] 3)).heap[W2.heap.size + 1]? = some (.cells #[.slice p G.length c, .slice pr rs.length cr] 25) := by
      have := World.alloc_heap_new (W2.alloc (.cells #[.slice none 0 0] 23)) (.cells #[.slice p G.length c, .slice pr rs.length cr] 25)
      rw [World.size_alloc] at this
      exact (Below.heap_alloc _ _ _ (by simp)).trans this
    have x2 : (((W2.alloc (.cells #[.slice none 0 0] 23)).alloc (.cells #[.slice p G.length c, .slice pr rs.length cr] 25)).alloc (.cells #[.int .i64 (rn : Int)] 3)).heap[W2.heap.size + 1 + 1]? = some (.cells #[.int .i64 (rn : Int)] 3) := by
      have := World.alloc_heap_new ((W2.alloc (.cells #[.slice none 0 0] 23)).alloc (.cells #[.slice p G.length c, .slice pr rs.length cr] 25)) (.cells #[.int .i64 (rn : Int)] 3)
      rw [World.size_alloc, World.size_alloc] at this
      exact this
    have hs5 : (((W2.alloc (.cells #[.slice none 0 0] 23)).alloc (.cells #[.slice p G.length c, .slice pr rs.length cr] 25)).alloc (.cells #[.int .i64 (rn : Int)] 3)).heap.size = W2.heap.size + 3 := by simp
    generalize (((W2.alloc (.cells #[.slice none 0 0] 23)).alloc (.cells #[.slice p G.length c, .slice pr rs.length cr] 25)).alloc (.cells #[.int .i64 (rn : Int)] 3)) = W5 at hB5 x0 x1 x2 hs5 ⊢
    have SQ := comings_seq hGw hz.n hK hsk rn hrl (9 - 1) (W2.heap.size + 1 + 1) (W2.heap.size + 1) W5 (.of hB5) (by omega) (by omega) x2 x1
    rw [HTT.out] at SQ
    clear HTT x1 x2 z0 z1 hB4
    have hne : ∀ b, RK W2 (W2.heap.size + 1 + 1) (W2.heap.size + 1) b → b ≠ W2.heap.size ∧ b < W2.heap.size + 3 := by
      rintro b (h | h | h) <;> omega
    refine wpIn_rangeFuncO (gf := 32) (lb := #[.pointer (some ⟨W2.heap.size + 1 + 1, 0, none⟩), .pointer (some ⟨W2.heap.size + 1, 0, none⟩)]) rfl (enters_of Tryd.func32 (by kernel_rfl) rfl) SQ (fun b hb => by have := hne b hb; omega) (Below.refl _ _) (fun _ => rfl)
      (Il W2 (W2.heap.size + 3) W2.heap.size T) (fun _ _ _ => False) (by rw [hs5]; exact Il.abo (by omega) (by omega)) (fun cd _ _ _ _ h _ _ => h) ⟨by omega, hB5, (fun b h => h.elim), Nat.zero_le _, .slice none 0 0, x0, ⟨rfl, .inl ⟨rfl, rfl⟩⟩, fun g e => by cases e⟩
      (fun x W => W) (fun x W => ⟨rfl, rfl, rfl, Nat.le_refl _, fun _ _ _ => rfl⟩)
      (fun x b => { tmps := #[.agg #[.slice p G.length c, .slice pr rs.length cr], .int .i64 (rn : Int), .pointer (some ⟨w.heap.size, 0, none⟩), undef, .slice none 0 0, .pointer (some ⟨W2.heap.size, 0, none⟩), .int .i64 x.1, .int .u8 (x.2 : Nat), .agg #[.slice p G.length c, .slice pr rs.length cr], .int .i64 (rn : Int), .bool true, .bool false, .agg #[.slice p G.length c, .slice pr rs.length cr], .int .i64 (rn : Int), .func (.func 32) #[] #[.pointer (some ⟨W2.heap.size + 1 + 1, 0, none⟩), .pointer (some ⟨W2.heap.size + 1, 0, none⟩)], .int .i64 x.1, .int .u8 (x.2 : Nat), undef, undef, undef, undef, undef, undef, undef], defers := [] }) ?assign ?body ?done ?stop
    case assign =>
      intro m l x W K hK
      simp only [encK] at hK ⊢
      gi_wp2
      exact hK
    case body =>
      clear SQ x0
      rintro m l X i x W0 W hx hI hl1 hl2' hoth
      obtain ⟨v, r0, ro, rn2⟩ := hI.bx
      have hil : i < T.length := (List.getElem?_eq_some_iff.1 hx).1
      have hst := rL_step hx
      have hrl2 := rL_le T i
      obtain ⟨xn, xs⟩ := x
      dsimp only at *
      by_cases h1 : xs = 0
      · rw [if_pos h1] at hst
        subst h1
        obtain ⟨a1, k1, c1, rfl⟩ := ownsRow_form ro
        have f0 := r0.cell
        obtain ⟨g, cap, wa, hrun, ho, hgr, hgl⟩ := push1I ro hI.sz (by omega) xn
        have hgr2 : W.grownBy wa (Value.slice a1 k1 c1).ownBlock := (World.grownBy_alloc W (.cells #[.int .i64 xn] 3) _).trans hgr
        have hns : ∀ k, (Value.slice a1 k1 c1).ownBlock = some k → W2.heap.size + 3 ≤ k ∧ k < W.heap.size := fun k e => ownsI_lt ro k e
        have r1 : Boxed wa W2.heap.size 23 (.slice a1 k1 c1) := (hgr2.block W2.heap.size (by have := hI.sz; omega) (fun e => by have := hns _ e.symm; omega)).trans r0
        have f1 := r1.cell
        have f2 := r1.frozen
        obtain ⟨v', hv'⟩ : ∃ v', Value.slice (some ⟨g, 0, none⟩) ((rL T i).length + 1) cap = v' := ⟨_, rfl⟩
        have hHt : ∀ b, b ≠ W2.heap.size → (wa.setCell ⟨W2.heap.size, 0, none⟩ (.slice (some ⟨g, 0, none⟩) ((rL T i).length + 1) cap)).heap[b]? = wa.heap[b]? := fun b hb => Deep.blk_setCell_other _ _ _ _ hb
        have hsz : (wa.setCell ⟨W2.heap.size, 0, none⟩ (.slice (some ⟨g, 0, none⟩) ((rL T i).length + 1) cap)).heap.size = wa.heap.size := by simp [World.setCell]
        have hgg : W2.heap.size + 3 ≤ g ∧ g < wa.heap.size := ownsI_lt ho g rfl
        have HP : Hid (KeepsFrom W5.heap.size W (wa.setCell ⟨W2.heap.size, 0, none⟩ (.slice (some ⟨g, 0, none⟩) ((rL T i).length + 1) cap)) ∧ Kq (orX (RK W2 (W2.heap.size + 1 + 1) (W2.heap.size + 1)) X) W (wa.setCell ⟨W2.heap.size, 0, none⟩ (.slice (some ⟨g, 0, none⟩) ((rL T i).length + 1) cap)) ∧ Il W2 (W2.heap.size + 3) W2.heap.size T X (i + 1) (wa.setCell ⟨W2.heap.size, 0, none⟩ (.slice (some ⟨g, 0, none⟩) ((rL T i).length + 1) cap))) := by
          rw [hs5]
          refine ⟨⟨by rw [hsz]; exact hgr2.size, fun k o hk ho2 hc => ?_⟩, ⟨by rw [hsz]; exact hgr2.size, fun b hb => ?_⟩, by rw [hsz]; exact Nat.le_trans hI.sz hgr2.size, (hI.bel.grown hgr2 hI.bel.size (fun k e => by have := hns k e; omega)).setCell (Nat.le_refl _) _, fun b hb => by rw [hsz]; exact ⟨(hI.own b hb).1, Nat.lt_of_lt_of_le (hI.own b hb).2 hgr2.size⟩, by omega, _, r1.set _, ?_, fun k hk hx2 => ?_⟩
          · refine (hHt k (by omega)).trans ((hgr2.block k (Array.getElem?_eq_some_iff.1 ho2).1 (fun e => ?_)).trans ho2)
            obtain ⟨-, cur, h2⟩ := row_type ro e.symm
            rw [ho2] at h2
            cases h2
            cases hc
          · rcases hb with hb | hb
            · have h2 := hne b hb
              exact (hHt b h2.1).trans (hgr2.block b (by have := hI.sz; omega) (fun e => by have := hns _ e.symm; omega))
            · have h2 := hI.own b hb
              exact (hHt b (by omega)).trans (hgr2.block b h2.2 (fun e => rn2 _ e.symm hb))
          · rw [hst]
            refine ownsI_kept (B := wa.setCell ⟨W2.heap.size, 0, none⟩ (.slice (some ⟨g, 0, none⟩) ((rL T i).length + 1) cap)) (v := .slice (some ⟨g, 0, none⟩) ((rL T i).length + 1) cap) ?_ (set_grown wa W2.heap.size 0 _) (fun k hk e => by have e1 : g = k := Option.some.inj hk; have e2 := Option.some.inj e; omega)
            exact ho
          · have e1 : g = k := Option.some.inj hk
            rcases hgl with e | e
            · exact rn2 _ e (e1 ▸ hx2)
            · have := (hI.own _ hx2).2; omega
        clear hv'
        generalize (rL T i).length = n0 at *
        clear hoth hI r0 ro rn2 hx hst ho hgr hgr2 r1 hHt hsz
        gi_wp2_with (first | (gi_at_builtin; refine wpListIn_append_run rfl _ _ 23 rfl rfl rfl hrun ?_))
        exact HP.out
      · rw [if_neg h1] at hst
        have h1' : ((xs : Int) == 0) = false := by simp; omega
        have HP : Hid (KeepsFrom W5.heap.size W W ∧ Kq (orX (RK W2 (W2.heap.size + 1 + 1) (W2.heap.size + 1)) X) W W ∧ Il W2 (W2.heap.size + 3) W2.heap.size T X (i + 1) W) := by
          exact ⟨⟨Nat.le_refl _, fun k o _ ho _ => ho⟩, Kq.refl _ _, hI.sz, hI.bel, hI.own, by omega, v, r0, by rw [hst]; exact ro, rn2⟩
        clear hoth hI r0 ro rn2 hx hst
        gi_wp2
        exact HP.out
    case done =>
      clear SQ x0
      rintro D X W hD hI hK2
      obtain ⟨v, r0, ro, rn2⟩ := hI.bx
      have f0 := r0.cell
      have hbel := hI.bel
      have hoD : OwnsI (W.putObj D (.deferred none)) (W2.heap.size + 3) v (rL T T.length) := row_same ro fun g e => by
        refine World.putObj_heap_other (fun e2 => ?_)
        obtain ⟨-, cur, h2⟩ := row_type ro e
        rw [e2, hK2] at h2
        cases h2
      clear hI r0 ro
      obtain ⟨a1, k1, c1, rfl⟩ := ownsRow_form hoD
      gi_wp2
      refine ⟨by simp, .inl ⟨_, _, rfl, run_takeDeferred hK2, ?_⟩⟩
      refine ⟨.slice a1 k1 c1, by simp [results, Tryd.results12, go_sem], ?_⟩
      exact ⟨_, rfl, ownsRow_mono hoD (by have := hBW.size; omega), hBW.trans ((hbel.trans (belowK_b (w := W2) (Nat.le_refl _) W D _ _ (by omega) hK2 rfl rfl)).mono hBW.size)⟩
    case stop =>
      rintro D cd i W hD h
      exact h.elim
end Go.Proofs.YtjfeamfchgcblaaDoor
