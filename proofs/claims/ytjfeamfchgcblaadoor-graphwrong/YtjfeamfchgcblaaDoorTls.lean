/- GraphTells, as it runs. -/
import Derived.Test.YtjfeamfchgcblaaDoorAlv
import Derived.Test.YtjfeamfchgcblaaDoorGcw
import Derived.Test.YtjfeamfchgcblaaDoorGrx
import Derived.Test.YtjfeamfchgcblaaDoorGrb
set_option linter.all false
set_option maxRecDepth 100000
namespace Go.Proofs.YtjfeamfchgcblaaDoor
open Go.RowKit Go.Shelf
attribute [local go_sem] Oper.semAt_some

set_option maxRecDepth 100000 in
set_option maxHeartbeats 1000000 in
theorem same_ints (p q : Option Addr) (l : List Int) (c d : Nat) (w : World) (hn : (l.length : Int) ≤ 1099511627776) (hp : Is w p l) (hq : Is w q l) :
    Calls Tryd.prog 11 #[.slice p l.length c, .slice q l.length d] w fun e w' => e = .returned (.bool true) ∧ ∃ k, w' = w.drewN k := by
  go_enter Tryd.func11, Tryd.ntmps11
  go_wp2
  go_loopw [5] (fun i wr => ∃ (k m : Nat), k ≤ l.length ∧ i = .int .i64 k ∧ wr = w.drewN m) (fun i _ => l.length - (intOf i).toNat)
  case atStart => exact ⟨0, 0, Nat.zero_le _, rfl, rfl⟩
  case round =>
    obtain ⟨k, m, hk, rfl, rfl⟩ := hrel
    by_cases hlt : k < l.length
    · obtain ⟨b, o, rfl, hb⟩ := hp.at (by omega)
      obtain ⟨b', o', rfl, hb'⟩ := hq.at (by omega)
      have c0 := hb k hlt
      have c1 := hb' k hlt
      clear hb hb' hp hq
      generalize iAt l k = x at c0 c1
      go_wp2
      go_quiet (fail)
      go_wp2
      go_roundw
      case rel => exact ⟨k + 1, _, by omega, by go_num, rfl⟩
      case measure => simp [intOf]; omega
    · obtain rfl : k = l.length := by omega
      go_wp2
      go_ret
      exact ⟨rfl, _, rfl⟩

theorem big_gz {G : List Gn} {nr : Nat} (h : bigP G nr = false) : Gz G ∧ nr ≤ 20 ∧ G.length ≤ 60 ∧ sumK G ≤ 400 := by
  unfold bigP at h
  rw [decide_eq_false_iff_not] at h
  have h1 : G.length ≤ 60 := by omega
  have h2 : G.take 100 = G := List.take_of_length_le (by omega)
  rw [h2] at h
  have h3 : ∀ (L : List Gn), ∀ x ∈ L, wtG x ≤ sumB L := by
    intro L
    induction L with
    | nil => intro x hx; cases hx
    | cons y L ih =>
      intro x hx
      rcases List.mem_cons.1 hx with rfl | hx
      · simp [sumB]
      · have := ih x hx; simp [sumB]; omega
  have h4 : ∀ (L : List Gn), sumK L ≤ sumB L := by
    intro L
    induction L with
    | nil => exact Nat.le_refl _
    | cons y L ih => simp [sumK, sumB, wtG]; omega
  refine ⟨⟨by omega, fun x hx => ?_⟩, by omega, h1, by have := h4 G; omega⟩
  have := h3 G x hx
  unfold wtG at this
  omega
theorem cyc_iff {rit rv : ByteArray → Bool} {G : List Gn} {rs : List Int} {r : Int} : cycP rit rv G rs r = true ↔ mayP rit rv G rs r = true ∧ ∃ k ∈ reachP rit rv G rs r, Pth (kdN G) k k := by
  unfold cycP
  rw [Bool.and_eq_true]
  constructor
  · rintro ⟨h1, h2⟩
    refine ⟨h1, ?_⟩
    have hm := h1
    unfold mayP at hm
    rw [Bool.and_eq_true, decide_eq_true_iff] at hm
    obtain ⟨hK, -⟩ := right_kids hm.1
    unfold reachP
    rw [h1, if_pos rfl]
    refine (cmT_ring hK ⟨hm.2.1, by omega⟩).1 ?_
    obtain ⟨x, hx, h3⟩ := List.any_eq_true.1 h2
    exact ⟨x, hx, by simpa using h3⟩
  · rintro ⟨h1, h2⟩
    refine ⟨h1, ?_⟩
    have hm := h1
    unfold mayP at hm
    rw [Bool.and_eq_true, decide_eq_true_iff] at hm
    obtain ⟨hK, -⟩ := right_kids hm.1
    unfold reachP at h2
    rw [h1, if_pos rfl] at h2
    obtain ⟨x, hx, h3⟩ := (cmT_ring hK ⟨hm.2.1, by omega⟩).2 h2
    exact List.any_eq_true.2 ⟨x, hx, by simpa using h3⟩
theorem reach_len {rit rv : ByteArray → Bool} {G : List Gn} {rs : List Int} {r : Int} (hn : G.length ≤ 1000) : (reachP rit rv G rs r).length ≤ 30000 := by
  unfold reachP
  by_cases h : mayP rit rv G rs r = true
  · rw [if_pos h]
    unfold mayP at h
    rw [Bool.and_eq_true, decide_eq_true_iff] at h
    obtain ⟨-, hs⟩ := right_kids h.1
    have h1 := rcF_length G (rcM G (List.replicate G.length false) [r]) (List.replicate G.length false) [r]
    have h2 := left_le G (List.replicate G.length false) (by simp)
    unfold rcE
    unfold rcM at h1 ⊢
    simp at h1 ⊢
    omega
  · rw [if_neg h]; simp
theorem uses_len {rit rv : ByteArray → Bool} {G : List Gn} {rs : List Int} {r : Int} : (usesP rit rv G rs r).length ≤ G.length := by
  unfold usesP
  split
  · rw [usesF_len, incr_len]; simp
  · simp
set_option maxHeartbeats 8000000 in
theorem tells_law (p pr : Option Addr) (c cr : Nat) (G : List Gn) (rs : List Int) (r : Int) (w : World) (hT : Tabs w) (hG : Gs w p G) (hI : Is w pr rs)
    (hb : ∀ x ∈ G, x.kids.length ≤ 1000000000000000 ∧ x.text.size ≤ 1000000000000000 ∧ x.tag.size ≤ 1000000000000000) (hl : G.length ≤ 1000000000000000) (hr : rs.length ≤ 1000000000000000) :
    Calls Tryd.prog 3 #[grV p G.length c pr rs.length cr, .int .i64 r] w fun e w' => e = .returned (.bool true) ∧ Below w.heap.size w w' := by
  refine (callsIn_wide (n := 9)).1 ?_
  have hB := (Below.refl w.heap.size w).alloc (Nat.le_refl _) (.cells #[.slice p G.length c, .slice pr rs.length cr] 25)
  have b0 : (w.alloc (.cells #[.slice p G.length c, .slice pr rs.length cr] 25)).heap[w.heap.size]? = some (.cells #[.slice p G.length c, .slice pr rs.length cr] 25) := World.alloc_heap_new w _
  obtain ⟨w1, hw1⟩ : ∃ w1, w.alloc (.cells #[.slice p G.length c, .slice pr rs.length cr] 25) = w1 := ⟨_, rfl⟩
  rw [hw1] at hB b0
  have hg1 := g2_of b0
  have hs1 : w.heap.size < w1.heap.size := (Array.getElem?_eq_some_iff.1 b0).1
  have AL := alive_any w1 (lowP.on hT (by rw [← hw1]; exact (Below.refl w.heap.size w).alloc (Nat.le_refl _) _))
  have BG : Hid (∀ W, Below w.heap.size w W → _) := fun W hb2 => Big_any p pr c rs.length cr G W (hG.on hb2) hb hl hr
  unfold grV at BG ⊢
  refine callsIn_of_wp Tryd.func3 rfl trivial ?_ rfl
  simp only [Tryd.ntmps3, List.size_toArray, List.length_cons, List.length_nil, Nat.reduceAdd, Nat.reduceSub, Array.replicate_succ, Array.replicate_zero, List.push_toArray, List.append_toArray, List.nil_append, List.cons_append]
  clear b0
  gi_wp2_with (first | rw [hw1])
  refine ⟨trivial, ((callsIn_wide (n := _)).2 AL).mono ?_⟩
  rintro e W1 ⟨rfl, hb1⟩
  have hB1 : Below w.heap.size w W1 := hB.trans (hb1.mono hB.size)
  have BG1 := BG.out W1 hB1
  obtain ⟨g0, g1⟩ := hg1.on hb1
  clear AL BG
  gi_wp2
  refine ⟨trivial, ((callsIn_wide (n := _)).2 BG1).mono ?_⟩
  rintro e W2 ⟨rfl, hb2⟩
  have hB2' : Below w.heap.size w W2 := hB1.trans (hb2.mono hB1.size)
  clear BG1 g0 g1
  cases hbig : bigP G rs.length with
  | true =>
    clear hbig
    gi_wp2
    go_ret
    exact ⟨rfl, hB2'⟩
  | false =>
    obtain ⟨hz, hrs, -, -⟩ := big_gz hbig
    have hrs2 : rs.length ≤ 1000000 := by omega
    have hrl := reach_len (rit := ritB) (rv := rvB) (G := G) (rs := rs) (r := r) hz.n
    have hul := uses_len (rit := ritB) (rv := rvB) (G := G) (rs := rs) (r := r)
    have hzn := hz.n
    have HR1 : Hid (∀ (m : Nat) (W : World), Below w.heap.size w W → CallsIn Fence.wide m Tryd.prog 9 #[.agg #[.slice p G.length c, .slice pr rs.length cr]] W fun e w' => e = .returned (.bool (rightP ritB rvB G rs)) ∧ Below W.heap.size W w') := fun m W hb => (callsIn_wide (n := m)).2 (Right_any lowP p pr c cr G rs W (lowP.on hT hb) (hG.on hb) hz (hI.on hb) hrs2)
    have HR2 : Hid (∀ (m : Nat) (W : World), Below w.heap.size w W → CallsIn Fence.wide m Tryd.prog 10 #[.agg #[.slice p G.length c, .slice pr rs.length cr]] W fun e w' => e = .returned (.bool (rightP ritB rvB G rs)) ∧ Below W.heap.size W w') := fun m W hb => (callsIn_wide (n := m)).2 (rRight_any lowG p pr c cr G rs W (hG.on hb) hz (hI.on hb) hrs2)
    have HE1 : Hid (∀ (m : Nat) (W : World), Below w.heap.size w W → CallsIn Fence.wide m Tryd.prog 12 #[.agg #[.slice p G.length c, .slice pr rs.length cr], .int .i64 r] W fun e w' => ∃ v, e = .returned v ∧ OwnsI w' W.heap.size v (reachP ritB rvB G rs r) ∧ Below W.heap.size W w') := fun m W hb => (callsIn_wide (n := m)).2 (Reach_any lowP p pr c cr G rs r W (lowP.on hT hb) (hG.on hb) hz (hI.on hb) hrs2)
    have HE2 : Hid (∀ (m : Nat) (W : World), Below w.heap.size w W → CallsIn Fence.wide m Tryd.prog 13 #[.agg #[.slice p G.length c, .slice pr rs.length cr], .int .i64 r] W fun e w' => ∃ v, e = .returned v ∧ OwnsI w' W.heap.size v (reachP ritB rvB G rs r) ∧ Below W.heap.size W w') := fun m W hb => (callsIn_wide (n := m)).2 (rReach_any lowG p pr c cr G rs r W (hG.on hb) hz (hI.on hb) hrs2)
    have HC1 : Hid (∀ (m : Nat) (W : World), Below w.heap.size w W → CallsIn Fence.wide m Tryd.prog 14 #[.agg #[.slice p G.length c, .slice pr rs.length cr], .int .i64 r] W fun e w' => e = .returned (.bool (cycP ritB rvB G rs r)) ∧ Below W.heap.size W w') := fun m W hb => (callsIn_wide (n := m)).2 (Cyclic_any lowP p pr c cr G rs r W (lowP.on hT hb) (hG.on hb) hz (hI.on hb) hrs2)
    have HC2 : Hid (∀ (m : Nat) (W : World), Below w.heap.size w W → CallsIn Fence.wide m Tryd.prog 15 #[.agg #[.slice p G.length c, .slice pr rs.length cr], .int .i64 r] W fun e w' => e = .returned (.bool (cycP ritB rvB G rs r)) ∧ Below W.heap.size W w') := fun m W hb => (callsIn_wide (n := m)).2 ((rCyclic_any lowG p pr c cr G rs r W (hG.on hb) hz (hI.on hb) hrs2).mono fun e w' ⟨v, he, hv, hb3⟩ => ⟨by rw [he]; exact ret_bool (by rw [Bool.eq_iff_iff, hv, cyc_iff]), hb3⟩)
    have HU1 : Hid (∀ (m : Nat) (W : World), Below w.heap.size w W → CallsIn Fence.wide m Tryd.prog 16 #[.agg #[.slice p G.length c, .slice pr rs.length cr], .int .i64 r] W fun e w' => ∃ v, e = .returned v ∧ OwnsI w' W.heap.size v (usesP ritB rvB G rs r) ∧ Below W.heap.size W w') := fun m W hb => (callsIn_wide (n := m)).2 (Uses_any lowP p pr c cr G rs r W (lowP.on hT hb) (hG.on hb) hz (hI.on hb) hrs2)
    have HU2 : Hid (∀ (m : Nat) (W : World), Below w.heap.size w W → CallsIn Fence.wide m Tryd.prog 17 #[.agg #[.slice p G.length c, .slice pr rs.length cr], .int .i64 r] W fun e w' => ∃ v, e = .returned v ∧ OwnsI w' W.heap.size v (usesP ritB rvB G rs r) ∧ Below W.heap.size W w') := fun m W hb => (callsIn_wide (n := m)).2 (rUses_any lowG p pr c cr G rs r W (hG.on hb) hz (hI.on hb) hrs2)
    generalize reachP ritB rvB G rs r = RC at *
    generalize usesP ritB rvB G rs r = UC at *
    generalize rightP ritB rvB G rs = RP at *
    generalize cycP ritB rvB G rs r = CC at *
    have hg2 := (hg1.on hb1).on hb2
    have ST : Hid (∀ W, Below w.heap.size w W → W.heap[w.heap.size]? = W2.heap[w.heap.size]? → Sg w.heap.size (.slice p G.length c) (.slice pr rs.length cr) W) := fun W _ h => ⟨(World.cell?_of_block (a := ⟨w.heap.size, 0, none⟩) h).trans hg2.c0, (World.cell?_of_block (a := ⟨w.heap.size, 1, none⟩) h).trans hg2.c1⟩
    have hB2 : Below w.heap.size w W2.drew := hB2'.drew
    have T2 : Sg w.heap.size (.slice p G.length c) (.slice pr rs.length cr) W2.drew := ST.out _ hB2 rfl
    clear hbig hG hI hb hl hr hz hg1 hg2 hb1 hb2 hT
    gi_wp2
    refine region_pick (Sg w.heap.size (.slice p G.length c) (.slice pr rs.length cr)) (by kernel_rfl) ?_
    show Any _ _ _ _ _ _ 33 #[false, false, false, false, false, false, false, false, false, false, false, false, false, false, false, false, false, false, false, false, false, false, false, false, false, false, false, false, false, false, false, false, false] { tmps := #[_, _, _, _, _, _, _, _, _, _, _, _, _, _, _, _, _, _, _, _, _, _, _, _, _, _, _, _, _, _, _, _, _, _, _, _, _, _, _, _, _, _, _, _, _, _, _, _], defers := [] } W2.drew
    refine Any.take (i := 0) (v := (.agg #[.slice p G.length c, .slice pr rs.length cr])) (wideF) rfl (by kernel_rfl) (by kernel_rfl) (by kernel_rfl) (fun _ _ _ h => h) (.inl ⟨rfl, fun w hw => by have r1 := hw.1; have r2 := hw.2; go_simp⟩) T2 ?_
    show Any _ _ _ _ _ _ 32 #[true, false, false, false, false, false, false, false, false, false, false, false, false, false, false, false, false, false, false, false, false, false, false, false, false, false, false, false, false, false, false, false, false] { tmps := #[_, _, _, _, _, _, _, _, _, _, _, _, _, _, _, _, (.agg #[.slice p G.length c, .slice pr rs.length cr]), _, _, _, _, _, _, _, _, _, _, _, _, _, _, _, _, _, _, _, _, _, _, _, _, _, _, _, _, _, _, _], defers := [] } W2.drew
    refine Any.take (i := 2) (v := (.agg #[.slice p G.length c, .slice pr rs.length cr])) (wideF) rfl (by kernel_rfl) (by kernel_rfl) (by kernel_rfl) (fun _ _ _ h => h) (.inl ⟨rfl, fun w hw => by have r1 := hw.1; have r2 := hw.2; go_simp⟩) T2 ?_
    show Any _ _ _ _ _ _ 31 #[true, false, true, false, false, false, false, false, false, false, false, false, false, false, false, false, false, false, false, false, false, false, false, false, false, false, false, false, false, false, false, false, false] { tmps := #[_, _, _, _, _, _, _, _, _, _, _, _, _, _, _, _, (.agg #[.slice p G.length c, .slice pr rs.length cr]), _, (.agg #[.slice p G.length c, .slice pr rs.length cr]), _, _, _, _, _, _, _, _, _, _, _, _, _, _, _, _, _, _, _, _, _, _, _, _, _, _, _, _, _], defers := [] } W2.drew
    refine Any.one (i := 1) (by kernel_rfl) rfl rfl (fun K hK => ?_)
    go_simp
    try (first | refine ⟨trivial, (fun h => by cases h), ?_⟩ | refine ⟨trivial, ?_⟩)
    refine (HR1.out _ W2.drew hB2).mono ?_
    rintro en W3 ⟨rfl, hb3⟩
    have hB3 : Below w.heap.size w W3 := hB2.trans (hb3.mono hB2.size)
    have T3 : Sg w.heap.size (.slice p G.length c) (.slice pr rs.length cr) W3 := ⟨(hb3.cell (p := ⟨w.heap.size, 0, none⟩) (World.block_lt_of_cell? _ _ T2.1)).trans T2.1, (hb3.cell (p := ⟨w.heap.size, 1, none⟩) (World.block_lt_of_cell? _ _ T2.2)).trans T2.2⟩
    refine hK _ _ T3 ?_
    clear hK K
    show Any _ _ _ _ _ _ 30 #[true, true, true, false, false, false, false, false, false, false, false, false, false, false, false, false, false, false, false, false, false, false, false, false, false, false, false, false, false, false, false, false, false] { tmps := #[_, _, _, _, _, _, _, _, _, _, _, _, _, _, _, _, (.agg #[.slice p G.length c, .slice pr rs.length cr]), (.bool RP), (.agg #[.slice p G.length c, .slice pr rs.length cr]), _, _, _, _, _, _, _, _, _, _, _, _, _, _, _, _, _, _, _, _, _, _, _, _, _, _, _, _, _], defers := [] } W3
    refine Any.one (i := 3) (by kernel_rfl) rfl rfl (fun K hK => ?_)
    go_simp
    try (first | refine ⟨trivial, (fun h => by cases h), ?_⟩ | refine ⟨trivial, ?_⟩)
    refine (HR2.out _ W3 hB3).mono ?_
    rintro en W4 ⟨rfl, hb4⟩
    have hB4 : Below w.heap.size w W4 := hB3.trans (hb4.mono hB3.size)
    have T4 : Sg w.heap.size (.slice p G.length c) (.slice pr rs.length cr) W4 := ⟨(hb4.cell (p := ⟨w.heap.size, 0, none⟩) (World.block_lt_of_cell? _ _ T3.1)).trans T3.1, (hb4.cell (p := ⟨w.heap.size, 1, none⟩) (World.block_lt_of_cell? _ _ T3.2)).trans T3.2⟩
    refine hK _ _ T4 ?_
    clear hK K
    show Any _ _ _ _ _ _ 29 #[true, true, true, true, false, false, false, false, false, false, false, false, false, false, false, false, false, false, false, false, false, false, false, false, false, false, false, false, false, false, false, false, false] { tmps := #[_, _, _, _, _, _, _, _, _, _, _, _, _, _, _, _, (.agg #[.slice p G.length c, .slice pr rs.length cr]), (.bool RP), (.agg #[.slice p G.length c, .slice pr rs.length cr]), (.bool RP), _, _, _, _, _, _, _, _, _, _, _, _, _, _, _, _, _, _, _, _, _, _, _, _, _, _, _, _], defers := [] } W4
    refine Any.take (i := 4) (v := (.bool true)) (wideF) rfl (by kernel_rfl) (by kernel_rfl) (by kernel_rfl) (fun _ _ _ h => h) (.inl ⟨rfl, fun w _ => by go_simp⟩) T4 ?_
    show Any _ _ _ _ _ _ 28 #[true, true, true, true, true, false, false, false, false, false, false, false, false, false, false, false, false, false, false, false, false, false, false, false, false, false, false, false, false, false, false, false, false] { tmps := #[_, _, _, _, _, _, _, _, _, _, _, _, _, _, _, _, (.agg #[.slice p G.length c, .slice pr rs.length cr]), (.bool RP), (.agg #[.slice p G.length c, .slice pr rs.length cr]), (.bool RP), (.bool true), _, _, _, _, _, _, _, _, _, _, _, _, _, _, _, _, _, _, _, _, _, _, _, _, _, _, _], defers := [] } W4
    refine Any.take (i := 5) (v := (.bool true)) (wideF) rfl (by kernel_rfl) (by kernel_rfl) (by kernel_rfl) (fun _ _ _ h => h) (.inl ⟨rfl, fun w _ => by go_simp⟩) T4 ?_
    show Any _ _ _ _ _ _ 27 #[true, true, true, true, true, true, false, false, false, false, false, false, false, false, false, false, false, false, false, false, false, false, false, false, false, false, false, false, false, false, false, false, false] { tmps := #[_, _, _, _, _, _, _, _, _, _, _, _, _, _, _, _, (.agg #[.slice p G.length c, .slice pr rs.length cr]), (.bool RP), (.agg #[.slice p G.length c, .slice pr rs.length cr]), (.bool RP), (.bool true), (.bool true), _, _, _, _, _, _, _, _, _, _, _, _, _, _, _, _, _, _, _, _, _, _, _, _, _, _], defers := [] } W4
    refine Any.take (i := 6) (v := (.agg #[.slice p G.length c, .slice pr rs.length cr])) (wideF) rfl (by kernel_rfl) (by kernel_rfl) (by kernel_rfl) (fun _ _ _ h => h) (.inl ⟨rfl, fun w hw => by have r1 := hw.1; have r2 := hw.2; go_simp⟩) T4 ?_
    show Any _ _ _ _ _ _ 26 #[true, true, true, true, true, true, true, false, false, false, false, false, false, false, false, false, false, false, false, false, false, false, false, false, false, false, false, false, false, false, false, false, false] { tmps := #[_, _, _, _, _, _, _, _, _, _, _, _, _, _, _, _, (.agg #[.slice p G.length c, .slice pr rs.length cr]), (.bool RP), (.agg #[.slice p G.length c, .slice pr rs.length cr]), (.bool RP), (.bool true), (.bool true), (.agg #[.slice p G.length c, .slice pr rs.length cr]), _, _, _, _, _, _, _, _, _, _, _, _, _, _, _, _, _, _, _, _, _, _, _, _, _], defers := [] } W4
    refine Any.take (i := 7) (v := (.int .i64 r)) (wideF) rfl (by kernel_rfl) (by kernel_rfl) (by kernel_rfl) (fun _ _ _ h => h) (.inl ⟨rfl, fun w _ => by go_simp⟩) T4 ?_
    show Any _ _ _ _ _ _ 25 #[true, true, true, true, true, true, true, true, false, false, false, false, false, false, false, false, false, false, false, false, false, false, false, false, false, false, false, false, false, false, false, false, false] { tmps := #[_, _, _, _, _, _, _, _, _, _, _, _, _, _, _, _, (.agg #[.slice p G.length c, .slice pr rs.length cr]), (.bool RP), (.agg #[.slice p G.length c, .slice pr rs.length cr]), (.bool RP), (.bool true), (.bool true), (.agg #[.slice p G.length c, .slice pr rs.length cr]), (.int .i64 r), _, _, _, _, _, _, _, _, _, _, _, _, _, _, _, _, _, _, _, _, _, _, _, _], defers := [] } W4
    refine Any.take (i := 9) (v := (.agg #[.slice p G.length c, .slice pr rs.length cr])) (wideF) rfl (by kernel_rfl) (by kernel_rfl) (by kernel_rfl) (fun _ _ _ h => h) (.inl ⟨rfl, fun w hw => by have r1 := hw.1; have r2 := hw.2; go_simp⟩) T4 ?_
    show Any _ _ _ _ _ _ 24 #[true, true, true, true, true, true, true, true, false, true, false, false, false, false, false, false, false, false, false, false, false, false, false, false, false, false, false, false, false, false, false, false, false] { tmps := #[_, _, _, _, _, _, _, _, _, _, _, _, _, _, _, _, (.agg #[.slice p G.length c, .slice pr rs.length cr]), (.bool RP), (.agg #[.slice p G.length c, .slice pr rs.length cr]), (.bool RP), (.bool true), (.bool true), (.agg #[.slice p G.length c, .slice pr rs.length cr]), (.int .i64 r), _, (.agg #[.slice p G.length c, .slice pr rs.length cr]), _, _, _, _, _, _, _, _, _, _, _, _, _, _, _, _, _, _, _, _, _, _], defers := [] } W4
    refine Any.take (i := 10) (v := (.int .i64 r)) (wideF) rfl (by kernel_rfl) (by kernel_rfl) (by kernel_rfl) (fun _ _ _ h => h) (.inl ⟨rfl, fun w _ => by go_simp⟩) T4 ?_
    show Any _ _ _ _ _ _ 23 #[true, true, true, true, true, true, true, true, false, true, true, false, false, false, false, false, false, false, false, false, false, false, false, false, false, false, false, false, false, false, false, false, false] { tmps := #[_, _, _, _, _, _, _, _, _, _, _, _, _, _, _, _, (.agg #[.slice p G.length c, .slice pr rs.length cr]), (.bool RP), (.agg #[.slice p G.length c, .slice pr rs.length cr]), (.bool RP), (.bool true), (.bool true), (.agg #[.slice p G.length c, .slice pr rs.length cr]), (.int .i64 r), _, (.agg #[.slice p G.length c, .slice pr rs.length cr]), (.int .i64 r), _, _, _, _, _, _, _, _, _, _, _, _, _, _, _, _, _, _, _, _, _], defers := [] } W4
    refine Any.one (i := 8) (by kernel_rfl) rfl rfl (fun K hK => ?_)
    go_simp
    try (first | refine ⟨trivial, (fun h => by cases h), ?_⟩ | refine ⟨trivial, ?_⟩)
    refine (HE1.out _ W4 hB4).mono ?_
    rintro en W5 ⟨v5, rfl, ho5, hb5⟩
    obtain ⟨a5, k5, c5, rfl⟩ := ownsRow_form ho5
    obtain ⟨hI5, rfl, -, -⟩ := is_of_row ho5
    have hB5 : Below w.heap.size w W5 := hB4.trans (hb5.mono hB4.size)
    have T5 : Sg w.heap.size (.slice p G.length c) (.slice pr rs.length cr) W5 := ⟨(hb5.cell (p := ⟨w.heap.size, 0, none⟩) (World.block_lt_of_cell? _ _ T4.1)).trans T4.1, (hb5.cell (p := ⟨w.heap.size, 1, none⟩) (World.block_lt_of_cell? _ _ T4.2)).trans T4.2⟩
    refine hK _ _ T5 ?_
    clear hK K
    show Any _ _ _ _ _ _ 22 #[true, true, true, true, true, true, true, true, true, true, true, false, false, false, false, false, false, false, false, false, false, false, false, false, false, false, false, false, false, false, false, false, false] { tmps := #[_, _, _, _, _, _, _, _, _, _, _, _, _, _, _, _, (.agg #[.slice p G.length c, .slice pr rs.length cr]), (.bool RP), (.agg #[.slice p G.length c, .slice pr rs.length cr]), (.bool RP), (.bool true), (.bool true), (.agg #[.slice p G.length c, .slice pr rs.length cr]), (.int .i64 r), (.slice a5 RC.length c5), (.agg #[.slice p G.length c, .slice pr rs.length cr]), (.int .i64 r), _, _, _, _, _, _, _, _, _, _, _, _, _, _, _, _, _, _, _, _, _], defers := [] } W5
    refine Any.one (i := 11) (by kernel_rfl) rfl rfl (fun K hK => ?_)
    go_simp
    try (first | refine ⟨trivial, (fun h => by cases h), ?_⟩ | refine ⟨trivial, ?_⟩)
    refine (HE2.out _ W5 hB5).mono ?_
    rintro en W6 ⟨v6, rfl, ho6, hb6⟩
    obtain ⟨a6, k6, c6, rfl⟩ := ownsRow_form ho6
    obtain ⟨hI6, rfl, -, -⟩ := is_of_row ho6
    have hJ6 := hI5.on hb6
    have hB6 : Below w.heap.size w W6 := hB5.trans (hb6.mono hB5.size)
    have T6 : Sg w.heap.size (.slice p G.length c) (.slice pr rs.length cr) W6 := ⟨(hb6.cell (p := ⟨w.heap.size, 0, none⟩) (World.block_lt_of_cell? _ _ T5.1)).trans T5.1, (hb6.cell (p := ⟨w.heap.size, 1, none⟩) (World.block_lt_of_cell? _ _ T5.2)).trans T5.2⟩
    refine hK _ _ T6 ?_
    clear hK K
    show Any _ _ _ _ _ _ 21 #[true, true, true, true, true, true, true, true, true, true, true, true, false, false, false, false, false, false, false, false, false, false, false, false, false, false, false, false, false, false, false, false, false] { tmps := #[_, _, _, _, _, _, _, _, _, _, _, _, _, _, _, _, (.agg #[.slice p G.length c, .slice pr rs.length cr]), (.bool RP), (.agg #[.slice p G.length c, .slice pr rs.length cr]), (.bool RP), (.bool true), (.bool true), (.agg #[.slice p G.length c, .slice pr rs.length cr]), (.int .i64 r), (.slice a5 RC.length c5), (.agg #[.slice p G.length c, .slice pr rs.length cr]), (.int .i64 r), (.slice a6 RC.length c6), _, _, _, _, _, _, _, _, _, _, _, _, _, _, _, _, _, _, _, _], defers := [] } W6
    refine Any.one (i := 12) (by kernel_rfl) rfl rfl (fun K hK => ?_)
    go_simp
    try (first | refine ⟨trivial, (fun h => by cases h), ?_⟩ | refine ⟨trivial, ?_⟩)
    refine ((callsIn_wide (n := _)).2 (same_ints _ _ RC _ _ W6 (by omega) hJ6 hI6)).mono ?_
    rintro en W7 ⟨rfl, m7, hm7⟩
    have hb7 : Below W6.heap.size W6 W7 := hm7 ▸ below_drewN (Below.refl _ _) m7
    clear hm7
    have hB7 : Below w.heap.size w W7 := hB6.trans (hb7.mono hB6.size)
    have T7 : Sg w.heap.size (.slice p G.length c) (.slice pr rs.length cr) W7 := ⟨(hb7.cell (p := ⟨w.heap.size, 0, none⟩) (World.block_lt_of_cell? _ _ T6.1)).trans T6.1, (hb7.cell (p := ⟨w.heap.size, 1, none⟩) (World.block_lt_of_cell? _ _ T6.2)).trans T6.2⟩
    refine hK _ _ T7 ?_
    clear hK K
    show Any _ _ _ _ _ _ 20 #[true, true, true, true, true, true, true, true, true, true, true, true, true, false, false, false, false, false, false, false, false, false, false, false, false, false, false, false, false, false, false, false, false] { tmps := #[_, _, _, _, _, _, _, _, _, _, _, _, _, _, _, _, (.agg #[.slice p G.length c, .slice pr rs.length cr]), (.bool RP), (.agg #[.slice p G.length c, .slice pr rs.length cr]), (.bool RP), (.bool true), (.bool true), (.agg #[.slice p G.length c, .slice pr rs.length cr]), (.int .i64 r), (.slice a5 RC.length c5), (.agg #[.slice p G.length c, .slice pr rs.length cr]), (.int .i64 r), (.slice a6 RC.length c6), (.bool true), _, _, _, _, _, _, _, _, _, _, _, _, _, _, _, _, _, _, _], defers := [] } W7
    refine Any.take (i := 13) (v := (.bool true)) (wideF) rfl (by kernel_rfl) (by kernel_rfl) (by kernel_rfl) (fun _ _ _ h => h) (.inl ⟨rfl, fun w _ => by go_simp⟩) T7 ?_
    show Any _ _ _ _ _ _ 19 #[true, true, true, true, true, true, true, true, true, true, true, true, true, true, false, false, false, false, false, false, false, false, false, false, false, false, false, false, false, false, false, false, false] { tmps := #[_, _, _, _, _, _, _, _, _, _, _, _, _, _, _, _, (.agg #[.slice p G.length c, .slice pr rs.length cr]), (.bool RP), (.agg #[.slice p G.length c, .slice pr rs.length cr]), (.bool RP), (.bool true), (.bool true), (.agg #[.slice p G.length c, .slice pr rs.length cr]), (.int .i64 r), (.slice a5 RC.length c5), (.agg #[.slice p G.length c, .slice pr rs.length cr]), (.int .i64 r), (.slice a6 RC.length c6), (.bool true), (.bool true), _, _, _, _, _, _, _, _, _, _, _, _, _, _, _, _, _, _], defers := [] } W7
    refine Any.take (i := 14) (v := (.bool true)) (wideF) rfl (by kernel_rfl) (by kernel_rfl) (by kernel_rfl) (fun _ _ _ h => h) (.inl ⟨rfl, fun w _ => by go_simp⟩) T7 ?_
    show Any _ _ _ _ _ _ 18 #[true, true, true, true, true, true, true, true, true, true, true, true, true, true, true, false, false, false, false, false, false, false, false, false, false, false, false, false, false, false, false, false, false] { tmps := #[_, _, _, _, _, _, _, _, _, _, _, _, _, _, _, _, (.agg #[.slice p G.length c, .slice pr rs.length cr]), (.bool RP), (.agg #[.slice p G.length c, .slice pr rs.length cr]), (.bool RP), (.bool true), (.bool true), (.agg #[.slice p G.length c, .slice pr rs.length cr]), (.int .i64 r), (.slice a5 RC.length c5), (.agg #[.slice p G.length c, .slice pr rs.length cr]), (.int .i64 r), (.slice a6 RC.length c6), (.bool true), (.bool true), (.bool true), _, _, _, _, _, _, _, _, _, _, _, _, _, _, _, _, _], defers := [] } W7
    refine Any.take (i := 15) (v := (.agg #[.slice p G.length c, .slice pr rs.length cr])) (wideF) rfl (by kernel_rfl) (by kernel_rfl) (by kernel_rfl) (fun _ _ _ h => h) (.inl ⟨rfl, fun w hw => by have r1 := hw.1; have r2 := hw.2; go_simp⟩) T7 ?_
    show Any _ _ _ _ _ _ 17 #[true, true, true, true, true, true, true, true, true, true, true, true, true, true, true, true, false, false, false, false, false, false, false, false, false, false, false, false, false, false, false, false, false] { tmps := #[_, _, _, _, _, _, _, _, _, _, _, _, _, _, _, _, (.agg #[.slice p G.length c, .slice pr rs.length cr]), (.bool RP), (.agg #[.slice p G.length c, .slice pr rs.length cr]), (.bool RP), (.bool true), (.bool true), (.agg #[.slice p G.length c, .slice pr rs.length cr]), (.int .i64 r), (.slice a5 RC.length c5), (.agg #[.slice p G.length c, .slice pr rs.length cr]), (.int .i64 r), (.slice a6 RC.length c6), (.bool true), (.bool true), (.bool true), (.agg #[.slice p G.length c, .slice pr rs.length cr]), _, _, _, _, _, _, _, _, _, _, _, _, _, _, _, _], defers := [] } W7
    refine Any.take (i := 16) (v := (.int .i64 r)) (wideF) rfl (by kernel_rfl) (by kernel_rfl) (by kernel_rfl) (fun _ _ _ h => h) (.inl ⟨rfl, fun w _ => by go_simp⟩) T7 ?_
    show Any _ _ _ _ _ _ 16 #[true, true, true, true, true, true, true, true, true, true, true, true, true, true, true, true, true, false, false, false, false, false, false, false, false, false, false, false, false, false, false, false, false] { tmps := #[_, _, _, _, _, _, _, _, _, _, _, _, _, _, _, _, (.agg #[.slice p G.length c, .slice pr rs.length cr]), (.bool RP), (.agg #[.slice p G.length c, .slice pr rs.length cr]), (.bool RP), (.bool true), (.bool true), (.agg #[.slice p G.length c, .slice pr rs.length cr]), (.int .i64 r), (.slice a5 RC.length c5), (.agg #[.slice p G.length c, .slice pr rs.length cr]), (.int .i64 r), (.slice a6 RC.length c6), (.bool true), (.bool true), (.bool true), (.agg #[.slice p G.length c, .slice pr rs.length cr]), (.int .i64 r), _, _, _, _, _, _, _, _, _, _, _, _, _, _, _], defers := [] } W7
    refine Any.take (i := 18) (v := (.agg #[.slice p G.length c, .slice pr rs.length cr])) (wideF) rfl (by kernel_rfl) (by kernel_rfl) (by kernel_rfl) (fun _ _ _ h => h) (.inl ⟨rfl, fun w hw => by have r1 := hw.1; have r2 := hw.2; go_simp⟩) T7 ?_
    show Any _ _ _ _ _ _ 15 #[true, true, true, true, true, true, true, true, true, true, true, true, true, true, true, true, true, false, true, false, false, false, false, false, false, false, false, false, false, false, false, false, false] { tmps := #[_, _, _, _, _, _, _, _, _, _, _, _, _, _, _, _, (.agg #[.slice p G.length c, .slice pr rs.length cr]), (.bool RP), (.agg #[.slice p G.length c, .slice pr rs.length cr]), (.bool RP), (.bool true), (.bool true), (.agg #[.slice p G.length c, .slice pr rs.length cr]), (.int .i64 r), (.slice a5 RC.length c5), (.agg #[.slice p G.length c, .slice pr rs.length cr]), (.int .i64 r), (.slice a6 RC.length c6), (.bool true), (.bool true), (.bool true), (.agg #[.slice p G.length c, .slice pr rs.length cr]), (.int .i64 r), _, (.agg #[.slice p G.length c, .slice pr rs.length cr]), _, _, _, _, _, _, _, _, _, _, _, _, _], defers := [] } W7
    refine Any.take (i := 19) (v := (.int .i64 r)) (wideF) rfl (by kernel_rfl) (by kernel_rfl) (by kernel_rfl) (fun _ _ _ h => h) (.inl ⟨rfl, fun w _ => by go_simp⟩) T7 ?_
    show Any _ _ _ _ _ _ 14 #[true, true, true, true, true, true, true, true, true, true, true, true, true, true, true, true, true, false, true, true, false, false, false, false, false, false, false, false, false, false, false, false, false] { tmps := #[_, _, _, _, _, _, _, _, _, _, _, _, _, _, _, _, (.agg #[.slice p G.length c, .slice pr rs.length cr]), (.bool RP), (.agg #[.slice p G.length c, .slice pr rs.length cr]), (.bool RP), (.bool true), (.bool true), (.agg #[.slice p G.length c, .slice pr rs.length cr]), (.int .i64 r), (.slice a5 RC.length c5), (.agg #[.slice p G.length c, .slice pr rs.length cr]), (.int .i64 r), (.slice a6 RC.length c6), (.bool true), (.bool true), (.bool true), (.agg #[.slice p G.length c, .slice pr rs.length cr]), (.int .i64 r), _, (.agg #[.slice p G.length c, .slice pr rs.length cr]), (.int .i64 r), _, _, _, _, _, _, _, _, _, _, _, _], defers := [] } W7
    refine Any.one (i := 17) (by kernel_rfl) rfl rfl (fun K hK => ?_)
    go_simp
    try (first | refine ⟨trivial, (fun h => by cases h), ?_⟩ | refine ⟨trivial, ?_⟩)
    refine (HC1.out _ W7 hB7).mono ?_
    rintro en W8 ⟨rfl, hb8⟩
    have hB8 : Below w.heap.size w W8 := hB7.trans (hb8.mono hB7.size)
    have T8 : Sg w.heap.size (.slice p G.length c) (.slice pr rs.length cr) W8 := ⟨(hb8.cell (p := ⟨w.heap.size, 0, none⟩) (World.block_lt_of_cell? _ _ T7.1)).trans T7.1, (hb8.cell (p := ⟨w.heap.size, 1, none⟩) (World.block_lt_of_cell? _ _ T7.2)).trans T7.2⟩
    refine hK _ _ T8 ?_
    clear hK K
    show Any _ _ _ _ _ _ 13 #[true, true, true, true, true, true, true, true, true, true, true, true, true, true, true, true, true, true, true, true, false, false, false, false, false, false, false, false, false, false, false, false, false] { tmps := #[_, _, _, _, _, _, _, _, _, _, _, _, _, _, _, _, (.agg #[.slice p G.length c, .slice pr rs.length cr]), (.bool RP), (.agg #[.slice p G.length c, .slice pr rs.length cr]), (.bool RP), (.bool true), (.bool true), (.agg #[.slice p G.length c, .slice pr rs.length cr]), (.int .i64 r), (.slice a5 RC.length c5), (.agg #[.slice p G.length c, .slice pr rs.length cr]), (.int .i64 r), (.slice a6 RC.length c6), (.bool true), (.bool true), (.bool true), (.agg #[.slice p G.length c, .slice pr rs.length cr]), (.int .i64 r), (.bool CC), (.agg #[.slice p G.length c, .slice pr rs.length cr]), (.int .i64 r), _, _, _, _, _, _, _, _, _, _, _, _], defers := [] } W8
    refine Any.one (i := 20) (by kernel_rfl) rfl rfl (fun K hK => ?_)
    go_simp
    try (first | refine ⟨trivial, (fun h => by cases h), ?_⟩ | refine ⟨trivial, ?_⟩)
    refine (HC2.out _ W8 hB8).mono ?_
    rintro en W9 ⟨rfl, hb9⟩
    have hB9 : Below w.heap.size w W9 := hB8.trans (hb9.mono hB8.size)
    have T9 : Sg w.heap.size (.slice p G.length c) (.slice pr rs.length cr) W9 := ⟨(hb9.cell (p := ⟨w.heap.size, 0, none⟩) (World.block_lt_of_cell? _ _ T8.1)).trans T8.1, (hb9.cell (p := ⟨w.heap.size, 1, none⟩) (World.block_lt_of_cell? _ _ T8.2)).trans T8.2⟩
    refine hK _ _ T9 ?_
    clear hK K
    show Any _ _ _ _ _ _ 12 #[true, true, true, true, true, true, true, true, true, true, true, true, true, true, true, true, true, true, true, true, true, false, false, false, false, false, false, false, false, false, false, false, false] { tmps := #[_, _, _, _, _, _, _, _, _, _, _, _, _, _, _, _, (.agg #[.slice p G.length c, .slice pr rs.length cr]), (.bool RP), (.agg #[.slice p G.length c, .slice pr rs.length cr]), (.bool RP), (.bool true), (.bool true), (.agg #[.slice p G.length c, .slice pr rs.length cr]), (.int .i64 r), (.slice a5 RC.length c5), (.agg #[.slice p G.length c, .slice pr rs.length cr]), (.int .i64 r), (.slice a6 RC.length c6), (.bool true), (.bool true), (.bool true), (.agg #[.slice p G.length c, .slice pr rs.length cr]), (.int .i64 r), (.bool CC), (.agg #[.slice p G.length c, .slice pr rs.length cr]), (.int .i64 r), (.bool CC), _, _, _, _, _, _, _, _, _, _, _], defers := [] } W9
    refine Any.take (i := 21) (v := (.bool true)) (wideF) rfl (by kernel_rfl) (by kernel_rfl) (by kernel_rfl) (fun _ _ _ h => h) (.inl ⟨rfl, fun w _ => by go_simp⟩) T9 ?_
    show Any _ _ _ _ _ _ 11 #[true, true, true, true, true, true, true, true, true, true, true, true, true, true, true, true, true, true, true, true, true, true, false, false, false, false, false, false, false, false, false, false, false] { tmps := #[_, _, _, _, _, _, _, _, _, _, _, _, _, _, _, _, (.agg #[.slice p G.length c, .slice pr rs.length cr]), (.bool RP), (.agg #[.slice p G.length c, .slice pr rs.length cr]), (.bool RP), (.bool true), (.bool true), (.agg #[.slice p G.length c, .slice pr rs.length cr]), (.int .i64 r), (.slice a5 RC.length c5), (.agg #[.slice p G.length c, .slice pr rs.length cr]), (.int .i64 r), (.slice a6 RC.length c6), (.bool true), (.bool true), (.bool true), (.agg #[.slice p G.length c, .slice pr rs.length cr]), (.int .i64 r), (.bool CC), (.agg #[.slice p G.length c, .slice pr rs.length cr]), (.int .i64 r), (.bool CC), (.bool true), _, _, _, _, _, _, _, _, _, _], defers := [] } W9
    refine Any.take (i := 22) (v := (.bool true)) (wideF) rfl (by kernel_rfl) (by kernel_rfl) (by kernel_rfl) (fun _ _ _ h => h) (.inl ⟨rfl, fun w _ => by go_simp⟩) T9 ?_
    show Any _ _ _ _ _ _ 10 #[true, true, true, true, true, true, true, true, true, true, true, true, true, true, true, true, true, true, true, true, true, true, true, false, false, false, false, false, false, false, false, false, false] { tmps := #[_, _, _, _, _, _, _, _, _, _, _, _, _, _, _, _, (.agg #[.slice p G.length c, .slice pr rs.length cr]), (.bool RP), (.agg #[.slice p G.length c, .slice pr rs.length cr]), (.bool RP), (.bool true), (.bool true), (.agg #[.slice p G.length c, .slice pr rs.length cr]), (.int .i64 r), (.slice a5 RC.length c5), (.agg #[.slice p G.length c, .slice pr rs.length cr]), (.int .i64 r), (.slice a6 RC.length c6), (.bool true), (.bool true), (.bool true), (.agg #[.slice p G.length c, .slice pr rs.length cr]), (.int .i64 r), (.bool CC), (.agg #[.slice p G.length c, .slice pr rs.length cr]), (.int .i64 r), (.bool CC), (.bool true), (.bool true), _, _, _, _, _, _, _, _, _], defers := [] } W9
    refine Any.take (i := 23) (v := (.bool true)) (wideF) rfl (by kernel_rfl) (by kernel_rfl) (by kernel_rfl) (fun _ _ _ h => h) (.inl ⟨rfl, fun w _ => by go_simp⟩) T9 ?_
    show Any _ _ _ _ _ _ 9 #[true, true, true, true, true, true, true, true, true, true, true, true, true, true, true, true, true, true, true, true, true, true, true, true, false, false, false, false, false, false, false, false, false] { tmps := #[_, _, _, _, _, _, _, _, _, _, _, _, _, _, _, _, (.agg #[.slice p G.length c, .slice pr rs.length cr]), (.bool RP), (.agg #[.slice p G.length c, .slice pr rs.length cr]), (.bool RP), (.bool true), (.bool true), (.agg #[.slice p G.length c, .slice pr rs.length cr]), (.int .i64 r), (.slice a5 RC.length c5), (.agg #[.slice p G.length c, .slice pr rs.length cr]), (.int .i64 r), (.slice a6 RC.length c6), (.bool true), (.bool true), (.bool true), (.agg #[.slice p G.length c, .slice pr rs.length cr]), (.int .i64 r), (.bool CC), (.agg #[.slice p G.length c, .slice pr rs.length cr]), (.int .i64 r), (.bool CC), (.bool true), (.bool true), (.bool true), _, _, _, _, _, _, _, _], defers := [] } W9
    refine Any.take (i := 24) (v := (.agg #[.slice p G.length c, .slice pr rs.length cr])) (wideF) rfl (by kernel_rfl) (by kernel_rfl) (by kernel_rfl) (fun _ _ _ h => h) (.inl ⟨rfl, fun w hw => by have r1 := hw.1; have r2 := hw.2; go_simp⟩) T9 ?_
    show Any _ _ _ _ _ _ 8 #[true, true, true, true, true, true, true, true, true, true, true, true, true, true, true, true, true, true, true, true, true, true, true, true, true, false, false, false, false, false, false, false, false] { tmps := #[_, _, _, _, _, _, _, _, _, _, _, _, _, _, _, _, (.agg #[.slice p G.length c, .slice pr rs.length cr]), (.bool RP), (.agg #[.slice p G.length c, .slice pr rs.length cr]), (.bool RP), (.bool true), (.bool true), (.agg #[.slice p G.length c, .slice pr rs.length cr]), (.int .i64 r), (.slice a5 RC.length c5), (.agg #[.slice p G.length c, .slice pr rs.length cr]), (.int .i64 r), (.slice a6 RC.length c6), (.bool true), (.bool true), (.bool true), (.agg #[.slice p G.length c, .slice pr rs.length cr]), (.int .i64 r), (.bool CC), (.agg #[.slice p G.length c, .slice pr rs.length cr]), (.int .i64 r), (.bool CC), (.bool true), (.bool true), (.bool true), (.agg #[.slice p G.length c, .slice pr rs.length cr]), _, _, _, _, _, _, _], defers := [] } W9
    refine Any.take (i := 25) (v := (.int .i64 r)) (wideF) rfl (by kernel_rfl) (by kernel_rfl) (by kernel_rfl) (fun _ _ _ h => h) (.inl ⟨rfl, fun w _ => by go_simp⟩) T9 ?_
    show Any _ _ _ _ _ _ 7 #[true, true, true, true, true, true, true, true, true, true, true, true, true, true, true, true, true, true, true, true, true, true, true, true, true, true, false, false, false, false, false, false, false] { tmps := #[_, _, _, _, _, _, _, _, _, _, _, _, _, _, _, _, (.agg #[.slice p G.length c, .slice pr rs.length cr]), (.bool RP), (.agg #[.slice p G.length c, .slice pr rs.length cr]), (.bool RP), (.bool true), (.bool true), (.agg #[.slice p G.length c, .slice pr rs.length cr]), (.int .i64 r), (.slice a5 RC.length c5), (.agg #[.slice p G.length c, .slice pr rs.length cr]), (.int .i64 r), (.slice a6 RC.length c6), (.bool true), (.bool true), (.bool true), (.agg #[.slice p G.length c, .slice pr rs.length cr]), (.int .i64 r), (.bool CC), (.agg #[.slice p G.length c, .slice pr rs.length cr]), (.int .i64 r), (.bool CC), (.bool true), (.bool true), (.bool true), (.agg #[.slice p G.length c, .slice pr rs.length cr]), (.int .i64 r), _, _, _, _, _, _], defers := [] } W9
    refine Any.take (i := 27) (v := (.agg #[.slice p G.length c, .slice pr rs.length cr])) (wideF) rfl (by kernel_rfl) (by kernel_rfl) (by kernel_rfl) (fun _ _ _ h => h) (.inl ⟨rfl, fun w hw => by have r1 := hw.1; have r2 := hw.2; go_simp⟩) T9 ?_
    show Any _ _ _ _ _ _ 6 #[true, true, true, true, true, true, true, true, true, true, true, true, true, true, true, true, true, true, true, true, true, true, true, true, true, true, false, true, false, false, false, false, false] { tmps := #[_, _, _, _, _, _, _, _, _, _, _, _, _, _, _, _, (.agg #[.slice p G.length c, .slice pr rs.length cr]), (.bool RP), (.agg #[.slice p G.length c, .slice pr rs.length cr]), (.bool RP), (.bool true), (.bool true), (.agg #[.slice p G.length c, .slice pr rs.length cr]), (.int .i64 r), (.slice a5 RC.length c5), (.agg #[.slice p G.length c, .slice pr rs.length cr]), (.int .i64 r), (.slice a6 RC.length c6), (.bool true), (.bool true), (.bool true), (.agg #[.slice p G.length c, .slice pr rs.length cr]), (.int .i64 r), (.bool CC), (.agg #[.slice p G.length c, .slice pr rs.length cr]), (.int .i64 r), (.bool CC), (.bool true), (.bool true), (.bool true), (.agg #[.slice p G.length c, .slice pr rs.length cr]), (.int .i64 r), _, (.agg #[.slice p G.length c, .slice pr rs.length cr]), _, _, _, _], defers := [] } W9
    refine Any.take (i := 28) (v := (.int .i64 r)) (wideF) rfl (by kernel_rfl) (by kernel_rfl) (by kernel_rfl) (fun _ _ _ h => h) (.inl ⟨rfl, fun w _ => by go_simp⟩) T9 ?_
    show Any _ _ _ _ _ _ 5 #[true, true, true, true, true, true, true, true, true, true, true, true, true, true, true, true, true, true, true, true, true, true, true, true, true, true, false, true, true, false, false, false, false] { tmps := #[_, _, _, _, _, _, _, _, _, _, _, _, _, _, _, _, (.agg #[.slice p G.length c, .slice pr rs.length cr]), (.bool RP), (.agg #[.slice p G.length c, .slice pr rs.length cr]), (.bool RP), (.bool true), (.bool true), (.agg #[.slice p G.length c, .slice pr rs.length cr]), (.int .i64 r), (.slice a5 RC.length c5), (.agg #[.slice p G.length c, .slice pr rs.length cr]), (.int .i64 r), (.slice a6 RC.length c6), (.bool true), (.bool true), (.bool true), (.agg #[.slice p G.length c, .slice pr rs.length cr]), (.int .i64 r), (.bool CC), (.agg #[.slice p G.length c, .slice pr rs.length cr]), (.int .i64 r), (.bool CC), (.bool true), (.bool true), (.bool true), (.agg #[.slice p G.length c, .slice pr rs.length cr]), (.int .i64 r), _, (.agg #[.slice p G.length c, .slice pr rs.length cr]), (.int .i64 r), _, _, _], defers := [] } W9
    refine Any.one (i := 26) (by kernel_rfl) rfl rfl (fun K hK => ?_)
    go_simp
    try (first | refine ⟨trivial, (fun h => by cases h), ?_⟩ | refine ⟨trivial, ?_⟩)
    refine (HU1.out _ W9 hB9).mono ?_
    rintro en W10 ⟨v10, rfl, ho10, hb10⟩
    obtain ⟨a10, k10, c10, rfl⟩ := ownsRow_form ho10
    obtain ⟨hI10, rfl, -, -⟩ := is_of_row ho10
    have hB10 : Below w.heap.size w W10 := hB9.trans (hb10.mono hB9.size)
    have T10 : Sg w.heap.size (.slice p G.length c) (.slice pr rs.length cr) W10 := ⟨(hb10.cell (p := ⟨w.heap.size, 0, none⟩) (World.block_lt_of_cell? _ _ T9.1)).trans T9.1, (hb10.cell (p := ⟨w.heap.size, 1, none⟩) (World.block_lt_of_cell? _ _ T9.2)).trans T9.2⟩
    refine hK _ _ T10 ?_
    clear hK K
    show Any _ _ _ _ _ _ 4 #[true, true, true, true, true, true, true, true, true, true, true, true, true, true, true, true, true, true, true, true, true, true, true, true, true, true, true, true, true, false, false, false, false] { tmps := #[_, _, _, _, _, _, _, _, _, _, _, _, _, _, _, _, (.agg #[.slice p G.length c, .slice pr rs.length cr]), (.bool RP), (.agg #[.slice p G.length c, .slice pr rs.length cr]), (.bool RP), (.bool true), (.bool true), (.agg #[.slice p G.length c, .slice pr rs.length cr]), (.int .i64 r), (.slice a5 RC.length c5), (.agg #[.slice p G.length c, .slice pr rs.length cr]), (.int .i64 r), (.slice a6 RC.length c6), (.bool true), (.bool true), (.bool true), (.agg #[.slice p G.length c, .slice pr rs.length cr]), (.int .i64 r), (.bool CC), (.agg #[.slice p G.length c, .slice pr rs.length cr]), (.int .i64 r), (.bool CC), (.bool true), (.bool true), (.bool true), (.agg #[.slice p G.length c, .slice pr rs.length cr]), (.int .i64 r), (.slice a10 UC.length c10), (.agg #[.slice p G.length c, .slice pr rs.length cr]), (.int .i64 r), _, _, _], defers := [] } W10
    refine Any.one (i := 29) (by kernel_rfl) rfl rfl (fun K hK => ?_)
    go_simp
    try (first | refine ⟨trivial, (fun h => by cases h), ?_⟩ | refine ⟨trivial, ?_⟩)
    refine (HU2.out _ W10 hB10).mono ?_
    rintro en W11 ⟨v11, rfl, ho11, hb11⟩
    obtain ⟨a11, k11, c11, rfl⟩ := ownsRow_form ho11
    obtain ⟨hI11, rfl, -, -⟩ := is_of_row ho11
    have hJ11 := hI10.on hb11
    have hB11 : Below w.heap.size w W11 := hB10.trans (hb11.mono hB10.size)
    have T11 : Sg w.heap.size (.slice p G.length c) (.slice pr rs.length cr) W11 := ⟨(hb11.cell (p := ⟨w.heap.size, 0, none⟩) (World.block_lt_of_cell? _ _ T10.1)).trans T10.1, (hb11.cell (p := ⟨w.heap.size, 1, none⟩) (World.block_lt_of_cell? _ _ T10.2)).trans T10.2⟩
    refine hK _ _ T11 ?_
    clear hK K
    show Any _ _ _ _ _ _ 3 #[true, true, true, true, true, true, true, true, true, true, true, true, true, true, true, true, true, true, true, true, true, true, true, true, true, true, true, true, true, true, false, false, false] { tmps := #[_, _, _, _, _, _, _, _, _, _, _, _, _, _, _, _, (.agg #[.slice p G.length c, .slice pr rs.length cr]), (.bool RP), (.agg #[.slice p G.length c, .slice pr rs.length cr]), (.bool RP), (.bool true), (.bool true), (.agg #[.slice p G.length c, .slice pr rs.length cr]), (.int .i64 r), (.slice a5 RC.length c5), (.agg #[.slice p G.length c, .slice pr rs.length cr]), (.int .i64 r), (.slice a6 RC.length c6), (.bool true), (.bool true), (.bool true), (.agg #[.slice p G.length c, .slice pr rs.length cr]), (.int .i64 r), (.bool CC), (.agg #[.slice p G.length c, .slice pr rs.length cr]), (.int .i64 r), (.bool CC), (.bool true), (.bool true), (.bool true), (.agg #[.slice p G.length c, .slice pr rs.length cr]), (.int .i64 r), (.slice a10 UC.length c10), (.agg #[.slice p G.length c, .slice pr rs.length cr]), (.int .i64 r), (.slice a11 UC.length c11), _, _], defers := [] } W11
    refine Any.one (i := 30) (by kernel_rfl) rfl rfl (fun K hK => ?_)
    go_simp
    try (first | refine ⟨trivial, (fun h => by cases h), ?_⟩ | refine ⟨trivial, ?_⟩)
    refine ((callsIn_wide (n := _)).2 (same_ints _ _ UC _ _ W11 (by omega) hJ11 hI11)).mono ?_
    rintro en W12 ⟨rfl, m12, hm12⟩
    have hb12 : Below W11.heap.size W11 W12 := hm12 ▸ below_drewN (Below.refl _ _) m12
    clear hm12
    have hB12 : Below w.heap.size w W12 := hB11.trans (hb12.mono hB11.size)
    have T12 : Sg w.heap.size (.slice p G.length c) (.slice pr rs.length cr) W12 := ⟨(hb12.cell (p := ⟨w.heap.size, 0, none⟩) (World.block_lt_of_cell? _ _ T11.1)).trans T11.1, (hb12.cell (p := ⟨w.heap.size, 1, none⟩) (World.block_lt_of_cell? _ _ T11.2)).trans T11.2⟩
    refine hK _ _ T12 ?_
    clear hK K
    show Any _ _ _ _ _ _ 2 #[true, true, true, true, true, true, true, true, true, true, true, true, true, true, true, true, true, true, true, true, true, true, true, true, true, true, true, true, true, true, true, false, false] { tmps := #[_, _, _, _, _, _, _, _, _, _, _, _, _, _, _, _, (.agg #[.slice p G.length c, .slice pr rs.length cr]), (.bool RP), (.agg #[.slice p G.length c, .slice pr rs.length cr]), (.bool RP), (.bool true), (.bool true), (.agg #[.slice p G.length c, .slice pr rs.length cr]), (.int .i64 r), (.slice a5 RC.length c5), (.agg #[.slice p G.length c, .slice pr rs.length cr]), (.int .i64 r), (.slice a6 RC.length c6), (.bool true), (.bool true), (.bool true), (.agg #[.slice p G.length c, .slice pr rs.length cr]), (.int .i64 r), (.bool CC), (.agg #[.slice p G.length c, .slice pr rs.length cr]), (.int .i64 r), (.bool CC), (.bool true), (.bool true), (.bool true), (.agg #[.slice p G.length c, .slice pr rs.length cr]), (.int .i64 r), (.slice a10 UC.length c10), (.agg #[.slice p G.length c, .slice pr rs.length cr]), (.int .i64 r), (.slice a11 UC.length c11), (.bool true), _], defers := [] } W12
    refine Any.take (i := 31) (v := (.bool true)) (wideF) rfl (by kernel_rfl) (by kernel_rfl) (by kernel_rfl) (fun _ _ _ h => h) (.inl ⟨rfl, fun w _ => by go_simp⟩) T12 ?_
    show Any _ _ _ _ _ _ 1 #[true, true, true, true, true, true, true, true, true, true, true, true, true, true, true, true, true, true, true, true, true, true, true, true, true, true, true, true, true, true, true, true, false] { tmps := #[_, _, _, _, _, _, _, _, _, _, _, _, _, _, _, _, (.agg #[.slice p G.length c, .slice pr rs.length cr]), (.bool RP), (.agg #[.slice p G.length c, .slice pr rs.length cr]), (.bool RP), (.bool true), (.bool true), (.agg #[.slice p G.length c, .slice pr rs.length cr]), (.int .i64 r), (.slice a5 RC.length c5), (.agg #[.slice p G.length c, .slice pr rs.length cr]), (.int .i64 r), (.slice a6 RC.length c6), (.bool true), (.bool true), (.bool true), (.agg #[.slice p G.length c, .slice pr rs.length cr]), (.int .i64 r), (.bool CC), (.agg #[.slice p G.length c, .slice pr rs.length cr]), (.int .i64 r), (.bool CC), (.bool true), (.bool true), (.bool true), (.agg #[.slice p G.length c, .slice pr rs.length cr]), (.int .i64 r), (.slice a10 UC.length c10), (.agg #[.slice p G.length c, .slice pr rs.length cr]), (.int .i64 r), (.slice a11 UC.length c11), (.bool true), (.bool true)], defers := [] } W12
    refine Any.take (i := 32) (v := (.bool true)) (wideF) rfl (by kernel_rfl) (by kernel_rfl) (by kernel_rfl) (fun _ _ _ h => h) (.inl ⟨rfl, fun w _ => by go_simp⟩) T12 ?_
    show Any _ _ _ _ _ _ 0 #[true, true, true, true, true, true, true, true, true, true, true, true, true, true, true, true, true, true, true, true, true, true, true, true, true, true, true, true, true, true, true, true, true] { tmps := #[_, _, _, _, (.bool true), _, _, _, _, _, _, _, _, _, _, _, (.agg #[.slice p G.length c, .slice pr rs.length cr]), (.bool RP), (.agg #[.slice p G.length c, .slice pr rs.length cr]), (.bool RP), (.bool true), (.bool true), (.agg #[.slice p G.length c, .slice pr rs.length cr]), (.int .i64 r), (.slice a5 RC.length c5), (.agg #[.slice p G.length c, .slice pr rs.length cr]), (.int .i64 r), (.slice a6 RC.length c6), (.bool true), (.bool true), (.bool true), (.agg #[.slice p G.length c, .slice pr rs.length cr]), (.int .i64 r), (.bool CC), (.agg #[.slice p G.length c, .slice pr rs.length cr]), (.int .i64 r), (.bool CC), (.bool true), (.bool true), (.bool true), (.agg #[.slice p G.length c, .slice pr rs.length cr]), (.int .i64 r), (.slice a10 UC.length c10), (.agg #[.slice p G.length c, .slice pr rs.length cr]), (.int .i64 r), (.slice a11 UC.length c11), (.bool true), (.bool true)], defers := [] } W12
    refine Any.done (by kernel_rfl) ?_
    rename_i Kb hKb
    refine hKb _ _ ?_
    clear hKb
    gi_wp2
    go_ret
    exact ⟨rfl, hB12⟩
end Go.Proofs.YtjfeamfchgcblaaDoor
