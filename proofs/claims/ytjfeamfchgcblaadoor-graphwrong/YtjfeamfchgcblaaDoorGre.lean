/- The document's Reach. -/
import Derived.Test.YtjfeamfchgcblaaDoorGrw
import Derived.Test.YtjfeamfchgcblaaDoorPick
set_option linter.all false
set_option maxRecDepth 100000
namespace Go.Proofs.YtjfeamfchgcblaaDoor
open Go.RowKit
attribute [local go_sem] Oper.semAt_some

theorem right_kids {rit rv : ByteArray → Bool} {G : List Gn} {rs : List Int} (h : rightP rit rv G rs = true) : (∀ x ∈ G, ∀ k ∈ x.kids, 0 ≤ k ∧ k.toNat < G.length) ∧ sumK G ≤ 20000 := by
  unfold rightP at h
  simp only [Bool.and_eq_true, decide_eq_true_eq, List.all_eq_true] at h
  refine ⟨fun x hx k hk => ?_, h.1.2.1⟩
  have h1 := h.1.2.2 x hx
  unfold nodeP kidsOk at h1
  simp only [Bool.and_eq_true, List.all_eq_true, decide_eq_true_eq] at h1
  have := h1.2.1 k hk
  omega
theorem sum_all : ∀ G : List Gn, ((List.range G.length).map fun k => 1 + (gAt G k).kids.length).sum = G.length + sumK G
  | [] => rfl
  | x :: G => by
    have ih := sum_all G
    rw [List.length_cons, List.range_succ_eq_map, List.map_cons, List.sum_cons, List.map_map]
    have e : ((fun k => 1 + (gAt (x :: G) k).kids.length) ∘ Nat.succ) = fun k => 1 + (gAt G k).kids.length := by
      funext k
      simp [gAt]
    rw [e, ih]
    have e2 : gAt (x :: G) 0 = x := rfl
    rw [e2, show sumK (x :: G) = x.kids.length + sumK G from rfl]
    omega
theorem sum_le : ∀ (l : List Nat) (f g : Nat → Nat), (∀ k ∈ l, f k ≤ g k) → (l.map f).sum ≤ (l.map g).sum
  | [], _, _, _ => Nat.le_refl _
  | a :: l, f, g, h => by
    have h1 := h a (List.mem_cons_self ..)
    have h2 := sum_le l f g (fun k hk => h k (List.mem_cons_of_mem _ hk))
    simp
    omega
theorem left_le (G : List Gn) (S : List Bool) (h : S.length = G.length) : left G S ≤ G.length + sumK G := by
  rw [← sum_all]
  unfold left
  rw [h]
  refine sum_le _ _ _ fun k _ => ?_
  split
  · omega
  · exact Nat.le_refl _
theorem Tryd.info4 : (Tryd.prog.info? 4).map (fun i => (i.zero, i.size, i.bytes)) = some (some (.bool false), 1, 1) := by kernel_rfl
/-- So many flags, none of them set. -/
theorem make_flags (n : Nat) (hn : n ≤ 1000000) (w : World) : ∃ w', (Instr.makeSlice 47 (.int .i64 (n : Int)) (.int .i64 (n : Int))).run Tryd.prog w = .ok (.slice (some ⟨w.heap.size, 0, none⟩) n n) w' ∧ w'.heap[w.heap.size]? = some (.cells ((List.replicate n false).map Value.bool).toArray 4) ∧ Below w.heap.size w w' ∧ w.heap.size < w'.heap.size := by
  obtain ⟨i0, hi, hz0, hz1, hz2⟩ := info_parts Tryd.info4
  obtain ⟨w', h1, h2, h3⟩ := run_make_full (P := Tryd.prog) w w.heap.size 47 4 i0 (.bool false) 1 Tryd.underlying47 hi hz0 hz1 .i64 .i64 n (by rw [hz2]; omega) (by unfold maxLen; omega) (Nat.le_refl _)
  refine ⟨w', h1, ?_, ⟨h3.os, h3.tape, h3.output, h3.size, fun k hk => h3.block k hk (by simp)⟩, ?_⟩
  · obtain ⟨a1, ⟨e, -⟩ | ⟨g, cap, cur, e, b1, b2, b3, b4, b5, b6⟩⟩ := h2
    · cases e
    · simp only [Value.slice.injEq, Option.some.injEq, Addr.mk.injEq] at e
      obtain ⟨⟨rfl, -, -⟩, -, rfl⟩ := e
      rw [b2]
      have hcur : cur = ((List.replicate n false).map Value.bool).toArray := by
        apply Array.ext'
        rw [List.take_of_length_le (by simp; omega)] at b6
        rw [b6]
        unfold madeCells
        apply List.ext_getElem
        · simp
        · intro i h1 h2
          simp [Value.cells]
          rw [Nat.mod_one]
          rfl
      rw [hcur]
  · obtain ⟨a1, ⟨e, -⟩ | ⟨g, cap, cur, e, b1, b2, b3, b4, b5, b6⟩⟩ := h2
    · cases e
    · simp only [Value.slice.injEq, Option.some.injEq, Addr.mk.injEq] at e
      obtain ⟨⟨rfl, -, -⟩, -, rfl⟩ := e
      exact (Array.getElem?_eq_some_iff.1 b2).1
def reachP (rit rv : ByteArray → Bool) (G : List Gn) (rs : List Int) (r : Int) : List Int := if mayP rit rv G rs r = true then rcE G (List.replicate G.length false) [r] else []
/-- The box of a graph. -/
def Sg (bx : Nat) (x y : Value) (w : World) : Prop := w.cell? ⟨bx, 0, none⟩ = some x ∧ w.cell? ⟨bx, 1, none⟩ = some y
set_option maxHeartbeats 1600000 in
theorem rReach_in {rit rv : ByteArray → Bool} (Lo : LowG rit rv) (p pr : Option Addr) (c cr : Nat) (G : List Gn) (rs : List Int) (r : Int) (w : World) (hG : Gs w p G) (hz : Gz G) (hI : Is w pr rs) (hr : rs.length ≤ 1000000) :
    CallsIn Fence.wide 9 Tryd.prog 13 #[grV p G.length c pr rs.length cr, .int .i64 r] w fun e w' => ∃ v, e = .returned v ∧ OwnsI w' w.heap.size v (reachP rit rv G rs r) ∧ Below w.heap.size w w' := by
  have hB := (Below.refl w.heap.size w).alloc (Nat.le_refl _) (.cells #[.slice p G.length c, .slice pr rs.length cr] 25)
  have b0 : (w.alloc (.cells #[.slice p G.length c, .slice pr rs.length cr] 25)).heap[w.heap.size]? = some (.cells #[.slice p G.length c, .slice pr rs.length cr] 25) := World.alloc_heap_new w _
  have hlt : w.heap.size < (w.alloc (.cells #[.slice p G.length c, .slice pr rs.length cr] 25)).heap.size := by simp
  obtain ⟨w1, hw1⟩ : ∃ w1, w.alloc (.cells #[.slice p G.length c, .slice pr rs.length cr] 25) = w1 := ⟨_, rfl⟩
  rw [hw1] at hB b0 hlt
  have MY := fun m => (callsIn_wide (n := m)).2 (rMay_any Lo p pr c cr G rs r w1 (hG.on hB) hz (hI.on hB) hr)
  unfold grV at MY ⊢
  have cells : ∀ W : World, W.heap[w.heap.size]? = w1.heap[w.heap.size]? → Sg w.heap.size (.slice p G.length c) (.slice pr rs.length cr) W := by
    intro W h
    rw [b0] at h
    unfold Sg World.cell?
    rw [h]
    exact ⟨rfl, rfl⟩
  obtain ⟨f0, f1⟩ := cells w1 rfl
  have hn := hz.n
  cases hm : mayP rit rv G rs r with
  | false =>
    rw [hm] at MY
    have HR : Hid (reachP rit rv G rs r = []) := by show _ = _; unfold reachP; rw [hm]; rfl
    generalize reachP rit rv G rs r = F at HR ⊢
    refine callsIn_of_wp Tryd.func13 rfl trivial ?_ rfl
    simp only [Tryd.ntmps13, List.size_toArray, List.length_cons, List.length_nil, Nat.reduceAdd, Nat.reduceSub, Array.replicate_succ, Array.replicate_zero, List.push_toArray, List.append_toArray, List.nil_append, List.cons_append]
    gi_wp2_with (first | ((first | refine ⟨trivial, (fun h => by cases h), ?_⟩ | refine ⟨trivial, ?_⟩); gi_at_call 18; (try rw [hw1]); refine (MY _).mono ?_; rintro e w2 ⟨rfl, hb2⟩))
    go_ret
    exact ⟨_, rfl, by rw [HR.out]; exact ⟨rfl, .inl ⟨rfl, rfl⟩⟩, hB.trans (hb2.mono hB.size)⟩
  | true =>
    rw [hm] at MY
    have hmm := hm
    unfold mayP at hmm
    rw [Bool.and_eq_true, decide_eq_true_iff] at hmm
    obtain ⟨hK, hsk⟩ := right_kids hmm.1
    have HR : Hid (reachP rit rv G rs r = rcE G (List.replicate G.length false) [r]) := by show _ = _; unfold reachP; rw [hm]; rfl
    generalize reachP rit rv G rs r = F at HR ⊢
    have hMb : rcM G (List.replicate G.length false) [r] ≤ 100000000 := by
      have := left_le G (List.replicate G.length false) (by simp)
      unfold rcM
      simp
      omega
    refine callsIn_of_wp Tryd.func13 rfl trivial ?_ rfl
    simp only [Tryd.ntmps13, List.size_toArray, List.length_cons, List.length_nil, Nat.reduceAdd, Nat.reduceSub, Array.replicate_succ, Array.replicate_zero, List.push_toArray, List.append_toArray, List.nil_append, List.cons_append]
    gi_wp2_with (first | ((first | refine ⟨trivial, (fun h => by cases h), ?_⟩ | refine ⟨trivial, ?_⟩); gi_at_call 18; (try rw [hw1]); refine (MY _).mono ?_; rintro e w2 ⟨rfl, hb2⟩))
    have hlt2 : w.heap.size < w2.drew.heap.size := by show w.heap.size < w2.heap.size; have := hb2.size; omega
    have hB2 : Below w.heap.size w w2.drew := (hB.trans (hb2.mono hB.size)).drew
    have T2 : Sg w.heap.size (.slice p G.length c) (.slice pr rs.length cr) w2.drew := cells w2.drew (hb2.block _ hlt)
    obtain ⟨w3, mk1, mk2, mk3, mk4⟩ := make_flags G.length (by omega) w2.drew
    have T3 : Sg w.heap.size (.slice p G.length c) (.slice pr rs.length cr) w3 := cells w3 ((mk3.block _ hlt2).trans (hb2.block _ hlt))
    have RC := fun m => (callsIn_wide (n := m)).2 (rreach_any w2.drew w3 p pr c rs.length cr G.length w2.heap.size G (List.replicate G.length false) r (hG.on hB2) mk3 (Nat.le_refl _) mk4 mk2 (by simp) (by omega) (by omega) (by simpa using hK) hMb)
    unfold grV at RC
    clear MY hm hmm
    refine region_pick (Sg w.heap.size (.slice p G.length c) (.slice pr rs.length cr)) (by kernel_rfl) ?_
    show Any _ _ _ _ _ _ 8 #[false, false, false, false, false, false, false, false] { tmps := #[_, _, _, _, _, _, _, _, _, _, _, _, _, _, _, _], defers := [] } w2.drew
    refine Any.take (i := 0) (v := (.agg #[.slice p G.length c, .slice pr rs.length cr])) (wideF) rfl (by kernel_rfl) (by kernel_rfl) (by kernel_rfl) (fun _ _ _ h => h) (.inl ⟨rfl, fun w hw => by have r1 := hw.1; have r2 := hw.2; go_simp⟩) T2 ?_
    show Any _ _ _ _ _ _ 7 #[true, false, false, false, false, false, false, false] { tmps := #[_, _, _, _, _, _, _, _, _, (.agg #[.slice p G.length c, .slice pr rs.length cr]), _, _, _, _, _, _], defers := [] } w2.drew
    refine Any.take (i := 1) (v := (.pointer (some ⟨w.heap.size, 0, none⟩))) (wideF) rfl (by kernel_rfl) (by kernel_rfl) (by kernel_rfl) (fun _ _ _ h => h) (.inl ⟨rfl, fun w _ => by go_simp⟩) T2 ?_
    show Any _ _ _ _ _ _ 6 #[true, true, false, false, false, false, false, false] { tmps := #[_, _, _, _, _, _, _, _, _, (.agg #[.slice p G.length c, .slice pr rs.length cr]), (.pointer (some ⟨w.heap.size, 0, none⟩)), _, _, _, _, _], defers := [] } w2.drew
    refine Any.take (i := 2) (v := (.slice p G.length c)) (wideF) rfl (by kernel_rfl) (by kernel_rfl) (by kernel_rfl) (fun _ _ _ h => h) (.inl ⟨rfl, fun w hw => by have r1 := hw.1; have r2 := hw.2; go_simp⟩) T2 ?_
    show Any _ _ _ _ _ _ 5 #[true, true, true, false, false, false, false, false] { tmps := #[_, _, _, _, _, _, _, _, _, (.agg #[.slice p G.length c, .slice pr rs.length cr]), (.pointer (some ⟨w.heap.size, 0, none⟩)), (.slice p G.length c), _, _, _, _], defers := [] } w2.drew
    refine Any.take (i := 3) (v := (.int .i64 (G.length : Nat))) (wideF) rfl (by kernel_rfl) (by kernel_rfl) (by kernel_rfl) (fun _ _ _ h => h) (.inl ⟨rfl, fun w _ => by go_simp⟩) T2 ?_
    show Any _ _ _ _ _ _ 4 #[true, true, true, true, false, false, false, false] { tmps := #[_, _, _, _, _, _, _, _, _, (.agg #[.slice p G.length c, .slice pr rs.length cr]), (.pointer (some ⟨w.heap.size, 0, none⟩)), (.slice p G.length c), (.int .i64 (G.length : Nat)), _, _, _], defers := [] } w2.drew
    refine Any.take (i := 5) (v := (.int .i64 r)) (wideF) rfl (by kernel_rfl) (by kernel_rfl) (by kernel_rfl) (fun _ _ _ h => h) (.inl ⟨rfl, fun w _ => by go_simp⟩) T2 ?_
    show Any _ _ _ _ _ _ 3 #[true, true, true, true, false, true, false, false] { tmps := #[_, _, _, _, _, _, _, _, _, (.agg #[.slice p G.length c, .slice pr rs.length cr]), (.pointer (some ⟨w.heap.size, 0, none⟩)), (.slice p G.length c), (.int .i64 (G.length : Nat)), _, (.int .i64 r), _], defers := [] } w2.drew
    refine Any.one (i := 4) (by kernel_rfl) rfl rfl (fun K hK => ?_)
    go_simp
    try (first | refine ⟨trivial, (fun h => by cases h), ?_⟩ | refine ⟨trivial, ?_⟩)
    skip
    refine hK _ _ T3 ?_
    clear hK K
    show Any _ _ _ _ _ _ 2 #[true, true, true, true, true, true, false, false] { tmps := #[_, _, _, _, _, _, _, _, _, (.agg #[.slice p G.length c, .slice pr rs.length cr]), (.pointer (some ⟨w.heap.size, 0, none⟩)), (.slice p G.length c), (.int .i64 (G.length : Nat)), (.slice (some ⟨w2.heap.size, 0, none⟩) G.length G.length), (.int .i64 r), _], defers := [] } w3
    refine Any.one (i := 6) (by kernel_rfl) rfl rfl (fun K hK => ?_)
    go_simp
    (first | refine ⟨trivial, (fun h => by cases h), ?_⟩ | refine ⟨trivial, ?_⟩)
    refine (RC _).mono ?_
    clear RC
    rintro en w4 ⟨v4, rfl, hO4, hg4, hB4⟩
    obtain ⟨a4, k4, c4, rfl⟩ := ownsRow_form hO4
    have T4 : Sg w.heap.size (.slice p G.length c) (.slice pr rs.length cr) w4 := cells w4 ((hB4.block _ hlt2).trans (hb2.block _ hlt))
    refine hK _ _ T4 ?_
    clear hK K
    show Any _ _ _ _ _ _ 1 #[true, true, true, true, true, true, true, false] { tmps := #[_, _, _, _, _, _, _, _, _, (.agg #[.slice p G.length c, .slice pr rs.length cr]), (.pointer (some ⟨w.heap.size, 0, none⟩)), (.slice p G.length c), (.int .i64 (G.length : Nat)), (.slice (some ⟨w2.heap.size, 0, none⟩) G.length G.length), (.int .i64 r), (.slice a4 k4 c4)], defers := [] } w4
    refine Any.take (i := 7) (v := (.slice a4 k4 c4)) (wideF) rfl (by kernel_rfl) (by kernel_rfl) (by kernel_rfl) (fun _ _ _ h => h) (.inl ⟨rfl, fun w _ => by go_simp⟩) T4 ?_
    show Any _ _ _ _ _ _ 0 #[true, true, true, true, true, true, true, true] { tmps := #[_, _, _, _, (.slice a4 k4 c4), _, _, _, _, (.agg #[.slice p G.length c, .slice pr rs.length cr]), (.pointer (some ⟨w.heap.size, 0, none⟩)), (.slice p G.length c), (.int .i64 (G.length : Nat)), (.slice (some ⟨w2.heap.size, 0, none⟩) G.length G.length), (.int .i64 r), (.slice a4 k4 c4)], defers := [] } w4
    refine Any.done (by kernel_rfl) ?_
    rename_i Kb hKb
    refine hKb _ _ ?_
    clear hKb
    gi_wp2
    go_ret
    exact ⟨_, rfl, by rw [HR.out]; exact ownsRow_mono hO4 (by have := hB.size; have := hb2.size; have := mk3.size; simp at this; omega), hB2.trans (hB4.mono hB2.size)⟩
end Go.Proofs.YtjfeamfchgcblaaDoor
