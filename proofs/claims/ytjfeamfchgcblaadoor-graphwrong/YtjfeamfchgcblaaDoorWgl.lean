/- GraphWrong, as it runs. -/
import Derived.Test.YtjfeamfchgcblaaDoorWgp
set_option linter.all false
set_option maxRecDepth 100000
namespace Go.Proofs.YtjfeamfchgcblaaDoor
open Go.RowKit Go.Shelf
attribute [local go_sem] Oper.semAt_some

structure Held (p : Prop) : Prop where
  out : p
theorem no_more {rit rv : ByteArray → Bool} {G : List Gn} {rs : List Int} {r : Int} (h : rightP rit rv G rs = false) : reachP rit rv G rs r = [] ∧ usesP rit rv G rs r = [] ∧ cycP rit rv G rs r = false := by
  have hm : mayP rit rv G rs r = false := by unfold mayP; rw [h]; rfl
  have e : reachP rit rv G rs r = [] := by unfold reachP; rw [hm]; rfl
  exact ⟨e, by unfold usesP; rw [hm]; rfl, by unfold cycP; rw [hm]; rfl⟩
theorem ok_right (q : Option Addr) : rightP ritB rvB [⟨1, ⟨#[120]⟩, ⟨#[97]⟩, q, [], 0, false⟩] [0, 0] = true := by
  show rightP ritB rvB [⟨1, ⟨#[120]⟩, ⟨#[97]⟩, none, [], 0, false⟩] [0, 0] = true
  decide +kernel
theorem none_right : rightP ritB rvB [] [] = true := by decide +kernel

set_option maxHeartbeats 8000000 in
theorem wrong_law (n : Int) (w : World) (hT : Tabs w) :
    Calls Tryd.prog 6 #[.int .i64 n] w fun e w' => e = .returned (.bool true) ∧ Below w.heap.size w w' := by
  have AL := alive_any w hT
  go_enter Tryd.func6, Tryd.ntmps6
  go_wp2_with (first | (go_at_call 7; refine AL.mono ?_; clear AL; rintro e W1 ⟨rfl, hb1⟩) | (refine (?_ : wpList Tryd.prog _ _ (Oper.mk (some 60) _ _ _ _ _ :: _) _ _); refine Held.out (p := _) ?_))
  refine ⟨?_⟩
  change wpList Tryd.prog _ _ _ _ (alls W1 (wObs W1.heap.size))
  generalize hgl : W1.heap.size + 1 + 1 + 1 + 1 + 1 + 1 + 1 + 1 + 1 + 1 + 1 + 1 + 1 + 1 + 1 + 1 + 1 + 1 + 1 + 1 + 1 + 1 = gl
  have hgl2 : W1.heap.size + 22 = gl := hgl
  clear hgl
  have HW := alls_at (wObs W1.heap.size) W1
  have HB := alls_below (wObs W1.heap.size) W1
  generalize alls W1 (wObs W1.heap.size) = Wf at HW HB ⊢
  have hbel : Below w.heap.size w Wf := hb1.trans (HB.mono hb1.size)
  by_cases h0 : n < 0
  · clear HW HB hgl2
    go_wp2
    go_ret
    exact ⟨rfl, hbel⟩
  by_cases h1 : 15 ≤ n
  · clear HW HB hgl2
    go_wp2
    go_ret
    exact ⟨rfl, hbel⟩
  obtain ⟨i, rfl⟩ : ∃ i : Nat, n = i := ⟨n.toNat, by omega⟩
  have hi : i < 15 := by omega
  obtain ⟨p, G, c, pr, rs, cr, e0, e1, hG, hz, hI, hr, hR⟩ := bad_all hgl2 HW i hi
  have ok := HW 0 _ rfl
  rw [Nat.add_zero] at ok
  have hTf := lowP.on hT hbel
  obtain ⟨nr, nu, nc⟩ := no_more (r := 0) hR
  have R1 := Right_any lowP p pr c cr G rs Wf hTf hG hz hI hr
  rw [hR] at R1
  have E2 : Hid (∀ W, Below Wf.heap.size Wf W → _) := fun W hb => Reach_any lowP p pr c cr G rs 0 W (lowP.on hTf hb) (hG.on hb) hz (hI.on hb) hr
  have U3 : Hid (∀ W, Below Wf.heap.size Wf W → _) := fun W hb => Uses_any lowP p pr c cr G rs 0 W (lowP.on hTf hb) (hG.on hb) hz (hI.on hb) hr
  have C4 : Hid (∀ W, Below Wf.heap.size Wf W → _) := fun W hb => Cyclic_any lowP p pr c cr G rs 0 W (lowP.on hTf hb) (hG.on hb) hz (hI.on hb) hr
  have O5 : Hid (∀ W, Below Wf.heap.size Wf W → Calls Tryd.prog 9 #[.agg #[.slice (some ⟨W.heap.size, 0, none⟩) 1 1, .slice (some ⟨W.heap.size + 1, 0, none⟩) 2 2]] ((W.alloc (.cells #[.int .i64 1, .string ⟨#[120]⟩, .string ⟨#[97]⟩, .slice none 0 0, .bool false] 33)).alloc (.cells #[.int .i64 0, .int .i64 0] 3)) fun e w' => e = .returned (.bool true) ∧ Below W.heap.size W w') := fun W hb => by
    have b1 := (Below.refl W.heap.size W).alloc (Nat.le_refl _) (.cells #[.int .i64 1, .string ⟨#[120]⟩, .string ⟨#[97]⟩, .slice none 0 0, .bool false] 33)
    have s1 : (W.alloc (.cells #[.int .i64 1, .string ⟨#[120]⟩, .string ⟨#[97]⟩, .slice none 0 0, .bool false] 33)).heap.size = W.heap.size + 1 := by simp
    have b2 := b1.alloc (by rw [s1]; omega) (.cells #[.int .i64 0, .int .i64 0] 3)
    have x0 : ((W.alloc (.cells #[.int .i64 1, .string ⟨#[120]⟩, .string ⟨#[97]⟩, .slice none 0 0, .bool false] 33)).alloc (.cells #[.int .i64 0, .int .i64 0] 3)).heap[W.heap.size]? = some (.cells #[.int .i64 1, .string ⟨#[120]⟩, .string ⟨#[97]⟩, .slice none 0 0, .bool false] 33) :=
      (Below.heap_alloc _ _ _ (by rw [s1]; omega)).trans (World.alloc_heap_new W _)
    have x1 : ((W.alloc (.cells #[.int .i64 1, .string ⟨#[120]⟩, .string ⟨#[97]⟩, .slice none 0 0, .bool false] 33)).alloc (.cells #[.int .i64 0, .int .i64 0] 3)).heap[W.heap.size + 1]? = some (.cells #[.int .i64 0, .int .i64 0] 3) := by
      have := World.alloc_heap_new (W.alloc (.cells #[.int .i64 1, .string ⟨#[120]⟩, .string ⟨#[97]⟩, .slice none 0 0, .bool false] 33)) (.cells #[.int .i64 0, .int .i64 0] 3)
      rwa [s1] at this
    have := Right_any lowP (some ⟨W.heap.size, 0, none⟩) (some ⟨W.heap.size + 1, 0, none⟩) 1 2 [⟨1, ⟨#[120]⟩, ⟨#[97]⟩, none, [], 0, false⟩] [0, 0] _ (lowP.on hTf (hb.trans (b2.mono hb.size))) (gs_one (kids := []) x0 (.inl rfl) (by decide) (by decide)) ⟨by simp, fun x hx => by
      rw [List.mem_singleton.1 hx]
      exact ⟨(show 1 ≤ 1048576 by omega), (show 1 ≤ 1048576 by omega), (show 0 ≤ 1000000 by omega)⟩⟩ (is_of_block (l := [0, 0]) (f := (0, 0)) x1) (by simp)
    rw [ok_right] at this
    exact this.mono fun e w' h => ⟨h.1, b2.trans (h.2.mono b2.size)⟩
  have N6 : Hid (∀ W, Below Wf.heap.size Wf W → Calls Tryd.prog 9 #[.agg #[.slice none 0 0, .slice none 0 0]] W fun e w' => e = .returned (.bool true) ∧ Below W.heap.size W w') := fun W hb => by
    have := Right_any lowP none none 0 0 [] [] W (lowP.on hTf hb) ⟨fun j hj => by simp at hj, fun hj => by simp at hj⟩ ⟨by simp, fun x hx => by cases hx⟩ (.inl rfl) (by simp)
    rw [none_right] at this
    exact this
  simp only [nr] at E2
  simp only [nu] at U3
  simp only [nc] at C4
  have K : Hid (∀ W, Below Wf.heap.size Wf W → (W.cell? ⟨gl, i * 2, none⟩ = some (.slice p G.length c) ∧ W.cell? ⟨gl, i * 2 + 1, none⟩ = some (.slice pr rs.length cr)) ∧ W.cell? ⟨W1.heap.size, 0, none⟩ = some (.int .i64 1) ∧ W.cell? ⟨W1.heap.size, 1, none⟩ = some (.string ⟨#[120]⟩) ∧ W.cell? ⟨W1.heap.size, 2, none⟩ = some (.string ⟨#[97]⟩) ∧ W.cell? ⟨W1.heap.size, 3, none⟩ = some (.slice none 0 0) ∧ W.cell? ⟨W1.heap.size, 4, none⟩ = some (.bool false)) := fun W hb => by
    have okW := (hb.block _ (Array.getElem?_eq_some_iff.1 ok).1).trans ok
    refine ⟨⟨(hb.cell (p := ⟨gl, i * 2, none⟩) (World.block_lt_of_cell? _ _ e0)).trans e0, (hb.cell (p := ⟨gl, i * 2 + 1, none⟩) (World.block_lt_of_cell? _ _ e1)).trans e1⟩, ?_, ?_, ?_, ?_, ?_⟩ <;> (unfold World.cell?; rw [okW]; rfl)
  have hi' : (i : Int) < 15 := by omega
  unfold grV at R1 E2 U3 C4
  clear hG hz hI hr hR ok hTf nr nu nc HW HB hgl2 hT
  go_wp2_with (first | (go_at_call 9; refine R1.mono ?_; clear R1; rintro e W2 ⟨rfl, hb2⟩; obtain ⟨⟨k20, k21⟩, -⟩ := K.out W2 hb2; have E22 := E2.out W2 hb2) | (go_at_call 12; refine E22.mono ?_; clear E22; rintro e W3 ⟨v3, rfl, ho3, hb3⟩; obtain ⟨a3, k3, c3, rfl⟩ := ownsRow_form ho3; obtain ⟨-, hk3, -, -⟩ := is_of_row ho3; obtain rfl : k3 = 0 := hk3; have hB3 := hb2.trans (hb3.mono hb2.size); obtain ⟨⟨k30, k31⟩, -⟩ := K.out W3 hB3; have U33 := U3.out W3 hB3) | (go_at_call 16; refine U33.mono ?_; clear U33; rintro e W4 ⟨v4, rfl, ho4, hb4⟩; obtain ⟨a4, k4, c4, rfl⟩ := ownsRow_form ho4; obtain ⟨-, hk4, -, -⟩ := is_of_row ho4; obtain rfl : k4 = 0 := hk4; have hB4 := hB3.trans (hb4.mono hB3.size); obtain ⟨⟨k40, k41⟩, -⟩ := K.out W4 hB4; have C44 := C4.out W4 hB4) | (go_at_call 14; refine C44.mono ?_; clear C44; rintro e W5 ⟨rfl, hb5⟩; have hB5 := hB4.trans (hb5.mono hB4.size); obtain ⟨-, k50, k51, k52, k53, k54⟩ := K.out W5 hB5; have O55 := O5.out W5 hB5) | (go_at_call 9; refine O55.mono ?_; clear O55; rintro e W6 ⟨rfl, hb6⟩; have hB6 := hB5.trans (hb6.mono hB5.size); have N66 := N6.out W6 hB6) | (go_at_call 9; refine N66.mono ?_; clear N66; rintro e W7 ⟨rfl, hb7⟩; have hB7 := hB6.trans (hb7.mono hB6.size)))
  go_ret
  exact ⟨rfl, hbel.trans (hB7.mono hbel.size)⟩
end Go.Proofs.YtjfeamfchgcblaaDoor
