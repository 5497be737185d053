/- The program's Depth and End, over the events that are told. -/
import Derived.Test.YtgmenlcngdphhaaCod
set_option linter.unusedVariables false
set_option linter.unusedSimpArgs false
namespace Go.Proofs.Ytgmenlcngdphhaa
open Go.RowKit Go.Shelf
attribute [local go_sem] Oper.semAt_some

theorem maxD_next {T : List (Ev × Nat)} {i : Nat} {x : Ev × Nat} (h : T[i]? = some x) : maxD (T.take (i + 1)) 0 = max (maxD (T.take i) 0) x.2 := by
  rw [List.take_add_one, h, maxD_app]; rfl
def BxD (s : Nat) (T : List (Ev × Nat)) (i : Nat) (W : World) : Prop := i ≤ T.length ∧ Boxed W s 3 (.int .i64 (maxD (T.take i) 0 : Nat))

set_option maxRecDepth 100000 in
set_option maxHeartbeats 4000000 in
theorem Depth_any (q : Option Addr) (L : List Ev) (n c : Nat) (w : World) (hn : n = L.length) (hl : L.length ≤ 1048576) (hE : Es w q L) :
    Calls Try.prog 10 #[.slice q n c] w fun e w' => e = .returned (.int .i64 (depthP L : Nat)) ∧ Below w.heap.size w w' := by
  have RI := Right_any q L n c w hn hl hE
  subst hn
  cases hV : rightP L with
  | false =>
    have hD : depthP L = 0 := by unfold depthP; rw [hV]; rfl
    rw [hD]
    rw [hV] at RI
    refine (callsIn_wide (n := 9)).1 ?_
    have RI2 := fun m => (callsIn_wide (n := m)).2 RI
    refine callsIn_of_wp_marks Try.func10 rfl trivial ?_ rfl
    simp only [Try.ntmps10, List.size_toArray, List.length_cons, List.length_nil, Nat.reduceAdd, Nat.reduceSub, Array.replicate_succ, Array.replicate_zero, List.push_toArray, List.append_toArray, List.nil_append, List.cons_append]
    gi_wp2_with (first | (refine ⟨trivial, ?_⟩; gi_at_call 8; refine (RI2 _).mono ?_; rintro e W2 ⟨rfl, hB⟩))
    refine ⟨.int .i64 0, by simp [results, Try.results10, go_sem], ?_⟩
    exact ⟨rfl, hB⟩
  | true =>
    rw [hV] at RI
    have hD : depthP L = maxD (told [0] L) 0 := by unfold depthP; rw [hV]; rfl
    obtain ⟨E, hEE⟩ : ∃ E, depthP L = E := ⟨_, rfl⟩
    rw [hEE]
    have HEE : Hid (maxD (told [0] L) 0 = E) := hD.symm.trans hEE
    clear hD hEE
    refine (callsIn_wide (n := 9)).1 ?_
    have RI2 := fun m => (callsIn_wide (n := m)).2 RI
    have hl2 : (L.length : Int) ≤ 1048576 := by omega
    refine callsIn_of_wp_marks Try.func10 rfl trivial ?_ rfl
    simp only [Try.ntmps10, List.size_toArray, List.length_cons, List.length_nil, Nat.reduceAdd, Nat.reduceSub, Array.replicate_succ, Array.replicate_zero, List.push_toArray, List.append_toArray, List.nil_append, List.cons_append]
    have SG0 := fun (m : Nat) (u : World) => deep_in m q L.length c 0 u
    gi_wp2_with (first | (refine ⟨trivial, ?_⟩; gi_at_call 8; refine (RI2 _).mono ?_; rintro e W1 ⟨rfl, hB1⟩; have SG := fun m => SG0 m (W1.alloc (.cells #[.int .i64 0] 3)); have hsz2 : (W1.alloc (.cells #[.int .i64 0] 3)).heap.size = W1.heap.size + 1 := by simp) | (rw [hsz2] at SG; refine ⟨trivial, ?_⟩; gi_at_call 16; refine (SG _).mono ?_; rintro e W2 ⟨rfl, rfl⟩))
    clear RI RI2 SG SG0 hsz2
    have hE1 := hE.on hB1
    have b0 := ((Boxed.new W1 3 (.int .i64 0)).alloc (.cells #[.slice q L.length c] 22)).alloc (.cells #[.int .u8 ((0 : Nat) : Int)] 35)
    have b2 := (Boxed.new (W1.alloc (.cells #[.int .i64 0] 3)) 22 (.slice q L.length c)).alloc (.cells #[.int .u8 ((0 : Nat) : Int)] 35)
    have b3 := Boxed.new ((W1.alloc (.cells #[.int .i64 0] 3)).alloc (.cells #[.slice q L.length c] 22)) 35 (.int .u8 ((0 : Nat) : Int))
    have hB3 := (((Below.refl W1.heap.size W1).alloc (Nat.le_refl _) (.cells #[.int .i64 0] 3)).alloc (by simp) (.cells #[.slice q L.length c] 22)).alloc (by simp; omega) (.cells #[.int .u8 ((0 : Nat) : Int)] 35)
    have hs3 : (((W1.alloc (.cells #[.int .i64 0] 3)).alloc (.cells #[.slice q L.length c] 22)).alloc (.cells #[.int .u8 ((0 : Nat) : Int)] 35)).heap.size = W1.heap.size + 3 := by simp
    simp only [World.size_alloc] at b2 b3
    have hE2 := hE1.on hB3
    have hne : ∀ b, RX q L (W1.heap.size + 1) b → b ≠ W1.heap.size ∧ b < W1.heap.size + 3 := by
      rintro b (h | ⟨h1, a, h2, rfl⟩)
      · omega
      · have := hE1.lt a h2 h1; omega
    have SQ := deep_seq (9 - 1) (W1.heap.size + 1 + 1) (W1.heap.size + 1) c 0 q L hl (by omega) _ b3.cell b2.cell hE2
    obtain ⟨T, hT⟩ : ∃ T, told [0] L = T := ⟨_, rfl⟩
    rw [hT] at SQ HEE
    clear b3 hT b2
    generalize (((W1.alloc (.cells #[.int .i64 0] 3)).alloc (.cells #[.slice q L.length c] 22)).alloc (.cells #[.int .u8 ((0 : Nat) : Int)] 35)) = W3 at b0 hB3 hs3 hE2 SQ ⊢
    refine wpIn_rangeFuncO (gf := 20) (lb := #[.pointer (some ⟨W1.heap.size + 1 + 1, 0, none⟩), .pointer (some ⟨W1.heap.size + 1, 0, none⟩)]) rfl (enters_of Try.func20 (by kernel_rfl) rfl) SQ (fun b hb => by have := hne b hb; omega) (Below.refl _ _) (fun _ => rfl)
      (Ib W1 (W1.heap.size + 3) (BxD W1.heap.size T)) (fun _ _ _ => False) (by rw [hs3]; exact Ib.abo (by omega) (fun i A B h hb => ⟨hb.1, (h _ (by omega)).trans hb.2⟩)) (fun cd _ _ _ _ h _ _ => h) ⟨by omega, hB3, (fun b h => h.elim), Nat.zero_le _, b0⟩
      (fun x W => W) (fun x W => ⟨rfl, rfl, rfl, Nat.le_refl _, fun _ _ _ => rfl⟩)
      (fun x b => { tmps := #[.slice q L.length c, undef, .int .i64 0, .pointer (some ⟨W1.heap.size, 0, none⟩), undef, .int .i64 (x.2 : Nat), .slice q L.length c, .bool true, .bool false, .slice q L.length c, .func (.func 20) #[] #[.pointer (some ⟨W1.heap.size + 1 + 1, 0, none⟩), .pointer (some ⟨W1.heap.size + 1, 0, none⟩)], x.1.v, .int .i64 (x.2 : Nat), undef, undef, undef, undef], defers := [] }) ?assign ?body ?done ?stop
    case assign =>
      intro m l x W K hK
      simp only [encE, Ev.v] at hK ⊢
      gi_wp2
      exact hK
    case body =>
      clear SQ b0 hE2 hE
      rintro m l X i x W0 W hx hI hl1 hl2' hoth
      obtain ⟨hiT, r0⟩ := hI.bx
      have hil : i < T.length := (List.getElem?_eq_some_iff.1 hx).1
      have f0 := r0.cell
      have f1 := r0.frozen
      have HP : Hid (∀ z : Nat, maxD (T.take (i + 1)) 0 = z → (KeepsFrom W3.heap.size W (W.setCell ⟨W1.heap.size, 0, none⟩ (.int .i64 (z : Nat))) ∧ Kq (orX (RX q L (W1.heap.size + 1)) X) W (W.setCell ⟨W1.heap.size, 0, none⟩ (.int .i64 (z : Nat))) ∧ Ib W1 (W1.heap.size + 3) (BxD W1.heap.size T) X (i + 1) (W.setCell ⟨W1.heap.size, 0, none⟩ (.int .i64 (z : Nat))))) := fun z hz => by
        rw [hs3]
        refine hI.set (Below.refl _ _) W1.heap.size (Nat.le_refl _) (by omega) (fun h => (hne _ h).1 rfl) (fun b h => (hne b h).2) r0 _ (fun hbx => ⟨by omega, ?_⟩)
        rw [hz]
        exact hbx
      have hM := maxD_next hx
      generalize maxD (T.take i) 0 = M at *
      clear hoth hI r0 hx
      obtain ⟨⟨xk, tx, tg, an, xs, fl⟩, dp⟩ := x
      dsimp only [Ev.v] at *
      by_cases hmx : M < dp
      · have h1 : (M : Int) < dp := by omega
        have h1' : ¬ (dp : Int) ≤ M := by omega
        have h1'' : (M : Int) ≤ dp := by omega
        rw [Nat.max_eq_right (by omega)] at hM
        have HK3 : Hid _ := HP.out dp hM
        clear HP hM
        gi_wp2
        first | exact HK3.out | (have h9 := HK3.out; rw [hs3] at h9; exact h9)
      · have h1 : (dp : Int) ≤ M := by omega
        have h1' : ¬ (M : Int) < dp := by omega
        rw [Nat.max_eq_left (by omega)] at hM
        have HK3 : Hid _ := HP.out M hM
        clear HP hM
        gi_wp2
        first | exact HK3.out | (have h9 := HK3.out; rw [hs3] at h9; exact h9)
    case done =>
      clear SQ b0 hE2
      rintro D X W hD hI hK
      obtain ⟨hiT, r0⟩ := hI.bx
      rw [List.take_of_length_le (Nat.le_refl _), HEE.out] at r0
      have f0 := r0.cell
      have hbel := hI.bel
      clear hI hE1 hE
      gi_wp2
      refine ⟨by simp, .inl ⟨_, _, rfl, run_takeDeferred hK, ?_⟩⟩
      refine ⟨.int .i64 (E : Nat), by simp [results, Try.results10, go_sem], ?_⟩
      exact ⟨rfl, hB1.trans ((hbel.trans (belowK_b (w := W1) (Nat.le_refl _) W D _ _ (by omega) hK rfl rfl)).mono hB1.size)⟩
    case stop =>
      rintro D cd i W hD h
      exact h.elim

theorem from_22 (p : Option Addr) (len cap m : Nat) (hm : m ≤ len) (hl : len ≤ cap) (w2 : World) :
    (Instr.slice 22 (.slice p len cap) (some (.int .i64 m)) none none).run Try.prog w2 = .ok (.slice (if cap = m then p else p.map (·.add (m * 6))) (len - m) (cap - m)) w2 := by
  have h0 : (m : Int) ≤ len := by omega
  have h1 : (len : Int) ≤ cap := by omega
  have u := Try.underlying22
  have z := Try.sizeOf30
  simp [go_sem, h0, h1]
theorem Es.from {w : World} {p : Option Addr} {L : List Ev} (h : Es w p L) (cap m : Nat) (hl : L.length ≤ cap) : Es w (if cap = m then p else p.map (·.add (m * 6))) (L.drop m) := by
  split
  · exact .inl (List.drop_eq_nil_of_le (by omega))
  · rcases h with rfl | ⟨b, o, rfl, hc⟩
    · exact .inl (by simp)
    · rw [Option.map_some, add_plain]
      exact Es.drop (.inr ⟨b, o, rfl, hc⟩) m
theorem fst0_none : ∀ (T : List (Ev × Nat)), (∀ x ∈ T, x.2 ≠ 0) → fst0 T = none := by
  intro T
  induction T with
  | nil => intro _; rfl
  | cons y T ih => intro h; rw [fst0, if_neg (h y (by simp)), ih (fun x hx => h x (by simp [hx]))]; rfl
theorem fst0_at : ∀ (T : List (Ev × Nat)) (i : Nat) (x : Ev × Nat), T[i]? = some x → x.2 = 0 → (∀ y ∈ T.take i, y.2 ≠ 0) → fst0 T = some (i + 1) := by
  intro T
  induction T with
  | nil => intro i x h; cases h
  | cons y T ih =>
    intro i x h hx hy
    cases i with
    | zero => cases h; rw [fst0, if_pos hx]
    | succ i =>
      rw [fst0, if_neg (hy y (by simp)), ih i x (by simpa using h) hx (fun z hz => hy z (by simp [hz]))]
      rfl
def BxE (s j0 : Nat) (T : List (Ev × Nat)) (i : Nat) (W : World) : Prop := i ≤ T.length ∧ Boxed W s 3 (.int .i64 0) ∧ Boxed W (s + 1) 3 (.int .i64 ((j0 + i : Nat) : Int)) ∧ ∀ x ∈ T.take i, x.2 ≠ 0
def BxY (w : World) (V : Nat) (c : Code) (i : Nat) (W : World) : Prop := c = .ret ∧ Boxed W w.heap.size 3 (.int .i64 (V : Nat)) ∧ Below w.heap.size w W
theorem BxY.own {w : World} {V : Nat} (c : Code) {B : Nat} (hB : w.heap.size ≤ B) : OwnFrom B (BxY w V c) := by
  rintro s W W' row ⟨h1, h2, h3⟩ hgr hr
  exact ⟨h1, boxed_own' h2 hgr hr, h3.grown hgr h3.size (fun k e => by have := (hr k e).1; omega)⟩

set_option maxRecDepth 100000 in
set_option maxHeartbeats 4000000 in
theorem End_out (q : Option Addr) (n c : Nat) (i : Int) (w : World) (hi : i < 0 ∨ (n : Int) ≤ i) :
    Calls Try.prog 14 #[.slice q n c, .int .i64 i] w fun e w' => e = .returned (.int .i64 i) ∧ Below w.heap.size w w' := by
  have b0 := Boxed.new w 3 (.int .i64 i)
  have hB := (Below.refl w.heap.size w).alloc (Nat.le_refl _) (.cells #[.int .i64 i] 3)
  refine (callsIn_wide (n := 9)).1 ?_
  refine callsIn_of_wp_marks Try.func14 rfl trivial ?_ rfl
  simp only [Try.ntmps14, List.size_toArray, List.length_cons, List.length_nil, Nat.reduceAdd, Nat.reduceSub, Array.replicate_succ, Array.replicate_zero, List.push_toArray, List.append_toArray, List.nil_append, List.cons_append]
  by_cases h0 : i < 0
  · clear hi
    gi_wp2
    refine ⟨_, results_int rfl rfl b0, ?_⟩
    exact ⟨rfl, hB⟩
  · have h1 : (n : Int) ≤ i := by omega
    clear hi
    gi_wp2
    refine ⟨_, results_int rfl rfl b0, ?_⟩
    exact ⟨rfl, hB⟩

set_option maxRecDepth 100000 in
set_option maxHeartbeats 4000000 in
theorem End_in (q : Option Addr) (L : List Ev) (n c j : Nat) (w : World) (hn : n = L.length) (hl : L.length ≤ 1048576) (hc : L.length ≤ c) (hj : j < L.length) (hE : Es w q L) :
    Calls Try.prog 14 #[.slice q n c, .int .i64 (j : Nat)] w fun e w' => e = .returned (.int .i64 (endP L j : Nat)) ∧ Below w.heap.size w w' := by
  subst hn
  obtain ⟨V, hV⟩ : ∃ V, endP L j = V := ⟨_, rfl⟩
  rw [hV]
  have HV : Hid (upto j (fst0 (told [1] (L.drop j))) = V) := hV
  clear hV
  have hl2 : (L.length : Int) ≤ 1048576 := by omega
  have hj2 : (j : Int) < L.length := by omega
  have hj0 : ¬ ((j : Int) < 0) := by omega
  have hj3 : ¬ ((L.length : Int) ≤ j) := by omega
  have F22 := from_22 q L.length c j (by omega) hc
  have hE1 := hE.from c j hc
  generalize (if c = j then q else q.map (·.add (j * 6))) = q1 at F22 hE1
  obtain ⟨M, hM⟩ : ∃ M, L.drop j = M := ⟨_, rfl⟩
  rw [hM] at hE1 HV
  have hMl : L.length - j = M.length := by rw [← hM]; simp
  rw [hMl] at F22
  have hMb : M.length ≤ 1048576 := by omega
  clear hM
  obtain ⟨c1, hc1⟩ : ∃ c1, c - j = c1 := ⟨_, rfl⟩
  rw [hc1] at F22
  clear hc1 hE
  refine (callsIn_wide (n := 9)).1 ?_
  have b0 := ((Boxed.new w 3 (.int .i64 0)).alloc (.cells #[.int .i64 (j : Nat)] 3)).alloc (.cells #[.slice q1 M.length c1] 22)
  have b0 := b0.alloc (.cells #[.int .u8 ((1 : Nat) : Int)] 35)
  have b1 := ((Boxed.new (w.alloc (.cells #[.int .i64 0] 3)) 3 (.int .i64 (j : Nat))).alloc (.cells #[.slice q1 M.length c1] 22)).alloc (.cells #[.int .u8 ((1 : Nat) : Int)] 35)
  have b2 := (Boxed.new ((w.alloc (.cells #[.int .i64 0] 3)).alloc (.cells #[.int .i64 (j : Nat)] 3)) 22 (.slice q1 M.length c1)).alloc (.cells #[.int .u8 ((1 : Nat) : Int)] 35)
  have b3 := Boxed.new (((w.alloc (.cells #[.int .i64 0] 3)).alloc (.cells #[.int .i64 (j : Nat)] 3)).alloc (.cells #[.slice q1 M.length c1] 22)) 35 (.int .u8 ((1 : Nat) : Int))
  have hB3 := ((((Below.refl w.heap.size w).alloc (Nat.le_refl _) (.cells #[.int .i64 0] 3)).alloc (by simp) (.cells #[.int .i64 (j : Nat)] 3)).alloc (by simp; omega) (.cells #[.slice q1 M.length c1] 22)).alloc (by simp; omega) (.cells #[.int .u8 ((1 : Nat) : Int)] 35)
  have hs3 : ((((w.alloc (.cells #[.int .i64 0] 3)).alloc (.cells #[.int .i64 (j : Nat)] 3)).alloc (.cells #[.slice q1 M.length c1] 22)).alloc (.cells #[.int .u8 ((1 : Nat) : Int)] 35)).heap.size = w.heap.size + 4 := by simp
  have SG := fun m => deep_in m q1 M.length c1 1 ((w.alloc (.cells #[.int .i64 0] 3)).alloc (.cells #[.int .i64 (j : Nat)] 3))
  have hsz2 : ((w.alloc (.cells #[.int .i64 0] 3)).alloc (.cells #[.int .i64 (j : Nat)] 3)).heap.size = w.heap.size + 1 + 1 := by simp
  rw [hsz2] at SG
  simp only [World.size_alloc] at b1 b2 b3
  have hE2 := hE1.on hB3
  have hne : ∀ b, RX q1 M (w.heap.size + 2) b → b ≠ w.heap.size ∧ b ≠ w.heap.size + 1 ∧ b < w.heap.size + 4 := by
    rintro b (h | ⟨h1, a, h2, rfl⟩)
    · omega
    · have := hE1.lt a h2 h1; omega
  have SQ := deep_seq (9 - 1) (w.heap.size + 1 + 1 + 1) (w.heap.size + 1 + 1) c1 1 q1 M hMb (by omega) _ b3.cell b2.cell hE2
  obtain ⟨T, hT⟩ : ∃ T, told [1] M = T := ⟨_, rfl⟩
  have hTl : T.length ≤ M.length := by rw [← hT]; exact told_le M [1]
  rw [hT] at SQ HV
  clear hT
  refine callsIn_of_wp_marks Try.func14 rfl trivial ?_ rfl
  simp only [Try.ntmps14, List.size_toArray, List.length_cons, List.length_nil, Nat.reduceAdd, Nat.reduceSub, Array.replicate_succ, Array.replicate_zero, List.push_toArray, List.append_toArray, List.nil_append, List.cons_append]
  clear hsz2 b3
  gi_wp2_with (first | (refine ⟨trivial, ?_⟩; gi_at_call 16; refine (SG _).mono ?_; rintro e W2 ⟨rfl, rfl⟩))
  generalize ((((w.alloc (.cells #[.int .i64 0] 3)).alloc (.cells #[.int .i64 (j : Nat)] 3)).alloc (.cells #[.slice q1 M.length c1] 22)).alloc (.cells #[.int .u8 ((1 : Nat) : Int)] 35)) = W3 at b0 b1 b2 hB3 hs3 hE2 SQ ⊢
  clear SG
  refine wpIn_rangeFuncO (gf := 20) (lb := #[.pointer (some ⟨w.heap.size + 1 + 1 + 1, 0, none⟩), .pointer (some ⟨w.heap.size + 1 + 1, 0, none⟩)]) rfl (enters_of Try.func20 (by kernel_rfl) rfl) SQ (fun b hb => by have := hne b hb; omega) (Below.refl _ _) (fun _ => rfl)
    (Ib w (w.heap.size + 4) (BxE w.heap.size j T)) (BxY w V) (by rw [hs3]; exact Ib.abo (by omega) (fun i A B h hb => ⟨hb.1, (h _ (by omega)).trans hb.2.1, (h _ (by omega)).trans hb.2.2.1, hb.2.2.2⟩)) (fun cd => BxY.own cd (by omega)) ⟨by omega, hB3, (fun b h => h.elim), Nat.zero_le _, b0, b1, fun x hx => by simp at hx⟩
    (fun x W => W) (fun x W => ⟨rfl, rfl, rfl, Nat.le_refl _, fun _ _ _ => rfl⟩)
    (fun x b => { tmps := #[.slice q L.length c, .int .i64 (j : Nat), undef, undef, .pointer (some ⟨w.heap.size, 0, none⟩), .pointer (some ⟨w.heap.size + 1, 0, none⟩), undef, .int .i64 (x.2 : Nat), .int .i64 (j : Nat), .bool false, .bool false, .int .i64 (j : Nat), .slice q L.length c, .int .i64 (L.length : Nat), .bool false, .bool false, undef, .int .i64 (j : Nat), .slice q L.length c, .int .i64 (j : Nat), .slice q1 M.length c1, .func (.func 20) #[] #[.pointer (some ⟨w.heap.size + 1 + 1 + 1, 0, none⟩), .pointer (some ⟨w.heap.size + 1 + 1, 0, none⟩)], x.1.v, .int .i64 (x.2 : Nat), undef, undef, undef, undef, undef, undef], defers := [] }) ?assign ?body ?done ?stop
  case assign =>
    intro m l x W K hK
    simp only [encE, Ev.v] at hK ⊢
    gi_wp2
    exact hK
  case body =>
    clear SQ b0 b1 b2 hE2 hE1 F22
    rintro m l X i x W0 W hx hI hl1 hl2' hoth
    obtain ⟨hiT, r0, r1, hcl⟩ := hI.bx
    have hil : i < T.length := (List.getElem?_eq_some_iff.1 hx).1
    have f0 := r0.cell
    have f1 := r0.frozen
    have f2 := r1.cell
    have f3 := r1.frozen
    have hji : (((j + i : Nat) : Int)) ≤ 2097152 := by omega
    by_cases hx0 : x.2 = 0
    · have hVe : V = j + (i + 1) := by rw [← HV.out, fst0_at T i x hx hx0 hcl]; rfl
      have g0 : Boxed (W.setCell ⟨w.heap.size + 1, 0, none⟩ (.int .i64 ((j + i : Nat) + 1))) w.heap.size 3 (.int .i64 0) := by
        refine (Deep.blk_setCell_other _ _ _ _ ?_).trans r0
        show w.heap.size ≠ w.heap.size + 1
        omega
      have g1 := (r1.set (.int .i64 ((j + i : Nat) + 1))).cell
      have f4 := g0.cell
      have f5 := g0.frozen
      have HP : Hid (KeepsFrom W3.heap.size W ((W.setCell ⟨w.heap.size + 1, 0, none⟩ (.int .i64 ((j + i : Nat) + 1))).setCell ⟨w.heap.size, 0, none⟩ (.int .i64 ((j + i : Nat) + 1))) ∧ BxY w V .ret (i + 1) ((W.setCell ⟨w.heap.size + 1, 0, none⟩ (.int .i64 ((j + i : Nat) + 1))).setCell ⟨w.heap.size, 0, none⟩ (.int .i64 ((j + i : Nat) + 1)))) := by
        refine ⟨⟨by simp [World.setCell], fun k o hk ho hc => ?_⟩, rfl, ?_, (hI.bel.setCell (by dsimp only; omega) _).setCell (Nat.le_refl _) _⟩
        · rw [Deep.blk_setCell_other _ _ _ _ (by dsimp only; omega), Deep.blk_setCell_other _ _ _ _ (by dsimp only; omega)]
          exact ho
        · have := g0.set (.int .i64 ((j + i : Nat) + 1))
          rw [hVe, show ((j + (i + 1) : Nat) : Int) = ((j + i : Nat) : Int) + 1 by omega]
          exact this
      clear hoth hI r0 r1 hcl hx g0 hVe HV
      generalize j + i = ji at *
      obtain ⟨⟨xk, tx, tg, an, xs, fl⟩, dp⟩ := x
      dsimp only [Ev.v] at *
      subst hx0
      gi_wp2
      first | exact HP.out | (have h9 := HP.out; rw [hs3] at h9; exact h9)
    · have HP : Hid (KeepsFrom W3.heap.size W (W.setCell ⟨w.heap.size + 1, 0, none⟩ (.int .i64 ((j + i : Nat) + 1))) ∧ Kq (orX (RX q1 M (w.heap.size + 1 + 1)) X) W (W.setCell ⟨w.heap.size + 1, 0, none⟩ (.int .i64 ((j + i : Nat) + 1))) ∧ Ib w (w.heap.size + 4) (BxE w.heap.size j T) X (i + 1) (W.setCell ⟨w.heap.size + 1, 0, none⟩ (.int .i64 ((j + i : Nat) + 1)))) := by
        rw [hs3, show ((j + i : Nat) : Int) + 1 = ((j + (i + 1) : Nat) : Int) by omega]
        refine hI.set (Below.refl _ _) (w.heap.size + 1) (by omega) (by omega) (fun h => (hne _ h).2.1 rfl) (fun b h => (hne b h).2.2) r1 _ (fun hbx => ⟨by omega, ?_, hbx, fun y hy => ?_⟩)
        · refine (Deep.blk_setCell_other _ _ _ _ ?_).trans r0
          show w.heap.size ≠ w.heap.size + 1
          omega
        · rw [List.take_add_one, hx] at hy
          simp at hy
          rcases hy with hy | rfl
          · exact hcl y hy
          · exact hx0
      have hx1 : ((x.2 : Int) == 0) = false := by simp; exact hx0
      have hx2 : ¬ ((x.2 : Int) = 0) := by omega
      clear hoth hI r0 r1 hcl hx HV
      generalize j + i = ji at *
      obtain ⟨⟨xk, tx, tg, an, xs, fl⟩, dp⟩ := x
      dsimp only [Ev.v] at *
      gi_wp2
      first | exact HP.out | (have h9 := HP.out; rw [hs3] at h9; exact h9)
  case done =>
    clear SQ b0 b1 b2 hE2
    rintro D X W hD hI hK
    obtain ⟨hiT, r0, r1, hcl⟩ := hI.bx
    rw [List.take_of_length_le (Nat.le_refl _)] at hcl
    have hVj : V = j := by rw [← HV.out, fst0_none T hcl]; rfl
    subst hVj
    have f0 := r0.cell
    have f1 := r0.frozen
    have hbel := hI.bel
    have FIN : Hid (Boxed ((W.setCell ⟨w.heap.size, 0, none⟩ (.int .i64 (V : Nat))).putObj D (.deferred none)) w.heap.size 3 (.int .i64 (V : Nat)) ∧ (W.setCell ⟨w.heap.size, 0, none⟩ (.int .i64 (V : Nat))).heap[D]? = some (.deferred (some [])) ∧ Below w.heap.size w ((W.setCell ⟨w.heap.size, 0, none⟩ (.int .i64 (V : Nat))).putObj D (.deferred none))) := by
      have hDn : D ≠ w.heap.size := by omega
      have hK2 : (W.setCell ⟨w.heap.size, 0, none⟩ (.int .i64 (V : Nat))).heap[D]? = some (.deferred (some [])) := by rw [Deep.blk_setCell_other _ _ _ _ (by dsimp only; exact hDn)]; exact hK
      exact ⟨boxed_put (r0.set _) hK2, hK2, (hbel.setCell (Nat.le_refl _) _).trans (belowK_b (w := w) (Nat.le_refl _) _ D _ _ (by omega) hK2 rfl rfl)⟩
    clear hI r0 r1 hcl hK F22 HV hE1
    gi_wp2
    obtain ⟨F1, F2, F3⟩ := FIN.out
    refine ⟨by simp, .inl ⟨_, _, rfl, run_takeDeferred F2, ?_⟩⟩
    refine ⟨_, results_int rfl rfl F1, ?_⟩
    exact ⟨rfl, F3⟩
  case stop =>
    rintro D cd i W hD ⟨rfl, r0, hB⟩ hK
    gi_wp2
    refine ⟨by simp, .inl ⟨_, _, rfl, run_takeDeferred hK, ?_⟩⟩
    refine ⟨_, results_int rfl rfl (boxed_put r0 hK), ?_⟩
    exact ⟨rfl, hB.trans (belowK_b (w := w) (Nat.le_refl _) W D _ _ (by omega) hK rfl rfl)⟩
end Go.Proofs.Ytgmenlcngdphhaa
