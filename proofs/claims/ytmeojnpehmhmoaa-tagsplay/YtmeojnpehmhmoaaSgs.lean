/- How many code points the URI signs of a line have: signsSize, onlySigns, suffix. -/
import Derived.Test.YtmeojnpehmhmoaaSgi
set_option linter.unusedVariables false
set_option linter.unusedSimpArgs false
namespace Go.Proofs.Ytmeojnpehmhmoaa
open Go.RowKit Go.Shelf
attribute [local go_sem] Oper.semAt_some

/-- What holds while the signs are told: the box holds the place of the next one. -/
def Ig (w : World) (n : Nat → Nat) (L : Nat) (T : List Nat) (E : Nat) (n' : Nat → Nat) (i : Nat) (W : World) : Prop :=
  ∃ k, T.drop i = posE n L k ∧ k ≤ L ∧ runE n' L k = E ∧ Boxed W w.heap.size 3 (.int .i64 (k : Nat)) ∧ Below w.heap.size w W ∧ w.heap.size + 2 ≤ W.heap.size
def Igx (w : World) (E : Nat) (c : Code) (i : Nat) (W : World) : Prop :=
  c = .exit 0 ∧ Boxed W w.heap.size 3 (.int .i64 (E : Nat)) ∧ Below w.heap.size w W
theorem Ig.own {w : World} {n : Nat → Nat} {L : Nat} {T : List Nat} {E : Nat} {n' : Nat → Nat} {B : Nat} (hB : w.heap.size ≤ B) : OwnFrom B (Ig w n L T E n') := by
  rintro s W W' row ⟨k, h1, h2, h3, h4, h5, h6⟩ hgr hr
  exact ⟨k, h1, h2, h3, boxed_own' h4 hgr hr, h5.grown hgr h5.size (fun k e => by have := (hr k e).1; omega), Nat.le_trans h6 hgr.size⟩
theorem Igx.own {w : World} {E : Nat} (c : Code) {B : Nat} (hB : w.heap.size ≤ B) : OwnFrom B (Igx w E c) := by
  rintro s W W' row ⟨h1, h2, h4⟩ hgr hr
  exact ⟨h1, boxed_own' h2 hgr hr, h4.grown hgr h4.size (fun k e => by have := (hr k e).1; omega)⟩

set_option maxRecDepth 100000 in
set_option maxHeartbeats 2000000 in
theorem signsSize_any (q : Option Addr) (t : List Int) (n c : Nat) (w : World) (hl : n = t.length) (hn : t.length ≤ 1099511627776) (hc : t.length ≤ c) (hm : c ≤ maxLen) (hI : Is w q t) :
    Calls Try.prog 79 #[.slice q n c] w fun e w' => e = .returned (.int .i64 (runE (uN t) t.length 0 : Nat)) ∧ Below w.heap.size w w' := by
  subst hl
  obtain ⟨E, hE⟩ : ∃ E, runE (uN t) t.length 0 = E := ⟨_, rfl⟩
  rw [hE]
  refine (callsIn_wide (n := 9)).1 ?_
  have b0 := Boxed.new w 3 (.int .i64 0)
  have b2 := Boxed.new (w.alloc (.cells #[.int .i64 0] 3)) 57 (.slice q t.length c)
  have hs1 : (w.alloc (.cells #[.int .i64 0] 3)).heap.size = w.heap.size + 1 := by simp
  rw [hs1] at b2
  have hB1 := (Below.refl w.heap.size w).alloc (Nat.le_refl _) (.cells #[.int .i64 0] 3)
  have hB2 := hB1.alloc (by simp) (.cells #[.slice q t.length c] 57)
  have hs3 : ((w.alloc (.cells #[.int .i64 0] 3)).alloc (.cells #[.slice q t.length c] 57)).heap.size = w.heap.size + 1 + 1 := by simp
  have c0 := b0.alloc (.cells #[.slice q t.length c] 57)
  have SG := fun m => signs_in m q t.length c (w.alloc (.cells #[.int .i64 0] 3))
  have hI2 := hI.on hB2
  have hbd := uN_bd t
  refine callsIn_of_wp_marks Try.func79 rfl trivial ?_ rfl
  simp only [Try.ntmps79, List.size_toArray, List.length_cons, List.length_nil, Nat.reduceAdd, Nat.reduceSub, Array.replicate_succ, Array.replicate_zero, List.push_toArray, List.append_toArray, List.nil_append, List.cons_append]
  clear b0 hs1
  gi_wp2_with (first | (refine ⟨trivial, ?_⟩; gi_at_call 81; refine (SG _).mono ?_; rintro e W2 ⟨rfl, rfl⟩))
  generalize ((w.alloc (.cells #[.int .i64 0] 3)).alloc (.cells #[.slice q t.length c] 57)) = W3 at b2 hB2 hs3 c0 hI2 ⊢
  clear SG hB1
  have hXs := xs_lt (Bb := w.heap.size + 1) (B := W3.heap.size) hI (by omega) (by omega)
  have hXn : ¬ Xs q t (w.heap.size + 1) w.heap.size := by
    rintro (h | ⟨h1, a, h2, h3⟩)
    · omega
    · have := hI.lt a h2 h1; omega
  have SQ := signs_seq (9 - 1) (w.heap.size + 1) c q t (by omega) hc hm W3 b2.cell hI2
  obtain ⟨T, hT⟩ : ∃ T, posE (uN t) t.length 0 = T := ⟨_, rfl⟩
  rw [hT] at SQ
  refine wpIn_rangeFuncT (gf := 90) (lb := #[.pointer (some ⟨w.heap.size + 1, 0, none⟩)]) rfl (enters_of Try.func90 (by kernel_rfl) rfl) SQ (fun h k => Kq.trans h k) (Kq.putObj hXs) (Below.refl _ _) (fun _ => rfl)
    (Ig w (uN t) t.length T E (uN t)) (fun _ _ _ => False) (Ig.own (by omega)) (fun c _ _ _ _ h _ _ => h) ⟨0, by rw [← hT]; rfl, Nat.zero_le _, hE, c0, hB2, by omega⟩
    (fun x => { tmps := #[.slice q t.length c, undef, .int .i64 0, .pointer (some ⟨w.heap.size, 0, none⟩), .slice (q.map (·.add x)) (uN t x) (c - x), .slice q t.length c, .func (.func 90) #[] #[.pointer (some ⟨w.heap.size + 1, 0, none⟩)], .slice (q.map (·.add x)) (uN t x) (c - x), undef, undef, undef, undef, undef], defers := [] }) ?assign ?body ?done ?stop
  case assign =>
    intro m l x W K hK
    simp only [encP] at hK ⊢
    gi_wp2
    exact hK
  case body =>
    clear SQ c0 b2 hI2
    rintro m l i x W hx ⟨k, hTk, hk, hr, b0, hbW, hrm⟩
    have hTk2 := hTk
    rw [drop_at hx] at hTk2
    have hz : uN t k ≠ 0 := fun h => by rw [posE_stop h] at hTk2; cases hTk2
    rw [posE_step hbd hz] at hTk2
    injection hTk2 with h1 h2
    subst h1
    have hle : x + uN t x ≤ t.length := by rcases hbd x with h | h <;> omega
    have hR : runE (uN t) t.length (x + uN t x) = E := (runE_step hbd hz).trans hr
    obtain ⟨P1, P2, P3⟩ := set1 (w := w) (B := W3.heap.size) b0 (by omega) (by omega) hbW (.int .i64 ((x + uN t x : Nat) : Int))
    have HP : Hid (KeepsFrom W3.heap.size W (W.setCell ⟨w.heap.size, 0, none⟩ (.int .i64 ((x + uN t x : Nat) : Int))) ∧ Kq (Xs q t (w.heap.size + 1)) W (W.setCell ⟨w.heap.size, 0, none⟩ (.int .i64 ((x + uN t x : Nat) : Int))) ∧ Ig w (uN t) t.length T E (uN t) (i + 1) (W.setCell ⟨w.heap.size, 0, none⟩ (.int .i64 ((x + uN t x : Nat) : Int)))) :=
      ⟨P2, Kq.set hXn _, x + uN t x, h2, hle, hR, P1, P3, by simp [World.setCell]; omega⟩
    have f0 := b0.cell
    have f1 := b0.frozen
    have e1 : ((x + uN t x : Nat) : Int) = (x : Int) + (uN t x : Nat) := by omega
    rw [e1] at HP
    have hl1 : (x : Int) + (uN t x : Nat) ≤ 1099511627776 := by omega
    clear hTk hx hr hR h2 hz P1 P2 P3 b0 hE hT hbd hI e1
    generalize uN t x = z at *
    gi_wp2
    exact HP.out
  case done =>
    rintro D W hD ⟨k, hTk, hk, hr, b0, hbW, hrm⟩ hK
    rw [List.drop_length] at hTk
    have hz := posE_nil hbd hTk.symm
    rw [runE_stop hz] at hr
    subst hr
    have f0 := b0.cell
    clear SQ c0 b2 hE hTk hT
    gi_wp2
    refine ⟨by simp, .inl ⟨_, _, rfl, run_takeDeferred hK, ?_⟩⟩
    refine ⟨.int .i64 (k : Nat), by simp [results, Try.results79, go_sem], ?_⟩
    exact ⟨rfl, hbW.trans (belowK_b (w := w) (Nat.le_refl _) W D _ _ (by omega) hK rfl rfl)⟩
  case stop =>
    rintro D c' i W hD h
    exact h.elim

/-- How many code points the sign at a place has that may stand behind a handle. -/
def sN (t : List Int) (k : Nat) : Nat := if k < t.length ∧ (iAt t k = 33 ∨ flowP (iAt t k) = true) then 0 else uN t k
theorem sN_bd (t : List Int) : Bd (sN t) t.length := by
  intro k
  unfold sN
  split
  · exact .inl rfl
  · exact uN_bd t k
theorem sN_zero {t : List Int} {k : Nat} (h : uN t k = 0) : sN t k = 0 := by
  unfold sN
  split
  · rfl
  · exact h
theorem sN_drop (t : List Int) (a j : Nat) : sN (t.drop a) j = sN t (a + j) := by
  unfold sN
  rw [iAt_drop, uN_drop, List.length_drop]
  have h2 : (j < t.length - a) = (a + j < t.length) := by rw [eq_iff_iff]; omega
  simp only [h2]

set_option maxRecDepth 100000 in
set_option maxHeartbeats 2000000 in
theorem suffix_any (q : Option Addr) (t : List Int) (n c : Nat) (w : World) (hl : n = t.length) (hn : t.length ≤ 1099511627776) (hc : t.length ≤ c) (hm : c ≤ maxLen) (hI : Is w q t) :
    Calls Try.prog 63 #[.slice q n c] w fun e w' => e = .returned (.int .i64 (runE (sN t) t.length 0 : Nat)) ∧ Below w.heap.size w w' := by
  subst hl
  obtain ⟨E, hE⟩ : ∃ E, runE (sN t) t.length 0 = E := ⟨_, rfl⟩
  rw [hE]
  refine (callsIn_wide (n := 9)).1 ?_
  have b0 := Boxed.new w 3 (.int .i64 0)
  have b2 := Boxed.new (w.alloc (.cells #[.int .i64 0] 3)) 57 (.slice q t.length c)
  have hs1 : (w.alloc (.cells #[.int .i64 0] 3)).heap.size = w.heap.size + 1 := by simp
  rw [hs1] at b2
  have hB1 := (Below.refl w.heap.size w).alloc (Nat.le_refl _) (.cells #[.int .i64 0] 3)
  have hB2 := hB1.alloc (by simp) (.cells #[.slice q t.length c] 57)
  have hs3 : ((w.alloc (.cells #[.int .i64 0] 3)).alloc (.cells #[.slice q t.length c] 57)).heap.size = w.heap.size + 1 + 1 := by simp
  have c0 := b0.alloc (.cells #[.slice q t.length c] 57)
  have SG := fun m => signs_in m q t.length c (w.alloc (.cells #[.int .i64 0] 3))
  have hI2 := hI.on hB2
  have hbd := uN_bd t
  refine callsIn_of_wp_marks Try.func63 rfl trivial ?_ rfl
  simp only [Try.ntmps63, List.size_toArray, List.length_cons, List.length_nil, Nat.reduceAdd, Nat.reduceSub, Array.replicate_succ, Array.replicate_zero, List.push_toArray, List.append_toArray, List.nil_append, List.cons_append]
  clear b0 hs1
  gi_wp2_with (first | (refine ⟨trivial, ?_⟩; gi_at_call 81; refine (SG _).mono ?_; rintro e W2 ⟨rfl, rfl⟩))
  generalize ((w.alloc (.cells #[.int .i64 0] 3)).alloc (.cells #[.slice q t.length c] 57)) = W3 at b2 hB2 hs3 c0 hI2 ⊢
  clear SG hB1
  have hXs := xs_lt (Bb := w.heap.size + 1) (B := W3.heap.size) hI (by omega) (by omega)
  have hXn : ¬ Xs q t (w.heap.size + 1) w.heap.size := by
    rintro (h | ⟨h1, a, h2, h3⟩)
    · omega
    · have := hI.lt a h2 h1; omega
  have SQ := signs_seq (9 - 1) (w.heap.size + 1) c q t (by omega) hc hm W3 b2.cell hI2
  obtain ⟨T, hT⟩ : ∃ T, posE (uN t) t.length 0 = T := ⟨_, rfl⟩
  rw [hT] at SQ
  refine wpIn_rangeFuncT (gf := 90) (lb := #[.pointer (some ⟨w.heap.size + 1, 0, none⟩)]) rfl (enters_of Try.func90 (by kernel_rfl) rfl) SQ (fun h k => Kq.trans h k) (Kq.putObj hXs) (Below.refl _ _) (fun _ => rfl)
    (Ig w (uN t) t.length T E (sN t)) (Igx w E) (Ig.own (by omega)) (fun c => Igx.own c (by omega)) ⟨0, by rw [← hT]; rfl, Nat.zero_le _, hE, c0, hB2, by omega⟩
    (fun x => { tmps := #[.slice q t.length c, undef, .int .i64 0, .pointer (some ⟨w.heap.size, 0, none⟩), .slice (q.map (·.add x)) (uN t x) (c - x), .slice q t.length c, .func (.func 90) #[] #[.pointer (some ⟨w.heap.size + 1, 0, none⟩)], .slice (q.map (·.add x)) (uN t x) (c - x), undef, undef, undef, undef, undef, undef, undef, undef, undef, undef, undef, undef, undef, undef, undef], defers := [] }) ?assign ?body ?done ?stop
  case assign =>
    intro m l x W K hK
    simp only [encP] at hK ⊢
    gi_wp2
    exact hK
  case body =>
    clear SQ c0 b2 hI2
    rintro m l i x W hx ⟨k, hTk, hk, hr, b0, hbW, hrm⟩
    have hTk2 := hTk
    rw [drop_at hx] at hTk2
    have hz : uN t k ≠ 0 := fun h => by rw [posE_stop h] at hTk2; cases hTk2
    rw [posE_step hbd hz] at hTk2
    injection hTk2 with h1 h2
    subst h1
    have hle : x + uN t x ≤ t.length := by rcases hbd x with h | h <;> omega
    have hlt : x < t.length := by omega
    obtain ⟨b, o, rfl, hu⟩ := (hI.on hbW).at (by omega)
    have d0 := hu x hlt
    have hzp : (0 : Int) < (uN t x : Nat) := by omega
    have FL := fun m => CallsIn.inRound l ((callsIn_wide (n := m)).2 (flow_any (iAt t x) W))
    have f0 := b0.cell
    have f1 := b0.frozen
    simp only [Option.map_some, add_plain]
    by_cases hs : iAt t x = 33
    · have hE2 : x = E := by rw [← hr]; exact (runE_stop (by unfold sN; rw [if_pos ⟨hlt, .inl hs⟩])).symm
      subst hE2
      rw [hs] at d0
      have HP : Hid (KeepsFrom W3.heap.size W W ∧ Igx w x (.exit 0) (i + 1) W) := ⟨keeps_below (Below.refl _ _), rfl, b0, hbW⟩
      clear hTk hx hr h2 hz b0 hE hT hbd hI FL hu
      generalize uN t x = z at *
      gi_wp2
      refine ⟨trivial, ?_⟩
      gi_wp2
      exact HP.out
    · have hs' : (iAt t x == 33) = false := by simpa using hs
      cases hf : flowP (iAt t x) with
      | true =>
        have hE2 : x = E := by rw [← hr]; exact (runE_stop (by unfold sN; rw [if_pos ⟨hlt, .inr hf⟩])).symm
        subst hE2
        rw [hf] at FL
        have HP : Hid (KeepsFrom W3.heap.size W W ∧ Igx w x (.exit 0) (i + 1) W) := ⟨keeps_below (Below.refl _ _), rfl, b0, hbW⟩
        clear hTk hx hr h2 hz b0 hE hT hbd hI hu hf hs
        generalize iAt t x = y at *
        generalize uN t x = z at *
        gi_wp2
        refine ⟨trivial, (fun h => by cases h), ?_⟩
        gi_at_call 82
        refine (FL _).mono ?_
        rintro e W ⟨rfl, rfl⟩
        gi_wp2
        exact HP.out
      | false =>
        rw [hf] at FL
        have hsn : sN t x = uN t x := by unfold sN; rw [if_neg (fun h => by rcases h.2 with h | h; exact hs h; rw [hf] at h; cases h)]
        have hR : runE (sN t) t.length (x + uN t x) = E := by
          rw [← hsn]
          exact (runE_step (sN_bd t) (by rw [hsn]; exact hz)).trans hr
        obtain ⟨P1, P2, P3⟩ := set1 (w := w) (B := W3.heap.size) b0 (by omega) (by omega) hbW (.int .i64 ((x + uN t x : Nat) : Int))
        have HP : Hid (KeepsFrom W3.heap.size W (W.setCell ⟨w.heap.size, 0, none⟩ (.int .i64 ((x + uN t x : Nat) : Int))) ∧ Kq (Xs (some ⟨b, o, none⟩) t (w.heap.size + 1)) W (W.setCell ⟨w.heap.size, 0, none⟩ (.int .i64 ((x + uN t x : Nat) : Int))) ∧ Ig w (uN t) t.length T E (sN t) (i + 1) (W.setCell ⟨w.heap.size, 0, none⟩ (.int .i64 ((x + uN t x : Nat) : Int)))) :=
          ⟨P2, Kq.set hXn _, x + uN t x, h2, hle, hR, P1, P3, by simp [World.setCell]; omega⟩
        have e1 : ((x + uN t x : Nat) : Int) = (x : Int) + (uN t x : Nat) := by omega
        rw [e1] at HP
        have hl1 : (x : Int) + (uN t x : Nat) ≤ 1099511627776 := by omega
        clear hTk hx hr hR h2 hz P1 P2 P3 b0 hE hT hbd hI e1 hu hf hs hsn
        generalize iAt t x = y at *
        generalize uN t x = z at *
        gi_wp2
        refine ⟨trivial, (fun h => by cases h), ?_⟩
        gi_at_call 82
        refine (FL _).mono ?_
        rintro e W ⟨rfl, rfl⟩
        gi_wp2
        exact HP.out
  case done =>
    rintro D W hD ⟨k, hTk, hk, hr, b0, hbW, hrm⟩ hK
    rw [List.drop_length] at hTk
    have hz := posE_nil hbd hTk.symm
    rw [runE_stop (sN_zero hz)] at hr
    subst hr
    have f0 := b0.cell
    clear SQ c0 b2 hE hTk hT
    gi_wp2
    refine ⟨by simp, .inl ⟨_, _, rfl, run_takeDeferred hK, ?_⟩⟩
    refine ⟨.int .i64 (k : Nat), by simp [results, Try.results63, go_sem], ?_⟩
    exact ⟨rfl, hbW.trans (belowK_b (w := w) (Nat.le_refl _) W D _ _ (by omega) hK rfl rfl)⟩
  case stop =>
    rintro D c' i W hD ⟨rfl, b0, hbW⟩ hK
    have f0 := b0.cell
    clear SQ c0 b2 hE hT
    gi_wp2
    refine ⟨by simp, .inl ⟨_, _, rfl, run_takeDeferred hK, ?_⟩⟩
    refine ⟨.int .i64 (E : Nat), by simp [results, Try.results63, go_sem], ?_⟩
    exact ⟨rfl, hbW.trans (belowK_b (w := w) (Nat.le_refl _) W D _ _ (by omega) hK rfl rfl)⟩
end Go.Proofs.Ytmeojnpehmhmoaa
