/- The iterator over the URI signs of a tag's bytes; signsSize, onlySigns and Valid. -/
import Derived.Test.YtjfeamfchgcblaaDoorBsz
import Derived.Lib.ConvBytes
set_option linter.unusedVariables false
set_option linter.unusedSimpArgs false
namespace Go.Proofs.YtjfeamfchgcblaaDoor
open Go.RowKit Go.Shelf
attribute [local go_sem] Oper.semAt_some

set_option maxRecDepth 100000 in
set_option maxHeartbeats 2000000 in
theorem signs8_1_in (n l Bb cap : Nat) (q : Option Addr) (t : List Int) (hn : t.length ≤ 1099511627776) (hcap : t.length ≤ cap) (hmx : cap ≤ maxLen) (J Jx : Nat → World → Prop) (W : World)
    (c1 : W.cell? ⟨Bb, 0, none⟩ = some (.slice q t.length cap)) (hby : By t) (hI : Bz W q t)
    (hY : ∀ (m i : Nat) (x : Nat) (W1 : World), (posE (uN t) t.length 0)[i]? = some x → J i W1 → YieldAt Fence.wide m Tryd.prog l (encP (uN t) q cap x) W1 fun e W' =>
      (e = .returned (.bool true) ∧ J (i + 1) W' ∧ Kq (Xs q t Bb) W1 W') ∨ (e = .returned (.bool false) ∧ Jx (i + 1) W')) (h0 : J 0 W) :
    CallsIn Fence.wide n Tryd.prog 49 #[.func (.yield l) #[] #[], .pointer (some ⟨Bb, 0, none⟩)] W fun e W' => (∃ v, e = .returned v) ∧ (J (posE (uN t) t.length 0).length W' ∨ ∃ i, Jx i W') := by
  have HY : Hid (∀ (m i : Nat) (x : Nat) (W1 : World), (posE (uN t) t.length 0)[i]? = some x → J i W1 → YieldAt Fence.wide m Tryd.prog l (encP (uN t) q cap x) W1 fun e W' =>
      (e = .returned (.bool true) ∧ J (i + 1) W' ∧ Kq (Xs q t Bb) W1 W') ∨ (e = .returned (.bool false) ∧ Jx (i + 1) W')) := hY
  clear hY
  obtain ⟨T, hT⟩ : ∃ T, posE (uN t) t.length 0 = T := ⟨_, rfl⟩
  rw [hT] at HY ⊢
  have HT : Hid (posE (uN t) t.length 0 = T) := hT
  clear hT
  have hbd := uN_bd t
  refine callsIn_of_wp Tryd.func49 rfl trivial ?_ rfl
  simp only [Tryd.ntmps49, List.size_toArray, List.length_cons, List.length_nil, Nat.reduceAdd, Nat.reduceSub, Array.replicate_succ, Array.replicate_zero, List.push_toArray, List.append_toArray, List.nil_append, List.cons_append]
  gi_wp2
  gi_loopw [3] (fun rv wr => ∃ (k i : Nat) (pk : Option Addr), k ≤ t.length ∧ rv = .slice pk (t.length - k) (cap - k) ∧ Hid (k < t.length → pk = q.map (·.add k)) ∧ Hid (T.drop i = posE (uN t) t.length k) ∧ i ≤ T.length ∧ J i wr ∧ Kq (Xs q t Bb) W wr) (fun rv _ => lenV rv)
  case atStart =>
    refine ⟨0, 0, q, Nat.zero_le _, rfl, fun h => ?_, HT.out.symm, Nat.zero_le _, h0, Kq.refl _ _⟩
    obtain ⟨b, o, rfl, -⟩ := hI.at h
    rw [Option.map_some, add_plain]
    rfl
  case round =>
    obtain ⟨k, i, pk, hk, rfl, hpk, hTi, hi, hJr, hkr⟩ := hrel
    have hIr := hkr.bz hI
    have hIk : Bz wr pk (t.drop k) := by
      by_cases hlt : k < t.length
      · rw [hpk.out hlt]
        obtain ⟨b, o, rfl, -⟩ := hIr.at (by omega)
        rw [Option.map_some, add_plain]
        exact hIr.drop k
      · exact .inl (List.drop_eq_nil_of_le (by omega))
    have SS := fun m => (callsIn_wide (n := m)).2 (signSize8_any pk (t.drop k) (t.length - k) (cap - k) wr (by simp) (by simp; omega) (hby.drop k) hIk)
    rw [uN_drop, Nat.add_zero] at SS
    by_cases hz : uN t k = 0
    · rw [hz] at SS
      have e0 : ((0 : Nat) : Int) = 0 := rfl
      rw [e0] at SS
      have hTl : i = T.length := by
        have := hTi.out
        rw [posE_stop hz] at this
        have := List.drop_eq_nil_iff.1 this
        omega
      subst hTl
      clear HY hIr hIk hpk hTi hz
      gi_wp2
      refine ⟨trivial, (fun h => by cases h), ?_⟩
      gi_at_call 50
      refine (SS _).mono ?_
      rintro e wr ⟨rfl, rfl⟩
      gi_wp2
      refine ⟨(fun g h => by cases h), ?_⟩
      gi_wp2
      refine bodyPost_ret (results_none rfl _ _ _) rfl ?_
      exact ⟨⟨_, rfl⟩, .inl hJr⟩
    · have hle : k + uN t k ≤ t.length := by rcases hbd k with h | h <;> omega
      have hlt : k < t.length := by omega
      obtain ⟨b, o, rfl, hu⟩ := hI.at (by omega)
      have hp := hpk.out hlt
      rw [Option.map_some, add_plain] at hp
      subst hp
      have hTi2 := hTi.out
      rw [posE_step hbd hz] at hTi2
      obtain ⟨hx, hT3, hil⟩ := drop_cons hTi2
      have Y := HY.out (n - 1) i k wr hx hJr
      unfold encP at Y
      rw [Option.map_some, add_plain] at Y
      have HT3 : Hid (T.drop (i + 1) = posE (uN t) t.length (k + uN t k)) := hT3
      have hnz : ((uN t k : Nat) : Int) == 0 → False := by simp; exact hz
      have hnz' : (((uN t k : Nat) : Int) == 0) = false := by simpa using hz
      obtain ⟨r, hr⟩ : ∃ r, t.length - k = r := ⟨_, rfl⟩
      obtain ⟨cp, hcp⟩ : ∃ cp, cap - k = cp := ⟨_, rfl⟩
      obtain ⟨m, hm⟩ : ∃ m, uN t k = m := ⟨_, rfl⟩
      rw [hcp, hm] at Y
      rw [hr, hcp, hm] at SS
      rw [hm] at HT3 hnz' hle hz
      rw [hr, hcp]
      have hm1 : (m : Int) ≤ cp := by omega
      have hm2 : (m : Int) ≤ r := by omega
      have hm3 : (r : Int) ≤ cp := by omega
      have hm4 : (cp : Int) ≤ 9223372036854775807 := by unfold maxLen at hmx; omega
      obtain ⟨fn, tmps, assign, body, hy, hR⟩ := Y
      clear HY hIr hIk hpk hTi hTi2 hT3 hu hI hnz hbd
      have hr' : Hid (t.length - k = r) := hr
      have hcp' : Hid (cap - k = cp) := hcp
      have hm' : Hid (uN t k = m) := hm
      clear hr hcp hm
      gi_wp2
      refine ⟨trivial, (fun h => by cases h), ?_⟩
      gi_at_call 50
      refine (SS _).mono ?_
      rintro e wr ⟨rfl, rfl⟩
      gi_wp2
      refine ⟨(fun h => by cases h), hR.mono ?_⟩
      rintro e3 W3 (⟨rfl, hJ3, hk3⟩ | ⟨rfl, hJx3⟩)
      · clear hR hy
        by_cases hcm : cp = m
        · gi_wp2
          go_roundw
          case rel =>
            refine ⟨k + m, i + 1, some ⟨b, o + k, none⟩, hle, ?_, fun h => ?_, HT3, hil, hJ3, hkr.trans hk3⟩
            · rw [← Nat.sub_sub, ← Nat.sub_sub, hr'.out, hcp'.out, show cp - m = 0 by omega]
            · have := hr'.out
              have := hcp'.out
              omega
          case measure => simp only [lenV]; omega
        · gi_wp2
          go_roundw
          case rel =>
            refine ⟨k + m, i + 1, some ⟨b, o + k + m, none⟩, hle, ?_, fun h => ?_, HT3, hil, hJ3, hkr.trans hk3⟩
            · rw [← Nat.sub_sub, ← Nat.sub_sub, hr'.out, hcp'.out]
            · rw [Option.map_some, add_plain, Nat.add_assoc]
          case measure => simp only [lenV]; omega
      · clear hR hy
        gi_wp2
        refine bodyPost_ret (results_none rfl _ _ _) rfl ?_
        exact ⟨⟨_, rfl⟩, .inr ⟨_, hJx3⟩⟩

theorem signs8_seq (n Bb cap : Nat) (q : Option Addr) (t : List Int) (hn : t.length ≤ 1099511627776) (hcap : t.length ≤ cap) (hmx : cap ≤ maxLen) (w : World) (c1 : w.cell? ⟨Bb, 0, none⟩ = some (.slice q t.length cap)) (hby : By t) (hI : Bz w q t) :
    SeqT n Tryd.prog 49 #[.pointer (some ⟨Bb, 0, none⟩)] (encP (uN t) q cap) (posE (uN t) t.length 0) (Kq (Xs q t Bb)) w := fun l J Jx W hW _ hJ hJx hY h0 =>
  signs8_1_in n l Bb cap q t hn hcap hmx J Jx W ((hW.cell (p := ⟨Bb, 0, none⟩) (World.block_lt_of_cell? w _ c1)).trans c1) hby (hI.on hW) hY h0

set_option maxHeartbeats 1000000 in
theorem signs8_in (n : Nat) (p : Option Addr) (len cap : Nat) (w : World) :
    CallsIn Fence.wide n Tryd.prog 47 #[.slice p len cap] w fun e w' => e = .returned (.func (.func 49) #[] #[.pointer (some ⟨w.heap.size, 0, none⟩)]) ∧ w' = w.alloc (.cells #[.slice p len cap] 69) := by
  refine callsIn_of_wp Tryd.func47 rfl trivial ?_ rfl
  simp only [Tryd.ntmps47, List.size_toArray, List.length_cons, List.length_nil, Nat.reduceAdd, Nat.reduceSub, Array.replicate_succ, Array.replicate_zero, List.push_toArray, List.append_toArray, List.nil_append, List.cons_append]
  gi_wp2
  go_ret
  exact ⟨rfl, rfl⟩

set_option maxRecDepth 100000 in
set_option maxHeartbeats 2000000 in
theorem signsSize8_any (q : Option Addr) (t : List Int) (n c : Nat) (w : World) (hl : n = t.length) (hn : t.length ≤ 1099511627776) (hc : t.length ≤ c) (hm : c ≤ maxLen) (hby : By t) (hI : Bz w q t) :
    Calls Tryd.prog 42 #[.slice q n c] w fun e w' => e = .returned (.int .i64 (runE (uN t) t.length 0 : Nat)) ∧ Below w.heap.size w w' := by
  subst hl
  obtain ⟨E, hE⟩ : ∃ E, runE (uN t) t.length 0 = E := ⟨_, rfl⟩
  rw [hE]
  refine (callsIn_wide (n := 9)).1 ?_
  have b0 := Boxed.new w 3 (.int .i64 0)
  have b2 := Boxed.new (w.alloc (.cells #[.int .i64 0] 3)) 69 (.slice q t.length c)
  have hs1 : (w.alloc (.cells #[.int .i64 0] 3)).heap.size = w.heap.size + 1 := by simp
  rw [hs1] at b2
  have hB1 := (Below.refl w.heap.size w).alloc (Nat.le_refl _) (.cells #[.int .i64 0] 3)
  have hB2 := hB1.alloc (by simp) (.cells #[.slice q t.length c] 69)
  have hs3 : ((w.alloc (.cells #[.int .i64 0] 3)).alloc (.cells #[.slice q t.length c] 69)).heap.size = w.heap.size + 1 + 1 := by simp
  have c0 := b0.alloc (.cells #[.slice q t.length c] 69)
  have SG := fun m => signs8_in m q t.length c (w.alloc (.cells #[.int .i64 0] 3))
  have hI2 := hI.on hB2
  have hbd := uN_bd t
  refine callsIn_of_wp_marks Tryd.func42 rfl trivial ?_ rfl
  simp only [Tryd.ntmps42, List.size_toArray, List.length_cons, List.length_nil, Nat.reduceAdd, Nat.reduceSub, Array.replicate_succ, Array.replicate_zero, List.push_toArray, List.append_toArray, List.nil_append, List.cons_append]
  clear b0 hs1
  gi_wp2_with (first | (refine ⟨trivial, ?_⟩; gi_at_call 47; refine (SG _).mono ?_; rintro e W2 ⟨rfl, rfl⟩))
  generalize ((w.alloc (.cells #[.int .i64 0] 3)).alloc (.cells #[.slice q t.length c] 69)) = W3 at b2 hB2 hs3 c0 hI2 ⊢
  clear SG hB1
  have hXs := xs_ltz (Bb := w.heap.size + 1) (B := W3.heap.size) hI (by omega) (by omega)
  have hXn : ¬ Xs q t (w.heap.size + 1) w.heap.size := by
    rintro (h | ⟨h1, a, h2, h3⟩)
    · omega
    · have := hI.lt a h2 h1; omega
  have SQ := signs8_seq (9 - 1) (w.heap.size + 1) c q t (by omega) hc hm W3 b2.cell hby hI2
  obtain ⟨T, hT⟩ : ∃ T, posE (uN t) t.length 0 = T := ⟨_, rfl⟩
  rw [hT] at SQ
  refine wpIn_rangeFuncT (gf := 49) (lb := #[.pointer (some ⟨w.heap.size + 1, 0, none⟩)]) rfl (enters_of Tryd.func49 (by kernel_rfl) rfl) SQ (fun h k => Kq.trans h k) (Kq.putObj hXs) (Below.refl _ _) (fun _ => rfl)
    (Ig w (uN t) t.length T E (uN t)) (fun _ _ _ => False) (Ig.own (by omega)) (fun c _ _ _ _ h _ _ => h) ⟨0, by rw [← hT]; rfl, Nat.zero_le _, hE, c0, hB2, by omega⟩
    (fun x => { tmps := #[.slice q t.length c, undef, .int .i64 0, .pointer (some ⟨w.heap.size, 0, none⟩), .slice (q.map (·.add x)) (uN t x) (c - x), .slice q t.length c, .func (.func 49) #[] #[.pointer (some ⟨w.heap.size + 1, 0, none⟩)], .slice (q.map (·.add x)) (uN t x) (c - x), undef, undef, undef, undef, undef], defers := [] }) ?assign ?body ?done ?stop
  case assign =>
    intro m l x W K hK
    simp only [encP] at hK ⊢
    gi_wp2
    exact hK
  case body =>
    clear SQ c0 b2 hI2
    rintro m l i x W hx ⟨k, hTk, hk, hr, b0, hbW, hrm⟩
    have hTk2 := hTk
    rw [drop_at hx] at hTk2
    have hz : uN t k ≠ 0 := fun h => by rw [posE_stop h] at hTk2; cases hTk2
    rw [posE_step hbd hz] at hTk2
    injection hTk2 with h1 h2
    subst h1
    have hle : x + uN t x ≤ t.length := by rcases hbd x with h | h <;> omega
    have hR : runE (uN t) t.length (x + uN t x) = E := (runE_step hbd hz).trans hr
    obtain ⟨P1, P2, P3⟩ := set1 (w := w) (B := W3.heap.size) b0 (by omega) (by omega) hbW (.int .i64 ((x + uN t x : Nat) : Int))
    have HP : Hid (KeepsFrom W3.heap.size W (W.setCell ⟨w.heap.size, 0, none⟩ (.int .i64 ((x + uN t x : Nat) : Int))) ∧ Kq (Xs q t (w.heap.size + 1)) W (W.setCell ⟨w.heap.size, 0, none⟩ (.int .i64 ((x + uN t x : Nat) : Int))) ∧ Ig w (uN t) t.length T E (uN t) (i + 1) (W.setCell ⟨w.heap.size, 0, none⟩ (.int .i64 ((x + uN t x : Nat) : Int)))) :=
      ⟨P2, Kq.set hXn _, x + uN t x, h2, hle, hR, P1, P3, by simp [World.setCell]; omega⟩
    have f0 := b0.cell
    have f1 := b0.frozen
    have e1 : ((x + uN t x : Nat) : Int) = (x : Int) + (uN t x : Nat) := by omega
    rw [e1] at HP
    have hl1 : (x : Int) + (uN t x : Nat) ≤ 1099511627776 := by omega
    clear hTk hx hr hR h2 hz P1 P2 P3 b0 hE hT hbd hI e1
    generalize uN t x = z at *
    gi_wp2
    exact HP.out
  case done =>
    rintro D W hD ⟨k, hTk, hk, hr, b0, hbW, hrm⟩ hK
    rw [List.drop_length] at hTk
    have hz := posE_nil hbd hTk.symm
    rw [runE_stop hz] at hr
    subst hr
    have f0 := b0.cell
    clear SQ c0 b2 hE hTk hT
    gi_wp2
    refine ⟨by simp, .inl ⟨_, _, rfl, run_takeDeferred hK, ?_⟩⟩
    refine ⟨.int .i64 (k : Nat), by simp [results, Tryd.results42, go_sem], ?_⟩
    exact ⟨rfl, hbW.trans (belowK_b (w := w) (Nat.le_refl _) W D _ _ (by omega) hK rfl rfl)⟩
  case stop =>
    rintro D c' i W hD h
    exact h.elim

set_option maxRecDepth 100000 in
set_option maxHeartbeats 1000000 in
theorem onlySigns8_any (q : Option Addr) (t : List Int) (n c : Nat) (w : World) (hl : n = t.length) (hn : t.length ≤ 1099511627776) (hc : t.length ≤ c) (hm : c ≤ maxLen) (hby : By t) (hI : Bz w q t) :
    Calls Tryd.prog 39 #[.slice q n c] w fun e w' => e = .returned (.bool (decide (0 < t.length ∧ runE (uN t) t.length 0 = t.length))) ∧ Below w.heap.size w w' := by
  have SS := signsSize8_any q t n c w hl hn hc hm hby hI
  subst hl
  have hE := runE_le (uN_bd t) (Nat.zero_le t.length)
  generalize runE (uN t) t.length 0 = E at *
  have hn2 : (t.length : Int) ≤ 1099511627776 := by omega
  by_cases h0 : 0 < t.length
  · have h0' : (0 : Int) < t.length := by omega
    by_cases h1 : E = t.length
    · rw [decide_eq_true ⟨h0, h1⟩]
      rw [h1] at SS
      go_enter Tryd.func39, Tryd.ntmps39
      go_wp2_with (first | (go_at_call 42; refine SS.mono ?_; rintro e W ⟨rfl, hB⟩))
      go_ret
      exact ⟨rfl, hB⟩
    · rw [decide_eq_false (fun h => h1 h.2)]
      have h1' : ((E : Int) == (t.length : Int)) = false := by simp; omega
      go_enter Tryd.func39, Tryd.ntmps39
      go_wp2_with (first | (go_at_call 42; refine SS.mono ?_; rintro e W ⟨rfl, hB⟩))
      go_ret
      exact ⟨rfl, hB⟩
  · rw [decide_eq_false (fun h => h0 h.1)]
    have h0' : t.length = 0 := by omega
    rw [h0']
    have e0 : ((0 : Nat) : Int) = 0 := rfl
    clear SS
    go_enter Tryd.func39, Tryd.ntmps39
    go_wp2
    go_ret
    exact ⟨rfl, Below.refl _ _⟩
end Go.Proofs.YtjfeamfchgcblaaDoor
