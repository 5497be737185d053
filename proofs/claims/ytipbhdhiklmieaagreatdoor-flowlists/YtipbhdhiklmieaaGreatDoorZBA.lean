/- How many code points the URI signs of a line have: signsSize, onlySigns, suffix. -/
import Derived.Test.YtipbhdhiklmieaaGreatDoorZAZ
import Derived.OwnWalk
import Derived.Lib.ConvBytes
set_option linter.all false
set_option maxRecDepth 100000
set_option maxHeartbeats 2000000
namespace Go.Proofs.YtipbhdhiklmieaaGreatDoor.P11
open Go.RowKit Go.Shelf
attribute [local go_sem] Oper.semAt_some
def Ig (w : World) (n : Nat -> Nat) (L : Nat) (T : List Nat) (E : Nat) (n' : Nat -> Nat) (i : Nat) (W : World) : Prop :=
 ∃ k, T.drop i = posE n L k /\ k <= L /\ runE n' L k = E /\ Boxed W w.heap.size 3 (.int .i64 (k : Nat)) /\ Below w.heap.size w W /\ w.heap.size + 2 <= W.heap.size
def Igx (w : World) (E : Nat) (c : Code) (i : Nat) (W : World) : Prop :=
 c = .exit 0 /\ Boxed W w.heap.size 3 (.int .i64 (E : Nat)) /\ Below w.heap.size w W
theorem Ig.own {w : World} {n : Nat -> Nat} {L : Nat} {T : List Nat} {E : Nat} {n' : Nat -> Nat} {B : Nat} (hB : w.heap.size <= B) : OwnFrom B (Ig w n L T E n') := by
 rintro s W W' row ⟨k, h1, h2, h3, h4, h5, h6⟩ hgr hr
 exact ⟨k, h1, h2, h3, boxed_own' h4 hgr hr, h5.grown hgr h5.size (fun k e => by have := (hr k e).1; omega), Nat.le_trans h6 hgr.size⟩
theorem Igx.own {w : World} {E : Nat} (c : Code) {B : Nat} (hB : w.heap.size <= B) : OwnFrom B (Igx w E c) := by
 rintro s W W' row ⟨h1, h2, h4⟩ hgr hr
 exact ⟨h1, boxed_own' h2 hgr hr, h4.grown hgr h4.size (fun k e => by have := (hr k e).1; omega)⟩
theorem signsSize_any (q : Option Addr) (t : List Int) (n c : Nat) (w : World) (hl : n = t.length) (hn : t.length <= 1099511627776) (hc : t.length <= c) (hm : c <= maxLen) (hI : Is w q t) :
  Calls Tryz.prog 173 #[.slice q n c] w fun e w' => e = .returned (.int .i64 (runE (uN t) t.length 0 : Nat)) /\ Below w.heap.size w w' := by
 subst hl
 obtain ⟨E, hE⟩ : ∃ E, runE (uN t) t.length 0 = E := ⟨_, rfl⟩
 rw [hE]
 refine (callsIn_wide (n := 9)).1 ?_
 have b0 := Boxed.new w 3 (.int .i64 0)
 have b2 := Boxed.new (w.alloc (.cells #[.int .i64 0] 3)) 41 (.slice q t.length c)
 have hs1 : (w.alloc (.cells #[.int .i64 0] 3)).heap.size = w.heap.size + 1 := by simp
 rw [hs1] at b2
 have hB1 := (Below.refl w.heap.size w).alloc (Nat.le_refl _) (.cells #[.int .i64 0] 3)
 have hB2 := hB1.alloc (by simp) (.cells #[.slice q t.length c] 41)
 have hs3 : ((w.alloc (.cells #[.int .i64 0] 3)).alloc (.cells #[.slice q t.length c] 41)).heap.size = w.heap.size + 1 + 1 := by simp
 have c0 := b0.alloc (.cells #[.slice q t.length c] 41)
 have SG := fun m => signs_in m q t.length c (w.alloc (.cells #[.int .i64 0] 3))
 have hI2 := hI.on hB2
 have hbd := uN_bd t
 refine callsIn_of_wp_marks Tryz.func173 rfl trivial ?_ rfl
 simp only [Tryz.ntmps173, frm, Nat.reduceAdd, Nat.reduceSub]
 clear b0 hs1
 gi_wp2_with (first | (refine ⟨trivial, ?_⟩; gi_at_call 175; refine (SG _).mono ?_; rintro e W2 ⟨rfl, rfl⟩))
 generalize ((w.alloc (.cells #[.int .i64 0] 3)).alloc (.cells #[.slice q t.length c] 41)) = W3 at b2 hB2 hs3 c0 hI2 |-
 clear SG hB1
 have hXs := xs_lt (Bb := w.heap.size + 1) (B := W3.heap.size) hI (by omega) (by omega)
 have hXn : ¬ Xs q t (w.heap.size + 1) w.heap.size := by
  rintro (h | ⟨h1, a, h2, h3⟩)
  ·omega
  ·have := hI.lt a h2 h1; omega
 have SQ := signs_seq (9 - 1) (w.heap.size + 1) c q t (by omega) hc hm W3 b2.cell hI2
 obtain ⟨T, hT⟩ : ∃ T, posE (uN t) t.length 0 = T := ⟨_, rfl⟩
 rw [hT] at SQ
 refine wpIn_rangeFuncT (gf := 193) (lb := #[.pointer (some ⟨w.heap.size + 1, 0, none⟩)]) rfl (enters_of Tryz.func193 (by kernel_rfl) rfl) SQ (fun h k => Kq.trans h k) (Kq.putObj hXs) (Below.refl _ _) (fun _ => rfl)
  (Ig w (uN t) t.length T E (uN t)) (fun _ _ _ => False) (Ig.own (by omega)) (fun c _ _ _ _ h _ _ => h) ⟨0, by rw [<- hT]; rfl, Nat.zero_le _, hE, c0, hB2, by omega⟩
  (fun x => { tmps := #[.slice q t.length c, undef, .int .i64 0, .pointer (some ⟨w.heap.size, 0, none⟩), .slice (q.map (·.add x)) (uN t x) (c - x), .slice q t.length c, .func (.func 193) #[] #[.pointer (some ⟨w.heap.size + 1, 0, none⟩)], .slice (q.map (·.add x)) (uN t x) (c - x), undef, undef, undef, undef, undef], defers := [] }) ?assign ?body ?done ?stop
 case assign =>
  intro m l x W K hK
  simp only [encP] at hK |-
  gi_wp2
  exact hK
 case body =>
  clear SQ c0 b2 hI2
  rintro m l i x W hx ⟨k, hTk, hk, hr, b0, hbW, hrm⟩
  have hTk2 := hTk
  rw [drop_at hx] at hTk2
  have hz : uN t k ≠ 0 := fun h => by rw [posE_stop h] at hTk2; cases hTk2
  rw [posE_step hbd hz] at hTk2
  injection hTk2 with h1 h2
  subst h1
  have hle : x + uN t x <= t.length := by rcases hbd x with h | h <;> omega
  have hR : runE (uN t) t.length (x + uN t x) = E := (runE_step hbd hz).trans hr
  obtain ⟨P1, P2, P3⟩ := set1 (w := w) (B := W3.heap.size) b0 (by omega) (by omega) hbW (.int .i64 ((x + uN t x : Nat) : Int))
  have HP : Hid (KeepsFrom W3.heap.size W (W.setCell ⟨w.heap.size, 0, none⟩ (.int .i64 ((x + uN t x : Nat) : Int))) /\ Kq (Xs q t (w.heap.size + 1)) W (W.setCell ⟨w.heap.size, 0, none⟩ (.int .i64 ((x + uN t x : Nat) : Int))) /\ Ig w (uN t) t.length T E (uN t) (i + 1) (W.setCell ⟨w.heap.size, 0, none⟩ (.int .i64 ((x + uN t x : Nat) : Int)))) :=
   ⟨P2, Kq.set hXn _, x + uN t x, h2, hle, hR, P1, P3, by simp [World.setCell]; omega⟩
  have f0 := b0.cell
  have f1 := b0.frozen
  have e1 : ((x + uN t x : Nat) : Int) = (x : Int) + (uN t x : Nat) := by omega
  rw [e1] at HP
  have hl1 : (x : Int) + (uN t x : Nat) <= 1099511627776 := by omega
  clear hTk hx hr hR h2 hz P1 P2 P3 b0 hE hT hbd hI e1
  generalize uN t x = z at *
  gi_wp2
  exact HP.out
 case done =>
  rintro D W hD ⟨k, hTk, hk, hr, b0, hbW, hrm⟩ hK
  rw [List.drop_length] at hTk
  have hz := posE_nil hbd hTk.symm
  rw [runE_stop hz] at hr
  subst hr
  have f0 := b0.cell
  clear SQ c0 b2 hE hTk hT
  gi_wp2
  refine ⟨by simp, .inl ⟨_, _, rfl, run_takeDeferred hK, ?_⟩⟩
  refine ⟨.int .i64 (k : Nat), by simp [results, Tryz.results173, go_sem], ?_⟩
  exact ⟨rfl, hbW.trans (belowK_b (w := w) (Nat.le_refl _) W D _ _ (by omega) hK rfl rfl)⟩
 case stop =>
  rintro D c' i W hD h
  exact h.elim
def sN (t : List Int) (k : Nat) : Nat := if k < t.length /\ (iAt t k = 33 \/ flowP (iAt t k) = true) then 0 else uN t k
theorem sN_bd (t : List Int) : Bd (sN t) t.length := by
 intro k
 unfold sN
 split
 ·exact .inl rfl
 ·exact uN_bd t k
theorem sN_zero {t : List Int} {k : Nat} (h : uN t k = 0) : sN t k = 0 := by
 unfold sN
 split
 ·rfl
 ·exact h
theorem sN_drop (t : List Int) (a j : Nat) : sN (t.drop a) j = sN t (a + j) := by
 unfold sN
 rw [iAt_drop, uN_drop, List.length_drop]
 have h2 : (j < t.length - a) = (a + j < t.length) := by rw [eq_iff_iff]; omega
 simp only [h2]
theorem suffix_any (q : Option Addr) (t : List Int) (n c : Nat) (w : World) (hl : n = t.length) (hn : t.length <= 1099511627776) (hc : t.length <= c) (hm : c <= maxLen) (hI : Is w q t) :
  Calls Tryz.prog 149 #[.slice q n c] w fun e w' => e = .returned (.int .i64 (runE (sN t) t.length 0 : Nat)) /\ Below w.heap.size w w' := by
 subst hl
 obtain ⟨E, hE⟩ : ∃ E, runE (sN t) t.length 0 = E := ⟨_, rfl⟩
 rw [hE]
 refine (callsIn_wide (n := 9)).1 ?_
 have b0 := Boxed.new w 3 (.int .i64 0)
 have b2 := Boxed.new (w.alloc (.cells #[.int .i64 0] 3)) 41 (.slice q t.length c)
 have hs1 : (w.alloc (.cells #[.int .i64 0] 3)).heap.size = w.heap.size + 1 := by simp
 rw [hs1] at b2
 have hB1 := (Below.refl w.heap.size w).alloc (Nat.le_refl _) (.cells #[.int .i64 0] 3)
 have hB2 := hB1.alloc (by simp) (.cells #[.slice q t.length c] 41)
 have hs3 : ((w.alloc (.cells #[.int .i64 0] 3)).alloc (.cells #[.slice q t.length c] 41)).heap.size = w.heap.size + 1 + 1 := by simp
 have c0 := b0.alloc (.cells #[.slice q t.length c] 41)
 have SG := fun m => signs_in m q t.length c (w.alloc (.cells #[.int .i64 0] 3))
 have hI2 := hI.on hB2
 have hbd := uN_bd t
 refine callsIn_of_wp_marks Tryz.func149 rfl trivial ?_ rfl
 simp only [Tryz.ntmps149, frm, Nat.reduceAdd, Nat.reduceSub]
 clear b0 hs1
 gi_wp2_with (first | (refine ⟨trivial, ?_⟩; gi_at_call 175; refine (SG _).mono ?_; rintro e W2 ⟨rfl, rfl⟩))
 generalize ((w.alloc (.cells #[.int .i64 0] 3)).alloc (.cells #[.slice q t.length c] 41)) = W3 at b2 hB2 hs3 c0 hI2 |-
 clear SG hB1
 have hXs := xs_lt (Bb := w.heap.size + 1) (B := W3.heap.size) hI (by omega) (by omega)
 have hXn : ¬ Xs q t (w.heap.size + 1) w.heap.size := by
  rintro (h | ⟨h1, a, h2, h3⟩)
  ·omega
  ·have := hI.lt a h2 h1; omega
 have SQ := signs_seq (9 - 1) (w.heap.size + 1) c q t (by omega) hc hm W3 b2.cell hI2
 obtain ⟨T, hT⟩ : ∃ T, posE (uN t) t.length 0 = T := ⟨_, rfl⟩
 rw [hT] at SQ
 refine wpIn_rangeFuncT (gf := 193) (lb := #[.pointer (some ⟨w.heap.size + 1, 0, none⟩)]) rfl (enters_of Tryz.func193 (by kernel_rfl) rfl) SQ (fun h k => Kq.trans h k) (Kq.putObj hXs) (Below.refl _ _) (fun _ => rfl)
  (Ig w (uN t) t.length T E (sN t)) (Igx w E) (Ig.own (by omega)) (fun c => Igx.own c (by omega)) ⟨0, by rw [<- hT]; rfl, Nat.zero_le _, hE, c0, hB2, by omega⟩
  (fun x => { tmps := #[.slice q t.length c, undef, .int .i64 0, .pointer (some ⟨w.heap.size, 0, none⟩), .slice (q.map (·.add x)) (uN t x) (c - x), .slice q t.length c, .func (.func 193) #[] #[.pointer (some ⟨w.heap.size + 1, 0, none⟩)], .slice (q.map (·.add x)) (uN t x) (c - x), undef, undef, undef, undef, undef, undef, undef, undef, undef, undef, undef, undef, undef, undef, undef], defers := [] }) ?assign ?body ?done ?stop
 case assign =>
  intro m l x W K hK
  simp only [encP] at hK |-
  gi_wp2
  exact hK
 case body =>
  clear SQ c0 b2 hI2
  rintro m l i x W hx ⟨k, hTk, hk, hr, b0, hbW, hrm⟩
  have hTk2 := hTk
  rw [drop_at hx] at hTk2
  have hz : uN t k ≠ 0 := fun h => by rw [posE_stop h] at hTk2; cases hTk2
  rw [posE_step hbd hz] at hTk2
  injection hTk2 with h1 h2
  subst h1
  have hle : x + uN t x <= t.length := by rcases hbd x with h | h <;> omega
  have hlt : x < t.length := by omega
  obtain ⟨b, o, rfl, hu⟩ := (hI.on hbW).at (by omega)
  have d0 := hu x hlt
  have hzp : (0 : Int) < (uN t x : Nat) := by omega
  have FL := fun m => CallsIn.inRound l ((callsIn_wide (n := m)).2 (flow_any (iAt t x) W))
  have f0 := b0.cell
  have f1 := b0.frozen
  simp only [Option.map_some, add_plain]
  by_cases hs : iAt t x = 33
  ·have hE2 : x = E := by rw [<- hr]; exact (runE_stop (by unfold sN; rw [if_pos ⟨hlt, .inl hs⟩])).symm
   subst hE2
   rw [hs] at d0
   have HP : Hid (KeepsFrom W3.heap.size W W /\ Igx w x (.exit 0) (i + 1) W) := ⟨keeps_below (Below.refl _ _), rfl, b0, hbW⟩
   clear hTk hx hr h2 hz b0 hE hT hbd hI FL hu
   generalize uN t x = z at *
   gi_wp2
   refine ⟨trivial, ?_⟩
   gi_wp2
   exact HP.out
  ·have hs' : (iAt t x == 33) = false := by simpa using hs
   cases hf : flowP (iAt t x) with
   | true =>
    have hE2 : x = E := by rw [<- hr]; exact (runE_stop (by unfold sN; rw [if_pos ⟨hlt, .inr hf⟩])).symm
    subst hE2
    rw [hf] at FL
    have HP : Hid (KeepsFrom W3.heap.size W W /\ Igx w x (.exit 0) (i + 1) W) := ⟨keeps_below (Below.refl _ _), rfl, b0, hbW⟩
    clear hTk hx hr h2 hz b0 hE hT hbd hI hu hf hs
    generalize iAt t x = y at *
    generalize uN t x = z at *
    gi_wp2
    refine ⟨trivial, (fun h => by cases h), ?_⟩
    gi_at_call 155
    refine (FL _).mono ?_
    rintro e W ⟨rfl, rfl⟩
    gi_wp2
    exact HP.out
   | false =>
    rw [hf] at FL
    have hsn : sN t x = uN t x := by unfold sN; rw [if_neg (fun h => by rcases h.2 with h | h; exact hs h; rw [hf] at h; cases h)]
    have hR : runE (sN t) t.length (x + uN t x) = E := by
     rw [<- hsn]
     exact (runE_step (sN_bd t) (by rw [hsn]; exact hz)).trans hr
    obtain ⟨P1, P2, P3⟩ := set1 (w := w) (B := W3.heap.size) b0 (by omega) (by omega) hbW (.int .i64 ((x + uN t x : Nat) : Int))
    have HP : Hid (KeepsFrom W3.heap.size W (W.setCell ⟨w.heap.size, 0, none⟩ (.int .i64 ((x + uN t x : Nat) : Int))) /\ Kq (Xs (some ⟨b, o, none⟩) t (w.heap.size + 1)) W (W.setCell ⟨w.heap.size, 0, none⟩ (.int .i64 ((x + uN t x : Nat) : Int))) /\ Ig w (uN t) t.length T E (sN t) (i + 1) (W.setCell ⟨w.heap.size, 0, none⟩ (.int .i64 ((x + uN t x : Nat) : Int)))) :=
     ⟨P2, Kq.set hXn _, x + uN t x, h2, hle, hR, P1, P3, by simp [World.setCell]; omega⟩
    have e1 : ((x + uN t x : Nat) : Int) = (x : Int) + (uN t x : Nat) := by omega
    rw [e1] at HP
    have hl1 : (x : Int) + (uN t x : Nat) <= 1099511627776 := by omega
    clear hTk hx hr hR h2 hz P1 P2 P3 b0 hE hT hbd hI e1 hu hf hs hsn
    generalize iAt t x = y at *
    generalize uN t x = z at *
    gi_wp2
    refine ⟨trivial, (fun h => by cases h), ?_⟩
    gi_at_call 155
    refine (FL _).mono ?_
    rintro e W ⟨rfl, rfl⟩
    gi_wp2
    exact HP.out
 case done =>
  rintro D W hD ⟨k, hTk, hk, hr, b0, hbW, hrm⟩ hK
  rw [List.drop_length] at hTk
  have hz := posE_nil hbd hTk.symm
  rw [runE_stop (sN_zero hz)] at hr
  subst hr
  have f0 := b0.cell
  clear SQ c0 b2 hE hTk hT
  gi_wp2
  refine ⟨by simp, .inl ⟨_, _, rfl, run_takeDeferred hK, ?_⟩⟩
  refine ⟨.int .i64 (k : Nat), by simp [results, Tryz.results149, go_sem], ?_⟩
  exact ⟨rfl, hbW.trans (belowK_b (w := w) (Nat.le_refl _) W D _ _ (by omega) hK rfl rfl)⟩
 case stop =>
  rintro D c' i W hD ⟨rfl, b0, hbW⟩ hK
  have f0 := b0.cell
  clear SQ c0 b2 hE hT
  gi_wp2
  refine ⟨by simp, .inl ⟨_, _, rfl, run_takeDeferred hK, ?_⟩⟩
  refine ⟨.int .i64 (E : Nat), by simp [results, Tryz.results149, go_sem], ?_⟩
  exact ⟨rfl, hbW.trans (belowK_b (w := w) (Nat.le_refl _) W D _ _ (by omega) hK rfl rfl)⟩
end Go.Proofs.YtipbhdhiklmieaaGreatDoor.P11
namespace Go.Proofs.YtipbhdhiklmieaaGreatDoor.P11
open Go.RowKit Go.Shelf
theorem slice_mid (b o len cap m e : Nat) (h1 : m <= e) (h2 : e <= cap) (hc : m < cap) (w2 : World) :
  (Instr.slice 41 (.slice (some ⟨b, o, none⟩) len cap) (some (.int .i64 m)) (some (.int .i64 e)) none).run Tryz.prog w2 = .ok (.slice (some ⟨b, o + m, none⟩) (e - m) (cap - m)) w2 := by
 have h0 : (m : Int) <= e := by omega
 have h3 : (e : Int) <= cap := by omega
 have h4 : ¬ cap = m := by omega
 have u := Tryz.underlying41
 have z := Tryz.sizeOf3
 simp [go_sem, h0, h3, h4, add_plain]
def triV (s : ByteArray) (n : Nat) (ok : Bool) : Value := .tuple #[.string s, .int .i64 n, .bool ok]
def ancV (t : List Int) : Value := triV (txt (t.take (cnt nameP t))) (cnt nameP t) (decide (0 < cnt nameP t))
theorem Anchor_any (q : Option Addr) (t : List Int) (n c : Nat) (w : World) (hl : n = t.length) (hn : t.length <= 1000000) (hc : t.length <= c) (hm : c <= maxLen) (hI : Is w q t) :
  Calls Tryz.prog 100 #[.slice q n c] w fun e w' => e = .returned (ancV t) /\ Below w.heap.size w w' := by
 have CN := count_name q t n c w hl (by omega) hI
 subst hl
 unfold ancV triV
 have hE := cnt_le nameP t
 have hS := slice_to q t.length c (cnt nameP t) (by omega)
 have TX := text_any q (t.take (cnt nameP t)) (cnt nameP t) c w (by simp; omega) (by simp; omega) (hI.take _)
 generalize txt (t.take (cnt nameP t)) = s at TX |-
 generalize cnt nameP t = E at *
 by_cases h0 : 0 < E
 ·rw [decide_eq_true h0]
  have h0' : (0 : Int) < E := by omega
  go_enter Tryz.func100, Tryz.ntmps100
  go_wp2_with (first | (go_at_call 144; refine CN.mono ?_; rintro e w ⟨rfl, rfl⟩) | (go_at_call 146; refine TX.mono ?_; rintro e W ⟨rfl, hB⟩))
  go_ret3
  exact ⟨rfl, hB⟩
 ·rw [decide_eq_false h0]
  have h0' : ¬ (0 : Int) < E := by omega
  go_enter Tryz.func100, Tryz.ntmps100
  go_wp2_with (first | (go_at_call 144; refine CN.mono ?_; rintro e w ⟨rfl, rfl⟩) | (go_at_call 146; refine TX.mono ?_; rintro e W ⟨rfl, hB⟩))
  go_ret3
  exact ⟨rfl, hB⟩
theorem cut_from {w : World} {q : Option Addr} {t : List Int} {c : Nat} (hI : Is w q t) (hc : t.length <= c) (m : Nat) (mi : Int) (hmi : (m : Int) = mi) (hm : m <= t.length) :
  ∃ p, (∀ w2, (Instr.slice 41 (.slice q t.length c) (some (.int .i64 mi)) none none).run Tryz.prog w2 = .ok (.slice p (t.length - m) (c - m)) w2) /\ Is w p (t.drop m) := by
 subst hmi
 exact ⟨_, slice_from q t.length c m hm hc, hI.from c m hc⟩
def wrE (t : List Int) : Nat := runE (st wordP t) t.length 1
def hdB (t : List Int) : Bool := decide (wrE t < t.length /\ iAt t (wrE t) = 33)
def hdP (t : List Int) : Nat := if hdB t = true then wrE t + 1 else 1
def angP (t : List Int) : Option (List Int × Nat) :=
 if runE (uN t) t.length 2 = 2 \/ runE (uN t) t.length 2 = t.length \/ iAt t (runE (uN t) t.length 2) ≠ 62 then none
 else some ((t.drop 1).take (runE (uN t) t.length 2 - 1), runE (uN t) t.length 2 + 1)
def shP (t : List Int) : Option (List Int × Nat) :=
 if hdB t = true /\ runE (sN t) t.length (hdP t) = hdP t then none else some (t.take (runE (sN t) t.length (hdP t)), runE (sN t) t.length (hdP t))
def tagP (t : List Int) : Option (List Int × Nat) :=
 if t.length = 0 \/ iAt t 0 ≠ 33 then none else if 1 < t.length /\ iAt t 1 = 60 then angP t else shP t
def tagV : Option (List Int × Nat) -> Value
 | none => triV ⟨#[]⟩ 0 false
 | some (s, n) => triV (txt s) n true
theorem tagV_none : tagV none = .tuple #[.string ⟨#[]⟩, .int .i64 0, .bool false] := rfl
theorem tagV_some (s : List Int) (n : Nat) : tagV (some (s, n)) = .tuple #[.string (txt s), .int .i64 n, .bool true] := rfl
theorem wrE_le {t : List Int} (h : 0 < t.length) : wrE t <= t.length := runE_le (st_bd _ t) h
theorem wrE_ge (t : List Int) : 1 <= wrE t := runE_ge _ _ _
theorem hdP_le {t : List Int} (h : 0 < t.length) : hdP t <= t.length := by
 unfold hdP hdB
 split
 ·rename_i h1
  have := of_decide_eq_true h1
  omega
 ·omega
theorem hdP_ge (t : List Int) : 1 <= hdP t := by
 unfold hdP
 split <;> omega
theorem hdB_iff (t : List Int) : hdB t = true ↔ 1 < hdP t := by
 have := wrE_ge t
 unfold hdP
 split
 ·rename_i h; rw [h]; simp; omega
 ·rename_i h; simp at h; rw [h]; simp
theorem handle_any (q : Option Addr) (t : List Int) (n c : Nat) (w : World) (hl : n = t.length) (hn : t.length <= 1000000) (hc : t.length <= c) (hm : c <= maxLen) (h1 : 0 < t.length) (hI : Is w q t) :
  Calls Tryz.prog 148 #[.slice q n c] w fun e w' => e = .returned (.int .i64 (hdP t : Nat)) /\ w' = w := by
 subst hl
 obtain ⟨p, S1, hI1⟩ := cut_from hI hc 1 1 rfl h1
 have CN := count_word p (t.drop 1) (t.length - 1) (c - 1) w (by simp) (by simp; omega) hI1
 have e1 : (1 : Int) + (cnt wordP (t.drop 1) : Nat) = (wrE t : Nat) := by
  unfold wrE
  rw [cnt_drop]
  omega
 have hle := wrE_le h1
 have hge := wrE_ge t
 have hn2 : (t.length : Int) <= 1000000 := by omega
 obtain ⟨V, hV⟩ : ∃ V, hdP t = V := ⟨_, rfl⟩
 rw [hV]
 unfold hdP hdB at hV
 obtain ⟨b, o, rfl, hu⟩ := hI.at h1
 generalize cnt wordP (t.drop 1) = a' at CN e1
 generalize hA : wrE t = a at *
 clear hA
 by_cases h2 : a < t.length
 ·have c0 := hu a h2
  have h2' : (a : Int) < t.length := by omega
  by_cases h3 : iAt t a = 33
  ·rw [if_pos (decide_eq_true ⟨h2, h3⟩)] at hV
   subst hV
   rw [h3] at c0
   clear hu hI hI1
   go_enter Tryz.func148, Tryz.ntmps148
   go_wp2_with (first | (go_at_call 144; refine CN.mono ?_; rintro e w ⟨rfl, rfl⟩))
   go_ret
   exact ⟨rfl, rfl⟩
  ·rw [if_neg (by simp; intro _; exact h3)] at hV
   subst hV
   have h3' : (iAt t a == 33) = false := by simpa using h3
   generalize iAt t a = x at c0 h3'
   clear hu hI hI1 h3
   go_enter Tryz.func148, Tryz.ntmps148
   go_wp2_with (first | (go_at_call 144; refine CN.mono ?_; rintro e w ⟨rfl, rfl⟩))
   go_ret
   exact ⟨rfl, rfl⟩
 ·rw [if_neg (by simp; intro h; exact absurd h h2)] at hV
  subst hV
  have h2' : ¬ (a : Int) < t.length := by omega
  clear hu hI hI1
  go_enter Tryz.func148, Tryz.ntmps148
  go_wp2_with (first | (go_at_call 144; refine CN.mono ?_; rintro e w ⟨rfl, rfl⟩))
  go_ret
  exact ⟨rfl, rfl⟩
theorem angled_any (q : Option Addr) (t : List Int) (n c : Nat) (w : World) (hl : n = t.length) (hn : t.length <= 1000000) (hc : t.length <= c) (hm : c <= maxLen) (h1 : 1 < t.length) (hI : Is w q t) :
  Calls Tryz.prog 147 #[.slice q n c] w fun e w' => e = .returned (tagV (angP t)) /\ Below w.heap.size w w' := by
 subst hl
 obtain ⟨p, S1, hI1⟩ := cut_from hI hc 2 2 rfl h1
 have SS := signsSize_any p (t.drop 2) (t.length - 2) (c - 2) w (by simp) (by simp; omega) (by simp; omega) (by omega) hI1
 have e1 : (2 : Int) + (runE (uN (t.drop 2)) (t.drop 2).length 0 : Nat) = (runE (uN t) t.length 2 : Nat) := by
  have := runE_shift (n := uN t) (n' := uN (t.drop 2)) (a := 2) (L := t.length) (k := 0) (uN_drop t 2)
  rw [Nat.add_zero] at this
  rw [this, List.length_drop]
  omega
 have hle : runE (uN t) t.length 2 <= t.length := runE_le (uN_bd t) h1
 have hge : 2 <= runE (uN t) t.length 2 := runE_ge _ _ _
 have hn2 : (t.length : Int) <= 1000000 := by omega
 obtain ⟨V, hV⟩ : ∃ V, tagV (angP t) = V := ⟨_, rfl⟩
 rw [hV]
 unfold angP at hV
 obtain ⟨b, o, rfl, hu⟩ := hI.at (by omega)
 generalize runE (uN (t.drop 2)) (t.drop 2).length 0 = a' at SS e1
 generalize hA : runE (uN t) t.length 2 = a at *
 clear hA
 have S2 := slice_mid b o t.length c 1 a (by omega) (by omega) (by omega)
 have TX := fun (W : World) (hW : Below w.heap.size w W) => text_any (some ⟨b, o + 1, none⟩) ((t.drop 1).take (a - 1)) (a - 1) (c - 1) W (by simp; omega) (by simp; omega) (((hI.on hW).drop 1).take _)
 by_cases h2 : a = 2
 ·rw [if_pos (.inl h2)] at hV
  subst hV
  subst h2
  first | rw [tagV_none] | rw [tagV_some]
  clear hu hI hI1 TX S2
  have e2 : ((2 : Nat) : Int) = 2 := rfl
  rw [e2] at e1
  go_enter Tryz.func147, Tryz.ntmps147
  go_wp2_with (first | (go_at_call 173; refine SS.mono ?_; rintro e W ⟨rfl, hB⟩))
  go_ret3
  exact ⟨rfl, hB⟩
 ·have h2' : ((a : Int) == 2) = false := by simp; omega
  by_cases h3 : a = t.length
  ·rw [if_pos (.inr (.inl h3))] at hV
   subst hV
   first | rw [tagV_none] | rw [tagV_some]
   subst h3
   clear hu hI hI1 TX S2
   go_enter Tryz.func147, Tryz.ntmps147
   go_wp2_with (first | (go_at_call 173; refine SS.mono ?_; rintro e W ⟨rfl, hB⟩))
   go_ret3
   exact ⟨rfl, hB⟩
  ·have h3' : ((a : Int) == (t.length : Int)) = false := by simp; omega
   have h3'' : (a : Int) < t.length := by omega
   have HC : Hid (∀ W, Below w.heap.size w W -> W.cell? ⟨b, o + a, none⟩ = some (.int .i64 (iAt t a))) := fun W hW => (hW.cell (p := ⟨b, o + a, none⟩) (World.block_lt_of_cell? w _ (hu a (by omega)))).trans (hu a (by omega))
   by_cases h4 : iAt t a = 62
   ·rw [if_neg (by simp [h2, h3, h4])] at hV
    subst hV
    first | rw [tagV_none] | rw [tagV_some]
    rw [h4] at HC
    generalize txt ((t.drop 1).take (a - 1)) = s at TX |-
    have e3 : ((a + 1 : Nat) : Int) = (a : Int) + 1 := by omega
    rw [e3]
    clear hu hI hI1 h2 h3
    go_enter Tryz.func147, Tryz.ntmps147
    go_wp2_with (first | (go_at_call 173; refine SS.mono ?_; rintro e W ⟨rfl, hB⟩; have c0 := HC.out _ hB) | (go_at_call 146; refine (TX _ hB).mono ?_; rintro e W2 ⟨rfl, hB2⟩))
    go_ret3
    exact ⟨rfl, hB.trans (hB2.mono hB.size)⟩
   ·rw [if_pos (.inr (.inr h4))] at hV
    subst hV
    first | rw [tagV_none] | rw [tagV_some]
    have h4' : (iAt t a == 62) = false := by simpa using h4
    generalize iAt t a = x at HC h4'
    clear hu hI hI1 TX S2 h4 h2 h3
    go_enter Tryz.func147, Tryz.ntmps147
    go_wp2_with (first | (go_at_call 173; refine SS.mono ?_; rintro e W ⟨rfl, hB⟩; have c0 := HC.out _ hB))
    go_ret3
    exact ⟨rfl, hB⟩
theorem Tag_any (q : Option Addr) (t : List Int) (n c : Nat) (w : World) (hl : n = t.length) (hn : t.length <= 1000000) (hc : t.length <= c) (hm : c <= maxLen) (hI : Is w q t) :
  Calls Tryz.prog 101 #[.slice q n c] w fun e w' => e = .returned (tagV (tagP t)) /\ Below w.heap.size w w' := by
 subst hl
 have hn2 : (t.length : Int) <= 1000000 := by omega
 obtain ⟨V, hV⟩ : ∃ V, tagV (tagP t) = V := ⟨_, rfl⟩
 rw [hV]
 unfold tagP at hV
 by_cases h0 : t.length = 0
 ·rw [if_pos (.inl h0)] at hV
  subst hV
  first | rw [tagV_none] | rw [tagV_some]
  rw [h0]
  have e0 : ((0 : Nat) : Int) = 0 := rfl
  go_enter Tryz.func101, Tryz.ntmps101
  go_wp2
  go_ret3
  exact ⟨rfl, Below.refl _ _⟩
 ·have h0' : ((t.length : Int) == 0) = false := by simp; intro e; subst e; simp at h0
  have h0'' : (0 : Int) < t.length := by omega
  have hI0 := hI
  obtain ⟨b, o, rfl, hu⟩ := hI.at (by omega)
  have c0 := hu 0 (by omega)
  rw [Nat.add_zero] at c0
  by_cases h1 : iAt t 0 = 33
  ·rw [if_neg (by simp [h0, h1])] at hV
   rw [h1] at c0
   by_cases h2 : 1 < t.length /\ iAt t 1 = 60
   ·rw [if_pos h2] at hV
    subst hV
    have c1 := hu 1 h2.1
    rw [h2.2] at c1
    have h2' : (1 : Int) < t.length := by omega
    have AN := angled_any (some ⟨b, o, none⟩) t t.length c w rfl hn hc hm h2.1 hI
    generalize angP t = ap at AN |-
    cases ap with
    | none =>
     first | rw [tagV_none] at AN |- | rw [tagV_some] at AN |-
     clear hu hI hI0 h1
     go_enter Tryz.func101, Tryz.ntmps101
     go_wp2_with (first | (go_at_call 147; refine AN.mono ?_; rintro e W ⟨rfl, hB⟩))
     go_ret3
     exact ⟨rfl, hB⟩
    | some y =>
     obtain ⟨s, k⟩ := y
     first | rw [tagV_none] at AN |- | rw [tagV_some] at AN |-
     clear hu hI hI0 h1
     go_enter Tryz.func101, Tryz.ntmps101
     go_wp2_with (first | (go_at_call 147; refine AN.mono ?_; rintro e W ⟨rfl, hB⟩))
     go_ret3
     exact ⟨rfl, hB⟩
   ·rw [if_neg h2] at hV
    unfold shP at hV
    have HD := handle_any (some ⟨b, o, none⟩) t t.length c w rfl hn hc hm (by omega) hI
    have hge := hdP_ge t
    have hle := hdP_le (t := t) (by omega)
    have hiff := hdB_iff t
    obtain ⟨p, S1, hI1⟩ := cut_from hI hc (hdP t) (hdP t) rfl hle
    have SX := suffix_any p (t.drop (hdP t)) (t.length - hdP t) (c - hdP t) w (by simp) (by simp; omega) (by simp; omega) (by omega) hI1
    have e1 : (hdP t : Int) + (runE (sN (t.drop (hdP t))) (t.drop (hdP t)).length 0 : Nat) = (runE (sN t) t.length (hdP t) : Nat) := by
     have := runE_shift (n := sN t) (n' := sN (t.drop (hdP t))) (a := hdP t) (L := t.length) (k := 0) (sN_drop t (hdP t))
     rw [Nat.add_zero] at this
     rw [this, List.length_drop]
     omega
    have hse := runE_le (L := t.length) (sN_bd t) hle
    have hsg := runE_ge (sN t) t.length (hdP t)
    generalize runE (sN (t.drop (hdP t))) (t.drop (hdP t)).length 0 = a' at SX e1
    generalize runE (sN t) t.length (hdP t) = s at *
    generalize hdP t = a at *
    have S2 := slice_to (some ⟨b, o, none⟩) t.length c s (by omega)
    have TX := fun (W : World) (hW : Below w.heap.size w W) => text_any (some ⟨b, o, none⟩) (t.take s) s c W (by simp; omega) (by simp; omega) ((hI.on hW).take _)
    have H1 : Hid ((1 < t.length -> (iAt t 1 == 60) = false)) := fun h => by simp; intro e; exact h2 ⟨h, e⟩
    by_cases h3 : 1 < a
    ·have h3' : (1 : Int) < a := by omega
     by_cases h4 : s = a
     ·rw [if_pos ⟨hiff.2 h3, h4⟩] at hV
      subst hV
      subst h4
      first | rw [tagV_none] | rw [tagV_some]
      by_cases h5 : 1 < t.length
      ·have h5' : (1 : Int) < t.length := by omega
       have h6 := H1.out h5
       have c1 := hu 1 h5
       generalize iAt t 1 = x1 at c1 h6
       clear hu hI hI0 h1 TX S2 hiff H1 h2
       go_enter Tryz.func101, Tryz.ntmps101
       go_wp2_with (first | (go_at_call 148; refine HD.mono ?_; rintro e w ⟨rfl, rfl⟩) | (go_at_call 149; refine SX.mono ?_; rintro e W ⟨rfl, hB⟩))
       go_ret3
       exact ⟨rfl, hB⟩
      ·have h5' : ¬ (1 : Int) < t.length := by omega
       clear hu hI hI0 h1 TX S2 hiff H1 h2
       go_enter Tryz.func101, Tryz.ntmps101
       go_wp2_with (first | (go_at_call 148; refine HD.mono ?_; rintro e w ⟨rfl, rfl⟩) | (go_at_call 149; refine SX.mono ?_; rintro e W ⟨rfl, hB⟩))
       go_ret3
       exact ⟨rfl, hB⟩
     ·rw [if_neg (fun h => h4 h.2)] at hV
      subst hV
      first | rw [tagV_none] | rw [tagV_some]
      have h4' : ((s : Int) == (a : Int)) = false := by simp; omega
      generalize txt (t.take s) = z at TX |-
      by_cases h5 : 1 < t.length
      ·have h5' : (1 : Int) < t.length := by omega
       have h6 := H1.out h5
       have c1 := hu 1 h5
       generalize iAt t 1 = x1 at c1 h6
       clear hu hI hI0 h1 hiff H1 h2 h4
       go_enter Tryz.func101, Tryz.ntmps101
       go_wp2_with (first | (go_at_call 148; refine HD.mono ?_; rintro e w ⟨rfl, rfl⟩) | (go_at_call 149; refine SX.mono ?_; rintro e W ⟨rfl, hB⟩) | (go_at_call 146; refine (TX _ hB).mono ?_; rintro e W2 ⟨rfl, hB2⟩))
       go_ret3
       exact ⟨rfl, hB.trans (hB2.mono hB.size)⟩
      ·have h5' : ¬ (1 : Int) < t.length := by omega
       clear hu hI hI0 h1 hiff H1 h2 h4
       go_enter Tryz.func101, Tryz.ntmps101
       go_wp2_with (first | (go_at_call 148; refine HD.mono ?_; rintro e w ⟨rfl, rfl⟩) | (go_at_call 149; refine SX.mono ?_; rintro e W ⟨rfl, hB⟩) | (go_at_call 146; refine (TX _ hB).mono ?_; rintro e W2 ⟨rfl, hB2⟩))
       go_ret3
       exact ⟨rfl, hB.trans (hB2.mono hB.size)⟩
    ·have h3' : ¬ (1 : Int) < a := by omega
     rw [if_neg (fun h => h3 (hiff.1 h.1))] at hV
     subst hV
     first | rw [tagV_none] | rw [tagV_some]
     generalize txt (t.take s) = z at TX |-
     by_cases h5 : 1 < t.length
     ·have h5' : (1 : Int) < t.length := by omega
      have h6 := H1.out h5
      have c1 := hu 1 h5
      generalize iAt t 1 = x1 at c1 h6
      clear hu hI hI0 h1 hiff H1 h2
      go_enter Tryz.func101, Tryz.ntmps101
      go_wp2_with (first | (go_at_call 148; refine HD.mono ?_; rintro e w ⟨rfl, rfl⟩) | (go_at_call 149; refine SX.mono ?_; rintro e W ⟨rfl, hB⟩) | (go_at_call 146; refine (TX _ hB).mono ?_; rintro e W2 ⟨rfl, hB2⟩))
      go_ret3
      exact ⟨rfl, hB.trans (hB2.mono hB.size)⟩
     ·have h5' : ¬ (1 : Int) < t.length := by omega
      clear hu hI hI0 h1 hiff H1 h2
      go_enter Tryz.func101, Tryz.ntmps101
      go_wp2_with (first | (go_at_call 148; refine HD.mono ?_; rintro e w ⟨rfl, rfl⟩) | (go_at_call 149; refine SX.mono ?_; rintro e W ⟨rfl, hB⟩) | (go_at_call 146; refine (TX _ hB).mono ?_; rintro e W2 ⟨rfl, hB2⟩))
      go_ret3
      exact ⟨rfl, hB.trans (hB2.mono hB.size)⟩
  ·rw [if_pos (.inr h1)] at hV
   subst hV
   first | rw [tagV_none] | rw [tagV_some]
   have h1' : (iAt t 0 == 33) = false := by simpa using h1
   generalize iAt t 0 = x at c0 h1'
   clear hu hI hI0 h1
   go_enter Tryz.func101, Tryz.ntmps101
   go_wp2
   go_ret3
   exact ⟨rfl, Below.refl _ _⟩
end Go.Proofs.YtipbhdhiklmieaaGreatDoor.P11
namespace Go.Proofs.YtipbhdhiklmieaaGreatDoor
open Go.RowKit Go.Shelf
open P8 (Row Mt)
theorem text_low (q : Option Addr) (t : List Int) (c : Nat) (W : World) (hn : t.length <= 1000000) (hI : Is W q t) : Calls Tryz.prog 154 #[.slice q t.length c] W fun en w' => ∃ v, en = .returned v /\ Below W.heap.size W w' /\ ∀ W', Below w'.heap.size w' W' -> (convert 82 9 v).run Tryz.prog W' = .ok (.string (P11.txt t)) W' :=
 (P11.bytes_any q t c W (by omega) hI hI.lt).mono fun e w' h => by
  obtain ⟨v, h1, ho, hb⟩ := h
  exact ⟨v, h1, hb, fun W' h' => P11.own_string (row_on ho h') (P11.encZ_byte t)⟩
def ancO (t : List Int) : ByteArray × Nat × Bool := (P11.txt (t.take (P11.cnt nameP t)), P11.cnt nameP t, decide (0 < P11.cnt nameP t))
def tagO (t : List Int) : ByteArray × Nat × Bool := match P11.tagP t with
 | none => (⟨#[]⟩, 0, false)
 | some (s, n) => (P11.txt s, n, true)
theorem anc_low : Reads 100 ancO := fun q t c W hn hc hm hI => P11.Anchor_any q t t.length c W rfl (by omega) hc hm hI
theorem tag_low : Reads 101 tagO := fun q t c W hn hc hm hI => (P11.Tag_any q t t.length c W rfl (by omega) hc hm hI).mono fun e w' h => by
 refine ⟨h.1.trans ?_, h.2⟩
 unfold tagO
 cases P11.tagP t with
 | none => rfl
 | some x => rfl
theorem anc_le (t : List Int) : (ancO t).2.1 <= t.length := P11.cnt_le _ _
theorem tag_at {t s : List Int} {n : Nat} (h : P11.tagP t = some (s, n)) : 0 < s.length /\ 0 < n /\ n <= t.length := by
 unfold P11.tagP at h
 split at h
 ·cases h
 ·rename_i h0
  have h0' : 0 < t.length := by omega
  split at h
  ·rename_i h1
   unfold P11.angP at h
   split at h
   ·cases h
   ·rename_i h2
    have hge := P11.runE_ge (P11.uN t) t.length 2
    have hle := P11.runE_le (L := t.length) (P11.uN_bd t) (show 2 <= t.length by omega)
    simp only [Option.some.injEq, Prod.mk.injEq] at h
    obtain ⟨rfl, rfl⟩ := h
    simp only [List.length_take, List.length_drop]
    omega
  ·unfold P11.shP at h
   split at h
   ·cases h
   ·have hge := P11.runE_ge (P11.sN t) t.length (P11.hdP t)
    have hle := P11.runE_le (L := t.length) (P11.sN_bd t) (P11.hdP_le h0')
    have h1 := P11.hdP_ge t
    simp only [Option.some.injEq, Prod.mk.injEq] at h
    obtain ⟨rfl, rfl⟩ := h
    simp only [List.length_take]
    omega
theorem tag_le (t : List Int) : (tagO t).2.1 <= t.length := by
 unfold tagO
 cases h : P11.tagP t with
 | none => simp
 | some x => exact (tag_at h).2.2
theorem tag_pos (t : List Int) (ht : (tagO t).2.2 = true) : 0 < (tagO t).2.1 := by
 unfold tagO at ht |-
 cases h : P11.tagP t with
 | none => rw [h] at ht; cases ht
 | some x => exact (tag_at h).2.1
theorem enc_ne (c : Int) : 0 < (Lib.encodeRuneZ c).length := by
 unfold Lib.encodeRuneZ
 repeat' split
 all_goals simp
theorem txt_ne {s : List Int} (h : 0 < s.length) : (P11.txt s).size ≠ 0 := by
 cases s with
 | nil => cases h
 | cons c r =>
  have := enc_ne (P11.fixP c)
  show (P11.strB (P11.encZ (c :: r))).size ≠ 0
  unfold P11.strB P11.encZ
  simp only [ByteArray.size, List.size_toArray, List.length_map, List.flatMap_cons, List.length_append]
  omega
theorem anc_ne (t : List Int) (h : (ancO t).2.2 = true) : (ancO t).1.size ≠ 0 := txt_ne (by
 have h1 : 0 < P11.cnt nameP t := of_decide_eq_true h
 have := P11.cnt_le nameP t
 rw [List.length_take]
 omega)
theorem tag_ne (t : List Int) (ht : (tagO t).2.2 = true) : (tagO t).1.size ≠ 0 := by
 unfold tagO at ht |-
 cases h : P11.tagP t with
 | none => rw [h] at ht; cases ht
 | some x => exact txt_ne (tag_at h).1
theorem trimI_le (f b : Bool) (u : List P7.Item) : (P7.trimI f b u).length <= u.length := by
 have h0 : ∀ v : List P7.Item, (v.dropWhile P7.softI).length <= v.length := fun v => (List.dropWhile_suffix _).length_le
 have h1 : (if f then u.dropWhile P7.softI else u).length <= u.length := by split; exact h0 u; exact Nat.le_refl _
 unfold P7.trimI
 split
 ·rw [List.length_reverse]
  have := h0 (if f then u.dropWhile P7.softI else u).reverse
  rw [List.length_reverse] at this
  omega
 ·exact h1
theorem flI_few (L : List (List P7.Item)) : ∀ k, k <= L.length -> (P7.flI L k).1.length + (P7.flI L k).2 <= (L.take k).flatten.length + k
 | 0, _ => by simp [P7.flI]
 | k + 1, hk => by
  have ih := flI_few L k (by omega)
  have hg : P7.gAt L k = L[k] := by unfold P7.gAt; rw [List.getElem?_eq_getElem (by omega)]; rfl
  have ht : (L.take (k + 1)).flatten.length = (L.take k).flatten.length + (P7.gAt L k).length := by rw [List.take_succ_eq_append_getElem (by omega), List.flatten_append, List.length_append, hg]; simp
  rw [P7.flI, ht]
  have h1 := trimI_le (decide (0 < k)) (decide (k + 1 < L.length)) (P7.gAt L k)
  have h2 : (P7.sepJ (decide (0 < k)) (P7.flI L k).2).length <= (P7.flI L k).2 + 1 := by unfold P7.sepJ; split <;> simp
  unfold P7.gstep
  split
  ·simp only; omega
  ·simp only [List.length_append]; omega
theorem tot_few {R : List Row} (h : Few R) : ∀ k, P7.totK (R.map (·.t)) k <= k * 1300
 | 0 => by simp [P7.totK]
 | k + 1 => by
  have ih := tot_few h k
  have : (P7.lAt (R.map (·.t)) k).length <= 1300 := by
   unfold P7.lAt
   rw [List.getElem?_map]
   cases hr : R[k]? with
   | none => simp
   | some r => simpa using h.2 r (List.mem_of_getElem? hr)
  rw [P7.totK]
  omega
theorem read_few {R : List Row} (h : Few R) : (P7.readT (R.map (·.t))).length <= 1000000 := by
 obtain ⟨z1, z2, -⟩ := P7.si_size (R.map (·.t)) (R.map (·.t)).length
 have z3 := tot_few h (R.map (·.t)).length
 have z4 := flI_few (P7.siAt (R.map (·.t)) (R.map (·.t)).length).L _ (Nat.le_refl _)
 rw [List.take_length] at z4
 rw [List.length_append] at z1
 have z5 : (R.map (·.t)).length * 1300 <= 600 * 1300 := Nat.mul_le_mul_right _ (by rw [List.length_map]; exact h.1)
 have z6 : (R.map (·.t)).length <= 600 := by rw [List.length_map]; exact h.1
 unfold P7.readT
 rw [List.length_map]
 refine Nat.le_trans (List.length_filter_le _ _) ?_
 omega
def dReadO (ts : List (List Int)) : List Int × Int := (P7.readT ts, (P7.readE ts : Nat))
theorem dReads (p : Option Addr) (R : List Row) (c : Nat) (W : World) (hT : P7.Tab W) (hF : Few R) (hM : Mt W p R) : Calls Tryz.prog 108 #[.slice p R.length c] W fun e w' => Below W.heap.size W w' /\ (((dReadO (R.map (·.t))).2 ≠ 0 /\ e = .returned (.tuple #[.slice none 0 0, .int .i64 (dReadO (R.map (·.t))).2])) \/
  ((dReadO (R.map (·.t))).2 = 0 /\ (dReadO (R.map (·.t))).1.length <= 1000000 /\ ∃ q k, e = .returned (.tuple #[.slice q (dReadO (R.map (·.t))).1.length k, .int .i64 0]) /\ Is w' q (dReadO (R.map (·.t))).1)) := by
 have h600 := hF.1
 refine (P7.Read_any p R c W hM (by omega) (by have := tot_few hF R.length; have : R.length * 1300 <= 600 * 1300 := Nat.mul_le_mul_right _ h600; omega) hT).mono fun e w' h => ?_
 refine ⟨h.1, ?_⟩
 rcases h.2 with ⟨h1, h2⟩ | ⟨h1, v, h2, ho⟩
 ·exact .inl ⟨by show ((P7.readE _ : Nat) : Int) ≠ 0; omega, h2⟩
 ·obtain ⟨q, k, rfl, hI⟩ := P8.Owns.read ho
  exact .inr ⟨by show ((P7.readE _ : Nat) : Int) = 0; omega, read_few hF, q, k, h2, hI⟩
theorem sEnd_at : ∀ (n : Nat) (t : List Int), t.length <= n -> ∀ p j, P8.endS (P8.sgP p t) = some j -> p <= j /\ j < p + t.length := by
 intro n
 induction n with
 | zero => intro t h p j hj; have : t = [] := List.eq_nil_of_length_eq_zero (by omega); subst this; simp [P8.sgP, P8.endS] at hj
 | succ n ih =>
  intro t h p j hj
  match t, h, hj with
  | [], _, hj => simp [P8.sgP, P8.endS] at hj
  | [c], _, hj =>
   rw [P8.sgP, P8.endS] at hj
   split at hj
   ·cases hj; simp
   ·simp [P8.endS] at hj
  | c :: d :: r, h, hj =>
   simp only [List.length_cons] at h |-
   rw [P8.sgP] at hj
   split at hj
   ·rw [P8.endS] at hj
    split at hj
    ·rename_i hx; simp at hx
    ·have := ih r (by omega) _ _ hj; omega
   ·rw [P8.endS] at hj
    split at hj
    ·cases hj; simp
    ·have := ih (d :: r) (by simp only [List.length_cons]; omega) _ _ hj; simp only [List.length_cons] at this; omega
theorem sEnd_lt (t : List Int) (k : Nat) (h : sEndO t = some k) : k < t.length := by have := sEnd_at t.length t (Nat.le_refl _) 0 k h; omega
def orc : Orc where
 blank := blankP
 name := nameP
 flow := flowP
 past := pastO
 marker := fun x => decide (P10.markP x.n x.t ≠ 0)
 bare := fun x => P10.bareP x.t
 empty := fun x => P10.emptyP x.t
 anchor := ancO
 tag := tagO
 sEnd := sEndO
 dEnd := dEndO
 sRead := fun ts => P8.readS (P8.flowT (rowsO ts))
 dRead := dReadO
 begins := fun fl t => P9.begP t fl
 pEnd := fun fl t => P9.endP t fl
 fold := fun ts => P8.flowT (rowsO ts)
 text := P11.txt
 past_le := fun t => P10.run_le _ t
 anchor_le := anc_le
 tag_le := tag_le
 tag_pos := tag_pos
 sEnd_lt := sEnd_lt
 dEnd_lt := dEnd_lt
 pEnd_le := fun b t => P9.end_le t b
theorem low : Low orc P7.Tab where
 c := ⟨blank_any, name_any, flow_any, past_is⟩
 l := ⟨⟨fun x => P10.markP x.n x.t, fun x => rfl, mark_low⟩, empty_low, bare_low⟩
 t := ⟨text_low⟩
 n := ⟨anc_low, tag_low, anc_ne, tag_ne⟩
 q := ⟨fun A B h hA => hA.below h (by decide), sEnds, dEnds, sReads, fun p R c W hT hF hc hm hM => dReads p R c W hT hF hM⟩
 p := ⟨begs_low, pEnd_low, folds⟩
end Go.Proofs.YtipbhdhiklmieaaGreatDoor
namespace Go.Proofs.YtipbhdhiklmieaaGreatDoor
open Go.RowKit Go.Shelf
open P8 (Owns push1w)
def Bt (w : World) (p : Option Addr) (l : List Int) : Prop :=
 l = [] \/ ∃ b o, p = some ⟨b, o, none⟩ /\ ∀ j, j < l.length -> w.cell? ⟨b, o + j, none⟩ = some (.int .u8 (iAt l j))
theorem Bt.at {w : World} {p : Option Addr} {l : List Int} (h : Bt w p l) (hl : 0 < l.length) : ∃ b o, p = some ⟨b, o, none⟩ /\ ∀ j, j < l.length -> w.cell? ⟨b, o + j, none⟩ = some (.int .u8 (iAt l j)) := by
 rcases h with rfl | h
 ·simp at hl
 ·exact h
theorem Bt.lt {w : World} {p : Option Addr} {l : List Int} (h : Bt w p l) : ∀ a, p = some a -> 0 < l.length -> a.block < w.heap.size := by
 intro a e hl
 obtain ⟨b, o, rfl, hc⟩ := h.at hl
 cases e
 exact World.block_lt_of_cell? w ⟨b, o + 0, none⟩ (hc 0 hl)
theorem Bt.on {A B : World} {p : Option Addr} {l : List Int} (h : Bt A p l) (hb : Below A.heap.size A B) : Bt B p l := by
 rcases id h with rfl | ⟨b, o, rfl, hc⟩
 ·exact .inl rfl
 ·exact .inr ⟨b, o, rfl, fun j hj => (hb.cell (p := ⟨b, o + j, none⟩) (h.lt ⟨b, o, none⟩ rfl (by omega))).trans (hc j hj)⟩
def Asc (l : List Int) : Prop := ∀ x, x ∈ l -> 0 < x /\ x < 128
theorem Asc.at {l : List Int} (h : Asc l) {j : Nat} (hj : j < l.length) : 0 < iAt l j /\ iAt l j < 128 := by
 have e : iAt l j = l[j] := by simp [iAt, hj]
 rw [e]
 exact h _ (List.getElem_mem hj)
theorem take_next {l : List Int} {j : Nat} (hj : j < l.length) : l.take (j + 1) = l.take j ++ [iAt l j] := by
 have e : iAt l j = l[j] := by simp [iAt, hj]
 rw [e, List.take_succ_eq_append_getElem hj]
theorem is_no (p : Option Addr) (l : List Int) (c d m g : Nat) (y : Int) (w : World) (hm : 0 < m) (hp : Bt w p l) (hy : w.cell? ⟨g, 0, none⟩ = some (.int .u8 y)) (hx : 0 < l.length -> iAt l 0 ≠ y) :
  Calls Tryz.prog 89 #[.slice p l.length c, .slice (some ⟨g, 0, none⟩) m d] w fun e w' => e = .returned (.bool false) /\ ∃ k, w' = w.drewN k := by
 by_cases hs : l.length < m
 ·clear hp hy
  go_enter Tryz.func89, Tryz.ntmps89
  go_wp2
  go_ret
  exact ⟨rfl, 0, rfl⟩
 ·have hz : ¬ (l.length : Int) < m := by omega
  have hl : 0 < l.length := by omega
  obtain ⟨b, o, rfl, hb⟩ := hp.at hl
  have c0 := hb 0 hl
  have hx' : (iAt l 0 != y) = true := by simpa using hx hl
  rw [Nat.add_zero] at c0
  generalize iAt l 0 = x at c0 hx'
  clear hb hp hs hx
  go_enter Tryz.func89, Tryz.ntmps89
  go_wp2
  go_loopw [5] (fun i wr => i = .int .i64 0 /\ wr = w) (fun i _ => 0)
  case atStart => exact ⟨rfl, rfl⟩
  case round =>
   obtain ⟨rfl, rfl⟩ := hrel
   go_wp2
   go_quiet (fail)
   go_wp2
   go_ret
   exact ⟨rfl, _, rfl⟩
theorem is_lit {w W : World} (hB : Below w.heap.size w W) {p : Option Addr} {l : List Int} (c m : Nat) {vs : Array Value} {y : Int} (h0 : vs[0]? = some (.int .u8 y)) (hm : 0 < m) (hp : Bt w p l) (hx : 0 < l.length -> iAt l 0 ≠ y) :
  Calls Tryz.prog 89 #[.slice p l.length c, .slice (some ⟨W.heap.size, 0, none⟩) m m] (W.alloc (.cells vs 5)) fun e w' => e = .returned (.bool false) /\ Below w.heap.size w w' := by
 have hB1 : Below w.heap.size w (W.alloc (.cells vs 5)) := hB.alloc hB.size _
 refine (is_no p l c m m W.heap.size y (W.alloc (.cells vs 5)) hm (hp.on hB1) (by
  have zb : (W.alloc (.cells vs 5)).heap[W.heap.size]? = some (.cells vs 5) := World.alloc_heap_new W _
  generalize W.alloc (.cells vs 5) = Z at zb |-
  simp [World.cell?, zb, h0]) hx).mono ?_
 rintro e w' ⟨rfl, k, rfl⟩
 exact ⟨rfl, hB1.os, hB1.tape, hB1.output, hB1.size, hB1.block⟩
theorem Form_asc (p : Option Addr) (l : List Int) (cap : Nat) (w : World) (hn : l.length <= 1048576) (h : Bt w p l) (ha : Asc l) :
  Calls Tryz.prog 48 #[.slice p l.length cap] w fun e w' => e = .returned (.tuple #[.int .i64 1, .int .i64 0]) /\ Below w.heap.size w w' := by
 have hx : ∀ y : Int, (y = 0 \/ 128 <= y) -> 0 < l.length -> iAt l 0 ≠ y := fun y hy hl => by
  have := ha.at hl
  omega
 have hcell : Hid (∀ W : World, Below w.heap.size w W -> Bt W p l) := fun W hB => h.on hB
 have I0 := fun W (hB : Below w.heap.size w W) => is_lit hB cap 4 (vs := #[.int .u8 0, .int .u8 0, .int .u8 254, .int .u8 255]) (y := 0) rfl (by decide) h (hx _ (by decide))
 have I1 := fun W (hB : Below w.heap.size w W) => is_lit hB cap 4 (vs := #[.int .u8 255, .int .u8 254, .int .u8 0, .int .u8 0]) (y := 255) rfl (by decide) h (hx _ (by decide))
 have I2 := fun W (hB : Below w.heap.size w W) => is_lit hB cap 2 (vs := #[.int .u8 254, .int .u8 255]) (y := 254) rfl (by decide) h (hx _ (by decide))
 have I3 := fun W (hB : Below w.heap.size w W) => is_lit hB cap 2 (vs := #[.int .u8 255, .int .u8 254]) (y := 255) rfl (by decide) h (hx _ (by decide))
 have I4 := fun W (hB : Below w.heap.size w W) => is_lit hB cap 3 (vs := #[.int .u8 239, .int .u8 187, .int .u8 191]) (y := 239) rfl (by decide) h (hx _ (by decide))
 have HA : Hid (Asc l) := ha
 clear h ha hx
 go_enter Tryz.func48, Tryz.ntmps48
 go_wp2_with fail
 refine (I0 _ (Below.refl _ _)).mono ?_
 rintro e w0 ⟨rfl, hb0⟩
 go_wp2_with fail
 refine (I1 _ hb0).mono ?_
 rintro e w1 ⟨rfl, hb1⟩
 go_wp2_with fail
 refine (I2 _ hb1).mono ?_
 rintro e w2 ⟨rfl, hb2⟩
 go_wp2_with fail
 refine (I3 _ hb2).mono ?_
 rintro e w3 ⟨rfl, hb3⟩
 go_wp2_with fail
 refine (I4 _ hb3).mono ?_
 rintro e w4 ⟨rfl, hb4⟩
 have hB4 := hcell.out w4 hb4
 clear hcell I0 I1 I2 I3 I4 hb0 hb1 hb2 hb3
 by_cases g2 : l.length < 2
 ·have e2 : ¬ (1 : Int) < l.length := by omega
  have e4 : ¬ (3 : Int) < l.length := by omega
  clear hB4
  go_wp2
  go_ret2
  exact ⟨rfl, hb4⟩
 ·have e2 : (1 : Int) < l.length := by omega
  obtain ⟨b, o, rfl, hc⟩ := hB4.at (by omega)
  have c0 := hc 0 (by omega)
  have c1 := hc 1 (by omega)
  have a0 := HA.out.at (j := 0) (by omega)
  have a1 := HA.out.at (j := 1) (by omega)
  rw [Nat.add_zero] at c0
  clear hc hB4
  generalize iAt l 0 = x0 at c0 a0
  generalize iAt l 1 = x1 at c1 a1
  have t0 : (x0 == 0) = false := by simp; omega
  have t1 : (x1 == 0) = false := by simp; omega
  have u0 : (x0 != 0) = true := by simp; omega
  have u1 : (x1 != 0) = true := by simp; omega
  by_cases g4 : l.length < 4
  ·have e4 : ¬ (3 : Int) < l.length := by omega
   go_wp2
   go_ret2
   exact ⟨rfl, hb4⟩
  ·have e4 : (3 : Int) < l.length := by omega
   go_wp2
   go_ret2
   exact ⟨rfl, hb4⟩
theorem point_asc (b o n cap : Nat) (x0 : Int) (w : World) (hn : 0 < n) (h0 : w.cell? ⟨b, o, none⟩ = some (.int .u8 x0)) (h : 0 <= x0) (h' : x0 < 128) :
  Calls Tryz.prog 90 #[.slice (some ⟨b, o, none⟩) n cap] w fun e w' => e = .returned (.tuple #[.int .i64 x0, .int .i64 1]) /\ w' = w := by
 go_enter Tryz.func90, Tryz.ntmps90
 go_wp2
 go_ret2
 exact ⟨rfl, rfl⟩
theorem small_asc (p : Option Addr) (l : List Int) (cap : Nat) (w : World) (hl : l.length <= 1048576) (hcap : l.length <= cap) (hc : cap <= maxLen) (h : Bt w p l) (ha : Asc l) :
  Calls Tryz.prog 49 #[.slice p l.length cap] w fun e w' => ∃ v, e = .returned (.tuple #[v, .bool true]) /\ Owns w' w.heap.size v l /\ Below w.heap.size w w' := by
 have HA : Hid (Asc l) := ha
 have HI : Hid (∀ W : World, Below w.heap.size w W -> Bt W p l) := fun W hB => h.on hB
 unfold maxLen at hc
 clear ha h
 go_enter Tryz.func49, Tryz.ntmps49
 go_wp2
 go_loopw [4, 5] (fun v i wr => ∃ (k : Nat), k <= l.length /\ i = .int .i64 k /\ Hid (Owns wr w.heap.size v (l.take k)) /\ Below w.heap.size w wr)
  (fun _ i _ => l.length - (intOf i).toNat)
 case atStart => exact ⟨0, Nat.zero_le _, rfl, World.ownsRow_nil _ _ _ _, Below.refl _ _⟩
 case round =>
  obtain ⟨k, hk, rfl, HO, hB⟩ := hrel
  by_cases hlt : k < l.length
  ·obtain ⟨b, o, rfl, hcl⟩ := (HI.out wr hB).at (by omega)
   have c0 := hcl k hlt
   have a0 := HA.out.at hlt
   have hck : ¬ cap = k := by omega
   obtain ⟨v', w1, hrun, ho1, hb1⟩ := push1w HO.out hB.size (by simp; omega) (iAt l k)
   rw [<- take_next hlt] at ho1
   have HO1 : Hid (Owns w1 w.heap.size v' (l.take (k + 1))) := ho1
   have P := point_asc b (o + k) (l.length - k) (cap - k) (iAt l k) wr (by omega) c0 (by omega) (by omega)
   have hBw := hB.trans hb1
   obtain ⟨va, vk, vc, rfl⟩ := ownsRow_form ho1
   generalize iAt l k = x at c0 hrun P
   clear hcl ho1 HO
   go_wp2_with (first | (go_at_call 90; refine P.mono ?_; rintro e w' ⟨rfl, rfl⟩) | (at_builtin; refine wpList_append_run rfl _ _ 41 rfl rfl rfl hrun ?_))
   go_roundw
   case rel => exact ⟨k + 1, by omega, by go_num, HO1, hBw⟩
   case measure => simp [intOf]; omega
  ·obtain rfl : k = l.length := by omega
   have ho := HO.out
   rw [List.take_length] at ho
   have HO2 : Hid (Owns wr w.heap.size u4 l) := ho
   clear ho HO
   go_wp2
   go_ret2
   exact ⟨_, rfl, HO2.out, hB⟩
theorem Points_asc (p : Option Addr) (l : List Int) (cap : Nat) (w : World) (hl : l.length <= 1048576) (hcap : l.length <= cap) (hc : cap <= maxLen) (h : Bt w p l) (ha : Asc l) :
  Calls Tryz.prog 30 #[.slice p l.length cap] w fun e w' => ∃ v, e = .returned (.tuple #[v, .int .i64 0]) /\ Owns w' w.heap.size v l /\ Below w.heap.size w w' := by
 have F := Form_asc p l cap w hl h ha
 have S := fun W (hB : Below w.heap.size w W) => small_asc p l cap W hl hcap hc (h.on hB) ha
 have hsl : ∀ w2, (Instr.slice 82 (.slice p l.length cap) (some (.int .i64 0)) none none).run Tryz.prog w2 = .ok (.slice p l.length cap) w2 := by
  intro w2
  have h1 : (l.length : Int) <= cap := by omega
  have u := Tryz.underlying82
  have z := Tryz.sizeOf5
  cases p <;> simp [go_sem, h1, add_plain]
 unfold maxLen at hc
 clear h ha
 go_enter Tryz.func30, Tryz.ntmps30
 go_wp2_with (first | (go_at_call 48; refine F.mono ?_; rintro e w1 ⟨rfl, hb⟩) | (go_at_call 49; refine (S _ hb).mono ?_; rintro e w2 ⟨v, rfl, ho, hb2⟩))
 go_ret2
 exact ⟨_, rfl, ownsRow_mono ho hb.size, hb.trans (hb2.mono hb.size)⟩
end Go.Proofs.YtipbhdhiklmieaaGreatDoor
