/- Read of lines between single quotes, as it runs. -/
import Derived.Test.YtipbhdhiklmieaaGreatDoorZAY
import Derived.Shelf.Utf8.AppendRunePlain
import Derived.Laws.IdiomStrings
import Derived.Lib.BufferRead
import Derived.RangeFuncBox
set_option linter.all false
set_option maxRecDepth 100000
set_option maxHeartbeats 2000000
namespace Go.Proofs.YtipbhdhiklmieaaGreatDoor.P8
open Go.RowKit Go.Shelf
attribute [local go_sem] Oper.semAt_some
def readS (t : List Int) : List Int := (sgP 0 t).map (·.2.1)
def Ir (w : World) (n1 : Nat) (X : Nat -> Prop) (T : List Sg) (i : Nat) (W : World) : Prop :=
 n1 <= W.heap.size /\ ∃ v, Boxed W w.heap.size 41 v /\ Owns W w.heap.size v ((T.take i).map (·.2.1)) /\ (∀ g, v.ownBlock = some g -> ¬ X g) /\ Below w.heap.size w W
theorem Ir.own {w : World} {n1 : Nat} {X : Nat -> Prop} {T : List Sg} (B : Nat) (hB : w.heap.size <= B) : OwnFrom B (Ir w n1 X T) := by
 rintro s W W' row ⟨hn1, v, hv, ho, hg, hb⟩ hgr hr
 refine ⟨Nat.le_trans hn1 hgr.size, v, boxed_own' hv hgr hr, ho.kept hgr ?_, hg, hb.grown hgr hb.size ?_⟩
 ·cases hvb : v.ownBlock with
  | none => exact .inl rfl
  | some g =>
   refine .inr fun e => ?_
   obtain ⟨-, o, ho', hc⟩ := hr g e.symm
   obtain ⟨-, cur, hcur⟩ := owns_cells ho hvb
   rw [hcur] at ho'; cases ho'; cases hc
 ·intro k e
  have := (hr k e).1
  omega
theorem Ir_step {w W w1 : World} {n1 : Nat} {X : Nat -> Prop} {B : Nat} {T : List Sg} {i : Nat} {x : Sg} {v : Value} {g cap : Nat} (hn1 : n1 <= W.heap.size) (hX' : ∀ b, X b -> b < n1) (hXs : ¬ X w.heap.size) (hx : T[i]? = some x) (hv : Boxed W w.heap.size 41 v) (ho : Owns W w.heap.size v ((T.take i).map (·.2.1))) (hg : ∀ g, v.ownBlock = some g -> ¬ X g) (hBl : Below w.heap.size w W)
  (h2 : Owns w1 w.heap.size (.slice (some ⟨g, 0, none⟩) (((T.take i).map (·.2.1)).length + 1) cap) (((T.take i).map (·.2.1)) ++ [x.2.1])) (h3 : (W.alloc (.cells #[.int .i64 x.2.1] 3)).grownBy w1 v.ownBlock) (h4 : v.ownBlock = some g \/ g = W.heap.size + 1) :
  Boxed w1 w.heap.size 41 v /\ Hid (postT B (Kq X) (Ir w n1 X T) (fun _ _ _ => False) (i + 1) W .normal { tmps := #[], defers := [] } (w1.setCell ⟨w.heap.size, 0, none⟩ (.slice (some ⟨g, 0, none⟩) (((T.take i).map (·.2.1)).length + 1) cap))) := by
 have hsz := hBl.size
 have hX : ∀ b, X b -> b < W.heap.size := fun b h => Nat.lt_of_lt_of_le (hX' b h) hn1
 obtain ⟨hv1, hv2, hr2, hk2, hb2⟩ := hv.appended (by decide) ho hsz (Nat.le_refl _) h2 h3
 have htk : ((T.take i).map (·.2.1)) ++ [x.2.1] = (T.take (i + 1)).map (·.2.1) := by rw [List.take_add_one, hx]; simp
 refine ⟨hv1, hk2.from B, ⟨hb2.size, fun b hb => ?_⟩, Nat.le_trans hn1 hb2.size, _, hv2, htk ▸ hr2, fun g' e => ?_, hBl.trans hb2⟩
 ·rw [Deep.blk_setCell_other _ _ _ _ (fun e => hXs (by dsimp only at e; rwa [e] at hb)), h3.block b (by have := hX b hb; simp; omega) (fun e => hg b e.symm hb)]
  exact Below.heap_alloc W _ b (hX b hb)
 ·cases e
  rcases h4 with h4 | rfl
  ·exact hg g h4
  ·exact fun h => by have := hX _ h; dsimp only at this; omega
theorem Owns.read {w : World} {base : Nat} {v : Value} {t : List Int} (h : Owns w base v t) : ∃ q c, v = .slice q t.length c /\ Is w q t := by
 obtain ⟨q, k, c, rfl⟩ := ownsRow_form h
 obtain ⟨h1, rfl, -, -⟩ := is_of_row h
 exact ⟨q, c, rfl, h1⟩
theorem boxed_below {W W' : World} {b n0 : Nat} {ty : TypeId} {v : Value} (h : Boxed W b ty v) (hb : Below n0 W W') (hlt : b < n0 := by omega) : Boxed W' b ty v := (hb.block b hlt).trans h
theorem Read_any (p : Option Addr) (R : List Row) (cap : Nat) (w : World) (hS : Sized R) (hM : Mt w p R) :
  Calls Tryz.prog 109 #[.slice p R.length cap] w fun e w' => ∃ v, e = .returned v /\ Owns w' w.heap.size v (readS (flowT R)) /\ Below w.heap.size w w' := by
 have hlen : (flowT R).length <= 2199025352704 := by rw [flowT_flS]; exact flS_len R hS R.length (Nat.le_refl _)
 have b0 := Boxed.new w 41 (.slice none 0 0)
 have hB0 : Below w.heap.size w (w.alloc (.cells #[.slice none 0 0] 41)) := (Below.refl _ w).alloc (Nat.le_refl _) _
 have hs0 : (w.alloc (.cells #[.slice none 0 0] 41)).heap.size = w.heap.size + 1 := by simp
 have FL := fun m => (callsIn_wide (n := m)).2 (Flow_any p R cap _ hS (hM.on hB0))
 rw [hs0] at FL
 generalize flowT R = t at FL hlen |-
 unfold readS
 obtain ⟨T, hT⟩ : ∃ T, sgP 0 t = T := ⟨_, rfl⟩
 have hTl : T.length <= 2199025352704 := by rw [<- hT]; exact Nat.le_trans (sg_len t 0) hlen
 rw [hT]
 have HT : Hid (sgP 0 t = T) := hT
 clear hT
 refine (callsIn_wide (n := 9)).1 ?_
 refine callsIn_of_wp_marks Tryz.func109 rfl trivial ?_ rfl
 simp only [Tryz.ntmps109, frm, Nat.reduceAdd, Nat.reduceSub]
 gi_wp2_with (first | (refine ⟨trivial, ?_⟩; gi_at_call 118; refine (FL _).mono ?_; rintro e W2 ⟨v, rfl, ho, hb⟩; obtain ⟨q, c, rfl, hI⟩ := Owns.read ho) | (refine ⟨trivial, ?_⟩; gi_at_call 150; refine (signs_in _ _ _ _ _).mono ?_; rintro e W3 ⟨rfl, rfl⟩))
 clear FL
 have b1 := ((boxed_below b0 hb).alloc (.cells #[.slice q t.length c] 41))
 have hB2 := (hB0.trans (hb.mono (Nat.le_succ _))).alloc (by have := hb.size; omega) (.cells #[.slice q t.length c] 41)
 have hsb := hb.size
 have hb2 := Boxed.new W2 41 (.slice q t.length c)
 have hs3 : (W2.alloc (.cells #[.slice q t.length c] 41)).heap.size = W2.heap.size + 1 := by simp
 have SQ := signs_seq (9 - 1) W2.heap.size c q t (by omega) (W2.alloc (.cells #[.slice q t.length c] 41)) hb2.cell (hI.alloc _)
 rw [HT.out] at SQ
 have hXlt := xs_lt (Bb := W2.heap.size) (B := W2.heap.size + 1) hI (by omega) (by omega)
 have hXs : ¬ Xs q t W2.heap.size w.heap.size := by
  rintro (e | ⟨hl, a, rfl, e⟩)
  ·omega
  ·have := (owns_cells ho (g := a.block) rfl).1
   omega
 generalize Xs q t W2.heap.size = X at SQ hXlt hXs
 generalize W2.alloc (.cells #[.slice q t.length c] 41) = W3 at b1 hB2 hs3 SQ
 refine wpIn_rangeFuncB (gf := 176) (lb := #[.pointer (some ⟨W2.heap.size, 0, none⟩)]) rfl (enters_of Tryz.func176 (by kernel_rfl) rfl) SQ (fun h k => Kq.trans h k) (Kq.putObj (by rw [hs3]; exact hXlt)) (Below.refl _ _) (fun _ => rfl)
  (Ir w W3.heap.size X T) (fun _ _ _ => False) (Ir.own _ (by omega)) (fun _ _ _ _ _ h => h.elim) ⟨Nat.le_refl _, _, b1, World.ownsRow_nil _ _ 3 1, (fun g e => by cases e), hB2⟩
  (fun x => .cells #[.int .i64 x.2.1, .bool x.2.2] 184) (fun W x h => Kq.alloc hXlt W _ (by omega))
  (fun x b => { tmps := #[.slice p R.length cap, undef, .slice none 0 0, .pointer (some ⟨w.heap.size, 0, none⟩), undef, .pointer (some ⟨b, 0, none⟩), .slice p R.length cap, .slice q t.length c, .func (.func 176) #[] #[.pointer (some ⟨W2.heap.size, 0, none⟩)], .int .i64 (x.1 : Nat), .agg #[.int .i64 x.2.1, .bool x.2.2], undef, undef, undef, undef, undef, undef], defers := [] }) ?assign ?body ?done ?stop
 case assign =>
  intro m l x W K hK
  simp only [encS] at hK |-
  gi_wp2
  exact hK
 case body =>
  clear SQ hb2 b1
  rintro m l i b ⟨a, x, z⟩ W hx ⟨hn1, v, hv, hoi, hg, hBl⟩ xb
  dsimp only at xb |-
  have e0 : W.cell? ⟨b, 0, none⟩ = some (.int .i64 x) := by simp [World.cell?, xb]
  have hcl := hv.cell
  obtain ⟨g, cp, w1, hrun, h2, h3, h4⟩ := push1 hoi hBl.size (by rw [List.length_map, List.length_take]; omega) x
  obtain ⟨hv1, HF⟩ := Ir_step (B := W3.heap.size) (x := (a, x, z)) hn1 (by rw [hs3]; exact hXlt) hXs hx hv hoi hg hBl h2 h3 h4
  have hc1 := hv1.cell
  have hf1 := hv1.frozen
  obtain ⟨va, vk, vc, rfl⟩ := ownsRow_form hoi
  clear hx h2 h3 h4 xb
  generalize ((T.take i).map (·.2.1)).length + 1 = kk at hrun HF
  gi_wp2_with (first | (gi_at_builtin; refine wpListIn_append_run rfl _ _ 41 rfl rfl rfl hrun ?_))
  exact HF.out
 case done =>
  rintro D W hD ⟨-, v, hv, hoi, -, hBl⟩ hK
  rw [List.take_length] at hoi
  obtain ⟨va, vk, vc, rfl⟩ := ownsRow_form hoi
  have hcl := hv.cell
  clear SQ
  gi_wp2
  refine ⟨by simp, .inl ⟨_, _, rfl, run_takeDeferred hK, ?_⟩⟩
  refine ⟨_, results_tmp rfl _ _ _, _, rfl, ?_, ?_⟩
  ·exact ownsRow_putObj hoi _ hK rfl
  ·exact hBl.trans (belowK_b (w := w) (Nat.le_refl _) W D _ _ (by omega) hK rfl rfl)
 case stop =>
  rintro D c' i W hD h hK
  exact h.elim
end Go.Proofs.YtipbhdhiklmieaaGreatDoor.P8
namespace Go.Proofs.YtipbhdhiklmieaaGreatDoor
open Go.RowKit Go.Shelf
open P8 (Row Mt)
attribute [local go_sem] Oper.semAt_some
theorem tAt_few {R : List Row} (h : Few R) (i : Nat) : (P8.tAt R i).length <= 1300 := by
 unfold P8.tAt
 cases hr : R[i]? with
 | none => simp
 | some r => simpa [hr] using h.2 r (List.mem_of_getElem? hr)
theorem flS_few {R : List Row} (h : Few R) : ∀ k, (P8.flS R k).1.length + (P8.flS R k).2 <= k * 1301
 | 0 => by simp [P8.flS]
 | k + 1 => by
  have ih := flS_few h k
  have h1 : (P8.trimG R k).length <= 1300 := Nat.le_trans (P8.trimF_le _ _ _) (tAt_few h k)
  have h2 : (P8.sepR k (P8.flS R k).2).length <= (P8.flS R k).2 + 1 := by unfold P8.sepR; split <;> simp
  rw [P8.flS]
  split
  ·simp only [List.length_append]; omega
  ·simp only; omega
theorem flow_few {R : List Row} (h : Few R) : (P8.flowT R).length <= 1000000 := by
 rw [P8.flowT_flS]
 have := flS_few h R.length
 have := h.1
 have : R.length * 1301 <= 600 * 1301 := Nat.mul_le_mul_right _ h.1
 omega
theorem sized_few {R : List Row} (h : Few R) : P8.Sized R := ⟨by have := h.1; omega, fun i => by have := tAt_few h i; omega⟩
theorem empty_low (x : Ln) (W : World) (hn : x.t.length <= 1300) (h : x.t.length <= x.c /\ x.c <= maxLen /\ Is W x.q x.t) : Calls Tryz.prog 151 #[x.v] W fun en w' => en = .returned (.bool (P10.emptyP x.lp.t)) /\ Below W.heap.size W w' := by
 obtain ⟨hl, hm', hI⟩ := h
 have hm : (x.c : Int) <= 9223372036854775807 := by unfold maxLen at hm'; omega
 obtain ⟨V, hV⟩ : ∃ V, P10.emptyP x.lp.t = V := ⟨_, rfl⟩
 rw [hV]
 have HV : Hid (((x.t.length - P10.run blankP x.t : Nat) == 0) = V) := (P10.empty_len x.t).symm.trans hV
 have hr := P10.run_le blankP x.t
 have h' := hI.alloc (.cells #[.int .i64 x.n, .slice x.q x.t.length x.c] 44)
 clear hI hV
 have HB : Hid (Below W.heap.size W (W.alloc (.cells #[.int .i64 x.n, .slice x.q x.t.length x.c] 44))) := (Below.refl _ W).alloc (Nat.le_refl _) _
 have B := P10.behind_any x.q x.t x.c (W.alloc (.cells #[.int .i64 x.n, .slice x.q x.t.length x.c] 44)) hl hm h'
 generalize hR : P10.run blankP x.t = r at *
 go_enter Tryz.func151, Tryz.ntmps151
 go_wp2_with (first | (go_at_call 177; refine B.mono ?_; rintro e w' ⟨⟨q, c, rfl, hI2⟩, rfl⟩))
 all_goals go_ret
 all_goals first | exact ⟨by rw [<- HV.out]; simp; rw [Bool.eq_iff_iff, beq_iff_eq, beq_iff_eq]; omega, HB.out⟩
theorem folds : Folds 118 (fun ts => P8.flowT (rowsO ts)) := fun p R c W hF hc hm hM => by
 simp only [flow_rows]
 refine (P8.Flow_any p R c W (sized_few hF) hM).mono fun e w' h => ?_
 obtain ⟨v, rfl, ho, hb⟩ := h
 obtain ⟨q, k, rfl, hI⟩ := ho.read
 exact ⟨⟨q, k, rfl, hI⟩, flow_few hF, hb⟩
theorem sReads : Folds 109 (fun ts => P8.readS (P8.flowT (rowsO ts))) := fun p R c W hF hc hm hM => by
 simp only [flow_rows]
 refine (P8.Read_any p R c W (sized_few hF) hM).mono fun e w' h => ?_
 obtain ⟨v, rfl, ho, hb⟩ := h
 obtain ⟨q, k, rfl, hI⟩ := ho.read
 refine ⟨⟨q, k, rfl, hI⟩, ?_, hb⟩
 have := P8.sg_len (P8.flowT R) 0
 have := flow_few hF
 rw [P8.readS, List.length_map]
 omega
end Go.Proofs.YtipbhdhiklmieaaGreatDoor
namespace Go.Proofs.YtipbhdhiklmieaaGreatDoor.P11
open Go.RowKit
def runF (n : Nat -> Nat) : Nat -> Nat -> Nat
 | 0, k => k
 | f + 1, k => if n k = 0 then k else runF n f (k + n k)
def runE (n : Nat -> Nat) (L k : Nat) : Nat := runF n (L - k) k
def Bd (n : Nat -> Nat) (L : Nat) : Prop := ∀ k, n k = 0 \/ k + n k <= L
theorem runF_more {n : Nat -> Nat} {L : Nat} (hb : Bd n L) : ∀ f g k, L - k <= f -> L - k <= g -> runF n f k = runF n g k := by
 intro f
 induction f with
 | zero =>
  intro g k h1 h2
  have h0 : n k = 0 := by rcases hb k with h | h <;> omega
  cases g with
  | zero => rfl
  | succ g => rw [runF, runF, if_pos h0]
 | succ f ih =>
  intro g k h1 h2
  by_cases h0 : n k = 0
  ·rw [runF, if_pos h0]
   cases g with
   | zero => rfl
   | succ g => rw [runF, if_pos h0]
  ·have h3 : k + n k <= L := by rcases hb k with h | h <;> omega
   cases g with
   | zero => omega
   | succ g =>
    rw [runF, runF, if_neg h0, if_neg h0]
    exact ih g (k + n k) (by omega) (by omega)
theorem runE_step {n : Nat -> Nat} {L k : Nat} (hb : Bd n L) (h : n k ≠ 0) : runE n L (k + n k) = runE n L k := by
 have h3 : k + n k <= L := by rcases hb k with h | h <;> omega
 unfold runE
 obtain ⟨m, hm⟩ : ∃ m, L - k = m + 1 := ⟨L - k - 1, by omega⟩
 rw [hm, runF, if_neg h]
 exact runF_more hb _ _ _ (Nat.le_refl _) (by omega)
theorem runE_stop {n : Nat -> Nat} {L k : Nat} (h : n k = 0) : runE n L k = k := by
 unfold runE
 cases L - k with
 | zero => rfl
 | succ m => rw [runF, if_pos h]
theorem runF_ge (n : Nat -> Nat) : ∀ f k, k <= runF n f k := by
 intro f
 induction f with
 | zero => intro k; exact Nat.le_refl _
 | succ f ih =>
  intro k
  rw [runF]
  split
  ·exact Nat.le_refl _
  ·exact Nat.le_trans (Nat.le_add_right _ _) (ih _)
theorem runE_ge (n : Nat -> Nat) (L k : Nat) : k <= runE n L k := runF_ge n _ k
theorem runF_le {n : Nat -> Nat} {L : Nat} (hb : Bd n L) : ∀ f k, k <= L -> runF n f k <= L := by
 intro f
 induction f with
 | zero => intro k h; exact h
 | succ f ih =>
  intro k h
  rw [runF]
  split
  ·exact h
  ·refine ih _ ?_
   rcases hb k with h | h <;> omega
theorem runE_le {n : Nat -> Nat} {L k : Nat} (hb : Bd n L) (h : k <= L) : runE n L k <= L := runF_le hb _ k h
theorem runF_shift {n n' : Nat -> Nat} {a : Nat} (h : ∀ j, n' j = n (a + j)) : ∀ f k, runF n f (a + k) = a + runF n' f k := by
 intro f
 induction f with
 | zero => intro k; rfl
 | succ f ih =>
  intro k
  rw [runF, runF, h k]
  split
  ·rfl
  ·rw [Nat.add_assoc]; exact ih _
theorem runE_shift {n n' : Nat -> Nat} {a L k : Nat} (h : ∀ j, n' j = n (a + j)) : runE n L (a + k) = a + runE n' (L - a) k := by
 unfold runE
 rw [runF_shift h, Nat.sub_add_eq]
def st (P : Int -> Bool) (t : List Int) (k : Nat) : Nat := if k < t.length /\ P (iAt t k) = true then 1 else 0
theorem st_bd (P : Int -> Bool) (t : List Int) : Bd (st P t) t.length := by
 intro k
 unfold st
 split <;> omega
theorem iAt_drop (t : List Int) (a j : Nat) : iAt (t.drop a) j = iAt t (a + j) := by simp [iAt]
theorem st_drop (P : Int -> Bool) (t : List Int) (a j : Nat) : st P (t.drop a) j = st P t (a + j) := by
 unfold st
 rw [iAt_drop, List.length_drop]
 by_cases h : a + j < t.length
 ·have h1 : j < t.length - a := by omega
  simp only [h, h1, true_and]
 ·rw [if_neg (by omega), if_neg (by omega)]
def cnt (P : Int -> Bool) (t : List Int) : Nat := runE (st P t) t.length 0
theorem cnt_drop (P : Int -> Bool) (t : List Int) (a : Nat) : runE (st P t) t.length a = a + cnt P (t.drop a) := by
 unfold cnt
 rw [List.length_drop]
 exact runE_shift (k := 0) (st_drop P t a)
theorem cnt_le (P : Int -> Bool) (t : List Int) : cnt P t <= t.length := runE_le (st_bd P t) (Nat.zero_le _)
theorem st_one {P : Int -> Bool} {t : List Int} {k : Nat} (h : k < t.length) (hp : P (iAt t k) = true) : st P t k = 1 := if_pos ⟨h, hp⟩
theorem st_none {P : Int -> Bool} {t : List Int} {k : Nat} (h : k < t.length -> P (iAt t k) = false) : st P t k = 0 := if_neg (fun ⟨h1, h2⟩ => by rw [h h1] at h2; cases h2)
theorem span_not {n a b : Int} : span n a b = false ↔ ¬ (a <= n /\ n <= b) := by rw [<- span_iff]; simp
def hexOk (c : Int) : Bool := decide (0 <= hexP c)
def wordP (c : Int) : Bool := decide ((48 <= c /\ c <= 57) \/ (97 <= c /\ c <= 122) \/ (65 <= c /\ c <= 90) \/ c = 45)
def otherP (c : Int) : Bool := decide (c = 35 \/ c = 59 \/ c = 47 \/ c = 63 \/ c = 58 \/ c = 64 \/ c = 38 \/ c = 61 \/ c = 43 \/ c = 36 \/ c = 44 \/ c = 95 \/ c = 46 \/ c = 33 \/ c = 126 \/ c = 42 \/ c = 39 \/ c = 40 \/ c = 41 \/ c = 91 \/ c = 93)
def uriP (c : Int) : Bool := wordP c || otherP c
theorem hex_any (c : Int) (w : World) :
  Calls Tryz.prog 203 #[.int .i64 c] w fun e w' => e = .returned (.int .i64 (hexP c)) /\ w' = w := by
 go_enter Tryz.func203, Tryz.ntmps203
 go_wp2_with (go_at_call 192; refine (within_any _ _ _ _).mono ?_; rintro e w' ⟨rfl, rfl⟩)
 all_goals
  go_ret
  refine ⟨ret_int ?_, rfl⟩
  unfold hexP
  try unfold wrap64
  simp only [span_iff, span_not] at *
  repeat' split
  all_goals omega
theorem word_any (c : Int) (w : World) :
  Calls Tryz.prog 174 #[.int .i64 c] w fun e w' => e = .returned (.bool (wordP c)) /\ w' = w := by
 go_enter Tryz.func174, Tryz.ntmps174
 go_wp2_with (first | (go_at_call 192; refine (within_any _ _ _ _).mono ?_; rintro e w' ⟨rfl, rfl⟩))
 all_goals
  go_ret
  refine ⟨ret_bool ?_, rfl⟩
  unfold wordP
  rw [Bool.eq_iff_iff]
  simp only [span_iff, span_not, beq_iff_eq, beq_eq_false_iff_ne, bne_iff_ne, decide_eq_true_eq, Bool.or_eq_true, Bool.and_eq_true, Bool.not_eq_true', Bool.not_eq_eq_eq_not, Bool.not_true, Bool.not_false, Bool.false_eq_true, decide_eq_false_iff_not, ne_eq, iff_false, false_iff, true_iff, iff_true] at *
  try omega
theorem stands_any (c : Int) (w : World) :
  Calls Tryz.prog 202 #[.int .i64 c] w fun e w' => e = .returned (.bool (uriP c)) /\ w' = w := by
 have WD := word_any c
 obtain ⟨V, hV⟩ : ∃ V, uriP c = V := ⟨_, rfl⟩
 have hV' : Hid (uriP c = V) := hV
 rw [hV]
 clear hV
 obtain ⟨U, hU⟩ : ∃ U, wordP c = U := ⟨_, rfl⟩
 rw [hU] at WD
 have hU' : Hid (wordP c = U) := hU
 clear hU
 go_enter Tryz.func202, Tryz.ntmps202
 go_wp2_with (first | (go_at_call 174; refine (WD _).mono ?_; rintro e w' ⟨rfl, rfl⟩))
 all_goals
  go_ret
  refine ⟨ret_bool ?_, rfl⟩
  rw [<- hV'.out]
  unfold uriP otherP
  try rw [hU'.out]
  simp_all
end Go.Proofs.YtipbhdhiklmieaaGreatDoor.P11
namespace Go.Proofs
open Go.Shelf
def Tryz.lays242_ren : Go.Shelf.Ren := ⟨fun | 242 => 181 | 278 => 198 | n => n, fun | 37 => 82 | 21 => 21 | 51 => 145 | 4 => 4 | 5 => 5 | 46 => 121 | n => n, fun | n => n⟩
theorem Tryz.lays242 : Go.Proofs.Lays.n242 Tryz.prog Tryz.lays242_ren := {
 mixed := by kernel_rfl
 f242 := Tryz.func181.trans (congrArg some (by kernel_rfl))
 f278 := Tryz.func198.trans (congrArg some (by kernel_rfl))
 t4 := Tryz.underlying4
 a4 := Tryz.isAgg4
 z4 := Tryz.sizeOf4
 v4 := Tryz.zeroValue4
 t5 := Tryz.underlying5
 a5 := Tryz.isAgg5
 z5 := Tryz.sizeOf5
 v5 := Tryz.zeroValue5
 t21 := Tryz.underlying21
 a21 := Tryz.isAgg21
 z21 := Tryz.sizeOf21
 v21 := Tryz.zeroValue21
 t37 := Tryz.underlying82
 a37 := Tryz.isAgg82
 z37 := Tryz.sizeOf82
 v37 := Tryz.zeroValue82
 t46 := Tryz.underlying121
 a46 := Tryz.isAgg121
 z46 := Tryz.sizeOf121
 v46 := Tryz.zeroValue121
 t51 := Tryz.underlying145
 a51 := Tryz.isAgg145
 z51 := Tryz.sizeOf145
 v51 := Tryz.zeroValue145 }
open Go.RowKit in
theorem Tryz.utf8_AppendRune_plain (B : Nat) (v : Value) (n : Nat) (xs : List Value) (r : Int) (hr0 : -2147483648 <= r) (hr1 : r <= 2147483647) (w : World) (hown : w.ownsRow B 5 1 v n xs) (hlen : n + 4 <= 140737488355328) (hBw : B <= w.heap.size) :
  Calls Tryz.prog 181 #[v, .int .i32 r] w fun e w' => ∃ v', e = .returned v' /\ w'.ownsRow B 5 1 v' (n + (Lib.runeCells r).length) (xs ++ Lib.runeCells r) /\ ∃ o, (w.alloc o).grownBy w' v.ownBlock := Any.utf8_AppendRune_plain Tryz.lays242 (by kernel_rfl) B v n xs r hr0 hr1 w hown hlen hBw
end Go.Proofs
namespace Go.Proofs.YtipbhdhiklmieaaGreatDoor.P11
open Go.RowKit Go.Shelf
def half (p : Int) : Bool := decide (55296 <= p) && decide (p <= 57343)
theorem isHalf_any (p : Int) (w : World) :
  Calls Tryz.prog 197 #[.int .i64 p] w fun e w' => e = .returned (.bool (half p)) /\ w' = w := by
 go_enter Tryz.func197, Tryz.ntmps197
 go_wp2
 ·go_ret
  exact ⟨ret_bool (by unfold half; simp [*]), rfl⟩
 ·go_ret
  exact ⟨ret_bool (by unfold half; simp; omega), rfl⟩
def okP (c : Int) : Bool := decide (0 <= c) && decide (c <= 1114111) && (decide (c < 55296) || decide (57343 < c))
def fixP (c : Int) : Int := if okP c then c else 65533
theorem fixP_ok (c : Int) : okP (fixP c) = true := by
 unfold fixP
 split
 ·assumption
 ·decide
theorem okP_range {c : Int} (h : okP c = true) : 0 <= c /\ c <= 1114111 /\ (c < 55296 \/ 57343 < c) := by unfold okP at h; simp at h; omega
theorem isPoint_any (c : Int) (w : World) :
  Calls Tryz.prog 180 #[.int .i64 c] w fun e w' => e = .returned (.bool (okP c)) /\ w' = w := by
 by_cases h0 : 0 <= c
 ·by_cases h1 : c <= 1114111
  ·have hh : okP c = !half c := by unfold okP half; rw [Bool.eq_iff_iff]; simp; omega
   rw [hh]
   cases hf : half c
   ·go_enter Tryz.func180, Tryz.ntmps180
    go_wp2_with (go_at_call 197; refine (isHalf_any _ _).mono ?_; rintro e w' ⟨rfl, rfl⟩)
    go_ret
    exact ⟨ret_bool (by simp [hf]), rfl⟩
   ·go_enter Tryz.func180, Tryz.ntmps180
    go_wp2_with (go_at_call 197; refine (isHalf_any _ _).mono ?_; rintro e w' ⟨rfl, rfl⟩)
    go_ret
    exact ⟨ret_bool (by simp [hf]), rfl⟩
  ·have hk : okP c = false := by unfold okP; simp; omega
   rw [hk]
   clear hk
   go_enter Tryz.func180, Tryz.ntmps180
   go_wp2_with (go_at_call 197; refine (isHalf_any _ _).mono ?_; rintro e w' ⟨rfl, rfl⟩)
   go_ret
   exact ⟨rfl, rfl⟩
 ·have hk : okP c = false := by unfold okP; simp; omega
  rw [hk]
  clear hk
  go_enter Tryz.func180, Tryz.ntmps180
  go_wp2_with (go_at_call 197; refine (isHalf_any _ _).mono ?_; rintro e w' ⟨rfl, rfl⟩)
  go_ret
  exact ⟨rfl, rfl⟩
def encZ (l : List Int) : List Int := l.flatMap fun c => Lib.encodeRuneZ (fixP c)
theorem encZ_take (l : List Int) (k : Nat) (h : k < l.length) : encZ (l.take (k + 1)) = encZ (l.take k) ++ Lib.encodeRuneZ (fixP (iAt l k)) := by
 have e : iAt l k = l[k] := by unfold iAt; simp [h]
 unfold encZ
 rw [List.take_succ_eq_append_getElem h, List.flatMap_append, e]
 simp
theorem enc_len (c : Int) : (Lib.encodeRuneZ c).length <= 4 := by
 unfold Lib.encodeRuneZ
 repeat' split
 all_goals simp
theorem encZ_len (l : List Int) : (encZ l).length <= 4 * l.length := by
 induction l with
 | nil => simp [encZ]
 | cons c t ih =>
  have e : encZ (c :: t) = Lib.encodeRuneZ (fixP c) ++ encZ t := rfl
  have := enc_len (fixP c)
  rw [e]
  simp
  omega
theorem rune_cells (c : Int) : Lib.runeCells c = (Lib.encodeRuneZ c).map (.int .u8) := rfl
theorem bytes_any (p : Option Addr) (l : List Int) (cap : Nat) (w : World) (hl : (l.length : Int) <= 1000000) (h : Is w p l) (hpa : ∀ a, p = some a -> 0 < l.length -> a.block < w.heap.size) :
  Calls Tryz.prog 154 #[.slice p l.length cap] w fun e w' => ∃ v, e = .returned v /\ w'.ownsRow w.heap.size 5 1 v (encZ l).length ((encZ l).map (.int .u8)) /\ Below w.heap.size w w' := by
 go_enter Tryz.func154, Tryz.ntmps154
 go_wp2
 go_loopw [3, 8] (fun v i wr => ∃ k : Nat, k <= l.length /\ i = .int .i64 k /\ wr.ownsRow w.heap.size 5 1 v (encZ (l.take k)).length ((encZ (l.take k)).map (.int .u8)) /\ Below w.heap.size w wr) (fun _ i _ => l.length - (intOf i).toNat)
 case atStart => exact ⟨0, Nat.zero_le _, rfl, World.ownsRow_nil _ _ _ _, Below.refl _ _⟩
 case round =>
  obtain ⟨k, hk, rfl, hrow, hB⟩ := hrel
  have hBs := hB.size
  by_cases hlt : k < l.length
  ·obtain ⟨b, o, rfl, hcl⟩ := h.at (by omega)
   have q0 : wr.cell? ⟨b, o + k, none⟩ = some (.int .i64 (iAt l k)) := (hB.cell (p := ⟨b, o + k, none⟩) (hpa ⟨b, o, none⟩ rfl (by omega))).trans (hcl k hlt)
   have hE := encZ_take l k hlt
   have hn := encZ_len (l.take k)
   rw [List.length_take] at hn
   have hf := okP_range (fixP_ok (iAt l k))
   generalize iAt l k = c at q0 hE hf
   obtain ⟨f, hF⟩ : ∃ f, fixP c = f := ⟨_, rfl⟩
   rw [hF] at hE hf
   obtain ⟨f0, f1, -⟩ := hf
   have A := Tryz.utf8_AppendRune_plain w.heap.size u3 (encZ (l.take k)).length ((encZ (l.take k)).map (.int .u8)) f (by omega) (by omega) wr hrow (by omega) hBs
   rw [rune_cells, <- List.map_append, <- hE, List.length_map, <- List.length_append, <- hE] at A
   have hlt2 := hrow.lt
   clear hcl h hrow hE hn
   cases ho : okP c
   ·obtain rfl : f = 65533 := by rw [<- hF]; unfold fixP; rw [ho]; rfl
    clear hF
    go_wp2_with (first | (go_at_call 180; refine (isPoint_any _ _).mono ?_; rintro e w' ⟨rfl, rfl⟩) | (go_at_call 181; refine A.mono ?_; rintro e w1 ⟨v', rfl, ho', oo, hg⟩))
    go_roundw
    case rel => exact ⟨k + 1, by omega, by go_num, ho', (hB.alloc hBs _).grown hg (by simp; omega) (fun j e => (hlt2 j e).1)⟩
    case measure => simp [intOf]; omega
   ·obtain rfl : c = f := by rw [<- hF]; unfold fixP; rw [ho]; rfl
    clear hF
    go_wp2_with (first | (go_at_call 180; refine (isPoint_any _ _).mono ?_; rintro e w' ⟨rfl, rfl⟩) | (go_at_call 181; refine A.mono ?_; rintro e w1 ⟨v', rfl, ho', oo, hg⟩))
    go_roundw
    case rel => exact ⟨k + 1, by omega, by go_num, ho', (hB.alloc hBs _).grown hg (by simp; omega) (fun j e => (hlt2 j e).1)⟩
    case measure => simp [intOf]; omega
  ·obtain rfl : k = l.length := by omega
   rw [List.take_length] at hrow
   go_wp2
   go_ret
   exact ⟨_, rfl, hrow, hB⟩
theorem encZ_byte (l : List Int) : ∀ z, z ∈ encZ l -> 0 <= z /\ z < 256 := by
 intro z hz
 unfold encZ at hz
 obtain ⟨c, -, hz⟩ := List.mem_flatMap.1 hz
 obtain ⟨a0, a1, a2⟩ := okP_range (fixP_ok c)
 unfold Lib.encodeRuneZ at hz
 repeat' split at hz
 all_goals (simp at hz; omega)
theorem cnt_of {P : Int -> Bool} {t : List Int} {k : Nat} (h : k = t.length \/ (k < t.length /\ P (iAt t k) = false)) (hr : runE (st P t) t.length k = cnt P t) : k = cnt P t := by
 rw [<- hr, runE_stop]
 rcases h with rfl | ⟨h1, h2⟩
 ·exact st_none (fun h => by omega)
 ·exact st_none (fun _ => h2)
theorem cnt_next {P : Int -> Bool} {t : List Int} {k : Nat} (h1 : k < t.length) (h2 : P (iAt t k) = true) (hr : runE (st P t) t.length k = cnt P t) : runE (st P t) t.length (k + 1) = cnt P t := by
 have h3 := st_one h1 h2
 have := runE_step (L := t.length) (st_bd P t) (k := k) (by rw [h3]; omega)
 rw [h3] at this
 rw [this, hr]
theorem count_name (q : Option Addr) (t : List Int) (n c : Nat) (w : World) (hl : n = t.length) (hn : t.length <= 1099511627776) (hI : Is w q t) :
  Calls Tryz.prog 144 #[.slice q n c, .func (.func 145) #[] #[]] w fun e w' => e = .returned (.int .i64 (cnt nameP t : Nat)) /\ w' = w := by
 subst hl
 obtain ⟨E, hE⟩ : ∃ E, cnt nameP t = E := ⟨_, rfl⟩
 rw [hE]
 have HS : Hid (cnt nameP t = E) := hE
 have hn2 : (t.length : Int) <= 1099511627776 := by omega
 clear hE
 go_enter Tryz.func144, Tryz.ntmps144
 go_wp2
 go_loop [9] (fun iv => ∃ (k : Nat), k <= t.length /\ iv = .int .i64 k /\ Hid (runE (st nameP t) t.length k = cnt nameP t)) (fun iv => t.length - (intOf iv).toNat)
 case atStart => exact ⟨0, by omega, rfl, rfl⟩
 case round =>
  obtain ⟨k, hk, rfl, HE⟩ := hrel
  by_cases hlt : k < t.length
  ·have hli : (k : Int) < t.length := by omega
   obtain ⟨b, o, rfl, hu⟩ := hI.at (by omega)
   have c0 := hu k hlt
   have KD := name_any (iAt t k)
   cases hz : nameP (iAt t k) with
   | true =>
    rw [hz] at KD
    have HN : Hid (runE (st nameP t) t.length (k + 1) = cnt nameP t) := cnt_next hlt hz HE.out
    generalize iAt t k = x at c0 KD
    clear hu hI hz HE HS
    go_wp2_with (first | (go_at_call 145; refine (KD _).mono ?_; rintro e w ⟨rfl, rfl⟩))
    go_round
    case rel => exact ⟨k + 1, by omega, by go_num, HN⟩
    case measure => simp [intOf]; omega
   | false =>
    rw [hz] at KD
    have hkE : k = E := (cnt_of (.inr ⟨hlt, hz⟩) HE.out).trans HS.out
    subst hkE
    generalize iAt t k = x at c0 KD
    clear hu hI hz HE HS
    go_wp2_with (first | (go_at_call 145; refine (KD _).mono ?_; rintro e w ⟨rfl, rfl⟩))
    go_ret
    exact ⟨rfl, rfl⟩
  ·have hge : ¬ (k : Int) < t.length := by omega
   have hkE : t.length = E := by
    obtain rfl : k = t.length := by omega
    exact (cnt_of (.inl rfl) HE.out).trans HS.out
   subst hkE
   go_wp2
   go_ret
   exact ⟨rfl, rfl⟩
theorem count_word (q : Option Addr) (t : List Int) (n c : Nat) (w : World) (hl : n = t.length) (hn : t.length <= 1099511627776) (hI : Is w q t) :
  Calls Tryz.prog 144 #[.slice q n c, .func (.func 174) #[] #[]] w fun e w' => e = .returned (.int .i64 (cnt wordP t : Nat)) /\ w' = w := by
 subst hl
 obtain ⟨E, hE⟩ : ∃ E, cnt wordP t = E := ⟨_, rfl⟩
 rw [hE]
 have HS : Hid (cnt wordP t = E) := hE
 have hn2 : (t.length : Int) <= 1099511627776 := by omega
 clear hE
 go_enter Tryz.func144, Tryz.ntmps144
 go_wp2
 go_loop [9] (fun iv => ∃ (k : Nat), k <= t.length /\ iv = .int .i64 k /\ Hid (runE (st wordP t) t.length k = cnt wordP t)) (fun iv => t.length - (intOf iv).toNat)
 case atStart => exact ⟨0, by omega, rfl, rfl⟩
 case round =>
  obtain ⟨k, hk, rfl, HE⟩ := hrel
  by_cases hlt : k < t.length
  ·have hli : (k : Int) < t.length := by omega
   obtain ⟨b, o, rfl, hu⟩ := hI.at (by omega)
   have c0 := hu k hlt
   have KD := word_any (iAt t k)
   cases hz : wordP (iAt t k) with
   | true =>
    rw [hz] at KD
    have HN : Hid (runE (st wordP t) t.length (k + 1) = cnt wordP t) := cnt_next hlt hz HE.out
    generalize iAt t k = x at c0 KD
    clear hu hI hz HE HS
    go_wp2_with (first | (go_at_call 174; refine (KD _).mono ?_; rintro e w ⟨rfl, rfl⟩))
    go_round
    case rel => exact ⟨k + 1, by omega, by go_num, HN⟩
    case measure => simp [intOf]; omega
   | false =>
    rw [hz] at KD
    have hkE : k = E := (cnt_of (.inr ⟨hlt, hz⟩) HE.out).trans HS.out
    subst hkE
    generalize iAt t k = x at c0 KD
    clear hu hI hz HE HS
    go_wp2_with (first | (go_at_call 174; refine (KD _).mono ?_; rintro e w ⟨rfl, rfl⟩))
    go_ret
    exact ⟨rfl, rfl⟩
  ·have hge : ¬ (k : Int) < t.length := by omega
   have hkE : t.length = E := by
    obtain rfl : k = t.length := by omega
    exact (cnt_of (.inl rfl) HE.out).trans HS.out
   subst hkE
   go_wp2
   go_ret
   exact ⟨rfl, rfl⟩
abbrev OwnB (w : World) (base : Nat) (v : Value) (t : List Int) : Prop := w.ownsRow base 5 1 v t.length (t.map (.int .u8))
def strB (L : List Int) : ByteArray := ⟨(L.map fun x => UInt8.ofNat x.toNat).toArray⟩
theorem own_string {B : Nat} {w : World} {v : Value} {L : List Int} (h : OwnB w B v L) (hL : ∀ x ∈ L, 0 <= x /\ x < 256) :
  (convert 82 9 v).run Tryz.prog w = .ok (.string (strB L)) w := by
 obtain ⟨h0, ⟨rfl, h1⟩ | ⟨g, cap, cur, rfl, -⟩⟩ := id h
 ·have : L = [] := List.eq_nil_of_length_eq_zero (by omega)
  subst this
  exact Lib.run_convert_nil_bytes w _ _ _ 0 Tryz.underlying82 Tryz.underlying5 Tryz.underlying9
 ·have := run_convert_bytes_back (P := Tryz.prog) w 82 9 5 ⟨g, 0, none⟩ cap (L.map fun x => UInt8.ofNat x.toNat) Tryz.underlying82 Tryz.underlying5 Tryz.underlying9 (fun j hj => by
   have hj' : j < L.length := by simpa using hj
   have := h.cells (g := g) rfl j (.int .u8 L[j]) (by simp [hj'])
   rw [this]
   have := hL _ (List.getElem_mem hj')
   simp
   omega)
  rw [List.length_map] at this
  exact this
def txt (t : List Int) : ByteArray := strB (encZ t)
theorem text_any (q : Option Addr) (t : List Int) (n c : Nat) (w : World) (hl : n = t.length) (hn : t.length <= 1000000) (hI : Is w q t) :
  Calls Tryz.prog 146 #[.slice q n c] w fun e w' => e = .returned (.string (txt t)) /\ Below w.heap.size w w' := by
 subst hl
 have BY := bytes_any q t c w (by omega) hI hI.lt
 go_enter Tryz.func146, Tryz.ntmps146
 go_wp2_with (first | (go_at_call 154; refine BY.mono ?_; rintro e w1 ⟨v, rfl, ho, hB⟩; have HS := own_string ho (encZ_byte t)))
 go_ret
 exact ⟨rfl, hB⟩
end Go.Proofs.YtipbhdhiklmieaaGreatDoor.P11
namespace Go.Proofs.YtipbhdhiklmieaaGreatDoor.P11
open Go.RowKit
def uN (t : List Int) (i : Nat) : Nat :=
 if t.length <= i then 0 else if uriP (iAt t i) = true then 1
 else if iAt t i = 37 /\ i + 2 < t.length /\ hexOk (iAt t (i + 1)) = true /\ hexOk (iAt t (i + 2)) = true then 3 else 0
theorem uN_bd (t : List Int) : Bd (uN t) t.length := by
 intro k
 unfold uN
 repeat' split
 all_goals omega
theorem uN_drop (t : List Int) (a j : Nat) : uN (t.drop a) j = uN t (a + j) := by
 unfold uN
 rw [iAt_drop, iAt_drop, iAt_drop, List.length_drop]
 simp only [Nat.add_assoc]
 by_cases h : t.length <= a + j
 ·rw [if_pos (by omega), if_pos h]
 ·rw [if_neg (by omega), if_neg h]
  have h2 : (j + 2 < t.length - a) = (a + (j + 2) < t.length) := by rw [eq_iff_iff]; omega
  simp only [h2]
theorem signSize_any (q : Option Addr) (t : List Int) (n c : Nat) (w : World) (hl : n = t.length) (hn : t.length <= 1099511627776) (hI : Is w q t) :
  Calls Tryz.prog 194 #[.slice q n c] w fun e w' => e = .returned (.int .i64 (uN t 0 : Nat)) /\ w' = w := by
 subst hl
 have hn2 : (t.length : Int) <= 1099511627776 := by omega
 obtain ⟨V, hV⟩ : ∃ V, uN t 0 = V := ⟨_, rfl⟩
 rw [hV]
 unfold uN at hV
 by_cases h0 : 0 < t.length
 ·rw [if_neg (by omega)] at hV
  have h0' : (0 : Int) < t.length := by omega
  obtain ⟨b, o, rfl, hu⟩ := hI.at h0
  have c0 := hu 0 h0
  rw [Nat.add_zero] at c0
  have SI := stands_any (iAt t 0)
  cases hs : uriP (iAt t 0) with
  | true =>
   rw [hs] at SI hV
   rw [if_pos rfl] at hV
   subst hV
   generalize iAt t 0 = x at c0 SI
   clear hu hI hs
   go_enter Tryz.func194, Tryz.ntmps194
   go_wp2_with (first | (go_at_call 202; refine (SI _).mono ?_; rintro e w ⟨rfl, rfl⟩))
   go_ret
   exact ⟨rfl, rfl⟩
  | false =>
   rw [hs] at SI hV
   rw [if_neg (by simp)] at hV
   by_cases h2 : 2 < t.length
   ·have h2' : (2 : Int) < t.length := by omega
    have c1 := hu 1 (by omega)
    have c2 := hu 2 (by omega)
    have X1 := hex_any (iAt t 1)
    have X2 := hex_any (iAt t 2)
    by_cases h3 : iAt t 0 = 37
    ·have hV1 : (if hexOk (iAt t 1) = true /\ hexOk (iAt t 2) = true then 3 else 0) = V := by rw [<- hV]; simp [h2, h3]
     have hV2 : Hid _ := hV1
     clear hV1
     rw [h3] at c0 SI
     clear hu hI hs hV
     unfold hexOk at hV2
     simp only [decide_eq_true_eq] at hV2
     generalize iAt t 1 = x1 at c1 X1 hV2
     generalize iAt t 2 = x2 at c2 X2 hV2
     generalize hexP x1 = y1 at X1 hV2
     generalize hexP x2 = y2 at X2 hV2
     by_cases h4 : 0 <= y1
     ·by_cases h5 : 0 <= y2
      ·have := hV2.out
       rw [if_pos ⟨h4, h5⟩] at this
       subst this
       go_enter Tryz.func194, Tryz.ntmps194
       go_wp2_with fail
       refine (SI _).mono ?_; rintro e w ⟨rfl, rfl⟩
       go_wp2_with fail
       refine (X1 _).mono ?_; rintro e w ⟨rfl, rfl⟩
       go_wp2_with fail
       refine (X2 _).mono ?_; rintro e w ⟨rfl, rfl⟩
       go_wp2
       go_ret
       exact ⟨rfl, rfl⟩
      ·have := hV2.out
       rw [if_neg (fun h => h5 h.2)] at this
       subst this
       go_enter Tryz.func194, Tryz.ntmps194
       go_wp2_with fail
       refine (SI _).mono ?_; rintro e w ⟨rfl, rfl⟩
       go_wp2_with fail
       refine (X1 _).mono ?_; rintro e w ⟨rfl, rfl⟩
       go_wp2_with fail
       refine (X2 _).mono ?_; rintro e w ⟨rfl, rfl⟩
       go_wp2
       go_ret
       exact ⟨rfl, rfl⟩
     ·have := hV2.out
      rw [if_neg (fun h => h4 h.1)] at this
      subst this
      go_enter Tryz.func194, Tryz.ntmps194
      go_wp2_with fail
      refine (SI _).mono ?_; rintro e w ⟨rfl, rfl⟩
      go_wp2_with fail
      refine (X1 _).mono ?_; rintro e w ⟨rfl, rfl⟩
      go_wp2
      go_ret
      exact ⟨rfl, rfl⟩
    ·rw [if_neg (fun h => h3 h.1)] at hV
     subst hV
     have h3' : (iAt t 0 == 37) = false := by simpa using h3
     generalize iAt t 0 = x at c0 SI h3'
     clear hu hI hs X1 X2 c1 c2 h3
     go_enter Tryz.func194, Tryz.ntmps194
     go_wp2_with (first | (go_at_call 202; refine (SI _).mono ?_; rintro e w ⟨rfl, rfl⟩))
     go_ret
     exact ⟨rfl, rfl⟩
   ·rw [if_neg (fun h => by omega)] at hV
    subst hV
    have h2' : ¬ (2 : Int) < t.length := by omega
    generalize iAt t 0 = x at c0 SI
    clear hu hI hs
    go_enter Tryz.func194, Tryz.ntmps194
    go_wp2_with (first | (go_at_call 202; refine (SI _).mono ?_; rintro e w ⟨rfl, rfl⟩))
    go_ret
    exact ⟨rfl, rfl⟩
 ·have h0 : t.length = 0 := by omega
  rw [if_pos (by omega)] at hV
  subst hV
  rw [h0]
  have e0 : ((0 : Nat) : Int) = 0 := rfl
  go_enter Tryz.func194, Tryz.ntmps194
  go_wp2
  go_ret
  exact ⟨rfl, rfl⟩
end Go.Proofs.YtipbhdhiklmieaaGreatDoor.P11
namespace Go.Proofs.YtipbhdhiklmieaaGreatDoor.P11
open Go.RowKit Go.Shelf
def posF (n : Nat -> Nat) : Nat -> Nat -> List Nat
 | 0, _ => []
 | f + 1, k => if n k = 0 then [] else k :: posF n f (k + n k)
def posE (n : Nat -> Nat) (L k : Nat) : List Nat := posF n (L - k) k
theorem posF_more {n : Nat -> Nat} {L : Nat} (hb : Bd n L) : ∀ f g k, L - k <= f -> L - k <= g -> posF n f k = posF n g k := by
 intro f
 induction f with
 | zero =>
  intro g k h1 h2
  have h0 : n k = 0 := by rcases hb k with h | h <;> omega
  cases g with
  | zero => rfl
  | succ g => rw [posF, posF, if_pos h0]
 | succ f ih =>
  intro g k h1 h2
  by_cases h0 : n k = 0
  ·rw [posF, if_pos h0]
   cases g with
   | zero => rfl
   | succ g => rw [posF, if_pos h0]
  ·have h3 : k + n k <= L := by rcases hb k with h | h <;> omega
   cases g with
   | zero => omega
   | succ g =>
    rw [posF, posF, if_neg h0, if_neg h0, ih g (k + n k) (by omega) (by omega)]
theorem posE_stop {n : Nat -> Nat} {L k : Nat} (h : n k = 0) : posE n L k = [] := by
 unfold posE
 cases L - k with
 | zero => rfl
 | succ m => rw [posF, if_pos h]
theorem posE_step {n : Nat -> Nat} {L k : Nat} (hb : Bd n L) (h : n k ≠ 0) : posE n L k = k :: posE n L (k + n k) := by
 have h3 : k + n k <= L := by rcases hb k with h | h <;> omega
 unfold posE
 obtain ⟨m, hm⟩ : ∃ m, L - k = m + 1 := ⟨L - k - 1, by omega⟩
 rw [hm, posF, if_neg h, posF_more hb m (L - (k + n k)) (k + n k) (by omega) (Nat.le_refl _)]
theorem posE_nil {n : Nat -> Nat} {L k : Nat} (hb : Bd n L) (h : posE n L k = []) : n k = 0 := by
 by_cases h0 : n k = 0
 ·exact h0
 ·rw [posE_step hb h0] at h; cases h
theorem Kq.refl (X : Nat -> Prop) (A : World) : Kq X A A := ⟨Nat.le_refl _, fun _ _ => rfl⟩
theorem Kq.set {X : Nat -> Prop} {W : World} {b : Nat} (hb : ¬ X b) (v : Value) : Kq X W (W.setCell ⟨b, 0, none⟩ v) :=
 ⟨by simp [World.setCell], fun k hk => Deep.blk_setCell_other _ _ _ _ (fun e => by have e' : k = b := e; subst e'; exact hb hk)⟩
theorem drop_at {α : Type} {T : List α} {i : Nat} {x : α} (h : T[i]? = some x) : T.drop i = x :: T.drop (i + 1) := by
 obtain ⟨h1, h2⟩ := List.getElem?_eq_some_iff.1 h
 rw [List.drop_eq_getElem_cons h1, h2]
def lenV : Value -> Nat
 | .slice _ n _ => n
 | _ => 0
def encP (n : Nat -> Nat) (q : Option Addr) (cap x : Nat) : Array Value := #[.slice (q.map (·.add x)) (n x) (cap - x)]
end Go.Proofs.YtipbhdhiklmieaaGreatDoor.P11
namespace Go.Proofs.YtipbhdhiklmieaaGreatDoor.P11
open Go.RowKit Go.Shelf
attribute [local go_sem] Oper.semAt_some
theorem signs1_in (n l Bb cap : Nat) (q : Option Addr) (t : List Int) (hn : t.length <= 1099511627776) (hcap : t.length <= cap) (hmx : cap <= maxLen) (J Jx : Nat -> World -> Prop) (W : World)
  (c1 : W.cell? ⟨Bb, 0, none⟩ = some (.slice q t.length cap)) (hI : Is W q t)
  (hY : ∀ (m i : Nat) (x : Nat) (W1 : World), (posE (uN t) t.length 0)[i]? = some x -> J i W1 -> YieldAt Fence.wide m Tryz.prog l (encP (uN t) q cap x) W1 fun e W' =>
   (e = .returned (.bool true) /\ J (i + 1) W' /\ Kq (Xs q t Bb) W1 W') \/ (e = .returned (.bool false) /\ Jx (i + 1) W')) (h0 : J 0 W) :
  CallsIn Fence.wide n Tryz.prog 193 #[.func (.yield l) #[] #[], .pointer (some ⟨Bb, 0, none⟩)] W fun e W' => (∃ v, e = .returned v) /\ (J (posE (uN t) t.length 0).length W' \/ ∃ i, Jx i W') := by
 have HY : Hid (∀ (m i : Nat) (x : Nat) (W1 : World), (posE (uN t) t.length 0)[i]? = some x -> J i W1 -> YieldAt Fence.wide m Tryz.prog l (encP (uN t) q cap x) W1 fun e W' =>
   (e = .returned (.bool true) /\ J (i + 1) W' /\ Kq (Xs q t Bb) W1 W') \/ (e = .returned (.bool false) /\ Jx (i + 1) W')) := hY
 clear hY
 obtain ⟨T, hT⟩ : ∃ T, posE (uN t) t.length 0 = T := ⟨_, rfl⟩
 rw [hT] at HY |-
 have HT : Hid (posE (uN t) t.length 0 = T) := hT
 clear hT
 have hbd := uN_bd t
 refine callsIn_of_wp Tryz.func193 rfl trivial ?_ rfl
 simp only [Tryz.ntmps193, frm, Nat.reduceAdd, Nat.reduceSub]
 gi_wp2
 gi_loopw [3] (fun rv wr => ∃ (k i : Nat) (pk : Option Addr), k <= t.length /\ rv = .slice pk (t.length - k) (cap - k) /\ Hid (k < t.length -> pk = q.map (·.add k)) /\ Hid (T.drop i = posE (uN t) t.length k) /\ i <= T.length /\ J i wr /\ Kq (Xs q t Bb) W wr) (fun rv _ => lenV rv)
 case atStart =>
  refine ⟨0, 0, q, Nat.zero_le _, rfl, fun h => ?_, HT.out.symm, Nat.zero_le _, h0, Kq.refl _ _⟩
  obtain ⟨b, o, rfl, -⟩ := hI.at h
  rw [Option.map_some, add_plain]
  rfl
 case round =>
  obtain ⟨k, i, pk, hk, rfl, hpk, hTi, hi, hJr, hkr⟩ := hrel
  have hIr := hkr.is hI
  have hIk : Is wr pk (t.drop k) := by
   by_cases hlt : k < t.length
   ·rw [hpk.out hlt]
    obtain ⟨b, o, rfl, -⟩ := hIr.at (by omega)
    rw [Option.map_some, add_plain]
    exact hIr.drop k
   ·exact .inl (List.drop_eq_nil_of_le (by omega))
  have SS := fun m => (callsIn_wide (n := m)).2 (signSize_any pk (t.drop k) (t.length - k) (cap - k) wr (by simp) (by simp; omega) hIk)
  rw [uN_drop, Nat.add_zero] at SS
  by_cases hz : uN t k = 0
  ·rw [hz] at SS
   have e0 : ((0 : Nat) : Int) = 0 := rfl
   rw [e0] at SS
   have hTl : i = T.length := by
    have := hTi.out
    rw [posE_stop hz] at this
    have := List.drop_eq_nil_iff.1 this
    omega
   subst hTl
   clear HY hIr hIk hpk hTi hz
   gi_wp2
   refine ⟨trivial, (fun h => by cases h), ?_⟩
   gi_at_call 194
   refine (SS _).mono ?_
   rintro e wr ⟨rfl, rfl⟩
   gi_wp2
   refine ⟨(fun g h => by cases h), ?_⟩
   gi_wp2
   refine bodyPost_ret (results_none rfl _ _ _) rfl ?_
   exact ⟨⟨_, rfl⟩, .inl hJr⟩
  ·have hle : k + uN t k <= t.length := by rcases hbd k with h | h <;> omega
   have hlt : k < t.length := by omega
   obtain ⟨b, o, rfl, hu⟩ := hI.at (by omega)
   have hp := hpk.out hlt
   rw [Option.map_some, add_plain] at hp
   subst hp
   have hTi2 := hTi.out
   rw [posE_step hbd hz] at hTi2
   obtain ⟨hx, hT3, hil⟩ := drop_cons hTi2
   have Y := HY.out (n - 1) i k wr hx hJr
   unfold encP at Y
   rw [Option.map_some, add_plain] at Y
   have HT3 : Hid (T.drop (i + 1) = posE (uN t) t.length (k + uN t k)) := hT3
   have hnz : ((uN t k : Nat) : Int) == 0 -> False := by simp; exact hz
   have hnz' : (((uN t k : Nat) : Int) == 0) = false := by simpa using hz
   obtain ⟨r, hr⟩ : ∃ r, t.length - k = r := ⟨_, rfl⟩
   obtain ⟨cp, hcp⟩ : ∃ cp, cap - k = cp := ⟨_, rfl⟩
   obtain ⟨m, hm⟩ : ∃ m, uN t k = m := ⟨_, rfl⟩
   rw [hcp, hm] at Y
   rw [hr, hcp, hm] at SS
   rw [hm] at HT3 hnz' hle hz
   rw [hr, hcp]
   have hm1 : (m : Int) <= cp := by omega
   have hm2 : (m : Int) <= r := by omega
   have hm3 : (r : Int) <= cp := by omega
   have hm4 : (cp : Int) <= 9223372036854775807 := by unfold maxLen at hmx; omega
   obtain ⟨fn, tmps, assign, body, hy, hR⟩ := Y
   clear HY hIr hIk hpk hTi hTi2 hT3 hu hI hnz hbd
   have hr' : Hid (t.length - k = r) := hr
   have hcp' : Hid (cap - k = cp) := hcp
   have hm' : Hid (uN t k = m) := hm
   clear hr hcp hm
   gi_wp2
   refine ⟨trivial, (fun h => by cases h), ?_⟩
   gi_at_call 194
   refine (SS _).mono ?_
   rintro e wr ⟨rfl, rfl⟩
   gi_wp2
   refine ⟨(fun h => by cases h), hR.mono ?_⟩
   rintro e3 W3 (⟨rfl, hJ3, hk3⟩ | ⟨rfl, hJx3⟩)
   ·clear hR hy
    by_cases hcm : cp = m
    ·gi_wp2
     go_roundw
     case rel =>
      refine ⟨k + m, i + 1, some ⟨b, o + k, none⟩, hle, ?_, fun h => ?_, HT3, hil, hJ3, hkr.trans hk3⟩
      ·rw [<- Nat.sub_sub, <- Nat.sub_sub, hr'.out, hcp'.out, show cp - m = 0 by omega]
      ·have := hr'.out
       have := hcp'.out
       omega
     case measure => simp only [lenV]; omega
    ·gi_wp2
     go_roundw
     case rel =>
      refine ⟨k + m, i + 1, some ⟨b, o + k + m, none⟩, hle, ?_, fun h => ?_, HT3, hil, hJ3, hkr.trans hk3⟩
      ·rw [<- Nat.sub_sub, <- Nat.sub_sub, hr'.out, hcp'.out]
      ·rw [Option.map_some, add_plain, Nat.add_assoc]
     case measure => simp only [lenV]; omega
   ·clear hR hy
    gi_wp2
    refine bodyPost_ret (results_none rfl _ _ _) rfl ?_
    exact ⟨⟨_, rfl⟩, .inr ⟨_, hJx3⟩⟩
theorem signs_seq (n Bb cap : Nat) (q : Option Addr) (t : List Int) (hn : t.length <= 1099511627776) (hcap : t.length <= cap) (hmx : cap <= maxLen) (w : World) (c1 : w.cell? ⟨Bb, 0, none⟩ = some (.slice q t.length cap)) (hI : Is w q t) :
  SeqT n Tryz.prog 193 #[.pointer (some ⟨Bb, 0, none⟩)] (encP (uN t) q cap) (posE (uN t) t.length 0) (Kq (Xs q t Bb)) w := fun l J Jx W hW _ hJ hJx hY h0 =>
 signs1_in n l Bb cap q t hn hcap hmx J Jx W ((hW.cell (p := ⟨Bb, 0, none⟩) (World.block_lt_of_cell? w _ c1)).trans c1) (hI.on hW) hY h0
theorem signs_in (n : Nat) (p : Option Addr) (len cap : Nat) (w : World) :
  CallsIn Fence.wide n Tryz.prog 175 #[.slice p len cap] w fun e w' => e = .returned (.func (.func 193) #[] #[.pointer (some ⟨w.heap.size, 0, none⟩)]) /\ w' = w.alloc (.cells #[.slice p len cap] 41) := by
 refine callsIn_of_wp Tryz.func175 rfl trivial ?_ rfl
 simp only [Tryz.ntmps175, frm, Nat.reduceAdd, Nat.reduceSub]
 gi_wp2
 go_ret
 exact ⟨rfl, rfl⟩
end Go.Proofs.YtipbhdhiklmieaaGreatDoor.P11
