/- FoldChomps' walk. -/
import Derived.Test.YtjidbgdblgchlaaBlockLaw
set_option linter.unusedVariables false
set_option linter.unusedSimpArgs false
namespace Go.Proofs.Ytjidbgdblgchlaa
open Go.RowKit Go.Shelf

/-- An array of three slices. -/
def Arr (W : World) (B : Nat) (x0 x1 x2 : Value) : Prop := W.heap[B]? = some (.cells #[x0, x1, x2] 30 (0, 0))
theorem Arr.cell0 {W : World} {B : Nat} {x0 x1 x2 : Value} (h : Arr W B x0 x1 x2) : W.cell? ⟨B, 0, none⟩ = some x0 := by simp [World.cell?, show W.heap[B]? = _ from h]
theorem Arr.cell1 {W : World} {B : Nat} {x0 x1 x2 : Value} (h : Arr W B x0 x1 x2) : W.cell? ⟨B, 1, none⟩ = some x1 := by simp [World.cell?, show W.heap[B]? = _ from h]
theorem Arr.cell2 {W : World} {B : Nat} {x0 x1 x2 : Value} (h : Arr W B x0 x1 x2) : W.cell? ⟨B, 2, none⟩ = some x2 := by simp [World.cell?, show W.heap[B]? = _ from h]
theorem Arr.frz {W : World} {B : Nat} {x0 x1 x2 : Value} (h : Arr W B x0 x1 x2) (k : Nat) : W.frozen? ⟨B, k, none⟩ = false := by simp [World.frozen?, show W.heap[B]? = _ from h]
theorem Arr.lt {W : World} {B : Nat} {x0 x1 x2 : Value} (h : Arr W B x0 x1 x2) : B < W.heap.size := (Array.getElem?_eq_some_iff.1 h).1
theorem Arr.on {W W' : World} {B : Nat} {x0 x1 x2 : Value} (h : Arr W B x0 x1 x2) (hb : Below W.heap.size W W') : Arr W' B x0 x1 x2 := (hb.block B h.lt).trans h
theorem blk_set {W : World} {B k : Nat} {cs : Array Value} {t : TypeId} (h : W.heap[B]? = some (.cells cs t (0, 0))) (v : Value) : (W.setCell ⟨B, k, none⟩ v).heap[B]? = some (.cells (cs.setIfInBounds k v) t (0, 0)) := by
  obtain ⟨hlt, hk⟩ := Array.getElem?_eq_some_iff.1 h
  show (W.heap.modify B _)[B]? = _
  rw [Array.getElem?_eq_getElem (by rw [Array.size_modify]; exact hlt), Array.getElem_modify_self, hk]
  rfl
theorem Arr.set0 {W : World} {B : Nat} {x0 x1 x2 : Value} (h : Arr W B x0 x1 x2) (v : Value) : Arr (W.setCell ⟨B, 0, none⟩ v) B v x1 x2 := blk_set h v
theorem Arr.set1 {W : World} {B : Nat} {x0 x1 x2 : Value} (h : Arr W B x0 x1 x2) (v : Value) : Arr (W.setCell ⟨B, 1, none⟩ v) B x0 v x2 := blk_set h v
theorem Arr.set2 {W : World} {B : Nat} {x0 x1 x2 : Value} (h : Arr W B x0 x1 x2) (v : Value) : Arr (W.setCell ⟨B, 2, none⟩ v) B x0 x1 v := blk_set h v

/-- A slice that holds T, beyond the array. -/
def Sl (W : World) (B : Nat) (x : Value) (T : List Int) : Prop := ∃ q c, x = .slice q T.length c ∧ Is W q T ∧ T.length ≤ c ∧ ∀ a, q = some a → 0 < T.length → B < a.block
theorem Sl.on {W W' : World} {B : Nat} {x : Value} {T : List Int} (h : Sl W B x T) (hb : Below W.heap.size W W') : Sl W' B x T := by
  obtain ⟨q, c, rfl, h1, h2, h3⟩ := h
  exact ⟨q, c, rfl, h1.on hb, h2, h3⟩
theorem Sl.set {W : World} {B : Nat} {x : Value} {T : List Int} (h : Sl W B x T) (k : Nat) (v : Value) : Sl (W.setCell ⟨B, k, none⟩ v) B x T := by
  obtain ⟨q, c, rfl, h1, h2, h3⟩ := h
  refine ⟨q, c, rfl, ?_, h2, h3⟩
  rcases h1 with rfl | ⟨b, o, rfl, hc⟩
  · exact .inl rfl
  · refine .inr ⟨b, o, rfl, fun j hj => ?_⟩
    have hne : b ≠ B := by have := h3 ⟨b, o, none⟩ rfl (by omega); simp at this; omega
    rw [World.cell?_of_block (w := W) (Deep.blk_setCell_other _ _ _ _ hne)]
    exact hc j hj
theorem Sl.of {W : World} {B base : Nat} {v : Value} {T : List Int} (h : Owns W base v T) (hb : B < base) : Sl W B v T := by
  obtain ⟨q, k, c, rfl⟩ := ownsRow_form h
  obtain ⟨h1, rfl, h2, -⟩ := is_of_row h
  refine ⟨q, c, rfl, h1, h2, fun a ea _ => ?_⟩
  subst ea
  have := (owns_cells h (g := a.block) rfl).1
  omega

/-- Behind k rounds. -/
def Ch (w : World) (B : Nat) (T0 T1 T2 : List Int) (k : Nat) (W : World) : Prop :=
  ∃ x0 x1 x2, Arr W B x0 x1 x2 ∧ (0 < k → Sl W B x0 T0) ∧ (1 < k → Sl W B x1 T1) ∧ (2 < k → Sl W B x2 T2) ∧ (∃ a n c, x0 = .slice a n c) ∧ (∃ a n c, x1 = .slice a n c) ∧ (∃ a n c, x2 = .slice a n c) ∧ w.heap.size ≤ B ∧ Below w.heap.size w W

theorem same_q (p q : Option Addr) (l : List Int) (c d : Nat) (w : World) (a : Nat) (hn : (l.length : Int) ≤ 1099511627776) (hp : Is w p l) (hq : Is w q l) :
    Calls Try.prog 11 #[.slice p l.length c, .slice q l.length d] (w.drewN a) fun e w'' => e = .returned (.bool true) ∧ ∃ n, w'' = w.drewN n :=
  (same_ints p q l c d _ hn (hp.drewN _) (hq.drewN _)).mono fun e w'' ⟨he, k, hk⟩ => ⟨he, a + k, by rw [hk, World.drewN_drewN]⟩

theorem iAt_app {a b : List Int} {i : Nat} (h : a.length ≤ i) : iAt (a ++ b) i = iAt b (i - a.length) := by unfold iAt; rw [List.getElem?_append_right h]
/-- The three texts, with each way to chomp. -/
theorem three (P : List Int → Bool) (R : List Row) : ((wholeT P R 1).length ≤ (wholeT P R 0).length ∧ (wholeT P R 0).length ≤ (wholeT P R 2).length ∧ (wholeT P R 0).length ≤ (wholeT P R 1).length + 1) ∧
    (∀ i, (wholeT P R 1).length ≤ i → i < (wholeT P R 2).length → iAt (wholeT P R 2) i = 10) ∧ (wholeT P R 2).take (wholeT P R 0).length = wholeT P R 0 ∧ (wholeT P R 2).take (wholeT P R 1).length = wholeT P R 1 := by
  simp only [whole_chomp]
  generalize (wJ P R (wN R R.length)).1 = U
  generalize wN R R.length = n
  have e1 : chN n R.length 1 = 0 := by unfold chN; rw [if_neg (by decide), if_neg (by simp)]
  have e0 : chN n R.length 0 = if 0 < n then 1 else 0 := by unfold chN; rw [if_neg (by decide)]; simp
  have e2 : chN n R.length 2 = R.length - n + (if 0 < n then 1 else 0) := rfl
  rw [e0, e1, e2]
  obtain ⟨a, ha, ha1⟩ : ∃ a, (if 0 < n then 1 else 0) = a ∧ a ≤ 1 := ⟨_, rfl, by split <;> omega⟩
  rw [ha]
  generalize R.length - n = d
  refine ⟨⟨by simp, by simp, by simp; omega⟩, fun i h1 h2 => ?_, ?_, ?_⟩
  · simp at h1 h2
    rw [iAt_app h1]
    unfold iAt
    rw [List.getElem?_replicate, if_pos (by omega)]
    rfl
  · rw [List.length_append, List.length_replicate, List.take_append, List.take_of_length_le (by omega), List.take_replicate]
    congr 2
    omega
  · simp

set_option maxRecDepth 100000 in
set_option maxHeartbeats 4000000 in
theorem chomps_true (p : Option Addr) (R : List Row) (cap : Nat) (w : World) (hM : Mt w p R) (BG : ∀ W, Mt W p R → Calls Try.prog 10 #[.slice p R.length cap] W fun e w' => e = .returned (.bool false) ∧ w' = W) (T0 T1 T2 : List Int)
    (F0 : ∀ W, Mt W p R → Calls Try.prog 16 #[.slice p R.length cap, .int .i64 0] W fun e w' => ∃ v, e = .returned v ∧ Owns w' W.heap.size v T0 ∧ Below W.heap.size W w')
    (F1 : ∀ W, Mt W p R → Calls Try.prog 16 #[.slice p R.length cap, .int .i64 1] W fun e w' => ∃ v, e = .returned v ∧ Owns w' W.heap.size v T1 ∧ Below W.heap.size W w')
    (F2 : ∀ W, Mt W p R → Calls Try.prog 16 #[.slice p R.length cap, .int .i64 2] W fun e w' => ∃ v, e = .returned v ∧ Owns w' W.heap.size v T2 ∧ Below W.heap.size W w')
    (l10 : (T1.length : Int) ≤ T0.length) (l02 : (T0.length : Int) ≤ T2.length) (l01 : (T0.length : Int) - T1.length ≤ 1) (l2 : (T2.length : Int) ≤ 100000)
    (HK : Hid (∀ i, T1.length ≤ i → i < T2.length → iAt T2 i = 10)) (H0 : Hid (T2.take T0.length = T0)) (H1 : Hid (T2.take T1.length = T1)) :
    Calls Try.prog 5 #[.slice p R.length cap, .bool true] w fun e w' => e = .returned (.bool true) ∧ Below w.heap.size w w' := by
  have z := Try.zeroValue30
  have s := Try.sizeOf30
  go_enter Try.func5, Try.ntmps5
  go_wp2_with (first | (go_at_call 9; refine (alive_any _).mono ?_; rintro e W ⟨rfl, hB⟩) | (go_at_call 10; refine (BG _ (hM.on hB)).mono ?_; rintro e W ⟨rfl, rfl⟩))
  clear BG
  have hW := hB.size
  have hA0 : Arr (W.alloc (.cells #[.slice none 0 0, .slice none 0 0, .slice none 0 0] 30)) W.heap.size (.slice none 0 0) (.slice none 0 0) (.slice none 0 0) := World.alloc_heap_new W _
  have hB0 : Below w.heap.size w (W.alloc (.cells #[.slice none 0 0, .slice none 0 0, .slice none 0 0] 30)) := hB.alloc hW _
  generalize W.alloc (.cells #[.slice none 0 0, .slice none 0 0, .slice none 0 0] 30) = W0 at hA0 hB0 ⊢
  go_loopw [8] (fun c wr => (c = .int .i64 0 ∧ Ch w W.heap.size T0 T1 T2 0 wr) ∨ (c = .int .i64 1 ∧ Ch w W.heap.size T0 T1 T2 1 wr) ∨ (c = .int .i64 2 ∧ Ch w W.heap.size T0 T1 T2 2 wr) ∨ (c = .int .i64 3 ∧ Ch w W.heap.size T0 T1 T2 3 wr)) (fun c _ => 3 - (intOf c).toNat)
  case atStart => exact .inl ⟨rfl, _, _, _, hA0, (fun h => by omega), (fun h => by omega), (fun h => by omega), ⟨_, _, _, rfl⟩, ⟨_, _, _, rfl⟩, ⟨_, _, _, rfl⟩, hW, hB0⟩
  case round =>
    clear hA0 hB0
    rcases hrel with ⟨rfl, x0, x1, x2, hA, s0, s1, s2, ⟨a0, n0, c0, rfl⟩, ⟨a1, n1, c1, rfl⟩, ⟨a2, n2, c2, rfl⟩, hwB, hBr⟩ | ⟨rfl, x0, x1, x2, hA, s0, s1, s2, ⟨a0, n0, c0, rfl⟩, ⟨a1, n1, c1, rfl⟩, ⟨a2, n2, c2, rfl⟩, hwB, hBr⟩ | ⟨rfl, x0, x1, x2, hA, s0, s1, s2, ⟨a0, n0, c0, rfl⟩, ⟨a1, n1, c1, rfl⟩, ⟨a2, n2, c2, rfl⟩, hwB, hBr⟩ | ⟨rfl, x0, x1, x2, hA, s0, s1, s2, e0, e1, e2, hwB, hBr⟩
    · have FF := F0 wr (hM.on hBr)
      clear F0 F1 F2
      go_wp2_with (first | (go_at_call 16; refine FF.mono ?_; rintro e W2 ⟨v, rfl, ho, hb⟩; have hA2 := hA.on hb; have dd := hA2.cell0; have ff := hA2.frz 0; have hsl := Sl.of (B := W.heap.size) ho hA.lt; obtain ⟨qv, cv, rfl, -⟩ := ho.read))
      go_roundw
      case rel => exact (.inr (.inl ⟨rfl, _, _, _, hA2.set0 _, (fun _ => hsl.set _ _), (fun h => by omega), (fun h => by omega), ⟨_, _, _, rfl⟩, ⟨_, _, _, rfl⟩, ⟨_, _, _, rfl⟩, hwB, (hBr.trans (hb.mono hBr.size)).setCell (p := ⟨W.heap.size, 0, none⟩) hwB _⟩))
      case measure => simp [intOf]
    · have FF := F1 wr (hM.on hBr)
      clear F0 F1 F2
      go_wp2_with (first | (go_at_call 16; refine FF.mono ?_; rintro e W2 ⟨v, rfl, ho, hb⟩; have hA2 := hA.on hb; have dd := hA2.cell1; have ff := hA2.frz 1; have hsl := Sl.of (B := W.heap.size) ho hA.lt; obtain ⟨qv, cv, rfl, -⟩ := ho.read))
      go_roundw
      case rel => exact (.inr (.inr (.inl ⟨rfl, _, _, _, hA2.set1 _, (fun _ => ((s0 (by omega)).on hb).set _ _), (fun _ => hsl.set _ _), (fun h => by omega), ⟨_, _, _, rfl⟩, ⟨_, _, _, rfl⟩, ⟨_, _, _, rfl⟩, hwB, (hBr.trans (hb.mono hBr.size)).setCell (p := ⟨W.heap.size, 1, none⟩) hwB _⟩)))
      case measure => simp [intOf]
    · have FF := F2 wr (hM.on hBr)
      clear F0 F1 F2
      go_wp2_with (first | (go_at_call 16; refine FF.mono ?_; rintro e W2 ⟨v, rfl, ho, hb⟩; have hA2 := hA.on hb; have dd := hA2.cell2; have ff := hA2.frz 2; have hsl := Sl.of (B := W.heap.size) ho hA.lt; obtain ⟨qv, cv, rfl, -⟩ := ho.read))
      go_roundw
      case rel => exact (.inr (.inr (.inr ⟨rfl, _, _, _, hA2.set2 _, (fun _ => ((s0 (by omega)).on hb).set _ _), (fun _ => ((s1 (by omega)).on hb).set _ _), (fun _ => hsl.set _ _), ⟨_, _, _, rfl⟩, ⟨_, _, _, rfl⟩, ⟨_, _, _, rfl⟩, hwB, (hBr.trans (hb.mono hBr.size)).setCell (p := ⟨W.heap.size, 2, none⟩) hwB _⟩)))
      case measure => simp [intOf]
    · obtain ⟨q0, c0, rfl, i0, k0, b0⟩ := s0 (by omega)
      obtain ⟨q1, c1, rfl, i1, k1, b1⟩ := s1 (by omega)
      obtain ⟨q2, c2, rfl, i2, k2, b2⟩ := s2 (by omega)
      have d0 := hA.cell0
      have d1 := hA.cell1
      have d2 := hA.cell2
      clear s0 s1 s2 e0 e1 e2 F0 F1 F2
      have hd01 : (T0.length < T1.length) = False := by simp; omega
      go_wp2
      go_loop [9] (fun j => ∃ (m : Nat), T1.length ≤ m ∧ m ≤ T2.length ∧ j = .int .i64 m) (fun j => T2.length - (intOf j).toNat)
      case atStart => exact ⟨T1.length, Nat.le_refl _, by omega, rfl⟩
      case round =>
        obtain ⟨m, hm1, hm2, rfl⟩ := hrel
        by_cases hml : m < T2.length
        · have hml' : (m : Int) < T2.length := by omega
          obtain ⟨b, o, rfl, hc⟩ := i2.at (by omega)
          have dm := hc m hml
          rw [HK.out m hm1 hml] at dm
          clear hc
          go_wp2
          go_round
          case rel => exact ⟨m + 1, by omega, by omega, by go_num⟩
          case measure => simp [intOf]; omega
        · obtain rfl : m = T2.length := by omega
          have S0 := slice_to q2 T2.length c2 T0.length (by omega)
          have S1 := slice_to q2 T2.length c2 T1.length (by omega)
          have j0 := i2.take T0.length
          rw [H0.out] at j0
          have j1 := i2.take T1.length
          rw [H1.out] at j1
          have Q0 := fun a => same_q q0 q2 T0 c0 c2 wr a (by omega) i0 j0
          have Q1 := fun a => same_q q1 q2 T1 c1 c2 wr a (by omega) i1 j1
          clear HK
          go_wp2
          go_quiet (first | (go_at_call 11; with_reducible exact Q0 _) | (go_at_call 11; with_reducible exact Q1 _))
          go_wp2
          go_ret
          exact ⟨rfl, belowN hBr _⟩

set_option maxRecDepth 100000 in
set_option maxHeartbeats 4000000 in
theorem chomps_false (p : Option Addr) (R : List Row) (cap : Nat) (w : World) (hM : Mt w p R) (BG : ∀ W, Mt W p R → Calls Try.prog 10 #[.slice p R.length cap] W fun e w' => e = .returned (.bool false) ∧ w' = W) (T0 T1 T2 : List Int)
    (F0 : ∀ W, Mt W p R → Calls Try.prog 14 #[.slice p R.length cap, .int .i64 0] W fun e w' => ∃ v, e = .returned v ∧ Owns w' W.heap.size v T0 ∧ Below W.heap.size W w')
    (F1 : ∀ W, Mt W p R → Calls Try.prog 14 #[.slice p R.length cap, .int .i64 1] W fun e w' => ∃ v, e = .returned v ∧ Owns w' W.heap.size v T1 ∧ Below W.heap.size W w')
    (F2 : ∀ W, Mt W p R → Calls Try.prog 14 #[.slice p R.length cap, .int .i64 2] W fun e w' => ∃ v, e = .returned v ∧ Owns w' W.heap.size v T2 ∧ Below W.heap.size W w')
    (l10 : (T1.length : Int) ≤ T0.length) (l02 : (T0.length : Int) ≤ T2.length) (l01 : (T0.length : Int) - T1.length ≤ 1) (l2 : (T2.length : Int) ≤ 100000)
    (HK : Hid (∀ i, T1.length ≤ i → i < T2.length → iAt T2 i = 10)) (H0 : Hid (T2.take T0.length = T0)) (H1 : Hid (T2.take T1.length = T1)) :
    Calls Try.prog 5 #[.slice p R.length cap, .bool false] w fun e w' => e = .returned (.bool true) ∧ Below w.heap.size w w' := by
  have z := Try.zeroValue30
  have s := Try.sizeOf30
  go_enter Try.func5, Try.ntmps5
  go_wp2_with (first | (go_at_call 9; refine (alive_any _).mono ?_; rintro e W ⟨rfl, hB⟩) | (go_at_call 10; refine (BG _ (hM.on hB)).mono ?_; rintro e W ⟨rfl, rfl⟩))
  clear BG
  have hW := hB.size
  have hA0 : Arr (W.alloc (.cells #[.slice none 0 0, .slice none 0 0, .slice none 0 0] 30)) W.heap.size (.slice none 0 0) (.slice none 0 0) (.slice none 0 0) := World.alloc_heap_new W _
  have hB0 : Below w.heap.size w (W.alloc (.cells #[.slice none 0 0, .slice none 0 0, .slice none 0 0] 30)) := hB.alloc hW _
  generalize W.alloc (.cells #[.slice none 0 0, .slice none 0 0, .slice none 0 0] 30) = W0 at hA0 hB0 ⊢
  go_loopw [8] (fun c wr => (c = .int .i64 0 ∧ Ch w W.heap.size T0 T1 T2 0 wr) ∨ (c = .int .i64 1 ∧ Ch w W.heap.size T0 T1 T2 1 wr) ∨ (c = .int .i64 2 ∧ Ch w W.heap.size T0 T1 T2 2 wr) ∨ (c = .int .i64 3 ∧ Ch w W.heap.size T0 T1 T2 3 wr)) (fun c _ => 3 - (intOf c).toNat)
  case atStart => exact .inl ⟨rfl, _, _, _, hA0, (fun h => by omega), (fun h => by omega), (fun h => by omega), ⟨_, _, _, rfl⟩, ⟨_, _, _, rfl⟩, ⟨_, _, _, rfl⟩, hW, hB0⟩
  case round =>
    clear hA0 hB0
    rcases hrel with ⟨rfl, x0, x1, x2, hA, s0, s1, s2, ⟨a0, n0, c0, rfl⟩, ⟨a1, n1, c1, rfl⟩, ⟨a2, n2, c2, rfl⟩, hwB, hBr⟩ | ⟨rfl, x0, x1, x2, hA, s0, s1, s2, ⟨a0, n0, c0, rfl⟩, ⟨a1, n1, c1, rfl⟩, ⟨a2, n2, c2, rfl⟩, hwB, hBr⟩ | ⟨rfl, x0, x1, x2, hA, s0, s1, s2, ⟨a0, n0, c0, rfl⟩, ⟨a1, n1, c1, rfl⟩, ⟨a2, n2, c2, rfl⟩, hwB, hBr⟩ | ⟨rfl, x0, x1, x2, hA, s0, s1, s2, e0, e1, e2, hwB, hBr⟩
    · have FF := F0 wr (hM.on hBr)
      clear F0 F1 F2
      go_wp2_with (first | (go_at_call 14; refine FF.mono ?_; rintro e W2 ⟨v, rfl, ho, hb⟩; have hA2 := hA.on hb; have dd := hA2.cell0; have ff := hA2.frz 0; have hsl := Sl.of (B := W.heap.size) ho hA.lt; obtain ⟨qv, cv, rfl, -⟩ := ho.read))
      go_roundw
      case rel => exact (.inr (.inl ⟨rfl, _, _, _, hA2.set0 _, (fun _ => hsl.set _ _), (fun h => by omega), (fun h => by omega), ⟨_, _, _, rfl⟩, ⟨_, _, _, rfl⟩, ⟨_, _, _, rfl⟩, hwB, (hBr.trans (hb.mono hBr.size)).setCell (p := ⟨W.heap.size, 0, none⟩) hwB _⟩))
      case measure => simp [intOf]
    · have FF := F1 wr (hM.on hBr)
      clear F0 F1 F2
      go_wp2_with (first | (go_at_call 14; refine FF.mono ?_; rintro e W2 ⟨v, rfl, ho, hb⟩; have hA2 := hA.on hb; have dd := hA2.cell1; have ff := hA2.frz 1; have hsl := Sl.of (B := W.heap.size) ho hA.lt; obtain ⟨qv, cv, rfl, -⟩ := ho.read))
      go_roundw
      case rel => exact (.inr (.inr (.inl ⟨rfl, _, _, _, hA2.set1 _, (fun _ => ((s0 (by omega)).on hb).set _ _), (fun _ => hsl.set _ _), (fun h => by omega), ⟨_, _, _, rfl⟩, ⟨_, _, _, rfl⟩, ⟨_, _, _, rfl⟩, hwB, (hBr.trans (hb.mono hBr.size)).setCell (p := ⟨W.heap.size, 1, none⟩) hwB _⟩)))
      case measure => simp [intOf]
    · have FF := F2 wr (hM.on hBr)
      clear F0 F1 F2
      go_wp2_with (first | (go_at_call 14; refine FF.mono ?_; rintro e W2 ⟨v, rfl, ho, hb⟩; have hA2 := hA.on hb; have dd := hA2.cell2; have ff := hA2.frz 2; have hsl := Sl.of (B := W.heap.size) ho hA.lt; obtain ⟨qv, cv, rfl, -⟩ := ho.read))
      go_roundw
      case rel => exact (.inr (.inr (.inr ⟨rfl, _, _, _, hA2.set2 _, (fun _ => ((s0 (by omega)).on hb).set _ _), (fun _ => ((s1 (by omega)).on hb).set _ _), (fun _ => hsl.set _ _), ⟨_, _, _, rfl⟩, ⟨_, _, _, rfl⟩, ⟨_, _, _, rfl⟩, hwB, (hBr.trans (hb.mono hBr.size)).setCell (p := ⟨W.heap.size, 2, none⟩) hwB _⟩)))
      case measure => simp [intOf]
    · obtain ⟨q0, c0, rfl, i0, k0, b0⟩ := s0 (by omega)
      obtain ⟨q1, c1, rfl, i1, k1, b1⟩ := s1 (by omega)
      obtain ⟨q2, c2, rfl, i2, k2, b2⟩ := s2 (by omega)
      have d0 := hA.cell0
      have d1 := hA.cell1
      have d2 := hA.cell2
      clear s0 s1 s2 e0 e1 e2 F0 F1 F2
      have hd01 : (T0.length < T1.length) = False := by simp; omega
      go_wp2
      go_loop [9] (fun j => ∃ (m : Nat), T1.length ≤ m ∧ m ≤ T2.length ∧ j = .int .i64 m) (fun j => T2.length - (intOf j).toNat)
      case atStart => exact ⟨T1.length, Nat.le_refl _, by omega, rfl⟩
      case round =>
        obtain ⟨m, hm1, hm2, rfl⟩ := hrel
        by_cases hml : m < T2.length
        · have hml' : (m : Int) < T2.length := by omega
          obtain ⟨b, o, rfl, hc⟩ := i2.at (by omega)
          have dm := hc m hml
          rw [HK.out m hm1 hml] at dm
          clear hc
          go_wp2
          go_round
          case rel => exact ⟨m + 1, by omega, by omega, by go_num⟩
          case measure => simp [intOf]; omega
        · obtain rfl : m = T2.length := by omega
          have S0 := slice_to q2 T2.length c2 T0.length (by omega)
          have S1 := slice_to q2 T2.length c2 T1.length (by omega)
          have j0 := i2.take T0.length
          rw [H0.out] at j0
          have j1 := i2.take T1.length
          rw [H1.out] at j1
          have Q0 := fun a => same_q q0 q2 T0 c0 c2 wr a (by omega) i0 j0
          have Q1 := fun a => same_q q1 q2 T1 c1 c2 wr a (by omega) i1 j1
          clear HK
          go_wp2
          go_quiet (first | (go_at_call 11; with_reducible exact Q0 _) | (go_at_call 11; with_reducible exact Q1 _))
          go_wp2
          go_ret
          exact ⟨rfl, belowN hBr _⟩

set_option maxRecDepth 100000 in
set_option maxHeartbeats 2000000 in
theorem chomps_law (p : Option Addr) (R : List Row) (cap : Nat) (fo : Bool) (w : World) (hl : R.length ≤ maxLen) (hM : Mt w p R) :
    Calls Try.prog 5 #[.slice p R.length cap, .bool fo] w fun e w' => e = .returned (.bool true) ∧ Below w.heap.size w w' := by
  have BG := fun W h => big_any p R cap W hl h
  cases hb : bigB R with
  | true =>
    rw [hb] at BG
    go_enter Try.func5, Try.ntmps5
    go_wp2_with (first | (go_at_call 9; refine (alive_any _).mono ?_; rintro e W ⟨rfl, hB⟩) | (go_at_call 10; refine (BG _ (hM.on hB)).mono ?_; rintro e W ⟨rfl, rfl⟩))
    go_ret
    exact ⟨rfl, hB⟩
  | false =>
    rw [hb] at BG
    have hS := big_sized hb
    cases fo with
    | true =>
      obtain ⟨⟨l10, l02, l01⟩, HK, H0, H1⟩ := three spacedP R
      have l2 := wholeT_small spacedP hb 2
      exact chomps_true p R cap w hM BG _ _ _ (fun W h => Block_any p R cap 0 W hS h) (fun W h => Block_any p R cap 1 W hS h) (fun W h => Block_any p R cap 2 W hS h) (by omega) (by omega) (by omega) (by omega) HK H0 H1
    | false =>
      obtain ⟨⟨l10, l02, l01⟩, HK, H0, H1⟩ := three alwaysP R
      have l2 := wholeT_small alwaysP hb 2
      exact chomps_false p R cap w hM BG _ _ _ (fun W h => Literal_any p R cap 0 W hS h) (fun W h => Literal_any p R cap 1 W hS h) (fun W h => Literal_any p R cap 2 W hS h) (by omega) (by omega) (by omega) (by omega) HK H0 H1
end Go.Proofs.Ytjidbgdblgchlaa
