/- The iterator over what each line of the text adds. -/
import Derived.Test.YtgmcomfeggidnaaBeh
import Derived.Test.YtgmcomfeggidnaaSqv
import Derived.Test.YtgmcomfeggidnaaItr
set_option linter.unusedVariables false
set_option linter.unusedSimpArgs false
namespace Go.Proofs.Ytgmcomfeggidnaa
open Go.RowKit Go.Shelf

/-- How many lines the text has. -/
def tkN (ind : Int) : List Ln → Nat
  | [] => 0
  | x :: r => if endsP ind x.n x.t = true then 0 else tkN ind r + 1
theorem tk_le (ind : Int) : ∀ L : List Ln, tkN ind L ≤ L.length
  | [] => by simp [tkN]
  | x :: r => by have := tk_le ind r; unfold tkN; split <;> simp <;> omega
theorem tk_eq (ind : Int) : ∀ (L : List Ln) (k : Nat), k ≤ L.length → (∀ (j : Nat) (x : Ln), j < k → L[j]? = some x → endsP ind x.n x.t = false) → (∀ x : Ln, L[k]? = some x → endsP ind x.n x.t = true) → tkN ind L = k
  | [], k, hk, _, _ => by simp at hk; simp [tkN, hk]
  | y :: r, 0, _, _, h2 => by have := h2 y rfl; simp only [tkN, if_pos this]
  | y :: r, k + 1, hk, h1, h2 => by
    have hy := h1 0 y (by omega) rfl
    have := tk_eq ind r k (by simp at hk; omega) (fun j x hj hx => h1 (j + 1) x (by omega) (by simpa using hx)) (fun x hx => h2 x (by simpa using hx))
    simp [tkN, hy, this]
theorem tk_before (ind : Int) : ∀ (L : List Ln) (j : Nat) (x : Ln), j < tkN ind L → L[j]? = some x → endsP ind x.n x.t = false
  | [], j, x, hj, _ => by simp [tkN] at hj
  | y :: r, j, x, hj, hx => by
    unfold tkN at hj
    split at hj
    · omega
    · rename_i h
      cases j with
      | zero => simp at hx; subst hx; simpa using h
      | succ j => exact tk_before ind r j x (by omega) (by simpa using hx)

theorem tk_at (ind : Int) : ∀ (L : List Ln) (x : Ln), L[tkN ind L]? = some x → endsP ind x.n x.t = true
  | [], x, hx => by simp at hx
  | y :: r, x, hx => by
    unfold tkN at hx
    split at hx
    · rename_i h
      simp at hx; subst hx; exact h
    · exact tk_at ind r x (by simpa using hx)

/-- Number i, as it is told. -/
def Pce (n₀ : Nat) (ind : Int) (L : List Ln) (i : Nat) (v : Value) (W : World) : Prop :=
  ∃ x q c, L[i]? = some x ∧ v = .slice q (behP ind x.n x.t).length c ∧ (behP ind x.n x.t).length ≤ c ∧ c ≤ maxLen ∧ Is W q (behP ind x.n x.t) ∧ Pcw n₀ W q (behP ind x.n x.t)

theorem grown_of_below {A B : World} (h : Below A.heap.size A B) : A.grownBy B none := ⟨h.os, h.tape, h.output, h.size, fun k hk _ => h.block k hk⟩

set_option maxRecDepth 100000 in
set_option maxHeartbeats 4000000 in
theorem pieces1_in (n : Nat) (hn : 1 ≤ n) (l Bl Bi n₀ cap : Nat) (p : Option Addr) (L : List Ln) (ind : Int) (hB : Bnd L) (hi0 : 0 ≤ ind) (hi1 : ind ≤ 2000)
    (J : Nat → World → Prop) (W : World) (hn₀ : n₀ ≤ W.heap.size) (hJ : AbN J)
    (hY : ∀ (m i : Nat) (v : Value) (W1 : World), i < tkN ind L → J i W1 → Pce n₀ ind L i v W1 → YieldAt Fence.wide m Try.prog l #[v] W1 fun e W' => e = .returned (.bool true) ∧ J (i + 1) W' ∧ Kp n₀ Bi W1 W')
    (hBl : W.cell? ⟨Bl, 0, none⟩ = some (.slice p L.length cap)) (hBi : W.cell? ⟨Bi, 0, none⟩ = some (.int .u64 ind)) (hM : LsB n₀ W p L) (h0 : J 0 W) :
    CallsIn Fence.wide n Try.prog 35 #[.func (.yield l) #[] #[], .pointer (some ⟨Bl, 0, none⟩), .pointer (some ⟨Bi, 0, none⟩)] W fun e W' => (∃ v, e = .returned v) ∧ J (tkN ind L) W' := by
  have hn2 : (L.length : Int) ≤ 1000 := by have := hB.1; omega
  have hBi' := World.block_lt_of_cell? W ⟨Bi, 0, none⟩ hBi
  obtain ⟨N, hN⟩ : ∃ N, tkN ind L = N := ⟨_, rfl⟩
  have HN : Hid (tkN ind L = N) := hN
  rw [hN] at hY ⊢
  clear hN
  refine callsIn_of_wp Try.func35 rfl trivial ?_ rfl
  simp only [Try.ntmps35, List.size_toArray, List.length_cons, List.length_nil, Nat.reduceAdd, Nat.reduceSub, Array.replicate_succ, Array.replicate_zero, List.push_toArray, List.append_toArray, List.nil_append, List.cons_append]
  gi_wp2
  gi_loopw [8] (fun iv wr => ∃ (k : Nat), k ≤ L.length ∧ iv = .int .i64 k ∧ Hid (∀ (j : Nat) (x : Ln), j < k → L[j]? = some x → endsP ind x.n x.t = false) ∧ J k wr ∧ Kp n₀ Bi W wr)
    (fun iv _ => L.length - (intOf iv).toNat)
  case atStart => exact ⟨0, Nat.zero_le _, rfl, fun j x hj => by omega, h0, Kp.refl _ _ _⟩
  case round =>
    obtain ⟨k, hk, rfl, HV, hJs, hK⟩ := hrel
    by_cases hlt : k < L.length
    · have hli : (k : Int) < L.length := by omega
      obtain ⟨x, hx⟩ : ∃ x, L[k]? = some x := ⟨_, List.getElem?_eq_getElem hlt⟩
      have hMr := hM.on hK.1
      obtain ⟨b0, o0, rfl, hcell⟩ := hMr.1.at (by omega)
      obtain ⟨c0, c1⟩ := hcell k x hx
      obtain ⟨x0, x1, x2⟩ := hB.2 k x hx
      obtain ⟨x3, x4, hI⟩ := hMr.1.1 k x hx
      have hq := hMr.2.2 k x hx
      have cB := (hK.cellB 0).trans hBi
      have hbi := World.block_lt_of_cell? wr ⟨Bi, 0, none⟩ cB
      obtain ⟨A0, hA0⟩ : ∃ A0, wr.alloc (.cells #[.int .i64 x.n, .slice x.q x.t.length x.c] 44) = A0 := ⟨_, rfl⟩
      have hb0 : Below wr.heap.size wr A0 := by rw [← hA0]; exact (Below.refl _ wr).alloc (Nat.le_refl _) _
      obtain ⟨k0, k1⟩ := box2 (w := wr) (w2 := A0) (a := .int .i64 x.n) (b := .slice x.q x.t.length x.c) (t := 44) (by rw [hA0]; exact Below.refl _ _)
      have cB0 : A0.cell? ⟨Bi, 0, none⟩ = some (.int .u64 ind) := (hb0.cell (p := ⟨Bi, 0, none⟩) hbi).trans cB
      have hs0 : A0.heap.size = wr.heap.size + 1 := by rw [← hA0]; simp
      have C1 : ∀ n, CallsIn Fence.wide n Try.prog 36 #[.agg #[.int .i64 x.n, .slice x.q x.t.length x.c], .int .u64 ind] A0 fun e w' => e = .returned (.bool (endsP ind x.n x.t)) ∧ Below A0.heap.size A0 w' := fun n =>
        callsIn_wide.2 (ends_any x.n ind x.q x.t x.c A0 (by omega) (hI.on hb0) x0 (by omega) hi0 (by omega))
      cases he : endsP ind x.n x.t with
      | true =>
        obtain rfl : N = k := HN.out.symm.trans <| tk_eq ind L k hk HV.out (fun y hy => by rw [hx] at hy; cases hy; exact he)
        rw [he] at C1
        clear hY hM hMr hcell hx hI hq he
        obtain ⟨xn, xq, xt, xc⟩ := x
        dsimp only at c0 c1 k0 k1 x0 x1 x2 x3 x4 C1 hA0
        gi_wp2_with (first | (refine ⟨trivial, ?_⟩; gi_at_call 36; refine (C1 _).mono ?_; rintro e w2 ⟨rfl, hb2⟩))
        refine ⟨trivial, ?_⟩
        gi_wp2
        refine ⟨fun _ h => (by cases h), ?_⟩
        gi_wp2
        refine bodyPost_ret (results_none rfl _ _ _) rfl ?_
        exact ⟨⟨_, rfl⟩, hJ _ _ _ (hJ _ _ _ hJs (grown_of_below hb0)) (grown_of_below hb2)⟩
      | false =>
        have HV' : Hid (∀ (j : Nat) (x : Ln), j < k + 1 → L[j]? = some x → endsP ind x.n x.t = false) := fun j y hj hy => by
          by_cases e : j = k
          · subst e; rw [hx] at hy; cases hy; exact he
          · exact HV.out j y (by omega) hy
        have hkN : k < N := by
          rw [← HN.out]
          have h1 := tk_le ind L
          by_cases h2 : tkN ind L ≤ k
          · exfalso
            obtain ⟨y, hy⟩ : ∃ y, L[tkN ind L]? = some y := ⟨_, List.getElem?_eq_getElem (by omega)⟩
            have h3 := tk_at ind L y hy
            rw [HV'.out _ y (by omega) hy] at h3
            cases h3
          · omega
        rw [he] at C1
        have C2 : ∀ (w2 : World) (hb2 : Below A0.heap.size A0 w2) (n : Nat), CallsIn Fence.wide n Try.prog 37 #[.agg #[.int .i64 x.n, .slice x.q x.t.length x.c], .int .u64 ind] w2 fun e w' => ∃ q c, e = .returned (.slice q (behP ind x.n x.t).length c) ∧ (behP ind x.n x.t).length ≤ c ∧ c ≤ maxLen ∧ Is w' q (behP ind x.n x.t) ∧ Pcw n₀ w' q (behP ind x.n x.t) ∧ Below w2.heap.size w2 w' := fun w2 hb2 n =>
          callsIn_wide.2 (behind_pc x.n ind x.q x.t x.c w2 x0 (by omega) hi0 hi1 x2 x3 x4 ((hI.on hb0).on hb2) n₀ hq)
        have YY := fun (v : Value) (W1 : World) (h1 : J k W1) (h2 : Pce n₀ ind L k v W1) => hY (n - 1) k v W1 hkN h1 h2
        have HP : Hid (∀ (q : Option Addr) (c : Nat) (W1 : World), (behP ind x.n x.t).length ≤ c → c ≤ maxLen → Is W1 q (behP ind x.n x.t) → Pcw n₀ W1 q (behP ind x.n x.t) → Pce n₀ ind L k (.slice q (behP ind x.n x.t).length c) W1) := fun q c W1 h1 h2 h3 h4 => ⟨x, q, c, hx, rfl, h1, h2, h3, h4⟩
        clear hY hM hMr hcell hx hI hq he
        obtain ⟨xn, xq, xt, xc⟩ := x
        dsimp only at c0 c1 k0 k1 x0 x1 x2 x3 x4 C1 C2 hA0 HP
        generalize behP ind xn xt = u at C2 HP
        gi_wp2_with (first | (refine ⟨trivial, ?_⟩; gi_at_call 36; refine (C1 _).mono ?_; rintro e w2 ⟨rfl, hb2⟩; have k0' := (hb2.cell (p := ⟨wr.heap.size, 0, none⟩) (by show wr.heap.size < _; omega)).trans k0; have k1' := (hb2.cell (p := ⟨wr.heap.size, 1, none⟩) (by show wr.heap.size < _; omega)).trans k1; have cB2 := (hb2.cell (p := ⟨Bi, 0, none⟩) (by show Bi < _; omega)).trans cB0) | (refine ⟨trivial, ?_⟩; gi_at_call 37; refine (C2 _ hb2 _).mono ?_; rintro e w3 ⟨q3, c3, rfl, hu1, hu2, hu3, hu4, hb3⟩))
        have hJ3 := hJ _ _ _ (hJ _ _ _ (hJ _ _ _ hJs (grown_of_below hb0)) (grown_of_below hb2)) (grown_of_below hb3)
        obtain ⟨fn, tmps, assign, body, hy, hR⟩ := YY _ w3 hJ3 (HP.out q3 c3 w3 hu1 hu2 hu3 hu4)
        have hKb : Below n₀ W wr := hK.1
        have hK3 : Kp n₀ Bi W w3 := ⟨((hK.1.trans (hb0.mono (by have := hK.1.size; omega))).trans (hb2.mono (by have := hK.1.size; omega))).trans (hb3.mono (by have := hK.1.size; have := hb2.size; omega)), by
          rw [hb3.block Bi (by have := hb2.size; omega), hb2.block Bi (by omega), hb0.block Bi hbi]; exact hK.2⟩
        clear YY HP C1 C2 hJ3 hu1 hu2 hu3 hu4
        rw [hy]
        gi_wp2
        refine hR.mono ?_
        rintro e4 W4 ⟨rfl, hJ4, hK4⟩
        clear hR hy
        gi_wp2
        go_roundw
        case rel => exact ⟨k + 1, by omega, by go_num, HV', hJ4, hK3.trans hK4⟩
        case measure => simp [intOf]; omega
    · obtain rfl : k = L.length := by omega
      obtain rfl : N = L.length := HN.out.symm.trans <| tk_eq ind L _ hk HV.out (fun y hy => by simp at hy)
      clear hY hJ
      gi_wp2
      go_end0
      exact ⟨⟨_, rfl⟩, hJs⟩

theorem pieces_seq (n : Nat) (hn : 1 ≤ n) (Bl Bi n₀ cap : Nat) (p : Option Addr) (L : List Ln) (ind : Int) (hB : Bnd L) (hi0 : 0 ≤ ind) (hi1 : ind ≤ 2000) (w : World) (hBl : Bl < w.heap.size) (hBi : Bi < w.heap.size) (hn₀ : n₀ ≤ w.heap.size)
    (cl : w.cell? ⟨Bl, 0, none⟩ = some (.slice p L.length cap)) (ci : w.cell? ⟨Bi, 0, none⟩ = some (.int .u64 ind)) (hM : LsB n₀ w p L) :
    SeqV n Try.prog 35 #[.pointer (some ⟨Bl, 0, none⟩), .pointer (some ⟨Bi, 0, none⟩)] (tkN ind L) (Pce n₀ ind L) (Kp n₀ Bi) w := fun l J W hW hl hJ hY h0 =>
  pieces1_in n hn l Bl Bi n₀ cap p L ind hB hi0 hi1 J W (Nat.le_trans hn₀ hW.size) hJ hY ((hW.cell (p := ⟨Bl, 0, none⟩) hBl).trans cl) ((hW.cell (p := ⟨Bi, 0, none⟩) hBi).trans ci) (hM.on (hW.mono hn₀)) h0
end Go.Proofs.Ytgmcomfeggidnaa
