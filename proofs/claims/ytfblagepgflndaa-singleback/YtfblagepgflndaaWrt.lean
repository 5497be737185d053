/- Writing between single quotes: the iterator over what is written; what is appended. -/
import Derived.Test.YtfblagepgflndaaRed
import Derived.Test.YtfblagepgflndaaSml
set_option linter.unusedVariables false
set_option linter.unusedSimpArgs false
namespace Go.Proofs.Ytfblagepgflndaa
open Go.RowKit Go.Shelf
attribute [local go_sem] Oper.semAt_some

/-- Each quote twice. -/
def wrP : List Int → List Int
  | [] => []
  | c :: r => if c = 39 then 39 :: 39 :: wrP r else c :: wrP r
theorem wr_quote {t : List Int} {k : Nat} (h : k < t.length) (h1 : iAt t k = 39) : wrP (t.drop k) = 39 :: 39 :: wrP (t.drop (k + 1)) := by rw [drop_at h, wrP, if_pos h1]
theorem wr_other {t : List Int} {k : Nat} (h : k < t.length) (h1 : iAt t k ≠ 39) : wrP (t.drop k) = iAt t k :: wrP (t.drop (k + 1)) := by rw [drop_at h, wrP, if_neg h1]
theorem wr_len : ∀ t : List Int, (wrP t).length ≤ 2 * t.length
  | [] => by simp [wrP]
  | c :: r => by
    have := wr_len r
    rw [wrP]
    split
    · simp; omega
    · simp; omega

set_option maxRecDepth 100000 in
set_option maxHeartbeats 2000000 in
theorem written1_in (n l Bb cap : Nat) (q : Option Addr) (t : List Int) (hn : t.length ≤ 8000000000000) (J Jx : Nat → World → Prop) (W : World)
    (c1 : W.cell? ⟨Bb, 0, none⟩ = some (.slice q t.length cap)) (hI : Is W q t) (hJ : AbN J)
    (hY : ∀ (m i : Nat) (x : Int) (W1 : World), (wrP t)[i]? = some x → J i W1 → YieldAt Fence.wide m Try.prog l (encI x) W1 fun e W' =>
      (e = .returned (.bool true) ∧ J (i + 1) W' ∧ Kq (Xs q t Bb) W1 W') ∨ (e = .returned (.bool false) ∧ Jx (i + 1) W')) (h0 : J 0 W) :
    CallsIn Fence.wide n Try.prog 30 #[.func (.yield l) #[] #[], .pointer (some ⟨Bb, 0, none⟩)] W fun e W' => (∃ v, e = .returned v) ∧ (J (wrP t).length W' ∨ ∃ i, Jx i W') := by
  have HY : Hid (∀ (m i : Nat) (x : Int) (W1 : World), (wrP t)[i]? = some x → J i W1 → YieldAt Fence.wide m Try.prog l (encI x) W1 fun e W' =>
      (e = .returned (.bool true) ∧ J (i + 1) W' ∧ Kq (Xs q t Bb) W1 W') ∨ (e = .returned (.bool false) ∧ Jx (i + 1) W')) := hY
  clear hY
  refine callsIn_of_wp Try.func30 rfl trivial ?_ rfl
  simp only [Try.ntmps30, List.size_toArray, List.length_cons, List.length_nil, Nat.reduceAdd, Nat.reduceSub, Array.replicate_succ, Array.replicate_zero, List.push_toArray, List.append_toArray, List.nil_append, List.cons_append]
  gi_wp2
  gi_loopw [7] (fun iv wr => ∃ (k i : Nat), k ≤ t.length ∧ i ≤ (wrP t).length ∧ iv = .int .i64 k ∧ Hid ((wrP t).drop i = wrP (t.drop k)) ∧ J i wr ∧ Kq (Xs q t Bb) W wr) (fun iv _ => t.length - (intOf iv).toNat)
  case atStart => exact ⟨0, 0, Nat.zero_le _, Nat.zero_le _, rfl, rfl, h0, Kq.refl _ _⟩
  case round =>
    obtain ⟨k, i, hk, hi, rfl, Hs, hJr, hkr⟩ := hrel
    by_cases hlt : k < t.length
    · have hli : (k : Int) < t.length := by omega
      obtain ⟨b, o, rfl, hu⟩ := (hkr.is hI).at (by omega)
      have e0 := hu k hlt
      by_cases hq : iAt t k = 39
      · rw [hq] at e0
        obtain ⟨T0, T1, T2⟩ := drop_cons (Hs.out.trans (wr_quote hlt hq))
        obtain ⟨T3, T4, T5⟩ := drop_cons T1
        have HT : Hid (List.drop (i + 1 + 1) (wrP t) = wrP (t.drop (k + 1))) := T4
        have H3 : Hid ((wrP t)[i + 1]? = some 39) := T3
        have Y := HY.out (n - 1) i 39 wr T0 hJr
        simp only [encI] at Y
        obtain ⟨fn, tmps, assign, body, hy, hR⟩ := Y
        clear hu hI Hs T0 T1 T3 T4
        gi_wp2
        refine ⟨(fun h => by cases h), hR.mono ?_⟩
        rintro e3 W3 (⟨rfl, hJ3, hk3⟩ | ⟨rfl, hJx3⟩)
        · clear hR hy
          have Y := HY.out (n - 1) (i + 1) 39 W3 H3.out hJ3
          simp only [encI] at Y
          obtain ⟨fn, tmps, assign, body, hy, hR⟩ := Y
          clear HY H3
          gi_wp2
          refine ⟨(fun h => by cases h), hR.mono ?_⟩
          rintro e4 W4 (⟨rfl, hJ4, hk4⟩ | ⟨rfl, hJx4⟩)
          · clear hR hy
            gi_wp2
            go_roundw
            case rel => exact ⟨k + 1, i + 1 + 1, by omega, by omega, by go_num, HT, hJ4, (hkr.trans hk3).trans hk4⟩
            case measure => simp [intOf]; omega
          · clear hR hy
            gi_wp2
            refine bodyPost_ret (results_none rfl _ _ _) rfl ?_
            exact ⟨⟨_, rfl⟩, .inr ⟨_, hJx4⟩⟩
        · clear hR hy HY
          gi_wp2
          refine bodyPost_ret (results_none rfl _ _ _) rfl ?_
          exact ⟨⟨_, rfl⟩, .inr ⟨_, hJx3⟩⟩
      · have hq' : (iAt t k == 39) = false := by simpa using hq
        obtain ⟨T0, T1, T2⟩ := drop_cons (Hs.out.trans (wr_other hlt hq))
        have HT : Hid (List.drop (i + 1) (wrP t) = wrP (t.drop (k + 1))) := T1
        have Y := HY.out (n - 1) i (iAt t k) wr T0 hJr
        simp only [encI] at Y
        obtain ⟨fn, tmps, assign, body, hy, hR⟩ := Y
        obtain ⟨x, hx⟩ : ∃ x, iAt t k = x := ⟨_, rfl⟩
        rw [hx] at e0 hq hq' hy
        clear hu hI Hs T0 T1 HY hx
        gi_wp2
        refine ⟨(fun g h => by cases h), ?_⟩
        gi_wp2
        refine ⟨(fun h => by cases h), hR.mono ?_⟩
        rintro e3 W3 (⟨rfl, hJ3, hk3⟩ | ⟨rfl, hJx3⟩)
        · clear hR hy
          gi_wp2
          go_roundw
          case rel => exact ⟨k + 1, i + 1, by omega, by omega, by go_num, HT, hJ3, hkr.trans hk3⟩
          case measure => simp [intOf]; omega
        · clear hR hy
          gi_wp2
          refine bodyPost_ret (results_none rfl _ _ _) rfl ?_
          exact ⟨⟨_, rfl⟩, .inr ⟨_, hJx3⟩⟩
    · obtain rfl : k = t.length := by omega
      have hT := Hs.out
      rw [List.drop_eq_nil_of_le (Nat.le_refl _), wrP] at hT
      obtain rfl : i = (wrP t).length := by
        have := congrArg List.length hT
        simp at this
        omega
      clear HY hJ hT
      gi_wp2
      go_end0
      exact ⟨⟨_, rfl⟩, .inl hJr⟩

theorem written_seq (n Bb cap : Nat) (q : Option Addr) (t : List Int) (hn : t.length ≤ 8000000000000) (w : World) (c1 : w.cell? ⟨Bb, 0, none⟩ = some (.slice q t.length cap)) (hI : Is w q t) :
    SeqT n Try.prog 30 #[.pointer (some ⟨Bb, 0, none⟩)] encI (wrP t) (Kq (Xs q t Bb)) w := fun l J Jx W hW _ hJ hJx hY h0 =>
  written1_in n l Bb cap q t hn J Jx W ((hW.cell (p := ⟨Bb, 0, none⟩) (World.block_lt_of_cell? w _ c1)).trans c1) (hI.on hW) hJ hY h0

def Ig (w : World) (n₀ : Nat) (X : Nat → Prop) (xs T : List Int) (i : Nat) (W : World) : Prop :=
  ∃ v, Boxed W w.heap.size 24 v ∧ Owns W n₀ v (xs ++ T.take i) ∧ (∀ g, v.ownBlock = some g → ¬ X g) ∧ Below n₀ w W ∧ w.heap.size ≤ W.heap.size
theorem Ig.own {w : World} {n₀ : Nat} {X : Nat → Prop} {xs T : List Int} (B : Nat) (hB : n₀ ≤ B) (hn : n₀ ≤ w.heap.size) : OwnFrom B (Ig w n₀ X xs T) := by
  rintro s W W' row ⟨v, hv, ho, hg, hb, hsz⟩ hgr hr
  refine ⟨v, boxed_own' hv hgr hr, ho.kept hgr ?_, hg, hb.grown hgr (Nat.le_trans hn hb.size) ?_, Nat.le_trans hsz hgr.size⟩
  · cases hvb : v.ownBlock with
    | none => exact .inl rfl
    | some g =>
      refine .inr fun e => ?_
      obtain ⟨-, o, ho', hc⟩ := hr g e.symm
      obtain ⟨-, cur, hcur⟩ := owns_cells ho hvb
      rw [hcur] at ho'; cases ho'; cases hc
  · intro k e
    have := (hr k e).1
    omega
theorem Ig_step {w W w1 : World} {n₀ B : Nat} {X : Nat → Prop} {xs T : List Int} {i : Nat} {x : Int} {v : Value} {g cap : Nat} (hn : n₀ ≤ w.heap.size) (hX : ∀ b, X b → b < w.heap.size) (hx : T[i]? = some x) (hv : Boxed W w.heap.size 24 v) (ho : Owns W n₀ v (xs ++ T.take i)) (hg : ∀ g, v.ownBlock = some g → ¬ X g) (hBl : Below n₀ w W) (hsz : w.heap.size ≤ W.heap.size)
    (h2 : Owns w1 n₀ (.slice (some ⟨g, 0, none⟩) ((xs ++ T.take i).length + 1) cap) ((xs ++ T.take i) ++ [x])) (h3 : (W.alloc (.cells #[.int .i64 x] 3)).grownBy w1 v.ownBlock) (h4 : v.ownBlock = some g ∨ g = W.heap.size + 1) :
    Boxed w1 w.heap.size 24 v ∧ Hid (postT B (Kq X) (Ig w n₀ X xs T) (fun _ _ _ => False) (i + 1) W .normal { tmps := #[], defers := [] } (w1.setCell ⟨w.heap.size, 0, none⟩ (.slice (some ⟨g, 0, none⟩) ((xs ++ T.take i).length + 1) cap))) := by
  obtain ⟨hv1, hv2, hr2, hk2, hb2⟩ := hv.appended (by decide) ho (by omega) hn h2 h3
  have htk : (xs ++ T.take i) ++ [x] = xs ++ T.take (i + 1) := by rw [List.take_add_one, hx]; simp
  refine ⟨hv1, hk2.from B, ⟨hb2.size, fun b hb => ?_⟩, _, hv2, htk ▸ hr2, fun g' e => ?_, hBl.trans hb2, Nat.le_trans hsz hb2.size⟩
  · have := hX b hb
    rw [Deep.blk_setCell_other _ _ _ _ (by dsimp only; omega), h3.block b (by simp; omega) (fun e => hg b e.symm hb)]
    exact Below.heap_alloc W _ b (by omega)
  · cases e
    rcases h4 with h4 | rfl
    · exact hg g h4
    · exact fun h => by have := hX _ h; dsimp only at this; omega

set_option maxRecDepth 100000 in
set_option maxHeartbeats 2000000 in
theorem appendSeqT (n : Nat) (hn : 1 ≤ n) (gf : Nat) (lb : Array Value) (T : List Int) (X : Nat → Prop) (n₀ : Nat) (p0 : Option Addr) (k0 c0 : Nat) (xs : List Int) (w : World) (eg : ∀ args w, (callFunc gf args).run Try.prog w = .ok (.enter gf args) w)
    (hX : ∀ b, X b → b < w.heap.size) (hn₀ : n₀ ≤ w.heap.size) (hl : xs.length + T.length ≤ 8000000000000) (ho : Owns w n₀ (.slice p0 k0 c0) xs) (hne : ∀ g, (Value.slice p0 k0 c0).ownBlock = some g → ¬ X g)
    (hseq : SeqT (n - 1) Try.prog gf lb encI T (Kq X) w) :
    CallsIn Fence.wide n Try.prog 21 #[.slice p0 k0 c0, .func (.func gf) #[] lb] w fun e w' => ∃ v, e = .returned v ∧ Owns w' n₀ v (xs ++ T) ∧ Below n₀ w w' := by
  have hb0 := Boxed.new w 24 (.slice p0 k0 c0)
  have hB0 : Below w.heap.size w (w.alloc (.cells #[.slice p0 k0 c0] 24)) := (Below.refl _ w).alloc (Nat.le_refl _) _
  have hs0 : (w.alloc (.cells #[.slice p0 k0 c0] 24)).heap.size = w.heap.size + 1 := by simp
  have ho0 : Owns (w.alloc (.cells #[.slice p0 k0 c0] 24)) n₀ (.slice p0 k0 c0) (xs ++ T.take 0) := by
    rw [List.take_zero, List.append_nil]; exact ho.alloc _
  refine callsIn_of_wp_marks Try.func21 rfl trivial ?_ rfl
  simp only [Try.ntmps21, List.size_toArray, List.length_cons, List.length_nil, Nat.reduceAdd, Nat.reduceSub, Array.replicate_succ, Array.replicate_zero, List.push_toArray, List.append_toArray, List.nil_append, List.cons_append]
  gi_wp2
  generalize w.alloc (.cells #[.slice p0 k0 c0] 24) = W0 at hb0 hB0 hs0 ho0 ⊢
  refine wpIn_rangeFuncT (gf := gf) (lb := lb) rfl eg hseq (fun h k => Kq.trans h k) (Kq.putObj (fun b h => by have := hX b h; omega)) hB0 (fun _ => rfl)
    (Ig w n₀ X xs T) (fun _ _ _ => False) (Ig.own _ (by omega) hn₀) (fun _ _ _ _ _ h => h.elim)
    ⟨_, hb0, ho0, hne, hB0.mono hn₀, hB0.size⟩
    (fun x => { tmps := #[.slice p0 k0 c0, .func (.func gf) #[] lb, .pointer (some ⟨w.heap.size, 0, none⟩), undef, .slice none 0 0, .int .i64 x, .func (.func gf) #[] lb, .int .i64 x, undef, undef, undef, undef, undef], defers := [] }) ?assign ?body ?done ?stop
  case assign =>
    intro m l x W K hK
    simp only [encI]
    gi_wp2
    exact hK
  case body =>
    rintro m l i x W hx ⟨v, hv, hoi, hg, hBl, hsz⟩
    have hcl := hv.cell
    obtain ⟨g, cap, w1, hrun, h2, h3, h4⟩ := push1 hoi (by omega) (by rw [List.length_append, List.length_take]; omega) x
    obtain ⟨hv1, HF⟩ := Ig_step (B := W0.heap.size) hn₀ hX hx hv hoi hg hBl hsz h2 h3 h4
    have hc1 := hv1.cell
    have hf1 := hv1.frozen
    obtain ⟨va, vk, vc, rfl⟩ := ownsRow_form hoi
    clear hseq hx h2 h3 h4
    generalize (xs ++ List.take i T).length + 1 = kk at hrun HF
    gi_wp2_with (first | (gi_at_builtin; refine wpListIn_append_run rfl _ _ 24 rfl rfl rfl hrun ?_))
    exact HF.out
  case done =>
    rintro D W hD ⟨v, hv, hoi, -, hBl, hsz⟩ hK
    rw [List.take_length] at hoi
    obtain ⟨va, vk, vc, rfl⟩ := ownsRow_form hoi
    have hcl := hv.cell
    clear hseq
    gi_wp2
    refine ⟨by simp, .inl ⟨_, _, rfl, run_takeDeferred hK, ?_⟩⟩
    refine ⟨_, results_tmp rfl _ _ _, _, rfl, ?_, ?_⟩
    · exact ownsRow_putObj hoi _ hK rfl
    · exact hBl.trans (belowK_b (w := w) hn₀ W D _ _ (by omega) hK rfl rfl)
  case stop =>
    rintro D c' i W hD h hK
    exact h.elim
end Go.Proofs.Ytfblagepgflndaa
