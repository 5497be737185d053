/- Read of lines between single quotes, as it runs. -/
import Derived.Test.YtfblagepgflndaaEnd
set_option linter.unusedVariables false
set_option linter.unusedSimpArgs false
namespace Go.Proofs.Ytfblagepgflndaa
open Go.RowKit Go.Shelf
attribute [local go_sem] Oper.semAt_some

def readS (t : List Int) : List Int := (sgP 0 t).map (·.2.1)

def Ir (w : World) (n₁ : Nat) (X : Nat → Prop) (T : List Sg) (i : Nat) (W : World) : Prop :=
  n₁ ≤ W.heap.size ∧ ∃ v, Boxed W w.heap.size 24 v ∧ Owns W w.heap.size v ((T.take i).map (·.2.1)) ∧ (∀ g, v.ownBlock = some g → ¬ X g) ∧ Below w.heap.size w W
theorem Ir.own {w : World} {n₁ : Nat} {X : Nat → Prop} {T : List Sg} (B : Nat) (hB : w.heap.size ≤ B) : OwnFrom B (Ir w n₁ X T) := by
  rintro s W W' row ⟨hn₁, v, hv, ho, hg, hb⟩ hgr hr
  refine ⟨Nat.le_trans hn₁ hgr.size, v, boxed_own' hv hgr hr, ho.kept hgr ?_, hg, hb.grown hgr hb.size ?_⟩
  · cases hvb : v.ownBlock with
    | none => exact .inl rfl
    | some g =>
      refine .inr fun e => ?_
      obtain ⟨-, o, ho', hc⟩ := hr g e.symm
      obtain ⟨-, cur, hcur⟩ := owns_cells ho hvb
      rw [hcur] at ho'; cases ho'; cases hc
  · intro k e
    have := (hr k e).1
    omega
theorem Ir_step {w W w1 : World} {n₁ : Nat} {X : Nat → Prop} {B : Nat} {T : List Sg} {i : Nat} {x : Sg} {v : Value} {g cap : Nat} (hn₁ : n₁ ≤ W.heap.size) (hX' : ∀ b, X b → b < n₁) (hXs : ¬ X w.heap.size) (hx : T[i]? = some x) (hv : Boxed W w.heap.size 24 v) (ho : Owns W w.heap.size v ((T.take i).map (·.2.1))) (hg : ∀ g, v.ownBlock = some g → ¬ X g) (hBl : Below w.heap.size w W)
    (h2 : Owns w1 w.heap.size (.slice (some ⟨g, 0, none⟩) (((T.take i).map (·.2.1)).length + 1) cap) (((T.take i).map (·.2.1)) ++ [x.2.1])) (h3 : (W.alloc (.cells #[.int .i64 x.2.1] 3)).grownBy w1 v.ownBlock) (h4 : v.ownBlock = some g ∨ g = W.heap.size + 1) :
    Boxed w1 w.heap.size 24 v ∧ Hid (postT B (Kq X) (Ir w n₁ X T) (fun _ _ _ => False) (i + 1) W .normal { tmps := #[], defers := [] } (w1.setCell ⟨w.heap.size, 0, none⟩ (.slice (some ⟨g, 0, none⟩) (((T.take i).map (·.2.1)).length + 1) cap))) := by
  have hsz := hBl.size
  have hX : ∀ b, X b → b < W.heap.size := fun b h => Nat.lt_of_lt_of_le (hX' b h) hn₁
  obtain ⟨hv1, hv2, hr2, hk2, hb2⟩ := hv.appended (by decide) ho hsz (Nat.le_refl _) h2 h3
  have htk : ((T.take i).map (·.2.1)) ++ [x.2.1] = (T.take (i + 1)).map (·.2.1) := by rw [List.take_add_one, hx]; simp
  refine ⟨hv1, hk2.from B, ⟨hb2.size, fun b hb => ?_⟩, Nat.le_trans hn₁ hb2.size, _, hv2, htk ▸ hr2, fun g' e => ?_, hBl.trans hb2⟩
  · rw [Deep.blk_setCell_other _ _ _ _ (fun e => hXs (by dsimp only at e; rwa [e] at hb)), h3.block b (by have := hX b hb; simp; omega) (fun e => hg b e.symm hb)]
    exact Below.heap_alloc W _ b (hX b hb)
  · cases e
    rcases h4 with h4 | rfl
    · exact hg g h4
    · exact fun h => by have := hX _ h; dsimp only at this; omega

theorem Owns.read {w : World} {base : Nat} {v : Value} {t : List Int} (h : Owns w base v t) : ∃ q c, v = .slice q t.length c ∧ Is w q t := by
  obtain ⟨q, k, c, rfl⟩ := ownsRow_form h
  obtain ⟨h1, rfl, -, -⟩ := is_of_row h
  exact ⟨q, c, rfl, h1⟩
theorem boxed_below {W W' : World} {b n₀ : Nat} {ty : TypeId} {v : Value} (h : Boxed W b ty v) (hb : Below n₀ W W') (hlt : b < n₀ := by omega) : Boxed W' b ty v := (hb.block b hlt).trans h

set_option maxRecDepth 100000 in
set_option maxHeartbeats 2000000 in
theorem Read_any (p : Option Addr) (R : List Row) (cap : Nat) (w : World) (hS : Sized R) (hM : Mt w p R) :
    Calls Try.prog 10 #[.slice p R.length cap] w fun e w' => ∃ v, e = .returned v ∧ Owns w' w.heap.size v (readS (flowT R)) ∧ Below w.heap.size w w' := by
  have hlen : (flowT R).length ≤ 2199025352704 := by rw [flowT_flS]; exact flS_len R hS R.length (Nat.le_refl _)
  have b0 := Boxed.new w 24 (.slice none 0 0)
  have hB0 : Below w.heap.size w (w.alloc (.cells #[.slice none 0 0] 24)) := (Below.refl _ w).alloc (Nat.le_refl _) _
  have hs0 : (w.alloc (.cells #[.slice none 0 0] 24)).heap.size = w.heap.size + 1 := by simp
  have FL := fun m => (callsIn_wide (n := m)).2 (Flow_any p R cap _ hS (hM.on hB0))
  rw [hs0] at FL
  generalize flowT R = t at FL hlen ⊢
  unfold readS
  obtain ⟨T, hT⟩ : ∃ T, sgP 0 t = T := ⟨_, rfl⟩
  have hTl : T.length ≤ 2199025352704 := by rw [← hT]; exact Nat.le_trans (sg_len t 0) hlen
  rw [hT]
  have HT : Hid (sgP 0 t = T) := hT
  clear hT
  refine (callsIn_wide (n := 9)).1 ?_
  refine callsIn_of_wp_marks Try.func10 rfl trivial ?_ rfl
  simp only [Try.ntmps10, List.size_toArray, List.length_cons, List.length_nil, Nat.reduceAdd, Nat.reduceSub, Array.replicate_succ, Array.replicate_zero, List.push_toArray, List.append_toArray, List.nil_append, List.cons_append]
  gi_wp2_with (first | (refine ⟨trivial, ?_⟩; gi_at_call 19; refine (FL _).mono ?_; rintro e W2 ⟨v, rfl, ho, hb⟩; obtain ⟨q, c, rfl, hI⟩ := Owns.read ho) | (refine ⟨trivial, ?_⟩; gi_at_call 18; refine (signs_in _ _ _ _ _).mono ?_; rintro e W3 ⟨rfl, rfl⟩))
  clear FL
  have b1 := ((boxed_below b0 hb).alloc (.cells #[.slice q t.length c] 24))
  have hB2 := (hB0.trans (hb.mono (Nat.le_succ _))).alloc (by have := hb.size; omega) (.cells #[.slice q t.length c] 24)
  have hsb := hb.size
  have hb2 := Boxed.new W2 24 (.slice q t.length c)
  have hs3 : (W2.alloc (.cells #[.slice q t.length c] 24)).heap.size = W2.heap.size + 1 := by simp
  have SQ := signs_seq (9 - 1) W2.heap.size c q t (by omega) (W2.alloc (.cells #[.slice q t.length c] 24)) hb2.cell (hI.alloc _)
  rw [HT.out] at SQ
  have hXlt := xs_lt (Bb := W2.heap.size) (B := W2.heap.size + 1) hI (by omega) (by omega)
  have hXs : ¬ Xs q t W2.heap.size w.heap.size := by
    rintro (e | ⟨hl, a, rfl, e⟩)
    · omega
    · have := (owns_cells ho (g := a.block) rfl).1
      omega
  generalize Xs q t W2.heap.size = X at SQ hXlt hXs
  generalize W2.alloc (.cells #[.slice q t.length c] 24) = W3 at b1 hB2 hs3 SQ
  refine wpIn_rangeFuncB (gf := 26) (lb := #[.pointer (some ⟨W2.heap.size, 0, none⟩)]) rfl (enters_of Try.func26 (by kernel_rfl) rfl) SQ (fun h k => Kq.trans h k) (Kq.putObj (by rw [hs3]; exact hXlt)) (Below.refl _ _) (fun _ => rfl)
    (Ir w W3.heap.size X T) (fun _ _ _ => False) (Ir.own _ (by omega)) (fun _ _ _ _ _ h => h.elim) ⟨Nat.le_refl _, _, b1, World.ownsRow_nil _ _ 3 1, (fun g e => by cases e), hB2⟩
    (fun x => .cells #[.int .i64 x.2.1, .bool x.2.2] 38) (fun W x h => Kq.alloc hXlt W _ (by omega))
    (fun x b => { tmps := #[.slice p R.length cap, undef, .slice none 0 0, .pointer (some ⟨w.heap.size, 0, none⟩), undef, .pointer (some ⟨b, 0, none⟩), .slice p R.length cap, .slice q t.length c, .func (.func 26) #[] #[.pointer (some ⟨W2.heap.size, 0, none⟩)], .int .i64 (x.1 : Nat), .agg #[.int .i64 x.2.1, .bool x.2.2], undef, undef, undef, undef, undef, undef], defers := [] }) ?assign ?body ?done ?stop
  case assign =>
    intro m l x W K hK
    simp only [encS] at hK ⊢
    gi_wp2
    exact hK
  case body =>
    clear SQ hb2 b1
    rintro m l i b ⟨a, x, z⟩ W hx ⟨hn₁, v, hv, hoi, hg, hBl⟩ xb
    dsimp only at xb ⊢
    have e0 : W.cell? ⟨b, 0, none⟩ = some (.int .i64 x) := by simp [World.cell?, xb]
    have hcl := hv.cell
    obtain ⟨g, cp, w1, hrun, h2, h3, h4⟩ := push1 hoi hBl.size (by rw [List.length_map, List.length_take]; omega) x
    obtain ⟨hv1, HF⟩ := Ir_step (B := W3.heap.size) (x := (a, x, z)) hn₁ (by rw [hs3]; exact hXlt) hXs hx hv hoi hg hBl h2 h3 h4
    have hc1 := hv1.cell
    have hf1 := hv1.frozen
    obtain ⟨va, vk, vc, rfl⟩ := ownsRow_form hoi
    clear hx h2 h3 h4 xb
    generalize ((T.take i).map (·.2.1)).length + 1 = kk at hrun HF
    gi_wp2_with (first | (gi_at_builtin; refine wpListIn_append_run rfl _ _ 24 rfl rfl rfl hrun ?_))
    exact HF.out
  case done =>
    rintro D W hD ⟨-, v, hv, hoi, -, hBl⟩ hK
    rw [List.take_length] at hoi
    obtain ⟨va, vk, vc, rfl⟩ := ownsRow_form hoi
    have hcl := hv.cell
    clear SQ
    gi_wp2
    refine ⟨by simp, .inl ⟨_, _, rfl, run_takeDeferred hK, ?_⟩⟩
    refine ⟨_, results_tmp rfl _ _ _, _, rfl, ?_, ?_⟩
    · exact ownsRow_putObj hoi _ hK rfl
    · exact hBl.trans (belowK_b (w := w) (Nat.le_refl _) W D _ _ (by omega) hK rfl rfl)
  case stop =>
    rintro D c' i W hD h hK
    exact h.elim
end Go.Proofs.Ytfblagepgflndaa
