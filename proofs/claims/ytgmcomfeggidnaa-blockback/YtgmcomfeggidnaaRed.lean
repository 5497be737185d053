/- Read, as it runs. -/
import Derived.Test.YtgmcomfeggidnaaTxt
set_option linter.unusedVariables false
set_option linter.unusedSimpArgs false
namespace Go.Proofs.Ytgmcomfeggidnaa
open Go.RowKit Go.Shelf
attribute [local go_sem] Oper.semAt_some

def pcsP (ind : Int) (L : List Ln) : List (List Int) := (L.take (tkN ind L)).map fun x => behP ind x.n x.t
def rowsOf (Ts : List (List Int)) : List Row := Ts.map fun t => ⟨none, t, 0⟩
theorem rowsOf_t (Ts : List (List Int)) : (rowsOf Ts).map (·.t) = Ts := by unfold rowsOf; rw [List.map_map]; exact List.map_id' _
def readT (f : Bool) (chomp ind : Int) (L : List Ln) : List Int := wholeT (fp f) (rowsOf (pcsP ind L)) chomp

theorem pcs_len (ind : Int) (L : List Ln) : (pcsP ind L).length = tkN ind L := by
  have := tk_le ind L
  unfold pcsP; simp; omega
theorem pcs_at {ind : Int} {L : List Ln} {i : Nat} {x : Ln} (hi : i < tkN ind L) (hx : L[i]? = some x) : (pcsP ind L)[i]? = some (behP ind x.n x.t) := by
  unfold pcsP
  rw [List.getElem?_map, List.getElem?_take, if_pos hi, hx]
  rfl
theorem pcs_small {ind : Int} {L : List Ln} (hB : Bnd L) (h0 : 0 ≤ ind) : ∀ t ∈ pcsP ind L, t.length ≤ 2000 := by
  intro t ht
  unfold pcsP at ht
  obtain ⟨x, hx, rfl⟩ := List.mem_map.1 ht
  obtain ⟨j, hj, hjx⟩ := List.mem_iff_getElem.1 (List.mem_of_mem_take hx)
  obtain ⟨a, b, c⟩ := hB.2 j x (by rw [← hjx]; exact List.getElem?_eq_getElem hj)
  unfold behP
  simp
  omega
theorem rows_small {Ts : List (List Int)} {R : List Row} (h : R.map (·.t) = Ts) (hT : ∀ t ∈ Ts, t.length ≤ 2000) (i : Nat) : (tAt R i).length ≤ 2000 := by
  unfold tAt
  cases hr : R[i]? with
  | none => simp
  | some r =>
    refine hT r.t ?_
    rw [← h]
    exact List.mem_map.2 ⟨r, List.mem_of_getElem? hr, rfl⟩

theorem kp_put {n₀ Bb : Nat} {W : World} {l : Nat} {o o' : Obj} (h1 : n₀ ≤ l) (h2 : Bb < l) (hl : W.heap[l]? = some o) : Kp n₀ Bb W (W.putObj l o') :=
  ⟨(Below.refl n₀ W).grown (grownBy_putObj' W l o') (by have := (Array.getElem?_eq_some_iff.1 hl).1; omega) (fun k e => by cases e; exact h1), World.putObj_heap_other (by omega)⟩
theorem box3 {w : World} {b : Nat} {x y z : Value} {t : TypeId} {fz : Nat × Nat} (h : w.heap[b]? = some (.cells #[x, y, z] t fz)) : w.cell? ⟨b, 0, none⟩ = some x ∧ w.cell? ⟨b, 1, none⟩ = some y ∧ w.cell? ⟨b, 2, none⟩ = some z := by
  have h1 : ∀ o, w.cell? ⟨b, o, none⟩ = (#[x, y, z] : Array Value)[o]? := fun o => by
    show (match w.heap[b]? with | some (.cells c _ _) => c[o]? | _ => none) = _
    rw [h]
  exact ⟨h1 0, h1 1, h1 2⟩

theorem pce_put {n₀ : Nat} {ind : Int} {L : List Ln} (i : Nat) (v : Value) (W : World) (l : Nat) (o o' : Obj) (hl : W.heap[l]? = some o) (hc : o.isCells = false) (h : Pce n₀ ind L i v W) : Pce n₀ ind L i v (W.putObj l o') := by
  obtain ⟨x, q, c, hx, hv, h1, h2, h3, h4⟩ := h
  refine ⟨x, q, c, hx, hv, h1, h2, ?_, fun a e hp => ?_⟩
  · rcases h3 with e | ⟨b, of, e, hcl⟩
    · exact .inl e
    · refine .inr ⟨b, of, e, fun j hj => ?_⟩
      have h5 := hcl j hj
      have hne : b ≠ l := fun e => by
        subst e
        unfold World.cell? at h5
        rw [hl] at h5
        cases o <;> simp_all [Obj.isCells]
      have h6 : (W.putObj l o').cell? ⟨b, of + j, none⟩ = W.cell? ⟨b, of + j, none⟩ := World.cell?_of_block (World.putObj_heap_other hne)
      rw [h6]; exact h5
  · rcases h4 a e hp with h | ⟨cur, f, h⟩
    · exact .inl h
    · refine .inr ⟨cur, f, ?_⟩
      have hne : a.block ≠ l := fun e => by
        rw [e, hl] at h
        cases h; cases hc
      rw [World.putObj_heap_other hne]; exact h

set_option maxHeartbeats 1000000 in
theorem pieces_in (n : Nat) (p : Option Addr) (len cap : Nat) (ind : Int) (w : World) :
    CallsIn Fence.wide n Try.prog 21 #[.slice p len cap, .int .u64 ind] w fun e w' => e = .returned (.func (.func 35) #[] #[.pointer (some ⟨w.heap.size, 0, none⟩), .pointer (some ⟨w.heap.size + 1, 0, none⟩)]) ∧ w' = (w.alloc (.cells #[.slice p len cap] 34)).alloc (.cells #[.int .u64 ind] 50) := by
  refine callsIn_of_wp Try.func21 rfl trivial ?_ rfl
  simp only [Try.ntmps21, List.size_toArray, List.length_cons, List.length_nil, Nat.reduceAdd, Nat.reduceSub, Array.replicate_succ, Array.replicate_zero, List.push_toArray, List.append_toArray, List.nil_append, List.cons_append]
  gi_wp2
  go_ret
  exact ⟨rfl, rfl⟩

set_option maxRecDepth 100000 in
set_option maxHeartbeats 1000000 in
theorem Read_some (f : Bool) (chomp more n : Int) (p : Option Addr) (L : List Ln) (cap : Nat) (w : World) (ind : Int) (hB : Bnd L) (hL : Ls w p L) (hn : n ≤ 1000) (hm0 : 0 ≤ more) (hm1 : more ≤ 9) (hind : indP L more (max n (-1)) = some ind) :
    Calls Try.prog 12 #[.slice p L.length cap, .agg #[.bool f, .int .i64 chomp, .int .i64 more], .int .i64 n] w fun e w' => e = .returned (.tuple #[.string (strB (encZ (readT f chomp ind L))), .int .i64 (tkN ind L : Nat), .int .i64 0]) ∧ Below w.heap.size w w' := by
  have hn0 : -1 ≤ max n (-1) := by omega
  have hn1 : max n (-1) ≤ 1000 := by omega
  obtain ⟨hi0, hi1⟩ := indP_bnd hB hn0 hn1 hm0 hm1 hind
  obtain ⟨A0, hA0⟩ : ∃ A0, w.alloc (.cells #[.bool f, .int .i64 chomp, .int .i64 more] 25) = A0 := ⟨_, rfl⟩
  have hb0 : Below w.heap.size w A0 := by rw [← hA0]; exact (Below.refl _ w).alloc (Nat.le_refl _) _
  have hh0 : A0.heap[w.heap.size]? = some (.cells #[.bool f, .int .i64 chomp, .int .i64 more] 25) := by rw [← hA0]; exact World.alloc_heap_new w _
  have hs0 : A0.heap.size = w.heap.size + 1 := by rw [← hA0]; simp
  have c2 : A0.cell? ⟨w.heap.size, 2, none⟩ = some (.int .i64 more) := by simp [World.cell?, hh0]
  have ID := fun m => (callsIn_wide (n := m)).2 (indentOf_any p L cap more (max n (-1)) A0 hB (hL.on hb0) hn0 hn1 hm0 hm1)
  rw [hind] at ID
  unfold indV at ID
  dsimp only at ID
  refine (callsIn_wide (n := 12)).1 ?_
  refine callsIn_of_wp_marks Try.func12 rfl trivial ?_ rfl
  simp only [Try.ntmps12, List.size_toArray, List.length_cons, List.length_nil, Nat.reduceAdd, Nat.reduceSub, Array.replicate_succ, Array.replicate_zero, List.push_toArray, List.append_toArray, List.nil_append, List.cons_append]
  gi_wp2_with (first | (refine ⟨trivial, ?_⟩; gi_at_call 20; refine (ID _).mono ?_; rintro e w2 ⟨rfl, hb2⟩) | (refine ⟨trivial, ?_⟩; gi_at_call 21; refine (pieces_in _ _ _ _ _ _).mono ?_; rintro e w4 ⟨rfl, rfl⟩))
  clear ID
  obtain ⟨W4, hW4⟩ : ∃ W4, ((w2.alloc (.cells #[.slice none 0 0] 41)).alloc (.cells #[.slice p L.length cap] 34)).alloc (.cells #[.int .u64 ind] 50) = W4 := ⟨_, rfl⟩
  have hs2 := hb2.size
  have hs4 : W4.heap.size = w2.heap.size + 3 := by rw [← hW4]; simp
  have hb4 : Below w2.heap.size w2 W4 := by
    rw [← hW4]
    exact (((Below.refl _ w2).alloc (Nat.le_refl _) _).alloc (by simp) _).alloc (by simp; omega) _
  have b1 : Boxed W4 w2.heap.size 41 (.slice none 0 0) := by
    rw [← hW4]
    exact ((Boxed.new w2 41 (.slice none 0 0)).alloc _).alloc _
  have cl : W4.cell? ⟨w2.heap.size + 1, 0, none⟩ = some (.slice p L.length cap) := by
    rw [← hW4]
    have := Boxed.new (w2.alloc (.cells #[.slice none 0 0] 41)) 34 (.slice p L.length cap)
    simp only [World.size_alloc] at this
    exact (this.alloc _).cell
  have ci : W4.cell? ⟨w2.heap.size + 1 + 1, 0, none⟩ = some (.int .u64 ind) := by
    rw [← hW4]
    have := Boxed.new ((w2.alloc (.cells #[.slice none 0 0] 41)).alloc (.cells #[.slice p L.length cap] 34)) 50 (.int .u64 ind)
    simp only [World.size_alloc] at this
    exact this.cell
  have hh4 : W4.heap[w.heap.size]? = some (.cells #[.bool f, .int .i64 chomp, .int .i64 more] 25) := (hb4.block _ (by omega)).trans ((hb2.block _ (by omega)).trans hh0)
  have hB4 : Below w.heap.size w W4 := (hb0.trans (hb2.mono (by omega))).trans (hb4.mono (by omega))
  rw [hW4]
  have SQ := pieces_seq (12 - 1) (by decide) (w2.heap.size + 1) (w2.heap.size + 1 + 1) w.heap.size cap p L ind hB hi0 hi1 W4 (by omega) (by omega) (by omega) cl ci ((hL.b).on hB4)
  have hpl := pcs_len ind L
  have hsm := pcs_small hB hi0
  have htl := tk_le ind L
  have hBl := hB.1
  have HT : Hid (readT f chomp ind L = wholeT (fp f) (rowsOf (pcsP ind L)) chomp) := rfl
  have HA : Hid (∀ (i : Nat) (x : Ln), i < tkN ind L → L[i]? = some x → (pcsP ind L)[i]? = some (behP ind x.n x.t)) := fun i x => pcs_at
  obtain ⟨rT, hrT⟩ : ∃ rT, readT f chomp ind L = rT := ⟨_, rfl⟩
  rw [hrT] at HT
  clear hW4 cl ci hind hL hB
  obtain ⟨Ts, hTs⟩ : ∃ Ts, pcsP ind L = Ts := ⟨_, rfl⟩
  rw [hTs] at hpl hsm HT HA
  clear hTs
  refine wpIn_rangeFuncV (gf := 35) (lb := #[.pointer (some ⟨w2.heap.size + 1, 0, none⟩), .pointer (some ⟨w2.heap.size + 1 + 1, 0, none⟩)]) rfl (enters_of Try.func35 (by kernel_rfl) rfl) SQ (fun h k => h.trans k) (fun W l o o' h1 h2 h3 => kp_put (by omega) (by omega) h2) pce_put (Below.refl _ _)
    (Ird w w2.heap.size W4.heap.size (.cells #[.bool f, .int .i64 chomp, .int .i64 more] 25) Ts) (Ird.own _ (Nat.le_refl _) (by omega)) ⟨Nat.le_refl _, _, [], b1, World.ownsRow_nil _ _ 22 1, (fun g e => by cases e), rfl, (fun r h => by cases h), hB4, hh4⟩
    (fun v => { tmps := #[(.slice p L.length cap), (.agg #[.bool f, .int .i64 chomp, .int .i64 more]), (.int .i64 n), undef, (.pointer (some ⟨w.heap.size, 0, none⟩)), undef, (.string ⟨#[]⟩), (.int .i64 0), (.int .i64 0), (.int .u64 ind), (.int .i64 0), (.pointer (some ⟨w2.heap.size, 0, none⟩)), v, (.tuple #[.int .u64 ind, .int .i64 0]), (.slice p L.length cap), (.pointer (some ⟨w.heap.size, 2, none⟩)), (.int .i64 more), (.int .i64 n), (.int .i64 (max n (-1))), (.tuple #[.int .u64 ind, .int .i64 0]), (.int .u64 ind), (.int .i64 0), (.int .i64 0), (.bool false), undef, (.slice p L.length cap), (.int .u64 ind), (.func (.func 35) #[] #[.pointer (some ⟨w2.heap.size + 1, 0, none⟩), .pointer (some ⟨w2.heap.size + 1 + 1, 0, none⟩)]), v, undef, undef, undef, undef, undef, undef, undef, undef, undef, undef, undef], defers := [] }) ?assign ?body ?done
  case assign =>
    intro m l v W K hK
    gi_wp2
    exact hK
  case body =>
    clear SQ b1 hh4 hB4
    rintro m l i v W hi ⟨hn₁, v0, R, hv, ho, hg, hR, hr, hbl, hh⟩ ⟨x, q, c, hx, rfl, p1, p2, p3, p4⟩
    have hxt := HA.out i x hi hx
    have hRl : R.length ≤ 100 := by
      have h1 := congrArg List.length hR
      simp at h1
      omega
    generalize behP ind x.n x.t = u at p1 p2 p3 p4 hxt
    have hcl := hv.cell
    obtain ⟨g, cp, w1, hrun, h2, h3, h4⟩ := pushM_run ho hbl.size (by omega) ⟨q, u, c⟩
    obtain ⟨hv1, HF⟩ := Ird_step (C := W4.heap.size) (Bi := w2.heap.size + 1 + 1) (r := ⟨q, u, c⟩) hn₁ (by omega) (by omega) (by omega) (by omega) (by omega) hxt ⟨p1, p2, p3, p4⟩ hv ho hg hR hr hbl hh h2 h3 h4
    have hc1 := hv1.cell
    have hf1 := hv1.frozen
    obtain ⟨va, vk, vc, rfl⟩ := ownsRow_form ho
    clear hx h2 h3 h4 hxt
    unfold rowV at hrun
    dsimp only at hrun
    generalize R.length + 1 = kk at hrun HF
    gi_wp2_with (first | (gi_at_builtin; refine wpListIn_append_run rfl _ _ 41 rfl rfl rfl hrun ?_))
    exact HF.out
  case done =>
    clear SQ b1 hh4 hB4 HA
    rintro D W hD ⟨hn₁, v0, R, hv, ho, hg, hR, hr, hbl, hh⟩ hK
    obtain ⟨va, vk, vc, rfl⟩ := ownsRow_form ho
    obtain ⟨hMt, hvk⟩ := mt_of ho hr
    subst hvk
    rw [← hpl, List.take_length] at hR
    have hRl : R.length = tkN ind L := by rw [← hpl, ← hR, List.length_map]
    have hRs := rows_small hR hsm
    have hw : wholeT (fp f) R chomp = rT := by rw [HT.out]; exact whole_congr _ (by rw [rowsOf_t]; exact hR) chomp
    have hlen := whole_len (fp f) (R := R) (by omega) hRs chomp
    have TX := fun m => (callsIn_wide (n := m)).2 (text_any f chomp more va R vc W.drew ⟨by omega, fun i => Nat.le_trans (hRs i) (by decide)⟩ (hMt.on ((Below.refl _ W).drew)))
    rw [hw] at TX hlen
    obtain ⟨T, hT⟩ : ∃ T, rT = T := ⟨_, rfl⟩
    rw [hT] at TX hlen
    have HRl : Hid (R.length = tkN ind L) := hRl
    clear hR hr hMt hRs hsm HT hw hg hRl
    have hsW : w2.heap.size + 3 ≤ W.heap.size := by omega
    gi_wp2
    refine region_pickN (fun w' => w'.heap[w.heap.size]? = some (.cells #[.bool f, .int .i64 chomp, .int .i64 more] 25) ∧ Boxed w' w2.heap.size 41 (.slice va R.length vc)) (by kernel_rfl) ?_
    show Any _ _ _ _ _ _ 10 #[false, false, false, false, false, false, false, false, false, false] { tmps := #[(.slice p L.length cap), (.agg #[.bool f, .int .i64 chomp, .int .i64 more]), (.int .i64 n), undef, (.pointer (some ⟨w.heap.size, 0, none⟩)), undef, (.string ⟨#[]⟩), (.int .i64 0), (.int .i64 0), (.int .u64 ind), (.int .i64 0), (.pointer (some ⟨w2.heap.size, 0, none⟩)), undef, (.tuple #[.int .u64 ind, .int .i64 0]), (.slice p L.length cap), (.pointer (some ⟨w.heap.size, 2, none⟩)), (.int .i64 more), (.int .i64 n), (.int .i64 (max n (-1))), (.tuple #[.int .u64 ind, .int .i64 0]), (.int .u64 ind), (.int .i64 0), (.int .i64 0), (.bool false), undef, (.slice p L.length cap), (.int .u64 ind), (.func (.func 35) #[] #[.pointer (some ⟨w2.heap.size + 1, 0, none⟩), .pointer (some ⟨w2.heap.size + 1 + 1, 0, none⟩)]), undef, undef, undef, undef, undef, undef, undef, undef, undef, undef, undef, undef], defers := _ } W.drew
    refine Any.take (i := 0) (v := (.agg #[.bool f, .int .i64 chomp, .int .i64 more])) wideF rfl (by kernel_rfl) (by kernel_rfl) (by kernel_rfl) (fun _ _ _ h => h) (.inl ⟨rfl, fun w hw => by obtain ⟨q0, q1, q2⟩ := box3 hw.1; go_simp⟩) ⟨hh, hv⟩ ?_
    show Any _ _ _ _ _ _ 9 #[true, false, false, false, false, false, false, false, false, false] { tmps := #[(.slice p L.length cap), (.agg #[.bool f, .int .i64 chomp, .int .i64 more]), (.int .i64 n), undef, (.pointer (some ⟨w.heap.size, 0, none⟩)), undef, (.string ⟨#[]⟩), (.int .i64 0), (.int .i64 0), (.int .u64 ind), (.int .i64 0), (.pointer (some ⟨w2.heap.size, 0, none⟩)), undef, (.tuple #[.int .u64 ind, .int .i64 0]), (.slice p L.length cap), (.pointer (some ⟨w.heap.size, 2, none⟩)), (.int .i64 more), (.int .i64 n), (.int .i64 (max n (-1))), (.tuple #[.int .u64 ind, .int .i64 0]), (.int .u64 ind), (.int .i64 0), (.int .i64 0), (.bool false), undef, (.slice p L.length cap), (.int .u64 ind), (.func (.func 35) #[] #[.pointer (some ⟨w2.heap.size + 1, 0, none⟩), .pointer (some ⟨w2.heap.size + 1 + 1, 0, none⟩)]), undef, undef, undef, undef, undef, (.agg #[.bool f, .int .i64 chomp, .int .i64 more]), undef, undef, undef, undef, undef, undef], defers := _ } W.drew
    refine Any.take (i := 1) (v := (.slice va R.length vc)) wideF rfl (by kernel_rfl) (by kernel_rfl) (by kernel_rfl) (fun _ _ _ h => h) (.inl ⟨rfl, fun w hw => by have := hw.2.cell; go_simp⟩) ⟨hh, hv⟩ ?_
    show Any _ _ _ _ _ _ 8 #[true, true, false, false, false, false, false, false, false, false] { tmps := #[(.slice p L.length cap), (.agg #[.bool f, .int .i64 chomp, .int .i64 more]), (.int .i64 n), undef, (.pointer (some ⟨w.heap.size, 0, none⟩)), undef, (.string ⟨#[]⟩), (.int .i64 0), (.int .i64 0), (.int .u64 ind), (.int .i64 0), (.pointer (some ⟨w2.heap.size, 0, none⟩)), undef, (.tuple #[.int .u64 ind, .int .i64 0]), (.slice p L.length cap), (.pointer (some ⟨w.heap.size, 2, none⟩)), (.int .i64 more), (.int .i64 n), (.int .i64 (max n (-1))), (.tuple #[.int .u64 ind, .int .i64 0]), (.int .u64 ind), (.int .i64 0), (.int .i64 0), (.bool false), undef, (.slice p L.length cap), (.int .u64 ind), (.func (.func 35) #[] #[.pointer (some ⟨w2.heap.size + 1, 0, none⟩), .pointer (some ⟨w2.heap.size + 1 + 1, 0, none⟩)]), undef, undef, undef, undef, undef, (.agg #[.bool f, .int .i64 chomp, .int .i64 more]), (.slice va R.length vc), undef, undef, undef, undef, undef], defers := _ } W.drew
    refine Any.take (i := 5) (v := (.slice va R.length vc)) wideF rfl (by kernel_rfl) (by kernel_rfl) (by kernel_rfl) (fun _ _ _ h => h) (.inl ⟨rfl, fun w hw => by have := hw.2.cell; go_simp⟩) ⟨hh, hv⟩ ?_
    show Any _ _ _ _ _ _ 7 #[true, true, false, false, false, true, false, false, false, false] { tmps := #[(.slice p L.length cap), (.agg #[.bool f, .int .i64 chomp, .int .i64 more]), (.int .i64 n), undef, (.pointer (some ⟨w.heap.size, 0, none⟩)), undef, (.string ⟨#[]⟩), (.int .i64 0), (.int .i64 0), (.int .u64 ind), (.int .i64 0), (.pointer (some ⟨w2.heap.size, 0, none⟩)), undef, (.tuple #[.int .u64 ind, .int .i64 0]), (.slice p L.length cap), (.pointer (some ⟨w.heap.size, 2, none⟩)), (.int .i64 more), (.int .i64 n), (.int .i64 (max n (-1))), (.tuple #[.int .u64 ind, .int .i64 0]), (.int .u64 ind), (.int .i64 0), (.int .i64 0), (.bool false), undef, (.slice p L.length cap), (.int .u64 ind), (.func (.func 35) #[] #[.pointer (some ⟨w2.heap.size + 1, 0, none⟩), .pointer (some ⟨w2.heap.size + 1 + 1, 0, none⟩)]), undef, undef, undef, undef, undef, (.agg #[.bool f, .int .i64 chomp, .int .i64 more]), (.slice va R.length vc), undef, undef, undef, (.slice va R.length vc), undef], defers := _ } W.drew
    refine Any.take (i := 6) (v := (.int .i64 (R.length : Nat))) wideF rfl (by kernel_rfl) (by kernel_rfl) (by kernel_rfl) (fun _ _ _ h => h) (.inl ⟨rfl, fun w _ => by go_simp⟩) ⟨hh, hv⟩ ?_
    show Any _ _ _ _ _ _ 6 #[true, true, false, false, false, true, true, false, false, false] { tmps := #[(.slice p L.length cap), (.agg #[.bool f, .int .i64 chomp, .int .i64 more]), (.int .i64 n), undef, (.pointer (some ⟨w.heap.size, 0, none⟩)), undef, (.string ⟨#[]⟩), (.int .i64 0), (.int .i64 0), (.int .u64 ind), (.int .i64 0), (.pointer (some ⟨w2.heap.size, 0, none⟩)), undef, (.tuple #[.int .u64 ind, .int .i64 0]), (.slice p L.length cap), (.pointer (some ⟨w.heap.size, 2, none⟩)), (.int .i64 more), (.int .i64 n), (.int .i64 (max n (-1))), (.tuple #[.int .u64 ind, .int .i64 0]), (.int .u64 ind), (.int .i64 0), (.int .i64 0), (.bool false), undef, (.slice p L.length cap), (.int .u64 ind), (.func (.func 35) #[] #[.pointer (some ⟨w2.heap.size + 1, 0, none⟩), .pointer (some ⟨w2.heap.size + 1 + 1, 0, none⟩)]), undef, undef, undef, undef, undef, (.agg #[.bool f, .int .i64 chomp, .int .i64 more]), (.slice va R.length vc), undef, undef, undef, (.slice va R.length vc), (.int .i64 (R.length : Nat))], defers := _ } W.drew
    refine Any.one (i := 2) (by kernel_rfl) rfl rfl (fun K hK => ?_)
    go_simp
    refine ⟨trivial, ?_⟩
    refine (TX _).mono ?_
    rintro e W5 ⟨v5, rfl, ho5, hb5⟩
    obtain ⟨q5, k5, c5, rfl⟩ := ownsRow_form ho5
    obtain ⟨i5, rfl, -, -⟩ := is_of_row ho5
    have hh5 := (hb5.block w.heap.size (by show w.heap.size < W.heap.size; omega)).trans hh
    have hv5 : Boxed W5 w2.heap.size 41 (.slice va R.length vc) := (hb5.block w2.heap.size (by show w2.heap.size < W.heap.size; omega)).trans hv
    have BY := fun m => (callsIn_wide (n := m)).2 (bytes_any q5 T c5 W5 (by omega) i5 i5.lt)
    refine hK _ _ ⟨hh5, hv5⟩ ?_
    clear hK K
    show Any _ _ _ _ _ _ 5 #[true, true, true, false, false, true, true, false, false, false] { tmps := #[(.slice p L.length cap), (.agg #[.bool f, .int .i64 chomp, .int .i64 more]), (.int .i64 n), undef, (.pointer (some ⟨w.heap.size, 0, none⟩)), undef, (.string ⟨#[]⟩), (.int .i64 0), (.int .i64 0), (.int .u64 ind), (.int .i64 0), (.pointer (some ⟨w2.heap.size, 0, none⟩)), undef, (.tuple #[.int .u64 ind, .int .i64 0]), (.slice p L.length cap), (.pointer (some ⟨w.heap.size, 2, none⟩)), (.int .i64 more), (.int .i64 n), (.int .i64 (max n (-1))), (.tuple #[.int .u64 ind, .int .i64 0]), (.int .u64 ind), (.int .i64 0), (.int .i64 0), (.bool false), undef, (.slice p L.length cap), (.int .u64 ind), (.func (.func 35) #[] #[.pointer (some ⟨w2.heap.size + 1, 0, none⟩), .pointer (some ⟨w2.heap.size + 1 + 1, 0, none⟩)]), undef, undef, undef, undef, undef, (.agg #[.bool f, .int .i64 chomp, .int .i64 more]), (.slice va R.length vc), (.slice q5 T.length c5), undef, undef, (.slice va R.length vc), (.int .i64 (R.length : Nat))], defers := _ } W5
    refine Any.one (i := 3) (by kernel_rfl) rfl rfl (fun K hK => ?_)
    go_simp
    refine ⟨trivial, ?_⟩
    refine (BY _).mono ?_
    rintro e W6 ⟨v6, rfl, ho6, hb6⟩
    have CV := own_string ho6 (encZ_byte T)
    obtain ⟨q6, k6, c6, rfl⟩ := ownsRow_form ho6
    have hh6 := (hb6.block w.heap.size (by have := hb5.size; change W.heap.size ≤ _ at this; omega)).trans hh5
    have hv6 : Boxed W6 w2.heap.size 41 (.slice va R.length vc) := (hb6.block w2.heap.size (by have := hb5.size; change W.heap.size ≤ _ at this; omega)).trans hv5
    refine hK _ _ ⟨hh6, hv6⟩ ?_
    clear hK K
    show Any _ _ _ _ _ _ 4 #[true, true, true, true, false, true, true, false, false, false] { tmps := #[(.slice p L.length cap), (.agg #[.bool f, .int .i64 chomp, .int .i64 more]), (.int .i64 n), undef, (.pointer (some ⟨w.heap.size, 0, none⟩)), undef, (.string ⟨#[]⟩), (.int .i64 0), (.int .i64 0), (.int .u64 ind), (.int .i64 0), (.pointer (some ⟨w2.heap.size, 0, none⟩)), undef, (.tuple #[.int .u64 ind, .int .i64 0]), (.slice p L.length cap), (.pointer (some ⟨w.heap.size, 2, none⟩)), (.int .i64 more), (.int .i64 n), (.int .i64 (max n (-1))), (.tuple #[.int .u64 ind, .int .i64 0]), (.int .u64 ind), (.int .i64 0), (.int .i64 0), (.bool false), undef, (.slice p L.length cap), (.int .u64 ind), (.func (.func 35) #[] #[.pointer (some ⟨w2.heap.size + 1, 0, none⟩), .pointer (some ⟨w2.heap.size + 1 + 1, 0, none⟩)]), undef, undef, undef, undef, undef, (.agg #[.bool f, .int .i64 chomp, .int .i64 more]), (.slice va R.length vc), (.slice q5 T.length c5), (.slice q6 k6 c6), undef, (.slice va R.length vc), (.int .i64 (R.length : Nat))], defers := _ } W6
    refine Any.one (i := 4) (by kernel_rfl) rfl rfl (fun K hK => ?_)
    go_simp
    refine hK _ _ ⟨hh6, hv6⟩ ?_
    clear hK K
    show Any _ _ _ _ _ _ 3 #[true, true, true, true, true, true, true, false, false, false] { tmps := #[(.slice p L.length cap), (.agg #[.bool f, .int .i64 chomp, .int .i64 more]), (.int .i64 n), undef, (.pointer (some ⟨w.heap.size, 0, none⟩)), undef, (.string ⟨#[]⟩), (.int .i64 0), (.int .i64 0), (.int .u64 ind), (.int .i64 0), (.pointer (some ⟨w2.heap.size, 0, none⟩)), undef, (.tuple #[.int .u64 ind, .int .i64 0]), (.slice p L.length cap), (.pointer (some ⟨w.heap.size, 2, none⟩)), (.int .i64 more), (.int .i64 n), (.int .i64 (max n (-1))), (.tuple #[.int .u64 ind, .int .i64 0]), (.int .u64 ind), (.int .i64 0), (.int .i64 0), (.bool false), undef, (.slice p L.length cap), (.int .u64 ind), (.func (.func 35) #[] #[.pointer (some ⟨w2.heap.size + 1, 0, none⟩), .pointer (some ⟨w2.heap.size + 1 + 1, 0, none⟩)]), undef, undef, undef, undef, undef, (.agg #[.bool f, .int .i64 chomp, .int .i64 more]), (.slice va R.length vc), (.slice q5 T.length c5), (.slice q6 k6 c6), (.string (strB (encZ T))), (.slice va R.length vc), (.int .i64 (R.length : Nat))], defers := _ } W6
    refine Any.take (i := 7) (v := (.string (strB (encZ T)))) wideF rfl (by kernel_rfl) (by kernel_rfl) (by kernel_rfl) (fun _ _ _ h => h) (.inl ⟨rfl, fun w _ => by go_simp⟩) ⟨hh6, hv6⟩ ?_
    show Any _ _ _ _ _ _ 2 #[true, true, true, true, true, true, true, true, false, false] { tmps := #[(.slice p L.length cap), (.agg #[.bool f, .int .i64 chomp, .int .i64 more]), (.int .i64 n), undef, (.pointer (some ⟨w.heap.size, 0, none⟩)), undef, (.string (strB (encZ T))), (.int .i64 0), (.int .i64 0), (.int .u64 ind), (.int .i64 0), (.pointer (some ⟨w2.heap.size, 0, none⟩)), undef, (.tuple #[.int .u64 ind, .int .i64 0]), (.slice p L.length cap), (.pointer (some ⟨w.heap.size, 2, none⟩)), (.int .i64 more), (.int .i64 n), (.int .i64 (max n (-1))), (.tuple #[.int .u64 ind, .int .i64 0]), (.int .u64 ind), (.int .i64 0), (.int .i64 0), (.bool false), undef, (.slice p L.length cap), (.int .u64 ind), (.func (.func 35) #[] #[.pointer (some ⟨w2.heap.size + 1, 0, none⟩), .pointer (some ⟨w2.heap.size + 1 + 1, 0, none⟩)]), undef, undef, undef, undef, undef, (.agg #[.bool f, .int .i64 chomp, .int .i64 more]), (.slice va R.length vc), (.slice q5 T.length c5), (.slice q6 k6 c6), (.string (strB (encZ T))), (.slice va R.length vc), (.int .i64 (R.length : Nat))], defers := _ } W6
    refine Any.take (i := 8) (v := (.int .i64 (R.length : Nat))) wideF rfl (by kernel_rfl) (by kernel_rfl) (by kernel_rfl) (fun _ _ _ h => h) (.inl ⟨rfl, fun w _ => by go_simp⟩) ⟨hh6, hv6⟩ ?_
    show Any _ _ _ _ _ _ 1 #[true, true, true, true, true, true, true, true, true, false] { tmps := #[(.slice p L.length cap), (.agg #[.bool f, .int .i64 chomp, .int .i64 more]), (.int .i64 n), undef, (.pointer (some ⟨w.heap.size, 0, none⟩)), undef, (.string (strB (encZ T))), (.int .i64 (R.length : Nat)), (.int .i64 0), (.int .u64 ind), (.int .i64 0), (.pointer (some ⟨w2.heap.size, 0, none⟩)), undef, (.tuple #[.int .u64 ind, .int .i64 0]), (.slice p L.length cap), (.pointer (some ⟨w.heap.size, 2, none⟩)), (.int .i64 more), (.int .i64 n), (.int .i64 (max n (-1))), (.tuple #[.int .u64 ind, .int .i64 0]), (.int .u64 ind), (.int .i64 0), (.int .i64 0), (.bool false), undef, (.slice p L.length cap), (.int .u64 ind), (.func (.func 35) #[] #[.pointer (some ⟨w2.heap.size + 1, 0, none⟩), .pointer (some ⟨w2.heap.size + 1 + 1, 0, none⟩)]), undef, undef, undef, undef, undef, (.agg #[.bool f, .int .i64 chomp, .int .i64 more]), (.slice va R.length vc), (.slice q5 T.length c5), (.slice q6 k6 c6), (.string (strB (encZ T))), (.slice va R.length vc), (.int .i64 (R.length : Nat))], defers := _ } W6
    refine Any.take (i := 9) (v := (.int .i64 0)) wideF rfl (by kernel_rfl) (by kernel_rfl) (by kernel_rfl) (fun _ _ _ h => h) (.inl ⟨rfl, fun w _ => by go_simp⟩) ⟨hh6, hv6⟩ ?_
    show Any _ _ _ _ _ _ 0 #[true, true, true, true, true, true, true, true, true, true] { tmps := #[(.slice p L.length cap), (.agg #[.bool f, .int .i64 chomp, .int .i64 more]), (.int .i64 n), undef, (.pointer (some ⟨w.heap.size, 0, none⟩)), undef, (.string (strB (encZ T))), (.int .i64 (R.length : Nat)), (.int .i64 0), (.int .u64 ind), (.int .i64 0), (.pointer (some ⟨w2.heap.size, 0, none⟩)), undef, (.tuple #[.int .u64 ind, .int .i64 0]), (.slice p L.length cap), (.pointer (some ⟨w.heap.size, 2, none⟩)), (.int .i64 more), (.int .i64 n), (.int .i64 (max n (-1))), (.tuple #[.int .u64 ind, .int .i64 0]), (.int .u64 ind), (.int .i64 0), (.int .i64 0), (.bool false), undef, (.slice p L.length cap), (.int .u64 ind), (.func (.func 35) #[] #[.pointer (some ⟨w2.heap.size + 1, 0, none⟩), .pointer (some ⟨w2.heap.size + 1 + 1, 0, none⟩)]), undef, undef, undef, undef, undef, (.agg #[.bool f, .int .i64 chomp, .int .i64 more]), (.slice va R.length vc), (.slice q5 T.length c5), (.slice q6 k6 c6), (.string (strB (encZ T))), (.slice va R.length vc), (.int .i64 (R.length : Nat))], defers := _ } W6
    refine Any.done (by kernel_rfl) ?_
    simp only [nrm]
    gi_wp2
    have hK6 : W6.heap[D]? = some (.deferred (some [])) := (hb6.block D (by have h8 := hb5.size; have h9 := (Array.getElem?_eq_some_iff.1 hK).1; change W.heap.size ≤ _ at h8; omega)).trans ((hb5.block D (by have := (Array.getElem?_eq_some_iff.1 hK).1; exact this)).trans hK)
    refine ⟨by simp, .inl ⟨_, _, rfl, run_takeDeferred hK6, ?_⟩⟩
    refine ⟨_, results_tmp3 rfl _ _ _, ?_, ?_⟩
    · rw [hrT, hT, ← HRl.out]; rfl
    · exact hbl.trans (((Below.refl _ W).drew.trans (hb5.mono (by show w.heap.size ≤ W.heap.size; omega))).trans ((hb6.mono (by have := hb5.size; change W.heap.size ≤ _ at this; omega)).trans (belowK_b (w := w) (Nat.le_refl _) W6 D _ _ (by omega) hK6 rfl rfl)))
end Go.Proofs.Ytgmcomfeggidnaa
