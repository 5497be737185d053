/- ComposeAnchors: whatever the numbers, the law answers true and leaves them as they were. No condition. -/
import Derived.Test.YteeanpfhngoobaaGreatZXuq
import Derived.Test.YteeanpfhngoobaaGreatZOpn
import Derived.Test.YteeanpfhngoobaaGreatRows
import Derived.ChangeSlices
set_option linter.all false
set_option maxRecDepth 100000
namespace Go.Proofs.YteeanpfhngoobaaGreat
open Go.ChangeShapes Go.WideShapes Go.ChangeAt Go.RowKit

theorem is_cells26 {W : World} {x : Addr} {zs : List Int} {l : Nat} (hl : l ≤ zs.length) (hcell : ∀ i, i < l → W.cell? (x.add i) = some (.int .i64 (zs.getD i 0))) : Is W (some x) (zs.take l) := by
  by_cases h0 : l = 0
  · exact .inl (by simp [h0])
  · obtain ⟨b, off, spot⟩ := x
    have hc := hcell 0 (by omega)
    have hspot : spot = none := by simpa [Addr.add] using World.cell?_spot hc
    subst hspot
    refine .inr ⟨b, off, rfl, fun j hj => ?_⟩
    simp at hj
    have hj' : j < zs.length := by omega
    have hcj := hcell j (by omega)
    have e : (⟨b, off, none⟩ : Addr).add j = ⟨b, off + j, none⟩ := by simp [Addr.add]
    rw [e] at hcj
    rw [hcj]
    simp [iAt, List.getD, List.getElem?_take, hj, hj']
theorem ints_open26 {H : Type} {enc : TypeId × Value → H} {W : World} {a : Option Addr} {len cap : Nat} {d : DataW H} {p : List MemPlace}
    (h : DataW.Trod enc Tryz.prog W 0 (fun _ => true) true 26 (.slice a len cap) d p) : ∃ L : List Int, L.length = len ∧ len ≤ cap ∧ Is W a L := by
  obtain ⟨fuel, hf⟩ := h
  rcases open_ints Tryz.underlying26 Tryz.underlying3 (by kernel_rfl) hf with ⟨hcs, _⟩ | ⟨x, l, c, zs, hcs, _, hl, hm, hz, hd, hcell, hwz⟩
  · simp [Value.cells] at hcs
    obtain ⟨rfl, rfl, rfl⟩ := hcs
    exact ⟨[], rfl, Nat.le_refl _, .inl rfl⟩
  · simp [Value.cells] at hcs
    obtain ⟨rfl, rfl, rfl⟩ := hcs
    simp only [if_true] at hz
    exact ⟨zs.take len, by simp; omega, hl, is_cells26 (by omega) (fun i hi => hcell i (by omega))⟩
end Go.Proofs.YteeanpfhngoobaaGreat
namespace Go.Proofs.YteeanpfhngoobaaGreat.Xk
open Go.RowKit
/-- A row of numbers that came in lies in the run's memory. -/
theorem lay_ints {w : World} {b o c : Nat} {l : List Int} (hcl : l.length ≤ c) (hb : b < w.heap.size) (hat : ∀ (i : Nat) (v : Value), (ints l)[i]? = some v → w.cell? ⟨b, o + i, none⟩ = some v) :
    ∃ (m : Nat → MB) (h : HP), WR w.heap.size w m h w ∧ IsR h h.nb (.slice (some ⟨0, 0, none⟩) l.length c) l ∧ okT m h.nb (.slice (some ⟨0, 0, none⟩) l.length c) ∧ cT m (.slice (some ⟨0, 0, none⟩) l.length c) = .slice (some ⟨b, o, none⟩) l.length c := by
  have hfl : (ints l).length = l.length := by simp [ints]
  have hin : ∀ v ∈ ints l, ∃ n, v = .int .i64 n := fun v hv => by
    obtain ⟨n, -, rfl⟩ := List.mem_map.1 hv
    exact ⟨n, rfl⟩
  obtain ⟨he, hw⟩ := (WR.none w).layRo (cells := ints l) (x := ⟨b, o, o + c * 1, 1⟩) (fun v hv => by
    obtain ⟨n, rfl⟩ := hin v hv
    exact ⟨trivial, rfl⟩) hb (by show o + (ints l).length ≤ o + c * 1; omega) (fun i v hv => by
    obtain ⟨n, rfl⟩ := hin v (List.mem_of_getElem? hv)
    exact hat i _ hv)
  have hm : upd (fun _ => (⟨0, 0, 0, 0⟩ : MB)) (⟨0, []⟩ : HP).nb ⟨b, o, o + c * 1, 1⟩ 0 = ⟨b, o, o + c * 1, 1⟩ := upd_same _ _
  refine ⟨_, _, hw, .inr ⟨0, 0, c, rfl, ?_, ?_⟩, ?_, ?_⟩
  · show 0 < 0 + 1
    omega
  · unfold HP.read
    rw [show ((⟨0, []⟩ : HP).push ⟨ints l, 0, true⟩).get 0 = some ⟨ints l, 0, true⟩ from get_push_new _]
    dsimp only
    rw [if_pos ⟨rfl, by omega⟩, List.drop_zero, List.take_of_length_le (by omega)]
  · refine ⟨?_, ?_, hcl, ?_⟩
    · show 0 < 0 + 1
      omega
    · rw [hm]
      exact (by decide : 0 < 1)
    · rw [hm]
      show o + 0 + c * 1 ≤ o + c * 1
      omega
  · show Value.slice (some (ca _ 0 0)) l.length (room _ 0) = _
    unfold ca room
    rw [hm]
    show Value.slice (some ⟨b, o + 0, none⟩) l.length ((o + c * 1 - (o + 0)) / 1) = _
    rw [Nat.add_zero, Nat.add_sub_cancel_left, Nat.mul_div_cancel _ (by decide)]
theorem anchors_law (w : World) (q : Option Addr) (l : List Int) (c : Nat) (hcl : l.length ≤ c) (hE : Is w q l) (hq : (q = none ∧ l.length = 0 ∧ c = 0) ∨ ∃ b o, q = some ⟨b, o, none⟩ ∧ b < w.heap.size) :
    Calls Tryz.prog 6 #[.slice q l.length c] w fun e w' => e = .returned (.bool true) ∧ Below w.heap.size w w' := by
  rcases hq with ⟨rfl, h0, rfl⟩ | ⟨b, o, rfl, hb⟩
  · obtain rfl : l = [] := List.eq_nil_of_length_eq_zero h0
    have A := (anchors_r (h := ⟨0, []⟩) (v := .slice none 0 0) (l := []) (.inl ⟨rfl, rfl⟩)).2 w.heap.size w _ w (WR.none w) (fun u hu => by
      rw [List.mem_singleton.1 hu]
      exact ⟨rfl, rfl⟩)
    refine A.mono fun e w' ⟨m', u, h', e1, e2, e3, e4, e5, e6, e7⟩ => ?_
    subst e6
    exact ⟨e3, e5.bel⟩
  · obtain ⟨m, h, hw, he, hok, hct⟩ := lay_ints (o := o) hcl hb (fun i v hv => by
      have hlt : i < l.length := by have := (List.getElem?_eq_some_iff.1 hv).1; simpa [ints] using this
      rcases hE with rfl | ⟨b', o', e, h⟩
      · simp at hlt
      · cases e
        rw [h i hlt]
        unfold ints at hv
        rw [List.getElem?_map, List.getElem?_eq_getElem hlt] at hv
        cases hv
        simp [iAt, List.getD, hlt])
    have A := (anchors_r he).2 w.heap.size w m w hw (fun u hu => by
      rw [List.mem_singleton.1 hu]
      exact hok)
    rw [show (([.slice (some ⟨0, 0, none⟩) l.length c] : List Value).map (cT m)).toArray = #[.slice (some ⟨b, o, none⟩) l.length c] by simp only [List.map_cons, List.map_nil, hct]] at A
    refine A.mono fun e w' ⟨m', u, h', e1, e2, e3, e4, e5, e6, e7⟩ => ?_
    subst e6
    exact ⟨e3, e5.bel⟩
end Go.Proofs.YteeanpfhngoobaaGreat.Xk
namespace Go.Proofs.YteeanpfhngoobaaGreat.composeAnchors
open Go.ChangeShapes Go.WideShapes Go.ChangeAt Go.RowKit Go.Shelf

theorem lifted (os : Os) (started : os.Started) (H : Type) (enc : TypeId × Value → H) :
    ReturnsInHanded {} Tryz.checked os 6 .any (Rows.composeAnchorsSpec.pre6 enc Tryz.prog Tryz.f6 Rows.composeAnchorsRow.domain false) (Rows.composeAnchorsSpec.post enc Tryz.prog Tryz.f6 false true false false) := by
  refine returnsInHanded_of_change (C := Tryz.checked) own started (by kernel_rfl) Tryz.func6
    (ChangeSpec.witness6 (enc := enc) (C := Tryz.checked) false ⟨#[], #[.slice none 0 0], []⟩ 8 (by kernel_rfl) (by kernel_rfl) (by kernel_rfl) (by kernel_rfl)) ?_
  intro W base args ds gs before hval0 hW hcnd _
  have hval : ∀ (j : Nat) t v, Tryz.f6.params[j]? = some t → args[j]? = some v → Value.okWide Tryz.prog W .any base t v := hval0
  have hW' := hW
  obtain ⟨p, q, hA0, hV, rfl, hfz, hnd⟩ := hW
  have hA : DataW.TrodAll enc Tryz.prog W 0 (fun _ => true) true Tryz.f6.params.toList args.toList ds p := hA0
  rw [Tryz.params6] at hA hval
  obtain ⟨v0, vs0, d0, ds0, p0, q0, hargs0, rfl, rfl, h0, r0⟩ := trodAll_cons hA
  obtain ⟨rfl, rfl, rfl⟩ := trodAll_nil r0
  obtain rfl : args = #[v0] := by cases args; simp_all
  obtain ⟨rfl, rfl⟩ := trodVars_none hV
  obtain ⟨a0, len0, cap0, rfl⟩ := okWide_slice Tryz.underlying26 (hval 0 26 v0 rfl rfl)
  have hsp := Xk.slice_plain Tryz.underlying26 (hval 0 26 _ rfl rfl)
  have k0 := h0
  have lt0 : ∀ x ∈ p0, x.block < W.heap.size := by obtain ⟨m, hm⟩ := k0; exact DataW.trod_lt m _ _ _ hm
  obtain ⟨L0, rfl, hc0, hE0⟩ := ints_open26 h0
  clear hA0 hval0
  refine (Xk.anchors_law W a0 L0 cap0 hc0 hE0 hsp).mono fun e W' ⟨he, bel⟩ => ?_
  subst he
  exact ⟨_, rfl, _, _, _, [], _, [], hW', trodAll_mk1 (shut_bool Tryz.underlying4 _), (trodAll_cons_mk (Below.trod laidOut (by kernel_rfl) (of_decide_eq_true (by kernel_rfl)) k0 bel lt0) trodAll_mk0), rfl, bel.frame _, fun h => by cases h⟩

theorem over : Rows.composeAnchorsRow.holds Tryz.pinned (OpenSpec.ofChange Rows.composeAnchorsSpec) :=
  OpenClaim.holds_of_wide 6 Tryz.f6 rfl rfl rfl rfl rfl rfl rfl ⟨rfl, rfl, rfl, rfl, rfl⟩ rfl rfl rfl rfl rfl (by kernel_rfl) Tryz.func6 (by kernel_rfl)
    (of_decide_eq_true (by kernel_rfl)) (by unfold Func.isWrapper; first | (rw [if_pos (by decide +kernel)]; kernel_rfl) | (rw [if_neg (by decide +kernel)]; exact ⟨rfl, rfl⟩))
    (fun os started H enc _ => lifted os started H enc)
end Go.Proofs.YteeanpfhngoobaaGreat.composeAnchors
namespace Go.Proofs.YteeanpfhngoobaaGreat
theorem composeAnchors_holds : Rows.ComposeAnchorsSaid := composeAnchors.over
end Go.Proofs.YteeanpfhngoobaaGreat
