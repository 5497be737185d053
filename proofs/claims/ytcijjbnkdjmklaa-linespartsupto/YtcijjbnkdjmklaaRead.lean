/- lines.Read: which lines any code points are, or that they are none. -/
import Derived.Test.YtcijjbnkdjmklaaGrow
set_option linter.unusedVariables false
set_option linter.unusedSimpArgs false
namespace Go.Proofs.Ytcijjbnkdjmklaa
open Go.RowKit Go.Shelf
attribute [local go_sem] Oper.semAt_some

set_option maxRecDepth 100000 in
set_option maxHeartbeats 2000000 in
theorem Read_in (n : Nat) (hn : 3 ≤ n) (p : Option Addr) (b o cap : Nat) (t : List Int) (w : World) (hp : 0 < t.length → p = some ⟨b, o, none⟩) (hl : t.length ≤ cap) (hc : cap ≤ maxLen) (hm : t.length ≤ 1099511627776) (hI : Is w p t) :
    CallsIn Fence.wide n Try.prog 8 #[.slice p t.length cap] w fun e w' => ∃ v ec, e = .returned (.tuple #[v, .int .i64 ec]) ∧ Below w.heap.size w w' ∧
      ((t.any badP = false ∧ ec = 0 ∧ Rws w' w.heap.size v (linesP t)) ∨ (t.any badP = true ∧ ec = 4 ∧ v = .slice none 0 0)) := by
  have h1 : 1 ≤ n := by omega
  obtain ⟨i0, hi, hz0, hz1, hz2⟩ := info_parts Try.info34
  refine callsIn_of_wp_marks Try.func8 rfl trivial ?_ rfl
  simp only [Try.ntmps8, List.size_toArray, List.length_cons, List.length_nil, Nat.reduceAdd, Nat.reduceSub, Array.replicate_succ, Array.replicate_zero, List.push_toArray, List.append_toArray, List.nil_append, List.cons_append]
  gi_wp2_with (first | (refine ⟨trivial, ?_⟩; gi_at_call 18; refine (pieces_in _ _ _ _ _).mono ?_; rintro e w' ⟨rfl, rfl⟩))
  change Code.wpIn _ _ _ _ _ _ (w4 w p t.length cap)
  have hsz := w4_size w p t.length cap
  have hbx := w4_boxes w p t.length cap
  have hbw := w4_below w p t.length cap
  generalize w4 w p t.length cap = W0 at hsz hbx hbw ⊢
  obtain ⟨bR, bE, bL, bB⟩ := hbx
  have hbb : 0 < t.length → b < w.heap.size := fun h => by have := hI.lt ⟨b, o, none⟩ (hp h) h; exact this
  refine wpIn_rangeFunc_ownG rfl h1 (gf := 29) (lb := #[.pointer (some ⟨w.heap.size + 1 + 1 + 1, 0, none⟩)]) rfl trivial (enters_of Try.func29 (by kernel_rfl) rfl)
    (pieces_stops (n - 1) (by omega) (w.heap.size + 1 + 1 + 1) w.heap.size b o cap p t hp hl hc W0 (by omega) (by omega) bB.cell (hI.on hbw) hbb)
    (fun h k => Below.trans h k) (belowK_b (by omega)) (Below.refl _ _) (fun _ => rfl)
    (Inv w t) (Out w t) (Inv_own w t _ (by omega)) (fun c => Out_own w t c _ (by omega))
    ⟨⟨_, bL, Rws_nil _ _⟩, (fun x hx => by cases hx), bR, bE, hbw, by omega⟩
    (fun x => { tmps := #[.slice p t.length cap, undef, .pointer (some ⟨w.heap.size, 0, none⟩), .pointer (some ⟨w.heap.size + 1, 0, none⟩), .pointer (some ⟨w.heap.size + 1 + 1, 0, none⟩), .slice (some ⟨b, o + x.1.1, none⟩) x.1.2 (cap - x.1.1), .slice p t.length cap, .func (.func 29) #[] #[.pointer (some ⟨w.heap.size + 1 + 1 + 1, 0, none⟩)], .slice (some ⟨b, o + x.1.1, none⟩) x.1.2 (cap - x.1.1), undef, undef, undef, undef, undef, undef, undef, undef], defers := [] }) ?assign ?body ?done ?stop
  case assign =>
    intro l x W K hK
    simp only [encP]
    gi_wp2
    exact hK
  case body =>
    clear bR bE bL bB
    rintro l pre x W ⟨⟨v, hv, hrow⟩, hall, bR, bE, hB, hsW⟩ hlt
    have hpos : 0 < t.length := by omega
    obtain rfl := hp hpos
    have hIW : Is W (some ⟨b, o, none⟩) t := hI.on hB
    have C := fun n => contains_in n l x (W := W) cap hm hIW
    cases hbad : (pieceOf t x.1).any badP with
    | true =>
      have cR := bR.cell
      have fR := bR.frozen
      have cE := bE.cell
      have fE := bE.frozen
      rw [hbad] at C
      gi_wp2_with (first | (refine ⟨trivial, (fun h => by cases h), ?_⟩; gi_at_call 19; refine (C _).mono ?_; rintro e W ⟨rfl, rfl⟩))
      have k1 : KeepsOthers W ((W.setCell ⟨w.heap.size, 0, none⟩ (.slice none 0 0)).setCell ⟨w.heap.size + 1, 0, none⟩ (.int .i64 4)) := (KeepsOthers.setCell _ _ _).trans (KeepsOthers.setCell _ _ _)
      refine ⟨k1.from _, ⟨rfl, x, by simp, hbad⟩, (bR.set _).other (by omega) _, (bE.other (by omega) _).set _, ?_⟩
      exact (hB.setCell (p := ⟨w.heap.size, 0, none⟩) (Nat.le_refl _) _).setCell (p := ⟨w.heap.size + 1, 0, none⟩) (by show w.heap.size ≤ w.heap.size + 1; omega) _
    | false =>
      have hcl := hv.cell
      rw [hbad] at C
      gi_wp2_with (first | (refine ⟨trivial, (fun h => by cases h), ?_⟩; gi_at_call 19; refine (C _).mono ?_; rintro e W ⟨rfl, rfl⟩))
      have hsz' : w.heap.size + 4 ≤ W.drew.heap.size := hsW
      have hcnt : (pre.map fun x => lineP (pieceOf t x.1)).length < 1099511627776 := by rw [List.length_map]; omega
      refine wpIn_region_any (by kernel_rfl) ?_
      change wpAnyIn _ _ _ _ _ _ _ _ _ (World.drew _)
      refine wpAnyIn_ready (rs := [0, 1]) (by kernel_rfl) (by simp) ?_
      refine AllReadyIn.cons rfl (fun K hK => ?_) (AllReadyIn.cons rfl (fun K hK => ?_) AllReadyIn.nil)
      · go_simp
        refine hK _ _ ?_
        clear hK K
        refine wpAnyIn_ready (rs := [1]) (by kernel_rfl) (by simp) ?_
        refine AllReadyIn.cons rfl (fun K hK => ?_) AllReadyIn.nil
        go_simp
        refine hK _ _ ?_
        clear hK K
        refine wpAnyIn_ready (rs := [2]) (by kernel_rfl) (by simp) ?_
        refine AllReadyIn.cons rfl (fun K hK => ?_) AllReadyIn.nil
        go_simp
        refine ⟨trivial, (fun h => by cases h), ?_⟩
        refine (lineOf_in _ l x cap hl hm hIW.drew).mono ?_
        rintro e W1 ⟨u, rfl, hcp⟩
        refine hK _ _ ?_
        clear hK K
        obtain ⟨v', w1, hrun, hR1, hold, hbel, ⟨g, kk, c, rfl⟩, hv34⟩ := append_line (rws_drew hrow) hsz' hcp hcnt
        obtain ⟨hv1, HF⟩ := read_step W0.heap.size hv hall bR bE hB hsW hbad hR1 hold hbel hv34
        obtain ⟨ua, uk, uc, rfl⟩ := ownsRow_form hcp.1
        have hc1 := hv1.cell
        have hf1 := hv1.frozen
        have hcl1 : W1.cell? ⟨w.heap.size + 1 + 1, 0, none⟩ = some v := (hcp.2.cell (p := ⟨w.heap.size + 1 + 1, 0, none⟩) hv.lt).trans hcl
        have hcl2 : ∀ o, (W1.alloc o).cell? ⟨w.heap.size + 1 + 1, 0, none⟩ = some v := fun o => (((Below.refl _ W1).alloc (Nat.le_refl _) o).cell (p := ⟨w.heap.size + 1 + 1, 0, none⟩) (Nat.lt_of_lt_of_le hv.lt hcp.2.size)).trans hcl1
        clear hR1 hold hbel hv34 hcp
        refine wpAnyIn_ready (rs := [3]) (by kernel_rfl) (by simp) ?_
        refine AllReadyIn.cons rfl (fun K hK => ?_) AllReadyIn.nil
        go_simp
        refine hK _ _ ?_
        clear hK K
        refine wpAnyIn_ready (rs := [4]) (by kernel_rfl) (by simp) ?_
        refine AllReadyIn.cons rfl (fun K hK => ?_) AllReadyIn.nil
        refine stepIn_append_run rfl _ _ 24 rfl rfl rfl hrun ?_
        refine hK _ _ ?_
        clear hK K hrun
        refine wpAnyIn_ready (rs := [5]) (by kernel_rfl) (by simp) ?_
        refine AllReadyIn.cons rfl (fun K hK => ?_) AllReadyIn.nil
        go_simp
        refine hK _ _ ?_
        clear hK K
        refine wpAnyIn_done (by kernel_rfl) ?_ _
        exact HF.out
      · go_simp
        refine hK _ _ ?_
        clear hK K
        refine wpAnyIn_ready (rs := [0, 2]) (by kernel_rfl) (by simp) ?_
        refine AllReadyIn.cons rfl (fun K hK => ?_) (AllReadyIn.cons rfl (fun K hK => ?_) AllReadyIn.nil)
        · go_simp
          refine hK _ _ ?_
          clear hK K
          refine wpAnyIn_ready (rs := [2]) (by kernel_rfl) (by simp) ?_
          refine AllReadyIn.cons rfl (fun K hK => ?_) AllReadyIn.nil
          go_simp
          refine ⟨trivial, (fun h => by cases h), ?_⟩
          refine (lineOf_in _ l x cap hl hm hIW.drew).mono ?_
          rintro e W1 ⟨u, rfl, hcp⟩
          refine hK _ _ ?_
          clear hK K
          obtain ⟨v', w1, hrun, hR1, hold, hbel, ⟨g, kk, c, rfl⟩, hv34⟩ := append_line (rws_drew hrow) hsz' hcp hcnt
          obtain ⟨hv1, HF⟩ := read_step W0.heap.size hv hall bR bE hB hsW hbad hR1 hold hbel hv34
          obtain ⟨ua, uk, uc, rfl⟩ := ownsRow_form hcp.1
          have hc1 := hv1.cell
          have hf1 := hv1.frozen
          have hcl1 : W1.cell? ⟨w.heap.size + 1 + 1, 0, none⟩ = some v := (hcp.2.cell (p := ⟨w.heap.size + 1 + 1, 0, none⟩) hv.lt).trans hcl
          have hcl2 : ∀ o, (W1.alloc o).cell? ⟨w.heap.size + 1 + 1, 0, none⟩ = some v := fun o => (((Below.refl _ W1).alloc (Nat.le_refl _) o).cell (p := ⟨w.heap.size + 1 + 1, 0, none⟩) (Nat.lt_of_lt_of_le hv.lt hcp.2.size)).trans hcl1
          clear hR1 hold hbel hv34 hcp
          refine wpAnyIn_ready (rs := [3]) (by kernel_rfl) (by simp) ?_
          refine AllReadyIn.cons rfl (fun K hK => ?_) AllReadyIn.nil
          go_simp
          refine hK _ _ ?_
          clear hK K
          refine wpAnyIn_ready (rs := [4]) (by kernel_rfl) (by simp) ?_
          refine AllReadyIn.cons rfl (fun K hK => ?_) AllReadyIn.nil
          refine stepIn_append_run rfl _ _ 24 rfl rfl rfl hrun ?_
          refine hK _ _ ?_
          clear hK K hrun
          refine wpAnyIn_ready (rs := [5]) (by kernel_rfl) (by simp) ?_
          refine AllReadyIn.cons rfl (fun K hK => ?_) AllReadyIn.nil
          go_simp
          refine hK _ _ ?_
          clear hK K
          refine wpAnyIn_done (by kernel_rfl) ?_ _
          exact HF.out
        · go_simp
          refine ⟨trivial, (fun h => by cases h), ?_⟩
          refine (lineOf_in _ l x cap hl hm hIW.drew).mono ?_
          rintro e W1 ⟨u, rfl, hcp⟩
          refine hK _ _ ?_
          clear hK K
          obtain ⟨v', w1, hrun, hR1, hold, hbel, ⟨g, kk, c, rfl⟩, hv34⟩ := append_line (rws_drew hrow) hsz' hcp hcnt
          obtain ⟨hv1, HF⟩ := read_step W0.heap.size hv hall bR bE hB hsW hbad hR1 hold hbel hv34
          obtain ⟨ua, uk, uc, rfl⟩ := ownsRow_form hcp.1
          have hc1 := hv1.cell
          have hf1 := hv1.frozen
          have hcl1 : W1.cell? ⟨w.heap.size + 1 + 1, 0, none⟩ = some v := (hcp.2.cell (p := ⟨w.heap.size + 1 + 1, 0, none⟩) hv.lt).trans hcl
          have hcl2 : ∀ o, (W1.alloc o).cell? ⟨w.heap.size + 1 + 1, 0, none⟩ = some v := fun o => (((Below.refl _ W1).alloc (Nat.le_refl _) o).cell (p := ⟨w.heap.size + 1 + 1, 0, none⟩) (Nat.lt_of_lt_of_le hv.lt hcp.2.size)).trans hcl1
          clear hR1 hold hbel hv34 hcp
          refine wpAnyIn_ready (rs := [0, 3]) (by kernel_rfl) (by simp) ?_
          refine AllReadyIn.cons rfl (fun K hK => ?_) (AllReadyIn.cons rfl (fun K hK => ?_) AllReadyIn.nil)
          · go_simp
            refine hK _ _ ?_
            clear hK K
            refine wpAnyIn_ready (rs := [3]) (by kernel_rfl) (by simp) ?_
            refine AllReadyIn.cons rfl (fun K hK => ?_) AllReadyIn.nil
            go_simp
            refine hK _ _ ?_
            clear hK K
            refine wpAnyIn_ready (rs := [4]) (by kernel_rfl) (by simp) ?_
            refine AllReadyIn.cons rfl (fun K hK => ?_) AllReadyIn.nil
            refine stepIn_append_run rfl _ _ 24 rfl rfl rfl hrun ?_
            refine hK _ _ ?_
            clear hK K hrun
            refine wpAnyIn_ready (rs := [5]) (by kernel_rfl) (by simp) ?_
            refine AllReadyIn.cons rfl (fun K hK => ?_) AllReadyIn.nil
            go_simp
            refine hK _ _ ?_
            clear hK K
            refine wpAnyIn_done (by kernel_rfl) ?_ _
            exact HF.out
          · go_simp
            refine hK _ _ ?_
            clear hK K
            refine wpAnyIn_ready (rs := [0]) (by kernel_rfl) (by simp) ?_
            refine AllReadyIn.cons rfl (fun K hK => ?_) AllReadyIn.nil
            go_simp
            refine hK _ _ ?_
            clear hK K
            refine wpAnyIn_ready (rs := [4]) (by kernel_rfl) (by simp) ?_
            refine AllReadyIn.cons rfl (fun K hK => ?_) AllReadyIn.nil
            refine stepIn_append_run rfl _ _ 24 rfl rfl rfl hrun ?_
            refine hK _ _ ?_
            clear hK K hrun
            refine wpAnyIn_ready (rs := [5]) (by kernel_rfl) (by simp) ?_
            refine AllReadyIn.cons rfl (fun K hK => ?_) AllReadyIn.nil
            go_simp
            refine hK _ _ ?_
            clear hK K
            refine wpAnyIn_done (by kernel_rfl) ?_ _
            exact HF.out
  case done =>
    rintro D ys W hD hys ⟨⟨v, hv, hrow⟩, hall, bR', bE', hB, hsW⟩ hK
    obtain ⟨a, k, c, rfl⟩ := hrow.form
    have hcl := hv.cell
    have cR := bR'.cell
    have fR := bR'.frozen
    have cE := bE'.cell
    have fE := bE'.frozen
    gi_wp2
    have hK2 := ((KeepsOthers.setCell W ⟨w.heap.size, 0, none⟩ (.slice a k c)).trans (KeepsOthers.setCell _ ⟨w.heap.size + 1, 0, none⟩ (.int .i64 0))).same D _ hK rfl
    refine ⟨by simp, .inl ⟨_, _, rfl, run_takeDeferred hK2, ?_⟩⟩
    have bR3 := Boxed.kept ((bR'.set (.slice a k c)).other (B' := w.heap.size + 1) (by omega) (.int .i64 0)) (grownBy_putObj' _ D (.deferred none)) (fun e => by cases e; omega)
    have bE3 := Boxed.kept ((bE'.other (B' := w.heap.size) (by omega) (.slice a k c)).set (.int .i64 0)) (grownBy_putObj' _ D (.deferred none)) (fun e => by cases e; omega)
    have r3 : Rws (((W.setCell ⟨w.heap.size, 0, none⟩ (.slice a k c)).setCell ⟨w.heap.size + 1, 0, none⟩ (.int .i64 0)).putObj D (.deferred none)) (w.heap.size + 4) (.slice a k c) (ys.map fun x => lineP (pieceOf t x.1)) := by
      refine hrow.blocks fun g hg ⟨cur, e, f, hc⟩ => ?_
      have hgD : g ≠ D := by
        rintro rfl
        rw [hK] at hc
        cases hc
      rw [World.putObj_heap_other hgD, Deep.blk_setCell_other _ _ _ _ (by show g ≠ w.heap.size + 1; omega), Deep.blk_setCell_other _ _ _ _ (by show g ≠ w.heap.size; omega)]
    have B1 := (hB.setCell (p := ⟨w.heap.size, 0, none⟩) (Nat.le_refl _) (.slice a k c)).setCell (p := ⟨w.heap.size + 1, 0, none⟩) (by show w.heap.size ≤ w.heap.size + 1; omega) (.int .i64 0)
    have B2 := B1.trans (belowK_b (w := w) (Nat.le_refl _) _ D _ (.deferred none) (by omega) hK2 rfl rfl)
    have cR3 := bR3.cell
    have cE3 := bE3.cell
    generalize ((W.setCell ⟨w.heap.size, 0, none⟩ (.slice a k c)).setCell ⟨w.heap.size + 1, 0, none⟩ (.int .i64 0)).putObj D (.deferred none) = W3 at bR3 bE3 r3 B2 cR3 cE3 ⊢
    refine ⟨.tuple #[.slice a k c, .int .i64 0], ?_, .slice a k c, 0, rfl, B2, .inl ⟨?_, rfl, ?_⟩⟩
    · simp [results, Try.results8, go_sem, cR3, cE3]
    · rw [bad_whole, ← hys, List.any_map, List.any_eq_false]
      intro x hx
      have := hall x hx
      simp only [Function.comp, this]
      simp
    · have := r3.mono (by omega : w.heap.size ≤ w.heap.size + 4)
      unfold linesP
      rw [← hys, List.map_map]
      exact this
  case stop =>
    rintro D c pre W hD hpre ⟨⟨rfl, x, hx, hx2⟩, bR', bE', hB⟩ hK
    gi_wp2
    refine ⟨by simp, .inl ⟨_, _, rfl, run_takeDeferred hK, ?_⟩⟩
    have bR3 := Boxed.kept bR' (grownBy_putObj' _ D (.deferred none)) (fun e => by cases e; omega)
    have bE3 := Boxed.kept bE' (grownBy_putObj' _ D (.deferred none)) (fun e => by cases e; omega)
    have B2 := hB.trans (belowK_b (w := w) (Nat.le_refl _) _ D _ (.deferred none) (by omega) hK rfl rfl)
    have cR3 := bR3.cell
    have cE3 := bE3.cell
    generalize W.putObj D (.deferred none) = W3 at bR3 bE3 B2 cR3 cE3 ⊢
    refine ⟨.tuple #[.slice none 0 0, .int .i64 4], ?_, .slice none 0 0, 4, rfl, B2, .inr ⟨?_, rfl, rfl⟩⟩
    · simp [results, Try.results8, go_sem, cR3, cE3]
    · rw [bad_whole, List.any_eq_true]
      exact ⟨x.1, hpre.subset (List.mem_map_of_mem hx), hx2⟩

/-- lines.Read for any code points. -/
theorem Read_any (p : Option Addr) (t : List Int) (cap : Nat) (w : World) (hl : t.length ≤ cap) (hc : cap ≤ maxLen) (hm : t.length ≤ 1099511627776) (hI : Is w p t) :
    Calls Try.prog 8 #[.slice p t.length cap] w fun e w' => ∃ v, e = .returned (.tuple #[v, .int .i64 (if t.any badP then 4 else 0)]) ∧ Below w.heap.size w w' ∧ Rws w' w.heap.size v (if t.any badP then [] else linesP t) := by
  obtain ⟨b, o, hp⟩ : ∃ b o, 0 < t.length → p = some ⟨b, o, none⟩ := by
    by_cases h : 0 < t.length
    · obtain ⟨b, o, e, -⟩ := hI.at h
      exact ⟨b, o, fun _ => e⟩
    · exact ⟨0, 0, fun h' => absurd h' h⟩
  refine ((callsIn_wide (n := 3)).1 (Read_in 3 (Nat.le_refl _) p b o cap t w hp hl hc hm hI)).mono ?_
  rintro e w' ⟨v, ec, rfl, hb, ⟨h, rfl, hr⟩ | ⟨h, rfl, rfl⟩⟩
  · refine ⟨v, ?_, hb, ?_⟩ <;> rw [h]
    · rfl
    · exact hr
  · refine ⟨.slice none 0 0, ?_, hb, ?_⟩ <;> rw [h]
    · rfl
    · exact Rws_nil _ _
end Go.Proofs.Ytcijjbnkdjmklaa
