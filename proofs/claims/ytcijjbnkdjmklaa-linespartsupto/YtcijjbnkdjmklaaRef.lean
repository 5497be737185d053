/- The walk of the document's own Lines. -/
import Derived.Test.YtcijjbnkdjmklaaRefA
set_option linter.unusedVariables false
set_option linter.unusedSimpArgs false
namespace Go.Proofs.Ytcijjbnkdjmklaa
open Go.RowKit Go.Shelf

/-- What Lines answers. -/
def Says (w : World) (t : List Int) (e : Ending) (w' : World) : Prop :=
  ∃ v, e = .returned (.tuple #[v, .int .i64 (if t.any badP then 4 else 0)]) ∧ Below w.heap.size w w' ∧ Rws w' w.heap.size v (if t.any badP then [] else linesP t)

theorem says_bad {w : World} {t : List Int} (h : t.any badP = true) {w' : World} (hb : Below w.heap.size w w') : Says w t (.returned (.tuple #[.slice none 0 0, .int .i64 4])) w' := by
  unfold Says
  rw [h]
  exact ⟨.slice none 0 0, rfl, hb, Rws_nil _ _⟩
theorem says_good {w : World} {t : List Int} (h : t.any badP = false) {w' : World} (hb : Below w.heap.size w w') {v : Value} (hr : Rws w' w.heap.size v (linesP t)) : Says w t (.returned (.tuple #[v, .int .i64 0])) w' := by
  unfold Says
  rw [h]
  exact ⟨v, rfl, hb, hr⟩

set_option maxRecDepth 100000 in
set_option maxHeartbeats 4000000 in
theorem reflines_says (p : Option Addr) (t : List Int) (cap : Nat) (w : World) (hl : t.length ≤ cap) (hc : cap ≤ maxLen) (hm : t.length ≤ 1099511627776) (hI : Is w p t) :
    Calls Try.prog 9 #[.slice p t.length cap] w (Says w t) := by
  have hc' : (cap : Int) ≤ 9223372036854775807 := by unfold maxLen at hc; omega
  go_enter Try.func9, Try.ntmps9
  go_wp2
  go_loop [6] (fun i => ∃ (k : Nat), k ≤ t.length ∧ i = .int .i64 k ∧ Hid (∀ j, j < k → badP (iAt t j) = false)) (fun i => t.length - (intOf i).toNat)
  case atStart => exact ⟨0, Nat.zero_le _, rfl, fun j hj => by omega⟩
  case round =>
    obtain ⟨k, hk, rfl, HE⟩ := hrel
    by_cases hlt : k < t.length
    · have hI' := hI
      obtain ⟨b, o, rfl, hb⟩ := hI'.at (by omega)
      have c0 := hb k hlt
      clear hb hI'
      cases hx : badP (iAt t k)
      · have HE' : Hid (∀ j, j < k + 1 → badP (iAt t j) = false) := by
          intro j hj
          by_cases e : j = k
          · rw [e, hx]
          · exact HE.out j (by omega)
        obtain ⟨hx1, hx2⟩ := bad_false hx
        generalize iAt t k = x at c0 hx hx1 hx2
        clear hI
        go_wp2_with (first | (go_at_call 22; refine (rprint_any _ _).mono ?_; rintro e w' ⟨rfl, rfl⟩))
        go_round
        case rel => exact ⟨k + 1, by omega, by go_num, HE'⟩
        case measure => simp [intOf]; omega
      · have hany : t.any badP = true := List.any_eq_true.2 ⟨t[k], List.getElem_mem hlt, by have : iAt t k = t[k] := by simp [iAt, hlt]
                                                                                            rw [← this]; exact hx⟩
        have HS : Hid (Says w t (.returned (.tuple #[.slice none 0 0, .int .i64 4])) w) := says_bad hany (Below.refl _ _)
        have hx' := bad_true hx
        generalize iAt t k = x at c0 hx hx'
        clear hI
        rcases hx' with hx1 | ⟨hx1, rfl⟩
        · go_wp2_with (first | (go_at_call 22; refine (rprint_any _ _).mono ?_; rintro e w' ⟨rfl, rfl⟩))
          exact bodyPost_ret (v := .tuple #[.slice none 0 0, .int .i64 4]) (by simp [results, Try.results9, go_sem]) rfl HS.out
        · go_wp2_with (first | (go_at_call 22; refine (rprint_any _ _).mono ?_; rintro e w' ⟨rfl, rfl⟩))
          exact bodyPost_ret (v := .tuple #[.slice none 0 0, .int .i64 4]) (by simp [results, Try.results9, go_sem]) rfl HS.out
    · obtain rfl : k = t.length := by omega
      have hany : t.any badP = false := by
        rw [List.any_eq_false]
        intro x hx
        obtain ⟨j, hj, rfl⟩ := List.mem_iff_getElem.1 hx
        have := HE.out j hj
        have e : iAt t j = t[j] := by simp [iAt, hj]
        rw [e] at this
        simp [this]
      have HA : Hid (t.any badP = false) := hany
      clear HE hany
      go_wp2
      go_loopw [4, 5, 7] (fun v f i wr => ∃ (fk ik : Nat) (pre : List (Nat × Nat)), f = .int .i64 fk ∧ i = .int .i64 ik ∧ ik ≤ t.length ∧ Hid (Mid t fk ik pre) ∧ Hid (Rws wr w.heap.size v (mapL t pre)) ∧ Below w.heap.size w wr) (fun _ _ i _ => t.length - (intOf i).toNat)
      case atStart => exact ⟨0, 0, [], rfl, rfl, Nat.zero_le _, ⟨Nat.le_refl _, Nat.zero_le _, rfl, (fun j _ hj => by omega), Nat.le_refl _⟩, Rws_nil _ _, Below.refl _ _⟩
      case round =>
        obtain ⟨fk, ik, pre, rfl, rfl, hik, HM, HW, hB⟩ := hrel
        have hIr := hI.on hB
        by_cases hlt : ik < t.length
        · obtain ⟨b, o, rfl, hb⟩ := hIr.at (by omega)
          have c0 := hb ik hlt
          cases hx : endP (iAt t ik)
          · have HM' : Hid (Mid t fk (ik + 1) pre) := HM.out.on hlt hx
            generalize iAt t ik = x at c0 hx
            have hx1 : (x != 10) = true := by unfold endP at hx; simp at hx; simpa using hx.1
            have hx2 : (x != 13) = true := by unfold endP at hx; simp at hx; simpa using hx.2
            clear hb hIr hI
            go_wp2
            go_roundw
            case rel => exact ⟨fk, ik + 1, pre, rfl, by go_num, by omega, HM', HW, hB⟩
            case measure => simp [intOf]; omega
          · have hxx : iAt t ik = 10 ∨ iAt t ik = 13 := by unfold endP at hx; simpa using hx
            have hfi := HM.out.1
            have hcnt : (mapL t pre).length < 1099511627776 := by have := HM.out.2.2.2.2; rw [mapL_len]; omega
            have L := line_piece b o cap fk (ik - fk) t wr (by omega) hl hm hIr
            have S := slice_mid b o t.length cap fk ik hfi (by omega) (by omega)
            have hcell : ∀ w1, Below w.heap.size w w1 → ∀ j, j < t.length → w1.cell? ⟨b, o + j, none⟩ = some (.int .i64 (iAt t j)) := by
              intro w1 h1 j hj
              obtain ⟨b', o', e, hh⟩ := (hI.on h1).at (by omega)
              cases e
              exact hh j hj
            clear hb hIr
            rcases hxx with hx0 | hx0
            · have HM' : Hid (Mid t (ik + 1) (ik + 1) (pre ++ [(fk, ik - fk)])) := HM.out.end hlt hx (endSz_1 (by omega))
              have hc10 : ∀ w1, Below w.heap.size w w1 → w1.cell? ⟨b, o + ik, none⟩ = some (.int .i64 10) := fun w1 h1 => by rw [hcell w1 h1 ik hlt, hx0]
              rw [hx0] at c0
              clear hcell hx hI
              go_wp2_with (first | (go_at_call 23; refine L.mono ?_; rintro e W1 ⟨u, rfl, hcp⟩; obtain ⟨v', w1, hrun, hR1, -, hbel, ⟨g, kk, cc, rfl⟩, -⟩ := append_line HW.out hB.size hcp hcnt; obtain ⟨ua, uk, uc, rfl⟩ := ownsRow_form hcp.1; have hB1 := hB.trans hbel; have c0' := hc10 _ hB1; have HR1 : Hid _ := hR1; clear hR1 hcp) | (at_builtin; refine wpList_append_run rfl _ _ 24 rfl rfl rfl hrun ?_))
              go_roundw
              case rel => exact ⟨ik + 1, ik + 1, pre ++ [(fk, ik - fk)], by go_num, by go_num, by omega, HM', by rw [mapL_snoc]; exact HR1.out, hB1⟩
              case measure => simp [intOf]; omega
            · have hc13 : ∀ w1, Below w.heap.size w w1 → w1.cell? ⟨b, o + ik, none⟩ = some (.int .i64 13) := fun w1 h1 => by rw [hcell w1 h1 ik hlt, hx0]
              rw [hx0] at c0
              by_cases hl1 : ik + 1 < t.length
              · have hli : (ik : Int) + 1 < t.length := by omega
                have hnx : ∀ w1, Below w.heap.size w w1 → w1.cell? ⟨b, o + (ik + 1), none⟩ = some (.int .i64 (iAt t (ik + 1))) := fun w1 h1 => hcell w1 h1 (ik + 1) hl1
                by_cases hy : iAt t (ik + 1) = 10
                · have HM' : Hid (Mid t (ik + 2) (ik + 2) (pre ++ [(fk, ik - fk)])) := HM.out.end hlt hx (endSz_2 hl1 hx0 hy)
                  rw [hy] at hnx
                  clear hcell hx hI
                  go_wp2_with (first | (go_at_call 23; refine L.mono ?_; rintro e W1 ⟨u, rfl, hcp⟩; obtain ⟨v', w1, hrun, hR1, -, hbel, ⟨g, kk, cc, rfl⟩, -⟩ := append_line HW.out hB.size hcp hcnt; obtain ⟨ua, uk, uc, rfl⟩ := ownsRow_form hcp.1; have hB1 := hB.trans hbel; have c0' := hc13 _ hB1; have c1' := hnx _ hB1; have HR1 : Hid _ := hR1; clear hR1 hcp) | (at_builtin; refine wpList_append_run rfl _ _ 24 rfl rfl rfl hrun ?_))
                  go_roundw
                  case rel => exact ⟨ik + 2, ik + 2, pre ++ [(fk, ik - fk)], by go_num, by go_num, by omega, HM', by rw [mapL_snoc]; exact HR1.out, hB1⟩
                  case measure => simp [intOf]; omega
                · have HM' : Hid (Mid t (ik + 1) (ik + 1) (pre ++ [(fk, ik - fk)])) := HM.out.end hlt hx (endSz_1 (fun h => hy h.2.2))
                  generalize iAt t (ik + 1) = y at hy hnx
                  have hy' : (y == 10) = false := by simpa using hy
                  clear hcell hx hI
                  go_wp2_with (first | (go_at_call 23; refine L.mono ?_; rintro e W1 ⟨u, rfl, hcp⟩; obtain ⟨v', w1, hrun, hR1, -, hbel, ⟨g, kk, cc, rfl⟩, -⟩ := append_line HW.out hB.size hcp hcnt; obtain ⟨ua, uk, uc, rfl⟩ := ownsRow_form hcp.1; have hB1 := hB.trans hbel; have c0' := hc13 _ hB1; have c1' := hnx _ hB1; have HR1 : Hid _ := hR1; clear hR1 hcp) | (at_builtin; refine wpList_append_run rfl _ _ 24 rfl rfl rfl hrun ?_))
                  go_roundw
                  case rel => exact ⟨ik + 1, ik + 1, pre ++ [(fk, ik - fk)], by go_num, by go_num, by omega, HM', by rw [mapL_snoc]; exact HR1.out, hB1⟩
                  case measure => simp [intOf]; omega
              · have HM' : Hid (Mid t (ik + 1) (ik + 1) (pre ++ [(fk, ik - fk)])) := HM.out.end hlt hx (endSz_1 (fun h => hl1 h.1))
                have hli : ¬ (ik : Int) + 1 < t.length := by omega
                clear hcell hx hI
                go_wp2_with (first | (go_at_call 23; refine L.mono ?_; rintro e W1 ⟨u, rfl, hcp⟩; obtain ⟨v', w1, hrun, hR1, -, hbel, ⟨g, kk, cc, rfl⟩, -⟩ := append_line HW.out hB.size hcp hcnt; obtain ⟨ua, uk, uc, rfl⟩ := ownsRow_form hcp.1; have hB1 := hB.trans hbel; have c0' := hc13 _ hB1; have HR1 : Hid _ := hR1; clear hR1 hcp) | (at_builtin; refine wpList_append_run rfl _ _ 24 rfl rfl rfl hrun ?_))
                go_roundw
                case rel => exact ⟨ik + 1, ik + 1, pre ++ [(fk, ik - fk)], by go_num, by go_num, by omega, HM', by rw [mapL_snoc]; exact HR1.out, hB1⟩
                case measure => simp [intOf]; omega
        · obtain rfl : ik = t.length := by omega
          by_cases hf : fk < t.length
          · have hcut := HM.out.last hf
            have hcnt : (mapL t pre).length < 1099511627776 := by have := HM.out.2.2.2.2; rw [mapL_len]; omega
            obtain ⟨b, o, rfl, hb⟩ := hIr.at (by omega)
            have L := line_piece b o cap fk (t.length - fk) t wr (by omega) hl hm hIr
            have S : ∀ w2, (Instr.slice 22 (.slice (some ⟨b, o, none⟩) t.length cap) (some (.int .i64 fk)) none none).run Try.prog w2 = .ok (.slice (some ⟨b, o + fk, none⟩) (t.length - fk) (cap - fk)) w2 := by
              intro w2
              rw [slice_from _ _ _ _ (by omega) (by omega) w2, if_neg (by omega), Option.map_some, add_plain]
            have HL : Hid (mapL t pre ++ [lineP (pieceOf t (fk, t.length - fk))] = linesP t) := by
              show _ = _
              rw [← mapL_snoc]
              exact mapL_all t hcut
            have hfi : (fk : Int) < t.length := by omega
            clear hcut hb hIr hI HM
            go_wp2_with (first | (go_at_call 23; refine L.mono ?_; rintro e W1 ⟨u, rfl, hcp⟩; obtain ⟨v', w1, hrun, hR1, -, hbel, ⟨g, kk, cc, rfl⟩, -⟩ := append_line HW.out hB.size hcp hcnt; obtain ⟨ua, uk, uc, rfl⟩ := ownsRow_form hcp.1; have hB1 := hB.trans hbel; rw [HL.out] at hR1; have HS : Hid _ := says_good HA.out hB1 hR1; clear hR1 hcp) | (at_builtin; refine wpList_append_run rfl _ _ 24 rfl rfl rfl hrun ?_))
            exact bodyPost_ret (v := .tuple #[.slice (some ⟨g, 0, none⟩) kk cc, .int .i64 0]) (by simp [results, Try.results9, go_sem]) rfl HS.out
          · have hcut := HM.out.none hf
            have HS : Hid (Says w t (.returned (.tuple #[u4, .int .i64 0])) wr) := says_good HA.out hB (by rw [← mapL_all t hcut]; exact HW.out)
            have hfi : ¬ (fk : Int) < t.length := by omega
            clear hcut hIr hI HM
            go_wp2
            exact bodyPost_ret (v := .tuple #[u4, .int .i64 0]) (by simp [results, Try.results9, go_sem]) rfl HS.out

theorem reflines_any (p : Option Addr) (t : List Int) (cap : Nat) (w : World) (hl : t.length ≤ cap) (hc : cap ≤ maxLen) (hm : t.length ≤ 1099511627776) (hI : Is w p t) :
    Calls Try.prog 9 #[.slice p t.length cap] w fun e w' => ∃ v, e = .returned (.tuple #[v, .int .i64 (if t.any badP then 4 else 0)]) ∧ Below w.heap.size w w' ∧ Rws w' w.heap.size v (if t.any badP then [] else linesP t) :=
  reflines_says p t cap w hl hc hm hI
end Go.Proofs.Ytcijjbnkdjmklaa
