/- The document's Directive, as it runs. -/
import Derived.Test.YtgldejcneglpnaaRvs
import Derived.Test.YtgldejcneglpnaaRpx
set_option linter.unusedVariables false
set_option linter.unusedSimpArgs false
namespace Go.Proofs.Ytgldejcneglpnaa
open Go.RowKit Go.Shelf

theorem dirV_form (y : Option (ByteArray × ByteArray × ByteArray)) : ∃ a b c ok, dirV y = .tuple #[.string a, .string b, .string c, .bool ok] := by
  cases y with
  | none => exact ⟨_, _, _, _, dirV_none⟩
  | some y => exact ⟨_, _, _, _, dirV_some y.1 y.2.1 y.2.2⟩
theorem str_ne {x : ByteArray} {l : List UInt8} (h : x ≠ ⟨l.toArray⟩) : (x.toList == l) = false := by
  rw [Go.ByteArray.toList_eq]
  refine beq_eq_false_iff_ne.2 (fun e => h ?_)
  cases x
  simp at e
  rw [← e]
theorem str_nil {x : ByteArray} (h : x ≠ ⟨#[]⟩) : x.toList.isEmpty = false := by
  have := str_ne (l := []) h
  cases hx : x.toList with
  | nil => rw [hx] at this; cases this
  | cons a r => rfl
/-- Where the name behind % ends, and its text. -/
def dnN (t : List Int) : Nat := 1 + cnt nameP (t.drop 1)
def dnB (t : List Int) : ByteArray := txt ((t.drop 1).take (dnN t - 1))
theorem dnN_le {t : List Int} (h : 0 < t.length) : dnN t ≤ t.length := by
  have := cnt_le nameP (t.drop 1)
  rw [List.length_drop] at this
  unfold dnN
  omega
theorem cut_mid {w : World} {b o : Nat} {t : List Int} {c : Nat} (hI : Is w (some ⟨b, o, none⟩) t) (hc : t.length ≤ c) (e : Nat) (h1 : 1 ≤ e) (h2 : e ≤ t.length) :
    ∃ p, (∀ w2, (Instr.slice 22 (.slice (some ⟨b, o, none⟩) t.length c) (some (.int .i64 1)) (some (.int .i64 e)) none).run Try.prog w2 = .ok (.slice p (e - 1) (c - 1)) w2) ∧ Is w p ((t.drop 1).take (e - 1)) := by
  by_cases h : 1 < c
  · exact ⟨some ⟨b, o + 1, none⟩, slice_mid b o t.length c 1 e h1 (by omega) h, (hI.drop 1).take _⟩
  · obtain rfl : e = 1 := by omega
    obtain rfl : c = 1 := by omega
    refine ⟨some ⟨b, o, none⟩, fun w2 => ?_, .inl (by simp)⟩
    have u := Try.underlying22
    have z := Try.sizeOf3
    simp [go_sem]
/-- A directive, by the document. -/
def rdirP (t : List Int) : Option (ByteArray × ByteArray × ByteArray) :=
  if t.length = 0 ∨ iAt t 0 ≠ 37 then none else if dnB t = ⟨#[]⟩ then none else if dnB t = yamlB then rverP t (dnN t) else if dnB t = tagB then rprefP t (dnN t)
  else if dnN t < t.length ∧ blankP (iAt t (dnN t)) = false then none else some (dnB t, ⟨#[]⟩, ⟨#[]⟩)

set_option maxRecDepth 100000 in
set_option maxHeartbeats 1000000 in
theorem rdir_E (b o : Nat) (t : List Int) (c : Nat) (w : World) (hn : t.length ≤ 1000000) (hc : t.length ≤ c) (hm : c ≤ maxLen) (h0 : 0 < t.length) (h37 : iAt t 0 = 37) (hx : dnB t = ⟨#[]⟩) (hI : Is w (some ⟨b, o, none⟩) t) :
    Calls Try.prog 14 #[.slice (some ⟨b, o, none⟩) t.length c] w fun e w' => e = .returned (dirV (none)) ∧ Below w.heap.size w w' := by
  have hn2 : (t.length : Int) ≤ 1000000 := by omega
  have h0' : ((t.length : Int) == 0) = false := by simp; intro e; subst e; simp at h0
  have h0'' : (0 : Int) < t.length := by omega
  have hNl := dnN_le h0
  have hNg : 1 ≤ dnN t := Nat.le_add_right _ _
  have hA : runE (st nameP t) t.length 1 = dnN t := cnt_drop nameP t 1
  obtain ⟨p, S1, hI1⟩ := cut_mid hI hc (dnN t) hNg hNl
  have hcn : ((t.drop 1).take (dnN t - 1)).length = dnN t - 1 := by simp; omega
  have TX := fun (W : World) (hW : Below w.heap.size w W) => rtext_any p ((t.drop 1).take (dnN t - 1)) (dnN t - 1) (c - 1) W hcn.symm (by omega) (hI1.on hW)
  have TX := TX w (Below.refl _ _)
  have hxe : txt ((t.drop 1).take (dnN t - 1)) = dnB t := rfl
  rw [hxe] at TX
  have HU : Hid (∀ j, j < t.length → w.cell? ⟨b, o + j, none⟩ = some (.int .i64 (iAt t j))) := fun j hj => by
    obtain ⟨b', o', e, hu⟩ := hI.at (by omega)
    cases e
    exact hu j hj
  have c0 := HU.out 0 h0
  rw [Nat.add_zero, h37] at c0
  clear hxe h37 hcn
  rw [hx] at TX
  clear hx
  generalize dnN t = a at *
  have HA : Hid (runE (st nameP t) t.length 1 = a) := hA
  clear hA hI hI1
  rw [dirV_none]
  go_enter Try.func14, Try.ntmps14
  go_wp2
  go_loop [6] (fun iv => ∃ (j : Nat), 1 ≤ j ∧ j ≤ t.length ∧ iv = .int .i64 j ∧ Hid (runE (st nameP t) t.length j = a)) (fun iv => t.length - (intOf iv).toNat)
  case atStart => exact ⟨1, Nat.le_refl _, by omega, rfl, HA⟩
  case round =>
    obtain ⟨j, hj1, hj2, rfl, HJ⟩ := hrel
    by_cases hlt : j < t.length
    · have hli : (j : Int) < t.length := by omega
      have cj := HU.out j hlt
      have WD := rname_any (iAt t j)
      cases hz : nameP (iAt t j) with
      | true =>
        rw [hz] at WD
        have HN : Hid (runE (st nameP t) t.length (j + 1) = a) := by
          have h3 := st_one hlt hz
          have := runE_step (L := t.length) (st_bd nameP t) (k := j) (by rw [h3]; omega)
          rw [h3] at this
          exact this.trans HJ.out
        generalize iAt t j = x at cj WD
        clear hz HJ HA TX S1
        go_wp2_with (first | (go_at_call 24; refine (WD _).mono ?_; rintro e w ⟨rfl, rfl⟩))
        go_round
        case rel => exact ⟨j + 1, by omega, by omega, by go_num, HN⟩
        case measure => simp [intOf]; omega
      | false =>
        obtain rfl : j = a := by have := HJ.out; rw [runE_stop (st_none (fun _ => hz))] at this; exact this
        rw [hz] at WD
        generalize iAt t j = x at cj WD
        clear hz HJ HA
        go_wp2_with (first | (go_at_call 24; refine (WD _).mono ?_; rintro e w ⟨rfl, rfl⟩) | (go_at_call 33; refine TX.mono ?_; rintro e W ⟨rfl, hB⟩))
        refine bodyPost_ret (results_tmp4 rfl _ _ _) rfl ?_
        exact ⟨rfl, hB⟩
    · have hge : ¬ (j : Int) < t.length := by omega
      obtain rfl : j = a := by
        have := HJ.out
        rw [runE_stop (st_none (fun h => absurd h hlt))] at this
        exact this
      clear HJ HA hlt
      go_wp2_with (first | (go_at_call 33; refine TX.mono ?_; rintro e W ⟨rfl, hB⟩))
      refine bodyPost_ret (results_tmp4 rfl _ _ _) rfl ?_
      exact ⟨rfl, hB⟩

set_option maxRecDepth 100000 in
set_option maxHeartbeats 1000000 in
theorem rdir_Y (b o : Nat) (t : List Int) (c : Nat) (w : World) (hn : t.length ≤ 1000000) (hc : t.length ≤ c) (hm : c ≤ maxLen) (h0 : 0 < t.length) (h37 : iAt t 0 = 37) (hx : dnB t = yamlB) (hI : Is w (some ⟨b, o, none⟩) t) :
    Calls Try.prog 14 #[.slice (some ⟨b, o, none⟩) t.length c] w fun e w' => e = .returned (dirV (rverP t (dnN t))) ∧ Below w.heap.size w w' := by
  have hn2 : (t.length : Int) ≤ 1000000 := by omega
  have h0' : ((t.length : Int) == 0) = false := by simp; intro e; subst e; simp at h0
  have h0'' : (0 : Int) < t.length := by omega
  have hNl := dnN_le h0
  have hNg : 1 ≤ dnN t := Nat.le_add_right _ _
  have hA : runE (st nameP t) t.length 1 = dnN t := cnt_drop nameP t 1
  obtain ⟨p, S1, hI1⟩ := cut_mid hI hc (dnN t) hNg hNl
  have hcn : ((t.drop 1).take (dnN t - 1)).length = dnN t - 1 := by simp; omega
  have TX := fun (W : World) (hW : Below w.heap.size w W) => rtext_any p ((t.drop 1).take (dnN t - 1)) (dnN t - 1) (c - 1) W hcn.symm (by omega) (hI1.on hW)
  have TX := TX w (Below.refl _ _)
  have hxe : txt ((t.drop 1).take (dnN t - 1)) = dnB t := rfl
  rw [hxe] at TX
  have VR := fun (W : World) (hW : Below w.heap.size w W) => rversion_any b o t t.length c (dnN t) W rfl hn hc hm hNl (hI.on hW)
  have HU : Hid (∀ j, j < t.length → w.cell? ⟨b, o + j, none⟩ = some (.int .i64 (iAt t j))) := fun j hj => by
    obtain ⟨b', o', e, hu⟩ := hI.at (by omega)
    cases e
    exact hu j hj
  have c0 := HU.out 0 h0
  rw [Nat.add_zero, h37] at c0
  clear hxe h37 hcn
  rw [hx] at TX
  clear hx
  generalize rverP t (dnN t) = y at VR ⊢
  generalize dnN t = a at *
  have HA : Hid (runE (st nameP t) t.length 1 = a) := hA
  clear hA hI hI1
  obtain ⟨u1, u2, u3, ok, hy⟩ := dirV_form y
  rw [hy] at VR ⊢
  clear hy
  go_enter Try.func14, Try.ntmps14
  go_wp2
  go_loop [6] (fun iv => ∃ (j : Nat), 1 ≤ j ∧ j ≤ t.length ∧ iv = .int .i64 j ∧ Hid (runE (st nameP t) t.length j = a)) (fun iv => t.length - (intOf iv).toNat)
  case atStart => exact ⟨1, Nat.le_refl _, by omega, rfl, HA⟩
  case round =>
    obtain ⟨j, hj1, hj2, rfl, HJ⟩ := hrel
    by_cases hlt : j < t.length
    · have hli : (j : Int) < t.length := by omega
      have cj := HU.out j hlt
      have WD := rname_any (iAt t j)
      cases hz : nameP (iAt t j) with
      | true =>
        rw [hz] at WD
        have HN : Hid (runE (st nameP t) t.length (j + 1) = a) := by
          have h3 := st_one hlt hz
          have := runE_step (L := t.length) (st_bd nameP t) (k := j) (by rw [h3]; omega)
          rw [h3] at this
          exact this.trans HJ.out
        generalize iAt t j = x at cj WD
        clear hz HJ HA TX S1 VR
        go_wp2_with (first | (go_at_call 24; refine (WD _).mono ?_; rintro e w ⟨rfl, rfl⟩))
        go_round
        case rel => exact ⟨j + 1, by omega, by omega, by go_num, HN⟩
        case measure => simp [intOf]; omega
      | false =>
        obtain rfl : j = a := by have := HJ.out; rw [runE_stop (st_none (fun _ => hz))] at this; exact this
        rw [hz] at WD
        generalize iAt t j = x at cj WD
        clear hz HJ HA
        go_wp2_with (first | (go_at_call 24; refine (WD _).mono ?_; rintro e w ⟨rfl, rfl⟩) | (go_at_call 33; refine TX.mono ?_; rintro e W ⟨rfl, hB⟩) | (go_at_call 34; refine (VR _ hB).mono ?_; rintro e W2 ⟨rfl, hB2⟩))
        refine bodyPost_ret (results_tmp4 rfl _ _ _) rfl ?_
        exact ⟨rfl, hB.trans (hB2.mono hB.size)⟩
    · have hge : ¬ (j : Int) < t.length := by omega
      obtain rfl : j = a := by
        have := HJ.out
        rw [runE_stop (st_none (fun h => absurd h hlt))] at this
        exact this
      clear HJ HA hlt
      go_wp2_with (first | (go_at_call 33; refine TX.mono ?_; rintro e W ⟨rfl, hB⟩) | (go_at_call 34; refine (VR _ hB).mono ?_; rintro e W2 ⟨rfl, hB2⟩))
      refine bodyPost_ret (results_tmp4 rfl _ _ _) rfl ?_
      exact ⟨rfl, hB.trans (hB2.mono hB.size)⟩

set_option maxRecDepth 100000 in
set_option maxHeartbeats 1000000 in
theorem rdir_T (b o : Nat) (t : List Int) (c : Nat) (w : World) (hn : t.length ≤ 1000000) (hc : t.length ≤ c) (hm : c ≤ maxLen) (h0 : 0 < t.length) (h37 : iAt t 0 = 37) (hx : dnB t = tagB) (hI : Is w (some ⟨b, o, none⟩) t) :
    Calls Try.prog 14 #[.slice (some ⟨b, o, none⟩) t.length c] w fun e w' => e = .returned (dirV (rprefP t (dnN t))) ∧ Below w.heap.size w w' := by
  have hn2 : (t.length : Int) ≤ 1000000 := by omega
  have h0' : ((t.length : Int) == 0) = false := by simp; intro e; subst e; simp at h0
  have h0'' : (0 : Int) < t.length := by omega
  have hNl := dnN_le h0
  have hNg : 1 ≤ dnN t := Nat.le_add_right _ _
  have hA : runE (st nameP t) t.length 1 = dnN t := cnt_drop nameP t 1
  obtain ⟨p, S1, hI1⟩ := cut_mid hI hc (dnN t) hNg hNl
  have hcn : ((t.drop 1).take (dnN t - 1)).length = dnN t - 1 := by simp; omega
  have TX := fun (W : World) (hW : Below w.heap.size w W) => rtext_any p ((t.drop 1).take (dnN t - 1)) (dnN t - 1) (c - 1) W hcn.symm (by omega) (hI1.on hW)
  have TX := TX w (Below.refl _ _)
  have hxe : txt ((t.drop 1).take (dnN t - 1)) = dnB t := rfl
  rw [hxe] at TX
  have VR := fun (W : World) (hW : Below w.heap.size w W) => rprefix_any b o t t.length c (dnN t) W rfl hn hc hm hNl (hI.on hW)
  have HU : Hid (∀ j, j < t.length → w.cell? ⟨b, o + j, none⟩ = some (.int .i64 (iAt t j))) := fun j hj => by
    obtain ⟨b', o', e, hu⟩ := hI.at (by omega)
    cases e
    exact hu j hj
  have c0 := HU.out 0 h0
  rw [Nat.add_zero, h37] at c0
  clear hxe h37 hcn
  rw [hx] at TX
  clear hx
  generalize rprefP t (dnN t) = y at VR ⊢
  generalize dnN t = a at *
  have HA : Hid (runE (st nameP t) t.length 1 = a) := hA
  clear hA hI hI1
  obtain ⟨u1, u2, u3, ok, hy⟩ := dirV_form y
  rw [hy] at VR ⊢
  clear hy
  go_enter Try.func14, Try.ntmps14
  go_wp2
  go_loop [6] (fun iv => ∃ (j : Nat), 1 ≤ j ∧ j ≤ t.length ∧ iv = .int .i64 j ∧ Hid (runE (st nameP t) t.length j = a)) (fun iv => t.length - (intOf iv).toNat)
  case atStart => exact ⟨1, Nat.le_refl _, by omega, rfl, HA⟩
  case round =>
    obtain ⟨j, hj1, hj2, rfl, HJ⟩ := hrel
    by_cases hlt : j < t.length
    · have hli : (j : Int) < t.length := by omega
      have cj := HU.out j hlt
      have WD := rname_any (iAt t j)
      cases hz : nameP (iAt t j) with
      | true =>
        rw [hz] at WD
        have HN : Hid (runE (st nameP t) t.length (j + 1) = a) := by
          have h3 := st_one hlt hz
          have := runE_step (L := t.length) (st_bd nameP t) (k := j) (by rw [h3]; omega)
          rw [h3] at this
          exact this.trans HJ.out
        generalize iAt t j = x at cj WD
        clear hz HJ HA TX S1 VR
        go_wp2_with (first | (go_at_call 24; refine (WD _).mono ?_; rintro e w ⟨rfl, rfl⟩))
        go_round
        case rel => exact ⟨j + 1, by omega, by omega, by go_num, HN⟩
        case measure => simp [intOf]; omega
      | false =>
        obtain rfl : j = a := by have := HJ.out; rw [runE_stop (st_none (fun _ => hz))] at this; exact this
        rw [hz] at WD
        generalize iAt t j = x at cj WD
        clear hz HJ HA
        go_wp2_with (first | (go_at_call 24; refine (WD _).mono ?_; rintro e w ⟨rfl, rfl⟩) | (go_at_call 33; refine TX.mono ?_; rintro e W ⟨rfl, hB⟩) | (go_at_call 35; refine (VR _ hB).mono ?_; rintro e W2 ⟨rfl, hB2⟩))
        refine bodyPost_ret (results_tmp4 rfl _ _ _) rfl ?_
        exact ⟨rfl, hB.trans (hB2.mono hB.size)⟩
    · have hge : ¬ (j : Int) < t.length := by omega
      obtain rfl : j = a := by
        have := HJ.out
        rw [runE_stop (st_none (fun h => absurd h hlt))] at this
        exact this
      clear HJ HA hlt
      go_wp2_with (first | (go_at_call 33; refine TX.mono ?_; rintro e W ⟨rfl, hB⟩) | (go_at_call 35; refine (VR _ hB).mono ?_; rintro e W2 ⟨rfl, hB2⟩))
      refine bodyPost_ret (results_tmp4 rfl _ _ _) rfl ?_
      exact ⟨rfl, hB.trans (hB2.mono hB.size)⟩

set_option maxRecDepth 100000 in
set_option maxHeartbeats 1000000 in
theorem rdir_N (b o : Nat) (t : List Int) (c : Nat) (w : World) (hn : t.length ≤ 1000000) (hc : t.length ≤ c) (hm : c ≤ maxLen) (h0 : 0 < t.length) (h37 : iAt t 0 = 37) (hx0 : dnB t ≠ ⟨#[]⟩) (hx1 : dnB t ≠ yamlB) (hx2 : dnB t ≠ tagB) (hb : dnN t < t.length ∧ blankP (iAt t (dnN t)) = false) (hI : Is w (some ⟨b, o, none⟩) t) :
    Calls Try.prog 14 #[.slice (some ⟨b, o, none⟩) t.length c] w fun e w' => e = .returned (dirV (none)) ∧ Below w.heap.size w w' := by
  have hn2 : (t.length : Int) ≤ 1000000 := by omega
  have h0' : ((t.length : Int) == 0) = false := by simp; intro e; subst e; simp at h0
  have h0'' : (0 : Int) < t.length := by omega
  have hNl := dnN_le h0
  have hNg : 1 ≤ dnN t := Nat.le_add_right _ _
  have hA : runE (st nameP t) t.length 1 = dnN t := cnt_drop nameP t 1
  obtain ⟨p, S1, hI1⟩ := cut_mid hI hc (dnN t) hNg hNl
  have hcn : ((t.drop 1).take (dnN t - 1)).length = dnN t - 1 := by simp; omega
  have TX := fun (W : World) (hW : Below w.heap.size w W) => rtext_any p ((t.drop 1).take (dnN t - 1)) (dnN t - 1) (c - 1) W hcn.symm (by omega) (hI1.on hW)
  have TX := TX w (Below.refl _ _)
  have hxe : txt ((t.drop 1).take (dnN t - 1)) = dnB t := rfl
  rw [hxe] at TX
  have HU : Hid (∀ j, j < t.length → w.cell? ⟨b, o + j, none⟩ = some (.int .i64 (iAt t j))) := fun j hj => by
    obtain ⟨b', o', e, hu⟩ := hI.at (by omega)
    cases e
    exact hu j hj
  have c0 := HU.out 0 h0
  rw [Nat.add_zero, h37] at c0
  clear hxe h37 hcn
  generalize dnB t = x at *
  have y0 : x.toList.isEmpty = false := str_nil hx0
  have y1 : (x.toList == [89, 65, 77, 76]) = false := str_ne hx1
  have y2 : (x.toList == [84, 65, 71]) = false := str_ne hx2
  clear hx0 hx1 hx2
  have HUB : Hid (∀ (W : World), Below w.heap.size w W → ∀ j, j < t.length → W.cell? ⟨b, o + j, none⟩ = some (.int .i64 (iAt t j))) := fun W hW j hj => (hW.cell (p := ⟨b, o + j, none⟩) (World.block_lt_of_cell? w _ (HU.out j hj))).trans (HU.out j hj)
  have BLR : Hid (∀ (x : Int) (w : World), Calls Try.prog 36 #[.int .i64 x] w fun e w' => e = .returned (.bool (blankP x)) ∧ w' = w) := rblank_any
  generalize dnN t = a at *
  have HA : Hid (runE (st nameP t) t.length 1 = a) := hA
  clear hA hI hI1
  rw [dirV_none]
  obtain ⟨hb1, hb2⟩ := hb
  have hb1' : (a : Int) < t.length := by omega
  go_enter Try.func14, Try.ntmps14
  go_wp2
  go_loop [6] (fun iv => ∃ (j : Nat), 1 ≤ j ∧ j ≤ t.length ∧ iv = .int .i64 j ∧ Hid (runE (st nameP t) t.length j = a)) (fun iv => t.length - (intOf iv).toNat)
  case atStart => exact ⟨1, Nat.le_refl _, by omega, rfl, HA⟩
  case round =>
    obtain ⟨j, hj1, hj2, rfl, HJ⟩ := hrel
    by_cases hlt : j < t.length
    · have hli : (j : Int) < t.length := by omega
      have cj := HU.out j hlt
      have WD := rname_any (iAt t j)
      cases hz : nameP (iAt t j) with
      | true =>
        rw [hz] at WD
        have HN : Hid (runE (st nameP t) t.length (j + 1) = a) := by
          have h3 := st_one hlt hz
          have := runE_step (L := t.length) (st_bd nameP t) (k := j) (by rw [h3]; omega)
          rw [h3] at this
          exact this.trans HJ.out
        generalize iAt t j = x at cj WD
        clear hz HJ HA TX S1
        go_wp2_with (first | (go_at_call 24; refine (WD _).mono ?_; rintro e w ⟨rfl, rfl⟩))
        go_round
        case rel => exact ⟨j + 1, by omega, by omega, by go_num, HN⟩
        case measure => simp [intOf]; omega
      | false =>
        obtain rfl : j = a := by have := HJ.out; rw [runE_stop (st_none (fun _ => hz))] at this; exact this
        rw [hz] at WD
        have BL := BLR.out (iAt t j)
        have hbb : blankP (iAt t j) = false := hb2
        rw [hbb] at BL
        have HC : Hid (∀ (W : World), Below w.heap.size w W → W.cell? ⟨b, o + j, none⟩ = some (.int .i64 (iAt t j))) := fun W hW => HUB.out W hW j hlt
        generalize iAt t j = x1 at cj WD BL HC
        clear hz HJ HA hbb
        go_wp2_with (first | (go_at_call 24; refine (WD _).mono ?_; rintro e w ⟨rfl, rfl⟩) | (go_at_call 33; refine TX.mono ?_; rintro e W ⟨rfl, hB⟩; have cB := HC.out _ hB) | (go_at_call 36; refine (BL _).mono ?_; rintro e W ⟨rfl, rfl⟩))
        refine bodyPost_ret (results_tmp4 rfl _ _ _) rfl ?_
        exact ⟨rfl, hB⟩
    · exfalso
      have := HJ.out
      rw [runE_stop (st_none (fun h => absurd h hlt))] at this
      omega

set_option maxRecDepth 100000 in
set_option maxHeartbeats 1000000 in
theorem rdir_O (b o : Nat) (t : List Int) (c : Nat) (w : World) (hn : t.length ≤ 1000000) (hc : t.length ≤ c) (hm : c ≤ maxLen) (h0 : 0 < t.length) (h37 : iAt t 0 = 37) (hx0 : dnB t ≠ ⟨#[]⟩) (hx1 : dnB t ≠ yamlB) (hx2 : dnB t ≠ tagB) (hb : dnN t < t.length → blankP (iAt t (dnN t)) = true) (hI : Is w (some ⟨b, o, none⟩) t) :
    Calls Try.prog 14 #[.slice (some ⟨b, o, none⟩) t.length c] w fun e w' => e = .returned (dirV (some (dnB t, ⟨#[]⟩, ⟨#[]⟩))) ∧ Below w.heap.size w w' := by
  have hn2 : (t.length : Int) ≤ 1000000 := by omega
  have h0' : ((t.length : Int) == 0) = false := by simp; intro e; subst e; simp at h0
  have h0'' : (0 : Int) < t.length := by omega
  have hNl := dnN_le h0
  have hNg : 1 ≤ dnN t := Nat.le_add_right _ _
  have hA : runE (st nameP t) t.length 1 = dnN t := cnt_drop nameP t 1
  obtain ⟨p, S1, hI1⟩ := cut_mid hI hc (dnN t) hNg hNl
  have hcn : ((t.drop 1).take (dnN t - 1)).length = dnN t - 1 := by simp; omega
  have TX := fun (W : World) (hW : Below w.heap.size w W) => rtext_any p ((t.drop 1).take (dnN t - 1)) (dnN t - 1) (c - 1) W hcn.symm (by omega) (hI1.on hW)
  have TX := TX w (Below.refl _ _)
  have hxe : txt ((t.drop 1).take (dnN t - 1)) = dnB t := rfl
  rw [hxe] at TX
  have HU : Hid (∀ j, j < t.length → w.cell? ⟨b, o + j, none⟩ = some (.int .i64 (iAt t j))) := fun j hj => by
    obtain ⟨b', o', e, hu⟩ := hI.at (by omega)
    cases e
    exact hu j hj
  have c0 := HU.out 0 h0
  rw [Nat.add_zero, h37] at c0
  clear hxe h37 hcn
  generalize dnB t = x at *
  have y0 : x.toList.isEmpty = false := str_nil hx0
  have y1 : (x.toList == [89, 65, 77, 76]) = false := str_ne hx1
  have y2 : (x.toList == [84, 65, 71]) = false := str_ne hx2
  clear hx0 hx1 hx2
  have HUB : Hid (∀ (W : World), Below w.heap.size w W → ∀ j, j < t.length → W.cell? ⟨b, o + j, none⟩ = some (.int .i64 (iAt t j))) := fun W hW j hj => (hW.cell (p := ⟨b, o + j, none⟩) (World.block_lt_of_cell? w _ (HU.out j hj))).trans (HU.out j hj)
  have BLR : Hid (∀ (x : Int) (w : World), Calls Try.prog 36 #[.int .i64 x] w fun e w' => e = .returned (.bool (blankP x)) ∧ w' = w) := rblank_any
  generalize dnN t = a at *
  have HA : Hid (runE (st nameP t) t.length 1 = a) := hA
  clear hA hI hI1
  rw [dirV_some]
  have hb : Hid _ := hb
  go_enter Try.func14, Try.ntmps14
  go_wp2
  go_loop [6] (fun iv => ∃ (j : Nat), 1 ≤ j ∧ j ≤ t.length ∧ iv = .int .i64 j ∧ Hid (runE (st nameP t) t.length j = a)) (fun iv => t.length - (intOf iv).toNat)
  case atStart => exact ⟨1, Nat.le_refl _, by omega, rfl, HA⟩
  case round =>
    obtain ⟨j, hj1, hj2, rfl, HJ⟩ := hrel
    by_cases hlt : j < t.length
    · have hli : (j : Int) < t.length := by omega
      have cj := HU.out j hlt
      have WD := rname_any (iAt t j)
      cases hz : nameP (iAt t j) with
      | true =>
        rw [hz] at WD
        have HN : Hid (runE (st nameP t) t.length (j + 1) = a) := by
          have h3 := st_one hlt hz
          have := runE_step (L := t.length) (st_bd nameP t) (k := j) (by rw [h3]; omega)
          rw [h3] at this
          exact this.trans HJ.out
        generalize iAt t j = x at cj WD
        clear hz HJ HA TX S1
        go_wp2_with (first | (go_at_call 24; refine (WD _).mono ?_; rintro e w ⟨rfl, rfl⟩))
        go_round
        case rel => exact ⟨j + 1, by omega, by omega, by go_num, HN⟩
        case measure => simp [intOf]; omega
      | false =>
        obtain rfl : j = a := by have := HJ.out; rw [runE_stop (st_none (fun _ => hz))] at this; exact this
        rw [hz] at WD
        have BL := BLR.out (iAt t j)
        have hbb : blankP (iAt t j) = true := hb.out hlt
        rw [hbb] at BL
        have HC : Hid (∀ (W : World), Below w.heap.size w W → W.cell? ⟨b, o + j, none⟩ = some (.int .i64 (iAt t j))) := fun W hW => HUB.out W hW j hlt
        generalize iAt t j = x1 at cj WD BL HC
        clear hz HJ HA hbb
        go_wp2_with (first | (go_at_call 24; refine (WD _).mono ?_; rintro e w ⟨rfl, rfl⟩) | (go_at_call 33; refine TX.mono ?_; rintro e W ⟨rfl, hB⟩; have cB := HC.out _ hB) | (go_at_call 36; refine (BL _).mono ?_; rintro e W ⟨rfl, rfl⟩))
        refine bodyPost_ret (results_tmp4 rfl _ _ _) rfl ?_
        exact ⟨rfl, hB⟩
    · have hge : ¬ (j : Int) < t.length := by omega
      obtain rfl : j = a := by
        have := HJ.out
        rw [runE_stop (st_none (fun h => absurd h hlt))] at this
        exact this
      clear HJ HA hlt
      go_wp2_with (first | (go_at_call 33; refine TX.mono ?_; rintro e W ⟨rfl, hB⟩))
      refine bodyPost_ret (results_tmp4 rfl _ _ _) rfl ?_
      exact ⟨rfl, hB⟩

set_option maxRecDepth 100000 in
set_option maxHeartbeats 1000000 in
theorem rDirective_any (q : Option Addr) (t : List Int) (n c : Nat) (w : World) (hl : n = t.length) (hn : t.length ≤ 1000000) (hc : t.length ≤ c) (hm : c ≤ maxLen) (hI : Is w q t) :
    Calls Try.prog 14 #[.slice q n c] w fun e w' => e = .returned (dirV (rdirP t)) ∧ Below w.heap.size w w' := by
  subst hl
  have hn2 : (t.length : Int) ≤ 1000000 := by omega
  obtain ⟨V, hV⟩ : ∃ V, rdirP t = V := ⟨_, rfl⟩
  rw [hV]
  unfold rdirP at hV
  by_cases h0 : t.length = 0
  · rw [if_pos (.inl h0)] at hV
    subst hV
    rw [dirV_none]
    rw [h0]
    have e0 : ((0 : Nat) : Int) = 0 := rfl
    go_enter Try.func14, Try.ntmps14
    go_wp2
    refine bodyPost_ret (results_tmp4 rfl _ _ _) rfl ?_
    exact ⟨rfl, Below.refl _ _⟩
  obtain ⟨b, o, rfl, hu⟩ := hI.at (by omega)
  by_cases h1 : iAt t 0 = 37
  · rw [if_neg (fun h => by rcases h with h | h; exact h0 h; exact h h1)] at hV
    by_cases x0 : dnB t = ⟨#[]⟩
    · rw [if_pos x0] at hV
      subst hV
      exact rdir_E b o t c w hn hc hm (by omega) h1 x0 hI
    rw [if_neg x0] at hV
    by_cases x1 : dnB t = yamlB
    · rw [if_pos x1] at hV
      subst hV
      exact rdir_Y b o t c w hn hc hm (by omega) h1 x1 hI
    rw [if_neg x1] at hV
    by_cases x2 : dnB t = tagB
    · rw [if_pos x2] at hV
      subst hV
      exact rdir_T b o t c w hn hc hm (by omega) h1 x2 hI
    rw [if_neg x2] at hV
    by_cases x3 : dnN t < t.length ∧ blankP (iAt t (dnN t)) = false
    · rw [if_pos x3] at hV
      subst hV
      exact rdir_N b o t c w hn hc hm (by omega) h1 x0 x1 x2 x3 hI
    · rw [if_neg x3] at hV
      subst hV
      exact rdir_O b o t c w hn hc hm (by omega) h1 x0 x1 x2 (fun h => by cases hb : blankP (iAt t (dnN t)) with | true => rfl | false => exact absurd ⟨h, hb⟩ x3) hI
  · rw [if_pos (.inr h1)] at hV
    subst hV
    rw [dirV_none]
    have h0' : ((t.length : Int) == 0) = false := by simp; intro e; subst e; simp at h0
    have h0'' : (0 : Int) < t.length := by omega
    have c0 := hu 0 (by omega)
    rw [Nat.add_zero] at c0
    have h1' : (iAt t 0 == 37) = false := by simpa using h1
    generalize iAt t 0 = x at c0 h1'
    clear hu hI h1 h0
    go_enter Try.func14, Try.ntmps14
    go_wp2
    refine bodyPost_ret (results_tmp4 rfl _ _ _) rfl ?_
    exact ⟨rfl, Below.refl _ _⟩
end Go.Proofs.Ytgldejcneglpnaa
