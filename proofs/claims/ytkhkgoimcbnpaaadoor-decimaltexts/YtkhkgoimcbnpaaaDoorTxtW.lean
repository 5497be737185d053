/- Text of any number: the walk. -/
import Derived.Test.YtkhkgoimcbnpaaaDoorTxt
set_option linter.unusedVariables false
set_option linter.unusedSimpArgs false
namespace Go.Proofs.YtkhkgoimcbnpaaaDoor
open Go.RowKit

theorem own_m0 (B : Nat) (w : World) : Own .u8 5 B w (.slice none 0 0) (bl (mB false)) := Own.nil .u8 5 B w
theorem push_m {B : Nat} {w : World} (hB : B ≤ w.heap.size) :
    ∃ g p w', (Builtin.append_ #[29, 29] 29 #[.slice none 0 0, .slice (some ⟨w.heap.size, 0, none⟩) 1 1]).run Tryd.prog (w.alloc (.cells #[.int .u8 45] 5)) = .ok (.slice (some ⟨g, 0, none⟩) 1 p) w' ∧
      Own .u8 5 B w' (.slice (some ⟨g, 0, none⟩) 1 p) (bl (mB true)) ∧ Below B w w' :=
  push1 (x := ⟨#[]⟩) (Own.nil .u8 5 B w) hB 45 (by decide)
theorem push_e {B : Nat} {w : World} {v : Value} {x : ByteArray} (h : Own .u8 5 B w v (bl x)) (hB : B ≤ w.heap.size) (hl : x.size ≤ 1000) :
    ∃ g p w', (Builtin.append_ #[29, 29] 29 #[v, .slice (some ⟨w.heap.size, 0, none⟩) 1 1]).run Tryd.prog (w.alloc (.cells #[.int .u8 101] 5)) = .ok (.slice (some ⟨g, 0, none⟩) (x ++ ⟨#[101]⟩).size p) w' ∧
      Own .u8 5 B w' (.slice (some ⟨g, 0, none⟩) (x ++ ⟨#[101]⟩).size p) (bl (x ++ ⟨#[101]⟩)) ∧ Below B w w' := push1 h hB 101 hl

set_option maxRecDepth 100000 in
set_option maxHeartbeats 1000000 in
theorem text_nan (b : Bool) (D : ByteArray) (E : Int) (w : World) :
    Calls Tryd.prog 7 #[.agg #[.bool b, .string D, .int .i64 E, .int .i64 2]] w fun e w' => e = .returned (.string ⟨#[46, 110, 97, 110]⟩) ∧ Below w.heap.size w w' := by
  go_enter Tryd.func7, Tryd.ntmps7
  go_wp2
  go_ret
  exact ⟨rfl, (Below.refl _ w).alloc (Nat.le_refl _) _⟩

set_option maxRecDepth 100000 in
set_option maxHeartbeats 1000000 in
theorem text_inf (b : Bool) (D : ByteArray) (E : Int) (w : World) :
    Calls Tryd.prog 7 #[.agg #[.bool b, .string D, .int .i64 E, .int .i64 1]] w fun e w' => e = .returned (.string (mB b ++ ⟨#[46, 105, 110, 102]⟩)) ∧ Below w.heap.size w w' := by
  have hsz : (w.alloc (.cells #[.bool b, .string D, .int .i64 E, .int .i64 1] 23)).heap.size = w.heap.size + 1 := by simp
  have HB0 : Hid (Below w.heap.size w (w.alloc (.cells #[.bool b, .string D, .int .i64 E, .int .i64 1] 23))) := (Below.refl _ w).alloc (Nat.le_refl _) _
  cases b
  · obtain ⟨g, c, w2, hrun, hO, hB⟩ := pushS (own_m0 (w.heap.size + 1) (w.alloc (.cells #[.bool false, .string D, .int .i64 E, .int .i64 1] 23))) (by omega) ⟨#[46, 105, 110, 102]⟩ (by decide) (by decide) (by decide)
    have CV := strS hO
    generalize mB false ++ ⟨#[46, 105, 110, 102]⟩ = T at hrun CV ⊢
    have HB : Hid (Below w.heap.size w w2) := HB0.out.trans (hB.mono (by omega))
    clear hO hB HB0 hsz
    go_enter Tryd.func7, Tryd.ntmps7
    go_wp2_with (at_builtin; refine wpList_append_runs rfl _ _ 29 9 rfl rfl rfl hrun ?_)
    go_ret
    exact ⟨rfl, HB.out⟩
  · obtain ⟨g1, c1, w1, hrun1, hO1, hB1⟩ := push_m (B := w.heap.size + 1) (w := w.alloc (.cells #[.bool true, .string D, .int .i64 E, .int .i64 1] 23)) (by omega)
    obtain ⟨g, c, w2, hrun, hO, hB⟩ := pushS hO1 (by have := hB1.size; omega) ⟨#[46, 105, 110, 102]⟩ (by decide) (by decide) (by decide)
    have CV := strS hO
    generalize mB true ++ ⟨#[46, 105, 110, 102]⟩ = T at hrun CV ⊢
    obtain ⟨-, -, -, hc3⟩ := box4 hB1
    have HB : Hid (Below w.heap.size w w2) := HB0.out.trans ((hB1.trans hB).mono (by omega))
    rw [hsz] at hrun1
    clear hO1 hO hB hB1 HB0 hsz
    go_enter Tryd.func7, Tryd.ntmps7
    go_wp2_with (at_builtin; first | refine wpList_append_run rfl _ _ 29 rfl rfl rfl hrun1 ?_ | refine wpList_append_runs rfl _ _ 29 9 rfl rfl rfl hrun ?_)
    go_ret
    exact ⟨rfl, HB.out⟩

set_option maxRecDepth 100000 in
set_option maxHeartbeats 1000000 in
theorem text_e0 (b : Bool) (D : ByteArray) (X : Int) (w : World) (h0 : 0 < D.size) (hs : D.size ≤ 200) (x2 : (X == 2) = false) (x1 : (X == 1) = false) :
    Calls Tryd.prog 7 #[.agg #[.bool b, .string D, .int .i64 0, .int .i64 X]] w fun e w' => e = .returned (.string (mB b ++ D)) ∧ Below w.heap.size w w' := by
  have hsz : (w.alloc (.cells #[.bool b, .string D, .int .i64 0, .int .i64 X] 23)).heap.size = w.heap.size + 1 := by simp
  have HB0 : Hid (Below w.heap.size w (w.alloc (.cells #[.bool b, .string D, .int .i64 0, .int .i64 X] 23))) := (Below.refl _ w).alloc (Nat.le_refl _) _
  cases b
  · obtain ⟨g, c, w2, hrun, hO, hB⟩ := pushS (own_m0 (w.heap.size + 1) (w.alloc (.cells #[.bool false, .string D, .int .i64 0, .int .i64 X] 23))) (by omega) D h0 (by decide) (by omega)
    have CV := strS hO
    generalize mB false ++ D = T at hrun CV ⊢
    obtain ⟨-, -, hc2, -⟩ := box4 hB
    have HB : Hid (Below w.heap.size w w2) := HB0.out.trans (hB.mono (by omega))
    clear hO hB HB0 hsz
    go_enter Tryd.func7, Tryd.ntmps7
    go_wp2_with (at_builtin; refine wpList_append_runs rfl _ _ 29 9 rfl rfl rfl hrun ?_)
    go_ret
    exact ⟨rfl, HB.out⟩
  · obtain ⟨g1, c1, w1, hrun1, hO1, hB1⟩ := push_m (B := w.heap.size + 1) (w := w.alloc (.cells #[.bool true, .string D, .int .i64 0, .int .i64 X] 23)) (by omega)
    obtain ⟨g, c, w2, hrun, hO, hB⟩ := pushS hO1 (by have := hB1.size; omega) D h0 (by decide) (by omega)
    have CV := strS hO
    generalize mB true ++ D = T at hrun CV ⊢
    obtain ⟨-, hc1, -, hc3⟩ := box4 hB1
    obtain ⟨-, -, hd2, -⟩ := box4 (hB1.trans hB)
    have HB : Hid (Below w.heap.size w w2) := HB0.out.trans ((hB1.trans hB).mono (by omega))
    rw [hsz] at hrun1
    clear hO1 hO hB hB1 HB0 hsz
    go_enter Tryd.func7, Tryd.ntmps7
    go_wp2_with (at_builtin; first | refine wpList_append_run rfl _ _ 29 rfl rfl rfl hrun1 ?_ | refine wpList_append_runs rfl _ _ 29 9 rfl rfl rfl hrun ?_)
    go_ret
    exact ⟨rfl, HB.out⟩

theorem i_pos {E : Int} : 0 < (itoaB E).size := by
  unfold itoaB
  split
  · rw [ByteArray.size_append]; have := dec_some (-E).toNat; omega
  · exact dec_some _

set_option maxRecDepth 100000 in
set_option maxHeartbeats 1000000 in
theorem text_en (b : Bool) (D : ByteArray) (E X : Int) (w : World) (h0 : 0 < D.size) (hs : D.size ≤ 200) (x2 : (X == 2) = false) (x1 : (X == 1) = false) (hE : (E == 0) = false) (e0 : -2000000000 ≤ E) (e1 : E ≤ 2000000000)
    (htab : Lib.TabIs Tryd.prog w "internal/strconv.uint64pow10" .u64 Lib.pow10Tab) :
    Calls Tryd.prog 7 #[.agg #[.bool b, .string D, .int .i64 E, .int .i64 X]] w fun e w' => e = .returned (.string (mB b ++ D ++ ⟨#[101]⟩ ++ itoaB E)) ∧ Below w.heap.size w w' := by
  have hsz : (w.alloc (.cells #[.bool b, .string D, .int .i64 E, .int .i64 X] 23)).heap.size = w.heap.size + 1 := by simp
  have HB0 : Hid (Below w.heap.size w (w.alloc (.cells #[.bool b, .string D, .int .i64 E, .int .i64 X] 23))) := (Below.refl _ w).alloc (Nat.le_refl _) _
  have hm := m_size b
  have hz1 : (mB b ++ D).size ≤ 201 := by rw [ByteArray.size_append]; omega
  have hz2 : (mB b ++ D ++ ⟨#[101]⟩).size ≤ 202 := by rw [ByteArray.size_append]; have : (⟨#[101]⟩ : ByteArray).size = 1 := rfl; omega
  have hi := itoa_le e0 e1
  cases b
  · obtain ⟨g2, c2, w2, hrun2, hO2, hB2⟩ := pushS (own_m0 (w.heap.size + 1) (w.alloc (.cells #[.bool false, .string D, .int .i64 E, .int .i64 X] 23))) (by omega) D h0 (by decide) (by omega)
    obtain ⟨g3, c3, w3, hrun3, hO3, hB3⟩ := push_e hO2 (by have := hB2.size; omega) (by omega)
    have hB13 := hB2.trans hB3
    have IT := itoa_own E (by omega) (by omega) w3 (Lib.tabBelow_of_tabIs htab w3 (HB0.out.trans (hB13.mono (by omega))))
    obtain ⟨-, hc1, hc2, hc3⟩ := box4 hB2
    obtain ⟨-, -, hd2, -⟩ := box4 hB13
    have HS : Hid (∀ w4, Below w3.heap.size w3 w4 → ∃ g c w5, (Builtin.append_ #[29, 9] 29 #[.slice (some ⟨g3, 0, none⟩) (mB false ++ D ++ ⟨#[101]⟩).size c3, .string (itoaB E)]).run Tryd.prog w4 = .ok (.slice (some ⟨g, 0, none⟩) (mB false ++ D ++ ⟨#[101]⟩ ++ itoaB E).size c) w5 ∧
        (convert 29 9 (.slice (some ⟨g, 0, none⟩) (mB false ++ D ++ ⟨#[101]⟩ ++ itoaB E).size c)).run Tryd.prog w5 = .ok (.string (mB false ++ D ++ ⟨#[101]⟩ ++ itoaB E)) w5 ∧ Below w.heap.size w w5) := by
      intro w4 hB4
      obtain ⟨g, c, w5, hr, hO, hB5⟩ := pushS (hO3.on hB4) (by have := hB13.size; have := hB4.size; omega) (itoaB E) i_pos (by omega) (by omega)
      exact ⟨g, c, w5, hr, strS hO, HB0.out.trans ((hB13.mono (by omega)).trans ((hB4.mono (by have := hB13.size; omega)).trans (hB5.mono (by omega))))⟩
    generalize mB false ++ D ++ ⟨#[101]⟩ ++ itoaB E = T at HS ⊢
    generalize itoaB E = I at HS IT
    generalize (mB false ++ D ++ ⟨#[101]⟩).size = n3 at HS hrun3
    generalize (mB false ++ D).size = n2 at hrun2 hrun3
    clear hO2 hO3 hB2 hB3 hB13 HB0 hsz hm hz1 hz2 hi htab
    go_enter Tryd.func7, Tryd.ntmps7
    go_wp2_with (first | (at_builtin; refine wpList_append_runs rfl _ _ 29 9 rfl (u := .slice none 0 0) (y := .string D) rfl rfl hrun2 ?_; clear hrun2) | (at_builtin; refine wpList_append_run rfl _ _ 29 rfl (u := .slice (some ⟨g2, 0, none⟩) n2 c2) (y := .slice (some ⟨w2.heap.size, 0, none⟩) 1 1) rfl rfl hrun3 ?_; clear hrun3) | (go_at_call 11; refine IT.mono ?_; rintro e w4 ⟨rfl, hB4⟩; obtain ⟨g, c, w5, hr5, CV, HB'⟩ := HS.out w4 hB4; have HB : Hid (Below w.heap.size w w5) := HB'; clear hB4 HS HB' IT) | (at_builtin; refine wpList_append_runs rfl _ _ 29 9 rfl (u := .slice (some ⟨g3, 0, none⟩) n3 c3) (y := .string I) rfl rfl hr5 ?_; clear hr5))
    go_ret
    exact ⟨rfl, HB.out⟩
  · obtain ⟨g1, c1, w1, hrun1, hO1, hB1⟩ := push_m (B := w.heap.size + 1) (w := w.alloc (.cells #[.bool true, .string D, .int .i64 E, .int .i64 X] 23)) (by omega)
    obtain ⟨g2, c2, w2, hrun2, hO2, hB2⟩ := pushS hO1 (by have := hB1.size; omega) D h0 (by decide) (by omega)
    have hB12 := hB1.trans hB2
    obtain ⟨g3, c3, w3, hrun3, hO3, hB3⟩ := push_e hO2 (by have := hB12.size; omega) (by omega)
    have hB13 := hB12.trans hB3
    have IT := itoa_own E (by omega) (by omega) w3 (Lib.tabBelow_of_tabIs htab w3 (HB0.out.trans (hB13.mono (by omega))))
    obtain ⟨-, hb1, hb2, hb3⟩ := box4 hB1
    obtain ⟨-, hc1, hc2, hc3⟩ := box4 hB12
    obtain ⟨-, -, hd2, -⟩ := box4 hB13
    have HS : Hid (∀ w4, Below w3.heap.size w3 w4 → ∃ g c w5, (Builtin.append_ #[29, 9] 29 #[.slice (some ⟨g3, 0, none⟩) (mB true ++ D ++ ⟨#[101]⟩).size c3, .string (itoaB E)]).run Tryd.prog w4 = .ok (.slice (some ⟨g, 0, none⟩) (mB true ++ D ++ ⟨#[101]⟩ ++ itoaB E).size c) w5 ∧
        (convert 29 9 (.slice (some ⟨g, 0, none⟩) (mB true ++ D ++ ⟨#[101]⟩ ++ itoaB E).size c)).run Tryd.prog w5 = .ok (.string (mB true ++ D ++ ⟨#[101]⟩ ++ itoaB E)) w5 ∧ Below w.heap.size w w5) := by
      intro w4 hB4
      obtain ⟨g, c, w5, hr, hO, hB5⟩ := pushS (hO3.on hB4) (by have := hB13.size; have := hB4.size; omega) (itoaB E) i_pos (by omega) (by omega)
      exact ⟨g, c, w5, hr, strS hO, HB0.out.trans ((hB13.mono (by omega)).trans ((hB4.mono (by have := hB13.size; omega)).trans (hB5.mono (by omega))))⟩
    generalize mB true ++ D ++ ⟨#[101]⟩ ++ itoaB E = T at HS ⊢
    generalize itoaB E = I at HS IT
    generalize (mB true ++ D ++ ⟨#[101]⟩).size = n3 at HS hrun3
    generalize (mB true ++ D).size = n2 at hrun2 hrun3
    rw [hsz] at hrun1
    clear hO1 hO2 hO3 hB1 hB2 hB3 hB12 hB13 HB0 hsz hm hz1 hz2 hi htab
    go_enter Tryd.func7, Tryd.ntmps7
    go_wp2_with (first | (at_builtin; refine wpList_append_run rfl _ _ 29 rfl (u := .slice none 0 0) (y := .slice (some ⟨w.heap.size + 1, 0, none⟩) 1 1) rfl rfl hrun1 ?_; clear hrun1) | (at_builtin; refine wpList_append_runs rfl _ _ 29 9 rfl (u := .slice (some ⟨g1, 0, none⟩) 1 c1) (y := .string D) rfl rfl hrun2 ?_; clear hrun2) | (at_builtin; refine wpList_append_run rfl _ _ 29 rfl (u := .slice (some ⟨g2, 0, none⟩) n2 c2) (y := .slice (some ⟨w2.heap.size, 0, none⟩) 1 1) rfl rfl hrun3 ?_; clear hrun3) | (go_at_call 11; refine IT.mono ?_; rintro e w4 ⟨rfl, hB4⟩; obtain ⟨g, c, w5, hr5, CV, HB'⟩ := HS.out w4 hB4; have HB : Hid (Below w.heap.size w w5) := HB'; clear hB4 HS HB' IT) | (at_builtin; refine wpList_append_runs rfl _ _ 29 9 rfl (u := .slice (some ⟨g3, 0, none⟩) n3 c3) (y := .string I) rfl rfl hr5 ?_; clear hr5))
    go_ret
    exact ⟨rfl, HB.out⟩

/-- Text of any number that is right. -/
theorem Text_any (b : Bool) (D : ByteArray) (E X : Int) (w : World) (hs : D.size ≤ 200) (h0 : X ≠ 2 → X ≠ 1 → 0 < D.size) (e0 : -2000000000 ≤ E) (e1 : E ≤ 2000000000) (htab : Lib.TabIs Tryd.prog w "internal/strconv.uint64pow10" .u64 Lib.pow10Tab) :
    Calls Tryd.prog 7 #[.agg #[.bool b, .string D, .int .i64 E, .int .i64 X]] w fun e w' => e = .returned (.string (textP b D E X)) ∧ Below w.heap.size w w' := by
  unfold textP
  by_cases x2 : X = 2
  · subst x2; rw [if_pos rfl]; exact text_nan b D E w
  · rw [if_neg x2]
    by_cases x1 : X = 1
    · subst x1; rw [if_pos rfl]; exact text_inf b D E w
    · rw [if_neg x1]
      by_cases hE : E = 0
      · subst hE; rw [if_pos rfl]; exact text_e0 b D X w (h0 x2 x1) hs (beq_false_of_ne x2) (beq_false_of_ne x1)
      · rw [if_neg hE]; exact text_en b D E X w (h0 x2 x1) hs (beq_false_of_ne x2) (beq_false_of_ne x1) (beq_false_of_ne hE) e0 e1 htab
end Go.Proofs.YtkhkgoimcbnpaaaDoor
