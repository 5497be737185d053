/- The walk of SchemaInts. -/
import Derived.Test.YtpffegkckejpiaaBas
import Derived.Test.YtpffegkckejpiaaRva
import Derived.Laws.BitsLemmas
set_option linter.unusedVariables false
set_option linter.unusedSimpArgs false
set_option maxRecDepth 100000
namespace Go.Proofs.Ytpffegkckejpiaa
open Go.RowKit

theorem and7 (n : Int) : bits .and .i64 n 7 = n % 8 := by
  have h : (BitVec.ofInt 64 7).toNat = 2 ^ 3 - 1 := by decide
  have key : (BitVec.ofInt 64 n &&& BitVec.ofInt 64 7).toNat = (n % ((2 ^ 64 : Nat) : Int)).toNat % 2 ^ 3 := by
    rw [BitVec.toNat_and, BitVec.toNat_ofInt, h, Nat.and_two_pow_sub_one_eq_mod]
  show IntKind.i64.wrap ((BitVec.ofInt 64 n &&& BitVec.ofInt 64 7).toNat : Nat) = n % 8
  rw [key, IntKind.wrap_i64]
  omega
theorem and15 (n : Int) : bits .and .i64 n 15 = n % 16 := by
  have h : (BitVec.ofInt 64 15).toNat = 2 ^ 4 - 1 := by decide
  have key : (BitVec.ofInt 64 n &&& BitVec.ofInt 64 15).toNat = (n % ((2 ^ 64 : Nat) : Int)).toNat % 2 ^ 4 := by
    rw [BitVec.toNat_and, BitVec.toNat_ofInt, h, Nat.and_two_pow_sub_one_eq_mod]
  show IntKind.i64.wrap ((BitVec.ofInt 64 n &&& BitVec.ofInt 64 15).toNat : Nat) = n % 16
  rw [key, IntKind.wrap_i64]
  omega
/-- Seven cells of a variable. -/
structure At7 (W : World) (g : Nat) (v0 v1 v2 v3 v4 v5 v6 : Value) : Prop where
  lt : g < W.heap.size
  c0 : W.cell? ⟨g, 0, none⟩ = some v0
  c1 : W.cell? ⟨g, 1, none⟩ = some v1
  c2 : W.cell? ⟨g, 2, none⟩ = some v2
  c3 : W.cell? ⟨g, 3, none⟩ = some v3
  c4 : W.cell? ⟨g, 4, none⟩ = some v4
  c5 : W.cell? ⟨g, 5, none⟩ = some v5
  c6 : W.cell? ⟨g, 6, none⟩ = some v6
theorem At7.new (W : World) (v0 v1 v2 v3 v4 v5 v6 : Value) : At7 (W.alloc (.cells #[v0, v1, v2, v3, v4, v5, v6] 29)) W.heap.size v0 v1 v2 v3 v4 v5 v6 := by
  obtain ⟨⟨r0, r1, r2, r3, r4, r5, r6⟩, -⟩ := res7 (w := W) (c0 := v0) (c1 := v1) (c2 := v2) (c3 := v3) (c4 := v4) (c5 := v5) (c6 := v6) (Below.refl _ _)
  exact ⟨by rw [size1]; exact Nat.lt_succ_self _, r0, r1, r2, r3, r4, r5, r6⟩
theorem At7.on {W W' : World} {g : Nat} {v0 v1 v2 v3 v4 v5 v6 : Value} (h : At7 W g v0 v1 v2 v3 v4 v5 v6) (hB : Below W.heap.size W W') : At7 W' g v0 v1 v2 v3 v4 v5 v6 :=
  ⟨Nat.lt_of_lt_of_le h.lt hB.size, (hB.cell h.lt).trans h.c0, (hB.cell h.lt).trans h.c1, (hB.cell h.lt).trans h.c2, (hB.cell h.lt).trans h.c3, (hB.cell h.lt).trans h.c4, (hB.cell h.lt).trans h.c5, (hB.cell h.lt).trans h.c6⟩
theorem At7.al {W : World} {g : Nat} {v0 v1 v2 v3 v4 v5 v6 : Value} (h : At7 W g v0 v1 v2 v3 v4 v5 v6) (o : Obj) : At7 (W.alloc o) g v0 v1 v2 v3 v4 v5 v6 :=
  h.on (below_alloc (Below.refl _ _) (Nat.le_refl _) o)
theorem val_int {s : ByteArray} {b : Bool} {D : ByteArray} {E : Int} (h : intN s = .agg #[.bool b, .string D, .int .i64 E, .int .i64 0]) (ho : intOk s = true) :
    valV intT s = .tuple #[.agg #[.int .i64 3, .bool false, .bool b, .string D, .int .i64 E, .int .i64 0, .string ⟨#[]⟩], .int .i64 0] := by
  unfold valV
  rw [if_neg (show ¬ (intT.toList == nullT.toList) = true by rw [intT_list, nullT_list]; decide), if_neg (show ¬ (intT.toList == boolT.toList) = true by rw [intT_list, boolT_list]; decide), if_pos (show (intT.toList == intT.toList) = true by simp), if_pos ho, h]
  rfl
theorem val_flt {s : ByteArray} {b : Bool} {D : ByteArray} {E : Int} (h : fltN s = .agg #[.bool b, .string D, .int .i64 E, .int .i64 0]) (ho : fltOk s = true) :
    valV floatT s = .tuple #[.agg #[.int .i64 4, .bool false, .bool b, .string D, .int .i64 E, .int .i64 0, .string ⟨#[]⟩], .int .i64 0] := by
  unfold valV numOk numC
  rw [ho, if_pos rfl]
  rw [if_neg (show ¬ (floatT.toList == nullT.toList) = true by rw [floatT_list, nullT_list]; decide), if_neg (show ¬ (floatT.toList == boolT.toList) = true by rw [floatT_list, boolT_list]; decide), if_neg (show ¬ (floatT.toList == intT.toList) = true by rw [floatT_list, intT_list]; decide), if_pos (show (floatT.toList == floatT.toList) = true by simp), Bool.true_or, if_pos rfl, h]
  rfl
theorem one_list (a : UInt8) (x : ByteArray) : ((⟨#[a]⟩ : ByteArray) ++ x).data.toList = [a] ++ x.data.toList := by simp
set_option maxHeartbeats 16000000 in
theorem ints_walk (n : Nat) (below : Bool) (w : World) (hn : (n : Int) ≤ 9223372036854775807) :
    Calls Try.prog 7 #[.int .i64 n, .bool below] w fun e w' => e = .returned (.bool true) ∧ Below w.heap.size w w' := by
  have DN := fun w => digits_any n w hn
  go_enter Try.func7, Try.ntmps7
  go_wp2_with fail
  refine (alive_any _).mono ?_
  rintro e w1 ⟨rfl, c1⟩
  go_wp2_with fail
  refine (DN _).mono ?_
  rintro e w2 ⟨rfl, rfl⟩
  go_wp2
  go_loop [7, 9] (fun sv kv => ∃ (k : Nat) (ds : List Nat), kv = .int .i64 k ∧ sv = .string (sB ds) ∧ k ≤ n ∧ Hid (Bst 8 n ds k)) (fun sv kv => (intOf kv).toNat + sEmp sv)
  case atStart => exact ⟨n, [], rfl, rfl, Nat.le_refl _, Bst.start 8 n (by omega)⟩
  case round =>
    obtain ⟨k, ds, rfl, rfl, hkn, HK⟩ := hrel
    have hki : (k : Int) ≤ 9223372036854775807 := by omega
    have E := one_oct (k % 8) (by omega)
    have AN := and7 (k : Int)
    have hdl := HK.out.len
    have A := run_string_add_sum (P := Try.prog) w2 ⟨#[chr (k % 8)]⟩ (sB ds) (by rw [sB_size, one_size]; omega)
    rw [← sB_snoc] at A
    have hM : sEmp (.string (sB (ds ++ [k % 8]))) = 0 := sEmp_snoc _ _
    by_cases h1 : 0 < k
    · have HK3 : Hid (Bst 8 n (ds ++ [k % 8]) (k / 8)) := HK.out.step (by decide) (.inl h1)
      have h1' : (0 : Int) < k := by omega
      obtain ⟨s2, hs2⟩ : ∃ s2, sB (ds ++ [k % 8]) = s2 := ⟨_, rfl⟩
      rw [hs2] at A hM
      have HM : Hid _ := hM
      have HS : Hid _ := hs2
      clear hM hs2
      go_wp2
      go_round
      case rel => exact ⟨k / 8, ds ++ [k % 8], by go_num, by rw [HS.out], by omega, HK3⟩
      case measure => simp only [intOf, HM.out]; omega
    · obtain rfl : k = 0 := by omega
      by_cases h2 : ds = []
      · subst h2
        have AN0 : bits .and .i64 0 7 = 0 := and7 0
        clear AN
        have HK3 : Hid (Bst 8 n ([] ++ [0 % 8]) (0 / 8)) := HK.out.step (by decide) (.inr rfl)
        rw [sB_nil] at A ⊢
        obtain ⟨s2, hs2⟩ : ∃ s2, sB ([] ++ [0 % 8]) = s2 := ⟨_, rfl⟩
        rw [hs2] at A hM
        have HM : Hid _ := hM
        have HS : Hid _ := hs2
        clear hM hs2
        go_wp2
        go_round
        case rel => exact ⟨0 / 8, [] ++ [0 % 8], by go_num, by rw [HS.out], by omega, HK3⟩
        case measure => simp only [intOf, HM.out, sEmp_nil]; omega
      · have hne := sB_not h2
        have HV8 : Hid _ := HK.out.end
        have HD8 : Hid _ := HK.out.1
        have hp8 : 0 < ds.length := List.length_pos_iff.2 h2
        have hq8 : ds.length ≤ 64 := hdl
        have hz8 : (sB ds).size ≤ 64 := by rw [sB_size]; exact hdl
        clear A hM E AN h2 HK hki hkn hdl h1
        generalize hs8 : sB ds = o8 at hne hz8 ⊢
        have HS8 : Hid _ := hs8
        clear hs8
        generalize hds8 : ds = ds8 at HV8 HD8 hp8 hq8 HS8
        clear hds8
        clear ds
        go_wp2
        clear hne
        go_loop [8, 10] (fun sv kv => ∃ (k : Nat) (ds : List Nat), kv = .int .i64 k ∧ sv = .string (sB ds) ∧ k ≤ n ∧ Hid (Bst 16 n ds k)) (fun sv kv => (intOf kv).toNat + sEmp sv)
        case atStart => exact ⟨n, [], rfl, rfl, Nat.le_refl _, Bst.start 16 n (by omega)⟩
        case round =>
          obtain ⟨k, ds, rfl, rfl, hkn, HK⟩ := hrel
          have hki : (k : Int) ≤ 9223372036854775807 := by omega
          have E := one_hex (k % 16) (by omega)
          have AN := and15 (k : Int)
          have hdl := HK.out.len
          have A := run_string_add_sum (P := Try.prog) w2 ⟨#[chr (k % 16)]⟩ (sB ds) (by rw [sB_size, one_size]; omega)
          rw [← sB_snoc] at A
          have hM : sEmp (.string (sB (ds ++ [k % 16]))) = 0 := sEmp_snoc _ _
          by_cases h1 : 0 < k
          · have HK3 : Hid (Bst 16 n (ds ++ [k % 16]) (k / 16)) := HK.out.step (by decide) (.inl h1)
            have h1' : (0 : Int) < k := by omega
            obtain ⟨s2, hs2⟩ : ∃ s2, sB (ds ++ [k % 16]) = s2 := ⟨_, rfl⟩
            rw [hs2] at A hM
            have HM : Hid _ := hM
            have HS : Hid _ := hs2
            clear hM hs2
            go_wp2
            go_round
            case rel => exact ⟨k / 16, ds ++ [k % 16], by go_num, by rw [HS.out], by omega, HK3⟩
            case measure => simp only [intOf, HM.out]; omega
          · obtain rfl : k = 0 := by omega
            by_cases h2 : ds = []
            · subst h2
              have AN0 : bits .and .i64 0 15 = 0 := and15 0
              clear AN
              have HK3 : Hid (Bst 16 n ([] ++ [0 % 16]) (0 / 16)) := HK.out.step (by decide) (.inr rfl)
              rw [sB_nil] at A ⊢
              obtain ⟨s2, hs2⟩ : ∃ s2, sB ([] ++ [0 % 16]) = s2 := ⟨_, rfl⟩
              rw [hs2] at A hM
              have HM : Hid _ := hM
              have HS : Hid _ := hs2
              clear hM hs2
              go_wp2
              go_round
              case rel => exact ⟨0 / 16, [] ++ [0 % 16], by go_num, by rw [HS.out], by omega, HK3⟩
              case measure => simp only [intOf, HM.out, sEmp_nil]; omega
            · have hne := sB_not h2
              have HV16 : Hid _ := HK.out.end
              have HD16 : Hid _ := HK.out.1
              have hp16 : 0 < ds.length := List.length_pos_iff.2 h2
              have hq16 : ds.length ≤ 64 := hdl
              have hz16 : (sB ds).size ≤ 64 := by rw [sB_size]; exact hdl
              clear A hM E AN h2 HK hki hkn hdl h1
              generalize hs16 : sB ds = o16 at hne hz16 ⊢
              have HS16 : Hid _ := hs16
              clear hs16
              generalize hds16 : ds = ds16 at HV16 HD16 hp16 hq16 HS16
              clear hds16
              clear ds
              have hd64 := dec_size n (by omega)
              obtain ⟨D, E, hDE⟩ := numV_DE n
              have RA := int_sgn (s := decB n) (sg := []) (b := false) (n := n) (.inl ⟨rfl, rfl⟩) rfl (by omega)
              rw [Bool.false_and, hDE] at RA
              have PA := fun w => Value_any intT (decB n) w (by omega)
              rw [val_int RA.1 RA.2] at PA
              have RB := int_oct HD8.out HV8.out hp8 (by omega)
              rw [hDE, HS8.out] at RB
              have SB := fun w => run_string_add_sum (P := Try.prog) w ⟨#[48, 111]⟩ o8 (by show (2 : Nat) + _ ≤ _; omega)
              have zB : ((⟨#[48, 111]⟩ : ByteArray) ++ o8).size ≤ 100000 := by rw [ByteArray.size_append]; show 2 + _ ≤ _; omega
              have RC := int_hex HD16.out HV16.out hp16 (by omega)
              rw [hDE, HS16.out] at RC
              have SC := fun w => run_string_add_sum (P := Try.prog) w ⟨#[48, 120]⟩ o16 (by show (2 : Nat) + _ ≤ _; omega)
              have zC : ((⟨#[48, 120]⟩ : ByteArray) ++ o16).size ≤ 100000 := by rw [ByteArray.size_append]; show 2 + _ ≤ _; omega
              generalize (⟨#[48, 111]⟩ : ByteArray) ++ o8 = sb at RB SB zB
              generalize (⟨#[48, 120]⟩ : ByteArray) ++ o16 = sc at RC SC zC
              have PB := fun w => Value_any intT sb w zB
              rw [val_int RB.1 RB.2] at PB
              have PC := fun w => Value_any intT sc w zC
              rw [val_int RC.1 RC.2] at PC
              clear RA RB RC zB zC HS8 HS16 HD8 HD16 HV8 HV16
              unfold intT at PA PB PC
              cases below
              · have SS := fun w => run_string_add_sum (P := Try.prog) w ⟨#[43]⟩ (decB n) (by show (1 : Nat) + _ ≤ _; omega)
                have zS : ((⟨#[43]⟩ : ByteArray) ++ decB n).size ≤ 100000 := by rw [ByteArray.size_append]; show 1 + _ ≤ _; omega
                have hls := one_list 43 (decB n)
                generalize (⟨#[43]⟩ : ByteArray) ++ decB n = ss at SS zS hls
                have RM := int_sgn (s := ss) (sg := [43]) (b := false) (n := n) (.inr (.inl ⟨rfl, rfl⟩)) hls (by omega)
                have RF := flt_sgn (s := ss) (sg := [43]) (b := false) (n := n) (.inr (.inl ⟨rfl, rfl⟩)) hls (by omega)
                rw [hDE] at RM RF
                have PM := fun w => Value_any intT ss w zS
                rw [val_int RM.1 RM.2] at PM
                have PF := fun w => Value_any floatT ss w zS
                rw [val_flt RF.1 RF.2] at PF
                unfold intT at PM
                unfold floatT at PF
                clear hls RM RF zS hDE
                rw [Bool.false_and] at PM
                generalize decB n = dn at PA SS
                go_wp2_with fail
                refine (PA _).mono ?_
                rintro e wa ⟨rfl, hB⟩
                have ha := below_step c1 c1.size hB
                have ha := below_alloc ha ha.size (.cells #[.int .i64 3, .bool false, .bool false, .string D, .int .i64 E, .int .i64 0, .string ⟨#[]⟩] 29)
                have Ca := At7.new wa (.int .i64 3) (.bool false) (.bool false) (.string D) (.int .i64 E) (.int .i64 0) (.string ⟨#[]⟩)
                clear hB
                go_wp2_with fail
                generalize wa.alloc (.cells #[.int .i64 3, .bool false, .bool false, .string D, .int .i64 E, .int .i64 0, .string ⟨#[]⟩] 29) = Va at Ca ha ⊢
                generalize wa.heap.size = ga at Ca ⊢
                refine (PB _).mono ?_
                rintro e wb ⟨rfl, hB⟩
                have Ca := (Ca.on hB).al (.cells #[.int .i64 3, .bool false, .bool false, .string D, .int .i64 E, .int .i64 0, .string ⟨#[]⟩] 29)
                have hb := below_step ha ha.size hB
                have hb := below_alloc hb hb.size (.cells #[.int .i64 3, .bool false, .bool false, .string D, .int .i64 E, .int .i64 0, .string ⟨#[]⟩] 29)
                have Cb := At7.new wb (.int .i64 3) (.bool false) (.bool false) (.string D) (.int .i64 E) (.int .i64 0) (.string ⟨#[]⟩)
                clear hB
                go_wp2_with fail
                generalize wb.alloc (.cells #[.int .i64 3, .bool false, .bool false, .string D, .int .i64 E, .int .i64 0, .string ⟨#[]⟩] 29) = Vb at Ca Cb hb ⊢
                generalize wb.heap.size = gb at Cb ⊢
                refine (PC _).mono ?_
                rintro e wc ⟨rfl, hB⟩
                have Ca := (Ca.on hB).al (.cells #[.int .i64 3, .bool false, .bool false, .string D, .int .i64 E, .int .i64 0, .string ⟨#[]⟩] 29)
                have Cb := (Cb.on hB).al (.cells #[.int .i64 3, .bool false, .bool false, .string D, .int .i64 E, .int .i64 0, .string ⟨#[]⟩] 29)
                have hc := below_step hb hb.size hB
                have hc := below_alloc hc hc.size (.cells #[.int .i64 3, .bool false, .bool false, .string D, .int .i64 E, .int .i64 0, .string ⟨#[]⟩] 29)
                have Cc := At7.new wc (.int .i64 3) (.bool false) (.bool false) (.string D) (.int .i64 E) (.int .i64 0) (.string ⟨#[]⟩)
                clear hB
                go_wp2_with fail
                generalize wc.alloc (.cells #[.int .i64 3, .bool false, .bool false, .string D, .int .i64 E, .int .i64 0, .string ⟨#[]⟩] 29) = Vc at Ca Cb Cc hc ⊢
                generalize wc.heap.size = gc at Cc ⊢
                refine (PM _).mono ?_
                rintro e wm ⟨rfl, hB⟩
                have Ca := (Ca.on hB).al (.cells #[.int .i64 3, .bool false, .bool false, .string D, .int .i64 E, .int .i64 0, .string ⟨#[]⟩] 29)
                have Cb := (Cb.on hB).al (.cells #[.int .i64 3, .bool false, .bool false, .string D, .int .i64 E, .int .i64 0, .string ⟨#[]⟩] 29)
                have Cc := (Cc.on hB).al (.cells #[.int .i64 3, .bool false, .bool false, .string D, .int .i64 E, .int .i64 0, .string ⟨#[]⟩] 29)
                have hm := below_step hc hc.size hB
                have hm := below_alloc hm hm.size (.cells #[.int .i64 3, .bool false, .bool false, .string D, .int .i64 E, .int .i64 0, .string ⟨#[]⟩] 29)
                have Cm := At7.new wm (.int .i64 3) (.bool false) (.bool false) (.string D) (.int .i64 E) (.int .i64 0) (.string ⟨#[]⟩)
                clear hB
                go_wp2_with fail
                generalize wm.alloc (.cells #[.int .i64 3, .bool false, .bool false, .string D, .int .i64 E, .int .i64 0, .string ⟨#[]⟩] 29) = Vm at Ca Cb Cc Cm hm ⊢
                generalize wm.heap.size = gm at Cm ⊢
                refine (PF _).mono ?_
                rintro e wf ⟨rfl, hB⟩
                have Ca := (Ca.on hB).al (.cells #[.int .i64 4, .bool false, .bool false, .string D, .int .i64 E, .int .i64 0, .string ⟨#[]⟩] 29)
                have Cb := (Cb.on hB).al (.cells #[.int .i64 4, .bool false, .bool false, .string D, .int .i64 E, .int .i64 0, .string ⟨#[]⟩] 29)
                have Cc := (Cc.on hB).al (.cells #[.int .i64 4, .bool false, .bool false, .string D, .int .i64 E, .int .i64 0, .string ⟨#[]⟩] 29)
                have Cm := (Cm.on hB).al (.cells #[.int .i64 4, .bool false, .bool false, .string D, .int .i64 E, .int .i64 0, .string ⟨#[]⟩] 29)
                have hf := below_step hm hm.size hB
                have hf := below_alloc hf hf.size (.cells #[.int .i64 4, .bool false, .bool false, .string D, .int .i64 E, .int .i64 0, .string ⟨#[]⟩] 29)
                have Cf := At7.new wf (.int .i64 4) (.bool false) (.bool false) (.string D) (.int .i64 E) (.int .i64 0) (.string ⟨#[]⟩)
                clear hB
                clear PA PB PC PM PF SB SC SS
                go_upto_region 23 with fail
                generalize wf.alloc (.cells #[.int .i64 4, .bool false, .bool false, .string D, .int .i64 E, .int .i64 0, .string ⟨#[]⟩] 29) = Vf at Ca Cb Cc Cm Cf hf ⊢
                generalize wf.heap.size = gf at Cf ⊢
                obtain ⟨-, a0, a1, a2, a3, a4, a5, a6⟩ := Ca
                obtain ⟨-, b0, b1, b2, b3, b4, b5, b6⟩ := Cb
                obtain ⟨-, c0, c1, c2, c3, c4, c5, c6⟩ := Cc
                obtain ⟨-, m0, m1, m2, m3, m4, m5, m6⟩ := Cm
                obtain ⟨-, f0, f1, f2, f3, f4, f5, f6⟩ := Cf
                go_wp2_with fail
                refine (num_any _ _).mono ?_
                rintro e w40 ⟨rfl, rfl⟩
                go_wp2_with fail
                refine (num_any _ _).mono ?_
                rintro e w41 ⟨rfl, rfl⟩
                go_wp2_with fail
                refine (num_any _ _).mono ?_
                rintro e w42 ⟨rfl, rfl⟩
                go_wp2_with fail
                refine (num_any _ _).mono ?_
                rintro e w43 ⟨rfl, rfl⟩
                go_wp2_with fail
                refine (num_any _ _).mono ?_
                rintro e w44 ⟨rfl, rfl⟩
                go_wp2
                go_ret
                exact ⟨rfl, hf⟩
              · have SS := fun w => run_string_add_sum (P := Try.prog) w ⟨#[45]⟩ (decB n) (by show (1 : Nat) + _ ≤ _; omega)
                have zS : ((⟨#[45]⟩ : ByteArray) ++ decB n).size ≤ 100000 := by rw [ByteArray.size_append]; show 1 + _ ≤ _; omega
                have hls := one_list 45 (decB n)
                generalize (⟨#[45]⟩ : ByteArray) ++ decB n = ss at SS zS hls
                have RM := int_sgn (s := ss) (sg := [45]) (b := true) (n := n) (.inr (.inr ⟨rfl, rfl⟩)) hls (by omega)
                have RF := flt_sgn (s := ss) (sg := [45]) (b := true) (n := n) (.inr (.inr ⟨rfl, rfl⟩)) hls (by omega)
                rw [hDE] at RM RF
                have PM := fun w => Value_any intT ss w zS
                rw [val_int RM.1 RM.2] at PM
                have PF := fun w => Value_any floatT ss w zS
                rw [val_flt RF.1 RF.2] at PF
                unfold intT at PM
                unfold floatT at PF
                clear hls RM RF zS hDE
                by_cases h0 : n = 0
                · rw [show (true && decide (n ≠ 0)) = false from by subst h0; rfl] at PM
                  have hn0 : ¬ (0 : Int) < n := by omega
                  have hnb : (decide ((0 : Int) < n)) = false := decide_eq_false hn0
                  clear h0
                  generalize decB n = dn at PA SS
                  go_wp2_with fail
                  refine (PA _).mono ?_
                  rintro e wa ⟨rfl, hB⟩
                  have ha := below_step c1 c1.size hB
                  have ha := below_alloc ha ha.size (.cells #[.int .i64 3, .bool false, .bool false, .string D, .int .i64 E, .int .i64 0, .string ⟨#[]⟩] 29)
                  have Ca := At7.new wa (.int .i64 3) (.bool false) (.bool false) (.string D) (.int .i64 E) (.int .i64 0) (.string ⟨#[]⟩)
                  clear hB
                  go_wp2_with fail
                  generalize wa.alloc (.cells #[.int .i64 3, .bool false, .bool false, .string D, .int .i64 E, .int .i64 0, .string ⟨#[]⟩] 29) = Va at Ca ha ⊢
                  generalize wa.heap.size = ga at Ca ⊢
                  refine (PB _).mono ?_
                  rintro e wb ⟨rfl, hB⟩
                  have Ca := (Ca.on hB).al (.cells #[.int .i64 3, .bool false, .bool false, .string D, .int .i64 E, .int .i64 0, .string ⟨#[]⟩] 29)
                  have hb := below_step ha ha.size hB
                  have hb := below_alloc hb hb.size (.cells #[.int .i64 3, .bool false, .bool false, .string D, .int .i64 E, .int .i64 0, .string ⟨#[]⟩] 29)
                  have Cb := At7.new wb (.int .i64 3) (.bool false) (.bool false) (.string D) (.int .i64 E) (.int .i64 0) (.string ⟨#[]⟩)
                  clear hB
                  go_wp2_with fail
                  generalize wb.alloc (.cells #[.int .i64 3, .bool false, .bool false, .string D, .int .i64 E, .int .i64 0, .string ⟨#[]⟩] 29) = Vb at Ca Cb hb ⊢
                  generalize wb.heap.size = gb at Cb ⊢
                  refine (PC _).mono ?_
                  rintro e wc ⟨rfl, hB⟩
                  have Ca := (Ca.on hB).al (.cells #[.int .i64 3, .bool false, .bool false, .string D, .int .i64 E, .int .i64 0, .string ⟨#[]⟩] 29)
                  have Cb := (Cb.on hB).al (.cells #[.int .i64 3, .bool false, .bool false, .string D, .int .i64 E, .int .i64 0, .string ⟨#[]⟩] 29)
                  have hc := below_step hb hb.size hB
                  have hc := below_alloc hc hc.size (.cells #[.int .i64 3, .bool false, .bool false, .string D, .int .i64 E, .int .i64 0, .string ⟨#[]⟩] 29)
                  have Cc := At7.new wc (.int .i64 3) (.bool false) (.bool false) (.string D) (.int .i64 E) (.int .i64 0) (.string ⟨#[]⟩)
                  clear hB
                  go_wp2_with fail
                  generalize wc.alloc (.cells #[.int .i64 3, .bool false, .bool false, .string D, .int .i64 E, .int .i64 0, .string ⟨#[]⟩] 29) = Vc at Ca Cb Cc hc ⊢
                  generalize wc.heap.size = gc at Cc ⊢
                  refine (PM _).mono ?_
                  rintro e wm ⟨rfl, hB⟩
                  have Ca := (Ca.on hB).al (.cells #[.int .i64 3, .bool false, .bool false, .string D, .int .i64 E, .int .i64 0, .string ⟨#[]⟩] 29)
                  have Cb := (Cb.on hB).al (.cells #[.int .i64 3, .bool false, .bool false, .string D, .int .i64 E, .int .i64 0, .string ⟨#[]⟩] 29)
                  have Cc := (Cc.on hB).al (.cells #[.int .i64 3, .bool false, .bool false, .string D, .int .i64 E, .int .i64 0, .string ⟨#[]⟩] 29)
                  have hm := below_step hc hc.size hB
                  have hm := below_alloc hm hm.size (.cells #[.int .i64 3, .bool false, .bool false, .string D, .int .i64 E, .int .i64 0, .string ⟨#[]⟩] 29)
                  have Cm := At7.new wm (.int .i64 3) (.bool false) (.bool false) (.string D) (.int .i64 E) (.int .i64 0) (.string ⟨#[]⟩)
                  clear hB
                  go_wp2_with fail
                  generalize wm.alloc (.cells #[.int .i64 3, .bool false, .bool false, .string D, .int .i64 E, .int .i64 0, .string ⟨#[]⟩] 29) = Vm at Ca Cb Cc Cm hm ⊢
                  generalize wm.heap.size = gm at Cm ⊢
                  refine (PF _).mono ?_
                  rintro e wf ⟨rfl, hB⟩
                  have Ca := (Ca.on hB).al (.cells #[.int .i64 4, .bool false, .bool true, .string D, .int .i64 E, .int .i64 0, .string ⟨#[]⟩] 29)
                  have Cb := (Cb.on hB).al (.cells #[.int .i64 4, .bool false, .bool true, .string D, .int .i64 E, .int .i64 0, .string ⟨#[]⟩] 29)
                  have Cc := (Cc.on hB).al (.cells #[.int .i64 4, .bool false, .bool true, .string D, .int .i64 E, .int .i64 0, .string ⟨#[]⟩] 29)
                  have Cm := (Cm.on hB).al (.cells #[.int .i64 4, .bool false, .bool true, .string D, .int .i64 E, .int .i64 0, .string ⟨#[]⟩] 29)
                  have hf := below_step hm hm.size hB
                  have hf := below_alloc hf hf.size (.cells #[.int .i64 4, .bool false, .bool true, .string D, .int .i64 E, .int .i64 0, .string ⟨#[]⟩] 29)
                  have Cf := At7.new wf (.int .i64 4) (.bool false) (.bool true) (.string D) (.int .i64 E) (.int .i64 0) (.string ⟨#[]⟩)
                  clear hB
                  clear PA PB PC PM PF SB SC SS
                  go_upto_region 23 with fail
                  generalize wf.alloc (.cells #[.int .i64 4, .bool false, .bool true, .string D, .int .i64 E, .int .i64 0, .string ⟨#[]⟩] 29) = Vf at Ca Cb Cc Cm Cf hf ⊢
                  generalize wf.heap.size = gf at Cf ⊢
                  obtain ⟨-, a0, a1, a2, a3, a4, a5, a6⟩ := Ca
                  obtain ⟨-, b0, b1, b2, b3, b4, b5, b6⟩ := Cb
                  obtain ⟨-, c0, c1, c2, c3, c4, c5, c6⟩ := Cc
                  obtain ⟨-, m0, m1, m2, m3, m4, m5, m6⟩ := Cm
                  obtain ⟨-, f0, f1, f2, f3, f4, f5, f6⟩ := Cf
                  go_wp2_with fail
                  refine (num_any _ _).mono ?_
                  rintro e w40 ⟨rfl, rfl⟩
                  go_wp2_with fail
                  refine (num_any _ _).mono ?_
                  rintro e w41 ⟨rfl, rfl⟩
                  go_wp2_with fail
                  refine (num_any _ _).mono ?_
                  rintro e w42 ⟨rfl, rfl⟩
                  go_wp2_with fail
                  refine (num_any _ _).mono ?_
                  rintro e w43 ⟨rfl, rfl⟩
                  go_wp2_with fail
                  refine (num_any _ _).mono ?_
                  rintro e w44 ⟨rfl, rfl⟩
                  go_wp2
                  go_ret
                  exact ⟨rfl, hf⟩
                · rw [show (true && decide (n ≠ 0)) = true from by rw [decide_eq_true h0]; rfl] at PM
                  have hn0 : (0 : Int) < n := by omega
                  have hnb : (decide ((0 : Int) < n)) = true := decide_eq_true hn0
                  clear h0
                  generalize decB n = dn at PA SS
                  go_wp2_with fail
                  refine (PA _).mono ?_
                  rintro e wa ⟨rfl, hB⟩
                  have ha := below_step c1 c1.size hB
                  have ha := below_alloc ha ha.size (.cells #[.int .i64 3, .bool false, .bool false, .string D, .int .i64 E, .int .i64 0, .string ⟨#[]⟩] 29)
                  have Ca := At7.new wa (.int .i64 3) (.bool false) (.bool false) (.string D) (.int .i64 E) (.int .i64 0) (.string ⟨#[]⟩)
                  clear hB
                  go_wp2_with fail
                  generalize wa.alloc (.cells #[.int .i64 3, .bool false, .bool false, .string D, .int .i64 E, .int .i64 0, .string ⟨#[]⟩] 29) = Va at Ca ha ⊢
                  generalize wa.heap.size = ga at Ca ⊢
                  refine (PB _).mono ?_
                  rintro e wb ⟨rfl, hB⟩
                  have Ca := (Ca.on hB).al (.cells #[.int .i64 3, .bool false, .bool false, .string D, .int .i64 E, .int .i64 0, .string ⟨#[]⟩] 29)
                  have hb := below_step ha ha.size hB
                  have hb := below_alloc hb hb.size (.cells #[.int .i64 3, .bool false, .bool false, .string D, .int .i64 E, .int .i64 0, .string ⟨#[]⟩] 29)
                  have Cb := At7.new wb (.int .i64 3) (.bool false) (.bool false) (.string D) (.int .i64 E) (.int .i64 0) (.string ⟨#[]⟩)
                  clear hB
                  go_wp2_with fail
                  generalize wb.alloc (.cells #[.int .i64 3, .bool false, .bool false, .string D, .int .i64 E, .int .i64 0, .string ⟨#[]⟩] 29) = Vb at Ca Cb hb ⊢
                  generalize wb.heap.size = gb at Cb ⊢
                  refine (PC _).mono ?_
                  rintro e wc ⟨rfl, hB⟩
                  have Ca := (Ca.on hB).al (.cells #[.int .i64 3, .bool false, .bool false, .string D, .int .i64 E, .int .i64 0, .string ⟨#[]⟩] 29)
                  have Cb := (Cb.on hB).al (.cells #[.int .i64 3, .bool false, .bool false, .string D, .int .i64 E, .int .i64 0, .string ⟨#[]⟩] 29)
                  have hc := below_step hb hb.size hB
                  have hc := below_alloc hc hc.size (.cells #[.int .i64 3, .bool false, .bool false, .string D, .int .i64 E, .int .i64 0, .string ⟨#[]⟩] 29)
                  have Cc := At7.new wc (.int .i64 3) (.bool false) (.bool false) (.string D) (.int .i64 E) (.int .i64 0) (.string ⟨#[]⟩)
                  clear hB
                  go_wp2_with fail
                  generalize wc.alloc (.cells #[.int .i64 3, .bool false, .bool false, .string D, .int .i64 E, .int .i64 0, .string ⟨#[]⟩] 29) = Vc at Ca Cb Cc hc ⊢
                  generalize wc.heap.size = gc at Cc ⊢
                  refine (PM _).mono ?_
                  rintro e wm ⟨rfl, hB⟩
                  have Ca := (Ca.on hB).al (.cells #[.int .i64 3, .bool false, .bool true, .string D, .int .i64 E, .int .i64 0, .string ⟨#[]⟩] 29)
                  have Cb := (Cb.on hB).al (.cells #[.int .i64 3, .bool false, .bool true, .string D, .int .i64 E, .int .i64 0, .string ⟨#[]⟩] 29)
                  have Cc := (Cc.on hB).al (.cells #[.int .i64 3, .bool false, .bool true, .string D, .int .i64 E, .int .i64 0, .string ⟨#[]⟩] 29)
                  have hm := below_step hc hc.size hB
                  have hm := below_alloc hm hm.size (.cells #[.int .i64 3, .bool false, .bool true, .string D, .int .i64 E, .int .i64 0, .string ⟨#[]⟩] 29)
                  have Cm := At7.new wm (.int .i64 3) (.bool false) (.bool true) (.string D) (.int .i64 E) (.int .i64 0) (.string ⟨#[]⟩)
                  clear hB
                  go_wp2_with fail
                  generalize wm.alloc (.cells #[.int .i64 3, .bool false, .bool true, .string D, .int .i64 E, .int .i64 0, .string ⟨#[]⟩] 29) = Vm at Ca Cb Cc Cm hm ⊢
                  generalize wm.heap.size = gm at Cm ⊢
                  refine (PF _).mono ?_
                  rintro e wf ⟨rfl, hB⟩
                  have Ca := (Ca.on hB).al (.cells #[.int .i64 4, .bool false, .bool true, .string D, .int .i64 E, .int .i64 0, .string ⟨#[]⟩] 29)
                  have Cb := (Cb.on hB).al (.cells #[.int .i64 4, .bool false, .bool true, .string D, .int .i64 E, .int .i64 0, .string ⟨#[]⟩] 29)
                  have Cc := (Cc.on hB).al (.cells #[.int .i64 4, .bool false, .bool true, .string D, .int .i64 E, .int .i64 0, .string ⟨#[]⟩] 29)
                  have Cm := (Cm.on hB).al (.cells #[.int .i64 4, .bool false, .bool true, .string D, .int .i64 E, .int .i64 0, .string ⟨#[]⟩] 29)
                  have hf := below_step hm hm.size hB
                  have hf := below_alloc hf hf.size (.cells #[.int .i64 4, .bool false, .bool true, .string D, .int .i64 E, .int .i64 0, .string ⟨#[]⟩] 29)
                  have Cf := At7.new wf (.int .i64 4) (.bool false) (.bool true) (.string D) (.int .i64 E) (.int .i64 0) (.string ⟨#[]⟩)
                  clear hB
                  clear PA PB PC PM PF SB SC SS
                  go_upto_region 23 with fail
                  generalize wf.alloc (.cells #[.int .i64 4, .bool false, .bool true, .string D, .int .i64 E, .int .i64 0, .string ⟨#[]⟩] 29) = Vf at Ca Cb Cc Cm Cf hf ⊢
                  generalize wf.heap.size = gf at Cf ⊢
                  obtain ⟨-, a0, a1, a2, a3, a4, a5, a6⟩ := Ca
                  obtain ⟨-, b0, b1, b2, b3, b4, b5, b6⟩ := Cb
                  obtain ⟨-, c0, c1, c2, c3, c4, c5, c6⟩ := Cc
                  obtain ⟨-, m0, m1, m2, m3, m4, m5, m6⟩ := Cm
                  obtain ⟨-, f0, f1, f2, f3, f4, f5, f6⟩ := Cf
                  go_wp2_with fail
                  refine (num_any _ _).mono ?_
                  rintro e w40 ⟨rfl, rfl⟩
                  go_wp2_with fail
                  refine (num_any _ _).mono ?_
                  rintro e w41 ⟨rfl, rfl⟩
                  go_wp2_with fail
                  refine (num_any _ _).mono ?_
                  rintro e w42 ⟨rfl, rfl⟩
                  go_wp2_with fail
                  refine (num_any _ _).mono ?_
                  rintro e w43 ⟨rfl, rfl⟩
                  go_wp2_with fail
                  refine (num_any _ _).mono ?_
                  rintro e w44 ⟨rfl, rfl⟩
                  go_wp2
                  go_ret
                  exact ⟨rfl, hf⟩
end Go.Proofs.Ytpffegkckejpiaa
