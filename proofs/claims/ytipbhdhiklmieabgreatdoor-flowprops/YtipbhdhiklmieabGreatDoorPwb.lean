/- FlowProps' walk, one way. -/
import Derived.Test.YtipbhdhiklmieabGreatDoorZBC
set_option linter.unusedVariables false
set_option linter.unusedSimpArgs false
namespace Go.Proofs.YtipbhdhiklmieabGreatDoor
open Go.RowKit Go.Shelf
set_option maxRecDepth 100000 in
set_option maxHeartbeats 30000000 in
theorem props_ft (i j : Nat) (w : World) (hi : i < 7) (hj : j < 4) (hT : P7.Tab w) : Calls Tryz.prog 4 #[.int .i64 (i : Nat), .int .i64 (j : Nat), .bool false, .bool true] w fun e w' => e = .returned (.bool true) ∧ Below w.heap.size w w' := by
 have h0 : ¬ (i : Int) < 0 := by omega
 have h1 : ¬ (7 : Int) ≤ (i : Int) := by omega
 have h2 : (i : Int) < 7 := by omega
 have h3 : ¬ (j : Int) < 0 := by omega
 have h4 : ¬ (4 : Int) ≤ (j : Int) := by omega
 have h5 : (j : Int) < 4 := by omega
 have LG : Hid (∀ hq, _ = _) := fun hq => gstr_at j hj hq
 have CN : Hid (∀ W : World, ((W.alloc (.cells (nodS.map Value.string).toArray 9)).alloc (.cells (gapS.map Value.string).toArray 9)).cell? ⟨W.heap.size, i, none⟩ = some (.string (nodS.getD i ⟨#[]⟩)) ∧ ((W.alloc (.cells (nodS.map Value.string).toArray 9)).alloc (.cells (gapS.map Value.string).toArray 9)).cell? ⟨W.heap.size + 1, j, none⟩ = some (.string (gapS.getD j ⟨#[]⟩))) := fun W => tabs_at W i j hi hj
 obtain ⟨⟨hgz, hnz⟩, hf1, hf2, i1, k1, x, l, i2, k2, hll, hans, hans2⟩ := prp_is (prp_at hi hj false true)
 generalize nodS.getD i ⟨#[]⟩ = n at CN hf1 hf2 hans hans2 hnz
 generalize gapS.getD j ⟨#[]⟩ = g at LG CN hf2 hans2 hgz
 have z1 : (⟨#[38, 120]⟩ ++ g : ByteArray).size ≤ 200 := by rw [apZ]; show 2 + g.size ≤ 200; omega
 have z2 : ((⟨#[38, 120]⟩ ++ g) ++ ⟨#[33, 116]⟩ : ByteArray).size ≤ 300 := by rw [apZ]; show _ + 2 ≤ 300; omega
 have z3 : (((⟨#[38, 120]⟩ ++ g) ++ ⟨#[33, 116]⟩) ++ g : ByteArray).size ≤ 400 := by rw [apZ]; omega
 have S1 := addS ⟨#[38, 120]⟩ g (by decide) (by omega)
 have S2 := addS (⟨#[38, 120]⟩ ++ g) ⟨#[33, 116]⟩ (by omega) (by decide)
 have S3 := addS ((⟨#[38, 120]⟩ ++ g) ++ ⟨#[33, 116]⟩) g (by omega) (by omega)
 have S4 := addS (((⟨#[38, 120]⟩ ++ g) ++ ⟨#[33, 116]⟩) ++ g) n (by omega) (by omega)
 have L1 := fun W => Lines_txt n hf1 W
 have L2 := fun W => Lines_txt (prpT g n false true) hf2 W
 obtain ⟨hl6, -, -⟩ := fit_asc hf1
 obtain ⟨hl7, -, -⟩ := fit_asc hf2
 have HL : Hid ((lpsO (bI n)).length ≤ 600 ∧ (bI n).length ≤ 1300) := ⟨by have := lps_len (bI n); omega, by omega⟩
 have HM : Hid ((lpsO (bI (prpT g n false true))).length ≤ 600 ∧ (bI (prpT g n false true)).length ≤ 1300) := ⟨by have := lps_len (bI (prpT g n false true)); omega, by omega⟩
 have HA : Hid (ansW (bI n) 0 40 = some (0, i1, k1, x :: l)) := hans
 have HB : Hid (ansW (bI (prpT g n false true)) 0 40 = some (0, i2, k2, named true x :: l)) := hans2
 have AL := alive_any w hT
 have HT : Hid (P7.Tab w) := hT
 clear hf1 hf2 hl6 hl7 hans hans2 hT
 go_enter Tryz.func4, Tryz.ntmps4
 go_wp2_with fail
 refine AL.mono ?_
 clear AL
 rintro e w1 ⟨rfl, hB1⟩
 have hz : w.heap.size ≤ w1.heap.size := hB1.size
 go_upto_region 6 with fail
 rw [nod_lit, gap_lit]
 obtain ⟨cn, cg⟩ := CN.out w1
 have hw0 : Below w.heap.size w ((w1.alloc (.cells (nodS.map Value.string).toArray 9)).alloc (.cells (gapS.map Value.string).toArray 9)) := (hB1.alloc hz _).alloc (by simp; omega) _
 have hs0 := size_two w1 (.cells (nodS.map Value.string).toArray 9) (.cells (gapS.map Value.string).toArray 9)
 generalize (w1.alloc (.cells (nodS.map Value.string).toArray 9)).alloc (.cells (gapS.map Value.string).toArray 9) = W0 at cn cg hw0 hs0 ⊢
 clear CN LG
 go_wp2
 go_quiet (fail)
 go_wp2_with fail
 refine (L2 _).mono ?_
 clear L2
 rintro e W1 ⟨p1, n1, c1, rfl, hg1, hb1⟩
 have cn1 : W1.cell? ⟨w1.heap.size, i, none⟩ = some (.string n) := (hb1.cell (p := ⟨w1.heap.size, i, none⟩) (by show w1.heap.size < W0.heap.size; omega)).trans cn
 have hw1 : Below w.heap.size w W1 := hw0.trans ⟨hb1.os, hb1.tape, hb1.output, hb1.size, fun k hk => hb1.block k (by show k < W0.heap.size; omega)⟩
 have hs1 : w1.heap.size + 2 ≤ W1.heap.size := by have : W0.heap.size ≤ W1.heap.size := hb1.size; omega
 have NW := New_txt c1 hg1 HM.out.1 HM.out.2
 clear hg1 hb1 cn cg
 go_wp2_with fail
 refine NW.mono ?_
 clear NW
 rintro e W2 ⟨rb, rfl, hr2, hb2⟩
 have hw2 := hw1.trans (hb2.mono hw1.size)
 have cn2 := (hb2.cell (p := ⟨w1.heap.size, i, none⟩) (by show w1.heap.size < W1.heap.size; omega)).trans cn1
 have NO := Node_row hr2 HM.out.1 HM.out.2 (HT.out.on hw2) (by decide) (by decide) HB.out
 have hz2 := hb2.size
 clear hr2 cn1 hb2
 go_wp2_with fail
 refine NO.mono ?_
 clear NO
 rintro e W3 ⟨p3, c3, rfl, he3, ha3, hb3⟩
 have hw3 := hw2.trans (hb3.mono hw2.size)
 have cn3 := (hb3.cell (p := ⟨w1.heap.size, i, none⟩) (by show w1.heap.size < W2.heap.size; omega)).trans cn2
 have HE3 : Hid (EvL W3 p3 (named true x :: l) ∧ ∀ a, p3 = some a → a.block < W3.heap.size) := ⟨he3, fun a e => (ha3 a e).2.1⟩
 have hz3 := hb3.size
 clear he3 ha3 hb3 cn2 HB HM
 go_wp2_with fail
 refine (L1 _).mono ?_
 clear L1
 rintro e W4 ⟨p4, n4, c4, rfl, hg4, hb4⟩
 have hw4 := hw3.trans (hb4.mono hw3.size)
 have NW := New_txt c4 hg4 HL.out.1 HL.out.2
 clear hg4 cn3
 go_wp2_with fail
 refine NW.mono ?_
 clear NW
 rintro e W5 ⟨rb5, rfl, hr5, hb5⟩
 have hw5 := hw4.trans (hb5.mono hw4.size)
 have NO := Node_row hr5 HL.out.1 HL.out.2 (HT.out.on hw5) (by decide) (by decide) HA.out
 clear hr5
 go_wp2_with fail
 refine NO.mono ?_
 clear NO
 rintro e W6 ⟨p6, c6, rfl, he6, ha6, hb6⟩
 have hw6 := hw5.trans (hb6.mono hw5.size)
 have h36 : Below W3.heap.size W3 W6 := (hb4.trans (hb5.mono hb4.size)).trans (hb6.mono (hb4.trans (hb5.mono hb4.size)).size)
 have HE6 : Hid (EvL W6 p3 (named true x :: l) ∧ ∀ a, p3 = some a → a.block < W5.heap.size) := ⟨HE3.out.1.on HE3.out.2 h36, fun a e => by have := HE3.out.2 a e; have := hb4.size; have := hb5.size; omega⟩
 obtain ⟨g6, rfl, f0, f1, f2, f3, f4, f5⟩ := he6 0 x rfl
 rw [Nat.zero_mul] at f0 f1 f2 f3 f4 f5
 rw [Nat.zero_add] at f1 f2 f3 f4 f5
 obtain ⟨hg6, hg6', hfz⟩ := ha6 _ rfl
 have z2 := hfz 2
 have z3 := hfz 3
 have hgw : w.heap.size ≤ g6 := by have := hw5.size; have : W5.heap.size ≤ g6 := hg6; omega
 have HE7 : Hid (EvL W6 (some ⟨g6, 0, none⟩) (x :: l)) := he6
 have HX : Hid (∀ a, p3 = some a → a.block ≠ g6) := fun a e => by have := HE6.out.2 a e; have : W5.heap.size ≤ g6 := hg6; omega
 clear he6 ha6 hfz HE3 hb4 hb5 hb6 h36 HA HL HT hg6 hg6' f0 f1 f4 f5
 have f2' : (W6.setCell ⟨g6, 3, none⟩ (.string ⟨#[120]⟩)).cell? ⟨g6, 2, none⟩ = some (.string x.tg) := (World.cell?_setCell_other _ _ _ _ (fun e => by rw [Addr.mk.injEq] at e; exact absurd e.2.1 (by decide))).trans f2
 have z2' : (W6.setCell ⟨g6, 3, none⟩ (.string ⟨#[120]⟩)).frozen? ⟨g6, 2, none⟩ = false := by rw [World.frozen?_setCell]; exact z2
 have HF : Hid (EvL ((W6.setCell ⟨g6, 3, none⟩ (.string ⟨#[120]⟩)).setCell ⟨g6, 2, none⟩ (.string ⟨#[33, 116]⟩)) (some ⟨g6, 0, none⟩) (named true x :: l)) := (HE7.out.head (y := { x with an := ⟨#[120]⟩ }) (by decide) f3 rfl).head (by decide) f2' rfl
 have HG : Hid (EvL ((W6.setCell ⟨g6, 3, none⟩ (.string ⟨#[120]⟩)).setCell ⟨g6, 2, none⟩ (.string ⟨#[33, 116]⟩)) p3 (named true x :: l)) := HE6.out.1.apart HX.out _ |>.apart HX.out _
 have hw7 : Below w.heap.size w ((W6.setCell ⟨g6, 3, none⟩ (.string ⟨#[120]⟩)).setCell ⟨g6, 2, none⟩ (.string ⟨#[33, 116]⟩)) := (hw6.setCell (p := ⟨g6, 3, none⟩) hgw _).setCell (p := ⟨g6, 2, none⟩) hgw _
 have SE : Calls Tryz.prog 11 #[.slice p3 (l.length + 1) c3, .slice (some ⟨g6, 0, none⟩) (l.length + 1) c6] ((W6.setCell ⟨g6, 3, none⟩ (.string ⟨#[120]⟩)).setCell ⟨g6, 2, none⟩ (.string ⟨#[33, 116]⟩)) fun e w' => e = .returned (.bool true) ∧ ∃ k, w' = World.drewN ((W6.setCell ⟨g6, 3, none⟩ (.string ⟨#[120]⟩)).setCell ⟨g6, 2, none⟩ (.string ⟨#[33, 116]⟩)) k := same_events (ev := named true x :: l) c3 c6 (by show l.length + 1 ≤ _; omega) HG.out HF.out
 clear HE6 HE7 HX HF HG hw6
 go_wp2_with (first | (go_at_call 10; refine (num_any _ _).mono ?_; rintro e W7 ⟨rfl, rfl⟩) | (go_at_call 11; refine SE.mono ?_; clear SE; rintro e W8 ⟨rfl, k8, rfl⟩))
 go_ret
 exact ⟨rfl, hw7.os, hw7.tape, hw7.output, hw7.size, hw7.block⟩
end Go.Proofs.YtipbhdhiklmieabGreatDoor
