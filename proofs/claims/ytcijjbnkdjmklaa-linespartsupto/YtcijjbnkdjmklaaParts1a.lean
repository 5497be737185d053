/- LinesParts' walk where the two texts are read one behind the other: which = 1, the second text empty. -/
import Derived.Test.YtcijjbnkdjmklaaPartsS
set_option linter.unusedVariables false
set_option linter.unusedSimpArgs false
namespace Go.Proofs.Ytcijjbnkdjmklaa
open Go.RowKit Go.Shelf

set_option maxRecDepth 100000 in
set_option maxHeartbeats 8000000 in
theorem parts1a (p q : Option Addr) (a b : List Int) (c1 c2 : Nat) (w : World) (h1 : Is w p a) (h2 : Is w q b)
    (F1 : ∀ w2, Is w2 p a → Calls Try.prog 9 #[.slice p a.length c1] w2 fun e w' => ∃ v, e = .returned (.tuple #[v, .int .i64 0]) ∧ Below w2.heap.size w2 w' ∧ Rws w' w2.heap.size v (linesP a))
    (F2 : ∀ w2, Is w2 q b → Calls Try.prog 9 #[.slice q b.length c2] w2 fun e w' => ∃ v, e = .returned (.tuple #[v, .int .i64 0]) ∧ Below w2.heap.size w2 w' ∧ Rws w' w2.heap.size v (linesP b))
    (R : ∀ s c w2, (a ++ [13] ++ b).length ≤ c → c ≤ maxLen → Is w2 s (a ++ [13] ++ b) → Calls Try.prog 8 #[.slice s (a ++ [13] ++ b).length c] w2 fun e w' => ∃ v, e = .returned (.tuple #[v, .int .i64 0]) ∧ Below w2.heap.size w2 w' ∧ Rws w' w2.heap.size v (linesP a ++ linesP b))
    (hna : a.length ≤ 300) (hnb : b.length ≤ 300)
    (t1 : decide (300 < (a.length : Int)) = false) (t2 : decide (300 < (b.length : Int)) = false) (t3 : ((a.length : Int) == 0) = false) (hn : 0 < a.length) (x : Int) (hx : iAt a (a.length - 1) = x) (hx1 : (x == 10) = false) (hx2 : (x == 13) = false) (tb : decide (0 < (b.length : Int)) = false) (hb0 : ¬ (0 : Int) < (b.length : Int)) (hb1 : ¬ 0 < b.length) :
    Calls Try.prog 5 #[.slice p a.length c1, .slice q b.length c2, .int .i64 1] w fun e w' => e = .returned (.bool true) ∧ Below w.heap.size w w' := by
  go_enter Try.func5, Try.ntmps5
  go_wp2_with (first | (go_at_call 7; refine (alive_any _).mono ?_; rintro e W ⟨rfl, hB⟩; have hIa := h1.on hB) | fail)
  refine (F1 _ hIa).mono ?_
  rintro e W1 ⟨xv, rfl, hb1, hr1⟩
  have hB1 := hB.trans (hb1.mono hB.size)
  have hIb := h2.on hB1
  obtain ⟨xa, xc, rfl, -, -, -, -⟩ := hr1.read
  go_wp2_with fail
  refine (F2 _ hIb).mono ?_
  rintro e W2 ⟨yv, rfl, hb2, hr2⟩
  have hB2 := hB1.trans (hb2.mono hB1.size)
  have hr1' := hr1.on hb2
  obtain ⟨ya, yc, rfl, -, -, -, -⟩ := hr2.read
  have hr1k := hr1
  clear F1 F2 hIa hIb hr1
  go_upto_region 8 with fail
  obtain ⟨hE, hEc, hIe⟩ := ends_1 W2
  have hI3 := h1.on (hB2.trans (hE.mono hB2.size))
  have hI3b := h2.on (hB2.trans (hE.mono hB2.size))
  have hr1e := hr1'.on hE
  have hr2e := hr2.on hE
  have hb3 := hE
  change Code.wp _ _ _ _ (endsW W2)
  generalize endsW W2 = W3 at hE hEc hIe hI3 hI3b hr1e hr2e hb3 ⊢
  obtain ⟨ab, ao, rfl, hac⟩ := hI3.at hn
  have c0 := hac (a.length - 1) (by omega)
  rw [hx] at c0
  have hli : ((a.length : Int) - 1) = ((a.length - 1 : Nat) : Int) := by omega
  have hnl : ((a.length - 1 : Nat) : Int) < a.length := by omega
  clear hac
  go_wp2
  obtain ⟨v1, w4, hrun1, hO1, v1a, v1k, v1c, rfl⟩ := OwnI.start W3.drew (some ⟨ab, ao, none⟩) a c1 hI3.drew (by omega)
  have hIe4 : Is w4 (some ⟨W2.heap.size + 1, 0, none⟩) [13] := hIe.drew.on hO1.2
  obtain ⟨v2, w5, hrun2, hO2, v2a, v2k, v2c, rfl⟩ := hO1.more (some ⟨W2.heap.size + 1, 0, none⟩) [13] 1 hIe4 (by simp; omega)
  have hrun2 : (Builtin.append_ #[22, 22] 22 #[.slice v1a v1k v1c, .slice (some ⟨W2.heap.size + 1, 0, none⟩) 1 1]).run Try.prog w4 = .ok (.slice v2a v2k v2c) w5 := hrun2
  obtain ⟨v3, w6, hrun3, hO3, v3a, v3k, v3c, rfl⟩ := hO2.more q b c2 (hI3b.drew.on hO2.2) (by simp; omega)
  obtain ⟨hI6, hk3, hk1, hk2⟩ := is_of_row hO3.1
  have RR := R _ _ w6 (by omega) hk2 hI6
  rw [← hk3] at RR
  have ce4 : w4.cell? ⟨W2.heap.size + 1 + 1 + 1, 1, none⟩ = some (.slice (some ⟨W2.heap.size + 1, 0, none⟩) 1 1) := (hO1.2.cell (p := ⟨W2.heap.size + 1 + 1 + 1, 1, none⟩) (World.block_lt_of_cell? W3 _ hEc)).trans hEc
  have hB36 : Below W3.heap.size W3 w6 := ((Below.refl _ W3).drew).trans hO3.2
  have hB3 : Below w.heap.size w W3 := hB2.trans (hb3.mono hB2.size)
  have hs1 := hb1.size
  have hs2 := hb2.size
  have hs3 := hb3.size
  have hcntA := lines_count a
  have hcntB := lines_count b
  have hsA := lines_small a
  have hsB := lines_small b
  clear hk3 hk1
  generalize linesP a = LA at *
  generalize linesP b = LB at *
  have HP : ∀ la lk lc w7, Below w6.heap.size w6 w7 → Rws w7 w6.heap.size (.slice la lk lc) (LA ++ LB) → _ := fun la lk lc w7 hb7 hr7 => parts_end (w := w) hr1k hr1e hr2e hs1 (by omega) (hB36.trans (hb7.mono hB36.size)) hB36.size hr7 hB3 hB.size (by omega)
  have SL := fun pa qa c d w8 h1 h2 => same_lines pa qa (LA ++ LB) c d w8 (by rw [List.length_append]; omega) (fun x hx => by rcases List.mem_append.1 hx with h | h; have := hsA x h; omega; have := hsB x h; omega) h1 h2
  simp only [List.length_append] at SL
  clear R hO1 hO2 hO3 hI6 hIe hIe4 hI3 hI3b hsA hsB
  go_region_law (first | (refine step_append_run (u := .slice none 0 0) (y := .slice (some ⟨ab, ao, none⟩) a.length c1) rfl _ _ 22 rfl rfl rfl hrun1 ?_) | (refine step_append_run (u := .slice v1a v1k v1c) (y := .slice (some ⟨W2.heap.size + 1, 0, none⟩) 1 1) rfl _ _ 22 rfl rfl rfl hrun2 ?_) | (refine step_append_run (u := .slice v2a v2k v2c) (y := .slice q b.length c2) rfl _ _ 22 rfl rfl rfl hrun3 ?_) | (go_simp; go_at_call 8; refine RR.mono ?_; rintro e w7 ⟨lv, rfl, hb7, hr7⟩; obtain ⟨la, lk, lc, rfl⟩ := hr7.form; obtain ⟨a8, c8, w8, hrun8, hB8, hLl, hL8, hlk⟩ := HP la lk lc w7 hb7 hr7; rw [List.length_append] at hrun8 hlk; subst hlk; clear hr7))
  all_goals
    clear RR HP hrun1 hrun2 hrun3 ce4
    go_wp2_with (first | (go_at_call 10; refine (num_any _ _).mono ?_; rintro e w' ⟨rfl, rfl⟩) | (at_builtin; refine wpList_append_runW (u := .slice xa LA.length xc) (y := .slice ya LB.length yc) rfl _ _ 24 rfl rfl rfl hrun8 ?_) | (go_at_call 11; refine (SL _ _ _ _ _ hLl hL8).mono ?_; rintro e w9 ⟨rfl, m, rfl⟩))
    go_ret
    exact ⟨rfl, belowN hB8 _⟩
end Go.Proofs.Ytcijjbnkdjmklaa
