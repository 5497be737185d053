/- UtfLong answers true whatever number it is given. -/
import Derived.Test.YtdkodepeglpimaaDoorAlive
import Derived.Test.YtdkodepeglpimaaDoorLongP
set_option linter.unusedVariables false
set_option linter.unusedSimpArgs false
namespace Go.Proofs.YtdkodepeglpimaaDoor
open Go.RowKit Go.Shelf

theorem Tryd.info5 : (Tryd.prog.info? 5).map (fun i => (i.zero, i.size, i.bytes)) = some (some (.int .u8 0), 1, 1) := by kernel_rfl

def filled (n k : Nat) : List Value := List.replicate k (.int .u8 120) ++ List.replicate (n - k) (.int .u8 0)
theorem filled_set (n k : Nat) (h : k < n) : (filled n k).set k (.int .u8 120) = filled n (k + 1) := by
  unfold filled
  rw [List.set_append_right _ _ (by simp), List.length_replicate, Nat.sub_self, show n - k = (n - (k + 1)) + 1 from by omega, List.replicate_succ, List.set_cons_zero, List.replicate_succ', List.append_assoc]
  rfl

theorem made_zero (n : Nat) : (madeCells (Value.int .u8 0).cells (n * 1)).toList = filled n 0 := by
  unfold filled madeCells
  rw [Nat.mul_one, Nat.sub_zero, List.replicate_zero, List.nil_append]
  apply List.ext_getElem
  · simp
  · intro i h1 h2
    simp [Value.cells, Nat.mod_one]

theorem long_points (n g base : Nat) (W : World) (hn : (n : Int) ≤ 1048578) (hT : Lib.Utf8Tabs 0 1 W) (h1 : 1 < W.heap.size) (hr : W.ownsRow base 5 1 (.slice (some ⟨g, 0, none⟩) n n) n (filled n n)) :
    Calls Tryd.prog 9 #[.slice (some ⟨g, 0, none⟩) n n] W fun e w' => ∃ v, e = .returned (.tuple #[v, .int .i64 (ptsOf (List.replicate n 120)).2]) ∧ w'.ownsRow W.heap.size 3 1 v (ptsOf (List.replicate n 120)).1.length ((ptsOf (List.replicate n 120)).1.map (.int .i64)) ∧ Below W.heap.size W w' := by
  have hf : filled n n = List.replicate n (.int .u8 120) := by unfold filled; simp
  have hg := (hr.lt g rfl).2
  have := Points_any (some ⟨g, 0, none⟩) (List.replicate n 120) n W (by simp) (by unfold maxLen; omega) ⟨.inr ⟨g, 0, rfl, fun j hj => by
    rw [Nat.zero_add, hr.cellAt j (by simp at hj; omega), hf]
    simp at hj
    simp [hj]⟩, hT, h1, fun a e _ => by cases e; exact hg⟩
  rw [List.length_replicate] at this
  exact this

set_option maxRecDepth 100000 in
set_option maxHeartbeats 1000000 in
theorem long_mid (more : Int) (n : Nat) (w : World) (hT : Lib.Utf8Tabs 0 1 w) (h1 : 1 < w.heap.size) (g0 : -2 ≤ more) (g1 : more ≤ 2) (hn : 1048576 + more = n) :
    Calls Tryd.prog 6 #[.int .i64 more] w fun e w' => e = .returned (.bool true) ∧ Below w.heap.size w w' := by
  have A := alive_any w hT h1
  have HN : Hid (1048576 + more = n) := hn
  have hn1 : (n : Int) ≤ 1048578 := by omega
  have t1 : decide (more < -2) = false := by simp; omega
  have t2 : decide (2 < more) = false := by simp; omega
  obtain ⟨i0, hi, hz0, hz1, hz2⟩ := info_parts Tryd.info5
  clear hn
  go_enter Tryd.func6, Tryd.ntmps6
  go_wp2_with (first | (go_at_call 8; refine A.mono ?_; rintro e w1 ⟨rfl, hb⟩) | (at_make; refine wpList_make_full _ rfl _ _ 22 rfl w.heap.size 5 i0 (.int .u8 0) 1 Tryd.underlying22 hi hz0 hz1 .i64 .i64 _ _ n rfl rfl (by first | exact HN.out) (by first | exact HN.out) (by rw [hz2]; omega) (by unfold maxLen; omega) (by have := hb.size; omega) ?_; intro w2 hown hgrow))
  have hown0 : w2.ownsRow w.heap.size 5 1 (.slice (some ⟨w1.heap.size, 0, none⟩) n n) n (filled n 0) := by rw [made_zero] at hown; exact hown
  have hB0 : Below w.heap.size w w2 := hb.grown hgrow hb.size (fun k e => by cases e)
  clear hown hgrow A hi hz0 hz1 hz2
  generalize w1.heap.size = g at hown0 ⊢
  go_loopw [5] (fun i wr => ∃ k : Nat, k ≤ n ∧ i = .int .i64 k ∧ wr.ownsRow w.heap.size 5 1 (.slice (some ⟨g, 0, none⟩) n n) n (filled n k) ∧ Below w.heap.size w wr) (fun i _ => n - (intOf i).toNat)
  case atStart => exact ⟨0, Nat.zero_le _, rfl, hown0, hB0⟩
  case round =>
    obtain ⟨k, hk, rfl, hr, hB⟩ := hrel
    by_cases hlt : k < n
    · have hcl : wr.cell? ⟨g, k, none⟩ = some ((filled n k)[k]?.getD undef) := by
        rw [hr.cellAt k (by omega)]
        have : k < (filled n k).length := by rw [hr.1]; omega
        simp [this]
      have hfr := hr.frozenAt k
      have S := hr.stored k (.int .u8 120)
      rw [filled_set n k hlt] at S
      have SB := hB.setCell (p := ⟨g, k, none⟩) (hr.lt g rfl).1 (.int .u8 120)
      have HS : Hid ((wr.setCell ⟨g, k, none⟩ (.int .u8 120)).ownsRow w.heap.size 5 1 (.slice (some ⟨g, 0, none⟩) n n) n (filled n (k + 1))) := S.1
      clear S hr hown0 hB0 hb hT HN
      generalize (filled n k)[k]?.getD undef = u at hcl
      go_wp2
      go_roundw
      case rel => exact ⟨k + 1, by omega, by go_num, HS.out, SB⟩
      case measure => simp [intOf]; omega
    · obtain rfl : k = n := by omega
      have hP := long_points k g w.heap.size wr (by omega) (tabs_below hT h1 hB) (by have := hB.size; omega) hr
      have hsz := hB.size
      by_cases hm : 0 < more
      · rw [pts_x_long k (by have := HN.out; omega)] at hP
        clear hT hown0 hB0 hb hr HN
        go_wp2_with (first | (go_at_call 9; refine hP.mono ?_; rintro e w3 ⟨v, rfl, ho, hb3⟩; obtain ⟨a, m, c, rfl⟩ := ownsRow_form ho; obtain rfl : m = 0 := (by obtain ⟨-, ⟨e, -⟩ | ⟨g, cap, cur, e, -⟩⟩ := ho <;> cases e <;> rfl)) | (go_at_call 13; refine (num_any _ _).mono ?_; rintro e w' ⟨rfl, rfl⟩))
        go_ret
        exact ⟨rfl, hB.trans (hb3.mono hsz)⟩
      · rw [pts_x k (by have := HN.out; omega)] at hP
        simp only [List.length_replicate] at hP
        clear hT hown0 hB0 hb hr HN
        go_wp2_with (first | (go_at_call 9; refine hP.mono ?_; rintro e w3 ⟨v, rfl, ho, hb3⟩; obtain ⟨a, m, c, rfl⟩ := ownsRow_form ho; obtain rfl : m = k := (by obtain ⟨-, ⟨e, e2⟩ | ⟨g, cap, cur, e, -⟩⟩ := ho <;> cases e <;> (try rfl); exact e2.symm)) | (go_at_call 13; refine (num_any _ _).mono ?_; rintro e w' ⟨rfl, rfl⟩))
        go_ret
        exact ⟨ret_bool (by simp), hB.trans (hb3.mono hsz)⟩

set_option maxHeartbeats 400000 in
theorem long_out (more : Int) (w : World) (hT : Lib.Utf8Tabs 0 1 w) (h1 : 1 < w.heap.size) (h : more < -2 ∨ 2 < more) :
    Calls Tryd.prog 6 #[.int .i64 more] w fun e w' => e = .returned (.bool true) ∧ Below w.heap.size w w' := by
  have A := alive_any w hT h1
  clear hT
  rcases h with h | h
  · go_enter Tryd.func6, Tryd.ntmps6
    go_wp2_with (go_at_call 8; refine A.mono ?_; rintro e w1 ⟨rfl, hb⟩)
    go_ret
    exact ⟨rfl, hb⟩
  · go_enter Tryd.func6, Tryd.ntmps6
    go_wp2_with (go_at_call 8; refine A.mono ?_; rintro e w1 ⟨rfl, hb⟩)
    go_ret
    exact ⟨rfl, hb⟩

theorem long_any (more : Int) (w : World) (hT : Lib.Utf8Tabs 0 1 w) (h1 : 1 < w.heap.size) :
    Calls Tryd.prog 6 #[.int .i64 more] w fun e w' => e = .returned (.bool true) ∧ Below w.heap.size w w' := by
  by_cases h : more < -2 ∨ 2 < more
  · exact long_out more w hT h1 h
  · obtain ⟨n, hn⟩ := Int.eq_ofNat_of_zero_le (by omega : 0 ≤ 1048576 + more)
    exact long_mid more n w hT h1 (by omega) (by omega) hn
end Go.Proofs.YtdkodepeglpimaaDoor
