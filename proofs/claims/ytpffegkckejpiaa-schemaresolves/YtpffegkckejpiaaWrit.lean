/- text: a list of decimal digits as it is written. -/
import Derived.Test.YtpffegkckejpiaaBack
import Derived.Test.YtpffegkckejpiaaRefC
set_option linter.unusedVariables false
set_option linter.unusedSimpArgs false
namespace Go.Proofs.Ytpffegkckejpiaa
open Go.RowKit Go.Shelf
attribute [local go_sem] Oper.semAt_some

set_option maxRecDepth 100000 in
set_option maxHeartbeats 1000000 in
theorem text_nil (p : Option Addr) (cap : Nat) (w : World) :
    Calls Try.prog 53 #[.slice p 0 cap] w fun e w' => e = .returned (.string ⟨#[48]⟩) ∧ w' = w := by
  go_enter Try.func53, Try.ntmps53
  go_wp2
  go_ret
  exact ⟨rfl, rfl⟩

/-- The world in which text's loop begins. -/
def tW (w1 : World) (h : Nat) (c : Nat) (p : Option Addr) (len cap : Nat) : World :=
  (w1.alloc (.cells #[.slice (some ⟨h, 0, none⟩) 0 c] 60)).alloc (.cells #[.slice p len cap] 62)

theorem tW_facts (w w1 : World) (c : Nat) (p : Option Addr) (len cap : Nat) (hO : Own .u8 5 w.heap.size w1 (.slice (some ⟨w.heap.size, 0, none⟩) 0 c) []) (hB : Below w.heap.size w w1) (hz : w1.heap.size = w.heap.size + 1) :
    (tW w1 w.heap.size c p len cap).heap.size = w.heap.size + 3 ∧ Boxed (tW w1 w.heap.size c p len cap) (w.heap.size + 1) 60 (.slice (some ⟨w.heap.size, 0, none⟩) 0 c) ∧ Boxed (tW w1 w.heap.size c p len cap) (w.heap.size + 1 + 1) 62 (.slice p len cap) ∧
    Own .u8 5 w.heap.size (tW w1 w.heap.size c p len cap) (.slice (some ⟨w.heap.size, 0, none⟩) 0 c) [] ∧ Below w.heap.size w (tW w1 w.heap.size c p len cap) := by
  have b1 := Boxed.new w1 60 (.slice (some ⟨w.heap.size, 0, none⟩) 0 c)
  have b2 := Boxed.new (w1.alloc (.cells #[.slice (some ⟨w.heap.size, 0, none⟩) 0 c] 60)) 62 (.slice p len cap)
  have hs : (w1.alloc (.cells #[.slice (some ⟨w.heap.size, 0, none⟩) 0 c] 60)).heap.size = w.heap.size + 1 + 1 := by rw [World.size_alloc, hz]
  have hbl : Below w1.heap.size w1 (tW w1 w.heap.size c p len cap) := by
    refine ((Below.refl _ w1).alloc (Nat.le_refl _) _).alloc ?_ _
    rw [hs]; omega
  refine ⟨?_, ?_, ?_, hO.on hbl, hB.trans (hbl.mono (by omega))⟩
  · unfold tW; rw [World.size_alloc, hs]
  · have := b1.alloc (.cells #[.slice p len cap] 62)
    rw [← hz]
    exact this
  · rw [hs] at b2
    exact b2

/-- Between two rounds of text. -/
def TInv (w : World) (p : Option Addr) (cap : Nat) (L : List Nat) (pre : List (Pl L)) (W : World) : Prop :=
  (∃ v, Boxed W (w.heap.size + 1) 60 v ∧ W.ownsRow w.heap.size 5 1 v pre.length (pre.map fun x => Value.int .u8 (48 + (nAt L x.1 : Int))) ∧ True) ∧
  Boxed W (w.heap.size + 1 + 1) 62 (.slice p L.length cap) ∧ Below w.heap.size w W
theorem TInv_own (w : World) (p : Option Addr) (cap : Nat) (L : List Nat) (B : Nat) (hB : w.heap.size ≤ B) : OwnFrom B (TInv w p cap L) :=
  OwnFrom.and (Own.from (holdsRow_own w.heap.size (w.heap.size + 1) 60 5 1 (fun pre : List (Pl L) => pre.length) (fun pre => pre.map fun x => Value.int .u8 (48 + (nAt L x.1 : Int))) (fun _ _ => True)) _)
    (OwnFrom.and (Own.from (boxed_own _ _ _) _) (ownFrom_below (Nat.le_refl _) hB))

theorem down_map (L : List Nat) : ∀ k, k ≤ L.length → (down k).map (nAt L) = (L.take k).reverse
  | 0, _ => by simp [down]
  | k + 1, h => by
    rw [down, List.map_cons, down_map L k (by omega), take_snoc (by omega), List.reverse_append]
    rfl

set_option maxRecDepth 100000 in
set_option maxHeartbeats 2000000 in
theorem text_in (n : Nat) (hn : 3 ≤ n) (p : Option Addr) (cap : Nat) (L : List Nat) (w : World) (hl : 0 < L.length) (hm : L.length ≤ 10000000) (hd : Dg 10 L) (hI : Rd .u8 w p L) :
    CallsIn Fence.wide n Try.prog 53 #[.slice p L.length cap] w fun e w' => e = .returned (.string (textB L)) ∧ Below w.heap.size w w' := by
  have h1 : 1 ≤ n := by omega
  obtain ⟨i0, hi, hz0, hz1, hz2⟩ := info_parts Try.info5
  obtain ⟨w1, MK, hO0, hB0, hz⟩ := own_make (t := 60) Try.underlying60 Try.info5 (by decide) w.heap.size w L.length (by omega) (Nat.le_refl _)
  have HT : Hid _ := tW_facts w w1 L.length p L.length cap hO0 hB0 hz
  have HZ : Hid (w1.heap.size = w.heap.size + 1) := hz
  have hne : ((L.length : Int) == 0) = false := beq_false_of_ne (by omega)
  clear hO0 hB0 hz
  refine callsIn_of_wp_marks Try.func53 rfl trivial ?_ rfl
  simp only [Try.ntmps53, List.size_toArray, List.length_cons, List.length_nil, Nat.reduceAdd, Nat.reduceSub, Array.replicate_succ, Array.replicate_zero, List.push_toArray, List.append_toArray, List.nil_append, List.cons_append]
  gi_wp2_with (first | (refine ⟨trivial, ?_⟩; gi_at_call 69; refine (backward_in _ _ _ _ _).mono ?_; rintro e w' ⟨rfl, rfl⟩))
  rw [HZ.out]
  change Code.wpIn _ _ _ _ _ _ (tW w1 w.heap.size L.length p L.length cap)
  obtain ⟨hsz, bL, bB, hO0, hbw⟩ := HT.out
  clear HT HZ MK
  generalize tW w1 w.heap.size L.length p L.length cap = W0 at hsz bL bB hO0 hbw ⊢
  refine wpIn_rangeFunc_ownG rfl h1 (gf := 78) (lb := #[.pointer (some ⟨w.heap.size + 1 + 1, 0, none⟩)]) rfl trivial (enters_of Try.func78 (by kernel_rfl) rfl)
    (back_stops (n - 1) (by omega) (w.heap.size + 1 + 1) w.heap.size cap p L (by omega) W0 (by omega) (by omega) bB.cell (hI.on hbw) hI.lt)
    (fun h k => Kp.trans h k) (hKb1 (by omega) (by omega)) (Below.refl _ _) (fun _ => rfl)
    (TInv w p cap L) (fun _ _ _ => False) (TInv_own w p cap L _ (by omega)) (fun c => ownFrom_pure _ _)
    ⟨⟨_, bL, hO0, trivial⟩, bB, hbw⟩
    (fun x => { tmps := #[.slice p L.length cap, undef, .string ⟨#[]⟩, .pointer (some ⟨w.heap.size + 1, 0, none⟩), undef, .int .u8 (nAt L x.1 : Nat), .slice p L.length cap, .int .i64 L.length, .bool false, .slice p L.length cap, .int .i64 L.length, .slice (some ⟨w.heap.size, 0, none⟩) 0 L.length, .slice p L.length cap, .func (.func 78) #[] #[.pointer (some ⟨w.heap.size + 1 + 1, 0, none⟩)], .int .i64 (x.1 : Nat), .int .u8 (nAt L x.1 : Nat), undef, undef, undef, undef, undef, undef, undef], defers := [] }) ?assign ?body ?done ?stop
  case assign =>
    intro l x W K hK
    simp only [encB]
    gi_wp2
    exact hK
  case body =>
    clear bL bB hO0
    rintro l pre x W ⟨⟨v, hv, hrow, -⟩, bB, hB⟩ hlt
    have hcl := hv.cell
    have hWs : w.heap.size + 3 ≤ W.heap.size := by have := bB.lt; omega
    have hdx := hd.at x.2
    have hdi : (nAt L x.1 : Int) < 10 := by omega
    gi_wp2_with (gi_at_builtin; refine wpListIn_append_own _ rfl _ _ 60 rfl w.heap.size 5 i0 (.int .u8 0) 1 1 Try.underlying60 hi hz0 hz1 hz2 rfl (by decide) _ _ _ rfl (hrow.alloc _) ⟨W.heap.size, 0, none⟩ 1 1 [.int .u8 (48 + (nAt L x.1 : Int))] rfl rfl (cell_one_new _ _ _) (by simp [Value.oneCell']) (by unfold maxLen; omega) (by omega) (by simp; omega) ?_; intro v' w1 hown' hgrow _; obtain ⟨g', cap', rfl⟩ := ownsRow_succ hown'; obtain ⟨hv1, hv2, hr2, hk2, hb2⟩ := hv.appended (by decide) hrow hB.size (by omega) hown' hgrow; have hc1 := hv1.cell; have hf1 := hv1.frozen)
    have bB' : Boxed (w1.setCell ⟨w.heap.size + 1, 0, none⟩ (.slice (some ⟨g', 0, none⟩) (pre.length + 1) cap')) (w.heap.size + 1 + 1) 62 (.slice p L.length cap) := ((bB.alloc _).kept hgrow (bB.not_row (by decide) hrow)).other (by omega) _
    refine ⟨hk2.from _, ⟨hb2, Eq.trans bB' (Eq.symm bB)⟩, ⟨_, hv2, ?_, trivial⟩, bB', hB.trans hb2⟩
    simpa using hr2
  case done =>
    rintro D ys W hD hys ⟨⟨v, hv, hrow, -⟩, bB', hB⟩ hK
    have hrow' : Own .u8 5 w.heap.size W v ((L.map (48 + ·)).reverse) := by
      have e2 : (ys.map fun x => Value.int .u8 (48 + (nAt L x.1 : Int))) = vi .u8 (L.map (48 + ·)).reverse := by
        have h3 := down_map L L.length (Nat.le_refl _)
        rw [List.take_length] at h3
        have h4 : (ys.map fun x => Value.int .u8 (48 + (nAt L x.1 : Int))) = ((ys.map (·.1)).map (nAt L)).map fun (d : Nat) => Value.int .u8 (48 + (d : Int)) := by simp [List.map_map, Function.comp_def]
        rw [h4, hys, h3, vi, ← List.map_reverse, List.map_map]
        apply List.map_congr_left
        intro d _
        simp
      have e3 : ys.length = (L.map (48 + ·)).reverse.length := by
        have := congrArg List.length hys
        rw [down_len] at this
        simpa using this
      unfold Own
      rw [← e2, ← e3]
      exact hrow
    obtain ⟨a, c, rfl, hc1, hc2, -, -, hpn, hp0⟩ := hrow'.form
    cases a with
    | none => have h5 := congrArg List.length (hpn rfl).1; rw [List.length_reverse, List.length_map, List.length_nil] at h5; omega
    | some a =>
      have ea := hp0 a rfl
      generalize a.block = g at ea
      subst ea
      have CV := own_string hrow' (mapped_dg hd)
      have HT : Hid ((⟨((L.map (48 + ·)).reverse.map UInt8.ofNat).toArray⟩ : ByteArray) = textB L) := by
        unfold textB
        rw [if_neg (by intro e; rw [e] at hl; simp at hl), ← List.map_reverse, List.map_map]
        rfl
      rw [HT.out] at CV
      generalize ((L.map (48 + ·)).reverse).length = nn at CV hv
      have hcl := hv.cell
      clear hpn hp0 hrow hrow'
      gi_wp2
      refine ⟨by simp, .inl ⟨_, _, rfl, run_takeDeferred hK, ?_⟩⟩
      have B2 := hB.trans (belowK_b (w := w) (Nat.le_refl _) _ D _ (.deferred none) (by omega) hK rfl rfl)
      refine ⟨.string (textB L), ?_, rfl, B2⟩
      simp [results, Try.results53, go_sem]
  case stop =>
    rintro D c pre W hD hpre h hK
    exact absurd h (by simp)

/-- text of any list of decimal digits. -/
theorem text_any (p : Option Addr) (cap : Nat) (L : List Nat) (w : World) (hm : L.length ≤ 10000000) (hd : Dg 10 L) (hI : Rd .u8 w p L) :
    Calls Try.prog 53 #[.slice p L.length cap] w fun e w' => e = .returned (.string (textB L)) ∧ Below w.heap.size w w' := by
  by_cases hl : 0 < L.length
  · exact (callsIn_wide (n := 3)).1 (text_in 3 (Nat.le_refl _) p cap L w hl hm hd hI)
  · obtain rfl : L = [] := List.eq_nil_of_length_eq_zero (by omega)
    refine (text_nil p cap w).mono ?_
    rintro e w' ⟨rfl, rfl⟩
    exact ⟨rfl, Below.refl _ _⟩
end Go.Proofs.Ytpffegkckejpiaa
