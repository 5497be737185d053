/- The document's small: the code points of UTF-8, as the code tells them. -/
import Derived.Test.YtdkodepeglpimaaDoorPoint
import Derived.Test.YtdkodepeglpimaaDoorPts
set_option linter.unusedVariables false
set_option linter.unusedSimpArgs false
namespace Go.Proofs.YtdkodepeglpimaaDoor
open Go.RowKit Go.Shelf

theorem point_any (p : Option Addr) (l : List UInt8) (cap : Nat) (w : World) (hn : 0 < l.length) (hl : (l.length : Int) ≤ 1048576) (h : Bs w p l) :
    Calls Tryd.prog 30 #[.slice p l.length cap] w fun e w' => e = .returned (.tuple #[.int .i64 (f8 l).1, .int .i64 (f8 l).2]) ∧ w' = w := by
  obtain ⟨b, o, rfl, hcl⟩ := h.at hn
  have hc : ∀ j, j < l.length → w.cell? ⟨b, o + j, none⟩ = some (.int .u8 (bt l j)) := hcl
  have b0 := bt_lt l 0
  rw [← pointP_eq]
  unfold pointP
  by_cases hA : bt l 0 < 128
  · rw [if_pos hA]
    exact point_a b o l.length cap _ w hn (hc 0 hn) (by omega) (by omega)
  rw [if_neg hA]
  by_cases hB : bt l 0 < 194
  · rw [if_pos hB]
    exact point_b b o l.length cap _ w hn (hc 0 hn) (by omega) (.inl (by omega)) (by omega)
  rw [if_neg hB]
  by_cases hC : bt l 0 < 224
  · rw [if_pos hC]
    by_cases hs : l.length < 2
    · have : multi 2 128 (bt l 0 % 32) l = (0, 0) := by unfold multi; rw [if_pos hs]
      rw [this]
      exact point_c_short b o l.length cap _ w hn (hc 0 hn) (by omega) (by omega) (by omega)
    · exact point_c b o cap l w hl (by omega) hc (by omega) (by omega)
  rw [if_neg hC]
  by_cases hD : bt l 0 < 240
  · rw [if_pos hD]
    by_cases hs : l.length < 3
    · have : multi 3 2048 (bt l 0 % 16) l = (0, 0) := by unfold multi; rw [if_pos hs]
      rw [this]
      exact point_d_short b o l.length cap _ w hn (hc 0 hn) (by omega) (by omega) (by omega)
    · exact point_d b o cap l w hl (by omega) hc (by omega) (by omega)
  rw [if_neg hD]
  by_cases hE : bt l 0 < 245
  · rw [if_pos hE]
    by_cases hs : l.length < 4
    · have : multi 4 65536 (bt l 0 % 8) l = (0, 0) := by unfold multi; rw [if_pos hs]
      rw [this]
      exact point_e_short b o l.length cap _ w hn (hc 0 hn) (by omega) (by omega) (by omega)
    · exact point_e b o cap l w hl (by omega) hc (by omega) (by omega)
  rw [if_neg hE]
  exact point_b b o l.length cap _ w hn (hc 0 hn) (by omega) (.inr (by omega)) (by omega)

theorem point_at (k b o cap n₀ : Nat) (bs : List UInt8) (w : World) (hk : k < bs.length) (hl : (bs.length : Int) ≤ 1048576) (h : Bs w (some ⟨b, o, none⟩) bs) (d1 d2 : Int) (hd : firstP 1 (bs.drop k) = (d1, d2)) :
    Calls Tryd.prog 30 #[.slice (some ⟨b, o + k, none⟩) (bs.length - k) (cap - k)] w fun e w' => e = .returned (.tuple #[.int .i64 d1, .int .i64 d2]) ∧ w' = w := by
  have h1 := point_any (some ⟨b, o + k, none⟩) (bs.drop k) (cap - k) w (by simp; omega) (by simp; omega) (h.drop k)
  have e : f8 (bs.drop k) = (d1, d2) := hd
  rw [e, List.length_drop] at h1
  exact h1

/-- What is told: the code points, or none. -/
def resP (form : Int) (bs : List UInt8) : List Int := if rightP form bs then ptsP form bs else []

theorem right_split (form : Int) (bs : List UInt8) (pre : List (Int × Bool)) (k : Nat) (h : seqS form 0 bs = pre ++ seqS form 0 (bs.drop k)) (ha : ∀ x, x ∈ pre → x.2 = true) (hk : bs.length ≤ k) : rightP form bs = true ∧ resP form bs = pre.map (·.1) := by
  have e : seqS form 0 (bs.drop k) = [] := by rw [List.drop_eq_nil_of_le hk]; rfl
  rw [e, List.append_nil] at h
  have hr : rightP form bs = true := by unfold rightP; rw [h]; simpa using ha
  exact ⟨hr, by unfold resP ptsP; rw [if_pos hr, h]⟩
theorem wrong_split (form : Int) (bs : List UInt8) (pre : List (Int × Bool)) (k : Nat) (h : seqS form 0 bs = pre ++ seqS form 0 (bs.drop k)) (hk : k < bs.length) (hz : (firstP form (bs.drop k)).2 = 0) : rightP form bs = false ∧ resP form bs = [] := by
  rw [seqS_bad form _ (by simp; omega) hz] at h
  have hr : rightP form bs = false := by unfold rightP; rw [h]; simp
  exact ⟨hr, by unfold resP; rw [if_neg (by simp [hr])]⟩

set_option maxRecDepth 100000 in
set_option maxHeartbeats 1000000 in
theorem small_any (p : Option Addr) (l : List UInt8) (cap : Nat) (w : World) (hl : (l.length : Int) ≤ 1048576) (hcap : l.length ≤ cap) (hc : cap ≤ maxLen) (h : Bs w p l) (hpa : ∀ a, p = some a → 0 < l.length → a.block < w.heap.size) :
    Calls Tryd.prog 18 #[.slice p l.length cap] w fun e w' => ∃ v, e = .returned (.tuple #[v, .bool (rightP 1 l)]) ∧ w'.ownsRow w.heap.size 3 1 v (resP 1 l).length ((resP 1 l).map (.int .i64)) ∧ Below w.heap.size w w' := by
  obtain ⟨r, hR⟩ : ∃ r, rightP 1 l = r := ⟨_, rfl⟩
  obtain ⟨q, hQ⟩ : ∃ q, resP 1 l = q := ⟨_, rfl⟩
  have HR : Hid (rightP 1 l = r) := hR
  have HQ : Hid (resP 1 l = q) := hQ
  rw [hR, hQ]
  clear hR hQ
  obtain ⟨i0, hi, hz0, hz1, hz2⟩ := info_parts Tryd.info3
  unfold maxLen at hc
  go_enter Tryd.func18, Tryd.ntmps18
  go_wp2
  go_loopw [4, 5] (fun v i wr => ∃ (k : Nat) (pre : List (Int × Bool)), k ≤ l.length ∧ i = .int .i64 k ∧ pre.length ≤ k ∧ Hid (seqS 1 0 l = pre ++ seqS 1 0 (l.drop k)) ∧ Hid (∀ x, x ∈ pre → x.2 = true) ∧ wr.ownsRow w.heap.size 3 1 v pre.length (pre.map fun x => Value.int .i64 x.1) ∧ Below w.heap.size w wr)
    (fun _ i _ => l.length - (intOf i).toNat)
  case atStart => exact ⟨0, [], Nat.zero_le _, rfl, Nat.le_refl _, (by simp : seqS 1 0 l = [] ++ seqS 1 0 (l.drop 0)), (fun x hx => by cases hx), World.ownsRow_nil _ _ _ _, Below.refl _ _⟩
  case round =>
    obtain ⟨k, pre, hk, rfl, hpk, HS, HA, hrow, hB⟩ := hrel
    by_cases hlt : k < l.length
    · obtain ⟨b, o, rfl, -⟩ := h.at (by omega)
      obtain ⟨⟨d1, d2⟩, hd⟩ : ∃ d, firstP 1 (l.drop k) = d := ⟨_, rfl⟩
      have Hd : Hid (firstP 1 (l.drop k) = (d1, d2)) := hd
      have hsz := firstP_size 1 (l.drop k) (by simp; omega)
      rw [hd] at hsz
      simp only [List.length_drop] at hsz
      have P := point_at k b o cap 0 l wr hlt hl (h.below hpa hB) d1 d2 hd
      have hck : ¬ cap = k := by omega
      clear hd
      by_cases hd2 : d2 = 0
      · obtain ⟨hr, hq⟩ := wrong_split 1 l pre k HS.out hlt (by rw [Hd.out]; exact hd2)
        have t2 : (d2 == 0) = true := by simpa using hd2
        obtain rfl : r = false := HR.out.symm.trans hr
        obtain rfl : q = [] := HQ.out.symm.trans hq
        clear hd2 hr hq h hrow
        go_wp2_with (go_at_call 30; refine P.mono ?_; rintro e w' ⟨rfl, rfl⟩)
        go_ret2
        exact ⟨_, rfl, World.ownsRow_nil _ _ _ _, hB⟩
      · have t2 : (d2 == 0) = false := by simpa using hd2
        obtain ⟨s, rfl⟩ := Int.eq_ofNat_of_zero_le hsz.1
        have hs1 : 1 ≤ s := by omega
        have hs2 : s ≤ l.length - k := by omega
        have HS' : Hid (seqS 1 0 l = (pre ++ [(d1, true)]) ++ seqS 1 0 (l.drop (k + s))) := by
          show seqS 1 0 l = (pre ++ [(d1, true)]) ++ seqS 1 0 (l.drop (k + s))
          rw [HS.out, seqS_good 1 _ (by simp; omega) (by rw [Hd.out]; exact hd2) (by rw [Hd.out]; exact hsz.1), Hd.out]
          simp
        have hBs := hB.size
        clear hd2 h
        go_wp2_with (first | (go_at_call 30; refine P.mono ?_; rintro e w' ⟨rfl, rfl⟩) | (at_builtin; refine wpList_append_own _ rfl _ _ 24 rfl w.heap.size 3 i0 (.int .i64 0) 1 8 Tryd.underlying24 hi hz0 hz1 hz2 rfl (by decide) _ _ _ rfl (hrow.alloc _) ⟨w'.heap.size, 0, none⟩ 1 1 [.int .i64 d1] rfl rfl (cell_one_new _ _ _) (by simp [Value.oneCell']) (by unfold maxLen; omega) (by omega) (by simp; omega) ?_; intro v' w1 hown' hgrow _))
        go_roundw
        case rel => exact ⟨k + s, pre ++ [(d1, true)], by omega, by go_num, by simp; omega, HS', (fun x hx => by rcases List.mem_append.1 hx with hx | hx; exact HA.out x hx; simp at hx; rw [hx]), by simpa using hown', ((hB.alloc hBs _).grown hgrow (by simp; omega) (fun j e => (hrow.lt j e).1))⟩
        case measure => simp [intOf]; omega
    · obtain rfl : k = l.length := by omega
      obtain ⟨hr, hq⟩ := right_split 1 l pre l.length HS.out HA.out (Nat.le_refl _)
      obtain rfl : r = true := HR.out.symm.trans hr
      obtain rfl : q = pre.map (·.1) := HQ.out.symm.trans hq
      go_wp2
      go_ret2
      exact ⟨_, rfl, by simpa [List.map_map, Function.comp_def] using hrow, hB⟩
end Go.Proofs.YtdkodepeglpimaaDoor
