/- The document's pairs: units of sixteen bits become code points. -/
import Derived.Test.YtdkodepeglpimaaDoorUnits
set_option linter.unusedVariables false
set_option linter.unusedSimpArgs false
namespace Go.Proofs.YtdkodepeglpimaaDoor
open Go.RowKit Go.Shelf

def iAt (l : List Int) (j : Nat) : Int := l[j]?.getD 0
/-- The code point that units begin with, and how many it has. -/
def firstU (l : List Int) : Int × Nat :=
  if (55296 ≤ iAt l 0 ∧ iAt l 0 < 56320) ∧ 1 < l.length ∧ 56320 ≤ iAt l 1 ∧ iAt l 1 < 57344 then (65536 + (iAt l 0 - 55296) * 1024 + iAt l 1 - 56320, 2)
  else if okP (iAt l 0) then (iAt l 0, 1) else (0, 0)
def seqU : Nat → List Int → List (Int × Bool)
  | _, [] => []
  | k + 1, _ :: t => seqU k t
  | 0, x :: t => if (firstU (x :: t)).2 = 0 then [(0, false)] else ((firstU (x :: t)).1, true) :: seqU ((firstU (x :: t)).2 - 1) t
theorem seqU_drop (k : Nat) (l : List Int) : seqU k l = seqU 0 (l.drop k) := by
  induction l generalizing k with
  | nil => cases k <;> simp [seqU]
  | cons x t ih =>
    cases k with
    | zero => rfl
    | succ k => rw [seqU, ih k]; rfl
theorem seqU_bad (l : List Int) (h : 0 < l.length) (hz : (firstU l).2 = 0) : seqU 0 l = [(0, false)] := by
  cases l with
  | nil => simp at h
  | cons x t => rw [seqU, if_pos hz]
theorem seqU_good (l : List Int) (h : 0 < l.length) (hz : (firstU l).2 ≠ 0) : seqU 0 l = ((firstU l).1, true) :: seqU 0 (l.drop (firstU l).2) := by
  cases l with
  | nil => simp at h
  | cons x t =>
    rw [seqU, if_neg hz, seqU_drop]
    have : (firstU (x :: t)).2 = ((firstU (x :: t)).2 - 1) + 1 := by omega
    rw [this]
    rfl
theorem iAt_drop (l : List Int) (k j : Nat) : iAt (l.drop k) j = iAt l (k + j) := by unfold iAt; simp

def rightU (l : List Int) : Bool := (seqU 0 l).all (·.2)
def resU (l : List Int) : List Int := if rightU l then (seqU 0 l).map (·.1) else []

theorem rightU_split (us : List Int) (pre : List (Int × Bool)) (k : Nat) (h : seqU 0 us = pre ++ seqU 0 (us.drop k)) (ha : ∀ x, x ∈ pre → x.2 = true) (hk : us.length ≤ k) : rightU us = true ∧ resU us = pre.map (·.1) := by
  have e : seqU 0 (us.drop k) = [] := by rw [List.drop_eq_nil_of_le hk]; rfl
  rw [e, List.append_nil] at h
  have hr : rightU us = true := by unfold rightU; rw [h]; simpa using ha
  exact ⟨hr, by unfold resU; rw [if_pos hr, h]⟩
theorem wrongU_split (us : List Int) (pre : List (Int × Bool)) (k : Nat) (h : seqU 0 us = pre ++ seqU 0 (us.drop k)) (hk : k < us.length) (hz : (firstU (us.drop k)).2 = 0) : rightU us = false ∧ resU us = [] := by
  rw [seqU_bad _ (by simp; omega) hz] at h
  have hr : rightU us = false := by unfold rightU; rw [h]; simp
  exact ⟨hr, by unfold resU; rw [if_neg (by simp [hr])]⟩

theorem okP_lo (c : Int) (h : 0 ≤ c) (h' : c < 55296) : okP c = true := by unfold okP; simp; omega
theorem okP_hi (c : Int) (h : 57343 < c) (h' : c ≤ 1114111) : okP c = true := by unfold okP; simp; omega
theorem okP_mid (c : Int) (h : 55296 ≤ c) (h' : c ≤ 57343) : okP c = false := by unfold okP; simp; omega

theorem firstU_pair (us : List Int) (k : Nat) (c d : Int) (hc : iAt us k = c) (hd : iAt us (k + 1) = d) (h1 : 55296 ≤ c) (h2 : c < 56320) (h3 : k + 1 < us.length) (h4 : 56320 ≤ d) (h5 : d < 57344) : firstU (us.drop k) = (65536 + (c - 55296) * 1024 + d - 56320, 2) := by
  unfold firstU
  rw [iAt_drop, iAt_drop, Nat.add_zero, hc, hd, if_pos ⟨⟨h1, h2⟩, by simp; omega, h4, h5⟩]
theorem firstU_one (us : List Int) (k : Nat) (c d : Int) (hc : iAt us k = c) (hd : iAt us (k + 1) = d) (hn : ¬ ((55296 ≤ c ∧ c < 56320) ∧ k + 1 < us.length ∧ 56320 ≤ d ∧ d < 57344)) (ho : okP c = true) : firstU (us.drop k) = (c, 1) := by
  unfold firstU
  rw [iAt_drop, iAt_drop, Nat.add_zero, hc, hd, if_neg (by simp at hn ⊢; omega), if_pos ho]
theorem firstU_none (us : List Int) (k : Nat) (c d : Int) (hc : iAt us k = c) (hd : iAt us (k + 1) = d) (hn : ¬ ((55296 ≤ c ∧ c < 56320) ∧ k + 1 < us.length ∧ 56320 ≤ d ∧ d < 57344)) (ho : okP c = false) : (firstU (us.drop k)).2 = 0 := by
  unfold firstU
  rw [iAt_drop, iAt_drop, Nat.add_zero, hc, hd, if_neg (by simp at hn ⊢; omega), if_neg (by simp [ho])]

set_option maxRecDepth 100000 in
set_option maxHeartbeats 2000000 in
theorem pairs_any (p : Option Addr) (us : List Int) (cap : Nat) (w : World) (hl : (us.length : Int) ≤ 1048576) (hr : ∀ j, 0 ≤ iAt us j ∧ iAt us j < 65536) (h : Is w p us) (hpa : ∀ a, p = some a → a.block < w.heap.size) :
    Calls Tryd.prog 20 #[.slice p us.length cap] w fun e w' => ∃ v, e = .returned (.tuple #[v, .bool (rightU us)]) ∧ w'.ownsRow w.heap.size 3 1 v (resU us).length ((resU us).map (.int .i64)) ∧ Below w.heap.size w w' := by
  obtain ⟨r, hR⟩ : ∃ r, rightU us = r := ⟨_, rfl⟩
  obtain ⟨q, hQ⟩ : ∃ q, resU us = q := ⟨_, rfl⟩
  have HR : Hid (rightU us = r) := hR
  have HQ : Hid (resU us = q) := hQ
  have HV : Hid (∀ j, 0 ≤ iAt us j ∧ iAt us j < 65536) := hr
  rw [hR, hQ]
  clear hR hQ hr
  obtain ⟨i0, hi, hz0, hz1, hz2⟩ := info_parts Tryd.info3
  go_enter Tryd.func20, Tryd.ntmps20
  go_wp2
  go_loopw [4, 5] (fun v i wr => ∃ (k : Nat) (pre : List (Int × Bool)), k ≤ us.length ∧ i = .int .i64 k ∧ pre.length ≤ k ∧ Hid (seqU 0 us = pre ++ seqU 0 (us.drop k)) ∧ Hid (∀ x, x ∈ pre → x.2 = true) ∧ wr.ownsRow w.heap.size 3 1 v pre.length (pre.map fun x => Value.int .i64 x.1) ∧ Below w.heap.size w wr)
    (fun _ i _ => us.length - (intOf i).toNat)
  case atStart => exact ⟨0, [], Nat.zero_le _, rfl, Nat.le_refl _, (by simp : seqU 0 us = [] ++ seqU 0 (us.drop 0)), (fun x hx => by cases hx), World.ownsRow_nil _ _ _ _, Below.refl _ _⟩
  case round =>
    obtain ⟨k, pre, hk, rfl, hpk, HS, HA, hrow, hB⟩ := hrel
    have hBs := hB.size
    by_cases hlt : k < us.length
    · obtain ⟨b, o, rfl, hcl⟩ := h.at (by omega)
      have hcw : ∀ j, j < us.length → wr.cell? ⟨b, o + j, none⟩ = some (.int .i64 (iAt us j)) := fun j hj => (hB.cell (p := ⟨b, o + j, none⟩) (hpa ⟨b, o, none⟩ rfl)).trans (hcl j hj)
      have q0 := hcw k hlt
      have q1 := fun hk1 : k + 1 < us.length => hcw (k + 1) hk1
      obtain ⟨c, hc⟩ : ∃ c, iAt us k = c := ⟨_, rfl⟩
      obtain ⟨d, hd⟩ : ∃ d, iAt us (k + 1) = d := ⟨_, rfl⟩
      have v0 := HV.out k
      have v1 := HV.out (k + 1)
      have Hc : Hid (iAt us k = c) := hc
      have Hd : Hid (iAt us (k + 1) = d) := hd
      rw [hc] at q0 v0
      rw [hd] at q1 v1
      obtain ⟨v00, v01⟩ := v0
      obtain ⟨v10, v11⟩ := v1
      clear hc hd hcl hcw h
      by_cases h1 : c < 55296
      · have hok := okP_lo c v00 h1
        have hf := firstU_one us k c d Hc.out Hd.out (by omega) hok
        have HS' : Hid (seqU 0 us = (pre ++ [(c, true)]) ++ seqU 0 (us.drop (k + 1))) := by
          show seqU 0 us = (pre ++ [(c, true)]) ++ seqU 0 (us.drop (k + 1))
          rw [HS.out, seqU_good _ (by simp; omega) (by rw [hf]; simp), hf]
          simp
        clear hf q1
        go_wp2_with (first | (go_at_call 21; refine (right_any _ _).mono ?_; rintro e w' ⟨rfl, rfl⟩) | (at_builtin; refine wpList_append_own _ rfl _ _ 24 rfl w.heap.size 3 i0 (.int .i64 0) 1 8 Tryd.underlying24 hi hz0 hz1 hz2 rfl (by decide) _ _ _ rfl (hrow.alloc _) ⟨w'.heap.size, 0, none⟩ 1 1 [.int .i64 (c)] rfl rfl (cell_one_new _ _ _) (by simp [Value.oneCell']) (by unfold maxLen; omega) (by omega) (by simp; omega) ?_; intro v' w1 hown' hgrow _))
        go_roundw
        case rel => exact ⟨k + 1, pre ++ [(c, true)], by omega, by go_num, by simp; omega, HS', (fun x hx => by rcases List.mem_append.1 hx with hx | hx; exact HA.out x hx; simp at hx; rw [hx]), by simpa using hown', ((hB.alloc hBs _).grown hgrow (by simp; omega) (fun j e => (hrow.lt j e).1))⟩
        case measure => simp [intOf]; omega
      have h1a : 55296 ≤ c := by omega
      by_cases h2 : 56320 ≤ c
      · by_cases h2b : 57343 < c
        · have hok := okP_hi c h2b (by omega)
          have hf := firstU_one us k c d Hc.out Hd.out (by omega) hok
          have HS' : Hid (seqU 0 us = (pre ++ [(c, true)]) ++ seqU 0 (us.drop (k + 1))) := by
            show seqU 0 us = (pre ++ [(c, true)]) ++ seqU 0 (us.drop (k + 1))
            rw [HS.out, seqU_good _ (by simp; omega) (by rw [hf]; simp), hf]
            simp
          clear hf q1
          go_wp2_with (first | (go_at_call 21; refine (right_any _ _).mono ?_; rintro e w' ⟨rfl, rfl⟩) | (at_builtin; refine wpList_append_own _ rfl _ _ 24 rfl w.heap.size 3 i0 (.int .i64 0) 1 8 Tryd.underlying24 hi hz0 hz1 hz2 rfl (by decide) _ _ _ rfl (hrow.alloc _) ⟨w'.heap.size, 0, none⟩ 1 1 [.int .i64 (c)] rfl rfl (cell_one_new _ _ _) (by simp [Value.oneCell']) (by unfold maxLen; omega) (by omega) (by simp; omega) ?_; intro v' w1 hown' hgrow _))
          go_roundw
          case rel => exact ⟨k + 1, pre ++ [(c, true)], by omega, by go_num, by simp; omega, HS', (fun x hx => by rcases List.mem_append.1 hx with hx | hx; exact HA.out x hx; simp at hx; rw [hx]), by simpa using hown', ((hB.alloc hBs _).grown hgrow (by simp; omega) (fun j e => (hrow.lt j e).1))⟩
          case measure => simp [intOf]; omega
        · clear q1
          obtain ⟨hr, hq⟩ := wrongU_split us pre k HS.out hlt (firstU_none us k c d Hc.out Hd.out (by omega) (okP_mid c h1a (by omega)))
          obtain rfl : r = false := HR.out.symm.trans hr
          obtain rfl : q = [] := HQ.out.symm.trans hq
          have hok := (okP_mid c h1a (by omega))
          clear hr hq hrow
          go_wp2_with (go_at_call 21; refine (right_any _ _).mono ?_; rintro e w' ⟨rfl, rfl⟩)
          go_ret2
          exact ⟨_, rfl, World.ownsRow_nil _ _ _ _, hB⟩
      have h2a : c < 56320 := by omega
      by_cases h3 : k + 1 < us.length
      · have q1 := q1 h3
        have h3a : (k : Int) + 1 < us.length := by omega
        by_cases h4 : d < 56320
        · 
          obtain ⟨hr, hq⟩ := wrongU_split us pre k HS.out hlt (firstU_none us k c d Hc.out Hd.out (by omega) (okP_mid c h1a (by omega)))
          obtain rfl : r = false := HR.out.symm.trans hr
          obtain rfl : q = [] := HQ.out.symm.trans hq
          have hok := (okP_mid c h1a (by omega))
          clear hr hq hrow
          go_wp2_with (go_at_call 21; refine (right_any _ _).mono ?_; rintro e w' ⟨rfl, rfl⟩)
          go_ret2
          exact ⟨_, rfl, World.ownsRow_nil _ _ _ _, hB⟩
        by_cases h5 : 57344 ≤ d
        · 
          obtain ⟨hr, hq⟩ := wrongU_split us pre k HS.out hlt (firstU_none us k c d Hc.out Hd.out (by omega) (okP_mid c h1a (by omega)))
          obtain rfl : r = false := HR.out.symm.trans hr
          obtain rfl : q = [] := HQ.out.symm.trans hq
          have hok := (okP_mid c h1a (by omega))
          clear hr hq hrow
          go_wp2_with (go_at_call 21; refine (right_any _ _).mono ?_; rintro e w' ⟨rfl, rfl⟩)
          go_ret2
          exact ⟨_, rfl, World.ownsRow_nil _ _ _ _, hB⟩
        have hf := firstU_pair us k c d Hc.out Hd.out h1a h2a h3 (by omega) (by omega)
        have hok := okP_hi (65536 + (c - 55296) * 1024 + d - 56320) (by omega) (by omega)
        have HS' : Hid (seqU 0 us = (pre ++ [(65536 + (c - 55296) * 1024 + d - 56320, true)]) ++ seqU 0 (us.drop (k + 2))) := by
          show seqU 0 us = (pre ++ [(65536 + (c - 55296) * 1024 + d - 56320, true)]) ++ seqU 0 (us.drop (k + 2))
          rw [HS.out, seqU_good _ (by simp; omega) (by rw [hf]; simp), hf]
          simp
        clear hf
        go_wp2_with (first | (go_at_call 21; refine (right_any _ _).mono ?_; rintro e w' ⟨rfl, rfl⟩) | (at_builtin; refine wpList_append_own _ rfl _ _ 24 rfl w.heap.size 3 i0 (.int .i64 0) 1 8 Tryd.underlying24 hi hz0 hz1 hz2 rfl (by decide) _ _ _ rfl (hrow.alloc _) ⟨w'.heap.size, 0, none⟩ 1 1 [.int .i64 (65536 + (c - 55296) * 1024 + d - 56320)] rfl rfl (cell_one_new _ _ _) (by simp [Value.oneCell']) (by unfold maxLen; omega) (by omega) (by simp; omega) ?_; intro v' w1 hown' hgrow _))
        go_roundw
        case rel => exact ⟨k + 2, pre ++ [(65536 + (c - 55296) * 1024 + d - 56320, true)], by omega, by go_num, by simp; omega, HS', (fun x hx => by rcases List.mem_append.1 hx with hx | hx; exact HA.out x hx; simp at hx; rw [hx]), by simpa using hown', ((hB.alloc hBs _).grown hgrow (by simp; omega) (fun j e => (hrow.lt j e).1))⟩
        case measure => simp [intOf]; omega
      · clear q1
        obtain ⟨hr, hq⟩ := wrongU_split us pre k HS.out hlt (firstU_none us k c d Hc.out Hd.out (by omega) (okP_mid c h1a (by omega)))
        obtain rfl : r = false := HR.out.symm.trans hr
        obtain rfl : q = [] := HQ.out.symm.trans hq
        have hok := (okP_mid c h1a (by omega))
        clear hr hq hrow
        go_wp2_with (go_at_call 21; refine (right_any _ _).mono ?_; rintro e w' ⟨rfl, rfl⟩)
        go_ret2
        exact ⟨_, rfl, World.ownsRow_nil _ _ _ _, hB⟩
    · obtain rfl : k = us.length := by omega
      obtain ⟨hr, hq⟩ := rightU_split us pre us.length HS.out HA.out (Nat.le_refl _)
      obtain rfl : r = true := HR.out.symm.trans hr
      obtain rfl : q = pre.map (·.1) := HQ.out.symm.trans hq
      go_wp2
      go_ret2
      exact ⟨_, rfl, by simpa [List.map_map, Function.comp_def] using hrow, hB⟩
end Go.Proofs.YtdkodepeglpimaaDoor
