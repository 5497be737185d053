/- The document's Text: the code points of a text, in plain terms and as it runs. -/
import Derived.Test.YtjfeamfchgcblaaDoorPnt
import Derived.Test.YtjfeamfchgcblaaDoorSgb
set_option linter.unusedVariables false
set_option linter.unusedSimpArgs false
namespace Go.Proofs.YtjfeamfchgcblaaDoor
open Go.RowKit Go.Shelf

/-- The bytes of a text as numbers. -/
def zs (l : List UInt8) : List Int := l.map fun x => (x.toNat : Int)
theorem zs_at (l : List UInt8) (j : Nat) : iAt (zs l) j = (bt l j : Int) := by
  unfold iAt zs bt
  rw [List.getElem?_map]
  cases l[j]? <;> rfl
theorem zs_len (l : List UInt8) : (zs l).length = l.length := by simp [zs]
theorem zs_by (l : List UInt8) : By (zs l) := fun j => by rw [zs_at]; have := bt_lt l j; omega
theorem bt_drop (l : List UInt8) (a j : Nat) : bt (l.drop a) j = bt l (a + j) := by unfold bt; simp

theorem below_bytes (w : World) (s : ByteArray) : Below w.heap.size w (Lib.bytesWorld w 5 s) :=
  ⟨rfl, rfl, rfl, by rw [Lib.bytesWorld_size]; omega, fun k hk => Lib.bytesWorld_at_old w 5 s k hk⟩
theorem str_bytes (w : World) (s : ByteArray) (hs : s.size ≤ maxLen) : ∃ cap, (convert 9 69 (.string s)).run Tryd.prog w = .ok (.slice (some ⟨w.heap.size, 0, none⟩) s.size cap) (Lib.bytesWorld w 5 s) ∧
    Bz (Lib.bytesWorld w 5 s) (some ⟨w.heap.size, 0, none⟩) (zs s.data.toList) ∧ s.size ≤ cap ∧ cap ≤ maxLen := by
  refine ⟨_, Lib.run_convert_string_bytes w 9 69 5 s Tryd.underlying9 Tryd.underlying69 Tryd.underlying5, .inr ⟨_, _, rfl, fun j hj => ?_⟩, grownCap_ge _ _ _ _, grownCap_le_maxLen _ _ _ _ hs⟩
  rw [zs_len] at hj
  rw [Nat.zero_add, Lib.bytesWorld_cell w 5 s j (by simpa using hj), zs_at]
  simp [bt, List.getD]

set_option maxRecDepth 100000 in
set_option maxHeartbeats 1000000 in
theorem Valid_any (s : ByteArray) (w : World) (hs : s.size ≤ 1000000) :
    Calls Tryd.prog 29 #[.string s] w fun e w' => e = .returned (.bool (decide (0 < s.size ∧ runE (uN (zs s.data.toList)) s.size 0 = s.size))) ∧ Below w.heap.size w w' := by
  obtain ⟨cap, CV, hB, hc, hm⟩ := str_bytes w s (by unfold maxLen; omega)
  have hl : s.size = (zs s.data.toList).length := by rw [zs_len]; simp
  have OS := onlySigns8_any (some ⟨w.heap.size, 0, none⟩) (zs s.data.toList) s.size cap (Lib.bytesWorld w 5 s) hl (by omega) (by omega) hm (zs_by _) hB
  rw [← hl] at OS
  have hb := below_bytes w s
  generalize decide (0 < s.size ∧ runE (uN (zs s.data.toList)) s.size 0 = s.size) = r at OS ⊢
  generalize Lib.bytesWorld w 5 s = W1 at *
  clear hB hl hc
  go_enter Tryd.func29, Tryd.ntmps29
  go_wp2_with (first | (go_at_call 39; refine OS.mono ?_; rintro e W2 ⟨rfl, hb2⟩))
  go_ret
  exact ⟨rfl, hb.trans (hb2.mono hb.size)⟩

/-- How many bytes the code point at a place has, and which it is. -/
def pN (l : List UInt8) (k : Nat) : Nat := if k < l.length then (pointP (l.drop k)).2.toNat else 0
def pC (l : List UInt8) (k : Nat) : Int := (pointP (l.drop k)).1

theorem multi_or (n least c0 : Nat) (l : List UInt8) : multi n least c0 l = (0, 0) ∨ (n ≤ l.length ∧ (multi n least c0 l).2 = n ∧ (least : Int) ≤ (multi n least c0 l).1) := by
  unfold multi
  split
  · exact .inl rfl
  · split
    · exact .inl rfl
    · split
      · exact .inl rfl
      · rename_i h1 h2 h3
        exact .inr ⟨by omega, rfl, by simp only; omega⟩
theorem pt_cases (l : List UInt8) (hl : 0 < l.length) : (bt l 0 < 128 ∧ pointP l = ((bt l 0 : Int), 1)) ∨ (128 ≤ bt l 0 ∧ (pointP l = (0, 0) ∨ ∃ n : Nat, 2 ≤ n ∧ n ≤ l.length ∧ (pointP l).2 = n ∧ 128 ≤ (pointP l).1)) := by
  unfold pointP
  by_cases h1 : bt l 0 < 128
  · exact .inl ⟨h1, by rw [if_pos h1]⟩
  refine .inr ⟨by omega, ?_⟩
  rw [if_neg h1]
  split
  · exact .inl rfl
  split
  · rcases multi_or 2 128 (bt l 0 % 32) l with h | ⟨h2, h3, h4⟩
    · exact .inl h
    · exact .inr ⟨2, by omega, h2, h3, by omega⟩
  split
  · rcases multi_or 3 2048 (bt l 0 % 16) l with h | ⟨h2, h3, h4⟩
    · exact .inl h
    · exact .inr ⟨3, by omega, h2, h3, by omega⟩
  split
  · rcases multi_or 4 65536 (bt l 0 % 8) l with h | ⟨h2, h3, h4⟩
    · exact .inl h
    · exact .inr ⟨4, by omega, h2, h3, by omega⟩
  · exact .inl rfl
theorem pN_bd (l : List UInt8) : Bd (pN l) l.length := by
  intro k
  unfold pN
  split
  · rename_i h
    rcases pt_cases (l.drop k) (by simp; omega) with ⟨-, h1⟩ | ⟨-, h1 | ⟨n, h2, h3, h4, -⟩⟩
    · right; rw [h1]; simp; omega
    · left; rw [h1]; rfl
    · right; rw [h4]; simp at h3 ⊢; omega
  · exact .inl rfl
theorem pN_ascii {l : List UInt8} {k : Nat} (h : k < l.length) (hb : bt l k < 128) : pN l k = 1 ∧ pC l k = bt l k := by
  unfold pN pC
  rw [if_pos h]
  rcases pt_cases (l.drop k) (by simp; omega) with ⟨h1, h2⟩ | ⟨h1, -⟩
  · rw [h2, bt_drop]; exact ⟨rfl, rfl⟩
  · rw [bt_drop] at h1; simp at h1; omega
theorem pN_low {l : List UInt8} {k : Nat} (hn : pN l k ≠ 0) (hc : pC l k < 128) : k < l.length ∧ bt l k < 128 := by
  unfold pN at hn
  unfold pC at hc
  split at hn
  · rename_i h
    refine ⟨h, ?_⟩
    rcases pt_cases (l.drop k) (by simp; omega) with ⟨h1, h2⟩ | ⟨-, h1 | ⟨n, -, -, -, h5⟩⟩
    · rw [bt_drop] at h1; simpa using h1
    · rw [h1] at hn; simp at hn
    · omega
  · exact absurd rfl hn

/-- Is it right UTF-8? Its code points. -/
def ritP (l : List UInt8) : Bool := decide (runE (pN l) l.length 0 = l.length)
def ptsP (l : List UInt8) : List Int := if ritP l = true then (posE (pN l) l.length 0).map (pC l) else []

set_option maxRecDepth 100000 in
set_option maxHeartbeats 1000000 in
theorem point_any (b o : Nat) (l : List UInt8) (n cap : Nat) (w : World) (hln : n = l.length) (hn : 0 < l.length) (hl : (l.length : Int) ≤ 1048576) (hc : ∀ j, j < l.length → w.cell? ⟨b, o + j, none⟩ = some (.int .u8 (bt l j))) :
    Calls Tryd.prog 48 #[.slice (some ⟨b, o, none⟩) n cap] w fun e w' => e = .returned (.tuple #[.int .i64 (pointP l).1, .int .i64 (pointP l).2]) ∧ w' = w := by
  subst hln
  have b0 := bt_lt l 0
  unfold pointP
  by_cases hA : bt l 0 < 128
  · rw [if_pos hA]
    exact point_a b o l.length cap _ w hn (hc 0 hn) (by omega) (by omega)
  rw [if_neg hA]
  by_cases hB : bt l 0 < 194
  · rw [if_pos hB]
    exact point_b b o l.length cap _ w hn (hc 0 hn) (by omega) (.inl (by omega)) (by omega)
  rw [if_neg hB]
  by_cases hC : bt l 0 < 224
  · rw [if_pos hC]
    by_cases hs : l.length < 2
    · have : multi 2 128 (bt l 0 % 32) l = (0, 0) := by unfold multi; rw [if_pos hs]
      rw [this]
      exact point_c_short b o l.length cap _ w hn (hc 0 hn) (by omega) (by omega) (by omega)
    · exact point_c b o cap l w hl (by omega) hc (by omega) (by omega)
  rw [if_neg hC]
  by_cases hD : bt l 0 < 240
  · rw [if_pos hD]
    by_cases hs : l.length < 3
    · have : multi 3 2048 (bt l 0 % 16) l = (0, 0) := by unfold multi; rw [if_pos hs]
      rw [this]
      exact point_d_short b o l.length cap _ w hn (hc 0 hn) (by omega) (by omega) (by omega)
    · exact point_d b o cap l w hl (by omega) hc (by omega) (by omega)
  rw [if_neg hD]
  by_cases hE : bt l 0 < 245
  · rw [if_pos hE]
    by_cases hs : l.length < 4
    · have : multi 4 65536 (bt l 0 % 8) l = (0, 0) := by unfold multi; rw [if_pos hs]
      rw [this]
      exact point_e_short b o l.length cap _ w hn (hc 0 hn) (by omega) (by omega) (by omega)
    · exact point_e b o cap l w hl (by omega) hc (by omega) (by omega)
  rw [if_neg hE]
  exact point_b b o l.length cap _ w hn (hc 0 hn) (by omega) (.inr (by omega)) (by omega)

set_option maxRecDepth 100000 in
set_option maxHeartbeats 1000000 in
theorem small_any (b o : Nat) (l : List UInt8) (n cap : Nat) (w : World) (hln : n = l.length) (hl : (l.length : Int) ≤ 1048576) (hcap : l.length ≤ cap) (hc : cap ≤ maxLen) (h : ∀ j, j < l.length → w.cell? ⟨b, o + j, none⟩ = some (.int .u8 (bt l j))) :
    Calls Tryd.prog 43 #[.slice (some ⟨b, o, none⟩) n cap] w fun e w' => ∃ v, e = .returned (.tuple #[v, .bool (ritP l)]) ∧ w'.ownsRow w.heap.size 3 1 v (ptsP l).length ((ptsP l).map (.int .i64)) ∧ Below w.heap.size w w' := by
  subst hln
  obtain ⟨r, hR⟩ : ∃ r, ritP l = r := ⟨_, rfl⟩
  obtain ⟨q, hQ⟩ : ∃ q, ptsP l = q := ⟨_, rfl⟩
  have HR : Hid (ritP l = r) := hR
  have HQ : Hid (ptsP l = q) := hQ
  rw [hR, hQ]
  clear hR hQ
  obtain ⟨i0, hi, hz0, hz1, hz2⟩ := info_parts Tryd.info3
  unfold maxLen at hc
  have hbd := pN_bd l
  have hblt : 0 < l.length → b < w.heap.size := fun h0 => World.block_lt_of_cell? w _ (h 0 h0)
  go_enter Tryd.func43, Tryd.ntmps43
  go_wp2
  go_loopw [4, 5] (fun v i wr => ∃ (k : Nat) (pre : List Nat), k ≤ l.length ∧ i = .int .i64 k ∧ pre.length ≤ k ∧ Hid (posE (pN l) l.length 0 = pre ++ posE (pN l) l.length k) ∧ Hid (runE (pN l) l.length k = runE (pN l) l.length 0) ∧ wr.ownsRow w.heap.size 3 1 v pre.length (pre.map fun x => Value.int .i64 (pC l x)) ∧ Below w.heap.size w wr)
    (fun _ i _ => l.length - (intOf i).toNat)
  case atStart => exact ⟨0, [], Nat.zero_le _, rfl, Nat.le_refl _, rfl, rfl, World.ownsRow_nil _ _ _ _, Below.refl _ _⟩
  case round =>
    obtain ⟨k, pre, hk, rfl, hpk, HS, HA, hrow, hB⟩ := hrel
    by_cases hlt : k < l.length
    · have P := point_any b (o + k) (l.drop k) (l.length - k) (cap - k) wr (by simp) (by simp; omega) (by simp; omega) (fun j hj => by
        rw [bt_drop, Nat.add_assoc]
        exact (hB.cell (p := ⟨b, o + (k + j), none⟩) (hblt (by omega))).trans (h (k + j) (by simp at hj; omega)))
      have hcC : pC l k = (pointP (l.drop k)).1 := rfl
      have hcN : pN l k = (pointP (l.drop k)).2.toNat := by unfold pN; rw [if_pos hlt]
      have hck : ¬ cap = k := by omega
      have hn0 : 0 ≤ (pointP (l.drop k)).2 := by
        rcases pt_cases (l.drop k) (by simp; omega) with ⟨-, h1⟩ | ⟨-, h1 | ⟨n, h2, h3, h4, -⟩⟩
        · rw [h1]; simp
        · rw [h1]; simp
        · rw [h4]; simp
      obtain ⟨m, hm⟩ := Int.eq_ofNat_of_zero_le hn0
      rw [hm] at hcN P
      simp at hcN
      rw [← hcC] at P
      generalize pC l k = cc at P hcC
      by_cases hz : m = 0
      · have hpz : pN l k = 0 := hcN.trans hz
        obtain rfl : r = false := by
          rw [← HR.out]
          unfold ritP
          rw [← HA.out, runE_stop hpz]
          exact decide_eq_false (by omega)
        obtain rfl : q = [] := by
          rw [← HQ.out]
          unfold ptsP
          rw [HR.out]
          rfl
        subst hz
        have e0 : ((0 : Nat) : Int) = 0 := rfl
        rw [e0] at P
        clear hcC hcN hm hn0 hpz hrow HS HA HR HQ h
        go_wp2_with (go_at_call 48; refine P.mono ?_; rintro e w' ⟨rfl, rfl⟩)
        go_ret2
        exact ⟨_, rfl, World.ownsRow_nil _ _ _ _, hB⟩
      · have hz' : ((m : Int) == 0) = false := by simpa using hz
        have hnz : pN l k ≠ 0 := by rw [hcN]; exact hz
        have hle : k + m ≤ l.length := by rcases hbd k with h | h <;> omega
        have HS' : Hid (posE (pN l) l.length 0 = (pre ++ [k]) ++ posE (pN l) l.length (k + m)) := by
          show posE (pN l) l.length 0 = (pre ++ [k]) ++ posE (pN l) l.length (k + m)
          rw [HS.out, posE_step hbd hnz, hcN]
          simp
        have HA' : Hid (runE (pN l) l.length (k + m) = runE (pN l) l.length 0) := by
          show runE (pN l) l.length (k + m) = runE (pN l) l.length 0
          rw [← HA.out, ← hcN]
          exact runE_step hbd hnz
        have hBs := hB.size
        have hm1 : 1 ≤ m := by omega
        have HC : Hid (pC l k = cc) := by show pC l k = cc; exact hcC ▸ rfl
        clear hcC hcN hm hn0 hnz HS HA HR HQ h hz
        go_wp2_with (first | (go_at_call 48; refine P.mono ?_; rintro e w' ⟨rfl, rfl⟩) | (at_builtin; refine wpList_append_own _ rfl _ _ 23 rfl w.heap.size 3 i0 (.int .i64 0) 1 8 Tryd.underlying23 hi hz0 hz1 hz2 rfl (by decide) _ _ _ rfl (hrow.alloc _) ⟨w'.heap.size, 0, none⟩ 1 1 [.int .i64 cc] rfl rfl (cell_one_new _ _ _) (by simp [Value.oneCell']) (by unfold maxLen; omega) (by omega) (by simp; omega) ?_; intro v' w1 hown' hgrow _))
        go_roundw
        case rel => exact ⟨k + m, pre ++ [k], by omega, by go_num, by simp; omega, HS', HA', by simpa [HC.out] using hown', ((hB.alloc hBs _).grown hgrow (by simp; omega) (fun j e => (hrow.lt j e).1))⟩
        case measure => simp [intOf]; omega
    · obtain rfl : k = l.length := by omega
      have hpz : pN l l.length = 0 := by unfold pN; rw [if_neg (by omega)]
      obtain rfl : r = true := by
        rw [← HR.out]
        unfold ritP
        rw [← HA.out, runE_stop hpz]
        exact decide_eq_true rfl
      obtain rfl : q = pre.map (pC l) := by
        rw [← HQ.out]
        unfold ptsP
        rw [HR.out, if_pos rfl, HS.out, posE_stop hpz, List.append_nil]
      go_wp2
      go_ret2
      exact ⟨_, rfl, by simpa [List.map_map, Function.comp_def] using hrow, hB⟩

set_option maxRecDepth 100000 in
set_option maxHeartbeats 1000000 in
theorem Text_any (s : ByteArray) (w : World) (hs : s.size ≤ 1048576) :
    Calls Tryd.prog 40 #[.string s] w fun e w' => ∃ v, e = .returned (.tuple #[v, .bool (ritP s.data.toList)]) ∧ w'.ownsRow w.heap.size 3 1 v (ptsP s.data.toList).length ((ptsP s.data.toList).map (.int .i64)) ∧ Below w.heap.size w w' := by
  obtain ⟨cap, CV, hB, hc, hm⟩ := str_bytes w s (by unfold maxLen; omega)
  have hl : s.size = s.data.toList.length := by simp
  have SM := small_any w.heap.size 0 s.data.toList s.size cap (Lib.bytesWorld w 5 s) hl (by omega) (by omega) hm (fun j hj => by
    obtain ⟨b, o, e, hu⟩ := hB.at (by rw [zs_len]; omega)
    cases e
    rw [hu j (by rw [zs_len]; exact hj), zs_at])
  have hb := below_bytes w s
  generalize ritP s.data.toList = r at SM ⊢
  generalize ptsP s.data.toList = T at SM ⊢
  generalize Lib.bytesWorld w 5 s = W1 at *
  clear hB hl hc
  go_enter Tryd.func40, Tryd.ntmps40
  go_wp2_with (first | (go_at_call 43; refine SM.mono ?_; rintro e W2 ⟨v, rfl, ho, hb2⟩))
  go_ret2
  exact ⟨v, rfl, ownsRow_mono ho hb.size, hb.trans (hb2.mono hb.size)⟩
end Go.Proofs.YtjfeamfchgcblaaDoor
