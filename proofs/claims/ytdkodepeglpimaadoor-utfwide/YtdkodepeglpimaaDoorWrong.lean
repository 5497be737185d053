/- Of each of the 23 rows of bytes that are no text: Points tells error 4 and no code points. -/
import Derived.Test.YtdkodepeglpimaaDoorAlive
import Derived.Deep.Cut
set_option linter.unusedVariables false
set_option linter.unusedSimpArgs false
namespace Go.Proofs.YtdkodepeglpimaaDoor
open Go.RowKit Go.Shelf

def tab : List (List UInt8) := [[128], [192, 128], [193, 191], [224, 159, 191], [237, 160, 128], [240, 143, 191, 191], [244, 144, 128, 128], [245, 128, 128, 128], [255], [97, 226, 130], [97, 195], [97, 195, 98], [254, 255, 216, 0], [254, 255, 220, 0], [254, 255, 216, 0, 0, 97], [254, 255, 0], [255, 254, 97], [0, 0, 254, 255, 0, 17, 0, 0], [0, 0, 254, 255, 0, 0, 216, 0], [0, 0, 254, 255, 0, 0, 0], [255, 254, 0, 0, 0, 0, 0, 1], [97, 0, 0, 0, 98], [0, 97, 0]]

theorem tab_wrong : ∀ k : Fin 23, ptsOf (tab[k.val]?.getD []) = ([], 4) := by decide +kernel
theorem tab_len : ∀ k : Fin 23, (tab[k.val]?.getD []).length ≤ 8 := by decide +kernel
theorem tab_size : tab.length = 23 := rfl

/-- Blocks laid one behind the other. -/
def laidOn (w : World) (os : List Obj) : World := os.foldl World.alloc w
theorem laidOn_heap (os : List Obj) (w : World) : (laidOn w os).heap.toList = w.heap.toList ++ os := by
  induction os generalizing w with
  | nil => simp [laidOn]
  | cons o os ih =>
    have : laidOn w (o :: os) = laidOn (w.alloc o) os := rfl
    rw [this, ih, show (w.alloc o).heap = w.heap.push o from rfl]
    simp
theorem laidOn_at (os : List Obj) (w : World) (k : Nat) (o : Obj) (h : os[k]? = some o) : (laidOn w os).heap[w.heap.size + k]? = some o := by
  rw [← Array.getElem?_toList, laidOn_heap, List.getElem?_append_right (by simp)]
  simpa using h
theorem laidOn_size (os : List Obj) (w : World) : (laidOn w os).heap.size = w.heap.size + os.length := by
  rw [← Array.length_toList, laidOn_heap]; simp
theorem laidOn_below (os : List Obj) (w : World) : Below w.heap.size w (laidOn w os) := by
  induction os generalizing w with
  | nil => exact Below.refl _ _
  | cons o os ih =>
    have : laidOn w (o :: os) = laidOn (w.alloc o) os := rfl
    rw [this]
    exact ((Below.refl _ w).alloc (Nat.le_refl _) _).trans ((ih (w.alloc o)).mono (by simp))

def rowObj (n : Nat) : Obj := .cells ((List.range 23).map fun k => Value.slice (some ⟨n + k, 0, none⟩) (tab[k]?.getD []).length (tab[k]?.getD []).length).toArray 22
def wrongObjs (n : Nat) : List Obj := tab.map bytesObj ++ [rowObj n]

theorem wrong_block (w : World) (k : Nat) (hk : k < 23) : (laidOn w (wrongObjs w.heap.size)).heap[w.heap.size + k]? = some (bytesObj (tab[k]?.getD [])) := by
  refine laidOn_at _ _ _ _ ?_
  unfold wrongObjs
  rw [List.getElem?_append_left (by simp [tab_size]; exact hk), List.getElem?_map, List.getElem?_eq_getElem (by rw [tab_size]; exact hk)]
  rfl
theorem wrong_row (w : World) (k : Nat) (hk : k < 23) : (laidOn w (wrongObjs w.heap.size)).cell? ⟨w.heap.size + 23, k, none⟩ = some (.slice (some ⟨w.heap.size + k, 0, none⟩) (tab[k]?.getD []).length (tab[k]?.getD []).length) := by
  have h : (laidOn w (wrongObjs w.heap.size)).heap[w.heap.size + 23]? = some (rowObj w.heap.size) := by
    refine laidOn_at _ _ _ _ ?_
    unfold wrongObjs
    rw [List.getElem?_append_right (by simp [tab_size])]
    simp [tab_size]
  simp [World.cell?, h, rowObj, hk]

set_option maxRecDepth 100000 in
set_option maxHeartbeats 1000000 in
theorem wrong_any (which : Int) (w : World) (hT : Lib.Utf8Tabs 0 1 w) (h1 : 1 < w.heap.size) :
    Calls Tryd.prog 7 #[.int .i64 which] w fun e w' => e = .returned (.bool true) ∧ Below w.heap.size w w' := by
  have A := alive_any w hT h1
  have HT : Hid (Lib.Utf8Tabs 0 1 w) := hT
  clear hT
  go_enter Tryd.func7, Tryd.ntmps7
  go_upto_region 3 with (go_at_call 8; refine A.mono ?_; rintro e w1 ⟨rfl, hb⟩)
  clear A
  change Code.wp _ _ _ _ (laidOn w1 (wrongObjs w1.heap.size))
  have hblk := wrong_block w1
  have hrow := wrong_row w1
  have hsz := laidOn_size (wrongObjs w1.heap.size) w1
  have hbl := laidOn_below (wrongObjs w1.heap.size) w1
  have hlen : (wrongObjs w1.heap.size).length = 24 := rfl
  rw [hlen] at hsz
  generalize laidOn w1 (wrongObjs w1.heap.size) = W at hblk hrow hsz hbl ⊢
  have hB : Below w.heap.size w W := hb.trans (hbl.mono hb.size)
  by_cases h0 : which < 0
  · clear hblk hrow hsz hbl hb
    go_wp2
    go_ret
    exact ⟨rfl, hB⟩
  by_cases h23 : 23 ≤ which
  · clear hblk hrow hsz hbl hb
    go_wp2
    go_ret
    exact ⟨rfl, hB⟩
  obtain ⟨k, rfl⟩ := Int.eq_ofNat_of_zero_le (by omega : 0 ≤ which)
  have hk : k < 23 := by omega
  have hc : W.cell? ⟨w1.heap.size + 1 + 1 + 1 + 1 + 1 + 1 + 1 + 1 + 1 + 1 + 1 + 1 + 1 + 1 + 1 + 1 + 1 + 1 + 1 + 1 + 1 + 1 + 1, k, none⟩ = some (.slice (some ⟨w1.heap.size + k, 0, none⟩) (tab[k]?.getD []).length (tab[k]?.getD []).length) := hrow k hk
  have hw : ptsOf (tab[k]?.getD []) = ([], 4) := tab_wrong ⟨k, hk⟩
  have hl8 : (tab[k]?.getD []).length ≤ 8 := tab_len ⟨k, hk⟩
  have P := Points_any (some ⟨w1.heap.size + k, 0, none⟩) (tab[k]?.getD []) (tab[k]?.getD []).length W (Nat.le_refl _) (by unfold maxLen; omega) (lies_of_block (hblk k hk) (tabs_below HT.out h1 hB) (by omega) (by omega))
  rw [hw] at P
  generalize tab[k]?.getD [] = l at hc P hl8
  generalize w1.heap.size + k = bk at hc P
  have hb1 : (k : Int) < 23 := by omega
  clear hblk hrow hbl hb hw hsz h0 h23 h1
  go_wp2_with (first | (go_at_call 9; refine P.mono ?_; rintro e w2 ⟨v, rfl, ho, hb2⟩; obtain ⟨a, n, c, rfl⟩ := ownsRow_form ho; obtain rfl : n = 0 := (by obtain ⟨-, ⟨e, -⟩ | ⟨g, cap, cur, e, -⟩⟩ := ho <;> cases e <;> rfl)) | (go_at_call 13; refine (num_any _ _).mono ?_; rintro e w' ⟨rfl, rfl⟩))
  go_ret
  exact ⟨rfl, hB.trans (hb2.mono hB.size)⟩
end Go.Proofs.YtdkodepeglpimaaDoor
