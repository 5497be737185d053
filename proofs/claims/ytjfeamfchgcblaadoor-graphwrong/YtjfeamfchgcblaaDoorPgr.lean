/- The program's small functions: isNode, areNodes, isTag, fitsKind. -/
import Derived.Test.YtjfeamfchgcblaaDoorGrr
set_option linter.all false
set_option maxRecDepth 100000
namespace Go.Proofs.YtjfeamfchgcblaaDoor
open Go.RowKit

/-- What is asked of utf8.ValidString and props.Valid, in worlds where Tb holds. -/
structure LowP (Tb : World → Prop) (rit rv : ByteArray → Bool) : Prop where
  on : ∀ {A B : World}, Tb A → Below A.heap.size A B → Tb B
  tx : ∀ (s : ByteArray) (w : World), s.size ≤ 1048576 → Tb w → Calls Tryd.prog 28 #[.string s] w fun e w' => e = .returned (.bool (rit s)) ∧ Below w.heap.size w w'
  vl : ∀ (s : ByteArray) (w : World), s.size ≤ 1000 → Calls Tryd.prog 29 #[.string s] w fun e w' => e = .returned (.bool (rv s)) ∧ Below w.heap.size w w'
set_option maxHeartbeats 800000 in
theorem isNode_any (p pr : Option Addr) (n c nr cr : Nat) (x : Int) (w : World) (hn : n ≤ 1000000) :
    Calls Tryd.prog 27 #[grV p n c pr nr cr, .int .i64 x] w fun e w' => e = .returned (.bool (decide (0 ≤ x ∧ x < n))) ∧ Below w.heap.size w w' := by
  unfold grV
  have hB := (Below.refl w.heap.size w).alloc (Nat.le_refl _) (.cells #[.slice p n c, .slice pr nr cr] 25)
  by_cases h0 : 0 ≤ x
  · by_cases h1 : x < n
    · rw [decide_eq_true (p := 0 ≤ x ∧ x < n) ⟨h0, h1⟩]
      go_enter Tryd.func27, Tryd.ntmps27
      go_wp2
      go_ret
      exact ⟨by first | rfl | simp_all, hB⟩
    · rw [decide_eq_false (p := 0 ≤ x ∧ x < n) (by omega)]
      go_enter Tryd.func27, Tryd.ntmps27
      go_wp2
      go_ret
      exact ⟨by first | rfl | simp_all, hB⟩
  · rw [decide_eq_false (p := 0 ≤ x ∧ x < n) (by omega)]
    go_enter Tryd.func27, Tryd.ntmps27
    go_wp2
    go_ret
    exact ⟨by first | rfl | simp_all, hB⟩
set_option maxHeartbeats 800000 in
theorem areNodes_any (p pr : Option Addr) (n c nr cr : Nat) (a : Option Addr) (l : List Int) (cl : Nat) (w : World) (hn : n ≤ 1000000) (hI : Is w a l) (hl : l.length ≤ 1000000) :
    Calls Tryd.prog 20 #[grV p n c pr nr cr, .slice a l.length cl] w fun e w' => e = .returned (.bool (kidsOk l n)) ∧ Below w.heap.size w w' := by
  obtain ⟨R, hR⟩ : ∃ R, kidsOk l n = R := ⟨_, rfl⟩
  have HR : Hid (kidsOk l n = R) := hR
  rw [hR]
  clear hR
  have hB := (Below.refl w.heap.size w).alloc (Nat.le_refl _) (.cells #[.slice p n c, .slice pr nr cr] 25)
  have b0 : (w.alloc (.cells #[.slice p n c, .slice pr nr cr] 25)).heap[w.heap.size]? = some (.cells #[.slice p n c, .slice pr nr cr] 25) := World.alloc_heap_new w _
  have hlt : w.heap.size < (w.alloc (.cells #[.slice p n c, .slice pr nr cr] 25)).heap.size := by simp
  obtain ⟨w1, hw1⟩ : ∃ w1, w.alloc (.cells #[.slice p n c, .slice pr nr cr] 25) = w1 := ⟨_, rfl⟩
  rw [hw1] at hB b0 hlt
  unfold grV
  go_enter Tryd.func20, Tryd.ntmps20
  go_wp2
  go_loopw [9] (fun ri wr => ∃ i : Nat, i ≤ l.length ∧ ri = .int .i64 i ∧ Hid (∀ j, j < i → 0 ≤ iAt l j ∧ iAt l j < n) ∧ Below w1.heap.size w1 wr) (fun ri _ => l.length - (RowKit.intOf ri).toNat)
  case atStart => exact ⟨0, Nat.zero_le _, rfl, (fun j hj => by omega), by first | exact hw1 ▸ Below.refl _ _ | exact Below.refl _ _⟩
  case round =>
    obtain ⟨i, hi, rfl, h1, hBr⟩ := hrel
    have hBw : Below w.heap.size w wr := hB.trans (hBr.mono hB.size)
    have hbr := (hBr.block _ hlt).trans b0
    have g0 : wr.cell? ⟨w.heap.size, 0, none⟩ = some (.slice p n c) := by simp [World.cell?, hbr]
    have g1 : wr.cell? ⟨w.heap.size, 1, none⟩ = some (.slice pr nr cr) := by simp [World.cell?, hbr]
    by_cases hlt2 : i < l.length
    · obtain ⟨b, o, rfl, hc⟩ := (hI.on hBw).at (by omega)
      have c1 := hc i hlt2
      have hlt3 : (i : Int) < l.length := by omega
      have IN := isNode_any p pr n c nr cr (iAt l i) wr hn
      unfold grV at IN
      by_cases hk : 0 ≤ iAt l i ∧ iAt l i < n
      · rw [decide_eq_true hk] at IN
        have HN : Hid (∀ j, j < i + 1 → 0 ≤ iAt l j ∧ iAt l j < n) := fun j hj => by
          by_cases e : j = i
          · subst e; exact hk
          · exact h1.out j (by omega)
        generalize iAt l i = z at c1 IN hk
        clear hc h1 HR hk
        go_wp2_with (first | (go_at_call 27; refine IN.mono ?_; rintro e w2 ⟨rfl, hb2⟩))
        go_roundw
        case rel => exact ⟨i + 1, by omega, by go_num, HN.out, hBr.trans (hb2.mono hBr.size)⟩
        case measure => simp [RowKit.intOf]; omega
      · rw [decide_eq_false hk] at IN
        have HF : R = false := by rw [← HR.out, kidsOk_no hlt2 hk]
        generalize iAt l i = z at c1 IN hk
        clear hc h1 HR hk
        go_wp2_with (first | (go_at_call 27; refine IN.mono ?_; rintro e w2 ⟨rfl, hb2⟩))
        go_ret
        exact ⟨by first | rfl | exact ret_bool HF.symm, hBw.trans (hb2.mono hBw.size)⟩
    · obtain rfl : i = l.length := by omega
      have HF : R = true := by rw [← HR.out, kidsOk_yes h1.out]
      clear h1 HR
      go_wp2
      go_ret
      exact ⟨by first | rfl | exact ret_bool HF.symm, hBw⟩
set_option maxHeartbeats 800000 in
theorem isTag_any {Tb : World → Prop} {rit rv : ByteArray → Bool} (Lo : LowP Tb rit rv) (s : ByteArray) (w : World) (hs : s.size ≤ 1048576) :
    Calls Tryd.prog 22 #[.string s] w fun e w' => e = .returned (.bool (tagOk rv s)) ∧ Below w.heap.size w w' := by
  unfold tagOk
  by_cases h1 : s.size ≤ 1000
  · have VL := Lo.vl s w h1
    rw [decide_eq_true h1, Bool.and_true]
    have h1' : (s.size : Int) ≤ 1000 := by omega
    cases he : (s.toList == [33]) with
    | true =>
      rw [Bool.not_true, Bool.and_false]
      have hne : (s.toList != [33]) = false := by simpa using he
      go_enter Tryd.func22, Tryd.ntmps22
      go_wp2
      go_ret
      exact ⟨by first | rfl | simp_all, Below.refl _ _⟩
    | false =>
      rw [Bool.not_false, Bool.and_true]
      have hne : (s.toList != [33]) = true := by simpa using he
      generalize rv s = r at VL ⊢
      go_enter Tryd.func22, Tryd.ntmps22
      go_wp2_with (first | (go_at_call 29; refine VL.mono ?_; rintro e w2 ⟨rfl, hb⟩))
      go_ret
      exact ⟨by first | rfl | simp_all, hb⟩
  · rw [decide_eq_false h1, Bool.and_false]
    have h1' : ¬ (s.size : Int) ≤ 1000 := by omega
    go_enter Tryd.func22, Tryd.ntmps22
    go_wp2
    go_ret
    exact ⟨by first | rfl | simp_all, Below.refl _ _⟩
set_option maxHeartbeats 1600000 in
theorem fitsKind_any {Tb : World → Prop} {rit rv : ByteArray → Bool} (Lo : LowP Tb rit rv) (x : Gn) (w : World) (hx : x.text.size ≤ 1048576) (hT : Tb w) (hl : x.kids.length ≤ 1000000) :
    Calls Tryd.prog 21 #[gV x] w fun e w' => e = .returned (.bool (kindOk rit x)) ∧ Below w.heap.size w w' := by
  obtain ⟨kind, tag, text, q, kids, c, plain⟩ := x
  dsimp only at hx hl
  unfold gV
  dsimp only
  have hB := (Below.refl w.heap.size w).alloc (Nat.le_refl _) (.cells #[.int .i64 kind, .string tag, .string text, .slice q kids.length c, .bool plain] 33)
  have b0 : (w.alloc (.cells #[.int .i64 kind, .string tag, .string text, .slice q kids.length c, .bool plain] 33)).heap[w.heap.size]? = some (.cells #[.int .i64 kind, .string tag, .string text, .slice q kids.length c, .bool plain] 33) := World.alloc_heap_new w _
  obtain ⟨w1, hw1⟩ : ∃ w1, w.alloc (.cells #[.int .i64 kind, .string tag, .string text, .slice q kids.length c, .bool plain] 33) = w1 := ⟨_, rfl⟩
  rw [hw1] at hB b0
  have f0 : w1.cell? ⟨w.heap.size, 0, none⟩ = some (.int .i64 kind) := by simp [World.cell?, b0]
  have f2 : w1.cell? ⟨w.heap.size, 2, none⟩ = some (.string text) := by simp [World.cell?, b0]
  have f3 : w1.cell? ⟨w.heap.size, 3, none⟩ = some (.slice q kids.length c) := by simp [World.cell?, b0]
  have f4 : w1.cell? ⟨w.heap.size, 4, none⟩ = some (.bool plain) := by simp [World.cell?, b0]
  have TX := Lo.tx text w1 hx (Lo.on hT (by rw [← hw1]; exact (Below.refl w.heap.size w).alloc (Nat.le_refl _) _))
  obtain ⟨R, hR⟩ : ∃ R, kindOk rit ⟨kind, tag, text, q, kids, c, plain⟩ = R := ⟨_, rfl⟩
  have HK : Hid (kindOk rit ⟨kind, tag, text, q, kids, c, plain⟩ = R) := hR
  rw [hR]
  clear hR
  unfold kindOk at HK
  dsimp only at HK
  have hkl : (kids.length : Int) ≤ 1000000 := by omega
  clear b0
  by_cases k1 : kind = 1
  · subst k1
    rw [if_pos rfl] at HK
    unfold textP at HK
    by_cases h0 : kids.length = 0
    · rw [decide_eq_true h0, Bool.true_and] at HK
      have h0' : kids = [] := List.eq_nil_of_length_eq_zero h0
      subst h0'
      by_cases h1 : text.size ≤ 262144
      · rw [decide_eq_true h1, Bool.and_true] at HK
        have h1' : (text.size : Int) ≤ 262144 := by omega
        have hw2 : w.alloc (.cells #[.int .i64 1, .string tag, .string text, .slice q 0 c, .bool plain] 33) = w1 := hw1
        go_enter Tryd.func21, Tryd.ntmps21
        go_wp2_with (first | (go_at_call 28; (try rw [hw2]); refine TX.mono ?_; rintro e w3 ⟨rfl, hb3⟩))
        go_ret
        exact ⟨ret_bool HK.out, hB.trans (hb3.mono hB.size)⟩
      · rw [decide_eq_false h1, Bool.and_false] at HK
        have h1' : ¬ (text.size : Int) ≤ 262144 := by omega
        clear TX
        go_enter Tryd.func21, Tryd.ntmps21
        go_wp2
        go_ret
        exact ⟨ret_bool HK.out, by first | exact hB | exact hw1 ▸ hB⟩
    · rw [decide_eq_false h0, Bool.false_and] at HK
      have h0' : ((kids.length : Int) == 0) = false := by simp; intro e; exact h0 (by rw [e]; rfl)
      clear TX
      go_enter Tryd.func21, Tryd.ntmps21
      go_wp2
      go_ret
      exact ⟨ret_bool HK.out, by first | exact hB | exact hw1 ▸ hB⟩
  · have k1' : (kind == 1) = false := by simpa using k1
    rw [if_neg k1] at HK
    clear TX
    by_cases k2 : kind = 2
    · subst k2
      rw [if_pos rfl] at HK
      cases ht2 : text.toList.isEmpty with
      | true =>
        rw [ht2] at HK
        go_enter Tryd.func21, Tryd.ntmps21
        go_wp2
        go_ret
        exact ⟨ret_bool HK.out, by first | exact hB | exact hw1 ▸ hB⟩
      | false =>
        rw [ht2] at HK
        go_enter Tryd.func21, Tryd.ntmps21
        go_wp2
        go_ret
        exact ⟨ret_bool HK.out, by first | exact hB | exact hw1 ▸ hB⟩
    · have k2' : (kind == 2) = false := by simpa using k2
      rw [if_neg k2] at HK
      by_cases k3 : kind = 3
      · subst k3
        rw [if_pos rfl] at HK
        cases ht2 : text.toList.isEmpty with
        | false =>
          rw [ht2] at HK
          go_enter Tryd.func21, Tryd.ntmps21
          go_wp2
          go_ret
          exact ⟨ret_bool HK.out, by first | exact hB | exact hw1 ▸ hB⟩
        | true =>
          rw [ht2] at HK
          cases plain with
          | true =>
            go_enter Tryd.func21, Tryd.ntmps21
            go_wp2
            go_ret
            exact ⟨ret_bool HK.out, by first | exact hB | exact hw1 ▸ hB⟩
          | false =>
            have hmod : (kids.length : Int).tmod 2 = ((kids.length % 2 : Nat) : Int) := by rw [Int.tmod_eq_emod_of_nonneg (by omega)]; omega
            have hm2 : ((kids.length : Int) % 2 == 0) = decide (kids.length % 2 = 0) := by rw [Bool.eq_iff_iff, beq_iff_eq, decide_eq_true_iff]; omega
            go_enter Tryd.func21, Tryd.ntmps21
            go_wp2
            go_ret
            refine ⟨ret_bool ?_, by first | exact hB | exact hw1 ▸ hB⟩
            rw [← HK.out]
            simp only [Bool.not_false, Bool.true_and]
            all_goals first | exact hm2 | (rw [Bool.eq_iff_iff, beq_iff_eq, decide_eq_true_iff]; omega)
      · have k3' : (kind == 3) = false := by simpa using k3
        rw [if_neg k3] at HK
        go_enter Tryd.func21, Tryd.ntmps21
        go_wp2
        go_ret
        exact ⟨ret_bool HK.out, by first | exact hB | exact hw1 ▸ hB⟩
end Go.Proofs.YtjfeamfchgcblaaDoor
