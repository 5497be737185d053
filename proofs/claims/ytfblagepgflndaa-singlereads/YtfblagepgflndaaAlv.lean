/- The document's example holds: alive answers true. -/
import Derived.Test.YtfblagepgflndaaRer
import Derived.Laws.IdiomStrings
set_option linter.unusedVariables false
set_option linter.unusedSimpArgs false
namespace Go.Proofs.Ytfblagepgflndaa
open Go.RowKit Go.Shelf

theorem Try.info5 : (Try.prog.info? 5).map (fun i => (i.zero, i.size, i.bytes)) = some (some (.int .u8 0), 1, 1) := by kernel_rfl
/-- Bytes of the call's own. -/
abbrev OwnB (w : World) (base : Nat) (v : Value) (t : List Int) : Prop := w.ownsRow base 5 1 v t.length (t.map (.int .u8))
theorem ownB_below {w w1 : World} {base : Nat} {v : Value} {xs : List Int} (h : OwnB w base v xs) (hg : w.grownBy w1 v.ownBlock) (hb : base ≤ w.heap.size) : Below base w w1 := by
  refine (Below.refl base w).grown hg hb fun k e => ?_
  obtain ⟨-, ⟨rfl, -⟩ | ⟨g, cap, cur, rfl, hgb, -⟩⟩ := h
  · cases e
  · cases e; exact hgb
theorem pushB {w : World} {base : Nat} {v : Value} {xs : List Int} (h : OwnB w base v xs) (hb : base ≤ w.heap.size) (hn : xs.length + 1 ≤ 1000000) (x : Int) :
    ∃ g cap w1, (Builtin.append_ #[32, 32] 32 #[v, .slice (some ⟨w.heap.size, 0, none⟩) 1 1]).run Try.prog (w.alloc (.cells #[.int .u8 x] 5)) = .ok (.slice (some ⟨g, 0, none⟩) (xs.length + 1) cap) w1 ∧
      OwnB w1 base (.slice (some ⟨g, 0, none⟩) (xs.length + 1) cap) (xs ++ [x]) ∧ Below base w w1 := by
  obtain ⟨i0, hi, hz0, hz1, hz2⟩ := info_parts Try.info5
  obtain ⟨g, cap, w1, h1, h2, h3, h4, -⟩ := run_append_lies (P := Try.prog) (w.alloc (.cells #[.int .u8 x] 5)) 32 32 base 5 i0 (.int .u8 0) 1 1 Try.underlying32 hi hz0 hz1 hz2 rfl (by decide)
    v xs.length (xs.map (.int .u8)) (h.alloc _) ⟨w.heap.size, 0, none⟩ 1 1 [.int .u8 x] rfl (cell_one_new _ _ _) (by simp [Value.oneCell']) (by decide) (by unfold maxLen; omega) (by omega) (by simp; omega) (w.heap.size + 1) (by simp)
  refine ⟨g, cap, w1, h1, ?_, ((Below.refl base w).alloc hb _).trans (ownB_below (h.alloc _) h3 (by simp; omega))⟩
  unfold OwnB
  rw [List.map_append, List.length_append]
  exact h2

set_option maxHeartbeats 1000000 in
theorem right_small (c : Int) (w : World) (h0 : 0 ≤ c) (h1 : c < 128) : Calls Try.prog 33 #[.int .i64 c] w fun e w' => e = .returned (.bool true) ∧ w' = w := by
  have h2 : c ≤ 1114111 := by omega
  have h3 : c < 55296 := by omega
  go_enter Try.func33, Try.ntmps33
  go_wp2
  go_ret
  exact ⟨rfl, rfl⟩

set_option maxRecDepth 100000 in
set_option maxHeartbeats 1000000 in
theorem put_small (base : Nat) (v : Value) (xs : List Int) (c : Int) (w : World) (h0 : 0 ≤ c) (h1 : c < 128) (ho : OwnB w base v xs) (hb : base ≤ w.heap.size) (hn : xs.length + 1 ≤ 1000000) :
    Calls Try.prog 25 #[v, .int .i64 c] w fun e w' => ∃ v', e = .returned v' ∧ OwnB w' base v' (xs ++ [c]) ∧ Below base w w' := by
  have RS := fun W => right_small c W h0 h1
  obtain ⟨g, cap, w1, hr, ho2, hb2⟩ := pushB ho hb hn c
  obtain ⟨va, vk, vc, rfl⟩ := ownsRow_form ho
  go_enter Try.func25, Try.ntmps25
  go_wp2_with (first | (go_at_call 33; refine (RS _).mono ?_; rintro e w ⟨rfl, rfl⟩) | (at_builtin; refine wpList_append_run (u := .slice va vk vc) rfl _ _ 32 rfl rfl rfl hr ?_; clear hr))
  go_ret
  exact ⟨_, rfl, ho2, hb2⟩

set_option maxRecDepth 100000 in
set_option maxHeartbeats 1000000 in
theorem Bytes_small (q : Option Addr) (t : List Int) (c : Nat) (w : World) (hn : t.length ≤ 1000) (ht : ∀ j, j < t.length → 0 ≤ iAt t j ∧ iAt t j < 128) (hI : Is w q t) :
    Calls Try.prog 17 #[.slice q t.length c] w fun e w' => ∃ v, e = .returned v ∧ OwnB w' w.heap.size v t ∧ Below w.heap.size w w' := by
  have hn2 : (t.length : Int) ≤ 1000 := by omega
  have HT : Hid (∀ j, j < t.length → 0 ≤ iAt t j ∧ iAt t j < 128) := ht
  clear ht
  go_enter Try.func17, Try.ntmps17
  go_wp2
  go_loopw [3, 4] (fun ov iv wr => ∃ (k : Nat), k ≤ t.length ∧ iv = .int .i64 k ∧ OwnB wr w.heap.size ov (t.take k) ∧ Below w.heap.size w wr) (fun _ iv _ => t.length - (intOf iv).toNat)
  case atStart => exact ⟨0, Nat.zero_le _, rfl, World.ownsRow_nil _ _ 5 1, Below.refl _ _⟩
  case round =>
    obtain ⟨k, hk, rfl, ho, hb⟩ := hrel
    by_cases hlt : k < t.length
    · have hli : (k : Int) < t.length := by omega
      obtain ⟨b, o, rfl, hu⟩ := (hI.on hb).at (by omega)
      have c0 := hu k hlt
      obtain ⟨t0, t1⟩ := HT.out k hlt
      have PS := put_small w.heap.size _ _ (iAt t k) wr t0 t1 ho hb.size (by rw [List.length_take]; omega)
      rw [← take_more hlt] at PS
      obtain ⟨va, vk, vq, rfl⟩ := ownsRow_form ho
      generalize iAt t k = x at c0 PS
      clear hu
      go_wp2_with (first | (go_at_call 25; refine PS.mono ?_; rintro e W4 ⟨v4, rfl, ho4, hb4⟩; obtain ⟨v4a, v4k, v4c, rfl⟩ := ownsRow_form ho4))
      go_roundw
      case rel => exact ⟨k + 1, by omega, by go_num, ho4, hb.trans hb4⟩
      case measure => simp [intOf]; omega
    · obtain rfl : k = t.length := by omega
      rw [List.take_length] at ho
      obtain ⟨va, vk, vq, rfl⟩ := ownsRow_form ho
      go_wp2
      go_ret
      exact ⟨_, rfl, ho, hb⟩

def exW (w : World) : World := (w.alloc (.cells #[.int .i64 105, .int .i64 116, .int .i64 39, .int .i64 39, .int .i64 115] 3)).alloc (.cells #[.slice (some ⟨w.heap.size, 0, none⟩) 5 5] 24)
def exR (w : World) : List Row := [⟨some ⟨w.heap.size, 0, none⟩, [105, 116, 39, 39, 115], 5⟩]
theorem exW_facts (w : World) : Mt (exW w) (some ⟨w.heap.size + 1, 0, none⟩) (exR w) ∧ Below w.heap.size w (exW w) := by
  have h1 := World.alloc_heap_new w (.cells #[.int .i64 105, .int .i64 116, .int .i64 39, .int .i64 39, .int .i64 115] 3)
  have h2 := World.alloc_heap_new (w.alloc (.cells #[.int .i64 105, .int .i64 116, .int .i64 39, .int .i64 39, .int .i64 115] 3)) (.cells #[.slice (some ⟨w.heap.size, 0, none⟩) 5 5] 24)
  rw [World.size_alloc] at h2
  have h1' : (exW w).heap[w.heap.size]? = _ := (Below.heap_alloc _ (.cells #[.slice (some ⟨w.heap.size, 0, none⟩) 5 5] 24) w.heap.size (by simp)).trans h1
  refine ⟨⟨fun j r hr => ?_, .inr ⟨_, 0, rfl, fun j r hr => ?_⟩⟩, ((Below.refl _ w).alloc (Nat.le_refl _) _).alloc (by simp) _⟩
  · match j, hr with
    | 0, hr =>
      cases hr
      refine ⟨by simp, by unfold maxLen; simp, ?_⟩
      exact is_of_block (l := [105, 116, 39, 39, 115]) h1'
    | j + 1, hr => simp [exR] at hr
  · match j, hr with
    | 0, hr =>
      cases hr
      have : (exW w).heap[w.heap.size + 1]? = _ := h2
      simp [World.cell?, this]
    | j + 1, hr => simp [exR] at hr
theorem flow_one (q : Option Addr) (t : List Int) (c : Nat) : flowT [⟨q, t, c⟩] = t := by
  rw [flowT_flS]
  show (flS [⟨q, t, c⟩] 1).1 = t
  simp [flS, tellF, trimG, tAt, sepR, trimF]
theorem ex_read (w : World) : readS (flowT (exR w)) = [105, 116, 39, 115] := by
  unfold exR
  rw [flow_one]
  decide +kernel

/-- string(b) of bytes that are known. -/
theorem ownB_string {B : Nat} {w : World} {g n c : Nat} {L : List Int} (h : OwnB w B (.slice (some ⟨g, 0, none⟩) n c) L) (hL : ∀ x ∈ L, 0 ≤ x ∧ x < 256) :
    (convert 32 9 (.slice (some ⟨g, 0, none⟩) n c)).run Try.prog w = .ok (.string ⟨(L.map fun x => UInt8.ofNat x.toNat).toArray⟩) w := by
  have hn : n = L.length := by
    obtain ⟨-, ⟨e, -⟩ | ⟨g', cap, cur, e, -⟩⟩ := h
    · cases e
    · cases e; rfl
  subst hn
  have := run_convert_bytes_back (P := Try.prog) w 32 9 5 ⟨g, 0, none⟩ c (L.map fun x => UInt8.ofNat x.toNat) Try.underlying32 Try.underlying5 Try.underlying9 (fun j hj => by
    have hj' : j < L.length := by simpa using hj
    have := h.cells (g := g) rfl j (.int .u8 L[j]) (by simp [hj'])
    rw [this]
    have := hL _ (List.getElem_mem hj')
    simp
    omega)
  rw [List.length_map] at this
  exact this

theorem ex_call (w : World) : Calls Try.prog 10 #[.slice (some ⟨w.heap.size + 1, 0, none⟩) 1 1] (exW w) fun e w' => ∃ q c, e = .returned (.slice q 4 c) ∧ Is w' q [105, 116, 39, 115] ∧ Below w.heap.size w w' := by
  obtain ⟨hM, hb0⟩ := exW_facts w
  have RD := Read_any (some ⟨w.heap.size + 1, 0, none⟩) (exR w) 1 (exW w) ⟨by simp [exR], fun i => by cases i <;> simp [exR, tAt]⟩ hM
  rw [ex_read w] at RD
  refine RD.mono ?_
  rintro e w' ⟨v, rfl, ho, hb⟩
  obtain ⟨q, c, rfl, hI⟩ := Owns.read ho
  exact ⟨q, c, rfl, hI, hb0.trans (hb.mono hb0.size)⟩

set_option maxRecDepth 100000 in
set_option maxHeartbeats 1000000 in
theorem alive_any (w : World) : Calls Try.prog 6 #[] w fun e w' => e = .returned (.bool true) ∧ Below w.heap.size w w' := by
  have RD := ex_call w
  unfold exW at RD
  go_enter Try.func6, Try.ntmps6
  go_wp2_with (first | (go_at_call 10; refine RD.mono ?_; rintro e W1 ⟨q, c, rfl, hI, hb⟩; have BS := Bytes_small q [105, 116, 39, 115] c W1 (by simp) (fun j hj => (by match j, hj with | 0, _ => decide | 1, _ => decide | 2, _ => decide | 3, _ => decide | j + 4, hj => simp at hj; omega)) hI; simp only [List.length_cons, List.length_nil, Nat.reduceAdd] at BS) | (go_at_call 17; refine BS.mono ?_; rintro e W2 ⟨v, rfl, ho2, hb2⟩; obtain ⟨g, cap, e⟩ := ownsRow_succ (k := 3) ho2; subst e; have CV := ownB_string ho2 (by simp)))
  go_ret
  exact ⟨rfl, hb.trans (hb2.mono hb.size)⟩
end Go.Proofs.Ytfblagepgflndaa
