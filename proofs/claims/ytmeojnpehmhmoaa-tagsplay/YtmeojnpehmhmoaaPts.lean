/- The code points of a text, as a range over it tells them; the iterator over them. -/
import Derived.Test.YtmeojnpehmhmoaaYss
import Derived.RangeFuncBox
import Derived.Laws.RangeAny
import Derived.Lib.OthersKept
set_option linter.all false
namespace Go.Proofs.Ytmeojnpehmhmoaa
open Go.RowKit Go.Shelf Go.Lib
attribute [local go_sem] Oper.semAt_some

theorem drop_consS {α : Type} {T : List α} {i : Nat} {x : α} {r : List α} (h : T.drop i = x :: r) : T[i]? = some x ∧ T.drop (i + 1) = r ∧ i < T.length := by
  have hl : i < T.length := by
    by_cases hl : i < T.length
    · exact hl
    · rw [List.drop_eq_nil_of_le (by omega)] at h; cases h
  rw [List.drop_eq_getElem_cons hl] at h
  injection h with h1 h2
  exact ⟨by rw [List.getElem?_eq_getElem hl, h1], h2, hl⟩
def rnF (s : ByteArray) : Nat → Nat → List Int
  | 0, _ => []
  | f + 1, p => if p < s.size then ((Utf8.decode s p).1 : Int) :: rnF s f (p + (Utf8.decode s p).2) else []
/-- The code points from a place on. -/
def rnS (s : ByteArray) (p : Nat) : List Int := rnF s (s.size - p) p
theorem wid_pos (s : ByteArray) (p : Nat) (h : p < s.size) : 1 ≤ (Utf8.decode s p).2 := by
  by_cases ha : (s[p]'h).toNat < 128
  · rw [decode_ascii s p h ha]; exact Nat.le_refl _
  · exact (decode_high s p h (by omega)).2
theorem rnF_more (s : ByteArray) : ∀ f g p, s.size - p ≤ f → s.size - p ≤ g → rnF s f p = rnF s g p := by
  intro f
  induction f with
  | zero =>
    intro g p h1 h2
    cases g with
    | zero => rfl
    | succ g => rw [rnF, rnF, if_neg (by omega)]
  | succ f ih =>
    intro g p h1 h2
    cases g with
    | zero => rw [rnF, rnF, if_neg (by omega)]
    | succ g =>
      rw [rnF, rnF]
      by_cases hp : p < s.size
      · have := wid_pos s p hp
        rw [if_pos hp, if_pos hp, ih g _ (by omega) (by omega)]
      · rw [if_neg hp, if_neg hp]
theorem rnS_stop {s : ByteArray} {p : Nat} (h : ¬ p < s.size) : rnS s p = [] := by
  unfold rnS
  rw [show s.size - p = 0 by omega]
  rfl
theorem rnS_step {s : ByteArray} {p : Nat} (h : p < s.size) : rnS s p = ((Utf8.decode s p).1 : Int) :: rnS s (p + (Utf8.decode s p).2) := by
  have := wid_pos s p h
  unfold rnS
  obtain ⟨m, hm⟩ : ∃ m, s.size - p = m + 1 := ⟨s.size - p - 1, by omega⟩
  rw [hm, rnF, if_pos h, rnF_more s m (s.size - (p + (Utf8.decode s p).2)) _ (by omega) (Nat.le_refl _)]
theorem rnS_len (s : ByteArray) : ∀ f p, s.size - p ≤ f → (rnS s p).length ≤ s.size - p := by
  intro f
  induction f with
  | zero => intro p h; rw [rnS_stop (by omega)]; exact Nat.zero_le _
  | succ f ih =>
    intro p h
    by_cases hp : p < s.size
    · have h1 := wid_pos s p hp
      have h2 := ih (p + (Utf8.decode s p).2) (by omega)
      rw [rnS_step hp, List.length_cons]
      omega
    · rw [rnS_stop hp]; exact Nat.zero_le _

theorem iterAt_grown (W : World) (k : Nat) (s : ByteArray) (p : Nat) : W.grownBy (W.iterAt k s p) (some k) :=
  ⟨rfl, rfl, rfl, by rw [iterAt_size]; exact Nat.le_refl _, fun j hj hne => iterAt_other W k j s p (fun e => hne (by rw [e]))⟩

set_option maxRecDepth 100000 in
set_option maxHeartbeats 1600000 in
theorem points1_in (n l Bb : Nat) (s : ByteArray) (J Jx : Nat → World → Prop) (W : World)
    (c1 : W.cell? ⟨Bb, 0, none⟩ = some (.string s)) (hJ : AbS W.heap.size J)
    (hY : ∀ (m i : Nat) (x : Int) (W1 : World), (rnS s 0)[i]? = some x → J i W1 → YieldAt Fence.wide m Try.prog l #[.int .i64 x] W1 fun e W' =>
      (e = .returned (.bool true) ∧ J (i + 1) W' ∧ Ks W.heap.size W1 W') ∨ (e = .returned (.bool false) ∧ Jx (i + 1) W')) (h0 : J 0 W) :
    CallsIn Fence.wide n Try.prog 66 #[.func (.yield l) #[] #[], .pointer (some ⟨Bb, 0, none⟩)] W fun e W' => (∃ v, e = .returned v) ∧ (J (rnS s 0).length W' ∨ ∃ i, Jx i W') := by
  have HY : Hid (∀ (m i : Nat) (x : Int) (W1 : World), (rnS s 0)[i]? = some x → J i W1 → YieldAt Fence.wide m Try.prog l #[.int .i64 x] W1 fun e W' =>
      (e = .returned (.bool true) ∧ J (i + 1) W' ∧ Ks W.heap.size W1 W') ∨ (e = .returned (.bool false) ∧ Jx (i + 1) W')) := hY
  clear hY
  obtain ⟨T, hT⟩ : ∃ T, rnS s 0 = T := ⟨_, rfl⟩
  rw [hT] at HY ⊢
  have HT : Hid (rnS s 0 = T) := hT
  clear hT
  refine callsIn_of_wp Try.func66 rfl trivial ?_ rfl
  simp only [Try.ntmps66, List.size_toArray, List.length_cons, List.length_nil, Nat.reduceAdd, Nat.reduceSub, Array.replicate_succ, Array.replicate_zero, List.push_toArray, List.append_toArray, List.nil_append, List.cons_append]
  gi_wp2
  gi_loopw [4] (fun rv wr => ∃ (p i : Nat), wr.heap[W.heap.size]? = some (.stringIter s p) ∧ Hid (T.drop i = rnS s p) ∧ i ≤ T.length ∧ J i wr) (fun _ wr => s.size - wr.iterPos W.heap.size)
  case atStart =>
    exact ⟨0, 0, World.iter_heap W s 0, HT.out.symm, Nat.zero_le _, hJ _ _ _ none h0 (World.grownBy_alloc W _ none) (fun r e => by cases e)⟩
  case round =>
    obtain ⟨p, i, hh, hTi, hi, hJr⟩ := hrel
    by_cases hp : p < s.size
    · have hnx : ∀ ty, (Instr.next (.pointer (some ⟨W.heap.size, 0, none⟩)) true ty).run Try.prog wr = _ := fun ty => run_next_any_at wr W.heap.size s p ty hh hp
      have hTi2 := hTi.out
      rw [rnS_step hp] at hTi2
      obtain ⟨hx, hT3, hil⟩ := drop_consS hTi2
      have hwd := wid_pos s p hp
      have hle := decode_le s p
      obtain ⟨d, hd⟩ : ∃ d, Utf8.decode s p = d := ⟨_, rfl⟩
      rw [hd] at hx hT3 hwd hnx hle
      obtain ⟨c, k⟩ := d
      have HT3 : Hid (T.drop (i + 1) = rnS s (p + k)) := hT3
      have hJ1 : J i (wr.iterAt W.heap.size s (p + k)) := hJ _ _ _ (some W.heap.size) hJr (iterAt_grown _ _ _ _) (fun r e => by cases e; exact ⟨Nat.le_refl _, s, p, hh⟩)
      have hh1 := iterAt_heap wr W.heap.size s p (p + k) hh
      have Y := HY.out (n - 1) i c (wr.iterAt W.heap.size s (p + k)) hx hJ1
      obtain ⟨fn, tmps, assign, body, hy, hR⟩ := Y
      have hp0 : Hid (wr.iterPos W.heap.size = p) := by show wr.iterPos W.heap.size = p; unfold World.iterPos; rw [hh]
      have hw1 : IntKind.i64.wrap (c : Int) = c := by dsimp only at hle; simp [IntKind.wrap, IntKind.bits, IntKind.signed]; omega
      clear HY hTi hTi2 hT3 hd hx hJ1 hh hJr
      obtain ⟨w2, hw2⟩ : ∃ w2, wr.iterAt W.heap.size s (p + k) = w2 := ⟨_, rfl⟩
      dsimp only at hnx
      rw [hw2] at hnx hR hy hh1
      clear hw2
      gi_wp2
      refine ⟨(fun h => by cases h), hR.mono ?_⟩
      rintro e3 W3 (⟨rfl, hJ3, hk3⟩ | ⟨rfl, hJx3⟩)
      · clear hR hy
        gi_wp2
        go_roundw
        case rel => exact ⟨p + k, i + 1, hk3 _ _ _ (Nat.le_refl _) hh1, HT3, hil, hJ3⟩
        case measure =>
          have e1 := hp0.out
          have e2 : W3.iterPos W.heap.size = p + k := by unfold World.iterPos; rw [hk3 _ _ _ (Nat.le_refl _) hh1]
          rw [e1, e2]
          omega
      · clear hR hy
        gi_wp2
        refine bodyPost_ret (results_none rfl _ _ _) rfl ?_
        exact ⟨⟨_, rfl⟩, .inr ⟨_, hJx3⟩⟩
    · have hnx : ∀ ty, (Instr.next (.pointer (some ⟨W.heap.size, 0, none⟩)) true ty).run Try.prog wr = _ := fun ty => run_next_end_at wr W.heap.size s p ty hh hp
      have hTl : i = T.length := by
        have := hTi.out
        rw [rnS_stop hp] at this
        have := List.drop_eq_nil_iff.1 this
        omega
      subst hTl
      clear HY hTi hh
      gi_wp2
      go_end0
      exact ⟨⟨_, rfl⟩, .inl hJr⟩

theorem points_seq (n Bb : Nat) (s : ByteArray) (w : World) (c1 : w.cell? ⟨Bb, 0, none⟩ = some (.string s)) :
    SeqS n Try.prog 66 #[.pointer (some ⟨Bb, 0, none⟩)] (fun x : Int => #[.int .i64 x]) (rnS s 0) w := fun l J Jx W hW _ hJ hJx hY h0 =>
  points1_in n l Bb s J Jx W ((hW.cell (p := ⟨Bb, 0, none⟩) (World.block_lt_of_cell? w _ c1)).trans c1) hJ hY h0

set_option maxHeartbeats 1000000 in
theorem points_in (n : Nat) (s : ByteArray) (w : World) :
    CallsIn Fence.wide n Try.prog 40 #[.string s] w fun e w' => e = .returned (.func (.func 66) #[] #[.pointer (some ⟨w.heap.size, 0, none⟩)]) ∧ w' = w.alloc (.cells #[.string s] 9) := by
  refine callsIn_of_wp Try.func40 rfl trivial ?_ rfl
  simp only [Try.ntmps40, List.size_toArray, List.length_cons, List.length_nil, Nat.reduceAdd, Nat.reduceSub, Array.replicate_succ, Array.replicate_zero, List.push_toArray, List.append_toArray, List.nil_append, List.cons_append]
  gi_wp2
  go_ret
  exact ⟨rfl, rfl⟩
end Go.Proofs.Ytmeojnpehmhmoaa
