/- slices.Grow and slices.Concat of rows of handles. -/
import Derived.Test.YtmeojnpehmhmoaaSrm
import Derived.Test.YtmeojnpehmhmoaaYls
import Derived.Lib.AppendZeros
import Derived.Deep.AppendLies
set_option linter.all false
set_option maxRecDepth 100000
namespace Go.Proofs.Ytmeojnpehmhmoaa
open Go.RowKit

theorem Try.info47 : (Try.prog.info? 47).map (fun i => (i.zero, i.size, i.bytes)) = some (some (.agg #[.string ⟨#[]⟩, .string ⟨#[]⟩]), 2, 32) := by kernel_rfl
theorem Try.info48 : (Try.prog.info? 48).map (fun i => (i.zero, i.size, i.bytes)) = some (some (.slice none 0 0), 1, 24) := by kernel_rfl
theorem slice_to48 (p : Option Addr) (len cap s : Nat) (hs : s ≤ cap) (w2 : World) :
    (Instr.slice 48 (.slice p len cap) none (some (.int .i64 s)) none).run Try.prog w2 = .ok (.slice p s cap) w2 := by
  have h0 : (s : Int) ≤ cap := by omega
  have u := Try.underlying48
  have z := Try.sizeOf47
  cases p with
  | none => simp [go_sem, h0]
  | some a =>
    obtain ⟨b, o, sp⟩ := a
    by_cases hc : cap = 0
    · subst hc; obtain rfl : s = 0 := by omega
      simp [go_sem]
    · cases sp <;> simp [go_sem, h0, hc, Addr.add]
/-- A row of handles of the call's own. -/
abbrev OwnM (w : World) (base : Nat) (v : Value) (l : List Mn) : Prop := w.ownsRow base 47 2 v l.length (l.flatMap encM)
theorem flat_len (l : List Mn) : (l.flatMap encM).length = l.length * 2 := by
  induction l with
  | nil => rfl
  | cons x l ih => rw [List.flatMap_cons, List.length_append, ih]; simp [encM]; omega
set_option maxHeartbeats 800000 in
theorem grow_any (n : Nat) (hn : 0 < n) (hn2 : n ≤ 10000) (w : World) :
    Calls Try.prog 33 #[.slice none 0 0, .int .i64 n] w fun e w' => ∃ v, e = .returned v ∧ OwnM w' w.heap.size v [] ∧ Below w.heap.size w w' ∧ ∃ g c, v = .slice (some ⟨g, 0, none⟩) 0 c := by
  obtain ⟨i0, hi, hz0, hz1, hz2⟩ := info_parts Try.info47
  have R := Lib.run_append_nil_zeros (P := Try.prog) w 48 3 48 47 i0 _ .i64 .i64 Try.underlying48 Try.underlying3 hi hz0 n hn (by omega) (by omega) (by rw [hz2]; omega)
  have hge := grownCap_ge w n 0 47
  have hcm := grownCap_le_maxLen w n 0 47 (by unfold maxLen; omega)
  generalize grownCap w n 0 47 = c at R hge hcm
  have hO : OwnM (w.drew.alloc (.cells (Builtin.zeroCells (Value.agg #[.string ⟨#[]⟩, .string ⟨#[]⟩]).cells n ++ Builtin.zeroCells (Value.agg #[.string ⟨#[]⟩, .string ⟨#[]⟩]).cells (c - n)) 47)) w.heap.size (.slice (some ⟨w.heap.size, 0, none⟩) 0 c) [] := by
    refine ⟨rfl, .inr ⟨w.heap.size, c, _, rfl, Nat.le_refl _, World.alloc_heap_new w.drew _, Nat.zero_le _, hcm, ?_, rfl⟩⟩
    rw [Array.size_append, size_zeroCells, size_zeroCells]
    have : (Value.agg #[.string ⟨#[]⟩, .string ⟨#[]⟩]).cells.size = 2 := rfl
    rw [this]
    omega
  have hB : Below w.heap.size w (w.drew.alloc (.cells (Builtin.zeroCells (Value.agg #[.string ⟨#[]⟩, .string ⟨#[]⟩]).cells n ++ Builtin.zeroCells (Value.agg #[.string ⟨#[]⟩, .string ⟨#[]⟩]).cells (c - n)) 47)) := ((Below.refl _ w).drew).alloc (by simp) _
  generalize w.drew.alloc (.cells (Builtin.zeroCells (Value.agg #[.string ⟨#[]⟩, .string ⟨#[]⟩]).cells n ++ Builtin.zeroCells (Value.agg #[.string ⟨#[]⟩, .string ⟨#[]⟩]).cells (c - n)) 47) = w1 at R hO hB
  have S2 := slice_to48 (some ⟨w.heap.size, 0, none⟩) n c 0 (Nat.zero_le _)
  have e0 : ((0 : Nat) : Int) = 0 := rfl
  rw [e0] at S2
  have hn3 : (0 : Int) < n := by omega
  have hc3 : (n : Int) ≤ c := by omega
  go_enter Try.func33, Try.ntmps33
  go_wp2_with (first | (at_builtin; refine Lib.wpList_append_run _ rfl _ _ 48 3 rfl _ _ rfl rfl _ _ R ?_))
  go_ret
  exact ⟨_, rfl, hO, hB, _, _, rfl⟩

theorem flat_get : ∀ (l : List Mn) (j : Nat), j < l.length → (l.flatMap encM)[j * 2]? = some (.string (mAt l j).1) ∧ (l.flatMap encM)[j * 2 + 1]? = some (.string (mAt l j).2)
  | [], j, h => by simp at h
  | x :: l, 0, _ => ⟨rfl, rfl⟩
  | x :: l, j + 1, h => by
    have ih := flat_get l j (by simp at h; omega)
    have e1 : (j + 1) * 2 = j * 2 + 1 + 1 := by omega
    have e2 : mAt (x :: l) (j + 1) = mAt l j := by simp [mAt]
    rw [e1, e2]
    exact ih
theorem mr_news {w : World} {g : Nat} {l : List Mn} (h : Mr w g l) : ∀ j u, (l.flatMap encM)[j]? = some u → w.cell? ((⟨g, 0, none⟩ : Addr).add j) = some u := by
  intro j u hu
  have hj : j < l.length * 2 := by
    have := (List.getElem?_eq_some_iff.1 hu).1
    rwa [flat_len] at this
  rw [add_plain, Nat.zero_add]
  obtain ⟨f1, f2⟩ := flat_get l (j / 2) (by omega)
  obtain ⟨h1, h2⟩ := h (j / 2) (by omega)
  by_cases hp : j % 2 = 0
  · have e : j / 2 * 2 = j := by omega
    rw [e] at f1 h1
    rw [h1, ← f1, hu]
  · have e : j / 2 * 2 + 1 = j := by omega
    rw [e] at f2 h2
    rw [h2, ← f2, hu]
theorem enc_one (l : List Mn) : ∀ u ∈ l.flatMap encM, u.oneCell' = true := by
  intro u hu
  obtain ⟨x, -, hx⟩ := List.mem_flatMap.1 hu
  simp [encM] at hx
  rcases hx with rfl | rfl <;> rfl
/-- An own row is read as it is; no cell of it is frozen. -/
theorem own_mr {w : World} {base : Nat} {g k c : Nat} {l : List Mn} (h : OwnM w base (.slice (some ⟨g, 0, none⟩) k c) l) : k = l.length ∧ l.length ≤ c ∧ base ≤ g ∧ g < w.heap.size ∧ Mr w g l ∧ ∀ j, w.frozen? ⟨g, j, none⟩ = false := by
  obtain ⟨h1, ⟨e, -⟩ | ⟨g', cap, cur, e, hb, hg, h2, h3, h4, h5⟩⟩ := h
  · cases e
  · cases e
    refine ⟨rfl, h2, hb, (Array.getElem?_eq_some_iff.1 hg).1, fun j hj => ?_, fun j => by simp [World.frozen?, hg]⟩
    obtain ⟨f1, f2⟩ := flat_get l j hj
    rw [← h5] at f1 f2
    rw [List.getElem?_take_of_lt (by omega), Array.getElem?_toList] at f1 f2
    exact ⟨by simp [World.cell?, hg, f1], by simp [World.cell?, hg, f2]⟩
theorem push_row {w : World} {base : Nat} {v : Value} {l l2 : List Mn} (h : OwnM w base v l) (hb : base ≤ w.heap.size) (g2 c2 : Nat) (hM : Mr w g2 l2) (h0 : 0 < l2.length) (hn : l.length + l2.length ≤ 10000) :
    ∃ g cap w1, (Builtin.append_ #[48, 48] 48 #[v, .slice (some ⟨g2, 0, none⟩) l2.length c2]).run Try.prog w = .ok (.slice (some ⟨g, 0, none⟩) (l.length + l2.length) cap) w1 ∧
      OwnM w1 base (.slice (some ⟨g, 0, none⟩) (l.length + l2.length) cap) (l ++ l2) ∧ w.grownBy w1 v.ownBlock := by
  obtain ⟨i0, hi, hz0, hz1, hz2⟩ := info_parts Try.info47
  obtain ⟨g, cap, w1, h1, h2, h3, -, -⟩ := run_append_lies (P := Try.prog) w 48 48 base 47 i0 (.agg #[.string ⟨#[]⟩, .string ⟨#[]⟩]) 2 32 Try.underlying48 hi hz0 hz1 hz2 rfl (by decide)
    v l.length (l.flatMap encM) h ⟨g2, 0, none⟩ l2.length c2 (l2.flatMap encM) (flat_len l2) (mr_news hM) (enc_one l2) h0 (by unfold maxLen; omega) (by omega) hb w.heap.size rfl
  refine ⟨g, cap, w1, h1, ?_, h3⟩
  unfold OwnM
  rw [List.length_append, List.flatMap_append]
  exact h2
theorem Below.grown' {n : Nat} {w W W' : World} {v : Value} {l : List Mn} (h : Below n w W) (ho : OwnM W n v l) (hg : W.grownBy W' v.ownBlock) (hn : n ≤ W.heap.size) : Below n w W' := by
  refine h.grown hg hn fun k e => ?_
  rcases ho.2 with ⟨rfl, -⟩ | ⟨g, cap, cur, rfl, hb, -⟩
  · cases e
  · cases e; exact hb

set_option maxHeartbeats 1600000 in
theorem concat_any (H g1 c1 g2 c2 : Nat) (l1 l2 : List Mn) (w : World) (a1 : w.cell? ⟨H, 0, none⟩ = some (.slice (some ⟨g1, 0, none⟩) l1.length c1)) (a2 : w.cell? ⟨H, 1, none⟩ = some (.slice (some ⟨g2, 0, none⟩) l2.length c2))
    (m1 : Mr w g1 l1) (m2 : Mr w g2 l2) (p1 : 0 < l1.length) (p2 : 0 < l2.length) (q1 : l1.length ≤ 1000) (q2 : l2.length ≤ 1000) :
    Calls Try.prog 15 #[.slice (some ⟨H, 0, none⟩) 2 2] w fun e w' => ∃ g cap, e = .returned (.slice (some ⟨g, 0, none⟩) (l1.length + l2.length) cap) ∧ OwnM w' w.heap.size (.slice (some ⟨g, 0, none⟩) (l1.length + l2.length) cap) (l1 ++ l2) ∧ Below w.heap.size w w' := by
  have hH1 := World.block_lt_of_cell? w _ a1
  have GR := grow_any (l1.length + l2.length) (by omega) (by omega) w
  rw [Int.natCast_add] at GR
  go_enter Try.func15, Try.ntmps15
  go_wp2
  go_loop [11, 3] (fun ri rs => (ri = .int .i64 0 ∧ rs = .int .i64 0) ∨ (ri = .int .i64 1 ∧ rs = .int .i64 (l1.length : Int)) ∨ (ri = .int .i64 2 ∧ rs = .int .i64 ((l1.length : Int) + l2.length))) (fun ri _ => (2 - RowKit.intOf ri).toNat)
  case atStart => exact .inl ⟨rfl, rfl⟩
  case round =>
    rcases hrel with ⟨rfl, rfl⟩ | ⟨rfl, rfl⟩ | ⟨rfl, rfl⟩
    · have hw : IntKind.i64.wrap (l1.length : Int) = l1.length := by simp [IntKind.wrap, IntKind.bits, IntKind.signed]; omega
      go_wp2
      go_round
      case rel => exact .inr (.inl ⟨rfl, by simp⟩)
      case measure => simp [RowKit.intOf]
    · have hw : IntKind.i64.wrap ((l1.length : Int) + l2.length) = (l1.length : Int) + l2.length := by simp [IntKind.wrap, IntKind.bits, IntKind.signed]; omega
      have hw2 : ¬ (l1.length : Int) + l2.length < 0 := by omega
      go_wp2
      go_round
      case rel => exact .inr (.inr ⟨rfl, rfl⟩)
      case measure => simp [RowKit.intOf]
    · go_wp2_with (first | (go_at_call 33; refine GR.mono ?_; rintro e w1 ⟨v, rfl, hO, hB, g0, c0, rfl⟩))
      have P1 : Hid (∀ W v, OwnM W w.heap.size v [] → Below w.heap.size w W → ∃ g cap w1, (Builtin.append_ #[48, 48] 48 #[v, .slice (some ⟨g1, 0, none⟩) l1.length c1]).run Try.prog W = .ok (.slice (some ⟨g, 0, none⟩) l1.length cap) w1 ∧ OwnM w1 w.heap.size (.slice (some ⟨g, 0, none⟩) l1.length cap) l1 ∧ Below w.heap.size w w1) := by
        intro W v hO hB
        obtain ⟨g, cap, w1, h1, h2, h3⟩ := push_row hO hB.size g1 c1 (m1.on hB) p1 (by simp; omega)
        simp only [List.length_nil, Nat.zero_add, List.nil_append] at h1 h2
        exact ⟨g, cap, w1, h1, h2, Below.grown' hB hO h3 hB.size⟩
      have P2 : Hid (∀ W v, OwnM W w.heap.size v l1 → Below w.heap.size w W → ∃ g cap w1, (Builtin.append_ #[48, 48] 48 #[v, .slice (some ⟨g2, 0, none⟩) l2.length c2]).run Try.prog W = .ok (.slice (some ⟨g, 0, none⟩) (l1.length + l2.length) cap) w1 ∧ OwnM w1 w.heap.size (.slice (some ⟨g, 0, none⟩) (l1.length + l2.length) cap) (l1 ++ l2) ∧ Below w.heap.size w w1) := by
        intro W v hO hB
        obtain ⟨g, cap, w1, h1, h2, h3⟩ := push_row hO hB.size g2 c2 (m2.on hB) p2 (by omega)
        exact ⟨g, cap, w1, h1, h2, Below.grown' hB hO h3 hB.size⟩
      clear GR m1 m2
      go_loopw [27, 6] (fun ri rv wr => Below w.heap.size w wr ∧ ((ri = .int .i64 0 ∧ OwnM wr w.heap.size rv [] ∧ ∃ g c, rv = .slice (some ⟨g, 0, none⟩) 0 c) ∨ (ri = .int .i64 1 ∧ ∃ g c, rv = .slice (some ⟨g, 0, none⟩) l1.length c ∧ OwnM wr w.heap.size rv l1) ∨ (ri = .int .i64 2 ∧ ∃ g c, rv = .slice (some ⟨g, 0, none⟩) (l1.length + l2.length) c ∧ OwnM wr w.heap.size rv (l1 ++ l2)))) (fun ri _ _ => (2 - RowKit.intOf ri).toNat)
      case atStart => exact ⟨hB, .inl ⟨rfl, hO, _, _, rfl⟩⟩
      case round =>
        obtain ⟨hBr, hrel⟩ := hrel
        have b1 := (hBr.cell (p := ⟨H, 0, none⟩) hH1).trans a1
        have b2 := (hBr.cell (p := ⟨H, 1, none⟩) hH1).trans a2
        rcases hrel with ⟨rfl, ho, gg, cc, rfl⟩ | ⟨rfl, gg, cc, rfl, ho⟩ | ⟨rfl, gg, cc, rfl, ho⟩
        · obtain ⟨g, cap, w2, hrun, ho2, hB2⟩ := P1.out wr _ ho hBr
          clear P1 P2 ho
          go_wp2_with (first | (at_builtin; refine wpList_append_run rfl _ _ 48 rfl rfl rfl hrun ?_))
          go_roundw
          case rel => exact ⟨hB2, .inr (.inl ⟨rfl, _, _, rfl, ho2⟩)⟩
          case measure => simp [RowKit.intOf]
        · obtain ⟨g, cap, w2, hrun, ho2, hB2⟩ := P2.out wr _ ho hBr
          clear P1 P2 ho
          go_wp2_with (first | (at_builtin; refine wpList_append_run rfl _ _ 48 rfl rfl rfl hrun ?_))
          go_roundw
          case rel => exact ⟨hB2, .inr (.inr ⟨rfl, _, _, rfl, ho2⟩)⟩
          case measure => simp [RowKit.intOf]
        · clear P1 P2
          go_wp2
          go_ret
          exact ⟨_, _, rfl, ho, hBr⟩
end Go.Proofs.Ytmeojnpehmhmoaa
