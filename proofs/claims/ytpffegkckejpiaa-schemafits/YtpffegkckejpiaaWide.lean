/- carried and timesPlus of wide lists once more, with what they leave alone: every block that is no row of wide digits. -/
import Derived.Test.YtpffegkckejpiaaTimes
set_option linter.unusedVariables false
set_option linter.unusedSimpArgs false
namespace Go.Proofs.Ytpffegkckejpiaa
open Go.RowKit

/-- What is no row of wide digits lies as it lay. -/
def Nc (w w' : World) : Prop := ∀ (k : Nat) (o : Obj), w.heap[k]? = some o → (∀ cur f, o ≠ .cells cur 90 f) → w'.heap[k]? = some o
theorem Nc.refl (w : World) : Nc w w := fun _ _ h _ => h
theorem Nc.trans {a b c : World} (h : Nc a b) (k : Nc b c) : Nc a c := fun i o h1 h2 => k i o (h i o h1 h2) h2
theorem Nc.grown {w w' : World} {o : Obj} {v : Value} {B n : Nat} {xs : List Value} (hr : w.ownsRow B 90 1 v n xs) (hg : (w.alloc o).grownBy w' v.ownBlock) : Nc w w' := by
  intro k o' h1 h2
  have hlt := (Array.getElem?_eq_some_iff.1 h1).1
  rw [hg.block k (by simp; omega) ?_, Below.heap_alloc w o k hlt]
  · exact h1
  · intro e
    obtain ⟨-, ⟨rfl, -⟩ | ⟨g, cap, cur, rfl, -, hh, -⟩⟩ := hr
    · cases e
    · cases e
      rw [hh] at h1
      cases h1
      exact h2 _ _ rfl
theorem Nc.put {w : World} {B g n m c i : Nat} {xs : List Value} {u : Value} (hr : w.ownsRow B 90 1 (.slice (some ⟨g, 0, none⟩) m c) n xs) : Nc w (w.setCell ⟨g, i, none⟩ u) := by
  intro k o h1 h2
  rw [Below.heap_setCell w ⟨g, i, none⟩ u k ?_]
  · exact h1
  · rintro rfl
    obtain ⟨-, ⟨e, -⟩ | ⟨g', cap, cur, e, -, hh, -⟩⟩ := hr
    · cases e
    · cases e
      rw [hh] at h1
      cases h1
      exact h2 _ _ rfl

theorem push32n {B : Nat} {w : World} {v : Value} {l : List Nat} (h : Own .u32 90 B w v l) (hB : B ≤ w.heap.size) (x : Nat) (hl : l.length < 1099511627776) :
    ∃ g c w', (Builtin.append_ #[67, 67] 67 #[v, .slice (some ⟨w.heap.size, 0, none⟩) 1 1]).run Try.prog (w.alloc (.cells #[.int .u32 x] 90)) = .ok (.slice (some ⟨g, 0, none⟩) (l.length + 1) c) w' ∧
      Own .u32 90 B w' (.slice (some ⟨g, 0, none⟩) (l.length + 1) c) (l ++ [x]) ∧ Below B w w' ∧ Nc w w' := by
  obtain ⟨i0, hi, hz0, hz1, hz2⟩ := info_parts Try.info90
  obtain ⟨v', w', hr, ho, hg, -⟩ := run_append_own (P := Try.prog) (w.alloc (.cells #[.int .u32 x] 90)) B 67 67 90 i0 (.int .u32 0) 1 4 Try.underlying67 hi hz0 hz1 hz2 rfl (by decide) v l.length (vi .u32 l) (h.alloc _)
    ⟨w.heap.size, 0, none⟩ 1 1 [.int .u32 x] rfl (cells_new w [.int .u32 x] 90) (by simp [Value.oneCell']) (by unfold maxLen; omega) (by omega) (by simp; omega)
  have ho' : Own .u32 90 B w' v' (l ++ [x]) := by
    unfold Own
    rw [vi_snoc, List.length_append]
    exact ho
  obtain ⟨p, c, rfl, hc1, hc2, -, -, hn, hg0⟩ := ho'.form
  cases p with
  | none => have := (hn rfl).1; simp at this
  | some a =>
    have ea := hg0 a rfl
    rw [ea] at hr ho'
    rw [List.length_append] at hr ho'
    refine ⟨a.block, c, w', hr, ho', ((Below.refl _ w).alloc hB _).grown hg (by simp; omega) (fun j e => (h.lt j e).1), Nc.grown h hg⟩

set_option maxRecDepth 100000 in
set_option maxHeartbeats 1000000 in
theorem carried32n (B : Nat) (v : Value) (l : List Nat) (c : Nat) (w : World) (hO : Own .u32 90 B w v l) (hB : B ≤ w.heap.size) (hc : c < 18446744073709551616) (hl : l.length ≤ 549755813888) :
    Calls Try.prog 79 #[v, .int .u64 c, .int .u64 1000000000] w fun e w' => ∃ v', e = .returned v' ∧ Own .u32 90 B w' v' (l ++ carP 1000000000 c) ∧ Below B w w' ∧ Nc w w' := by
  obtain ⟨p0, c0, rfl, -⟩ := hO.form
  go_enter Try.func79, Try.ntmps79
  go_wp2
  go_loopw [0, 1] (fun u cv wr => ∃ (l' : List Nat) (c' : Nat), cv = .int .u64 c' ∧ Hid (Own .u32 90 B wr u l') ∧ Hid (l' ++ carP 1000000000 c' = l ++ carP 1000000000 c) ∧ (Below B w wr ∧ Hid (Nc w wr)) ∧ c' ≤ c) (fun _ cv _ => (intOf cv).toNat)
  case atStart => exact ⟨l, c, rfl, hO, rfl, ⟨Below.refl _ _, Nc.refl _⟩, Nat.le_refl _⟩
  case round =>
    obtain ⟨l', c', rfl, HO, HE, ⟨hBw, HN⟩, hcc⟩ := hrel
    obtain ⟨p, cap, rfl, -⟩ := HO.out.form
    by_cases h0 : 0 < c'
    · have hlen := car_len (by decide) HE.out hc
      obtain ⟨g, cp, w1, hrun, HO1, hB1, hN1⟩ := push32n HO.out (Nat.le_trans hB hBw.size) (c' % 1000000000) (by omega)
      have HE1 : Hid ((l' ++ [c' % 1000000000]) ++ carP 1000000000 (c' / 1000000000) = l ++ carP 1000000000 c) := car_step (by decide) HE.out h0
      have HO1 : Hid _ := HO1
      have HN1 : Hid (Nc w w1) := HN.out.trans hN1
      clear hN1
      have hx : ((c' % 1000000000 : Nat) : Int) = (c' : Int) % 1000000000 := by omega
      rw [hx] at hrun
      have h0' : (0 : Int) < c' := by omega
      clear hx
      go_wp2_with (at_builtin; refine wpList_append_run rfl _ _ 67 rfl rfl rfl hrun ?_)
      go_roundw
      case rel => exact ⟨l' ++ [c' % 1000000000], c' / 1000000000, by go_num, HO1, HE1, ⟨hBw.trans hB1, HN1⟩, by omega⟩
      case measure => simp [intOf]; omega
    · obtain rfl : c' = 0 := by omega
      go_wp2
      go_ret
      refine ⟨_, rfl, ?_, hBw, HN.out⟩
      have := HE.out
      rw [carP_zero, List.append_nil] at this
      rw [← this]
      exact HO.out
set_option maxRecDepth 100000 in
set_option maxHeartbeats 1000000 in
theorem times32n (B : Nat) (v : Value) (l : List Nat) (f more : Nat) (w : World) (hO : Own .u32 90 B w v l) (hB : B ≤ w.heap.size) (hd : Dg 1000000000 l) (hf : f ≤ 4294967296) (hmore : more ≤ 8589934592) (hl : l.length ≤ 274877906944) :
    Calls Try.prog 70 #[v, .int .u64 f, .int .u64 more, .int .u64 1000000000] w fun e w' => ∃ v' l', e = .returned v' ∧ Own .u32 90 B w' v' l' ∧ Below B w w' ∧ Dg 1000000000 l' ∧ Canon l' ∧ val 1000000000 l' = f * val 1000000000 l + more ∧ l'.length ≤ l.length + 64 ∧ Nc w w' := by
  obtain ⟨p, cap, rfl, hcap, hcm, -, -, hpn, hp0⟩ := hO.form
  unfold maxLen at hcm
  go_enter Try.func70, Try.ntmps70
  go_wp2
  go_loopw [9, 15] (fun cv iv wr => ∃ (i c : Nat) (out : List Nat), i ≤ l.length ∧ iv = .int .i64 i ∧ cv = .int .u64 c ∧ c ≤ 8589934592 ∧ out.length = i ∧ Hid (Dg 1000000000 out ∧ val 1000000000 out + 1000000000 ^ i * c = f * val 1000000000 (l.take i) + more) ∧ Hid (Own .u32 90 B wr (.slice p l.length cap) (out ++ l.drop i)) ∧ Below B w wr ∧ Hid (Nc w wr)) (fun _ iv _ => l.length - (intOf iv).toNat)
  case atStart => exact ⟨0, more, [], Nat.zero_le _, rfl, rfl, hmore, rfl, ⟨Dg.nil _, by simp [val]⟩, (show Own _ _ _ _ _ _ by simpa using hO), Below.refl _ _, Nc.refl _⟩
  case round =>
    obtain ⟨i, c, out, hi, rfl, rfl, hc, ho, HV, HO, hBw, HN⟩ := hrel
    by_cases hlt : i < l.length
    · cases p with
      | none => have := (hpn rfl).1; subst this; simp at hlt
      | some a =>
        have ea := hp0 a rfl
        generalize a.block = g at ea
        subst ea
        have hO1 := HO.out
        rw [drop_cons hlt] at hO1
        have c0 := hO1.cellAt i (by simp; omega)
        rw [show nAt (out ++ nAt l i :: l.drop (i + 1)) i = nAt l i from by simp [nAt, ← ho]] at c0
        have f0 := hO1.frozenAt i
        have hdi := hd.at hlt
        have htl : (l.take i).length = i := by rw [List.length_take]; omega
        have HV1 := tp_step (d := nAt l i) HV.out.2 ho htl
        rw [← take_snoc hlt] at HV1
        generalize nAt l i = d at c0 hdi hO1 HV1
        have hmul : (d : Int) * (f : Int) = ((d * f : Nat) : Int) := by simp
        have hle : d * f ≤ 4294967291705032704 := Nat.le_trans (Nat.mul_le_mul (show d ≤ 999999999 by omega) hf) (by decide)
        generalize d * f = m at hmul hle HV1
        have hN2 : ∀ u, Nc wr (wr.setCell ⟨g, i, none⟩ u) := fun u => Nc.put hO1
        obtain ⟨hO2, hB2⟩ := hO1.put i ho ((c + m) % 1000000000)
        have hx : (((c + m) % 1000000000 : Nat) : Int) = ((c : Int) + m) % 1000000000 := by omega
        rw [hx] at hO2 hB2
        have HO2 : Hid _ := hO2
        have HN2 : Hid (∀ u, Nc w (wr.setCell ⟨g, i, none⟩ u)) := fun u => HN.out.trans (hN2 u)
        clear hN2
        have HV2 : Hid (Dg 1000000000 (out ++ [(c + m) % 1000000000]) ∧ val 1000000000 (out ++ [(c + m) % 1000000000]) + 1000000000 ^ (i + 1) * ((c + m) / 1000000000) = f * val 1000000000 (l.take (i + 1)) + more) := ⟨HV.out.1.snoc (by omega), HV1⟩
        have hli : (i : Int) < l.length := by omega
        clear hx hO1 hO2 HV1
        go_wp2
        go_roundw
        case rel => exact ⟨i + 1, (c + m) / 1000000000, out ++ [(c + m) % 1000000000], by omega, by go_num, by go_num, by omega, by simp; omega, HV2, HO2.out, hBw.trans hB2, HN2.out _⟩
        case measure => simp [intOf]; omega
    · obtain rfl : i = l.length := by omega
      have hO1 := HO.out
      rw [List.drop_length, List.append_nil] at hO1
      have hV := HV.out
      rw [List.take_length, ← ho] at hV
      have CA := carried32n B _ out c wr hO1 (Nat.le_trans hB hBw.size) (by omega) (by omega)
      have HF : Hid _ := carried_val (by decide) hV.1 hV.2
      have hcl := carP_len (b := 1000000000) (by decide) 64 c (Nat.lt_of_le_of_lt hc (by decide))
      generalize hcar : out ++ carP 1000000000 c = full at CA HF
      have hfl : full.length ≤ l.length + 64 := by rw [← hcar, List.length_append]; omega
      clear hO1 HO HV hV hcar
      go_wp2_with (first | (go_at_call 79; refine CA.mono ?_; rintro e w1 ⟨v1, rfl, hO2, hB2, hN2⟩; have HN2 : Hid (Nc w w1) := HN.out.trans hN2; clear hN2; obtain ⟨p2, cap2, rfl, hc2, hm2, hr2, -⟩ := hO2.form; have T := trim32_any p2 full cap2 w1 hc2 (by unfold maxLen at hm2; omega) hr2) | (go_at_call 80; refine T.mono ?_; rintro e w2 ⟨rfl, rfl⟩))
      go_ret
      have hs := hO2.short (trimLen_le full)
      exact ⟨_, _, rfl, hs, hBw.trans hB2, HF.out.1, HF.out.2.1, HF.out.2.2, by have := trimLen_le full; simp; omega, HN2.out⟩
end Go.Proofs.Ytpffegkckejpiaa
