/- carried, of both kinds of lists: the digits of a carry go in behind. -/
import Derived.Test.YtpffegkckejpiaaText
set_option linter.unusedVariables false
set_option linter.unusedSimpArgs false
namespace Go.Proofs.Ytpffegkckejpiaa
open Go.RowKit

theorem car_step {b : Nat} (hb : 2 ≤ b) {l l' : List Nat} {c c' : Nat} (h : l' ++ carP b c' = l ++ carP b c) (hc : 0 < c') : (l' ++ [c' % b]) ++ carP b (c' / b) = l ++ carP b c := by
  rw [← h, carP_pos hb hc]; simp
theorem car_len {b : Nat} (hb : 2 ≤ b) {l l' : List Nat} {c c' : Nat} (h : l' ++ carP b c' = l ++ carP b c) (hc : c < 18446744073709551616) : l'.length ≤ l.length + 64 := by
  have h1 := congrArg List.length h
  have h2 := carP_len hb 64 c hc
  simp only [List.length_append] at h1
  omega

set_option maxRecDepth 100000 in
set_option maxHeartbeats 1000000 in
theorem carried32_any (B : Nat) (v : Value) (l : List Nat) (c : Nat) (w : World) (hO : Own .u32 90 B w v l) (hB : B ≤ w.heap.size) (hc : c < 18446744073709551616) (hl : l.length ≤ 549755813888) :
    Calls Try.prog 79 #[v, .int .u64 c, .int .u64 1000000000] w fun e w' => ∃ v', e = .returned v' ∧ Own .u32 90 B w' v' (l ++ carP 1000000000 c) ∧ Below B w w' := by
  obtain ⟨p0, c0, rfl, -⟩ := hO.form
  go_enter Try.func79, Try.ntmps79
  go_wp2
  go_loopw [0, 1] (fun u cv wr => ∃ (l' : List Nat) (c' : Nat), cv = .int .u64 c' ∧ Hid (Own .u32 90 B wr u l') ∧ Hid (l' ++ carP 1000000000 c' = l ++ carP 1000000000 c) ∧ Below B w wr ∧ c' ≤ c) (fun _ cv _ => (intOf cv).toNat)
  case atStart => exact ⟨l, c, rfl, hO, rfl, Below.refl _ _, Nat.le_refl _⟩
  case round =>
    obtain ⟨l', c', rfl, HO, HE, hBw, hcc⟩ := hrel
    obtain ⟨p, cap, rfl, -⟩ := HO.out.form
    by_cases h0 : 0 < c'
    · have hlen := car_len (by decide) HE.out hc
      obtain ⟨g, cp, w1, hrun, HO1, hB1⟩ := push32 HO.out (Nat.le_trans hB hBw.size) (c' % 1000000000) (by omega)
      have HE1 : Hid ((l' ++ [c' % 1000000000]) ++ carP 1000000000 (c' / 1000000000) = l ++ carP 1000000000 c) := car_step (by decide) HE.out h0
      have HO1 : Hid _ := HO1
      have hx : ((c' % 1000000000 : Nat) : Int) = (c' : Int) % 1000000000 := by omega
      rw [hx] at hrun
      have h0' : (0 : Int) < c' := by omega
      clear hx
      go_wp2_with (at_builtin; refine wpList_append_run rfl _ _ 67 rfl rfl rfl hrun ?_)
      go_roundw
      case rel => exact ⟨l' ++ [c' % 1000000000], c' / 1000000000, by go_num, HO1, HE1, hBw.trans hB1, by omega⟩
      case measure => simp [intOf]; omega
    · obtain rfl : c' = 0 := by omega
      go_wp2
      go_ret
      refine ⟨_, rfl, ?_, hBw⟩
      have := HE.out
      rw [carP_zero, List.append_nil] at this
      rw [← this]
      exact HO.out
end Go.Proofs.Ytpffegkckejpiaa
namespace Go.Proofs.Ytpffegkckejpiaa
open Go.RowKit

theorem tp_step {b f more i c d : Nat} {out t : List Nat} (h : val b out + b ^ i * c = f * val b t + more) (ho : out.length = i) (ht : t.length = i) :
    val b (out ++ [(c + d * f) % b]) + b ^ (i + 1) * ((c + d * f) / b) = f * val b (t ++ [d]) + more := by
  rw [val_snoc, val_snoc, ho, ht, Nat.pow_succ]
  have h1 := Nat.mod_add_div (c + d * f) b
  generalize (c + d * f) % b = r at *
  generalize (c + d * f) / b = q at *
  have e1 : b ^ i * r + b ^ i * b * q = b ^ i * c + b ^ i * (d * f) := by rw [← Nat.mul_add, ← h1, Nat.mul_add, Nat.mul_assoc]
  have e2 : f * (val b t + b ^ i * d) = f * val b t + b ^ i * (d * f) := by
    rw [Nat.mul_add, Nat.mul_comm d f, ← Nat.mul_assoc, ← Nat.mul_assoc, Nat.mul_comm f (b ^ i)]
  omega

theorem Own.put {k : IntKind} {e : TypeId} {B : Nat} {w : World} {g c d : Nat} {out rest : List Nat} {n : Nat} (h : Own k e B w (.slice (some ⟨g, 0, none⟩) n c) (out ++ d :: rest)) (i : Nat) (hi : out.length = i) (x : Nat) :
    Own k e B (w.setCell ⟨g, i, none⟩ (.int k x)) (.slice (some ⟨g, 0, none⟩) n c) ((out ++ [x]) ++ rest) ∧ Below B w (w.setCell ⟨g, i, none⟩ (.int k x)) := by
  obtain ⟨p, c', e1, -, -, -, hb, -, -⟩ := h.form
  cases e1
  have h2 := World.ownsRow.stored h i (.int k x)
  refine ⟨?_, (Below.refl _ w).setCell (p := ⟨g, i, none⟩) (hb _ rfl).1 _⟩
  have e3 : (vi k (out ++ d :: rest)).set i (.int k x) = vi k ((out ++ [x]) ++ rest) := by
    subst hi
    simp [vi, List.set_append]
  have e4 : ((out ++ [x]) ++ rest).length = (out ++ d :: rest).length := by simp
  unfold Own
  rw [e4, ← e3]
  exact h2.1

theorem Own.cellAt {k : IntKind} {e : TypeId} {B : Nat} {w : World} {g c n : Nat} {l : List Nat} (h : Own k e B w (.slice (some ⟨g, 0, none⟩) n c) l) (j : Nat) (hj : j < l.length) : w.cell? ⟨g, j, none⟩ = some (.int k (nAt l j)) := by
  obtain ⟨p, c', e1, -, -, -, -, -, -⟩ := h.form
  cases e1
  rw [World.ownsRow.cellAt h j (by omega), vi_at k hj]
theorem Own.frozenAt {k : IntKind} {e : TypeId} {B : Nat} {w : World} {g c n : Nat} {l : List Nat} (h : Own k e B w (.slice (some ⟨g, 0, none⟩) n c) l) (j : Nat) : w.frozen? ⟨g, j, none⟩ = false := by
  obtain ⟨p, c', e1, -, -, -, -, -, -⟩ := h.form
  cases e1
  exact World.ownsRow.frozenAt h j

theorem carried_val {b : Nat} (hb : 2 ≤ b) {out : List Nat} {c N : Nat} (hd : Dg b out) (h : val b out + b ^ out.length * c = N) : Dg b (trimL (out ++ carP b c)) ∧ Canon (trimL (out ++ carP b c)) ∧ val b (trimL (out ++ carP b c)) = N := by
  refine ⟨(hd.append (carP_dg hb c)).trim, canon_trim _, ?_⟩
  rw [val_trim, val_append, carP_val hb]
  exact h

set_option maxRecDepth 100000 in
set_option maxHeartbeats 1000000 in
theorem times32_any (B : Nat) (v : Value) (l : List Nat) (f more : Nat) (w : World) (hO : Own .u32 90 B w v l) (hB : B ≤ w.heap.size) (hd : Dg 1000000000 l) (hf : f ≤ 4294967296) (hmore : more ≤ 8589934592) (hl : l.length ≤ 274877906944) :
    Calls Try.prog 70 #[v, .int .u64 f, .int .u64 more, .int .u64 1000000000] w fun e w' => ∃ v' l', e = .returned v' ∧ Own .u32 90 B w' v' l' ∧ Below B w w' ∧ Dg 1000000000 l' ∧ Canon l' ∧ val 1000000000 l' = f * val 1000000000 l + more ∧ l'.length ≤ l.length + 64 := by
  obtain ⟨p, cap, rfl, hcap, hcm, -, -, hpn, hp0⟩ := hO.form
  unfold maxLen at hcm
  go_enter Try.func70, Try.ntmps70
  go_wp2
  go_loopw [9, 15] (fun cv iv wr => ∃ (i c : Nat) (out : List Nat), i ≤ l.length ∧ iv = .int .i64 i ∧ cv = .int .u64 c ∧ c ≤ 8589934592 ∧ out.length = i ∧ Hid (Dg 1000000000 out ∧ val 1000000000 out + 1000000000 ^ i * c = f * val 1000000000 (l.take i) + more) ∧ Hid (Own .u32 90 B wr (.slice p l.length cap) (out ++ l.drop i)) ∧ Below B w wr) (fun _ iv _ => l.length - (intOf iv).toNat)
  case atStart => exact ⟨0, more, [], Nat.zero_le _, rfl, rfl, hmore, rfl, ⟨Dg.nil _, by simp [val]⟩, (show Own _ _ _ _ _ _ by simpa using hO), Below.refl _ _⟩
  case round =>
    obtain ⟨i, c, out, hi, rfl, rfl, hc, ho, HV, HO, hBw⟩ := hrel
    by_cases hlt : i < l.length
    · cases p with
      | none => have := (hpn rfl).1; subst this; simp at hlt
      | some a =>
        have ea := hp0 a rfl
        generalize a.block = g at ea
        subst ea
        have hO1 := HO.out
        rw [drop_cons hlt] at hO1
        have c0 := hO1.cellAt i (by simp; omega)
        rw [show nAt (out ++ nAt l i :: l.drop (i + 1)) i = nAt l i from by simp [nAt, ← ho]] at c0
        have f0 := hO1.frozenAt i
        have hdi := hd.at hlt
        have htl : (l.take i).length = i := by rw [List.length_take]; omega
        have HV1 := tp_step (d := nAt l i) HV.out.2 ho htl
        rw [← take_snoc hlt] at HV1
        generalize nAt l i = d at c0 hdi hO1 HV1
        have hmul : (d : Int) * (f : Int) = ((d * f : Nat) : Int) := by simp
        have hle : d * f ≤ 4294967291705032704 := Nat.le_trans (Nat.mul_le_mul (show d ≤ 999999999 by omega) hf) (by decide)
        generalize d * f = m at hmul hle HV1
        obtain ⟨hO2, hB2⟩ := hO1.put i ho ((c + m) % 1000000000)
        have hx : (((c + m) % 1000000000 : Nat) : Int) = ((c : Int) + m) % 1000000000 := by omega
        rw [hx] at hO2 hB2
        have HO2 : Hid _ := hO2
        have HV2 : Hid (Dg 1000000000 (out ++ [(c + m) % 1000000000]) ∧ val 1000000000 (out ++ [(c + m) % 1000000000]) + 1000000000 ^ (i + 1) * ((c + m) / 1000000000) = f * val 1000000000 (l.take (i + 1)) + more) := ⟨HV.out.1.snoc (by omega), HV1⟩
        have hli : (i : Int) < l.length := by omega
        clear hx hO1 hO2 HV1
        go_wp2
        go_roundw
        case rel => exact ⟨i + 1, (c + m) / 1000000000, out ++ [(c + m) % 1000000000], by omega, by go_num, by go_num, by omega, by simp; omega, HV2, HO2.out, hBw.trans hB2⟩
        case measure => simp [intOf]; omega
    · obtain rfl : i = l.length := by omega
      have hO1 := HO.out
      rw [List.drop_length, List.append_nil] at hO1
      have hV := HV.out
      rw [List.take_length, ← ho] at hV
      have CA := carried32_any B _ out c wr hO1 (Nat.le_trans hB hBw.size) (by omega) (by omega)
      have HF : Hid _ := carried_val (by decide) hV.1 hV.2
      have hcl := carP_len (b := 1000000000) (by decide) 64 c (Nat.lt_of_le_of_lt hc (by decide))
      generalize hcar : out ++ carP 1000000000 c = full at CA HF
      have hfl : full.length ≤ l.length + 64 := by rw [← hcar, List.length_append]; omega
      clear hO1 HO HV hV hcar
      go_wp2_with (first | (go_at_call 79; refine CA.mono ?_; rintro e w1 ⟨v1, rfl, hO2, hB2⟩; obtain ⟨p2, cap2, rfl, hc2, hm2, hr2, -⟩ := hO2.form; have T := trim32_any p2 full cap2 w1 hc2 (by unfold maxLen at hm2; omega) hr2) | (go_at_call 80; refine T.mono ?_; rintro e w2 ⟨rfl, rfl⟩))
      go_ret
      have hs := hO2.short (trimLen_le full)
      exact ⟨_, _, rfl, hs, hBw.trans hB2, HF.out.1, HF.out.2.1, HF.out.2.2, by have := trimLen_le full; simp; omega⟩
end Go.Proofs.Ytpffegkckejpiaa
