/- What stands between the blanks of a line: the iterator over these parts, as it runs. -/
import Derived.Test.YtgldejcneglpnaaTag
set_option linter.unusedVariables false
set_option linter.unusedSimpArgs false
namespace Go.Proofs.Ytgldejcneglpnaa
open Go.RowKit Go.Shelf
attribute [local go_sem] Oper.semAt_some

/-- Where blanks from k on end, and where what is no blank does. -/
def bE (t : List Int) (k : Nat) : Nat := k + cnt blankP (t.drop k)
def nE (t : List Int) (k : Nat) : Nat := k + cnt noBlank (t.drop k)
theorem bE_le {t : List Int} {k : Nat} (h : k ≤ t.length) : bE t k ≤ t.length := by
  have := cnt_le blankP (t.drop k)
  simp at this
  unfold bE
  omega
theorem nE_le {t : List Int} {k : Nat} (h : k ≤ t.length) : nE t k ≤ t.length := by
  have := cnt_le noBlank (t.drop k)
  simp at this
  unfold nE
  omega
theorem cnt_stop {P : Int → Bool} {t : List Int} (h : cnt P t < t.length) : P (iAt t (cnt P t)) = false := by
  have h1 : st P t (cnt P t) = 0 := runE_zero (st_bd P t)
  unfold st at h1
  split at h1
  · omega
  · rename_i h2
    cases hp : P (iAt t (cnt P t)) with
    | false => rfl
    | true => exact absurd ⟨h, hp⟩ h2
theorem cnt_pos {P : Int → Bool} {t : List Int} (h : 0 < t.length) (hp : P (iAt t 0) = true) : 0 < cnt P t := by
  have h1 := st_one h hp
  have h2 := runE_step (L := t.length) (st_bd P t) (k := 0) (by rw [h1]; omega)
  rw [h1] at h2
  unfold cnt
  rw [← h2]
  exact runE_ge _ _ _
theorem bE_stop {t : List Int} {k : Nat} (h : bE t k < t.length) : blankP (iAt t (bE t k)) = false := by
  unfold bE at h ⊢
  rw [← iAt_drop]
  exact cnt_stop (by simp; omega)
theorem nE_gt {t : List Int} {k : Nat} (h : bE t k < t.length) : bE t k < nE t (bE t k) := by
  have h1 := bE_stop h
  have : 0 < cnt noBlank (t.drop (bE t k)) := cnt_pos (by simp; omega) (by rw [iAt_drop, Nat.add_zero]; unfold noBlank; rw [h1]; rfl)
  unfold nE
  omega
theorem bE_ge (t : List Int) (k : Nat) : k ≤ bE t k := Nat.le_add_right _ _

def prF (t : List Int) : Nat → Nat → List (Nat × Nat)
  | 0, _ => []
  | f + 1, k => if bE t k < t.length then (bE t k, nE t (bE t k)) :: prF t f (nE t (bE t k)) else []
/-- The parts from k on: where each begins and ends. -/
def prE (t : List Int) (k : Nat) : List (Nat × Nat) := prF t (t.length - k) k
theorem prF_more (t : List Int) : ∀ f g k, t.length - k ≤ f → t.length - k ≤ g → prF t f k = prF t g k := by
  intro f
  induction f with
  | zero =>
    intro g k h1 h2
    have h0 : ¬ bE t k < t.length := by have := bE_ge t k; omega
    cases g with
    | zero => rfl
    | succ g => rw [prF, prF, if_neg h0]
  | succ f ih =>
    intro g k h1 h2
    by_cases h0 : bE t k < t.length
    · have h3 := nE_gt h0
      have h4 := bE_ge t k
      cases g with
      | zero => omega
      | succ g => rw [prF, prF, if_pos h0, if_pos h0, ih g _ (by omega) (by omega)]
    · rw [prF, if_neg h0]
      cases g with
      | zero => rfl
      | succ g => rw [prF, if_neg h0]
theorem prE_stop {t : List Int} {k : Nat} (h : ¬ bE t k < t.length) : prE t k = [] := by
  unfold prE
  cases t.length - k with
  | zero => rfl
  | succ m => rw [prF, if_neg h]
theorem prE_step {t : List Int} {k : Nat} (h : bE t k < t.length) : prE t k = (bE t k, nE t (bE t k)) :: prE t (nE t (bE t k)) := by
  have h3 := nE_gt h
  have h4 := bE_ge t k
  unfold prE
  obtain ⟨m, hm⟩ : ∃ m, t.length - k = m + 1 := ⟨t.length - k - 1, by omega⟩
  rw [hm, prF, if_pos h, prF_more t m (t.length - nE t (bE t k)) _ (by omega) (Nat.le_refl _)]

/-- A part, as it is told. -/
def encT (q : Option Addr) (cap : Nat) (x : Nat × Nat) : Array Value := #[.slice (q.map (·.add x.1)) (x.2 - x.1) (cap - x.1)]

set_option maxRecDepth 100000 in
set_option maxHeartbeats 1000000 in
theorem behind_any (q : Option Addr) (t : List Int) (n c : Nat) (w : World) (hl : n = t.length) (hn : t.length ≤ 1099511627776) (hc : t.length ≤ c) (hm : c ≤ maxLen) (hI : Is w q t) :
    Calls Try.prog 51 #[.slice q n c] w fun e w' => e = .returned (.slice (if c = cnt blankP t then q else q.map (·.add (cnt blankP t))) (n - cnt blankP t) (c - cnt blankP t)) ∧ w' = w := by
  have CN := count_blank q t n c w hl hn hI
  subst hl
  have S := slice_from q t.length c (cnt blankP t) (cnt_le _ _) hc
  have hE := cnt_le blankP t
  generalize (if c = cnt blankP t then q else q.map (·.add (cnt blankP t))) = p at S ⊢
  generalize cnt blankP t = k at *
  go_enter Try.func51, Try.ntmps51
  go_wp2_with (first | (go_at_call 21; refine CN.mono ?_; rintro e w ⟨rfl, rfl⟩))
  go_ret
  exact ⟨rfl, rfl⟩

set_option maxRecDepth 100000 in
set_option maxHeartbeats 2000000 in
theorem parts1_in (n l Bb cap : Nat) (b o : Nat) (t : List Int) (hn : t.length ≤ 1099511627776) (hcap : t.length ≤ cap) (hmx : cap ≤ maxLen) (J Jx : Nat → World → Prop) (W : World)
    (c1 : W.cell? ⟨Bb, 0, none⟩ = some (.slice (some ⟨b, o, none⟩) t.length cap)) (hI : Is W (some ⟨b, o, none⟩) t)
    (hY : ∀ (m i : Nat) (x : Nat × Nat) (W1 : World), (prE t 0)[i]? = some x → J i W1 → YieldAt Fence.wide m Try.prog l (encT (some ⟨b, o, none⟩) cap x) W1 fun e W' =>
      (e = .returned (.bool true) ∧ J (i + 1) W' ∧ Kq (Xs (some ⟨b, o, none⟩) t Bb) W1 W') ∨ (e = .returned (.bool false) ∧ Jx (i + 1) W')) (h0 : J 0 W) :
    CallsIn Fence.wide n Try.prog 50 #[.func (.yield l) #[] #[], .pointer (some ⟨Bb, 0, none⟩)] W fun e W' => (∃ v, e = .returned v) ∧ (J (prE t 0).length W' ∨ ∃ i, Jx i W') := by
  have HY : Hid (∀ (m i : Nat) (x : Nat × Nat) (W1 : World), (prE t 0)[i]? = some x → J i W1 → YieldAt Fence.wide m Try.prog l (encT (some ⟨b, o, none⟩) cap x) W1 fun e W' =>
      (e = .returned (.bool true) ∧ J (i + 1) W' ∧ Kq (Xs (some ⟨b, o, none⟩) t Bb) W1 W') ∨ (e = .returned (.bool false) ∧ Jx (i + 1) W')) := hY
  clear hY
  obtain ⟨T, hT⟩ : ∃ T, prE t 0 = T := ⟨_, rfl⟩
  rw [hT] at HY ⊢
  have HT : Hid (prE t 0 = T) := hT
  clear hT
  have BH := fun m => (callsIn_wide (n := m)).2 (behind_any (some ⟨b, o, none⟩) t t.length cap W rfl hn hcap hmx hI)
  have hb0 : bE t 0 = cnt blankP t := by unfold bE; simp
  obtain ⟨p0, hp0⟩ : ∃ p, (if cap = cnt blankP t then (some ⟨b, o, none⟩ : Option Addr) else (some ⟨b, o, none⟩ : Option Addr).map (·.add (cnt blankP t))) = p := ⟨_, rfl⟩
  rw [hp0, ← hb0] at BH
  have Hp0 : Hid (bE t 0 < t.length → p0 = some ⟨b, o + bE t 0, none⟩) := fun h => by
    rw [← hp0, if_neg (by omega), Option.map_some, add_plain, hb0]
  clear hp0 hb0
  refine callsIn_of_wp Try.func50 rfl trivial ?_ rfl
  simp only [Try.ntmps50, List.size_toArray, List.length_cons, List.length_nil, Nat.reduceAdd, Nat.reduceSub, Array.replicate_succ, Array.replicate_zero, List.push_toArray, List.append_toArray, List.nil_append, List.cons_append]
  gi_wp2
  refine ⟨trivial, (fun h => by cases h), ?_⟩
  gi_at_call 51
  refine (BH _).mono ?_
  rintro e W ⟨rfl, rfl⟩
  clear BH
  gi_wp2
  gi_loopw [3] (fun rv wr => ∃ (k i s : Nat) (pk : Option Addr), k ≤ t.length ∧ s ≤ t.length ∧ rv = .slice pk (t.length - s) (cap - s) ∧ Hid (s = bE t k) ∧ Hid (s < t.length → pk = some ⟨b, o + s, none⟩) ∧ Hid (T.drop i = prE t k) ∧ i ≤ T.length ∧ J i wr ∧ Kq (Xs (some ⟨b, o, none⟩) t Bb) W wr) (fun rv _ => lenV rv)
  case atStart => exact ⟨0, 0, bE t 0, p0, Nat.zero_le _, bE_le (Nat.zero_le _), rfl, rfl, Hp0, HT.out.symm, Nat.zero_le _, h0, Kq.refl _ _⟩
  case round =>
    obtain ⟨k, i, s, pk, hk, hs, rfl, hsk, hpk, hTi, hi, hJr, hkr⟩ := hrel
    clear h0 Hp0
    by_cases hlt : s < t.length
    · have hp := hpk.out hlt
      subst hp
      have hIr := hkr.is hI
      have CN := fun m => (callsIn_wide (n := m)).2 (count_noBlank (some ⟨b, o + s, none⟩) (t.drop s) (t.length - s) (cap - s) wr (by simp) (by simp; omega) (hIr.drop s))
      have hsl : bE t k < t.length := by rw [← hsk.out]; exact hlt
      have hTi2 := hTi.out
      rw [prE_step hsl, ← hsk.out] at hTi2
      obtain ⟨hx, hT3, hil⟩ := drop_cons hTi2
      have Y := HY.out (n - 1) i _ wr hx hJr
      unfold encT at Y
      rw [Option.map_some, add_plain] at Y
      dsimp only at Y
      have hng := nE_gt hsl
      rw [← hsk.out] at hng
      have hnl : nE t s ≤ t.length := nE_le hs
      have hcz : cnt noBlank (t.drop s) = nE t s - s := by unfold nE; omega
      rw [hcz] at CN
      have HT3 : Hid (T.drop (i + 1) = prE t (nE t s)) := hT3
      -- what comes behind
      have hBQ : ∀ (m : Nat) (W2 : World) (q2 : Option Addr), Is W2 q2 (t.drop (nE t s)) → CallsIn Fence.wide m Try.prog 51 #[.slice q2 (t.length - nE t s) (cap - nE t s)] W2 fun e w' =>
          e = .returned (.slice (if cap - nE t s = cnt blankP (t.drop (nE t s)) then q2 else q2.map (·.add (cnt blankP (t.drop (nE t s))))) (t.length - nE t s - cnt blankP (t.drop (nE t s))) (cap - nE t s - cnt blankP (t.drop (nE t s)))) ∧ w' = W2 :=
        fun m W2 q2 h2 => (callsIn_wide (n := m)).2 (behind_any q2 (t.drop (nE t s)) (t.length - nE t s) (cap - nE t s) W2 (by simp) (by simp; omega) (by simp; omega) (by omega) h2)
      have HBQ : Hid _ := hBQ
      clear hBQ
      obtain ⟨E, hE⟩ : ∃ E, nE t s = E := ⟨_, rfl⟩
      have HE : Hid (nE t s = E) := hE
      rw [hE] at Y CN HT3 hng hnl HBQ
      obtain ⟨r, hr⟩ : ∃ r, t.length - s = r := ⟨_, rfl⟩
      obtain ⟨cp, hcp⟩ : ∃ cp, cap - s = cp := ⟨_, rfl⟩
      obtain ⟨z, hz⟩ : ∃ z, E - s = z := ⟨_, rfl⟩
      rw [hr, hcp, hz] at CN
      rw [hcp, hz] at Y
      rw [hr, hcp]
      have hz0 : 0 < z := by omega
      have hm1 : (z : Int) ≤ cp := by omega
      have hm2 : (z : Int) ≤ r := by omega
      have hm3 : (r : Int) ≤ cp := by omega
      have hm4 : (cp : Int) ≤ 9223372036854775807 := by unfold maxLen at hmx; omega
      have hm5 : (0 : Int) < r := by omega
      have hr' : Hid (t.length - s = r) := hr
      have hcp' : Hid (cap - s = cp) := hcp
      have hz' : Hid (E - s = z) := hz
      clear hr hcp hz hE HY hx hTi hTi2 hT3 hpk hcz hsl
      obtain ⟨fn, tmps, assign, body, hy, hR⟩ := Y
      gi_wp2
      refine ⟨trivial, (fun h => by cases h), ?_⟩
      gi_at_call 21
      refine (CN _).mono ?_
      rintro e wr ⟨rfl, rfl⟩
      gi_wp2
      refine ⟨(fun h => by cases h), hR.mono ?_⟩
      rintro e3 W3 (⟨rfl, hJ3, hk3⟩ | ⟨rfl, hJx3⟩)
      · clear hR hy CN
        have hI3 := (hkr.trans hk3).is hI
        have hIE : Is W3 (if cp = z then some ⟨b, o + s, none⟩ else some ⟨b, o + s + z, none⟩) (t.drop E) := by
          split
          · exact .inl (List.drop_eq_nil_of_le (by have := hcp'.out; have := hz'.out; omega))
          · have := hI3.drop E
            rw [show o + s + z = o + E by have := hz'.out; omega]
            exact this
        have BQ := fun m => HBQ.out m W3 _ hIE
        rw [show t.length - E = r - z by have := hr'.out; have := hz'.out; omega, show cap - E = cp - z by have := hcp'.out; have := hz'.out; omega] at BQ
        obtain ⟨kb, hkb⟩ : ∃ kb, cnt blankP (t.drop E) = kb := ⟨_, rfl⟩
        rw [hkb] at BQ
        have hkb' : Hid (bE t E = E + kb) := by show bE t E = E + kb; rw [← hkb]; rfl
        have hkl := cnt_le blankP (t.drop E)
        rw [hkb] at hkl
        simp at hkl
        obtain ⟨p2, hp2⟩ : ∃ p2, (if cp - z = kb then (if cp = z then some ⟨b, o + s, none⟩ else some ⟨b, o + s + z, none⟩ : Option Addr) else (if cp = z then some ⟨b, o + s, none⟩ else some ⟨b, o + s + z, none⟩ : Option Addr).map (·.add kb)) = p2 := ⟨_, rfl⟩
        rw [hp2] at BQ
        have Hp2 : Hid (E + kb < t.length → p2 = some ⟨b, o + (E + kb), none⟩) := fun h => by
          have h1 := hcp'.out
          have h2 := hz'.out
          rw [← hp2, if_neg (by omega), if_neg (by omega), Option.map_some, add_plain]
          congr 2
          omega
        clear hp2 hkb HBQ hIE
        by_cases hcz2 : cp = z
        · simp only [hcz2, if_true, Nat.sub_self, Nat.zero_sub] at BQ
          gi_wp2
          refine ⟨trivial, (fun h => by cases h), ?_⟩
          gi_at_call 51
          refine (BQ _).mono ?_
          rintro e W3 ⟨rfl, rfl⟩
          gi_wp2
          go_roundw
          case rel =>
            have h1 := hcp'.out
            have h2 := hz'.out
            have h3 := hr'.out
            refine ⟨E, i + 1, E + kb, p2, hnl, by omega, ?_, hkb'.out.symm, Hp2, HT3, hil, hJ3, hkr.trans hk3⟩
            rw [show t.length - (E + kb) = r - z - kb by omega, show cap - (E + kb) = 0 by omega]
          case measure => simp only [lenV]; omega
        · simp only [hcz2, if_false] at BQ
          gi_wp2
          refine ⟨trivial, (fun h => by cases h), ?_⟩
          gi_at_call 51
          refine (BQ _).mono ?_
          rintro e W3 ⟨rfl, rfl⟩
          gi_wp2
          go_roundw
          case rel =>
            have h1 := hcp'.out
            have h2 := hz'.out
            have h3 := hr'.out
            refine ⟨E, i + 1, E + kb, p2, hnl, by omega, ?_, hkb'.out.symm, Hp2, HT3, hil, hJ3, hkr.trans hk3⟩
            rw [show t.length - (E + kb) = r - z - kb by omega, show cap - (E + kb) = cp - z - kb by omega]
          case measure => simp only [lenV]; omega
      · clear hR hy
        gi_wp2
        refine bodyPost_ret (results_none rfl _ _ _) rfl ?_
        exact ⟨⟨_, rfl⟩, .inr ⟨_, hJx3⟩⟩
    · have hTl : i = T.length := by
        have := hTi.out
        rw [prE_stop (by rw [← hsk.out]; exact hlt)] at this
        have := List.drop_eq_nil_iff.1 this
        omega
      subst hTl
      have hs0 : t.length - s = 0 := by omega
      rw [hs0]
      have e0 : ((0 : Nat) : Int) = 0 := rfl
      clear HY hpk hTi hsk
      gi_wp2
      go_end0
      exact ⟨⟨_, rfl⟩, .inl hJr⟩

theorem parts_seq (n Bb cap b o : Nat) (t : List Int) (hn : t.length ≤ 1099511627776) (hcap : t.length ≤ cap) (hmx : cap ≤ maxLen) (w : World) (c1 : w.cell? ⟨Bb, 0, none⟩ = some (.slice (some ⟨b, o, none⟩) t.length cap)) (hI : Is w (some ⟨b, o, none⟩) t) :
    SeqT n Try.prog 50 #[.pointer (some ⟨Bb, 0, none⟩)] (encT (some ⟨b, o, none⟩) cap) (prE t 0) (Kq (Xs (some ⟨b, o, none⟩) t Bb)) w := fun l J Jx W hW _ hJ hJx hY h0 =>
  parts1_in n l Bb cap b o t hn hcap hmx J Jx W ((hW.cell (p := ⟨Bb, 0, none⟩) (World.block_lt_of_cell? w _ c1)).trans c1) (hI.on hW) hY h0

set_option maxHeartbeats 1000000 in
theorem parts_in (n : Nat) (p : Option Addr) (len cap : Nat) (w : World) :
    CallsIn Fence.wide n Try.prog 30 #[.slice p len cap] w fun e w' => e = .returned (.func (.func 50) #[] #[.pointer (some ⟨w.heap.size, 0, none⟩)]) ∧ w' = w.alloc (.cells #[.slice p len cap] 22) := by
  refine callsIn_of_wp Try.func30 rfl trivial ?_ rfl
  simp only [Try.ntmps30, List.size_toArray, List.length_cons, List.length_nil, Nat.reduceAdd, Nat.reduceSub, Array.replicate_succ, Array.replicate_zero, List.push_toArray, List.append_toArray, List.nil_append, List.cons_append]
  gi_wp2
  go_ret
  exact ⟨rfl, rfl⟩
end Go.Proofs.Ytgldejcneglpnaa
