/- DoubleFolds' walk: a text without escapes is folded as lines are. -/
import Derived.Test.YtpiefdpcinjkpabDoorOne
import Derived.Test.YtpiefdpcinjkpabDoorAlv
import Derived.Test.YtpiefdpcinjkpabDoorRefB
set_option linter.unusedVariables false
set_option linter.unusedSimpArgs false
namespace Go.Proofs.YtpiefdpcinjkpabDoor
open Go.RowKit Go.Shelf

def softL (t : List Int) : List Item := t.map fun c => (c, false)
theorem opn_soft : ∀ (t : List Int) (o : Bool), opnI o (softL t) = o
  | [], o => rfl
  | c :: t, o => opn_soft t o
theorem lAt_mem {ls : List (List Int)} (h : ∀ t ∈ ls, ∀ c ∈ t, c ≠ 92) (k : Nat) : ∀ c ∈ lAt ls k, c ≠ 92 := by
  unfold lAt
  cases hk : ls[k]? with
  | none => intro c hc; simp at hc
  | some t => exact h t (List.mem_of_getElem? hk)
theorem si_soft {ls : List (List Int)} (h : ∀ t ∈ ls, ∀ c ∈ t, c ≠ 92) : ∀ k, k ≤ ls.length → siAt ls k = ⟨(ls.take k).map softL, [], false⟩
  | 0, _ => by simp [siAt]
  | k + 1, hk => by
    have ih := si_soft h k (by omega)
    obtain ⟨f1, f2⟩ := it_plain (decide (k + 1 = ls.length)) (lAt ls k) (lAt_mem h k)
    rw [siAt, ih]
    unfold siNext
    show (if opnI false (itP (decide (k + 1 = ls.length)) 0 (lAt ls k)) then _ else _) = _
    rw [f2]
    rw [show opnI false ((lAt ls k).map fun c => (c, false)) = false from opn_soft _ _]
    have e : ls.take (k + 1) = ls.take k ++ [lAt ls k] := by
      rw [List.take_add_one]
      simp [lAt, List.getElem?_eq_getElem (show k < ls.length by omega)]
    rw [e, List.map_append]
    show (⟨(ls.take k).map softL ++ [[] ++ itP (decide (k + 1 = ls.length)) 0 (lAt ls k)], [], false⟩ : Si) = _
    rw [f2]
    rfl
theorem fl_soft {ls : List (List Int)} (h : ∀ t ∈ ls, ∀ c ∈ t, c ≠ 92) (k : Nat) (hk : k < ls.length) : flAt ls k = 0 := by
  unfold flAt
  rw [si_soft h k (by omega)]
  exact (it_plain _ _ (lAt_mem h k)).1
theorem hards_none {u : List Item} (h : hards u = []) : ∀ x ∈ u, x.2 = false := by
  unfold hards at h
  rw [List.map_eq_nil_iff, List.filter_eq_nil_iff] at h
  intro x hx
  simpa using h x hx
theorem soft_flat : ∀ ls : List (List Int), hards (ls.map softL).flatten = []
  | [] => rfl
  | t :: ls => by
    rw [List.map_cons, List.flatten_cons, hards_app, soft_flat ls]
    simp [softL, hards]

theorem folds_plain (R : List Row) (h : ∀ r ∈ R, ∀ c ∈ r.t, c ≠ 92) : readE (R.map (·.t)) = 0 ∧ readT (R.map (·.t)) = flowT R := by
  have h' : ∀ t ∈ R.map (·.t), ∀ c ∈ t, c ≠ 92 := fun t ht => by
    obtain ⟨r, hr, rfl⟩ := List.mem_map.1 ht
    exact h r hr
  refine ⟨readE_none (fun k hk => fl_soft h' k hk), ?_⟩
  unfold readT
  have hs := si_soft h' (R.map (·.t)).length (Nat.le_refl _)
  rw [List.take_length] at hs
  rw [hs]
  have hR : R.map (·.t) = ((R.map (·.t)).map softL).map (·.map drI) := by
    rw [List.map_map]
    have : ((fun u : List Item => u.map drI) ∘ softL) = id := by
      funext t
      simp [softL, Function.comp_def, drI]
    rw [this, List.map_id]
  have hfl := (flS_items hR R.length).1
  have hsoft : ∀ x ∈ (flI ((R.map (·.t)).map softL) ((R.map (·.t)).map softL).length).1, x.2 = false := by
    apply hards_none
    rw [hards_fl _ _ (Nat.le_refl _), List.take_length, soft_flat]
  have hlen : ((R.map (·.t)).map softL).length = R.length := by simp
  dsimp only
  rw [hlen] at hsoft ⊢
  rw [flowT_flS, hfl]
  generalize (flI ((R.map (·.t)).map softL) R.length).1 = u at hsoft
  rw [keep_all (fun x hx => by simp [keepI, hsoft x hx])]
  apply List.map_congr_left
  intro x hx
  simp [drI, hsoft x hx]

theorem Owns.read {w : World} {base : Nat} {v : Value} {t : List Int} (h : Owns w base v t) : ∃ q c, v = .slice q t.length c ∧ Is w q t := by
  obtain ⟨q, k, c, rfl⟩ := ownsRow_form h
  obtain ⟨h1, rfl, -, -⟩ := is_of_row h
  exact ⟨q, c, rfl, h1⟩
theorem belowN {n₀ : Nat} {A B : World} (h : Below n₀ A B) (k : Nat) : Below n₀ A (B.drewN k) := ⟨h.os, h.tape, h.output, h.size, h.block⟩

theorem tot_small {R : List Row} (h : bigB R = false) : ∀ k, totK (R.map (·.t)) k ≤ k * 200
  | 0 => by simp [totK]
  | k + 1 => by
    have := tot_small h k
    have h2 := (big_small h).2 k
    have e : lAt (R.map (·.t)) k = tAt R k := by simp [lAt, tAt]
    rw [totK, e]
    omega
theorem flow_small {R : List Row} (h : bigB R = false) : ((flowT R).length : Int) ≤ 100000 := by
  obtain ⟨h1, h2⟩ := big_small h
  have h3 := joinT_len sepFl (trimG R) 200 R.length (fun i => Nat.le_trans (trimF_le _ _ _) (h2 i)) (fun b i hb hi => sepFl_len _ b i hb hi) (told (tellF R) R.length) (fun i hi => by
    unfold told at hi
    have := List.mem_range.1 (List.mem_filter.1 hi).1
    omega)
  have h4 := told_len (tellF R) R.length
  have : (told (tellF R) R.length).length * (200 + R.length + 1) ≤ 40 * 241 := Nat.mul_le_mul (by omega) (by omega)
  unfold flowT
  omega

set_option maxRecDepth 100000 in
set_option maxHeartbeats 2000000 in
theorem folds_law (p : Option Addr) (R : List Row) (cap : Nat) (w : World) (hl : R.length ≤ maxLen) (hM : Mt w p R) (hT : Tab w) :
    Calls Tryd.prog 3 #[.slice p R.length cap] w fun e w' => e = .returned (.bool true) ∧ Below w.heap.size w w' := by
  have AL := alive_any w hT
  have BG := fun W h => big_any p R cap W hl h
  cases hb : bigB R with
  | true =>
    rw [hb] at BG
    go_enter Tryd.func3, Tryd.ntmps3
    go_wp2_with (first | (go_at_call 5; refine AL.mono ?_; rintro e W ⟨rfl, hB⟩) | (go_at_call 6; refine (BG _ (hM.on hB)).mono ?_; rintro e W ⟨rfl, rfl⟩))
    go_ret
    exact ⟨rfl, hB⟩
  | false =>
    rw [hb] at BG
    have hS := big_sized hb
    obtain ⟨s1, s2⟩ := big_small hb
    have s1' : (R.length : Int) ≤ 40 := by omega
    have ht := tot_small hb R.length
    go_enter Tryd.func3, Tryd.ntmps3
    go_wp2_with (first | (go_at_call 5; refine AL.mono ?_; rintro e W ⟨rfl, hB⟩) | (go_at_call 6; refine (BG _ (hM.on hB)).mono ?_; rintro e W ⟨rfl, rfl⟩))
    have hMW := hM.on hB
    clear AL BG
    go_loop [5] (fun iv => ∃ (k : Nat), k ≤ R.length ∧ iv = .int .i64 k ∧ Hid (∀ j r, j < k → R[j]? = some r → ∀ c ∈ r.t, c ≠ 92)) (fun iv => R.length - (intOf iv).toNat)
    case atStart => exact ⟨0, Nat.zero_le _, rfl, fun j r hj => by omega⟩
    case round =>
      obtain ⟨k, hk, rfl, Hn⟩ := hrel
      by_cases hlt : k < R.length
      · have hli : (k : Int) < R.length := by omega
        obtain ⟨r, hr⟩ : ∃ r, R[k]? = some r := ⟨_, List.getElem?_eq_getElem hlt⟩
        obtain ⟨b, o, rfl, hcell⟩ := hMW.at (by omega)
        have c0 := hcell k r hr
        have hIr := (hMW.1 k r hr).2.2
        have hrl : r.t.length ≤ 200 := by have := s2 k; rw [tAt_at hr] at this; exact this
        have hrl' : (r.t.length : Int) ≤ 200 := by omega
        have HR : Hid (R[k]? = some r) := hr
        clear hcell hr
        obtain ⟨rq, rt, rc⟩ := r
        dsimp only at c0 hIr hrl hrl'
        go_wp2
        go_loop [6] (fun iv => ∃ (m : Nat), m ≤ rt.length ∧ iv = .int .i64 m ∧ Hid (∀ x ∈ rt.take m, x ≠ 92)) (fun iv => rt.length - (intOf iv).toNat)
        case atStart => exact ⟨0, Nat.zero_le _, rfl, by intro x hx; simp at hx⟩
        case round =>
          obtain ⟨m, hm, rfl, Hm⟩ := hrel
          by_cases hmt : m < rt.length
          · have hmi : (m : Int) < rt.length := by omega
            obtain ⟨b2, o2, rfl, hu⟩ := hIr.at (by omega)
            have c1 := hu m hmt
            clear hu
            by_cases hx : iAt rt m = 92
            · rw [hx] at c1
              go_wp2
              go_ret
              exact ⟨rfl, hB⟩
            · have hx' : (iAt rt m == 92) = false := by simpa using hx
              have Hm1 : Hid (∀ x ∈ rt.take (m + 1), x ≠ 92) := fun x hx2 => by
                rw [take_more' hmt] at hx2
                rcases List.mem_append.1 hx2 with hx2 | hx2
                · exact Hm.out x hx2
                · simp at hx2; subst hx2; exact hx
              generalize iAt rt m = y at c1 hx hx'
              go_wp2
              go_round
              case rel => exact ⟨m + 1, by omega, by go_num, Hm1⟩
              case measure => simp [intOf]; omega
          · obtain rfl : m = rt.length := by omega
            have Hn1 : Hid (∀ j r, j < k + 1 → R[j]? = some r → ∀ c ∈ r.t, c ≠ 92) := fun j r hj hr => by
              by_cases e : j = k
              · subst e
                rw [HR.out] at hr
                cases hr
                have := Hm.out
                rw [List.take_length] at this
                exact this
              · exact Hn.out j r (by omega) hr
            go_wp2
            go_round
            case rel => exact ⟨k + 1, by omega, by go_num, Hn1⟩
            case measure => simp [intOf]; omega
      · obtain rfl : k = R.length := by omega
        have hall : ∀ r ∈ R, ∀ c ∈ r.t, c ≠ 92 := fun r hr => by
          obtain ⟨j, hj⟩ := List.mem_iff_getElem?.1 hr
          exact Hn.out j r (List.getElem?_eq_some_iff.1 hj).1 hj
        obtain ⟨e1, e2⟩ := folds_plain R hall
        have RD := Read_any p R cap W hMW (by omega) (by omega) (hT.on hB)
        rw [e1, e2] at RD
        have hfs := flow_small hb
        have RD' : Calls Tryd.prog 7 #[.slice p R.length cap] W fun e w' => ∃ q' c', e = .returned (.tuple #[.slice q' (flowT R).length c', .int .i64 0]) ∧ Is w' q' (flowT R) ∧ Below W.heap.size W w' := RD.mono (by
          rintro e w' ⟨hb, (⟨h, -⟩ | ⟨-, v, rfl, ho⟩)⟩
          · exact absurd rfl h
          · obtain ⟨q', c', rfl, hI'⟩ := ho.read
            exact ⟨q', c', rfl, hI', hb⟩)
        have RF := fun W h => refFlow_any p R cap W hS h
        have SI := fun p q c d W => same_ints p q (flowT R) c d W (by omega)
        generalize flowT R = T at RD' RF SI hfs
        clear RD e1 e2 hall Hn hS hb
        go_wp2_with (first | (go_at_call 7; refine RD'.mono ?_; rintro e W4 ⟨q4, c4, rfl, hI4, hb4⟩) | (go_at_call 8; refine (num_any _ _).mono ?_; rintro e W4 ⟨rfl, rfl⟩) | (go_at_call 10; refine (RF _ (hMW.on hb4)).mono ?_; rintro e W5 ⟨v5, rfl, ho5, hb5⟩; obtain ⟨q5, c5, rfl, hI5⟩ := ho5.read))
        refine (SI _ _ _ _ _ (hI4.on hb5) hI5).mono ?_
        rintro e W6 ⟨rfl, m6, rfl⟩
        go_wp2
        go_ret
        exact ⟨rfl, belowN ((hB.trans (hb4.mono hB.size)).trans (hb5.mono (Nat.le_trans hB.size hb4.size))) _⟩
end Go.Proofs.YtpiefdpcinjkpabDoor
