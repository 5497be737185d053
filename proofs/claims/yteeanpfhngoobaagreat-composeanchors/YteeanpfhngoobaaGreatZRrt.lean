/- The document's Right and Depth. -/
import Derived.Test.YteeanpfhngoobaaGreatZRen
import Derived.Test.YteeanpfhngoobaaGreatZRcm
set_option linter.unusedVariables false
set_option linter.unusedSimpArgs false
namespace Go.Proofs.YteeanpfhngoobaaGreat
open Go.RowKit Go.Shelf

/-- Is it a row of documents? -/
def docsP (l : List Ev) : Bool := docsF (l.length + 1) l
theorem docs_any {f : Nat} {l : List Ev} (h : l.length < f) : docsF f l = docsP l := by
  rw [Bool.eq_iff_iff, docs_rn f l h]
  unfold docsP
  rw [docs_rn (l.length + 1) l (by omega)]
theorem rnode_facts {t : List Ev} {n : Nat} (h : rnode t = some n) : prd [] (t.take n) = some true ∧ 0 < n ∧ n ≤ t.length := by
  have h1 := h
  rw [rnode_eq] at h1
  refine ⟨?_, (node_rn h1 (a := 1) rfl []).2⟩
  unfold rnode at h
  cases hr : rend [] t with
  | none => rw [hr] at h; cases h
  | some m =>
    rw [hr] at h
    simp only at h
    cases hp : prd [] (t.take m) with
    | none => rw [hp] at h; cases h
    | some b =>
      rw [hp] at h
      cases b with
      | false => cases h
      | true => cases h; exact hp
theorem docs_step (e : Ev) (t : List Ev) : docsP (e :: t) = (decide (e.k = 1) && match rnode t with | none => false | some n => match t.drop n with | [] => false | d :: u => decide (d.k = 2) && docsP u) := by
  unfold docsP
  rw [List.length_cons, docsF]
  congr 1
  cases hr : rnode t with
  | none => rfl
  | some n =>
    cases hd : t.drop n with
    | nil => simp only [hd]
    | cons d u =>
      simp only [hd]
      congr 1
      have hl := congrArg List.length hd
      simp at hl
      rw [docs_any (by omega)]
      rfl
theorem docs_no {L : List Ev} {i : Nat} {e : Ev} (h : L[i]? = some e) (hk : ¬ e.k = 1) : docsP (L.drop i) = false := by
  rw [drop_at h, docs_step]; simp [hk]
theorem docs_none {L : List Ev} {i : Nat} {e : Ev} (h : L[i]? = some e) (hn : rnode (L.drop (i + 1)) = none) : docsP (L.drop i) = false := by
  rw [drop_at h, docs_step, hn]; simp
theorem docs_end {L : List Ev} {i n : Nat} {e : Ev} (h : L[i]? = some e) (hn : rnode (L.drop (i + 1)) = some n) (hl : L.length ≤ i + 1 + n) : docsP (L.drop i) = false := by
  have hd : (L.drop (i + 1)).drop n = [] := by rw [List.drop_drop, List.drop_eq_nil_of_le (by omega)]
  rw [drop_at h, docs_step, hn]; simp only [hd]; simp
theorem docs_kind {L : List Ev} {i n : Nat} {e d : Ev} (h : L[i]? = some e) (hn : rnode (L.drop (i + 1)) = some n) (hx : L[i + 1 + n]? = some d) : docsP (L.drop i) = (decide (e.k = 1) && (decide (d.k = 2) && docsP (L.drop (i + 1 + n + 1)))) := by
  have hd : (L.drop (i + 1)).drop n = d :: L.drop (i + 1 + n + 1) := by rw [List.drop_drop, drop_at hx]
  rw [drop_at h, docs_step, hn]; simp only [hd]

set_option maxRecDepth 100000 in
set_option maxHeartbeats 4000000 in
theorem rRight_any (q : Option Addr) (L : List Ev) (n c : Nat) (w : World) (hn : n = L.length) (hl : L.length ≤ 5864062014805) (hcl : L.length ≤ c) (hE : Es w q L) :
    Calls Tryz.prog 22 #[.slice q n c] w fun e w' => e = .returned (.bool (rrightP L)) ∧ Below w.heap.size w w' := by
  subst hn
  obtain ⟨V, hV⟩ : ∃ V, rrightP L = V := ⟨_, rfl⟩
  rw [hV]
  have HV : Hid (rrightP L = V) := hV
  clear hV
  have hl2 : (L.length : Int) ≤ 5864062014805 := by omega
  go_enter Tryz.func22, Tryz.ntmps22
  go_wp2
  go_loopw [3] (fun iv wr => ∃ (k : Nat), k ≤ L.length ∧ iv = .int .i64 k ∧ Below w.heap.size w wr ∧ Hid (∀ x ∈ L.take k, rcleanP x = true)) (fun iv _ => L.length - (intOf iv).toNat)
  case atStart => exact ⟨0, Nat.zero_le _, rfl, Below.refl _ _, fun x hx => by simp at hx⟩
  case round =>
    obtain ⟨k, hk, rfl, hB, HC⟩ := hrel
    by_cases hlt : k < L.length
    · have hli : (k : Int) < L.length := by omega
      obtain ⟨x, hx⟩ := ev_at hlt
      obtain ⟨b, o, rfl, hc⟩ := (hE.on hB).at (by omega)
      obtain ⟨e0, e1, e2, e3, e4, e5⟩ := hc k x hx
      have RC := rclean_any x wr
      cases hcx : rcleanP x with
      | true =>
        have HC2 : Hid (∀ y ∈ L.take (k + 1), rcleanP y = true) := fun y hy => by
          rw [List.take_add_one, hx] at hy
          simp at hy
          rcases hy with hy | rfl
          · exact HC.out y hy
          · exact hcx
        rw [hcx] at RC
        clear hc hx HC hcx hE
        obtain ⟨xk, tx, tg, an, xs, fl⟩ := x
        dsimp only [Ev.v] at *
        go_wp2_with (first | (go_at_call 41; refine RC.mono ?_; rintro e W2 ⟨rfl, hB2⟩))
        go_roundw
        case rel => exact ⟨k + 1, by omega, by go_num, hB.trans (hB2.mono hB.size), HC2⟩
        case measure => simp [intOf]; omega
      | false =>
        have hVf : V = false := by
          rw [← HV.out]
          unfold rrightP
          rw [Bool.and_eq_false_iff]
          left
          rw [List.all_eq_false]
          exact ⟨x, List.mem_of_getElem? hx, by rw [hcx]; simp⟩
        subst hVf
        rw [hcx] at RC
        clear hc hx HC hcx hE HV
        obtain ⟨xk, tx, tg, an, xs, fl⟩ := x
        dsimp only [Ev.v] at *
        go_wp2_with (first | (go_at_call 41; refine RC.mono ?_; rintro e W2 ⟨rfl, hB2⟩))
        go_ret
        exact ⟨rfl, hB.trans (hB2.mono hB.size)⟩
    · have hge : ¬ (k : Int) < L.length := by omega
      obtain rfl : k = L.length := by omega
      have HD0 : Hid (docsP L = V) := by
        show _ = _
        rw [← HV.out]
        unfold rrightP
        rw [List.all_eq_true.2 (fun x hx => HC.out x (by rw [List.take_length]; exact hx))]
        rfl
      clear HC HV
      go_wp2
      go_loopw [4] (fun iv wr => ∃ (i : Nat), i ≤ L.length ∧ iv = .int .i64 i ∧ Below w.heap.size w wr ∧ Hid (docsP (L.drop i) = V)) (fun iv _ => L.length - (intOf iv).toNat)
      case atStart => exact ⟨0, Nat.zero_le _, rfl, hB, HD0.out⟩
      case round =>
        obtain ⟨i, hi, rfl, hB2, HD⟩ := hrel
        clear HD0 hB
        by_cases hlt2 : i < L.length
        · have hli : (i : Int) < L.length := by omega
          obtain ⟨x, hx⟩ := ev_at hlt2
          obtain ⟨b, o, rfl, hc⟩ := (hE.on hB2).at (by omega)
          have e0 := (hc i x hx).c0
          have fail : docsP (L.drop i) = false → V = false := fun h => by rw [← HD.out, h]
          by_cases hk1 : x.k = 1
          · rw [hk1] at e0
            by_cases hi1 : i + 1 < L.length
            · have EN := fun (W : World) (hW : Below w.heap.size w W) => rEnd_in (some ⟨b, o, none⟩) L L.length c (i + 1) W rfl hl hcl hi1 (hE.on hW)
              rw [show ((i + 1 : Nat) : Int) = (i : Int) + 1 by omega] at EN
              unfold rendP at EN
              cases hrn : rnode (L.drop (i + 1)) with
              | none =>
                have hVf := fail (docs_none hx hrn)
                subst hVf
                rw [hrn] at EN
                dsimp only [upto] at EN
                rw [show ((i + 1 : Nat) : Int) = (i : Int) + 1 by omega] at EN
                have EN2 := EN wr hB2
                clear hc hx HD hE EN fail hrn
                go_wp2_with (first | (go_at_call 42; refine EN2.mono ?_; rintro e W2 ⟨rfl, hB3⟩))
                go_ret
                exact ⟨rfl, hB2.trans (hB3.mono hB2.size)⟩
              | some m =>
                obtain ⟨hprd, hm0, hml⟩ := rnode_facts hrn
                rw [hrn] at EN
                dsimp only [upto] at EN
                have EN2 := EN wr hB2
                have hml2 : m ≤ L.length - (i + 1) := by simpa using hml
                obtain ⟨K, hK⟩ : ∃ K, i + 1 + m = K := ⟨_, rfl⟩
                rw [hK] at EN2
                have n1 : ((K : Int) == (i : Int) + 1) = false := by simp; omega
                have n2 : ¬ ((K : Int) = (i : Int) + 1) := by omega
                have hK2 : (K : Int) ≤ 5864062014805 := by omega
                by_cases hKl : K < L.length
                · have hKli : (K : Int) < L.length := by omega
                  have hKl3 : ¬ ((L.length : Int) ≤ K) := by omega
                  obtain ⟨y, hy⟩ := ev_at hKl
                  have hdk := docs_kind hx hrn (by rw [hK]; exact hy)
                  rw [hK, hk1] at hdk
                  have HY6 : Hid (∀ W2 : World, Below wr.heap.size wr W2 → W2.cell? ⟨b, o + K * 6, none⟩ = some (.int .i64 y.k)) := fun W2 hW2 => ((hc K y hy).kept (hW2.block b (hE.on hB2 |>.lt ⟨b, o, none⟩ rfl (by omega)))).c0
                  by_cases hy2 : y.k = 2
                  · have HD2 : Hid (docsP (L.drop (K + 1)) = V) := by show _ = _; rw [← HD.out, hdk, hy2]; simp
                    have FT := part_22 (some ⟨b, o, none⟩) L.length c (i + 1) K (by omega) (by omega)
                    rw [show ((i + 1 : Nat) : Int) = (i : Int) + 1 by omega] at FT
                    have HPA : Hid (∀ W' : World, Below w.heap.size w W' → ∀ q2, q2 = (if c = i + 1 then some ⟨b, o, none⟩ else (some ⟨b, o, none⟩ : Option Addr).map (·.add ((i + 1) * 6))) → Calls Tryz.prog 43 #[.slice q2 (K - (i + 1)) (c - (i + 1))] W' fun e w' => e = .returned (.bool true) ∧ Below W'.heap.size W' w') := fun W' hW' q2 hq2 => by
                      subst hq2
                      have hKm : K - (i + 1) = m := by omega
                      rw [hKm]
                      exact paired_any _ ((L.drop (i + 1)).take m) _ _ W' true (by simp; omega) (by simp; omega) (((hE.on hW').from c (i + 1) hcl).take _) hprd
                    generalize (if c = i + 1 then some ⟨b, o, none⟩ else (some ⟨b, o, none⟩ : Option Addr).map (·.add ((i + 1) * 6))) = q2 at FT HPA
                    generalize K - (i + 1) = ln at FT HPA
                    generalize c - (i + 1) = cn at FT HPA
                    rw [hy2] at HY6
                    clear hc hx HD hE EN fail hrn hdk hprd hy hy2 hml hml2
                    go_wp2_with (first | (go_at_call 42; refine EN2.mono ?_; rintro e W2 ⟨rfl, hB3⟩; have y0 := HY6.out _ hB3; have hB4 := hB2.trans (hB3.mono hB2.size); have PA := HPA.out _ hB4 _ rfl) | (go_at_call 43; refine PA.mono ?_; rintro e W4 ⟨rfl, hB5⟩))
                    go_roundw
                    case rel => exact ⟨K + 1, by omega, by go_num, hB4.trans (hB5.mono hB4.size), HD2⟩
                    case measure => simp [intOf]; omega
                  · have hVf := fail (by rw [hdk]; simp [hy2])
                    subst hVf
                    have e7 : (y.k == 2) = false := by simp [hy2]
                    have e8 : (y.k != 2) = true := by simp [hy2]
                    generalize y.k = yk at *
                    clear hc hx HD hE EN fail hrn hdk hprd hy hml hml2
                    go_wp2_with (first | (go_at_call 42; refine EN2.mono ?_; rintro e W2 ⟨rfl, hB3⟩; have y0 := HY6.out _ hB3))
                    go_ret
                    exact ⟨rfl, hB2.trans (hB3.mono hB2.size)⟩
                · have hVf := fail (docs_end hx hrn (by omega))
                  subst hVf
                  have hKl3 : (L.length : Int) ≤ K := by omega
                  clear hc hx HD hE EN fail hrn hprd hml hml2
                  go_wp2_with (first | (go_at_call 42; refine EN2.mono ?_; rintro e W2 ⟨rfl, hB3⟩))
                  go_ret
                  exact ⟨rfl, hB2.trans (hB3.mono hB2.size)⟩
            · have hVf := fail (docs_none hx (by rw [List.drop_eq_nil_of_le (by omega)]; rfl))
              subst hVf
              have EN := rEnd_out (some ⟨b, o, none⟩) L.length c ((i : Int) + 1) wr (.inr (by omega))
              clear hc hx HD hE fail
              go_wp2_with (first | (go_at_call 42; refine EN.mono ?_; rintro e W2 ⟨rfl, rfl⟩))
              go_ret
              exact ⟨rfl, hB2⟩
          · have hVf := fail (docs_no hx hk1)
            subst hVf
            have e7 : (x.k == 1) = false := by simp [hk1]
            have e8 : (x.k != 1) = true := by simp [hk1]
            generalize x.k = xk at *
            clear hc hx HD hE fail
            go_wp2
            go_ret
            exact ⟨rfl, hB2⟩
        · have hge2 : ¬ (i : Int) < L.length := by omega
          have hVt : V = true := by
            rw [← HD.out, List.drop_eq_nil_of_le (by omega)]
            rfl
          subst hVt
          clear HD hE
          go_wp2
          go_ret
          exact ⟨rfl, hB2⟩

theorem rdep_cons (n m : Int) (e : Ev) (t : List Ev) (n' : Int) (h : (if e.k = 3 ∨ e.k = 5 then n + 1 else if e.k = 4 ∨ e.k = 6 then n - 1 else n) = n') : rdep n m (e :: t) = rdep n' (if n' > m then n' else m) t := by
  subst h; rfl

set_option maxRecDepth 100000 in
set_option maxHeartbeats 4000000 in
theorem rDepth_any (q : Option Addr) (L : List Ev) (n c : Nat) (w : World) (hn : n = L.length) (hl : L.length ≤ 5864062014805) (hcl : L.length ≤ c) (hE : Es w q L) :
    Calls Tryz.prog 15 #[.slice q n c] w fun e w' => e = .returned (.int .i64 (rdepthP L)) ∧ Below w.heap.size w w' := by
  have RI := rRight_any q L n c w hn hl hcl hE
  subst hn
  cases hR : rrightP L with
  | false =>
    have hD : rdepthP L = 0 := by unfold rdepthP; rw [hR]; rfl
    rw [hD]
    rw [hR] at RI
    go_enter Tryz.func15, Tryz.ntmps15
    go_wp2_with (first | (go_at_call 22; refine RI.mono ?_; rintro e W2 ⟨rfl, hB⟩))
    go_ret
    exact ⟨rfl, hB⟩
  | true =>
    have hD : rdepthP L = rdep 0 0 L := by unfold rdepthP; rw [hR]; rfl
    obtain ⟨V, hV⟩ : ∃ V, rdepthP L = V := ⟨_, rfl⟩
    rw [hV]
    have HV : Hid (rdep 0 0 L = V) := hD.symm.trans hV
    clear hV hD
    rw [hR] at RI
    have hl2 : (L.length : Int) ≤ 5864062014805 := by omega
    go_enter Tryz.func15, Tryz.ntmps15
    go_wp2_with (first | (go_at_call 22; refine RI.mono ?_; rintro e W1 ⟨rfl, hB⟩))
    go_loop [3, 4, 5] (fun nv mv iv => ∃ (k : Nat) (x m : Int), k ≤ L.length ∧ iv = .int .i64 k ∧ nv = .int .i64 x ∧ mv = .int .i64 m ∧ - (k : Int) ≤ x ∧ x ≤ k ∧ 0 ≤ m ∧ m ≤ k ∧ Hid (rdep x m (L.drop k) = V)) (fun _ _ iv => L.length - (intOf iv).toNat)
    case atStart => exact ⟨0, 0, 0, Nat.zero_le _, rfl, rfl, rfl, by omega, by omega, by omega, by omega, HV.out⟩
    case round =>
      obtain ⟨k, x, m, hk, rfl, rfl, rfl, hx1, hx2, hm1, hm2, HD⟩ := hrel
      by_cases hlt : k < L.length
      · have hli : (k : Int) < L.length := by omega
        obtain ⟨e, he⟩ := ev_at hlt
        obtain ⟨b, o, rfl, hc⟩ := (hE.on hB).at (by omega)
        have e0 := (hc k e he).c0
        have HDx : Hid (rdep x m (e :: L.drop (k + 1)) = V) := by have h := HD.out; rw [drop_at he] at h; exact h
        clear HD hc he HV RI
        by_cases k3 : e.k = 3
        · have HD2 := (rdep_cons x m e (L.drop (k + 1)) (x + 1) (by rw [if_pos (.inl k3)])).symm.trans HDx.out
          rw [k3] at e0
          by_cases hg : x + 1 > m
          · rw [if_pos hg] at HD2
            have HD3 : Hid (rdep (x + 1) (x + 1) (L.drop (k + 1)) = V) := HD2
            have hg2 : m < x + 1 := hg
            clear HD2 HDx
            go_wp2
            go_round
            case rel => exact ⟨k + 1, x + 1, x + 1, by omega, by go_num, rfl, rfl, by omega, by omega, by omega, by omega, HD3⟩
            case measure => simp [intOf]; omega
          · rw [if_neg hg] at HD2
            have HD3 : Hid (rdep (x + 1) m (L.drop (k + 1)) = V) := HD2
            have hg2 : ¬ m < x + 1 := hg
            clear HD2 HDx
            go_wp2
            go_round
            case rel => exact ⟨k + 1, x + 1, m, by omega, by go_num, rfl, rfl, by omega, by omega, by omega, by omega, HD3⟩
            case measure => simp [intOf]; omega
        by_cases k5 : e.k = 5
        · have HD2 := (rdep_cons x m e (L.drop (k + 1)) (x + 1) (by rw [if_pos (.inr k5)])).symm.trans HDx.out
          rw [k5] at e0
          by_cases hg : x + 1 > m
          · rw [if_pos hg] at HD2
            have HD3 : Hid (rdep (x + 1) (x + 1) (L.drop (k + 1)) = V) := HD2
            have hg2 : m < x + 1 := hg
            clear HD2 HDx
            go_wp2
            go_round
            case rel => exact ⟨k + 1, x + 1, x + 1, by omega, by go_num, rfl, rfl, by omega, by omega, by omega, by omega, HD3⟩
            case measure => simp [intOf]; omega
          · rw [if_neg hg] at HD2
            have HD3 : Hid (rdep (x + 1) m (L.drop (k + 1)) = V) := HD2
            have hg2 : ¬ m < x + 1 := hg
            clear HD2 HDx
            go_wp2
            go_round
            case rel => exact ⟨k + 1, x + 1, m, by omega, by go_num, rfl, rfl, by omega, by omega, by omega, by omega, HD3⟩
            case measure => simp [intOf]; omega
        by_cases k4 : e.k = 4
        · have HD2 := (rdep_cons x m e (L.drop (k + 1)) (x - 1) (by rw [if_neg (by omega), if_pos (.inl k4)])).symm.trans HDx.out
          rw [k4] at e0
          by_cases hg : x - 1 > m
          · rw [if_pos hg] at HD2
            have HD3 : Hid (rdep (x - 1) (x - 1) (L.drop (k + 1)) = V) := HD2
            have hg2 : m < x - 1 := hg
            clear HD2 HDx
            go_wp2
            go_round
            case rel => exact ⟨k + 1, x - 1, x - 1, by omega, by go_num, rfl, rfl, by omega, by omega, by omega, by omega, HD3⟩
            case measure => simp [intOf]; omega
          · rw [if_neg hg] at HD2
            have HD3 : Hid (rdep (x - 1) m (L.drop (k + 1)) = V) := HD2
            have hg2 : ¬ m < x - 1 := hg
            clear HD2 HDx
            go_wp2
            go_round
            case rel => exact ⟨k + 1, x - 1, m, by omega, by go_num, rfl, rfl, by omega, by omega, by omega, by omega, HD3⟩
            case measure => simp [intOf]; omega
        by_cases k6 : e.k = 6
        · have HD2 := (rdep_cons x m e (L.drop (k + 1)) (x - 1) (by rw [if_neg (by omega), if_pos (.inr k6)])).symm.trans HDx.out
          rw [k6] at e0
          by_cases hg : x - 1 > m
          · rw [if_pos hg] at HD2
            have HD3 : Hid (rdep (x - 1) (x - 1) (L.drop (k + 1)) = V) := HD2
            have hg2 : m < x - 1 := hg
            clear HD2 HDx
            go_wp2
            go_round
            case rel => exact ⟨k + 1, x - 1, x - 1, by omega, by go_num, rfl, rfl, by omega, by omega, by omega, by omega, HD3⟩
            case measure => simp [intOf]; omega
          · rw [if_neg hg] at HD2
            have HD3 : Hid (rdep (x - 1) m (L.drop (k + 1)) = V) := HD2
            have hg2 : ¬ m < x - 1 := hg
            clear HD2 HDx
            go_wp2
            go_round
            case rel => exact ⟨k + 1, x - 1, m, by omega, by go_num, rfl, rfl, by omega, by omega, by omega, by omega, HD3⟩
            case measure => simp [intOf]; omega
        have HD2 := (rdep_cons x m e (L.drop (k + 1)) (x) (by rw [if_neg (by omega), if_neg (by omega)])).symm.trans HDx.out
        have n3 : (e.k == 3) = false := by simp [k3]
        have n5 : (e.k == 5) = false := by simp [k5]
        have n4 : (e.k == 4) = false := by simp [k4]
        have n6 : (e.k == 6) = false := by simp [k6]
        generalize e.k = ek at *
        by_cases hg : x > m
        · rw [if_pos hg] at HD2
          have HD3 : Hid (rdep (x) (x) (L.drop (k + 1)) = V) := HD2
          have hg2 : m < x := hg
          clear HD2 HDx
          go_wp2
          go_round
          case rel => exact ⟨k + 1, x, x, by omega, by go_num, rfl, rfl, by omega, by omega, by omega, by omega, HD3⟩
          case measure => simp [intOf]; omega
        · rw [if_neg hg] at HD2
          have HD3 : Hid (rdep (x) m (L.drop (k + 1)) = V) := HD2
          have hg2 : ¬ m < x := hg
          clear HD2 HDx
          go_wp2
          go_round
          case rel => exact ⟨k + 1, x, m, by omega, by go_num, rfl, rfl, by omega, by omega, by omega, by omega, HD3⟩
          case measure => simp [intOf]; omega
      · have hge : ¬ (k : Int) < L.length := by omega
        obtain rfl : k = L.length := by omega
        have hVm : V = m := by rw [← HD.out, List.drop_length]; rfl
        subst hVm
        clear HD HV RI
        go_wp2
        go_ret
        exact ⟨rfl, hB⟩
end Go.Proofs.YteeanpfhngoobaaGreat
