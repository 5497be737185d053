/- The document's End. -/
import Derived.Test.YteeanpfhngoobaaGreatZPrd
set_option linter.unusedVariables false
set_option linter.unusedSimpArgs false
namespace Go.Proofs.YteeanpfhngoobaaGreat
open Go.RowKit Go.Shelf

abbrev oV (c : Int) : Value := .int .i64 c
theorem part_22 (p : Option Addr) (len cap j m : Nat) (hj : j ≤ m) (hm : m ≤ cap) (w2 : World) :
    (Instr.slice 22 (.slice p len cap) (some (.int .i64 j)) (some (.int .i64 m)) none).run Tryz.prog w2 = .ok (.slice (if cap = j then p else p.map (·.add (j * 6))) (m - j) (cap - j)) w2 := by
  have h0 : (j : Int) ≤ m := by omega
  have h1 : (m : Int) ≤ cap := by omega
  have u := Tryz.underlying22
  have z := Tryz.sizeOf46
  simp [go_sem, h0, h1]
theorem below_drewN {n₀ : Nat} {u w : World} (h : Below n₀ u w) (hn : n₀ ≤ w.heap.size) (n : Nat) : Below n₀ u (w.drewN n) := h.grown (grownBy_drewN w n) hn (fun k e => by cases e)
theorem rend_cons (o : List Int) (e : Ev) (t : List Ev) : rend o (e :: t) = match rstp o e.k with | none => none | some [] => some 1 | some (c :: r) => (rend (c :: r) t).map (· + 1) := rfl

set_option maxHeartbeats 1000000 in
theorem rEnd_out (q : Option Addr) (n c : Nat) (i : Int) (w : World) (hi : i < 0 ∨ (n : Int) ≤ i) :
    Calls Tryz.prog 42 #[.slice q n c, .int .i64 i] w fun e w' => e = .returned (.int .i64 i) ∧ w' = w := by
  by_cases h0 : i < 0
  · clear hi
    go_enter Tryz.func42, Tryz.ntmps42
    go_wp2
    go_ret
    exact ⟨rfl, rfl⟩
  · have h1 : (n : Int) ≤ i := by omega
    clear hi
    go_enter Tryz.func42, Tryz.ntmps42
    go_wp2
    go_ret
    exact ⟨rfl, rfl⟩

/-- What is left of the way to the end of a node. -/
def Rw (L : List Ev) (j k : Nat) (o : List Int) : Prop := (rend o (L.drop k)).map (· + (k - j)) = rend [] (L.drop j)
theorem Rw.go {L : List Ev} {j k : Nat} {o o' : List Int} {x : Ev} (h : Rw L j k o) (hjk : j ≤ k) (hx : L[k]? = some x) (hs : rstp o x.k = some o') (hne : o' ≠ []) : Rw L j (k + 1) o' := by
  unfold Rw at h ⊢
  rw [drop_at hx, rend_cons, hs] at h
  obtain ⟨c, r, rfl⟩ : ∃ c r, o' = c :: r := by cases o' with | nil => exact absurd rfl hne | cons c r => exact ⟨c, r, rfl⟩
  rw [← h, Option.map_map]
  congr 1
  funext z
  simp
  omega
theorem Rw.off {L : List Ev} {j k : Nat} {o : List Int} {x : Ev} (h : Rw L j k o) (hx : L[k]? = some x) (hs : rstp o x.k = none) : rendP L j = j := by
  unfold Rw at h
  rw [drop_at hx, rend_cons, hs] at h
  unfold rendP rnode
  rw [← h]
  rfl
theorem Rw.done {L : List Ev} {j : Nat} {o : List Int} (h : Rw L j L.length o) : rendP L j = j := by
  unfold Rw at h
  rw [List.drop_length] at h
  unfold rendP rnode
  rw [← h]
  rfl
theorem Rw.at {L : List Ev} {j k : Nat} {o : List Int} {x : Ev} (h : Rw L j k o) (hjk : j ≤ k) (hx : L[k]? = some x) (hs : rstp o x.k = some []) : ∃ b, prd [] ((L.drop j).take (k + 1 - j)) = some b ∧ rendP L j = if b then k + 1 else j := by
  unfold Rw at h
  rw [drop_at hx, rend_cons, hs] at h
  have hr : rend [] (L.drop j) = some (k + 1 - j) := by rw [← h]; simp; omega
  obtain ⟨b, hb⟩ := prd_some hr
  refine ⟨b, hb, ?_⟩
  unfold rendP rnode
  rw [hr]
  simp only [hb]
  cases b with
  | true => show j + (k + 1 - j) = k + 1; omega
  | false => rfl

set_option maxRecDepth 100000 in
set_option maxHeartbeats 4000000 in
theorem rEnd_in (q : Option Addr) (L : List Ev) (n c j : Nat) (w : World) (hn : n = L.length) (hl : L.length ≤ 5864062014805) (hcl : L.length ≤ c) (hj : j < L.length) (hE : Es w q L) :
    Calls Tryz.prog 42 #[.slice q n c, .int .i64 (j : Nat)] w fun e w' => e = .returned (.int .i64 (rendP L j : Nat)) ∧ Below w.heap.size w w' := by
  subst hn
  obtain ⟨V, hV⟩ : ∃ V, rendP L j = V := ⟨_, rfl⟩
  rw [hV]
  have HV : Hid (rendP L j = V) := hV
  clear hV
  have hl2 : (L.length : Int) ≤ 5864062014805 := by omega
  have hj2 : (j : Int) < L.length := by omega
  have hj0 : ¬ ((j : Int) < 0) := by omega
  have hj3 : ¬ ((L.length : Int) ≤ j) := by omega
  go_enter Tryz.func42, Tryz.ntmps42
  go_wp2
  go_loopw [5, 6] (fun ov iv wr => ∃ (k : Nat) (o : List Int), j ≤ k ∧ k ≤ L.length ∧ iv = .int .i64 k ∧ o.length ≤ k ∧ Hid (Stk 3 oV wr w.heap.size ov o) ∧ Below w.heap.size w wr ∧ Hid (Rw L j k o)) (fun _ iv _ => L.length - (intOf iv).toNat)
  case atStart => exact ⟨j, [], Nat.le_refl _, by omega, rfl, Nat.zero_le _, Stk.zero _ _ _ _, Below.refl _ _, by show Rw L j j []; unfold Rw; rw [Nat.sub_self]; simp⟩
  case round =>
    obtain ⟨k, o, hjk, hk, rfl, hlen, HO, hB, HR⟩ := hrel
    by_cases hlt : k < L.length
    · have hli : (k : Int) < L.length := by omega
      obtain ⟨x, hx⟩ := ev_at hlt
      obtain ⟨b, ob, rfl, hc⟩ := (hE.on hB).at (by omega)
      have e0 := (hc k x hx).c0
      have HX : Hid (L[k]? = some x) := hx
      clear hc hx
      -- where nothing is open
      have HPA : Hid (∀ bb : Bool, prd [] ((L.drop j).take (k + 1 - j)) = some bb → ∀ W' : World, Below w.heap.size w W' → ∀ q2, q2 = (if c = j then some ⟨b, ob, none⟩ else (some ⟨b, ob, none⟩ : Option Addr).map (·.add (j * 6))) → Calls Tryz.prog 43 #[.slice q2 (k + 1 - j) (c - j)] W' fun e w' => e = .returned (.bool bb) ∧ Below W'.heap.size W' w') := fun bb hbb W' hW' q2 hq2 => by
        subst hq2
        exact paired_any _ ((L.drop j).take (k + 1 - j)) _ _ W' bb (by simp; omega) (by simp; omega) (((hE.on hW').from c j hcl).take _) hbb
      have FT := part_22 (some ⟨b, ob, none⟩) L.length c j (k + 1) (by omega) (by omega)
      rw [show ((k + 1 : Nat) : Int) = (k : Int) + 1 by omega] at FT
      generalize (if c = j then some ⟨b, ob, none⟩ else (some ⟨b, ob, none⟩ : Option Addr).map (·.add (j * 6))) = q2 at FT HPA
      obtain ⟨ln, hln⟩ : ∃ ln, k + 1 - j = ln := ⟨_, rfl⟩
      obtain ⟨cn, hcn⟩ : ∃ cn, c - j = cn := ⟨_, rfl⟩
      rw [hln, hcn] at FT HPA
      have HLN : Hid (k + 1 - j = ln) := hln
      clear hln hcn hE
      by_cases k7 : x.k = 7
      · have hst : rstp o x.k = some o := by unfold rstp; rw [if_pos (by omega)]
        cases o with
        | nil =>
          obtain ⟨a1, cc1, ev1, -, -, -⟩ := HO.out.shape
          rw [List.length_nil] at ev1
          subst ev1
          rw [k7] at e0
          obtain ⟨bb, hbb, hVb⟩ := HR.out.at hjk HX.out hst
          rw [HLN.out] at hbb
          rw [HV.out] at hVb
          have PA := HPA.out bb hbb
          cases bb with
          | true =>
            have hVv : V = k + 1 := hVb
            subst hVv
            clear hVb hbb HPA HR HX HLN HO
            go_wp2_with (first | (go_at_call 43; refine (PA _ hB _ rfl).mono ?_; rintro e W2 ⟨rfl, hB2⟩))
            go_ret
            exact ⟨ret_int (by omega), hB.trans (hB2.mono hB.size)⟩
          | false =>
            have hVv : V = j := hVb
            subst hVv
            clear hVb hbb HPA HR HX HLN HO
            go_wp2_with (first | (go_at_call 43; refine (PA _ hB _ rfl).mono ?_; rintro e W2 ⟨rfl, hB2⟩))
            go_ret
            exact ⟨rfl, hB.trans (hB2.mono hB.size)⟩
        | cons c0 r0 =>
          obtain ⟨g1, cp1, ev1, -, -, hcp1, hcm1⟩ := HO.out.form
          obtain ⟨d, hd⟩ : ∃ d, r0.length = d := ⟨_, rfl⟩
          have HR2 : Hid (Rw L j (k + 1) (c0 :: r0)) := HR.out.go hjk HX.out hst (by simp)
          rw [hd] at ev1
          subst ev1
          rw [k7] at e0
          have hd3 : (d : Int) ≤ 5864062014805 := by simp at hlen; omega
          have e3 : ((d : Int) + 1 == 0) = false := by simp; omega
          have e4 : ¬ ((d : Int) + 1 = 0) := by omega
          have HL : Hid ((c0 :: r0).length ≤ k + 1) := Nat.le_succ_of_le hlen
          clear HR HX HPA HLN hst hlen hcp1 hcm1 FT hd
          go_wp2
          go_roundw
          case rel => exact ⟨k + 1, c0 :: r0, by omega, by omega, by go_num, HL.out, HO, hB, HR2⟩
          case measure => simp [intOf]; omega
      by_cases k8 : x.k = 8
      · have hst : rstp o x.k = some o := by unfold rstp; rw [if_pos (by omega)]
        cases o with
        | nil =>
          obtain ⟨a1, cc1, ev1, -, -, -⟩ := HO.out.shape
          rw [List.length_nil] at ev1
          subst ev1
          rw [k8] at e0
          obtain ⟨bb, hbb, hVb⟩ := HR.out.at hjk HX.out hst
          rw [HLN.out] at hbb
          rw [HV.out] at hVb
          have PA := HPA.out bb hbb
          cases bb with
          | true =>
            have hVv : V = k + 1 := hVb
            subst hVv
            clear hVb hbb HPA HR HX HLN HO
            go_wp2_with (first | (go_at_call 43; refine (PA _ hB _ rfl).mono ?_; rintro e W2 ⟨rfl, hB2⟩))
            go_ret
            exact ⟨ret_int (by omega), hB.trans (hB2.mono hB.size)⟩
          | false =>
            have hVv : V = j := hVb
            subst hVv
            clear hVb hbb HPA HR HX HLN HO
            go_wp2_with (first | (go_at_call 43; refine (PA _ hB _ rfl).mono ?_; rintro e W2 ⟨rfl, hB2⟩))
            go_ret
            exact ⟨rfl, hB.trans (hB2.mono hB.size)⟩
        | cons c0 r0 =>
          obtain ⟨g1, cp1, ev1, -, -, hcp1, hcm1⟩ := HO.out.form
          obtain ⟨d, hd⟩ : ∃ d, r0.length = d := ⟨_, rfl⟩
          have HR2 : Hid (Rw L j (k + 1) (c0 :: r0)) := HR.out.go hjk HX.out hst (by simp)
          rw [hd] at ev1
          subst ev1
          rw [k8] at e0
          have hd3 : (d : Int) ≤ 5864062014805 := by simp at hlen; omega
          have e3 : ((d : Int) + 1 == 0) = false := by simp; omega
          have e4 : ¬ ((d : Int) + 1 = 0) := by omega
          have HL : Hid ((c0 :: r0).length ≤ k + 1) := Nat.le_succ_of_le hlen
          clear HR HX HPA HLN hst hlen hcp1 hcm1 FT hd
          go_wp2
          go_roundw
          case rel => exact ⟨k + 1, c0 :: r0, by omega, by omega, by go_num, HL.out, HO, hB, HR2⟩
          case measure => simp [intOf]; omega
      by_cases k3 : x.k = 3
      · have hst : rstp o x.k = some (4 :: o) := by unfold rstp; rw [if_neg (by omega), if_pos (by omega), k3]; rfl
        have HR2 : Hid (Rw L j (k + 1) (4 :: o)) := HR.out.go hjk HX.out hst (by simp)
        rw [k3] at e0
        obtain ⟨ga, ca, Wa, hrun, p2, p3, p4, p5⟩ := Stk.push 26 (.int .i64 0) 8 Tryz.underlying26 Tryz.info3 rfl (by decide) HO.out hB.size (by omega) 4 rfl
        have hB3 := (HO.out.alloc (.cells #[oV 4] 3)).below (Nat.le_refl _) (by simp; have := hB.size; omega) p3 (hB.alloc hB.size (.cells #[oV 4] 3))
        have HS3 : Hid (Stk 3 oV Wa w.heap.size (.slice (some ⟨ga, 0, none⟩) (o.length + 1) ca) (4 :: o)) := p2
        obtain ⟨a1, cc1, ev1, -, -, -⟩ := HO.out.shape
        subst ev1
        have HL : Hid ((4 :: o).length ≤ k + 1) := by show _ ≤ _; simp; exact hlen
        obtain ⟨lo, hlo⟩ : ∃ lo, o.length = lo := ⟨_, rfl⟩
        rw [hlo] at hrun HS3 ⊢
        have hd3 : (lo : Int) ≤ 5864062014805 := by omega
        have e3 : ((lo : Int) + 1 == 0) = false := by simp; omega
        have e4 : ¬ ((lo : Int) + 1 = 0) := by omega
        clear HR HX HPA HLN hst hlen FT p2 p3 p4 p5 HO hlo
        go_wp2_with (first | (at_builtin; refine wpList_append_run rfl _ _ 26 rfl rfl rfl hrun ?_; clear hrun))
        go_roundw
        case rel => exact ⟨k + 1, 4 :: o, by omega, by omega, by go_num, HL.out, HS3, hB3, HR2⟩
        case measure => simp [intOf]; omega
      by_cases k5 : x.k = 5
      · have hst : rstp o x.k = some (6 :: o) := by unfold rstp; rw [if_neg (by omega), if_pos (by omega), k5]; rfl
        have HR2 : Hid (Rw L j (k + 1) (6 :: o)) := HR.out.go hjk HX.out hst (by simp)
        rw [k5] at e0
        obtain ⟨ga, ca, Wa, hrun, p2, p3, p4, p5⟩ := Stk.push 26 (.int .i64 0) 8 Tryz.underlying26 Tryz.info3 rfl (by decide) HO.out hB.size (by omega) 6 rfl
        have hB3 := (HO.out.alloc (.cells #[oV 6] 3)).below (Nat.le_refl _) (by simp; have := hB.size; omega) p3 (hB.alloc hB.size (.cells #[oV 6] 3))
        have HS3 : Hid (Stk 3 oV Wa w.heap.size (.slice (some ⟨ga, 0, none⟩) (o.length + 1) ca) (6 :: o)) := p2
        obtain ⟨a1, cc1, ev1, -, -, -⟩ := HO.out.shape
        subst ev1
        have HL : Hid ((6 :: o).length ≤ k + 1) := by show _ ≤ _; simp; exact hlen
        obtain ⟨lo, hlo⟩ : ∃ lo, o.length = lo := ⟨_, rfl⟩
        rw [hlo] at hrun HS3 ⊢
        have hd3 : (lo : Int) ≤ 5864062014805 := by omega
        have e3 : ((lo : Int) + 1 == 0) = false := by simp; omega
        have e4 : ¬ ((lo : Int) + 1 = 0) := by omega
        clear HR HX HPA HLN hst hlen FT p2 p3 p4 p5 HO hlo
        go_wp2_with (first | (at_builtin; refine wpList_append_run rfl _ _ 26 rfl rfl rfl hrun ?_; clear hrun))
        go_roundw
        case rel => exact ⟨k + 1, 6 :: o, by omega, by omega, by go_num, HL.out, HS3, hB3, HR2⟩
        case measure => simp [intOf]; omega
      by_cases k4 : x.k = 4
      · rw [k4] at e0
        cases o with
        | nil =>
          have hst : rstp [] x.k = none := by unfold rstp; rw [if_neg (by omega), if_neg (by omega), if_pos (by omega)]
          have hVj : V = j := by rw [← HV.out]; exact HR.out.off HX.out hst
          subst hVj
          obtain ⟨a1, cc1, ev1, -, -, -⟩ := HO.out.shape
          rw [List.length_nil] at ev1
          subst ev1
          clear HR HX HPA HLN hst hlen FT HO HV
          go_wp2
          go_quiet (fail)
          go_wp2
          go_ret
          exact ⟨rfl, below_drewN hB hB.size _⟩
        | cons c0 r0 =>
          obtain ⟨g1, cp1, ev1, -, -, hcp1, hcm1⟩ := HO.out.form
          obtain ⟨d, hd⟩ : ∃ d, r0.length = d := ⟨_, rfl⟩
          have t1 := (by have h := HO.out; rw [ev1] at h; exact h.top : wr.cell? ⟨g1, r0.length, none⟩ = some (oV c0))
          have HO2 : Hid (Stk 3 oV wr w.heap.size (.slice (some ⟨g1, 0, none⟩) d cp1) r0) := by have h := HO.out; rw [ev1] at h; rw [← hd]; exact h.pop
          rw [hd] at t1 ev1 hcp1
          subst ev1
          have hd3 : (d : Int) ≤ 5864062014805 := by simp at hlen; omega
          have e3 : ((d : Int) + 1 == 0) = false := by simp; omega
          have e4 : ¬ ((d : Int) + 1 = 0) := by omega
          have C1 := cut37 (some ⟨g1, 0, none⟩) (d + 1) cp1 d (by omega)
          have hlen2 : r0.length ≤ k + 1 := by simp at hlen; omega
          by_cases hck : c0 = 4
          · have hst : rstp (c0 :: r0) x.k = some r0 := by unfold rstp; rw [if_neg (by omega), if_neg (by omega), if_pos (by omega)]; dsimp only; rw [if_pos (by omega)]
            cases r0 with
            | nil =>
              have hd0 : d = 0 := by rw [← hd]; rfl
              subst hd0
              have z0 : ((0 : Nat) : Int) = 0 := rfl
              rw [hck] at t1
              obtain ⟨bb, hbb, hVb⟩ := HR.out.at hjk HX.out hst
              rw [HLN.out] at hbb
              rw [HV.out] at hVb
              have PA := HPA.out bb hbb
              cases bb with
              | true =>
                have hVv : V = k + 1 := hVb
                subst hVv
                clear hVb hbb HPA HR HX HLN HO HO2 hst
                go_wp2
                go_quiet (fail)
                go_wp2_with (first | (go_at_call 43; refine (PA _ (below_drewN hB hB.size _) _ rfl).mono ?_; rintro e W2 ⟨rfl, hB2⟩))
                go_ret
                exact ⟨ret_int (by omega), (below_drewN hB hB.size _).trans (hB2.mono hB.size)⟩
              | false =>
                have hVv : V = j := hVb
                subst hVv
                clear hVb hbb HPA HR HX HLN HO HO2 hst
                go_wp2
                go_quiet (fail)
                go_wp2_with (first | (go_at_call 43; refine (PA _ (below_drewN hB hB.size _) _ rfl).mono ?_; rintro e W2 ⟨rfl, hB2⟩))
                go_ret
                exact ⟨rfl, (below_drewN hB hB.size _).trans (hB2.mono hB.size)⟩
            | cons c2 r2 =>
              have HR2 : Hid (Rw L j (k + 1) (c2 :: r2)) := HR.out.go hjk HX.out hst (by simp)
              obtain ⟨d2, hd2⟩ : ∃ d2, d = d2 + 1 := ⟨r2.length, by rw [← hd]; simp⟩
              have HD2 : Hid (d = d2 + 1) := hd2
              have e5 : ((d : Int) == 0) = false := by simp; omega
              have e6 : ¬ ((d : Int) = 0) := by omega
              rw [hck] at t1
              have HL : Hid ((c2 :: r2).length ≤ k + 1) := hlen2
              clear HR HX HPA HLN hst hlen FT HO hcp1 hcm1 hck hd2 hd
              go_wp2
              go_quiet (fail)
              go_wp2
              go_roundw
              case rel => exact ⟨k + 1, c2 :: r2, by omega, by omega, by go_num, HL.out, HO2.out.drewN _, below_drewN hB hB.size _, HR2⟩
              case measure => simp [intOf]; omega
          · have hst : rstp (c0 :: r0) x.k = none := by unfold rstp; rw [if_neg (by omega), if_neg (by omega), if_pos (by omega)]; dsimp only; rw [if_neg (by omega)]
            have hVj : V = j := by rw [← HV.out]; exact HR.out.off HX.out hst
            subst hVj
            have e7 : (c0 == 4) = false := by simp [hck]
            have e8 : (c0 != 4) = true := by simp [hck]
            clear HR HX HPA HLN hst hlen FT HO HO2 HV hcp1 hcm1 hd
            go_wp2
            go_quiet (fail)
            go_wp2
            go_ret
            exact ⟨rfl, below_drewN hB hB.size _⟩
      by_cases k6 : x.k = 6
      · rw [k6] at e0
        cases o with
        | nil =>
          have hst : rstp [] x.k = none := by unfold rstp; rw [if_neg (by omega), if_neg (by omega), if_pos (by omega)]
          have hVj : V = j := by rw [← HV.out]; exact HR.out.off HX.out hst
          subst hVj
          obtain ⟨a1, cc1, ev1, -, -, -⟩ := HO.out.shape
          rw [List.length_nil] at ev1
          subst ev1
          clear HR HX HPA HLN hst hlen FT HO HV
          go_wp2
          go_quiet (fail)
          go_wp2
          go_ret
          exact ⟨rfl, below_drewN hB hB.size _⟩
        | cons c0 r0 =>
          obtain ⟨g1, cp1, ev1, -, -, hcp1, hcm1⟩ := HO.out.form
          obtain ⟨d, hd⟩ : ∃ d, r0.length = d := ⟨_, rfl⟩
          have t1 := (by have h := HO.out; rw [ev1] at h; exact h.top : wr.cell? ⟨g1, r0.length, none⟩ = some (oV c0))
          have HO2 : Hid (Stk 3 oV wr w.heap.size (.slice (some ⟨g1, 0, none⟩) d cp1) r0) := by have h := HO.out; rw [ev1] at h; rw [← hd]; exact h.pop
          rw [hd] at t1 ev1 hcp1
          subst ev1
          have hd3 : (d : Int) ≤ 5864062014805 := by simp at hlen; omega
          have e3 : ((d : Int) + 1 == 0) = false := by simp; omega
          have e4 : ¬ ((d : Int) + 1 = 0) := by omega
          have C1 := cut37 (some ⟨g1, 0, none⟩) (d + 1) cp1 d (by omega)
          have hlen2 : r0.length ≤ k + 1 := by simp at hlen; omega
          by_cases hck : c0 = 6
          · have hst : rstp (c0 :: r0) x.k = some r0 := by unfold rstp; rw [if_neg (by omega), if_neg (by omega), if_pos (by omega)]; dsimp only; rw [if_pos (by omega)]
            cases r0 with
            | nil =>
              have hd0 : d = 0 := by rw [← hd]; rfl
              subst hd0
              have z0 : ((0 : Nat) : Int) = 0 := rfl
              rw [hck] at t1
              obtain ⟨bb, hbb, hVb⟩ := HR.out.at hjk HX.out hst
              rw [HLN.out] at hbb
              rw [HV.out] at hVb
              have PA := HPA.out bb hbb
              cases bb with
              | true =>
                have hVv : V = k + 1 := hVb
                subst hVv
                clear hVb hbb HPA HR HX HLN HO HO2 hst
                go_wp2
                go_quiet (fail)
                go_wp2_with (first | (go_at_call 43; refine (PA _ (below_drewN hB hB.size _) _ rfl).mono ?_; rintro e W2 ⟨rfl, hB2⟩))
                go_ret
                exact ⟨ret_int (by omega), (below_drewN hB hB.size _).trans (hB2.mono hB.size)⟩
              | false =>
                have hVv : V = j := hVb
                subst hVv
                clear hVb hbb HPA HR HX HLN HO HO2 hst
                go_wp2
                go_quiet (fail)
                go_wp2_with (first | (go_at_call 43; refine (PA _ (below_drewN hB hB.size _) _ rfl).mono ?_; rintro e W2 ⟨rfl, hB2⟩))
                go_ret
                exact ⟨rfl, (below_drewN hB hB.size _).trans (hB2.mono hB.size)⟩
            | cons c2 r2 =>
              have HR2 : Hid (Rw L j (k + 1) (c2 :: r2)) := HR.out.go hjk HX.out hst (by simp)
              obtain ⟨d2, hd2⟩ : ∃ d2, d = d2 + 1 := ⟨r2.length, by rw [← hd]; simp⟩
              have HD2 : Hid (d = d2 + 1) := hd2
              have e5 : ((d : Int) == 0) = false := by simp; omega
              have e6 : ¬ ((d : Int) = 0) := by omega
              rw [hck] at t1
              have HL : Hid ((c2 :: r2).length ≤ k + 1) := hlen2
              clear HR HX HPA HLN hst hlen FT HO hcp1 hcm1 hck hd2 hd
              go_wp2
              go_quiet (fail)
              go_wp2
              go_roundw
              case rel => exact ⟨k + 1, c2 :: r2, by omega, by omega, by go_num, HL.out, HO2.out.drewN _, below_drewN hB hB.size _, HR2⟩
              case measure => simp [intOf]; omega
          · have hst : rstp (c0 :: r0) x.k = none := by unfold rstp; rw [if_neg (by omega), if_neg (by omega), if_pos (by omega)]; dsimp only; rw [if_neg (by omega)]
            have hVj : V = j := by rw [← HV.out]; exact HR.out.off HX.out hst
            subst hVj
            have e7 : (c0 == 6) = false := by simp [hck]
            have e8 : (c0 != 6) = true := by simp [hck]
            clear HR HX HPA HLN hst hlen FT HO HO2 HV hcp1 hcm1 hd
            go_wp2
            go_quiet (fail)
            go_wp2
            go_ret
            exact ⟨rfl, below_drewN hB hB.size _⟩
      have hst : rstp o x.k = none := by unfold rstp; rw [if_neg (by omega), if_neg (by omega), if_neg (by omega)]
      have hVj : V = j := by rw [← HV.out]; exact HR.out.off HX.out hst
      subst hVj
      obtain ⟨a1, cc1, ev1, -, -, -⟩ := HO.out.shape
      subst ev1
      generalize x.k = xk at *
      have n7 : (xk == 7) = false := by simp [k7]
      have n8 : (xk == 8) = false := by simp [k8]
      have n3 : (xk == 3) = false := by simp [k3]
      have n5 : (xk == 5) = false := by simp [k5]
      have n4 : (xk == 4) = false := by simp [k4]
      have n6 : (xk == 6) = false := by simp [k6]
      clear HR HX HPA HLN hst hlen FT HO HV
      go_wp2
      go_ret
      exact ⟨rfl, hB⟩
    · have hge : ¬ (k : Int) < L.length := by omega
      obtain rfl : k = L.length := by omega
      have hVj : V = j := by rw [← HV.out]; exact HR.out.done
      subst hVj
      clear HR HO HV
      go_wp2
      go_ret
      exact ⟨rfl, hB⟩
end Go.Proofs.YteeanpfhngoobaaGreat
